/- What the model draws for chapter 8: DrawTableOf, DrawTableValid, DrawFileSize, DrawFileHoles, DrawCutFile.
   Plain facts that the laws of chapter 8 ask: what a cut leaves, where the size lies, which places are holes; hasInt. -/
import Derived.Test.YteniikfgellhfaaDrawTabs2
import Derived.Test.YteniikfgellhfaaDrawDev4
import Derived.Test.YteniikfgellhfaaFiles5
import Derived.Test.YteniikfgellhfaaSameTabs
namespace Go.Proofs.Yteniikfgellhfaa
open Go.ChangeShapes Go.WideShapes Go.ChangeAt Go.RowKit
set_option linter.unusedVariables false
set_option linter.unusedSimpArgs false

/-- A table is drawn. -/
def TabOnly (w : World) (e : Ending) (w' : World) : Prop :=
  ∃ (A : Option Addr) (n c : Nat) (ls : List Li), e = .returned (.agg #[.slice A n c]) ∧ ls.length = n ∧ n ≤ 8 ∧ (∀ l, l ∈ ls → l.xs.length ≤ 6) ∧ LT w A ls w'
/-- A table and a file are drawn. -/
def FileDrawn (w : World) (e : Ending) (w' : World) : Prop :=
  ∃ (A : Option Addr) (n c : Nat) (ls : List Li) (f : Int), e = .returned (.tuple #[.agg #[.slice A n c], .int .i64 f]) ∧ ls.length = n ∧ n ≤ 8 ∧ (∀ l, l ∈ ls → l.xs.length ≤ 6) ∧ TFar w.heap.size A ls ∧ LT w A ls w'
end Go.Proofs.Yteniikfgellhfaa
namespace Go.Proofs.Yteniikfgellhfaa
open Go.ChangeShapes Go.WideShapes Go.ChangeAt Go.RowKit
set_option linter.unusedVariables false

theorem cutL_get {xs : List Int} {p k : Nat} (h : xs.length = 6) (hp : p ≤ 6) (hk : k < 6) : (cutL xs p)[k]? = if p ≤ k then some (-1) else xs[k]? := by
  unfold cutL
  split
  · rename_i h1
    rw [List.getElem?_append_right (by simp; omega), List.getElem?_replicate, if_pos (by simp; omega)]
  · rename_i h1
    rw [List.getElem?_append_left (by simp; omega), List.getElem?_take, if_pos (by omega)]
theorem cutL_six {xs : List Int} {p : Nat} (h : xs.length = 6) (hp : p ≤ 6) : (cutL xs p).length = 6 := by simp [cutL, h]; omega
theorem cut_cell {xss : List (List Int)} (h : TV xss) {f p : Nat} {xs : List Int} (hx : xss[f]? = some xs) (hp : p ≤ 6) (f' k' : Nat) (hk : k' < 6) : cellO (xss.set f (cutL xs p)) f' k' = if f' = f ∧ p ≤ k' then some (-1) else cellO xss f' k' := by
  have h6 := h.six xs (List.mem_of_getElem? hx)
  have hf := (List.getElem?_eq_some_iff.1 hx).1
  by_cases e : f' = f
  · subst e
    simp only [cellO, List.getElem?_set_self hf, Option.bind_some, cutL_get h6 hp hk, hx, true_and]
  · simp only [cellO, e, false_and, if_false]
    rw [List.getElem?_set_ne (fun e' => e e'.symm)]
theorem cut_valid {xss : List (List Int)} (h : TV xss) {f p : Nat} {xs : List Int} (hx : xss[f]? = some xs) (hp : p ≤ 6) : TV (xss.set f (cutL xs p)) := by
  have h6 := h.six xs (List.mem_of_getElem? hx)
  have hs : ∀ ys, ys ∈ xss.set f (cutL xs p) → ys.length = 6 := fun ys hm => by
    rcases List.mem_or_eq_of_mem_set hm with hm | rfl
    · exact h.six ys hm
    · exact cutL_six h6 hp
  have hc : ∀ (f' k' : Nat) (x : Int), cellO (xss.set f (cutL xs p)) f' k' = some x → x = -1 ∨ cellO xss f' k' = some x := fun f' k' x hx' => by
    rw [cut_cell h hx hp f' k' (six_lt hs hx').1] at hx'
    split at hx'
    · injection hx' with e; exact .inl e.symm
    · exact .inr hx'
  refine ⟨by rw [List.length_set]; exact h.len, hs, fun f' k' x hx' => ?_, fun f1 k1 f2 k2 x h1 h2 h0 => ?_⟩
  · rcases hc f' k' x hx' with rfl | h1
    · omega
    · exact h.inb f' k' x h1
  · rcases hc f1 k1 x h1 with rfl | h1
    · omega
    rcases hc f2 k2 x h2 with rfl | h2
    · omega
    exact h.one f1 k1 f2 k2 x h1 h2 h0
/-- The size of a file cut short. -/
theorem szAt_cut {xs : List Int} {p : Nat} (h : xs.length = 6) (hp : p ≤ 6) : szAt (cutL xs p) 6 ≤ p := by
  rcases Nat.lt_or_ge p (szAt (cutL xs p) 6) with h1 | h1
  · have h2 := szAt_last (xs := cutL xs p) (k := 6) (by omega)
    have h3 := szAt_le (cutL xs p) 6
    rw [List.getD_eq_getElem?_getD, cutL_get h hp (by omega), if_pos (by omega)] at h2
    simp at h2
  · exact h1
/-- What CutFile answers, told by cases. -/
theorem cut_cases {xss X : List (List Int)} {f p : Int} (h : cutV xss f p = X) : X = [] ∨ ∃ (fn pn : Nat) (xs : List Int), f = fn ∧ p = pn ∧ fn < 8 ∧ pn ≤ 6 ∧ tabB xss = true ∧ tabB X = true ∧ fsizeV X f ≤ p ∧
    ∀ f' k' : Nat, f' < 8 → k' < 6 → tgetV X f' k' = if f' = fn ∧ pn ≤ k' then -1 else tgetV xss f' k' := by
  subst h
  cases hB : cutB xss f p
  · exact .inl (cut_no hB)
  simp only [cutB, Bool.and_eq_true] at hB
  obtain ⟨⟨hv, hf⟩, hp⟩ := hB
  obtain ⟨fn, rfl, hfn⟩ := inB_nat (m := 7) hf
  obtain ⟨pn, rfl, hpn⟩ := inB_nat (m := 6) hp
  have hT := (tabB_iff _).1 hv
  have h8 := hT.len
  have hx := List.getElem?_eq_getElem (l := xss) (i := fn) (by omega)
  have hV := (tabB_iff _).2 (cut_valid hT hx hpn)
  have hfl : fn < xss.length := by omega
  refine .inr ⟨fn, pn, xss[fn], rfl, rfl, by omega, hpn, hv, ?_, ?_, ?_⟩ <;> rw [cut_at (cut_yes hv hf hp) hx]
  · exact hV
  · rw [fsize_at (file_yes hV hf) (List.getElem?_set_self hfl)]
    have := szAt_cut (hT.six _ (List.mem_of_getElem? hx)) hpn
    omega
  · intro f' k' hf' hk'
    have a1 : inB (f' : Int) 0 7 = true := inB_iff.2 ⟨by omega, by omega⟩
    have a2 : inB (k' : Int) 0 5 = true := inB_iff.2 ⟨by omega, by omega⟩
    obtain ⟨ys, y, hy1, hy6, hy2, hc⟩ := hT.cell hf' hk'
    rw [tget_at (arg_yes hv a1 a2) hc]
    have hc2 := cut_cell hT hx hpn f' k' hk'
    split
    · rename_i e
      rw [if_pos e] at hc2
      exact tget_at (arg_yes hV a1 a2) hc2
    · rename_i e
      rw [if_neg e, hc] at hc2
      exact tget_at (arg_yes hV a1 a2) hc2
theorem cut_small {xss X : List (List Int)} {f p : Int} (h : cutV xss f p = X) : X.length ≤ 8 ∧ ∀ xs, xs ∈ X → xs.length ≤ 6 := by
  rcases cut_cases h with rfl | ⟨_, _, _, _, _, _, _, _, hv, _⟩
  · simp
  · have hT := (tabB_iff _).1 hv
    exact ⟨by have := hT.len; omega, fun xs hm => by have := hT.six xs hm; omega⟩
/-- What FileSize answers, told by cases. -/
theorem fsize_cases {xss : List (List Int)} {f V : Int} (h : fsizeV xss f = V) : V = -1 ∨ ∃ (fn z : Nat) (xs : List Int), f = fn ∧ V = z ∧ fn < 8 ∧ z ≤ 6 ∧ tabB xss = true ∧ xss[fn]? = some xs ∧ z = szAt xs 6 ∧
    (∀ k : Nat, z ≤ k → k < 6 → tgetV xss f k = -1) ∧ (0 < z → 0 ≤ tgetV xss f ((z : Int) - 1)) := by
  subst h
  cases hB : fileB xss f
  · exact .inl (fsize_no hB)
  obtain ⟨hv, hf⟩ := file_is hB
  obtain ⟨fn, rfl, hfn⟩ := inB_nat (m := 7) hf
  have hT := (tabB_iff _).1 hv
  have h8 := hT.len
  have hx := List.getElem?_eq_getElem (l := xss) (i := fn) (by omega)
  have h6 := hT.six _ (List.mem_of_getElem? hx)
  have hz := szAt_le xss[fn] 6
  refine .inr ⟨fn, szAt xss[fn] 6, xss[fn], rfl, fsize_at hB hx, by omega, hz, hv, hx, rfl, fun k hk hk6 => ?_, fun h0 => ?_⟩
  · have hc := List.getElem?_eq_getElem (l := xss[fn]) (i := k) (by omega)
    rw [tget_at (arg_yes hv hf (inB_iff.2 ⟨by omega, by omega⟩)) (cellO_of hx hc)]
    exact tab_hole hv hx hc (szAt_from hk hk6 hc)
  · have h1 := szAt_last h0
    have hc := List.getElem?_eq_getElem (l := xss[fn]) (i := szAt xss[fn] 6 - 1) (by omega)
    rw [List.getD_eq_getElem?_getD, hc, Option.getD_some] at h1
    rw [show ((szAt xss[fn] 6 : Nat) : Int) - 1 = ((szAt xss[fn] 6 - 1 : Nat) : Int) by omega]
    rw [tget_at (arg_yes hv hf (inB_iff.2 ⟨by omega, by omega⟩)) (cellO_of hx hc)]
    exact h1
theorem holesTo_mem (xs : List Int) (z k : Nat) : (k : Int) ∈ holesTo xs z ↔ k < z ∧ ¬ 0 ≤ xs.getD k (-1) := by
  induction z with
  | zero => simp [holesTo]
  | succ z ih =>
    simp only [holesTo]
    split
    · rename_i h
      rw [ih]
      constructor
      · rintro ⟨h1, h2⟩; exact ⟨by omega, h2⟩
      · rintro ⟨h1, h2⟩
        refine ⟨?_, h2⟩
        rcases Nat.lt_or_ge k z with h3 | h3
        · exact h3
        · obtain rfl : k = z := by omega
          exact absurd h h2
    · rename_i h
      simp only [List.mem_append, List.mem_singleton, ih]
      constructor
      · rintro (⟨h1, h2⟩ | h1)
        · exact ⟨by omega, h2⟩
        · obtain rfl : k = z := by omega
          exact ⟨by omega, h⟩
      · rintro ⟨h1, h2⟩
        rcases Nat.lt_or_ge k z with h3 | h3
        · exact .inl ⟨h3, h2⟩
        · exact .inr (by omega)
theorem holes_short {xs : List Int} (h : 0 < szAt xs 6) : (holesTo xs (szAt xs 6)).length ≤ szAt xs 6 - 1 := by
  obtain ⟨m, hm⟩ : ∃ m, szAt xs 6 = m + 1 := ⟨szAt xs 6 - 1, by omega⟩
  have h1 := szAt_last h
  rw [hm, Nat.add_sub_cancel] at h1
  rw [hm, Nat.add_sub_cancel, holesTo, if_pos h1]
  exact holesTo_le xs m
/-- What FileHoles answers, told by cases. -/
theorem holes_cases {xss : List (List Int)} {f V : Int} {X : List Int} (h : fsizeV xss f = V) (hX : holesV xss f = X) : (V = -1 ∧ X = []) ∨ ∃ (z : Nat), V = z ∧ z ≤ 6 ∧ X.length ≤ z - 1 ∧ ∀ k : Nat, k < z → decide (tgetV xss f k < 0) = X.contains (k : Int) := by
  rcases fsize_cases h with rfl | ⟨fn, z, xs, rfl, rfl, hf8, hz6, hv, hx, rfl, hh, hl⟩
  · refine .inl ⟨rfl, ?_⟩
    cases hB : fileB xss f
    · rw [← hX, holesV_no hB]
    · obtain ⟨hv, hf⟩ := file_is hB
      obtain ⟨fn, rfl, hfn⟩ := inB_nat (m := 7) hf
      have h8 := ((tabB_iff _).1 hv).len
      rw [fsize_at hB (List.getElem?_eq_getElem (l := xss) (i := fn) (by omega))] at h
      omega
  · have hf : inB (fn : Int) 0 7 = true := inB_iff.2 ⟨by omega, by omega⟩
    have h6 := ((tabB_iff _).1 hv).six _ (List.mem_of_getElem? hx)
    rw [holesV_at (file_yes hv hf) hx] at hX
    subst hX
    refine .inr ⟨_, rfl, hz6, ?_, fun k hk => ?_⟩
    · rcases Nat.eq_zero_or_pos (szAt xs 6) with h0 | h0
      · rw [h0]; simp [holesTo]
      · exact holes_short h0
    · have hc := List.getElem?_eq_getElem (l := xs) (i := k) (by omega)
      rw [tget_at (arg_yes hv hf (inB_iff.2 ⟨by omega, by omega⟩)) (cellO_of hx hc), Bool.eq_iff_iff, decide_eq_true_iff, List.contains_iff_mem, holesTo_mem, List.getD_eq_getElem?_getD, hc, Option.getD_some]
      omega
theorem hasInt_any (A : Option Addr) (n c : Nat) (xs : List Int) (x : Int) (w : World) (hl : xs.length = n) (hr : IRow w w.heap.size A xs) (hn : n ≤ 1048576) :
    Calls Try.prog 16 #[.slice A n c, .int .i64 x] w (KeptV (.bool (xs.contains x)) w) := by
  have HR := Lib.hid (And.intro hl hr)
  clear hr
  go_enter Try.func16, Try.ntmps16
  go_wp2
  go_loopw [5] (fun i wr => ∃ k : Nat, i = .int .i64 k ∧ k ≤ n ∧ xs.contains x = (xs.drop k).contains x ∧ wr = w) (fun i _ => n - (intOf i).toNat)
  case atStart => exact ⟨0, rfl, Nat.zero_le _, rfl, rfl⟩
  case round =>
    rename World => wq
    obtain ⟨k, rfl, hk, hc, rfl⟩ := hrel
    by_cases hkn : k < n
    · have k1 : (k : Int) < n := by omega
      have k0 : decide ((0 : Int) ≤ k) = true := decide_eq_true (by omega)
      obtain ⟨y, hy⟩ : ∃ y, xs[k]? = some y := ⟨_, List.getElem?_eq_getElem (by omega)⟩
      obtain ⟨g, off, rfl⟩ := HR.out.2.pos (by omega)
      have c0 := HR.out.2.cellf hy
      have hd : xs.drop k = y :: xs.drop (k + 1) := by
        obtain ⟨h1, h2⟩ := List.getElem?_eq_some_iff.1 hy
        rw [← h2]
        exact List.drop_eq_getElem_cons h1
      rw [hd] at hc
      by_cases e : y = x
      · subst e
        have HC := Lib.hid (show xs.contains y = true by rw [hc]; simp)
        have e1 : (y == y) = true := by simp
        clear hc hd hy hl
        go_wp2
        go_ret
        exact ⟨retB HC.out.symm, grown_refl _ _⟩
      · have e1 : (y == x) = false := by rw [beq_eq_false_iff_ne]; exact e
        have HC := Lib.hid (show xs.contains x = (xs.drop (k + 1)).contains x by rw [hc]; simp [Ne.symm e])
        clear hc hd hy hl
        go_wp2
        go_roundw
        case rel => exact ⟨k + 1, by go_num, by omega, HC.out, by trivial⟩
        case measure => simp [intOf]; omega
    · obtain rfl : k = n := by omega
      have HC := Lib.hid (show xs.contains x = false by rw [hc, ← hl, List.drop_length]; rfl)
      clear hc hl
      go_wp2
      go_ret
      exact ⟨retB HC.out.symm, grown_refl _ _⟩
theorem hasInt_val {A : Option Addr} {n c : Nat} {xs : List Int} {x : Int} {V : Bool} {w : World} (h : xs.contains x = V) (hl : xs.length = n) (hr : IRow w w.heap.size A xs) (hn : n ≤ 1048576) :
    Calls Try.prog 16 #[.slice A n c, .int .i64 x] w (KeptV (.bool V) w) := h ▸ hasInt_any A n c xs x w hl hr hn
section
variable {A : Option Addr} {n c : Nat} {ls : List Li} {f p : Int} {X : List (List Int)} {Y : List Int} {w : World}
theorem specCut_v (h : cutV (ll ls) f p = X) (hl : ls.length = n) (hr : TRow w w.heap.size A ls) (hn : n ≤ 1048576) (hp : ∀ l, l ∈ ls → l.xs.length ≤ 1048576) :
    Calls Try.prog 100 #[.agg #[.slice A n c], .int .i64 f, .int .i64 p] w (TabMade3 X w) := h ▸ specCutFile_any A n c ls f p w hl hr hn hp
end
end Go.Proofs.Yteniikfgellhfaa
