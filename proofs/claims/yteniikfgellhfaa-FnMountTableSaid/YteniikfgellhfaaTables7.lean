/- Rows of numbers and tables that are made: make, copy, a list put at its place.
   What the program's TableValid answers.
   What the program's emptyTable, copyTable, isNamedElsewhere, TableGet and TableChanges answer.
   What the program's TablePut answers.
   Plain facts on the table of a device.
   What the program's TableOf answers.
   What the model's TableOf answers. -/
import Derived.Test.YteniikfgellhfaaTables2
import Derived.Test.YteniikfgellhfaaExactDev3
import Derived.Test.YteniikfgellhfaaHand
import Derived.Laws.OwnMore
namespace Go.Proofs.Yteniikfgellhfaa
open Go.ChangeShapes Go.WideShapes Go.ChangeAt Go.RowKit

theorem make_ints (w : World) (n : Nat) (hn : n ≤ 1048576) :
    (Instr.makeSlice 26 (.int .i64 (n : Int)) (.int .i64 (n : Int))).run Try.prog w = .ok (.slice (some ⟨w.heap.size, 0, none⟩) n n) (w.alloc (.cells (madeCells #[.int .i64 0] n) 3)) := by
  obtain ⟨i, hi, hz, hs, hb⟩ := info_parts int_info
  have hr := run_make (P := Try.prog) w 26 3 i _ Try.underlying26 hi hz .i64 .i64 n n (by omega) (by omega) (by rw [hb]; omega) (by omega)
  simp only [Int.toNat_natCast, hs, Nat.mul_one] at hr
  exact hr
theorem make_lists (w : World) (n : Nat) (hn : n ≤ 1048576) :
    (Instr.makeSlice 38 (.int .i64 (n : Int)) (.int .i64 (n : Int))).run Try.prog w = .ok (.slice (some ⟨w.heap.size, 0, none⟩) n n) (w.alloc (.cells (madeCells #[.slice none 0 0] n) 26)) := by
  obtain ⟨i, hi, hz, hs, hb⟩ := info_parts list_info
  have hr := run_make (P := Try.prog) w 38 26 i _ Try.underlying38 hi hz .i64 .i64 n n (by omega) (by omega) (by rw [hb]; omega) (by omega)
  simp only [Int.toNat_natCast, hs, Nat.mul_one] at hr
  exact hr
theorem iown_made (w : World) (base n : Nat) (hb : base ≤ w.heap.size) (hn : n ≤ maxLen) :
    IOwn (w.alloc (.cells (madeCells #[.int .i64 0] n) 3)) base (.slice (some ⟨w.heap.size, 0, none⟩) n n) (List.replicate n 0) := by
  have h := World.ownsRow_lit (e := 3) (size := 1) w (madeCells #[.int .i64 0] n) n hb hn (by simp [madeCells])
  rw [toList_madeCells_one] at h
  unfold IOwn VOwn
  simpa [iv] using h
/-- A list that was not put yet. -/
def lz : Li := ⟨none, 0, []⟩
theorem town_made (w : World) (base n : Nat) (hb : base ≤ w.heap.size) (hn : n ≤ maxLen) :
    TOwn (w.alloc (.cells (madeCells #[.slice none 0 0] n) 26)) base (.slice (some ⟨w.heap.size, 0, none⟩) n n) (List.replicate n lz) := by
  refine ⟨?_, fun l hm => ?_, fun i j l l' a a' _ hi _ ha _ => ?_⟩
  · have h := World.ownsRow_lit (e := 26) (size := 1) w (madeCells #[.slice none 0 0] n) n hb hn (by simp [madeCells])
    rw [toList_madeCells_one] at h
    unfold VOwn
    simpa [lv, lz, Li.row] using h
  · rw [List.eq_of_mem_replicate hm]
    exact World.ownsRow_nil _ _ _ _
  · rw [List.eq_of_mem_replicate (List.mem_of_getElem? hi)] at ha
    cases ha
/-- copy(d, s) where both have as many numbers. -/
theorem copy_ints (w : World) (base g dCap sCap : Nat) (A : Option Addr) (B n : Nat) (qs ps : List Int) (hp : ps.length = n) (hpos : 0 < n)
    (ho : IOwn w base (.slice (some ⟨g, 0, none⟩) n dCap) qs) (hq : qs.length = n) (hr : IRow w B A ps) :
    ∃ w', (∀ ty, (Builtin.copy_ #[26, 26] ty #[.slice (some ⟨g, 0, none⟩) n dCap, .slice A n sCap]).run Try.prog w = .ok (.int .i64 (n : Int)) w') ∧ IOwn w' base (.slice (some ⟨g, 0, none⟩) n dCap) ps ∧ w.grownBy w' (some g) := by
  obtain ⟨ga, off, rfl, _, hz, hc⟩ := hr (by rw [iv_length]; omega)
  have ho' : VOwn w base 3 (.slice (some ⟨g, 0, none⟩) n dCap) (iv qs) := ho
  rcases ho'.2 with ⟨e, hn0⟩ | ⟨g', cap, cur, e, hb, hg, hcap, hm, hsz, htk⟩
  · cases e
  · injection e with e1 e2 e3
    injection e1 with e1
    injection e1 with e1
    subst e1; subst e3
    obtain ⟨i, hi, hzz, hs, hby⟩ := info_parts int_info
    have hlen : (iv ps).length = n * 1 := by rw [iv_length, hp, Nat.mul_one]
    have hsrc : ∀ j v, (iv ps)[j]? = some v → w.cell? ((⟨ga, off, none⟩ : Addr).add j) = some v := by
      intro j v hv
      have hadd : (⟨ga, off, none⟩ : Addr).add j = ⟨ga, off + j, none⟩ := by unfold Addr.add; split <;> simp_all
      rw [hadd]
      exact hc _ _ hv
    have hrun := fun ty => run_copy_rowN (P := Try.prog) w 26 26 ty 3 1 g 0 n dCap ⟨ga, off, none⟩ sCap cur 3 (iv ps) Try.underlying26 (by rw [hi]; simp [hs]) hg hlen hsrc (by rw [hlen, hsz]; rw [iv_length] at *; omega) (iv_one ps)
    refine ⟨_, hrun, ⟨by omega, .inr ⟨g, dCap, _, by rw [iv_length, hp], hb, setRow_heap w g cur _ _ _ hg, by rw [iv_length] at *; omega, hm, ?_, ?_⟩⟩, ⟨rfl, rfl, rfl, by simp [World.setRow], fun k _ hk => setRow_other w g k _ (by intro e; exact hk (by rw [e]))⟩⟩
    · rw [iv_length] at *
      simp [iv_length, hp, hsz]; omega
    · simp [iv_length, hp]
/-- A list of its own, made since, is put at its place in a table of the call's own. -/
theorem TOwn.putl {wr w1 : World} {base g cap n : Nat} {cs : List Li} {A : Option Addr} {c m : Nat} {xs : List Int} (h : TOwn wr base (.slice (some ⟨g, 0, none⟩) n cap) cs) (hn : cs.length = n) (hk : wr.grownBy w1 none) (hp : IOwn w1 wr.heap.size (.slice A m c) xs) (hl : xs.length = m)
    (hb : base ≤ wr.heap.size) (k : Nat) : TOwn (w1.setCell ⟨g, k, none⟩ (.slice A m c)) base (.slice (some ⟨g, 0, none⟩) n cap) (cs.set k ⟨A, c, xs⟩) := by
  subst hl
  have h1 := h.keep hk
  have hgr : g < wr.heap.size ∧ base ≤ g := by
    have := VOwn.lt h.1 g (by simp [Value.ownBlock])
    omega
  refine ⟨?_, fun b hm => ?_, fun i j b b' a a' hij hi hj ha ha' => ?_⟩
  · rw [lv_set]
    exact VOwn.set h1.1 (by rw [lv_length]; exact hn) k _
  · rcases List.mem_or_eq_of_mem_set hm with hm | rfl
    · refine VOwn.to_put (h1.2.1 b hm) ?_ _
      rcases h1.inner_ne hm with e | e
      · simp [e]
      · exact fun e' => e (e'.trans (by simp [Value.ownBlock]))
    · refine VOwn.to_put (VOwn.base_le hp hb) ?_ _
      intro e
      have := (VOwn.lt hp g e).1
      omega
  · have lt : ∀ {b : Li} {a : Addr}, b ∈ cs → b.A = some a → a.block < wr.heap.size := fun {b a} hm e => (VOwn.lt (h.2.1 b hm) a.block (by simp [Li.row, e, Value.ownBlock])).2
    have ge : ∀ {a : Addr}, A = some a → wr.heap.size ≤ a.block := fun {a} e => (VOwn.lt hp a.block (by simp [e, Value.ownBlock])).1
    rw [List.getElem?_set] at hi hj
    by_cases hik : k = i
    · by_cases hjk : k = j
      · omega
      · rw [if_pos hik] at hi
        rw [if_neg hjk] at hj
        split at hi
        · injection hi with hi
          subst hi
          have := lt (List.mem_of_getElem? hj) ha'
          have := ge ha
          omega
        · cases hi
    · rw [if_neg hik] at hi
      by_cases hjk : k = j
      · rw [if_pos hjk] at hj
        split at hj
        · injection hj with hj
          subst hj
          have := lt (List.mem_of_getElem? hi) ha
          have := ge ha'
          omega
        · cases hj
      · rw [if_neg hjk] at hj
        exact h.2.2 i j b b' a a' hij hi hj ha ha'
/-- The lists that were put so far. -/
def Filled (xss : List (List Int)) (n k : Nat) (cs : List Li) : Prop := cs.length = n ∧ (ll cs).take k = xss.take k
theorem filled_step {xss : List (List Int)} {n k : Nat} {cs : List Li} {A : Option Addr} {c : Nat} {xs : List Int} (h : Filled xss n k cs) (hk : k < n) (hx : xss[k]? = some xs) : Filled xss n (k + 1) (cs.set k ⟨A, c, xs⟩) := by
  obtain ⟨h1, h2⟩ := h
  refine ⟨by simpa using h1, ?_⟩
  rw [ll_set, List.take_add_one, List.take_add_one, List.take_set_of_le (Nat.le_refl _), List.getElem?_set_self (by rw [ll_length]; omega), hx, h2]
theorem filled_all {xss : List (List Int)} {n : Nat} {cs : List Li} (h : Filled xss n n cs) (hl : xss.length = n) : ll cs = xss := by
  have := h.2
  rwa [List.take_of_length_le (by rw [ll_length, h.1]; exact Nat.le_refl _), List.take_of_length_le (by omega)] at this
end Go.Proofs.Yteniikfgellhfaa
namespace Go.Proofs.Yteniikfgellhfaa
open Go.ChangeShapes Go.WideShapes Go.ChangeAt Go.RowKit
set_option linter.unusedVariables false

theorem isPage_any (x : Int) (w : World) : Calls Try.prog 102 #[.int .i64 x] w fun e w' => e = .returned (.bool (inB x (-1) 47)) ∧ w = w' := by
  go_enter Try.func102, Try.ntmps102
  go_wp2
  all_goals (go_ret; refine ⟨retB ?_, rfl⟩; rw [Bool.eq_iff_iff]; simp [inB]; omega)
/-- Every file has a list with a number for every place. -/
def sixB (xss : List (List Int)) : Bool := decide (xss.length = 8) && xss.all (fun l => decide (l.length = 6))
theorem six_no {xss : List (List Int)} (h : xss.length ≠ 8) : sixB xss = false := by simp [sixB, h]
theorem six_len {xss : List (List Int)} {f : Nat} {xs : List Int} (h : xss[f]? = some xs) (h6 : xs.length ≠ 6) : sixB xss = false := by
  have : xss.all (fun l => decide (l.length = 6)) = false := by
    rw [List.all_eq_false]
    exact ⟨xs, List.mem_of_getElem? h, by simp [h6]⟩
  simp [sixB, this]
theorem six_yes {xss : List (List Int)} (h8 : xss.length = 8) (h : ∀ (j : Nat) (xs : List Int), xss[j]? = some xs → xs.length = 6) : sixB xss = true := by
  simp only [sixB, h8, decide_true, Bool.true_and, List.all_eq_true]
  intro xs hx
  obtain ⟨j, hj⟩ := List.getElem?_of_mem hx
  simp [h j xs hj]
theorem allPlaces_any (A : Option Addr) (n c : Nat) (ls : List Li) (w : World) (hl : ls.length = n) (hr : TRow w w.heap.size A ls) (hn : n ≤ 1048576) :
    Calls Try.prog 66 #[.agg #[.slice A n c]] w (KeptV (.bool (sixB (ll ls))) w) := by
  have HT := Lib.hid (And.intro (TIn.start hr n c) hl)
  clear hr hl
  go_enter Try.func66, Try.ntmps66
  by_cases h8 : n = 8
  · subst h8
    go_wp2
    go_loopw [12] (fun i wr => ∃ f : Nat, i = .int .i64 f ∧ f ≤ 8 ∧ (∀ (j : Nat) (l : Li), j < f → ls[j]? = some l → l.xs.length = 6) ∧ TIn w A 8 c ls wr) (fun i _ => 8 - (intOf i).toNat)
    case atStart => exact ⟨0, rfl, Nat.zero_le _, fun j _ hj => absurd hj (by omega), HT.out.1⟩
    case round =>
      obtain ⟨f, rfl, hf, hj, hT⟩ := hrel
      by_cases hlt : f < 8
      · have hf8 : (f : Int) < 8 := by omega
        have hf0 : decide ((0 : Int) ≤ f) = true := decide_eq_true (by omega)
        obtain ⟨g, off, rfl⟩ := hT.2.1.pos (by have := HT.out.2; omega)
        obtain ⟨⟨Al, cl, xs⟩, hll⟩ : ∃ l, ls[f]? = some l := ⟨_, List.getElem?_eq_getElem (by have := HT.out.2; omega)⟩
        have c0 := hT.2.1.cellf hll rfl
        have HX := Lib.hid (And.intro hj (And.intro hT hll))
        clear hj hT hll
        by_cases h6 : xs.length = 6
        · have t6 : ((xs.length : Int) != 6) = false := by simp; omega
          have H6 := Lib.hid h6
          clear h6
          go_wp2
          go_roundw
          case rel =>
            refine ⟨f + 1, by go_num, by omega, fun j l hj hl => ?_, HX.out.2.1⟩
            rcases Nat.lt_or_ge j f with h1 | h1
            · exact HX.out.1 j l h1 hl
            · obtain rfl : j = f := by omega
              rw [HX.out.2.2] at hl
              injection hl with hl
              subst hl
              exact H6.out
          case measure => simp [intOf]; omega
        · have t6 : ((xs.length : Int) != 6) = true := by simp; omega
          have HZ := Lib.hid (six_len (ll_at HX.out.2.2) h6)
          clear h6
          go_wp2
          go_ret
          exact ⟨retB HZ.out.symm, HX.out.2.1.2.2⟩
      · obtain rfl : f = 8 := by omega
        have HZ := Lib.hid (And.intro (six_yes (xss := ll ls) (by rw [ll_length]; exact HT.out.2) (fun j xs hx => by
          obtain ⟨Al, cl, hl⟩ := ll_get hx
          exact hj j _ (by have := (List.getElem?_eq_some_iff.1 hl).1; have := HT.out.2; omega) hl)) hT.2.2)
        clear hj hT
        go_wp2
        go_ret
        exact ⟨retB HZ.out.1.symm, HZ.out.2⟩
  · have t8 : ((n : Int) != 8) = true := by simp; omega
    have HZ := Lib.hid (And.intro (six_no (xss := ll ls) (by rw [ll_length, HT.out.2]; exact h8)) HT.out.1.2.2)
    clear h8
    go_wp2
    go_ret
    exact ⟨retB HZ.out.1.symm, HZ.out.2⟩
/-- The loop over the lists, at list f. -/
def OnceRel (w : World) (A : Option Addr) (c : Nat) (ls : List Li) (f : Nat) (wr : World) : Prop :=
  f ≤ ls.length ∧ (∃ P, flatB [] (ll ls).flatten = flatB P ((ll ls).drop f).flatten ∧ Seen wr (w.heap.size + 1) P) ∧ TRow wr w.heap.size A ls ∧ w.grownBy wr none
/-- The loop over the numbers of list f, at number k. -/
def OnceRel2 (w : World) (A : Option Addr) (c : Nat) (ls : List Li) (f : Nat) (xs : List Int) (k : Nat) (wr : World) : Prop :=
  k ≤ xs.length ∧ (∃ P, flatB [] (ll ls).flatten = flatB P (xs.drop k ++ ((ll ls).drop (f + 1)).flatten) ∧ Seen wr (w.heap.size + 1) P) ∧ TRow wr w.heap.size A ls ∧ w.grownBy wr none
theorem pagesOnce_any (A : Option Addr) (n c : Nat) (ls : List Li) (w : World) (hl : ls.length = n) (hr : TRow w w.heap.size A ls) (hn : n ≤ 1048576) (hp : ∀ l, l ∈ ls → l.xs.length ≤ 1048576) :
    Calls Try.prog 67 #[.agg #[.slice A n c]] w (KeptV (.bool (flatB [] (ll ls).flatten)) w) := by
  subst hl
  have hmk := make_seen (w.alloc (.cells #[.slice A ls.length c] 40))
  have hs0 := Seen.new (w.alloc (.cells #[.slice A ls.length c] 40))
  have hb0 := (Blk.new w 40 #[.slice A ls.length c]).alloc (.cells (madeCells #[.bool false] 48) 4)
  have b0 := hb0.cell 0
  simp only [size_alloc1] at hs0 hmk
  have HR := Lib.hid hp
  have HS := Lib.hid (And.intro hs0 (hr.alloc (.cells #[.slice A ls.length c] 40)).alloc)
  clear hr hp hs0 hb0
  go_enter Try.func67, Try.ntmps67
  go_wp2
  go_loopw [12] (fun i wr => ∃ f : Nat, i = .int .i64 f ∧ OnceRel w A c ls f wr) (fun i _ => ls.length - (intOf i).toNat)
  case atStart => exact ⟨0, rfl, Nat.zero_le _, ⟨[], rfl, HS.out.1⟩, HS.out.2 _, grown_alloc (grown_alloc (grown_refl _ _) _) _⟩
  case round =>
    clear HS hmk b0
    obtain ⟨f, rfl, hf, ⟨P, hP, hs⟩, hT, hg⟩ := hrel
    by_cases hlt : f < ls.length
    · have hf8 : (f : Int) < ls.length := by omega
      have hf0 : decide ((0 : Int) ≤ f) = true := decide_eq_true (by omega)
      obtain ⟨g, off, rfl⟩ := hT.pos (by omega)
      obtain ⟨⟨Al, cl, xs⟩, hll⟩ : ∃ l, ls[f]? = some l := ⟨_, List.getElem?_eq_getElem hlt⟩
      have c0 := hT.cellf hll rfl
      have hpl := HR.out _ (List.mem_of_getElem? hll)
      dsimp only at hpl
      rw [flatten_at (ll_at hll)] at hP
      have HX := Lib.hid hll
      have HS := Lib.hid (show OnceRel2 w (some ⟨g, off, none⟩) c ls f xs 0 wr from ⟨Nat.zero_le _, ⟨P, hP, hs⟩, hT, hg⟩)
      clear hll hP hs hT hg
      go_wp2
      go_loopw [18] (fun i wr => ∃ k : Nat, i = .int .i64 k ∧ OnceRel2 w (some ⟨g, off, none⟩) c ls f xs k wr) (fun i _ => xs.length - (intOf i).toNat)
      case atStart => exact ⟨0, rfl, HS.out⟩
      case round =>
        clear HS c0
        obtain ⟨k, rfl, hk, ⟨Q, hQ, hs⟩, hT, hg⟩ := hrel
        by_cases hkl : k < xs.length
        · have hk8 : (k : Int) < xs.length := by omega
          have hk0 : decide ((0 : Int) ≤ k) = true := decide_eq_true (by omega)
          obtain ⟨gx, ox, e⟩ := IRow.pos (hT.inner HX.out) (by show 0 < xs.length; omega)
          dsimp only at e
          subst e
          obtain ⟨x, hx⟩ : ∃ x, xs[k]? = some x := ⟨_, List.getElem?_eq_getElem hkl⟩
          have d0 := (hT.inner HX.out).cellf hx
          rw [drop_cons hx ((ll ls).drop (f + 1)).flatten] at hQ
          clear hx
          cases hin : inB x (-1) 47
          · have HZ := Lib.hid (And.intro (hQ.trans (flat_out hin)) (And.intro hg hin))
            clear hQ hg hs hT hin
            go_wp2_with (go_at_call 102; refine (isPage_any _ _).mono ?_; rintro e w' ⟨rfl, rfl⟩; rw [HZ.out.2.2])
            go_ret
            exact ⟨retB HZ.out.1.symm, HZ.out.2.1⟩
          · by_cases hx0 : 0 ≤ x
            · obtain ⟨v, rfl⟩ := Int.eq_ofNat_of_zero_le hx0
              have hv : v < 48 := by have := inB_iff.1 hin; omega
              have s0 : wr.cell? ⟨w.heap.size + 1, v, none⟩ = some (.bool (Q.contains (v : Int))) := World.rowIs.cell hs hv
              have v1 : ((v : Int) == -1) = false := by rw [beq_eq_false_iff_ne]; omega
              have v2 : decide ((0 : Int) ≤ v) = true := decide_eq_true (by omega)
              have v3 : (v : Int) < 48 := by omega
              cases hc : Q.contains (v : Int)
              · rw [hc] at s0
                have f0 : wr.frozen? ⟨w.heap.size + 1, v, none⟩ = false := World.rowIs.frozen hs v
                have HZ := Lib.hid (And.intro (hQ.trans (flat_new hin hc)) (And.intro (hs.put (v := v)) (And.intro (hT.put (p := ⟨w.heap.size + 1, v, none⟩) (by dsimp only; omega) (.bool true)) (And.intro (grown_put hg (p := ⟨w.heap.size + 1, v, none⟩) (by dsimp only; omega) (.bool true)) hin))))
                clear hQ hg hs hT hc hin
                go_wp2_with (go_at_call 102; refine (isPage_any _ _).mono ?_; rintro e w' ⟨rfl, rfl⟩; rw [HZ.out.2.2.2.2])
                go_roundw
                case rel => exact ⟨k + 1, by go_num, by omega, ⟨_, HZ.out.1, HZ.out.2.1⟩, HZ.out.2.2.1, HZ.out.2.2.2.1⟩
                case measure => simp [intOf]; omega
              · rw [hc] at s0
                have HZ := Lib.hid (And.intro (hQ.trans (flat_twice hc hx0)) (And.intro hg hin))
                clear hQ hg hs hT hc hin
                go_wp2_with (go_at_call 102; refine (isPage_any _ _).mono ?_; rintro e w' ⟨rfl, rfl⟩; rw [HZ.out.2.2])
                go_ret
                exact ⟨retB HZ.out.1.symm, HZ.out.2.1⟩
            · have ex : x = -1 := by have := inB_iff.1 hin; omega
              subst ex
              have HZ := Lib.hid (And.intro (hQ.trans (flat_neg hin hx0)) (And.intro (hs.neg hx0) (And.intro hT (And.intro hg hin))))
              clear hQ hg hs hT hin
              go_wp2_with (go_at_call 102; refine (isPage_any _ _).mono ?_; rintro e w' ⟨rfl, rfl⟩; rw [HZ.out.2.2.2.2])
              go_roundw
              case rel => exact ⟨k + 1, by go_num, by omega, ⟨_, HZ.out.1, HZ.out.2.1⟩, HZ.out.2.2.1, HZ.out.2.2.2.1⟩
              case measure => simp [intOf]; omega
        · obtain rfl : k = xs.length := by omega
          rw [List.drop_length, List.nil_append] at hQ
          have HZ := Lib.hid (And.intro hQ (And.intro hs (And.intro hT hg)))
          clear hQ hs hT hg
          go_wp2
          go_roundw
          case rel => exact ⟨f + 1, by go_num, by omega, ⟨_, HZ.out.1, HZ.out.2.1⟩, HZ.out.2.2.1, HZ.out.2.2.2⟩
          case measure => simp [intOf]; omega
    · obtain rfl : f = ls.length := by omega
      have e : (ll ls).drop ls.length = [] := by rw [← ll_length, List.drop_length]
      rw [e] at hP
      have HZ := Lib.hid (And.intro hP hg)
      clear hP hs hT hg e
      go_wp2
      go_ret
      exact ⟨retB (by rw [HZ.out.1]; rfl), HZ.out.2⟩
theorem tabB_parts (xss : List (List Int)) : tabB xss = (sixB xss && flatB [] xss.flatten) := by simp [tabB, sixB]
theorem tabValid_any (A : Option Addr) (n c : Nat) (ls : List Li) (w : World) (hl : ls.length = n) (hr : TRow w w.heap.size A ls) (hn : n ≤ 1048576) (hp : ∀ l, l ∈ ls → l.xs.length ≤ 1048576) :
    Calls Try.prog 24 #[.agg #[.slice A n c]] w (KeptV (.bool (tabB (ll ls))) w) := by
  have HT := Lib.hid (TIn.start hr n c)
  have HP := Lib.hid (And.intro hl hp)
  clear hr hl hp
  cases ha : sixB (ll ls)
  · have HV := Lib.hid (And.intro ha (show tabB (ll ls) = false by rw [tabB_parts, ha]; rfl))
    clear ha
    rw [HV.out.2]
    go_enter Try.func24, Try.ntmps24
    go_wp2_with fail
    refine (allPlaces_any _ _ _ ls _ HP.out.1 HT.out.2.1.here hn).mono ?_
    rw [HV.out.1]
    rintro e w1 ⟨rfl, hk⟩
    have HK := Lib.hid (HT.out.keep hk)
    clear hk
    go_wp2
    go_ret
    exact ⟨rfl, HK.out.2.2⟩
  · have HV := Lib.hid (And.intro ha (show tabB (ll ls) = flatB [] (ll ls).flatten by rw [tabB_parts, ha]; rfl))
    clear ha
    rw [HV.out.2]
    go_enter Try.func24, Try.ntmps24
    go_wp2_with fail
    refine (allPlaces_any _ _ _ ls _ HP.out.1 HT.out.2.1.here hn).mono ?_
    rw [HV.out.1]
    rintro e w1 ⟨rfl, hk⟩
    have HK := Lib.hid (HT.out.keep hk)
    have b0 : w1.cell? ⟨w.heap.size, 0, none⟩ = some (.slice A n c) := HK.out.1.cell 0
    clear hk
    go_wp2_with fail
    refine (pagesOnce_any _ _ _ ls _ HP.out.1 HK.out.2.1.here hn HP.out.2).mono ?_
    rintro e w2 ⟨rfl, hk⟩
    have HF := Lib.hid (HK.out.keep hk)
    clear hk
    go_wp2
    go_ret
    exact ⟨rfl, HF.out.2.2⟩
theorem tabValid_val {A : Option Addr} {n c : Nat} {ls : List Li} {w : World} {V : Bool} (hv : tabB (ll ls) = V) (hl : ls.length = n) (hr : TRow w w.heap.size A ls) (hn : n ≤ 1048576) (hp : ∀ l, l ∈ ls → l.xs.length ≤ 1048576) :
    Calls Try.prog 24 #[.agg #[.slice A n c]] w (KeptV (.bool V) w) := hv ▸ tabValid_any A n c ls w hl hr hn hp
end Go.Proofs.Yteniikfgellhfaa
namespace Go.Proofs.Yteniikfgellhfaa
open Go.ChangeShapes Go.WideShapes Go.ChangeAt Go.RowKit
set_option linter.unusedVariables false

theorem make_ints6 (w : World) : (Instr.makeSlice 26 (.int .i64 6) (.int .i64 6)).run Try.prog w = .ok (.slice (some ⟨w.heap.size, 0, none⟩) 6 6) (w.alloc (.cells (madeCells #[.int .i64 0] 6) 3)) := make_ints w 6 (by omega)
theorem make_lists8 (w : World) : (Instr.makeSlice 38 (.int .i64 8) (.int .i64 8)).run Try.prog w = .ok (.slice (some ⟨w.heap.size, 0, none⟩) 8 8) (w.alloc (.cells (madeCells #[.slice none 0 0] 8) 26)) := make_lists w 8 (by omega)
theorem listNo_any (w : World) : Calls Try.prog 107 #[] w fun e w' => ∃ g, e = .returned (.slice (some ⟨g, 0, none⟩) 6 6) ∧ IOwn w' w.heap.size (.slice (some ⟨g, 0, none⟩) 6 6) m6 ∧ w.grownBy w' none := by
  have hmk := fun W => make_ints6 W
  have HO := Lib.hid (And.intro (iown_made w w.heap.size 6 (Nat.le_refl _) (by simp [maxLen])) (grown_alloc (grown_refl w none) (.cells (madeCells #[.int .i64 0] 6) 3)))
  go_enter Try.func107, Try.ntmps107
  go_wp2
  go_loopw [2] (fun i wr => ∃ k : Nat, i = .int .i64 k ∧ k ≤ 6 ∧ (∃ xs, xs.length = 6 ∧ xs.take k = List.replicate k (-1) ∧ IOwn wr w.heap.size (.slice (some ⟨w.heap.size, 0, none⟩) 6 6) xs) ∧ w.grownBy wr none) (fun i _ => 6 - (intOf i).toNat)
  case atStart => exact ⟨0, rfl, Nat.zero_le _, ⟨_, by simp, rfl, HO.out.1⟩, HO.out.2⟩
  case round =>
    clear HO hmk
    obtain ⟨k, rfl, hk, ⟨xs, h6, ht, ho⟩, hg⟩ := hrel
    by_cases hlt : k < 6
    · have hk5 : (k : Int) ≤ 5 := by omega
      have hk7 : (k : Int) < 6 := by omega
      have hk0 : decide ((0 : Int) ≤ k) = true := decide_eq_true (by omega)
      obtain ⟨x, hx⟩ : ∃ x, xs[k]? = some x := ⟨_, List.getElem?_eq_getElem (by omega)⟩
      have c0 : wr.cell? ⟨w.heap.size, k, none⟩ = some (.int .i64 x) := VOwn.at_ ho (by rw [iv_length]; exact h6) (iv_at hx)
      have f0 : wr.frozen? ⟨w.heap.size, k, none⟩ = false := VOwn.frozen ho (by rw [iv_length]; exact h6) k
      have hs := VOwn.set ho (by rw [iv_length]; exact h6) k (.int .i64 (-1))
      rw [← iv_set] at hs
      have HZ := Lib.hid (And.intro (show (xs.set k (-1)).take (k + 1) = List.replicate (k + 1) (-1) by rw [List.take_add_one, List.take_set_of_le (Nat.le_refl _), List.getElem?_set_self (by omega), ht, List.replicate_succ']; rfl) (And.intro hs (And.intro (grown_put hg (p := ⟨w.heap.size, k, none⟩) (Nat.le_refl _) (.int .i64 (-1))) h6)))
      clear h6 ht ho hg hs hx
      go_wp2
      go_roundw
      case rel => exact ⟨k + 1, by go_num, by omega, ⟨_, by rw [List.length_set]; exact HZ.out.2.2.2, HZ.out.1, HZ.out.2.1⟩, HZ.out.2.2.1⟩
      case measure => simp [intOf]; omega
    · obtain rfl : k = 6 := by omega
      rw [List.take_of_length_le (by omega)] at ht
      have HZ := Lib.hid (And.intro ht (And.intro ho hg))
      clear h6 ht ho hg
      go_wp2
      go_ret
      exact ⟨_, rfl, by have h := HZ.out.2.1; rw [HZ.out.1] at h; exact h, HZ.out.2.2⟩
theorem noTab_at {k : Nat} (h : k < 8) : noTab[k]? = some m6 := by rw [noTab, List.getElem?_replicate, if_pos h]
/-- The loop that puts lists, at list k: the row lies in block G. -/
def FillR (w : World) (xss : List (List Int)) (G k : Nat) (wr : World) : Prop := k ≤ 8 ∧ (∃ cs, Filled xss 8 k cs ∧ TOwn wr w.heap.size (.slice (some ⟨G, 0, none⟩) 8 8) cs) ∧ w.grownBy wr none
theorem emptyTable_any (w : World) : Calls Try.prog 75 #[] w (TabMade noTab 8 w) := by
  have hmk := fun W => make_lists8 W
  have h1 := (Blk.new w 40 #[.slice none 0 0]).alloc (.cells (madeCells #[.slice none 0 0] 8) 26)
  have h2 := town_made (w.alloc (.cells #[.slice none 0 0] 40)) w.heap.size 8 (by simp) (by simp [maxLen])
  simp only [size_alloc1] at h2
  have HO := Lib.hid (And.intro h1 (And.intro h2 (grown_alloc (grown_alloc (grown_refl w none) (.cells #[.slice none 0 0] 40)) (.cells (madeCells #[.slice none 0 0] 8) 26))))
  clear h1 h2
  go_enter Try.func75, Try.ntmps75
  go_wp2
  go_loopw [2] (fun i wr => ∃ k : Nat, i = .int .i64 k ∧ FillR w noTab (w.heap.size + 1) k wr ∧ Blk wr w.heap.size 40 #[.slice none 0 0]) (fun i _ => 8 - (intOf i).toNat)
  case atStart => exact ⟨0, rfl, ⟨Nat.zero_le _, ⟨_, ⟨by simp, rfl⟩, HO.out.2.1⟩, HO.out.2.2⟩, HO.out.1⟩
  case round =>
    clear HO hmk
    obtain ⟨k, rfl, ⟨hk, ⟨cs, hF, ho⟩, hg⟩, hb⟩ := hrel
    by_cases hlt : k < 8
    · have hk8 : (k : Int) < 8 := by omega
      have hk0 : decide ((0 : Int) ≤ k) = true := decide_eq_true (by omega)
      have HX := Lib.hid (And.intro hF (And.intro ho (And.intro hg hb)))
      clear hF ho hg hb
      go_wp2_with fail
      refine (listNo_any wr).mono ?_
      rintro e w1 ⟨gl, rfl, ho1, hk1⟩
      have hD := HX.out.2.1.keep hk1
      obtain ⟨⟨A0, c0, x0⟩, hq⟩ : ∃ q, cs[k]? = some q := ⟨_, List.getElem?_eq_getElem (by have := HX.out.1.1; omega)⟩
      have d0 := hD.at_ HX.out.1.1 hq
      have d1 := hD.frozen HX.out.1.1 k
      have hP := HX.out.2.1.putl HX.out.1.1 hk1 ho1 rfl HX.out.2.2.1.size k
      have HZ := Lib.hid (And.intro (filled_step (A := some ⟨gl, 0, none⟩) (c := 6) HX.out.1 hlt (noTab_at hlt)) (And.intro hP (And.intro (grown_put (grown_trans HX.out.2.2.1 hk1) (p := ⟨w.heap.size + 1, k, none⟩) (by dsimp only; omega) (.slice (some ⟨gl, 0, none⟩) 6 6)) ((HX.out.2.2.2.keep hk1).far (p := ⟨w.heap.size + 1, k, none⟩) (by dsimp only; omega) (.slice (some ⟨gl, 0, none⟩) 6 6)))))
      clear hD hq hP ho1 hk1
      go_wp2
      go_roundw
      case rel => exact ⟨k + 1, by go_num, ⟨by omega, ⟨_, HZ.out.1, HZ.out.2.1⟩, HZ.out.2.2.1⟩, HZ.out.2.2.2⟩
      case measure => simp [intOf]; omega
    · obtain rfl : k = 8 := by omega
      have z0 : wr.cell? ⟨w.heap.size, 0, none⟩ = some (.slice none 0 0) := hb.cell 0
      have z1 : wr.frozen? ⟨w.heap.size, 0, none⟩ = false := hb.frozen 0
      have HZ := Lib.hid (And.intro hF.1 (And.intro (filled_all hF (by simp [noTab])) (And.intro (ho.put hb 0 (.slice (some ⟨w.heap.size + 1, 0, none⟩) 8 8)) (grown_put hg (p := ⟨w.heap.size, 0, none⟩) (Nat.le_refl _) (.slice (some ⟨w.heap.size + 1, 0, none⟩) 8 8)))))
      clear hF ho hg hb
      go_wp2
      exact bodyPost_ret (v := .agg #[.slice (some ⟨w.heap.size + 1, 0, none⟩) 8 8]) (by simp [results, Try.results75, go_sem, *]) rfl ⟨_, _, cs, rfl, HZ.out.1, HZ.out.2.1, HZ.out.2.2.1, HZ.out.2.2.2⟩
theorem copyTab_at (A : Option Addr) (n c : Nat) (ls : List Li) (w : World) (hl : ls.length = n) (hr : TRow w w.heap.size A ls) (hv : tabB (ll ls) = true) :
    Calls Try.prog 62 #[.agg #[.slice A n c]] w (TabMade (ll ls) 8 w) := by
  obtain ⟨h8, g, off, _, _, _, _, _, rfl, _⟩ := hr.open_ hv (show 0 < 8 by omega) (show 0 < 6 by omega)
  have en : n = 8 := by omega
  subst en
  have hmk := fun W => make_lists8 W
  have h0 := TIn2.start hr 8 c
  have h2 := town_made ((w.alloc (.cells #[.slice (some ⟨g, off, none⟩) 8 c] 40)).alloc (.cells #[.slice none 0 0] 40)) w.heap.size 8 (by simp only [size_alloc1]; omega) (by simp [maxLen])
  have h3 := h0.keep (grown_alloc (grown_refl _ none) (.cells (madeCells #[.slice none 0 0] 8) 26))
  simp only [size_alloc1] at h2
  have HO := Lib.hid (And.intro h2 h3)
  have b0 := h3.1.cell 0
  have HV := Lib.hid (And.intro hl hv)
  clear hl hr hv h0 h2 h3 h8
  go_enter Try.func62, Try.ntmps62
  go_wp2
  go_loopw [14] (fun i wr => ∃ k : Nat, i = .int .i64 k ∧ k ≤ 8 ∧ (∃ cs, Filled (ll ls) 8 k cs ∧ TOwn wr w.heap.size (.slice (some ⟨w.heap.size + 1 + 1, 0, none⟩) 8 8) cs) ∧ TIn2 w (some ⟨g, off, none⟩) 8 c ls wr) (fun i _ => 8 - (intOf i).toNat)
  case atStart => exact ⟨0, rfl, Nat.zero_le _, ⟨List.replicate 8 lz, ⟨by simp, rfl⟩, HO.out.1⟩, HO.out.2⟩
  case round =>
    clear HO hmk b0
    obtain ⟨k, rfl, hk, ⟨cs, hF, ho⟩, hT⟩ := hrel
    by_cases hlt : k < 8
    · have hk8 : (k : Int) < 8 := by omega
      have hk0 : decide ((0 : Int) ≤ k) = true := decide_eq_true (by omega)
      obtain ⟨gx, ox, cl, xs, hll, h6⟩ := hT.2.2.1.list HV.out.2 hlt
      have c0 := hT.2.2.1.cellf hll h6
      have hrow := hT.2.2.1.inner hll
      dsimp only at hrow
      have hmk := make_ints6 wr
      have hi0 := iown_made wr wr.heap.size 6 (Nat.le_refl _) (by simp [maxLen])
      obtain ⟨w3, hrun, ho3, hg3⟩ := copy_ints (wr.alloc (.cells (madeCells #[.int .i64 0] 6) 3)) wr.heap.size wr.heap.size 6 cl _ _ 6 _ xs h6 (by omega) hi0 (by simp) (VRow.alloc hrow _)
      have hk1 : wr.grownBy w3 none := grown_join (grown_alloc (grown_refl wr none) _) hg3 (Nat.le_refl _)
      have hD := ho.keep hk1
      obtain ⟨⟨A0, c1, x0⟩, hq⟩ : ∃ q, cs[k]? = some q := ⟨_, List.getElem?_eq_getElem (by have := hF.1; omega)⟩
      have d0 := hD.at_ hF.1 hq
      have d1 := hD.frozen hF.1 k
      have hP := ho.putl hF.1 hk1 ho3 h6 hT.2.2.2.size k
      have hT3 := (hT.keep hk1).far (p := ⟨w.heap.size + 1 + 1, k, none⟩) (by dsimp only; omega) (by dsimp only; omega) (by dsimp only; omega) (.slice (some ⟨wr.heap.size, 0, none⟩) 6 6)
      have HZ := Lib.hid (And.intro (filled_step (A := some ⟨wr.heap.size, 0, none⟩) (c := 6) hF hlt (ll_at hll)) (And.intro hP hT3))
      clear hF ho hT hll h6 hrow hi0 ho3 hg3 hk1 hD hq hP hT3
      go_wp2
      go_roundw
      case rel => exact ⟨k + 1, by go_num, by omega, ⟨_, HZ.out.1, HZ.out.2.1⟩, HZ.out.2.2⟩
      case measure => simp [intOf]; omega
    · obtain rfl : k = 8 := by omega
      have z0 : wr.cell? ⟨w.heap.size + 1, 0, none⟩ = some (.slice none 0 0) := hT.2.1.cell 0
      have z1 : wr.frozen? ⟨w.heap.size + 1, 0, none⟩ = false := hT.2.1.frozen 0
      have HZ := Lib.hid (And.intro hF.1 (And.intro (filled_all hF (by rw [ll_length]; exact HV.out.1)) (And.intro (ho.put hT.2.1 0 (.slice (some ⟨w.heap.size + 1 + 1, 0, none⟩) 8 8)) (grown_put hT.2.2.2 (p := ⟨w.heap.size + 1, 0, none⟩) (by dsimp only; omega) (.slice (some ⟨w.heap.size + 1 + 1, 0, none⟩) 8 8)))))
      clear hF ho hT
      go_wp2
      exact bodyPost_ret (v := .agg #[.slice (some ⟨w.heap.size + 1 + 1, 0, none⟩) 8 8]) (by simp [results, Try.results62, go_sem, *]) rfl ⟨_, _, cs, rfl, HZ.out.1, HZ.out.2.1, HZ.out.2.2.1, HZ.out.2.2.2⟩
/-- No cell before (f, k) but the one of the arguments has the number. -/
def NotYet (xss : List (List Int)) (f0 k0 : Nat) (x : Int) (f k : Nat) : Prop := ∀ f' k', cellO xss f' k' = some x → (f' < f ∨ (f' = f ∧ k' < k)) → f' = f0 ∧ k' = k0
theorem tableGet_any (A : Option Addr) (n c : Nat) (ls : List Li) (f k : Int) (w : World) (hl : ls.length = n) (hr : TRow w w.heap.size A ls) (hn : n ≤ 1048576) (hp : ∀ l, l ∈ ls → l.xs.length ≤ 1048576) :
    Calls Try.prog 25 #[.agg #[.slice A n c], .int .i64 f, .int .i64 k] w (KeptV (.int .i64 (tgetV (ll ls) f k)) w) := by
  have HT := Lib.hid (TIn.start hr n c)
  have HP := Lib.hid (And.intro hl hp)
  cases hv : tabB (ll ls)
  · have HV := Lib.hid (And.intro hv (tget_no (arg1 hv) : tgetV (ll ls) f k = -1))
    clear hl hr hp hv
    rw [HV.out.2]
    go_enter Try.func25, Try.ntmps25
    go_wp2_with fail
    refine (tabValid_val HV.out.1 HP.out.1 HT.out.2.1.here hn HP.out.2).mono ?_
    rintro e w1 ⟨rfl, hk⟩
    have HK := Lib.hid (HT.out.keep hk)
    clear hk
    go_wp2
    go_ret
    exact ⟨rfl, HK.out.2.2⟩
  · cases hf : inB f 0 7
    · have HV := Lib.hid (And.intro hv (And.intro hf (tget_no (arg2 hf) : tgetV (ll ls) f k = -1)))
      clear hl hr hp hv hf
      rw [HV.out.2.2]
      go_enter Try.func25, Try.ntmps25
      go_wp2_with fail
      refine (tabValid_val HV.out.1 HP.out.1 HT.out.2.1.here hn HP.out.2).mono ?_
      rintro e w1 ⟨rfl, hk⟩
      have HK := Lib.hid (HT.out.keep hk)
      clear hk
      go_wp2_with (go_at_call 68; refine (isFile_any _ _).mono ?_; rintro e w' ⟨rfl, rfl⟩; rw [HV.out.2.1])
      go_ret
      exact ⟨rfl, HK.out.2.2⟩
    · cases hk : inB k 0 5
      · have HV := Lib.hid (And.intro hv (And.intro hf (And.intro hk (tget_no (arg3 hk) : tgetV (ll ls) f k = -1))))
        clear hl hr hp hv hf hk
        rw [HV.out.2.2.2]
        go_enter Try.func25, Try.ntmps25
        go_wp2_with fail
        refine (tabValid_val HV.out.1 HP.out.1 HT.out.2.1.here hn HP.out.2).mono ?_
        rintro e w1 ⟨rfl, hk⟩
        have HK := Lib.hid (HT.out.keep hk)
        clear hk
        go_wp2_with (first | (go_at_call 68; refine (isFile_any _ _).mono ?_; rintro e w' ⟨rfl, rfl⟩; rw [HV.out.2.1]) | (go_at_call 69; refine (isFilePlace_any _ _).mono ?_; rintro e w' ⟨rfl, rfl⟩; rw [HV.out.2.2.1]))
        go_ret
        exact ⟨rfl, HK.out.2.2⟩
      · obtain ⟨fn, rfl, hf7⟩ := inB_nat (m := 7) hf
        obtain ⟨kn, rfl, hk5⟩ := inB_nat (m := 5) hk
        obtain ⟨h8, g, off, gx, ox, cl, xs, x, rfl, hll, h6, hx, hc⟩ := hr.open_ hv (show fn < 8 by omega) (show kn < 6 by omega)
        have hn8 : n = 8 := by omega
        subst hn8
        have HV := Lib.hid (And.intro hv (And.intro hf (And.intro hk (And.intro (tget_at (arg_yes hv hf hk) hc : tgetV (ll ls) fn kn = x) (And.intro hll (And.intro hx h6))))))
        have f0 : decide ((0 : Int) ≤ fn) = true := decide_eq_true (by omega)
        have f1 : (fn : Int) < 8 := by omega
        have k0 : decide ((0 : Int) ≤ kn) = true := decide_eq_true (by omega)
        have k1 : (kn : Int) < 6 := by omega
        clear hl hr hp hv hf hk hll hx hc h6 h8
        rw [HV.out.2.2.2.1]
        go_enter Try.func25, Try.ntmps25
        go_wp2_with fail
        refine (tabValid_val HV.out.1 HP.out.1 HT.out.2.1.here hn HP.out.2).mono ?_
        rintro e w1 ⟨rfl, hk⟩
        have HK := Lib.hid (HT.out.keep hk)
        clear hk
        have b0 : w1.cell? ⟨w.heap.size, 0, none⟩ = some (.slice (some ⟨g, off, none⟩) 8 c) := HK.out.1.cell 0
        have c0 := HK.out.2.1.cellf HV.out.2.2.2.2.1 HV.out.2.2.2.2.2.2
        have c1 := (HK.out.2.1.inner HV.out.2.2.2.2.1).cellf HV.out.2.2.2.2.2.1
        go_wp2_with (first | (go_at_call 68; refine (isFile_any _ _).mono ?_; rintro e w' ⟨rfl, rfl⟩; rw [HV.out.2.1]) | (go_at_call 69; refine (isFilePlace_any _ _).mono ?_; rintro e w' ⟨rfl, rfl⟩; rw [HV.out.2.2.1]))
        go_ret
        exact ⟨rfl, HK.out.2.2⟩
end Go.Proofs.Yteniikfgellhfaa
namespace Go.Proofs.Yteniikfgellhfaa
open Go.ChangeShapes Go.WideShapes Go.ChangeAt Go.RowKit
set_option linter.unusedVariables false

end Go.Proofs.Yteniikfgellhfaa
namespace Go.Proofs.Yteniikfgellhfaa

theorem full_in {bs : List Bk} (hd : devB bs = true) {k : Nat} {p : Pg} (hp : pageAt bs k = some p) (hf : p.f = true) : ∃ f j : Nat, p.a = (f : Int) ∧ p.b = (j : Int) ∧ f < 8 ∧ j < 6 := by
  obtain ⟨_, hall⟩ := dev_parts hd
  unfold pageAt at hp
  rw [Option.bind_eq_some_iff] at hp
  obtain ⟨b, hb, hq⟩ := hp
  obtain ⟨_, h4, ho⟩ := block_parts (hall b (List.mem_of_getElem? hb))
  have hlt := (List.getElem?_eq_some_iff.1 hq).1
  unfold ordB at ho
  rw [List.all_eq_true] at ho
  have h1 := ho (k % 4) (by simpa using hlt)
  unfold okAt at h1
  rw [Bool.and_eq_true] at h1
  have h2 := h1.1
  have e : b.ps.getD (k % 4) pz = p := by simp [List.getD_eq_getElem?_getD, hq]
  rw [e] at h2
  unfold pgB at h2
  rw [hf] at h2
  simp only [pageB, if_true, Bool.and_eq_true] at h2
  obtain ⟨⟨⟨ha, hb'⟩, _⟩, _⟩ := h2
  have ha' := inB_iff.1 ha
  have hb2 := inB_iff.1 hb'
  exact ⟨p.a.toNat, p.b.toNat, by omega, by omega, by omega, by omega⟩
/-- The table names no page for the file and the place of page p, or one with a lesser stamp. -/
def newerB (bs : List Bk) (xss : List (List Int)) (p : Pg) : Bool :=
  match cellO xss p.a.toNat p.b.toNat with
  | some x => if x = -1 then true else (match pageAt bs x.toNat with
    | some q => decide (q.d < p.d)
    | none => true)
  | none => false
/-- Page k taken into account. -/
def ofStep (bs : List Bk) (xss : List (List Int)) (k : Nat) : List (List Int) :=
  match pageAt bs k with
  | some p => if p.f && newerB bs xss p then tset xss p.a.toNat p.b.toNat k else xss
  | none => xss
/-- The table of the first k pages. -/
def tabTo (bs : List Bk) : Nat → List (List Int)
  | 0 => noTab
  | k + 1 => ofStep bs (tabTo bs k) k
/-- What TableOf answers. -/
def tabOf (bs : List Bk) : List (List Int) := if devB bs then tabTo bs (4 * bs.length) else []
/-- What holds of the table of the first k pages. -/
structure OfInv (bs : List Bk) (k : Nat) (xss : List (List Int)) : Prop where
  tv : TV xss
  ent : ∀ (f j : Nat) (x : Int), cellO xss f j = some x → x = -1 ∨ ∃ (a : Nat) (q : Pg), x = (a : Int) ∧ a < k ∧ pageAt bs a = some q ∧ q.f = true
theorem noTab_cell {f j : Nat} {x : Int} (h : cellO noTab f j = some x) : x = -1 := by
  obtain ⟨xs, h1, h2⟩ := cellO_some h
  have e := List.eq_of_mem_replicate (List.mem_of_getElem? h1)
  subst e
  exact List.eq_of_mem_replicate (List.mem_of_getElem? h2)
theorem noTab_tv : TV noTab := by
  refine ⟨by simp [noTab], fun xs hx => ?_, fun f j x h => ?_, fun f j f' j' x h _ h0 => ?_⟩
  · rw [List.eq_of_mem_replicate hx]; simp [m6]
  · have := noTab_cell h; omega
  · have := noTab_cell h; omega
theorem of_inv {bs : List Bk} (hd : devB bs = true) : ∀ k : Nat, k ≤ 48 → OfInv bs k (tabTo bs k)
  | 0, _ => ⟨noTab_tv, fun f j x h => .inl (noTab_cell h)⟩
  | k + 1, hk => by
    have ih := of_inv hd k (by omega)
    have up : OfInv bs (k + 1) (tabTo bs k) := ⟨ih.tv, fun f j x h => by
      rcases ih.ent f j x h with h1 | ⟨a, q, h1, h2, h3⟩
      · exact .inl h1
      · exact .inr ⟨a, q, h1, by omega, h3⟩⟩
    show OfInv bs (k + 1) (ofStep bs (tabTo bs k) k)
    unfold ofStep
    split
    · rename_i p hp
      split
      · rename_i h
        rw [Bool.and_eq_true] at h
        obtain ⟨f, j, ea, eb, hf8, hj6⟩ := full_in hd hp h.1
        rw [ea, eb]
        simp only [Int.toNat_natCast]
        refine ⟨tset_valid ih.tv hf8 hj6 (by omega) ?_, fun f' j' x hx => ?_⟩
        · rintro ⟨_, f', j', hc, _⟩
          rcases ih.ent f' j' _ hc with h1 | ⟨a, q, h1, h2, _⟩ <;> omega
        · rw [tset_cell ih.tv hf8 hj6] at hx
          split at hx
          · injection hx with hx
            exact .inr ⟨k, p, hx.symm, by omega, hp, h.1⟩
          · exact up.ent f' j' x hx
      · exact up
    · exact up
/-- The step, case by case. -/
theorem of_old {bs : List Bk} {xss : List (List Int)} {k : Nat} {p : Pg} (hp : pageAt bs k = some p) (hf : p.f = false) : ofStep bs xss k = xss := by simp [ofStep, hp, hf]
theorem of_new {bs : List Bk} {xss : List (List Int)} {k f j : Nat} {p : Pg} (hp : pageAt bs k = some p) (hf : p.f = true) (ha : p.a = (f : Int)) (hb : p.b = (j : Int)) (hn : newerB bs xss p = true) : ofStep bs xss k = tset xss f j k := by
  simp [ofStep, hp, hf, hn, ha, hb]
theorem of_less {bs : List Bk} {xss : List (List Int)} {k : Nat} {p : Pg} (hp : pageAt bs k = some p) (hn : newerB bs xss p = false) : ofStep bs xss k = xss := by simp [ofStep, hp, hn]
theorem newer_none {bs : List Bk} {xss : List (List Int)} {p : Pg} {f j : Nat} (ha : p.a = (f : Int)) (hb : p.b = (j : Int)) (hc : cellO xss f j = some (-1)) : newerB bs xss p = true := by simp [newerB, ha, hb, hc]
theorem newer_some {bs : List Bk} {xss : List (List Int)} {p q : Pg} {f j a : Nat} (ha : p.a = (f : Int)) (hb : p.b = (j : Int)) (hc : cellO xss f j = some (a : Int)) (hq : pageAt bs a = some q) : newerB bs xss p = decide (q.d < p.d) := by
  have : ¬ ((a : Int) = -1) := by omega
  simp [newerB, ha, hb, hc, hq, this]
theorem of_yes {bs : List Bk} (h : devB bs = true) : tabOf bs = tabTo bs (4 * bs.length) := by simp [tabOf, h]
theorem of_no {bs : List Bk} (h : devB bs = false) : tabOf bs = [] := by simp [tabOf, h]
theorem of_len {bs : List Bk} {k : Nat} (hd : devB bs = true) (hk : k ≤ 48) : (tabTo bs k).length = 8 := (of_inv hd k hk).tv.len
/-- A device that is equal has the same table. -/
theorem of_is {bs cs : List Bk} (h : cs.map Bk.is = bs.map Bk.is) : tabOf cs = tabOf bs := by
  have hp : ∀ a, pageAt cs a = pageAt bs a := fun a => page_is h a
  have hs : ∀ k, tabTo cs k = tabTo bs k := by
    intro k
    induction k with
    | zero => rfl
    | succ k ih =>
      simp only [tabTo, ofStep, newerB, ih, hp]
      rfl
  unfold tabOf
  rw [devB_is h, hs, is_length h]
end Go.Proofs.Yteniikfgellhfaa
namespace Go.Proofs.Yteniikfgellhfaa
open Go.ChangeShapes Go.WideShapes Go.ChangeAt Go.RowKit
set_option linter.unusedVariables false
set_option linter.unusedSimpArgs false

/-- What isNewerThanNamed has in memory. -/
def NIn (w : World) (A : Option Addr) (bs : List Bk) (At : Option Addr) (ct : Nat) (ls : List Li) (f j : Nat) (v d : Int) (wr : World) : Prop :=
  Blk wr w.heap.size 40 #[.slice At 8 ct] ∧ Blk wr (w.heap.size + 1) 30 #[.bool true, .int .i64 (f : Int), .int .i64 (j : Int), .int .i64 v, .int .i64 d] ∧ DRow wr w.heap.size A bs ∧ TRow wr w.heap.size At ls ∧ w.grownBy wr none
theorem NIn.start {w : World} {A : Option Addr} {bs : List Bk} {At : Option Addr} {ls : List Li} (hr : DRow w w.heap.size A bs) (ht : TRow w w.heap.size At ls) (ct f j : Nat) (v d : Int) :
    NIn w A bs At ct ls f j v d ((w.alloc (.cells #[.slice At 8 ct] 40)).alloc (.cells #[.bool true, .int .i64 (f : Int), .int .i64 (j : Int), .int .i64 v, .int .i64 d] 30)) := by
  refine ⟨(Blk.new w _ _).alloc _, ?_, (hr.alloc _).alloc _, (ht.alloc _).alloc _, grown_alloc (grown_alloc (grown_refl _ _) _) _⟩
  have H := Blk.new (w.alloc (.cells #[.slice At 8 ct] 40)) 30 #[.bool true, .int .i64 (f : Int), .int .i64 (j : Int), .int .i64 v, .int .i64 d]
  simpa only [size_alloc1] using H
theorem NIn.keep {w wr w' : World} {A : Option Addr} {bs : List Bk} {At : Option Addr} {ct : Nat} {ls : List Li} {f j : Nat} {v d : Int} (H : NIn w A bs At ct ls f j v d wr) (k : wr.grownBy w' none) : NIn w A bs At ct ls f j v d w' :=
  ⟨H.1.keep k, H.2.1.keep k, H.2.2.1.kept k, H.2.2.2.1.kept k, grown_trans H.2.2.2.2 k⟩
set_option maxHeartbeats 1000000 in
theorem isNewer_none (A : Option Addr) (n c : Nat) (bs : List Bk) (At : Option Addr) (ct : Nat) (ls : List Li) (f j : Nat) (v d : Int) (w : World) (hl : bs.length = n) (hr : DRow w w.heap.size A bs) (hd : devB bs = true) (ht : TRow w w.heap.size At ls) (hv : tabB (ll ls) = true) (hf : f < 8) (hj : j < 6) (hc : cellO (ll ls) f j = some (-1)) :
    Calls Try.prog 76 #[.slice A n c, .agg #[.slice At 8 ct], .agg #[.bool true, .int .i64 (f : Int), .int .i64 (j : Int), .int .i64 v, .int .i64 d]] w (KeptV (.bool true) w) := by
  obtain ⟨h8, g, off, gx, ox, cl, xs, y, rfl, hll, h6, hy, hcy⟩ := ht.open_ hv hf hj
  rw [hcy] at hc
  injection hc with hc
  subst hc
  have h0 := NIn.start hr ht ct f j v d
  have b0 := h0.1.cell 0
  obtain ⟨p0, p1, p2, p3, p4⟩ := cells5 h0.2.1
  have c0 := h0.2.2.2.1.cellf hll h6
  have c1 := (h0.2.2.2.1.inner hll).cellf hy
  have f0 : decide ((0 : Int) ≤ f) = true := decide_eq_true (by omega)
  have f1 : (f : Int) < 8 := by omega
  have j0 : decide ((0 : Int) ≤ j) = true := decide_eq_true (by omega)
  have j1 : (j : Int) < 6 := by omega
  have H0 := Lib.hid h0
  clear hl hr hd ht hv hll h6 hy hcy h8 h0
  go_enter Try.func76, Try.ntmps76
  go_wp2
  go_quiet (fail)
  all_goals go_wp2
  have H1 := Lib.hid (H0.out.keep (grown_drewN (grown_refl _ none) (nq + 1)))
  refine wp_region_held_drew (S := (fun w' => w'.cell? ⟨w.heap.size + 1, 4, none⟩ = some (.int .i64 d))) (by kernel_rfl) ?_ (fun hHeld => ?_)
  · exact H1.out.2.1.cell 4
  refine heldY 0 18 ?_
  refine heldY 1 19 ?_
  refine heldY 2 20 ?_
  refine heldN 3 21 ?_
  refine heldN 4 22 ?_
  refine heldN 5 23 ?_
  refine heldN 6 24 ?_
  refine heldN 7 25 ?_
  refine heldN 8 26 ?_
  refine heldN 9 27 ?_
  refine heldY 10 28 ?_
  refine wpAnyH_ready (rs := [11]) (by kernel_rfl) (by simp) ?_
  refine AllReadyH.cons rfl (fun K hK => ?_) AllReadyH.nil
  go_simp
  refine hK.out _ _ ?_ (fun hHeld => ?_)
  · first | with_reducible assumption | exact H1.out.2.1.cell 4 | exact H3.out.2.1.cell 4
  clear hK K
  try simp only [Act.put, List.setIfInBounds_toArray, List.set_cons_zero, List.set_cons_succ]
  refine wpAnyH_done (by kernel_rfl) ?_ _
  go_wp2
  go_ret
  exact ⟨rfl, H1.out.2.2.2.2⟩
set_option maxHeartbeats 1000000 in
theorem isNewer_some (A : Option Addr) (n c : Nat) (bs : List Bk) (At : Option Addr) (ct : Nat) (ls : List Li) (f j : Nat) (v d : Int) (a : Nat) (q : Pg) (w : World) (hl : bs.length = n) (hr : DRow w w.heap.size A bs) (hd : devB bs = true) (ht : TRow w w.heap.size At ls) (hv : tabB (ll ls) = true) (hf : f < 8) (hj : j < 6) (hc : cellO (ll ls) f j = some (a : Int)) (hq : pageAt bs a = some q) :
    Calls Try.prog 76 #[.slice A n c, .agg #[.slice At 8 ct], .agg #[.bool true, .int .i64 (f : Int), .int .i64 (j : Int), .int .i64 v, .int .i64 d]] w (KeptV (.bool (decide (q.d < d))) w) := by
  obtain ⟨h8, g, off, gx, ox, cl, xs, y, rfl, hll, h6, hy, hcy⟩ := ht.open_ hv hf hj
  rw [hcy] at hc
  injection hc with hc
  subst hc
  have h0 := NIn.start hr ht ct f j v d
  have b0 := h0.1.cell 0
  obtain ⟨p0, p1, p2, p3, p4⟩ := cells5 h0.2.1
  have c0 := h0.2.2.2.1.cellf hll h6
  have c1 := (h0.2.2.2.1.inner hll).cellf hy
  have f0 : decide ((0 : Int) ≤ f) = true := decide_eq_true (by omega)
  have f1 : (f : Int) < 8 := by omega
  have j0 : decide ((0 : Int) ≤ j) = true := decide_eq_true (by omega)
  have j1 : (j : Int) < 6 := by omega
  have H0 := Lib.hid h0
  have HD := Lib.hid (And.intro hl (And.intro hd hq))
  have hfd : ∀ w : World, (Instr.field 30 (.agg #[.bool q.f, .int .i64 q.a, .int .i64 q.b, .int .i64 q.c, .int .i64 q.d]) 4).run Try.prog w = .ok (.int .i64 q.d) w := fun _ => by kernel_rfl
  have a1 : ((a : Int) == -1) = false := by rw [beq_eq_false_iff_ne]; omega
  clear hl hr hd ht hv hll h6 hy hcy h8 h0 hq
  go_enter Try.func76, Try.ntmps76
  go_wp2
  go_quiet (fail)
  all_goals go_wp2
  have H2 := Lib.hid (H0.out.keep (grown_drewN (grown_refl _ none) (nq + 1)))
  have HROW := Lib.hid H2.out.2.2.1.here
  refine wp_region_held_drew (S := (fun w' => w'.cell? ⟨w.heap.size + 1, 4, none⟩ = some (.int .i64 d))) (by kernel_rfl) ?_ (fun hHeld => ?_)
  · first | exact H3.out.2.1.cell 4 | exact H2.out.2.1.cell 4
  refine heldY 0 18 ?_
  refine heldY 1 19 ?_
  refine heldY 2 20 ?_
  refine heldY 3 21 ?_
  refine heldY 4 22 ?_
  refine heldY 5 23 ?_
  refine heldY 6 24 ?_
  refine wpAnyH_ready (rs := [7]) (by kernel_rfl) (by simp) ?_
  refine AllReadyH.cons rfl (fun K hK => ?_) AllReadyH.nil
  go_simp
  go_at_call 52; (with_reducible refine (pageOf_at _ _ _ bs a q _ HD.out.1 HROW.out HD.out.2.1 HD.out.2.2).mono ?_); rintro e w2 ⟨rfl, hk⟩; have H3 := Lib.hid (H2.out.keep hk); clear hk
  refine hK.out _ _ ?_ (fun hHeld => ?_)
  · first | exact H3.out.2.1.cell 4 | exact H2.out.2.1.cell 4
  clear hK K
  try simp only [Act.put, List.setIfInBounds_toArray, List.set_cons_zero, List.set_cons_succ]
  refine heldY 8 26 ?_
  refine heldY 9 27 ?_
  refine heldY 10 28 ?_
  refine wpAnyH_ready (rs := [11]) (by kernel_rfl) (by simp) ?_
  refine AllReadyH.cons rfl (fun K hK => ?_) AllReadyH.nil
  go_simp
  refine hK.out _ _ ?_ (fun hHeld => ?_)
  · first | with_reducible assumption | exact H1.out.2.1.cell 4 | exact H3.out.2.1.cell 4
  clear hK K
  try simp only [Act.put, List.setIfInBounds_toArray, List.set_cons_zero, List.set_cons_succ]
  refine wpAnyH_done (by kernel_rfl) ?_ _
  go_wp2
  go_ret
  exact ⟨rfl, H3.out.2.2.2.2⟩
/-- The loop over the pages, at page k: the table lies in variable V, its row in block g. -/
def OfR (w : World) (A : Option Addr) (bs : List Bk) (V g ct k : Nat) (wr : World) : Prop :=
  (∃ cs, cs.length = 8 ∧ ll cs = tabTo bs k ∧ TOwn wr w.heap.size (.slice (some ⟨g, 0, none⟩) 8 ct) cs) ∧ Blk wr V 40 #[.slice (some ⟨g, 0, none⟩) 8 ct] ∧ Blk wr w.heap.size 40 #[.slice none 0 0] ∧ DRow wr w.heap.size A bs ∧ w.grownBy wr none
theorem OfR.keep {w wr w' : World} {A : Option Addr} {bs : List Bk} {V g ct k : Nat} (H : OfR w A bs V g ct k wr) (q : wr.grownBy w' none) : OfR w A bs V g ct k w' := by
  obtain ⟨⟨cs, h1, h2, h3⟩, h4, h5, h6, h7⟩ := H
  exact ⟨⟨cs, h1, h2, h3.keep q⟩, h4.keep q, h5.keep q, h6.kept q, grown_trans h7 q⟩
theorem OfR.next {w wr : World} {A : Option Addr} {bs : List Bk} {V g ct k : Nat} (H : OfR w A bs V g ct k wr) (h : ofStep bs (tabTo bs k) k = tabTo bs k) : OfR w A bs V g ct (k + 1) wr := by
  obtain ⟨⟨cs, h1, h2, h3⟩, h4⟩ := H
  exact ⟨⟨cs, h1, by rw [h2]; exact h.symm, h3⟩, h4⟩
/-- What is needed of the table to read or write the cell of file f and place j. -/
theorem OfR.open_ {w wr : World} {A : Option Addr} {bs : List Bk} {V g ct k : Nat} (H : OfR w A bs V g ct k wr) (hd : devB bs = true) (hk : k ≤ 48) {f j : Nat} (hf : f < 8) (hj : j < 6) :
    ∃ (gl cl : Nat) (x : Int), wr.cell? ⟨g, f, none⟩ = some (.slice (some ⟨gl, 0, none⟩) 6 cl) ∧ wr.cell? ⟨gl, j, none⟩ = some (.int .i64 x) ∧ wr.frozen? ⟨gl, j, none⟩ = false ∧ cellO (tabTo bs k) f j = some x ∧ w.heap.size ≤ gl ∧ gl ≠ g ∧
      (∀ {t : TypeId} {V' : Nat} {cc : Array Value}, Blk wr V' t cc → (3 : TypeId) ≠ t → gl ≠ V') ∧
      ∀ y : Int, ofStep bs (tabTo bs k) k = tset (tabTo bs k) f j y → OfR w A bs V g ct (k + 1) (wr.setCell ⟨gl, j, none⟩ (.int .i64 y)) := by
  obtain ⟨⟨cs, h1, h2, h3⟩, h4, h5, h6, h7⟩ := H
  obtain ⟨xs, x, e1, e6, e2, e3⟩ := (of_inv hd k hk).tv.cell hf hj
  obtain ⟨gl, cl, hli, hio, hgl, hglz⟩ := h3.inner (f := f) (xs := xs) (by rw [h2]; exact e1) (by omega)
  have c0 := h3.at_ h1 hli
  dsimp only at c0
  rw [e6] at c0
  have hVg : gl ≠ g := by
    rcases VOwn.ne hio h3.1 int_ne with e | e
    · simp [Value.ownBlock] at e
    · simpa [Value.ownBlock] using e
  have n4 : gl ≠ V := VOwn.ne_blk hio h4 (by decide)
  have n5 : gl ≠ w.heap.size := VOwn.ne_blk hio h5 (by decide)
  refine ⟨gl, cl, x, c0, VOwn.at_ hio (iv_length xs) (iv_at e2), VOwn.frozen hio (iv_length xs) j, e3, hgl, hVg, fun hb ht => VOwn.ne_blk hio hb ht, fun y hy => ?_⟩
  refine ⟨⟨_, by rw [List.length_set]; exact h1, ?_, h3.set hli j y⟩, h4.far (p := ⟨gl, j, none⟩) (fun e => n4 e.symm) _, h5.far (p := ⟨gl, j, none⟩) (fun e => n5 e.symm) _, ?_, grown_put h7 (p := ⟨gl, j, none⟩) hgl _⟩
  · rw [ll_set, h2, show tabTo bs (k + 1) = ofStep bs (tabTo bs k) k from rfl, hy, tset_row e1]
  · exact h6.keep (by simp [World.setCell]) fun q hq _ => World.cell?_setCell_other wr ⟨gl, j, none⟩ q _ (fun e => by subst e; dsimp only at hq; omega)
theorem OfR.tab {w wr : World} {A : Option Addr} {bs : List Bk} {V g ct k : Nat} (H : OfR w A bs V g ct k wr) (hd : devB bs = true) (hk : k ≤ 48) : ∃ cs, ll cs = tabTo bs k ∧ tabB (ll cs) = true ∧ TRow wr wr.heap.size (some ⟨g, 0, none⟩) cs := by
  obtain ⟨⟨cs, h1, h2, h3⟩, _⟩ := H
  exact ⟨cs, h2, by rw [h2]; exact (tabB_iff _).2 (of_inv hd k hk).tv, h3.row⟩
theorem tableOf_no (A : Option Addr) (n c : Nat) (bs : List Bk) (w : World) (hl : bs.length = n) (hr : DRow w w.heap.size A bs) (hn : n ≤ 1048576) (hp : ∀ b, b ∈ bs → b.ps.length ≤ 1048576) (hd : devB bs = false) :
    Calls Try.prog 32 #[.slice A n c] w (TabMade [] 0 w) := by
  have HD := Lib.hid (And.intro hl (And.intro hd (And.intro hp (hr.alloc (.cells #[.slice none 0 0] 40)).here)))
  clear hl hr hp hd
  go_enter Try.func32, Try.ntmps32
  go_wp2_with fail
  refine (deviceValid_val HD.out.1 HD.out.2.1 _ HD.out.2.2.2 hn HD.out.2.2.1).mono ?_
  rintro e w1 ⟨rfl, hk⟩
  have hb := (Blk.new w 40 #[.slice none 0 0]).keep hk
  have HG := Lib.hid (grown_trans (grown_alloc (grown_refl w none) (.cells #[.slice none 0 0] 40)) hk)
  have z0 : w1.cell? ⟨w.heap.size, 0, none⟩ = some (.slice none 0 0) := hb.cell 0
  have z1 : w1.frozen? ⟨w.heap.size, 0, none⟩ = false := hb.frozen 0
  clear hb hk
  go_wp2
  exact bodyPost_ret (v := .agg #[.slice none 0 0]) (by simp [results, Try.results32, go_sem, *]) rfl ⟨none, 0, [], rfl, rfl, rfl, town_nil _ _, grown_put HG.out (p := ⟨w.heap.size, 0, none⟩) (Nat.le_refl _) _⟩
set_option maxHeartbeats 2000000 in
theorem tableOf_yes (A : Option Addr) (n c : Nat) (bs : List Bk) (w : World) (hl : bs.length = n) (hr : DRow w w.heap.size A bs) (hd : devB bs = true) :
    Calls Try.prog 32 #[.slice A n c] w (TabMade (tabTo bs (4 * n)) 8 w) := by
  obtain ⟨⟨h1, h12⟩, hall⟩ := dev_parts hd
  have HD := Lib.hid (And.intro hl (And.intro hd (And.intro (fun (b : Bk) (hm : b ∈ bs) => show b.ps.length = 4 from (block_parts (hall b hm)).2.1) (hr.alloc (.cells #[.slice none 0 0] 40)).here)))
  have hr1 := hr.alloc (.cells #[.slice none 0 0] 40)
  have HR := Lib.hid hr1
  have hn12 : n ≤ 12 := by omega
  have hn1 : 1 ≤ n := by omega
  clear hl hr hall hd hr1 h1 h12
  go_enter Try.func32, Try.ntmps32
  go_wp2_with fail
  refine (deviceValid_val HD.out.1 HD.out.2.1 _ HD.out.2.2.2 (by omega) (fun b hm => by have := HD.out.2.2.1 b hm; omega)).mono ?_
  rintro e w1 ⟨rfl, hk1⟩
  go_wp2_with fail
  refine (emptyTable_any w1).mono ?_
  rintro e w2 ⟨At, ct, cs, rfl, hcl, hcs, ho, hk2⟩
  obtain ⟨gt, _, e, hgt, _⟩ := ho.head hcl (by omega)
  injection e with e1 _ e3
  subst e1; subst e3
  have hG1 := grown_trans (grown_alloc (grown_refl w none) (.cells #[.slice none 0 0] 40)) hk1
  have hka : w2.grownBy (w2.alloc (.cells #[.slice (some ⟨gt, 0, none⟩) 8 ct] 40)) none := grown_alloc (grown_refl _ _) _
  have H0 : OfR w A bs w2.heap.size gt ct 0 (w2.alloc (.cells #[.slice (some ⟨gt, 0, none⟩) 8 ct] 40)) :=
    ⟨⟨cs, hcl, hcs, (ho.keep hka).base_le hG1.size⟩, Blk.new w2 _ _, (((Blk.new w 40 #[.slice none 0 0]).keep hk1).keep hk2).keep hka, (((HR.out.kept hk1).kept hk2).kept hka), grown_trans (grown_trans hG1 hk2) hka⟩
  have hgw : w.heap.size ≤ gt := Nat.le_trans hG1.size hgt
  have HS := Lib.hid H0
  clear hk1 hk2 hcl hcs ho hG1 hka H0 hgt
  go_wp2
  go_loopw [4] (fun i wr => ∃ k : Nat, i = .int .i64 k ∧ k ≤ 4 * n ∧ OfR w A bs w2.heap.size gt ct k wr) (fun i _ => 4 * n - (intOf i).toNat)
  case atStart => exact ⟨0, rfl, Nat.zero_le _, HS.out⟩
  case round =>
    clear HS HR
    rename World => wo
    obtain ⟨k, rfl, hk, hR⟩ := hrel
    by_cases hlt : k < 4 * n
    · have hk8 : (k : Int) < (n : Int) * 4 := by omega
      have hk48 : k ≤ 48 := by omega
      obtain ⟨p, hp⟩ := page_some (bs := bs) HD.out.2.2.1 (a := k) (by have := HD.out.1; omega)
      have HX := Lib.hid (And.intro hR (And.intro hp hR.2.2.2.1.here))
      clear hR hp
      go_wp2_with fail
      refine (pageOf_at _ _ _ bs k p wo HD.out.1 HX.out.2.2 HD.out.2.1 HX.out.2.1).mono ?_
      rintro e w3 ⟨rfl, hk3⟩
      obtain ⟨fl, fa, pb, v, d⟩ := p
      dsimp only
      have hR3 := HX.out.1.keep hk3
      cases fl
      · have HZ := Lib.hid ((hR3.keep (grown_alloc (grown_refl _ none) (.cells #[.bool false, .int .i64 fa, .int .i64 pb, .int .i64 v, .int .i64 d] 30))).next (of_old HX.out.2.1 rfl))
        clear hk3 hR3
        go_wp2
        go_roundw
        case rel => exact ⟨k + 1, by go_num, by omega, HZ.out⟩
        case measure => simp [intOf]; omega
      · obtain ⟨f, j, ea, eb, hf8, hj6⟩ := full_in HD.out.2.1 HX.out.2.1 rfl
        dsimp only at ea eb
        subst ea; subst eb
        have hR4 := hR3.keep (grown_alloc (grown_refl _ none) (.cells #[.bool true, .int .i64 (f : Int), .int .i64 (j : Int), .int .i64 v, .int .i64 d] 30))
        have hP4 := Blk.new w3 30 #[.bool true, .int .i64 (f : Int), .int .i64 (j : Int), .int .i64 v, .int .i64 d]
        obtain ⟨cs4, hcs4, hv4, ht4⟩ := hR4.tab HD.out.2.1 hk48
        have b3 : w3.cell? ⟨w2.heap.size, 0, none⟩ = some (.slice (some ⟨gt, 0, none⟩) 8 ct) := hR3.2.1.cell 0
        have l3 := hR3.2.1.lt
        have hnew : ∃ V, newerB bs (tabTo bs k) ⟨true, f, j, v, d⟩ = V ∧ Calls Try.prog 76 #[.slice A n c, .agg #[.slice (some ⟨gt, 0, none⟩) 8 ct], .agg #[.bool true, .int .i64 (f : Int), .int .i64 (j : Int), .int .i64 v, .int .i64 d]] (w3.alloc (.cells #[.bool true, .int .i64 (f : Int), .int .i64 (j : Int), .int .i64 v, .int .i64 d] 30)) (KeptV (.bool V) (w3.alloc (.cells #[.bool true, .int .i64 (f : Int), .int .i64 (j : Int), .int .i64 v, .int .i64 d] 30))) := by
          obtain ⟨xs, x, _, _, _, e3⟩ := (of_inv HD.out.2.1 k hk48).tv.cell hf8 hj6
          have e4 : cellO (ll cs4) f j = some x := by rw [hcs4]; exact e3
          rcases (of_inv HD.out.2.1 k hk48).ent f j x e3 with rfl | ⟨a, q, rfl, _, hq, _⟩
          · exact ⟨true, newer_none rfl rfl e3, isNewer_none A n c bs _ ct cs4 f j v d _ HD.out.1 hR4.2.2.2.1.here HD.out.2.1 ht4 hv4 hf8 hj6 e4⟩
          · exact ⟨_, newer_some rfl rfl e3 hq, isNewer_some A n c bs _ ct cs4 f j v d a q _ HD.out.1 hR4.2.2.2.1.here HD.out.2.1 ht4 hv4 hf8 hj6 e4 hq⟩
        obtain ⟨V, hV, hcall⟩ := hnew
        have HN := Lib.hid (And.intro hV (And.intro hcall (And.intro hR4 hP4)))
        clear hk3 hR3 hR4 hP4 hcs4 hv4 ht4 hV hcall
        go_wp2_with fail
        refine HN.out.2.1.mono ?_
        rintro e w5 ⟨rfl, hk5⟩
        have hR5 := HN.out.2.2.1.keep hk5
        have hP5 := HN.out.2.2.2.keep hk5
        clear b3 l3
        cases V
        · have HZ := Lib.hid (hR5.next (of_less HX.out.2.1 HN.out.1))
          clear hk5 hR5 hP5
          go_wp2
          go_roundw
          case rel => exact ⟨k + 1, by go_num, by omega, HZ.out⟩
          case measure => simp [intOf]; omega
        · have b3 : w5.cell? ⟨w2.heap.size, 0, none⟩ = some (.slice (some ⟨gt, 0, none⟩) 8 ct) := hR5.2.1.cell 0
          obtain ⟨p0, p1, p2, p3, p4⟩ := cells5 hP5
          have hR6 := hR5.keep (grown_drew (grown_refl w5 none))
          obtain ⟨gl, cl, x, c0, c1, c2f, _, hgl, hne, hnb, hput⟩ := hR6.open_ HD.out.2.1 hk48 hf8 hj6
          have hst := of_new (f := f) (j := j) HX.out.2.1 rfl rfl rfl HN.out.1
          have hfin := hput (k : Int) hst
          have n3 : gl ≠ w2.heap.size := hnb hR6.2.1 (by decide)
          have n5 : gl ≠ w3.heap.size := hnb (hP5.drew) (by decide)
          have m3 : w2.heap.size ≠ gl := fun e => n3 e.symm
          have m5 : w3.heap.size ≠ gl := fun e => n5 e.symm
          have mg : gt ≠ gl := fun e => hne e.symm
          have HSS := Lib.hid (And.intro ((hR6.2.1.far (p := ⟨gl, j, none⟩) m3 (.int .i64 (k : Int))).cell 0) (And.intro ((hP5.drew.far (p := ⟨gl, j, none⟩) m5 (.int .i64 (k : Int))).cell 1) (And.intro ((hP5.drew.far (p := ⟨gl, j, none⟩) m5 (.int .i64 (k : Int))).cell 2) ((World.cell?_setCell_other w5.drew ⟨gl, j, none⟩ ⟨gt, f, none⟩ (.int .i64 (k : Int)) (fun e => by injection e with e; omega)).trans c0))))
          have HZ := Lib.hid hfin
          have f0 : decide ((0 : Int) ≤ f) = true := decide_eq_true (by omega)
          have f1 : (f : Int) < 8 := by omega
          have j0 : decide ((0 : Int) ≤ j) = true := decide_eq_true (by omega)
          have j1 : (j : Int) < 6 := by omega
          clear hk5 hR5 hP5 hR6 hst hfin hput hnb
          go_wp2
          refine wp_region_held_drew (S := (fun w' => w'.cell? ⟨w2.heap.size, 0, none⟩ = some (.slice (some ⟨gt, 0, none⟩) 8 ct) ∧ w'.cell? ⟨w3.heap.size, 1, none⟩ = some (.int .i64 (f : Int)) ∧ w'.cell? ⟨w3.heap.size, 2, none⟩ = some (.int .i64 (j : Int)) ∧ w'.cell? ⟨gt, f, none⟩ = some (.slice (some ⟨gl, 0, none⟩) 6 cl))) (by kernel_rfl) ?_ (fun hHeld => ?_)
          · exact ⟨b3, p1, p2, c0⟩
          refine heldY 0 29 ?_
          refine heldY 1 30 ?_
          refine heldY 2 31 ?_
          refine heldY 3 32 ?_
          refine heldY 4 33 ?_
          refine heldY 5 34 ?_
          refine heldY 6 35 ?_
          refine heldY 7 36 ?_
          refine heldY 8 37 ?_
          refine heldY 9 38 ?_
          refine wpAnyH_ready (rs := [10]) (by kernel_rfl) (by simp) ?_
          refine AllReadyH.cons rfl (fun K hK => ?_) AllReadyH.nil
          go_simp
          refine hK.out _ _ ?_ (fun hHeld => ?_)
          · exact HSS.out
          clear hK K
          try simp only [Act.put, List.setIfInBounds_toArray, List.set_cons_zero, List.set_cons_succ]
          refine wpAnyH_done (by kernel_rfl) ?_ _
          go_wp2
          go_roundw
          case rel => exact ⟨k + 1, by go_num, by omega, HZ.out⟩
          case measure => simp [intOf]; omega
    · obtain rfl : k = 4 * n := by omega
      have z0 : wo.cell? ⟨w.heap.size, 0, none⟩ = some (.slice none 0 0) := hR.2.2.1.cell 0
      have z1 : wo.frozen? ⟨w.heap.size, 0, none⟩ = false := hR.2.2.1.frozen 0
      have b3 : wo.cell? ⟨w2.heap.size, 0, none⟩ = some (.slice (some ⟨gt, 0, none⟩) 8 ct) := hR.2.1.cell 0
      have e8 : decide (((4 * n : Nat) : Int) < (n : Int) * 4) = false := decide_eq_false (by omega)
      obtain ⟨⟨cs, h1, h2, h3⟩, h4, h5, h6, h7⟩ := hR
      have HZ := Lib.hid (And.intro h1 (And.intro h2 (And.intro (h3.put h5 0 (.slice (some ⟨gt, 0, none⟩) 8 ct)) (grown_put h7 (p := ⟨w.heap.size, 0, none⟩) (Nat.le_refl _) (.slice (some ⟨gt, 0, none⟩) 8 ct)))))
      clear h1 h2 h3 h4 h5 h6 h7
      go_wp2
      exact bodyPost_ret (v := .agg #[.slice (some ⟨gt, 0, none⟩) 8 ct]) (by simp [results, Try.results32, go_sem, *]) rfl ⟨_, _, cs, rfl, HZ.out.1, HZ.out.2.1, HZ.out.2.2.1, HZ.out.2.2.2⟩
end Go.Proofs.Yteniikfgellhfaa
namespace Go.Proofs.Yteniikfgellhfaa
open Go.ChangeShapes Go.WideShapes Go.ChangeAt Go.RowKit
set_option linter.unusedVariables false
set_option linter.unusedSimpArgs false

theorem specTableOf_no (A : Option Addr) (n c : Nat) (bs : List Bk) (w : World) (hl : bs.length = n) (hr : DRow w w.heap.size A bs) (hn : n ≤ 1048576) (hp : ∀ b, b ∈ bs → b.ps.length ≤ 1048576) (hd : devB bs = false) :
    Calls Try.prog 74 #[.slice A n c] w (TabMade [] 0 w) := by
  have HD := Lib.hid (And.intro hl (And.intro hd (And.intro hp (hr.alloc (.cells #[.slice none 0 0] 40)).here)))
  clear hl hr hp hd
  go_enter Try.func74, Try.ntmps74
  go_wp2_with fail
  refine (specDeviceValid_val HD.out.1 HD.out.2.1 _ HD.out.2.2.2 hn HD.out.2.2.1).mono ?_
  rintro e w1 ⟨rfl, hk⟩
  have hb := (Blk.new w 40 #[.slice none 0 0]).keep hk
  have HG := Lib.hid (grown_trans (grown_alloc (grown_refl w none) (.cells #[.slice none 0 0] 40)) hk)
  have z0 : w1.cell? ⟨w.heap.size, 0, none⟩ = some (.slice none 0 0) := hb.cell 0
  have z1 : w1.frozen? ⟨w.heap.size, 0, none⟩ = false := hb.frozen 0
  clear hb hk
  go_wp2
  exact bodyPost_ret (v := .agg #[.slice none 0 0]) (by simp [results, Try.results74, go_sem, *]) rfl ⟨none, 0, [], rfl, rfl, rfl, town_nil _ _, grown_put HG.out (p := ⟨w.heap.size, 0, none⟩) (Nat.le_refl _) _⟩
set_option maxHeartbeats 4000000 in
theorem specTableOf_yes (A : Option Addr) (n c : Nat) (bs : List Bk) (w : World) (hl : bs.length = n) (hr : DRow w w.heap.size A bs) (hd : devB bs = true) :
    Calls Try.prog 74 #[.slice A n c] w (TabMade (tabTo bs (4 * n)) 8 w) := by
  obtain ⟨⟨h1, h12⟩, hall⟩ := dev_parts hd
  have HD := Lib.hid (And.intro hl (And.intro hd (And.intro (fun (b : Bk) (hm : b ∈ bs) => show b.ps.length = 4 from (block_parts (hall b hm)).2.1) (hr.alloc (.cells #[.slice none 0 0] 40)).here)))
  have hr1 := hr.alloc (.cells #[.slice none 0 0] 40)
  have HR := Lib.hid hr1
  have hn12 : n ≤ 12 := by omega
  have hn1 : 1 ≤ n := by omega
  have hsm : n ≤ 1048576 := by omega
  clear hl hr hall hd hr1 h1 h12
  go_enter Try.func74, Try.ntmps74
  go_wp2_with fail
  refine (specDeviceValid_val HD.out.1 HD.out.2.1 _ HD.out.2.2.2 (by omega) (fun b hm => by have := HD.out.2.2.1 b hm; omega)).mono ?_
  rintro e w1 ⟨rfl, hk1⟩
  go_wp2_with fail
  refine (specNew_any w1).mono ?_
  rintro e w2 ⟨At, ct, cs, rfl, hcl, hcs, ho, hk2⟩
  obtain ⟨gt, _, e, hgt, _⟩ := ho.head hcl (by omega)
  injection e with e1 _ e3
  subst e1; subst e3
  have hG1 := grown_trans (grown_alloc (grown_refl w none) (.cells #[.slice none 0 0] 40)) hk1
  have hka : w2.grownBy (w2.alloc (.cells #[.slice (some ⟨gt, 0, none⟩) 8 ct] 40)) none := grown_alloc (grown_refl _ _) _
  have H0 : OfR w A bs w2.heap.size gt ct 0 (w2.alloc (.cells #[.slice (some ⟨gt, 0, none⟩) 8 ct] 40)) :=
    ⟨⟨cs, hcl, hcs, (ho.keep hka).base_le hG1.size⟩, Blk.new w2 _ _, (((Blk.new w 40 #[.slice none 0 0]).keep hk1).keep hk2).keep hka, (((HR.out.kept hk1).kept hk2).kept hka), grown_trans (grown_trans hG1 hk2) hka⟩
  have hgw : w.heap.size ≤ gt := Nat.le_trans hG1.size hgt
  have HS := Lib.hid H0
  clear hk1 hk2 hcl hcs ho hG1 hka H0 hgt
  go_wp2
  go_loopw [4] (fun i wr => ∃ k : Nat, i = .int .i64 k ∧ k ≤ 4 * n ∧ OfR w A bs w2.heap.size gt ct k wr) (fun i _ => 4 * n - (intOf i).toNat)
  case atStart => exact ⟨0, rfl, Nat.zero_le _, HS.out⟩
  case round =>
    clear HS HR
    rename World => wo
    obtain ⟨k, rfl, hk, hR⟩ := hrel
    by_cases hlt : k < 4 * n
    · have hk8 : (k : Int) < 4 * (n : Int) := by omega
      have hk48 : k ≤ 48 := by omega
      obtain ⟨p, hp⟩ := page_some (bs := bs) HD.out.2.2.1 (a := k) (by have := HD.out.1; omega)
      have HX := Lib.hid (And.intro hR (And.intro hp hR.2.2.2.1.here))
      clear hR hp
      go_wp2_with fail
      refine (specReadPage_at _ _ _ bs k p wo HD.out.1 HX.out.2.2 HD.out.2.1 HX.out.2.1).mono ?_
      rintro e w3 ⟨rfl, hk3⟩
      obtain ⟨fl, fa, pb, v, d⟩ := p
      dsimp only
      have hR3 := HX.out.1.keep hk3
      cases fl
      · have HZ := Lib.hid ((hR3.keep (grown_alloc (grown_refl _ none) (.cells #[.bool false, .int .i64 fa, .int .i64 pb, .int .i64 v, .int .i64 d] 30))).next (of_old HX.out.2.1 rfl))
        clear hk3 hR3
        go_wp2
        go_roundw
        case rel => exact ⟨k + 1, by go_num, by omega, HZ.out⟩
        case measure => simp [intOf]; omega
      · obtain ⟨f, j, ea, eb, hf8, hj6⟩ := full_in HD.out.2.1 HX.out.2.1 rfl
        dsimp only at ea eb
        subst ea; subst eb
        have hR4 := hR3.keep (grown_alloc (grown_refl _ none) (.cells #[.bool true, .int .i64 (f : Int), .int .i64 (j : Int), .int .i64 v, .int .i64 d] 30))
        have hP4 := Blk.new w3 30 #[.bool true, .int .i64 (f : Int), .int .i64 (j : Int), .int .i64 v, .int .i64 d]
        obtain ⟨w4, hw4⟩ : ∃ w4, w3.alloc (.cells #[.bool true, .int .i64 (f : Int), .int .i64 (j : Int), .int .i64 v, .int .i64 d] 30) = w4 := ⟨_, rfl⟩
        have f0 : decide ((0 : Int) ≤ f) = true := decide_eq_true (by omega)
        have f1 : (f : Int) < 8 := by omega
        have j0 : decide ((0 : Int) ≤ j) = true := decide_eq_true (by omega)
        have j1 : (j : Int) < 6 := by omega
        rw [hw4] at hR4 hP4
        have HN := Lib.hid (And.intro hR4 (And.intro hP4 hw4))
        have hq : ∃ x q V, cellO (tabTo bs k) f j = some x ∧ ReadIs n bs x q ∧ newerB bs (tabTo bs k) ⟨true, f, j, v, d⟩ = V ∧ ((q.f = false ∧ V = true) ∨ (q.f = true ∧ V = decide (q.d < d))) := by
          obtain ⟨xs, x, _, _, _, e3⟩ := (of_inv HD.out.2.1 k hk48).tv.cell hf8 hj6
          rcases (of_inv HD.out.2.1 k hk48).ent f j x e3 with rfl | ⟨a, q, rfl, _, hq, hqf⟩
          · exact ⟨-1, pz, true, e3, .inr (.inl ⟨HD.out.2.1, by simp [hasP], rfl⟩), newer_none rfl rfl e3, .inl ⟨rfl, rfl⟩⟩
          · exact ⟨a, q, _, e3, .inr (.inr ⟨a, rfl, HD.out.2.1, hq⟩), newer_some rfl rfl e3 hq, .inr ⟨hqf, rfl⟩⟩
        obtain ⟨x, ⟨qf, qa, qb, qc, qd⟩, V, hcx, hri, hnv, hqV⟩ := hq
        obtain ⟨gl, cl, x', c0, c1, c2f, hcx', hgl, hne, hnb, hput⟩ := hR4.open_ HD.out.2.1 hk48 hf8 hj6
        rw [hcx] at hcx'
        injection hcx' with hcx'
        subst hcx'
        have HRI := Lib.hid hri
        have HNV0 := Lib.hid (And.intro hnv hqV)
        have gtl : gt < w4.heap.size := World.block_lt_of_cell? w4 _ c0
        have gll : gl < w4.heap.size := World.block_lt_of_cell? w4 _ c1
        have HSf := Lib.hid (fun (w' : World) (hg : w4.grownBy w' none) => show w'.cell? ⟨w2.heap.size, 0, none⟩ = some (.slice (some ⟨gt, 0, none⟩) 8 ct) ∧ w'.cell? ⟨w3.heap.size, 1, none⟩ = some (.int .i64 (f : Int)) ∧ w'.cell? ⟨w3.heap.size, 2, none⟩ = some (.int .i64 (j : Int)) ∧ w'.cell? ⟨gt, f, none⟩ = some (.slice (some ⟨gl, 0, none⟩) 6 cl) ∧ w'.cell? ⟨gl, j, none⟩ = some (.int .i64 x) from ⟨(hR4.2.1.keep hg).cell 0, (hP4.keep hg).cell 1, (hP4.keep hg).cell 2, (World.cell?_of_block (hg.block gt gtl (by simp))).trans c0, (World.cell?_of_block (hg.block gl gll (by simp))).trans c1⟩)
        have HROW := Lib.hid (show DRow w4.drew w4.drew.heap.size A bs from (hR4.2.2.2.1.drew).here)
        have HROW2 := Lib.hid (show DRow (w4.drew.alloc (.cells #[.bool false, .int .i64 0, .int .i64 0, .int .i64 0, .int .i64 0] 30)) (w4.drew.alloc (.cells #[.bool false, .int .i64 0, .int .i64 0, .int .i64 0, .int .i64 0] 30)).heap.size A bs from (hR4.2.2.2.1.drew.alloc _).here)
        clear hk3 hR3 hR4 hP4 hw4 hri hnv hqV hcx c0 c1 c2f hgl hne hnb hput gtl gll
        go_upto_region 9 with fail
        have hw4 := HN.out.2.2
        simp only [hw4]
        go_cut [7, 8] (fun s7 s8 wx => ∃ V7 : Nat, s7 = .pointer (some ⟨V7, 0, none⟩) ∧ s8 = .bool qf ∧ wx.cell? ⟨V7, 4, none⟩ = some (.int .i64 qd) ∧ w4.grownBy wx none)
        case first =>
          clear hw4
          refine wp_region_held_drew (S := (fun w' => w'.cell? ⟨w2.heap.size, 0, none⟩ = some (.slice (some ⟨gt, 0, none⟩) 8 ct) ∧ w'.cell? ⟨w3.heap.size, 1, none⟩ = some (.int .i64 (f : Int)) ∧ w'.cell? ⟨w3.heap.size, 2, none⟩ = some (.int .i64 (j : Int)) ∧ w'.cell? ⟨gt, f, none⟩ = some (.slice (some ⟨gl, 0, none⟩) 6 cl) ∧ w'.cell? ⟨gl, j, none⟩ = some (.int .i64 x))) (by kernel_rfl) ?_ (fun hHeld => ?_)
          · exact HSf.out _ (grown_drew (grown_refl w4 none))
          refine heldY 0 30 ?_
          refine heldY 1 31 ?_
          refine heldY 2 32 ?_
          refine heldY 3 33 ?_
          refine heldY 4 34 ?_
          refine heldY 5 35 ?_
          refine heldY 6 36 ?_
          refine heldY 7 37 ?_
          refine heldY 8 38 ?_
          refine heldY 9 39 ?_
          refine heldY 10 40 ?_
          refine wpAnyH_ready (rs := [11, 15]) (by kernel_rfl) (by simp) ?_
          refine AllReadyH.cons rfl (fun K hK => ?_) (AllReadyH.cons rfl (fun K hK => ?_) AllReadyH.nil)
          · go_simp
            go_at_call 55
            refine (specReadPage_val HRI.out HD.out.1 HROW.out hsm (fun b hm => by have := HD.out.2.2.1 b hm; omega)).mono ?_
            rintro e w5 ⟨rfl, hk⟩
            dsimp only
            have hg5 := grown_trans (grown_drew (grown_refl w4 none)) hk
            refine hK.out _ _ ?_ (fun hHeld => ?_)
            · exact HSf.out _ hg5
            clear hK K
            try simp only [Act.put, List.setIfInBounds_toArray, List.set_cons_zero, List.set_cons_succ]
            refine heldY 12 29 ?_
            refine heldY 13 42 ?_
            refine heldY 14 43 ?_
            refine wpAnyH_ready (rs := [15]) (by kernel_rfl) (by simp) ?_
            refine AllReadyH.cons rfl (fun K hK => ?_) AllReadyH.nil
            have hb0 := Blk.new w5 30 #[.bool false, .int .i64 0, .int .i64 0, .int .i64 0, .int .i64 0]
            go_simp
            refine hK.out _ _ ?_ (fun hHeld => ?_)
            · exact HSf.out _ (grown_alloc hg5 _)
            clear hK K
            try simp only [Act.put, List.setIfInBounds_toArray, List.set_cons_zero, List.set_cons_succ]
            have hb := hb0
            obtain ⟨d0, d1, d2, d3, d4⟩ := cells5 hb
            have q0 := hb.frozen 0
            have q1 := hb.frozen 1
            have q2 := hb.frozen 2
            have q3 := hb.frozen 3
            have q4 := hb.frozen 4
            refine wpAnyH_ready (rs := [16]) (by kernel_rfl) (by simp) ?_
            refine AllReadyH.cons rfl (fun K hK => ?_) AllReadyH.nil
            go_simp
            refine hK.out _ _ ?_ (fun hHeld => ?_)
            · exact HSf.out _ (grown_alloc hg5 _)
            clear hK K
            try simp only [Act.put, List.setIfInBounds_toArray, List.set_cons_zero, List.set_cons_succ]
            refine wpAnyH_ready (rs := [17]) (by kernel_rfl) (by simp) ?_
            refine AllReadyH.cons rfl (fun K hK => ?_) AllReadyH.nil
            go_simp
            refine hK.out _ _ ?_ (fun hHeld => ?_)
            · first | with_reducible assumption | exact HSf.out _ (grown_alloc hg5 _)
            clear hK K
            try simp only [Act.put, List.setIfInBounds_toArray, List.set_cons_zero, List.set_cons_succ]
            refine wpAnyH_done (by kernel_rfl) ?_ _
            go_wp2_with fail
            go_meet
            exact ⟨_, rfl, rfl, (Blk.new w5 30 #[.bool qf, .int .i64 qa, .int .i64 qb, .int .i64 qc, .int .i64 qd]).cell 4, grown_alloc hg5 _⟩
          · have hb0 := Blk.new w4.drew 30 #[.bool false, .int .i64 0, .int .i64 0, .int .i64 0, .int .i64 0]
            have hg4 := grown_alloc (grown_drew (grown_refl w4 none)) (.cells #[.bool false, .int .i64 0, .int .i64 0, .int .i64 0, .int .i64 0] 30)
            go_simp
            refine hK.out _ _ ?_ (fun hHeld => ?_)
            · exact HSf.out _ hg4
            clear hK K
            try simp only [Act.put, List.setIfInBounds_toArray, List.set_cons_zero, List.set_cons_succ]
            refine wpAnyH_ready (rs := [11]) (by kernel_rfl) (by simp) ?_
            refine AllReadyH.cons rfl (fun K hK => ?_) AllReadyH.nil
            go_simp
            go_at_call 55
            refine (specReadPage_val HRI.out HD.out.1 (HROW2.out) hsm (fun b hm => by have := HD.out.2.2.1 b hm; omega)).mono ?_
            rintro e w5 ⟨rfl, hk⟩
            dsimp only
            have hg5 := grown_trans hg4 hk
            have hb1 := hb0.keep hk
            refine hK.out _ _ ?_ (fun hHeld => ?_)
            · exact HSf.out _ hg5
            clear hK K
            try simp only [Act.put, List.setIfInBounds_toArray, List.set_cons_zero, List.set_cons_succ]
            refine heldY 12 29 ?_
            refine heldY 13 42 ?_
            refine heldY 14 43 ?_
            have hb := (show Blk w5 w4.heap.size 30 #[.bool false, .int .i64 0, .int .i64 0, .int .i64 0, .int .i64 0] from hb1)
            obtain ⟨d0, d1, d2, d3, d4⟩ := cells5 hb
            have q0 := hb.frozen 0
            have q1 := hb.frozen 1
            have q2 := hb.frozen 2
            have q3 := hb.frozen 3
            have q4 := hb.frozen 4
            have hz := hg5.size
            refine wpAnyH_ready (rs := [16]) (by kernel_rfl) (by simp) ?_
            refine AllReadyH.cons rfl (fun K hK => ?_) AllReadyH.nil
            go_simp
            refine hK.out _ _ ?_ (fun hHeld => ?_)
            · exact HSf.out _ (grown_put5n hg5 (Nat.le_refl _) (.bool qf) (.int .i64 qa) (.int .i64 qb) (.int .i64 qc) (.int .i64 qd))
            clear hK K
            try simp only [Act.put, List.setIfInBounds_toArray, List.set_cons_zero, List.set_cons_succ]
            refine wpAnyH_ready (rs := [17]) (by kernel_rfl) (by simp) ?_
            refine AllReadyH.cons rfl (fun K hK => ?_) AllReadyH.nil
            go_simp
            refine hK.out _ _ ?_ (fun hHeld => ?_)
            · first | with_reducible assumption | exact HSf.out _ (grown_put5n hg5 (Nat.le_refl _) (.bool qf) (.int .i64 qa) (.int .i64 qb) (.int .i64 qc) (.int .i64 qd))
            clear hK K
            try simp only [Act.put, List.setIfInBounds_toArray, List.set_cons_zero, List.set_cons_succ]
            refine wpAnyH_done (by kernel_rfl) ?_ _
            go_wp2_with fail
            go_meet
            exact ⟨_, rfl, rfl, (hb.set5 (.bool qf) (.int .i64 qa) (.int .i64 qb) (.int .i64 qc) (.int .i64 qd)).cell 4, grown_put5n hg5 (Nat.le_refl _) (.bool qf) (.int .i64 qa) (.int .i64 qb) (.int .i64 qc) (.int .i64 qd)⟩
        case rest =>
          clear hw4 HSf HROW HROW2
          obtain ⟨V7, rfl, rfl, hc7, hgx⟩ := hcut
          rename World => wx
          have hR5 := HN.out.1.keep hgx
          have hP5 := HN.out.2.1.keep hgx
          have l4 : wx.cell? ⟨w3.heap.size, 4, none⟩ = some (.int .i64 d) := hP5.cell 4
          clear hgx
          rcases HNV0.out.2 with ⟨e1, e2⟩ | ⟨e1, e2⟩
          · dsimp only at e1
            subst e1; subst e2
            have HNV := Lib.hid HNV0.out.1
            clear HNV0
            have b3 : wx.cell? ⟨w2.heap.size, 0, none⟩ = some (.slice (some ⟨gt, 0, none⟩) 8 ct) := hR5.2.1.cell 0
            obtain ⟨p0, p1, p2, p3, p4⟩ := cells5 hP5
            have hR6 := hR5.keep (grown_drew (grown_refl wx none))
            obtain ⟨gl, cl, x, c0, c1, c2f, _, hgl, hne, hnb, hput⟩ := hR6.open_ HD.out.2.1 hk48 hf8 hj6
            have hst := of_new (f := f) (j := j) HX.out.2.1 rfl rfl rfl HNV.out
            have hfin := hput (k : Int) hst
            have n3 : gl ≠ w2.heap.size := hnb hR6.2.1 (by decide)
            have n5 : gl ≠ w3.heap.size := hnb (hP5.drew) (by decide)
            have m3 : w2.heap.size ≠ gl := fun e => n3 e.symm
            have m5 : w3.heap.size ≠ gl := fun e => n5 e.symm
            have mg : gt ≠ gl := fun e => hne e.symm
            have HSS := Lib.hid (And.intro ((hR6.2.1.far (p := ⟨gl, j, none⟩) m3 (.int .i64 (k : Int))).cell 0) (And.intro ((hP5.drew.far (p := ⟨gl, j, none⟩) m5 (.int .i64 (k : Int))).cell 1) (And.intro ((hP5.drew.far (p := ⟨gl, j, none⟩) m5 (.int .i64 (k : Int))).cell 2) ((World.cell?_setCell_other wx.drew ⟨gl, j, none⟩ ⟨gt, f, none⟩ (.int .i64 (k : Int)) (fun e => by injection e with e; omega)).trans c0))))
            have HZ := Lib.hid hfin
            clear hR5 hP5 hR6 hst hfin hput hnb
            go_wp2
            refine wp_region_held_drew (S := (fun w' => w'.cell? ⟨w2.heap.size, 0, none⟩ = some (.slice (some ⟨gt, 0, none⟩) 8 ct) ∧ w'.cell? ⟨w3.heap.size, 1, none⟩ = some (.int .i64 (f : Int)) ∧ w'.cell? ⟨w3.heap.size, 2, none⟩ = some (.int .i64 (j : Int)) ∧ w'.cell? ⟨gt, f, none⟩ = some (.slice (some ⟨gl, 0, none⟩) 6 cl))) (by kernel_rfl) ?_ (fun hHeld => ?_)
            · exact ⟨b3, p1, p2, c0⟩
            refine heldY 0 53 ?_
            refine heldY 1 54 ?_
            refine heldY 2 55 ?_
            refine heldY 3 56 ?_
            refine heldY 4 57 ?_
            refine heldY 5 58 ?_
            refine heldY 6 59 ?_
            refine heldY 7 60 ?_
            refine heldY 8 61 ?_
            refine heldY 9 62 ?_
            refine wpAnyH_ready (rs := [10]) (by kernel_rfl) (by simp) ?_
            refine AllReadyH.cons rfl (fun K hK => ?_) AllReadyH.nil
            go_simp
            refine hK.out _ _ ?_ (fun hHeld => ?_)
            · exact HSS.out
            clear hK K
            try simp only [Act.put, List.setIfInBounds_toArray, List.set_cons_zero, List.set_cons_succ]
            refine wpAnyH_done (by kernel_rfl) ?_ _
            go_wp2
            go_roundw
            case rel => exact ⟨k + 1, by go_num, by omega, HZ.out⟩
            case measure => simp [intOf]; omega
          · dsimp only at e1 e2
            subst e1
            by_cases hlt2 : qd < d
            · have e3 : V = true := by rw [e2]; exact decide_eq_true hlt2
              subst e3
              have HNV := Lib.hid HNV0.out.1
              clear HNV0 e2
              have b3 : wx.cell? ⟨w2.heap.size, 0, none⟩ = some (.slice (some ⟨gt, 0, none⟩) 8 ct) := hR5.2.1.cell 0
              obtain ⟨p0, p1, p2, p3, p4⟩ := cells5 hP5
              have hR6 := hR5.keep (grown_drew (grown_refl wx none))
              obtain ⟨gl, cl, x, c0, c1, c2f, _, hgl, hne, hnb, hput⟩ := hR6.open_ HD.out.2.1 hk48 hf8 hj6
              have hst := of_new (f := f) (j := j) HX.out.2.1 rfl rfl rfl HNV.out
              have hfin := hput (k : Int) hst
              have n3 : gl ≠ w2.heap.size := hnb hR6.2.1 (by decide)
              have n5 : gl ≠ w3.heap.size := hnb (hP5.drew) (by decide)
              have m3 : w2.heap.size ≠ gl := fun e => n3 e.symm
              have m5 : w3.heap.size ≠ gl := fun e => n5 e.symm
              have mg : gt ≠ gl := fun e => hne e.symm
              have HSS := Lib.hid (And.intro ((hR6.2.1.far (p := ⟨gl, j, none⟩) m3 (.int .i64 (k : Int))).cell 0) (And.intro ((hP5.drew.far (p := ⟨gl, j, none⟩) m5 (.int .i64 (k : Int))).cell 1) (And.intro ((hP5.drew.far (p := ⟨gl, j, none⟩) m5 (.int .i64 (k : Int))).cell 2) ((World.cell?_setCell_other wx.drew ⟨gl, j, none⟩ ⟨gt, f, none⟩ (.int .i64 (k : Int)) (fun e => by injection e with e; omega)).trans c0))))
              have HZ := Lib.hid hfin
              clear hR5 hP5 hR6 hst hfin hput hnb
              go_wp2
              refine wp_region_held_drew (S := (fun w' => w'.cell? ⟨w2.heap.size, 0, none⟩ = some (.slice (some ⟨gt, 0, none⟩) 8 ct) ∧ w'.cell? ⟨w3.heap.size, 1, none⟩ = some (.int .i64 (f : Int)) ∧ w'.cell? ⟨w3.heap.size, 2, none⟩ = some (.int .i64 (j : Int)) ∧ w'.cell? ⟨gt, f, none⟩ = some (.slice (some ⟨gl, 0, none⟩) 6 cl))) (by kernel_rfl) ?_ (fun hHeld => ?_)
              · exact ⟨b3, p1, p2, c0⟩
              refine heldY 0 53 ?_
              refine heldY 1 54 ?_
              refine heldY 2 55 ?_
              refine heldY 3 56 ?_
              refine heldY 4 57 ?_
              refine heldY 5 58 ?_
              refine heldY 6 59 ?_
              refine heldY 7 60 ?_
              refine heldY 8 61 ?_
              refine heldY 9 62 ?_
              refine wpAnyH_ready (rs := [10]) (by kernel_rfl) (by simp) ?_
              refine AllReadyH.cons rfl (fun K hK => ?_) AllReadyH.nil
              go_simp
              refine hK.out _ _ ?_ (fun hHeld => ?_)
              · exact HSS.out
              clear hK K
              try simp only [Act.put, List.setIfInBounds_toArray, List.set_cons_zero, List.set_cons_succ]
              refine wpAnyH_done (by kernel_rfl) ?_ _
              go_wp2
              go_roundw
              case rel => exact ⟨k + 1, by go_num, by omega, HZ.out⟩
              case measure => simp [intOf]; omega
            · have e3 : V = false := by rw [e2]; exact decide_eq_false hlt2
              have HZ := Lib.hid (hR5.next (of_less HX.out.2.1 (HNV0.out.1.trans e3)))
              clear HNV0 e2 e3 hR5 hP5
              go_wp2
              go_roundw
              case rel => exact ⟨k + 1, by go_num, by omega, HZ.out⟩
              case measure => simp [intOf]; omega
    · obtain rfl : k = 4 * n := by omega
      have z0 : wo.cell? ⟨w.heap.size, 0, none⟩ = some (.slice none 0 0) := hR.2.2.1.cell 0
      have z1 : wo.frozen? ⟨w.heap.size, 0, none⟩ = false := hR.2.2.1.frozen 0
      have b3 : wo.cell? ⟨w2.heap.size, 0, none⟩ = some (.slice (some ⟨gt, 0, none⟩) 8 ct) := hR.2.1.cell 0
      have e8 : decide (((4 * n : Nat) : Int) < 4 * (n : Int)) = false := decide_eq_false (by omega)
      obtain ⟨⟨cs, h1, h2, h3⟩, h4, h5, h6, h7⟩ := hR
      have HZ := Lib.hid (And.intro h1 (And.intro h2 (And.intro (h3.put h5 0 (.slice (some ⟨gt, 0, none⟩) 8 ct)) (grown_put h7 (p := ⟨w.heap.size, 0, none⟩) (Nat.le_refl _) (.slice (some ⟨gt, 0, none⟩) 8 ct)))))
      clear h1 h2 h3 h4 h5 h6 h7
      go_wp2
      exact bodyPost_ret (v := .agg #[.slice (some ⟨gt, 0, none⟩) 8 ct]) (by simp [results, Try.results74, go_sem, *]) rfl ⟨_, _, cs, rfl, HZ.out.1, HZ.out.2.1, HZ.out.2.2.1, HZ.out.2.2.2⟩
/-- What TableOf answers, by letters. -/
def TOfIs (bs : List Bk) (l : List (List Int)) (m : Nat) : Prop := tabOf bs = l ∧ l.length = m
theorem tof_is {n : Nat} {bs : List Bk} (hl : bs.length = n) : ∃ l m, TOfIs bs l m ∧ m ≤ 8 ∧ ∀ xs, xs ∈ l → xs.length = 6 := by
  refine ⟨tabOf bs, (tabOf bs).length, ⟨rfl, rfl⟩, ?_⟩
  cases hd : devB bs
  · rw [of_no hd]; simp
  · obtain ⟨⟨h1, h12⟩, _⟩ := dev_parts hd
    rw [of_yes hd]
    exact ⟨by rw [of_len hd (by omega)]; exact Nat.le_refl _, (of_inv hd _ (by omega)).tv.six⟩
theorem TOfIs.of {bs cs : List Bk} {l : List (List Int)} {m : Nat} (h : TOfIs bs l m) (e : cs.map Bk.is = bs.map Bk.is) : TOfIs cs l m := ⟨(of_is e).trans h.1, h.2⟩
theorem specTableOf_val {A : Option Addr} {n c m : Nat} {bs : List Bk} {l : List (List Int)} {w : World} (h : TOfIs bs l m) (hl : bs.length = n) (hr : DRow w w.heap.size A bs) (hn : n ≤ 1048576) (hp : ∀ b, b ∈ bs → b.ps.length ≤ 1048576) :
    Calls Try.prog 74 #[.slice A n c] w (TabMade l m w) := by
  obtain ⟨rfl, rfl⟩ := h
  cases hd : devB bs
  · rw [of_no hd]
    exact specTableOf_no A n c bs w hl hr hn hp hd
  · obtain ⟨⟨h1, h12⟩, _⟩ := dev_parts hd
    rw [of_yes hd, of_len hd (by omega), hl]
    exact specTableOf_yes A n c bs w hl hr hd
theorem tableOf_val {A : Option Addr} {n c m : Nat} {bs : List Bk} {l : List (List Int)} {w : World} (h : TOfIs bs l m) (hl : bs.length = n) (hr : DRow w w.heap.size A bs) (hn : n ≤ 1048576) (hp : ∀ b, b ∈ bs → b.ps.length ≤ 1048576) :
    Calls Try.prog 32 #[.slice A n c] w (TabMade l m w) := by
  obtain ⟨rfl, rfl⟩ := h
  cases hd : devB bs
  · rw [of_no hd]
    exact tableOf_no A n c bs w hl hr hn hp hd
  · obtain ⟨⟨h1, h12⟩, _⟩ := dev_parts hd
    rw [of_yes hd, of_len hd (by omega), hl]
    exact tableOf_yes A n c bs w hl hr hd
end Go.Proofs.Yteniikfgellhfaa
