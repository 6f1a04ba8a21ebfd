/- What SaveTable answers: the program's and the model's. -/
import Derived.Test.YteniikfgellhfaaSaves
namespace Go.Proofs.Yteniikfgellhfaa
open Go.ChangeShapes Go.WideShapes Go.ChangeAt Go.RowKit
set_option linter.unusedVariables false

/-- append(u, s...): numbers that are read (there are some) behind those of the call's own. -/
theorem push_ints {w wq : World} {u : Value} {xs ys : List Int} {A : Option Addr} {B m c : Nat} (h : IOwn wq w.heap.size u xs) (hr : IRow wq B A ys) (hl : ys.length = m) (hpos : 0 < m) (hb : w.heap.size ≤ wq.heap.size) (hn : xs.length + m ≤ 1000000) :
    ∃ u' w', (∀ ty, (Builtin.append_ #[26, 26] ty #[u, .slice A m c]).run Try.prog wq = .ok u' w') ∧ IOwn w' w.heap.size u' (xs ++ ys) ∧ wq.grownBy w' u.ownBlock := by
  have h1 := h
  unfold IOwn VOwn at h1
  rw [iv_length] at h1
  obtain ⟨u', w', hrun, h2, h3, _⟩ := append_ints _ w.heap.size u xs.length A B m c ys (iv xs) h1 hr hl hpos (by omega) hb
  refine ⟨u', w', hrun, ?_, h3⟩
  unfold IOwn VOwn
  rw [iv_length, List.length_append, iv_append, hl]
  exact h2
theorem iown_nil (w : World) (base : Nat) : IOwn w base (.slice none 0 0) [] := World.ownsRow_nil _ _ _ _
theorem take_flat {xss : List (List Int)} {f : Nat} {xs : List Int} (h : xss[f]? = some xs) : (xss.take f).flatten ++ xs = (xss.take (f + 1)).flatten := by
  rw [take_at h, List.flatten_append]
  simp
theorem flat_short {xss : List (List Int)} (h8 : xss.length = 8) (h6 : ∀ xs, xs ∈ xss → xs.length = 6) (f : Nat) (hf : f ≤ 8) : (xss.take f).flatten.length = 6 * f := by
  rw [flat_len _ fun xs hx => h6 xs (List.mem_of_mem_take hx), List.length_take, h8, Nat.min_eq_left hf]
/-- A save whose numbers lie in memory of their own is returned. -/
def SaveMade (N : Int) (X : List Int) (S : Int) (w : World) (e : Ending) (w' : World) : Prop :=
  ∃ (A : Option Addr) (k c : Nat), e = .returned (.agg #[.int .i64 N, .slice A k c, .int .i64 S]) ∧ X.length = k ∧ IOwn w' w.heap.size (.slice A k c) X ∧ w.grownBy w' none
/-- What SaveTable answers: a number, pages, a sum. -/
def saveV (xss : List (List Int)) (n : Int) : Int × List Int × Int := if saveB xss n then (n, xss.flatten, ssumV n xss.flatten) else (0, [], 0)
theorem saveV_no {xss : List (List Int)} {n : Int} (h : saveB xss n = false) : saveV xss n = (0, [], 0) := by simp [saveV, h]
theorem saveV_yes {xss : List (List Int)} {n : Int} (h : saveB xss n = true) : saveV xss n = (n, xss.flatten, ssumV n xss.flatten) := by simp [saveV, h]
/-- A boxed table, a save's variable, and the table that came in. -/
def TInS (w : World) (A : Option Addr) (n c : Nat) (ls : List Li) (wr : World) : Prop := Blk wr w.heap.size 40 #[.slice A n c] ∧ Blk wr (w.heap.size + 1) 49 #[.int .i64 0, .slice none 0 0, .int .i64 0] ∧ TRow wr w.heap.size A ls ∧ w.grownBy wr none
section
variable {w wr w' : World} {A : Option Addr} {n c : Nat} {ls : List Li}
theorem TInS.start (hr : TRow w w.heap.size A ls) (n c : Nat) : TInS w A n c ls ((w.alloc (.cells #[.slice A n c] 40)).alloc (.cells #[.int .i64 0, .slice none 0 0, .int .i64 0] 49)) := by
  refine ⟨(Blk.new w _ _).alloc _, ?_, (hr.alloc _).alloc _, grown_alloc (grown_alloc (grown_refl _ _) _) _⟩
  have H := Blk.new (w.alloc (.cells #[.slice A n c] 40)) 49 #[.int .i64 0, .slice none 0 0, .int .i64 0]
  simpa only [size_alloc1] using H
theorem TInS.keep (H : TInS w A n c ls wr) (k : wr.grownBy w' none) : TInS w A n c ls w' := ⟨H.1.keep k, H.2.1.keep k, H.2.2.1.kept k, grown_trans H.2.2.2 k⟩
end
/-- A save is written to its variable. -/
def putS (w : World) (V : Nat) (u0 u1 u2 : Value) : World := ((w.setCell ⟨V, 0, none⟩ u0).setCell ⟨V, 1, none⟩ u1).setCell ⟨V, 2, none⟩ u2
theorem grown_putS {a w : World} {V : Nat} (h : a.grownBy w none) (hp : a.heap.size ≤ V) (u0 u1 u2 : Value) : a.grownBy (putS w V u0 u1 u2) none :=
  grown_put (grown_put (grown_put h (p := ⟨V, 0, none⟩) hp u0) (p := ⟨V, 1, none⟩) hp u1) (p := ⟨V, 2, none⟩) hp u2
theorem IOwn.putS {w : World} {base V : Nat} {v : Value} {xs : List Int} {cc : Array Value} (h : IOwn w base v xs) (hb : Blk w V 49 cc) (u0 u1 u2 : Value) : IOwn (Go.Proofs.Yteniikfgellhfaa.putS w V u0 u1 u2) base v xs := by
  have e : v.ownBlock ≠ some V := by
    rcases VOwn.form h with ⟨rfl, _⟩ | ⟨g, cap, rfl, _⟩
    · simp [Value.ownBlock]
    · intro e
      simp only [Value.ownBlock, Option.some.injEq] at e
      exact VOwn.ne_blk h hb (by decide) e
  exact VOwn.to_put (VOwn.to_put (VOwn.to_put h (p := ⟨V, 0, none⟩) e u0) (p := ⟨V, 1, none⟩) e u1) (p := ⟨V, 2, none⟩) e u2
theorem Blk.cells3 {w : World} {V : Nat} {t : TypeId} {a b c : Value} (h : Blk w V t #[a, b, c]) :
    (w.cell? ⟨V, 0, none⟩ = some a ∧ w.cell? ⟨V, 1, none⟩ = some b ∧ w.cell? ⟨V, 2, none⟩ = some c) ∧ w.frozen? ⟨V, 0, none⟩ = false ∧ w.frozen? ⟨V, 1, none⟩ = false ∧ w.frozen? ⟨V, 2, none⟩ = false :=
  ⟨⟨h.cell 0, h.cell 1, h.cell 2⟩, h.frozen 0, h.frozen 1, h.frozen 2⟩
theorem specSave_tab (A : Option Addr) (n c : Nat) (ls : List Li) (N : Int) (w : World) (hl : ls.length = n) (hr : TRow w w.heap.size A ls) (hn : n ≤ 1048576) (hp : ∀ l, l ∈ ls → l.xs.length ≤ 1048576) (hv : tabB (ll ls) = false) :
    Calls Try.prog 103 #[.agg #[.slice A n c], .int .i64 N] w (SaveMade 0 [] 0 w) := by
  have HT := Lib.hid (TInS.start hr n c)
  have HP := Lib.hid (And.intro hl (And.intro hp hv))
  clear hl hr hp hv
  go_enter Try.func103, Try.ntmps103
  go_wp2_with fail
  refine (specTabValid_val HP.out.2.2 HP.out.1 HT.out.2.2.1.here hn HP.out.2.1).mono ?_
  rintro e w1 ⟨rfl, hk⟩
  have HK := Lib.hid (HT.out.keep hk)
  clear hk
  obtain ⟨⟨z0, z1, z2⟩, y0, y1, y2⟩ := HK.out.2.1.cells3
  go_wp2
  exact bodyPost_ret (v := .agg #[.int .i64 0, .slice none 0 0, .int .i64 0]) (by simp [results, Try.results103, go_sem, *]) rfl ⟨none, 0, 0, rfl, rfl, iown_nil _ _, grown_putS HK.out.2.2.2 (by omega) _ _ _⟩
theorem specSave_num (A : Option Addr) (n c : Nat) (ls : List Li) (N : Int) (w : World) (hl : ls.length = n) (hr : TRow w w.heap.size A ls) (hn : n ≤ 1048576) (hp : ∀ l, l ∈ ls → l.xs.length ≤ 1048576) (hv : tabB (ll ls) = true) (hN : inB N 0 1000000 = false) :
    Calls Try.prog 103 #[.agg #[.slice A n c], .int .i64 N] w (SaveMade 0 [] 0 w) := by
  have HT := Lib.hid (TInS.start hr n c)
  have HP := Lib.hid (And.intro hl (And.intro hp (And.intro hv hN)))
  clear hl hr hp hv hN
  go_enter Try.func103, Try.ntmps103
  go_wp2_with fail
  refine (specTabValid_val HP.out.2.2.1 HP.out.1 HT.out.2.2.1.here hn HP.out.2.1).mono ?_
  rintro e w1 ⟨rfl, hk⟩
  have HK := Lib.hid (HT.out.keep hk)
  clear hk
  obtain ⟨⟨z0, z1, z2⟩, y0, y1, y2⟩ := HK.out.2.1.cells3
  go_wp2_with (go_at_call 95; refine (in_val HP.out.2.2.2 _).mono ?_; rintro e w' ⟨rfl, rfl⟩)
  exact bodyPost_ret (v := .agg #[.int .i64 0, .slice none 0 0, .int .i64 0]) (by simp [results, Try.results103, go_sem, *]) rfl ⟨none, 0, 0, rfl, rfl, iown_nil _ _, grown_putS HK.out.2.2.2 (by omega) _ _ _⟩
theorem TInS.grown {w wr w' : World} {A : Option Addr} {n c : Nat} {ls : List Li} {u : Value} {xs : List Int} (H : TInS w A n c ls wr) (hu : IOwn wr w.heap.size u xs) (hg : wr.grownBy w' u.ownBlock) : TInS w A n c ls w' := by
  have ne : ∀ {V : Nat} {t : TypeId} {cc : Array Value}, Blk wr V t cc → 3 ≠ t → some V ≠ u.ownBlock := fun {V t cc} hb ht => by
    rcases VOwn.form hu with ⟨rfl, _⟩ | ⟨g, cap, rfl, _⟩
    · simp [Value.ownBlock]
    · intro e
      simp only [Value.ownBlock, Option.some.injEq] at e
      exact VOwn.ne_blk hu hb ht e.symm
  exact ⟨H.1.grown hg (ne H.1 (by decide)), H.2.1.grown hg (ne H.2.1 (by decide)), H.2.2.1.grown hg (fun g e => (VOwn.lt hu g e).1), grown_joinR H.2.2.2 hg (fun g e => (VOwn.lt hu g e).1)⟩
theorem specSave_yes (A : Option Addr) (n c : Nat) (ls : List Li) (N : Int) (w : World) (hl : ls.length = n) (hr : TRow w w.heap.size A ls) (hp : ∀ l, l ∈ ls → l.xs.length ≤ 1048576) (hv : tabB (ll ls) = true) (hN : inB N 0 1000000 = true) :
    Calls Try.prog 103 #[.agg #[.slice A n c], .int .i64 N] w (SaveMade N (ll ls).flatten (ssumV N (ll ls).flatten) w) := by
  obtain ⟨h8, g, off, _, _, _, _, _, rfl, _⟩ := hr.open_ hv (show 0 < 8 by omega) (show 0 < 6 by omega)
  have en : n = 8 := by omega
  subst en
  have HT := Lib.hid (TInS.start hr 8 c)
  have HP := Lib.hid (And.intro hl (And.intro hp (And.intro hv (And.intro hN (tab_shape hv)))))
  have h48 := tab_flat hv
  obtain ⟨S, hS⟩ : ∃ S, ssumV N (ll ls).flatten = S := ⟨_, rfl⟩
  rw [hS]
  have HX := Lib.hid (And.intro h48 hS)
  clear hl hr hp hv hN h48 hS h8
  go_enter Try.func103, Try.ntmps103
  go_wp2_with fail
  refine (specTabValid_val HP.out.2.2.1 HP.out.1 HT.out.2.2.1.here (by omega) HP.out.2.1).mono ?_
  rintro e w1 ⟨rfl, hk⟩
  have HK := Lib.hid (HT.out.keep hk)
  have HI := Lib.hid (And.intro (iown_lit0 w1 w.heap.size HK.out.2.2.2.size) (HK.out.keep (grown_alloc (grown_refl w1 none) (.cells #[] 3))))
  clear hk
  go_wp2_with (go_at_call 95; refine (in_val HP.out.2.2.2.1 _).mono ?_; rintro e w' ⟨rfl, rfl⟩)
  go_loopw [5, 6] (fun u i wr => ∃ f : Nat, i = .int .i64 f ∧ f ≤ 8 ∧ IOwn wr w.heap.size u ((ll ls).take f).flatten ∧ TInS w (some ⟨g, off, none⟩) 8 c ls wr) (fun u i _ => 8 - (intOf i).toNat)
  case atStart => exact ⟨0, rfl, Nat.zero_le _, HI.out.1, HI.out.2⟩
  case round =>
    rename World => wq
    clear HI HK HT
    obtain ⟨f, rfl, hf, hi, hT⟩ := hrel
    by_cases hf8 : f < 8
    · have f8 : (f : Int) < 8 := by omega
      have f0 : decide ((0 : Int) ≤ f) = true := decide_eq_true (by omega)
      obtain ⟨gx, ox, cl, xs, hll, h6⟩ := hT.2.2.1.list HP.out.2.2.1 hf8
      have b0 := hT.1.cell 0
      have c0 := hT.2.2.1.cellf hll h6
      have hlen := flat_short HP.out.2.2.2.2.1 HP.out.2.2.2.2.2 f hf
      obtain ⟨u', w2, hrun, hi2, hg2⟩ := push_ints (c := cl) hi (hT.2.2.1.inner hll) h6 (by omega) hT.2.2.2.size (by omega)
      rw [take_flat (ll_at hll)] at hi2
      have HZ := Lib.hid (And.intro hi2 (hT.grown hi hg2))
      have HRUN := Lib.hid hrun
      clear hi hT hll h6 hi2 hg2 hrun hlen
      go_wp2_with (at_builtin; refine wpList_append_run _ rfl (.tmp 21) (.tmp 26) _ _ rfl _ _ rfl rfl HRUN.out ?_)
      go_roundw
      case rel => exact ⟨f + 1, by go_num, by omega, HZ.out.1, HZ.out.2⟩
      case measure => simp [intOf]; omega
    · obtain rfl : f = 8 := by omega
      rw [List.take_of_length_le (by rw [HP.out.2.2.2.2.1]; exact Nat.le_refl _)] at hi
      have HO := Lib.hid (And.intro hi hT)
      obtain ⟨Au, cu, e⟩ := IOwn.slice hi
      rw [HX.out.1] at e
      subst e
      have HR := Lib.hid (VOwn.row hi)
      obtain ⟨⟨z0, z1, z2⟩, y0, y1, y2⟩ := hT.2.1.cells3
      clear hi hT
      go_wp2_with (go_at_call 126; refine (specSum_val HX.out.2 HX.out.1 HR.out (by omega)).mono ?_; rintro e w' ⟨rfl, rfl⟩)
      exact bodyPost_ret (v := .agg #[.int .i64 N, .slice Au 48 cu, .int .i64 S]) (by simp [results, Try.results103, go_sem, *]) rfl ⟨Au, 48, cu, rfl, HX.out.1, IOwn.putS HO.out.1 HO.out.2.2.1 _ _ _, grown_putS HO.out.2.2.2.2 (by omega) _ _ _⟩
theorem specSave_any (A : Option Addr) (n c : Nat) (ls : List Li) (N : Int) (w : World) (hl : ls.length = n) (hr : TRow w w.heap.size A ls) (hn : n ≤ 1048576) (hp : ∀ l, l ∈ ls → l.xs.length ≤ 1048576) :
    Calls Try.prog 103 #[.agg #[.slice A n c], .int .i64 N] w (SaveMade (saveV (ll ls) N).1 (saveV (ll ls) N).2.1 (saveV (ll ls) N).2.2 w) := by
  cases hv : tabB (ll ls)
  · rw [saveV_no (by simp [saveB, hv])]
    exact specSave_tab A n c ls N w hl hr hn hp hv
  · cases hN : inB N 0 1000000
    · rw [saveV_no (by simp [saveB, hN])]
      exact specSave_num A n c ls N w hl hr hn hp hv hN
    · rw [saveV_yes (by simp [saveB, hv, hN])]
      exact specSave_yes A n c ls N w hl hr hp hv hN
theorem specSave_val {A : Option Addr} {n c : Nat} {ls : List Li} {N M S : Int} {X : List Int} {w : World} (hV : saveV (ll ls) N = (M, X, S)) (hl : ls.length = n) (hr : TRow w w.heap.size A ls) (hn : n ≤ 1048576) (hp : ∀ l, l ∈ ls → l.xs.length ≤ 1048576) :
    Calls Try.prog 103 #[.agg #[.slice A n c], .int .i64 N] w (SaveMade M X S w) := by
  have h := specSave_any A n c ls N w hl hr hn hp
  rw [hV] at h
  exact h
end Go.Proofs.Yteniikfgellhfaa
