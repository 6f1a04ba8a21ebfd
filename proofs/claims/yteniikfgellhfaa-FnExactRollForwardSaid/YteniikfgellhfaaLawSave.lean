/- What the exact laws of chapter 17 carry along: a save that came in, saves of the call's own in variables; their copies and marks. -/
import Derived.Test.YteniikfgellhfaaLawFiles
import Derived.Test.YteniikfgellhfaaSaves5
namespace Go.Proofs.Yteniikfgellhfaa
open Go.ChangeShapes Go.WideShapes Go.ChangeAt Go.RowKit Go.Deep
set_option linter.unusedVariables false
set_option linter.unusedSimpArgs false

theorem saveSum_kept {n V : Int} {A : Option Addr} {m c : Nat} {xs : List Int} {w : World} (hV : ssumV n xs = V) (hl : xs.length = m) (hr : IRow w w.heap.size A xs) (hm : m ≤ 1048576) :
    Calls Try.prog 127 #[.int .i64 n, .slice A m c] w (KeptV (.int .i64 V) w) := (saveSum_val hV hl hr hm).mono fun _ _ ⟨he, hw⟩ => ⟨he, by rw [hw]; exact grown_refl _ _⟩
theorem specSum_kept {n V : Int} {A : Option Addr} {m c : Nat} {xs : List Int} {w : World} (hV : ssumV n xs = V) (hl : xs.length = m) (hr : IRow w w.heap.size A xs) (hm : m ≤ 1048576) :
    Calls Try.prog 126 #[.int .i64 n, .slice A m c] w (KeptV (.int .i64 V) w) := (specSum_val hV hl hr hm).mono fun _ _ ⟨he, hw⟩ => ⟨he, by rw [hw]; exact grown_refl _ _⟩
/-! Saves that came in (V: their box), saves of the call's own in a variable V. -/
def SvA (w : World) (V : Nat) (N S : Int) (A : Option Addr) (n c : Nat) (xs : List Int) (wr : World) : Prop := Blk wr V 68 #[.int .i64 N, .slice A n c, .int .i64 S] ∧ IRow wr w.heap.size A xs ∧ w.heap.size ≤ V ∧ w.grownBy wr none
def SvV (w : World) (V : Nat) (N S : Int) (A : Option Addr) (n c : Nat) (xs : List Int) (lo hi : Nat) (wr : World) : Prop := Blk wr V 49 #[.int .i64 N, .slice A n c, .int .i64 S] ∧ VN w A n c xs lo hi wr ∧ hi ≤ V
section
variable {w wr w' : World} {A : Option Addr} {N S : Int} {V n c lo hi lox hix : Nat} {xs : List Int}
theorem SvA.keep (h : SvA w V N S A n c xs wr) (k : wr.grownBy w' none) : SvA w V N S A n c xs w' := ⟨h.1.keep k, VRow.kept h.2.1 k, h.2.2.1, grown_trans h.2.2.2 k⟩
theorem SvA.cells (h : SvA w V N S A n c xs wr) : wr.cell? ⟨V, 0, none⟩ = some (.int .i64 N) ∧ wr.cell? ⟨V, 1, none⟩ = some (.slice A n c) ∧ wr.cell? ⟨V, 2, none⟩ = some (.int .i64 S) := h.1.cells3.1
theorem SvA.row (h : SvA w V N S A n c xs wr) : IRow wr wr.heap.size A xs := VRow.here h.2.1
theorem SvA.marked (h : SvA w V N S A n c xs wr) (hlo : w.heap.size ≤ lox) (hV : V < lox) (k : Out lox hix wr w') : SvA w V N S A n c xs w' :=
  ⟨h.1.outV k (.inl hV), VRow.keep h.2.1 k.size fun q hq hz => World.cell?_of_block (k.block q.block hz (.inl (Nat.lt_of_lt_of_le hq hlo))), h.2.2.1, k.grown h.2.2.2 hlo⟩
theorem SvV.keep (h : SvV w V N S A n c xs lo hi wr) (k : wr.grownBy w' none) : SvV w V N S A n c xs lo hi w' := ⟨h.1.keep k, h.2.1.keep k, h.2.2⟩
theorem SvV.cells (h : SvV w V N S A n c xs lo hi wr) : wr.cell? ⟨V, 0, none⟩ = some (.int .i64 N) ∧ wr.cell? ⟨V, 1, none⟩ = some (.slice A n c) ∧ wr.cell? ⟨V, 2, none⟩ = some (.int .i64 S) := h.1.cells3.1
theorem SvV.row (h : SvV w V N S A n c xs lo hi wr) : IRow wr wr.heap.size A xs := h.2.1.row
theorem SvV.start (hG : w.grownBy wr none) (hl : xs.length = n) (ho : IOwn w' wr.heap.size (.slice A n c) xs) (hk : wr.grownBy w' none) :
    SvV w w'.heap.size N S A n c xs wr.heap.size w'.heap.size (w'.alloc (.cells #[.int .i64 N, .slice A n c, .int .i64 S] 49)) :=
  ⟨Blk.new w' _ _, (VN.made hG hl ho hk).keep (grown_alloc (grown_refl _ _) _), Nat.le_refl _⟩
theorem SvV.marked (h : SvV w V N S A n c xs lo hi wr) (hd : V < lox ∨ (hix ≤ lo ∧ hix ≤ V)) (hlo : w.heap.size ≤ lox) (k : Out lox hix wr w') : SvV w V N S A n c xs lo hi w' :=
  ⟨h.1.outV k (by omega), h.2.1.marked (by have := h.2.2; omega) hlo k, h.2.2⟩
theorem SvV.self (h : SvV w V N S A n c xs lo hi wr) (ho : IOwn w' lo (.slice A n c) (imarks 1 n)) (k : Out lo hi wr w') : SvV w V N S A n c (imarks 1 n) lo hi w' := ⟨h.1.outV k (.inr h.2.2), h.2.1.self ho k, h.2.2⟩
end
theorem SvA.arg {w : World} {N S : Int} {A : Option Addr} {n c : Nat} {xs : List Int} (h : IsInts w A n c xs) : SvA w w.heap.size N S A n c xs (w.alloc (.cells #[.int .i64 N, .slice A n c, .int .i64 S] 68)) := ⟨Blk.new w _ _, VRow.alloc h.2.2.2 _, Nat.le_refl _, grown_alloc (grown_refl _ _) _⟩
theorem SvA.arg2 {w : World} {N S N' S' : Int} {A A' : Option Addr} {n c n' c' : Nat} {xs : List Int} (h : IsInts w A n c xs) : SvA w (w.heap.size + 1) N S A n c xs ((w.alloc (.cells #[.int .i64 N', .slice A' n' c', .int .i64 S'] 68)).alloc (.cells #[.int .i64 N, .slice A n c, .int .i64 S] 68)) := by
  refine ⟨?_, VRow.alloc (VRow.alloc h.2.2.2 _) _, by omega, grown_alloc (grown_alloc (grown_refl _ _) _) _⟩
  have H := Blk.new (w.alloc (.cells #[.int .i64 N', .slice A' n' c', .int .i64 S'] 68)) 68 #[.int .i64 N, .slice A n c, .int .i64 S]
  simpa only [size_alloc1] using H
theorem szSave_any (N S : Int) (A : Option Addr) (n c : Nat) (L : Int) (w : World) (h0 : 0 ≤ L) (h1 : L ≤ 1048576) (hm : n ≤ 9223372036854775807) :
    Calls Try.prog 45 #[.agg #[.int .i64 N, .slice A n c, .int .i64 S], .int .i64 L] w fun e w' => ∃ v : Int, e = .returned (.int .i64 v) ∧ w.grownBy w' none ∧ ((v = -1) ∨ (0 ≤ v ∧ v ≤ L ∧ n ≤ 1048576)) := by
  have HG := Lib.hid (grown_alloc (grown_refl w none) (.cells #[.int .i64 N, .slice A n c, .int .i64 S] 68))
  go_enter Try.func45, Try.ntmps45
  go_wp2_with fail
  refine (szInts_any _ _ _ _ _ h0 h1 hm).mono ?_
  rintro e w1 ⟨v, rfl, rfl, hv⟩
  rcases hv with rfl | ⟨hv0, hv1⟩
  · go_wp2
    go_ret
    exact ⟨_, rfl, HG.out, .inl rfl⟩
  · have t2 : decide (v < 0) = false := decide_eq_false (by omega)
    have HV := Lib.hid hv1
    clear hv1
    go_wp2
    go_ret
    exact ⟨_, rfl, HG.out, .inr ⟨hv0, by have := HV.out; omega, by have := HV.out; omega⟩⟩
theorem IOwn.putC {w : World} {base V : Nat} {v : Value} {xs : List Int} {cc : Array Value} (h : IOwn w base v xs) (hb : Blk w V 49 cc) (i : Nat) (u : Value) : IOwn (w.setCell ⟨V, i, none⟩ u) base v xs := by
  refine VOwn.to_put h ?_ u
  rcases VOwn.form h with ⟨rfl, _⟩ | ⟨g, cap, rfl, _⟩
  · simp [Value.ownBlock]
  · intro e
    simp only [Value.ownBlock, Option.some.injEq] at e
    exact VOwn.ne_blk h hb (by decide) e
theorem toSave_any (N S : Int) (A : Option Addr) (n c : Nat) (xs : List Int) (w : World) (hl : xs.length = n) (hr : IRow w w.heap.size A xs) (hn : n ≤ 1048576) :
    Calls Try.prog 46 #[.agg #[.int .i64 N, .slice A n c, .int .i64 S]] w fun e w' => ∃ g, e = .returned (.agg #[.int .i64 N, .slice (some ⟨g, 0, none⟩) n n, .int .i64 S]) ∧ IOwn w' w.heap.size (.slice (some ⟨g, 0, none⟩) n n) xs ∧ w.grownBy w' none := by
  have h1 := (Blk.new (w.alloc (.cells #[.int .i64 N, .slice A n c, .int .i64 S] 68)) 49 #[.int .i64 0, .slice none 0 0, .int .i64 0]).alloc (.cells #[.int .i64 N, .slice none 0 0, .int .i64 0] 49)
  have h2 := Blk.new ((w.alloc (.cells #[.int .i64 N, .slice A n c, .int .i64 S] 68)).alloc (.cells #[.int .i64 0, .slice none 0 0, .int .i64 0] 49)) 49 #[.int .i64 N, .slice none 0 0, .int .i64 0]
  have h0 := ((Blk.new w 68 #[.int .i64 N, .slice A n c, .int .i64 S]).alloc (.cells #[.int .i64 0, .slice none 0 0, .int .i64 0] 49)).alloc (.cells #[.int .i64 N, .slice none 0 0, .int .i64 0] 49)
  have h3 := VRow.alloc (VRow.alloc (VRow.alloc hr (.cells #[.int .i64 N, .slice A n c, .int .i64 S] 68)) (.cells #[.int .i64 0, .slice none 0 0, .int .i64 0] 49)) (.cells #[.int .i64 N, .slice none 0 0, .int .i64 0] 49)
  have h4 := grown_alloc (grown_alloc (grown_alloc (grown_refl w none) (.cells #[.int .i64 N, .slice A n c, .int .i64 S] 68)) (.cells #[.int .i64 0, .slice none 0 0, .int .i64 0] 49)) (.cells #[.int .i64 N, .slice none 0 0, .int .i64 0] 49)
  simp only [size_alloc1] at h1 h2
  have HI := Lib.hid (And.intro h1 (And.intro h2 (And.intro h0 (And.intro (VRow.here h3) (And.intro h4 hl)))))
  clear hl hr h1 h2 h0 h3 h4
  go_enter Try.func46, Try.ntmps46
  go_wp2_with fail
  refine (toInts_any _ _ _ xs _ HI.out.2.2.2.2.2 HI.out.2.2.2.1 hn).mono ?_
  rintro e w1 ⟨g, rfl, ho, hk⟩
  have hs := HI.out.2.2.2.2.1.size
  have hB1 := HI.out.1.keep hk
  have hB2 := HI.out.2.1.keep hk
  have hB0 := HI.out.2.2.1.keep hk
  obtain ⟨⟨z0, z1, z2⟩, y0, y1, y2⟩ := hB1.cells3
  obtain ⟨⟨x0, x1, x2⟩, v0, v1, v2⟩ := hB2.cells3
  obtain ⟨u0, u1, u2⟩ := hB0.cells3.1
  have hG := grown_trans HI.out.2.2.2.2.1 hk
  have k1 := IOwn.putC (IOwn.putC (VOwn.base_le ho hs) hB2 1 (.slice (some ⟨g, 0, none⟩) n n)) (hB2.put 1 (.slice (some ⟨g, 0, none⟩) n n)) 2 (.int .i64 S)
  have b1 := ((hB1.far (p := ⟨w.heap.size + 1 + 1, 1, none⟩) (by dsimp only; omega) (.slice (some ⟨g, 0, none⟩) n n)).far (p := ⟨w.heap.size + 1 + 1, 2, none⟩) (by dsimp only; omega) (.int .i64 S))
  have HZ := Lib.hid (And.intro (IOwn.putS k1 b1 (.int .i64 N) (.slice (some ⟨g, 0, none⟩) n n) (.int .i64 S)) (grown_putS (grown_put (grown_put hG (p := ⟨w.heap.size + 1 + 1, 1, none⟩) (by dsimp only; omega) (.slice (some ⟨g, 0, none⟩) n n)) (p := ⟨w.heap.size + 1 + 1, 2, none⟩) (by dsimp only; omega) (.int .i64 S)) (V := w.heap.size + 1) (by omega) (.int .i64 N) (.slice (some ⟨g, 0, none⟩) n n) (.int .i64 S)))
  clear ho hk hs hB1 hB2 hB0 hG k1 b1
  go_wp2
  exact bodyPost_ret (v := .agg #[.int .i64 N, .slice (some ⟨g, 0, none⟩) n n, .int .i64 S]) (by simp [results, Try.results46, go_sem, *]) rfl ⟨g, rfl, HZ.out⟩
theorem eqSave_same (N S : Int) (A A' : Option Addr) (n c c' : Nat) (xs : List Int) (w : World) (hl : xs.length = n) (hr : IRow w w.heap.size A xs) (hr' : IRow w w.heap.size A' xs) (hn : n ≤ 1048576) :
    Calls Try.prog 47 #[.agg #[.int .i64 N, .slice A n c, .int .i64 S], .agg #[.int .i64 N, .slice A' n c', .int .i64 S]] w (KeptV (.bool true) w) := by
  have h0 := (Blk.new w 49 #[.int .i64 N, .slice A n c, .int .i64 S]).alloc (.cells #[.int .i64 N, .slice A' n c', .int .i64 S] 49)
  have h1 := Blk.new (w.alloc (.cells #[.int .i64 N, .slice A n c, .int .i64 S] 49)) 49 #[.int .i64 N, .slice A' n c', .int .i64 S]
  simp only [size_alloc1] at h1
  have HR := Lib.hid (And.intro hl (And.intro (VRow.here (VRow.alloc (VRow.alloc hr (.cells #[.int .i64 N, .slice A n c, .int .i64 S] 49)) (.cells #[.int .i64 N, .slice A' n c', .int .i64 S] 49))) (And.intro (VRow.here (VRow.alloc (VRow.alloc hr' (.cells #[.int .i64 N, .slice A n c, .int .i64 S] 49)) (.cells #[.int .i64 N, .slice A' n c', .int .i64 S] 49))) (And.intro h0 h1))))
  have t0 : (N != N) = false := by simp
  have t1 : (S != S) = false := by simp
  obtain ⟨p0, p1, p2⟩ := h0.cells3.1
  obtain ⟨q0, q1, q2⟩ := h1.cells3.1
  clear hl hr hr' h0 h1
  go_enter Try.func47, Try.ntmps47
  go_wp2_with fail
  refine (eqInts_val (V := true) (decide_eq_true rfl) HR.out.1 HR.out.1 HR.out.2.1 HR.out.2.2.1 hn hn).mono ?_
  rintro e w1 ⟨rfl, hk⟩
  have HG := Lib.hid (grown_trans (grown_alloc (grown_alloc (grown_refl w none) (.cells #[.int .i64 N, .slice A n c, .int .i64 S] 49)) (.cells #[.int .i64 N, .slice A' n c', .int .i64 S] 49)) hk)
  obtain ⟨r0, r1, r2⟩ := (HR.out.2.2.2.1.keep hk).cells3.1
  obtain ⟨s0, s1, s2⟩ := (HR.out.2.2.2.2.keep hk).cells3.1
  clear hk p0 p1 p2 q0 q1 q2
  go_wp2
  go_ret
  exact ⟨rfl, HG.out⟩
theorem markSave_from {w wr : World} {V n c lo hi : Nat} {N S : Int} {A : Option Addr} {xs : List Int} (K : Nat) (hK : K ≤ 7000000) (h : SvV w V N S A n c xs lo hi wr) (hn : n ≤ 1048576) :
    Calls Try.prog 48 #[.agg #[.int .i64 N, .slice A n c, .int .i64 S], .int .i64 (K : Int)] wr fun e w' => e = .returned (.int .i64 ((K + n : Nat) : Int)) ∧ IOwn w' lo (.slice A n c) (imarks K n) ∧ Out lo hi wr w' := by
  have h1 : wr.grownBy (wr.alloc (.cells #[.int .i64 N, .slice A n c, .int .i64 S] 49)) none := grown_alloc (grown_refl wr none) _
  have HO := Lib.hid (And.intro (h.2.1.keep h1) h1)
  clear h h1
  go_enter Try.func48, Try.ntmps48
  go_wp2_with fail
  refine (markInts_any A n c K lo xs _ HO.out.1.2.1 HO.out.1.1 hn (by omega)).mono ?_
  rintro e w1 ⟨rfl, ho, hk⟩
  have HZ := Lib.hid (And.intro ho ((Out.of_grown HO.out.2 (fun g e => by cases e)).trans (Out.of_grown hk fun g e => HO.out.1.at_ e)))
  clear ho hk
  go_wp2
  go_ret
  exact ⟨rfl, HZ.out⟩
theorem markSave_val {w wr : World} {V n c lo hi : Nat} {N S v : Int} {A : Option Addr} {xs : List Int} (hv : v = ((1 + n : Nat) : Int)) (h : SvV w V N S A n c xs lo hi wr) (hn : n ≤ 1048576) :
    Calls Try.prog 48 #[.agg #[.int .i64 N, .slice A n c, .int .i64 S], .int .i64 1] wr fun e w' => e = .returned (.int .i64 v) ∧ IOwn w' lo (.slice A n c) (imarks 1 n) ∧ Out lo hi wr w' := by
  subst hv
  exact markSave_from 1 (by omega) h hn
theorem saveV_small {xss : List (List Int)} {n M S : Int} {X : List Int} (h : saveV xss n = (M, X, S)) : X.length ≤ 1048576 := by
  unfold saveV at h
  split at h
  · rename_i hb
    simp only [saveB, Bool.and_eq_true] at hb
    injection h with _ h
    injection h with h _
    rw [← h, tab_flat hb.1]
    omega
  · injection h with _ h
    injection h with h _
    rw [← h]
    simp
theorem ltot_rows (X : List Int) : ltot (rowsOf X) ≤ 1048576 := by
  have h : ∀ (l : List Nat), ((l.map fun f => (X.drop (6 * f)).take 6).map List.length).sum ≤ 6 * l.length := fun l => by
    induction l with
    | nil => simp
    | cons a r ih =>
      simp only [List.map_cons, List.sum_cons, List.length_cons]
      have := List.length_take_le 6 (X.drop (6 * a))
      omega
  have := h (List.range 8)
  rw [List.length_range] at this
  exact Nat.le_trans this (by omega)
theorem loadV_small {N S : Int} {X : List Int} {T : List (List Int)} {ok : Bool} (h : loadV N X S = (T, ok)) : T.length ≤ 1048576 ∧ ltot T ≤ 1048576 := by
  unfold loadV at h
  split at h
  · injection h with h _
    rw [← h]
    exact ⟨by rw [rowsOf_length]; omega, ltot_rows X⟩
  · injection h with h _
    rw [← h]
    exact ⟨by simp, by simp [ltot]⟩
end Go.Proofs.Yteniikfgellhfaa
