/- Chapter 4, further: copies and new blocks of both.
   Chapter 4, further: the model's copy. -/
import Derived.Test.YtfiajbkmklcaiaaBlocks2
import Derived.Test.YtfiajbkmklcaiaaHand
namespace Go.Proofs.Ytfiajbkmklcaiaa
open Go.ChangeShapes Go.WideShapes Go.ChangeAt Go.RowKit

/-- A block is returned whose n pages lie in memory of its own. -/
def Made (m : Int) (n : Nat) (ps : List Pg) (w : World) (e : Ending) (w' : World) : Prop :=
  ∃ A c, e = .returned (.agg #[.int .i64 m, .slice A n c]) ∧ ps.length = n ∧ Own w' w.heap.size (.slice A n c) ps ∧ w.grownBy w' none
/-- The zero value is returned. -/
theorem made_zero {w w' : World} (h : w.grownBy w' none) : Made 0 0 [] w (.returned (.agg #[.int .i64 0, .slice none 0 0])) w' := ⟨none, 0, rfl, rfl, World.ownsRow_nil _ _ _ _, h⟩
theorem Own.to_put {w : World} {base g k : Nat} {v : Value} {ps : List Pg} (h : Own w base v ps) (hv : v.ownBlock ≠ some g) (u : Value) : Own (w.setCell ⟨g, k, none⟩ u) base v ps :=
  h.kept (grown_set (g := g) (grown_refl _ _) (.inl rfl) u) (.inr hv)

theorem specNewBlock_any (m : Int) (w : World) (h : inB m 0 100 = true) :
    Calls Try.prog 95 #[.int .i64 m] w (Made m 4 [pz, pz, pz, pz] w) := by
  have hO := own_made4 (w.alloc (.cells #[.int .i64 m, .slice (some ⟨w.heap.size + 1, 0, none⟩) 4 4] 96)) w.heap.size (by simp)
  simp only [size_alloc1] at hO
  have hmk := fun W => make_pages4 W
  have HX := Lib.hid (And.intro h hO)
  clear h hO
  go_enter Try.func95, Try.ntmps95
  go_wp2_with (go_at_call 55; refine (in_any _ _ _ _).mono ?_; rintro e w' ⟨rfl, rfl⟩; rw [HX.out.1])
  exact bodyPost_ret (v := .agg #[.int .i64 m, .slice (some ⟨w.heap.size + 1, 0, none⟩) 4 4]) (by simp [results, Try.results95, go_sem, *]) rfl
    ⟨_, _, rfl, rfl, HX.out.2, by repeat (first | exact grown_refl _ _ | refine grown_put ?_ (by simp) _ | refine grown_alloc ?_ _)⟩
theorem specNewBlock_no (m : Int) (w : World) (h : inB m 0 100 = false) :
    Calls Try.prog 95 #[.int .i64 m] w (Made 0 0 [] w) := by
  have HX := Lib.hid h
  clear h
  go_enter Try.func95, Try.ntmps95
  go_wp2_with (go_at_call 55; refine (in_any _ _ _ _).mono ?_; rintro e w' ⟨rfl, rfl⟩; rw [HX.out])
  exact bodyPost_ret (v := .agg #[.int .i64 0, .slice none 0 0]) (by simp [results, Try.results95, go_sem]) rfl (made_zero (by repeat (first | exact grown_refl _ _ | refine grown_put ?_ (by simp) _ | refine grown_alloc ?_ _)))
end Go.Proofs.Ytfiajbkmklcaiaa
namespace Go.Proofs.Ytfiajbkmklcaiaa
open Go.ChangeShapes Go.WideShapes Go.ChangeAt Go.RowKit

theorem wp_append_run {P : Program} (w : World) {o : Oper} {a : Act} {K : Act → World → Prop} {Q : Exit → Act → World → Prop} (d s : Operand) (t t' : TypeId)
    (ho : o.op = .call { callee := .builtin .append, args := #[d, s], argTypes := #[t, t'] }) (v u : Value) (hd : a.eval d = v) (hs : a.eval s = u) {v' : Value} {w' : World}
    (hr : ∀ ty, (Builtin.append_ #[t, t'] ty #[v, u]).run P w = .ok v' w') (h : K (a.put o.dst v') w') : o.wp P a w K Q := by
  unfold Oper.wp execOp
  simp only [ho, resolve, invoke, builtin, Sem.run_bind, Sem.run_pure, Result.andThen_ok, List.map_toArray, List.map_cons, List.map_nil, hd, hs, hr]
  exact h
theorem step_append_run {P : Program} (w : World) {ops : Array Oper} {o : Oper} {a : Act} {K : Act → World → Prop} {Q : Exit → Act → World → Prop} {E : Prop} (hgd : o.guard = none) (d s : Operand) (t t' : TypeId)
    (ho : o.op = .call { callee := .builtin .append, args := #[d, s], argTypes := #[t, t'] }) (v u : Value) (hd : a.eval d = v) (hs : a.eval s = u) {v' : Value} {w' : World}
    (hr : ∀ ty, (Builtin.append_ #[t, t'] ty #[v, u]).run P w = .ok v' w') (h : K (a.put o.dst v') w') : if Region.wanted o (yielded ops a.tmps) = true then o.wp P a w K Q else E := by
  have hw : Region.wanted o (yielded ops a.tmps) = true := by simp [Region.wanted, hgd]
  rw [if_pos hw]
  exact wp_append_run w d s t t' ho v u hd hs hr h
theorem specCopy_any (m : Int) (A : Option Addr) (c n : Nat) (ps : List Pg) (w : World) (hl : ps.length = n) (hr : Row w w.heap.size A ps) (hpos : 0 < n) (hn : n ≤ 1048576) :
    Calls Try.prog 123 #[.agg #[.int .i64 m, .slice A n c]] w (Made m n ps w) := by
  have hR := (((hr.alloc (.cells #[.int .i64 m, .slice A n c] 96)).alloc (.cells #[.int .i64 0, .slice none 0 0] 96)).alloc (.cells #[] 37)).drew
  have hO : Own (((w.alloc (.cells #[.int .i64 m, .slice A n c] 96)).alloc (.cells #[.int .i64 0, .slice none 0 0] 96)).alloc (.cells #[] 37)).drew w.heap.size (.slice (some ⟨w.heap.size + 1 + 1, 0, none⟩) 0 0) [] := by
    have h := World.ownsRow_lit (base := w.heap.size) (e := 37) (size := 5) ((w.alloc (.cells #[.int .i64 m, .slice A n c] 96)).alloc (.cells #[.int .i64 0, .slice none 0 0] 96)) #[] 0 (by simp only [size_alloc1]; omega) (by simp) rfl
    simp only [size_alloc1] at h
    exact h
  obtain ⟨v3, w3, hrun, hown, hg3⟩ := append_pages _ _ _ _ c _ _ n ps hl hpos hn hO hR (by simp only [World.drew, size_alloc1]; omega)
  have hB := (((Blk.new w 96 #[.int .i64 m, .slice A n c]).alloc (.cells #[.int .i64 0, .slice none 0 0] 96)).alloc (.cells #[] 37)).drew.grown hg3 (by intro e; injection e with e; omega)
  have hC := ((Blk.new (w.alloc (.cells #[.int .i64 m, .slice A n c] 96)) 96 #[.int .i64 0, .slice none 0 0]).alloc (.cells #[] 37)).drew.grown hg3 (by intro e; injection e with e; simp only [size_alloc1] at e; omega)
  simp only [size_alloc1] at hC
  have hG := grown_join (grown_drew (grown_alloc (grown_alloc (grown_alloc (grown_refl w none) (.cells #[.int .i64 m, .slice A n c] 96)) (.cells #[.int .i64 0, .slice none 0 0] 96)) (.cells #[] 37))) hg3 (by omega)
  have b0 : w3.cell? ⟨w.heap.size, 0, none⟩ = some (.int .i64 m) := hB.cell 0
  have b1 : w3.cell? ⟨w.heap.size, 1, none⟩ = some (.slice A n c) := hB.cell 1
  have r0 : w3.cell? ⟨w.heap.size + 1, 0, none⟩ = some (.int .i64 0) := hC.cell 0
  have r1 : w3.cell? ⟨w.heap.size + 1, 1, none⟩ = some (.slice none 0 0) := hC.cell 1
  have q0 : w3.frozen? ⟨w.heap.size + 1, 0, none⟩ = false := hC.frozen 0
  have q1 : w3.frozen? ⟨w.heap.size + 1, 1, none⟩ = false := hC.frozen 1
  rcases hown.form with ⟨_, rfl⟩ | ⟨g3, c3, rfl, hb3, _, _, _⟩
  · exact absurd hl (by simp; omega)
  have hne : g3 ≠ w.heap.size + 1 := by
    rcases hown.2 with ⟨e, _⟩ | ⟨g', cap, cur, e, _, hh, _⟩
    · cases e
    · injection e with e; injection e with e; injection e with e; subst e
      rintro rfl
      unfold Blk at hC
      rw [hh] at hC
      injection hC with hC
      injection hC with _ ht
      exact absurd ht (by decide)
  rw [hl] at hrun hown
  have HX := Lib.hid (And.intro hl (And.intro hown (And.intro hG hne)))
  clear hR hO hown hg3 hB hC hG hl hr hb3 hne
  go_enter Try.func123, Try.ntmps123
  go_wp2_with fail
  refine wp_region_held_drew (S := (fun w' => w'.cell? ⟨w.heap.size, 0, none⟩ = some (.int .i64 m) ∧ w'.cell? ⟨w.heap.size, 1, none⟩ = some (.slice A n c))) (by kernel_rfl) ?_ (fun hHeld => ?_)
  · first | go_keep | exact ⟨b0, b1⟩
  refine held_yes (i := 0) (d := some 3) (v := ?_) rfl rfl (by kernel_rfl) (by kernel_rfl) (by kernel_rfl) (fun _ _ _ h => h) (by rfl) ?_ (by assumption) ?_
  rotate_left
  · (intro w hSw; (try dsimp only at hSw); go_simp; (first | done | with_reducible rfl))
  try simp only [Act.put, List.setIfInBounds_toArray, List.set_cons_zero, List.set_cons_succ]
  refine held_yes (i := 1) (d := some 4) (v := ?_) rfl rfl (by kernel_rfl) (by kernel_rfl) (by kernel_rfl) (fun _ _ _ h => h) (by rfl) ?_ (by assumption) ?_
  rotate_left
  · (intro w hSw; (try dsimp only at hSw); go_simp; (first | done | with_reducible rfl))
  try simp only [Act.put, List.setIfInBounds_toArray, List.set_cons_zero, List.set_cons_succ]
  refine held_yes (i := 3) (d := some 6) (v := ?_) rfl rfl (by kernel_rfl) (by kernel_rfl) (by kernel_rfl) (fun _ _ _ h => h) (by rfl) ?_ (by assumption) ?_
  rotate_left
  · (intro w hSw; (try dsimp only at hSw); go_simp; (first | done | with_reducible rfl))
  try simp only [Act.put, List.setIfInBounds_toArray, List.set_cons_zero, List.set_cons_succ]
  refine held_yes (i := 4) (d := some 7) (v := ?_) rfl rfl (by kernel_rfl) (by kernel_rfl) (by kernel_rfl) (fun _ _ _ h => h) (by rfl) ?_ (by assumption) ?_
  rotate_left
  · (intro w hSw; (try dsimp only at hSw); go_simp; (first | done | with_reducible rfl))
  try simp only [Act.put, List.setIfInBounds_toArray, List.set_cons_zero, List.set_cons_succ]
  refine wpAnyH_ready (rs := [2]) (by kernel_rfl) (by simp) ?_
  refine AllReadyH.cons rfl (fun K hK => ?_) AllReadyH.nil
  go_simp
  skip
  refine hK.out _ _ ?_ (fun hHeld => ?_)
  · first | go_keep | exact ⟨b0, b1⟩
  clear hK K
  try simp only [Act.put, List.setIfInBounds_toArray, List.set_cons_zero, List.set_cons_succ]
  refine wpAnyH_ready (rs := [5]) (by kernel_rfl) (by simp) ?_
  refine AllReadyH.cons rfl (fun K hK => ?_) AllReadyH.nil
  refine step_append_run _ rfl (.tmp 5) (.tmp 7) 94 94 rfl _ _ rfl rfl hrun ?_
  refine hK.out _ _ ?_ (fun hHeld => ?_)
  · first | go_keep | exact ⟨b0, b1⟩
  clear hK K
  try simp only [Act.put, List.setIfInBounds_toArray]
  refine held_yes (i := 6) (d := some 9) (v := ?_) rfl rfl (by kernel_rfl) (by kernel_rfl) (by kernel_rfl) (fun _ _ _ h => h) (by rfl) ?_ (by assumption) ?_
  rotate_left
  · (intro w hSw; (try dsimp only at hSw); go_simp; (first | done | with_reducible rfl))
  try simp only [Act.put]
  refine wpAnyH_ready (rs := [7]) (by kernel_rfl) (by simp) ?_
  refine AllReadyH.cons rfl (fun K hK => ?_) AllReadyH.nil
  go_simp
  skip
  refine hK.out _ _ ?_ (fun hHeld => ?_)
  · first | go_keep | exact ⟨b0, b1⟩
  clear hK K
  try simp only [Act.put]
  refine wpAnyH_done (by kernel_rfl) ?_ _
  all_goals
    go_wp2
    exact bodyPost_ret (v := .agg #[.int .i64 m, .slice (some ⟨g3, 0, none⟩) n c3]) (by simp [results, Try.results123, go_sem, *]) rfl
      ⟨_, _, rfl, HX.out.1, (HX.out.2.1.to_put (by simpa [Value.ownBlock] using HX.out.2.2.2) _).to_put (by simpa [Value.ownBlock] using HX.out.2.2.2) _, grown_put (grown_put HX.out.2.2.1 (by simp) _) (by simp) _⟩
end Go.Proofs.Ytfiajbkmklcaiaa
