/- What the model draws for chapter 6: l20Heads. -/
import Derived.Test.YteniikfgellhfaaDrawDev4
namespace Go.Proofs.Yteniikfgellhfaa
open Go.ChangeShapes Go.WideShapes Go.ChangeAt Go.RowKit

theorem DRow.grown2 {w w' : World} {B : Nat} {A : Option Addr} {bs : List Bk} {row : Option Nat} (h : DRow w B A bs) (hg : w.grownBy w' row) (hA : ∀ ad, A = some ad → row ≠ some ad.block)
    (hP : ∀ (q : Bk) (ad : Addr), q ∈ bs → q.A = some ad → row ≠ some ad.block) : DRow w' B A bs := by
  refine ⟨fun hn => ?_, fun q hq => (h.2 q hq).grownNe hg (fun ad e => hP q ad hq e)⟩
  obtain ⟨g, off, rfl, hb, hz, hc⟩ := h.1 hn
  have hne := hA _ rfl
  exact ⟨g, off, rfl, hb, Nat.lt_of_lt_of_le hz hg.size, fun i q hq => (hc i q hq).keep fun r hr => World.cell?_of_block (hg.block r.block (by omega) (fun e => hne (e.symm.trans (by rw [hr]))))⟩
theorem cells9 {w : World} {g : Nat} {t : TypeId} {u0 u1 u2 u3 u4 u5 u6 u7 u8 : Value} (h : Blk w g t #[u0, u1, u2, u3, u4, u5, u6, u7, u8]) :
    w.cell? ⟨g, 0, none⟩ = some u0 ∧ w.cell? ⟨g, 1, none⟩ = some u1 ∧ w.cell? ⟨g, 2, none⟩ = some u2 ∧ w.cell? ⟨g, 3, none⟩ = some u3 ∧ w.cell? ⟨g, 4, none⟩ = some u4 ∧ w.cell? ⟨g, 5, none⟩ = some u5 ∧ w.cell? ⟨g, 6, none⟩ = some u6 ∧ w.cell? ⟨g, 7, none⟩ = some u7 ∧ w.cell? ⟨g, 8, none⟩ = some u8 :=
  ⟨h.cell 0, h.cell 1, h.cell 2, h.cell 3, h.cell 4, h.cell 5, h.cell 6, h.cell 7, h.cell 8⟩
section
variable {w wr w' : World} {B g Q Q' V n c : Nat} {A : Option Addr} {bs : List Bk} {a b h : Int}
theorem FinSt.grown (H : FinSt w B g Q V A n c bs a b h wr) (hg : wr.grownBy w' (some g)) (hr : Rd w' B g Q') : FinSt w B g Q' V A n c bs a b h w' := by
  obtain ⟨h1, h2, ⟨h3, h3A, h3P⟩, h4, h5, h6, h7, h8, hex⟩ := H
  refine ⟨h1.grown hg (by intro e; injection e with e; omega), h2, ⟨(h3.grown2 hg (fun ad e e2 => ?_) (fun q ad hq e e2 => ?_)).here, h3A, h3P⟩, h4.grown hg (by intro e; injection e with e; omega), hr, grown_trans h6 hg, h7, h8, hex⟩
  · have := h3A ad e; injection e2 with e2; omega
  · have := h3P q ad hq e; injection e2 with e2; omega
theorem FinSt.keepD (H : FinSt w B g Q V A n c bs a b h wr) (hD : DRow wr V A bs) (hg : wr.grownBy w' (some g)) : DRow w' V A bs := by
  obtain ⟨_, _, ⟨_, h3A, h3P⟩, _, _, _, h7, _, _⟩ := H
  refine hD.grown2 hg (fun ad e e2 => ?_) (fun q ad hq e e2 => ?_)
  · have := h3A ad e; injection e2 with e2; omega
  · have := h3P q ad hq e; injection e2 with e2; omega
/-- Other heads are put into the variable. -/
theorem FinSt.heads (H : FinSt w B g Q V A n c bs a b h wr) (hD : DRow wr V A bs) (a1 b1 h1 : Int) :
    FinSt w B g Q V A n c bs a1 b1 h1 (((wr.setCell ⟨V, 0, none⟩ (.int .i64 a1)).setCell ⟨V, 1, none⟩ (.int .i64 b1)).setCell ⟨V, 2, none⟩ (.int .i64 h1)) := by
  obtain ⟨h1', h2, ⟨_, h3A, h3P⟩, h4, h5, h6, h7, h8, hex⟩ := H
  have hB := h5.le
  have far : ∀ (W : World) (o : Nat) (u : Value), DRow W V A bs → DRow (W.setCell ⟨V, o, none⟩ u) V A bs := fun W o u hd =>
    hd.keep (by simp [World.setCell]) fun q hq _ => World.cell?_setCell_other W ⟨V, o, none⟩ q u (fun e => by subst e; simp at hq)
  exact ⟨((h1'.put 0 _).put 1 _).put 2 _, h2, ⟨(far _ _ _ (far _ _ _ (far _ _ _ hD))).here, h3A, h3P⟩, ((h4.far (by simp; omega) _).far (by simp; omega) _).far (by simp; omega) _,
    ((h5.far (by simp; omega) (by simp; omega) _).far (by simp; omega) (by simp; omega) _).far (by simp; omega) (by simp; omega) _, grown_set (grown_set (grown_set h6 (.inr (by simp; omega)) _) (.inr (by simp; omega)) _) (.inr (by simp; omega)) _, h7, h8, hex⟩
/-- Any heads are put into the result's cell. -/
theorem FinSt.any (H : FinSt w B g Q V A n c bs a b h wr) (hq : Q ≤ Q') (a1 b1 h1 : Int) (u0 u1 u2 : Value) :
    DrewDev w B g Q' (.returned (.tuple #[.slice A n c, .agg #[.int .i64 a1, .int .i64 b1, .int .i64 h1]])) (((wr.setCell ⟨w.heap.size, 0, none⟩ u0).setCell ⟨w.heap.size, 1, none⟩ u1).setCell ⟨w.heap.size, 2, none⟩ u2).drew := by
  obtain ⟨A1, n1, c1, bs1, a2, b2, h2, e, e1, e2, e3, e4, e5, e6, e7, e8, e9, e10⟩ := H.out2 hq u0 u1 u2
  injection e with e
  injection e with e
  have ea : A1 = A ∧ n1 = n ∧ c1 = c := by
    have := congrArg (fun x : Array Value => x[0]?) e
    simp at this
    exact ⟨this.1.symm, this.2.1.symm, this.2.2.symm⟩
  obtain ⟨rfl, rfl, rfl⟩ := ea
  exact ⟨_, _, _, bs1, a1, b1, h1, rfl, e1, e2, e3, e4, e5, e6, e7, e8, e9, e10⟩
theorem DrewDev.kept {e : Ending} (H : DrewDev w B g Q e wr) (hk : wr.grownBy w' none) : DrewDev w B g Q e w' := by
  obtain ⟨A1, n1, c1, bs1, a1, b1, h1, e0, e1, e2, e3, e4, e5, e6, e7, e8, e9, e10⟩ := H
  exact ⟨A1, n1, c1, bs1, a1, b1, h1, e0, e1, e2, e3, e4, e5, e6, (e7.kept hk).here, e8.grown hk (by intro k e; cases e), grown_trans e9 (grown_some hk), e10⟩
theorem FinSt.any' (H : FinSt w B g Q V A n c bs a b h wr) (hq : Q ≤ Q') (a1 b1 h1 : Int) (u0 u1 u2 : Value) :
    DrewDev w B g Q' (.returned (.tuple #[.slice A n c, .agg #[.int .i64 a1, .int .i64 b1, .int .i64 h1]])) (((wr.setCell ⟨w.heap.size, 0, none⟩ u0).setCell ⟨w.heap.size, 1, none⟩ u1).setCell ⟨w.heap.size, 2, none⟩ u2) := by
  obtain ⟨A1, n1, c1, bs1, a2, b2, h2, e, e1, e2, e3, e4, e5, e6, e7, e8, e9, e10⟩ := H.out u0 u1 u2
  injection e with e
  injection e with e
  have ea : A1 = A ∧ n1 = n ∧ c1 = c := by
    have := congrArg (fun x : Array Value => x[0]?) e
    simp at this
    exact ⟨this.1.symm, this.2.1.symm, this.2.2.symm⟩
  obtain ⟨rfl, rfl, rfl⟩ := ea
  exact ⟨_, _, _, bs1, a1, b1, h1, rfl, e1, e2, e3, e4, e5, e6, e7, e8.more hq, e9, e10⟩
end
set_option maxRecDepth 8000 in
set_option maxHeartbeats 4000000 in
theorem heads_any (w : World) (B g P : Nat) (N : Int) (h : Rd w B g P) (hP : P ≤ 100000) (hN : 1 ≤ N) (hN2 : N ≤ 1000000000000) :
    Calls Try.prog 99 #[.pointer (some ⟨g, 0, none⟩), .int .i64 N] w (DrewDev w B g (P + 210)) := by
  have h0 := h.alloc (.cells #[.int .i64 0, .int .i64 0, .int .i64 0] 77)
  have hg := h.lt
  clear h
  go_enter Try.func99, Try.ntmps99
  go_wp2_with fail
  refine (device_any _ _ _ _ _ h0 (by omega) hN hN2).mono ?_
  rintro e w2 ⟨A, n, c, bs, a, b, h9, rfl, hl, h13, hnc, hcm, hs, hA, hrow, h2, hg2, hex, hP2⟩
  simp only [size_alloc1] at hA hP2
  have hz2 := hg2.size
  simp only [size_alloc1] at hz2
  have HS : RowKit.Hid (FinSt w B g (P + 200) w2.heap.size A n c bs a b h9 (w2.alloc (.cells #[.int .i64 a, .int .i64 b, .int .i64 h9] 77))) := Lib.hid ⟨Blk.new w2 _ _, ⟨hl, h13, hnc, hcm, hs⟩, ⟨(hrow.alloc _).here, fun ad e => by have := hA ad e; omega, fun q ad hq e => by have := hP2 q ad hq e; omega⟩, ((Blk.new w 77 #[.int .i64 0, .int .i64 0, .int .i64 0]).grown hg2 (by intro e; injection e with e; omega)).alloc _, h2.alloc _, grown_alloc (grown_trans (grown_alloc (grown_refl w (some g)) (.cells #[.int .i64 0, .int .i64 0, .int .i64 0] 77)) hg2) _, hg, by omega, hex⟩
  have HD := Lib.hid (hrow.alloc (.cells #[.int .i64 a, .int .i64 b, .int .i64 h9] 77))
  clear h0 hl hnc hcm hs hA hP2 hrow h2 hg2 hex hz2
  go_wp2_with fail
  refine (odd_any _ _ _ _ _ HS.out.2.2.2.2.1 (by omega) hN hN2).mono ?_
  rintro e w4 ⟨o4, rfl, h4, hg4⟩
  replace HD := Lib.hid (HS.out.keepD HD.out hg4)
  replace HS := Lib.hid (HS.out.grown hg4 h4)
  clear h4 hg4
  cases o4
  · go_wp2_with fail
    refine (pick_lt _ _ _ _ _ HS.out.2.2.2.2.1 (by omega) (by omega)).mono ?_
    rintro e w5 ⟨x5, rfl, u5, v5, h5, hg5⟩
    replace HD := Lib.hid (HS.out.keepD HD.out hg5)
    replace HS := Lib.hid (HS.out.grown hg5 h5)
    clear h5 hg5
    by_cases hx0 : x5 = 0
    · subst hx0
      obtain ⟨v0, v1, v2⟩ := cells3 HS.out.1
      obtain ⟨g0, g1, g2⟩ := frozen3 HS.out.1
      replace HS := Lib.hid (HS.out.heads HD.out (-1) (-1) (-1))
      obtain ⟨z0, z1, z2⟩ := cells3 HS.out.1
      obtain ⟨d0, d1, d2⟩ := cells3 HS.out.2.2.2.1
      obtain ⟨f0, f1, f2⟩ := frozen3 HS.out.2.2.2.1
      have hVw := HS.out.2.2.2.2.2.2.2.1
      have na0 : w2.heap.size ≠ w.heap.size := by omega
      have nb0 : w.heap.size ≠ w2.heap.size := by omega
      go_wp2_with fail
      refine wp_region_held_drew (S := (fun w' => w'.cell? ⟨w2.heap.size, 0, none⟩ = some (.int .i64 (-1)) ∧ w'.cell? ⟨w2.heap.size, 1, none⟩ = some (.int .i64 (-1)) ∧ w'.cell? ⟨w2.heap.size, 2, none⟩ = some (.int .i64 (-1)))) (by kernel_rfl) ?_ (fun hHeld => ?_)
      · exact ⟨z0, z1, z2⟩
      refine heldY 0 32 ?_
      refine heldY 1 33 ?_
      refine wpAnyH_ready (rs := [2]) (by kernel_rfl) (by simp) ?_
      refine AllReadyH.cons rfl (fun K hK => ?_) AllReadyH.nil
      go_simp
      refine hK.out _ _ ?_ (fun hHeld => ?_)
      · first | with_reducible assumption | go_keep
      clear hK K
      try simp only [Act.put, List.setIfInBounds_toArray, List.set_cons_zero, List.set_cons_succ]
      refine wpAnyH_ready (rs := [3]) (by kernel_rfl) (by simp) ?_
      refine AllReadyH.cons rfl (fun K hK => ?_) AllReadyH.nil
      go_simp
      refine hK.out _ _ ?_ (fun hHeld => ?_)
      · first | with_reducible assumption | go_keep
      clear hK K
      try simp only [Act.put, List.setIfInBounds_toArray, List.set_cons_zero, List.set_cons_succ]
      refine wpAnyH_done (by kernel_rfl) ?_ _
      go_wp2
      exact bodyPost_ret (v := .tuple #[.slice A n c, .agg #[.int .i64 (-1), .int .i64 (-1), .int .i64 (-1)]]) (by simp [results, Try.results99, go_sem, *]) rfl (HS.out.any (by omega) _ _ _ _ _ _)
    · have tx : (x5 == 0) = false := by simp [hx0]
      clear hx0
      obtain ⟨z0, z1, z2⟩ := cells3 HS.out.1
      obtain ⟨d0, d1, d2⟩ := cells3 HS.out.2.2.2.1
      obtain ⟨f0, f1, f2⟩ := frozen3 HS.out.2.2.2.1
      have hVw := HS.out.2.2.2.2.2.2.2.1
      have na0 : w2.heap.size ≠ w.heap.size := by omega
      have nb0 : w.heap.size ≠ w2.heap.size := by omega
      go_wp2_with fail
      refine wp_region_held_drew (S := (fun w' => w'.cell? ⟨w2.heap.size, 0, none⟩ = some (.int .i64 a) ∧ w'.cell? ⟨w2.heap.size, 1, none⟩ = some (.int .i64 b) ∧ w'.cell? ⟨w2.heap.size, 2, none⟩ = some (.int .i64 h9))) (by kernel_rfl) ?_ (fun hHeld => ?_)
      · exact ⟨z0, z1, z2⟩
      refine heldY 0 32 ?_
      refine heldY 1 33 ?_
      refine wpAnyH_ready (rs := [2]) (by kernel_rfl) (by simp) ?_
      refine AllReadyH.cons rfl (fun K hK => ?_) AllReadyH.nil
      go_simp
      refine hK.out _ _ ?_ (fun hHeld => ?_)
      · first | with_reducible assumption | go_keep
      clear hK K
      try simp only [Act.put, List.setIfInBounds_toArray, List.set_cons_zero, List.set_cons_succ]
      refine wpAnyH_ready (rs := [3]) (by kernel_rfl) (by simp) ?_
      refine AllReadyH.cons rfl (fun K hK => ?_) AllReadyH.nil
      go_simp
      refine hK.out _ _ ?_ (fun hHeld => ?_)
      · first | with_reducible assumption | go_keep
      clear hK K
      try simp only [Act.put, List.setIfInBounds_toArray, List.set_cons_zero, List.set_cons_succ]
      refine wpAnyH_done (by kernel_rfl) ?_ _
      go_wp2
      exact bodyPost_ret (v := .tuple #[.slice A n c, .agg #[.int .i64 a, .int .i64 b, .int .i64 h9]]) (by simp [results, Try.results99, go_sem, *]) rfl (HS.out.any (by omega) _ _ _ _ _ _)
  · go_wp2_with fail
    refine wp_region_held_drew (S := (fun _ => True)) (by kernel_rfl) trivial (fun hHeld => ?_)
    replace HS := Lib.hid HS.out.drew
    refine heldY 0 17 ?_
    refine heldY 1 18 ?_
    refine heldY 2 19 ?_
    refine heldY 3 20 ?_
    refine heldY 4 21 ?_
    refine heldY 5 22 ?_
    refine heldY 7 24 ?_
    refine wpAnyH_ready (rs := [6, 8]) (by kernel_rfl) (by simp) ?_
    refine AllReadyH.cons rfl (fun K hK => ?_) (AllReadyH.cons rfl (fun K hK => ?_) AllReadyH.nil)
    · have hN9 : Blk (World.alloc w4.drew (.cells #[.int .i64 1, .int .i64 1, .int .i64 (-1), .int .i64 n, .int .i64 (-1), .int .i64 (-1), .int .i64 (-2), .int .i64 (-1), .int .i64 (-1)] 77)) w4.heap.size 77 #[.int .i64 1, .int .i64 1, .int .i64 (-1), .int .i64 n, .int .i64 (-1), .int .i64 (-1), .int .i64 (-2), .int .i64 (-1), .int .i64 (-1)] := by have h := Blk.new w4.drew 77 #[.int .i64 1, .int .i64 1, .int .i64 (-1), .int .i64 n, .int .i64 (-1), .int .i64 (-1), .int .i64 (-2), .int .i64 (-1), .int .i64 (-1)]; (try simp only [World.drew] at h); exact h
      have hlw := HS.out.2.2.2.1.lt
      (try simp only [World.drew] at hlw)
      replace HS := Lib.hid (HS.out.kept (grown_alloc (grown_refl _ none) (.cells #[.int .i64 1, .int .i64 1, .int .i64 (-1), .int .i64 n, .int .i64 (-1), .int .i64 (-1), .int .i64 (-2), .int .i64 (-1), .int .i64 (-1)] 77)))
      have HN9 := Lib.hid hN9
      clear hN9
      go_simp
      refine hK.out _ _ ?_ (fun hHeld => ?_)
      · exact trivial
      clear hK K
      try simp only [Act.put, List.setIfInBounds_toArray, List.set_cons_zero, List.set_cons_succ]
      refine wpAnyH_ready (rs := [8]) (by kernel_rfl) (by simp) ?_
      refine AllReadyH.cons rfl (fun K hK => ?_) AllReadyH.nil
      go_simp
      go_at_call 51
      refine (pick_lt _ _ _ _ _ HS.out.2.2.2.2.1 (by omega) (by omega)).mono ?_
      rintro e w5 ⟨x5, rfl, u5, v5, h5, hg5⟩
      have hgl := HS.out.2.2.2.2.2.2.1
      have hN9 := HN9.out.grown hg5 (by intro e; injection e with e; omega)
      replace HS := Lib.hid (HS.out.grown hg5 h5)
      clear h5 hg5
      refine hK.out _ _ ?_ (fun hHeld => ?_)
      · exact trivial
      clear hK K
      try simp only [Act.put, List.setIfInBounds_toArray, List.set_cons_zero, List.set_cons_succ]
      refine heldY 11 4 ?_
      have hx3 : x5 = 0 ∨ x5 = 1 ∨ x5 = 2 := by omega
      rcases hx3 with rfl | rfl | rfl
      all_goals
        obtain ⟨l0, l1, l2, l3, l4, l5, l6, l7, l8⟩ := cells9 hN9
        clear hN9
        obtain ⟨d0, d1, d2⟩ := cells3 HS.out.2.2.2.1
        obtain ⟨f0, f1, f2⟩ := frozen3 HS.out.2.2.2.1
        have hVw := HS.out.2.2.2.2.2.2.2.1
        have na0 : w2.heap.size ≠ w.heap.size := by omega
        have nb0 : w.heap.size ≠ w2.heap.size := by omega
        have nl0 : w4.heap.size ≠ w.heap.size := by omega
        have nl1 : w.heap.size ≠ w4.heap.size := by omega
        refine wpAnyH_ready (rs := [9]) (by kernel_rfl) (by simp) ?_
        refine AllReadyH.cons rfl (fun K hK => ?_) AllReadyH.nil
        go_simp
        refine hK.out _ _ ?_ (fun hHeld => ?_)
        · exact trivial
        clear hK K
        try simp only [Act.put, List.setIfInBounds_toArray, List.set_cons_zero, List.set_cons_succ]
        refine wpAnyH_ready (rs := [10]) (by kernel_rfl) (by simp) ?_
        refine AllReadyH.cons rfl (fun K hK => ?_) AllReadyH.nil
        go_simp
        refine hK.out _ _ ?_ (fun hHeld => ?_)
        · exact trivial
        clear hK K
        try simp only [Act.put, List.setIfInBounds_toArray, List.set_cons_zero, List.set_cons_succ]
        refine wpAnyH_ready (rs := [12]) (by kernel_rfl) (by simp) ?_
        refine AllReadyH.cons rfl (fun K hK => ?_) AllReadyH.nil
        go_simp
        refine hK.out _ _ ?_ (fun hHeld => ?_)
        · exact trivial
        clear hK K
        try simp only [Act.put, List.setIfInBounds_toArray, List.set_cons_zero, List.set_cons_succ]
        refine wpAnyH_done (by kernel_rfl) ?_ _
        go_wp2
        first
        | (refine bodyPost_ret (v := .tuple #[.slice A n c, .agg #[.int .i64 1, .int .i64 1, .int .i64 (-1)]]) ?_ rfl (HS.out.any' (by omega) _ _ _ _ _ _); (simp [results, Try.results99, go_sem, *]; done))
        | (refine bodyPost_ret (v := .tuple #[.slice A n c, .agg #[.int .i64 n, .int .i64 (-1), .int .i64 (-1)]]) ?_ rfl (HS.out.any' (by omega) _ _ _ _ _ _); (simp [results, Try.results99, go_sem, *]; done))
        | (refine bodyPost_ret (v := .tuple #[.slice A n c, .agg #[.int .i64 (-2), .int .i64 (-1), .int .i64 (-1)]]) ?_ rfl (HS.out.any' (by omega) _ _ _ _ _ _); (simp [results, Try.results99, go_sem, *]; done))
    · go_simp
      go_at_call 51
      refine (pick_lt _ _ _ _ _ HS.out.2.2.2.2.1 (by omega) (by omega)).mono ?_
      rintro e w5 ⟨x5, rfl, u5, v5, h5, hg5⟩
      replace HS := Lib.hid (HS.out.grown hg5 h5)
      clear h5 hg5
      have hlw := HS.out.2.2.2.1.lt
      refine hK.out _ _ ?_ (fun hHeld => ?_)
      · exact trivial
      clear hK K
      try simp only [Act.put, List.setIfInBounds_toArray, List.set_cons_zero, List.set_cons_succ]
      refine heldY 11 4 ?_
      refine wpAnyH_ready (rs := [6]) (by kernel_rfl) (by simp) ?_
      refine AllReadyH.cons rfl (fun K hK => ?_) AllReadyH.nil
      have hN9 := Blk.new w5 77 #[.int .i64 1, .int .i64 1, .int .i64 (-1), .int .i64 n, .int .i64 (-1), .int .i64 (-1), .int .i64 (-2), .int .i64 (-1), .int .i64 (-1)]
      have HSx := Lib.hid HS.out
      have dl := HS.out.2.2.2.1.lt
      obtain ⟨d0, d1, d2⟩ := cells3 HS.out.2.2.2.1
      obtain ⟨f0, f1, f2⟩ := frozen3 HS.out.2.2.2.1
      replace HS := Lib.hid (HS.out.kept (grown_alloc (grown_refl _ none) (.cells #[.int .i64 1, .int .i64 1, .int .i64 (-1), .int .i64 n, .int .i64 (-1), .int .i64 (-1), .int .i64 (-2), .int .i64 (-1), .int .i64 (-1)] 77)))
      go_simp
      refine hK.out _ _ ?_ (fun hHeld => ?_)
      · exact trivial
      clear hK K
      try simp only [Act.put, List.setIfInBounds_toArray, List.set_cons_zero, List.set_cons_succ]
      have hx3 : x5 = 0 ∨ x5 = 1 ∨ x5 = 2 := by omega
      rcases hx3 with rfl | rfl | rfl
      all_goals
        obtain ⟨l0, l1, l2, l3, l4, l5, l6, l7, l8⟩ := cells9 hN9
        clear hN9
        have hVw := HS.out.2.2.2.2.2.2.2.1
        have na0 : w2.heap.size ≠ w.heap.size := by omega
        have nb0 : w.heap.size ≠ w2.heap.size := by omega
        have nl0 : w5.heap.size ≠ w.heap.size := by omega
        have nl1 : w.heap.size ≠ w5.heap.size := by omega
        refine wpAnyH_ready (rs := [9]) (by kernel_rfl) (by simp) ?_
        refine AllReadyH.cons rfl (fun K hK => ?_) AllReadyH.nil
        go_simp
        refine hK.out _ _ ?_ (fun hHeld => ?_)
        · exact trivial
        clear hK K
        try simp only [Act.put, List.setIfInBounds_toArray, List.set_cons_zero, List.set_cons_succ]
        refine wpAnyH_ready (rs := [10]) (by kernel_rfl) (by simp) ?_
        refine AllReadyH.cons rfl (fun K hK => ?_) AllReadyH.nil
        go_simp
        refine hK.out _ _ ?_ (fun hHeld => ?_)
        · exact trivial
        clear hK K
        try simp only [Act.put, List.setIfInBounds_toArray, List.set_cons_zero, List.set_cons_succ]
        refine wpAnyH_ready (rs := [12]) (by kernel_rfl) (by simp) ?_
        refine AllReadyH.cons rfl (fun K hK => ?_) AllReadyH.nil
        go_simp
        refine hK.out _ _ ?_ (fun hHeld => ?_)
        · exact trivial
        clear hK K
        try simp only [Act.put, List.setIfInBounds_toArray, List.set_cons_zero, List.set_cons_succ]
        refine wpAnyH_done (by kernel_rfl) ?_ _
        go_wp2
        first
        | (refine bodyPost_ret (v := .tuple #[.slice A n c, .agg #[.int .i64 1, .int .i64 1, .int .i64 (-1)]]) ?_ rfl ((HSx.out.any' (by omega) _ _ _ _ _ _).kept (grown_alloc (grown_refl _ none) _)); (simp [results, Try.results99, go_sem, *]; done))
        | (refine bodyPost_ret (v := .tuple #[.slice A n c, .agg #[.int .i64 n, .int .i64 (-1), .int .i64 (-1)]]) ?_ rfl ((HSx.out.any' (by omega) _ _ _ _ _ _).kept (grown_alloc (grown_refl _ none) _)); (simp [results, Try.results99, go_sem, *]; done))
        | (refine bodyPost_ret (v := .tuple #[.slice A n c, .agg #[.int .i64 (-2), .int .i64 (-1), .int .i64 (-1)]]) ?_ rfl ((HSx.out.any' (by omega) _ _ _ _ _ _).kept (grown_alloc (grown_refl _ none) _)); (simp [results, Try.results99, go_sem, *]; done))
end Go.Proofs.Yteniikfgellhfaa
