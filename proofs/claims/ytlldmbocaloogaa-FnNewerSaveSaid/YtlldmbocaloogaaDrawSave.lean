/- What the model draws for chapter 17: l20Save, DrawSaveTable, DrawLoadTable, DrawNewerSave. -/
import Derived.Test.YtlldmbocaloogaaDrawSave0
import Derived.Test.YtlldmbocaloogaaDrawTabs2
import Derived.Test.YtlldmbocaloogaaSaves2
namespace Go.Proofs.Ytlldmbocaloogaa
open Go.ChangeShapes Go.WideShapes Go.ChangeAt Go.RowKit
set_option linter.unusedVariables false
set_option linter.unusedSimpArgs false

/-- A save is drawn. -/
def DrewSave (w : World) (B g P : Nat) (e : Ending) (w' : World) : Prop :=
  ∃ (N : Int) (A : Option Addr) (n c : Nat) (X : List Int) (S : Int), e = .returned (.agg #[.int .i64 N, .slice A n c, .int .i64 S]) ∧ X.length = n ∧ n ≤ 48 ∧ n ≤ c ∧ c ≤ maxLen ∧ IRow w' w'.heap.size A X ∧ (∀ ad, A = some ad → w.heap.size ≤ ad.block) ∧ Rd w' B g P ∧ w.grownBy w' (some g)
/-- The draw of a save under way: the save in its variable V, its numbers in block gp, the result's cells, the reader. -/
def SSt (w : World) (B g Q V : Nat) (N S : Int) (gp c : Nat) (X : List Int) (wr : World) : Prop :=
  Blk wr V 35 #[.int .i64 N, .slice (some ⟨gp, 0, none⟩) 48 c, .int .i64 S] ∧ X.length = 48 ∧ IOwn wr (w.heap.size + 1) (.slice (some ⟨gp, 0, none⟩) 48 c) X ∧ Blk wr w.heap.size 35 #[.int .i64 0, .slice none 0 0, .int .i64 0] ∧ Rd wr B g Q ∧ w.grownBy wr (some g) ∧ g < w.heap.size ∧ w.heap.size < V
section
variable {w wr w' : World} {B g Q Q' V gp c : Nat} {N S : Int} {X : List Int}
theorem SSt.grown (H : SSt w B g Q V N S gp c X wr) (hg : wr.grownBy w' (some g)) (hr : Rd w' B g Q') : SSt w B g Q' V N S gp c X w' := by
  obtain ⟨h1, h2, h3, h4, h5, h6, h7, h8⟩ := H
  have hp := (VOwn.lt h3 gp rfl).1
  exact ⟨h1.grown hg (by intro e; injection e with e; omega), h2, VOwn.kept h3 hg (.inr (by simp only [Value.ownBlock]; intro e; injection e with e; omega)), h4.grown hg (by intro e; injection e with e; omega), hr, grown_trans h6 hg, h7, h8⟩
theorem SSt.kept (H : SSt w B g Q V N S gp c X wr) (hk : wr.grownBy w' none) : SSt w B g Q V N S gp c X w' := H.grown (grown_some hk) (H.2.2.2.2.1.grown hk (by intro k e; cases e))
/-- The number, or the sum, is another one. -/
theorem SSt.putC (H : SSt w B g Q V N S gp c X wr) (i : Nat) (u : Value) : Blk (wr.setCell ⟨V, i, none⟩ u) V 35 (#[.int .i64 N, .slice (some ⟨gp, 0, none⟩) 48 c, .int .i64 S].setIfInBounds i u) ∧ IOwn (wr.setCell ⟨V, i, none⟩ u) (w.heap.size + 1) (.slice (some ⟨gp, 0, none⟩) 48 c) X ∧ Blk (wr.setCell ⟨V, i, none⟩ u) w.heap.size 35 #[.int .i64 0, .slice none 0 0, .int .i64 0] ∧ Rd (wr.setCell ⟨V, i, none⟩ u) B g Q ∧ w.grownBy (wr.setCell ⟨V, i, none⟩ u) (some g) := by
  obtain ⟨h1, h2, h3, h4, h5, h6, h7, h8⟩ := H
  have hB := h5.le
  have e : (Value.slice (some ⟨gp, 0, none⟩) 48 c).ownBlock ≠ some V := by
    intro e
    simp only [Value.ownBlock, Option.some.injEq] at e
    exact VOwn.ne_blk h3 h1 (by decide) e
  exact ⟨h1.put i u, VOwn.to_put h3 (p := ⟨V, i, none⟩) e u, h4.far (by dsimp only; omega) u, h5.far (by dsimp only; omega) (by dsimp only; omega) u, grown_set h6 (.inr (by dsimp only; omega)) u⟩
theorem SSt.num (H : SSt w B g Q V N S gp c X wr) (N' : Int) : SSt w B g Q V N' S gp c X (wr.setCell ⟨V, 0, none⟩ (.int .i64 N')) := by
  obtain ⟨k1, k2, k3, k4, k5⟩ := H.putC 0 (.int .i64 N')
  exact ⟨k1, H.2.1, k2, k3, k4, k5, H.2.2.2.2.2.2⟩
theorem SSt.sum (H : SSt w B g Q V N S gp c X wr) (S' : Int) : SSt w B g Q V N S' gp c X (wr.setCell ⟨V, 2, none⟩ (.int .i64 S')) := by
  obtain ⟨k1, k2, k3, k4, k5⟩ := H.putC 2 (.int .i64 S')
  exact ⟨k1, H.2.1, k2, k3, k4, k5, H.2.2.2.2.2.2⟩
/-- A page is another one. -/
theorem SSt.setX (H : SSt w B g Q V N S gp c X wr) (i : Nat) (x : Int) : SSt w B g Q V N S gp c (X.set i x) (wr.setCell ⟨gp, i, none⟩ (.int .i64 x)) := by
  obtain ⟨h1, h2, h3, h4, h5, h6, h7, h8⟩ := H
  have hB := h5.le
  have hp := (VOwn.lt h3 gp rfl).1
  have hs := VOwn.set h3 (by rw [iv_length]; exact h2) i (.int .i64 x)
  rw [← iv_set] at hs
  exact ⟨h1.far (fun e => VOwn.ne_blk h3 h1 (by decide) e.symm) _, by rw [List.length_set]; exact h2, hs, h4.far (fun e => VOwn.ne_blk h3 h4 (by decide) e.symm) _, h5.far (by dsimp only; omega) (by dsimp only; omega) _, grown_set h6 (.inr (by dsimp only; omega)) _, h7, h8⟩
theorem SSt.fin (H : SSt w B g Q V N S gp c X wr) (hq : Q ≤ Q') : DrewSave w B g Q' (.returned (.agg #[.int .i64 N, .slice (some ⟨gp, 0, none⟩) 48 c, .int .i64 S])) (putS wr w.heap.size (.int .i64 N) (.slice (some ⟨gp, 0, none⟩) 48 c) (.int .i64 S)) := by
  obtain ⟨h1, h2, h3, h4, h5, h6, h7, h8⟩ := H
  have hB := h5.le
  have hcap := VOwn.capn h3 (by rw [iv_length]; exact h2)
  have hp := (VOwn.lt h3 gp rfl).1
  refine ⟨N, _, 48, c, X, S, rfl, h2, Nat.le_refl _, hcap.1, hcap.2, VOwn.row (h3.putS h4 _ _ _), fun ad e => by injection e with e; subst e; dsimp only; omega,
    (((h5.far (by dsimp only; omega) (by dsimp only; omega) _).far (by dsimp only; omega) (by dsimp only; omega) _).far (by dsimp only; omega) (by dsimp only; omega) _).more hq, grown_set (grown_set (grown_set h6 (.inr (Nat.le_refl _)) _) (.inr (Nat.le_refl _)) _) (.inr (Nat.le_refl _)) _⟩
theorem SSt.zero (H : SSt w B g Q V N S gp c X wr) (hq : Q ≤ Q') : DrewSave w B g Q' (.returned (.agg #[.int .i64 0, .slice none 0 0, .int .i64 0])) (putS wr w.heap.size (.int .i64 0) (.slice none 0 0) (.int .i64 0)) := by
  obtain ⟨h1, h2, h3, h4, h5, h6, h7, h8⟩ := H
  have hB := h5.le
  exact ⟨0, none, 0, 0, [], 0, rfl, rfl, by omega, Nat.le_refl _, by simp [maxLen], VRow.nil, fun ad e => (by cases e),
    (((h5.far (by dsimp only; omega) (by dsimp only; omega) _).far (by dsimp only; omega) (by dsimp only; omega) _).far (by dsimp only; omega) (by dsimp only; omega) _).more hq, grown_set (grown_set (grown_set h6 (.inr (Nat.le_refl _)) _) (.inr (Nat.le_refl _)) _) (.inr (Nat.le_refl _)) _⟩
end
set_option maxHeartbeats 4000000 in
theorem saves_any (w : World) (B g P : Nat) (N : Int) (h : Rd w B g P) (hP : P ≤ 90000) (hN : 1 ≤ N) (hN2 : N ≤ 1000000000000) :
    Calls Try.prog 51 #[.pointer (some ⟨g, 0, none⟩), .int .i64 N] w (DrewSave w B g (P + 60)) := by
  have h0 := h.alloc (.cells #[.int .i64 0, .slice none 0 0, .int .i64 0] 35)
  have hg := h.lt
  have hb0 := Blk.new w 35 #[.int .i64 0, .slice none 0 0, .int .i64 0]
  clear h
  go_enter Try.func51, Try.ntmps51
  go_wp2_with fail
  refine (tables0_any _ _ _ _ h0 (by omega)).mono ?_
  rintro e w2 ⟨gt, ct, ls, rfl, hl, hv, hrow, hfar, h2, hg2⟩
  have hb2 := hb0.grown hg2 (by intro e; injection e with e; omega)
  have hw2 := grown_trans (grown_alloc (grown_refl w (some g)) (.cells #[.int .i64 0, .slice none 0 0, .int .i64 0] 35)) hg2
  have HA := Lib.hid (And.intro h2 (And.intro hrow (And.intro hfar (And.intro hb2 hw2))))
  have HV := Lib.hid (And.intro hl hv)
  clear h0 hb0 hl hv hrow hfar h2 hg2 hb2 hw2
  go_wp2_with fail
  refine (pick_lt _ _ _ _ _ HA.out.1 (by omega) (by omega)).mono ?_
  rintro e w3 ⟨x3, rfl, u3, v3, h3, hg3⟩
  have hz := HA.out.2.2.2.2.size
  have hrow3 := HA.out.2.1.grownLo HA.out.2.2.1 hg3 (by simp only [size_alloc1]; omega)
  have hb3 := HA.out.2.2.2.1.grown hg3 (by intro e; injection e with e; omega)
  have HC := Lib.hid (And.intro h3 (And.intro hrow3.here (And.intro hb3 (grown_trans HA.out.2.2.2.2 hg3))))
  have hsv : saveB (ll ls) x3 = true := by simp only [saveB, Bool.and_eq_true]; exact ⟨HV.out.2, inB_iff.2 ⟨u3, by omega⟩⟩
  have h48 := tab_flat HV.out.2
  have hsum := (ssum_cases x3 (ll ls).flatten).resolve_left (fun q => by rw [save_sum hsv] at q; cases q.1)
  obtain ⟨S, hS⟩ : ∃ S, ssumV x3 (ll ls).flatten = S := ⟨_, rfl⟩
  obtain ⟨X, hX⟩ : ∃ X, (ll ls).flatten = X := ⟨_, rfl⟩
  have hsav := saveV_yes hsv
  rw [hX] at h48 hsum hS hsav
  rw [hS] at hsum hsav
  have s0 := hsum.2.2.1
  have s1 := hsum.2.2.2
  have HX := Lib.hid (And.intro hsav h48)
  clear h3 hg3 hrow3 hb3 hsv hsum hS hX hsav h48 HA
  go_wp2_with fail
  refine (specSave_val HX.out.1 HV.out.1 HC.out.2.1 (by omega) (ll_six HV.out.2)).mono ?_
  rintro e w4 ⟨A4, n4, c4, rfl, hl4, ho4, hk4⟩
  obtain rfl : n4 = 48 := by rw [← hl4]; exact HX.out.2
  obtain ⟨gp, cap, e, _⟩ := VOwn.head (n := 48) ho4 (by rw [iv_length]; exact hl4) (by omega)
  injection e with e1 _ e3
  subst e1; subst e3
  have hz3 := HC.out.2.2.2.size
  have hlt := HC.out.2.2.1.lt
  have K4 : w4.grownBy (w4.alloc (.cells #[.int .i64 x3, .slice (some ⟨gp, 0, none⟩) 48 c4, .int .i64 S] 35)) none := grown_alloc (grown_refl _ _) _
  have HS : RowKit.Hid (SSt w B g (P + 51) w4.heap.size x3 S gp c4 X (w4.alloc (.cells #[.int .i64 x3, .slice (some ⟨gp, 0, none⟩) 48 c4, .int .i64 S] 35))) := Lib.hid
    ⟨Blk.new w4 _ _, hl4, VOwn.keep (VOwn.base_le ho4 (by omega)) K4, (HC.out.2.2.1.keep hk4).keep K4, ((HC.out.1.grown hk4 (by intro k e; cases e)).grown K4 (by intro k e; cases e)).more (by omega), grown_trans (grown_trans HC.out.2.2.2 (grown_some hk4)) (grown_some K4), hg, by have := hk4.size; omega⟩
  clear hl4 ho4 hk4 K4 hz hz3 hlt HX HV HC
  go_wp2_with fail
  refine (odd_any _ _ _ _ _ HS.out.2.2.2.2.1 (by omega) hN hN2).mono ?_
  rintro e w5 ⟨o5, rfl, h5, hg5⟩
  replace HS := Lib.hid (HS.out.grown hg5 h5)
  clear h5 hg5
  generalize w4.heap.size = V at HS ⊢
  cases o5
  · obtain ⟨⟨b0, b1, b2⟩, _, _, _⟩ := HS.out.1.cells3
    obtain ⟨⟨z0, z1, z2⟩, y0, y1, y2⟩ := HS.out.2.2.2.1.cells3
    go_wp2
    exact bodyPost_ret (v := .agg #[.int .i64 x3, .slice (some ⟨gp, 0, none⟩) 48 c4, .int .i64 S]) (by simp [results, Try.results51, go_sem, *]) rfl (HS.out.fin (by omega))
  · go_wp2_with fail
    refine (pick_lt _ _ _ _ _ HS.out.2.2.2.2.1 (by omega) (by omega)).mono ?_
    rintro e w5 ⟨x5, rfl, u5, v5, h5, hg5⟩
    replace HS := Lib.hid (HS.out.grown hg5 h5)
    clear h5 hg5
    have hx : x5 = 0 ∨ x5 = 1 ∨ x5 = 2 ∨ x5 = 3 := by omega
    rcases hx with rfl | rfl | rfl | rfl
    · obtain ⟨⟨z0, z1, z2⟩, y0, y1, y2⟩ := HS.out.2.2.2.1.cells3
      go_wp2
      exact bodyPost_ret (v := .agg #[.int .i64 0, .slice none 0 0, .int .i64 0]) (by simp [results, Try.results51, go_sem, *]) rfl (HS.out.zero (by omega))
    · have HE := Lib.hid (HS.out.sum (S + 1))
      obtain ⟨⟨b0, b1, b2⟩, f0, f1, f2⟩ := HS.out.1.cells3
      obtain ⟨⟨z0, z1, z2⟩, y0, y1, y2⟩ := HS.out.2.2.2.1.cells3
      have nv := HS.out.2.2.2.2.2.2.2
      have n1 : V ≠ w.heap.size := by omega
      have n2 : w.heap.size ≠ V := by omega
      clear nv
      go_wp2
      exact bodyPost_ret (v := .agg #[.int .i64 x3, .slice (some ⟨gp, 0, none⟩) 48 c4, .int .i64 (S + 1)]) (by simp [results, Try.results51, go_sem, *]) rfl (HE.out.fin (by omega))
    · have b1 := HS.out.1.cell 1
      go_wp2_with fail
      clear b1
      refine wp_region_held_drew (S := (fun w' => w'.cell? ⟨V, 1, none⟩ = some (.slice (some ⟨gp, 0, none⟩) 48 c4))) (by kernel_rfl) ?_ (fun hHeld => ?_)
      · exact HS.out.1.cell 1
      replace HS := Lib.hid (HS.out.kept (grown_drew (grown_refl _ none)))
      refine heldY 0 31 ?_
      refine heldY 1 32 ?_
      refine heldY 2 33 ?_
      refine heldY 3 34 ?_
      refine heldY 4 35 ?_
      refine heldY 5 36 ?_
      refine wpAnyH_ready (rs := [6]) (by kernel_rfl) (by simp) ?_
      refine AllReadyH.cons rfl (fun K hK => ?_) AllReadyH.nil
      go_simp
      go_at_call 40
      refine (pick_lt _ _ _ _ _ HS.out.2.2.2.2.1 (by omega) (by omega)).mono ?_
      rintro e w6 ⟨x6, rfl, u6, v6, h6, hg6⟩
      replace HS := Lib.hid (HS.out.grown hg6 h6)
      clear h6 hg6
      obtain ⟨i, rfl⟩ := Int.eq_ofNat_of_zero_le u6
      have i0 : decide ((0 : Int) ≤ i) = true := decide_eq_true (by omega)
      have i1 : (i : Int) < 48 := by omega
      refine hK.out _ _ ?_ (fun hHeld => ?_)
      · exact HS.out.1.cell 1
      clear hK K
      try simp only [Act.put, List.setIfInBounds_toArray, List.set_cons_zero, List.set_cons_succ]
      refine heldY 7 38 ?_
      obtain ⟨x, hx⟩ : ∃ x, X[i]? = some x := ⟨_, List.getElem?_eq_getElem (by have := HS.out.2.1; omega)⟩
      have c0 : w6.cell? ⟨gp, i, none⟩ = some (.int .i64 x) := VOwn.at_ HS.out.2.2.1 (by rw [iv_length]; exact HS.out.2.1) (iv_at hx)
      have c1 : w6.frozen? ⟨gp, i, none⟩ = false := VOwn.frozen HS.out.2.2.1 (by rw [iv_length]; exact HS.out.2.1) i
      have nV : gp ≠ V := VOwn.ne_blk HS.out.2.2.1 HS.out.1 (by decide)
      have nV' : V ≠ gp := fun e => nV e.symm
      have HE := Lib.hid (HS.out.setX i 47)
      have z5 := HS.out.1.cell 1
      clear hx
      refine wpAnyH_ready (rs := [8]) (by kernel_rfl) (by simp) ?_
      refine AllReadyH.cons rfl (fun K hK => ?_) AllReadyH.nil
      go_simp
      refine hK.out _ _ ?_ (fun hHeld => ?_)
      · exact HE.out.1.cell 1
      clear hK K
      try simp only [Act.put, List.setIfInBounds_toArray, List.set_cons_zero, List.set_cons_succ]
      refine wpAnyH_done (by kernel_rfl) ?_ _
      clear c0 c1 nV nV' z5
      obtain ⟨⟨b0, b1, b2⟩, _, _, _⟩ := HE.out.1.cells3
      obtain ⟨⟨z0, z1, z2⟩, y0, y1, y2⟩ := HE.out.2.2.2.1.cells3
      go_wp2
      exact bodyPost_ret (v := .agg #[.int .i64 x3, .slice (some ⟨gp, 0, none⟩) 48 c4, .int .i64 S]) (by simp [results, Try.results51, go_sem, *]) rfl (HE.out.fin (by omega))
    · have HE := Lib.hid (HS.out.num (x3 + 1))
      obtain ⟨⟨b0, b1, b2⟩, f0, f1, f2⟩ := HS.out.1.cells3
      obtain ⟨⟨z0, z1, z2⟩, y0, y1, y2⟩ := HS.out.2.2.2.1.cells3
      have nv := HS.out.2.2.2.2.2.2.2
      have n1 : V ≠ w.heap.size := by omega
      have n2 : w.heap.size ≠ V := by omega
      clear nv
      go_wp2
      exact bodyPost_ret (v := .agg #[.int .i64 (x3 + 1), .slice (some ⟨gp, 0, none⟩) 48 c4, .int .i64 S]) (by simp [results, Try.results51, go_sem, *]) rfl (HE.out.fin (by omega))
end Go.Proofs.Ytlldmbocaloogaa
