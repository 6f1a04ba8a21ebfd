/- What the model draws for chapter 8, further: l20Both. -/
import Derived.Test.YtfiajbkmklcaiaaDrawBoth
import Derived.Test.YtfiajbkmklcaiaaHand
namespace Go.Proofs.Ytfiajbkmklcaiaa
open Go.ChangeShapes Go.WideShapes Go.ChangeAt Go.RowKit
set_option linter.unusedVariables false
set_option linter.unusedSimpArgs false

set_option maxRecDepth 8000 in
set_option maxHeartbeats 8000000 in
theorem both_any (w : World) (B g P : Nat) (N : Int) (h : Rd w B g P) (hP : P ≤ 90000) (hN : 1 ≤ N) (hN2 : N ≤ 1000000000000) :
    Calls Try.prog 75 #[.pointer (some ⟨g, 0, none⟩), .int .i64 N] w (DrewBoth w B g (P + 300)) := by
  have h0 := (h.alloc (.cells #[.slice none 0 0] 25)).alloc (.cells #[.int .i64 0, .int .i64 0, .int .i64 0] 76)
  have hg := h.lt
  clear h
  go_enter Try.func75, Try.ntmps75
  go_wp2_with fail
  refine (heads_any _ _ _ _ _ h0 (by omega) hN hN2).mono ?_
  rintro e w1 ⟨D, nd, cd, bs, a, b, h9, rfl, hl, h13, hnc, hcm, hs, hA, hrow, h1, hg1, hex, hP2⟩
  simp only [size_alloc1] at hA hP2
  have hz1 := hg1.size
  simp only [size_alloc1] at hz1
  have hT1 := ((Blk.new w 25 #[.slice none 0 0]).alloc (.cells #[.int .i64 0, .int .i64 0, .int .i64 0] 76)).grown hg1 (by intro e; injection e with e; omega)
  have hH1 := (Blk.new (w.alloc (.cells #[.slice none 0 0] 25)) 76 #[.int .i64 0, .int .i64 0, .int .i64 0]).grown hg1 (by simp only [size_alloc1]; intro e; injection e with e; omega)
  simp only [size_alloc1] at hH1
  have hV1 := Blk.new w1 76 #[.int .i64 a, .int .i64 b, .int .i64 h9]
  have hGa := grown_trans (grown_alloc (grown_alloc (grown_refl w (some g)) (.cells #[.slice none 0 0] 25)) (.cells #[.int .i64 0, .int .i64 0, .int .i64 0] 76)) hg1
  obtain ⟨X, m, hof, hm8, hX6⟩ := tof_is hl
  have hr2 := hrow.alloc (.cells #[.int .i64 a, .int .i64 b, .int .i64 h9] 76)
  have HR := Lib.hid (And.intro hof (And.intro hl (And.intro hr2.here (fun (q : Bk) (hq : q ∈ bs) => show q.ps.length ≤ 1048576 by have := hs q hq; omega))))
  have hnd : nd ≤ 1048576 := by omega
  have HA := Lib.hid (And.intro hrow (And.intro hA (And.intro hP2 (And.intro hl (And.intro hs (And.intro hT1 (And.intro hH1 (And.intro hV1 (And.intro h1 (And.intro hGa hX6))))))))))
  clear h0 hl hnc hcm hs hA hrow h1 hg1 hex hP2 hT1 hH1 hV1 hGa hof hX6 hr2
  go_wp2_with fail
  refine (specTableOf_val HR.out.1 HR.out.2.1 HR.out.2.2.1 hnd HR.out.2.2.2).mono ?_
  rintro e w2 ⟨A, c, cs, rfl, hcl, hcs, ho, hk2⟩
  have HS : RowKit.Hid (BSt w B g (P + 210) w1.heap.size w2.heap.size D nd cd bs a b h9 A m c cs (w2.alloc (.cells #[.slice A m c] 25))) := by
    obtain ⟨q1, q2, q3, q4, q5, q6, q7, q8, q9, q10, q11⟩ := HA.out
    have hz2 := hk2.size
    simp only [size_alloc1] at hz2
    have K1 := grown_alloc (grown_refl w1 none) (.cells #[.int .i64 a, .int .i64 b, .int .i64 h9] 76)
    have K2 := grown_alloc (grown_trans K1 hk2) (.cells #[.slice A m c] 25)
    refine Lib.hid ⟨⟨DZ.grown (⟨q1, fun ad e => by have := q2 ad e; omega, fun q ad hq e => by have := q3 q ad hq e; omega⟩ : DZ (w.heap.size + 2) w1.heap.size D bs w1) K2 (fun k e => by cases e), q4, h13, q5⟩, ⟨(ho.row.alloc _).here, ho.offB (Nat.le_refl _) (by simp only [size_alloc1]; omega), hcl, hm8, fun l hm => ?_⟩, ⟨q6.keep K2, q7.keep K2, (q8.keep hk2).alloc _, Blk.new w2 _ _⟩, q9.grown K2 (by intro k e; cases e), grown_trans q10 (grown_some K2), hg, by omega, by omega⟩
    have := q11 l.xs (hcs ▸ List.mem_map_of_mem hm)
    omega
  clear hcl hcs ho hk2 HA HR
  go_wp2_with fail
  refine (pick_lt _ _ _ _ _ HS.out.2.2.2.1 (by omega) (by omega)).mono ?_
  rintro e w3 ⟨x3, rfl, u3, v3, h3, hg3⟩
  replace HS := Lib.hid (HS.out.grown hg3 h3)
  obtain ⟨x, rfl⟩ := Int.eq_ofNat_of_zero_le u3
  clear h3 hg3 u3
  go_wp2
  go_loopw [10] (fun i wr => ∃ (k Q : Nat) (A : Option Addr) (n c : Nat) (ls : List Li), i = .int .i64 k ∧ k ≤ 2 ∧ Q + 2 * k ≤ P + 220 ∧ BSt w B g Q w1.heap.size w2.heap.size D nd cd bs a b h9 A n c ls wr) (fun i _ => (intOf i).toNat)
  case atStart => exact ⟨x, P + 210 + 1, _, _, _, _, rfl, by omega, by omega, HS.out⟩
  case round =>
    rename World => wq
    obtain ⟨k, Q, A, n, c, ls, rfl, hk2, hQ, hS⟩ := hrel
    replace HS := Lib.hid hS
    clear hS
    have bT := HS.out.cellT
    by_cases hk0 : k = 0
    · subst hk0
      go_wp2_with fail
      refine (odd_any _ _ _ _ _ HS.out.2.2.2.1 (by omega) hN hN2).mono ?_
      rintro e w5 ⟨q, rfl, h5, hg5⟩
      replace HS := Lib.hid (HS.out.grown hg5 h5)
      clear h5 hg5 bT
      have bT := HS.out.cellT
      cases q
      · cases hv : tabB (ll ls)
        · have HV := Lib.hid hv
          clear hv
          go_wp2_with fail
          refine (specTabValid_val HV.out HS.out.small.1 HS.out.small.2.1 HS.out.small.2.2.1 HS.out.small.2.2.2).mono ?_
          rintro e w6 ⟨rfl, hk⟩
          replace HS := Lib.hid (HS.out.kept hk)
          clear hk bT
          have bT := HS.out.cellT
          go_wp2_with fail
          refine wp_region_held_drew (S := (fun w' => w'.cell? ⟨w1.heap.size, 0, none⟩ = some (.int .i64 a) ∧ w'.cell? ⟨w1.heap.size, 1, none⟩ = some (.int .i64 b) ∧ w'.cell? ⟨w1.heap.size, 2, none⟩ = some (.int .i64 h9))) (by kernel_rfl) ?_ (fun hHeld => ?_)
          · exact ⟨HS.out.2.2.1.2.2.1.cell 0, HS.out.2.2.1.2.2.1.cell 1, HS.out.2.2.1.2.2.1.cell 2⟩
          refine held_yes (i := 0) (d := some 43) (v := ?_) rfl rfl (by kernel_rfl) (by kernel_rfl) (by kernel_rfl) (fun _ _ _ h => h) (by rfl) ?_ (by assumption) ?_
          rotate_left
          · (intro w hSw; (try dsimp only at hSw); go_simp; (first | done | with_reducible rfl))
          try simp only [Act.put, List.setIfInBounds_toArray, List.set_cons_zero, List.set_cons_succ]
          refine held_yes (i := 1) (d := some 44) (v := ?_) rfl rfl (by kernel_rfl) (by kernel_rfl) (by kernel_rfl) (fun _ _ _ h => h) (by rfl) ?_ (by assumption) ?_
          rotate_left
          · (intro w hSw; (try dsimp only at hSw); go_simp; (first | done | with_reducible rfl))
          try simp only [Act.put, List.setIfInBounds_toArray, List.set_cons_zero, List.set_cons_succ]
          refine held_yes (i := 3) (d := some 46) (v := ?_) rfl rfl (by kernel_rfl) (by kernel_rfl) (by kernel_rfl) (fun _ _ _ h => h) (by rfl) ?_ (by assumption) ?_
          rotate_left
          · (intro w hSw; (try dsimp only at hSw); go_simp; (first | done | with_reducible rfl))
          try simp only [Act.put, List.setIfInBounds_toArray, List.set_cons_zero, List.set_cons_succ]
          refine wpAnyH_ready (rs := [2]) (by kernel_rfl) (by simp) ?_
          refine AllReadyH.cons rfl (fun K hK => ?_) AllReadyH.nil
          go_simp
          go_at_call 51; refine (tables_any _ _ _ _ 3 HS.out.drew.2.2.2.1 (by omega) (by omega) (by omega)).mono ?_; rintro e w7 ⟨A3, n3, c3, ms, rfl, hl3, h83, h63, hrow3, hfar3, h7, hg7⟩; have hf3 : TFar (w.heap.size + 2) A3 ms := hfar3.more (by have h1 := HS.out.2.2.1.2.2.1.lt; have h2 := HS.out.2.2.2.2.2.2.1; (try simp only [World.drew]); omega); replace HS := Lib.hid (HS.out.drew.grown hg7 h7); have HM := Lib.hid (And.intro hrow3 (And.intro hf3 (And.intro hl3 (And.intro h83 h63)))); clear hrow3 hfar3 hf3 hl3 h83 h63 h7 hg7 bT; have r0 : w7.cell? ⟨w.heap.size, 0, none⟩ = some (.slice none 0 0) := HS.out.2.2.1.1.cell 0; have r1 : w7.frozen? ⟨w.heap.size, 0, none⟩ = false := HS.out.2.2.1.1.frozen 0; have s0 : w7.cell? ⟨w.heap.size + 1, 0, none⟩ = some (.int .i64 0) := HS.out.2.2.1.2.1.cell 0; have s1 : w7.cell? ⟨w.heap.size + 1, 1, none⟩ = some (.int .i64 0) := HS.out.2.2.1.2.1.cell 1; have s2 : w7.cell? ⟨w.heap.size + 1, 2, none⟩ = some (.int .i64 0) := HS.out.2.2.1.2.1.cell 2; have t0 : w7.frozen? ⟨w.heap.size + 1, 0, none⟩ = false := HS.out.2.2.1.2.1.frozen 0; have t1 : w7.frozen? ⟨w.heap.size + 1, 1, none⟩ = false := HS.out.2.2.1.2.1.frozen 1; have t2 : w7.frozen? ⟨w.heap.size + 1, 2, none⟩ = false := HS.out.2.2.1.2.1.frozen 2; have y0 : w1.heap.size ≠ w.heap.size := (by have := HS.out.2.2.2.2.2.2.1; omega); have y1 : w1.heap.size ≠ w.heap.size + 1 := (by have := HS.out.2.2.2.2.2.2.1; omega); have z0 : w.heap.size ≠ w1.heap.size := (by have := HS.out.2.2.2.2.2.2.1; omega); have z1 : w.heap.size + 1 ≠ w1.heap.size := (by have := HS.out.2.2.2.2.2.2.1; omega); have HV0 := Lib.hid (HS.out.2.2.1.2.2.1.far (p := ⟨w.heap.size, 0, none⟩) y0 (.slice A3 n3 c3)); have HV1 := Lib.hid (((HV0.out.far (p := ⟨w.heap.size + 1, 0, none⟩) y1 (.int .i64 a)).far (p := ⟨w.heap.size + 1, 1, none⟩) y1 (.int .i64 b)).far (p := ⟨w.heap.size + 1, 2, none⟩) y1 (.int .i64 h9))
          refine hK.out _ _ ?_ (fun hHeld => ?_)
          · exact ⟨HS.out.2.2.1.2.2.1.cell 0, HS.out.2.2.1.2.2.1.cell 1, HS.out.2.2.1.2.2.1.cell 2⟩
          clear hK K
          try simp only [Act.put, List.setIfInBounds_toArray, List.set_cons_zero, List.set_cons_succ]
          refine held_yes (i := 4) (d := some 4) (v := ?_) rfl rfl (by kernel_rfl) (by kernel_rfl) (by kernel_rfl) (fun _ _ _ h => h) (by rfl) ?_ (by assumption) ?_
          rotate_left
          · (intro w hSw; (try dsimp only at hSw); go_simp; (first | done | with_reducible rfl))
          try simp only [Act.put, List.setIfInBounds_toArray, List.set_cons_zero, List.set_cons_succ]
          refine wpAnyH_ready (rs := [5]) (by kernel_rfl) (by simp) ?_
          refine AllReadyH.cons rfl (fun K hK => ?_) AllReadyH.nil
          go_simp
          refine hK.out _ _ ?_ (fun hHeld => ?_)
          · exact ⟨HV0.out.cell 0, HV0.out.cell 1, HV0.out.cell 2⟩
          clear hK K
          try simp only [Act.put, List.setIfInBounds_toArray, List.set_cons_zero, List.set_cons_succ]
          refine wpAnyH_ready (rs := [6]) (by kernel_rfl) (by simp) ?_
          refine AllReadyH.cons rfl (fun K hK => ?_) AllReadyH.nil
          go_simp
          refine hK.out _ _ ?_ (fun hHeld => ?_)
          · exact ⟨HV1.out.cell 0, HV1.out.cell 1, HV1.out.cell 2⟩
          clear hK K
          try simp only [Act.put, List.setIfInBounds_toArray, List.set_cons_zero, List.set_cons_succ]
          refine wpAnyH_done (by kernel_rfl) ?_ _
          go_wp2
          exact bodyPost_ret (v := .tuple #[.slice D nd cd, .agg #[.slice A3 n3 c3], .agg #[.int .i64 a, .int .i64 b, .int .i64 h9]]) (by simp [results, Try.results75, go_sem, *]) rfl (HS.out.out (by omega) HM.out.1 HM.out.2.1 HM.out.2.2.1 HM.out.2.2.2.1 HM.out.2.2.2.2)
        · have HV := Lib.hid hv
          clear hv
          go_wp2_with fail
          refine (specTabValid_val HV.out HS.out.small.1 HS.out.small.2.1 HS.out.small.2.2.1 HS.out.small.2.2.2).mono ?_
          rintro e w6 ⟨rfl, hk⟩
          replace HS := Lib.hid (HS.out.kept hk)
          clear hk bT
          have bT := HS.out.cellT
          have r0 : w6.cell? ⟨w.heap.size, 0, none⟩ = some (.slice none 0 0) := HS.out.2.2.1.1.cell 0
          have r1 : w6.frozen? ⟨w.heap.size, 0, none⟩ = false := HS.out.2.2.1.1.frozen 0
          have s0 : w6.cell? ⟨w.heap.size + 1, 0, none⟩ = some (.int .i64 0) := HS.out.2.2.1.2.1.cell 0
          have s1 : w6.cell? ⟨w.heap.size + 1, 1, none⟩ = some (.int .i64 0) := HS.out.2.2.1.2.1.cell 1
          have s2 : w6.cell? ⟨w.heap.size + 1, 2, none⟩ = some (.int .i64 0) := HS.out.2.2.1.2.1.cell 2
          have t0 : w6.frozen? ⟨w.heap.size + 1, 0, none⟩ = false := HS.out.2.2.1.2.1.frozen 0
          have t1 : w6.frozen? ⟨w.heap.size + 1, 1, none⟩ = false := HS.out.2.2.1.2.1.frozen 1
          have t2 : w6.frozen? ⟨w.heap.size + 1, 2, none⟩ = false := HS.out.2.2.1.2.1.frozen 2
          have y0 : w1.heap.size ≠ w.heap.size := (by have := HS.out.2.2.2.2.2.2.1; omega)
          have y1 : w1.heap.size ≠ w.heap.size + 1 := (by have := HS.out.2.2.2.2.2.2.1; omega)
          have z0 : w.heap.size ≠ w1.heap.size := (by have := HS.out.2.2.2.2.2.2.1; omega)
          have z1 : w.heap.size + 1 ≠ w1.heap.size := (by have := HS.out.2.2.2.2.2.2.1; omega)
          have HV0 := Lib.hid (HS.out.2.2.1.2.2.1.far (p := ⟨w.heap.size, 0, none⟩) y0 (.slice A n c))
          have HV1 := Lib.hid (((HV0.out.far (p := ⟨w.heap.size + 1, 0, none⟩) y1 (.int .i64 a)).far (p := ⟨w.heap.size + 1, 1, none⟩) y1 (.int .i64 b)).far (p := ⟨w.heap.size + 1, 2, none⟩) y1 (.int .i64 h9))
          have x0 : w2.heap.size ≠ w.heap.size := by have h1 := HS.out.2.2.2.2.2.2.1; have h2 := HS.out.2.2.2.2.2.2.2; omega
          have x1 : w2.heap.size ≠ w.heap.size + 1 := by have h1 := HS.out.2.2.2.2.2.2.1; have h2 := HS.out.2.2.2.2.2.2.2; omega
          have x2 : w.heap.size ≠ w2.heap.size := fun e => x0 e.symm
          have x3 : w.heap.size + 1 ≠ w2.heap.size := fun e => x1 e.symm
          have HT0 := Lib.hid (HS.out.2.2.1.2.2.2.far (p := ⟨w.heap.size, 0, none⟩) x0 (.slice A n c))
          have HT1 := Lib.hid (((HT0.out.far (p := ⟨w.heap.size + 1, 0, none⟩) x1 (.int .i64 a)).far (p := ⟨w.heap.size + 1, 1, none⟩) x1 (.int .i64 b)).far (p := ⟨w.heap.size + 1, 2, none⟩) x1 (.int .i64 h9))
          go_wp2_with fail
          refine wp_region_held_drew (S := (fun w' => w'.cell? ⟨w2.heap.size, 0, none⟩ = some (.slice A n c) ∧ w'.cell? ⟨w1.heap.size, 0, none⟩ = some (.int .i64 a) ∧ w'.cell? ⟨w1.heap.size, 1, none⟩ = some (.int .i64 b) ∧ w'.cell? ⟨w1.heap.size, 2, none⟩ = some (.int .i64 h9))) (by kernel_rfl) ?_ (fun hHeld => ?_)
          · exact ⟨HS.out.2.2.1.2.2.2.cell 0, HS.out.2.2.1.2.2.1.cell 0, HS.out.2.2.1.2.2.1.cell 1, HS.out.2.2.1.2.2.1.cell 2⟩
          refine held_yes (i := 0) (d := some 47) (v := ?_) rfl rfl (by kernel_rfl) (by kernel_rfl) (by kernel_rfl) (fun _ _ _ h => h) (by rfl) ?_ (by assumption) ?_
          rotate_left
          · (intro w hSw; (try dsimp only at hSw); go_simp; (first | done | with_reducible rfl))
          try simp only [Act.put, List.setIfInBounds_toArray, List.set_cons_zero, List.set_cons_succ]
          refine held_yes (i := 1) (d := some 48) (v := ?_) rfl rfl (by kernel_rfl) (by kernel_rfl) (by kernel_rfl) (fun _ _ _ h => h) (by rfl) ?_ (by assumption) ?_
          rotate_left
          · (intro w hSw; (try dsimp only at hSw); go_simp; (first | done | with_reducible rfl))
          try simp only [Act.put, List.setIfInBounds_toArray, List.set_cons_zero, List.set_cons_succ]
          refine held_yes (i := 2) (d := some 49) (v := ?_) rfl rfl (by kernel_rfl) (by kernel_rfl) (by kernel_rfl) (fun _ _ _ h => h) (by rfl) ?_ (by assumption) ?_
          rotate_left
          · (intro w hSw; (try dsimp only at hSw); go_simp; (first | done | with_reducible rfl))
          try simp only [Act.put, List.setIfInBounds_toArray, List.set_cons_zero, List.set_cons_succ]
          refine held_yes (i := 3) (d := some 4) (v := ?_) rfl rfl (by kernel_rfl) (by kernel_rfl) (by kernel_rfl) (fun _ _ _ h => h) (by rfl) ?_ (by assumption) ?_
          rotate_left
          · (intro w hSw; (try dsimp only at hSw); go_simp; (first | done | with_reducible rfl))
          try simp only [Act.put, List.setIfInBounds_toArray, List.set_cons_zero, List.set_cons_succ]
          refine wpAnyH_ready (rs := [4]) (by kernel_rfl) (by simp) ?_
          refine AllReadyH.cons rfl (fun K hK => ?_) AllReadyH.nil
          go_simp
          refine hK.out _ _ ?_ (fun hHeld => ?_)
          · exact ⟨HT0.out.drew.cell 0, HV0.out.drew.cell 0, HV0.out.drew.cell 1, HV0.out.drew.cell 2⟩
          clear hK K
          try simp only [Act.put, List.setIfInBounds_toArray, List.set_cons_zero, List.set_cons_succ]
          refine wpAnyH_ready (rs := [5]) (by kernel_rfl) (by simp) ?_
          refine AllReadyH.cons rfl (fun K hK => ?_) AllReadyH.nil
          go_simp
          refine hK.out _ _ ?_ (fun hHeld => ?_)
          · exact ⟨HT1.out.drew.cell 0, HV1.out.drew.cell 0, HV1.out.drew.cell 1, HV1.out.drew.cell 2⟩
          clear hK K
          try simp only [Act.put, List.setIfInBounds_toArray, List.set_cons_zero, List.set_cons_succ]
          refine wpAnyH_done (by kernel_rfl) ?_ _
          go_wp2
          exact bodyPost_ret (v := .tuple #[.slice D nd cd, .agg #[.slice A n c], .agg #[.int .i64 a, .int .i64 b, .int .i64 h9]]) (by simp [results, Try.results75, go_sem, *]) rfl (HS.out.out (by omega) HS.out.2.1.1 HS.out.2.1.2.1.far HS.out.2.1.2.2.1 HS.out.2.1.2.2.2.1 HS.out.2.1.2.2.2.2).drew
      · go_wp2_with fail
        refine wp_region_held_drew (S := (fun w' => w'.cell? ⟨w1.heap.size, 0, none⟩ = some (.int .i64 a) ∧ w'.cell? ⟨w1.heap.size, 1, none⟩ = some (.int .i64 b) ∧ w'.cell? ⟨w1.heap.size, 2, none⟩ = some (.int .i64 h9))) (by kernel_rfl) ?_ (fun hHeld => ?_)
        · exact ⟨HS.out.2.2.1.2.2.1.cell 0, HS.out.2.2.1.2.2.1.cell 1, HS.out.2.2.1.2.2.1.cell 2⟩
        refine held_yes (i := 0) (d := some 43) (v := ?_) rfl rfl (by kernel_rfl) (by kernel_rfl) (by kernel_rfl) (fun _ _ _ h => h) (by rfl) ?_ (by assumption) ?_
        rotate_left
        · (intro w hSw; (try dsimp only at hSw); go_simp; (first | done | with_reducible rfl))
        try simp only [Act.put, List.setIfInBounds_toArray, List.set_cons_zero, List.set_cons_succ]
        refine held_yes (i := 1) (d := some 44) (v := ?_) rfl rfl (by kernel_rfl) (by kernel_rfl) (by kernel_rfl) (fun _ _ _ h => h) (by rfl) ?_ (by assumption) ?_
        rotate_left
        · (intro w hSw; (try dsimp only at hSw); go_simp; (first | done | with_reducible rfl))
        try simp only [Act.put, List.setIfInBounds_toArray, List.set_cons_zero, List.set_cons_succ]
        refine held_yes (i := 3) (d := some 46) (v := ?_) rfl rfl (by kernel_rfl) (by kernel_rfl) (by kernel_rfl) (fun _ _ _ h => h) (by rfl) ?_ (by assumption) ?_
        rotate_left
        · (intro w hSw; (try dsimp only at hSw); go_simp; (first | done | with_reducible rfl))
        try simp only [Act.put, List.setIfInBounds_toArray, List.set_cons_zero, List.set_cons_succ]
        refine wpAnyH_ready (rs := [2]) (by kernel_rfl) (by simp) ?_
        refine AllReadyH.cons rfl (fun K hK => ?_) AllReadyH.nil
        go_simp
        go_at_call 51; refine (tables_any _ _ _ _ 3 HS.out.drew.2.2.2.1 (by omega) (by omega) (by omega)).mono ?_; rintro e w7 ⟨A3, n3, c3, ms, rfl, hl3, h83, h63, hrow3, hfar3, h7, hg7⟩; have hf3 : TFar (w.heap.size + 2) A3 ms := hfar3.more (by have h1 := HS.out.2.2.1.2.2.1.lt; have h2 := HS.out.2.2.2.2.2.2.1; (try simp only [World.drew]); omega); replace HS := Lib.hid (HS.out.drew.grown hg7 h7); have HM := Lib.hid (And.intro hrow3 (And.intro hf3 (And.intro hl3 (And.intro h83 h63)))); clear hrow3 hfar3 hf3 hl3 h83 h63 h7 hg7 bT; have r0 : w7.cell? ⟨w.heap.size, 0, none⟩ = some (.slice none 0 0) := HS.out.2.2.1.1.cell 0; have r1 : w7.frozen? ⟨w.heap.size, 0, none⟩ = false := HS.out.2.2.1.1.frozen 0; have s0 : w7.cell? ⟨w.heap.size + 1, 0, none⟩ = some (.int .i64 0) := HS.out.2.2.1.2.1.cell 0; have s1 : w7.cell? ⟨w.heap.size + 1, 1, none⟩ = some (.int .i64 0) := HS.out.2.2.1.2.1.cell 1; have s2 : w7.cell? ⟨w.heap.size + 1, 2, none⟩ = some (.int .i64 0) := HS.out.2.2.1.2.1.cell 2; have t0 : w7.frozen? ⟨w.heap.size + 1, 0, none⟩ = false := HS.out.2.2.1.2.1.frozen 0; have t1 : w7.frozen? ⟨w.heap.size + 1, 1, none⟩ = false := HS.out.2.2.1.2.1.frozen 1; have t2 : w7.frozen? ⟨w.heap.size + 1, 2, none⟩ = false := HS.out.2.2.1.2.1.frozen 2; have y0 : w1.heap.size ≠ w.heap.size := (by have := HS.out.2.2.2.2.2.2.1; omega); have y1 : w1.heap.size ≠ w.heap.size + 1 := (by have := HS.out.2.2.2.2.2.2.1; omega); have z0 : w.heap.size ≠ w1.heap.size := (by have := HS.out.2.2.2.2.2.2.1; omega); have z1 : w.heap.size + 1 ≠ w1.heap.size := (by have := HS.out.2.2.2.2.2.2.1; omega); have HV0 := Lib.hid (HS.out.2.2.1.2.2.1.far (p := ⟨w.heap.size, 0, none⟩) y0 (.slice A3 n3 c3)); have HV1 := Lib.hid (((HV0.out.far (p := ⟨w.heap.size + 1, 0, none⟩) y1 (.int .i64 a)).far (p := ⟨w.heap.size + 1, 1, none⟩) y1 (.int .i64 b)).far (p := ⟨w.heap.size + 1, 2, none⟩) y1 (.int .i64 h9))
        refine hK.out _ _ ?_ (fun hHeld => ?_)
        · exact ⟨HS.out.2.2.1.2.2.1.cell 0, HS.out.2.2.1.2.2.1.cell 1, HS.out.2.2.1.2.2.1.cell 2⟩
        clear hK K
        try simp only [Act.put, List.setIfInBounds_toArray, List.set_cons_zero, List.set_cons_succ]
        refine held_yes (i := 4) (d := some 4) (v := ?_) rfl rfl (by kernel_rfl) (by kernel_rfl) (by kernel_rfl) (fun _ _ _ h => h) (by rfl) ?_ (by assumption) ?_
        rotate_left
        · (intro w hSw; (try dsimp only at hSw); go_simp; (first | done | with_reducible rfl))
        try simp only [Act.put, List.setIfInBounds_toArray, List.set_cons_zero, List.set_cons_succ]
        refine wpAnyH_ready (rs := [5]) (by kernel_rfl) (by simp) ?_
        refine AllReadyH.cons rfl (fun K hK => ?_) AllReadyH.nil
        go_simp
        refine hK.out _ _ ?_ (fun hHeld => ?_)
        · exact ⟨HV0.out.cell 0, HV0.out.cell 1, HV0.out.cell 2⟩
        clear hK K
        try simp only [Act.put, List.setIfInBounds_toArray, List.set_cons_zero, List.set_cons_succ]
        refine wpAnyH_ready (rs := [6]) (by kernel_rfl) (by simp) ?_
        refine AllReadyH.cons rfl (fun K hK => ?_) AllReadyH.nil
        go_simp
        refine hK.out _ _ ?_ (fun hHeld => ?_)
        · exact ⟨HV1.out.cell 0, HV1.out.cell 1, HV1.out.cell 2⟩
        clear hK K
        try simp only [Act.put, List.setIfInBounds_toArray, List.set_cons_zero, List.set_cons_succ]
        refine wpAnyH_done (by kernel_rfl) ?_ _
        go_wp2
        exact bodyPost_ret (v := .tuple #[.slice D nd cd, .agg #[.slice A3 n3 c3], .agg #[.int .i64 a, .int .i64 b, .int .i64 h9]]) (by simp [results, Try.results75, go_sem, *]) rfl (HS.out.out (by omega) HM.out.1 HM.out.2.1 HM.out.2.2.1 HM.out.2.2.2.1 HM.out.2.2.2.2)
    obtain ⟨k, rfl⟩ : ∃ j, k = j + 1 := ⟨k - 1, by omega⟩
    have k1 : decide ((0 : Int) < ((k + 1 : Nat) : Int)) = true := decide_eq_true (by omega)
    have k2 : (0 : Int) < ((k + 1 : Nat) : Int) := by omega
    cases hv : tabB (ll ls)
    · have HV := Lib.hid hv
      clear hv
      go_wp2_with fail
      refine (specTabValid_val HV.out HS.out.small.1 HS.out.small.2.1 HS.out.small.2.2.1 HS.out.small.2.2.2).mono ?_
      rintro e w4 ⟨rfl, hk⟩
      replace HS := Lib.hid (HS.out.kept hk)
      clear hk bT
      have bT := HS.out.cellT
      go_wp2_with fail
      refine (odd_any _ _ _ _ _ HS.out.2.2.2.1 (by omega) hN hN2).mono ?_
      rintro e w5 ⟨q, rfl, h5, hg5⟩
      replace HS := Lib.hid (HS.out.grown hg5 h5)
      clear h5 hg5 bT
      have bT := HS.out.cellT
      cases q
      · go_wp2_with fail
        refine (specTabValid_val HV.out HS.out.small.1 HS.out.small.2.1 HS.out.small.2.2.1 HS.out.small.2.2.2).mono ?_
        rintro e w6 ⟨rfl, hk⟩
        replace HS := Lib.hid (HS.out.kept hk)
        clear hk bT
        have bT := HS.out.cellT
        go_wp2_with fail
        refine wp_region_held_drew (S := (fun w' => w'.cell? ⟨w1.heap.size, 0, none⟩ = some (.int .i64 a) ∧ w'.cell? ⟨w1.heap.size, 1, none⟩ = some (.int .i64 b) ∧ w'.cell? ⟨w1.heap.size, 2, none⟩ = some (.int .i64 h9))) (by kernel_rfl) ?_ (fun hHeld => ?_)
        · exact ⟨HS.out.2.2.1.2.2.1.cell 0, HS.out.2.2.1.2.2.1.cell 1, HS.out.2.2.1.2.2.1.cell 2⟩
        refine held_yes (i := 0) (d := some 43) (v := ?_) rfl rfl (by kernel_rfl) (by kernel_rfl) (by kernel_rfl) (fun _ _ _ h => h) (by rfl) ?_ (by assumption) ?_
        rotate_left
        · (intro w hSw; (try dsimp only at hSw); go_simp; (first | done | with_reducible rfl))
        try simp only [Act.put, List.setIfInBounds_toArray, List.set_cons_zero, List.set_cons_succ]
        refine held_yes (i := 1) (d := some 44) (v := ?_) rfl rfl (by kernel_rfl) (by kernel_rfl) (by kernel_rfl) (fun _ _ _ h => h) (by rfl) ?_ (by assumption) ?_
        rotate_left
        · (intro w hSw; (try dsimp only at hSw); go_simp; (first | done | with_reducible rfl))
        try simp only [Act.put, List.setIfInBounds_toArray, List.set_cons_zero, List.set_cons_succ]
        refine held_yes (i := 3) (d := some 46) (v := ?_) rfl rfl (by kernel_rfl) (by kernel_rfl) (by kernel_rfl) (fun _ _ _ h => h) (by rfl) ?_ (by assumption) ?_
        rotate_left
        · (intro w hSw; (try dsimp only at hSw); go_simp; (first | done | with_reducible rfl))
        try simp only [Act.put, List.setIfInBounds_toArray, List.set_cons_zero, List.set_cons_succ]
        refine wpAnyH_ready (rs := [2]) (by kernel_rfl) (by simp) ?_
        refine AllReadyH.cons rfl (fun K hK => ?_) AllReadyH.nil
        go_simp
        go_at_call 51; refine (tables_any _ _ _ _ 3 HS.out.drew.2.2.2.1 (by omega) (by omega) (by omega)).mono ?_; rintro e w7 ⟨A3, n3, c3, ms, rfl, hl3, h83, h63, hrow3, hfar3, h7, hg7⟩; have hf3 : TFar (w.heap.size + 2) A3 ms := hfar3.more (by have h1 := HS.out.2.2.1.2.2.1.lt; have h2 := HS.out.2.2.2.2.2.2.1; (try simp only [World.drew]); omega); replace HS := Lib.hid (HS.out.drew.grown hg7 h7); have HM := Lib.hid (And.intro hrow3 (And.intro hf3 (And.intro hl3 (And.intro h83 h63)))); clear hrow3 hfar3 hf3 hl3 h83 h63 h7 hg7 bT; have r0 : w7.cell? ⟨w.heap.size, 0, none⟩ = some (.slice none 0 0) := HS.out.2.2.1.1.cell 0; have r1 : w7.frozen? ⟨w.heap.size, 0, none⟩ = false := HS.out.2.2.1.1.frozen 0; have s0 : w7.cell? ⟨w.heap.size + 1, 0, none⟩ = some (.int .i64 0) := HS.out.2.2.1.2.1.cell 0; have s1 : w7.cell? ⟨w.heap.size + 1, 1, none⟩ = some (.int .i64 0) := HS.out.2.2.1.2.1.cell 1; have s2 : w7.cell? ⟨w.heap.size + 1, 2, none⟩ = some (.int .i64 0) := HS.out.2.2.1.2.1.cell 2; have t0 : w7.frozen? ⟨w.heap.size + 1, 0, none⟩ = false := HS.out.2.2.1.2.1.frozen 0; have t1 : w7.frozen? ⟨w.heap.size + 1, 1, none⟩ = false := HS.out.2.2.1.2.1.frozen 1; have t2 : w7.frozen? ⟨w.heap.size + 1, 2, none⟩ = false := HS.out.2.2.1.2.1.frozen 2; have y0 : w1.heap.size ≠ w.heap.size := (by have := HS.out.2.2.2.2.2.2.1; omega); have y1 : w1.heap.size ≠ w.heap.size + 1 := (by have := HS.out.2.2.2.2.2.2.1; omega); have z0 : w.heap.size ≠ w1.heap.size := (by have := HS.out.2.2.2.2.2.2.1; omega); have z1 : w.heap.size + 1 ≠ w1.heap.size := (by have := HS.out.2.2.2.2.2.2.1; omega); have HV0 := Lib.hid (HS.out.2.2.1.2.2.1.far (p := ⟨w.heap.size, 0, none⟩) y0 (.slice A3 n3 c3)); have HV1 := Lib.hid (((HV0.out.far (p := ⟨w.heap.size + 1, 0, none⟩) y1 (.int .i64 a)).far (p := ⟨w.heap.size + 1, 1, none⟩) y1 (.int .i64 b)).far (p := ⟨w.heap.size + 1, 2, none⟩) y1 (.int .i64 h9))
        refine hK.out _ _ ?_ (fun hHeld => ?_)
        · exact ⟨HS.out.2.2.1.2.2.1.cell 0, HS.out.2.2.1.2.2.1.cell 1, HS.out.2.2.1.2.2.1.cell 2⟩
        clear hK K
        try simp only [Act.put, List.setIfInBounds_toArray, List.set_cons_zero, List.set_cons_succ]
        refine held_yes (i := 4) (d := some 4) (v := ?_) rfl rfl (by kernel_rfl) (by kernel_rfl) (by kernel_rfl) (fun _ _ _ h => h) (by rfl) ?_ (by assumption) ?_
        rotate_left
        · (intro w hSw; (try dsimp only at hSw); go_simp; (first | done | with_reducible rfl))
        try simp only [Act.put, List.setIfInBounds_toArray, List.set_cons_zero, List.set_cons_succ]
        refine wpAnyH_ready (rs := [5]) (by kernel_rfl) (by simp) ?_
        refine AllReadyH.cons rfl (fun K hK => ?_) AllReadyH.nil
        go_simp
        refine hK.out _ _ ?_ (fun hHeld => ?_)
        · exact ⟨HV0.out.cell 0, HV0.out.cell 1, HV0.out.cell 2⟩
        clear hK K
        try simp only [Act.put, List.setIfInBounds_toArray, List.set_cons_zero, List.set_cons_succ]
        refine wpAnyH_ready (rs := [6]) (by kernel_rfl) (by simp) ?_
        refine AllReadyH.cons rfl (fun K hK => ?_) AllReadyH.nil
        go_simp
        refine hK.out _ _ ?_ (fun hHeld => ?_)
        · exact ⟨HV1.out.cell 0, HV1.out.cell 1, HV1.out.cell 2⟩
        clear hK K
        try simp only [Act.put, List.setIfInBounds_toArray, List.set_cons_zero, List.set_cons_succ]
        refine wpAnyH_done (by kernel_rfl) ?_ _
        go_wp2
        exact bodyPost_ret (v := .tuple #[.slice D nd cd, .agg #[.slice A3 n3 c3], .agg #[.int .i64 a, .int .i64 b, .int .i64 h9]]) (by simp [results, Try.results75, go_sem, *]) rfl (HS.out.out (by omega) HM.out.1 HM.out.2.1 HM.out.2.2.1 HM.out.2.2.2.1 HM.out.2.2.2.2)
      · go_wp2_with fail
        refine wp_region_held_drew (S := (fun w' => w'.cell? ⟨w1.heap.size, 0, none⟩ = some (.int .i64 a) ∧ w'.cell? ⟨w1.heap.size, 1, none⟩ = some (.int .i64 b) ∧ w'.cell? ⟨w1.heap.size, 2, none⟩ = some (.int .i64 h9))) (by kernel_rfl) ?_ (fun hHeld => ?_)
        · exact ⟨HS.out.2.2.1.2.2.1.cell 0, HS.out.2.2.1.2.2.1.cell 1, HS.out.2.2.1.2.2.1.cell 2⟩
        refine held_yes (i := 0) (d := some 43) (v := ?_) rfl rfl (by kernel_rfl) (by kernel_rfl) (by kernel_rfl) (fun _ _ _ h => h) (by rfl) ?_ (by assumption) ?_
        rotate_left
        · (intro w hSw; (try dsimp only at hSw); go_simp; (first | done | with_reducible rfl))
        try simp only [Act.put, List.setIfInBounds_toArray, List.set_cons_zero, List.set_cons_succ]
        refine held_yes (i := 1) (d := some 44) (v := ?_) rfl rfl (by kernel_rfl) (by kernel_rfl) (by kernel_rfl) (fun _ _ _ h => h) (by rfl) ?_ (by assumption) ?_
        rotate_left
        · (intro w hSw; (try dsimp only at hSw); go_simp; (first | done | with_reducible rfl))
        try simp only [Act.put, List.setIfInBounds_toArray, List.set_cons_zero, List.set_cons_succ]
        refine held_yes (i := 3) (d := some 46) (v := ?_) rfl rfl (by kernel_rfl) (by kernel_rfl) (by kernel_rfl) (fun _ _ _ h => h) (by rfl) ?_ (by assumption) ?_
        rotate_left
        · (intro w hSw; (try dsimp only at hSw); go_simp; (first | done | with_reducible rfl))
        try simp only [Act.put, List.setIfInBounds_toArray, List.set_cons_zero, List.set_cons_succ]
        refine wpAnyH_ready (rs := [2]) (by kernel_rfl) (by simp) ?_
        refine AllReadyH.cons rfl (fun K hK => ?_) AllReadyH.nil
        go_simp
        go_at_call 51; refine (tables_any _ _ _ _ 3 HS.out.drew.2.2.2.1 (by omega) (by omega) (by omega)).mono ?_; rintro e w7 ⟨A3, n3, c3, ms, rfl, hl3, h83, h63, hrow3, hfar3, h7, hg7⟩; have hf3 : TFar (w.heap.size + 2) A3 ms := hfar3.more (by have h1 := HS.out.2.2.1.2.2.1.lt; have h2 := HS.out.2.2.2.2.2.2.1; (try simp only [World.drew]); omega); replace HS := Lib.hid (HS.out.drew.grown hg7 h7); have HM := Lib.hid (And.intro hrow3 (And.intro hf3 (And.intro hl3 (And.intro h83 h63)))); clear hrow3 hfar3 hf3 hl3 h83 h63 h7 hg7 bT; have r0 : w7.cell? ⟨w.heap.size, 0, none⟩ = some (.slice none 0 0) := HS.out.2.2.1.1.cell 0; have r1 : w7.frozen? ⟨w.heap.size, 0, none⟩ = false := HS.out.2.2.1.1.frozen 0; have s0 : w7.cell? ⟨w.heap.size + 1, 0, none⟩ = some (.int .i64 0) := HS.out.2.2.1.2.1.cell 0; have s1 : w7.cell? ⟨w.heap.size + 1, 1, none⟩ = some (.int .i64 0) := HS.out.2.2.1.2.1.cell 1; have s2 : w7.cell? ⟨w.heap.size + 1, 2, none⟩ = some (.int .i64 0) := HS.out.2.2.1.2.1.cell 2; have t0 : w7.frozen? ⟨w.heap.size + 1, 0, none⟩ = false := HS.out.2.2.1.2.1.frozen 0; have t1 : w7.frozen? ⟨w.heap.size + 1, 1, none⟩ = false := HS.out.2.2.1.2.1.frozen 1; have t2 : w7.frozen? ⟨w.heap.size + 1, 2, none⟩ = false := HS.out.2.2.1.2.1.frozen 2; have y0 : w1.heap.size ≠ w.heap.size := (by have := HS.out.2.2.2.2.2.2.1; omega); have y1 : w1.heap.size ≠ w.heap.size + 1 := (by have := HS.out.2.2.2.2.2.2.1; omega); have z0 : w.heap.size ≠ w1.heap.size := (by have := HS.out.2.2.2.2.2.2.1; omega); have z1 : w.heap.size + 1 ≠ w1.heap.size := (by have := HS.out.2.2.2.2.2.2.1; omega); have HV0 := Lib.hid (HS.out.2.2.1.2.2.1.far (p := ⟨w.heap.size, 0, none⟩) y0 (.slice A3 n3 c3)); have HV1 := Lib.hid (((HV0.out.far (p := ⟨w.heap.size + 1, 0, none⟩) y1 (.int .i64 a)).far (p := ⟨w.heap.size + 1, 1, none⟩) y1 (.int .i64 b)).far (p := ⟨w.heap.size + 1, 2, none⟩) y1 (.int .i64 h9))
        refine hK.out _ _ ?_ (fun hHeld => ?_)
        · exact ⟨HS.out.2.2.1.2.2.1.cell 0, HS.out.2.2.1.2.2.1.cell 1, HS.out.2.2.1.2.2.1.cell 2⟩
        clear hK K
        try simp only [Act.put, List.setIfInBounds_toArray, List.set_cons_zero, List.set_cons_succ]
        refine held_yes (i := 4) (d := some 4) (v := ?_) rfl rfl (by kernel_rfl) (by kernel_rfl) (by kernel_rfl) (fun _ _ _ h => h) (by rfl) ?_ (by assumption) ?_
        rotate_left
        · (intro w hSw; (try dsimp only at hSw); go_simp; (first | done | with_reducible rfl))
        try simp only [Act.put, List.setIfInBounds_toArray, List.set_cons_zero, List.set_cons_succ]
        refine wpAnyH_ready (rs := [5]) (by kernel_rfl) (by simp) ?_
        refine AllReadyH.cons rfl (fun K hK => ?_) AllReadyH.nil
        go_simp
        refine hK.out _ _ ?_ (fun hHeld => ?_)
        · exact ⟨HV0.out.cell 0, HV0.out.cell 1, HV0.out.cell 2⟩
        clear hK K
        try simp only [Act.put, List.setIfInBounds_toArray, List.set_cons_zero, List.set_cons_succ]
        refine wpAnyH_ready (rs := [6]) (by kernel_rfl) (by simp) ?_
        refine AllReadyH.cons rfl (fun K hK => ?_) AllReadyH.nil
        go_simp
        refine hK.out _ _ ?_ (fun hHeld => ?_)
        · exact ⟨HV1.out.cell 0, HV1.out.cell 1, HV1.out.cell 2⟩
        clear hK K
        try simp only [Act.put, List.setIfInBounds_toArray, List.set_cons_zero, List.set_cons_succ]
        refine wpAnyH_done (by kernel_rfl) ?_ _
        go_wp2
        exact bodyPost_ret (v := .tuple #[.slice D nd cd, .agg #[.slice A3 n3 c3], .agg #[.int .i64 a, .int .i64 b, .int .i64 h9]]) (by simp [results, Try.results75, go_sem, *]) rfl (HS.out.out (by omega) HM.out.1 HM.out.2.1 HM.out.2.2.1 HM.out.2.2.2.1 HM.out.2.2.2.2)
    · have HV := Lib.hid hv
      clear hv
      go_wp2_with fail
      refine (specTabValid_val HV.out HS.out.small.1 HS.out.small.2.1 HS.out.small.2.2.1 HS.out.small.2.2.2).mono ?_
      rintro e w4 ⟨rfl, hk⟩
      replace HS := Lib.hid (HS.out.kept hk)
      clear hk bT
      have bT := HS.out.cellT
      go_wp2_with fail
      refine wp_region_held_drew (S := (fun _ => True)) (by kernel_rfl) ?_ (fun hHeld => ?_)
      · trivial
      replace HS := Lib.hid HS.out.drew
      clear bT
      have bT := HS.out.cellT
      refine held_yes (i := 1) (d := some 30) (v := ?_) rfl rfl (by kernel_rfl) (by kernel_rfl) (by kernel_rfl) (fun _ _ _ h => h) (by rfl) ?_ (by assumption) ?_
      rotate_left
      · (intro w hSw; (try dsimp only at hSw); go_simp; (first | done | with_reducible rfl))
      try simp only [Act.put, List.setIfInBounds_toArray, List.set_cons_zero, List.set_cons_succ]
      refine held_yes (i := 3) (d := some 32) (v := ?_) rfl rfl (by kernel_rfl) (by kernel_rfl) (by kernel_rfl) (fun _ _ _ h => h) (by rfl) ?_ (by assumption) ?_
      rotate_left
      · (intro w hSw; (try dsimp only at hSw); go_simp; (first | done | with_reducible rfl))
      try simp only [Act.put, List.setIfInBounds_toArray, List.set_cons_zero, List.set_cons_succ]
      refine wpAnyH_ready (rs := [0, 2]) (by kernel_rfl) (by simp) ?_
      refine AllReadyH.cons rfl (fun K hK => ?_) (AllReadyH.cons rfl (fun K hK => ?_) AllReadyH.nil)
      · go_simp
        refine hK.out _ _ ?_ (fun hHeld => ?_)
        · with_reducible assumption
        clear hK K
        try simp only [Act.put, List.setIfInBounds_toArray, List.set_cons_zero, List.set_cons_succ]
        refine wpAnyH_ready (rs := [2]) (by kernel_rfl) (by simp) ?_
        refine AllReadyH.cons rfl (fun K hK => ?_) AllReadyH.nil
        go_simp; go_at_call 76; refine (pick_lt _ _ _ _ _ HS.out.2.2.2.1 (by omega) (by omega)).mono ?_; rintro e w7 ⟨x7, rfl, u7, v7, h7, hg7⟩; replace HS := Lib.hid (HS.out.grown hg7 h7); clear h7 hg7 bT; have bT := HS.out.cellT
        refine hK.out _ _ ?_ (fun hHeld => ?_)
        · trivial
        clear hK K
        try simp only [Act.put, List.setIfInBounds_toArray, List.set_cons_zero, List.set_cons_succ]
        refine wpAnyH_ready (rs := [4]) (by kernel_rfl) (by simp) ?_
        refine AllReadyH.cons rfl (fun K hK => ?_) AllReadyH.nil
        go_simp; go_at_call 76; refine (pick_lt _ _ _ _ _ HS.out.2.2.2.1 (by omega) (by omega)).mono ?_; rintro e w8 ⟨x8, rfl, u8, v8, h8, hg8⟩; replace HS := Lib.hid (HS.out.grown hg8 h8); clear h8 hg8 bT; have bT := HS.out.cellT
        refine hK.out _ _ ?_ (fun hHeld => ?_)
        · trivial
        clear hK K
        try simp only [Act.put, List.setIfInBounds_toArray, List.set_cons_zero, List.set_cons_succ]
        refine wpAnyH_ready (rs := [5]) (by kernel_rfl) (by simp) ?_
        refine AllReadyH.cons rfl (fun K hK => ?_) AllReadyH.nil
        go_simp; go_at_call 36; obtain ⟨X, hX⟩ : ∃ X, cutV (ll ls) x7 x8 = X := ⟨_, rfl⟩; have hsm := cut_small hX; refine (specCut_v hX HS.out.small.1 HS.out.small.2.1 HS.out.small.2.2.1 HS.out.small.2.2.2).mono ?_; rintro e w9 ⟨n1, A1, c1, cs1, rfl, hl1, hs1, ho, hk⟩; rw [← hs1] at hsm; have hb9 := (HS.out.kept hk).cellT; have hf9 := (HS.out.kept hk).frozenT; replace HS := Lib.hid (HS.out.table hk ho hl1 (by have h1 := hsm.1; rw [ll_length] at h1; omega) (fun l hq => hsm.2 l.xs (List.mem_map_of_mem hq))); clear hX hsm hl1 hs1 ho hk bT
        refine hK.out _ _ ?_ (fun hHeld => ?_)
        · trivial
        clear hK K
        try simp only [Act.put, List.setIfInBounds_toArray, List.set_cons_zero, List.set_cons_succ]
        refine wpAnyH_ready (rs := [6]) (by kernel_rfl) (by simp) ?_
        refine AllReadyH.cons rfl (fun K hK => ?_) AllReadyH.nil
        go_simp
        refine hK.out _ _ ?_ (fun hHeld => ?_)
        · trivial
        clear hK K
        try simp only [Act.put, List.setIfInBounds_toArray, List.set_cons_zero, List.set_cons_succ]
        refine wpAnyH_done (by kernel_rfl) ?_ _
        go_wp2
        go_roundw
        case rel => exact ⟨k, Q + 1 + 1, _, _, _, _, by go_num, by omega, by omega, HS.out⟩
        case measure => simp [intOf]
      · go_simp; go_at_call 76; refine (pick_lt _ _ _ _ _ HS.out.2.2.2.1 (by omega) (by omega)).mono ?_; rintro e w7 ⟨x7, rfl, u7, v7, h7, hg7⟩; replace HS := Lib.hid (HS.out.grown hg7 h7); clear h7 hg7 bT; have bT := HS.out.cellT
        refine hK.out _ _ ?_ (fun hHeld => ?_)
        · trivial
        clear hK K
        try simp only [Act.put, List.setIfInBounds_toArray, List.set_cons_zero, List.set_cons_succ]
        refine wpAnyH_ready (rs := [0, 4]) (by kernel_rfl) (by simp) ?_
        refine AllReadyH.cons rfl (fun K hK => ?_) (AllReadyH.cons rfl (fun K hK => ?_) AllReadyH.nil)
        · go_simp
          refine hK.out _ _ ?_ (fun hHeld => ?_)
          · with_reducible assumption
          clear hK K
          try simp only [Act.put, List.setIfInBounds_toArray, List.set_cons_zero, List.set_cons_succ]
          refine wpAnyH_ready (rs := [4]) (by kernel_rfl) (by simp) ?_
          refine AllReadyH.cons rfl (fun K hK => ?_) AllReadyH.nil
          go_simp; go_at_call 76; refine (pick_lt _ _ _ _ _ HS.out.2.2.2.1 (by omega) (by omega)).mono ?_; rintro e w8 ⟨x8, rfl, u8, v8, h8, hg8⟩; replace HS := Lib.hid (HS.out.grown hg8 h8); clear h8 hg8 bT; have bT := HS.out.cellT
          refine hK.out _ _ ?_ (fun hHeld => ?_)
          · trivial
          clear hK K
          try simp only [Act.put, List.setIfInBounds_toArray, List.set_cons_zero, List.set_cons_succ]
          refine wpAnyH_ready (rs := [5]) (by kernel_rfl) (by simp) ?_
          refine AllReadyH.cons rfl (fun K hK => ?_) AllReadyH.nil
          go_simp; go_at_call 36; obtain ⟨X, hX⟩ : ∃ X, cutV (ll ls) x7 x8 = X := ⟨_, rfl⟩; have hsm := cut_small hX; refine (specCut_v hX HS.out.small.1 HS.out.small.2.1 HS.out.small.2.2.1 HS.out.small.2.2.2).mono ?_; rintro e w9 ⟨n1, A1, c1, cs1, rfl, hl1, hs1, ho, hk⟩; rw [← hs1] at hsm; have hb9 := (HS.out.kept hk).cellT; have hf9 := (HS.out.kept hk).frozenT; replace HS := Lib.hid (HS.out.table hk ho hl1 (by have h1 := hsm.1; rw [ll_length] at h1; omega) (fun l hq => hsm.2 l.xs (List.mem_map_of_mem hq))); clear hX hsm hl1 hs1 ho hk bT
          refine hK.out _ _ ?_ (fun hHeld => ?_)
          · trivial
          clear hK K
          try simp only [Act.put, List.setIfInBounds_toArray, List.set_cons_zero, List.set_cons_succ]
          refine wpAnyH_ready (rs := [6]) (by kernel_rfl) (by simp) ?_
          refine AllReadyH.cons rfl (fun K hK => ?_) AllReadyH.nil
          go_simp
          refine hK.out _ _ ?_ (fun hHeld => ?_)
          · trivial
          clear hK K
          try simp only [Act.put, List.setIfInBounds_toArray, List.set_cons_zero, List.set_cons_succ]
          refine wpAnyH_done (by kernel_rfl) ?_ _
          go_wp2
          go_roundw
          case rel => exact ⟨k, Q + 1 + 1, _, _, _, _, by go_num, by omega, by omega, HS.out⟩
          case measure => simp [intOf]
        · go_simp; go_at_call 76; refine (pick_lt _ _ _ _ _ HS.out.2.2.2.1 (by omega) (by omega)).mono ?_; rintro e w8 ⟨x8, rfl, u8, v8, h8, hg8⟩; replace HS := Lib.hid (HS.out.grown hg8 h8); clear h8 hg8 bT; have bT := HS.out.cellT
          refine hK.out _ _ ?_ (fun hHeld => ?_)
          · trivial
          clear hK K
          try simp only [Act.put, List.setIfInBounds_toArray, List.set_cons_zero, List.set_cons_succ]
          refine wpAnyH_ready (rs := [0]) (by kernel_rfl) (by simp) ?_
          refine AllReadyH.cons rfl (fun K hK => ?_) AllReadyH.nil
          go_simp
          refine hK.out _ _ ?_ (fun hHeld => ?_)
          · with_reducible assumption
          clear hK K
          try simp only [Act.put, List.setIfInBounds_toArray, List.set_cons_zero, List.set_cons_succ]
          refine wpAnyH_ready (rs := [5]) (by kernel_rfl) (by simp) ?_
          refine AllReadyH.cons rfl (fun K hK => ?_) AllReadyH.nil
          go_simp; go_at_call 36; obtain ⟨X, hX⟩ : ∃ X, cutV (ll ls) x7 x8 = X := ⟨_, rfl⟩; have hsm := cut_small hX; refine (specCut_v hX HS.out.small.1 HS.out.small.2.1 HS.out.small.2.2.1 HS.out.small.2.2.2).mono ?_; rintro e w9 ⟨n1, A1, c1, cs1, rfl, hl1, hs1, ho, hk⟩; rw [← hs1] at hsm; have hb9 := (HS.out.kept hk).cellT; have hf9 := (HS.out.kept hk).frozenT; replace HS := Lib.hid (HS.out.table hk ho hl1 (by have h1 := hsm.1; rw [ll_length] at h1; omega) (fun l hq => hsm.2 l.xs (List.mem_map_of_mem hq))); clear hX hsm hl1 hs1 ho hk bT
          refine hK.out _ _ ?_ (fun hHeld => ?_)
          · trivial
          clear hK K
          try simp only [Act.put, List.setIfInBounds_toArray, List.set_cons_zero, List.set_cons_succ]
          refine wpAnyH_ready (rs := [6]) (by kernel_rfl) (by simp) ?_
          refine AllReadyH.cons rfl (fun K hK => ?_) AllReadyH.nil
          go_simp
          refine hK.out _ _ ?_ (fun hHeld => ?_)
          · trivial
          clear hK K
          try simp only [Act.put, List.setIfInBounds_toArray, List.set_cons_zero, List.set_cons_succ]
          refine wpAnyH_done (by kernel_rfl) ?_ _
          go_wp2
          go_roundw
          case rel => exact ⟨k, Q + 1 + 1, _, _, _, _, by go_num, by omega, by omega, HS.out⟩
          case measure => simp [intOf]
end Go.Proofs.Ytfiajbkmklcaiaa
