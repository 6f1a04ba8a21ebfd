/- What the model draws for chapter 4: l20Block. -/
import Derived.Test.YteniikfgellhfaaDrawBlocks
import Derived.Test.YteniikfgellhfaaHand
import Derived.IntWalk
namespace Go.Proofs.Yteniikfgellhfaa
open Go.ChangeShapes Go.WideShapes Go.ChangeAt Go.RowKit

set_option maxHeartbeats 4000000 in
theorem block_any (w : World) (B g P : Nat) (N : Int) (h : Rd w B g P) (hP : P ≤ 100000000) (hN : 1 ≤ N) (hN2 : N ≤ 1000000000000) :
    Calls Try.prog 92 #[.pointer (some ⟨g, 0, none⟩), .int .i64 N] w (DrewBlock w B g (P + 40)) := by
  have h0 := h.alloc (.cells #[.int .i64 0, .slice none 0 0] 87)
  have hg := h.lt
  go_enter Try.func92, Try.ntmps92
  go_wp2_with fail
  refine (pick_lt _ _ _ _ _ h0 (by omega) (by omega)).mono ?_
  rintro e w1 ⟨x1, rfl, u1, v1, h1, hg1⟩
  have hr1 := (Blk.new w 87 #[.int .i64 0, .slice none 0 0]).grown hg1 (by intro e; injection e with e; omega)
  have hG1 := grown_trans (grown_alloc (grown_refl w (some g)) (.cells #[.int .i64 0, .slice none 0 0] 87)) hg1
  clear hg1 h0
  go_wp2_with fail
  refine (pick_lt _ _ _ _ _ ((h1.alloc _).alloc _) (by omega) (by omega)).mono ?_
  rintro e w2 ⟨x2, rfl, u2, v2, h2, hg2⟩
  have g1 := h1.lt
  have hr2 := ((hr1.alloc (.cells #[.int .i64 x1, .int .i64 100, .int .i64 99] 3)).alloc (.cells #[.int .i64 0, .int .i64 0, .int .i64 0, .int .i64 0, .int .i64 0, .int .i64 1, .int .i64 2] 3)).grown hg2 (by intro e; injection e with e; omega)
  have ht := ((Blk.new w1 3 #[.int .i64 x1, .int .i64 100, .int .i64 99]).alloc (.cells #[.int .i64 0, .int .i64 0, .int .i64 0, .int .i64 0, .int .i64 0, .int .i64 1, .int .i64 2] 3)).grown hg2 (by intro e; injection e with e; omega)
  have hs := (Blk.new (w1.alloc (.cells #[.int .i64 x1, .int .i64 100, .int .i64 99] 3)) 3 #[.int .i64 0, .int .i64 0, .int .i64 0, .int .i64 0, .int .i64 0, .int .i64 1, .int .i64 2]).grown hg2 (by intro e; injection e with e; simp only [size_alloc1] at e; omega)
  simp only [size_alloc1] at hs
  have hG2 := grown_trans (grown_alloc (grown_alloc hG1 (.cells #[.int .i64 x1, .int .i64 100, .int .i64 99] 3)) (.cells #[.int .i64 0, .int .i64 0, .int .i64 0, .int .i64 0, .int .i64 0, .int .i64 1, .int .i64 2] 3)) hg2
  clear hG1 hg2 hr1 h1
  obtain ⟨j, rfl⟩ := Int.eq_ofNat_of_zero_le u2
  obtain ⟨u, hu, hc⟩ : ∃ u : Nat, u < 3 ∧ w2.cell? ⟨w1.heap.size + 1, j, none⟩ = some (.int .i64 u) := by
    have hj : j < 7 := by omega
    rw [hs.cell j]
    match j, hj with
    | 0, _ => exact ⟨0, by omega, rfl⟩
    | 1, _ => exact ⟨0, by omega, rfl⟩
    | 2, _ => exact ⟨0, by omega, rfl⟩
    | 3, _ => exact ⟨0, by omega, rfl⟩
    | 4, _ => exact ⟨0, by omega, rfl⟩
    | 5, _ => exact ⟨1, by omega, rfl⟩
    | 6, _ => exact ⟨2, by omega, rfl⟩
  obtain ⟨x, hx, hc2⟩ : ∃ x : Int, inB x 0 100 = true ∧ w2.cell? ⟨w1.heap.size, u, none⟩ = some (.int .i64 x) := by
    rw [ht.cell u]
    match u, hu with
    | 0, _ => exact ⟨x1, inB_iff.2 ⟨by omega, by omega⟩, rfl⟩
    | 1, _ => exact ⟨100, by rfl, rfl⟩
    | 2, _ => exact ⟨99, by rfl, rfl⟩
  have HX := Lib.hid (And.intro hx (And.intro h2 (And.intro hr2 hG2)))
  clear hx h2 hr2 hG2 ht hs
  go_wp2_with fail
  refine (specNewBlock_any _ _ HX.out.1).mono ?_
  rintro e w3 ⟨A, c, rfl, _, hown, hk⟩
  have hlt := HX.out.2.2.1.lt
  have hm := HX.out.2.2.2.size
  have hsz := hk.size
  rcases hown.form with ⟨_, e0⟩ | ⟨h3, c', e2, hb3, hlt3, _, _⟩
  · exact absurd (congrArg List.length e0) (by simp)
  injection e2 with e2 e3 e4
  subst e2; subst e4
  clear e3
  have HO := Lib.hid (hown.base_le hm)
  have HK := Lib.hid hk
  clear hown hk
  clear hc hc2
  go_wp2_with fail
  refine (pick_lt _ _ _ _ _ ((HX.out.2.1.grown HK.out (by intro k e; cases e)).alloc _) (by omega) (by omega)).mono ?_
  rintro e w4 ⟨x4, rfl, u4, v4, h4, hg4⟩
  have hL : LoopSt w B g (P + 3) w3.heap.size x 6 w4 := by
    have hV : w.heap.size < w3.heap.size := by omega
    refine ⟨h3, c, _, (Blk.new w3 _ _).grown hg4 (by intro e; injection e with e; omega), new_valid HX.out.1, (HO.out.keep (grown_alloc (grown_refl _ none) _)).kept hg4 (.inr (by simp [Value.ownBlock]; omega)), ?_, h4.more (by omega), ?_, hg, hV⟩
    · exact ((HX.out.2.2.1.keep HK.out).alloc _).grown hg4 (by intro e; injection e with e; omega)
    · exact grown_trans (grown_alloc (grown_trans HX.out.2.2.2 (grown_some HK.out)) _) hg4
  obtain ⟨k4, rfl⟩ := Int.eq_ofNat_of_zero_le u4
  have HV := Lib.hid (show w.heap.size < w3.heap.size by omega)
  have HL := Lib.hid hL
  have HG := Lib.hid hg
  clear h4 hg4 hL HX HO HK hlt hm hsz hb3 hlt3
  go_wp2_with fail
  go_loopw [6] (fun i wr => ∃ k : Nat, k ≤ 6 ∧ i = .int .i64 k ∧ LoopSt w B g (P + 3) w3.heap.size x k wr) (fun i _ => (intOf i).toNat)
  case atStart => exact ⟨k4, by omega, rfl, HL.out.less (by omega)⟩
  case round =>
    obtain ⟨k, hk6, rfl, hL⟩ := hrel
    by_cases hpos : 0 < k
    · obtain ⟨k, rfl⟩ : ∃ k' : Nat, k = k' + 1 := ⟨k - 1, by omega⟩
      obtain ⟨h5, c5, ps, hS⟩ := hL
      have b0 : wr.cell? ⟨w3.heap.size, 0, none⟩ = some (.int .i64 x) := hS.1.cell 0
      have b1 : wr.cell? ⟨w3.heap.size, 1, none⟩ = some (.slice (some ⟨h5, 0, none⟩) 4 c5) := hS.1.cell 1
      have t0 : decide (0 < k + 1) = true := decide_eq_true hpos
      have HS := Lib.hid hS
      clear hS
      go_wp2_with fail
      refine wp_region_held_drew (S := (fun w' => w'.cell? ⟨w3.heap.size, 0, none⟩ = some (.int .i64 x) ∧ w'.cell? ⟨w3.heap.size, 1, none⟩ = some (.slice (some ⟨h5, 0, none⟩) 4 c5))) (by kernel_rfl) ?_ (fun hHeld => ?_)
      · exact ⟨b0, b1⟩
      replace HS := Lib.hid HS.out.drew
      refine heldY 0 27 ?_
      refine heldY 1 28 ?_
      refine heldY 2 29 ?_
      refine wpAnyH_ready (rs := [3, 10]) (by kernel_rfl) (by simp) ?_
      refine AllReadyH.cons rfl (fun K hK => ?_) (AllReadyH.cons rfl (fun K hK => ?_) AllReadyH.nil)
      · go_simp
        go_at_call 51
        refine (pick_lt _ _ _ _ _ HS.out.2.2.2.2.1 (by omega) (by omega)).mono ?_
        rintro e w5 ⟨x5, rfl, u5, v5, h6, hg5⟩
        have HI := Lib.hid (And.intro (show P + 3 + 4 * (6 - (k + 1)) + 1 ≤ 1000000000 by omega) (And.intro (show 1 ≤ 1 + x5 by omega) (show 1 + x5 ≤ 1000000 by omega)))
        replace HS := Lib.hid (HS.out.grown hg5 h6)
        clear h6 hg5
        clear b0 b1
        obtain ⟨b0, b1, _, _⟩ := cells2 HS.out.1
        have i5 : IntKind.i64.wrap (1 + x5) = 1 + x5 := IntWalk.i64_in _ ⟨by omega, by omega⟩
        refine hK.out _ _ ?_ (fun hHeld => ?_)
        · exact ⟨b0, b1⟩
        clear hK K
        try simp only [Act.put, List.setIfInBounds_toArray, List.set_cons_zero, List.set_cons_succ]
        refine heldY 4 31 ?_
        refine wpAnyH_ready (rs := [5, 10]) (by kernel_rfl) (by simp) ?_
        refine AllReadyH.cons rfl (fun K hK => ?_) (AllReadyH.cons rfl (fun K hK => ?_) AllReadyH.nil)
        · go_simp
          go_at_call 90
          refine (full_any _ _ _ _ _ HS.out.2.2.2.2.1 HI.out.1 HI.out.2.1 HI.out.2.2).mono ?_
          rintro e w6 ⟨y1, y2, y3, rfl, hpg, h6, hg6⟩
          clear i5
          replace HS := Lib.hid (HS.out.grown hg6 h6)
          have HP := Lib.hid hpg
          clear h6 hg6 hpg
          clear b0 b1
          obtain ⟨b0, b1, _, _⟩ := cells2 HS.out.1
          refine hK.out _ _ ?_ (fun hHeld => ?_)
          · exact ⟨b0, b1⟩
          clear hK K
          try simp only [Act.put, List.setIfInBounds_toArray, List.set_cons_zero, List.set_cons_succ]
          refine wpAnyH_ready (rs := [6, 10]) (by kernel_rfl) (by simp) ?_
          refine AllReadyH.cons rfl (fun K hK => ?_) (AllReadyH.cons rfl (fun K hK => ?_) AllReadyH.nil)
          · go_simp
            go_at_call 119
            refine (specWrite_valid _ _ _ _ _ _ _ _ _ HS.out.2.2.1.row HS.out.2.1 HP.out).mono ?_
            rintro e w7 ⟨qs, r7, hq, A7, c7, rfl, hl7, hown, hk7⟩
            have hm7 := HS.out.2.2.2.2.2.1.size
            replace HS := Lib.hid (HS.out.kept hk7)
            rcases hown.form with ⟨_, e0⟩ | ⟨h7, c7', e2, hb7, hlt7, _, _⟩
            · exact absurd (hl7.symm.trans (congrArg List.length e0)) (by simp)
            injection e2 with e2 e3 e4
            subst e2; subst e4
            clear e3
            have HQ := Lib.hid (And.intro hq (hown.base_le hm7))
            clear hq hown hk7 hl7 hm7
            clear b0 b1
            obtain ⟨b0, b1, _, _⟩ := cells2 HS.out.1
            refine hK.out _ _ ?_ (fun hHeld => ?_)
            · exact ⟨b0, b1⟩
            clear hK K
            try simp only [Act.put, List.setIfInBounds_toArray, List.set_cons_zero, List.set_cons_succ]
            refine heldY 7 26 ?_
            refine heldY 8 34 ?_
            refine heldY 9 35 ?_
            refine wpAnyH_ready (rs := [10]) (by kernel_rfl) (by simp) ?_
            refine AllReadyH.cons rfl (fun K hK => ?_) AllReadyH.nil
            have HX := Lib.hid HS.out
            have hd0 : Blk (World.alloc w7 (.cells #[.int .i64 0, .slice none 0 0] 87)) w7.heap.size 87 #[.int .i64 0, .slice none 0 0] := Blk.new w7 _ _
            have hd1 : w3.heap.size < w7.heap.size := HS.out.1.lt
            have HD := Lib.hid (And.intro hd0 hd1)
            clear hd0 hd1
            replace HS := Lib.hid (HS.out.kept (grown_alloc (grown_refl _ none) (.cells #[.int .i64 0, .slice none 0 0] 87)))
            go_simp
            clear b0 b1
            obtain ⟨b0, b1, _, _⟩ := cells2 HS.out.1
            refine hK.out _ _ ?_ (fun hHeld => ?_)
            · exact ⟨b0, b1⟩
            clear hK K
            try simp only [Act.put, List.setIfInBounds_toArray, List.set_cons_zero, List.set_cons_succ]
            have hVl := HS.out.1.lt
            have hneV := Nat.ne_of_lt hVl
            have hVD := HD.out.2
            have hVD2 := Nat.ne_of_lt hVD
            have hVD3 := Nat.ne_of_gt hVD
            obtain ⟨d0, d1, e0, e1⟩ := cells2 HD.out.1
            have hVq := (cells2 HS.out.1).2.2.1
            have hVr := (cells2 HS.out.1).2.2.2
            refine wpAnyH_ready (rs := [11]) (by kernel_rfl) (by simp) ?_
            refine AllReadyH.cons rfl (fun K hK => ?_) AllReadyH.nil
            go_simp
            refine hK.out _ _ ?_ (fun hHeld => ?_)
            · first | go_keep | trace_state
            clear hK K
            try simp only [Act.put, List.setIfInBounds_toArray, List.set_cons_zero, List.set_cons_succ]
            refine wpAnyH_ready (rs := [12]) (by kernel_rfl) (by simp) ?_
            refine AllReadyH.cons rfl (fun K hK => ?_) AllReadyH.nil
            go_simp
            refine hK.out _ _ ?_ (fun hHeld => ?_)
            · assumption
            clear hK K
            try simp only [Act.put, List.setIfInBounds_toArray, List.set_cons_zero, List.set_cons_succ]
            refine wpAnyH_done (by kernel_rfl) ?_ _
            go_wp2
            go_roundw
            case rel => exact ⟨k, by omega, by first | rfl | (congr 1; omega), h7, c7, qs, by first | (with_reducible exact (HS.out.round1 HQ.out.1 HQ.out.2 HD.out.1 HD.out.2 _ _).more (by omega)) | exact ((HX.out.put HQ.out.1 HQ.out.2).kept (grown_alloc (grown_refl _ _) _)).more (by omega)⟩
            case measure => simp [intOf]; try omega
          · have HX := Lib.hid HS.out
            have hd0 : Blk (World.alloc w6 (.cells #[.int .i64 0, .slice none 0 0] 87)) w6.heap.size 87 #[.int .i64 0, .slice none 0 0] := Blk.new w6 _ _
            have hd1 : w3.heap.size < w6.heap.size := HS.out.1.lt
            have HD := Lib.hid (And.intro hd0 hd1)
            clear hd0 hd1
            replace HS := Lib.hid (HS.out.kept (grown_alloc (grown_refl _ none) (.cells #[.int .i64 0, .slice none 0 0] 87)))
            go_simp
            clear b0 b1
            obtain ⟨b0, b1, _, _⟩ := cells2 HS.out.1
            refine hK.out _ _ ?_ (fun hHeld => ?_)
            · exact ⟨b0, b1⟩
            clear hK K
            try simp only [Act.put, List.setIfInBounds_toArray, List.set_cons_zero, List.set_cons_succ]
            refine wpAnyH_ready (rs := [6]) (by kernel_rfl) (by simp) ?_
            refine AllReadyH.cons rfl (fun K hK => ?_) AllReadyH.nil
            go_simp
            go_at_call 119
            refine (specWrite_valid _ _ _ _ _ _ _ _ _ HS.out.2.2.1.row HS.out.2.1 HP.out).mono ?_
            rintro e w7 ⟨qs, r7, hq, A7, c7, rfl, hl7, hown, hk7⟩
            have hm7 := HS.out.2.2.2.2.2.1.size
            replace HS := Lib.hid (HS.out.kept hk7)
            replace HD := Lib.hid (And.intro (HD.out.1.keep hk7) HD.out.2)
            rcases hown.form with ⟨_, e0⟩ | ⟨h7, c7', e2, hb7, hlt7, _, _⟩
            · exact absurd (hl7.symm.trans (congrArg List.length e0)) (by simp)
            injection e2 with e2 e3 e4
            subst e2; subst e4
            clear e3
            have HQ := Lib.hid (And.intro hq (hown.base_le hm7))
            clear hq hown hk7 hl7 hm7
            clear b0 b1
            obtain ⟨b0, b1, _, _⟩ := cells2 HS.out.1
            refine hK.out _ _ ?_ (fun hHeld => ?_)
            · exact ⟨b0, b1⟩
            clear hK K
            try simp only [Act.put, List.setIfInBounds_toArray, List.set_cons_zero, List.set_cons_succ]
            refine heldY 7 26 ?_
            refine heldY 8 34 ?_
            refine heldY 9 35 ?_
            have hVl := HS.out.1.lt
            have hneV := Nat.ne_of_lt hVl
            have hVD := HD.out.2
            have hVD2 := Nat.ne_of_lt hVD
            have hVD3 := Nat.ne_of_gt hVD
            obtain ⟨d0, d1, e0, e1⟩ := cells2 HD.out.1
            have hVq := (cells2 HS.out.1).2.2.1
            have hVr := (cells2 HS.out.1).2.2.2
            refine wpAnyH_ready (rs := [11]) (by kernel_rfl) (by simp) ?_
            refine AllReadyH.cons rfl (fun K hK => ?_) AllReadyH.nil
            go_simp
            refine hK.out _ _ ?_ (fun hHeld => ?_)
            · first | go_keep | trace_state
            clear hK K
            try simp only [Act.put, List.setIfInBounds_toArray, List.set_cons_zero, List.set_cons_succ]
            refine wpAnyH_ready (rs := [12]) (by kernel_rfl) (by simp) ?_
            refine AllReadyH.cons rfl (fun K hK => ?_) AllReadyH.nil
            go_simp
            refine hK.out _ _ ?_ (fun hHeld => ?_)
            · assumption
            clear hK K
            try simp only [Act.put, List.setIfInBounds_toArray, List.set_cons_zero, List.set_cons_succ]
            refine wpAnyH_done (by kernel_rfl) ?_ _
            go_wp2
            go_roundw
            case rel => exact ⟨k, by omega, by first | rfl | (congr 1; omega), h7, c7, qs, by first | (with_reducible exact (HS.out.round1 HQ.out.1 HQ.out.2 HD.out.1 HD.out.2 _ _).more (by omega)) | exact ((HX.out.put HQ.out.1 HQ.out.2).kept (grown_alloc (grown_refl _ _) _)).more (by omega)⟩
            case measure => simp [intOf]; try omega
        · have HX := Lib.hid HS.out
          have hd0 : Blk (World.alloc w5 (.cells #[.int .i64 0, .slice none 0 0] 87)) w5.heap.size 87 #[.int .i64 0, .slice none 0 0] := Blk.new w5 _ _
          have hd1 : w3.heap.size < w5.heap.size := HS.out.1.lt
          have HD := Lib.hid (And.intro hd0 hd1)
          clear hd0 hd1
          replace HS := Lib.hid (HS.out.kept (grown_alloc (grown_refl _ none) (.cells #[.int .i64 0, .slice none 0 0] 87)))
          go_simp
          clear b0 b1
          obtain ⟨b0, b1, _, _⟩ := cells2 HS.out.1
          refine hK.out _ _ ?_ (fun hHeld => ?_)
          · exact ⟨b0, b1⟩
          clear hK K
          try simp only [Act.put, List.setIfInBounds_toArray, List.set_cons_zero, List.set_cons_succ]
          refine wpAnyH_ready (rs := [5]) (by kernel_rfl) (by simp) ?_
          refine AllReadyH.cons rfl (fun K hK => ?_) AllReadyH.nil
          go_simp
          go_at_call 90
          refine (full_any _ _ _ _ _ HS.out.2.2.2.2.1 HI.out.1 HI.out.2.1 HI.out.2.2).mono ?_
          rintro e w6 ⟨y1, y2, y3, rfl, hpg, h6, hg6⟩
          clear i5
          replace HD := Lib.hid (And.intro (HD.out.1.grown hg6 (by have h1 := HD.out.2; have h2 := HS.out.2.2.2.2.2.2; intro e; injection e with e; omega)) HD.out.2)
          replace HS := Lib.hid (HS.out.grown hg6 h6)
          have HP := Lib.hid hpg
          clear h6 hg6 hpg
          clear b0 b1
          obtain ⟨b0, b1, _, _⟩ := cells2 HS.out.1
          refine hK.out _ _ ?_ (fun hHeld => ?_)
          · exact ⟨b0, b1⟩
          clear hK K
          try simp only [Act.put, List.setIfInBounds_toArray, List.set_cons_zero, List.set_cons_succ]
          refine wpAnyH_ready (rs := [6]) (by kernel_rfl) (by simp) ?_
          refine AllReadyH.cons rfl (fun K hK => ?_) AllReadyH.nil
          go_simp
          go_at_call 119
          refine (specWrite_valid _ _ _ _ _ _ _ _ _ HS.out.2.2.1.row HS.out.2.1 HP.out).mono ?_
          rintro e w7 ⟨qs, r7, hq, A7, c7, rfl, hl7, hown, hk7⟩
          have hm7 := HS.out.2.2.2.2.2.1.size
          replace HS := Lib.hid (HS.out.kept hk7)
          replace HD := Lib.hid (And.intro (HD.out.1.keep hk7) HD.out.2)
          rcases hown.form with ⟨_, e0⟩ | ⟨h7, c7', e2, hb7, hlt7, _, _⟩
          · exact absurd (hl7.symm.trans (congrArg List.length e0)) (by simp)
          injection e2 with e2 e3 e4
          subst e2; subst e4
          clear e3
          have HQ := Lib.hid (And.intro hq (hown.base_le hm7))
          clear hq hown hk7 hl7 hm7
          clear b0 b1
          obtain ⟨b0, b1, _, _⟩ := cells2 HS.out.1
          refine hK.out _ _ ?_ (fun hHeld => ?_)
          · exact ⟨b0, b1⟩
          clear hK K
          try simp only [Act.put, List.setIfInBounds_toArray, List.set_cons_zero, List.set_cons_succ]
          refine heldY 7 26 ?_
          refine heldY 8 34 ?_
          refine heldY 9 35 ?_
          have hVl := HS.out.1.lt
          have hneV := Nat.ne_of_lt hVl
          have hVD := HD.out.2
          have hVD2 := Nat.ne_of_lt hVD
          have hVD3 := Nat.ne_of_gt hVD
          obtain ⟨d0, d1, e0, e1⟩ := cells2 HD.out.1
          have hVq := (cells2 HS.out.1).2.2.1
          have hVr := (cells2 HS.out.1).2.2.2
          refine wpAnyH_ready (rs := [11]) (by kernel_rfl) (by simp) ?_
          refine AllReadyH.cons rfl (fun K hK => ?_) AllReadyH.nil
          go_simp
          refine hK.out _ _ ?_ (fun hHeld => ?_)
          · first | go_keep | trace_state
          clear hK K
          try simp only [Act.put, List.setIfInBounds_toArray, List.set_cons_zero, List.set_cons_succ]
          refine wpAnyH_ready (rs := [12]) (by kernel_rfl) (by simp) ?_
          refine AllReadyH.cons rfl (fun K hK => ?_) AllReadyH.nil
          go_simp
          refine hK.out _ _ ?_ (fun hHeld => ?_)
          · assumption
          clear hK K
          try simp only [Act.put, List.setIfInBounds_toArray, List.set_cons_zero, List.set_cons_succ]
          refine wpAnyH_done (by kernel_rfl) ?_ _
          go_wp2
          go_roundw
          case rel => exact ⟨k, by omega, by first | rfl | (congr 1; omega), h7, c7, qs, by first | (with_reducible exact (HS.out.round1 HQ.out.1 HQ.out.2 HD.out.1 HD.out.2 _ _).more (by omega)) | exact ((HX.out.put HQ.out.1 HQ.out.2).kept (grown_alloc (grown_refl _ _) _)).more (by omega)⟩
          case measure => simp [intOf]; try omega
      · have HX := Lib.hid HS.out
        have hd0 : Blk (World.alloc wr.drew (.cells #[.int .i64 0, .slice none 0 0] 87)) wr.heap.size 87 #[.int .i64 0, .slice none 0 0] := Blk.new wr.drew _ _
        have hd1 : w3.heap.size < wr.heap.size := HS.out.1.lt
        have HD := Lib.hid (And.intro hd0 hd1)
        clear hd0 hd1
        replace HS := Lib.hid (HS.out.kept (grown_alloc (grown_refl _ none) (.cells #[.int .i64 0, .slice none 0 0] 87)))
        go_simp
        clear b0 b1
        obtain ⟨b0, b1, _, _⟩ := cells2 HS.out.1
        refine hK.out _ _ ?_ (fun hHeld => ?_)
        · exact ⟨b0, b1⟩
        clear hK K
        try simp only [Act.put, List.setIfInBounds_toArray, List.set_cons_zero, List.set_cons_succ]
        refine wpAnyH_ready (rs := [3]) (by kernel_rfl) (by simp) ?_
        refine AllReadyH.cons rfl (fun K hK => ?_) AllReadyH.nil
        go_simp
        go_at_call 51
        refine (pick_lt _ _ _ _ _ HS.out.2.2.2.2.1 (by omega) (by omega)).mono ?_
        rintro e w5 ⟨x5, rfl, u5, v5, h6, hg5⟩
        have HI := Lib.hid (And.intro (show P + 3 + 4 * (6 - (k + 1)) + 1 ≤ 1000000000 by omega) (And.intro (show 1 ≤ 1 + x5 by omega) (show 1 + x5 ≤ 1000000 by omega)))
        replace HD := Lib.hid (And.intro (HD.out.1.grown hg5 (by have h1 := HD.out.2; have h2 := HS.out.2.2.2.2.2.2; intro e; injection e with e; omega)) HD.out.2)
        replace HS := Lib.hid (HS.out.grown hg5 h6)
        clear h6 hg5
        clear b0 b1
        obtain ⟨b0, b1, _, _⟩ := cells2 HS.out.1
        have i5 : IntKind.i64.wrap (1 + x5) = 1 + x5 := IntWalk.i64_in _ ⟨by omega, by omega⟩
        refine hK.out _ _ ?_ (fun hHeld => ?_)
        · exact ⟨b0, b1⟩
        clear hK K
        try simp only [Act.put, List.setIfInBounds_toArray, List.set_cons_zero, List.set_cons_succ]
        refine heldY 4 31 ?_
        refine wpAnyH_ready (rs := [5]) (by kernel_rfl) (by simp) ?_
        refine AllReadyH.cons rfl (fun K hK => ?_) AllReadyH.nil
        go_simp
        go_at_call 90
        refine (full_any _ _ _ _ _ HS.out.2.2.2.2.1 HI.out.1 HI.out.2.1 HI.out.2.2).mono ?_
        rintro e w6 ⟨y1, y2, y3, rfl, hpg, h6, hg6⟩
        clear i5
        replace HD := Lib.hid (And.intro (HD.out.1.grown hg6 (by have h1 := HD.out.2; have h2 := HS.out.2.2.2.2.2.2; intro e; injection e with e; omega)) HD.out.2)
        replace HS := Lib.hid (HS.out.grown hg6 h6)
        have HP := Lib.hid hpg
        clear h6 hg6 hpg
        clear b0 b1
        obtain ⟨b0, b1, _, _⟩ := cells2 HS.out.1
        refine hK.out _ _ ?_ (fun hHeld => ?_)
        · exact ⟨b0, b1⟩
        clear hK K
        try simp only [Act.put, List.setIfInBounds_toArray, List.set_cons_zero, List.set_cons_succ]
        refine wpAnyH_ready (rs := [6]) (by kernel_rfl) (by simp) ?_
        refine AllReadyH.cons rfl (fun K hK => ?_) AllReadyH.nil
        go_simp
        go_at_call 119
        refine (specWrite_valid _ _ _ _ _ _ _ _ _ HS.out.2.2.1.row HS.out.2.1 HP.out).mono ?_
        rintro e w7 ⟨qs, r7, hq, A7, c7, rfl, hl7, hown, hk7⟩
        have hm7 := HS.out.2.2.2.2.2.1.size
        replace HS := Lib.hid (HS.out.kept hk7)
        replace HD := Lib.hid (And.intro (HD.out.1.keep hk7) HD.out.2)
        rcases hown.form with ⟨_, e0⟩ | ⟨h7, c7', e2, hb7, hlt7, _, _⟩
        · exact absurd (hl7.symm.trans (congrArg List.length e0)) (by simp)
        injection e2 with e2 e3 e4
        subst e2; subst e4
        clear e3
        have HQ := Lib.hid (And.intro hq (hown.base_le hm7))
        clear hq hown hk7 hl7 hm7
        clear b0 b1
        obtain ⟨b0, b1, _, _⟩ := cells2 HS.out.1
        refine hK.out _ _ ?_ (fun hHeld => ?_)
        · exact ⟨b0, b1⟩
        clear hK K
        try simp only [Act.put, List.setIfInBounds_toArray, List.set_cons_zero, List.set_cons_succ]
        refine heldY 7 26 ?_
        refine heldY 8 34 ?_
        refine heldY 9 35 ?_
        have hVl := HS.out.1.lt
        have hneV := Nat.ne_of_lt hVl
        have hVD := HD.out.2
        have hVD2 := Nat.ne_of_lt hVD
        have hVD3 := Nat.ne_of_gt hVD
        obtain ⟨d0, d1, e0, e1⟩ := cells2 HD.out.1
        have hVq := (cells2 HS.out.1).2.2.1
        have hVr := (cells2 HS.out.1).2.2.2
        refine wpAnyH_ready (rs := [11]) (by kernel_rfl) (by simp) ?_
        refine AllReadyH.cons rfl (fun K hK => ?_) AllReadyH.nil
        go_simp
        refine hK.out _ _ ?_ (fun hHeld => ?_)
        · first | go_keep | trace_state
        clear hK K
        try simp only [Act.put, List.setIfInBounds_toArray, List.set_cons_zero, List.set_cons_succ]
        refine wpAnyH_ready (rs := [12]) (by kernel_rfl) (by simp) ?_
        refine AllReadyH.cons rfl (fun K hK => ?_) AllReadyH.nil
        go_simp
        refine hK.out _ _ ?_ (fun hHeld => ?_)
        · assumption
        clear hK K
        try simp only [Act.put, List.setIfInBounds_toArray, List.set_cons_zero, List.set_cons_succ]
        refine wpAnyH_done (by kernel_rfl) ?_ _
        go_wp2
        go_roundw
        case rel => exact ⟨k, by omega, by first | rfl | (congr 1; omega), h7, c7, qs, by first | (with_reducible exact (HS.out.round1 HQ.out.1 HQ.out.2 HD.out.1 HD.out.2 _ _).more (by omega)) | exact ((HX.out.put HQ.out.1 HQ.out.2).kept (grown_alloc (grown_refl _ _) _)).more (by omega)⟩
        case measure => simp [intOf]; try omega
    · obtain rfl : k = 0 := by omega
      obtain ⟨h5, c5, ps, hS⟩ := hL
      have HS := Lib.hid hS
      have HC := Lib.hid hS.end_.cap
      have HN := Lib.hid hS.ne
      clear hS
      go_wp2_with fail
      refine (odd_any _ _ _ _ _ HS.out.2.2.2.2.1 (by omega) hN hN2).mono ?_
      rintro e w5 ⟨v, rfl, h6, hg5⟩
      replace HS := Lib.hid (HS.out.grown hg5 h6)
      clear h6 hg5
      obtain ⟨n1, n2, n3, n4, n5, n6⟩ := HN.out
      cases v
      · obtain ⟨b0, b1, bq0, bq1⟩ := cells2 HS.out.1
        obtain ⟨r0, r1, rq0, rq1⟩ := cells2 HS.out.2.2.2.1
        go_wp2
        exact bodyPost_ret (v := .agg #[.int .i64 x, .slice (some ⟨h5, 0, none⟩) 4 c5]) (by simp [results, Try.results92, go_sem, *]) rfl ((HS.out.end_.more (by omega)).fin _ _ _)
      go_wp2_with fail
      refine (pick_lt _ _ _ _ _ HS.out.2.2.2.2.1 (by omega) (by omega)).mono ?_
      rintro e w6 ⟨y, rfl, u6, v6, h6, hg6⟩
      replace HS := Lib.hid (HS.out.grown hg6 h6)
      clear h6 hg6
      rcases (show y = 0 ∨ y = 1 ∨ y = 2 ∨ y = 3 by omega) with rfl | rfl | rfl | rfl
      all_goals clear u6 v6
      · go_wp2_with fail
        have hs6 := HS.out.2.2.2.2.2.1.size
        have hT := Blk.new w6 3 #[.int .i64 (-1), .int .i64 101]
        replace HS := Lib.hid (HS.out.kept (grown_alloc (grown_refl _ none) (.cells #[.int .i64 (-1), .int .i64 101] 3)))
        refine (pick_lt _ _ _ _ _ HS.out.2.2.2.2.1 (by omega) (by omega)).mono ?_
        rintro e w7 ⟨y, rfl, u7, v7, h7, hg7⟩
        have ht := hT.grown hg7 (by have h1 := HS.out.2.2.2.2.2.2.1; intro e; injection e with e; omega)
        replace HS := Lib.hid (HS.out.grown hg7 h7)
        obtain ⟨j7, rfl⟩ := Int.eq_ofNat_of_zero_le u7
        obtain ⟨z, hz⟩ : ∃ z : Int, w7.cell? ⟨w6.heap.size, j7, none⟩ = some (.int .i64 z) := by
          rw [ht.cell j7]
          have hj : j7 < 2 := by omega
          match j7, hj with
          | 0, _ => exact ⟨_, rfl⟩
          | 1, _ => exact ⟨_, rfl⟩
        clear hT ht h7 hg7
        obtain ⟨b0, b1, bq0, bq1⟩ := cells2 HS.out.1
        obtain ⟨r0, r1, rq0, rq1⟩ := cells2 HS.out.2.2.2.1
        go_wp2
        exact bodyPost_ret (v := .agg #[.int .i64 z, .slice (some ⟨h5, 0, none⟩) 4 c5]) (by simp [results, Try.results92, go_sem, *]) rfl (((HS.out.end_.putV 0 _).more (by omega)).fin _ _ _)
      · obtain ⟨b0, b1, bq0, bq1⟩ := cells2 HS.out.1
        obtain ⟨r0, r1, rq0, rq1⟩ := cells2 HS.out.2.2.2.1
        have hc4 := HC.out.1
        have hcm := HC.out.2
        have hc1 : c5 ≠ 1 := by omega
        go_wp2
        exact bodyPost_ret (v := .agg #[.int .i64 x, .slice (some ⟨h5, 5, none⟩) 3 (c5 - 1)]) (by simp [results, Try.results92, go_sem, *]) rfl (((HS.out.end_.putV 1 _).more (by omega)).fin1 _ _ _)
      · obtain ⟨p, hp, hf⟩ := HS.out.page 0 (by omega)
        obtain ⟨p', hp', _⟩ := HS.out.page 1 (by omega)
        obtain ⟨d0, d1, d2, d3, d4⟩ := hp
        obtain ⟨d5, d6, d7, d8, d9⟩ := hp'
        simp only [Nat.zero_mul, Nat.one_mul, Nat.zero_add, Nat.reduceAdd] at d0 d1 d2 d3 d4 d5 d6 d7 d8 d9
        have f0 := hf 0
        have f1 := hf 1
        have f2 := hf 2
        have f3 := hf 3
        have f4 := hf 4
        have f5 := hf 5
        have f6 := hf 6
        have f7 := hf 7
        have f8 := hf 8
        have f9 := hf 9
        clear hf
        obtain ⟨b0, b1, bq0, bq1⟩ := cells2 HS.out.1
        obtain ⟨r0, r1, rq0, rq1⟩ := cells2 HS.out.2.2.2.1
        go_wp2
        exact bodyPost_ret (v := .agg #[.int .i64 x, .slice (some ⟨h5, 0, none⟩) 4 c5]) (by simp [results, Try.results92, go_sem, *]) rfl ((((HS.out.end_.set5 0 ⟨false, 0, 0, 0, 0⟩).set5 1 ⟨true, 0, 0, 0, 1⟩).more (by omega)).fin _ _ _)
      · obtain ⟨b0, b1, bq0, bq1⟩ := cells2 HS.out.1
        go_wp2_with fail
        refine wp_region_held_drew (S := (fun w' => w'.cell? ⟨w3.heap.size, 1, none⟩ = some (.slice (some ⟨h5, 0, none⟩) 4 c5))) (by kernel_rfl) ?_ (fun hHeld => ?_)
        · exact b1
        replace HS := Lib.hid HS.out.drew
        refine heldY 0 42 ?_
        refine heldY 1 43 ?_
        refine heldY 2 44 ?_
        refine heldY 4 46 ?_
        refine wpAnyH_ready (rs := [3]) (by kernel_rfl) (by simp) ?_
        refine AllReadyH.cons rfl (fun K hK => ?_) AllReadyH.nil
        go_simp
        go_at_call 51
        refine (pick_lt _ _ _ _ _ HS.out.2.2.2.2.1 (by omega) (by omega)).mono ?_
        rintro e w7 ⟨y, rfl, u7, v7, h7, hg7⟩
        replace HS := Lib.hid (HS.out.grown hg7 h7)
        obtain ⟨j7, rfl⟩ := Int.eq_ofNat_of_zero_le u7
        have hj7 : j7 < 4 := by omega
        clear h7 hg7 b0 b1 bq0 bq1
        obtain ⟨b0, b1, bq0, bq1⟩ := cells2 HS.out.1
        refine hK.out _ _ ?_ (fun hHeld => ?_)
        · exact b1
        clear hK K
        try simp only [Act.put, List.setIfInBounds_toArray, List.set_cons_zero, List.set_cons_succ]
        refine wpAnyH_ready (rs := [5]) (by kernel_rfl) (by simp) ?_
        refine AllReadyH.cons rfl (fun K hK => ?_) AllReadyH.nil
        go_simp
        go_at_call 120
        refine (page_any _ _ _ _ _ HS.out.2.2.2.2.1 (by omega) (by omega) (by omega)).mono ?_
        rintro e w8 ⟨pf, p1, p2, p3, p4, rfl, h8, hg8⟩
        replace HS := Lib.hid (HS.out.grown hg8 h8)
        clear h8 hg8 b0 b1 bq0 bq1
        obtain ⟨b0, b1, bq0, bq1⟩ := cells2 HS.out.1
        obtain ⟨p, hp, hf⟩ := HS.out.page j7 hj7
        obtain ⟨d0, d1, d2, d3, d4⟩ := hp
        have f0 := hf (j7 * 5)
        have f1 := hf (j7 * 5 + 1)
        have f2 := hf (j7 * 5 + 2)
        have f3 := hf (j7 * 5 + 3)
        have f4 := hf (j7 * 5 + 4)
        clear hf
        refine hK.out _ _ ?_ (fun hHeld => ?_)
        · exact b1
        clear hK K
        try simp only [Act.put, List.setIfInBounds_toArray, List.set_cons_zero, List.set_cons_succ]
        refine heldY 6 48 ?_
        refine wpAnyH_ready (rs := [7]) (by kernel_rfl) (by simp) ?_
        refine AllReadyH.cons rfl (fun K hK => ?_) AllReadyH.nil
        go_simp
        refine hK.out _ _ ?_ (fun hHeld => ?_)
        · first | go_keep | trace_state
        clear hK K
        try simp only [Act.put, List.setIfInBounds_toArray, List.set_cons_zero, List.set_cons_succ]
        refine wpAnyH_done (by kernel_rfl) ?_ _
        obtain ⟨r0, r1, rq0, rq1⟩ := cells2 HS.out.2.2.2.1
        go_wp2
        exact bodyPost_ret (v := .agg #[.int .i64 x, .slice (some ⟨h5, 0, none⟩) 4 c5]) (by simp [results, Try.results92, go_sem, *]) rfl (((HS.out.end_.set5 j7 ⟨pf, p1, p2, p3, p4⟩).more (by omega)).fin _ _ _)
end Go.Proofs.Yteniikfgellhfaa
