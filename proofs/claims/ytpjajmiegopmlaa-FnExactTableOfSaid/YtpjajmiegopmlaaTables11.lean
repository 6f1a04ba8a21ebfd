/- What the model's TableOf answers. -/
import Derived.Test.YtpjajmiegopmlaaTables10
namespace Go.Proofs.Ytpjajmiegopmlaa
open Go.ChangeShapes Go.WideShapes Go.ChangeAt Go.RowKit
set_option linter.unusedVariables false
set_option linter.unusedSimpArgs false

theorem specTableOf_no (A : Option Addr) (n c : Nat) (bs : List Bk) (w : World) (hl : bs.length = n) (hr : DRow w w.heap.size A bs) (hn : n ≤ 1048576) (hp : ∀ b, b ∈ bs → b.ps.length ≤ 1048576) (hd : devB bs = false) :
    Calls Try.prog 49 #[.slice A n c] w (TabMade [] 0 w) := by
  have HD := Lib.hid (And.intro hl (And.intro hd (And.intro hp (hr.alloc (.cells #[.slice none 0 0] 51)).here)))
  clear hl hr hp hd
  go_enter Try.func49, Try.ntmps49
  go_wp2_with fail
  refine (specDeviceValid_val HD.out.1 HD.out.2.1 _ HD.out.2.2.2 hn HD.out.2.2.1).mono ?_
  rintro e w1 ⟨rfl, hk⟩
  have hb := (Blk.new w 51 #[.slice none 0 0]).keep hk
  have HG := Lib.hid (grown_trans (grown_alloc (grown_refl w none) (.cells #[.slice none 0 0] 51)) hk)
  have z0 : w1.cell? ⟨w.heap.size, 0, none⟩ = some (.slice none 0 0) := hb.cell 0
  have z1 : w1.frozen? ⟨w.heap.size, 0, none⟩ = false := hb.frozen 0
  clear hb hk
  go_wp2
  exact bodyPost_ret (v := .agg #[.slice none 0 0]) (by simp [results, Try.results49, go_sem, *]) rfl ⟨none, 0, [], rfl, rfl, rfl, town_nil _ _, grown_put HG.out (p := ⟨w.heap.size, 0, none⟩) (Nat.le_refl _) _⟩
set_option maxHeartbeats 4000000 in
theorem specTableOf_yes (A : Option Addr) (n c : Nat) (bs : List Bk) (w : World) (hl : bs.length = n) (hr : DRow w w.heap.size A bs) (hd : devB bs = true) :
    Calls Try.prog 49 #[.slice A n c] w (TabMade (tabTo bs (4 * n)) 8 w) := by
  obtain ⟨⟨h1, h12⟩, hall⟩ := dev_parts hd
  have HD := Lib.hid (And.intro hl (And.intro hd (And.intro (fun (b : Bk) (hm : b ∈ bs) => show b.ps.length = 4 from (block_parts (hall b hm)).2.1) (hr.alloc (.cells #[.slice none 0 0] 51)).here)))
  have hr1 := hr.alloc (.cells #[.slice none 0 0] 51)
  have HR := Lib.hid hr1
  have hn12 : n ≤ 12 := by omega
  have hn1 : 1 ≤ n := by omega
  have hsm : n ≤ 1048576 := by omega
  clear hl hr hall hd hr1 h1 h12
  go_enter Try.func49, Try.ntmps49
  go_wp2_with fail
  refine (specDeviceValid_val HD.out.1 HD.out.2.1 _ HD.out.2.2.2 (by omega) (fun b hm => by have := HD.out.2.2.1 b hm; omega)).mono ?_
  rintro e w1 ⟨rfl, hk1⟩
  go_wp2_with fail
  refine (specNew_any w1).mono ?_
  rintro e w2 ⟨At, ct, cs, rfl, hcl, hcs, ho, hk2⟩
  obtain ⟨gt, _, e, hgt, _⟩ := ho.head hcl (by omega)
  injection e with e1 _ e3
  subst e1; subst e3
  have hG1 := grown_trans (grown_alloc (grown_refl w none) (.cells #[.slice none 0 0] 51)) hk1
  have hka : w2.grownBy (w2.alloc (.cells #[.slice (some ⟨gt, 0, none⟩) 8 ct] 51)) none := grown_alloc (grown_refl _ _) _
  have H0 : OfR w A bs w2.heap.size gt ct 0 (w2.alloc (.cells #[.slice (some ⟨gt, 0, none⟩) 8 ct] 51)) :=
    ⟨⟨cs, hcl, hcs, (ho.keep hka).base_le hG1.size⟩, Blk.new w2 _ _, (((Blk.new w 51 #[.slice none 0 0]).keep hk1).keep hk2).keep hka, (((HR.out.kept hk1).kept hk2).kept hka), grown_trans (grown_trans hG1 hk2) hka⟩
  have hgw : w.heap.size ≤ gt := Nat.le_trans hG1.size hgt
  have HS := Lib.hid H0
  clear hk1 hk2 hcl hcs ho hG1 hka H0 hgt
  go_wp2
  go_loopw [4] (fun i wr => ∃ k : Nat, i = .int .i64 k ∧ k ≤ 4 * n ∧ OfR w A bs w2.heap.size gt ct k wr) (fun i _ => 4 * n - (intOf i).toNat)
  case atStart => exact ⟨0, rfl, Nat.zero_le _, HS.out⟩
  case round =>
    clear HS HR
    rename World => wo
    obtain ⟨k, rfl, hk, hR⟩ := hrel
    by_cases hlt : k < 4 * n
    · have hk8 : (k : Int) < 4 * (n : Int) := by omega
      have hk48 : k ≤ 48 := by omega
      obtain ⟨p, hp⟩ := page_some (bs := bs) HD.out.2.2.1 (a := k) (by have := HD.out.1; omega)
      have HX := Lib.hid (And.intro hR (And.intro hp hR.2.2.2.1.here))
      clear hR hp
      go_wp2_with fail
      refine (specReadPage_at _ _ _ bs k p wo HD.out.1 HX.out.2.2 HD.out.2.1 HX.out.2.1).mono ?_
      rintro e w3 ⟨rfl, hk3⟩
      obtain ⟨fl, fa, pb, v, d⟩ := p
      dsimp only
      have hR3 := HX.out.1.keep hk3
      cases fl
      · have HZ := Lib.hid ((hR3.keep (grown_alloc (grown_refl _ none) (.cells #[.bool false, .int .i64 fa, .int .i64 pb, .int .i64 v, .int .i64 d] 27))).next (of_old HX.out.2.1 rfl))
        clear hk3 hR3
        go_wp2
        go_roundw
        case rel => exact ⟨k + 1, by go_num, by omega, HZ.out⟩
        case measure => simp [intOf]; omega
      · obtain ⟨f, j, ea, eb, hf8, hj6⟩ := full_in HD.out.2.1 HX.out.2.1 rfl
        dsimp only at ea eb
        subst ea; subst eb
        have hR4 := hR3.keep (grown_alloc (grown_refl _ none) (.cells #[.bool true, .int .i64 (f : Int), .int .i64 (j : Int), .int .i64 v, .int .i64 d] 27))
        have hP4 := Blk.new w3 27 #[.bool true, .int .i64 (f : Int), .int .i64 (j : Int), .int .i64 v, .int .i64 d]
        obtain ⟨w4, hw4⟩ : ∃ w4, w3.alloc (.cells #[.bool true, .int .i64 (f : Int), .int .i64 (j : Int), .int .i64 v, .int .i64 d] 27) = w4 := ⟨_, rfl⟩
        have f0 : decide ((0 : Int) ≤ f) = true := decide_eq_true (by omega)
        have f1 : (f : Int) < 8 := by omega
        have j0 : decide ((0 : Int) ≤ j) = true := decide_eq_true (by omega)
        have j1 : (j : Int) < 6 := by omega
        rw [hw4] at hR4 hP4
        have HN := Lib.hid (And.intro hR4 (And.intro hP4 hw4))
        have hq : ∃ x q V, cellO (tabTo bs k) f j = some x ∧ ReadIs n bs x q ∧ newerB bs (tabTo bs k) ⟨true, f, j, v, d⟩ = V ∧ ((q.f = false ∧ V = true) ∨ (q.f = true ∧ V = decide (q.d < d))) := by
          obtain ⟨xs, x, _, _, _, e3⟩ := (of_inv HD.out.2.1 k hk48).tv.cell hf8 hj6
          rcases (of_inv HD.out.2.1 k hk48).ent f j x e3 with rfl | ⟨a, q, rfl, _, hq, hqf⟩
          · exact ⟨-1, pz, true, e3, .inr (.inl ⟨HD.out.2.1, by simp [hasP], rfl⟩), newer_none rfl rfl e3, .inl ⟨rfl, rfl⟩⟩
          · exact ⟨a, q, _, e3, .inr (.inr ⟨a, rfl, HD.out.2.1, hq⟩), newer_some rfl rfl e3 hq, .inr ⟨hqf, rfl⟩⟩
        obtain ⟨x, ⟨qf, qa, qb, qc, qd⟩, V, hcx, hri, hnv, hqV⟩ := hq
        obtain ⟨gl, cl, x', c0, c1, c2f, hcx', hgl, hne, hnb, hput⟩ := hR4.open_ HD.out.2.1 hk48 hf8 hj6
        rw [hcx] at hcx'
        injection hcx' with hcx'
        subst hcx'
        have HRI := Lib.hid hri
        have HNV0 := Lib.hid (And.intro hnv hqV)
        have gtl : gt < w4.heap.size := World.block_lt_of_cell? w4 _ c0
        have gll : gl < w4.heap.size := World.block_lt_of_cell? w4 _ c1
        have HSf := Lib.hid (fun (w' : World) (hg : w4.grownBy w' none) => show w'.cell? ⟨w2.heap.size, 0, none⟩ = some (.slice (some ⟨gt, 0, none⟩) 8 ct) ∧ w'.cell? ⟨w3.heap.size, 1, none⟩ = some (.int .i64 (f : Int)) ∧ w'.cell? ⟨w3.heap.size, 2, none⟩ = some (.int .i64 (j : Int)) ∧ w'.cell? ⟨gt, f, none⟩ = some (.slice (some ⟨gl, 0, none⟩) 6 cl) ∧ w'.cell? ⟨gl, j, none⟩ = some (.int .i64 x) from ⟨(hR4.2.1.keep hg).cell 0, (hP4.keep hg).cell 1, (hP4.keep hg).cell 2, (World.cell?_of_block (hg.block gt gtl (by simp))).trans c0, (World.cell?_of_block (hg.block gl gll (by simp))).trans c1⟩)
        have HROW := Lib.hid (show DRow w4.drew w4.drew.heap.size A bs from (hR4.2.2.2.1.drew).here)
        have HROW2 := Lib.hid (show DRow (w4.drew.alloc (.cells #[.bool false, .int .i64 0, .int .i64 0, .int .i64 0, .int .i64 0] 27)) (w4.drew.alloc (.cells #[.bool false, .int .i64 0, .int .i64 0, .int .i64 0, .int .i64 0] 27)).heap.size A bs from (hR4.2.2.2.1.drew.alloc _).here)
        clear hk3 hR3 hR4 hP4 hw4 hri hnv hqV hcx c0 c1 c2f hgl hne hnb hput gtl gll
        go_upto_region 9 with fail
        have hw4 := HN.out.2.2
        simp only [hw4]
        go_cut [7, 8] (fun s7 s8 wx => ∃ V7 : Nat, s7 = .pointer (some ⟨V7, 0, none⟩) ∧ s8 = .bool qf ∧ wx.cell? ⟨V7, 4, none⟩ = some (.int .i64 qd) ∧ w4.grownBy wx none)
        case first =>
          clear hw4
          refine wp_region_held_drew (S := (fun w' => w'.cell? ⟨w2.heap.size, 0, none⟩ = some (.slice (some ⟨gt, 0, none⟩) 8 ct) ∧ w'.cell? ⟨w3.heap.size, 1, none⟩ = some (.int .i64 (f : Int)) ∧ w'.cell? ⟨w3.heap.size, 2, none⟩ = some (.int .i64 (j : Int)) ∧ w'.cell? ⟨gt, f, none⟩ = some (.slice (some ⟨gl, 0, none⟩) 6 cl) ∧ w'.cell? ⟨gl, j, none⟩ = some (.int .i64 x))) (by kernel_rfl) ?_ (fun hHeld => ?_)
          · exact HSf.out _ (grown_drew (grown_refl w4 none))
          refine held_yes (i := 0) (d := some 30) (v := ?_) rfl rfl (by kernel_rfl) (by kernel_rfl) (by kernel_rfl) (fun _ _ _ h => h) (by rfl) ?_ (by assumption) ?_
          rotate_left
          · (intro w hSw; (try dsimp only at hSw); go_simp; (first | done | with_reducible rfl))
          try simp only [Act.put, List.setIfInBounds_toArray, List.set_cons_zero, List.set_cons_succ]
          refine held_yes (i := 1) (d := some 31) (v := ?_) rfl rfl (by kernel_rfl) (by kernel_rfl) (by kernel_rfl) (fun _ _ _ h => h) (by rfl) ?_ (by assumption) ?_
          rotate_left
          · (intro w hSw; (try dsimp only at hSw); go_simp; (first | done | with_reducible rfl))
          try simp only [Act.put, List.setIfInBounds_toArray, List.set_cons_zero, List.set_cons_succ]
          refine held_yes (i := 2) (d := some 32) (v := ?_) rfl rfl (by kernel_rfl) (by kernel_rfl) (by kernel_rfl) (fun _ _ _ h => h) (by rfl) ?_ (by assumption) ?_
          rotate_left
          · (intro w hSw; (try dsimp only at hSw); go_simp; (first | done | with_reducible rfl))
          try simp only [Act.put, List.setIfInBounds_toArray, List.set_cons_zero, List.set_cons_succ]
          refine held_yes (i := 3) (d := some 33) (v := ?_) rfl rfl (by kernel_rfl) (by kernel_rfl) (by kernel_rfl) (fun _ _ _ h => h) (by rfl) ?_ (by assumption) ?_
          rotate_left
          · (intro w hSw; (try dsimp only at hSw); go_simp; (first | done | with_reducible rfl))
          try simp only [Act.put, List.setIfInBounds_toArray, List.set_cons_zero, List.set_cons_succ]
          refine held_yes (i := 4) (d := some 34) (v := ?_) rfl rfl (by kernel_rfl) (by kernel_rfl) (by kernel_rfl) (fun _ _ _ h => h) (by rfl) ?_ (by assumption) ?_
          rotate_left
          · (intro w hSw; (try dsimp only at hSw); go_simp; (first | done | with_reducible rfl))
          try simp only [Act.put, List.setIfInBounds_toArray, List.set_cons_zero, List.set_cons_succ]
          refine held_yes (i := 5) (d := some 35) (v := ?_) rfl rfl (by kernel_rfl) (by kernel_rfl) (by kernel_rfl) (fun _ _ _ h => h) (by rfl) ?_ (by assumption) ?_
          rotate_left
          · (intro w hSw; (try dsimp only at hSw); go_simp; (first | done | with_reducible rfl))
          try simp only [Act.put, List.setIfInBounds_toArray, List.set_cons_zero, List.set_cons_succ]
          refine held_yes (i := 6) (d := some 36) (v := ?_) rfl rfl (by kernel_rfl) (by kernel_rfl) (by kernel_rfl) (fun _ _ _ h => h) (by rfl) ?_ (by assumption) ?_
          rotate_left
          · (intro w hSw; (try dsimp only at hSw); go_simp; (first | done | with_reducible rfl))
          try simp only [Act.put, List.setIfInBounds_toArray, List.set_cons_zero, List.set_cons_succ]
          refine held_yes (i := 7) (d := some 37) (v := ?_) rfl rfl (by kernel_rfl) (by kernel_rfl) (by kernel_rfl) (fun _ _ _ h => h) (by rfl) ?_ (by assumption) ?_
          rotate_left
          · (intro w hSw; (try dsimp only at hSw); go_simp; (first | done | with_reducible rfl))
          try simp only [Act.put, List.setIfInBounds_toArray, List.set_cons_zero, List.set_cons_succ]
          refine held_yes (i := 8) (d := some 38) (v := ?_) rfl rfl (by kernel_rfl) (by kernel_rfl) (by kernel_rfl) (fun _ _ _ h => h) (by rfl) ?_ (by assumption) ?_
          rotate_left
          · (intro w hSw; (try dsimp only at hSw); go_simp; (first | done | with_reducible rfl))
          try simp only [Act.put, List.setIfInBounds_toArray, List.set_cons_zero, List.set_cons_succ]
          refine held_yes (i := 9) (d := some 39) (v := ?_) rfl rfl (by kernel_rfl) (by kernel_rfl) (by kernel_rfl) (fun _ _ _ h => h) (by rfl) ?_ (by assumption) ?_
          rotate_left
          · (intro w hSw; (try dsimp only at hSw); go_simp; (first | done | with_reducible rfl))
          try simp only [Act.put, List.setIfInBounds_toArray, List.set_cons_zero, List.set_cons_succ]
          refine held_yes (i := 10) (d := some 40) (v := ?_) rfl rfl (by kernel_rfl) (by kernel_rfl) (by kernel_rfl) (fun _ _ _ h => h) (by rfl) ?_ (by assumption) ?_
          rotate_left
          · (intro w hSw; (try dsimp only at hSw); go_simp; (first | done | with_reducible rfl))
          try simp only [Act.put, List.setIfInBounds_toArray, List.set_cons_zero, List.set_cons_succ]
          refine wpAnyH_ready (rs := [11, 15]) (by kernel_rfl) (by simp) ?_
          refine AllReadyH.cons rfl (fun K hK => ?_) (AllReadyH.cons rfl (fun K hK => ?_) AllReadyH.nil)
          · go_simp
            go_at_call 17
            refine (specReadPage_val HRI.out HD.out.1 HROW.out hsm (fun b hm => by have := HD.out.2.2.1 b hm; omega)).mono ?_
            rintro e w5 ⟨rfl, hk⟩
            dsimp only
            have hg5 := grown_trans (grown_drew (grown_refl w4 none)) hk
            refine hK.out _ _ ?_ (fun hHeld => ?_)
            · exact HSf.out _ hg5
            clear hK K
            try simp only [Act.put, List.setIfInBounds_toArray, List.set_cons_zero, List.set_cons_succ]
            refine held_yes (i := 12) (d := some 29) (v := ?_) rfl rfl (by kernel_rfl) (by kernel_rfl) (by kernel_rfl) (fun _ _ _ h => h) (by rfl) ?_ (by assumption) ?_
            rotate_left
            · (intro w hSw; (try dsimp only at hSw); go_simp; (first | done | with_reducible rfl))
            try simp only [Act.put, List.setIfInBounds_toArray, List.set_cons_zero, List.set_cons_succ]
            refine held_yes (i := 13) (d := some 42) (v := ?_) rfl rfl (by kernel_rfl) (by kernel_rfl) (by kernel_rfl) (fun _ _ _ h => h) (by rfl) ?_ (by assumption) ?_
            rotate_left
            · (intro w hSw; (try dsimp only at hSw); go_simp; (first | done | with_reducible rfl))
            try simp only [Act.put, List.setIfInBounds_toArray, List.set_cons_zero, List.set_cons_succ]
            refine held_yes (i := 14) (d := some 43) (v := ?_) rfl rfl (by kernel_rfl) (by kernel_rfl) (by kernel_rfl) (fun _ _ _ h => h) (by rfl) ?_ (by assumption) ?_
            rotate_left
            · (intro w hSw; (try dsimp only at hSw); go_simp; (first | done | with_reducible rfl))
            try simp only [Act.put, List.setIfInBounds_toArray, List.set_cons_zero, List.set_cons_succ]
            refine wpAnyH_ready (rs := [15]) (by kernel_rfl) (by simp) ?_
            refine AllReadyH.cons rfl (fun K hK => ?_) AllReadyH.nil
            have hb0 := Blk.new w5 27 #[.bool false, .int .i64 0, .int .i64 0, .int .i64 0, .int .i64 0]
            go_simp
            refine hK.out _ _ ?_ (fun hHeld => ?_)
            · exact HSf.out _ (grown_alloc hg5 _)
            clear hK K
            try simp only [Act.put, List.setIfInBounds_toArray, List.set_cons_zero, List.set_cons_succ]
            have hb := hb0
            obtain ⟨d0, d1, d2, d3, d4⟩ := cells5 hb
            have q0 := hb.frozen 0
            have q1 := hb.frozen 1
            have q2 := hb.frozen 2
            have q3 := hb.frozen 3
            have q4 := hb.frozen 4
            refine wpAnyH_ready (rs := [16]) (by kernel_rfl) (by simp) ?_
            refine AllReadyH.cons rfl (fun K hK => ?_) AllReadyH.nil
            go_simp
            refine hK.out _ _ ?_ (fun hHeld => ?_)
            · exact HSf.out _ (grown_alloc hg5 _)
            clear hK K
            try simp only [Act.put, List.setIfInBounds_toArray, List.set_cons_zero, List.set_cons_succ]
            refine wpAnyH_ready (rs := [17]) (by kernel_rfl) (by simp) ?_
            refine AllReadyH.cons rfl (fun K hK => ?_) AllReadyH.nil
            go_simp
            refine hK.out _ _ ?_ (fun hHeld => ?_)
            · first | with_reducible assumption | exact HSf.out _ (grown_alloc hg5 _)
            clear hK K
            try simp only [Act.put, List.setIfInBounds_toArray, List.set_cons_zero, List.set_cons_succ]
            refine wpAnyH_done (by kernel_rfl) ?_ _
            go_wp2_with fail
            go_meet
            exact ⟨_, rfl, rfl, (Blk.new w5 27 #[.bool qf, .int .i64 qa, .int .i64 qb, .int .i64 qc, .int .i64 qd]).cell 4, grown_alloc hg5 _⟩
          · have hb0 := Blk.new w4.drew 27 #[.bool false, .int .i64 0, .int .i64 0, .int .i64 0, .int .i64 0]
            have hg4 := grown_alloc (grown_drew (grown_refl w4 none)) (.cells #[.bool false, .int .i64 0, .int .i64 0, .int .i64 0, .int .i64 0] 27)
            go_simp
            refine hK.out _ _ ?_ (fun hHeld => ?_)
            · exact HSf.out _ hg4
            clear hK K
            try simp only [Act.put, List.setIfInBounds_toArray, List.set_cons_zero, List.set_cons_succ]
            refine wpAnyH_ready (rs := [11]) (by kernel_rfl) (by simp) ?_
            refine AllReadyH.cons rfl (fun K hK => ?_) AllReadyH.nil
            go_simp
            go_at_call 17
            refine (specReadPage_val HRI.out HD.out.1 (HROW2.out) hsm (fun b hm => by have := HD.out.2.2.1 b hm; omega)).mono ?_
            rintro e w5 ⟨rfl, hk⟩
            dsimp only
            have hg5 := grown_trans hg4 hk
            have hb1 := hb0.keep hk
            refine hK.out _ _ ?_ (fun hHeld => ?_)
            · exact HSf.out _ hg5
            clear hK K
            try simp only [Act.put, List.setIfInBounds_toArray, List.set_cons_zero, List.set_cons_succ]
            refine held_yes (i := 12) (d := some 29) (v := ?_) rfl rfl (by kernel_rfl) (by kernel_rfl) (by kernel_rfl) (fun _ _ _ h => h) (by rfl) ?_ (by assumption) ?_
            rotate_left
            · (intro w hSw; (try dsimp only at hSw); go_simp; (first | done | with_reducible rfl))
            try simp only [Act.put, List.setIfInBounds_toArray, List.set_cons_zero, List.set_cons_succ]
            refine held_yes (i := 13) (d := some 42) (v := ?_) rfl rfl (by kernel_rfl) (by kernel_rfl) (by kernel_rfl) (fun _ _ _ h => h) (by rfl) ?_ (by assumption) ?_
            rotate_left
            · (intro w hSw; (try dsimp only at hSw); go_simp; (first | done | with_reducible rfl))
            try simp only [Act.put, List.setIfInBounds_toArray, List.set_cons_zero, List.set_cons_succ]
            refine held_yes (i := 14) (d := some 43) (v := ?_) rfl rfl (by kernel_rfl) (by kernel_rfl) (by kernel_rfl) (fun _ _ _ h => h) (by rfl) ?_ (by assumption) ?_
            rotate_left
            · (intro w hSw; (try dsimp only at hSw); go_simp; (first | done | with_reducible rfl))
            try simp only [Act.put, List.setIfInBounds_toArray, List.set_cons_zero, List.set_cons_succ]
            have hb := (show Blk w5 w4.heap.size 27 #[.bool false, .int .i64 0, .int .i64 0, .int .i64 0, .int .i64 0] from hb1)
            obtain ⟨d0, d1, d2, d3, d4⟩ := cells5 hb
            have q0 := hb.frozen 0
            have q1 := hb.frozen 1
            have q2 := hb.frozen 2
            have q3 := hb.frozen 3
            have q4 := hb.frozen 4
            have hz := hg5.size
            refine wpAnyH_ready (rs := [16]) (by kernel_rfl) (by simp) ?_
            refine AllReadyH.cons rfl (fun K hK => ?_) AllReadyH.nil
            go_simp
            refine hK.out _ _ ?_ (fun hHeld => ?_)
            · exact HSf.out _ (grown_put5n hg5 (Nat.le_refl _) (.bool qf) (.int .i64 qa) (.int .i64 qb) (.int .i64 qc) (.int .i64 qd))
            clear hK K
            try simp only [Act.put, List.setIfInBounds_toArray, List.set_cons_zero, List.set_cons_succ]
            refine wpAnyH_ready (rs := [17]) (by kernel_rfl) (by simp) ?_
            refine AllReadyH.cons rfl (fun K hK => ?_) AllReadyH.nil
            go_simp
            refine hK.out _ _ ?_ (fun hHeld => ?_)
            · first | with_reducible assumption | exact HSf.out _ (grown_put5n hg5 (Nat.le_refl _) (.bool qf) (.int .i64 qa) (.int .i64 qb) (.int .i64 qc) (.int .i64 qd))
            clear hK K
            try simp only [Act.put, List.setIfInBounds_toArray, List.set_cons_zero, List.set_cons_succ]
            refine wpAnyH_done (by kernel_rfl) ?_ _
            go_wp2_with fail
            go_meet
            exact ⟨_, rfl, rfl, (hb.set5 (.bool qf) (.int .i64 qa) (.int .i64 qb) (.int .i64 qc) (.int .i64 qd)).cell 4, grown_put5n hg5 (Nat.le_refl _) (.bool qf) (.int .i64 qa) (.int .i64 qb) (.int .i64 qc) (.int .i64 qd)⟩
        case rest =>
          clear hw4 HSf HROW HROW2
          obtain ⟨V7, rfl, rfl, hc7, hgx⟩ := hcut
          rename World => wx
          have hR5 := HN.out.1.keep hgx
          have hP5 := HN.out.2.1.keep hgx
          have l4 : wx.cell? ⟨w3.heap.size, 4, none⟩ = some (.int .i64 d) := hP5.cell 4
          clear hgx
          rcases HNV0.out.2 with ⟨e1, e2⟩ | ⟨e1, e2⟩
          · dsimp only at e1
            subst e1; subst e2
            have HNV := Lib.hid HNV0.out.1
            clear HNV0
            have b3 : wx.cell? ⟨w2.heap.size, 0, none⟩ = some (.slice (some ⟨gt, 0, none⟩) 8 ct) := hR5.2.1.cell 0
            obtain ⟨p0, p1, p2, p3, p4⟩ := cells5 hP5
            have hR6 := hR5.keep (grown_drew (grown_refl wx none))
            obtain ⟨gl, cl, x, c0, c1, c2f, _, hgl, hne, hnb, hput⟩ := hR6.open_ HD.out.2.1 hk48 hf8 hj6
            have hst := of_new (f := f) (j := j) HX.out.2.1 rfl rfl rfl HNV.out
            have hfin := hput (k : Int) hst
            have n3 : gl ≠ w2.heap.size := hnb hR6.2.1 (by decide)
            have n5 : gl ≠ w3.heap.size := hnb (hP5.drew) (by decide)
            have m3 : w2.heap.size ≠ gl := fun e => n3 e.symm
            have m5 : w3.heap.size ≠ gl := fun e => n5 e.symm
            have mg : gt ≠ gl := fun e => hne e.symm
            have HSS := Lib.hid (And.intro ((hR6.2.1.far (p := ⟨gl, j, none⟩) m3 (.int .i64 (k : Int))).cell 0) (And.intro ((hP5.drew.far (p := ⟨gl, j, none⟩) m5 (.int .i64 (k : Int))).cell 1) (And.intro ((hP5.drew.far (p := ⟨gl, j, none⟩) m5 (.int .i64 (k : Int))).cell 2) ((World.cell?_setCell_other wx.drew ⟨gl, j, none⟩ ⟨gt, f, none⟩ (.int .i64 (k : Int)) (fun e => by injection e with e; omega)).trans c0))))
            have HZ := Lib.hid hfin
            clear hR5 hP5 hR6 hst hfin hput hnb
            go_wp2
            refine wp_region_held_drew (S := (fun w' => w'.cell? ⟨w2.heap.size, 0, none⟩ = some (.slice (some ⟨gt, 0, none⟩) 8 ct) ∧ w'.cell? ⟨w3.heap.size, 1, none⟩ = some (.int .i64 (f : Int)) ∧ w'.cell? ⟨w3.heap.size, 2, none⟩ = some (.int .i64 (j : Int)) ∧ w'.cell? ⟨gt, f, none⟩ = some (.slice (some ⟨gl, 0, none⟩) 6 cl))) (by kernel_rfl) ?_ (fun hHeld => ?_)
            · exact ⟨b3, p1, p2, c0⟩
            refine held_yes (i := 0) (d := some 53) (v := ?_) rfl rfl (by kernel_rfl) (by kernel_rfl) (by kernel_rfl) (fun _ _ _ h => h) (by rfl) ?_ (by assumption) ?_
            rotate_left
            · (intro w hSw; (try dsimp only at hSw); go_simp; (first | done | with_reducible rfl))
            try simp only [Act.put, List.setIfInBounds_toArray, List.set_cons_zero, List.set_cons_succ]
            refine held_yes (i := 1) (d := some 54) (v := ?_) rfl rfl (by kernel_rfl) (by kernel_rfl) (by kernel_rfl) (fun _ _ _ h => h) (by rfl) ?_ (by assumption) ?_
            rotate_left
            · (intro w hSw; (try dsimp only at hSw); go_simp; (first | done | with_reducible rfl))
            try simp only [Act.put, List.setIfInBounds_toArray, List.set_cons_zero, List.set_cons_succ]
            refine held_yes (i := 2) (d := some 55) (v := ?_) rfl rfl (by kernel_rfl) (by kernel_rfl) (by kernel_rfl) (fun _ _ _ h => h) (by rfl) ?_ (by assumption) ?_
            rotate_left
            · (intro w hSw; (try dsimp only at hSw); go_simp; (first | done | with_reducible rfl))
            try simp only [Act.put, List.setIfInBounds_toArray, List.set_cons_zero, List.set_cons_succ]
            refine held_yes (i := 3) (d := some 56) (v := ?_) rfl rfl (by kernel_rfl) (by kernel_rfl) (by kernel_rfl) (fun _ _ _ h => h) (by rfl) ?_ (by assumption) ?_
            rotate_left
            · (intro w hSw; (try dsimp only at hSw); go_simp; (first | done | with_reducible rfl))
            try simp only [Act.put, List.setIfInBounds_toArray, List.set_cons_zero, List.set_cons_succ]
            refine held_yes (i := 4) (d := some 57) (v := ?_) rfl rfl (by kernel_rfl) (by kernel_rfl) (by kernel_rfl) (fun _ _ _ h => h) (by rfl) ?_ (by assumption) ?_
            rotate_left
            · (intro w hSw; (try dsimp only at hSw); go_simp; (first | done | with_reducible rfl))
            try simp only [Act.put, List.setIfInBounds_toArray, List.set_cons_zero, List.set_cons_succ]
            refine held_yes (i := 5) (d := some 58) (v := ?_) rfl rfl (by kernel_rfl) (by kernel_rfl) (by kernel_rfl) (fun _ _ _ h => h) (by rfl) ?_ (by assumption) ?_
            rotate_left
            · (intro w hSw; (try dsimp only at hSw); go_simp; (first | done | with_reducible rfl))
            try simp only [Act.put, List.setIfInBounds_toArray, List.set_cons_zero, List.set_cons_succ]
            refine held_yes (i := 6) (d := some 59) (v := ?_) rfl rfl (by kernel_rfl) (by kernel_rfl) (by kernel_rfl) (fun _ _ _ h => h) (by rfl) ?_ (by assumption) ?_
            rotate_left
            · (intro w hSw; (try dsimp only at hSw); go_simp; (first | done | with_reducible rfl))
            try simp only [Act.put, List.setIfInBounds_toArray, List.set_cons_zero, List.set_cons_succ]
            refine held_yes (i := 7) (d := some 60) (v := ?_) rfl rfl (by kernel_rfl) (by kernel_rfl) (by kernel_rfl) (fun _ _ _ h => h) (by rfl) ?_ (by assumption) ?_
            rotate_left
            · (intro w hSw; (try dsimp only at hSw); go_simp; (first | done | with_reducible rfl))
            try simp only [Act.put, List.setIfInBounds_toArray, List.set_cons_zero, List.set_cons_succ]
            refine held_yes (i := 8) (d := some 61) (v := ?_) rfl rfl (by kernel_rfl) (by kernel_rfl) (by kernel_rfl) (fun _ _ _ h => h) (by rfl) ?_ (by assumption) ?_
            rotate_left
            · (intro w hSw; (try dsimp only at hSw); go_simp; (first | done | with_reducible rfl))
            try simp only [Act.put, List.setIfInBounds_toArray, List.set_cons_zero, List.set_cons_succ]
            refine held_yes (i := 9) (d := some 62) (v := ?_) rfl rfl (by kernel_rfl) (by kernel_rfl) (by kernel_rfl) (fun _ _ _ h => h) (by rfl) ?_ (by assumption) ?_
            rotate_left
            · (intro w hSw; (try dsimp only at hSw); go_simp; (first | done | with_reducible rfl))
            try simp only [Act.put, List.setIfInBounds_toArray, List.set_cons_zero, List.set_cons_succ]
            refine wpAnyH_ready (rs := [10]) (by kernel_rfl) (by simp) ?_
            refine AllReadyH.cons rfl (fun K hK => ?_) AllReadyH.nil
            go_simp
            refine hK.out _ _ ?_ (fun hHeld => ?_)
            · exact HSS.out
            clear hK K
            try simp only [Act.put, List.setIfInBounds_toArray, List.set_cons_zero, List.set_cons_succ]
            refine wpAnyH_done (by kernel_rfl) ?_ _
            go_wp2
            go_roundw
            case rel => exact ⟨k + 1, by go_num, by omega, HZ.out⟩
            case measure => simp [intOf]; omega
          · dsimp only at e1 e2
            subst e1
            by_cases hlt2 : qd < d
            · have e3 : V = true := by rw [e2]; exact decide_eq_true hlt2
              subst e3
              have HNV := Lib.hid HNV0.out.1
              clear HNV0 e2
              have b3 : wx.cell? ⟨w2.heap.size, 0, none⟩ = some (.slice (some ⟨gt, 0, none⟩) 8 ct) := hR5.2.1.cell 0
              obtain ⟨p0, p1, p2, p3, p4⟩ := cells5 hP5
              have hR6 := hR5.keep (grown_drew (grown_refl wx none))
              obtain ⟨gl, cl, x, c0, c1, c2f, _, hgl, hne, hnb, hput⟩ := hR6.open_ HD.out.2.1 hk48 hf8 hj6
              have hst := of_new (f := f) (j := j) HX.out.2.1 rfl rfl rfl HNV.out
              have hfin := hput (k : Int) hst
              have n3 : gl ≠ w2.heap.size := hnb hR6.2.1 (by decide)
              have n5 : gl ≠ w3.heap.size := hnb (hP5.drew) (by decide)
              have m3 : w2.heap.size ≠ gl := fun e => n3 e.symm
              have m5 : w3.heap.size ≠ gl := fun e => n5 e.symm
              have mg : gt ≠ gl := fun e => hne e.symm
              have HSS := Lib.hid (And.intro ((hR6.2.1.far (p := ⟨gl, j, none⟩) m3 (.int .i64 (k : Int))).cell 0) (And.intro ((hP5.drew.far (p := ⟨gl, j, none⟩) m5 (.int .i64 (k : Int))).cell 1) (And.intro ((hP5.drew.far (p := ⟨gl, j, none⟩) m5 (.int .i64 (k : Int))).cell 2) ((World.cell?_setCell_other wx.drew ⟨gl, j, none⟩ ⟨gt, f, none⟩ (.int .i64 (k : Int)) (fun e => by injection e with e; omega)).trans c0))))
              have HZ := Lib.hid hfin
              clear hR5 hP5 hR6 hst hfin hput hnb
              go_wp2
              refine wp_region_held_drew (S := (fun w' => w'.cell? ⟨w2.heap.size, 0, none⟩ = some (.slice (some ⟨gt, 0, none⟩) 8 ct) ∧ w'.cell? ⟨w3.heap.size, 1, none⟩ = some (.int .i64 (f : Int)) ∧ w'.cell? ⟨w3.heap.size, 2, none⟩ = some (.int .i64 (j : Int)) ∧ w'.cell? ⟨gt, f, none⟩ = some (.slice (some ⟨gl, 0, none⟩) 6 cl))) (by kernel_rfl) ?_ (fun hHeld => ?_)
              · exact ⟨b3, p1, p2, c0⟩
              refine held_yes (i := 0) (d := some 53) (v := ?_) rfl rfl (by kernel_rfl) (by kernel_rfl) (by kernel_rfl) (fun _ _ _ h => h) (by rfl) ?_ (by assumption) ?_
              rotate_left
              · (intro w hSw; (try dsimp only at hSw); go_simp; (first | done | with_reducible rfl))
              try simp only [Act.put, List.setIfInBounds_toArray, List.set_cons_zero, List.set_cons_succ]
              refine held_yes (i := 1) (d := some 54) (v := ?_) rfl rfl (by kernel_rfl) (by kernel_rfl) (by kernel_rfl) (fun _ _ _ h => h) (by rfl) ?_ (by assumption) ?_
              rotate_left
              · (intro w hSw; (try dsimp only at hSw); go_simp; (first | done | with_reducible rfl))
              try simp only [Act.put, List.setIfInBounds_toArray, List.set_cons_zero, List.set_cons_succ]
              refine held_yes (i := 2) (d := some 55) (v := ?_) rfl rfl (by kernel_rfl) (by kernel_rfl) (by kernel_rfl) (fun _ _ _ h => h) (by rfl) ?_ (by assumption) ?_
              rotate_left
              · (intro w hSw; (try dsimp only at hSw); go_simp; (first | done | with_reducible rfl))
              try simp only [Act.put, List.setIfInBounds_toArray, List.set_cons_zero, List.set_cons_succ]
              refine held_yes (i := 3) (d := some 56) (v := ?_) rfl rfl (by kernel_rfl) (by kernel_rfl) (by kernel_rfl) (fun _ _ _ h => h) (by rfl) ?_ (by assumption) ?_
              rotate_left
              · (intro w hSw; (try dsimp only at hSw); go_simp; (first | done | with_reducible rfl))
              try simp only [Act.put, List.setIfInBounds_toArray, List.set_cons_zero, List.set_cons_succ]
              refine held_yes (i := 4) (d := some 57) (v := ?_) rfl rfl (by kernel_rfl) (by kernel_rfl) (by kernel_rfl) (fun _ _ _ h => h) (by rfl) ?_ (by assumption) ?_
              rotate_left
              · (intro w hSw; (try dsimp only at hSw); go_simp; (first | done | with_reducible rfl))
              try simp only [Act.put, List.setIfInBounds_toArray, List.set_cons_zero, List.set_cons_succ]
              refine held_yes (i := 5) (d := some 58) (v := ?_) rfl rfl (by kernel_rfl) (by kernel_rfl) (by kernel_rfl) (fun _ _ _ h => h) (by rfl) ?_ (by assumption) ?_
              rotate_left
              · (intro w hSw; (try dsimp only at hSw); go_simp; (first | done | with_reducible rfl))
              try simp only [Act.put, List.setIfInBounds_toArray, List.set_cons_zero, List.set_cons_succ]
              refine held_yes (i := 6) (d := some 59) (v := ?_) rfl rfl (by kernel_rfl) (by kernel_rfl) (by kernel_rfl) (fun _ _ _ h => h) (by rfl) ?_ (by assumption) ?_
              rotate_left
              · (intro w hSw; (try dsimp only at hSw); go_simp; (first | done | with_reducible rfl))
              try simp only [Act.put, List.setIfInBounds_toArray, List.set_cons_zero, List.set_cons_succ]
              refine held_yes (i := 7) (d := some 60) (v := ?_) rfl rfl (by kernel_rfl) (by kernel_rfl) (by kernel_rfl) (fun _ _ _ h => h) (by rfl) ?_ (by assumption) ?_
              rotate_left
              · (intro w hSw; (try dsimp only at hSw); go_simp; (first | done | with_reducible rfl))
              try simp only [Act.put, List.setIfInBounds_toArray, List.set_cons_zero, List.set_cons_succ]
              refine held_yes (i := 8) (d := some 61) (v := ?_) rfl rfl (by kernel_rfl) (by kernel_rfl) (by kernel_rfl) (fun _ _ _ h => h) (by rfl) ?_ (by assumption) ?_
              rotate_left
              · (intro w hSw; (try dsimp only at hSw); go_simp; (first | done | with_reducible rfl))
              try simp only [Act.put, List.setIfInBounds_toArray, List.set_cons_zero, List.set_cons_succ]
              refine held_yes (i := 9) (d := some 62) (v := ?_) rfl rfl (by kernel_rfl) (by kernel_rfl) (by kernel_rfl) (fun _ _ _ h => h) (by rfl) ?_ (by assumption) ?_
              rotate_left
              · (intro w hSw; (try dsimp only at hSw); go_simp; (first | done | with_reducible rfl))
              try simp only [Act.put, List.setIfInBounds_toArray, List.set_cons_zero, List.set_cons_succ]
              refine wpAnyH_ready (rs := [10]) (by kernel_rfl) (by simp) ?_
              refine AllReadyH.cons rfl (fun K hK => ?_) AllReadyH.nil
              go_simp
              refine hK.out _ _ ?_ (fun hHeld => ?_)
              · exact HSS.out
              clear hK K
              try simp only [Act.put, List.setIfInBounds_toArray, List.set_cons_zero, List.set_cons_succ]
              refine wpAnyH_done (by kernel_rfl) ?_ _
              go_wp2
              go_roundw
              case rel => exact ⟨k + 1, by go_num, by omega, HZ.out⟩
              case measure => simp [intOf]; omega
            · have e3 : V = false := by rw [e2]; exact decide_eq_false hlt2
              have HZ := Lib.hid (hR5.next (of_less HX.out.2.1 (HNV0.out.1.trans e3)))
              clear HNV0 e2 e3 hR5 hP5
              go_wp2
              go_roundw
              case rel => exact ⟨k + 1, by go_num, by omega, HZ.out⟩
              case measure => simp [intOf]; omega
    · obtain rfl : k = 4 * n := by omega
      have z0 : wo.cell? ⟨w.heap.size, 0, none⟩ = some (.slice none 0 0) := hR.2.2.1.cell 0
      have z1 : wo.frozen? ⟨w.heap.size, 0, none⟩ = false := hR.2.2.1.frozen 0
      have b3 : wo.cell? ⟨w2.heap.size, 0, none⟩ = some (.slice (some ⟨gt, 0, none⟩) 8 ct) := hR.2.1.cell 0
      have e8 : decide (((4 * n : Nat) : Int) < 4 * (n : Int)) = false := decide_eq_false (by omega)
      obtain ⟨⟨cs, h1, h2, h3⟩, h4, h5, h6, h7⟩ := hR
      have HZ := Lib.hid (And.intro h1 (And.intro h2 (And.intro (h3.put h5 0 (.slice (some ⟨gt, 0, none⟩) 8 ct)) (grown_put h7 (p := ⟨w.heap.size, 0, none⟩) (Nat.le_refl _) (.slice (some ⟨gt, 0, none⟩) 8 ct)))))
      clear h1 h2 h3 h4 h5 h6 h7
      go_wp2
      exact bodyPost_ret (v := .agg #[.slice (some ⟨gt, 0, none⟩) 8 ct]) (by simp [results, Try.results49, go_sem, *]) rfl ⟨_, _, cs, rfl, HZ.out.1, HZ.out.2.1, HZ.out.2.2.1, HZ.out.2.2.2⟩
/-- What TableOf answers, by letters. -/
def TOfIs (bs : List Bk) (l : List (List Int)) (m : Nat) : Prop := tabOf bs = l ∧ l.length = m
theorem tof_is {n : Nat} {bs : List Bk} (hl : bs.length = n) : ∃ l m, TOfIs bs l m ∧ m ≤ 8 ∧ ∀ xs, xs ∈ l → xs.length = 6 := by
  refine ⟨tabOf bs, (tabOf bs).length, ⟨rfl, rfl⟩, ?_⟩
  cases hd : devB bs
  · rw [of_no hd]; simp
  · obtain ⟨⟨h1, h12⟩, _⟩ := dev_parts hd
    rw [of_yes hd]
    exact ⟨by rw [of_len hd (by omega)]; exact Nat.le_refl _, (of_inv hd _ (by omega)).tv.six⟩
theorem TOfIs.of {bs cs : List Bk} {l : List (List Int)} {m : Nat} (h : TOfIs bs l m) (e : cs.map Bk.is = bs.map Bk.is) : TOfIs cs l m := ⟨(of_is e).trans h.1, h.2⟩
theorem specTableOf_val {A : Option Addr} {n c m : Nat} {bs : List Bk} {l : List (List Int)} {w : World} (h : TOfIs bs l m) (hl : bs.length = n) (hr : DRow w w.heap.size A bs) (hn : n ≤ 1048576) (hp : ∀ b, b ∈ bs → b.ps.length ≤ 1048576) :
    Calls Try.prog 49 #[.slice A n c] w (TabMade l m w) := by
  obtain ⟨rfl, rfl⟩ := h
  cases hd : devB bs
  · rw [of_no hd]
    exact specTableOf_no A n c bs w hl hr hn hp hd
  · obtain ⟨⟨h1, h12⟩, _⟩ := dev_parts hd
    rw [of_yes hd, of_len hd (by omega), hl]
    exact specTableOf_yes A n c bs w hl hr hd
theorem tableOf_val {A : Option Addr} {n c m : Nat} {bs : List Bk} {l : List (List Int)} {w : World} (h : TOfIs bs l m) (hl : bs.length = n) (hr : DRow w w.heap.size A bs) (hn : n ≤ 1048576) (hp : ∀ b, b ∈ bs → b.ps.length ≤ 1048576) :
    Calls Try.prog 50 #[.slice A n c] w (TabMade l m w) := by
  obtain ⟨rfl, rfl⟩ := h
  cases hd : devB bs
  · rw [of_no hd]
    exact tableOf_no A n c bs w hl hr hn hp hd
  · obtain ⟨⟨h1, h12⟩, _⟩ := dev_parts hd
    rw [of_yes hd, of_len hd (by omega), hl]
    exact tableOf_yes A n c bs w hl hr hd
end Go.Proofs.Ytpjajmiegopmlaa
