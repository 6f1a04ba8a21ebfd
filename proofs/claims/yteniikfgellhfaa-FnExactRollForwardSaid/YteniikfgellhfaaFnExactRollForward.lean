/- FnExactRollForward
   Conditions: none beyond the row's own reading of the input. The frame was written by the guide's proof-skeleton; the walk is ours. -/
import Derived.Test.YteniikfgellhfaaAgg
import Derived.Test.YteniikfgellhfaaAggRows
import Derived.Test.YteniikfgellhfaaLawRoll
import Derived.Test.YteniikfgellhfaaHand
import Derived.Test.YteniikfgellhfaaRows
import Derived.WalkKit
import Derived.ProofKit
import Derived.OpenShut
import Derived.ShutString
import Derived.ChangeOld
import Derived.Below
namespace Go.Proofs.Yteniikfgellhfaa.fnExactRollForward
open Go.ChangeShapes Go.WideShapes Go.ChangeAt Go.RowKit
open Go.ChangeMaps (open_string shut_string)
set_option linter.unusedVariables false
set_option linter.unusedSimpArgs false

theorem own : ownKnob Try.prog.godebug = none := by kernel_rfl
theorem laidOut : laidOutB Try.prog = true := by kernel_rfl

/-- WHAT THE WALK IS TOLD OF A SLICE OF INTEGERS THAT CAME IN: it is nil; or it leads to a row of 'cap' cells, the numbers 'zs' (the first 'len' are its elements, the rest its spare room), each fitting its kind. -/
def IsRow (k : IntKind) (w : World) (a : Option Addr) (len cap : Nat) (zs : List Int) : Prop :=
  (a = none ∧ len = 0 ∧ cap = 0 ∧ zs = []) ∨
  ∃ x, a = some x ∧ len ≤ cap ∧ cap ≤ maxLen ∧ zs.length = cap ∧ (∀ i, i < zs.length → w.cell? (x.add i) = some (.int k (zs.getD i 0))) ∧ ∀ n ∈ zs, (Lit.int k n).wf = true

/-! ### STEP 1: THE WALK: the Go text returns true, AND WRITES NOTHING THAT WAS THERE: 'Below w.heap.size w w'' (Derived/Below.lean: '.refl', '.alloc', '.drew', '.setCell' at a new block, '.trans'). Open each 'IsRow' by 'rcases' AHEAD of 'go_enter'; part every test ahead of the walk. -/
set_option maxHeartbeats 16000000 in
set_option maxRecDepth 100000 in
theorem walk (a0 : Option Addr) (n0 c0 : Nat) (b0 : List Bk) (a1f0 : Option Addr) (n1f0 c1f0 : Nat) (p1f0 : List Li) (a2 : Int) (w : World) (w0 : IsBlocks w a0 n0 c0 b0) (w1f0 : IsLists w a1f0 n1f0 c1f0 p1f0) (w2 : (Lit.int .i64 a2).wf = true) :
    Calls Try.prog 8 #[.slice a0 n0 c0, .agg #[.slice a1f0 n1f0 c1f0], .int .i64 a2] w fun e w' => e = .returned (.bool true) ∧ Below w.heap.size w w' := by
  obtain ⟨n1, T, hri, hl1, hn1, ht1⟩ := roll_is b0 (ll p1f0) a2
  have HI := Lib.hid (And.intro hri hl1)
  have HT := Lib.hid ht1
  clear hri hl1 ht1
  have HA := Lib.hid (VA.arg w1f0)
  have HD := Lib.hid ((VD.arg w0).keep (grown_alloc (grown_refl _ none) (.cells #[.slice a1f0 n1f0 c1f0] 62)))
  have HZ := Lib.hid (And.intro (IsBlocks.alloc w0 (.cells #[.slice a1f0 n1f0 c1f0] 62)) (w1f0.alloc (.cells #[.slice a1f0 n1f0 c1f0] 62)))
  have HL := Lib.hid w0.1
  have HLHA := Lib.hid w1f0.1
  clear w0 w1f0
  go_enter Try.func8, Try.ntmps8
  go_wp2_with fail
  refine (szBlockS_le _ _ _ _ _ HZ.out.1).mono ?_
  rintro e w1 ⟨v, rfl, hk, hv⟩
  replace HA := Lib.hid (HA.out.keep hk)
  replace HD := Lib.hid (HD.out.keep hk)
  replace HZ := Lib.hid (HZ.out.2.keep hk)
  rcases hv with rfl | ⟨hv0, hvL, hnd, htd⟩
  · clear hk
    go_wp2
    go_ret
    exact ⟨rfl, grown_below HA.out.2.2.2⟩
  · have tv : decide (v < 0) = false := decide_eq_false (by omega)
    have HP := Lib.hid (And.intro (small_tot htd) htd)
    clear hk htd
    have bHA := HA.out.cell
    have lHA := HA.out.1.lt
    go_wp2_with fail
    clear tv
    clear bHA lHA
    refine (szTable_any _ _ _ _ _ _ HZ.out hv0 hvL).mono ?_
    rintro e w2 ⟨u, rfl, hk, hv⟩
    replace HA := Lib.hid (HA.out.keep hk)
    replace HD := Lib.hid (HD.out.keep hk)
    rcases hv with rfl | ⟨hu0, huL, hn, ht⟩
    · clear hk
      go_wp2
      go_ret
      exact ⟨rfl, grown_below HA.out.2.2.2⟩
    · have tu : decide (u < 0) = false := decide_eq_false (by omega)
      have HPHA := Lib.hid (And.intro (small_ll ht) ht)
      clear hk ht
      have bHA := HA.out.cell
      have lHA := HA.out.1.lt
      have HB0 := Lib.hid HA.out.1
      have z2 : w.heap.size < w2.heap.size := HA.out.1.lt
      go_wp2_with fail
      clear bHA lHA
      apply mrg
      intro key7
      apply mrg
      intro key6
      apply mrg
      intro key5
      apply mrg
      intro key4
      apply mrg
      intro key3
      apply mrg
      intro key2
      apply mrg
      intro key1
      apply mrg
      intro key0
      · have HN := Lib.hid (RS.start w2 b0 n0 (ll p1f0) n1f0 n1 T)
        refine wp_region_held_drew (S := (fun w' => w'.cell? ⟨w.heap.size, 0, none⟩ = some (.slice a1f0 n1f0 c1f0))) (by kernel_rfl) ?_ (fun hHeld => ?_)
        · exact (HB0.out.keep HN.out.1).cell 0
        replace HN := Lib.hid (HN.out.keep (grown_drew (grown_refl _ none)))
        refine heldY 0 26 ?_
        refine heldY 2 28 ?_
        refine heldY 4 30 ?_
        generalize World.drew _ = wn at HN hHeld ⊢
        revert hHeld
        revert HN
        revert wn
        exact key0.out
      · intro wz  HF hHeld
        refine wpAnyH_ready (rs := [1, 6]) (by kernel_rfl) (by simp) ?_
        refine AllReadyH.cons rfl (fun K hK => ?_) (AllReadyH.cons rfl (fun K hK => ?_) AllReadyH.nil)
        · go_simp
          go_at_call 34
          refine (toBlockS_any _ _ _ _ _ HL.out (HD.out.keep HF.out.1).row hnd HP.out.1).mono ?_
          rintro e wn ⟨A2u, c2u, cs2u, rfl, hl, hs, ho, hk⟩
          have HN := Lib.hid (HF.out.one hl hs ho hk)
          clear HF hHeld hl hs ho hk
          refine hK.out _ _ ?_ (fun hHeld => ?_)
          · exact (HB0.out.keep HN.out.1).cell 0
          clear hK K
          try simp only [Act.put, List.setIfInBounds_toArray, List.set_cons_zero, List.set_cons_succ]
          revert hHeld
          revert HN
          revert cs2u
          revert c2u
          revert A2u
          revert wn
          exact key2.out
        · go_simp
          have HN := Lib.hid HF.out.allT
          clear HF hHeld
          refine hK.out _ _ ?_ (fun hHeld => ?_)
          · exact (HB0.out.keep HN.out.1).cell 0
          clear hK K
          try simp only [Act.put, List.setIfInBounds_toArray, List.set_cons_zero, List.set_cons_succ]
          generalize wz.heap.size = Vu at HN ⊢
          generalize World.alloc wz _ = wn at HN hHeld ⊢
          revert hHeld
          revert HN
          revert Vu
          revert wn
          exact key1.out
      · intro wz Vu HF hHeld
        refine wpAnyH_ready (rs := [1]) (by kernel_rfl) (by simp) ?_
        refine AllReadyH.cons rfl (fun K hK => ?_) AllReadyH.nil
        go_simp
        go_at_call 34
        refine (toBlockS_any _ _ _ _ _ HL.out (HD.out.keep HF.out.1).row hnd HP.out.1).mono ?_
        rintro e wn ⟨A2u, c2u, cs2u, rfl, hl, hs, ho, hk⟩
        have HN := Lib.hid (HF.out.one hl hs ho hk)
        clear HF hHeld hl hs ho hk
        refine hK.out _ _ ?_ (fun hHeld => ?_)
        · exact (HB0.out.keep HN.out.1).cell 0
        clear hK K
        try simp only [Act.put, List.setIfInBounds_toArray, List.set_cons_zero, List.set_cons_succ]
        revert hHeld
        revert HN
        revert Vu
        revert cs2u
        revert c2u
        revert A2u
        revert wn
        exact key3.out
      · intro wz A2u c2u cs2u HF hHeld
        refine wpAnyH_ready (rs := [3, 6]) (by kernel_rfl) (by simp) ?_
        refine AllReadyH.cons rfl (fun K hK => ?_) (AllReadyH.cons rfl (fun K hK => ?_) AllReadyH.nil)
        · go_simp
          go_at_call 41
          refine (toTable_any _ _ _ _ _ HLHA.out (HA.out.keep HF.out.1).row hn HPHA.out.1).mono ?_
          rintro e wn ⟨A3u, c3u, cs3u, rfl, hl, hs, ho, hk⟩
          have HN := Lib.hid (HF.out.two hl hs ho hk)
          clear HF hHeld hl hs ho hk
          refine hK.out _ _ ?_ (fun hHeld => ?_)
          · exact (HB0.out.keep HN.out.1).cell 0
          clear hK K
          try simp only [Act.put, List.setIfInBounds_toArray, List.set_cons_zero, List.set_cons_succ]
          revert hHeld
          revert HN
          revert cs3u
          revert c3u
          revert A3u
          revert cs2u
          revert c2u
          revert A2u
          revert wn
          exact key4.out
        · go_simp
          have HN := Lib.hid HF.out.allT
          clear HF hHeld
          refine hK.out _ _ ?_ (fun hHeld => ?_)
          · exact (HB0.out.keep HN.out.1).cell 0
          clear hK K
          try simp only [Act.put, List.setIfInBounds_toArray, List.set_cons_zero, List.set_cons_succ]
          generalize wz.heap.size = Vu at HN ⊢
          generalize World.alloc wz _ = wn at HN hHeld ⊢
          revert hHeld
          revert HN
          revert Vu
          revert cs2u
          revert c2u
          revert A2u
          revert wn
          exact key3.out
      · intro wz A2u c2u cs2u Vu HF hHeld
        refine wpAnyH_ready (rs := [3]) (by kernel_rfl) (by simp) ?_
        refine AllReadyH.cons rfl (fun K hK => ?_) AllReadyH.nil
        go_simp
        go_at_call 41
        refine (toTable_any _ _ _ _ _ HLHA.out (HA.out.keep HF.out.1).row hn HPHA.out.1).mono ?_
        rintro e wn ⟨A3u, c3u, cs3u, rfl, hl, hs, ho, hk⟩
        have HN := Lib.hid (HF.out.two hl hs ho hk)
        clear HF hHeld hl hs ho hk
        refine hK.out _ _ ?_ (fun hHeld => ?_)
        · exact (HB0.out.keep HN.out.1).cell 0
        clear hK K
        try simp only [Act.put, List.setIfInBounds_toArray, List.set_cons_zero, List.set_cons_succ]
        revert hHeld
        revert HN
        revert Vu
        revert cs3u
        revert c3u
        revert A3u
        revert cs2u
        revert c2u
        revert A2u
        revert wn
        exact key5.out
      · intro wz A2u c2u cs2u A3u c3u cs3u HF hHeld
        refine wpAnyH_ready (rs := [5, 6]) (by kernel_rfl) (by simp) ?_
        refine AllReadyH.cons rfl (fun K hK => ?_) (AllReadyH.cons rfl (fun K hK => ?_) AllReadyH.nil)
        · go_simp
          go_at_call 23
          refine (specRoll_val (show rollV cs2u (ll cs3u) a2 = T by rw [(HF.out.2.2.1 (by omega)).2.1, rollV_is (HF.out.2.1 (by omega)).2.1]; exact HI.out.1) HI.out.2 (HF.out.2.1 (by omega)).1 (HF.out.2.1 (by omega)).2.2 hnd (small_is (HF.out.2.1 (by omega)).2.1 HP.out.1) (HF.out.2.2.1 (by omega)).1 (HF.out.2.2.1 (by omega)).2.2 hn (small_cp (HF.out.2.2.1 (by omega)).2.1 HPHA.out.2)).mono ?_
          rintro e wn ⟨A4u, c4u, cs4u, rfl, hl, hs, ho, hk⟩
          have HN := Lib.hid (HF.out.three hl hs ho hk)
          clear HF hHeld hl hs ho hk
          refine hK.out _ _ ?_ (fun hHeld => ?_)
          · exact (HB0.out.keep HN.out.1).cell 0
          clear hK K
          try simp only [Act.put, List.setIfInBounds_toArray, List.set_cons_zero, List.set_cons_succ]
          revert hHeld
          revert HN
          revert cs4u
          revert c4u
          revert A4u
          revert cs3u
          revert c3u
          revert A3u
          revert cs2u
          revert c2u
          revert A2u
          revert wn
          exact key6.out
        · go_simp
          have HN := Lib.hid HF.out.allT
          clear HF hHeld
          refine hK.out _ _ ?_ (fun hHeld => ?_)
          · exact (HB0.out.keep HN.out.1).cell 0
          clear hK K
          try simp only [Act.put, List.setIfInBounds_toArray, List.set_cons_zero, List.set_cons_succ]
          generalize wz.heap.size = Vu at HN ⊢
          generalize World.alloc wz _ = wn at HN hHeld ⊢
          revert hHeld
          revert HN
          revert Vu
          revert cs3u
          revert c3u
          revert A3u
          revert cs2u
          revert c2u
          revert A2u
          revert wn
          exact key5.out
      · intro wz A2u c2u cs2u A3u c3u cs3u Vu HF hHeld
        refine wpAnyH_ready (rs := [5]) (by kernel_rfl) (by simp) ?_
        refine AllReadyH.cons rfl (fun K hK => ?_) AllReadyH.nil
        go_simp
        go_at_call 23
        refine (specRoll_val (show rollV cs2u (ll cs3u) a2 = T by rw [(HF.out.2.2.1 (by omega)).2.1, rollV_is (HF.out.2.1 (by omega)).2.1]; exact HI.out.1) HI.out.2 (HF.out.2.1 (by omega)).1 (HF.out.2.1 (by omega)).2.2 hnd (small_is (HF.out.2.1 (by omega)).2.1 HP.out.1) (HF.out.2.2.1 (by omega)).1 (HF.out.2.2.1 (by omega)).2.2 hn (small_cp (HF.out.2.2.1 (by omega)).2.1 HPHA.out.2)).mono ?_
        rintro e wn ⟨A4u, c4u, cs4u, rfl, hl, hs, ho, hk⟩
        have HN := Lib.hid (HF.out.three hl hs ho hk)
        clear HF hHeld hl hs ho hk
        refine hK.out _ _ ?_ (fun hHeld => ?_)
        · exact (HB0.out.keep HN.out.1).cell 0
        clear hK K
        try simp only [Act.put, List.setIfInBounds_toArray, List.set_cons_zero, List.set_cons_succ]
        revert hHeld
        revert HN
        revert Vu
        revert cs4u
        revert c4u
        revert A4u
        revert cs3u
        revert c3u
        revert A3u
        revert cs2u
        revert c2u
        revert A2u
        revert wn
        exact key7.out
      · intro wz A2u c2u cs2u A3u c3u cs3u A4u c4u cs4u HF hHeld
        refine wpAnyH_ready (rs := [6]) (by kernel_rfl) (by simp) ?_
        refine AllReadyH.cons rfl (fun K hK => ?_) AllReadyH.nil
        go_simp
        have HN := Lib.hid HF.out.allT
        clear HF hHeld
        refine hK.out _ _ ?_ (fun hHeld => ?_)
        · exact (HB0.out.keep HN.out.1).cell 0
        clear hK K
        try simp only [Act.put, List.setIfInBounds_toArray, List.set_cons_zero, List.set_cons_succ]
        generalize wz.heap.size = Vu at HN ⊢
        generalize World.alloc wz _ = wn at HN hHeld ⊢
        revert hHeld
        revert HN
        revert Vu
        revert cs4u
        revert c4u
        revert A4u
        revert cs3u
        revert c3u
        revert A3u
        revert cs2u
        revert c2u
        revert A2u
        revert wn
        exact key7.out
      · intro wz A2u c2u cs2u A3u c3u cs3u A4u c4u cs4u Vu HF hHeld
        obtain ⟨lv, t0, t1⟩ := HF.out.vars
        have lb0 := HA.out.1.lt
        have mm0 : w.heap.size ≠ Vu := by omega
        refine wpAnyH_ready (rs := [7]) (by kernel_rfl) (by simp) ?_
        refine AllReadyH.cons rfl (fun K hK => ?_) AllReadyH.nil
        go_simp
        refine hK.out _ _ ?_ (fun hHeld => ?_)
        · exact cell_far1 hHeld mm0
        clear hK K
        try simp only [Act.put, List.setIfInBounds_toArray, List.set_cons_zero, List.set_cons_succ]
        clear t0 t1 lv hHeld mm0 lb0
        refine wpAnyH_done (by kernel_rfl) ?_ _
        obtain ⟨hiHW, hx, hk, rHW, eHW⟩ := HF.out.pack HA.out.2.2.2
        have SHW := Lib.hid (HF.out.2.2.2.1 (by omega)).1.2
        generalize World.setCell _ _ _ = wf at hx hk eHW ⊢
        replace HA := Lib.hid (HA.out.keep hk)
        replace HD := Lib.hid (HD.out.keep hk)
        have HW := Lib.hid hx
        clear hx hk HF HB0 eHW
        have bHA := HA.out.cell
        have lHA := HA.out.1.lt
        have bHW := HW.out.cell
        have lHW := HW.out.2.1.lt
        go_wp2_with fail
        have hp := HW.out.2.2.2.2.1
        clear bHA lHA bHW lHW
        refine (toBlockS_any _ _ _ _ _ HL.out HD.out.row hnd HP.out.1).mono ?_
        rintro e w4 ⟨A5, c5, cs5, rfl, hl, hs, ho, hk⟩
        obtain ⟨loHY, hiHY, hx, qHY, rHY⟩ : ∃ lo hi, VX w A5 n0 c5 cs5 lo hi w4 ∧ hiHW ≤ lo ∧ lo ≤ hi := ⟨_, _, VX.made HA.out.2.2.2 hl ho hk, hp, hk.size⟩
        replace HA := Lib.hid (HA.out.keep hk)
        replace HD := Lib.hid (HD.out.keep hk)
        replace HW := Lib.hid (HW.out.keep hk)
        have HY := Lib.hid hx
        have SHY := Lib.hid hs
        clear hk hl hs ho hx hp
        have bHA := HA.out.cell
        have lHA := HA.out.1.lt
        have bHW := HW.out.cell
        have lHW := HW.out.2.1.lt
        have THY := Lib.hid (show tot cs5 ≤ 1048576 by rw [tot_is SHY.out, ← tot_is rfl]; exact HP.out.2)
        go_wp2_with fail
        have hp := HY.out.2.2.2.2.1
        clear bHA lHA bHW lHW
        refine (toTable_any _ _ _ _ _ HLHA.out HA.out.row hn HPHA.out.1).mono ?_
        rintro e w5 ⟨A6, c6, cs6, rfl, hl, hs, ho, hk⟩
        obtain ⟨loHX, hiHX, hx, qHX, rHX, sHX⟩ : ∃ lo hi, VT w w5.heap.size A6 n1f0 c6 cs6 lo hi (w5.alloc (.cells #[.slice A6 n1f0 c6] 40)) ∧ hiHY ≤ lo ∧ lo ≤ hi ∧ hi ≤ w5.heap.size := ⟨_, _, VT.start HA.out.2.2.2 hl ho hk, hp, hk.size, Nat.le_refl _⟩
        replace HA := Lib.hid (HA.out.keep hk)
        replace HD := Lib.hid (HD.out.keep hk)
        replace HW := Lib.hid (HW.out.keep hk)
        replace HY := Lib.hid (HY.out.keep hk)
        have bHA := HA.out.cell
        have lHA := HA.out.1.lt
        have bHW := HW.out.cell
        have lHW := HW.out.2.1.lt
        replace HA := Lib.hid (HA.out.keep (grown_alloc (grown_refl w5 none) (.cells #[.slice A6 n1f0 c6] 40)))
        replace HD := Lib.hid (HD.out.keep (grown_alloc (grown_refl w5 none) (.cells #[.slice A6 n1f0 c6] 40)))
        replace HW := Lib.hid (HW.out.keep (grown_alloc (grown_refl w5 none) (.cells #[.slice A6 n1f0 c6] 40)))
        replace HY := Lib.hid (HY.out.keep (grown_alloc (grown_refl w5 none) (.cells #[.slice A6 n1f0 c6] 40)))
        have HX := Lib.hid hx
        have SHX := Lib.hid hs
        clear hk hl hs ho hx hp
        go_wp2_with fail
        have hp := HX.out.1.lt
        clear bHA lHA bHW lHW
        refine (roll_val (show rollV cs5 (ll cs6) a2 = T by rw [SHX.out, rollV_is SHY.out]; exact HI.out.1) HI.out.2 HY.out.2.1 HY.out.row hnd (small_is SHY.out HP.out.1) HX.out.2.2.1 HX.out.row hn (small_cp SHX.out HPHA.out.2)).mono ?_
        rintro e w6 ⟨A7, c7, cs7, rfl, hl, hs, ho, hk⟩
        obtain ⟨loHG, hiHG, hx, qHG, rHG, sHG⟩ : ∃ lo hi, VT w w6.heap.size A7 n1 c7 cs7 lo hi (w6.alloc (.cells #[.slice A7 n1 c7] 40)) ∧ w5.heap.size < lo ∧ lo ≤ hi ∧ hi ≤ w6.heap.size := ⟨_, _, VT.start HA.out.2.2.2 hl ho hk, hp, hk.size, Nat.le_refl _⟩
        replace HA := Lib.hid (HA.out.keep hk)
        replace HD := Lib.hid (HD.out.keep hk)
        replace HW := Lib.hid (HW.out.keep hk)
        replace HY := Lib.hid (HY.out.keep hk)
        replace HX := Lib.hid (HX.out.keep hk)
        have bHA := HA.out.cell
        have lHA := HA.out.1.lt
        have bHX := HX.out.cell
        have lHX := HX.out.1.lt
        have bHW := HW.out.cell
        have lHW := HW.out.2.1.lt
        replace HA := Lib.hid (HA.out.keep (grown_alloc (grown_refl w6 none) (.cells #[.slice A7 n1 c7] 40)))
        replace HD := Lib.hid (HD.out.keep (grown_alloc (grown_refl w6 none) (.cells #[.slice A7 n1 c7] 40)))
        replace HW := Lib.hid (HW.out.keep (grown_alloc (grown_refl w6 none) (.cells #[.slice A7 n1 c7] 40)))
        replace HY := Lib.hid (HY.out.keep (grown_alloc (grown_refl w6 none) (.cells #[.slice A7 n1 c7] 40)))
        replace HX := Lib.hid (HX.out.keep (grown_alloc (grown_refl w6 none) (.cells #[.slice A7 n1 c7] 40)))
        have HG := Lib.hid hx
        have SHG := Lib.hid hs
        clear hk hl hs ho hx hp
        go_wp2_with fail
        clear bHA lHA bHX lHX bHW lHW
        refine (eqTable_same _ _ _ _ _ _ _ _ HG.out.2.2.1 (SHG.out.trans SHW.out.symm) HG.out.row HW.out.row hn1 (by rw [SHG.out]; exact HT.out)).mono ?_
        rintro e w7 ⟨rfl, hk⟩
        replace HA := Lib.hid (HA.out.keep hk)
        replace HD := Lib.hid (HD.out.keep hk)
        replace HW := Lib.hid (HW.out.keep hk)
        replace HY := Lib.hid (HY.out.keep hk)
        replace HX := Lib.hid (HX.out.keep hk)
        replace HG := Lib.hid (HG.out.keep hk)
        clear hk
        have bHA := HA.out.cell
        have lHA := HA.out.1.lt
        have bHX := HX.out.cell
        have lHX := HX.out.1.lt
        have bHG := HG.out.cell
        have lHG := HG.out.1.lt
        have bHW := HW.out.cell
        have lHW := HW.out.2.1.lt
        go_wp2_with fail
        clear bHA lHA bHX lHX bHG lHG bHW lHW
        refine (toBlockS_any _ _ _ _ _ HL.out HD.out.row hnd HP.out.1).mono ?_
        rintro e w8 ⟨A8, c8, cs8, rfl, hl, hs, ho, hk⟩
        replace HA := Lib.hid (HA.out.keep hk)
        replace HD := Lib.hid (HD.out.keep hk)
        replace HW := Lib.hid (HW.out.keep hk)
        replace HY := Lib.hid (HY.out.keep hk)
        replace HX := Lib.hid (HX.out.keep hk)
        replace HG := Lib.hid (HG.out.keep hk)
        have HR8 := Lib.hid (And.intro hl (And.intro hs ho.row))
        clear hk hl hs ho
        have bHA := HA.out.cell
        have lHA := HA.out.1.lt
        have bHX := HX.out.cell
        have lHX := HX.out.1.lt
        have bHG := HG.out.cell
        have lHG := HG.out.1.lt
        have bHW := HW.out.cell
        have lHW := HW.out.2.1.lt
        go_wp2_with fail
        clear bHA lHA bHX lHX bHG lHG bHW lHW
        refine (eqBlockS_same _ _ _ _ _ _ _ _ HY.out.2.1 (SHY.out.trans HR8.out.2.1.symm) HY.out.row HR8.out.2.2 hnd (small_is SHY.out HP.out.1)).mono ?_
        rintro e w9 ⟨rfl, hk⟩
        replace HA := Lib.hid (HA.out.keep hk)
        replace HD := Lib.hid (HD.out.keep hk)
        replace HW := Lib.hid (HW.out.keep hk)
        replace HY := Lib.hid (HY.out.keep hk)
        replace HX := Lib.hid (HX.out.keep hk)
        replace HG := Lib.hid (HG.out.keep hk)
        clear hk
        have bHA := HA.out.cell
        have lHA := HA.out.1.lt
        have bHX := HX.out.cell
        have lHX := HX.out.1.lt
        have bHG := HG.out.cell
        have lHG := HG.out.1.lt
        have bHW := HW.out.cell
        have lHW := HW.out.2.1.lt
        go_wp2_with fail
        refine wp_region_held_drew (S := (fun w' => w'.cell? ⟨w5.heap.size, 0, none⟩ = some (.slice A6 n1f0 c6) ∧ w'.cell? ⟨w.heap.size, 0, none⟩ = some (.slice a1f0 n1f0 c1f0))) (by kernel_rfl) ?_ (fun hHeld => ?_)
        · exact ⟨bHX, bHA⟩
        replace HA := Lib.hid (HA.out.keep (grown_drew (grown_refl _ none)))
        replace HD := Lib.hid (HD.out.keep (grown_drew (grown_refl _ none)))
        replace HW := Lib.hid (HW.out.keep (grown_drew (grown_refl _ none)))
        replace HY := Lib.hid (HY.out.keep (grown_drew (grown_refl _ none)))
        replace HX := Lib.hid (HX.out.keep (grown_drew (grown_refl _ none)))
        replace HG := Lib.hid (HG.out.keep (grown_drew (grown_refl _ none)))
        refine heldY 0 49 ?_
        refine heldY 1 50 ?_
        refine wpAnyH_ready (rs := [2]) (by kernel_rfl) (by simp) ?_
        refine AllReadyH.cons rfl (fun K hK => ?_) AllReadyH.nil
        go_simp
        go_at_call 41
        clear bHA lHA bHX lHX bHG lHG bHW lHW
        refine (toTable_any _ _ _ _ _ HLHA.out HA.out.row hn HPHA.out.1).mono ?_
        rintro e w10 ⟨A9, c9, cs9, rfl, hl, hs, ho, hk⟩
        replace HA := Lib.hid (HA.out.keep hk)
        replace HD := Lib.hid (HD.out.keep hk)
        replace HW := Lib.hid (HW.out.keep hk)
        replace HY := Lib.hid (HY.out.keep hk)
        replace HX := Lib.hid (HX.out.keep hk)
        replace HG := Lib.hid (HG.out.keep hk)
        have HR9 := Lib.hid (And.intro hl (And.intro hs ho.row))
        clear hk hl hs ho
        have bHA := HA.out.cell
        have lHA := HA.out.1.lt
        have bHX := HX.out.cell
        have lHX := HX.out.1.lt
        have bHG := HG.out.cell
        have lHG := HG.out.1.lt
        have bHW := HW.out.cell
        have lHW := HW.out.2.1.lt
        refine hK.out _ _ ?_ (fun hHeld => ?_)
        · exact ⟨bHX, bHA⟩
        clear hK K
        try simp only [Act.put, List.setIfInBounds_toArray, List.set_cons_zero, List.set_cons_succ]
        refine wpAnyH_ready (rs := [3]) (by kernel_rfl) (by simp) ?_
        refine AllReadyH.cons rfl (fun K hK => ?_) AllReadyH.nil
        go_simp
        go_at_call 42
        clear bHA lHA bHX lHX bHG lHG bHW lHW
        refine (eqTable_same _ _ _ _ _ _ _ _ HX.out.2.2.1 (SHX.out.trans HR9.out.2.1.symm) HX.out.row HR9.out.2.2 hn (by rw [SHX.out]; exact HPHA.out.2)).mono ?_
        rintro e w11 ⟨rfl, hk⟩
        replace HA := Lib.hid (HA.out.keep hk)
        replace HD := Lib.hid (HD.out.keep hk)
        replace HW := Lib.hid (HW.out.keep hk)
        replace HY := Lib.hid (HY.out.keep hk)
        replace HX := Lib.hid (HX.out.keep hk)
        replace HG := Lib.hid (HG.out.keep hk)
        clear hk
        have bHA := HA.out.cell
        have lHA := HA.out.1.lt
        have bHX := HX.out.cell
        have lHX := HX.out.1.lt
        have bHG := HG.out.cell
        have lHG := HG.out.1.lt
        have bHW := HW.out.cell
        have lHW := HW.out.2.1.lt
        refine hK.out _ _ ?_ (fun hHeld => ?_)
        · exact ⟨bHX, bHA⟩
        clear hK K
        try simp only [Act.put, List.setIfInBounds_toArray, List.set_cons_zero, List.set_cons_succ]
        refine heldY 4 53 ?_
        refine wpAnyH_done (by kernel_rfl) ?_ _
        go_wp2_with fail
        have MHX := Lib.hid (show ltot (ll cs6) ≤ 1048576 by rw [SHX.out]; exact HPHA.out.2)
        clear bHA lHA bHX lHX bHG lHG bHW lHW
        have HEY := Lib.hid (show endK 1 cs5 ≤ 7000000 by have := THY.out; have := HY.out.2.1; simp only [endK]; omega)
        refine (markBlockS_val rfl HY.out hnd THY.out).mono ?_
        rintro e w12 ⟨rfl, ho, hk⟩
        have hxlo := HY.out.2.2.2.2.2.1
        replace HA := Lib.hid (HA.out.marked hxlo (by omega) hk)
        replace HD := Lib.hid (HD.out.marked hxlo hk)
        replace HW := Lib.hid (HW.out.marked (by omega) hxlo hk)
        replace HX := Lib.hid (HX.out.marked (by omega) hxlo hk)
        replace HG := Lib.hid (HG.out.marked (by omega) hxlo hk)
        clear ho hk hxlo
        have bHA := HA.out.cell
        have lHA := HA.out.1.lt
        have bHX := HX.out.cell
        have lHX := HX.out.1.lt
        have bHG := HG.out.cell
        have lHG := HG.out.1.lt
        have bHW := HW.out.cell
        have lHW := HW.out.2.1.lt
        go_wp2_with fail
        clear bHA lHA bHX lHX bHG lHG bHW lHW
        refine (markTable_from HEY.out HX.out hn MHX.out).mono ?_
        rintro e w13 ⟨vX, rfl, tX, hk⟩
        have hxlo := HX.out.2.2.2.2.2.2.1
        replace HA := Lib.hid (HA.out.marked hxlo (by omega) hk)
        replace HD := Lib.hid (HD.out.marked hxlo hk)
        replace HW := Lib.hid (HW.out.marked (by omega) hxlo hk)
        replace HG := Lib.hid (HG.out.marked (by omega) hxlo hk)
        clear hk hxlo
        have bHA := HA.out.cell
        have lHA := HA.out.1.lt
        have bHG := HG.out.cell
        have lHG := HG.out.1.lt
        have bHW := HW.out.cell
        have lHW := HW.out.2.1.lt
        go_wp2_with fail
        clear bHA lHA bHG lHG bHW lHW
        refine (eqTable_same _ _ _ _ _ _ _ _ HG.out.2.2.1 (SHG.out.trans SHW.out.symm) HG.out.row HW.out.row hn1 (by rw [SHG.out]; exact HT.out)).mono ?_
        rintro e w14 ⟨rfl, hk⟩
        replace HA := Lib.hid (HA.out.keep hk)
        replace HD := Lib.hid (HD.out.keep hk)
        replace HW := Lib.hid (HW.out.keep hk)
        replace HG := Lib.hid (HG.out.keep hk)
        clear hk
        have bHA := HA.out.cell
        have lHA := HA.out.1.lt
        have bHG := HG.out.cell
        have lHG := HG.out.1.lt
        have bHW := HW.out.cell
        have lHW := HW.out.2.1.lt
        go_wp2_with fail
        have MHG := Lib.hid (show ltot (ll cs7) ≤ 1048576 by rw [SHG.out]; exact HT.out)
        obtain ⟨vG, hvG⟩ : ∃ v : Int, v = ((lend 1 cs7 : Nat) : Int) := ⟨_, rfl⟩
        have tG : decide (vG < 0) = false := decide_eq_false (by omega)
        have HVG := Lib.hid (And.intro hvG tG)
        clear hvG
        clear bHA lHA bHG lHG bHW lHW
        refine (markTable_val HVG.out.1 HG.out hn1 MHG.out).mono ?_
        rintro e w15 ⟨rfl, ho, hk⟩
        have hxlo := HG.out.2.2.2.2.2.2.1
        replace HA := Lib.hid (HA.out.marked hxlo (by omega) hk)
        replace HD := Lib.hid (HD.out.marked hxlo hk)
        replace HW := Lib.hid (HW.out.marked (by omega) hxlo hk)
        have LHG := Lib.hid HG.out.2.2.1
        replace HG := Lib.hid (HG.out.self ho hk)
        clear ho hk hxlo
        have bHA := HA.out.cell
        have lHA := HA.out.1.lt
        have bHG := HG.out.cell
        have lHG := HG.out.1.lt
        have bHW := HW.out.cell
        have lHW := HW.out.2.1.lt
        go_wp2_with fail
        clear bHA lHA bHG lHG bHW lHW
        refine (heldTable_val HVG.out.1 HVG.out.2 LHG.out HG.out hn1 MHG.out).mono ?_
        rintro e w16 ⟨rfl, hk⟩
        replace HA := Lib.hid (HA.out.keep hk)
        replace HD := Lib.hid (HD.out.keep hk)
        replace HW := Lib.hid (HW.out.keep hk)
        replace HG := Lib.hid (HG.out.keep hk)
        clear hk
        have bHA := HA.out.cell
        have lHA := HA.out.1.lt
        have bHG := HG.out.cell
        have lHG := HG.out.1.lt
        have bHW := HW.out.cell
        have lHW := HW.out.2.1.lt
        have HB0 := Lib.hid HA.out.1
        go_wp2_with fail
        clear bHA lHA bHG lHG bHW lHW
        apply mrg
        intro key7
        apply mrg
        intro key6
        apply mrg
        intro key5
        apply mrg
        intro key4
        apply mrg
        intro key3
        apply mrg
        intro key2
        apply mrg
        intro key1
        apply mrg
        intro key0
        · have HN := Lib.hid (RS.start w16 b0 n0 (ll p1f0) n1f0 n1 T)
          refine wp_region_held_drew (S := (fun w' => w'.cell? ⟨w.heap.size, 0, none⟩ = some (.slice a1f0 n1f0 c1f0))) (by kernel_rfl) ?_ (fun hHeld => ?_)
          · exact (HB0.out.keep HN.out.1).cell 0
          replace HN := Lib.hid (HN.out.keep (grown_drew (grown_refl _ none)))
          refine heldY 0 79 ?_
          refine heldY 2 81 ?_
          refine heldY 4 83 ?_
          generalize World.drew _ = wn at HN hHeld ⊢
          revert hHeld
          revert HN
          revert wn
          exact key0.out
        · intro wz  HF hHeld
          refine wpAnyH_ready (rs := [1, 6]) (by kernel_rfl) (by simp) ?_
          refine AllReadyH.cons rfl (fun K hK => ?_) (AllReadyH.cons rfl (fun K hK => ?_) AllReadyH.nil)
          · go_simp
            go_at_call 34
            refine (toBlockS_any _ _ _ _ _ HL.out (HD.out.keep HF.out.1).row hnd HP.out.1).mono ?_
            rintro e wn ⟨A2h, c2h, cs2h, rfl, hl, hs, ho, hk⟩
            have HN := Lib.hid (HF.out.one hl hs ho hk)
            clear HF hHeld hl hs ho hk
            refine hK.out _ _ ?_ (fun hHeld => ?_)
            · exact (HB0.out.keep HN.out.1).cell 0
            clear hK K
            try simp only [Act.put, List.setIfInBounds_toArray, List.set_cons_zero, List.set_cons_succ]
            revert hHeld
            revert HN
            revert cs2h
            revert c2h
            revert A2h
            revert wn
            exact key2.out
          · go_simp
            have HN := Lib.hid HF.out.allT
            clear HF hHeld
            refine hK.out _ _ ?_ (fun hHeld => ?_)
            · exact (HB0.out.keep HN.out.1).cell 0
            clear hK K
            try simp only [Act.put, List.setIfInBounds_toArray, List.set_cons_zero, List.set_cons_succ]
            generalize wz.heap.size = Vh at HN ⊢
            generalize World.alloc wz _ = wn at HN hHeld ⊢
            revert hHeld
            revert HN
            revert Vh
            revert wn
            exact key1.out
        · intro wz Vh HF hHeld
          refine wpAnyH_ready (rs := [1]) (by kernel_rfl) (by simp) ?_
          refine AllReadyH.cons rfl (fun K hK => ?_) AllReadyH.nil
          go_simp
          go_at_call 34
          refine (toBlockS_any _ _ _ _ _ HL.out (HD.out.keep HF.out.1).row hnd HP.out.1).mono ?_
          rintro e wn ⟨A2h, c2h, cs2h, rfl, hl, hs, ho, hk⟩
          have HN := Lib.hid (HF.out.one hl hs ho hk)
          clear HF hHeld hl hs ho hk
          refine hK.out _ _ ?_ (fun hHeld => ?_)
          · exact (HB0.out.keep HN.out.1).cell 0
          clear hK K
          try simp only [Act.put, List.setIfInBounds_toArray, List.set_cons_zero, List.set_cons_succ]
          revert hHeld
          revert HN
          revert Vh
          revert cs2h
          revert c2h
          revert A2h
          revert wn
          exact key3.out
        · intro wz A2h c2h cs2h HF hHeld
          refine wpAnyH_ready (rs := [3, 6]) (by kernel_rfl) (by simp) ?_
          refine AllReadyH.cons rfl (fun K hK => ?_) (AllReadyH.cons rfl (fun K hK => ?_) AllReadyH.nil)
          · go_simp
            go_at_call 41
            refine (toTable_any _ _ _ _ _ HLHA.out (HA.out.keep HF.out.1).row hn HPHA.out.1).mono ?_
            rintro e wn ⟨A3h, c3h, cs3h, rfl, hl, hs, ho, hk⟩
            have HN := Lib.hid (HF.out.two hl hs ho hk)
            clear HF hHeld hl hs ho hk
            refine hK.out _ _ ?_ (fun hHeld => ?_)
            · exact (HB0.out.keep HN.out.1).cell 0
            clear hK K
            try simp only [Act.put, List.setIfInBounds_toArray, List.set_cons_zero, List.set_cons_succ]
            revert hHeld
            revert HN
            revert cs3h
            revert c3h
            revert A3h
            revert cs2h
            revert c2h
            revert A2h
            revert wn
            exact key4.out
          · go_simp
            have HN := Lib.hid HF.out.allT
            clear HF hHeld
            refine hK.out _ _ ?_ (fun hHeld => ?_)
            · exact (HB0.out.keep HN.out.1).cell 0
            clear hK K
            try simp only [Act.put, List.setIfInBounds_toArray, List.set_cons_zero, List.set_cons_succ]
            generalize wz.heap.size = Vh at HN ⊢
            generalize World.alloc wz _ = wn at HN hHeld ⊢
            revert hHeld
            revert HN
            revert Vh
            revert cs2h
            revert c2h
            revert A2h
            revert wn
            exact key3.out
        · intro wz A2h c2h cs2h Vh HF hHeld
          refine wpAnyH_ready (rs := [3]) (by kernel_rfl) (by simp) ?_
          refine AllReadyH.cons rfl (fun K hK => ?_) AllReadyH.nil
          go_simp
          go_at_call 41
          refine (toTable_any _ _ _ _ _ HLHA.out (HA.out.keep HF.out.1).row hn HPHA.out.1).mono ?_
          rintro e wn ⟨A3h, c3h, cs3h, rfl, hl, hs, ho, hk⟩
          have HN := Lib.hid (HF.out.two hl hs ho hk)
          clear HF hHeld hl hs ho hk
          refine hK.out _ _ ?_ (fun hHeld => ?_)
          · exact (HB0.out.keep HN.out.1).cell 0
          clear hK K
          try simp only [Act.put, List.setIfInBounds_toArray, List.set_cons_zero, List.set_cons_succ]
          revert hHeld
          revert HN
          revert Vh
          revert cs3h
          revert c3h
          revert A3h
          revert cs2h
          revert c2h
          revert A2h
          revert wn
          exact key5.out
        · intro wz A2h c2h cs2h A3h c3h cs3h HF hHeld
          refine wpAnyH_ready (rs := [5, 6]) (by kernel_rfl) (by simp) ?_
          refine AllReadyH.cons rfl (fun K hK => ?_) (AllReadyH.cons rfl (fun K hK => ?_) AllReadyH.nil)
          · go_simp
            go_at_call 21
            refine (roll_val (show rollV cs2h (ll cs3h) a2 = T by rw [(HF.out.2.2.1 (by omega)).2.1, rollV_is (HF.out.2.1 (by omega)).2.1]; exact HI.out.1) HI.out.2 (HF.out.2.1 (by omega)).1 (HF.out.2.1 (by omega)).2.2 hnd (small_is (HF.out.2.1 (by omega)).2.1 HP.out.1) (HF.out.2.2.1 (by omega)).1 (HF.out.2.2.1 (by omega)).2.2 hn (small_cp (HF.out.2.2.1 (by omega)).2.1 HPHA.out.2)).mono ?_
            rintro e wn ⟨A4h, c4h, cs4h, rfl, hl, hs, ho, hk⟩
            have HN := Lib.hid (HF.out.three hl hs ho hk)
            clear HF hHeld hl hs ho hk
            refine hK.out _ _ ?_ (fun hHeld => ?_)
            · exact (HB0.out.keep HN.out.1).cell 0
            clear hK K
            try simp only [Act.put, List.setIfInBounds_toArray, List.set_cons_zero, List.set_cons_succ]
            revert hHeld
            revert HN
            revert cs4h
            revert c4h
            revert A4h
            revert cs3h
            revert c3h
            revert A3h
            revert cs2h
            revert c2h
            revert A2h
            revert wn
            exact key6.out
          · go_simp
            have HN := Lib.hid HF.out.allT
            clear HF hHeld
            refine hK.out _ _ ?_ (fun hHeld => ?_)
            · exact (HB0.out.keep HN.out.1).cell 0
            clear hK K
            try simp only [Act.put, List.setIfInBounds_toArray, List.set_cons_zero, List.set_cons_succ]
            generalize wz.heap.size = Vh at HN ⊢
            generalize World.alloc wz _ = wn at HN hHeld ⊢
            revert hHeld
            revert HN
            revert Vh
            revert cs3h
            revert c3h
            revert A3h
            revert cs2h
            revert c2h
            revert A2h
            revert wn
            exact key5.out
        · intro wz A2h c2h cs2h A3h c3h cs3h Vh HF hHeld
          refine wpAnyH_ready (rs := [5]) (by kernel_rfl) (by simp) ?_
          refine AllReadyH.cons rfl (fun K hK => ?_) AllReadyH.nil
          go_simp
          go_at_call 21
          refine (roll_val (show rollV cs2h (ll cs3h) a2 = T by rw [(HF.out.2.2.1 (by omega)).2.1, rollV_is (HF.out.2.1 (by omega)).2.1]; exact HI.out.1) HI.out.2 (HF.out.2.1 (by omega)).1 (HF.out.2.1 (by omega)).2.2 hnd (small_is (HF.out.2.1 (by omega)).2.1 HP.out.1) (HF.out.2.2.1 (by omega)).1 (HF.out.2.2.1 (by omega)).2.2 hn (small_cp (HF.out.2.2.1 (by omega)).2.1 HPHA.out.2)).mono ?_
          rintro e wn ⟨A4h, c4h, cs4h, rfl, hl, hs, ho, hk⟩
          have HN := Lib.hid (HF.out.three hl hs ho hk)
          clear HF hHeld hl hs ho hk
          refine hK.out _ _ ?_ (fun hHeld => ?_)
          · exact (HB0.out.keep HN.out.1).cell 0
          clear hK K
          try simp only [Act.put, List.setIfInBounds_toArray, List.set_cons_zero, List.set_cons_succ]
          revert hHeld
          revert HN
          revert Vh
          revert cs4h
          revert c4h
          revert A4h
          revert cs3h
          revert c3h
          revert A3h
          revert cs2h
          revert c2h
          revert A2h
          revert wn
          exact key7.out
        · intro wz A2h c2h cs2h A3h c3h cs3h A4h c4h cs4h HF hHeld
          refine wpAnyH_ready (rs := [6]) (by kernel_rfl) (by simp) ?_
          refine AllReadyH.cons rfl (fun K hK => ?_) AllReadyH.nil
          go_simp
          have HN := Lib.hid HF.out.allT
          clear HF hHeld
          refine hK.out _ _ ?_ (fun hHeld => ?_)
          · exact (HB0.out.keep HN.out.1).cell 0
          clear hK K
          try simp only [Act.put, List.setIfInBounds_toArray, List.set_cons_zero, List.set_cons_succ]
          generalize wz.heap.size = Vh at HN ⊢
          generalize World.alloc wz _ = wn at HN hHeld ⊢
          revert hHeld
          revert HN
          revert Vh
          revert cs4h
          revert c4h
          revert A4h
          revert cs3h
          revert c3h
          revert A3h
          revert cs2h
          revert c2h
          revert A2h
          revert wn
          exact key7.out
        · intro wz A2h c2h cs2h A3h c3h cs3h A4h c4h cs4h Vh HF hHeld
          obtain ⟨lv, t0, t1⟩ := HF.out.vars
          have lb0 := HA.out.1.lt
          have mm0 : w.heap.size ≠ Vh := by omega
          refine wpAnyH_ready (rs := [7]) (by kernel_rfl) (by simp) ?_
          refine AllReadyH.cons rfl (fun K hK => ?_) AllReadyH.nil
          go_simp
          refine hK.out _ _ ?_ (fun hHeld => ?_)
          · exact cell_far1 hHeld mm0
          clear hK K
          try simp only [Act.put, List.setIfInBounds_toArray, List.set_cons_zero, List.set_cons_succ]
          clear t0 t1 lv hHeld mm0 lb0
          refine wpAnyH_done (by kernel_rfl) ?_ _
          obtain ⟨hiHH, hx, hk, rHH, eHH⟩ := HF.out.pack HA.out.2.2.2
          have SHH := Lib.hid (HF.out.2.2.2.1 (by omega)).1.2
          generalize World.setCell _ _ _ = wf at hx hk eHH ⊢
          replace HA := Lib.hid (HA.out.keep hk)
          replace HD := Lib.hid (HD.out.keep hk)
          replace HW := Lib.hid (HW.out.keep hk)
          replace HG := Lib.hid (HG.out.keep hk)
          have HH := Lib.hid hx
          clear hx hk HF HB0 eHH
          have bHA := HA.out.cell
          have lHA := HA.out.1.lt
          have bHG := HG.out.cell
          have lHG := HG.out.1.lt
          have bHW := HW.out.cell
          have lHW := HW.out.2.1.lt
          have bHH := HH.out.cell
          have lHH := HH.out.2.1.lt
          go_wp2_with fail
          clear bHA lHA bHG lHG bHW lHW bHH lHH
          refine (eqTable_same _ _ _ _ _ _ _ _ HH.out.1.2 (SHH.out.trans SHW.out.symm) HH.out.row HW.out.row hn1 (by rw [SHH.out]; exact HT.out)).mono ?_
          rintro e w18 ⟨rfl, hk⟩
          replace HA := Lib.hid (HA.out.keep hk)
          replace HD := Lib.hid (HD.out.keep hk)
          replace HW := Lib.hid (HW.out.keep hk)
          replace HG := Lib.hid (HG.out.keep hk)
          replace HH := Lib.hid (HH.out.keep hk)
          clear hk
          have bHA := HA.out.cell
          have lHA := HA.out.1.lt
          have bHG := HG.out.cell
          have lHG := HG.out.1.lt
          have bHW := HW.out.cell
          have lHW := HW.out.2.1.lt
          have bHH := HH.out.cell
          have lHH := HH.out.2.1.lt
          go_wp2_with fail
          clear bHA lHA bHG lHG bHW lHW bHH lHH
          refine (heldTable_val HVG.out.1 HVG.out.2 LHG.out HG.out hn1 MHG.out).mono ?_
          rintro e w19 ⟨rfl, hk⟩
          replace HA := Lib.hid (HA.out.keep hk)
          replace HD := Lib.hid (HD.out.keep hk)
          replace HW := Lib.hid (HW.out.keep hk)
          replace HG := Lib.hid (HG.out.keep hk)
          replace HH := Lib.hid (HH.out.keep hk)
          clear hk
          have bHA := HA.out.cell
          have lHA := HA.out.1.lt
          have bHG := HG.out.cell
          have lHG := HG.out.1.lt
          have bHW := HW.out.cell
          have lHW := HW.out.2.1.lt
          have bHH := HH.out.cell
          have lHH := HH.out.2.1.lt
          go_wp2
          go_ret
          exact ⟨rfl, grown_below HA.out.2.2.2⟩

/-! ### THE ROW's STEP: WRITTEN OUT: LEAVE IT -/
set_option maxRecDepth 100000 in
theorem lifted (os : Os) (started : os.Started) (H : Type) (enc : TypeId × Value → H) :
    ReturnsInHanded {} Try.checked os 8 .any (Rows.fnExactRollForwardSpec.pre6 enc Try.prog Try.f8 Rows.fnExactRollForwardRow.domain false) (Rows.fnExactRollForwardSpec.post enc Try.prog Try.f8 false true false false) := by
  refine returnsInHanded_of_change (C := Try.checked) own started (by kernel_rfl) Try.func8
    (ChangeSpec.witness6 (enc := enc) (C := Try.checked) false ⟨#[], #[.slice none 0 0, .agg #[.slice none 0 0], .int .i64 0], []⟩ 8 (by kernel_rfl) (by kernel_rfl) (by kernel_rfl) (by kernel_rfl)) ?_
  intro W base args ds gs before hval0 hW hcnd _
  have hval : ∀ (j : Nat) t v, Try.f8.params[j]? = some t → args[j]? = some v → Value.okWide Try.prog W .any base t v := hval0
  have hW' := hW
  obtain ⟨p, q, hA0, hV, rfl, hfz, hnd⟩ := hW
  have hA : DataW.TrodAll enc Try.prog W 0 (fun _ => true) true Try.f8.params.toList args.toList ds p := hA0
  rw [Try.params8] at hA hval
  obtain ⟨v0, vs0, d0, ds0, p0, q0, hargs, rfl, rfl, h0, r0⟩ := trodAll_cons hA
  obtain ⟨v1, vs1, d1, ds1, p1, q1, rfl, rfl, rfl, h1, r1⟩ := trodAll_cons r0
  obtain ⟨v2, vs2, d2, ds2, p2, q2, rfl, rfl, rfl, h2, r2⟩ := trodAll_cons r1
  obtain ⟨rfl, rfl, rfl⟩ := trodAll_nil r2
  obtain rfl : args = #[v0, v1, v2] := by cases args; simp_all
  obtain ⟨rfl, rfl⟩ := trodVars_none hV
  have k0 := h0
  have lt0 : ∀ x ∈ p0, x.block < W.heap.size := by obtain ⟨m, hm⟩ := k0; exact DataW.trod_lt m _ _ _ hm
  obtain ⟨a0, n0, c0, rfl⟩ := okWide_slice Try.underlying55 (hval 0 55 v0 rfl rfl)
  obtain ⟨b0, w0⟩ : ∃ bs, IsBlocks W a0 n0 c0 bs := by
    obtain ⟨fuel, hf⟩ := h0
    obtain ⟨A, n, c, bs, e, hw⟩ := open_blocks (v := .slice a0 n0 c0) hf
    injection e with e1 e2 e3
    subst e1; subst e2; subst e3
    exact ⟨bs, hw⟩
  have k1 := h1
  have lt1 : ∀ x ∈ p1, x.block < W.heap.size := by obtain ⟨m, hm⟩ := k1; exact DataW.trod_lt m _ _ _ hm
  obtain ⟨c1, rfl, l1, f1⟩ := open_agg Try.underlying62 (by kernel_rfl) (by kernel_rfl) (hval 1 62 v1 rfl rfl) h1
  obtain ⟨v1f0, rfl⟩ := list1 l1
  obtain ⟨n1f0, y1f0, t1f0⟩ := f1 0 _ _ rfl rfl
  obtain ⟨a1f0, n1f0, c1f0, p1f0, rfl, w1f0⟩ := open_lists t1f0
  obtain ⟨a2, rfl, rfl, rfl, w2⟩ := open_int Try.underlying3 (hval 2 3 v2 rfl rfl) h2
  clear hA0 hval0
  refine (walk a0 n0 c0 b0 a1f0 n1f0 c1f0 p1f0 a2 W w0 w1f0 w2).mono fun e W' ⟨he, bel⟩ => ?_
  subst he
  exact ⟨_, rfl, _, _, _, [], _, [], hW', trodAll_mk1 (shut_bool Try.underlying4 _), (trodAll_cons_mk (Below.trod laidOut (by kernel_rfl) (of_decide_eq_true (by kernel_rfl)) k0 bel lt0) (trodAll_cons_mk (Below.trod laidOut (by kernel_rfl) (of_decide_eq_true (by kernel_rfl)) k1 bel lt1) (trodAll_cons_mk (shut_int Try.underlying3 w2) trodAll_mk0))), rfl, bel.frame _, fun h => by cases h⟩

theorem over : Rows.fnExactRollForwardRow.holds Try.pinned (OpenSpec.ofChange Rows.fnExactRollForwardSpec) :=
  OpenClaim.holds_of_wide 8 Try.f8 rfl rfl rfl rfl rfl rfl rfl ⟨rfl, rfl, rfl, rfl, rfl⟩ rfl rfl rfl rfl rfl (by kernel_rfl) Try.func8 (by kernel_rfl)
    (of_decide_eq_true (by kernel_rfl)) (by unfold Func.isWrapper; first | (rw [if_pos (by decide +kernel)]; kernel_rfl) | (rw [if_neg (by decide +kernel)]; exact ⟨rfl, rfl⟩))
    (fun os started H enc _ => lifted os started H enc)

/-- ████ THE STATEMENT ████ -/
theorem proved : Rows.FnExactRollForwardSaid := over
#print axioms proved
end Go.Proofs.Yteniikfgellhfaa.fnExactRollForward
