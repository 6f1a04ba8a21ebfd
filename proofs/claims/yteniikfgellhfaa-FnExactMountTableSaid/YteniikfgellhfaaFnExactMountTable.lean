/- FnExactMountTable
   Conditions: none beyond the row's own reading of the input. The frame was written by the guide's proof-skeleton; the walk is ours. -/
import Derived.Test.YteniikfgellhfaaAgg
import Derived.Test.YteniikfgellhfaaAggRows
import Derived.Test.YteniikfgellhfaaLawRoll2
import Derived.Test.YteniikfgellhfaaLawSave
import Derived.Test.YteniikfgellhfaaHand
import Derived.Test.YteniikfgellhfaaRows
import Derived.WalkKit
import Derived.ProofKit
import Derived.OpenShut
import Derived.ShutString
import Derived.ChangeOld
import Derived.Below
namespace Go.Proofs.Yteniikfgellhfaa.fnExactMountTable
open Go.ChangeShapes Go.WideShapes Go.ChangeAt Go.RowKit
open Go.ChangeMaps (open_string shut_string)
set_option linter.unusedVariables false
set_option linter.unusedSimpArgs false

theorem own : ownKnob Try.prog.godebug = none := by kernel_rfl
theorem laidOut : laidOutB Try.prog = true := by kernel_rfl

/-- WHAT THE WALK IS TOLD OF A SLICE OF INTEGERS THAT CAME IN: it is nil; or it leads to a row of 'cap' cells, the numbers 'zs' (the first 'len' are its elements, the rest its spare room), each fitting its kind. -/
def IsRow (k : IntKind) (w : World) (a : Option Addr) (len cap : Nat) (zs : List Int) : Prop :=
  (a = none ∧ len = 0 ∧ cap = 0 ∧ zs = []) ∨
  ∃ x, a = some x ∧ len ≤ cap ∧ cap ≤ maxLen ∧ zs.length = cap ∧ (∀ i, i < zs.length → w.cell? (x.add i) = some (.int k (zs.getD i 0))) ∧ ∀ n ∈ zs, (Lit.int k n).wf = true

/-! ### STEP 1: THE WALK: the Go text returns true, AND WRITES NOTHING THAT WAS THERE: 'Below w.heap.size w w'' (Derived/Below.lean: '.refl', '.alloc', '.drew', '.setCell' at a new block, '.trans'). Open each 'IsRow' by 'rcases' AHEAD of 'go_enter'; part every test ahead of the walk. -/
set_option maxHeartbeats 16000000 in
set_option maxRecDepth 100000 in
theorem walk (a0 : Option Addr) (n0 c0 : Nat) (b0 : List Bk) (a1f0 : Int) (a1f1 : Option Addr) (n1f1 c1f1 : Nat) (p1f1 : List Int) (a1f2 : Int) (a2f0 : Int) (a2f1 : Option Addr) (n2f1 c2f1 : Nat) (p2f1 : List Int) (a2f2 : Int) (a3 : Int) (w : World) (w0 : IsBlocks w a0 n0 c0 b0) (w1f0 : (Lit.int .i64 a1f0).wf = true) (w1f1 : IsInts w a1f1 n1f1 c1f1 p1f1) (w1f2 : (Lit.int .i64 a1f2).wf = true) (w2f0 : (Lit.int .i64 a2f0).wf = true) (w2f1 : IsInts w a2f1 n2f1 c2f1 p2f1) (w2f2 : (Lit.int .i64 a2f2).wf = true) (w3 : (Lit.int .i64 a3).wf = true) :
    Calls Try.prog 10 #[.slice a0 n0 c0, .agg #[.int .i64 a1f0, .slice a1f1 n1f1 c1f1, .int .i64 a1f2], .agg #[.int .i64 a2f0, .slice a2f1 n2f1 c2f1, .int .i64 a2f2], .int .i64 a3] w fun e w' => e = .returned (.bool true) ∧ Below w.heap.size w w' := by
  obtain ⟨T0, M, ok, hV⟩ : ∃ T0 M ok, newV a1f0 p1f1 a1f2 a2f0 p2f1 a2f2 = (T0, M, ok) := ⟨_, _, _, rfl⟩
  obtain ⟨T, r, hR⟩ : ∃ T r, mountV b0 T0 ok a3 = (T, r) := ⟨_, _, rfl⟩
  obtain ⟨n1, hn1'⟩ : ∃ n1, T.length = n1 := ⟨_, rfl⟩
  have hT1 := mount_size hV hR
  have hn1 : n1 ≤ 1048576 := by rw [← hn1']; exact hT1.1
  have HI := Lib.hid (And.intro hV (And.intro hR hn1'))
  have HT := Lib.hid hT1.2
  have trr : (r != r) = false := by simp
  clear hV hR hn1' hT1
  have HA := Lib.hid ((SvA.arg (N := a1f0) (S := a1f2) w1f1).keep (grown_alloc (grown_refl _ none) (.cells #[.int .i64 a2f0, .slice a2f1 n2f1 c2f1, .int .i64 a2f2] 68)))
  have HB := Lib.hid (SvA.arg2 (N := a2f0) (S := a2f2) (N' := a1f0) (S' := a1f2) (A' := a1f1) (n' := n1f1) (c' := c1f1) w2f1)
  have HD := Lib.hid ((VD.arg w0).keep (grown_alloc (grown_alloc (grown_refl _ none) (.cells #[.int .i64 a1f0, .slice a1f1 n1f1 c1f1, .int .i64 a1f2] 68)) (.cells #[.int .i64 a2f0, .slice a2f1 n2f1 c2f1, .int .i64 a2f2] 68)))
  have HZ := Lib.hid (IsBlocks.alloc (IsBlocks.alloc w0 (.cells #[.int .i64 a1f0, .slice a1f1 n1f1 c1f1, .int .i64 a1f2] 68)) (.cells #[.int .i64 a2f0, .slice a2f1 n2f1 c2f1, .int .i64 a2f2] 68))
  have HL := Lib.hid w0.1
  have HLHA := Lib.hid w1f1.1
  have HLHB := Lib.hid w2f1.1
  have hmx : n1f1 ≤ 9223372036854775807 := by have h1 := w1f1.2.1; have h2 := w1f1.2.2.1; simp only [maxLen] at h2; omega
  have hmx2 : n2f1 ≤ 9223372036854775807 := by have h1 := w2f1.2.1; have h2 := w2f1.2.2.1; simp only [maxLen] at h2; omega
  clear w0 w1f1 w2f1
  go_enter Try.func10, Try.ntmps10
  go_wp2_with fail
  refine (szBlockS_le _ _ _ _ _ HZ.out).mono ?_
  rintro e w1 ⟨v, rfl, hk, hv⟩
  replace HA := Lib.hid (HA.out.keep hk)
  replace HB := Lib.hid (HB.out.keep hk)
  replace HD := Lib.hid (HD.out.keep hk)
  rcases hv with rfl | ⟨hv0, hvL, hnd, htd⟩
  · clear hk
    go_wp2
    go_ret
    exact ⟨rfl, grown_below HA.out.2.2.2⟩
  · have tv : decide (v < 0) = false := decide_eq_false (by omega)
    have HP := Lib.hid (And.intro (small_tot htd) htd)
    clear hk htd HZ
    obtain ⟨bHA, cHA, dHA⟩ := HA.out.cells
    have lHA := HA.out.1.lt
    obtain ⟨bHB, cHB, dHB⟩ := HB.out.cells
    have lHB := HB.out.1.lt
    go_wp2_with fail
    clear tv
    clear bHA cHA dHA lHA bHB cHB dHB lHB
    refine (szSave_any _ _ _ _ _ _ _ hv0 hvL hmx).mono ?_
    rintro e w2 ⟨u, rfl, hk, hu⟩
    replace HA := Lib.hid (HA.out.keep hk)
    replace HB := Lib.hid (HB.out.keep hk)
    replace HD := Lib.hid (HD.out.keep hk)
    rcases hu with rfl | ⟨hu0, huL, hn⟩
    · clear hk
      go_wp2
      go_ret
      exact ⟨rfl, grown_below HA.out.2.2.2⟩
    · have tu : decide (u < 0) = false := decide_eq_false (by omega)
      clear hk
      obtain ⟨bHA, cHA, dHA⟩ := HA.out.cells
      have lHA := HA.out.1.lt
      obtain ⟨bHB, cHB, dHB⟩ := HB.out.cells
      have lHB := HB.out.1.lt
      go_wp2_with fail
      clear tu
      clear bHA cHA dHA lHA bHB cHB dHB lHB
      refine (szSave_any _ _ _ _ _ _ _ hu0 (by omega) hmx2).mono ?_
      rintro e w3 ⟨x, rfl, hk, hx⟩
      replace HA := Lib.hid (HA.out.keep hk)
      replace HB := Lib.hid (HB.out.keep hk)
      replace HD := Lib.hid (HD.out.keep hk)
      rcases hx with rfl | ⟨hx0, hxL, hn2⟩
      · clear hk
        go_wp2
        go_ret
        exact ⟨rfl, grown_below HA.out.2.2.2⟩
      · have tx : decide (x < 0) = false := decide_eq_false (by omega)
        clear hk
        obtain ⟨bHA, cHA, dHA⟩ := HA.out.cells
        have lHA := HA.out.1.lt
        obtain ⟨bHB, cHB, dHB⟩ := HB.out.cells
        have lHB := HB.out.1.lt
        have HB0 := Lib.hid (And.intro HA.out.1 HB.out.1)
        have z2 : w.heap.size + 1 < w3.heap.size := HB.out.1.lt
        go_wp2_with fail
        clear bHA cHA dHA lHA bHB cHB dHB lHB
        apply mrg
        intro key9
        apply mrg
        intro key8
        apply mrg
        intro key7
        apply mrg
        intro key6
        apply mrg
        intro key5
        apply mrg
        intro key4
        apply mrg
        intro key3
        apply mrg
        intro key2
        apply mrg
        intro key1
        apply mrg
        intro key0
        · have HN := Lib.hid (MS.start w3 b0 n0 p1f1 p2f1 n1 T)
          refine wp_region_held_drew (S := (fun w' => w'.cell? ⟨w.heap.size, 0, none⟩ = some (.int .i64 a1f0) ∧ w'.cell? ⟨w.heap.size, 1, none⟩ = some (.slice a1f1 n1f1 c1f1) ∧ w'.cell? ⟨w.heap.size, 2, none⟩ = some (.int .i64 a1f2) ∧ w'.cell? ⟨w.heap.size + 1, 0, none⟩ = some (.int .i64 a2f0) ∧ w'.cell? ⟨w.heap.size + 1, 1, none⟩ = some (.slice a2f1 n2f1 c2f1) ∧ w'.cell? ⟨w.heap.size + 1, 2, none⟩ = some (.int .i64 a2f2))) (by kernel_rfl) ?_ (fun hHeld => ?_)
          · exact ⟨(HB0.out.1.keep HN.out.1).cell 0, (HB0.out.1.keep HN.out.1).cell 1, (HB0.out.1.keep HN.out.1).cell 2, (HB0.out.2.keep HN.out.1).cell 0, (HB0.out.2.keep HN.out.1).cell 1, (HB0.out.2.keep HN.out.1).cell 2⟩
          replace HN := Lib.hid (HN.out.keep (grown_drew (grown_refl _ none)))
          refine heldY 0 38 ?_
          refine heldY 2 40 ?_
          refine heldY 4 42 ?_
          refine heldY 6 44 ?_
          generalize World.drew _ = wn at HN hHeld ⊢
          revert hHeld
          revert HN
          revert wn
          exact key0.out
        · intro wz  HF hHeld
          refine wpAnyH_ready (rs := [1, 11]) (by kernel_rfl) (by simp) ?_
          refine AllReadyH.cons rfl (fun K hK => ?_) (AllReadyH.cons rfl (fun K hK => ?_) AllReadyH.nil)
          · go_simp
            go_at_call 34
            refine (toBlockS_any _ _ _ _ _ HL.out (HD.out.keep HF.out.1).row hnd HP.out.1).mono ?_
            rintro e wn ⟨A2u, c2u, cs2u, rfl, hl, hs, ho, hk⟩
            have HN := Lib.hid (HF.out.one hl hs ho hk)
            clear HF hHeld hl hs ho hk
            refine hK.out _ _ ?_ (fun hHeld => ?_)
            · exact ⟨(HB0.out.1.keep HN.out.1).cell 0, (HB0.out.1.keep HN.out.1).cell 1, (HB0.out.1.keep HN.out.1).cell 2, (HB0.out.2.keep HN.out.1).cell 0, (HB0.out.2.keep HN.out.1).cell 1, (HB0.out.2.keep HN.out.1).cell 2⟩
            clear hK K
            try simp only [Act.put, List.setIfInBounds_toArray, List.set_cons_zero, List.set_cons_succ]
            revert hHeld
            revert HN
            revert cs2u
            revert c2u
            revert A2u
            revert wn
            exact key2.out
          · go_simp
            have HN := Lib.hid HF.out.allT
            clear HF hHeld
            refine hK.out _ _ ?_ (fun hHeld => ?_)
            · exact ⟨(HB0.out.1.keep HN.out.1).cell 0, (HB0.out.1.keep HN.out.1).cell 1, (HB0.out.1.keep HN.out.1).cell 2, (HB0.out.2.keep HN.out.1).cell 0, (HB0.out.2.keep HN.out.1).cell 1, (HB0.out.2.keep HN.out.1).cell 2⟩
            clear hK K
            try simp only [Act.put, List.setIfInBounds_toArray, List.set_cons_zero, List.set_cons_succ]
            generalize wz.heap.size = Vu at HN ⊢
            generalize World.alloc wz _ = wn at HN hHeld ⊢
            revert hHeld
            revert HN
            revert Vu
            revert wn
            exact key1.out
        · intro wz Vu HF hHeld
          refine wpAnyH_ready (rs := [1]) (by kernel_rfl) (by simp) ?_
          refine AllReadyH.cons rfl (fun K hK => ?_) AllReadyH.nil
          go_simp
          go_at_call 34
          refine (toBlockS_any _ _ _ _ _ HL.out (HD.out.keep HF.out.1).row hnd HP.out.1).mono ?_
          rintro e wn ⟨A2u, c2u, cs2u, rfl, hl, hs, ho, hk⟩
          have HN := Lib.hid (HF.out.one hl hs ho hk)
          clear HF hHeld hl hs ho hk
          refine hK.out _ _ ?_ (fun hHeld => ?_)
          · exact ⟨(HB0.out.1.keep HN.out.1).cell 0, (HB0.out.1.keep HN.out.1).cell 1, (HB0.out.1.keep HN.out.1).cell 2, (HB0.out.2.keep HN.out.1).cell 0, (HB0.out.2.keep HN.out.1).cell 1, (HB0.out.2.keep HN.out.1).cell 2⟩
          clear hK K
          try simp only [Act.put, List.setIfInBounds_toArray, List.set_cons_zero, List.set_cons_succ]
          revert hHeld
          revert HN
          revert Vu
          revert cs2u
          revert c2u
          revert A2u
          revert wn
          exact key3.out
        · intro wz A2u c2u cs2u HF hHeld
          refine wpAnyH_ready (rs := [3, 11]) (by kernel_rfl) (by simp) ?_
          refine AllReadyH.cons rfl (fun K hK => ?_) (AllReadyH.cons rfl (fun K hK => ?_) AllReadyH.nil)
          · go_simp
            go_at_call 46
            refine (toSave_any _ _ _ _ _ _ _ HLHA.out (HA.out.keep HF.out.1).row hn).mono ?_
            rintro e wn ⟨g3u, rfl, ho, hk⟩
            have HN := Lib.hid (HF.out.two ho hk)
            clear HF hHeld ho hk
            refine hK.out _ _ ?_ (fun hHeld => ?_)
            · exact ⟨(HB0.out.1.keep HN.out.1).cell 0, (HB0.out.1.keep HN.out.1).cell 1, (HB0.out.1.keep HN.out.1).cell 2, (HB0.out.2.keep HN.out.1).cell 0, (HB0.out.2.keep HN.out.1).cell 1, (HB0.out.2.keep HN.out.1).cell 2⟩
            clear hK K
            try simp only [Act.put, List.setIfInBounds_toArray, List.set_cons_zero, List.set_cons_succ]
            revert hHeld
            revert HN
            revert g3u
            revert cs2u
            revert c2u
            revert A2u
            revert wn
            exact key4.out
          · go_simp
            have HN := Lib.hid HF.out.allT
            clear HF hHeld
            refine hK.out _ _ ?_ (fun hHeld => ?_)
            · exact ⟨(HB0.out.1.keep HN.out.1).cell 0, (HB0.out.1.keep HN.out.1).cell 1, (HB0.out.1.keep HN.out.1).cell 2, (HB0.out.2.keep HN.out.1).cell 0, (HB0.out.2.keep HN.out.1).cell 1, (HB0.out.2.keep HN.out.1).cell 2⟩
            clear hK K
            try simp only [Act.put, List.setIfInBounds_toArray, List.set_cons_zero, List.set_cons_succ]
            generalize wz.heap.size = Vu at HN ⊢
            generalize World.alloc wz _ = wn at HN hHeld ⊢
            revert hHeld
            revert HN
            revert Vu
            revert cs2u
            revert c2u
            revert A2u
            revert wn
            exact key3.out
        · intro wz A2u c2u cs2u Vu HF hHeld
          refine wpAnyH_ready (rs := [3]) (by kernel_rfl) (by simp) ?_
          refine AllReadyH.cons rfl (fun K hK => ?_) AllReadyH.nil
          go_simp
          go_at_call 46
          refine (toSave_any _ _ _ _ _ _ _ HLHA.out (HA.out.keep HF.out.1).row hn).mono ?_
          rintro e wn ⟨g3u, rfl, ho, hk⟩
          have HN := Lib.hid (HF.out.two ho hk)
          clear HF hHeld ho hk
          refine hK.out _ _ ?_ (fun hHeld => ?_)
          · exact ⟨(HB0.out.1.keep HN.out.1).cell 0, (HB0.out.1.keep HN.out.1).cell 1, (HB0.out.1.keep HN.out.1).cell 2, (HB0.out.2.keep HN.out.1).cell 0, (HB0.out.2.keep HN.out.1).cell 1, (HB0.out.2.keep HN.out.1).cell 2⟩
          clear hK K
          try simp only [Act.put, List.setIfInBounds_toArray, List.set_cons_zero, List.set_cons_succ]
          revert hHeld
          revert HN
          revert Vu
          revert g3u
          revert cs2u
          revert c2u
          revert A2u
          revert wn
          exact key5.out
        · intro wz A2u c2u cs2u g3u HF hHeld
          refine wpAnyH_ready (rs := [5, 11]) (by kernel_rfl) (by simp) ?_
          refine AllReadyH.cons rfl (fun K hK => ?_) (AllReadyH.cons rfl (fun K hK => ?_) AllReadyH.nil)
          · go_simp
            go_at_call 46
            refine (toSave_any _ _ _ _ _ _ _ HLHB.out (HB.out.keep HF.out.1).row hn2).mono ?_
            rintro e wn ⟨g4u, rfl, ho, hk⟩
            have HN := Lib.hid (HF.out.three ho hk)
            clear HF hHeld ho hk
            refine hK.out _ _ ?_ (fun hHeld => ?_)
            · exact ⟨(HB0.out.1.keep HN.out.1).cell 0, (HB0.out.1.keep HN.out.1).cell 1, (HB0.out.1.keep HN.out.1).cell 2, (HB0.out.2.keep HN.out.1).cell 0, (HB0.out.2.keep HN.out.1).cell 1, (HB0.out.2.keep HN.out.1).cell 2⟩
            clear hK K
            try simp only [Act.put, List.setIfInBounds_toArray, List.set_cons_zero, List.set_cons_succ]
            revert hHeld
            revert HN
            revert g4u
            revert g3u
            revert cs2u
            revert c2u
            revert A2u
            revert wn
            exact key6.out
          · go_simp
            have HN := Lib.hid HF.out.allT
            clear HF hHeld
            refine hK.out _ _ ?_ (fun hHeld => ?_)
            · exact ⟨(HB0.out.1.keep HN.out.1).cell 0, (HB0.out.1.keep HN.out.1).cell 1, (HB0.out.1.keep HN.out.1).cell 2, (HB0.out.2.keep HN.out.1).cell 0, (HB0.out.2.keep HN.out.1).cell 1, (HB0.out.2.keep HN.out.1).cell 2⟩
            clear hK K
            try simp only [Act.put, List.setIfInBounds_toArray, List.set_cons_zero, List.set_cons_succ]
            generalize wz.heap.size = Vu at HN ⊢
            generalize World.alloc wz _ = wn at HN hHeld ⊢
            revert hHeld
            revert HN
            revert Vu
            revert g3u
            revert cs2u
            revert c2u
            revert A2u
            revert wn
            exact key5.out
        · intro wz A2u c2u cs2u g3u Vu HF hHeld
          refine wpAnyH_ready (rs := [5]) (by kernel_rfl) (by simp) ?_
          refine AllReadyH.cons rfl (fun K hK => ?_) AllReadyH.nil
          go_simp
          go_at_call 46
          refine (toSave_any _ _ _ _ _ _ _ HLHB.out (HB.out.keep HF.out.1).row hn2).mono ?_
          rintro e wn ⟨g4u, rfl, ho, hk⟩
          have HN := Lib.hid (HF.out.three ho hk)
          clear HF hHeld ho hk
          refine hK.out _ _ ?_ (fun hHeld => ?_)
          · exact ⟨(HB0.out.1.keep HN.out.1).cell 0, (HB0.out.1.keep HN.out.1).cell 1, (HB0.out.1.keep HN.out.1).cell 2, (HB0.out.2.keep HN.out.1).cell 0, (HB0.out.2.keep HN.out.1).cell 1, (HB0.out.2.keep HN.out.1).cell 2⟩
          clear hK K
          try simp only [Act.put, List.setIfInBounds_toArray, List.set_cons_zero, List.set_cons_succ]
          revert hHeld
          revert HN
          revert Vu
          revert g4u
          revert g3u
          revert cs2u
          revert c2u
          revert A2u
          revert wn
          exact key7.out
        · intro wz A2u c2u cs2u g3u g4u HF hHeld
          refine wpAnyH_ready (rs := [7, 11]) (by kernel_rfl) (by simp) ?_
          refine AllReadyH.cons rfl (fun K hK => ?_) (AllReadyH.cons rfl (fun K hK => ?_) AllReadyH.nil)
          · go_simp
            go_at_call 31
            refine ((specMount_val HI.out.1 (show mountV cs2u T0 ok a3 = (T, r) by rw [mountV_is (HF.out.2.1 (by omega)).2.1]; exact HI.out.2.1) (HF.out.2.1 (by omega)).1 (HF.out.2.1 (by omega)).2.2 hnd (small_is (HF.out.2.1 (by omega)).2.1 HP.out.1) HLHA.out (HF.out.2.2.1 (by omega)) hn HLHB.out (HF.out.2.2.2.1 (by omega)) hn2 (Nat.le_refl _) (by simp only [maxLen]; omega) (Nat.le_refl _) (by simp only [maxLen]; omega)).mono fun _ _ q => TabMade2.to q HI.out.2.2).mono ?_
            rintro e wn ⟨A5u, c5u, cs5u, rfl, hl, hs, ho, hk⟩
            have HN := Lib.hid (HF.out.four hl hs ho hk)
            clear HF hHeld hl hs ho hk
            refine hK.out _ _ ?_ (fun hHeld => ?_)
            · exact ⟨(HB0.out.1.keep HN.out.1).cell 0, (HB0.out.1.keep HN.out.1).cell 1, (HB0.out.1.keep HN.out.1).cell 2, (HB0.out.2.keep HN.out.1).cell 0, (HB0.out.2.keep HN.out.1).cell 1, (HB0.out.2.keep HN.out.1).cell 2⟩
            clear hK K
            try simp only [Act.put, List.setIfInBounds_toArray, List.set_cons_zero, List.set_cons_succ]
            refine heldY 8 37 ?_
            refine heldY 9 46 ?_
            refine heldY 10 47 ?_
            revert hHeld
            revert HN
            revert cs5u
            revert c5u
            revert A5u
            revert g4u
            revert g3u
            revert cs2u
            revert c2u
            revert A2u
            revert wn
            exact key8.out
          · go_simp
            have HN := Lib.hid HF.out.allT
            clear HF hHeld
            refine hK.out _ _ ?_ (fun hHeld => ?_)
            · exact ⟨(HB0.out.1.keep HN.out.1).cell 0, (HB0.out.1.keep HN.out.1).cell 1, (HB0.out.1.keep HN.out.1).cell 2, (HB0.out.2.keep HN.out.1).cell 0, (HB0.out.2.keep HN.out.1).cell 1, (HB0.out.2.keep HN.out.1).cell 2⟩
            clear hK K
            try simp only [Act.put, List.setIfInBounds_toArray, List.set_cons_zero, List.set_cons_succ]
            generalize wz.heap.size = Vu at HN ⊢
            generalize World.alloc wz _ = wn at HN hHeld ⊢
            revert hHeld
            revert HN
            revert Vu
            revert g4u
            revert g3u
            revert cs2u
            revert c2u
            revert A2u
            revert wn
            exact key7.out
        · intro wz A2u c2u cs2u g3u g4u Vu HF hHeld
          refine wpAnyH_ready (rs := [7]) (by kernel_rfl) (by simp) ?_
          refine AllReadyH.cons rfl (fun K hK => ?_) AllReadyH.nil
          go_simp
          go_at_call 31
          refine ((specMount_val HI.out.1 (show mountV cs2u T0 ok a3 = (T, r) by rw [mountV_is (HF.out.2.1 (by omega)).2.1]; exact HI.out.2.1) (HF.out.2.1 (by omega)).1 (HF.out.2.1 (by omega)).2.2 hnd (small_is (HF.out.2.1 (by omega)).2.1 HP.out.1) HLHA.out (HF.out.2.2.1 (by omega)) hn HLHB.out (HF.out.2.2.2.1 (by omega)) hn2 (Nat.le_refl _) (by simp only [maxLen]; omega) (Nat.le_refl _) (by simp only [maxLen]; omega)).mono fun _ _ q => TabMade2.to q HI.out.2.2).mono ?_
          rintro e wn ⟨A5u, c5u, cs5u, rfl, hl, hs, ho, hk⟩
          have HN := Lib.hid (HF.out.four hl hs ho hk)
          clear HF hHeld hl hs ho hk
          refine hK.out _ _ ?_ (fun hHeld => ?_)
          · exact ⟨(HB0.out.1.keep HN.out.1).cell 0, (HB0.out.1.keep HN.out.1).cell 1, (HB0.out.1.keep HN.out.1).cell 2, (HB0.out.2.keep HN.out.1).cell 0, (HB0.out.2.keep HN.out.1).cell 1, (HB0.out.2.keep HN.out.1).cell 2⟩
          clear hK K
          try simp only [Act.put, List.setIfInBounds_toArray, List.set_cons_zero, List.set_cons_succ]
          refine heldY 8 37 ?_
          refine heldY 9 46 ?_
          refine heldY 10 47 ?_
          revert hHeld
          revert HN
          revert Vu
          revert cs5u
          revert c5u
          revert A5u
          revert g4u
          revert g3u
          revert cs2u
          revert c2u
          revert A2u
          revert wn
          exact key9.out
        · intro wz A2u c2u cs2u g3u g4u A5u c5u cs5u HF hHeld
          refine wpAnyH_ready (rs := [11]) (by kernel_rfl) (by simp) ?_
          refine AllReadyH.cons rfl (fun K hK => ?_) AllReadyH.nil
          go_simp
          have HN := Lib.hid HF.out.allT
          clear HF hHeld
          refine hK.out _ _ ?_ (fun hHeld => ?_)
          · exact ⟨(HB0.out.1.keep HN.out.1).cell 0, (HB0.out.1.keep HN.out.1).cell 1, (HB0.out.1.keep HN.out.1).cell 2, (HB0.out.2.keep HN.out.1).cell 0, (HB0.out.2.keep HN.out.1).cell 1, (HB0.out.2.keep HN.out.1).cell 2⟩
          clear hK K
          try simp only [Act.put, List.setIfInBounds_toArray, List.set_cons_zero, List.set_cons_succ]
          generalize wz.heap.size = Vu at HN ⊢
          generalize World.alloc wz _ = wn at HN hHeld ⊢
          revert hHeld
          revert HN
          revert Vu
          revert cs5u
          revert c5u
          revert A5u
          revert g4u
          revert g3u
          revert cs2u
          revert c2u
          revert A2u
          revert wn
          exact key9.out
        · intro wz A2u c2u cs2u g3u g4u A5u c5u cs5u Vu HF hHeld
          obtain ⟨lv, t0, t1⟩ := HF.out.vars
          have lb0 := HA.out.1.lt
          have mm0 : w.heap.size ≠ Vu := by omega
          have lb1 := HB.out.1.lt
          have mm1 : w.heap.size + 1 ≠ Vu := by omega
          refine wpAnyH_ready (rs := [12]) (by kernel_rfl) (by simp) ?_
          refine AllReadyH.cons rfl (fun K hK => ?_) AllReadyH.nil
          go_simp
          refine hK.out _ _ ?_ (fun hHeld => ?_)
          · exact ⟨cell_far1 hHeld.1 mm0, cell_far1 hHeld.2.1 mm0, cell_far1 hHeld.2.2.1 mm0, cell_far1 hHeld.2.2.2.1 mm1, cell_far1 hHeld.2.2.2.2.1 mm1, cell_far1 hHeld.2.2.2.2.2 mm1⟩
          clear hK K
          try simp only [Act.put, List.setIfInBounds_toArray, List.set_cons_zero, List.set_cons_succ]
          refine heldY 13 11 ?_
          clear t0 t1 lv hHeld mm0 lb0 mm1 lb1
          refine wpAnyH_done (by kernel_rfl) ?_ _
          obtain ⟨hiHW, hx, hk, rHW, eHW⟩ := HF.out.pack HA.out.2.2.2
          have SHW := Lib.hid (HF.out.2.2.2.2.1 (by omega)).1.2
          generalize World.setCell _ _ _ = wf at hx hk eHW ⊢
          replace HA := Lib.hid (HA.out.keep hk)
          replace HB := Lib.hid (HB.out.keep hk)
          replace HD := Lib.hid (HD.out.keep hk)
          have HW := Lib.hid hx
          clear hx hk HF HB0 eHW
          obtain ⟨bHA, cHA, dHA⟩ := HA.out.cells
          have lHA := HA.out.1.lt
          obtain ⟨bHB, cHB, dHB⟩ := HB.out.cells
          have lHB := HB.out.1.lt
          have bHW := HW.out.cell
          have lHW := HW.out.2.1.lt
          go_wp2_with fail
          have hp := HW.out.2.2.2.2.1
          clear bHA cHA dHA lHA bHB cHB dHB lHB bHW lHW
          refine (toBlockS_any _ _ _ _ _ HL.out HD.out.row hnd HP.out.1).mono ?_
          rintro e w5 ⟨A6, c6, cs6, rfl, hl, hs, ho, hk⟩
          obtain ⟨loHY, hiHY, hx, qHY, rHY⟩ : ∃ lo hi, VX w A6 n0 c6 cs6 lo hi w5 ∧ hiHW ≤ lo ∧ lo ≤ hi := ⟨_, _, VX.made HA.out.2.2.2 hl ho hk, hp, hk.size⟩
          replace HA := Lib.hid (HA.out.keep hk)
          replace HB := Lib.hid (HB.out.keep hk)
          replace HD := Lib.hid (HD.out.keep hk)
          replace HW := Lib.hid (HW.out.keep hk)
          have HY := Lib.hid hx
          have SHY := Lib.hid hs
          clear hk hl hs ho hx hp
          obtain ⟨bHA, cHA, dHA⟩ := HA.out.cells
          have lHA := HA.out.1.lt
          obtain ⟨bHB, cHB, dHB⟩ := HB.out.cells
          have lHB := HB.out.1.lt
          have bHW := HW.out.cell
          have lHW := HW.out.2.1.lt
          have THY := Lib.hid (show tot cs6 ≤ 1048576 by rw [tot_is SHY.out, ← tot_is rfl]; exact HP.out.2)
          go_wp2_with fail
          have hp := HY.out.2.2.2.2.1
          clear bHA cHA dHA lHA bHB cHB dHB lHB bHW lHW
          refine (toSave_any _ _ _ _ _ _ _ HLHA.out HA.out.row hn).mono ?_
          rintro e w6 ⟨g7, rfl, ho, hk⟩
          obtain ⟨loHX, hiHX, hx, qHX, rHX, sHX⟩ : ∃ lo hi, SvV w w6.heap.size a1f0 a1f2 (some ⟨g7, 0, none⟩) n1f1 n1f1 p1f1 lo hi (w6.alloc (.cells #[.int .i64 a1f0, .slice (some ⟨g7, 0, none⟩) n1f1 n1f1, .int .i64 a1f2] 49)) ∧ hiHY ≤ lo ∧ lo ≤ hi ∧ hi ≤ w6.heap.size := ⟨_, _, SvV.start HA.out.2.2.2 HLHA.out ho hk, hp, hk.size, Nat.le_refl _⟩
          replace HA := Lib.hid (HA.out.keep hk)
          replace HB := Lib.hid (HB.out.keep hk)
          replace HD := Lib.hid (HD.out.keep hk)
          replace HW := Lib.hid (HW.out.keep hk)
          replace HY := Lib.hid (HY.out.keep hk)
          obtain ⟨bHA, cHA, dHA⟩ := HA.out.cells
          have lHA := HA.out.1.lt
          obtain ⟨bHB, cHB, dHB⟩ := HB.out.cells
          have lHB := HB.out.1.lt
          have bHW := HW.out.cell
          have lHW := HW.out.2.1.lt
          replace HA := Lib.hid (HA.out.keep (grown_alloc (grown_refl w6 none) (.cells #[.int .i64 a1f0, .slice (some ⟨g7, 0, none⟩) n1f1 n1f1, .int .i64 a1f2] 49)))
          replace HB := Lib.hid (HB.out.keep (grown_alloc (grown_refl w6 none) (.cells #[.int .i64 a1f0, .slice (some ⟨g7, 0, none⟩) n1f1 n1f1, .int .i64 a1f2] 49)))
          replace HD := Lib.hid (HD.out.keep (grown_alloc (grown_refl w6 none) (.cells #[.int .i64 a1f0, .slice (some ⟨g7, 0, none⟩) n1f1 n1f1, .int .i64 a1f2] 49)))
          replace HW := Lib.hid (HW.out.keep (grown_alloc (grown_refl w6 none) (.cells #[.int .i64 a1f0, .slice (some ⟨g7, 0, none⟩) n1f1 n1f1, .int .i64 a1f2] 49)))
          replace HY := Lib.hid (HY.out.keep (grown_alloc (grown_refl w6 none) (.cells #[.int .i64 a1f0, .slice (some ⟨g7, 0, none⟩) n1f1 n1f1, .int .i64 a1f2] 49)))
          have HX := Lib.hid hx
          clear hk ho hx hp
          go_wp2_with fail
          have hp := HX.out.1.lt
          clear bHA cHA dHA lHA bHB cHB dHB lHB bHW lHW
          refine (toSave_any _ _ _ _ _ _ _ HLHB.out HB.out.row hn2).mono ?_
          rintro e w7 ⟨g8, rfl, ho, hk⟩
          obtain ⟨loHQ, hiHQ, hx, qHQ, rHQ, sHQ⟩ : ∃ lo hi, SvV w w7.heap.size a2f0 a2f2 (some ⟨g8, 0, none⟩) n2f1 n2f1 p2f1 lo hi (w7.alloc (.cells #[.int .i64 a2f0, .slice (some ⟨g8, 0, none⟩) n2f1 n2f1, .int .i64 a2f2] 49)) ∧ w6.heap.size < lo ∧ lo ≤ hi ∧ hi ≤ w7.heap.size := ⟨_, _, SvV.start HA.out.2.2.2 HLHB.out ho hk, hp, hk.size, Nat.le_refl _⟩
          replace HA := Lib.hid (HA.out.keep hk)
          replace HB := Lib.hid (HB.out.keep hk)
          replace HD := Lib.hid (HD.out.keep hk)
          replace HW := Lib.hid (HW.out.keep hk)
          replace HY := Lib.hid (HY.out.keep hk)
          replace HX := Lib.hid (HX.out.keep hk)
          obtain ⟨bHA, cHA, dHA⟩ := HA.out.cells
          have lHA := HA.out.1.lt
          obtain ⟨bHB, cHB, dHB⟩ := HB.out.cells
          have lHB := HB.out.1.lt
          obtain ⟨bHX, cHX, dHX⟩ := HX.out.cells
          have lHX := HX.out.1.lt
          have bHW := HW.out.cell
          have lHW := HW.out.2.1.lt
          replace HA := Lib.hid (HA.out.keep (grown_alloc (grown_refl w7 none) (.cells #[.int .i64 a2f0, .slice (some ⟨g8, 0, none⟩) n2f1 n2f1, .int .i64 a2f2] 49)))
          replace HB := Lib.hid (HB.out.keep (grown_alloc (grown_refl w7 none) (.cells #[.int .i64 a2f0, .slice (some ⟨g8, 0, none⟩) n2f1 n2f1, .int .i64 a2f2] 49)))
          replace HD := Lib.hid (HD.out.keep (grown_alloc (grown_refl w7 none) (.cells #[.int .i64 a2f0, .slice (some ⟨g8, 0, none⟩) n2f1 n2f1, .int .i64 a2f2] 49)))
          replace HW := Lib.hid (HW.out.keep (grown_alloc (grown_refl w7 none) (.cells #[.int .i64 a2f0, .slice (some ⟨g8, 0, none⟩) n2f1 n2f1, .int .i64 a2f2] 49)))
          replace HY := Lib.hid (HY.out.keep (grown_alloc (grown_refl w7 none) (.cells #[.int .i64 a2f0, .slice (some ⟨g8, 0, none⟩) n2f1 n2f1, .int .i64 a2f2] 49)))
          replace HX := Lib.hid (HX.out.keep (grown_alloc (grown_refl w7 none) (.cells #[.int .i64 a2f0, .slice (some ⟨g8, 0, none⟩) n2f1 n2f1, .int .i64 a2f2] 49)))
          have HQ := Lib.hid hx
          clear hk ho hx hp
          go_wp2_with fail
          have hp := HQ.out.1.lt
          clear bHA cHA dHA lHA bHB cHB dHB lHB bHX cHX dHX lHX bHW lHW
          refine ((mount_val HI.out.1 (show mountV cs6 T0 ok a3 = (T, r) by rw [mountV_is SHY.out]; exact HI.out.2.1) HY.out.2.1 HY.out.row hnd (small_is SHY.out HP.out.1) HX.out.2.1.2.1 HX.out.row hn HQ.out.2.1.2.1 HQ.out.row hn2).mono fun _ _ q => TabMade2.to q HI.out.2.2).mono ?_
          rintro e w8 ⟨A9, c9, cs9, rfl, hl, hs, ho, hk⟩
          obtain ⟨loHG, hiHG, hx, qHG, rHG, sHG⟩ : ∃ lo hi, VT w w8.heap.size A9 n1 c9 cs9 lo hi (w8.alloc (.cells #[.slice A9 n1 c9] 40)) ∧ w7.heap.size < lo ∧ lo ≤ hi ∧ hi ≤ w8.heap.size := ⟨_, _, VT.start HA.out.2.2.2 hl ho hk, hp, hk.size, Nat.le_refl _⟩
          replace HA := Lib.hid (HA.out.keep hk)
          replace HB := Lib.hid (HB.out.keep hk)
          replace HD := Lib.hid (HD.out.keep hk)
          replace HW := Lib.hid (HW.out.keep hk)
          replace HY := Lib.hid (HY.out.keep hk)
          replace HX := Lib.hid (HX.out.keep hk)
          replace HQ := Lib.hid (HQ.out.keep hk)
          obtain ⟨bHA, cHA, dHA⟩ := HA.out.cells
          have lHA := HA.out.1.lt
          obtain ⟨bHB, cHB, dHB⟩ := HB.out.cells
          have lHB := HB.out.1.lt
          obtain ⟨bHX, cHX, dHX⟩ := HX.out.cells
          have lHX := HX.out.1.lt
          obtain ⟨bHQ, cHQ, dHQ⟩ := HQ.out.cells
          have lHQ := HQ.out.1.lt
          have bHW := HW.out.cell
          have lHW := HW.out.2.1.lt
          replace HA := Lib.hid (HA.out.keep (grown_alloc (grown_refl w8 none) (.cells #[.slice A9 n1 c9] 40)))
          replace HB := Lib.hid (HB.out.keep (grown_alloc (grown_refl w8 none) (.cells #[.slice A9 n1 c9] 40)))
          replace HD := Lib.hid (HD.out.keep (grown_alloc (grown_refl w8 none) (.cells #[.slice A9 n1 c9] 40)))
          replace HW := Lib.hid (HW.out.keep (grown_alloc (grown_refl w8 none) (.cells #[.slice A9 n1 c9] 40)))
          replace HY := Lib.hid (HY.out.keep (grown_alloc (grown_refl w8 none) (.cells #[.slice A9 n1 c9] 40)))
          replace HX := Lib.hid (HX.out.keep (grown_alloc (grown_refl w8 none) (.cells #[.slice A9 n1 c9] 40)))
          replace HQ := Lib.hid (HQ.out.keep (grown_alloc (grown_refl w8 none) (.cells #[.slice A9 n1 c9] 40)))
          have HG := Lib.hid hx
          have SHG := Lib.hid hs
          clear hk hl hs ho hx hp
          go_wp2_with fail
          clear bHA cHA dHA lHA bHB cHB dHB lHB bHX cHX dHX lHX bHQ cHQ dHQ lHQ bHW lHW
          refine (eqTable_same _ _ _ _ _ _ _ _ HG.out.2.2.1 (SHG.out.trans SHW.out.symm) HG.out.row HW.out.row hn1 (by rw [SHG.out]; exact HT.out)).mono ?_
          rintro e w9 ⟨rfl, hk⟩
          replace HA := Lib.hid (HA.out.keep hk)
          replace HB := Lib.hid (HB.out.keep hk)
          replace HD := Lib.hid (HD.out.keep hk)
          replace HW := Lib.hid (HW.out.keep hk)
          replace HY := Lib.hid (HY.out.keep hk)
          replace HX := Lib.hid (HX.out.keep hk)
          replace HQ := Lib.hid (HQ.out.keep hk)
          replace HG := Lib.hid (HG.out.keep hk)
          clear hk
          obtain ⟨bHA, cHA, dHA⟩ := HA.out.cells
          have lHA := HA.out.1.lt
          obtain ⟨bHB, cHB, dHB⟩ := HB.out.cells
          have lHB := HB.out.1.lt
          obtain ⟨bHX, cHX, dHX⟩ := HX.out.cells
          have lHX := HX.out.1.lt
          obtain ⟨bHQ, cHQ, dHQ⟩ := HQ.out.cells
          have lHQ := HQ.out.1.lt
          have bHG := HG.out.cell
          have lHG := HG.out.1.lt
          have bHW := HW.out.cell
          have lHW := HW.out.2.1.lt
          go_wp2_with fail
          clear bHA cHA dHA lHA bHB cHB dHB lHB bHX cHX dHX lHX bHQ cHQ dHQ lHQ bHG lHG bHW lHW
          refine (toBlockS_any _ _ _ _ _ HL.out HD.out.row hnd HP.out.1).mono ?_
          rintro e w10 ⟨A10, c10, cs10, rfl, hl, hs, ho, hk⟩
          replace HA := Lib.hid (HA.out.keep hk)
          replace HB := Lib.hid (HB.out.keep hk)
          replace HD := Lib.hid (HD.out.keep hk)
          replace HW := Lib.hid (HW.out.keep hk)
          replace HY := Lib.hid (HY.out.keep hk)
          replace HX := Lib.hid (HX.out.keep hk)
          replace HQ := Lib.hid (HQ.out.keep hk)
          replace HG := Lib.hid (HG.out.keep hk)
          have HR10 := Lib.hid (And.intro hl (And.intro hs ho.row))
          clear hk hl hs ho
          obtain ⟨bHA, cHA, dHA⟩ := HA.out.cells
          have lHA := HA.out.1.lt
          obtain ⟨bHB, cHB, dHB⟩ := HB.out.cells
          have lHB := HB.out.1.lt
          obtain ⟨bHX, cHX, dHX⟩ := HX.out.cells
          have lHX := HX.out.1.lt
          obtain ⟨bHQ, cHQ, dHQ⟩ := HQ.out.cells
          have lHQ := HQ.out.1.lt
          have bHG := HG.out.cell
          have lHG := HG.out.1.lt
          have bHW := HW.out.cell
          have lHW := HW.out.2.1.lt
          go_wp2_with fail
          clear bHA cHA dHA lHA bHB cHB dHB lHB bHX cHX dHX lHX bHQ cHQ dHQ lHQ bHG lHG bHW lHW
          refine (eqBlockS_same _ _ _ _ _ _ _ _ HY.out.2.1 (SHY.out.trans HR10.out.2.1.symm) HY.out.row HR10.out.2.2 hnd (small_is SHY.out HP.out.1)).mono ?_
          rintro e w11 ⟨rfl, hk⟩
          replace HA := Lib.hid (HA.out.keep hk)
          replace HB := Lib.hid (HB.out.keep hk)
          replace HD := Lib.hid (HD.out.keep hk)
          replace HW := Lib.hid (HW.out.keep hk)
          replace HY := Lib.hid (HY.out.keep hk)
          replace HX := Lib.hid (HX.out.keep hk)
          replace HQ := Lib.hid (HQ.out.keep hk)
          replace HG := Lib.hid (HG.out.keep hk)
          clear hk
          obtain ⟨bHA, cHA, dHA⟩ := HA.out.cells
          have lHA := HA.out.1.lt
          obtain ⟨bHB, cHB, dHB⟩ := HB.out.cells
          have lHB := HB.out.1.lt
          obtain ⟨bHX, cHX, dHX⟩ := HX.out.cells
          have lHX := HX.out.1.lt
          obtain ⟨bHQ, cHQ, dHQ⟩ := HQ.out.cells
          have lHQ := HQ.out.1.lt
          have bHG := HG.out.cell
          have lHG := HG.out.1.lt
          have bHW := HW.out.cell
          have lHW := HW.out.2.1.lt
          go_wp2_with fail
          refine wp_region_held_drew (S := (fun w' => w'.cell? ⟨w6.heap.size, 0, none⟩ = some (.int .i64 a1f0) ∧ w'.cell? ⟨w6.heap.size, 1, none⟩ = some (.slice (some ⟨g7, 0, none⟩) n1f1 n1f1) ∧ w'.cell? ⟨w6.heap.size, 2, none⟩ = some (.int .i64 a1f2) ∧ w'.cell? ⟨w.heap.size, 0, none⟩ = some (.int .i64 a1f0) ∧ w'.cell? ⟨w.heap.size, 1, none⟩ = some (.slice a1f1 n1f1 c1f1) ∧ w'.cell? ⟨w.heap.size, 2, none⟩ = some (.int .i64 a1f2))) (by kernel_rfl) ?_ (fun hHeld => ?_)
          · exact ⟨bHX, cHX, dHX, bHA, cHA, dHA⟩
          replace HA := Lib.hid (HA.out.keep (grown_drew (grown_refl _ none)))
          replace HB := Lib.hid (HB.out.keep (grown_drew (grown_refl _ none)))
          replace HD := Lib.hid (HD.out.keep (grown_drew (grown_refl _ none)))
          replace HW := Lib.hid (HW.out.keep (grown_drew (grown_refl _ none)))
          replace HY := Lib.hid (HY.out.keep (grown_drew (grown_refl _ none)))
          replace HX := Lib.hid (HX.out.keep (grown_drew (grown_refl _ none)))
          replace HQ := Lib.hid (HQ.out.keep (grown_drew (grown_refl _ none)))
          replace HG := Lib.hid (HG.out.keep (grown_drew (grown_refl _ none)))
          refine heldY 0 76 ?_
          refine heldY 1 77 ?_
          refine wpAnyH_ready (rs := [2]) (by kernel_rfl) (by simp) ?_
          refine AllReadyH.cons rfl (fun K hK => ?_) AllReadyH.nil
          go_simp
          go_at_call 46
          clear bHA cHA dHA lHA bHB cHB dHB lHB bHX cHX dHX lHX bHQ cHQ dHQ lHQ bHG lHG bHW lHW
          refine (toSave_any _ _ _ _ _ _ _ HLHA.out HA.out.row hn).mono ?_
          rintro e w12 ⟨g11, rfl, ho, hk⟩
          replace HA := Lib.hid (HA.out.keep hk)
          replace HB := Lib.hid (HB.out.keep hk)
          replace HD := Lib.hid (HD.out.keep hk)
          replace HW := Lib.hid (HW.out.keep hk)
          replace HY := Lib.hid (HY.out.keep hk)
          replace HX := Lib.hid (HX.out.keep hk)
          replace HQ := Lib.hid (HQ.out.keep hk)
          replace HG := Lib.hid (HG.out.keep hk)
          have HR11 := Lib.hid (VOwn.row ho)
          clear hk ho
          obtain ⟨bHA, cHA, dHA⟩ := HA.out.cells
          have lHA := HA.out.1.lt
          obtain ⟨bHB, cHB, dHB⟩ := HB.out.cells
          have lHB := HB.out.1.lt
          obtain ⟨bHX, cHX, dHX⟩ := HX.out.cells
          have lHX := HX.out.1.lt
          obtain ⟨bHQ, cHQ, dHQ⟩ := HQ.out.cells
          have lHQ := HQ.out.1.lt
          have bHG := HG.out.cell
          have lHG := HG.out.1.lt
          have bHW := HW.out.cell
          have lHW := HW.out.2.1.lt
          refine hK.out _ _ ?_ (fun hHeld => ?_)
          · exact ⟨bHX, cHX, dHX, bHA, cHA, dHA⟩
          clear hK K
          try simp only [Act.put, List.setIfInBounds_toArray, List.set_cons_zero, List.set_cons_succ]
          refine wpAnyH_ready (rs := [3]) (by kernel_rfl) (by simp) ?_
          refine AllReadyH.cons rfl (fun K hK => ?_) AllReadyH.nil
          go_simp
          go_at_call 47
          clear bHA cHA dHA lHA bHB cHB dHB lHB bHX cHX dHX lHX bHQ cHQ dHQ lHQ bHG lHG bHW lHW
          refine (eqSave_same _ _ _ _ _ _ _ _ _ HX.out.2.1.2.1 HX.out.row HR11.out hn).mono ?_
          rintro e w13 ⟨rfl, hk⟩
          replace HA := Lib.hid (HA.out.keep hk)
          replace HB := Lib.hid (HB.out.keep hk)
          replace HD := Lib.hid (HD.out.keep hk)
          replace HW := Lib.hid (HW.out.keep hk)
          replace HY := Lib.hid (HY.out.keep hk)
          replace HX := Lib.hid (HX.out.keep hk)
          replace HQ := Lib.hid (HQ.out.keep hk)
          replace HG := Lib.hid (HG.out.keep hk)
          clear hk
          obtain ⟨bHA, cHA, dHA⟩ := HA.out.cells
          have lHA := HA.out.1.lt
          obtain ⟨bHB, cHB, dHB⟩ := HB.out.cells
          have lHB := HB.out.1.lt
          obtain ⟨bHX, cHX, dHX⟩ := HX.out.cells
          have lHX := HX.out.1.lt
          obtain ⟨bHQ, cHQ, dHQ⟩ := HQ.out.cells
          have lHQ := HQ.out.1.lt
          have bHG := HG.out.cell
          have lHG := HG.out.1.lt
          have bHW := HW.out.cell
          have lHW := HW.out.2.1.lt
          refine hK.out _ _ ?_ (fun hHeld => ?_)
          · exact ⟨bHX, cHX, dHX, bHA, cHA, dHA⟩
          clear hK K
          try simp only [Act.put, List.setIfInBounds_toArray, List.set_cons_zero, List.set_cons_succ]
          refine heldY 4 80 ?_
          refine wpAnyH_done (by kernel_rfl) ?_ _
          go_wp2_with fail
          refine wp_region_held_drew (S := (fun w' => w'.cell? ⟨w7.heap.size, 0, none⟩ = some (.int .i64 a2f0) ∧ w'.cell? ⟨w7.heap.size, 1, none⟩ = some (.slice (some ⟨g8, 0, none⟩) n2f1 n2f1) ∧ w'.cell? ⟨w7.heap.size, 2, none⟩ = some (.int .i64 a2f2) ∧ w'.cell? ⟨w.heap.size + 1, 0, none⟩ = some (.int .i64 a2f0) ∧ w'.cell? ⟨w.heap.size + 1, 1, none⟩ = some (.slice a2f1 n2f1 c2f1) ∧ w'.cell? ⟨w.heap.size + 1, 2, none⟩ = some (.int .i64 a2f2))) (by kernel_rfl) ?_ (fun hHeld => ?_)
          · exact ⟨bHQ, cHQ, dHQ, bHB, cHB, dHB⟩
          replace HA := Lib.hid (HA.out.keep (grown_drew (grown_refl _ none)))
          replace HB := Lib.hid (HB.out.keep (grown_drew (grown_refl _ none)))
          replace HD := Lib.hid (HD.out.keep (grown_drew (grown_refl _ none)))
          replace HW := Lib.hid (HW.out.keep (grown_drew (grown_refl _ none)))
          replace HY := Lib.hid (HY.out.keep (grown_drew (grown_refl _ none)))
          replace HX := Lib.hid (HX.out.keep (grown_drew (grown_refl _ none)))
          replace HQ := Lib.hid (HQ.out.keep (grown_drew (grown_refl _ none)))
          replace HG := Lib.hid (HG.out.keep (grown_drew (grown_refl _ none)))
          refine heldY 0 81 ?_
          refine heldY 1 82 ?_
          refine wpAnyH_ready (rs := [2]) (by kernel_rfl) (by simp) ?_
          refine AllReadyH.cons rfl (fun K hK => ?_) AllReadyH.nil
          go_simp
          go_at_call 46
          clear bHA cHA dHA lHA bHB cHB dHB lHB bHX cHX dHX lHX bHQ cHQ dHQ lHQ bHG lHG bHW lHW
          refine (toSave_any _ _ _ _ _ _ _ HLHB.out HB.out.row hn2).mono ?_
          rintro e w14 ⟨g12, rfl, ho, hk⟩
          replace HA := Lib.hid (HA.out.keep hk)
          replace HB := Lib.hid (HB.out.keep hk)
          replace HD := Lib.hid (HD.out.keep hk)
          replace HW := Lib.hid (HW.out.keep hk)
          replace HY := Lib.hid (HY.out.keep hk)
          replace HX := Lib.hid (HX.out.keep hk)
          replace HQ := Lib.hid (HQ.out.keep hk)
          replace HG := Lib.hid (HG.out.keep hk)
          have HR12 := Lib.hid (VOwn.row ho)
          clear hk ho
          obtain ⟨bHA, cHA, dHA⟩ := HA.out.cells
          have lHA := HA.out.1.lt
          obtain ⟨bHB, cHB, dHB⟩ := HB.out.cells
          have lHB := HB.out.1.lt
          obtain ⟨bHX, cHX, dHX⟩ := HX.out.cells
          have lHX := HX.out.1.lt
          obtain ⟨bHQ, cHQ, dHQ⟩ := HQ.out.cells
          have lHQ := HQ.out.1.lt
          have bHG := HG.out.cell
          have lHG := HG.out.1.lt
          have bHW := HW.out.cell
          have lHW := HW.out.2.1.lt
          refine hK.out _ _ ?_ (fun hHeld => ?_)
          · exact ⟨bHQ, cHQ, dHQ, bHB, cHB, dHB⟩
          clear hK K
          try simp only [Act.put, List.setIfInBounds_toArray, List.set_cons_zero, List.set_cons_succ]
          refine wpAnyH_ready (rs := [3]) (by kernel_rfl) (by simp) ?_
          refine AllReadyH.cons rfl (fun K hK => ?_) AllReadyH.nil
          go_simp
          go_at_call 47
          clear bHA cHA dHA lHA bHB cHB dHB lHB bHX cHX dHX lHX bHQ cHQ dHQ lHQ bHG lHG bHW lHW
          refine (eqSave_same _ _ _ _ _ _ _ _ _ HQ.out.2.1.2.1 HQ.out.row HR12.out hn2).mono ?_
          rintro e w15 ⟨rfl, hk⟩
          replace HA := Lib.hid (HA.out.keep hk)
          replace HB := Lib.hid (HB.out.keep hk)
          replace HD := Lib.hid (HD.out.keep hk)
          replace HW := Lib.hid (HW.out.keep hk)
          replace HY := Lib.hid (HY.out.keep hk)
          replace HX := Lib.hid (HX.out.keep hk)
          replace HQ := Lib.hid (HQ.out.keep hk)
          replace HG := Lib.hid (HG.out.keep hk)
          clear hk
          obtain ⟨bHA, cHA, dHA⟩ := HA.out.cells
          have lHA := HA.out.1.lt
          obtain ⟨bHB, cHB, dHB⟩ := HB.out.cells
          have lHB := HB.out.1.lt
          obtain ⟨bHX, cHX, dHX⟩ := HX.out.cells
          have lHX := HX.out.1.lt
          obtain ⟨bHQ, cHQ, dHQ⟩ := HQ.out.cells
          have lHQ := HQ.out.1.lt
          have bHG := HG.out.cell
          have lHG := HG.out.1.lt
          have bHW := HW.out.cell
          have lHW := HW.out.2.1.lt
          refine hK.out _ _ ?_ (fun hHeld => ?_)
          · exact ⟨bHQ, cHQ, dHQ, bHB, cHB, dHB⟩
          clear hK K
          try simp only [Act.put, List.setIfInBounds_toArray, List.set_cons_zero, List.set_cons_succ]
          refine heldY 4 85 ?_
          refine wpAnyH_done (by kernel_rfl) ?_ _
          go_wp2_with fail
          clear bHA cHA dHA lHA bHB cHB dHB lHB bHX cHX dHX lHX bHQ cHQ dHQ lHQ bHG lHG bHW lHW
          have HEY := Lib.hid (show endK 1 cs6 ≤ 7000000 by have := THY.out; have := HY.out.2.1; simp only [endK]; omega)
          refine (markBlockS_val rfl HY.out hnd THY.out).mono ?_
          rintro e w16 ⟨rfl, ho, hk⟩
          have hxlo := HY.out.2.2.2.2.2.1
          replace HA := Lib.hid (HA.out.marked hxlo (by omega) hk)
          replace HB := Lib.hid (HB.out.marked hxlo (by omega) hk)
          replace HD := Lib.hid (HD.out.marked hxlo hk)
          replace HW := Lib.hid (HW.out.marked (by omega) hxlo hk)
          replace HX := Lib.hid (HX.out.marked (by omega) hxlo hk)
          replace HQ := Lib.hid (HQ.out.marked (by omega) hxlo hk)
          replace HG := Lib.hid (HG.out.marked (by omega) hxlo hk)
          clear ho hk hxlo
          obtain ⟨bHA, cHA, dHA⟩ := HA.out.cells
          have lHA := HA.out.1.lt
          obtain ⟨bHB, cHB, dHB⟩ := HB.out.cells
          have lHB := HB.out.1.lt
          obtain ⟨bHX, cHX, dHX⟩ := HX.out.cells
          have lHX := HX.out.1.lt
          obtain ⟨bHQ, cHQ, dHQ⟩ := HQ.out.cells
          have lHQ := HQ.out.1.lt
          have bHG := HG.out.cell
          have lHG := HG.out.1.lt
          have bHW := HW.out.cell
          have lHW := HW.out.2.1.lt
          obtain ⟨KX, hKX⟩ : ∃ K, K = endK 1 cs6 + n1f1 := ⟨_, rfl⟩
          obtain ⟨KY, hKY⟩ : ∃ K, K = KX + n2f1 := ⟨_, rfl⟩
          have tKY : decide ((KY : Int) < 0) = false := decide_eq_false (by omega)
          have hK7 : endK 1 cs6 ≤ 50000000 := by have := HEY.out; omega
          have hKX7 : KX ≤ 50000000 := by have := HEY.out; omega
          have HKX := Lib.hid (And.intro hKX hKY)
          clear hKX hKY
          go_wp2_with fail
          clear bHA cHA dHA lHA bHB cHB dHB lHB bHX cHX dHX lHX bHQ cHQ dHQ lHQ bHG lHG bHW lHW
          refine (markSave_wide hK7 HKX.out.1 HX.out hn).mono ?_
          rintro e w17 ⟨rfl, hk⟩
          have hxlo := HX.out.2.1.2.2.2.2.1
          replace HA := Lib.hid (HA.out.marked hxlo (by omega) hk)
          replace HB := Lib.hid (HB.out.marked hxlo (by omega) hk)
          replace HD := Lib.hid (HD.out.marked hxlo hk)
          replace HW := Lib.hid (HW.out.marked (by omega) hxlo hk)
          replace HQ := Lib.hid (HQ.out.marked (by omega) hxlo hk)
          replace HG := Lib.hid (HG.out.marked (by omega) hxlo hk)
          clear hk hxlo HX
          obtain ⟨bHA, cHA, dHA⟩ := HA.out.cells
          have lHA := HA.out.1.lt
          obtain ⟨bHB, cHB, dHB⟩ := HB.out.cells
          have lHB := HB.out.1.lt
          obtain ⟨bHQ, cHQ, dHQ⟩ := HQ.out.cells
          have lHQ := HQ.out.1.lt
          have bHG := HG.out.cell
          have lHG := HG.out.1.lt
          have bHW := HW.out.cell
          have lHW := HW.out.2.1.lt
          go_wp2_with fail
          clear bHA cHA dHA lHA bHB cHB dHB lHB bHQ cHQ dHQ lHQ bHG lHG bHW lHW
          refine (markSave_wide hKX7 HKX.out.2 HQ.out hn2).mono ?_
          rintro e w18 ⟨rfl, hk⟩
          have hxlo := HQ.out.2.1.2.2.2.2.1
          replace HA := Lib.hid (HA.out.marked hxlo (by omega) hk)
          replace HB := Lib.hid (HB.out.marked hxlo (by omega) hk)
          replace HD := Lib.hid (HD.out.marked hxlo hk)
          replace HW := Lib.hid (HW.out.marked (by omega) hxlo hk)
          replace HG := Lib.hid (HG.out.marked (by omega) hxlo hk)
          clear hk hxlo HQ
          obtain ⟨bHA, cHA, dHA⟩ := HA.out.cells
          have lHA := HA.out.1.lt
          obtain ⟨bHB, cHB, dHB⟩ := HB.out.cells
          have lHB := HB.out.1.lt
          have bHG := HG.out.cell
          have lHG := HG.out.1.lt
          have bHW := HW.out.cell
          have lHW := HW.out.2.1.lt
          go_wp2_with fail
          clear bHA cHA dHA lHA bHB cHB dHB lHB bHG lHG bHW lHW
          refine (eqTable_same _ _ _ _ _ _ _ _ HG.out.2.2.1 (SHG.out.trans SHW.out.symm) HG.out.row HW.out.row hn1 (by rw [SHG.out]; exact HT.out)).mono ?_
          rintro e w19 ⟨rfl, hk⟩
          replace HA := Lib.hid (HA.out.keep hk)
          replace HB := Lib.hid (HB.out.keep hk)
          replace HD := Lib.hid (HD.out.keep hk)
          replace HW := Lib.hid (HW.out.keep hk)
          replace HG := Lib.hid (HG.out.keep hk)
          clear hk
          obtain ⟨bHA, cHA, dHA⟩ := HA.out.cells
          have lHA := HA.out.1.lt
          obtain ⟨bHB, cHB, dHB⟩ := HB.out.cells
          have lHB := HB.out.1.lt
          have bHG := HG.out.cell
          have lHG := HG.out.1.lt
          have bHW := HW.out.cell
          have lHW := HW.out.2.1.lt
          go_wp2_with fail
          have MHG := Lib.hid (show ltot (ll cs9) ≤ 1048576 by rw [SHG.out]; exact HT.out)
          obtain ⟨vG, hvG⟩ : ∃ v : Int, v = ((lend 1 cs9 : Nat) : Int) := ⟨_, rfl⟩
          have tG : decide (vG < 0) = false := decide_eq_false (by omega)
          have HVG := Lib.hid (And.intro hvG tG)
          clear hvG
          clear bHA cHA dHA lHA bHB cHB dHB lHB bHG lHG bHW lHW
          refine (markTable_val HVG.out.1 HG.out hn1 MHG.out).mono ?_
          rintro e w20 ⟨rfl, ho, hk⟩
          have hxlo := HG.out.2.2.2.2.2.2.1
          replace HA := Lib.hid (HA.out.marked hxlo (by omega) hk)
          replace HB := Lib.hid (HB.out.marked hxlo (by omega) hk)
          replace HD := Lib.hid (HD.out.marked hxlo hk)
          replace HW := Lib.hid (HW.out.marked (by omega) hxlo hk)
          have LHG := Lib.hid HG.out.2.2.1
          replace HG := Lib.hid (HG.out.self ho hk)
          clear ho hk hxlo
          obtain ⟨bHA, cHA, dHA⟩ := HA.out.cells
          have lHA := HA.out.1.lt
          obtain ⟨bHB, cHB, dHB⟩ := HB.out.cells
          have lHB := HB.out.1.lt
          have bHG := HG.out.cell
          have lHG := HG.out.1.lt
          have bHW := HW.out.cell
          have lHW := HW.out.2.1.lt
          go_wp2_with fail
          clear bHA cHA dHA lHA bHB cHB dHB lHB bHG lHG bHW lHW
          refine (heldTable_val HVG.out.1 HVG.out.2 LHG.out HG.out hn1 MHG.out).mono ?_
          rintro e w21 ⟨rfl, hk⟩
          replace HA := Lib.hid (HA.out.keep hk)
          replace HB := Lib.hid (HB.out.keep hk)
          replace HD := Lib.hid (HD.out.keep hk)
          replace HW := Lib.hid (HW.out.keep hk)
          replace HG := Lib.hid (HG.out.keep hk)
          clear hk
          obtain ⟨bHA, cHA, dHA⟩ := HA.out.cells
          have lHA := HA.out.1.lt
          obtain ⟨bHB, cHB, dHB⟩ := HB.out.cells
          have lHB := HB.out.1.lt
          have bHG := HG.out.cell
          have lHG := HG.out.1.lt
          have bHW := HW.out.cell
          have lHW := HW.out.2.1.lt
          have HB0 := Lib.hid (And.intro HA.out.1 HB.out.1)
          go_wp2_with fail
          clear bHA cHA dHA lHA bHB cHB dHB lHB bHG lHG bHW lHW
          apply mrg
          intro key9
          apply mrg
          intro key8
          apply mrg
          intro key7
          apply mrg
          intro key6
          apply mrg
          intro key5
          apply mrg
          intro key4
          apply mrg
          intro key3
          apply mrg
          intro key2
          apply mrg
          intro key1
          apply mrg
          intro key0
          · have HN := Lib.hid (MS.start w21 b0 n0 p1f1 p2f1 n1 T)
            refine wp_region_held_drew (S := (fun w' => w'.cell? ⟨w.heap.size, 0, none⟩ = some (.int .i64 a1f0) ∧ w'.cell? ⟨w.heap.size, 1, none⟩ = some (.slice a1f1 n1f1 c1f1) ∧ w'.cell? ⟨w.heap.size, 2, none⟩ = some (.int .i64 a1f2) ∧ w'.cell? ⟨w.heap.size + 1, 0, none⟩ = some (.int .i64 a2f0) ∧ w'.cell? ⟨w.heap.size + 1, 1, none⟩ = some (.slice a2f1 n2f1 c2f1) ∧ w'.cell? ⟨w.heap.size + 1, 2, none⟩ = some (.int .i64 a2f2))) (by kernel_rfl) ?_ (fun hHeld => ?_)
            · exact ⟨(HB0.out.1.keep HN.out.1).cell 0, (HB0.out.1.keep HN.out.1).cell 1, (HB0.out.1.keep HN.out.1).cell 2, (HB0.out.2.keep HN.out.1).cell 0, (HB0.out.2.keep HN.out.1).cell 1, (HB0.out.2.keep HN.out.1).cell 2⟩
            replace HN := Lib.hid (HN.out.keep (grown_drew (grown_refl _ none)))
            refine heldY 0 120 ?_
            refine heldY 2 122 ?_
            refine heldY 4 124 ?_
            refine heldY 6 126 ?_
            generalize World.drew _ = wn at HN hHeld ⊢
            revert hHeld
            revert HN
            revert wn
            exact key0.out
          · intro wz  HF hHeld
            refine wpAnyH_ready (rs := [1, 11]) (by kernel_rfl) (by simp) ?_
            refine AllReadyH.cons rfl (fun K hK => ?_) (AllReadyH.cons rfl (fun K hK => ?_) AllReadyH.nil)
            · go_simp
              go_at_call 34
              refine (toBlockS_any _ _ _ _ _ HL.out (HD.out.keep HF.out.1).row hnd HP.out.1).mono ?_
              rintro e wn ⟨A2h, c2h, cs2h, rfl, hl, hs, ho, hk⟩
              have HN := Lib.hid (HF.out.one hl hs ho hk)
              clear HF hHeld hl hs ho hk
              refine hK.out _ _ ?_ (fun hHeld => ?_)
              · exact ⟨(HB0.out.1.keep HN.out.1).cell 0, (HB0.out.1.keep HN.out.1).cell 1, (HB0.out.1.keep HN.out.1).cell 2, (HB0.out.2.keep HN.out.1).cell 0, (HB0.out.2.keep HN.out.1).cell 1, (HB0.out.2.keep HN.out.1).cell 2⟩
              clear hK K
              try simp only [Act.put, List.setIfInBounds_toArray, List.set_cons_zero, List.set_cons_succ]
              revert hHeld
              revert HN
              revert cs2h
              revert c2h
              revert A2h
              revert wn
              exact key2.out
            · go_simp
              have HN := Lib.hid HF.out.allT
              clear HF hHeld
              refine hK.out _ _ ?_ (fun hHeld => ?_)
              · exact ⟨(HB0.out.1.keep HN.out.1).cell 0, (HB0.out.1.keep HN.out.1).cell 1, (HB0.out.1.keep HN.out.1).cell 2, (HB0.out.2.keep HN.out.1).cell 0, (HB0.out.2.keep HN.out.1).cell 1, (HB0.out.2.keep HN.out.1).cell 2⟩
              clear hK K
              try simp only [Act.put, List.setIfInBounds_toArray, List.set_cons_zero, List.set_cons_succ]
              generalize wz.heap.size = Vh at HN ⊢
              generalize World.alloc wz _ = wn at HN hHeld ⊢
              revert hHeld
              revert HN
              revert Vh
              revert wn
              exact key1.out
          · intro wz Vh HF hHeld
            refine wpAnyH_ready (rs := [1]) (by kernel_rfl) (by simp) ?_
            refine AllReadyH.cons rfl (fun K hK => ?_) AllReadyH.nil
            go_simp
            go_at_call 34
            refine (toBlockS_any _ _ _ _ _ HL.out (HD.out.keep HF.out.1).row hnd HP.out.1).mono ?_
            rintro e wn ⟨A2h, c2h, cs2h, rfl, hl, hs, ho, hk⟩
            have HN := Lib.hid (HF.out.one hl hs ho hk)
            clear HF hHeld hl hs ho hk
            refine hK.out _ _ ?_ (fun hHeld => ?_)
            · exact ⟨(HB0.out.1.keep HN.out.1).cell 0, (HB0.out.1.keep HN.out.1).cell 1, (HB0.out.1.keep HN.out.1).cell 2, (HB0.out.2.keep HN.out.1).cell 0, (HB0.out.2.keep HN.out.1).cell 1, (HB0.out.2.keep HN.out.1).cell 2⟩
            clear hK K
            try simp only [Act.put, List.setIfInBounds_toArray, List.set_cons_zero, List.set_cons_succ]
            revert hHeld
            revert HN
            revert Vh
            revert cs2h
            revert c2h
            revert A2h
            revert wn
            exact key3.out
          · intro wz A2h c2h cs2h HF hHeld
            refine wpAnyH_ready (rs := [3, 11]) (by kernel_rfl) (by simp) ?_
            refine AllReadyH.cons rfl (fun K hK => ?_) (AllReadyH.cons rfl (fun K hK => ?_) AllReadyH.nil)
            · go_simp
              go_at_call 46
              refine (toSave_any _ _ _ _ _ _ _ HLHA.out (HA.out.keep HF.out.1).row hn).mono ?_
              rintro e wn ⟨g3h, rfl, ho, hk⟩
              have HN := Lib.hid (HF.out.two ho hk)
              clear HF hHeld ho hk
              refine hK.out _ _ ?_ (fun hHeld => ?_)
              · exact ⟨(HB0.out.1.keep HN.out.1).cell 0, (HB0.out.1.keep HN.out.1).cell 1, (HB0.out.1.keep HN.out.1).cell 2, (HB0.out.2.keep HN.out.1).cell 0, (HB0.out.2.keep HN.out.1).cell 1, (HB0.out.2.keep HN.out.1).cell 2⟩
              clear hK K
              try simp only [Act.put, List.setIfInBounds_toArray, List.set_cons_zero, List.set_cons_succ]
              revert hHeld
              revert HN
              revert g3h
              revert cs2h
              revert c2h
              revert A2h
              revert wn
              exact key4.out
            · go_simp
              have HN := Lib.hid HF.out.allT
              clear HF hHeld
              refine hK.out _ _ ?_ (fun hHeld => ?_)
              · exact ⟨(HB0.out.1.keep HN.out.1).cell 0, (HB0.out.1.keep HN.out.1).cell 1, (HB0.out.1.keep HN.out.1).cell 2, (HB0.out.2.keep HN.out.1).cell 0, (HB0.out.2.keep HN.out.1).cell 1, (HB0.out.2.keep HN.out.1).cell 2⟩
              clear hK K
              try simp only [Act.put, List.setIfInBounds_toArray, List.set_cons_zero, List.set_cons_succ]
              generalize wz.heap.size = Vh at HN ⊢
              generalize World.alloc wz _ = wn at HN hHeld ⊢
              revert hHeld
              revert HN
              revert Vh
              revert cs2h
              revert c2h
              revert A2h
              revert wn
              exact key3.out
          · intro wz A2h c2h cs2h Vh HF hHeld
            refine wpAnyH_ready (rs := [3]) (by kernel_rfl) (by simp) ?_
            refine AllReadyH.cons rfl (fun K hK => ?_) AllReadyH.nil
            go_simp
            go_at_call 46
            refine (toSave_any _ _ _ _ _ _ _ HLHA.out (HA.out.keep HF.out.1).row hn).mono ?_
            rintro e wn ⟨g3h, rfl, ho, hk⟩
            have HN := Lib.hid (HF.out.two ho hk)
            clear HF hHeld ho hk
            refine hK.out _ _ ?_ (fun hHeld => ?_)
            · exact ⟨(HB0.out.1.keep HN.out.1).cell 0, (HB0.out.1.keep HN.out.1).cell 1, (HB0.out.1.keep HN.out.1).cell 2, (HB0.out.2.keep HN.out.1).cell 0, (HB0.out.2.keep HN.out.1).cell 1, (HB0.out.2.keep HN.out.1).cell 2⟩
            clear hK K
            try simp only [Act.put, List.setIfInBounds_toArray, List.set_cons_zero, List.set_cons_succ]
            revert hHeld
            revert HN
            revert Vh
            revert g3h
            revert cs2h
            revert c2h
            revert A2h
            revert wn
            exact key5.out
          · intro wz A2h c2h cs2h g3h HF hHeld
            refine wpAnyH_ready (rs := [5, 11]) (by kernel_rfl) (by simp) ?_
            refine AllReadyH.cons rfl (fun K hK => ?_) (AllReadyH.cons rfl (fun K hK => ?_) AllReadyH.nil)
            · go_simp
              go_at_call 46
              refine (toSave_any _ _ _ _ _ _ _ HLHB.out (HB.out.keep HF.out.1).row hn2).mono ?_
              rintro e wn ⟨g4h, rfl, ho, hk⟩
              have HN := Lib.hid (HF.out.three ho hk)
              clear HF hHeld ho hk
              refine hK.out _ _ ?_ (fun hHeld => ?_)
              · exact ⟨(HB0.out.1.keep HN.out.1).cell 0, (HB0.out.1.keep HN.out.1).cell 1, (HB0.out.1.keep HN.out.1).cell 2, (HB0.out.2.keep HN.out.1).cell 0, (HB0.out.2.keep HN.out.1).cell 1, (HB0.out.2.keep HN.out.1).cell 2⟩
              clear hK K
              try simp only [Act.put, List.setIfInBounds_toArray, List.set_cons_zero, List.set_cons_succ]
              revert hHeld
              revert HN
              revert g4h
              revert g3h
              revert cs2h
              revert c2h
              revert A2h
              revert wn
              exact key6.out
            · go_simp
              have HN := Lib.hid HF.out.allT
              clear HF hHeld
              refine hK.out _ _ ?_ (fun hHeld => ?_)
              · exact ⟨(HB0.out.1.keep HN.out.1).cell 0, (HB0.out.1.keep HN.out.1).cell 1, (HB0.out.1.keep HN.out.1).cell 2, (HB0.out.2.keep HN.out.1).cell 0, (HB0.out.2.keep HN.out.1).cell 1, (HB0.out.2.keep HN.out.1).cell 2⟩
              clear hK K
              try simp only [Act.put, List.setIfInBounds_toArray, List.set_cons_zero, List.set_cons_succ]
              generalize wz.heap.size = Vh at HN ⊢
              generalize World.alloc wz _ = wn at HN hHeld ⊢
              revert hHeld
              revert HN
              revert Vh
              revert g3h
              revert cs2h
              revert c2h
              revert A2h
              revert wn
              exact key5.out
          · intro wz A2h c2h cs2h g3h Vh HF hHeld
            refine wpAnyH_ready (rs := [5]) (by kernel_rfl) (by simp) ?_
            refine AllReadyH.cons rfl (fun K hK => ?_) AllReadyH.nil
            go_simp
            go_at_call 46
            refine (toSave_any _ _ _ _ _ _ _ HLHB.out (HB.out.keep HF.out.1).row hn2).mono ?_
            rintro e wn ⟨g4h, rfl, ho, hk⟩
            have HN := Lib.hid (HF.out.three ho hk)
            clear HF hHeld ho hk
            refine hK.out _ _ ?_ (fun hHeld => ?_)
            · exact ⟨(HB0.out.1.keep HN.out.1).cell 0, (HB0.out.1.keep HN.out.1).cell 1, (HB0.out.1.keep HN.out.1).cell 2, (HB0.out.2.keep HN.out.1).cell 0, (HB0.out.2.keep HN.out.1).cell 1, (HB0.out.2.keep HN.out.1).cell 2⟩
            clear hK K
            try simp only [Act.put, List.setIfInBounds_toArray, List.set_cons_zero, List.set_cons_succ]
            revert hHeld
            revert HN
            revert Vh
            revert g4h
            revert g3h
            revert cs2h
            revert c2h
            revert A2h
            revert wn
            exact key7.out
          · intro wz A2h c2h cs2h g3h g4h HF hHeld
            refine wpAnyH_ready (rs := [7, 11]) (by kernel_rfl) (by simp) ?_
            refine AllReadyH.cons rfl (fun K hK => ?_) (AllReadyH.cons rfl (fun K hK => ?_) AllReadyH.nil)
            · go_simp
              go_at_call 30
              refine ((mount_val HI.out.1 (show mountV cs2h T0 ok a3 = (T, r) by rw [mountV_is (HF.out.2.1 (by omega)).2.1]; exact HI.out.2.1) (HF.out.2.1 (by omega)).1 (HF.out.2.1 (by omega)).2.2 hnd (small_is (HF.out.2.1 (by omega)).2.1 HP.out.1) HLHA.out (HF.out.2.2.1 (by omega)) hn HLHB.out (HF.out.2.2.2.1 (by omega)) hn2).mono fun _ _ q => TabMade2.to q HI.out.2.2).mono ?_
              rintro e wn ⟨A5h, c5h, cs5h, rfl, hl, hs, ho, hk⟩
              have HN := Lib.hid (HF.out.four hl hs ho hk)
              clear HF hHeld hl hs ho hk
              refine hK.out _ _ ?_ (fun hHeld => ?_)
              · exact ⟨(HB0.out.1.keep HN.out.1).cell 0, (HB0.out.1.keep HN.out.1).cell 1, (HB0.out.1.keep HN.out.1).cell 2, (HB0.out.2.keep HN.out.1).cell 0, (HB0.out.2.keep HN.out.1).cell 1, (HB0.out.2.keep HN.out.1).cell 2⟩
              clear hK K
              try simp only [Act.put, List.setIfInBounds_toArray, List.set_cons_zero, List.set_cons_succ]
              refine heldY 8 119 ?_
              refine heldY 9 128 ?_
              refine heldY 10 129 ?_
              revert hHeld
              revert HN
              revert cs5h
              revert c5h
              revert A5h
              revert g4h
              revert g3h
              revert cs2h
              revert c2h
              revert A2h
              revert wn
              exact key8.out
            · go_simp
              have HN := Lib.hid HF.out.allT
              clear HF hHeld
              refine hK.out _ _ ?_ (fun hHeld => ?_)
              · exact ⟨(HB0.out.1.keep HN.out.1).cell 0, (HB0.out.1.keep HN.out.1).cell 1, (HB0.out.1.keep HN.out.1).cell 2, (HB0.out.2.keep HN.out.1).cell 0, (HB0.out.2.keep HN.out.1).cell 1, (HB0.out.2.keep HN.out.1).cell 2⟩
              clear hK K
              try simp only [Act.put, List.setIfInBounds_toArray, List.set_cons_zero, List.set_cons_succ]
              generalize wz.heap.size = Vh at HN ⊢
              generalize World.alloc wz _ = wn at HN hHeld ⊢
              revert hHeld
              revert HN
              revert Vh
              revert g4h
              revert g3h
              revert cs2h
              revert c2h
              revert A2h
              revert wn
              exact key7.out
          · intro wz A2h c2h cs2h g3h g4h Vh HF hHeld
            refine wpAnyH_ready (rs := [7]) (by kernel_rfl) (by simp) ?_
            refine AllReadyH.cons rfl (fun K hK => ?_) AllReadyH.nil
            go_simp
            go_at_call 30
            refine ((mount_val HI.out.1 (show mountV cs2h T0 ok a3 = (T, r) by rw [mountV_is (HF.out.2.1 (by omega)).2.1]; exact HI.out.2.1) (HF.out.2.1 (by omega)).1 (HF.out.2.1 (by omega)).2.2 hnd (small_is (HF.out.2.1 (by omega)).2.1 HP.out.1) HLHA.out (HF.out.2.2.1 (by omega)) hn HLHB.out (HF.out.2.2.2.1 (by omega)) hn2).mono fun _ _ q => TabMade2.to q HI.out.2.2).mono ?_
            rintro e wn ⟨A5h, c5h, cs5h, rfl, hl, hs, ho, hk⟩
            have HN := Lib.hid (HF.out.four hl hs ho hk)
            clear HF hHeld hl hs ho hk
            refine hK.out _ _ ?_ (fun hHeld => ?_)
            · exact ⟨(HB0.out.1.keep HN.out.1).cell 0, (HB0.out.1.keep HN.out.1).cell 1, (HB0.out.1.keep HN.out.1).cell 2, (HB0.out.2.keep HN.out.1).cell 0, (HB0.out.2.keep HN.out.1).cell 1, (HB0.out.2.keep HN.out.1).cell 2⟩
            clear hK K
            try simp only [Act.put, List.setIfInBounds_toArray, List.set_cons_zero, List.set_cons_succ]
            refine heldY 8 119 ?_
            refine heldY 9 128 ?_
            refine heldY 10 129 ?_
            revert hHeld
            revert HN
            revert Vh
            revert cs5h
            revert c5h
            revert A5h
            revert g4h
            revert g3h
            revert cs2h
            revert c2h
            revert A2h
            revert wn
            exact key9.out
          · intro wz A2h c2h cs2h g3h g4h A5h c5h cs5h HF hHeld
            refine wpAnyH_ready (rs := [11]) (by kernel_rfl) (by simp) ?_
            refine AllReadyH.cons rfl (fun K hK => ?_) AllReadyH.nil
            go_simp
            have HN := Lib.hid HF.out.allT
            clear HF hHeld
            refine hK.out _ _ ?_ (fun hHeld => ?_)
            · exact ⟨(HB0.out.1.keep HN.out.1).cell 0, (HB0.out.1.keep HN.out.1).cell 1, (HB0.out.1.keep HN.out.1).cell 2, (HB0.out.2.keep HN.out.1).cell 0, (HB0.out.2.keep HN.out.1).cell 1, (HB0.out.2.keep HN.out.1).cell 2⟩
            clear hK K
            try simp only [Act.put, List.setIfInBounds_toArray, List.set_cons_zero, List.set_cons_succ]
            generalize wz.heap.size = Vh at HN ⊢
            generalize World.alloc wz _ = wn at HN hHeld ⊢
            revert hHeld
            revert HN
            revert Vh
            revert cs5h
            revert c5h
            revert A5h
            revert g4h
            revert g3h
            revert cs2h
            revert c2h
            revert A2h
            revert wn
            exact key9.out
          · intro wz A2h c2h cs2h g3h g4h A5h c5h cs5h Vh HF hHeld
            obtain ⟨lv, t0, t1⟩ := HF.out.vars
            have lb0 := HA.out.1.lt
            have mm0 : w.heap.size ≠ Vh := by omega
            have lb1 := HB.out.1.lt
            have mm1 : w.heap.size + 1 ≠ Vh := by omega
            refine wpAnyH_ready (rs := [12]) (by kernel_rfl) (by simp) ?_
            refine AllReadyH.cons rfl (fun K hK => ?_) AllReadyH.nil
            go_simp
            refine hK.out _ _ ?_ (fun hHeld => ?_)
            · exact ⟨cell_far1 hHeld.1 mm0, cell_far1 hHeld.2.1 mm0, cell_far1 hHeld.2.2.1 mm0, cell_far1 hHeld.2.2.2.1 mm1, cell_far1 hHeld.2.2.2.2.1 mm1, cell_far1 hHeld.2.2.2.2.2 mm1⟩
            clear hK K
            try simp only [Act.put, List.setIfInBounds_toArray, List.set_cons_zero, List.set_cons_succ]
            refine heldY 13 21 ?_
            clear t0 t1 lv hHeld mm0 lb0 mm1 lb1
            refine wpAnyH_done (by kernel_rfl) ?_ _
            obtain ⟨hiHH, hx, hk, rHH, eHH⟩ := HF.out.pack HA.out.2.2.2
            have SHH := Lib.hid (HF.out.2.2.2.2.1 (by omega)).1.2
            generalize World.setCell _ _ _ = wf at hx hk eHH ⊢
            replace HA := Lib.hid (HA.out.keep hk)
            replace HB := Lib.hid (HB.out.keep hk)
            replace HD := Lib.hid (HD.out.keep hk)
            replace HW := Lib.hid (HW.out.keep hk)
            replace HG := Lib.hid (HG.out.keep hk)
            have HH := Lib.hid hx
            clear hx hk HF HB0 eHH
            obtain ⟨bHA, cHA, dHA⟩ := HA.out.cells
            have lHA := HA.out.1.lt
            obtain ⟨bHB, cHB, dHB⟩ := HB.out.cells
            have lHB := HB.out.1.lt
            have bHG := HG.out.cell
            have lHG := HG.out.1.lt
            have bHW := HW.out.cell
            have lHW := HW.out.2.1.lt
            have bHH := HH.out.cell
            have lHH := HH.out.2.1.lt
            go_wp2_with fail
            clear bHA cHA dHA lHA bHB cHB dHB lHB bHG lHG bHW lHW bHH lHH
            refine (eqTable_same _ _ _ _ _ _ _ _ HH.out.1.2 (SHH.out.trans SHW.out.symm) HH.out.row HW.out.row hn1 (by rw [SHH.out]; exact HT.out)).mono ?_
            rintro e w23 ⟨rfl, hk⟩
            replace HA := Lib.hid (HA.out.keep hk)
            replace HB := Lib.hid (HB.out.keep hk)
            replace HD := Lib.hid (HD.out.keep hk)
            replace HW := Lib.hid (HW.out.keep hk)
            replace HG := Lib.hid (HG.out.keep hk)
            replace HH := Lib.hid (HH.out.keep hk)
            clear hk
            obtain ⟨bHA, cHA, dHA⟩ := HA.out.cells
            have lHA := HA.out.1.lt
            obtain ⟨bHB, cHB, dHB⟩ := HB.out.cells
            have lHB := HB.out.1.lt
            have bHG := HG.out.cell
            have lHG := HG.out.1.lt
            have bHW := HW.out.cell
            have lHW := HW.out.2.1.lt
            have bHH := HH.out.cell
            have lHH := HH.out.2.1.lt
            go_wp2_with fail
            clear bHA cHA dHA lHA bHB cHB dHB lHB bHG lHG bHW lHW bHH lHH
            refine (heldTable_val HVG.out.1 HVG.out.2 LHG.out HG.out hn1 MHG.out).mono ?_
            rintro e w24 ⟨rfl, hk⟩
            replace HA := Lib.hid (HA.out.keep hk)
            replace HB := Lib.hid (HB.out.keep hk)
            replace HD := Lib.hid (HD.out.keep hk)
            replace HW := Lib.hid (HW.out.keep hk)
            replace HG := Lib.hid (HG.out.keep hk)
            replace HH := Lib.hid (HH.out.keep hk)
            clear hk
            obtain ⟨bHA, cHA, dHA⟩ := HA.out.cells
            have lHA := HA.out.1.lt
            obtain ⟨bHB, cHB, dHB⟩ := HB.out.cells
            have lHB := HB.out.1.lt
            have bHG := HG.out.cell
            have lHG := HG.out.1.lt
            have bHW := HW.out.cell
            have lHW := HW.out.2.1.lt
            have bHH := HH.out.cell
            have lHH := HH.out.2.1.lt
            go_wp2
            go_ret
            exact ⟨rfl, grown_below HA.out.2.2.2⟩

/-! ### THE ROW's STEP: WRITTEN OUT: LEAVE IT -/
set_option maxRecDepth 100000 in
theorem lifted (os : Os) (started : os.Started) (H : Type) (enc : TypeId × Value → H) :
    ReturnsInHanded {} Try.checked os 10 .any (Rows.fnExactMountTableSpec.pre6 enc Try.prog Try.f10 Rows.fnExactMountTableRow.domain false) (Rows.fnExactMountTableSpec.post enc Try.prog Try.f10 false true false false) := by
  refine returnsInHanded_of_change (C := Try.checked) own started (by kernel_rfl) Try.func10
    (ChangeSpec.witness6 (enc := enc) (C := Try.checked) false ⟨#[], #[.slice none 0 0, .agg #[.int .i64 0, .slice none 0 0, .int .i64 0], .agg #[.int .i64 0, .slice none 0 0, .int .i64 0], .int .i64 0], []⟩ 8 (by kernel_rfl) (by kernel_rfl) (by kernel_rfl) (by kernel_rfl)) ?_
  intro W base args ds gs before hval0 hW hcnd _
  have hval : ∀ (j : Nat) t v, Try.f10.params[j]? = some t → args[j]? = some v → Value.okWide Try.prog W .any base t v := hval0
  have hW' := hW
  obtain ⟨p, q, hA0, hV, rfl, hfz, hnd⟩ := hW
  have hA : DataW.TrodAll enc Try.prog W 0 (fun _ => true) true Try.f10.params.toList args.toList ds p := hA0
  rw [Try.params10] at hA hval
  obtain ⟨v0, vs0, d0, ds0, p0, q0, hargs, rfl, rfl, h0, r0⟩ := trodAll_cons hA
  obtain ⟨v1, vs1, d1, ds1, p1, q1, rfl, rfl, rfl, h1, r1⟩ := trodAll_cons r0
  obtain ⟨v2, vs2, d2, ds2, p2, q2, rfl, rfl, rfl, h2, r2⟩ := trodAll_cons r1
  obtain ⟨v3, vs3, d3, ds3, p3, q3, rfl, rfl, rfl, h3, r3⟩ := trodAll_cons r2
  obtain ⟨rfl, rfl, rfl⟩ := trodAll_nil r3
  obtain rfl : args = #[v0, v1, v2, v3] := by cases args; simp_all
  obtain ⟨rfl, rfl⟩ := trodVars_none hV
  have k0 := h0
  have lt0 : ∀ x ∈ p0, x.block < W.heap.size := by obtain ⟨m, hm⟩ := k0; exact DataW.trod_lt m _ _ _ hm
  obtain ⟨a0, n0, c0, rfl⟩ := okWide_slice Try.underlying55 (hval 0 55 v0 rfl rfl)
  obtain ⟨b0, w0⟩ : ∃ bs, IsBlocks W a0 n0 c0 bs := by
    obtain ⟨fuel, hf⟩ := h0
    obtain ⟨A, n, c, bs, e, hw⟩ := open_blocks (v := .slice a0 n0 c0) hf
    injection e with e1 e2 e3
    subst e1; subst e2; subst e3
    exact ⟨bs, hw⟩
  have k1 := h1
  have lt1 : ∀ x ∈ p1, x.block < W.heap.size := by obtain ⟨m, hm⟩ := k1; exact DataW.trod_lt m _ _ _ hm
  obtain ⟨c1, rfl, l1, f1⟩ := open_agg Try.underlying68 (by kernel_rfl) (by kernel_rfl) (hval 1 68 v1 rfl rfl) h1
  obtain ⟨v1f0, v1f1, v1f2, rfl⟩ := list3 l1
  obtain ⟨n1f0, y1f0, t1f0⟩ := f1 0 _ _ rfl rfl
  obtain ⟨a1f0, e1f0, _, w1f0⟩ := DataW.trod_int Try.underlying3 t1f0
  obtain ⟨rfl, _⟩ := List.cons.inj e1f0
  obtain ⟨n1f1, y1f1, t1f1⟩ := f1 1 _ _ rfl rfl
  obtain ⟨a1f1, n1f1, c1f1, p1f1, rfl, w1f1⟩ := open_intsT t1f1
  obtain ⟨n1f2, y1f2, t1f2⟩ := f1 2 _ _ rfl rfl
  obtain ⟨a1f2, e1f2, _, w1f2⟩ := DataW.trod_int Try.underlying3 t1f2
  obtain ⟨rfl, _⟩ := List.cons.inj e1f2
  have k2 := h2
  have lt2 : ∀ x ∈ p2, x.block < W.heap.size := by obtain ⟨m, hm⟩ := k2; exact DataW.trod_lt m _ _ _ hm
  obtain ⟨c2, rfl, l2, f2⟩ := open_agg Try.underlying68 (by kernel_rfl) (by kernel_rfl) (hval 2 68 v2 rfl rfl) h2
  obtain ⟨v2f0, v2f1, v2f2, rfl⟩ := list3 l2
  obtain ⟨n2f0, y2f0, t2f0⟩ := f2 0 _ _ rfl rfl
  obtain ⟨a2f0, e2f0, _, w2f0⟩ := DataW.trod_int Try.underlying3 t2f0
  obtain ⟨rfl, _⟩ := List.cons.inj e2f0
  obtain ⟨n2f1, y2f1, t2f1⟩ := f2 1 _ _ rfl rfl
  obtain ⟨a2f1, n2f1, c2f1, p2f1, rfl, w2f1⟩ := open_intsT t2f1
  obtain ⟨n2f2, y2f2, t2f2⟩ := f2 2 _ _ rfl rfl
  obtain ⟨a2f2, e2f2, _, w2f2⟩ := DataW.trod_int Try.underlying3 t2f2
  obtain ⟨rfl, _⟩ := List.cons.inj e2f2
  obtain ⟨a3, rfl, rfl, rfl, w3⟩ := open_int Try.underlying3 (hval 3 3 v3 rfl rfl) h3
  clear hA0 hval0
  refine (walk a0 n0 c0 b0 a1f0 a1f1 n1f1 c1f1 p1f1 a1f2 a2f0 a2f1 n2f1 c2f1 p2f1 a2f2 a3 W w0 w1f0 w1f1 w1f2 w2f0 w2f1 w2f2 w3).mono fun e W' ⟨he, bel⟩ => ?_
  subst he
  exact ⟨_, rfl, _, _, _, [], _, [], hW', trodAll_mk1 (shut_bool Try.underlying4 _), (trodAll_cons_mk (Below.trod laidOut (by kernel_rfl) (of_decide_eq_true (by kernel_rfl)) k0 bel lt0) (trodAll_cons_mk (Below.trod laidOut (by kernel_rfl) (of_decide_eq_true (by kernel_rfl)) k1 bel lt1) (trodAll_cons_mk (Below.trod laidOut (by kernel_rfl) (of_decide_eq_true (by kernel_rfl)) k2 bel lt2) (trodAll_cons_mk (shut_int Try.underlying3 w3) trodAll_mk0)))), rfl, bel.frame _, fun h => by cases h⟩

theorem over : Rows.fnExactMountTableRow.holds Try.pinned (OpenSpec.ofChange Rows.fnExactMountTableSpec) :=
  OpenClaim.holds_of_wide 10 Try.f10 rfl rfl rfl rfl rfl rfl rfl ⟨rfl, rfl, rfl, rfl, rfl⟩ rfl rfl rfl rfl rfl (by kernel_rfl) Try.func10 (by kernel_rfl)
    (of_decide_eq_true (by kernel_rfl)) (by unfold Func.isWrapper; first | (rw [if_pos (by decide +kernel)]; kernel_rfl) | (rw [if_neg (by decide +kernel)]; exact ⟨rfl, rfl⟩))
    (fun os started H enc _ => lifted os started H enc)

/-- ████ THE STATEMENT ████ -/
theorem proved : Rows.FnExactMountTableSaid := over
#print axioms proved
end Go.Proofs.Yteniikfgellhfaa.fnExactMountTable
