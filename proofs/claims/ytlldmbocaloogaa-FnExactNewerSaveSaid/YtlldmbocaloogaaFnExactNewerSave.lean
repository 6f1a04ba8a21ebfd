/- NewerSave answers as its model for every two saves, changes nothing of them, and its answer owns its memory: proved.
   Conditions: none beyond the row's own reading of the input. The frame was written by the guide's proof-skeleton; the walk is ours. -/
import Derived.Test.YtlldmbocaloogaaAgg
import Derived.Test.YtlldmbocaloogaaLawSave2
import Derived.Test.YtlldmbocaloogaaHand
import Derived.Test.YtlldmbocaloogaaRows
import Derived.WalkKit
import Derived.ProofKit
import Derived.OpenShut
import Derived.ShutString
import Derived.ChangeOld
import Derived.Below
namespace Go.Proofs.Ytlldmbocaloogaa.fnExactNewerSave
open Go.ChangeShapes Go.WideShapes Go.ChangeAt Go.RowKit
open Go.ChangeMaps (open_string shut_string)
set_option linter.unusedVariables false
set_option linter.unusedSimpArgs false

theorem own : ownKnob Try.prog.godebug = none := by kernel_rfl
theorem laidOut : laidOutB Try.prog = true := by kernel_rfl

/-- WHAT THE WALK IS TOLD OF A SLICE OF INTEGERS THAT CAME IN: it is nil; or it leads to a row of 'cap' cells, the numbers 'zs' (the first 'len' are its elements, the rest its spare room), each fitting its kind. -/
def IsRow (k : IntKind) (w : World) (a : Option Addr) (len cap : Nat) (zs : List Int) : Prop :=
  (a = none ∧ len = 0 ∧ cap = 0 ∧ zs = []) ∨
  ∃ x, a = some x ∧ len ≤ cap ∧ cap ≤ maxLen ∧ zs.length = cap ∧ (∀ i, i < zs.length → w.cell? (x.add i) = some (.int k (zs.getD i 0))) ∧ ∀ n ∈ zs, (Lit.int k n).wf = true

/-! ### STEP 1: THE WALK: the Go text returns true, AND WRITES NOTHING THAT WAS THERE: 'Below w.heap.size w w'' (Derived/Below.lean: '.refl', '.alloc', '.drew', '.setCell' at a new block, '.trans'). Open each 'IsRow' by 'rcases' AHEAD of 'go_enter'; part every test ahead of the walk. -/
set_option maxHeartbeats 16000000 in
set_option maxRecDepth 100000 in
theorem walk (a0f0 : Int) (a0f1 : Option Addr) (n0f1 c0f1 : Nat) (p0f1 : List Int) (a0f2 : Int) (a1f0 : Int) (a1f1 : Option Addr) (n1f1 c1f1 : Nat) (p1f1 : List Int) (a1f2 : Int) (w : World) (w0f0 : (Lit.int .i64 a0f0).wf = true) (w0f1 : IsInts w a0f1 n0f1 c0f1 p0f1) (w0f2 : (Lit.int .i64 a0f2).wf = true) (w1f0 : (Lit.int .i64 a1f0).wf = true) (w1f1 : IsInts w a1f1 n1f1 c1f1 p1f1) (w1f2 : (Lit.int .i64 a1f2).wf = true) :
    Calls Try.prog 10 #[.agg #[.int .i64 a0f0, .slice a0f1 n0f1 c0f1, .int .i64 a0f2], .agg #[.int .i64 a1f0, .slice a1f1 n1f1 c1f1, .int .i64 a1f2]] w fun e w' => e = .returned (.bool true) ∧ Below w.heap.size w w' := by
  obtain ⟨T, M, ok, hV⟩ : ∃ T M ok, newV a0f0 p0f1 a0f2 a1f0 p1f1 a1f2 = (T, M, ok) := ⟨_, _, _, rfl⟩
  obtain ⟨n1, hn1'⟩ : ∃ n1, T.length = n1 := ⟨_, rfl⟩
  have hT1 := newV_small hV
  have hn1 : n1 ≤ 1048576 := by rw [← hn1']; exact hT1.1
  have HI := Lib.hid (And.intro hV hn1')
  have HT := Lib.hid hT1.2
  have tok : (ok != ok) = false := by simp
  have tM : (M != M) = false := by simp
  clear hV hn1' hT1
  have HA := Lib.hid ((SvA.arg (N := a0f0) (S := a0f2) w0f1).keep (grown_alloc (grown_refl _ none) (.cells #[.int .i64 a1f0, .slice a1f1 n1f1 c1f1, .int .i64 a1f2] 56)))
  have HB := Lib.hid (SvA.arg2 (N := a1f0) (S := a1f2) (N' := a0f0) (S' := a0f2) (A' := a0f1) (n' := n0f1) (c' := c0f1) w1f1)
  have HLHA := Lib.hid w0f1.1
  have HLHB := Lib.hid w1f1.1
  have hmx : n0f1 ≤ 9223372036854775807 := by have h1 := w0f1.2.1; have h2 := w0f1.2.2.1; simp only [maxLen] at h2; omega
  have hmx2 : n1f1 ≤ 9223372036854775807 := by have h1 := w1f1.2.1; have h2 := w1f1.2.2.1; simp only [maxLen] at h2; omega
  clear w0f1 w1f1
  obtain ⟨b0, b1, b2⟩ := HA.out.cells
  obtain ⟨b3, b4, b5⟩ := HB.out.cells
  go_enter Try.func10, Try.ntmps10
  go_wp2_with fail
  refine (szSave_any _ _ _ _ _ _ _ (by omega) (by omega) hmx).mono ?_
  rintro e w1 ⟨v, rfl, hk, hv⟩
  clear b0 b1 b2 b3 b4 b5
  replace HA := Lib.hid (HA.out.keep hk)
  replace HB := Lib.hid (HB.out.keep hk)
  rcases hv with rfl | ⟨hv0, hvL, hn⟩
  · clear hk
    go_wp2
    go_ret
    exact ⟨rfl, grown_below HA.out.2.2.2⟩
  · have tv : decide (v < 0) = false := decide_eq_false (by omega)
    clear hk
    obtain ⟨bHA, cHA, dHA⟩ := HA.out.cells
    have lHA := HA.out.1.lt
    obtain ⟨bHB, cHB, dHB⟩ := HB.out.cells
    have lHB := HB.out.1.lt
    go_wp2_with fail
    clear tv
    clear bHA cHA dHA lHA bHB cHB dHB lHB
    refine (szSave_any _ _ _ _ _ _ _ hv0 hvL hmx2).mono ?_
    rintro e w2 ⟨u, rfl, hk, hv⟩
    replace HA := Lib.hid (HA.out.keep hk)
    replace HB := Lib.hid (HB.out.keep hk)
    rcases hv with rfl | ⟨hu0, huL, hn2⟩
    · clear hk
      go_wp2
      go_ret
      exact ⟨rfl, grown_below HA.out.2.2.2⟩
    · have tu : decide (u < 0) = false := decide_eq_false (by omega)
      clear hk
      obtain ⟨bHA, cHA, dHA⟩ := HA.out.cells
      have lHA := HA.out.1.lt
      obtain ⟨bHB, cHB, dHB⟩ := HB.out.cells
      have lHB := HB.out.1.lt
      have HB0 := Lib.hid (And.intro HA.out.1 HB.out.1)
      have z2 : w.heap.size + 1 < w2.heap.size := HB.out.1.lt
      go_wp2_with fail
      clear bHA cHA dHA lHA bHB cHB dHB lHB
      apply mrg
      intro key7
      apply mrg
      intro key6
      apply mrg
      intro key5
      apply mrg
      intro key4
      apply mrg
      intro key3
      apply mrg
      intro key2
      apply mrg
      intro key1
      apply mrg
      intro key0
      · have HN := Lib.hid (NS.start w2 p0f1 p1f1 n1 T)
        refine wp_region_held_drew (S := (fun w' => w'.cell? ⟨w.heap.size, 0, none⟩ = some (.int .i64 a0f0) ∧ w'.cell? ⟨w.heap.size, 1, none⟩ = some (.slice a0f1 n0f1 c0f1) ∧ w'.cell? ⟨w.heap.size, 2, none⟩ = some (.int .i64 a0f2) ∧ w'.cell? ⟨w.heap.size + 1, 0, none⟩ = some (.int .i64 a1f0) ∧ w'.cell? ⟨w.heap.size + 1, 1, none⟩ = some (.slice a1f1 n1f1 c1f1) ∧ w'.cell? ⟨w.heap.size + 1, 2, none⟩ = some (.int .i64 a1f2))) (by kernel_rfl) ?_ (fun hHeld => ?_)
        · exact ⟨(HB0.out.1.keep HN.out.1).cell 0, (HB0.out.1.keep HN.out.1).cell 1, (HB0.out.1.keep HN.out.1).cell 2, (HB0.out.2.keep HN.out.1).cell 0, (HB0.out.2.keep HN.out.1).cell 1, (HB0.out.2.keep HN.out.1).cell 2⟩
        replace HN := Lib.hid (HN.out.keep (grown_drew (grown_refl _ none)))
        refine heldY 0 31 ?_
        refine heldY 2 33 ?_
        generalize World.drew _ = wn at HN hHeld ⊢
        revert hHeld
        revert HN
        revert wn
        exact key0.out
      · intro wz  HF hHeld
        refine wpAnyH_ready (rs := [1, 9]) (by kernel_rfl) (by simp) ?_
        refine AllReadyH.cons rfl (fun K hK => ?_) (AllReadyH.cons rfl (fun K hK => ?_) AllReadyH.nil)
        · go_simp
          go_at_call 37
          refine (toSave_any _ _ _ _ _ _ _ HLHA.out (HA.out.keep HF.out.1).row hn).mono ?_
          rintro e wn ⟨g2u, rfl, ho, hk⟩
          have HN := Lib.hid (HF.out.one ho hk)
          clear HF hHeld ho hk
          refine hK.out _ _ ?_ (fun hHeld => ?_)
          · exact ⟨(HB0.out.1.keep HN.out.1).cell 0, (HB0.out.1.keep HN.out.1).cell 1, (HB0.out.1.keep HN.out.1).cell 2, (HB0.out.2.keep HN.out.1).cell 0, (HB0.out.2.keep HN.out.1).cell 1, (HB0.out.2.keep HN.out.1).cell 2⟩
          clear hK K
          try simp only [Act.put, List.setIfInBounds_toArray, List.set_cons_zero, List.set_cons_succ]
          revert hHeld
          revert HN
          revert g2u
          revert wn
          exact key2.out
        · go_simp
          have HN := Lib.hid HF.out.allT
          clear HF hHeld
          refine hK.out _ _ ?_ (fun hHeld => ?_)
          · exact ⟨(HB0.out.1.keep HN.out.1).cell 0, (HB0.out.1.keep HN.out.1).cell 1, (HB0.out.1.keep HN.out.1).cell 2, (HB0.out.2.keep HN.out.1).cell 0, (HB0.out.2.keep HN.out.1).cell 1, (HB0.out.2.keep HN.out.1).cell 2⟩
          clear hK K
          try simp only [Act.put, List.setIfInBounds_toArray, List.set_cons_zero, List.set_cons_succ]
          generalize wz.heap.size = Vu at HN ⊢
          generalize World.alloc wz _ = wn at HN hHeld ⊢
          revert hHeld
          revert HN
          revert Vu
          revert wn
          exact key1.out
      · intro wz Vu HF hHeld
        refine wpAnyH_ready (rs := [1]) (by kernel_rfl) (by simp) ?_
        refine AllReadyH.cons rfl (fun K hK => ?_) AllReadyH.nil
        go_simp
        go_at_call 37
        refine (toSave_any _ _ _ _ _ _ _ HLHA.out (HA.out.keep HF.out.1).row hn).mono ?_
        rintro e wn ⟨g2u, rfl, ho, hk⟩
        have HN := Lib.hid (HF.out.one ho hk)
        clear HF hHeld ho hk
        refine hK.out _ _ ?_ (fun hHeld => ?_)
        · exact ⟨(HB0.out.1.keep HN.out.1).cell 0, (HB0.out.1.keep HN.out.1).cell 1, (HB0.out.1.keep HN.out.1).cell 2, (HB0.out.2.keep HN.out.1).cell 0, (HB0.out.2.keep HN.out.1).cell 1, (HB0.out.2.keep HN.out.1).cell 2⟩
        clear hK K
        try simp only [Act.put, List.setIfInBounds_toArray, List.set_cons_zero, List.set_cons_succ]
        revert hHeld
        revert HN
        revert Vu
        revert g2u
        revert wn
        exact key3.out
      · intro wz g2u HF hHeld
        refine wpAnyH_ready (rs := [3, 9]) (by kernel_rfl) (by simp) ?_
        refine AllReadyH.cons rfl (fun K hK => ?_) (AllReadyH.cons rfl (fun K hK => ?_) AllReadyH.nil)
        · go_simp
          go_at_call 37
          refine (toSave_any _ _ _ _ _ _ _ HLHB.out (HB.out.keep HF.out.1).row hn2).mono ?_
          rintro e wn ⟨g3u, rfl, ho, hk⟩
          have HN := Lib.hid (HF.out.two ho hk)
          clear HF hHeld ho hk
          refine hK.out _ _ ?_ (fun hHeld => ?_)
          · exact ⟨(HB0.out.1.keep HN.out.1).cell 0, (HB0.out.1.keep HN.out.1).cell 1, (HB0.out.1.keep HN.out.1).cell 2, (HB0.out.2.keep HN.out.1).cell 0, (HB0.out.2.keep HN.out.1).cell 1, (HB0.out.2.keep HN.out.1).cell 2⟩
          clear hK K
          try simp only [Act.put, List.setIfInBounds_toArray, List.set_cons_zero, List.set_cons_succ]
          revert hHeld
          revert HN
          revert g3u
          revert g2u
          revert wn
          exact key4.out
        · go_simp
          have HN := Lib.hid HF.out.allT
          clear HF hHeld
          refine hK.out _ _ ?_ (fun hHeld => ?_)
          · exact ⟨(HB0.out.1.keep HN.out.1).cell 0, (HB0.out.1.keep HN.out.1).cell 1, (HB0.out.1.keep HN.out.1).cell 2, (HB0.out.2.keep HN.out.1).cell 0, (HB0.out.2.keep HN.out.1).cell 1, (HB0.out.2.keep HN.out.1).cell 2⟩
          clear hK K
          try simp only [Act.put, List.setIfInBounds_toArray, List.set_cons_zero, List.set_cons_succ]
          generalize wz.heap.size = Vu at HN ⊢
          generalize World.alloc wz _ = wn at HN hHeld ⊢
          revert hHeld
          revert HN
          revert Vu
          revert g2u
          revert wn
          exact key3.out
      · intro wz g2u Vu HF hHeld
        refine wpAnyH_ready (rs := [3]) (by kernel_rfl) (by simp) ?_
        refine AllReadyH.cons rfl (fun K hK => ?_) AllReadyH.nil
        go_simp
        go_at_call 37
        refine (toSave_any _ _ _ _ _ _ _ HLHB.out (HB.out.keep HF.out.1).row hn2).mono ?_
        rintro e wn ⟨g3u, rfl, ho, hk⟩
        have HN := Lib.hid (HF.out.two ho hk)
        clear HF hHeld ho hk
        refine hK.out _ _ ?_ (fun hHeld => ?_)
        · exact ⟨(HB0.out.1.keep HN.out.1).cell 0, (HB0.out.1.keep HN.out.1).cell 1, (HB0.out.1.keep HN.out.1).cell 2, (HB0.out.2.keep HN.out.1).cell 0, (HB0.out.2.keep HN.out.1).cell 1, (HB0.out.2.keep HN.out.1).cell 2⟩
        clear hK K
        try simp only [Act.put, List.setIfInBounds_toArray, List.set_cons_zero, List.set_cons_succ]
        revert hHeld
        revert HN
        revert Vu
        revert g3u
        revert g2u
        revert wn
        exact key5.out
      · intro wz g2u g3u HF hHeld
        refine wpAnyH_ready (rs := [4, 9]) (by kernel_rfl) (by simp) ?_
        refine AllReadyH.cons rfl (fun K hK => ?_) (AllReadyH.cons rfl (fun K hK => ?_) AllReadyH.nil)
        · go_simp
          go_at_call 25
          refine ((specNewer_val HI.out.1 HLHA.out (HF.out.2.1 (by omega)) hn HLHB.out (HF.out.2.2.1 (by omega)) hn2 (Nat.le_refl _) (by simp only [maxLen]; omega) (Nat.le_refl _) (by simp only [maxLen]; omega)).mono fun _ _ q => NewMade.to q HI.out.2).mono ?_
          rintro e wn ⟨A4u, c4u, cs4u, rfl, h1, h2, ho, hk⟩
          have HN := Lib.hid (HF.out.three h1 h2 ho hk)
          clear HF hHeld h1 h2 ho hk
          refine hK.out _ _ ?_ (fun hHeld => ?_)
          · exact ⟨(HB0.out.1.keep HN.out.1).cell 0, (HB0.out.1.keep HN.out.1).cell 1, (HB0.out.1.keep HN.out.1).cell 2, (HB0.out.2.keep HN.out.1).cell 0, (HB0.out.2.keep HN.out.1).cell 1, (HB0.out.2.keep HN.out.1).cell 2⟩
          clear hK K
          try simp only [Act.put, List.setIfInBounds_toArray, List.set_cons_zero, List.set_cons_succ]
          refine heldY 5 30 ?_
          refine heldY 6 36 ?_
          refine heldY 7 37 ?_
          refine heldY 8 38 ?_
          revert hHeld
          revert HN
          revert cs4u
          revert c4u
          revert A4u
          revert g3u
          revert g2u
          revert wn
          exact key6.out
        · go_simp
          have HN := Lib.hid HF.out.allT
          clear HF hHeld
          refine hK.out _ _ ?_ (fun hHeld => ?_)
          · exact ⟨(HB0.out.1.keep HN.out.1).cell 0, (HB0.out.1.keep HN.out.1).cell 1, (HB0.out.1.keep HN.out.1).cell 2, (HB0.out.2.keep HN.out.1).cell 0, (HB0.out.2.keep HN.out.1).cell 1, (HB0.out.2.keep HN.out.1).cell 2⟩
          clear hK K
          try simp only [Act.put, List.setIfInBounds_toArray, List.set_cons_zero, List.set_cons_succ]
          generalize wz.heap.size = Vu at HN ⊢
          generalize World.alloc wz _ = wn at HN hHeld ⊢
          revert hHeld
          revert HN
          revert Vu
          revert g3u
          revert g2u
          revert wn
          exact key5.out
      · intro wz g2u g3u Vu HF hHeld
        refine wpAnyH_ready (rs := [4]) (by kernel_rfl) (by simp) ?_
        refine AllReadyH.cons rfl (fun K hK => ?_) AllReadyH.nil
        go_simp
        go_at_call 25
        refine ((specNewer_val HI.out.1 HLHA.out (HF.out.2.1 (by omega)) hn HLHB.out (HF.out.2.2.1 (by omega)) hn2 (Nat.le_refl _) (by simp only [maxLen]; omega) (Nat.le_refl _) (by simp only [maxLen]; omega)).mono fun _ _ q => NewMade.to q HI.out.2).mono ?_
        rintro e wn ⟨A4u, c4u, cs4u, rfl, h1, h2, ho, hk⟩
        have HN := Lib.hid (HF.out.three h1 h2 ho hk)
        clear HF hHeld h1 h2 ho hk
        refine hK.out _ _ ?_ (fun hHeld => ?_)
        · exact ⟨(HB0.out.1.keep HN.out.1).cell 0, (HB0.out.1.keep HN.out.1).cell 1, (HB0.out.1.keep HN.out.1).cell 2, (HB0.out.2.keep HN.out.1).cell 0, (HB0.out.2.keep HN.out.1).cell 1, (HB0.out.2.keep HN.out.1).cell 2⟩
        clear hK K
        try simp only [Act.put, List.setIfInBounds_toArray, List.set_cons_zero, List.set_cons_succ]
        refine heldY 5 30 ?_
        refine heldY 6 36 ?_
        refine heldY 7 37 ?_
        refine heldY 8 38 ?_
        revert hHeld
        revert HN
        revert Vu
        revert cs4u
        revert c4u
        revert A4u
        revert g3u
        revert g2u
        revert wn
        exact key7.out
      · intro wz g2u g3u A4u c4u cs4u HF hHeld
        refine wpAnyH_ready (rs := [9]) (by kernel_rfl) (by simp) ?_
        refine AllReadyH.cons rfl (fun K hK => ?_) AllReadyH.nil
        go_simp
        have HN := Lib.hid HF.out.allT
        clear HF hHeld
        refine hK.out _ _ ?_ (fun hHeld => ?_)
        · exact ⟨(HB0.out.1.keep HN.out.1).cell 0, (HB0.out.1.keep HN.out.1).cell 1, (HB0.out.1.keep HN.out.1).cell 2, (HB0.out.2.keep HN.out.1).cell 0, (HB0.out.2.keep HN.out.1).cell 1, (HB0.out.2.keep HN.out.1).cell 2⟩
        clear hK K
        try simp only [Act.put, List.setIfInBounds_toArray, List.set_cons_zero, List.set_cons_succ]
        generalize wz.heap.size = Vu at HN ⊢
        generalize World.alloc wz _ = wn at HN hHeld ⊢
        revert hHeld
        revert HN
        revert Vu
        revert cs4u
        revert c4u
        revert A4u
        revert g3u
        revert g2u
        revert wn
        exact key7.out
      · intro wz g2u g3u A4u c4u cs4u Vu HF hHeld
        obtain ⟨lv, t0, t1⟩ := HF.out.vars
        have la0 := HA.out.1.lt
        have lb0 := HB.out.1.lt
        have m1' : w.heap.size ≠ Vu := by omega
        have m2' : w.heap.size + 1 ≠ Vu := by omega
        refine wpAnyH_ready (rs := [10]) (by kernel_rfl) (by simp) ?_
        refine AllReadyH.cons rfl (fun K hK => ?_) AllReadyH.nil
        go_simp
        refine hK.out _ _ ?_ (fun hHeld => ?_)
        · exact ⟨cell_far1 hHeld.1 m1', cell_far1 hHeld.2.1 m1', cell_far1 hHeld.2.2.1 m1', cell_far1 hHeld.2.2.2.1 m2', cell_far1 hHeld.2.2.2.2.1 m2', cell_far1 hHeld.2.2.2.2.2 m2'⟩
        clear hK K
        try simp only [Act.put, List.setIfInBounds_toArray, List.set_cons_zero, List.set_cons_succ]
        refine heldY 11 7 ?_
        refine heldY 12 8 ?_
        clear t0 t1 m1' m2' lv la0 lb0 hHeld
        refine wpAnyH_done (by kernel_rfl) ?_ _
        obtain ⟨hiHW, hx, hk, rHW, eHW⟩ := HF.out.pack HA.out.2.2.2
        have SHW := Lib.hid (HF.out.2.2.2.1 (by omega)).1.2
        generalize World.setCell _ _ _ = wf at hx hk eHW ⊢
        replace HA := Lib.hid (HA.out.keep hk)
        replace HB := Lib.hid (HB.out.keep hk)
        have HW := Lib.hid hx
        clear hx hk HF HB0 eHW
        obtain ⟨bHA, cHA, dHA⟩ := HA.out.cells
        have lHA := HA.out.1.lt
        obtain ⟨bHB, cHB, dHB⟩ := HB.out.cells
        have lHB := HB.out.1.lt
        have bHW := HW.out.cell
        have lHW := HW.out.2.1.lt
        go_wp2_with fail
        have hp := HW.out.2.2.2.2.1
        clear bHA cHA dHA lHA bHB cHB dHB lHB bHW lHW
        refine (toSave_any _ _ _ _ _ _ _ HLHA.out HA.out.row hn).mono ?_
        rintro e w4 ⟨g3, rfl, ho, hk⟩
        obtain ⟨loHX, hiHX, hx, qHX, rHX, sHX⟩ : ∃ lo hi, SvV w w4.heap.size a0f0 a0f2 (some ⟨g3, 0, none⟩) n0f1 n0f1 p0f1 lo hi (w4.alloc (.cells #[.int .i64 a0f0, .slice (some ⟨g3, 0, none⟩) n0f1 n0f1, .int .i64 a0f2] 35)) ∧ hiHW ≤ lo ∧ lo ≤ hi ∧ hi ≤ w4.heap.size := ⟨_, _, SvV.start HA.out.2.2.2 HLHA.out ho hk, hp, hk.size, Nat.le_refl _⟩
        replace HA := Lib.hid (HA.out.keep hk)
        replace HB := Lib.hid (HB.out.keep hk)
        replace HW := Lib.hid (HW.out.keep hk)
        obtain ⟨bHA, cHA, dHA⟩ := HA.out.cells
        have lHA := HA.out.1.lt
        obtain ⟨bHB, cHB, dHB⟩ := HB.out.cells
        have lHB := HB.out.1.lt
        have bHW := HW.out.cell
        have lHW := HW.out.2.1.lt
        replace HA := Lib.hid (HA.out.keep (grown_alloc (grown_refl w4 none) (.cells #[.int .i64 a0f0, .slice (some ⟨g3, 0, none⟩) n0f1 n0f1, .int .i64 a0f2] 35)))
        replace HB := Lib.hid (HB.out.keep (grown_alloc (grown_refl w4 none) (.cells #[.int .i64 a0f0, .slice (some ⟨g3, 0, none⟩) n0f1 n0f1, .int .i64 a0f2] 35)))
        replace HW := Lib.hid (HW.out.keep (grown_alloc (grown_refl w4 none) (.cells #[.int .i64 a0f0, .slice (some ⟨g3, 0, none⟩) n0f1 n0f1, .int .i64 a0f2] 35)))
        have HX := Lib.hid hx
        clear hk ho hx hp
        go_wp2_with fail
        have hp := HX.out.1.lt
        clear bHA cHA dHA lHA bHB cHB dHB lHB bHW lHW
        refine (toSave_any _ _ _ _ _ _ _ HLHB.out HB.out.row hn2).mono ?_
        rintro e w5 ⟨g5, rfl, ho, hk⟩
        obtain ⟨loHY, hiHY, hx, qHY, rHY, sHY⟩ : ∃ lo hi, SvV w w5.heap.size a1f0 a1f2 (some ⟨g5, 0, none⟩) n1f1 n1f1 p1f1 lo hi (w5.alloc (.cells #[.int .i64 a1f0, .slice (some ⟨g5, 0, none⟩) n1f1 n1f1, .int .i64 a1f2] 35)) ∧ w4.heap.size < lo ∧ lo ≤ hi ∧ hi ≤ w5.heap.size := ⟨_, _, SvV.start HA.out.2.2.2 HLHB.out ho hk, hp, hk.size, Nat.le_refl _⟩
        replace HA := Lib.hid (HA.out.keep hk)
        replace HB := Lib.hid (HB.out.keep hk)
        replace HW := Lib.hid (HW.out.keep hk)
        replace HX := Lib.hid (HX.out.keep hk)
        obtain ⟨bHA, cHA, dHA⟩ := HA.out.cells
        have lHA := HA.out.1.lt
        obtain ⟨bHB, cHB, dHB⟩ := HB.out.cells
        have lHB := HB.out.1.lt
        obtain ⟨bHX, cHX, dHX⟩ := HX.out.cells
        have lHX := HX.out.1.lt
        have bHW := HW.out.cell
        have lHW := HW.out.2.1.lt
        replace HA := Lib.hid (HA.out.keep (grown_alloc (grown_refl w5 none) (.cells #[.int .i64 a1f0, .slice (some ⟨g5, 0, none⟩) n1f1 n1f1, .int .i64 a1f2] 35)))
        replace HB := Lib.hid (HB.out.keep (grown_alloc (grown_refl w5 none) (.cells #[.int .i64 a1f0, .slice (some ⟨g5, 0, none⟩) n1f1 n1f1, .int .i64 a1f2] 35)))
        replace HW := Lib.hid (HW.out.keep (grown_alloc (grown_refl w5 none) (.cells #[.int .i64 a1f0, .slice (some ⟨g5, 0, none⟩) n1f1 n1f1, .int .i64 a1f2] 35)))
        replace HX := Lib.hid (HX.out.keep (grown_alloc (grown_refl w5 none) (.cells #[.int .i64 a1f0, .slice (some ⟨g5, 0, none⟩) n1f1 n1f1, .int .i64 a1f2] 35)))
        have HY := Lib.hid hx
        clear hk ho hx hp
        go_wp2_with fail
        have hp := HY.out.1.lt
        clear bHA cHA dHA lHA bHB cHB dHB lHB bHX cHX dHX lHX bHW lHW
        refine ((newer_val HI.out.1 HX.out.2.1.2.1 HX.out.row hn HY.out.2.1.2.1 HY.out.row hn2).mono fun _ _ q => NewMade.to q HI.out.2).mono ?_
        rintro e w6 ⟨A6, c6, cs6, rfl, hl, hs, ho, hk⟩
        obtain ⟨loHG, hiHG, hx, qHG, rHG, sHG⟩ : ∃ lo hi, VT w w6.heap.size A6 n1 c6 cs6 lo hi (w6.alloc (.cells #[.slice A6 n1 c6] 31)) ∧ w5.heap.size < lo ∧ lo ≤ hi ∧ hi ≤ w6.heap.size := ⟨_, _, VT.start HA.out.2.2.2 hl ho hk, hp, hk.size, Nat.le_refl _⟩
        replace HA := Lib.hid (HA.out.keep hk)
        replace HB := Lib.hid (HB.out.keep hk)
        replace HW := Lib.hid (HW.out.keep hk)
        replace HX := Lib.hid (HX.out.keep hk)
        replace HY := Lib.hid (HY.out.keep hk)
        obtain ⟨bHA, cHA, dHA⟩ := HA.out.cells
        have lHA := HA.out.1.lt
        obtain ⟨bHB, cHB, dHB⟩ := HB.out.cells
        have lHB := HB.out.1.lt
        obtain ⟨bHX, cHX, dHX⟩ := HX.out.cells
        have lHX := HX.out.1.lt
        obtain ⟨bHY, cHY, dHY⟩ := HY.out.cells
        have lHY := HY.out.1.lt
        have bHW := HW.out.cell
        have lHW := HW.out.2.1.lt
        replace HA := Lib.hid (HA.out.keep (grown_alloc (grown_refl w6 none) (.cells #[.slice A6 n1 c6] 31)))
        replace HB := Lib.hid (HB.out.keep (grown_alloc (grown_refl w6 none) (.cells #[.slice A6 n1 c6] 31)))
        replace HW := Lib.hid (HW.out.keep (grown_alloc (grown_refl w6 none) (.cells #[.slice A6 n1 c6] 31)))
        replace HX := Lib.hid (HX.out.keep (grown_alloc (grown_refl w6 none) (.cells #[.slice A6 n1 c6] 31)))
        replace HY := Lib.hid (HY.out.keep (grown_alloc (grown_refl w6 none) (.cells #[.slice A6 n1 c6] 31)))
        have HG := Lib.hid hx
        have SHG := Lib.hid hs
        clear hk hl hs ho hx hp
        go_wp2_with fail
        clear bHA cHA dHA lHA bHB cHB dHB lHB bHX cHX dHX lHX bHY cHY dHY lHY bHW lHW
        refine (eqTable_same _ _ _ _ _ _ _ _ HG.out.2.2.1 (SHG.out.trans SHW.out.symm) HG.out.row HW.out.row hn1 (by rw [SHG.out]; exact HT.out)).mono ?_
        rintro e w7 ⟨rfl, hk⟩
        replace HA := Lib.hid (HA.out.keep hk)
        replace HB := Lib.hid (HB.out.keep hk)
        replace HW := Lib.hid (HW.out.keep hk)
        replace HX := Lib.hid (HX.out.keep hk)
        replace HY := Lib.hid (HY.out.keep hk)
        replace HG := Lib.hid (HG.out.keep hk)
        clear hk
        obtain ⟨bHA, cHA, dHA⟩ := HA.out.cells
        have lHA := HA.out.1.lt
        obtain ⟨bHB, cHB, dHB⟩ := HB.out.cells
        have lHB := HB.out.1.lt
        obtain ⟨bHX, cHX, dHX⟩ := HX.out.cells
        have lHX := HX.out.1.lt
        obtain ⟨bHY, cHY, dHY⟩ := HY.out.cells
        have lHY := HY.out.1.lt
        have bHG := HG.out.cell
        have lHG := HG.out.1.lt
        have bHW := HW.out.cell
        have lHW := HW.out.2.1.lt
        go_wp2_with fail
        refine wp_region_held_drew (S := (fun w' => w'.cell? ⟨w4.heap.size, 0, none⟩ = some (.int .i64 a0f0) ∧ w'.cell? ⟨w4.heap.size, 1, none⟩ = some (.slice (some ⟨g3, 0, none⟩) n0f1 n0f1) ∧ w'.cell? ⟨w4.heap.size, 2, none⟩ = some (.int .i64 a0f2) ∧ w'.cell? ⟨w.heap.size, 0, none⟩ = some (.int .i64 a0f0) ∧ w'.cell? ⟨w.heap.size, 1, none⟩ = some (.slice a0f1 n0f1 c0f1) ∧ w'.cell? ⟨w.heap.size, 2, none⟩ = some (.int .i64 a0f2))) (by kernel_rfl) ?_ (fun hHeld => ?_)
        · exact ⟨bHX, cHX, dHX, bHA, cHA, dHA⟩
        replace HA := Lib.hid (HA.out.keep (grown_drew (grown_refl _ none)))
        replace HB := Lib.hid (HB.out.keep (grown_drew (grown_refl _ none)))
        replace HW := Lib.hid (HW.out.keep (grown_drew (grown_refl _ none)))
        replace HX := Lib.hid (HX.out.keep (grown_drew (grown_refl _ none)))
        replace HY := Lib.hid (HY.out.keep (grown_drew (grown_refl _ none)))
        replace HG := Lib.hid (HG.out.keep (grown_drew (grown_refl _ none)))
        refine heldY 0 64 ?_
        refine heldY 1 65 ?_
        refine wpAnyH_ready (rs := [2]) (by kernel_rfl) (by simp) ?_
        refine AllReadyH.cons rfl (fun K hK => ?_) AllReadyH.nil
        go_simp
        go_at_call 37
        clear bHA cHA dHA lHA bHB cHB dHB lHB bHX cHX dHX lHX bHY cHY dHY lHY bHG lHG bHW lHW
        refine (toSave_any _ _ _ _ _ _ _ HLHA.out HA.out.row hn).mono ?_
        rintro e w8 ⟨g7, rfl, ho, hk⟩
        replace HA := Lib.hid (HA.out.keep hk)
        replace HB := Lib.hid (HB.out.keep hk)
        replace HW := Lib.hid (HW.out.keep hk)
        replace HX := Lib.hid (HX.out.keep hk)
        replace HY := Lib.hid (HY.out.keep hk)
        replace HG := Lib.hid (HG.out.keep hk)
        have HR7 := Lib.hid (VOwn.row ho)
        clear hk ho
        obtain ⟨bHA, cHA, dHA⟩ := HA.out.cells
        have lHA := HA.out.1.lt
        obtain ⟨bHB, cHB, dHB⟩ := HB.out.cells
        have lHB := HB.out.1.lt
        obtain ⟨bHX, cHX, dHX⟩ := HX.out.cells
        have lHX := HX.out.1.lt
        obtain ⟨bHY, cHY, dHY⟩ := HY.out.cells
        have lHY := HY.out.1.lt
        have bHG := HG.out.cell
        have lHG := HG.out.1.lt
        have bHW := HW.out.cell
        have lHW := HW.out.2.1.lt
        refine hK.out _ _ ?_ (fun hHeld => ?_)
        · exact ⟨bHX, cHX, dHX, bHA, cHA, dHA⟩
        clear hK K
        try simp only [Act.put, List.setIfInBounds_toArray, List.set_cons_zero, List.set_cons_succ]
        refine wpAnyH_ready (rs := [3]) (by kernel_rfl) (by simp) ?_
        refine AllReadyH.cons rfl (fun K hK => ?_) AllReadyH.nil
        go_simp
        go_at_call 31
        clear bHA cHA dHA lHA bHB cHB dHB lHB bHX cHX dHX lHX bHY cHY dHY lHY bHG lHG bHW lHW
        refine (eqSave_same _ _ _ _ _ _ _ _ _ HX.out.2.1.2.1 HX.out.row HR7.out hn).mono ?_
        rintro e w9 ⟨rfl, hk⟩
        replace HA := Lib.hid (HA.out.keep hk)
        replace HB := Lib.hid (HB.out.keep hk)
        replace HW := Lib.hid (HW.out.keep hk)
        replace HX := Lib.hid (HX.out.keep hk)
        replace HY := Lib.hid (HY.out.keep hk)
        replace HG := Lib.hid (HG.out.keep hk)
        clear hk
        obtain ⟨bHA, cHA, dHA⟩ := HA.out.cells
        have lHA := HA.out.1.lt
        obtain ⟨bHB, cHB, dHB⟩ := HB.out.cells
        have lHB := HB.out.1.lt
        obtain ⟨bHX, cHX, dHX⟩ := HX.out.cells
        have lHX := HX.out.1.lt
        obtain ⟨bHY, cHY, dHY⟩ := HY.out.cells
        have lHY := HY.out.1.lt
        have bHG := HG.out.cell
        have lHG := HG.out.1.lt
        have bHW := HW.out.cell
        have lHW := HW.out.2.1.lt
        refine hK.out _ _ ?_ (fun hHeld => ?_)
        · exact ⟨bHX, cHX, dHX, bHA, cHA, dHA⟩
        clear hK K
        try simp only [Act.put, List.setIfInBounds_toArray, List.set_cons_zero, List.set_cons_succ]
        refine heldY 4 68 ?_
        refine wpAnyH_done (by kernel_rfl) ?_ _
        go_wp2_with fail
        refine wp_region_held_drew (S := (fun w' => w'.cell? ⟨w5.heap.size, 0, none⟩ = some (.int .i64 a1f0) ∧ w'.cell? ⟨w5.heap.size, 1, none⟩ = some (.slice (some ⟨g5, 0, none⟩) n1f1 n1f1) ∧ w'.cell? ⟨w5.heap.size, 2, none⟩ = some (.int .i64 a1f2) ∧ w'.cell? ⟨w.heap.size + 1, 0, none⟩ = some (.int .i64 a1f0) ∧ w'.cell? ⟨w.heap.size + 1, 1, none⟩ = some (.slice a1f1 n1f1 c1f1) ∧ w'.cell? ⟨w.heap.size + 1, 2, none⟩ = some (.int .i64 a1f2))) (by kernel_rfl) ?_ (fun hHeld => ?_)
        · exact ⟨bHY, cHY, dHY, bHB, cHB, dHB⟩
        replace HA := Lib.hid (HA.out.keep (grown_drew (grown_refl _ none)))
        replace HB := Lib.hid (HB.out.keep (grown_drew (grown_refl _ none)))
        replace HW := Lib.hid (HW.out.keep (grown_drew (grown_refl _ none)))
        replace HX := Lib.hid (HX.out.keep (grown_drew (grown_refl _ none)))
        replace HY := Lib.hid (HY.out.keep (grown_drew (grown_refl _ none)))
        replace HG := Lib.hid (HG.out.keep (grown_drew (grown_refl _ none)))
        refine heldY 0 69 ?_
        refine heldY 1 70 ?_
        refine wpAnyH_ready (rs := [2]) (by kernel_rfl) (by simp) ?_
        refine AllReadyH.cons rfl (fun K hK => ?_) AllReadyH.nil
        go_simp
        go_at_call 37
        clear bHA cHA dHA lHA bHB cHB dHB lHB bHX cHX dHX lHX bHY cHY dHY lHY bHG lHG bHW lHW
        refine (toSave_any _ _ _ _ _ _ _ HLHB.out HB.out.row hn2).mono ?_
        rintro e w10 ⟨g8, rfl, ho, hk⟩
        replace HA := Lib.hid (HA.out.keep hk)
        replace HB := Lib.hid (HB.out.keep hk)
        replace HW := Lib.hid (HW.out.keep hk)
        replace HX := Lib.hid (HX.out.keep hk)
        replace HY := Lib.hid (HY.out.keep hk)
        replace HG := Lib.hid (HG.out.keep hk)
        have HR8 := Lib.hid (VOwn.row ho)
        clear hk ho
        obtain ⟨bHA, cHA, dHA⟩ := HA.out.cells
        have lHA := HA.out.1.lt
        obtain ⟨bHB, cHB, dHB⟩ := HB.out.cells
        have lHB := HB.out.1.lt
        obtain ⟨bHX, cHX, dHX⟩ := HX.out.cells
        have lHX := HX.out.1.lt
        obtain ⟨bHY, cHY, dHY⟩ := HY.out.cells
        have lHY := HY.out.1.lt
        have bHG := HG.out.cell
        have lHG := HG.out.1.lt
        have bHW := HW.out.cell
        have lHW := HW.out.2.1.lt
        refine hK.out _ _ ?_ (fun hHeld => ?_)
        · exact ⟨bHY, cHY, dHY, bHB, cHB, dHB⟩
        clear hK K
        try simp only [Act.put, List.setIfInBounds_toArray, List.set_cons_zero, List.set_cons_succ]
        refine wpAnyH_ready (rs := [3]) (by kernel_rfl) (by simp) ?_
        refine AllReadyH.cons rfl (fun K hK => ?_) AllReadyH.nil
        go_simp
        go_at_call 31
        clear bHA cHA dHA lHA bHB cHB dHB lHB bHX cHX dHX lHX bHY cHY dHY lHY bHG lHG bHW lHW
        refine (eqSave_same _ _ _ _ _ _ _ _ _ HY.out.2.1.2.1 HY.out.row HR8.out hn2).mono ?_
        rintro e w11 ⟨rfl, hk⟩
        replace HA := Lib.hid (HA.out.keep hk)
        replace HB := Lib.hid (HB.out.keep hk)
        replace HW := Lib.hid (HW.out.keep hk)
        replace HX := Lib.hid (HX.out.keep hk)
        replace HY := Lib.hid (HY.out.keep hk)
        replace HG := Lib.hid (HG.out.keep hk)
        clear hk
        obtain ⟨bHA, cHA, dHA⟩ := HA.out.cells
        have lHA := HA.out.1.lt
        obtain ⟨bHB, cHB, dHB⟩ := HB.out.cells
        have lHB := HB.out.1.lt
        obtain ⟨bHX, cHX, dHX⟩ := HX.out.cells
        have lHX := HX.out.1.lt
        obtain ⟨bHY, cHY, dHY⟩ := HY.out.cells
        have lHY := HY.out.1.lt
        have bHG := HG.out.cell
        have lHG := HG.out.1.lt
        have bHW := HW.out.cell
        have lHW := HW.out.2.1.lt
        refine hK.out _ _ ?_ (fun hHeld => ?_)
        · exact ⟨bHY, cHY, dHY, bHB, cHB, dHB⟩
        clear hK K
        try simp only [Act.put, List.setIfInBounds_toArray, List.set_cons_zero, List.set_cons_succ]
        refine heldY 4 73 ?_
        refine wpAnyH_done (by kernel_rfl) ?_ _
        go_wp2_with fail
        obtain ⟨KX, hKX⟩ : ∃ K, K = 1 + n0f1 := ⟨_, rfl⟩
        obtain ⟨KY, hKY⟩ : ∃ K, K = KX + n1f1 := ⟨_, rfl⟩
        have tKY : decide ((KY : Int) < 0) = false := decide_eq_false (by omega)
        have hKX7 : KX ≤ 7000000 := by omega
        have HKX := Lib.hid (And.intro hKX hKY)
        clear hKX hKY
        clear bHA cHA dHA lHA bHB cHB dHB lHB bHX cHX dHX lHX bHY cHY dHY lHY bHG lHG bHW lHW
        refine (markSave_1 HKX.out.1 HX.out hn).mono ?_
        rintro e w12 ⟨rfl, hk⟩
        have hxlo := HX.out.2.1.2.2.2.2.1
        replace HA := Lib.hid (HA.out.marked hxlo (by omega) hk)
        replace HB := Lib.hid (HB.out.marked hxlo (by omega) hk)
        replace HW := Lib.hid (HW.out.marked (by omega) hxlo hk)
        replace HY := Lib.hid (HY.out.marked (by omega) hxlo hk)
        replace HG := Lib.hid (HG.out.marked (by omega) hxlo hk)
        clear hk hxlo HX
        obtain ⟨bHA, cHA, dHA⟩ := HA.out.cells
        have lHA := HA.out.1.lt
        obtain ⟨bHB, cHB, dHB⟩ := HB.out.cells
        have lHB := HB.out.1.lt
        obtain ⟨bHY, cHY, dHY⟩ := HY.out.cells
        have lHY := HY.out.1.lt
        have bHG := HG.out.cell
        have lHG := HG.out.1.lt
        have bHW := HW.out.cell
        have lHW := HW.out.2.1.lt
        go_wp2_with fail
        clear bHA cHA dHA lHA bHB cHB dHB lHB bHY cHY dHY lHY bHG lHG bHW lHW
        refine (markSave_K hKX7 HKX.out.2 HY.out hn2).mono ?_
        rintro e w13 ⟨rfl, hk⟩
        have hxlo := HY.out.2.1.2.2.2.2.1
        replace HA := Lib.hid (HA.out.marked hxlo (by omega) hk)
        replace HB := Lib.hid (HB.out.marked hxlo (by omega) hk)
        replace HW := Lib.hid (HW.out.marked (by omega) hxlo hk)
        replace HG := Lib.hid (HG.out.marked (by omega) hxlo hk)
        clear hk hxlo HY
        obtain ⟨bHA, cHA, dHA⟩ := HA.out.cells
        have lHA := HA.out.1.lt
        obtain ⟨bHB, cHB, dHB⟩ := HB.out.cells
        have lHB := HB.out.1.lt
        have bHG := HG.out.cell
        have lHG := HG.out.1.lt
        have bHW := HW.out.cell
        have lHW := HW.out.2.1.lt
        go_wp2_with fail
        clear bHA cHA dHA lHA bHB cHB dHB lHB bHG lHG bHW lHW
        refine (eqTable_same _ _ _ _ _ _ _ _ HG.out.2.2.1 (SHG.out.trans SHW.out.symm) HG.out.row HW.out.row hn1 (by rw [SHG.out]; exact HT.out)).mono ?_
        rintro e w14 ⟨rfl, hk⟩
        replace HA := Lib.hid (HA.out.keep hk)
        replace HB := Lib.hid (HB.out.keep hk)
        replace HW := Lib.hid (HW.out.keep hk)
        replace HG := Lib.hid (HG.out.keep hk)
        clear hk
        obtain ⟨bHA, cHA, dHA⟩ := HA.out.cells
        have lHA := HA.out.1.lt
        obtain ⟨bHB, cHB, dHB⟩ := HB.out.cells
        have lHB := HB.out.1.lt
        have bHG := HG.out.cell
        have lHG := HG.out.1.lt
        have bHW := HW.out.cell
        have lHW := HW.out.2.1.lt
        go_wp2_with fail
        have MHG := Lib.hid (show ltot (ll cs6) ≤ 1048576 by rw [SHG.out]; exact HT.out)
        obtain ⟨vG, hvG⟩ : ∃ v : Int, v = ((lend 1 cs6 : Nat) : Int) := ⟨_, rfl⟩
        have tG : decide (vG < 0) = false := decide_eq_false (by omega)
        have HVG := Lib.hid (And.intro hvG tG)
        clear hvG
        clear bHA cHA dHA lHA bHB cHB dHB lHB bHG lHG bHW lHW
        refine (markTable_val HVG.out.1 HG.out hn1 MHG.out).mono ?_
        rintro e w15 ⟨rfl, ho, hk⟩
        have hxlo := HG.out.2.2.2.2.2.2.1
        replace HA := Lib.hid (HA.out.marked hxlo (by omega) hk)
        replace HB := Lib.hid (HB.out.marked hxlo (by omega) hk)
        replace HW := Lib.hid (HW.out.marked (by omega) hxlo hk)
        have LHG := Lib.hid HG.out.2.2.1
        replace HG := Lib.hid (HG.out.self ho hk)
        clear ho hk hxlo
        obtain ⟨bHA, cHA, dHA⟩ := HA.out.cells
        have lHA := HA.out.1.lt
        obtain ⟨bHB, cHB, dHB⟩ := HB.out.cells
        have lHB := HB.out.1.lt
        have bHG := HG.out.cell
        have lHG := HG.out.1.lt
        have bHW := HW.out.cell
        have lHW := HW.out.2.1.lt
        go_wp2_with fail
        clear bHA cHA dHA lHA bHB cHB dHB lHB bHG lHG bHW lHW
        refine (heldTable_val HVG.out.1 HVG.out.2 LHG.out HG.out hn1 MHG.out).mono ?_
        rintro e w16 ⟨rfl, hk⟩
        replace HA := Lib.hid (HA.out.keep hk)
        replace HB := Lib.hid (HB.out.keep hk)
        replace HW := Lib.hid (HW.out.keep hk)
        replace HG := Lib.hid (HG.out.keep hk)
        clear hk
        obtain ⟨bHA, cHA, dHA⟩ := HA.out.cells
        have lHA := HA.out.1.lt
        obtain ⟨bHB, cHB, dHB⟩ := HB.out.cells
        have lHB := HB.out.1.lt
        have bHG := HG.out.cell
        have lHG := HG.out.1.lt
        have bHW := HW.out.cell
        have lHW := HW.out.2.1.lt
        have HB0 := Lib.hid (And.intro HA.out.1 HB.out.1)
        go_wp2_with fail
        clear bHA cHA dHA lHA bHB cHB dHB lHB bHG lHG bHW lHW
        apply mrg
        intro key7
        apply mrg
        intro key6
        apply mrg
        intro key5
        apply mrg
        intro key4
        apply mrg
        intro key3
        apply mrg
        intro key2
        apply mrg
        intro key1
        apply mrg
        intro key0
        · have HN := Lib.hid (NS.start w16 p0f1 p1f1 n1 T)
          refine wp_region_held_drew (S := (fun w' => w'.cell? ⟨w.heap.size, 0, none⟩ = some (.int .i64 a0f0) ∧ w'.cell? ⟨w.heap.size, 1, none⟩ = some (.slice a0f1 n0f1 c0f1) ∧ w'.cell? ⟨w.heap.size, 2, none⟩ = some (.int .i64 a0f2) ∧ w'.cell? ⟨w.heap.size + 1, 0, none⟩ = some (.int .i64 a1f0) ∧ w'.cell? ⟨w.heap.size + 1, 1, none⟩ = some (.slice a1f1 n1f1 c1f1) ∧ w'.cell? ⟨w.heap.size + 1, 2, none⟩ = some (.int .i64 a1f2))) (by kernel_rfl) ?_ (fun hHeld => ?_)
          · exact ⟨(HB0.out.1.keep HN.out.1).cell 0, (HB0.out.1.keep HN.out.1).cell 1, (HB0.out.1.keep HN.out.1).cell 2, (HB0.out.2.keep HN.out.1).cell 0, (HB0.out.2.keep HN.out.1).cell 1, (HB0.out.2.keep HN.out.1).cell 2⟩
          replace HN := Lib.hid (HN.out.keep (grown_drew (grown_refl _ none)))
          refine heldY 0 110 ?_
          refine heldY 2 112 ?_
          generalize World.drew _ = wn at HN hHeld ⊢
          revert hHeld
          revert HN
          revert wn
          exact key0.out
        · intro wz  HF hHeld
          refine wpAnyH_ready (rs := [1, 9]) (by kernel_rfl) (by simp) ?_
          refine AllReadyH.cons rfl (fun K hK => ?_) (AllReadyH.cons rfl (fun K hK => ?_) AllReadyH.nil)
          · go_simp
            go_at_call 37
            refine (toSave_any _ _ _ _ _ _ _ HLHA.out (HA.out.keep HF.out.1).row hn).mono ?_
            rintro e wn ⟨g2h, rfl, ho, hk⟩
            have HN := Lib.hid (HF.out.one ho hk)
            clear HF hHeld ho hk
            refine hK.out _ _ ?_ (fun hHeld => ?_)
            · exact ⟨(HB0.out.1.keep HN.out.1).cell 0, (HB0.out.1.keep HN.out.1).cell 1, (HB0.out.1.keep HN.out.1).cell 2, (HB0.out.2.keep HN.out.1).cell 0, (HB0.out.2.keep HN.out.1).cell 1, (HB0.out.2.keep HN.out.1).cell 2⟩
            clear hK K
            try simp only [Act.put, List.setIfInBounds_toArray, List.set_cons_zero, List.set_cons_succ]
            revert hHeld
            revert HN
            revert g2h
            revert wn
            exact key2.out
          · go_simp
            have HN := Lib.hid HF.out.allT
            clear HF hHeld
            refine hK.out _ _ ?_ (fun hHeld => ?_)
            · exact ⟨(HB0.out.1.keep HN.out.1).cell 0, (HB0.out.1.keep HN.out.1).cell 1, (HB0.out.1.keep HN.out.1).cell 2, (HB0.out.2.keep HN.out.1).cell 0, (HB0.out.2.keep HN.out.1).cell 1, (HB0.out.2.keep HN.out.1).cell 2⟩
            clear hK K
            try simp only [Act.put, List.setIfInBounds_toArray, List.set_cons_zero, List.set_cons_succ]
            generalize wz.heap.size = Vh at HN ⊢
            generalize World.alloc wz _ = wn at HN hHeld ⊢
            revert hHeld
            revert HN
            revert Vh
            revert wn
            exact key1.out
        · intro wz Vh HF hHeld
          refine wpAnyH_ready (rs := [1]) (by kernel_rfl) (by simp) ?_
          refine AllReadyH.cons rfl (fun K hK => ?_) AllReadyH.nil
          go_simp
          go_at_call 37
          refine (toSave_any _ _ _ _ _ _ _ HLHA.out (HA.out.keep HF.out.1).row hn).mono ?_
          rintro e wn ⟨g2h, rfl, ho, hk⟩
          have HN := Lib.hid (HF.out.one ho hk)
          clear HF hHeld ho hk
          refine hK.out _ _ ?_ (fun hHeld => ?_)
          · exact ⟨(HB0.out.1.keep HN.out.1).cell 0, (HB0.out.1.keep HN.out.1).cell 1, (HB0.out.1.keep HN.out.1).cell 2, (HB0.out.2.keep HN.out.1).cell 0, (HB0.out.2.keep HN.out.1).cell 1, (HB0.out.2.keep HN.out.1).cell 2⟩
          clear hK K
          try simp only [Act.put, List.setIfInBounds_toArray, List.set_cons_zero, List.set_cons_succ]
          revert hHeld
          revert HN
          revert Vh
          revert g2h
          revert wn
          exact key3.out
        · intro wz g2h HF hHeld
          refine wpAnyH_ready (rs := [3, 9]) (by kernel_rfl) (by simp) ?_
          refine AllReadyH.cons rfl (fun K hK => ?_) (AllReadyH.cons rfl (fun K hK => ?_) AllReadyH.nil)
          · go_simp
            go_at_call 37
            refine (toSave_any _ _ _ _ _ _ _ HLHB.out (HB.out.keep HF.out.1).row hn2).mono ?_
            rintro e wn ⟨g3h, rfl, ho, hk⟩
            have HN := Lib.hid (HF.out.two ho hk)
            clear HF hHeld ho hk
            refine hK.out _ _ ?_ (fun hHeld => ?_)
            · exact ⟨(HB0.out.1.keep HN.out.1).cell 0, (HB0.out.1.keep HN.out.1).cell 1, (HB0.out.1.keep HN.out.1).cell 2, (HB0.out.2.keep HN.out.1).cell 0, (HB0.out.2.keep HN.out.1).cell 1, (HB0.out.2.keep HN.out.1).cell 2⟩
            clear hK K
            try simp only [Act.put, List.setIfInBounds_toArray, List.set_cons_zero, List.set_cons_succ]
            revert hHeld
            revert HN
            revert g3h
            revert g2h
            revert wn
            exact key4.out
          · go_simp
            have HN := Lib.hid HF.out.allT
            clear HF hHeld
            refine hK.out _ _ ?_ (fun hHeld => ?_)
            · exact ⟨(HB0.out.1.keep HN.out.1).cell 0, (HB0.out.1.keep HN.out.1).cell 1, (HB0.out.1.keep HN.out.1).cell 2, (HB0.out.2.keep HN.out.1).cell 0, (HB0.out.2.keep HN.out.1).cell 1, (HB0.out.2.keep HN.out.1).cell 2⟩
            clear hK K
            try simp only [Act.put, List.setIfInBounds_toArray, List.set_cons_zero, List.set_cons_succ]
            generalize wz.heap.size = Vh at HN ⊢
            generalize World.alloc wz _ = wn at HN hHeld ⊢
            revert hHeld
            revert HN
            revert Vh
            revert g2h
            revert wn
            exact key3.out
        · intro wz g2h Vh HF hHeld
          refine wpAnyH_ready (rs := [3]) (by kernel_rfl) (by simp) ?_
          refine AllReadyH.cons rfl (fun K hK => ?_) AllReadyH.nil
          go_simp
          go_at_call 37
          refine (toSave_any _ _ _ _ _ _ _ HLHB.out (HB.out.keep HF.out.1).row hn2).mono ?_
          rintro e wn ⟨g3h, rfl, ho, hk⟩
          have HN := Lib.hid (HF.out.two ho hk)
          clear HF hHeld ho hk
          refine hK.out _ _ ?_ (fun hHeld => ?_)
          · exact ⟨(HB0.out.1.keep HN.out.1).cell 0, (HB0.out.1.keep HN.out.1).cell 1, (HB0.out.1.keep HN.out.1).cell 2, (HB0.out.2.keep HN.out.1).cell 0, (HB0.out.2.keep HN.out.1).cell 1, (HB0.out.2.keep HN.out.1).cell 2⟩
          clear hK K
          try simp only [Act.put, List.setIfInBounds_toArray, List.set_cons_zero, List.set_cons_succ]
          revert hHeld
          revert HN
          revert Vh
          revert g3h
          revert g2h
          revert wn
          exact key5.out
        · intro wz g2h g3h HF hHeld
          refine wpAnyH_ready (rs := [4, 9]) (by kernel_rfl) (by simp) ?_
          refine AllReadyH.cons rfl (fun K hK => ?_) (AllReadyH.cons rfl (fun K hK => ?_) AllReadyH.nil)
          · go_simp
            go_at_call 24
            refine ((newer_val HI.out.1 HLHA.out (HF.out.2.1 (by omega)) hn HLHB.out (HF.out.2.2.1 (by omega)) hn2).mono fun _ _ q => NewMade.to q HI.out.2).mono ?_
            rintro e wn ⟨A4h, c4h, cs4h, rfl, h1, h2, ho, hk⟩
            have HN := Lib.hid (HF.out.three h1 h2 ho hk)
            clear HF hHeld h1 h2 ho hk
            refine hK.out _ _ ?_ (fun hHeld => ?_)
            · exact ⟨(HB0.out.1.keep HN.out.1).cell 0, (HB0.out.1.keep HN.out.1).cell 1, (HB0.out.1.keep HN.out.1).cell 2, (HB0.out.2.keep HN.out.1).cell 0, (HB0.out.2.keep HN.out.1).cell 1, (HB0.out.2.keep HN.out.1).cell 2⟩
            clear hK K
            try simp only [Act.put, List.setIfInBounds_toArray, List.set_cons_zero, List.set_cons_succ]
            refine heldY 5 109 ?_
            refine heldY 6 115 ?_
            refine heldY 7 116 ?_
            refine heldY 8 117 ?_
            revert hHeld
            revert HN
            revert cs4h
            revert c4h
            revert A4h
            revert g3h
            revert g2h
            revert wn
            exact key6.out
          · go_simp
            have HN := Lib.hid HF.out.allT
            clear HF hHeld
            refine hK.out _ _ ?_ (fun hHeld => ?_)
            · exact ⟨(HB0.out.1.keep HN.out.1).cell 0, (HB0.out.1.keep HN.out.1).cell 1, (HB0.out.1.keep HN.out.1).cell 2, (HB0.out.2.keep HN.out.1).cell 0, (HB0.out.2.keep HN.out.1).cell 1, (HB0.out.2.keep HN.out.1).cell 2⟩
            clear hK K
            try simp only [Act.put, List.setIfInBounds_toArray, List.set_cons_zero, List.set_cons_succ]
            generalize wz.heap.size = Vh at HN ⊢
            generalize World.alloc wz _ = wn at HN hHeld ⊢
            revert hHeld
            revert HN
            revert Vh
            revert g3h
            revert g2h
            revert wn
            exact key5.out
        · intro wz g2h g3h Vh HF hHeld
          refine wpAnyH_ready (rs := [4]) (by kernel_rfl) (by simp) ?_
          refine AllReadyH.cons rfl (fun K hK => ?_) AllReadyH.nil
          go_simp
          go_at_call 24
          refine ((newer_val HI.out.1 HLHA.out (HF.out.2.1 (by omega)) hn HLHB.out (HF.out.2.2.1 (by omega)) hn2).mono fun _ _ q => NewMade.to q HI.out.2).mono ?_
          rintro e wn ⟨A4h, c4h, cs4h, rfl, h1, h2, ho, hk⟩
          have HN := Lib.hid (HF.out.three h1 h2 ho hk)
          clear HF hHeld h1 h2 ho hk
          refine hK.out _ _ ?_ (fun hHeld => ?_)
          · exact ⟨(HB0.out.1.keep HN.out.1).cell 0, (HB0.out.1.keep HN.out.1).cell 1, (HB0.out.1.keep HN.out.1).cell 2, (HB0.out.2.keep HN.out.1).cell 0, (HB0.out.2.keep HN.out.1).cell 1, (HB0.out.2.keep HN.out.1).cell 2⟩
          clear hK K
          try simp only [Act.put, List.setIfInBounds_toArray, List.set_cons_zero, List.set_cons_succ]
          refine heldY 5 109 ?_
          refine heldY 6 115 ?_
          refine heldY 7 116 ?_
          refine heldY 8 117 ?_
          revert hHeld
          revert HN
          revert Vh
          revert cs4h
          revert c4h
          revert A4h
          revert g3h
          revert g2h
          revert wn
          exact key7.out
        · intro wz g2h g3h A4h c4h cs4h HF hHeld
          refine wpAnyH_ready (rs := [9]) (by kernel_rfl) (by simp) ?_
          refine AllReadyH.cons rfl (fun K hK => ?_) AllReadyH.nil
          go_simp
          have HN := Lib.hid HF.out.allT
          clear HF hHeld
          refine hK.out _ _ ?_ (fun hHeld => ?_)
          · exact ⟨(HB0.out.1.keep HN.out.1).cell 0, (HB0.out.1.keep HN.out.1).cell 1, (HB0.out.1.keep HN.out.1).cell 2, (HB0.out.2.keep HN.out.1).cell 0, (HB0.out.2.keep HN.out.1).cell 1, (HB0.out.2.keep HN.out.1).cell 2⟩
          clear hK K
          try simp only [Act.put, List.setIfInBounds_toArray, List.set_cons_zero, List.set_cons_succ]
          generalize wz.heap.size = Vh at HN ⊢
          generalize World.alloc wz _ = wn at HN hHeld ⊢
          revert hHeld
          revert HN
          revert Vh
          revert cs4h
          revert c4h
          revert A4h
          revert g3h
          revert g2h
          revert wn
          exact key7.out
        · intro wz g2h g3h A4h c4h cs4h Vh HF hHeld
          obtain ⟨lv, t0, t1⟩ := HF.out.vars
          have la0 := HA.out.1.lt
          have lb0 := HB.out.1.lt
          have m1' : w.heap.size ≠ Vh := by omega
          have m2' : w.heap.size + 1 ≠ Vh := by omega
          refine wpAnyH_ready (rs := [10]) (by kernel_rfl) (by simp) ?_
          refine AllReadyH.cons rfl (fun K hK => ?_) AllReadyH.nil
          go_simp
          refine hK.out _ _ ?_ (fun hHeld => ?_)
          · exact ⟨cell_far1 hHeld.1 m1', cell_far1 hHeld.2.1 m1', cell_far1 hHeld.2.2.1 m1', cell_far1 hHeld.2.2.2.1 m2', cell_far1 hHeld.2.2.2.2.1 m2', cell_far1 hHeld.2.2.2.2.2 m2'⟩
          clear hK K
          try simp only [Act.put, List.setIfInBounds_toArray, List.set_cons_zero, List.set_cons_succ]
          refine heldY 11 18 ?_
          refine heldY 12 19 ?_
          clear t0 t1 m1' m2' lv la0 lb0 hHeld
          refine wpAnyH_done (by kernel_rfl) ?_ _
          obtain ⟨hiHH, hx, hk, rHH, eHH⟩ := HF.out.pack HA.out.2.2.2
          have SHH := Lib.hid (HF.out.2.2.2.1 (by omega)).1.2
          generalize World.setCell _ _ _ = wf at hx hk eHH ⊢
          replace HA := Lib.hid (HA.out.keep hk)
          replace HB := Lib.hid (HB.out.keep hk)
          replace HW := Lib.hid (HW.out.keep hk)
          replace HG := Lib.hid (HG.out.keep hk)
          have HH := Lib.hid hx
          clear hx hk HF HB0 eHH
          obtain ⟨bHA, cHA, dHA⟩ := HA.out.cells
          have lHA := HA.out.1.lt
          obtain ⟨bHB, cHB, dHB⟩ := HB.out.cells
          have lHB := HB.out.1.lt
          have bHG := HG.out.cell
          have lHG := HG.out.1.lt
          have bHW := HW.out.cell
          have lHW := HW.out.2.1.lt
          have bHH := HH.out.cell
          have lHH := HH.out.2.1.lt
          go_wp2_with fail
          clear bHA cHA dHA lHA bHB cHB dHB lHB bHG lHG bHW lHW bHH lHH
          refine (eqTable_same _ _ _ _ _ _ _ _ HH.out.1.2 (SHH.out.trans SHW.out.symm) HH.out.row HW.out.row hn1 (by rw [SHH.out]; exact HT.out)).mono ?_
          rintro e w18 ⟨rfl, hk⟩
          replace HA := Lib.hid (HA.out.keep hk)
          replace HB := Lib.hid (HB.out.keep hk)
          replace HW := Lib.hid (HW.out.keep hk)
          replace HG := Lib.hid (HG.out.keep hk)
          replace HH := Lib.hid (HH.out.keep hk)
          clear hk
          obtain ⟨bHA, cHA, dHA⟩ := HA.out.cells
          have lHA := HA.out.1.lt
          obtain ⟨bHB, cHB, dHB⟩ := HB.out.cells
          have lHB := HB.out.1.lt
          have bHG := HG.out.cell
          have lHG := HG.out.1.lt
          have bHW := HW.out.cell
          have lHW := HW.out.2.1.lt
          have bHH := HH.out.cell
          have lHH := HH.out.2.1.lt
          go_wp2_with fail
          clear bHA cHA dHA lHA bHB cHB dHB lHB bHG lHG bHW lHW bHH lHH
          refine (heldTable_val HVG.out.1 HVG.out.2 LHG.out HG.out hn1 MHG.out).mono ?_
          rintro e w19 ⟨rfl, hk⟩
          replace HA := Lib.hid (HA.out.keep hk)
          replace HB := Lib.hid (HB.out.keep hk)
          replace HW := Lib.hid (HW.out.keep hk)
          replace HG := Lib.hid (HG.out.keep hk)
          replace HH := Lib.hid (HH.out.keep hk)
          clear hk
          obtain ⟨bHA, cHA, dHA⟩ := HA.out.cells
          have lHA := HA.out.1.lt
          obtain ⟨bHB, cHB, dHB⟩ := HB.out.cells
          have lHB := HB.out.1.lt
          have bHG := HG.out.cell
          have lHG := HG.out.1.lt
          have bHW := HW.out.cell
          have lHW := HW.out.2.1.lt
          have bHH := HH.out.cell
          have lHH := HH.out.2.1.lt
          go_wp2
          go_ret
          exact ⟨rfl, grown_below HA.out.2.2.2⟩

/-! ### THE ROW's STEP: WRITTEN OUT: LEAVE IT -/
set_option maxRecDepth 100000 in
theorem lifted (os : Os) (started : os.Started) (H : Type) (enc : TypeId × Value → H) :
    ReturnsInHanded {} Try.checked os 10 .any (Rows.fnExactNewerSaveSpec.pre6 enc Try.prog Try.f10 Rows.fnExactNewerSaveRow.domain false) (Rows.fnExactNewerSaveSpec.post enc Try.prog Try.f10 false true false false) := by
  refine returnsInHanded_of_change (C := Try.checked) own started (by kernel_rfl) Try.func10
    (ChangeSpec.witness6 (enc := enc) (C := Try.checked) false ⟨#[], #[.agg #[.int .i64 0, .slice none 0 0, .int .i64 0], .agg #[.int .i64 0, .slice none 0 0, .int .i64 0]], []⟩ 8 (by kernel_rfl) (by kernel_rfl) (by kernel_rfl) (by kernel_rfl)) ?_
  intro W base args ds gs before hval0 hW hcnd _
  have hval : ∀ (j : Nat) t v, Try.f10.params[j]? = some t → args[j]? = some v → Value.okWide Try.prog W .any base t v := hval0
  have hW' := hW
  obtain ⟨p, q, hA0, hV, rfl, hfz, hnd⟩ := hW
  have hA : DataW.TrodAll enc Try.prog W 0 (fun _ => true) true Try.f10.params.toList args.toList ds p := hA0
  rw [Try.params10] at hA hval
  obtain ⟨v0, vs0, d0, ds0, p0, q0, hargs, rfl, rfl, h0, r0⟩ := trodAll_cons hA
  obtain ⟨v1, vs1, d1, ds1, p1, q1, rfl, rfl, rfl, h1, r1⟩ := trodAll_cons r0
  obtain ⟨rfl, rfl, rfl⟩ := trodAll_nil r1
  obtain rfl : args = #[v0, v1] := by cases args; simp_all
  obtain ⟨rfl, rfl⟩ := trodVars_none hV
  have k0 := h0
  have lt0 : ∀ x ∈ p0, x.block < W.heap.size := by obtain ⟨m, hm⟩ := k0; exact DataW.trod_lt m _ _ _ hm
  obtain ⟨c0, rfl, l0, f0⟩ := open_agg Try.underlying56 (by kernel_rfl) (by kernel_rfl) (hval 0 56 v0 rfl rfl) h0
  obtain ⟨v0f0, v0f1, v0f2, rfl⟩ := list3 l0
  obtain ⟨n0f0, y0f0, t0f0⟩ := f0 0 _ _ rfl rfl
  obtain ⟨a0f0, e0f0, _, w0f0⟩ := DataW.trod_int Try.underlying3 t0f0
  obtain ⟨rfl, _⟩ := List.cons.inj e0f0
  obtain ⟨n0f1, y0f1, t0f1⟩ := f0 1 _ _ rfl rfl
  obtain ⟨a0f1, n0f1, c0f1, p0f1, rfl, w0f1⟩ := open_intsT t0f1
  obtain ⟨n0f2, y0f2, t0f2⟩ := f0 2 _ _ rfl rfl
  obtain ⟨a0f2, e0f2, _, w0f2⟩ := DataW.trod_int Try.underlying3 t0f2
  obtain ⟨rfl, _⟩ := List.cons.inj e0f2
  have k1 := h1
  have lt1 : ∀ x ∈ p1, x.block < W.heap.size := by obtain ⟨m, hm⟩ := k1; exact DataW.trod_lt m _ _ _ hm
  obtain ⟨c1, rfl, l1, f1⟩ := open_agg Try.underlying56 (by kernel_rfl) (by kernel_rfl) (hval 1 56 v1 rfl rfl) h1
  obtain ⟨v1f0, v1f1, v1f2, rfl⟩ := list3 l1
  obtain ⟨n1f0, y1f0, t1f0⟩ := f1 0 _ _ rfl rfl
  obtain ⟨a1f0, e1f0, _, w1f0⟩ := DataW.trod_int Try.underlying3 t1f0
  obtain ⟨rfl, _⟩ := List.cons.inj e1f0
  obtain ⟨n1f1, y1f1, t1f1⟩ := f1 1 _ _ rfl rfl
  obtain ⟨a1f1, n1f1, c1f1, p1f1, rfl, w1f1⟩ := open_intsT t1f1
  obtain ⟨n1f2, y1f2, t1f2⟩ := f1 2 _ _ rfl rfl
  obtain ⟨a1f2, e1f2, _, w1f2⟩ := DataW.trod_int Try.underlying3 t1f2
  obtain ⟨rfl, _⟩ := List.cons.inj e1f2
  clear hA0 hval0
  refine (walk a0f0 a0f1 n0f1 c0f1 p0f1 a0f2 a1f0 a1f1 n1f1 c1f1 p1f1 a1f2 W w0f0 w0f1 w0f2 w1f0 w1f1 w1f2).mono fun e W' ⟨he, bel⟩ => ?_
  subst he
  exact ⟨_, rfl, _, _, _, [], _, [], hW', trodAll_mk1 (shut_bool Try.underlying4 _), (trodAll_cons_mk (Below.trod laidOut (by kernel_rfl) (of_decide_eq_true (by kernel_rfl)) k0 bel lt0) (trodAll_cons_mk (Below.trod laidOut (by kernel_rfl) (of_decide_eq_true (by kernel_rfl)) k1 bel lt1) trodAll_mk0)), rfl, bel.frame _, fun h => by cases h⟩

theorem over : Rows.fnExactNewerSaveRow.holds Try.pinned (OpenSpec.ofChange Rows.fnExactNewerSaveSpec) :=
  OpenClaim.holds_of_wide 10 Try.f10 rfl rfl rfl rfl rfl rfl rfl ⟨rfl, rfl, rfl, rfl, rfl⟩ rfl rfl rfl rfl rfl (by kernel_rfl) Try.func10 (by kernel_rfl)
    (of_decide_eq_true (by kernel_rfl)) (by unfold Func.isWrapper; first | (rw [if_pos (by decide +kernel)]; kernel_rfl) | (rw [if_neg (by decide +kernel)]; exact ⟨rfl, rfl⟩))
    (fun os started H enc _ => lifted os started H enc)

/-- ████ THE STATEMENT ████ -/
theorem proved : Rows.FnExactNewerSaveSaid := over
#print axioms proved
end Go.Proofs.Ytlldmbocaloogaa.fnExactNewerSave
