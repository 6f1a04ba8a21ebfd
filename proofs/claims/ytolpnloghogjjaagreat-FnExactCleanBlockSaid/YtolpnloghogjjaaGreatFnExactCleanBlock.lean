/- CleanBlock answers as its model for every device, table, heads, block and stamp, in every field, leaves its arguments as they were, and its answer owns its memory: proved.
   Conditions: none beyond the row's own reading of the input. The frame was written by the guide's proof-skeleton; the walk is ours. -/
import Derived.Test.YtolpnloghogjjaaGreatAgg
import Derived.Test.YtolpnloghogjjaaGreatAggRows
import Derived.Test.YtolpnloghogjjaaGreatLawClean
import Derived.Test.YtolpnloghogjjaaGreatLawTabs
import Derived.Test.YtolpnloghogjjaaGreatExactHeads
import Derived.Test.YtolpnloghogjjaaGreatHand
import Derived.Test.YtolpnloghogjjaaGreatRows
import Derived.WalkKit
import Derived.ProofKit
import Derived.OpenShut
import Derived.ShutString
import Derived.ChangeOld
import Derived.Below
namespace Go.Proofs.YtolpnloghogjjaaGreat.fnExactCleanBlock
open Go.ChangeShapes Go.WideShapes Go.ChangeAt Go.RowKit
open Go.ChangeMaps (open_string shut_string)
set_option linter.unusedVariables false
set_option linter.unusedSimpArgs false

theorem own : ownKnob Tryz.prog.godebug = none := by kernel_rfl
theorem laidOut : laidOutB Tryz.prog = true := by kernel_rfl

/-- WHAT THE WALK IS TOLD OF A SLICE OF INTEGERS THAT CAME IN: it is nil; or it leads to a row of 'cap' cells, the numbers 'zs' (the first 'len' are its elements, the rest its spare room), each fitting its kind. -/
def IsRow (k : IntKind) (w : World) (a : Option Addr) (len cap : Nat) (zs : List Int) : Prop :=
  (a = none ∧ len = 0 ∧ cap = 0 ∧ zs = []) ∨
  ∃ x, a = some x ∧ len ≤ cap ∧ cap ≤ maxLen ∧ zs.length = cap ∧ (∀ i, i < zs.length → w.cell? (x.add i) = some (.int k (zs.getD i 0))) ∧ ∀ n ∈ zs, (Lit.int k n).wf = true

/-! ### STEP 1: THE WALK: the Go text returns true, AND WRITES NOTHING THAT WAS THERE: 'Below w.heap.size w w'' (Derived/Below.lean: '.refl', '.alloc', '.drew', '.setCell' at a new block, '.trans'). Open each 'IsRow' by 'rcases' AHEAD of 'go_enter'; part every test ahead of the walk. -/
set_option maxHeartbeats 16000000 in
set_option maxRecDepth 100000 in
theorem walk (a0 : Option Addr) (n0 c0 : Nat) (b0 : List Bk) (a1f0 : Option Addr) (n1f0 c1f0 : Nat) (p1f0 : List Li) (a2f0 : Int) (a2f1 : Int) (a2f2 : Int) (a3 : Int) (a4 : Int) (w : World) (w0 : IsBlocks w a0 n0 c0 b0) (w1f0 : IsLists w a1f0 n1f0 c1f0 p1f0) (w2f0 : (Lit.int .i64 a2f0).wf = true) (w2f1 : (Lit.int .i64 a2f1).wf = true) (w2f2 : (Lit.int .i64 a2f2).wf = true) (w3 : (Lit.int .i64 a3).wf = true) (w4 : (Lit.int .i64 a4).wf = true) :
    Calls Tryz.prog 4 #[.slice a0 n0 c0, .agg #[.slice a1f0 n1f0 c1f0], .agg #[.int .i64 a2f0, .int .i64 a2f1, .int .i64 a2f2], .int .i64 a3, .int .i64 a4] w fun e w' => e = .returned (.bool true) ∧ Below w.heap.size w w' := by
  obtain ⟨n1, l1, m1, T1, y1, y2, y3, mv, r, hri, hn1, htl, hm1, h6, hl1, hT1⟩ := clean_is w0.1 (ll p1f0) a2f0 a2f1 a2f2 a3 a4
  have HI := Lib.hid hri
  have HT := Lib.hid (And.intro htl (ltot_few hT1 hm1 h6))
  have hn1' : n1 ≤ 1048576 := by omega
  have hm1' : m1 ≤ 1048576 := by omega
  have tmv : (mv != mv) = false := by simp
  have trr : (r != r) = false := by simp
  clear hri htl h6 hl1 hT1
  have HA := Lib.hid ((VA.arg w1f0).keep (grown_alloc (grown_refl _ none) (.cells #[.int .i64 a2f0, .int .i64 a2f1, .int .i64 a2f2] 49)))
  have HD := Lib.hid ((VD.arg w0).keep (grown_alloc (grown_alloc (grown_refl _ none) (.cells #[.slice a1f0 n1f0 c1f0] 48)) (.cells #[.int .i64 a2f0, .int .i64 a2f1, .int .i64 a2f2] 49)))
  have HQ : RowKit.Hid (Blk (World.alloc (World.alloc w (.cells #[.slice a1f0 n1f0 c1f0] 48)) (.cells #[.int .i64 a2f0, .int .i64 a2f1, .int .i64 a2f2] 49)) (w.heap.size + 1) 49 #[.int .i64 a2f0, .int .i64 a2f1, .int .i64 a2f2]) := Lib.hid (by have h1 := Blk.new (World.alloc w (.cells #[.slice a1f0 n1f0 c1f0] 48)) 49 #[.int .i64 a2f0, .int .i64 a2f1, .int .i64 a2f2]; rw [size_alloc1] at h1; exact h1)
  have HZ := Lib.hid (And.intro (IsBlocks.alloc (IsBlocks.alloc w0 (.cells #[.slice a1f0 n1f0 c1f0] 48)) (.cells #[.int .i64 a2f0, .int .i64 a2f1, .int .i64 a2f2] 49)) ((w1f0.alloc (.cells #[.slice a1f0 n1f0 c1f0] 48)).alloc (.cells #[.int .i64 a2f0, .int .i64 a2f1, .int .i64 a2f2] 49)))
  have HL := Lib.hid w0.1
  have HLHA := Lib.hid w1f0.1
  clear w0 w1f0
  go_enter Tryz.func4, Tryz.ntmps4
  go_wp2_with fail
  refine (szBlockS_le _ _ _ _ _ HZ.out.1).mono ?_
  rintro e w1 ⟨v, rfl, hk, hv⟩
  replace HA := Lib.hid (HA.out.keep hk)
  replace HD := Lib.hid (HD.out.keep hk)
  replace HQ := Lib.hid (HQ.out.keep hk)
  replace HZ := Lib.hid (HZ.out.2.keep hk)
  rcases hv with rfl | ⟨hv0, hvL, hnd, htd⟩
  · clear hk
    go_wp2
    go_ret
    exact ⟨rfl, grown_below HA.out.2.2.2⟩
  · have tv : decide (v < 0) = false := decide_eq_false (by omega)
    have HP := Lib.hid (And.intro (small_tot htd) htd)
    clear hk htd
    have bHA := HA.out.cell
    have lHA := HA.out.1.lt
    obtain ⟨p0, p1, p2⟩ := cells3 HQ.out
    go_wp2_with fail
    clear tv
    clear bHA lHA p0 p1 p2
    refine (szTable_any _ _ _ _ _ _ HZ.out hv0 hvL).mono ?_
    rintro e w2 ⟨u, rfl, hk, hv⟩
    replace HA := Lib.hid (HA.out.keep hk)
    replace HD := Lib.hid (HD.out.keep hk)
    replace HQ := Lib.hid (HQ.out.keep hk)
    rcases hv with rfl | ⟨hu0, huL, hn, ht⟩
    · clear hk
      go_wp2
      go_ret
      exact ⟨rfl, grown_below HA.out.2.2.2⟩
    · have tu : decide (u < 0) = false := decide_eq_false (by omega)
      have HPHA := Lib.hid (And.intro (small_ll ht) ht)
      clear hk ht
      have bHA := HA.out.cell
      have lHA := HA.out.1.lt
      obtain ⟨p0, p1, p2⟩ := cells3 HQ.out
      have HB0 := Lib.hid (And.intro HA.out.1 HQ.out)
      go_wp2_with fail
      clear bHA lHA p0 p1 p2
      apply mrg
      intro key19
      apply mrg
      intro key18
      apply mrg
      intro key17
      apply mrg
      intro key16
      apply mrg
      intro key15
      apply mrg
      intro key14
      apply mrg
      intro key13
      apply mrg
      intro key12
      apply mrg
      intro key11
      apply mrg
      intro key10
      apply mrg
      intro key9
      apply mrg
      intro key8
      apply mrg
      intro key7
      apply mrg
      intro key6
      apply mrg
      intro key5
      apply mrg
      intro key4
      apply mrg
      intro key3
      apply mrg
      intro key2
      apply mrg
      intro key1
      apply mrg
      intro key0
      · have HN := Lib.hid (FS.start w2 n0 b0 n1f0 p1f0 n1 l1 m1 T1)
        refine wp_region_held_drew (S := (fun w' => w'.cell? ⟨w.heap.size, 0, none⟩ = some (.slice a1f0 n1f0 c1f0) ∧ w'.cell? ⟨w.heap.size + 1, 0, none⟩ = some (.int .i64 a2f0) ∧ w'.cell? ⟨w.heap.size + 1, 1, none⟩ = some (.int .i64 a2f1) ∧ w'.cell? ⟨w.heap.size + 1, 2, none⟩ = some (.int .i64 a2f2))) (by kernel_rfl) ?_ (fun hHeld => ?_)
        · exact ⟨(HB0.out.1.keep HN.out.1).cell 0, (HB0.out.2.keep HN.out.1).cell 0, (HB0.out.2.keep HN.out.1).cell 1, (HB0.out.2.keep HN.out.1).cell 2⟩
        replace HN := Lib.hid (HN.out.keep (grown_drew (grown_refl _ none)))
        refine heldY 0 43 ?_
        refine heldY 2 45 ?_
        refine heldY 4 47 ?_
        refine heldY 6 49 ?_
        refine heldY 7 50 ?_
        generalize World.drew _ = wn at HN hHeld ⊢
        revert hHeld
        revert HN
        revert wn
        exact key0.out
      · intro wz  HF hHeld
        refine wpAnyH_ready (rs := [1, 15, 16]) (by kernel_rfl) (by simp) ?_
        refine AllReadyH.cons rfl (fun K hK => ?_) (AllReadyH.cons rfl (fun K hK => ?_) (AllReadyH.cons rfl (fun K hK => ?_) AllReadyH.nil))
        · go_simp
          go_at_call 18
          refine (toBlockS_any _ _ _ _ _ HL.out (HD.out.keep HF.out.1).row hnd HP.out.1).mono ?_
          rintro e wn ⟨A2u, c2u, cs2u, rfl, hl, hs, ho, hk⟩
          have HN := Lib.hid (HF.out.dev hl hs ho hk)
          clear HF hHeld hl hs ho hk
          refine hK.out _ _ ?_ (fun hHeld => ?_)
          · exact ⟨(HB0.out.1.keep HN.out.1).cell 0, (HB0.out.2.keep HN.out.1).cell 0, (HB0.out.2.keep HN.out.1).cell 1, (HB0.out.2.keep HN.out.1).cell 2⟩
          clear hK K
          try simp only [Act.put, List.setIfInBounds_toArray, List.set_cons_zero, List.set_cons_succ]
          revert hHeld
          revert HN
          revert cs2u
          revert c2u
          revert A2u
          revert wn
          exact key3.out
        · go_simp
          have HN := Lib.hid HF.out.allT
          clear HF hHeld
          refine hK.out _ _ ?_ (fun hHeld => ?_)
          · exact ⟨(HB0.out.1.keep HN.out.1).cell 0, (HB0.out.2.keep HN.out.1).cell 0, (HB0.out.2.keep HN.out.1).cell 1, (HB0.out.2.keep HN.out.1).cell 2⟩
          clear hK K
          try simp only [Act.put, List.setIfInBounds_toArray, List.set_cons_zero, List.set_cons_succ]
          generalize wz.heap.size = Vu at HN ⊢
          generalize World.alloc wz _ = wn at HN hHeld ⊢
          revert hHeld
          revert HN
          revert Vu
          revert wn
          exact key2.out
        · go_simp
          have HN := Lib.hid HF.out.allH
          clear HF hHeld
          refine hK.out _ _ ?_ (fun hHeld => ?_)
          · exact ⟨(HB0.out.1.keep HN.out.1).cell 0, (HB0.out.2.keep HN.out.1).cell 0, (HB0.out.2.keep HN.out.1).cell 1, (HB0.out.2.keep HN.out.1).cell 2⟩
          clear hK K
          try simp only [Act.put, List.setIfInBounds_toArray, List.set_cons_zero, List.set_cons_succ]
          generalize wz.heap.size = Gu at HN ⊢
          generalize World.alloc wz _ = wn at HN hHeld ⊢
          revert hHeld
          revert HN
          revert Gu
          revert wn
          exact key1.out
      · intro wz Gu HF hHeld
        refine wpAnyH_ready (rs := [1, 15]) (by kernel_rfl) (by simp) ?_
        refine AllReadyH.cons rfl (fun K hK => ?_) (AllReadyH.cons rfl (fun K hK => ?_) AllReadyH.nil)
        · go_simp
          go_at_call 18
          refine (toBlockS_any _ _ _ _ _ HL.out (HD.out.keep HF.out.1).row hnd HP.out.1).mono ?_
          rintro e wn ⟨A2u, c2u, cs2u, rfl, hl, hs, ho, hk⟩
          have HN := Lib.hid (HF.out.dev hl hs ho hk)
          clear HF hHeld hl hs ho hk
          refine hK.out _ _ ?_ (fun hHeld => ?_)
          · exact ⟨(HB0.out.1.keep HN.out.1).cell 0, (HB0.out.2.keep HN.out.1).cell 0, (HB0.out.2.keep HN.out.1).cell 1, (HB0.out.2.keep HN.out.1).cell 2⟩
          clear hK K
          try simp only [Act.put, List.setIfInBounds_toArray, List.set_cons_zero, List.set_cons_succ]
          revert hHeld
          revert HN
          revert Gu
          revert cs2u
          revert c2u
          revert A2u
          revert wn
          exact key5.out
        · go_simp
          have HN := Lib.hid HF.out.allT
          clear HF hHeld
          refine hK.out _ _ ?_ (fun hHeld => ?_)
          · exact ⟨(HB0.out.1.keep HN.out.1).cell 0, (HB0.out.2.keep HN.out.1).cell 0, (HB0.out.2.keep HN.out.1).cell 1, (HB0.out.2.keep HN.out.1).cell 2⟩
          clear hK K
          try simp only [Act.put, List.setIfInBounds_toArray, List.set_cons_zero, List.set_cons_succ]
          generalize wz.heap.size = Vu at HN ⊢
          generalize World.alloc wz _ = wn at HN hHeld ⊢
          revert hHeld
          revert HN
          revert Gu
          revert Vu
          revert wn
          exact key4.out
      · intro wz Vu HF hHeld
        refine wpAnyH_ready (rs := [1, 16]) (by kernel_rfl) (by simp) ?_
        refine AllReadyH.cons rfl (fun K hK => ?_) (AllReadyH.cons rfl (fun K hK => ?_) AllReadyH.nil)
        · go_simp
          go_at_call 18
          refine (toBlockS_any _ _ _ _ _ HL.out (HD.out.keep HF.out.1).row hnd HP.out.1).mono ?_
          rintro e wn ⟨A2u, c2u, cs2u, rfl, hl, hs, ho, hk⟩
          have HN := Lib.hid (HF.out.dev hl hs ho hk)
          clear HF hHeld hl hs ho hk
          refine hK.out _ _ ?_ (fun hHeld => ?_)
          · exact ⟨(HB0.out.1.keep HN.out.1).cell 0, (HB0.out.2.keep HN.out.1).cell 0, (HB0.out.2.keep HN.out.1).cell 1, (HB0.out.2.keep HN.out.1).cell 2⟩
          clear hK K
          try simp only [Act.put, List.setIfInBounds_toArray, List.set_cons_zero, List.set_cons_succ]
          revert hHeld
          revert HN
          revert Vu
          revert cs2u
          revert c2u
          revert A2u
          revert wn
          exact key6.out
        · go_simp
          have HN := Lib.hid HF.out.allH
          clear HF hHeld
          refine hK.out _ _ ?_ (fun hHeld => ?_)
          · exact ⟨(HB0.out.1.keep HN.out.1).cell 0, (HB0.out.2.keep HN.out.1).cell 0, (HB0.out.2.keep HN.out.1).cell 1, (HB0.out.2.keep HN.out.1).cell 2⟩
          clear hK K
          try simp only [Act.put, List.setIfInBounds_toArray, List.set_cons_zero, List.set_cons_succ]
          generalize wz.heap.size = Gu at HN ⊢
          generalize World.alloc wz _ = wn at HN hHeld ⊢
          revert hHeld
          revert HN
          revert Gu
          revert Vu
          revert wn
          exact key4.out
      · intro wz A2u c2u cs2u HF hHeld
        refine wpAnyH_ready (rs := [3, 15, 16]) (by kernel_rfl) (by simp) ?_
        refine AllReadyH.cons rfl (fun K hK => ?_) (AllReadyH.cons rfl (fun K hK => ?_) (AllReadyH.cons rfl (fun K hK => ?_) AllReadyH.nil))
        · go_simp
          go_at_call 19
          refine (toTable_any _ _ _ _ _ HLHA.out (HA.out.keep HF.out.1).row hn HPHA.out.1).mono ?_
          rintro e wn ⟨A3u, c3u, cs3u, rfl, hl, hs, ho, hk⟩
          have HN := Lib.hid (HF.out.tabl hl hs ho hk)
          clear HF hHeld hl hs ho hk
          refine hK.out _ _ ?_ (fun hHeld => ?_)
          · exact ⟨(HB0.out.1.keep HN.out.1).cell 0, (HB0.out.2.keep HN.out.1).cell 0, (HB0.out.2.keep HN.out.1).cell 1, (HB0.out.2.keep HN.out.1).cell 2⟩
          clear hK K
          try simp only [Act.put, List.setIfInBounds_toArray, List.set_cons_zero, List.set_cons_succ]
          revert hHeld
          revert HN
          revert cs3u
          revert c3u
          revert A3u
          revert cs2u
          revert c2u
          revert A2u
          revert wn
          exact key7.out
        · go_simp
          have HN := Lib.hid HF.out.allT
          clear HF hHeld
          refine hK.out _ _ ?_ (fun hHeld => ?_)
          · exact ⟨(HB0.out.1.keep HN.out.1).cell 0, (HB0.out.2.keep HN.out.1).cell 0, (HB0.out.2.keep HN.out.1).cell 1, (HB0.out.2.keep HN.out.1).cell 2⟩
          clear hK K
          try simp only [Act.put, List.setIfInBounds_toArray, List.set_cons_zero, List.set_cons_succ]
          generalize wz.heap.size = Vu at HN ⊢
          generalize World.alloc wz _ = wn at HN hHeld ⊢
          revert hHeld
          revert HN
          revert Vu
          revert cs2u
          revert c2u
          revert A2u
          revert wn
          exact key6.out
        · go_simp
          have HN := Lib.hid HF.out.allH
          clear HF hHeld
          refine hK.out _ _ ?_ (fun hHeld => ?_)
          · exact ⟨(HB0.out.1.keep HN.out.1).cell 0, (HB0.out.2.keep HN.out.1).cell 0, (HB0.out.2.keep HN.out.1).cell 1, (HB0.out.2.keep HN.out.1).cell 2⟩
          clear hK K
          try simp only [Act.put, List.setIfInBounds_toArray, List.set_cons_zero, List.set_cons_succ]
          generalize wz.heap.size = Gu at HN ⊢
          generalize World.alloc wz _ = wn at HN hHeld ⊢
          revert hHeld
          revert HN
          revert Gu
          revert cs2u
          revert c2u
          revert A2u
          revert wn
          exact key5.out
      · intro wz Vu Gu HF hHeld
        refine wpAnyH_ready (rs := [1]) (by kernel_rfl) (by simp) ?_
        refine AllReadyH.cons rfl (fun K hK => ?_) AllReadyH.nil
        go_simp
        go_at_call 18
        refine (toBlockS_any _ _ _ _ _ HL.out (HD.out.keep HF.out.1).row hnd HP.out.1).mono ?_
        rintro e wn ⟨A2u, c2u, cs2u, rfl, hl, hs, ho, hk⟩
        have HN := Lib.hid (HF.out.dev hl hs ho hk)
        clear HF hHeld hl hs ho hk
        refine hK.out _ _ ?_ (fun hHeld => ?_)
        · exact ⟨(HB0.out.1.keep HN.out.1).cell 0, (HB0.out.2.keep HN.out.1).cell 0, (HB0.out.2.keep HN.out.1).cell 1, (HB0.out.2.keep HN.out.1).cell 2⟩
        clear hK K
        try simp only [Act.put, List.setIfInBounds_toArray, List.set_cons_zero, List.set_cons_succ]
        revert hHeld
        revert HN
        revert Gu
        revert Vu
        revert cs2u
        revert c2u
        revert A2u
        revert wn
        exact key8.out
      · intro wz A2u c2u cs2u Gu HF hHeld
        refine wpAnyH_ready (rs := [3, 15]) (by kernel_rfl) (by simp) ?_
        refine AllReadyH.cons rfl (fun K hK => ?_) (AllReadyH.cons rfl (fun K hK => ?_) AllReadyH.nil)
        · go_simp
          go_at_call 19
          refine (toTable_any _ _ _ _ _ HLHA.out (HA.out.keep HF.out.1).row hn HPHA.out.1).mono ?_
          rintro e wn ⟨A3u, c3u, cs3u, rfl, hl, hs, ho, hk⟩
          have HN := Lib.hid (HF.out.tabl hl hs ho hk)
          clear HF hHeld hl hs ho hk
          refine hK.out _ _ ?_ (fun hHeld => ?_)
          · exact ⟨(HB0.out.1.keep HN.out.1).cell 0, (HB0.out.2.keep HN.out.1).cell 0, (HB0.out.2.keep HN.out.1).cell 1, (HB0.out.2.keep HN.out.1).cell 2⟩
          clear hK K
          try simp only [Act.put, List.setIfInBounds_toArray, List.set_cons_zero, List.set_cons_succ]
          revert hHeld
          revert HN
          revert Gu
          revert cs3u
          revert c3u
          revert A3u
          revert cs2u
          revert c2u
          revert A2u
          revert wn
          exact key9.out
        · go_simp
          have HN := Lib.hid HF.out.allT
          clear HF hHeld
          refine hK.out _ _ ?_ (fun hHeld => ?_)
          · exact ⟨(HB0.out.1.keep HN.out.1).cell 0, (HB0.out.2.keep HN.out.1).cell 0, (HB0.out.2.keep HN.out.1).cell 1, (HB0.out.2.keep HN.out.1).cell 2⟩
          clear hK K
          try simp only [Act.put, List.setIfInBounds_toArray, List.set_cons_zero, List.set_cons_succ]
          generalize wz.heap.size = Vu at HN ⊢
          generalize World.alloc wz _ = wn at HN hHeld ⊢
          revert hHeld
          revert HN
          revert Gu
          revert Vu
          revert cs2u
          revert c2u
          revert A2u
          revert wn
          exact key8.out
      · intro wz A2u c2u cs2u Vu HF hHeld
        refine wpAnyH_ready (rs := [3, 16]) (by kernel_rfl) (by simp) ?_
        refine AllReadyH.cons rfl (fun K hK => ?_) (AllReadyH.cons rfl (fun K hK => ?_) AllReadyH.nil)
        · go_simp
          go_at_call 19
          refine (toTable_any _ _ _ _ _ HLHA.out (HA.out.keep HF.out.1).row hn HPHA.out.1).mono ?_
          rintro e wn ⟨A3u, c3u, cs3u, rfl, hl, hs, ho, hk⟩
          have HN := Lib.hid (HF.out.tabl hl hs ho hk)
          clear HF hHeld hl hs ho hk
          refine hK.out _ _ ?_ (fun hHeld => ?_)
          · exact ⟨(HB0.out.1.keep HN.out.1).cell 0, (HB0.out.2.keep HN.out.1).cell 0, (HB0.out.2.keep HN.out.1).cell 1, (HB0.out.2.keep HN.out.1).cell 2⟩
          clear hK K
          try simp only [Act.put, List.setIfInBounds_toArray, List.set_cons_zero, List.set_cons_succ]
          revert hHeld
          revert HN
          revert Vu
          revert cs3u
          revert c3u
          revert A3u
          revert cs2u
          revert c2u
          revert A2u
          revert wn
          exact key10.out
        · go_simp
          have HN := Lib.hid HF.out.allH
          clear HF hHeld
          refine hK.out _ _ ?_ (fun hHeld => ?_)
          · exact ⟨(HB0.out.1.keep HN.out.1).cell 0, (HB0.out.2.keep HN.out.1).cell 0, (HB0.out.2.keep HN.out.1).cell 1, (HB0.out.2.keep HN.out.1).cell 2⟩
          clear hK K
          try simp only [Act.put, List.setIfInBounds_toArray, List.set_cons_zero, List.set_cons_succ]
          generalize wz.heap.size = Gu at HN ⊢
          generalize World.alloc wz _ = wn at HN hHeld ⊢
          revert hHeld
          revert HN
          revert Gu
          revert Vu
          revert cs2u
          revert c2u
          revert A2u
          revert wn
          exact key8.out
      · intro wz A2u c2u cs2u A3u c3u cs3u HF hHeld
        refine wpAnyH_ready (rs := [5, 15, 16]) (by kernel_rfl) (by simp) ?_
        refine AllReadyH.cons rfl (fun K hK => ?_) (AllReadyH.cons rfl (fun K hK => ?_) (AllReadyH.cons rfl (fun K hK => ?_) AllReadyH.nil))
        · go_simp
          go_at_call 20
          refine (toHeads_any _ _ _ _).mono ?_
          rintro e wn ⟨rfl, hk⟩
          have HN := Lib.hid (HF.out.hds hk)
          clear HF hHeld hk
          refine hK.out _ _ ?_ (fun hHeld => ?_)
          · exact ⟨(HB0.out.1.keep HN.out.1).cell 0, (HB0.out.2.keep HN.out.1).cell 0, (HB0.out.2.keep HN.out.1).cell 1, (HB0.out.2.keep HN.out.1).cell 2⟩
          clear hK K
          try simp only [Act.put, List.setIfInBounds_toArray, List.set_cons_zero, List.set_cons_succ]
          revert hHeld
          revert HN
          revert cs3u
          revert c3u
          revert A3u
          revert cs2u
          revert c2u
          revert A2u
          revert wn
          exact key11.out
        · go_simp
          have HN := Lib.hid HF.out.allT
          clear HF hHeld
          refine hK.out _ _ ?_ (fun hHeld => ?_)
          · exact ⟨(HB0.out.1.keep HN.out.1).cell 0, (HB0.out.2.keep HN.out.1).cell 0, (HB0.out.2.keep HN.out.1).cell 1, (HB0.out.2.keep HN.out.1).cell 2⟩
          clear hK K
          try simp only [Act.put, List.setIfInBounds_toArray, List.set_cons_zero, List.set_cons_succ]
          generalize wz.heap.size = Vu at HN ⊢
          generalize World.alloc wz _ = wn at HN hHeld ⊢
          revert hHeld
          revert HN
          revert Vu
          revert cs3u
          revert c3u
          revert A3u
          revert cs2u
          revert c2u
          revert A2u
          revert wn
          exact key10.out
        · go_simp
          have HN := Lib.hid HF.out.allH
          clear HF hHeld
          refine hK.out _ _ ?_ (fun hHeld => ?_)
          · exact ⟨(HB0.out.1.keep HN.out.1).cell 0, (HB0.out.2.keep HN.out.1).cell 0, (HB0.out.2.keep HN.out.1).cell 1, (HB0.out.2.keep HN.out.1).cell 2⟩
          clear hK K
          try simp only [Act.put, List.setIfInBounds_toArray, List.set_cons_zero, List.set_cons_succ]
          generalize wz.heap.size = Gu at HN ⊢
          generalize World.alloc wz _ = wn at HN hHeld ⊢
          revert hHeld
          revert HN
          revert Gu
          revert cs3u
          revert c3u
          revert A3u
          revert cs2u
          revert c2u
          revert A2u
          revert wn
          exact key9.out
      · intro wz A2u c2u cs2u Vu Gu HF hHeld
        refine wpAnyH_ready (rs := [3]) (by kernel_rfl) (by simp) ?_
        refine AllReadyH.cons rfl (fun K hK => ?_) AllReadyH.nil
        go_simp
        go_at_call 19
        refine (toTable_any _ _ _ _ _ HLHA.out (HA.out.keep HF.out.1).row hn HPHA.out.1).mono ?_
        rintro e wn ⟨A3u, c3u, cs3u, rfl, hl, hs, ho, hk⟩
        have HN := Lib.hid (HF.out.tabl hl hs ho hk)
        clear HF hHeld hl hs ho hk
        refine hK.out _ _ ?_ (fun hHeld => ?_)
        · exact ⟨(HB0.out.1.keep HN.out.1).cell 0, (HB0.out.2.keep HN.out.1).cell 0, (HB0.out.2.keep HN.out.1).cell 1, (HB0.out.2.keep HN.out.1).cell 2⟩
        clear hK K
        try simp only [Act.put, List.setIfInBounds_toArray, List.set_cons_zero, List.set_cons_succ]
        revert hHeld
        revert HN
        revert Gu
        revert Vu
        revert cs3u
        revert c3u
        revert A3u
        revert cs2u
        revert c2u
        revert A2u
        revert wn
        exact key12.out
      · intro wz A2u c2u cs2u A3u c3u cs3u Gu HF hHeld
        refine wpAnyH_ready (rs := [5, 15]) (by kernel_rfl) (by simp) ?_
        refine AllReadyH.cons rfl (fun K hK => ?_) (AllReadyH.cons rfl (fun K hK => ?_) AllReadyH.nil)
        · go_simp
          go_at_call 20
          refine (toHeads_any _ _ _ _).mono ?_
          rintro e wn ⟨rfl, hk⟩
          have HN := Lib.hid (HF.out.hds hk)
          clear HF hHeld hk
          refine hK.out _ _ ?_ (fun hHeld => ?_)
          · exact ⟨(HB0.out.1.keep HN.out.1).cell 0, (HB0.out.2.keep HN.out.1).cell 0, (HB0.out.2.keep HN.out.1).cell 1, (HB0.out.2.keep HN.out.1).cell 2⟩
          clear hK K
          try simp only [Act.put, List.setIfInBounds_toArray, List.set_cons_zero, List.set_cons_succ]
          revert hHeld
          revert HN
          revert Gu
          revert cs3u
          revert c3u
          revert A3u
          revert cs2u
          revert c2u
          revert A2u
          revert wn
          exact key13.out
        · go_simp
          have HN := Lib.hid HF.out.allT
          clear HF hHeld
          refine hK.out _ _ ?_ (fun hHeld => ?_)
          · exact ⟨(HB0.out.1.keep HN.out.1).cell 0, (HB0.out.2.keep HN.out.1).cell 0, (HB0.out.2.keep HN.out.1).cell 1, (HB0.out.2.keep HN.out.1).cell 2⟩
          clear hK K
          try simp only [Act.put, List.setIfInBounds_toArray, List.set_cons_zero, List.set_cons_succ]
          generalize wz.heap.size = Vu at HN ⊢
          generalize World.alloc wz _ = wn at HN hHeld ⊢
          revert hHeld
          revert HN
          revert Gu
          revert Vu
          revert cs3u
          revert c3u
          revert A3u
          revert cs2u
          revert c2u
          revert A2u
          revert wn
          exact key12.out
      · intro wz A2u c2u cs2u A3u c3u cs3u Vu HF hHeld
        refine wpAnyH_ready (rs := [5, 16]) (by kernel_rfl) (by simp) ?_
        refine AllReadyH.cons rfl (fun K hK => ?_) (AllReadyH.cons rfl (fun K hK => ?_) AllReadyH.nil)
        · go_simp
          go_at_call 20
          refine (toHeads_any _ _ _ _).mono ?_
          rintro e wn ⟨rfl, hk⟩
          have HN := Lib.hid (HF.out.hds hk)
          clear HF hHeld hk
          refine hK.out _ _ ?_ (fun hHeld => ?_)
          · exact ⟨(HB0.out.1.keep HN.out.1).cell 0, (HB0.out.2.keep HN.out.1).cell 0, (HB0.out.2.keep HN.out.1).cell 1, (HB0.out.2.keep HN.out.1).cell 2⟩
          clear hK K
          try simp only [Act.put, List.setIfInBounds_toArray, List.set_cons_zero, List.set_cons_succ]
          revert hHeld
          revert HN
          revert Vu
          revert cs3u
          revert c3u
          revert A3u
          revert cs2u
          revert c2u
          revert A2u
          revert wn
          exact key14.out
        · go_simp
          have HN := Lib.hid HF.out.allH
          clear HF hHeld
          refine hK.out _ _ ?_ (fun hHeld => ?_)
          · exact ⟨(HB0.out.1.keep HN.out.1).cell 0, (HB0.out.2.keep HN.out.1).cell 0, (HB0.out.2.keep HN.out.1).cell 1, (HB0.out.2.keep HN.out.1).cell 2⟩
          clear hK K
          try simp only [Act.put, List.setIfInBounds_toArray, List.set_cons_zero, List.set_cons_succ]
          generalize wz.heap.size = Gu at HN ⊢
          generalize World.alloc wz _ = wn at HN hHeld ⊢
          revert hHeld
          revert HN
          revert Gu
          revert Vu
          revert cs3u
          revert c3u
          revert A3u
          revert cs2u
          revert c2u
          revert A2u
          revert wn
          exact key12.out
      · intro wz A2u c2u cs2u A3u c3u cs3u HF hHeld
        refine wpAnyH_ready (rs := [8, 15, 16]) (by kernel_rfl) (by simp) ?_
        refine AllReadyH.cons rfl (fun K hK => ?_) (AllReadyH.cons rfl (fun K hK => ?_) (AllReadyH.cons rfl (fun K hK => ?_) AllReadyH.nil))
        · go_simp
          go_at_call 7
          refine (specClean_val (CleanIs.of HI.out (HF.out.2.1 (by omega)).2.1 (HF.out.2.2.1 (by omega)).2.1) (HF.out.2.1 (by omega)).1 (HF.out.2.1 (by omega)).2.2 hnd (small_is (HF.out.2.1 (by omega)).2.1 HP.out.1) (HF.out.2.2.1 (by omega)).1 (HF.out.2.2.1 (by omega)).2.2 hn (small_cp (HF.out.2.2.1 (by omega)).2.1 HPHA.out.2)).mono ?_
          rintro e wn ⟨D4u, d4u, cs4u, B4u, e4u, ts4u, rfl, hx, hd, ht, hk⟩
          have HN := Lib.hid (HF.out.clean hx hd ht hk)
          clear HF hHeld hx hd ht hk
          refine hK.out _ _ ?_ (fun hHeld => ?_)
          · exact ⟨(HB0.out.1.keep HN.out.1).cell 0, (HB0.out.2.keep HN.out.1).cell 0, (HB0.out.2.keep HN.out.1).cell 1, (HB0.out.2.keep HN.out.1).cell 2⟩
          clear hK K
          try simp only [Act.put, List.setIfInBounds_toArray, List.set_cons_zero, List.set_cons_succ]
          refine heldY 9 42 ?_
          refine heldY 10 52 ?_
          refine heldY 11 53 ?_
          refine heldY 12 54 ?_
          refine heldY 13 55 ?_
          refine heldY 14 56 ?_
          revert hHeld
          revert HN
          revert ts4u
          revert e4u
          revert B4u
          revert cs4u
          revert d4u
          revert D4u
          revert cs3u
          revert c3u
          revert A3u
          revert cs2u
          revert c2u
          revert A2u
          revert wn
          exact key15.out
        · go_simp
          have HN := Lib.hid HF.out.allT
          clear HF hHeld
          refine hK.out _ _ ?_ (fun hHeld => ?_)
          · exact ⟨(HB0.out.1.keep HN.out.1).cell 0, (HB0.out.2.keep HN.out.1).cell 0, (HB0.out.2.keep HN.out.1).cell 1, (HB0.out.2.keep HN.out.1).cell 2⟩
          clear hK K
          try simp only [Act.put, List.setIfInBounds_toArray, List.set_cons_zero, List.set_cons_succ]
          generalize wz.heap.size = Vu at HN ⊢
          generalize World.alloc wz _ = wn at HN hHeld ⊢
          revert hHeld
          revert HN
          revert Vu
          revert cs3u
          revert c3u
          revert A3u
          revert cs2u
          revert c2u
          revert A2u
          revert wn
          exact key14.out
        · go_simp
          have HN := Lib.hid HF.out.allH
          clear HF hHeld
          refine hK.out _ _ ?_ (fun hHeld => ?_)
          · exact ⟨(HB0.out.1.keep HN.out.1).cell 0, (HB0.out.2.keep HN.out.1).cell 0, (HB0.out.2.keep HN.out.1).cell 1, (HB0.out.2.keep HN.out.1).cell 2⟩
          clear hK K
          try simp only [Act.put, List.setIfInBounds_toArray, List.set_cons_zero, List.set_cons_succ]
          generalize wz.heap.size = Gu at HN ⊢
          generalize World.alloc wz _ = wn at HN hHeld ⊢
          revert hHeld
          revert HN
          revert Gu
          revert cs3u
          revert c3u
          revert A3u
          revert cs2u
          revert c2u
          revert A2u
          revert wn
          exact key13.out
      · intro wz A2u c2u cs2u A3u c3u cs3u Vu Gu HF hHeld
        refine wpAnyH_ready (rs := [5]) (by kernel_rfl) (by simp) ?_
        refine AllReadyH.cons rfl (fun K hK => ?_) AllReadyH.nil
        go_simp
        go_at_call 20
        refine (toHeads_any _ _ _ _).mono ?_
        rintro e wn ⟨rfl, hk⟩
        have HN := Lib.hid (HF.out.hds hk)
        clear HF hHeld hk
        refine hK.out _ _ ?_ (fun hHeld => ?_)
        · exact ⟨(HB0.out.1.keep HN.out.1).cell 0, (HB0.out.2.keep HN.out.1).cell 0, (HB0.out.2.keep HN.out.1).cell 1, (HB0.out.2.keep HN.out.1).cell 2⟩
        clear hK K
        try simp only [Act.put, List.setIfInBounds_toArray, List.set_cons_zero, List.set_cons_succ]
        revert hHeld
        revert HN
        revert Gu
        revert Vu
        revert cs3u
        revert c3u
        revert A3u
        revert cs2u
        revert c2u
        revert A2u
        revert wn
        exact key16.out
      · intro wz A2u c2u cs2u A3u c3u cs3u Gu HF hHeld
        refine wpAnyH_ready (rs := [8, 15]) (by kernel_rfl) (by simp) ?_
        refine AllReadyH.cons rfl (fun K hK => ?_) (AllReadyH.cons rfl (fun K hK => ?_) AllReadyH.nil)
        · go_simp
          go_at_call 7
          refine (specClean_val (CleanIs.of HI.out (HF.out.2.1 (by omega)).2.1 (HF.out.2.2.1 (by omega)).2.1) (HF.out.2.1 (by omega)).1 (HF.out.2.1 (by omega)).2.2 hnd (small_is (HF.out.2.1 (by omega)).2.1 HP.out.1) (HF.out.2.2.1 (by omega)).1 (HF.out.2.2.1 (by omega)).2.2 hn (small_cp (HF.out.2.2.1 (by omega)).2.1 HPHA.out.2)).mono ?_
          rintro e wn ⟨D4u, d4u, cs4u, B4u, e4u, ts4u, rfl, hx, hd, ht, hk⟩
          have HN := Lib.hid (HF.out.clean hx hd ht hk)
          clear HF hHeld hx hd ht hk
          refine hK.out _ _ ?_ (fun hHeld => ?_)
          · exact ⟨(HB0.out.1.keep HN.out.1).cell 0, (HB0.out.2.keep HN.out.1).cell 0, (HB0.out.2.keep HN.out.1).cell 1, (HB0.out.2.keep HN.out.1).cell 2⟩
          clear hK K
          try simp only [Act.put, List.setIfInBounds_toArray, List.set_cons_zero, List.set_cons_succ]
          refine heldY 9 42 ?_
          refine heldY 10 52 ?_
          refine heldY 11 53 ?_
          refine heldY 12 54 ?_
          refine heldY 13 55 ?_
          refine heldY 14 56 ?_
          revert hHeld
          revert HN
          revert Gu
          revert ts4u
          revert e4u
          revert B4u
          revert cs4u
          revert d4u
          revert D4u
          revert cs3u
          revert c3u
          revert A3u
          revert cs2u
          revert c2u
          revert A2u
          revert wn
          exact key17.out
        · go_simp
          have HN := Lib.hid HF.out.allT
          clear HF hHeld
          refine hK.out _ _ ?_ (fun hHeld => ?_)
          · exact ⟨(HB0.out.1.keep HN.out.1).cell 0, (HB0.out.2.keep HN.out.1).cell 0, (HB0.out.2.keep HN.out.1).cell 1, (HB0.out.2.keep HN.out.1).cell 2⟩
          clear hK K
          try simp only [Act.put, List.setIfInBounds_toArray, List.set_cons_zero, List.set_cons_succ]
          generalize wz.heap.size = Vu at HN ⊢
          generalize World.alloc wz _ = wn at HN hHeld ⊢
          revert hHeld
          revert HN
          revert Gu
          revert Vu
          revert cs3u
          revert c3u
          revert A3u
          revert cs2u
          revert c2u
          revert A2u
          revert wn
          exact key16.out
      · intro wz A2u c2u cs2u A3u c3u cs3u Vu HF hHeld
        refine wpAnyH_ready (rs := [8, 16]) (by kernel_rfl) (by simp) ?_
        refine AllReadyH.cons rfl (fun K hK => ?_) (AllReadyH.cons rfl (fun K hK => ?_) AllReadyH.nil)
        · go_simp
          go_at_call 7
          refine (specClean_val (CleanIs.of HI.out (HF.out.2.1 (by omega)).2.1 (HF.out.2.2.1 (by omega)).2.1) (HF.out.2.1 (by omega)).1 (HF.out.2.1 (by omega)).2.2 hnd (small_is (HF.out.2.1 (by omega)).2.1 HP.out.1) (HF.out.2.2.1 (by omega)).1 (HF.out.2.2.1 (by omega)).2.2 hn (small_cp (HF.out.2.2.1 (by omega)).2.1 HPHA.out.2)).mono ?_
          rintro e wn ⟨D4u, d4u, cs4u, B4u, e4u, ts4u, rfl, hx, hd, ht, hk⟩
          have HN := Lib.hid (HF.out.clean hx hd ht hk)
          clear HF hHeld hx hd ht hk
          refine hK.out _ _ ?_ (fun hHeld => ?_)
          · exact ⟨(HB0.out.1.keep HN.out.1).cell 0, (HB0.out.2.keep HN.out.1).cell 0, (HB0.out.2.keep HN.out.1).cell 1, (HB0.out.2.keep HN.out.1).cell 2⟩
          clear hK K
          try simp only [Act.put, List.setIfInBounds_toArray, List.set_cons_zero, List.set_cons_succ]
          refine heldY 9 42 ?_
          refine heldY 10 52 ?_
          refine heldY 11 53 ?_
          refine heldY 12 54 ?_
          refine heldY 13 55 ?_
          refine heldY 14 56 ?_
          revert hHeld
          revert HN
          revert Vu
          revert ts4u
          revert e4u
          revert B4u
          revert cs4u
          revert d4u
          revert D4u
          revert cs3u
          revert c3u
          revert A3u
          revert cs2u
          revert c2u
          revert A2u
          revert wn
          exact key18.out
        · go_simp
          have HN := Lib.hid HF.out.allH
          clear HF hHeld
          refine hK.out _ _ ?_ (fun hHeld => ?_)
          · exact ⟨(HB0.out.1.keep HN.out.1).cell 0, (HB0.out.2.keep HN.out.1).cell 0, (HB0.out.2.keep HN.out.1).cell 1, (HB0.out.2.keep HN.out.1).cell 2⟩
          clear hK K
          try simp only [Act.put, List.setIfInBounds_toArray, List.set_cons_zero, List.set_cons_succ]
          generalize wz.heap.size = Gu at HN ⊢
          generalize World.alloc wz _ = wn at HN hHeld ⊢
          revert hHeld
          revert HN
          revert Gu
          revert Vu
          revert cs3u
          revert c3u
          revert A3u
          revert cs2u
          revert c2u
          revert A2u
          revert wn
          exact key16.out
      · intro wz A2u c2u cs2u A3u c3u cs3u D4u d4u cs4u B4u e4u ts4u HF hHeld
        refine wpAnyH_ready (rs := [15, 16]) (by kernel_rfl) (by simp) ?_
        refine AllReadyH.cons rfl (fun K hK => ?_) (AllReadyH.cons rfl (fun K hK => ?_) AllReadyH.nil)
        · go_simp
          have HN := Lib.hid HF.out.allT
          clear HF hHeld
          refine hK.out _ _ ?_ (fun hHeld => ?_)
          · exact ⟨(HB0.out.1.keep HN.out.1).cell 0, (HB0.out.2.keep HN.out.1).cell 0, (HB0.out.2.keep HN.out.1).cell 1, (HB0.out.2.keep HN.out.1).cell 2⟩
          clear hK K
          try simp only [Act.put, List.setIfInBounds_toArray, List.set_cons_zero, List.set_cons_succ]
          generalize wz.heap.size = Vu at HN ⊢
          generalize World.alloc wz _ = wn at HN hHeld ⊢
          revert hHeld
          revert HN
          revert Vu
          revert ts4u
          revert e4u
          revert B4u
          revert cs4u
          revert d4u
          revert D4u
          revert cs3u
          revert c3u
          revert A3u
          revert cs2u
          revert c2u
          revert A2u
          revert wn
          exact key18.out
        · go_simp
          have HN := Lib.hid HF.out.allH
          clear HF hHeld
          refine hK.out _ _ ?_ (fun hHeld => ?_)
          · exact ⟨(HB0.out.1.keep HN.out.1).cell 0, (HB0.out.2.keep HN.out.1).cell 0, (HB0.out.2.keep HN.out.1).cell 1, (HB0.out.2.keep HN.out.1).cell 2⟩
          clear hK K
          try simp only [Act.put, List.setIfInBounds_toArray, List.set_cons_zero, List.set_cons_succ]
          generalize wz.heap.size = Gu at HN ⊢
          generalize World.alloc wz _ = wn at HN hHeld ⊢
          revert hHeld
          revert HN
          revert Gu
          revert ts4u
          revert e4u
          revert B4u
          revert cs4u
          revert d4u
          revert D4u
          revert cs3u
          revert c3u
          revert A3u
          revert cs2u
          revert c2u
          revert A2u
          revert wn
          exact key17.out
      · intro wz A2u c2u cs2u A3u c3u cs3u Vu Gu HF hHeld
        refine wpAnyH_ready (rs := [8]) (by kernel_rfl) (by simp) ?_
        refine AllReadyH.cons rfl (fun K hK => ?_) AllReadyH.nil
        go_simp
        go_at_call 7
        refine (specClean_val (CleanIs.of HI.out (HF.out.2.1 (by omega)).2.1 (HF.out.2.2.1 (by omega)).2.1) (HF.out.2.1 (by omega)).1 (HF.out.2.1 (by omega)).2.2 hnd (small_is (HF.out.2.1 (by omega)).2.1 HP.out.1) (HF.out.2.2.1 (by omega)).1 (HF.out.2.2.1 (by omega)).2.2 hn (small_cp (HF.out.2.2.1 (by omega)).2.1 HPHA.out.2)).mono ?_
        rintro e wn ⟨D4u, d4u, cs4u, B4u, e4u, ts4u, rfl, hx, hd, ht, hk⟩
        have HN := Lib.hid (HF.out.clean hx hd ht hk)
        clear HF hHeld hx hd ht hk
        refine hK.out _ _ ?_ (fun hHeld => ?_)
        · exact ⟨(HB0.out.1.keep HN.out.1).cell 0, (HB0.out.2.keep HN.out.1).cell 0, (HB0.out.2.keep HN.out.1).cell 1, (HB0.out.2.keep HN.out.1).cell 2⟩
        clear hK K
        try simp only [Act.put, List.setIfInBounds_toArray, List.set_cons_zero, List.set_cons_succ]
        refine heldY 9 42 ?_
        refine heldY 10 52 ?_
        refine heldY 11 53 ?_
        refine heldY 12 54 ?_
        refine heldY 13 55 ?_
        refine heldY 14 56 ?_
        revert hHeld
        revert HN
        revert Gu
        revert Vu
        revert ts4u
        revert e4u
        revert B4u
        revert cs4u
        revert d4u
        revert D4u
        revert cs3u
        revert c3u
        revert A3u
        revert cs2u
        revert c2u
        revert A2u
        revert wn
        exact key19.out
      · intro wz A2u c2u cs2u A3u c3u cs3u D4u d4u cs4u B4u e4u ts4u Gu HF hHeld
        refine wpAnyH_ready (rs := [15]) (by kernel_rfl) (by simp) ?_
        refine AllReadyH.cons rfl (fun K hK => ?_) AllReadyH.nil
        go_simp
        have HN := Lib.hid HF.out.allT
        clear HF hHeld
        refine hK.out _ _ ?_ (fun hHeld => ?_)
        · exact ⟨(HB0.out.1.keep HN.out.1).cell 0, (HB0.out.2.keep HN.out.1).cell 0, (HB0.out.2.keep HN.out.1).cell 1, (HB0.out.2.keep HN.out.1).cell 2⟩
        clear hK K
        try simp only [Act.put, List.setIfInBounds_toArray, List.set_cons_zero, List.set_cons_succ]
        generalize wz.heap.size = Vu at HN ⊢
        generalize World.alloc wz _ = wn at HN hHeld ⊢
        revert hHeld
        revert HN
        revert Gu
        revert Vu
        revert ts4u
        revert e4u
        revert B4u
        revert cs4u
        revert d4u
        revert D4u
        revert cs3u
        revert c3u
        revert A3u
        revert cs2u
        revert c2u
        revert A2u
        revert wn
        exact key19.out
      · intro wz A2u c2u cs2u A3u c3u cs3u D4u d4u cs4u B4u e4u ts4u Vu HF hHeld
        refine wpAnyH_ready (rs := [16]) (by kernel_rfl) (by simp) ?_
        refine AllReadyH.cons rfl (fun K hK => ?_) AllReadyH.nil
        go_simp
        have HN := Lib.hid HF.out.allH
        clear HF hHeld
        refine hK.out _ _ ?_ (fun hHeld => ?_)
        · exact ⟨(HB0.out.1.keep HN.out.1).cell 0, (HB0.out.2.keep HN.out.1).cell 0, (HB0.out.2.keep HN.out.1).cell 1, (HB0.out.2.keep HN.out.1).cell 2⟩
        clear hK K
        try simp only [Act.put, List.setIfInBounds_toArray, List.set_cons_zero, List.set_cons_succ]
        generalize wz.heap.size = Gu at HN ⊢
        generalize World.alloc wz _ = wn at HN hHeld ⊢
        revert hHeld
        revert HN
        revert Gu
        revert Vu
        revert ts4u
        revert e4u
        revert B4u
        revert cs4u
        revert d4u
        revert D4u
        revert cs3u
        revert c3u
        revert A3u
        revert cs2u
        revert c2u
        revert A2u
        revert wn
        exact key19.out
      · intro wz A2u c2u cs2u A3u c3u cs3u D4u d4u cs4u B4u e4u ts4u Vu Gu HF hHeld
        have hq0 := HQ.out.lt
        have ha0 := HA.out.1.lt
        obtain ⟨⟨lv, lg, nvg, ngv⟩, ⟨t0, t1⟩, ⟨r0, r1, r2⟩, q0, q1, q2⟩ := HF.out.vars
        have m1' : w.heap.size ≠ Vu := by omega
        have m2' : w.heap.size ≠ Gu := by omega
        have m3' : w.heap.size + 1 ≠ Vu := by omega
        have m4' : w.heap.size + 1 ≠ Gu := by omega
        refine heldY 17 12 ?_
        refine wpAnyH_ready (rs := [18]) (by kernel_rfl) (by simp) ?_
        refine AllReadyH.cons rfl (fun K hK => ?_) AllReadyH.nil
        go_simp
        refine hK.out _ _ ?_ (fun hHeld => ?_)
        · exact ⟨cell_far hHeld.1 _ m1', cell_far hHeld.2.1 _ m3', cell_far hHeld.2.2.1 _ m3', cell_far hHeld.2.2.2 _ m3'⟩
        clear hK K
        try simp only [Act.put, List.setIfInBounds_toArray, List.set_cons_zero, List.set_cons_succ]
        refine wpAnyH_ready (rs := [19]) (by kernel_rfl) (by simp) ?_
        refine AllReadyH.cons rfl (fun K hK => ?_) AllReadyH.nil
        go_simp
        refine hK.out _ _ ?_ (fun hHeld => ?_)
        · exact ⟨cell_far3 hHeld.1 _ _ _ m2', cell_far3 hHeld.2.1 _ _ _ m4', cell_far3 hHeld.2.2.1 _ _ _ m4', cell_far3 hHeld.2.2.2 _ _ _ m4'⟩
        clear hK K
        try simp only [Act.put, List.setIfInBounds_toArray, List.set_cons_zero, List.set_cons_succ]
        refine heldY 20 15 ?_
        refine heldY 21 16 ?_
        clear t0 t1 r0 r1 r2 q0 q1 q2 m1' m2' m3' m4' nvg ngv lv lg hHeld
        refine wpAnyH_done (by kernel_rfl) ?_ _
        clear hq0 ha0
        obtain ⟨hiHW, hx, hk, rHW, eHW⟩ := HF.out.pack HA.out.2.2.2 y1 y2 y3
        have SHW := Lib.hid (HF.out.2.2.2.1 (by omega)).1
        have zHW := HQ.out.lt
        generalize World.setCell _ _ _ = wf at hx hk eHW ⊢
        replace HA := Lib.hid (HA.out.keep hk)
        replace HD := Lib.hid (HD.out.keep hk)
        replace HQ := Lib.hid (HQ.out.keep hk)
        have HW := Lib.hid hx
        clear hx hk HF HB0 eHW
        have bHA := HA.out.cell
        have lHA := HA.out.1.lt
        obtain ⟨p0, p1, p2⟩ := cells3 HQ.out
        obtain ⟨bHW, xHW0, xHW1, xHW2⟩ := HW.out.cells
        go_wp2_with fail
        have hp := HW.out.2.2.2.2.1
        clear bHA lHA p0 p1 p2 bHW xHW0 xHW1 xHW2
        refine (toBlockS_any _ _ _ _ _ HL.out HD.out.row hnd HP.out.1).mono ?_
        rintro e w4 ⟨A5, c5, cs5, rfl, hl, hs, ho, hk⟩
        obtain ⟨loHY, hiHY, hx, qHY, rHY⟩ : ∃ lo hi, VX w A5 n0 c5 cs5 lo hi w4 ∧ hiHW ≤ lo ∧ lo ≤ hi := ⟨_, _, VX.made HA.out.2.2.2 hl ho hk, hp, hk.size⟩
        replace HA := Lib.hid (HA.out.keep hk)
        replace HD := Lib.hid (HD.out.keep hk)
        replace HQ := Lib.hid (HQ.out.keep hk)
        replace HW := Lib.hid (HW.out.keep hk)
        have HY := Lib.hid hx
        have SHY := Lib.hid hs
        clear hk hl hs ho hx hp
        have bHA := HA.out.cell
        have lHA := HA.out.1.lt
        obtain ⟨p0, p1, p2⟩ := cells3 HQ.out
        obtain ⟨bHW, xHW0, xHW1, xHW2⟩ := HW.out.cells
        have THY := Lib.hid (show tot cs5 ≤ 1048576 by rw [tot_is SHY.out, ← tot_is rfl]; exact HP.out.2)
        go_wp2_with fail
        have hp := HY.out.2.2.2.2.1
        clear bHA lHA p0 p1 p2 bHW xHW0 xHW1 xHW2
        refine (toTable_any _ _ _ _ _ HLHA.out HA.out.row hn HPHA.out.1).mono ?_
        rintro e w5 ⟨A6, c6, cs6, rfl, hl, hs, ho, hk⟩
        obtain ⟨loHX, hiHX, hx, qHX, rHX, sHX⟩ : ∃ lo hi, VT w w5.heap.size A6 n1f0 c6 cs6 lo hi (w5.alloc (.cells #[.slice A6 n1f0 c6] 26)) ∧ hiHY ≤ lo ∧ lo ≤ hi ∧ hi ≤ w5.heap.size := ⟨_, _, VT.start HA.out.2.2.2 hl ho hk, hp, hk.size, Nat.le_refl _⟩
        replace HA := Lib.hid (HA.out.keep hk)
        replace HD := Lib.hid (HD.out.keep hk)
        replace HQ := Lib.hid (HQ.out.keep hk)
        replace HW := Lib.hid (HW.out.keep hk)
        replace HY := Lib.hid (HY.out.keep hk)
        have bHA := HA.out.cell
        have lHA := HA.out.1.lt
        obtain ⟨p0, p1, p2⟩ := cells3 HQ.out
        obtain ⟨bHW, xHW0, xHW1, xHW2⟩ := HW.out.cells
        replace HA := Lib.hid (HA.out.keep (grown_alloc (grown_refl w5 none) (.cells #[.slice A6 n1f0 c6] 26)))
        replace HD := Lib.hid (HD.out.keep (grown_alloc (grown_refl w5 none) (.cells #[.slice A6 n1f0 c6] 26)))
        replace HQ := Lib.hid (HQ.out.keep (grown_alloc (grown_refl w5 none) (.cells #[.slice A6 n1f0 c6] 26)))
        replace HW := Lib.hid (HW.out.keep (grown_alloc (grown_refl w5 none) (.cells #[.slice A6 n1f0 c6] 26)))
        replace HY := Lib.hid (HY.out.keep (grown_alloc (grown_refl w5 none) (.cells #[.slice A6 n1f0 c6] 26)))
        have HX := Lib.hid hx
        have SHX := Lib.hid hs
        clear hk hl hs ho hx hp
        go_wp2_with fail
        clear bHA lHA p0 p1 p2 bHW xHW0 xHW1 xHW2
        generalize World.alloc w5 _ = wa at HA HD HQ HW HY HX ⊢
        have bHA := HA.out.cell
        have lHA := HA.out.1.lt
        have bHX := HX.out.cell
        have lHX := HX.out.1.lt
        obtain ⟨p0, p1, p2⟩ := cells3 HQ.out
        obtain ⟨bHW, xHW0, xHW1, xHW2⟩ := HW.out.cells
        have HB0 := Lib.hid (And.intro HX.out.1 HQ.out)
        clear bHA lHA bHX lHX p0 p1 p2 bHW xHW0 xHW1 xHW2
        apply mrg
        intro key11
        apply mrg
        intro key10
        apply mrg
        intro key9
        apply mrg
        intro key8
        apply mrg
        intro key7
        apply mrg
        intro key6
        apply mrg
        intro key5
        apply mrg
        intro key4
        apply mrg
        intro key3
        apply mrg
        intro key2
        apply mrg
        intro key1
        apply mrg
        intro key0
        · have HN := Lib.hid (FS.start2 n1 l1 m1 T1 HY.out.2.1 SHY.out HY.out.row HX.out.2.2.1 SHX.out HX.out.row)
          refine wp_region_held_drew (S := (fun w' => w'.cell? ⟨w5.heap.size, 0, none⟩ = some (.slice A6 n1f0 c6) ∧ w'.cell? ⟨w.heap.size + 1, 0, none⟩ = some (.int .i64 a2f0) ∧ w'.cell? ⟨w.heap.size + 1, 1, none⟩ = some (.int .i64 a2f1) ∧ w'.cell? ⟨w.heap.size + 1, 2, none⟩ = some (.int .i64 a2f2))) (by kernel_rfl) ?_ (fun hHeld => ?_)
          · exact ⟨(HB0.out.1.keep HN.out.1).cell 0, (HB0.out.2.keep HN.out.1).cell 0, (HB0.out.2.keep HN.out.1).cell 1, (HB0.out.2.keep HN.out.1).cell 2⟩
          replace HN := Lib.hid (HN.out.keep (grown_drew (grown_refl _ none)))
          refine heldY 0 62 ?_
          refine heldY 1 63 ?_
          refine heldY 2 64 ?_
          refine heldY 4 66 ?_
          refine heldY 5 67 ?_
          generalize World.drew _ = wn at HN hHeld ⊢
          revert hHeld
          revert HN
          revert wn
          exact key0.out
        · intro wz  HF hHeld
          refine wpAnyH_ready (rs := [3, 13, 14]) (by kernel_rfl) (by simp) ?_
          refine AllReadyH.cons rfl (fun K hK => ?_) (AllReadyH.cons rfl (fun K hK => ?_) (AllReadyH.cons rfl (fun K hK => ?_) AllReadyH.nil))
          · go_simp
            go_at_call 20
            refine (toHeads_any _ _ _ _).mono ?_
            rintro e wn ⟨rfl, hk⟩
            have HN := Lib.hid (HF.out.hds hk)
            clear HF hHeld hk
            refine hK.out _ _ ?_ (fun hHeld => ?_)
            · exact ⟨(HB0.out.1.keep HN.out.1).cell 0, (HB0.out.2.keep HN.out.1).cell 0, (HB0.out.2.keep HN.out.1).cell 1, (HB0.out.2.keep HN.out.1).cell 2⟩
            clear hK K
            try simp only [Act.put, List.setIfInBounds_toArray, List.set_cons_zero, List.set_cons_succ]
            revert hHeld
            revert HN
            revert wn
            exact key3.out
          · go_simp
            have HN := Lib.hid HF.out.allT
            clear HF hHeld
            refine hK.out _ _ ?_ (fun hHeld => ?_)
            · exact ⟨(HB0.out.1.keep HN.out.1).cell 0, (HB0.out.2.keep HN.out.1).cell 0, (HB0.out.2.keep HN.out.1).cell 1, (HB0.out.2.keep HN.out.1).cell 2⟩
            clear hK K
            try simp only [Act.put, List.setIfInBounds_toArray, List.set_cons_zero, List.set_cons_succ]
            generalize wz.heap.size = Vg at HN ⊢
            generalize World.alloc wz _ = wn at HN hHeld ⊢
            revert hHeld
            revert HN
            revert Vg
            revert wn
            exact key2.out
          · go_simp
            have HN := Lib.hid HF.out.allH
            clear HF hHeld
            refine hK.out _ _ ?_ (fun hHeld => ?_)
            · exact ⟨(HB0.out.1.keep HN.out.1).cell 0, (HB0.out.2.keep HN.out.1).cell 0, (HB0.out.2.keep HN.out.1).cell 1, (HB0.out.2.keep HN.out.1).cell 2⟩
            clear hK K
            try simp only [Act.put, List.setIfInBounds_toArray, List.set_cons_zero, List.set_cons_succ]
            generalize wz.heap.size = Gg at HN ⊢
            generalize World.alloc wz _ = wn at HN hHeld ⊢
            revert hHeld
            revert HN
            revert Gg
            revert wn
            exact key1.out
        · intro wz Gg HF hHeld
          refine wpAnyH_ready (rs := [3, 13]) (by kernel_rfl) (by simp) ?_
          refine AllReadyH.cons rfl (fun K hK => ?_) (AllReadyH.cons rfl (fun K hK => ?_) AllReadyH.nil)
          · go_simp
            go_at_call 20
            refine (toHeads_any _ _ _ _).mono ?_
            rintro e wn ⟨rfl, hk⟩
            have HN := Lib.hid (HF.out.hds hk)
            clear HF hHeld hk
            refine hK.out _ _ ?_ (fun hHeld => ?_)
            · exact ⟨(HB0.out.1.keep HN.out.1).cell 0, (HB0.out.2.keep HN.out.1).cell 0, (HB0.out.2.keep HN.out.1).cell 1, (HB0.out.2.keep HN.out.1).cell 2⟩
            clear hK K
            try simp only [Act.put, List.setIfInBounds_toArray, List.set_cons_zero, List.set_cons_succ]
            revert hHeld
            revert HN
            revert Gg
            revert wn
            exact key5.out
          · go_simp
            have HN := Lib.hid HF.out.allT
            clear HF hHeld
            refine hK.out _ _ ?_ (fun hHeld => ?_)
            · exact ⟨(HB0.out.1.keep HN.out.1).cell 0, (HB0.out.2.keep HN.out.1).cell 0, (HB0.out.2.keep HN.out.1).cell 1, (HB0.out.2.keep HN.out.1).cell 2⟩
            clear hK K
            try simp only [Act.put, List.setIfInBounds_toArray, List.set_cons_zero, List.set_cons_succ]
            generalize wz.heap.size = Vg at HN ⊢
            generalize World.alloc wz _ = wn at HN hHeld ⊢
            revert hHeld
            revert HN
            revert Gg
            revert Vg
            revert wn
            exact key4.out
        · intro wz Vg HF hHeld
          refine wpAnyH_ready (rs := [3, 14]) (by kernel_rfl) (by simp) ?_
          refine AllReadyH.cons rfl (fun K hK => ?_) (AllReadyH.cons rfl (fun K hK => ?_) AllReadyH.nil)
          · go_simp
            go_at_call 20
            refine (toHeads_any _ _ _ _).mono ?_
            rintro e wn ⟨rfl, hk⟩
            have HN := Lib.hid (HF.out.hds hk)
            clear HF hHeld hk
            refine hK.out _ _ ?_ (fun hHeld => ?_)
            · exact ⟨(HB0.out.1.keep HN.out.1).cell 0, (HB0.out.2.keep HN.out.1).cell 0, (HB0.out.2.keep HN.out.1).cell 1, (HB0.out.2.keep HN.out.1).cell 2⟩
            clear hK K
            try simp only [Act.put, List.setIfInBounds_toArray, List.set_cons_zero, List.set_cons_succ]
            revert hHeld
            revert HN
            revert Vg
            revert wn
            exact key6.out
          · go_simp
            have HN := Lib.hid HF.out.allH
            clear HF hHeld
            refine hK.out _ _ ?_ (fun hHeld => ?_)
            · exact ⟨(HB0.out.1.keep HN.out.1).cell 0, (HB0.out.2.keep HN.out.1).cell 0, (HB0.out.2.keep HN.out.1).cell 1, (HB0.out.2.keep HN.out.1).cell 2⟩
            clear hK K
            try simp only [Act.put, List.setIfInBounds_toArray, List.set_cons_zero, List.set_cons_succ]
            generalize wz.heap.size = Gg at HN ⊢
            generalize World.alloc wz _ = wn at HN hHeld ⊢
            revert hHeld
            revert HN
            revert Gg
            revert Vg
            revert wn
            exact key4.out
        · intro wz  HF hHeld
          refine wpAnyH_ready (rs := [6, 13, 14]) (by kernel_rfl) (by simp) ?_
          refine AllReadyH.cons rfl (fun K hK => ?_) (AllReadyH.cons rfl (fun K hK => ?_) (AllReadyH.cons rfl (fun K hK => ?_) AllReadyH.nil))
          · go_simp
            go_at_call 6
            refine (clean_val (CleanIs.of HI.out (HF.out.2.1 (by omega)).2.1 (HF.out.2.2.1 (by omega)).2.1) (HF.out.2.1 (by omega)).1 (HF.out.2.1 (by omega)).2.2 hnd (small_is (HF.out.2.1 (by omega)).2.1 HP.out.1) (HF.out.2.2.1 (by omega)).1 (HF.out.2.2.1 (by omega)).2.2 hn (small_cp (HF.out.2.2.1 (by omega)).2.1 HPHA.out.2)).mono ?_
            rintro e wn ⟨D4g, d4g, cs4g, B4g, e4g, ts4g, rfl, hx, hd, ht, hk⟩
            have HN := Lib.hid (HF.out.clean hx hd ht hk)
            clear HF hHeld hx hd ht hk
            refine hK.out _ _ ?_ (fun hHeld => ?_)
            · exact ⟨(HB0.out.1.keep HN.out.1).cell 0, (HB0.out.2.keep HN.out.1).cell 0, (HB0.out.2.keep HN.out.1).cell 1, (HB0.out.2.keep HN.out.1).cell 2⟩
            clear hK K
            try simp only [Act.put, List.setIfInBounds_toArray, List.set_cons_zero, List.set_cons_succ]
            refine heldY 7 61 ?_
            refine heldY 8 69 ?_
            refine heldY 9 70 ?_
            refine heldY 10 71 ?_
            refine heldY 11 72 ?_
            refine heldY 12 73 ?_
            revert hHeld
            revert HN
            revert ts4g
            revert e4g
            revert B4g
            revert cs4g
            revert d4g
            revert D4g
            revert wn
            exact key7.out
          · go_simp
            have HN := Lib.hid HF.out.allT
            clear HF hHeld
            refine hK.out _ _ ?_ (fun hHeld => ?_)
            · exact ⟨(HB0.out.1.keep HN.out.1).cell 0, (HB0.out.2.keep HN.out.1).cell 0, (HB0.out.2.keep HN.out.1).cell 1, (HB0.out.2.keep HN.out.1).cell 2⟩
            clear hK K
            try simp only [Act.put, List.setIfInBounds_toArray, List.set_cons_zero, List.set_cons_succ]
            generalize wz.heap.size = Vg at HN ⊢
            generalize World.alloc wz _ = wn at HN hHeld ⊢
            revert hHeld
            revert HN
            revert Vg
            revert wn
            exact key6.out
          · go_simp
            have HN := Lib.hid HF.out.allH
            clear HF hHeld
            refine hK.out _ _ ?_ (fun hHeld => ?_)
            · exact ⟨(HB0.out.1.keep HN.out.1).cell 0, (HB0.out.2.keep HN.out.1).cell 0, (HB0.out.2.keep HN.out.1).cell 1, (HB0.out.2.keep HN.out.1).cell 2⟩
            clear hK K
            try simp only [Act.put, List.setIfInBounds_toArray, List.set_cons_zero, List.set_cons_succ]
            generalize wz.heap.size = Gg at HN ⊢
            generalize World.alloc wz _ = wn at HN hHeld ⊢
            revert hHeld
            revert HN
            revert Gg
            revert wn
            exact key5.out
        · intro wz Vg Gg HF hHeld
          refine wpAnyH_ready (rs := [3]) (by kernel_rfl) (by simp) ?_
          refine AllReadyH.cons rfl (fun K hK => ?_) AllReadyH.nil
          go_simp
          go_at_call 20
          refine (toHeads_any _ _ _ _).mono ?_
          rintro e wn ⟨rfl, hk⟩
          have HN := Lib.hid (HF.out.hds hk)
          clear HF hHeld hk
          refine hK.out _ _ ?_ (fun hHeld => ?_)
          · exact ⟨(HB0.out.1.keep HN.out.1).cell 0, (HB0.out.2.keep HN.out.1).cell 0, (HB0.out.2.keep HN.out.1).cell 1, (HB0.out.2.keep HN.out.1).cell 2⟩
          clear hK K
          try simp only [Act.put, List.setIfInBounds_toArray, List.set_cons_zero, List.set_cons_succ]
          revert hHeld
          revert HN
          revert Gg
          revert Vg
          revert wn
          exact key8.out
        · intro wz Gg HF hHeld
          refine wpAnyH_ready (rs := [6, 13]) (by kernel_rfl) (by simp) ?_
          refine AllReadyH.cons rfl (fun K hK => ?_) (AllReadyH.cons rfl (fun K hK => ?_) AllReadyH.nil)
          · go_simp
            go_at_call 6
            refine (clean_val (CleanIs.of HI.out (HF.out.2.1 (by omega)).2.1 (HF.out.2.2.1 (by omega)).2.1) (HF.out.2.1 (by omega)).1 (HF.out.2.1 (by omega)).2.2 hnd (small_is (HF.out.2.1 (by omega)).2.1 HP.out.1) (HF.out.2.2.1 (by omega)).1 (HF.out.2.2.1 (by omega)).2.2 hn (small_cp (HF.out.2.2.1 (by omega)).2.1 HPHA.out.2)).mono ?_
            rintro e wn ⟨D4g, d4g, cs4g, B4g, e4g, ts4g, rfl, hx, hd, ht, hk⟩
            have HN := Lib.hid (HF.out.clean hx hd ht hk)
            clear HF hHeld hx hd ht hk
            refine hK.out _ _ ?_ (fun hHeld => ?_)
            · exact ⟨(HB0.out.1.keep HN.out.1).cell 0, (HB0.out.2.keep HN.out.1).cell 0, (HB0.out.2.keep HN.out.1).cell 1, (HB0.out.2.keep HN.out.1).cell 2⟩
            clear hK K
            try simp only [Act.put, List.setIfInBounds_toArray, List.set_cons_zero, List.set_cons_succ]
            refine heldY 7 61 ?_
            refine heldY 8 69 ?_
            refine heldY 9 70 ?_
            refine heldY 10 71 ?_
            refine heldY 11 72 ?_
            refine heldY 12 73 ?_
            revert hHeld
            revert HN
            revert Gg
            revert ts4g
            revert e4g
            revert B4g
            revert cs4g
            revert d4g
            revert D4g
            revert wn
            exact key9.out
          · go_simp
            have HN := Lib.hid HF.out.allT
            clear HF hHeld
            refine hK.out _ _ ?_ (fun hHeld => ?_)
            · exact ⟨(HB0.out.1.keep HN.out.1).cell 0, (HB0.out.2.keep HN.out.1).cell 0, (HB0.out.2.keep HN.out.1).cell 1, (HB0.out.2.keep HN.out.1).cell 2⟩
            clear hK K
            try simp only [Act.put, List.setIfInBounds_toArray, List.set_cons_zero, List.set_cons_succ]
            generalize wz.heap.size = Vg at HN ⊢
            generalize World.alloc wz _ = wn at HN hHeld ⊢
            revert hHeld
            revert HN
            revert Gg
            revert Vg
            revert wn
            exact key8.out
        · intro wz Vg HF hHeld
          refine wpAnyH_ready (rs := [6, 14]) (by kernel_rfl) (by simp) ?_
          refine AllReadyH.cons rfl (fun K hK => ?_) (AllReadyH.cons rfl (fun K hK => ?_) AllReadyH.nil)
          · go_simp
            go_at_call 6
            refine (clean_val (CleanIs.of HI.out (HF.out.2.1 (by omega)).2.1 (HF.out.2.2.1 (by omega)).2.1) (HF.out.2.1 (by omega)).1 (HF.out.2.1 (by omega)).2.2 hnd (small_is (HF.out.2.1 (by omega)).2.1 HP.out.1) (HF.out.2.2.1 (by omega)).1 (HF.out.2.2.1 (by omega)).2.2 hn (small_cp (HF.out.2.2.1 (by omega)).2.1 HPHA.out.2)).mono ?_
            rintro e wn ⟨D4g, d4g, cs4g, B4g, e4g, ts4g, rfl, hx, hd, ht, hk⟩
            have HN := Lib.hid (HF.out.clean hx hd ht hk)
            clear HF hHeld hx hd ht hk
            refine hK.out _ _ ?_ (fun hHeld => ?_)
            · exact ⟨(HB0.out.1.keep HN.out.1).cell 0, (HB0.out.2.keep HN.out.1).cell 0, (HB0.out.2.keep HN.out.1).cell 1, (HB0.out.2.keep HN.out.1).cell 2⟩
            clear hK K
            try simp only [Act.put, List.setIfInBounds_toArray, List.set_cons_zero, List.set_cons_succ]
            refine heldY 7 61 ?_
            refine heldY 8 69 ?_
            refine heldY 9 70 ?_
            refine heldY 10 71 ?_
            refine heldY 11 72 ?_
            refine heldY 12 73 ?_
            revert hHeld
            revert HN
            revert Vg
            revert ts4g
            revert e4g
            revert B4g
            revert cs4g
            revert d4g
            revert D4g
            revert wn
            exact key10.out
          · go_simp
            have HN := Lib.hid HF.out.allH
            clear HF hHeld
            refine hK.out _ _ ?_ (fun hHeld => ?_)
            · exact ⟨(HB0.out.1.keep HN.out.1).cell 0, (HB0.out.2.keep HN.out.1).cell 0, (HB0.out.2.keep HN.out.1).cell 1, (HB0.out.2.keep HN.out.1).cell 2⟩
            clear hK K
            try simp only [Act.put, List.setIfInBounds_toArray, List.set_cons_zero, List.set_cons_succ]
            generalize wz.heap.size = Gg at HN ⊢
            generalize World.alloc wz _ = wn at HN hHeld ⊢
            revert hHeld
            revert HN
            revert Gg
            revert Vg
            revert wn
            exact key8.out
        · intro wz D4g d4g cs4g B4g e4g ts4g HF hHeld
          refine wpAnyH_ready (rs := [13, 14]) (by kernel_rfl) (by simp) ?_
          refine AllReadyH.cons rfl (fun K hK => ?_) (AllReadyH.cons rfl (fun K hK => ?_) AllReadyH.nil)
          · go_simp
            have HN := Lib.hid HF.out.allT
            clear HF hHeld
            refine hK.out _ _ ?_ (fun hHeld => ?_)
            · exact ⟨(HB0.out.1.keep HN.out.1).cell 0, (HB0.out.2.keep HN.out.1).cell 0, (HB0.out.2.keep HN.out.1).cell 1, (HB0.out.2.keep HN.out.1).cell 2⟩
            clear hK K
            try simp only [Act.put, List.setIfInBounds_toArray, List.set_cons_zero, List.set_cons_succ]
            generalize wz.heap.size = Vg at HN ⊢
            generalize World.alloc wz _ = wn at HN hHeld ⊢
            revert hHeld
            revert HN
            revert Vg
            revert ts4g
            revert e4g
            revert B4g
            revert cs4g
            revert d4g
            revert D4g
            revert wn
            exact key10.out
          · go_simp
            have HN := Lib.hid HF.out.allH
            clear HF hHeld
            refine hK.out _ _ ?_ (fun hHeld => ?_)
            · exact ⟨(HB0.out.1.keep HN.out.1).cell 0, (HB0.out.2.keep HN.out.1).cell 0, (HB0.out.2.keep HN.out.1).cell 1, (HB0.out.2.keep HN.out.1).cell 2⟩
            clear hK K
            try simp only [Act.put, List.setIfInBounds_toArray, List.set_cons_zero, List.set_cons_succ]
            generalize wz.heap.size = Gg at HN ⊢
            generalize World.alloc wz _ = wn at HN hHeld ⊢
            revert hHeld
            revert HN
            revert Gg
            revert ts4g
            revert e4g
            revert B4g
            revert cs4g
            revert d4g
            revert D4g
            revert wn
            exact key9.out
        · intro wz Vg Gg HF hHeld
          refine wpAnyH_ready (rs := [6]) (by kernel_rfl) (by simp) ?_
          refine AllReadyH.cons rfl (fun K hK => ?_) AllReadyH.nil
          go_simp
          go_at_call 6
          refine (clean_val (CleanIs.of HI.out (HF.out.2.1 (by omega)).2.1 (HF.out.2.2.1 (by omega)).2.1) (HF.out.2.1 (by omega)).1 (HF.out.2.1 (by omega)).2.2 hnd (small_is (HF.out.2.1 (by omega)).2.1 HP.out.1) (HF.out.2.2.1 (by omega)).1 (HF.out.2.2.1 (by omega)).2.2 hn (small_cp (HF.out.2.2.1 (by omega)).2.1 HPHA.out.2)).mono ?_
          rintro e wn ⟨D4g, d4g, cs4g, B4g, e4g, ts4g, rfl, hx, hd, ht, hk⟩
          have HN := Lib.hid (HF.out.clean hx hd ht hk)
          clear HF hHeld hx hd ht hk
          refine hK.out _ _ ?_ (fun hHeld => ?_)
          · exact ⟨(HB0.out.1.keep HN.out.1).cell 0, (HB0.out.2.keep HN.out.1).cell 0, (HB0.out.2.keep HN.out.1).cell 1, (HB0.out.2.keep HN.out.1).cell 2⟩
          clear hK K
          try simp only [Act.put, List.setIfInBounds_toArray, List.set_cons_zero, List.set_cons_succ]
          refine heldY 7 61 ?_
          refine heldY 8 69 ?_
          refine heldY 9 70 ?_
          refine heldY 10 71 ?_
          refine heldY 11 72 ?_
          refine heldY 12 73 ?_
          revert hHeld
          revert HN
          revert Gg
          revert Vg
          revert ts4g
          revert e4g
          revert B4g
          revert cs4g
          revert d4g
          revert D4g
          revert wn
          exact key11.out
        · intro wz D4g d4g cs4g B4g e4g ts4g Gg HF hHeld
          refine wpAnyH_ready (rs := [13]) (by kernel_rfl) (by simp) ?_
          refine AllReadyH.cons rfl (fun K hK => ?_) AllReadyH.nil
          go_simp
          have HN := Lib.hid HF.out.allT
          clear HF hHeld
          refine hK.out _ _ ?_ (fun hHeld => ?_)
          · exact ⟨(HB0.out.1.keep HN.out.1).cell 0, (HB0.out.2.keep HN.out.1).cell 0, (HB0.out.2.keep HN.out.1).cell 1, (HB0.out.2.keep HN.out.1).cell 2⟩
          clear hK K
          try simp only [Act.put, List.setIfInBounds_toArray, List.set_cons_zero, List.set_cons_succ]
          generalize wz.heap.size = Vg at HN ⊢
          generalize World.alloc wz _ = wn at HN hHeld ⊢
          revert hHeld
          revert HN
          revert Gg
          revert Vg
          revert ts4g
          revert e4g
          revert B4g
          revert cs4g
          revert d4g
          revert D4g
          revert wn
          exact key11.out
        · intro wz D4g d4g cs4g B4g e4g ts4g Vg HF hHeld
          refine wpAnyH_ready (rs := [14]) (by kernel_rfl) (by simp) ?_
          refine AllReadyH.cons rfl (fun K hK => ?_) AllReadyH.nil
          go_simp
          have HN := Lib.hid HF.out.allH
          clear HF hHeld
          refine hK.out _ _ ?_ (fun hHeld => ?_)
          · exact ⟨(HB0.out.1.keep HN.out.1).cell 0, (HB0.out.2.keep HN.out.1).cell 0, (HB0.out.2.keep HN.out.1).cell 1, (HB0.out.2.keep HN.out.1).cell 2⟩
          clear hK K
          try simp only [Act.put, List.setIfInBounds_toArray, List.set_cons_zero, List.set_cons_succ]
          generalize wz.heap.size = Gg at HN ⊢
          generalize World.alloc wz _ = wn at HN hHeld ⊢
          revert hHeld
          revert HN
          revert Gg
          revert Vg
          revert ts4g
          revert e4g
          revert B4g
          revert cs4g
          revert d4g
          revert D4g
          revert wn
          exact key11.out
        · intro wz D4g d4g cs4g B4g e4g ts4g Vg Gg HF hHeld
          have hq0 := HQ.out.lt
          have ha0 := HX.out.1.lt
          obtain ⟨⟨lv, lg, nvg, ngv⟩, ⟨t0, t1⟩, ⟨r0, r1, r2⟩, q0, q1, q2⟩ := HF.out.vars
          have m1' : w5.heap.size ≠ Vg := by omega
          have m2' : w5.heap.size ≠ Gg := by omega
          have m3' : w.heap.size + 1 ≠ Vg := by omega
          have m4' : w.heap.size + 1 ≠ Gg := by omega
          refine heldY 15 19 ?_
          refine wpAnyH_ready (rs := [16]) (by kernel_rfl) (by simp) ?_
          refine AllReadyH.cons rfl (fun K hK => ?_) AllReadyH.nil
          go_simp
          refine hK.out _ _ ?_ (fun hHeld => ?_)
          · exact ⟨cell_far hHeld.1 _ m1', cell_far hHeld.2.1 _ m3', cell_far hHeld.2.2.1 _ m3', cell_far hHeld.2.2.2 _ m3'⟩
          clear hK K
          try simp only [Act.put, List.setIfInBounds_toArray, List.set_cons_zero, List.set_cons_succ]
          refine wpAnyH_ready (rs := [17]) (by kernel_rfl) (by simp) ?_
          refine AllReadyH.cons rfl (fun K hK => ?_) AllReadyH.nil
          go_simp
          refine hK.out _ _ ?_ (fun hHeld => ?_)
          · exact ⟨cell_far3 hHeld.1 _ _ _ m2', cell_far3 hHeld.2.1 _ _ _ m4', cell_far3 hHeld.2.2.1 _ _ _ m4', cell_far3 hHeld.2.2.2 _ _ _ m4'⟩
          clear hK K
          try simp only [Act.put, List.setIfInBounds_toArray, List.set_cons_zero, List.set_cons_succ]
          refine heldY 18 22 ?_
          refine heldY 19 23 ?_
          clear t0 t1 r0 r1 r2 q0 q1 q2 m1' m2' m3' m4' nvg ngv lv lg hHeld
          refine wpAnyH_done (by kernel_rfl) ?_ _
          clear hq0 ha0
          obtain ⟨hiHG, hx, hk, rHG, eHG⟩ := HF.out.pack HA.out.2.2.2 y1 y2 y3
          have SHG := Lib.hid (HF.out.2.2.2.1 (by omega)).1
          have zHG := HQ.out.lt
          have uHG := HX.out.1.lt
          generalize World.setCell _ _ _ = wf at hx hk eHG ⊢
          replace HA := Lib.hid (HA.out.keep hk)
          replace HD := Lib.hid (HD.out.keep hk)
          replace HQ := Lib.hid (HQ.out.keep hk)
          replace HW := Lib.hid (HW.out.keep hk)
          replace HY := Lib.hid (HY.out.keep hk)
          replace HX := Lib.hid (HX.out.keep hk)
          have HG := Lib.hid hx
          clear hx hk HF HB0 eHG
          have bHA := HA.out.cell
          have lHA := HA.out.1.lt
          have bHX := HX.out.cell
          have lHX := HX.out.1.lt
          obtain ⟨p0, p1, p2⟩ := cells3 HQ.out
          obtain ⟨bHW, xHW0, xHW1, xHW2⟩ := HW.out.cells
          obtain ⟨bHG, xHG0, xHG1, xHG2⟩ := HG.out.cells
          have THG := Lib.hid (show tot cs4g ≤ 1048576 by rw [tot_is SHG.out.2.1]; exact HT.out.1)
          go_wp2_with fail
          clear bHA lHA bHX lHX p0 p1 p2 bHW xHW0 xHW1 xHW2 bHG xHG0 xHG1 xHG2
          refine (eqBlockS_same _ _ _ _ _ _ _ _ HG.out.1.2.1 (SHG.out.2.1.trans SHW.out.2.1.symm) HG.out.row HW.out.row hn1' (small_tot THG.out)).mono ?_
          rintro e w7 ⟨rfl, hk⟩
          replace HA := Lib.hid (HA.out.keep hk)
          replace HD := Lib.hid (HD.out.keep hk)
          replace HQ := Lib.hid (HQ.out.keep hk)
          replace HW := Lib.hid (HW.out.keep hk)
          replace HY := Lib.hid (HY.out.keep hk)
          replace HX := Lib.hid (HX.out.keep hk)
          replace HG := Lib.hid (HG.out.keep hk)
          clear hk
          have bHA := HA.out.cell
          have lHA := HA.out.1.lt
          have bHX := HX.out.cell
          have lHX := HX.out.1.lt
          obtain ⟨p0, p1, p2⟩ := cells3 HQ.out
          obtain ⟨bHW, xHW0, xHW1, xHW2⟩ := HW.out.cells
          obtain ⟨bHG, xHG0, xHG1, xHG2⟩ := HG.out.cells
          go_wp2_with fail
          clear bHA lHA bHX lHX p0 p1 p2 bHW xHW0 xHW1 xHW2 bHG xHG0 xHG1 xHG2
          refine (eqTable_same _ _ _ _ _ _ _ _ HG.out.1.2.2.2 (SHG.out.2.2.2.trans SHW.out.2.2.2.symm) HG.out.tab HW.out.tab hm1' (by rw [SHG.out.2.2.2]; exact HT.out.2)).mono ?_
          rintro e w8 ⟨rfl, hk⟩
          replace HA := Lib.hid (HA.out.keep hk)
          replace HD := Lib.hid (HD.out.keep hk)
          replace HQ := Lib.hid (HQ.out.keep hk)
          replace HW := Lib.hid (HW.out.keep hk)
          replace HY := Lib.hid (HY.out.keep hk)
          replace HX := Lib.hid (HX.out.keep hk)
          replace HG := Lib.hid (HG.out.keep hk)
          clear hk
          have bHA := HA.out.cell
          have lHA := HA.out.1.lt
          have bHX := HX.out.cell
          have lHX := HX.out.1.lt
          obtain ⟨p0, p1, p2⟩ := cells3 HQ.out
          obtain ⟨bHW, xHW0, xHW1, xHW2⟩ := HW.out.cells
          obtain ⟨bHG, xHG0, xHG1, xHG2⟩ := HG.out.cells
          go_wp2_with fail
          clear bHA lHA bHX lHX p0 p1 p2 bHW xHW0 xHW1 xHW2 bHG xHG0 xHG1 xHG2
          refine (eqHeads_same _ _ _ _).mono ?_
          rintro e w9 ⟨rfl, hk⟩
          replace HA := Lib.hid (HA.out.keep hk)
          replace HD := Lib.hid (HD.out.keep hk)
          replace HQ := Lib.hid (HQ.out.keep hk)
          replace HW := Lib.hid (HW.out.keep hk)
          replace HY := Lib.hid (HY.out.keep hk)
          replace HX := Lib.hid (HX.out.keep hk)
          replace HG := Lib.hid (HG.out.keep hk)
          clear hk
          have bHA := HA.out.cell
          have lHA := HA.out.1.lt
          have bHX := HX.out.cell
          have lHX := HX.out.1.lt
          obtain ⟨p0, p1, p2⟩ := cells3 HQ.out
          obtain ⟨bHW, xHW0, xHW1, xHW2⟩ := HW.out.cells
          obtain ⟨bHG, xHG0, xHG1, xHG2⟩ := HG.out.cells
          go_wp2_with fail
          clear bHA lHA bHX lHX p0 p1 p2 bHW xHW0 xHW1 xHW2 bHG xHG0 xHG1 xHG2
          refine (toBlockS_any _ _ _ _ _ HL.out HD.out.row hnd HP.out.1).mono ?_
          rintro e w10 ⟨A8, c8, cs8, rfl, hl, hs, ho, hk⟩
          replace HA := Lib.hid (HA.out.keep hk)
          replace HD := Lib.hid (HD.out.keep hk)
          replace HQ := Lib.hid (HQ.out.keep hk)
          replace HW := Lib.hid (HW.out.keep hk)
          replace HY := Lib.hid (HY.out.keep hk)
          replace HX := Lib.hid (HX.out.keep hk)
          replace HG := Lib.hid (HG.out.keep hk)
          have HR8 := Lib.hid (And.intro hl (And.intro hs ho.row))
          clear hk hl hs ho
          have bHA := HA.out.cell
          have lHA := HA.out.1.lt
          have bHX := HX.out.cell
          have lHX := HX.out.1.lt
          obtain ⟨p0, p1, p2⟩ := cells3 HQ.out
          obtain ⟨bHW, xHW0, xHW1, xHW2⟩ := HW.out.cells
          obtain ⟨bHG, xHG0, xHG1, xHG2⟩ := HG.out.cells
          go_wp2_with fail
          clear bHA lHA bHX lHX p0 p1 p2 bHW xHW0 xHW1 xHW2 bHG xHG0 xHG1 xHG2
          refine (eqBlockS_same _ _ _ _ _ _ _ _ HY.out.2.1 (SHY.out.trans HR8.out.2.1.symm) HY.out.row HR8.out.2.2 hnd (small_is SHY.out HP.out.1)).mono ?_
          rintro e w11 ⟨rfl, hk⟩
          replace HA := Lib.hid (HA.out.keep hk)
          replace HD := Lib.hid (HD.out.keep hk)
          replace HQ := Lib.hid (HQ.out.keep hk)
          replace HW := Lib.hid (HW.out.keep hk)
          replace HY := Lib.hid (HY.out.keep hk)
          replace HX := Lib.hid (HX.out.keep hk)
          replace HG := Lib.hid (HG.out.keep hk)
          clear hk
          have bHA := HA.out.cell
          have lHA := HA.out.1.lt
          have bHX := HX.out.cell
          have lHX := HX.out.1.lt
          obtain ⟨p0, p1, p2⟩ := cells3 HQ.out
          obtain ⟨bHW, xHW0, xHW1, xHW2⟩ := HW.out.cells
          obtain ⟨bHG, xHG0, xHG1, xHG2⟩ := HG.out.cells
          go_wp2_with fail
          refine wp_region_held_drew (S := (fun w' => w'.cell? ⟨w5.heap.size, 0, none⟩ = some (.slice A6 n1f0 c6) ∧ w'.cell? ⟨w.heap.size, 0, none⟩ = some (.slice a1f0 n1f0 c1f0))) (by kernel_rfl) ?_ (fun hHeld => ?_)
          · exact ⟨bHX, bHA⟩
          replace HA := Lib.hid (HA.out.keep (grown_drew (grown_refl _ none)))
          replace HD := Lib.hid (HD.out.keep (grown_drew (grown_refl _ none)))
          replace HQ := Lib.hid (HQ.out.keep (grown_drew (grown_refl _ none)))
          replace HW := Lib.hid (HW.out.keep (grown_drew (grown_refl _ none)))
          replace HY := Lib.hid (HY.out.keep (grown_drew (grown_refl _ none)))
          replace HX := Lib.hid (HX.out.keep (grown_drew (grown_refl _ none)))
          replace HG := Lib.hid (HG.out.keep (grown_drew (grown_refl _ none)))
          refine heldY 0 105 ?_
          refine heldY 1 106 ?_
          refine wpAnyH_ready (rs := [2]) (by kernel_rfl) (by simp) ?_
          refine AllReadyH.cons rfl (fun K hK => ?_) AllReadyH.nil
          go_simp
          go_at_call 19
          clear bHA lHA bHX lHX p0 p1 p2 bHW xHW0 xHW1 xHW2 bHG xHG0 xHG1 xHG2
          refine (toTable_any _ _ _ _ _ HLHA.out HA.out.row hn HPHA.out.1).mono ?_
          rintro e w12 ⟨A9, c9, cs9, rfl, hl, hs, ho, hk⟩
          replace HA := Lib.hid (HA.out.keep hk)
          replace HD := Lib.hid (HD.out.keep hk)
          replace HQ := Lib.hid (HQ.out.keep hk)
          replace HW := Lib.hid (HW.out.keep hk)
          replace HY := Lib.hid (HY.out.keep hk)
          replace HX := Lib.hid (HX.out.keep hk)
          replace HG := Lib.hid (HG.out.keep hk)
          have HR9 := Lib.hid (And.intro hl (And.intro hs ho.row))
          clear hk hl hs ho
          have bHA := HA.out.cell
          have lHA := HA.out.1.lt
          have bHX := HX.out.cell
          have lHX := HX.out.1.lt
          obtain ⟨p0, p1, p2⟩ := cells3 HQ.out
          obtain ⟨bHW, xHW0, xHW1, xHW2⟩ := HW.out.cells
          obtain ⟨bHG, xHG0, xHG1, xHG2⟩ := HG.out.cells
          refine hK.out _ _ ?_ (fun hHeld => ?_)
          · exact ⟨bHX, bHA⟩
          clear hK K
          try simp only [Act.put, List.setIfInBounds_toArray, List.set_cons_zero, List.set_cons_succ]
          refine wpAnyH_ready (rs := [3]) (by kernel_rfl) (by simp) ?_
          refine AllReadyH.cons rfl (fun K hK => ?_) AllReadyH.nil
          go_simp
          go_at_call 22
          clear bHA lHA bHX lHX p0 p1 p2 bHW xHW0 xHW1 xHW2 bHG xHG0 xHG1 xHG2
          refine (eqTable_same _ _ _ _ _ _ _ _ HX.out.2.2.1 (SHX.out.trans HR9.out.2.1.symm) HX.out.row HR9.out.2.2 hn (by rw [SHX.out]; exact HPHA.out.2)).mono ?_
          rintro e w13 ⟨rfl, hk⟩
          replace HA := Lib.hid (HA.out.keep hk)
          replace HD := Lib.hid (HD.out.keep hk)
          replace HQ := Lib.hid (HQ.out.keep hk)
          replace HW := Lib.hid (HW.out.keep hk)
          replace HY := Lib.hid (HY.out.keep hk)
          replace HX := Lib.hid (HX.out.keep hk)
          replace HG := Lib.hid (HG.out.keep hk)
          clear hk
          have bHA := HA.out.cell
          have lHA := HA.out.1.lt
          have bHX := HX.out.cell
          have lHX := HX.out.1.lt
          obtain ⟨p0, p1, p2⟩ := cells3 HQ.out
          obtain ⟨bHW, xHW0, xHW1, xHW2⟩ := HW.out.cells
          obtain ⟨bHG, xHG0, xHG1, xHG2⟩ := HG.out.cells
          refine hK.out _ _ ?_ (fun hHeld => ?_)
          · exact ⟨bHX, bHA⟩
          clear hK K
          try simp only [Act.put, List.setIfInBounds_toArray, List.set_cons_zero, List.set_cons_succ]
          refine heldY 4 109 ?_
          refine wpAnyH_done (by kernel_rfl) ?_ _
          go_wp2_with fail
          have MHX := Lib.hid (show ltot (ll cs6) ≤ 1048576 by rw [SHX.out]; exact HPHA.out.2)
          clear bHA lHA bHX lHX p0 p1 p2 bHW xHW0 xHW1 xHW2 bHG xHG0 xHG1 xHG2
          have HEY := Lib.hid (show endK 1 cs5 ≤ 7000000 by have := THY.out; have := HY.out.2.1; simp only [endK]; omega)
          refine (markBlockS_val rfl HY.out hnd THY.out).mono ?_
          rintro e w14 ⟨rfl, ho, hk⟩
          have hxlo := HY.out.2.2.2.2.2.1
          replace HA := Lib.hid (HA.out.marked hxlo (by omega) hk)
          replace HD := Lib.hid (HD.out.marked hxlo hk)
          replace HQ := Lib.hid (HQ.out.outV hk (by omega))
          replace HW := Lib.hid (HW.out.marked (by omega) hxlo hk)
          replace HX := Lib.hid (HX.out.marked (by omega) hxlo hk)
          replace HG := Lib.hid (HG.out.marked (by omega) hxlo hk)
          clear ho hk hxlo
          have bHA := HA.out.cell
          have lHA := HA.out.1.lt
          have bHX := HX.out.cell
          have lHX := HX.out.1.lt
          obtain ⟨p0, p1, p2⟩ := cells3 HQ.out
          obtain ⟨bHW, xHW0, xHW1, xHW2⟩ := HW.out.cells
          obtain ⟨bHG, xHG0, xHG1, xHG2⟩ := HG.out.cells
          go_wp2_with fail
          clear bHA lHA bHX lHX p0 p1 p2 bHW xHW0 xHW1 xHW2 bHG xHG0 xHG1 xHG2
          refine (markTable_from HEY.out HX.out hn MHX.out).mono ?_
          rintro e w15 ⟨vX, rfl, tX, hk⟩
          have hxlo := HX.out.2.2.2.2.2.2.1
          replace HA := Lib.hid (HA.out.marked hxlo (by omega) hk)
          replace HD := Lib.hid (HD.out.marked hxlo hk)
          replace HQ := Lib.hid (HQ.out.outV hk (by omega))
          replace HW := Lib.hid (HW.out.marked (by omega) hxlo hk)
          replace HG := Lib.hid (HG.out.marked (by omega) hxlo hk)
          clear hk hxlo
          have bHA := HA.out.cell
          have lHA := HA.out.1.lt
          obtain ⟨p0, p1, p2⟩ := cells3 HQ.out
          obtain ⟨bHW, xHW0, xHW1, xHW2⟩ := HW.out.cells
          obtain ⟨bHG, xHG0, xHG1, xHG2⟩ := HG.out.cells
          go_wp2_with fail
          clear bHA lHA p0 p1 p2 bHW xHW0 xHW1 xHW2 bHG xHG0 xHG1 xHG2
          refine (eqBlockS_same _ _ _ _ _ _ _ _ HG.out.1.2.1 (SHG.out.2.1.trans SHW.out.2.1.symm) HG.out.row HW.out.row hn1' (small_tot THG.out)).mono ?_
          rintro e w16 ⟨rfl, hk⟩
          replace HA := Lib.hid (HA.out.keep hk)
          replace HD := Lib.hid (HD.out.keep hk)
          replace HQ := Lib.hid (HQ.out.keep hk)
          replace HW := Lib.hid (HW.out.keep hk)
          replace HG := Lib.hid (HG.out.keep hk)
          clear hk
          have bHA := HA.out.cell
          have lHA := HA.out.1.lt
          obtain ⟨p0, p1, p2⟩ := cells3 HQ.out
          obtain ⟨bHW, xHW0, xHW1, xHW2⟩ := HW.out.cells
          obtain ⟨bHG, xHG0, xHG1, xHG2⟩ := HG.out.cells
          go_wp2_with fail
          clear bHA lHA p0 p1 p2 bHW xHW0 xHW1 xHW2 bHG xHG0 xHG1 xHG2
          refine (eqTable_same _ _ _ _ _ _ _ _ HG.out.1.2.2.2 (SHG.out.2.2.2.trans SHW.out.2.2.2.symm) HG.out.tab HW.out.tab hm1' (by rw [SHG.out.2.2.2]; exact HT.out.2)).mono ?_
          rintro e w17 ⟨rfl, hk⟩
          replace HA := Lib.hid (HA.out.keep hk)
          replace HD := Lib.hid (HD.out.keep hk)
          replace HQ := Lib.hid (HQ.out.keep hk)
          replace HW := Lib.hid (HW.out.keep hk)
          replace HG := Lib.hid (HG.out.keep hk)
          clear hk
          have bHA := HA.out.cell
          have lHA := HA.out.1.lt
          obtain ⟨p0, p1, p2⟩ := cells3 HQ.out
          obtain ⟨bHW, xHW0, xHW1, xHW2⟩ := HW.out.cells
          obtain ⟨bHG, xHG0, xHG1, xHG2⟩ := HG.out.cells
          go_wp2_with fail
          clear bHA lHA p0 p1 p2 bHW xHW0 xHW1 xHW2 bHG xHG0 xHG1 xHG2
          refine (eqHeads_same _ _ _ _).mono ?_
          rintro e w18 ⟨rfl, hk⟩
          replace HA := Lib.hid (HA.out.keep hk)
          replace HD := Lib.hid (HD.out.keep hk)
          replace HQ := Lib.hid (HQ.out.keep hk)
          replace HW := Lib.hid (HW.out.keep hk)
          replace HG := Lib.hid (HG.out.keep hk)
          clear hk
          have bHA := HA.out.cell
          have lHA := HA.out.1.lt
          obtain ⟨p0, p1, p2⟩ := cells3 HQ.out
          obtain ⟨bHW, xHW0, xHW1, xHW2⟩ := HW.out.cells
          obtain ⟨bHG, xHG0, xHG1, xHG2⟩ := HG.out.cells
          obtain ⟨KG, hKG⟩ : ∃ K, endK 1 cs4g = K := ⟨_, rfl⟩
          have hK7 : KG ≤ 7000000 := by rw [← hKG]; have := THG.out; have := SHG.out.1; simp only [endK]; omega
          obtain ⟨LG, hLG⟩ : ∃ K, lend KG ts4g = K := ⟨_, rfl⟩
          have HKG := Lib.hid (And.intro hKG hLG)
          have tKG : decide ((KG : Int) < 0) = false := decide_eq_false (by omega)
          have tLG : decide ((LG : Int) < 0) = false := decide_eq_false (by omega)
          have tLL : ((LG : Int) != (LG : Int)) = false := by simp
          clear hKG hLG
          go_wp2_with fail
          clear bHA lHA p0 p1 p2 bHW xHW0 xHW1 xHW2 bHG xHG0 xHG1 xHG2
          refine (markDev_pack (x := (KG : Int)) (by rw [HKG.out.1]) HG.out hn1' THG.out).mono ?_
          rintro e w19 ⟨rfl, hx, hk⟩
          have hxlo := HG.out.2.2.2.2.2.1
          replace HA := Lib.hid (HA.out.marked hxlo (by omega) hk)
          replace HD := Lib.hid (HD.out.marked hxlo hk)
          replace HQ := Lib.hid (HQ.out.outV hk (by omega))
          replace HW := Lib.hid (HW.out.marked (by omega) hxlo hk)
          replace HG := Lib.hid hx
          clear hx hk hxlo
          have bHA := HA.out.cell
          have lHA := HA.out.1.lt
          obtain ⟨p0, p1, p2⟩ := cells3 HQ.out
          obtain ⟨bHW, xHW0, xHW1, xHW2⟩ := HW.out.cells
          obtain ⟨bHG, xHG0, xHG1, xHG2⟩ := HG.out.cells
          go_wp2_with fail
          clear bHA lHA p0 p1 p2 bHW xHW0 xHW1 xHW2 bHG xHG0 xHG1 xHG2
          refine (markTab_pack (x := (LG : Int)) hK7 (by rw [HKG.out.2]) HG.out hm1' (by rw [SHG.out.2.2.2]; exact HT.out.2)).mono ?_
          rintro e w20 ⟨rfl, hx, hk⟩
          have hxlo := HG.out.2.2.2.2.2.1
          replace HA := Lib.hid (HA.out.marked hxlo (by omega) hk)
          replace HD := Lib.hid (HD.out.marked hxlo hk)
          replace HQ := Lib.hid (HQ.out.outV hk (by omega))
          replace HW := Lib.hid (HW.out.marked (by omega) hxlo hk)
          replace HG := Lib.hid hx
          clear hx hk hxlo
          have bHA := HA.out.cell
          have lHA := HA.out.1.lt
          obtain ⟨p0, p1, p2⟩ := cells3 HQ.out
          obtain ⟨bHW, xHW0, xHW1, xHW2⟩ := HW.out.cells
          obtain ⟨bHG, xHG0, xHG1, xHG2⟩ := HG.out.cells
          go_wp2_with fail
          clear bHA lHA p0 p1 p2 bHW xHW0 xHW1 xHW2 bHG xHG0 xHG1 xHG2
          refine (heldDev_pack (x := (KG : Int)) (by rw [HKG.out.1]) SHG.out.1 HG.out hn1' THG.out).mono ?_
          rintro e w21 ⟨rfl, rfl⟩
          have bHA := HA.out.cell
          have lHA := HA.out.1.lt
          obtain ⟨p0, p1, p2⟩ := cells3 HQ.out
          obtain ⟨bHW, xHW0, xHW1, xHW2⟩ := HW.out.cells
          obtain ⟨bHG, xHG0, xHG1, xHG2⟩ := HG.out.cells
          go_wp2_with fail
          clear bHA lHA p0 p1 p2 bHW xHW0 xHW1 xHW2 bHG xHG0 xHG1 xHG2
          refine (heldTab_pack (x := (LG : Int)) hK7 (by rw [HKG.out.2]) tLG SHG.out.2.2.1 HG.out hm1' (by rw [SHG.out.2.2.2]; exact HT.out.2)).mono ?_
          rintro e w21 ⟨rfl, hk⟩
          replace HA := Lib.hid (HA.out.keep hk)
          replace HD := Lib.hid (HD.out.keep hk)
          replace HQ := Lib.hid (HQ.out.keep hk)
          replace HW := Lib.hid (HW.out.keep hk)
          replace HG := Lib.hid (HG.out.keep hk)
          clear hk
          have bHA := HA.out.cell
          have lHA := HA.out.1.lt
          obtain ⟨p0, p1, p2⟩ := cells3 HQ.out
          obtain ⟨bHW, xHW0, xHW1, xHW2⟩ := HW.out.cells
          obtain ⟨bHG, xHG0, xHG1, xHG2⟩ := HG.out.cells
          go_wp2_with fail
          clear bHA lHA p0 p1 p2 bHW xHW0 xHW1 xHW2 bHG xHG0 xHG1 xHG2
          have HB0 := Lib.hid (And.intro HA.out.1 HQ.out)
          apply mrg
          intro key19
          apply mrg
          intro key18
          apply mrg
          intro key17
          apply mrg
          intro key16
          apply mrg
          intro key15
          apply mrg
          intro key14
          apply mrg
          intro key13
          apply mrg
          intro key12
          apply mrg
          intro key11
          apply mrg
          intro key10
          apply mrg
          intro key9
          apply mrg
          intro key8
          apply mrg
          intro key7
          apply mrg
          intro key6
          apply mrg
          intro key5
          apply mrg
          intro key4
          apply mrg
          intro key3
          apply mrg
          intro key2
          apply mrg
          intro key1
          apply mrg
          intro key0
          · have HN := Lib.hid (FS.start w21 n0 b0 n1f0 p1f0 n1 l1 m1 T1)
            refine wp_region_held_drew (S := (fun w' => w'.cell? ⟨w.heap.size, 0, none⟩ = some (.slice a1f0 n1f0 c1f0) ∧ w'.cell? ⟨w.heap.size + 1, 0, none⟩ = some (.int .i64 a2f0) ∧ w'.cell? ⟨w.heap.size + 1, 1, none⟩ = some (.int .i64 a2f1) ∧ w'.cell? ⟨w.heap.size + 1, 2, none⟩ = some (.int .i64 a2f2))) (by kernel_rfl) ?_ (fun hHeld => ?_)
            · exact ⟨(HB0.out.1.keep HN.out.1).cell 0, (HB0.out.2.keep HN.out.1).cell 0, (HB0.out.2.keep HN.out.1).cell 1, (HB0.out.2.keep HN.out.1).cell 2⟩
            replace HN := Lib.hid (HN.out.keep (grown_drew (grown_refl _ none)))
            refine heldY 0 166 ?_
            refine heldY 2 168 ?_
            refine heldY 4 170 ?_
            refine heldY 6 172 ?_
            refine heldY 7 173 ?_
            generalize World.drew _ = wn at HN hHeld ⊢
            revert hHeld
            revert HN
            revert wn
            exact key0.out
          · intro wz  HF hHeld
            refine wpAnyH_ready (rs := [1, 15, 16]) (by kernel_rfl) (by simp) ?_
            refine AllReadyH.cons rfl (fun K hK => ?_) (AllReadyH.cons rfl (fun K hK => ?_) (AllReadyH.cons rfl (fun K hK => ?_) AllReadyH.nil))
            · go_simp
              go_at_call 18
              refine (toBlockS_any _ _ _ _ _ HL.out (HD.out.keep HF.out.1).row hnd HP.out.1).mono ?_
              rintro e wn ⟨A2h, c2h, cs2h, rfl, hl, hs, ho, hk⟩
              have HN := Lib.hid (HF.out.dev hl hs ho hk)
              clear HF hHeld hl hs ho hk
              refine hK.out _ _ ?_ (fun hHeld => ?_)
              · exact ⟨(HB0.out.1.keep HN.out.1).cell 0, (HB0.out.2.keep HN.out.1).cell 0, (HB0.out.2.keep HN.out.1).cell 1, (HB0.out.2.keep HN.out.1).cell 2⟩
              clear hK K
              try simp only [Act.put, List.setIfInBounds_toArray, List.set_cons_zero, List.set_cons_succ]
              revert hHeld
              revert HN
              revert cs2h
              revert c2h
              revert A2h
              revert wn
              exact key3.out
            · go_simp
              have HN := Lib.hid HF.out.allT
              clear HF hHeld
              refine hK.out _ _ ?_ (fun hHeld => ?_)
              · exact ⟨(HB0.out.1.keep HN.out.1).cell 0, (HB0.out.2.keep HN.out.1).cell 0, (HB0.out.2.keep HN.out.1).cell 1, (HB0.out.2.keep HN.out.1).cell 2⟩
              clear hK K
              try simp only [Act.put, List.setIfInBounds_toArray, List.set_cons_zero, List.set_cons_succ]
              generalize wz.heap.size = Vh at HN ⊢
              generalize World.alloc wz _ = wn at HN hHeld ⊢
              revert hHeld
              revert HN
              revert Vh
              revert wn
              exact key2.out
            · go_simp
              have HN := Lib.hid HF.out.allH
              clear HF hHeld
              refine hK.out _ _ ?_ (fun hHeld => ?_)
              · exact ⟨(HB0.out.1.keep HN.out.1).cell 0, (HB0.out.2.keep HN.out.1).cell 0, (HB0.out.2.keep HN.out.1).cell 1, (HB0.out.2.keep HN.out.1).cell 2⟩
              clear hK K
              try simp only [Act.put, List.setIfInBounds_toArray, List.set_cons_zero, List.set_cons_succ]
              generalize wz.heap.size = Gh at HN ⊢
              generalize World.alloc wz _ = wn at HN hHeld ⊢
              revert hHeld
              revert HN
              revert Gh
              revert wn
              exact key1.out
          · intro wz Gh HF hHeld
            refine wpAnyH_ready (rs := [1, 15]) (by kernel_rfl) (by simp) ?_
            refine AllReadyH.cons rfl (fun K hK => ?_) (AllReadyH.cons rfl (fun K hK => ?_) AllReadyH.nil)
            · go_simp
              go_at_call 18
              refine (toBlockS_any _ _ _ _ _ HL.out (HD.out.keep HF.out.1).row hnd HP.out.1).mono ?_
              rintro e wn ⟨A2h, c2h, cs2h, rfl, hl, hs, ho, hk⟩
              have HN := Lib.hid (HF.out.dev hl hs ho hk)
              clear HF hHeld hl hs ho hk
              refine hK.out _ _ ?_ (fun hHeld => ?_)
              · exact ⟨(HB0.out.1.keep HN.out.1).cell 0, (HB0.out.2.keep HN.out.1).cell 0, (HB0.out.2.keep HN.out.1).cell 1, (HB0.out.2.keep HN.out.1).cell 2⟩
              clear hK K
              try simp only [Act.put, List.setIfInBounds_toArray, List.set_cons_zero, List.set_cons_succ]
              revert hHeld
              revert HN
              revert Gh
              revert cs2h
              revert c2h
              revert A2h
              revert wn
              exact key5.out
            · go_simp
              have HN := Lib.hid HF.out.allT
              clear HF hHeld
              refine hK.out _ _ ?_ (fun hHeld => ?_)
              · exact ⟨(HB0.out.1.keep HN.out.1).cell 0, (HB0.out.2.keep HN.out.1).cell 0, (HB0.out.2.keep HN.out.1).cell 1, (HB0.out.2.keep HN.out.1).cell 2⟩
              clear hK K
              try simp only [Act.put, List.setIfInBounds_toArray, List.set_cons_zero, List.set_cons_succ]
              generalize wz.heap.size = Vh at HN ⊢
              generalize World.alloc wz _ = wn at HN hHeld ⊢
              revert hHeld
              revert HN
              revert Gh
              revert Vh
              revert wn
              exact key4.out
          · intro wz Vh HF hHeld
            refine wpAnyH_ready (rs := [1, 16]) (by kernel_rfl) (by simp) ?_
            refine AllReadyH.cons rfl (fun K hK => ?_) (AllReadyH.cons rfl (fun K hK => ?_) AllReadyH.nil)
            · go_simp
              go_at_call 18
              refine (toBlockS_any _ _ _ _ _ HL.out (HD.out.keep HF.out.1).row hnd HP.out.1).mono ?_
              rintro e wn ⟨A2h, c2h, cs2h, rfl, hl, hs, ho, hk⟩
              have HN := Lib.hid (HF.out.dev hl hs ho hk)
              clear HF hHeld hl hs ho hk
              refine hK.out _ _ ?_ (fun hHeld => ?_)
              · exact ⟨(HB0.out.1.keep HN.out.1).cell 0, (HB0.out.2.keep HN.out.1).cell 0, (HB0.out.2.keep HN.out.1).cell 1, (HB0.out.2.keep HN.out.1).cell 2⟩
              clear hK K
              try simp only [Act.put, List.setIfInBounds_toArray, List.set_cons_zero, List.set_cons_succ]
              revert hHeld
              revert HN
              revert Vh
              revert cs2h
              revert c2h
              revert A2h
              revert wn
              exact key6.out
            · go_simp
              have HN := Lib.hid HF.out.allH
              clear HF hHeld
              refine hK.out _ _ ?_ (fun hHeld => ?_)
              · exact ⟨(HB0.out.1.keep HN.out.1).cell 0, (HB0.out.2.keep HN.out.1).cell 0, (HB0.out.2.keep HN.out.1).cell 1, (HB0.out.2.keep HN.out.1).cell 2⟩
              clear hK K
              try simp only [Act.put, List.setIfInBounds_toArray, List.set_cons_zero, List.set_cons_succ]
              generalize wz.heap.size = Gh at HN ⊢
              generalize World.alloc wz _ = wn at HN hHeld ⊢
              revert hHeld
              revert HN
              revert Gh
              revert Vh
              revert wn
              exact key4.out
          · intro wz A2h c2h cs2h HF hHeld
            refine wpAnyH_ready (rs := [3, 15, 16]) (by kernel_rfl) (by simp) ?_
            refine AllReadyH.cons rfl (fun K hK => ?_) (AllReadyH.cons rfl (fun K hK => ?_) (AllReadyH.cons rfl (fun K hK => ?_) AllReadyH.nil))
            · go_simp
              go_at_call 19
              refine (toTable_any _ _ _ _ _ HLHA.out (HA.out.keep HF.out.1).row hn HPHA.out.1).mono ?_
              rintro e wn ⟨A3h, c3h, cs3h, rfl, hl, hs, ho, hk⟩
              have HN := Lib.hid (HF.out.tabl hl hs ho hk)
              clear HF hHeld hl hs ho hk
              refine hK.out _ _ ?_ (fun hHeld => ?_)
              · exact ⟨(HB0.out.1.keep HN.out.1).cell 0, (HB0.out.2.keep HN.out.1).cell 0, (HB0.out.2.keep HN.out.1).cell 1, (HB0.out.2.keep HN.out.1).cell 2⟩
              clear hK K
              try simp only [Act.put, List.setIfInBounds_toArray, List.set_cons_zero, List.set_cons_succ]
              revert hHeld
              revert HN
              revert cs3h
              revert c3h
              revert A3h
              revert cs2h
              revert c2h
              revert A2h
              revert wn
              exact key7.out
            · go_simp
              have HN := Lib.hid HF.out.allT
              clear HF hHeld
              refine hK.out _ _ ?_ (fun hHeld => ?_)
              · exact ⟨(HB0.out.1.keep HN.out.1).cell 0, (HB0.out.2.keep HN.out.1).cell 0, (HB0.out.2.keep HN.out.1).cell 1, (HB0.out.2.keep HN.out.1).cell 2⟩
              clear hK K
              try simp only [Act.put, List.setIfInBounds_toArray, List.set_cons_zero, List.set_cons_succ]
              generalize wz.heap.size = Vh at HN ⊢
              generalize World.alloc wz _ = wn at HN hHeld ⊢
              revert hHeld
              revert HN
              revert Vh
              revert cs2h
              revert c2h
              revert A2h
              revert wn
              exact key6.out
            · go_simp
              have HN := Lib.hid HF.out.allH
              clear HF hHeld
              refine hK.out _ _ ?_ (fun hHeld => ?_)
              · exact ⟨(HB0.out.1.keep HN.out.1).cell 0, (HB0.out.2.keep HN.out.1).cell 0, (HB0.out.2.keep HN.out.1).cell 1, (HB0.out.2.keep HN.out.1).cell 2⟩
              clear hK K
              try simp only [Act.put, List.setIfInBounds_toArray, List.set_cons_zero, List.set_cons_succ]
              generalize wz.heap.size = Gh at HN ⊢
              generalize World.alloc wz _ = wn at HN hHeld ⊢
              revert hHeld
              revert HN
              revert Gh
              revert cs2h
              revert c2h
              revert A2h
              revert wn
              exact key5.out
          · intro wz Vh Gh HF hHeld
            refine wpAnyH_ready (rs := [1]) (by kernel_rfl) (by simp) ?_
            refine AllReadyH.cons rfl (fun K hK => ?_) AllReadyH.nil
            go_simp
            go_at_call 18
            refine (toBlockS_any _ _ _ _ _ HL.out (HD.out.keep HF.out.1).row hnd HP.out.1).mono ?_
            rintro e wn ⟨A2h, c2h, cs2h, rfl, hl, hs, ho, hk⟩
            have HN := Lib.hid (HF.out.dev hl hs ho hk)
            clear HF hHeld hl hs ho hk
            refine hK.out _ _ ?_ (fun hHeld => ?_)
            · exact ⟨(HB0.out.1.keep HN.out.1).cell 0, (HB0.out.2.keep HN.out.1).cell 0, (HB0.out.2.keep HN.out.1).cell 1, (HB0.out.2.keep HN.out.1).cell 2⟩
            clear hK K
            try simp only [Act.put, List.setIfInBounds_toArray, List.set_cons_zero, List.set_cons_succ]
            revert hHeld
            revert HN
            revert Gh
            revert Vh
            revert cs2h
            revert c2h
            revert A2h
            revert wn
            exact key8.out
          · intro wz A2h c2h cs2h Gh HF hHeld
            refine wpAnyH_ready (rs := [3, 15]) (by kernel_rfl) (by simp) ?_
            refine AllReadyH.cons rfl (fun K hK => ?_) (AllReadyH.cons rfl (fun K hK => ?_) AllReadyH.nil)
            · go_simp
              go_at_call 19
              refine (toTable_any _ _ _ _ _ HLHA.out (HA.out.keep HF.out.1).row hn HPHA.out.1).mono ?_
              rintro e wn ⟨A3h, c3h, cs3h, rfl, hl, hs, ho, hk⟩
              have HN := Lib.hid (HF.out.tabl hl hs ho hk)
              clear HF hHeld hl hs ho hk
              refine hK.out _ _ ?_ (fun hHeld => ?_)
              · exact ⟨(HB0.out.1.keep HN.out.1).cell 0, (HB0.out.2.keep HN.out.1).cell 0, (HB0.out.2.keep HN.out.1).cell 1, (HB0.out.2.keep HN.out.1).cell 2⟩
              clear hK K
              try simp only [Act.put, List.setIfInBounds_toArray, List.set_cons_zero, List.set_cons_succ]
              revert hHeld
              revert HN
              revert Gh
              revert cs3h
              revert c3h
              revert A3h
              revert cs2h
              revert c2h
              revert A2h
              revert wn
              exact key9.out
            · go_simp
              have HN := Lib.hid HF.out.allT
              clear HF hHeld
              refine hK.out _ _ ?_ (fun hHeld => ?_)
              · exact ⟨(HB0.out.1.keep HN.out.1).cell 0, (HB0.out.2.keep HN.out.1).cell 0, (HB0.out.2.keep HN.out.1).cell 1, (HB0.out.2.keep HN.out.1).cell 2⟩
              clear hK K
              try simp only [Act.put, List.setIfInBounds_toArray, List.set_cons_zero, List.set_cons_succ]
              generalize wz.heap.size = Vh at HN ⊢
              generalize World.alloc wz _ = wn at HN hHeld ⊢
              revert hHeld
              revert HN
              revert Gh
              revert Vh
              revert cs2h
              revert c2h
              revert A2h
              revert wn
              exact key8.out
          · intro wz A2h c2h cs2h Vh HF hHeld
            refine wpAnyH_ready (rs := [3, 16]) (by kernel_rfl) (by simp) ?_
            refine AllReadyH.cons rfl (fun K hK => ?_) (AllReadyH.cons rfl (fun K hK => ?_) AllReadyH.nil)
            · go_simp
              go_at_call 19
              refine (toTable_any _ _ _ _ _ HLHA.out (HA.out.keep HF.out.1).row hn HPHA.out.1).mono ?_
              rintro e wn ⟨A3h, c3h, cs3h, rfl, hl, hs, ho, hk⟩
              have HN := Lib.hid (HF.out.tabl hl hs ho hk)
              clear HF hHeld hl hs ho hk
              refine hK.out _ _ ?_ (fun hHeld => ?_)
              · exact ⟨(HB0.out.1.keep HN.out.1).cell 0, (HB0.out.2.keep HN.out.1).cell 0, (HB0.out.2.keep HN.out.1).cell 1, (HB0.out.2.keep HN.out.1).cell 2⟩
              clear hK K
              try simp only [Act.put, List.setIfInBounds_toArray, List.set_cons_zero, List.set_cons_succ]
              revert hHeld
              revert HN
              revert Vh
              revert cs3h
              revert c3h
              revert A3h
              revert cs2h
              revert c2h
              revert A2h
              revert wn
              exact key10.out
            · go_simp
              have HN := Lib.hid HF.out.allH
              clear HF hHeld
              refine hK.out _ _ ?_ (fun hHeld => ?_)
              · exact ⟨(HB0.out.1.keep HN.out.1).cell 0, (HB0.out.2.keep HN.out.1).cell 0, (HB0.out.2.keep HN.out.1).cell 1, (HB0.out.2.keep HN.out.1).cell 2⟩
              clear hK K
              try simp only [Act.put, List.setIfInBounds_toArray, List.set_cons_zero, List.set_cons_succ]
              generalize wz.heap.size = Gh at HN ⊢
              generalize World.alloc wz _ = wn at HN hHeld ⊢
              revert hHeld
              revert HN
              revert Gh
              revert Vh
              revert cs2h
              revert c2h
              revert A2h
              revert wn
              exact key8.out
          · intro wz A2h c2h cs2h A3h c3h cs3h HF hHeld
            refine wpAnyH_ready (rs := [5, 15, 16]) (by kernel_rfl) (by simp) ?_
            refine AllReadyH.cons rfl (fun K hK => ?_) (AllReadyH.cons rfl (fun K hK => ?_) (AllReadyH.cons rfl (fun K hK => ?_) AllReadyH.nil))
            · go_simp
              go_at_call 20
              refine (toHeads_any _ _ _ _).mono ?_
              rintro e wn ⟨rfl, hk⟩
              have HN := Lib.hid (HF.out.hds hk)
              clear HF hHeld hk
              refine hK.out _ _ ?_ (fun hHeld => ?_)
              · exact ⟨(HB0.out.1.keep HN.out.1).cell 0, (HB0.out.2.keep HN.out.1).cell 0, (HB0.out.2.keep HN.out.1).cell 1, (HB0.out.2.keep HN.out.1).cell 2⟩
              clear hK K
              try simp only [Act.put, List.setIfInBounds_toArray, List.set_cons_zero, List.set_cons_succ]
              revert hHeld
              revert HN
              revert cs3h
              revert c3h
              revert A3h
              revert cs2h
              revert c2h
              revert A2h
              revert wn
              exact key11.out
            · go_simp
              have HN := Lib.hid HF.out.allT
              clear HF hHeld
              refine hK.out _ _ ?_ (fun hHeld => ?_)
              · exact ⟨(HB0.out.1.keep HN.out.1).cell 0, (HB0.out.2.keep HN.out.1).cell 0, (HB0.out.2.keep HN.out.1).cell 1, (HB0.out.2.keep HN.out.1).cell 2⟩
              clear hK K
              try simp only [Act.put, List.setIfInBounds_toArray, List.set_cons_zero, List.set_cons_succ]
              generalize wz.heap.size = Vh at HN ⊢
              generalize World.alloc wz _ = wn at HN hHeld ⊢
              revert hHeld
              revert HN
              revert Vh
              revert cs3h
              revert c3h
              revert A3h
              revert cs2h
              revert c2h
              revert A2h
              revert wn
              exact key10.out
            · go_simp
              have HN := Lib.hid HF.out.allH
              clear HF hHeld
              refine hK.out _ _ ?_ (fun hHeld => ?_)
              · exact ⟨(HB0.out.1.keep HN.out.1).cell 0, (HB0.out.2.keep HN.out.1).cell 0, (HB0.out.2.keep HN.out.1).cell 1, (HB0.out.2.keep HN.out.1).cell 2⟩
              clear hK K
              try simp only [Act.put, List.setIfInBounds_toArray, List.set_cons_zero, List.set_cons_succ]
              generalize wz.heap.size = Gh at HN ⊢
              generalize World.alloc wz _ = wn at HN hHeld ⊢
              revert hHeld
              revert HN
              revert Gh
              revert cs3h
              revert c3h
              revert A3h
              revert cs2h
              revert c2h
              revert A2h
              revert wn
              exact key9.out
          · intro wz A2h c2h cs2h Vh Gh HF hHeld
            refine wpAnyH_ready (rs := [3]) (by kernel_rfl) (by simp) ?_
            refine AllReadyH.cons rfl (fun K hK => ?_) AllReadyH.nil
            go_simp
            go_at_call 19
            refine (toTable_any _ _ _ _ _ HLHA.out (HA.out.keep HF.out.1).row hn HPHA.out.1).mono ?_
            rintro e wn ⟨A3h, c3h, cs3h, rfl, hl, hs, ho, hk⟩
            have HN := Lib.hid (HF.out.tabl hl hs ho hk)
            clear HF hHeld hl hs ho hk
            refine hK.out _ _ ?_ (fun hHeld => ?_)
            · exact ⟨(HB0.out.1.keep HN.out.1).cell 0, (HB0.out.2.keep HN.out.1).cell 0, (HB0.out.2.keep HN.out.1).cell 1, (HB0.out.2.keep HN.out.1).cell 2⟩
            clear hK K
            try simp only [Act.put, List.setIfInBounds_toArray, List.set_cons_zero, List.set_cons_succ]
            revert hHeld
            revert HN
            revert Gh
            revert Vh
            revert cs3h
            revert c3h
            revert A3h
            revert cs2h
            revert c2h
            revert A2h
            revert wn
            exact key12.out
          · intro wz A2h c2h cs2h A3h c3h cs3h Gh HF hHeld
            refine wpAnyH_ready (rs := [5, 15]) (by kernel_rfl) (by simp) ?_
            refine AllReadyH.cons rfl (fun K hK => ?_) (AllReadyH.cons rfl (fun K hK => ?_) AllReadyH.nil)
            · go_simp
              go_at_call 20
              refine (toHeads_any _ _ _ _).mono ?_
              rintro e wn ⟨rfl, hk⟩
              have HN := Lib.hid (HF.out.hds hk)
              clear HF hHeld hk
              refine hK.out _ _ ?_ (fun hHeld => ?_)
              · exact ⟨(HB0.out.1.keep HN.out.1).cell 0, (HB0.out.2.keep HN.out.1).cell 0, (HB0.out.2.keep HN.out.1).cell 1, (HB0.out.2.keep HN.out.1).cell 2⟩
              clear hK K
              try simp only [Act.put, List.setIfInBounds_toArray, List.set_cons_zero, List.set_cons_succ]
              revert hHeld
              revert HN
              revert Gh
              revert cs3h
              revert c3h
              revert A3h
              revert cs2h
              revert c2h
              revert A2h
              revert wn
              exact key13.out
            · go_simp
              have HN := Lib.hid HF.out.allT
              clear HF hHeld
              refine hK.out _ _ ?_ (fun hHeld => ?_)
              · exact ⟨(HB0.out.1.keep HN.out.1).cell 0, (HB0.out.2.keep HN.out.1).cell 0, (HB0.out.2.keep HN.out.1).cell 1, (HB0.out.2.keep HN.out.1).cell 2⟩
              clear hK K
              try simp only [Act.put, List.setIfInBounds_toArray, List.set_cons_zero, List.set_cons_succ]
              generalize wz.heap.size = Vh at HN ⊢
              generalize World.alloc wz _ = wn at HN hHeld ⊢
              revert hHeld
              revert HN
              revert Gh
              revert Vh
              revert cs3h
              revert c3h
              revert A3h
              revert cs2h
              revert c2h
              revert A2h
              revert wn
              exact key12.out
          · intro wz A2h c2h cs2h A3h c3h cs3h Vh HF hHeld
            refine wpAnyH_ready (rs := [5, 16]) (by kernel_rfl) (by simp) ?_
            refine AllReadyH.cons rfl (fun K hK => ?_) (AllReadyH.cons rfl (fun K hK => ?_) AllReadyH.nil)
            · go_simp
              go_at_call 20
              refine (toHeads_any _ _ _ _).mono ?_
              rintro e wn ⟨rfl, hk⟩
              have HN := Lib.hid (HF.out.hds hk)
              clear HF hHeld hk
              refine hK.out _ _ ?_ (fun hHeld => ?_)
              · exact ⟨(HB0.out.1.keep HN.out.1).cell 0, (HB0.out.2.keep HN.out.1).cell 0, (HB0.out.2.keep HN.out.1).cell 1, (HB0.out.2.keep HN.out.1).cell 2⟩
              clear hK K
              try simp only [Act.put, List.setIfInBounds_toArray, List.set_cons_zero, List.set_cons_succ]
              revert hHeld
              revert HN
              revert Vh
              revert cs3h
              revert c3h
              revert A3h
              revert cs2h
              revert c2h
              revert A2h
              revert wn
              exact key14.out
            · go_simp
              have HN := Lib.hid HF.out.allH
              clear HF hHeld
              refine hK.out _ _ ?_ (fun hHeld => ?_)
              · exact ⟨(HB0.out.1.keep HN.out.1).cell 0, (HB0.out.2.keep HN.out.1).cell 0, (HB0.out.2.keep HN.out.1).cell 1, (HB0.out.2.keep HN.out.1).cell 2⟩
              clear hK K
              try simp only [Act.put, List.setIfInBounds_toArray, List.set_cons_zero, List.set_cons_succ]
              generalize wz.heap.size = Gh at HN ⊢
              generalize World.alloc wz _ = wn at HN hHeld ⊢
              revert hHeld
              revert HN
              revert Gh
              revert Vh
              revert cs3h
              revert c3h
              revert A3h
              revert cs2h
              revert c2h
              revert A2h
              revert wn
              exact key12.out
          · intro wz A2h c2h cs2h A3h c3h cs3h HF hHeld
            refine wpAnyH_ready (rs := [8, 15, 16]) (by kernel_rfl) (by simp) ?_
            refine AllReadyH.cons rfl (fun K hK => ?_) (AllReadyH.cons rfl (fun K hK => ?_) (AllReadyH.cons rfl (fun K hK => ?_) AllReadyH.nil))
            · go_simp
              go_at_call 6
              refine (clean_val (CleanIs.of HI.out (HF.out.2.1 (by omega)).2.1 (HF.out.2.2.1 (by omega)).2.1) (HF.out.2.1 (by omega)).1 (HF.out.2.1 (by omega)).2.2 hnd (small_is (HF.out.2.1 (by omega)).2.1 HP.out.1) (HF.out.2.2.1 (by omega)).1 (HF.out.2.2.1 (by omega)).2.2 hn (small_cp (HF.out.2.2.1 (by omega)).2.1 HPHA.out.2)).mono ?_
              rintro e wn ⟨D4h, d4h, cs4h, B4h, e4h, ts4h, rfl, hx, hd, ht, hk⟩
              have HN := Lib.hid (HF.out.clean hx hd ht hk)
              clear HF hHeld hx hd ht hk
              refine hK.out _ _ ?_ (fun hHeld => ?_)
              · exact ⟨(HB0.out.1.keep HN.out.1).cell 0, (HB0.out.2.keep HN.out.1).cell 0, (HB0.out.2.keep HN.out.1).cell 1, (HB0.out.2.keep HN.out.1).cell 2⟩
              clear hK K
              try simp only [Act.put, List.setIfInBounds_toArray, List.set_cons_zero, List.set_cons_succ]
              refine heldY 9 165 ?_
              refine heldY 10 175 ?_
              refine heldY 11 176 ?_
              refine heldY 12 177 ?_
              refine heldY 13 178 ?_
              refine heldY 14 179 ?_
              revert hHeld
              revert HN
              revert ts4h
              revert e4h
              revert B4h
              revert cs4h
              revert d4h
              revert D4h
              revert cs3h
              revert c3h
              revert A3h
              revert cs2h
              revert c2h
              revert A2h
              revert wn
              exact key15.out
            · go_simp
              have HN := Lib.hid HF.out.allT
              clear HF hHeld
              refine hK.out _ _ ?_ (fun hHeld => ?_)
              · exact ⟨(HB0.out.1.keep HN.out.1).cell 0, (HB0.out.2.keep HN.out.1).cell 0, (HB0.out.2.keep HN.out.1).cell 1, (HB0.out.2.keep HN.out.1).cell 2⟩
              clear hK K
              try simp only [Act.put, List.setIfInBounds_toArray, List.set_cons_zero, List.set_cons_succ]
              generalize wz.heap.size = Vh at HN ⊢
              generalize World.alloc wz _ = wn at HN hHeld ⊢
              revert hHeld
              revert HN
              revert Vh
              revert cs3h
              revert c3h
              revert A3h
              revert cs2h
              revert c2h
              revert A2h
              revert wn
              exact key14.out
            · go_simp
              have HN := Lib.hid HF.out.allH
              clear HF hHeld
              refine hK.out _ _ ?_ (fun hHeld => ?_)
              · exact ⟨(HB0.out.1.keep HN.out.1).cell 0, (HB0.out.2.keep HN.out.1).cell 0, (HB0.out.2.keep HN.out.1).cell 1, (HB0.out.2.keep HN.out.1).cell 2⟩
              clear hK K
              try simp only [Act.put, List.setIfInBounds_toArray, List.set_cons_zero, List.set_cons_succ]
              generalize wz.heap.size = Gh at HN ⊢
              generalize World.alloc wz _ = wn at HN hHeld ⊢
              revert hHeld
              revert HN
              revert Gh
              revert cs3h
              revert c3h
              revert A3h
              revert cs2h
              revert c2h
              revert A2h
              revert wn
              exact key13.out
          · intro wz A2h c2h cs2h A3h c3h cs3h Vh Gh HF hHeld
            refine wpAnyH_ready (rs := [5]) (by kernel_rfl) (by simp) ?_
            refine AllReadyH.cons rfl (fun K hK => ?_) AllReadyH.nil
            go_simp
            go_at_call 20
            refine (toHeads_any _ _ _ _).mono ?_
            rintro e wn ⟨rfl, hk⟩
            have HN := Lib.hid (HF.out.hds hk)
            clear HF hHeld hk
            refine hK.out _ _ ?_ (fun hHeld => ?_)
            · exact ⟨(HB0.out.1.keep HN.out.1).cell 0, (HB0.out.2.keep HN.out.1).cell 0, (HB0.out.2.keep HN.out.1).cell 1, (HB0.out.2.keep HN.out.1).cell 2⟩
            clear hK K
            try simp only [Act.put, List.setIfInBounds_toArray, List.set_cons_zero, List.set_cons_succ]
            revert hHeld
            revert HN
            revert Gh
            revert Vh
            revert cs3h
            revert c3h
            revert A3h
            revert cs2h
            revert c2h
            revert A2h
            revert wn
            exact key16.out
          · intro wz A2h c2h cs2h A3h c3h cs3h Gh HF hHeld
            refine wpAnyH_ready (rs := [8, 15]) (by kernel_rfl) (by simp) ?_
            refine AllReadyH.cons rfl (fun K hK => ?_) (AllReadyH.cons rfl (fun K hK => ?_) AllReadyH.nil)
            · go_simp
              go_at_call 6
              refine (clean_val (CleanIs.of HI.out (HF.out.2.1 (by omega)).2.1 (HF.out.2.2.1 (by omega)).2.1) (HF.out.2.1 (by omega)).1 (HF.out.2.1 (by omega)).2.2 hnd (small_is (HF.out.2.1 (by omega)).2.1 HP.out.1) (HF.out.2.2.1 (by omega)).1 (HF.out.2.2.1 (by omega)).2.2 hn (small_cp (HF.out.2.2.1 (by omega)).2.1 HPHA.out.2)).mono ?_
              rintro e wn ⟨D4h, d4h, cs4h, B4h, e4h, ts4h, rfl, hx, hd, ht, hk⟩
              have HN := Lib.hid (HF.out.clean hx hd ht hk)
              clear HF hHeld hx hd ht hk
              refine hK.out _ _ ?_ (fun hHeld => ?_)
              · exact ⟨(HB0.out.1.keep HN.out.1).cell 0, (HB0.out.2.keep HN.out.1).cell 0, (HB0.out.2.keep HN.out.1).cell 1, (HB0.out.2.keep HN.out.1).cell 2⟩
              clear hK K
              try simp only [Act.put, List.setIfInBounds_toArray, List.set_cons_zero, List.set_cons_succ]
              refine heldY 9 165 ?_
              refine heldY 10 175 ?_
              refine heldY 11 176 ?_
              refine heldY 12 177 ?_
              refine heldY 13 178 ?_
              refine heldY 14 179 ?_
              revert hHeld
              revert HN
              revert Gh
              revert ts4h
              revert e4h
              revert B4h
              revert cs4h
              revert d4h
              revert D4h
              revert cs3h
              revert c3h
              revert A3h
              revert cs2h
              revert c2h
              revert A2h
              revert wn
              exact key17.out
            · go_simp
              have HN := Lib.hid HF.out.allT
              clear HF hHeld
              refine hK.out _ _ ?_ (fun hHeld => ?_)
              · exact ⟨(HB0.out.1.keep HN.out.1).cell 0, (HB0.out.2.keep HN.out.1).cell 0, (HB0.out.2.keep HN.out.1).cell 1, (HB0.out.2.keep HN.out.1).cell 2⟩
              clear hK K
              try simp only [Act.put, List.setIfInBounds_toArray, List.set_cons_zero, List.set_cons_succ]
              generalize wz.heap.size = Vh at HN ⊢
              generalize World.alloc wz _ = wn at HN hHeld ⊢
              revert hHeld
              revert HN
              revert Gh
              revert Vh
              revert cs3h
              revert c3h
              revert A3h
              revert cs2h
              revert c2h
              revert A2h
              revert wn
              exact key16.out
          · intro wz A2h c2h cs2h A3h c3h cs3h Vh HF hHeld
            refine wpAnyH_ready (rs := [8, 16]) (by kernel_rfl) (by simp) ?_
            refine AllReadyH.cons rfl (fun K hK => ?_) (AllReadyH.cons rfl (fun K hK => ?_) AllReadyH.nil)
            · go_simp
              go_at_call 6
              refine (clean_val (CleanIs.of HI.out (HF.out.2.1 (by omega)).2.1 (HF.out.2.2.1 (by omega)).2.1) (HF.out.2.1 (by omega)).1 (HF.out.2.1 (by omega)).2.2 hnd (small_is (HF.out.2.1 (by omega)).2.1 HP.out.1) (HF.out.2.2.1 (by omega)).1 (HF.out.2.2.1 (by omega)).2.2 hn (small_cp (HF.out.2.2.1 (by omega)).2.1 HPHA.out.2)).mono ?_
              rintro e wn ⟨D4h, d4h, cs4h, B4h, e4h, ts4h, rfl, hx, hd, ht, hk⟩
              have HN := Lib.hid (HF.out.clean hx hd ht hk)
              clear HF hHeld hx hd ht hk
              refine hK.out _ _ ?_ (fun hHeld => ?_)
              · exact ⟨(HB0.out.1.keep HN.out.1).cell 0, (HB0.out.2.keep HN.out.1).cell 0, (HB0.out.2.keep HN.out.1).cell 1, (HB0.out.2.keep HN.out.1).cell 2⟩
              clear hK K
              try simp only [Act.put, List.setIfInBounds_toArray, List.set_cons_zero, List.set_cons_succ]
              refine heldY 9 165 ?_
              refine heldY 10 175 ?_
              refine heldY 11 176 ?_
              refine heldY 12 177 ?_
              refine heldY 13 178 ?_
              refine heldY 14 179 ?_
              revert hHeld
              revert HN
              revert Vh
              revert ts4h
              revert e4h
              revert B4h
              revert cs4h
              revert d4h
              revert D4h
              revert cs3h
              revert c3h
              revert A3h
              revert cs2h
              revert c2h
              revert A2h
              revert wn
              exact key18.out
            · go_simp
              have HN := Lib.hid HF.out.allH
              clear HF hHeld
              refine hK.out _ _ ?_ (fun hHeld => ?_)
              · exact ⟨(HB0.out.1.keep HN.out.1).cell 0, (HB0.out.2.keep HN.out.1).cell 0, (HB0.out.2.keep HN.out.1).cell 1, (HB0.out.2.keep HN.out.1).cell 2⟩
              clear hK K
              try simp only [Act.put, List.setIfInBounds_toArray, List.set_cons_zero, List.set_cons_succ]
              generalize wz.heap.size = Gh at HN ⊢
              generalize World.alloc wz _ = wn at HN hHeld ⊢
              revert hHeld
              revert HN
              revert Gh
              revert Vh
              revert cs3h
              revert c3h
              revert A3h
              revert cs2h
              revert c2h
              revert A2h
              revert wn
              exact key16.out
          · intro wz A2h c2h cs2h A3h c3h cs3h D4h d4h cs4h B4h e4h ts4h HF hHeld
            refine wpAnyH_ready (rs := [15, 16]) (by kernel_rfl) (by simp) ?_
            refine AllReadyH.cons rfl (fun K hK => ?_) (AllReadyH.cons rfl (fun K hK => ?_) AllReadyH.nil)
            · go_simp
              have HN := Lib.hid HF.out.allT
              clear HF hHeld
              refine hK.out _ _ ?_ (fun hHeld => ?_)
              · exact ⟨(HB0.out.1.keep HN.out.1).cell 0, (HB0.out.2.keep HN.out.1).cell 0, (HB0.out.2.keep HN.out.1).cell 1, (HB0.out.2.keep HN.out.1).cell 2⟩
              clear hK K
              try simp only [Act.put, List.setIfInBounds_toArray, List.set_cons_zero, List.set_cons_succ]
              generalize wz.heap.size = Vh at HN ⊢
              generalize World.alloc wz _ = wn at HN hHeld ⊢
              revert hHeld
              revert HN
              revert Vh
              revert ts4h
              revert e4h
              revert B4h
              revert cs4h
              revert d4h
              revert D4h
              revert cs3h
              revert c3h
              revert A3h
              revert cs2h
              revert c2h
              revert A2h
              revert wn
              exact key18.out
            · go_simp
              have HN := Lib.hid HF.out.allH
              clear HF hHeld
              refine hK.out _ _ ?_ (fun hHeld => ?_)
              · exact ⟨(HB0.out.1.keep HN.out.1).cell 0, (HB0.out.2.keep HN.out.1).cell 0, (HB0.out.2.keep HN.out.1).cell 1, (HB0.out.2.keep HN.out.1).cell 2⟩
              clear hK K
              try simp only [Act.put, List.setIfInBounds_toArray, List.set_cons_zero, List.set_cons_succ]
              generalize wz.heap.size = Gh at HN ⊢
              generalize World.alloc wz _ = wn at HN hHeld ⊢
              revert hHeld
              revert HN
              revert Gh
              revert ts4h
              revert e4h
              revert B4h
              revert cs4h
              revert d4h
              revert D4h
              revert cs3h
              revert c3h
              revert A3h
              revert cs2h
              revert c2h
              revert A2h
              revert wn
              exact key17.out
          · intro wz A2h c2h cs2h A3h c3h cs3h Vh Gh HF hHeld
            refine wpAnyH_ready (rs := [8]) (by kernel_rfl) (by simp) ?_
            refine AllReadyH.cons rfl (fun K hK => ?_) AllReadyH.nil
            go_simp
            go_at_call 6
            refine (clean_val (CleanIs.of HI.out (HF.out.2.1 (by omega)).2.1 (HF.out.2.2.1 (by omega)).2.1) (HF.out.2.1 (by omega)).1 (HF.out.2.1 (by omega)).2.2 hnd (small_is (HF.out.2.1 (by omega)).2.1 HP.out.1) (HF.out.2.2.1 (by omega)).1 (HF.out.2.2.1 (by omega)).2.2 hn (small_cp (HF.out.2.2.1 (by omega)).2.1 HPHA.out.2)).mono ?_
            rintro e wn ⟨D4h, d4h, cs4h, B4h, e4h, ts4h, rfl, hx, hd, ht, hk⟩
            have HN := Lib.hid (HF.out.clean hx hd ht hk)
            clear HF hHeld hx hd ht hk
            refine hK.out _ _ ?_ (fun hHeld => ?_)
            · exact ⟨(HB0.out.1.keep HN.out.1).cell 0, (HB0.out.2.keep HN.out.1).cell 0, (HB0.out.2.keep HN.out.1).cell 1, (HB0.out.2.keep HN.out.1).cell 2⟩
            clear hK K
            try simp only [Act.put, List.setIfInBounds_toArray, List.set_cons_zero, List.set_cons_succ]
            refine heldY 9 165 ?_
            refine heldY 10 175 ?_
            refine heldY 11 176 ?_
            refine heldY 12 177 ?_
            refine heldY 13 178 ?_
            refine heldY 14 179 ?_
            revert hHeld
            revert HN
            revert Gh
            revert Vh
            revert ts4h
            revert e4h
            revert B4h
            revert cs4h
            revert d4h
            revert D4h
            revert cs3h
            revert c3h
            revert A3h
            revert cs2h
            revert c2h
            revert A2h
            revert wn
            exact key19.out
          · intro wz A2h c2h cs2h A3h c3h cs3h D4h d4h cs4h B4h e4h ts4h Gh HF hHeld
            refine wpAnyH_ready (rs := [15]) (by kernel_rfl) (by simp) ?_
            refine AllReadyH.cons rfl (fun K hK => ?_) AllReadyH.nil
            go_simp
            have HN := Lib.hid HF.out.allT
            clear HF hHeld
            refine hK.out _ _ ?_ (fun hHeld => ?_)
            · exact ⟨(HB0.out.1.keep HN.out.1).cell 0, (HB0.out.2.keep HN.out.1).cell 0, (HB0.out.2.keep HN.out.1).cell 1, (HB0.out.2.keep HN.out.1).cell 2⟩
            clear hK K
            try simp only [Act.put, List.setIfInBounds_toArray, List.set_cons_zero, List.set_cons_succ]
            generalize wz.heap.size = Vh at HN ⊢
            generalize World.alloc wz _ = wn at HN hHeld ⊢
            revert hHeld
            revert HN
            revert Gh
            revert Vh
            revert ts4h
            revert e4h
            revert B4h
            revert cs4h
            revert d4h
            revert D4h
            revert cs3h
            revert c3h
            revert A3h
            revert cs2h
            revert c2h
            revert A2h
            revert wn
            exact key19.out
          · intro wz A2h c2h cs2h A3h c3h cs3h D4h d4h cs4h B4h e4h ts4h Vh HF hHeld
            refine wpAnyH_ready (rs := [16]) (by kernel_rfl) (by simp) ?_
            refine AllReadyH.cons rfl (fun K hK => ?_) AllReadyH.nil
            go_simp
            have HN := Lib.hid HF.out.allH
            clear HF hHeld
            refine hK.out _ _ ?_ (fun hHeld => ?_)
            · exact ⟨(HB0.out.1.keep HN.out.1).cell 0, (HB0.out.2.keep HN.out.1).cell 0, (HB0.out.2.keep HN.out.1).cell 1, (HB0.out.2.keep HN.out.1).cell 2⟩
            clear hK K
            try simp only [Act.put, List.setIfInBounds_toArray, List.set_cons_zero, List.set_cons_succ]
            generalize wz.heap.size = Gh at HN ⊢
            generalize World.alloc wz _ = wn at HN hHeld ⊢
            revert hHeld
            revert HN
            revert Gh
            revert Vh
            revert ts4h
            revert e4h
            revert B4h
            revert cs4h
            revert d4h
            revert D4h
            revert cs3h
            revert c3h
            revert A3h
            revert cs2h
            revert c2h
            revert A2h
            revert wn
            exact key19.out
          · intro wz A2h c2h cs2h A3h c3h cs3h D4h d4h cs4h B4h e4h ts4h Vh Gh HF hHeld
            have hq0 := HQ.out.lt
            have ha0 := HA.out.1.lt
            obtain ⟨⟨lv, lg, nvg, ngv⟩, ⟨t0, t1⟩, ⟨r0, r1, r2⟩, q0, q1, q2⟩ := HF.out.vars
            have m1' : w.heap.size ≠ Vh := by omega
            have m2' : w.heap.size ≠ Gh := by omega
            have m3' : w.heap.size + 1 ≠ Vh := by omega
            have m4' : w.heap.size + 1 ≠ Gh := by omega
            refine heldY 17 27 ?_
            refine wpAnyH_ready (rs := [18]) (by kernel_rfl) (by simp) ?_
            refine AllReadyH.cons rfl (fun K hK => ?_) AllReadyH.nil
            go_simp
            refine hK.out _ _ ?_ (fun hHeld => ?_)
            · exact ⟨cell_far hHeld.1 _ m1', cell_far hHeld.2.1 _ m3', cell_far hHeld.2.2.1 _ m3', cell_far hHeld.2.2.2 _ m3'⟩
            clear hK K
            try simp only [Act.put, List.setIfInBounds_toArray, List.set_cons_zero, List.set_cons_succ]
            refine wpAnyH_ready (rs := [19]) (by kernel_rfl) (by simp) ?_
            refine AllReadyH.cons rfl (fun K hK => ?_) AllReadyH.nil
            go_simp
            refine hK.out _ _ ?_ (fun hHeld => ?_)
            · exact ⟨cell_far3 hHeld.1 _ _ _ m2', cell_far3 hHeld.2.1 _ _ _ m4', cell_far3 hHeld.2.2.1 _ _ _ m4', cell_far3 hHeld.2.2.2 _ _ _ m4'⟩
            clear hK K
            try simp only [Act.put, List.setIfInBounds_toArray, List.set_cons_zero, List.set_cons_succ]
            refine heldY 20 30 ?_
            refine heldY 21 31 ?_
            clear t0 t1 r0 r1 r2 q0 q1 q2 m1' m2' m3' m4' nvg ngv lv lg hHeld
            refine wpAnyH_done (by kernel_rfl) ?_ _
            clear hq0 ha0
            obtain ⟨hiHH, hx, hk, rHH, eHH⟩ := HF.out.pack HA.out.2.2.2 y1 y2 y3
            have SHH := Lib.hid (HF.out.2.2.2.1 (by omega)).1
            have zHH := HQ.out.lt
            have uHH := HG.out.2.2.2.2.1
            generalize World.setCell _ _ _ = wf at hx hk eHH ⊢
            replace HA := Lib.hid (HA.out.keep hk)
            replace HD := Lib.hid (HD.out.keep hk)
            replace HQ := Lib.hid (HQ.out.keep hk)
            replace HW := Lib.hid (HW.out.keep hk)
            replace HG := Lib.hid (HG.out.keep hk)
            have HH := Lib.hid hx
            clear hx hk HF HB0 eHH
            have bHA := HA.out.cell
            have lHA := HA.out.1.lt
            obtain ⟨p0, p1, p2⟩ := cells3 HQ.out
            obtain ⟨bHW, xHW0, xHW1, xHW2⟩ := HW.out.cells
            obtain ⟨bHG, xHG0, xHG1, xHG2⟩ := HG.out.cells
            obtain ⟨bHH, xHH0, xHH1, xHH2⟩ := HH.out.cells
            have THH := Lib.hid (show tot cs4h ≤ 1048576 by rw [tot_is SHH.out.2.1]; exact HT.out.1)
            go_wp2_with fail
            clear bHA lHA p0 p1 p2 bHW xHW0 xHW1 xHW2 bHG xHG0 xHG1 xHG2 bHH xHH0 xHH1 xHH2
            refine (eqBlockS_same _ _ _ _ _ _ _ _ HH.out.1.2.1 (SHH.out.2.1.trans SHW.out.2.1.symm) HH.out.row HW.out.row hn1' (small_tot THH.out)).mono ?_
            rintro e w23 ⟨rfl, hk⟩
            replace HA := Lib.hid (HA.out.keep hk)
            replace HD := Lib.hid (HD.out.keep hk)
            replace HQ := Lib.hid (HQ.out.keep hk)
            replace HW := Lib.hid (HW.out.keep hk)
            replace HG := Lib.hid (HG.out.keep hk)
            replace HH := Lib.hid (HH.out.keep hk)
            clear hk
            have bHA := HA.out.cell
            have lHA := HA.out.1.lt
            obtain ⟨p0, p1, p2⟩ := cells3 HQ.out
            obtain ⟨bHW, xHW0, xHW1, xHW2⟩ := HW.out.cells
            obtain ⟨bHG, xHG0, xHG1, xHG2⟩ := HG.out.cells
            obtain ⟨bHH, xHH0, xHH1, xHH2⟩ := HH.out.cells
            go_wp2_with fail
            clear bHA lHA p0 p1 p2 bHW xHW0 xHW1 xHW2 bHG xHG0 xHG1 xHG2 bHH xHH0 xHH1 xHH2
            refine (eqTable_same _ _ _ _ _ _ _ _ HH.out.1.2.2.2 (SHH.out.2.2.2.trans SHW.out.2.2.2.symm) HH.out.tab HW.out.tab hm1' (by rw [SHH.out.2.2.2]; exact HT.out.2)).mono ?_
            rintro e w24 ⟨rfl, hk⟩
            replace HA := Lib.hid (HA.out.keep hk)
            replace HD := Lib.hid (HD.out.keep hk)
            replace HQ := Lib.hid (HQ.out.keep hk)
            replace HW := Lib.hid (HW.out.keep hk)
            replace HG := Lib.hid (HG.out.keep hk)
            replace HH := Lib.hid (HH.out.keep hk)
            clear hk
            have bHA := HA.out.cell
            have lHA := HA.out.1.lt
            obtain ⟨p0, p1, p2⟩ := cells3 HQ.out
            obtain ⟨bHW, xHW0, xHW1, xHW2⟩ := HW.out.cells
            obtain ⟨bHG, xHG0, xHG1, xHG2⟩ := HG.out.cells
            obtain ⟨bHH, xHH0, xHH1, xHH2⟩ := HH.out.cells
            go_wp2_with fail
            clear bHA lHA p0 p1 p2 bHW xHW0 xHW1 xHW2 bHG xHG0 xHG1 xHG2 bHH xHH0 xHH1 xHH2
            refine (eqHeads_same _ _ _ _).mono ?_
            rintro e w25 ⟨rfl, hk⟩
            replace HA := Lib.hid (HA.out.keep hk)
            replace HD := Lib.hid (HD.out.keep hk)
            replace HQ := Lib.hid (HQ.out.keep hk)
            replace HW := Lib.hid (HW.out.keep hk)
            replace HG := Lib.hid (HG.out.keep hk)
            replace HH := Lib.hid (HH.out.keep hk)
            clear hk
            have bHA := HA.out.cell
            have lHA := HA.out.1.lt
            obtain ⟨p0, p1, p2⟩ := cells3 HQ.out
            obtain ⟨bHW, xHW0, xHW1, xHW2⟩ := HW.out.cells
            obtain ⟨bHG, xHG0, xHG1, xHG2⟩ := HG.out.cells
            obtain ⟨bHH, xHH0, xHH1, xHH2⟩ := HH.out.cells
            go_wp2_with fail
            clear bHA lHA p0 p1 p2 bHW xHW0 xHW1 xHW2 bHG xHG0 xHG1 xHG2 bHH xHH0 xHH1 xHH2
            refine (heldDev_pack (x := (KG : Int)) (by rw [HKG.out.1]) SHG.out.1 HG.out hn1' THG.out).mono ?_
            rintro e w26 ⟨rfl, rfl⟩
            have bHA := HA.out.cell
            have lHA := HA.out.1.lt
            obtain ⟨p0, p1, p2⟩ := cells3 HQ.out
            obtain ⟨bHW, xHW0, xHW1, xHW2⟩ := HW.out.cells
            obtain ⟨bHG, xHG0, xHG1, xHG2⟩ := HG.out.cells
            obtain ⟨bHH, xHH0, xHH1, xHH2⟩ := HH.out.cells
            go_wp2_with fail
            clear bHA lHA p0 p1 p2 bHW xHW0 xHW1 xHW2 bHG xHG0 xHG1 xHG2 bHH xHH0 xHH1 xHH2
            refine (heldTab_pack (x := (LG : Int)) hK7 (by rw [HKG.out.2]) tLG SHG.out.2.2.1 HG.out hm1' (by rw [SHG.out.2.2.2]; exact HT.out.2)).mono ?_
            rintro e w26 ⟨rfl, hk⟩
            replace HA := Lib.hid (HA.out.keep hk)
            replace HD := Lib.hid (HD.out.keep hk)
            replace HQ := Lib.hid (HQ.out.keep hk)
            replace HW := Lib.hid (HW.out.keep hk)
            replace HG := Lib.hid (HG.out.keep hk)
            replace HH := Lib.hid (HH.out.keep hk)
            clear hk
            have bHA := HA.out.cell
            have lHA := HA.out.1.lt
            obtain ⟨p0, p1, p2⟩ := cells3 HQ.out
            obtain ⟨bHW, xHW0, xHW1, xHW2⟩ := HW.out.cells
            obtain ⟨bHG, xHG0, xHG1, xHG2⟩ := HG.out.cells
            obtain ⟨bHH, xHH0, xHH1, xHH2⟩ := HH.out.cells
            go_wp2
            go_ret
            exact ⟨rfl, grown_below HA.out.2.2.2⟩

/-! ### THE ROW's STEP: WRITTEN OUT: LEAVE IT -/
set_option maxRecDepth 100000 in
theorem lifted (os : Os) (started : os.Started) (H : Type) (enc : TypeId × Value → H) :
    ReturnsInHanded {} Tryz.checked os 4 .any (Rows.fnExactCleanBlockSpec.pre6 enc Tryz.prog Tryz.f4 Rows.fnExactCleanBlockRow.domain false) (Rows.fnExactCleanBlockSpec.post enc Tryz.prog Tryz.f4 false true false false) := by
  refine returnsInHanded_of_change (C := Tryz.checked) own started (by kernel_rfl) Tryz.func4
    (ChangeSpec.witness6 (enc := enc) (C := Tryz.checked) false ⟨#[], #[.slice none 0 0, .agg #[.slice none 0 0], .agg #[.int .i64 0, .int .i64 0, .int .i64 0], .int .i64 0, .int .i64 0], []⟩ 8 (by kernel_rfl) (by kernel_rfl) (by kernel_rfl) (by kernel_rfl)) ?_
  intro W base args ds gs before hval0 hW hcnd _
  have hval : ∀ (j : Nat) t v, Tryz.f4.params[j]? = some t → args[j]? = some v → Value.okWide Tryz.prog W .any base t v := hval0
  have hW' := hW
  obtain ⟨p, q, hA0, hV, rfl, hfz, hnd⟩ := hW
  have hA : DataW.TrodAll enc Tryz.prog W 0 (fun _ => true) true Tryz.f4.params.toList args.toList ds p := hA0
  rw [Tryz.params4] at hA hval
  obtain ⟨v0, vs0, d0, ds0, p0, q0, hargs, rfl, rfl, h0, r0⟩ := trodAll_cons hA
  obtain ⟨v1, vs1, d1, ds1, p1, q1, rfl, rfl, rfl, h1, r1⟩ := trodAll_cons r0
  obtain ⟨v2, vs2, d2, ds2, p2, q2, rfl, rfl, rfl, h2, r2⟩ := trodAll_cons r1
  obtain ⟨v3, vs3, d3, ds3, p3, q3, rfl, rfl, rfl, h3, r3⟩ := trodAll_cons r2
  obtain ⟨v4, vs4, d4, ds4, p4, q4, rfl, rfl, rfl, h4, r4⟩ := trodAll_cons r3
  obtain ⟨rfl, rfl, rfl⟩ := trodAll_nil r4
  obtain rfl : args = #[v0, v1, v2, v3, v4] := by cases args; simp_all
  obtain ⟨rfl, rfl⟩ := trodVars_none hV
  have k0 := h0
  have lt0 : ∀ x ∈ p0, x.block < W.heap.size := by obtain ⟨m, hm⟩ := k0; exact DataW.trod_lt m _ _ _ hm
  obtain ⟨a0, n0, c0, rfl⟩ := okWide_slice Tryz.underlying47 (hval 0 47 v0 rfl rfl)
  obtain ⟨b0, w0⟩ : ∃ bs, IsBlocks W a0 n0 c0 bs := by
    obtain ⟨fuel, hf⟩ := h0
    obtain ⟨A, n, c, bs, e, hw⟩ := open_blocks (v := .slice a0 n0 c0) hf
    injection e with e1 e2 e3
    subst e1; subst e2; subst e3
    exact ⟨bs, hw⟩
  have k1 := h1
  have lt1 : ∀ x ∈ p1, x.block < W.heap.size := by obtain ⟨m, hm⟩ := k1; exact DataW.trod_lt m _ _ _ hm
  obtain ⟨c1, rfl, l1, f1⟩ := open_agg Tryz.underlying48 (by kernel_rfl) (by kernel_rfl) (hval 1 48 v1 rfl rfl) h1
  obtain ⟨v1f0, rfl⟩ := list1 l1
  obtain ⟨n1f0, y1f0, t1f0⟩ := f1 0 _ _ rfl rfl
  obtain ⟨a1f0, n1f0, c1f0, p1f0, rfl, w1f0⟩ := open_lists t1f0
  have k2 := h2
  have lt2 : ∀ x ∈ p2, x.block < W.heap.size := by obtain ⟨m, hm⟩ := k2; exact DataW.trod_lt m _ _ _ hm
  obtain ⟨c2, rfl, l2, f2⟩ := open_agg Tryz.underlying49 (by kernel_rfl) (by kernel_rfl) (hval 2 49 v2 rfl rfl) h2
  obtain ⟨v2f0, v2f1, v2f2, rfl⟩ := list3 l2
  obtain ⟨n2f0, y2f0, t2f0⟩ := f2 0 _ _ rfl rfl
  obtain ⟨a2f0, e2f0, _, w2f0⟩ := DataW.trod_int Tryz.underlying3 t2f0
  obtain ⟨rfl, _⟩ := List.cons.inj e2f0
  obtain ⟨n2f1, y2f1, t2f1⟩ := f2 1 _ _ rfl rfl
  obtain ⟨a2f1, e2f1, _, w2f1⟩ := DataW.trod_int Tryz.underlying3 t2f1
  obtain ⟨rfl, _⟩ := List.cons.inj e2f1
  obtain ⟨n2f2, y2f2, t2f2⟩ := f2 2 _ _ rfl rfl
  obtain ⟨a2f2, e2f2, _, w2f2⟩ := DataW.trod_int Tryz.underlying3 t2f2
  obtain ⟨rfl, _⟩ := List.cons.inj e2f2
  obtain ⟨a3, rfl, rfl, rfl, w3⟩ := open_int Tryz.underlying3 (hval 3 3 v3 rfl rfl) h3
  obtain ⟨a4, rfl, rfl, rfl, w4⟩ := open_int Tryz.underlying3 (hval 4 3 v4 rfl rfl) h4
  clear hA0 hval0
  refine (walk a0 n0 c0 b0 a1f0 n1f0 c1f0 p1f0 a2f0 a2f1 a2f2 a3 a4 W w0 w1f0 w2f0 w2f1 w2f2 w3 w4).mono fun e W' ⟨he, bel⟩ => ?_
  subst he
  exact ⟨_, rfl, _, _, _, [], _, [], hW', trodAll_mk1 (shut_bool Tryz.underlying4 _), (trodAll_cons_mk (Below.trod laidOut (by kernel_rfl) (of_decide_eq_true (by kernel_rfl)) k0 bel lt0) (trodAll_cons_mk (Below.trod laidOut (by kernel_rfl) (of_decide_eq_true (by kernel_rfl)) k1 bel lt1) (trodAll_cons_mk (Below.trod laidOut (by kernel_rfl) (of_decide_eq_true (by kernel_rfl)) k2 bel lt2) (trodAll_cons_mk (shut_int Tryz.underlying3 w3) (trodAll_cons_mk (shut_int Tryz.underlying3 w4) trodAll_mk0))))), rfl, bel.frame _, fun h => by cases h⟩

theorem over : Rows.fnExactCleanBlockRow.holds Tryz.pinned (OpenSpec.ofChange Rows.fnExactCleanBlockSpec) :=
  OpenClaim.holds_of_wide 4 Tryz.f4 rfl rfl rfl rfl rfl rfl rfl ⟨rfl, rfl, rfl, rfl, rfl⟩ rfl rfl rfl rfl rfl (by kernel_rfl) Tryz.func4 (by kernel_rfl)
    (of_decide_eq_true (by kernel_rfl)) (by unfold Func.isWrapper; first | (rw [if_pos (by decide +kernel)]; kernel_rfl) | (rw [if_neg (by decide +kernel)]; exact ⟨rfl, rfl⟩))
    (fun os started H enc _ => lifted os started H enc)

/-- ████ THE STATEMENT ████ -/
theorem proved : Rows.FnExactCleanBlockSaid := over
#print axioms proved
end Go.Proofs.YtolpnloghogjjaaGreat.fnExactCleanBlock
