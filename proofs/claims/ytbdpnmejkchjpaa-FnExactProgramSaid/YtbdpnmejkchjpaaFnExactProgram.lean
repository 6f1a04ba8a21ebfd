/- Program answers as its model for every device, number and page, every field, leaves its arguments as they were, and each answer lies in memory of its own: proved.
   Conditions: none beyond the row's own reading of the input. The frame was written by the guide's proof-skeleton; the walk is ours. -/
import Derived.Test.YtbdpnmejkchjpaaAgg
import Derived.Test.YtbdpnmejkchjpaaAggRows
import Derived.Test.YtbdpnmejkchjpaaHand
import Derived.Test.YtbdpnmejkchjpaaLawDev5
import Derived.Test.YtbdpnmejkchjpaaRows
import Derived.WalkKit
import Derived.ProofKit
import Derived.OpenShut
import Derived.ShutString
import Derived.ChangeOld
import Derived.Below
namespace Go.Proofs.Ytbdpnmejkchjpaa.fnExactProgram
open Go.ChangeShapes Go.WideShapes Go.ChangeAt Go.RowKit
open Go.ChangeMaps (open_string shut_string)
set_option linter.unusedVariables false
set_option linter.unusedSimpArgs false

theorem own : ownKnob Try.prog.godebug = none := by kernel_rfl
theorem laidOut : laidOutB Try.prog = true := by kernel_rfl

/-- WHAT THE WALK IS TOLD OF A SLICE OF INTEGERS THAT CAME IN: it is nil; or it leads to a row of 'cap' cells, the numbers 'zs' (the first 'len' are its elements, the rest its spare room), each fitting its kind. -/
def IsRow (k : IntKind) (w : World) (a : Option Addr) (len cap : Nat) (zs : List Int) : Prop :=
  (a = none ∧ len = 0 ∧ cap = 0 ∧ zs = []) ∨
  ∃ x, a = some x ∧ len ≤ cap ∧ cap ≤ maxLen ∧ zs.length = cap ∧ (∀ i, i < zs.length → w.cell? (x.add i) = some (.int k (zs.getD i 0))) ∧ ∀ n ∈ zs, (Lit.int k n).wf = true

/-! ### STEP 1: THE WALK: the Go text returns true, AND WRITES NOTHING THAT WAS THERE: 'Below w.heap.size w w'' (Derived/Below.lean: '.refl', '.alloc', '.drew', '.setCell' at a new block, '.trans'). Open each 'IsRow' by 'rcases' AHEAD of 'go_enter'; part every test ahead of the walk. -/
set_option maxHeartbeats 8000000 in
set_option maxRecDepth 100000 in
theorem walk (a0 : Option Addr) (n0 c0 : Nat) (b0 : List Bk) (a1 : Int) (a2f0 : Bool) (a2f1 : Int) (a2f2 : Int) (a2f3 : Int) (a2f4 : Int) (w : World) (w0 : IsBlocks w a0 n0 c0 b0) (w1 : (Lit.int .i64 a1).wf = true) (w2f1 : (Lit.int .i64 a2f1).wf = true) (w2f2 : (Lit.int .i64 a2f2).wf = true) (w2f3 : (Lit.int .i64 a2f3).wf = true) (w2f4 : (Lit.int .i64 a2f4).wf = true) :
    Calls Try.prog 7 #[.slice a0 n0 c0, .int .i64 a1, .agg #[.bool a2f0, .int .i64 a2f1, .int .i64 a2f2, .int .i64 a2f3, .int .i64 a2f4]] w fun e w' => e = .returned (.bool true) ∧ Below w.heap.size w w' := by
  obtain ⟨n1, l1, r, hri, hn1, ht1⟩ := program_is w0.1 a1 a2f0 a2f1 a2f2 a2f3 a2f4
  have HI := Lib.hid hri
  have HT := Lib.hid ht1
  clear hri ht1
  have HA := Lib.hid ((VD.arg w0).keep (grown_alloc (grown_refl w none) (.cells #[.bool a2f0, .int .i64 a2f1, .int .i64 a2f2, .int .i64 a2f3, .int .i64 a2f4] 43)))
  have HZ := Lib.hid (w0.alloc (.cells #[.bool a2f0, .int .i64 a2f1, .int .i64 a2f2, .int .i64 a2f3, .int .i64 a2f4] 43))
  have HL := Lib.hid w0.1
  clear w0
  have HQ := Lib.hid (Blk.new w 43 #[.bool a2f0, .int .i64 a2f1, .int .i64 a2f2, .int .i64 a2f3, .int .i64 a2f4])
  go_enter Try.func7, Try.ntmps7
  go_wp2_with fail
  refine (szBlockS_any _ _ _ _ _ HZ.out).mono ?_
  rintro e w1 ⟨v, rfl, hk, hv⟩
  replace HA := Lib.hid (HA.out.keep hk)
  replace HQ := Lib.hid (HQ.out.keep hk)
  rcases hv with rfl | ⟨hv0, hn, ht⟩
  · clear hk
    go_wp2
    go_ret
    exact ⟨rfl, grown_below HA.out.2⟩
  · have tv : decide (v < 0) = false := decide_eq_false (by omega)
    have HP := Lib.hid (And.intro (small_tot ht) ht)
    clear hk ht
    obtain ⟨p0, p1, p2, p3, p4⟩ := cells5 HQ.out
    go_wp2_with fail
    clear tv
    refine wp_region_held_drew (S := (fun w' => w'.cell? ⟨w.heap.size, 0, none⟩ = some (.bool a2f0) ∧ w'.cell? ⟨w.heap.size, 1, none⟩ = some (.int .i64 a2f1) ∧ w'.cell? ⟨w.heap.size, 2, none⟩ = some (.int .i64 a2f2) ∧ w'.cell? ⟨w.heap.size, 3, none⟩ = some (.int .i64 a2f3) ∧ w'.cell? ⟨w.heap.size, 4, none⟩ = some (.int .i64 a2f4))) (by kernel_rfl) ?_ (fun hHeld => ?_)
    · exact ⟨p0, p1, p2, p3, p4⟩
    replace HA := Lib.hid (HA.out.keep (grown_drew (grown_refl _ none)))
    replace HQ := Lib.hid (HQ.out.keep (grown_drew (grown_refl _ none)))
    refine held_yes (i := 0) (d := some 24) (v := ?_) rfl rfl (by kernel_rfl) (by kernel_rfl) (by kernel_rfl) (fun _ _ _ h => h) (by rfl) ?_ (by assumption) ?_
    rotate_left
    · (intro w hSw; (try dsimp only at hSw); go_simp; (first | done | with_reducible rfl))
    try simp only [Act.put, List.setIfInBounds_toArray, List.set_cons_zero, List.set_cons_succ]
    refine held_yes (i := 2) (d := some 26) (v := ?_) rfl rfl (by kernel_rfl) (by kernel_rfl) (by kernel_rfl) (fun _ _ _ h => h) (by rfl) ?_ (by assumption) ?_
    rotate_left
    · (intro w hSw; (try dsimp only at hSw); go_simp; (first | done | with_reducible rfl))
    try simp only [Act.put, List.setIfInBounds_toArray, List.set_cons_zero, List.set_cons_succ]
    refine held_yes (i := 3) (d := some 27) (v := ?_) rfl rfl (by kernel_rfl) (by kernel_rfl) (by kernel_rfl) (fun _ _ _ h => h) (by rfl) ?_ (by assumption) ?_
    rotate_left
    · (intro w hSw; (try dsimp only at hSw); go_simp; (first | done | with_reducible rfl))
    try simp only [Act.put, List.setIfInBounds_toArray, List.set_cons_zero, List.set_cons_succ]
    refine wpAnyH_ready (rs := [1]) (by kernel_rfl) (by simp) ?_
    refine AllReadyH.cons rfl (fun K hK => ?_) AllReadyH.nil
    go_simp
    go_at_call 17
    refine (toBlockS_any _ _ _ _ _ HL.out HA.out.row hn HP.out.1).mono ?_
    rintro e w2 ⟨A2, c2, cs2, rfl, hl, hs, ho, hk⟩
    replace HA := Lib.hid (HA.out.keep hk)
    replace HQ := Lib.hid (HQ.out.keep hk)
    have HR2 := Lib.hid (And.intro hl (And.intro hs ho.row))
    clear hk hl hs ho
    clear p0 p1 p2 p3 p4
    obtain ⟨p0, p1, p2, p3, p4⟩ := cells5 HQ.out
    refine hK.out _ _ ?_ (fun hHeld => ?_)
    · exact ⟨p0, p1, p2, p3, p4⟩
    clear hK K
    try simp only [Act.put, List.setIfInBounds_toArray, List.set_cons_zero, List.set_cons_succ]
    refine wpAnyH_ready (rs := [4]) (by kernel_rfl) (by simp) ?_
    refine AllReadyH.cons rfl (fun K hK => ?_) AllReadyH.nil
    go_simp
    go_at_call 27
    refine (toPage_any _ _ _ _ _ _).mono ?_
    rintro e w3 ⟨rfl, hk⟩
    replace HA := Lib.hid (HA.out.keep hk)
    replace HQ := Lib.hid (HQ.out.keep hk)
    replace HR2 := Lib.hid (And.intro HR2.out.1 (And.intro HR2.out.2.1 (HR2.out.2.2.kept hk).here))
    clear hk
    clear p0 p1 p2 p3 p4
    obtain ⟨p0, p1, p2, p3, p4⟩ := cells5 HQ.out
    refine hK.out _ _ ?_ (fun hHeld => ?_)
    · exact ⟨p0, p1, p2, p3, p4⟩
    clear hK K
    try simp only [Act.put, List.setIfInBounds_toArray, List.set_cons_zero, List.set_cons_succ]
    refine wpAnyH_ready (rs := [5]) (by kernel_rfl) (by simp) ?_
    refine AllReadyH.cons rfl (fun K hK => ?_) AllReadyH.nil
    go_simp
    go_at_call 26
    refine (specProgram_val (HI.out.of HR2.out.2.1) HR2.out.1 HR2.out.2.2 hn (small_is HR2.out.2.1 HP.out.1)).mono ?_
    rintro e w4 ⟨A4, c4, cs4, rfl, hl, hs, ho, hk⟩
    obtain ⟨loHW, hiHW, hx, qHW, rHW⟩ : ∃ lo hi, VX w A4 n1 c4 cs4 lo hi w4 ∧ w.heap.size + 1 ≤ lo ∧ lo ≤ hi := ⟨_, _, VX.made HA.out.2 hl ho hk, HQ.out.lt, hk.size⟩
    replace HA := Lib.hid (HA.out.keep hk)
    replace HQ := Lib.hid (HQ.out.keep hk)
    have HW := Lib.hid hx
    have SHW := Lib.hid hs
    clear hk hl hs ho hx
    clear p0 p1 p2 p3 p4
    obtain ⟨p0, p1, p2, p3, p4⟩ := cells5 HQ.out
    refine hK.out _ _ ?_ (fun hHeld => ?_)
    · exact ⟨p0, p1, p2, p3, p4⟩
    clear hK K
    try simp only [Act.put, List.setIfInBounds_toArray, List.set_cons_zero, List.set_cons_succ]
    refine held_yes (i := 6) (d := some 23) (v := ?_) rfl rfl (by kernel_rfl) (by kernel_rfl) (by kernel_rfl) (fun _ _ _ h => h) (by rfl) ?_ (by assumption) ?_
    rotate_left
    · (intro w hSw; (try dsimp only at hSw); go_simp; (first | done | with_reducible rfl))
    try simp only [Act.put, List.setIfInBounds_toArray, List.set_cons_zero, List.set_cons_succ]
    refine held_yes (i := 7) (d := some 30) (v := ?_) rfl rfl (by kernel_rfl) (by kernel_rfl) (by kernel_rfl) (fun _ _ _ h => h) (by rfl) ?_ (by assumption) ?_
    rotate_left
    · (intro w hSw; (try dsimp only at hSw); go_simp; (first | done | with_reducible rfl))
    try simp only [Act.put, List.setIfInBounds_toArray, List.set_cons_zero, List.set_cons_succ]
    refine held_yes (i := 8) (d := some 31) (v := ?_) rfl rfl (by kernel_rfl) (by kernel_rfl) (by kernel_rfl) (fun _ _ _ h => h) (by rfl) ?_ (by assumption) ?_
    rotate_left
    · (intro w hSw; (try dsimp only at hSw); go_simp; (first | done | with_reducible rfl))
    try simp only [Act.put, List.setIfInBounds_toArray, List.set_cons_zero, List.set_cons_succ]
    refine wpAnyH_ready (rs := [9]) (by kernel_rfl) (by simp) ?_
    refine AllReadyH.cons rfl (fun K hK => ?_) AllReadyH.nil
    go_simp
    refine hK.out _ _ ?_ (fun hHeld => ?_)
    · exact ⟨p0, p1, p2, p3, p4⟩
    clear hK K
    try simp only [Act.put, List.setIfInBounds_toArray, List.set_cons_zero, List.set_cons_succ]
    refine wpAnyH_ready (rs := [10]) (by kernel_rfl) (by simp) ?_
    refine AllReadyH.cons rfl (fun K hK => ?_) AllReadyH.nil
    go_simp
    refine hK.out _ _ ?_ (fun hHeld => ?_)
    · exact ⟨p0, p1, p2, p3, p4⟩
    clear hK K
    try simp only [Act.put, List.setIfInBounds_toArray, List.set_cons_zero, List.set_cons_succ]
    refine wpAnyH_done (by kernel_rfl) ?_ _
    clear p0 p1 p2 p3 p4
    go_wp2_with fail
    refine (toBlockS_any _ _ _ _ _ HL.out HA.out.row hn HP.out.1).mono ?_
    rintro e w5 ⟨A3, c3, cs3, rfl, hl, hs, ho, hk⟩
    obtain ⟨loHX, hiHX, hx, qHX, rHX⟩ : ∃ lo hi, VX w A3 n0 c3 cs3 lo hi w5 ∧ hiHW ≤ lo ∧ lo ≤ hi := ⟨_, _, VX.made HA.out.2 hl ho hk, HW.out.2.2.2.2.1, hk.size⟩
    replace HA := Lib.hid (HA.out.keep hk)
    replace HQ := Lib.hid (HQ.out.keep hk)
    replace HW := Lib.hid (HW.out.keep hk)
    have HX := Lib.hid hx
    have SHX := Lib.hid hs
    clear hk hl hs ho hx
    have THX := Lib.hid (show tot cs3 ≤ 1048576 by rw [tot_is SHX.out, ← tot_is rfl]; exact HP.out.2)
    obtain ⟨p0, p1, p2, p3, p4⟩ := cells5 HQ.out
    go_wp2_with fail
    clear p0 p1 p2 p3 p4
    refine (toPage_any _ _ _ _ _ _).mono ?_
    rintro e w6 ⟨rfl, hk⟩
    replace HA := Lib.hid (HA.out.keep hk)
    replace HQ := Lib.hid (HQ.out.keep hk)
    replace HW := Lib.hid (HW.out.keep hk)
    replace HX := Lib.hid (HX.out.keep hk)
    clear hk
    go_wp2_with fail
    refine (program_val (HI.out.of SHX.out) HX.out.2.1 HX.out.row hn (small_is SHX.out HP.out.1)).mono ?_
    rintro e w7 ⟨A5, c5, cs5, rfl, hl, hs, ho, hk⟩
    obtain ⟨loHG, hiHG, hx, qHG, rHG⟩ : ∃ lo hi, VX w A5 n1 c5 cs5 lo hi w7 ∧ hiHX ≤ lo ∧ lo ≤ hi := ⟨_, _, VX.made HA.out.2 hl ho hk, HX.out.2.2.2.2.1, hk.size⟩
    replace HA := Lib.hid (HA.out.keep hk)
    replace HQ := Lib.hid (HQ.out.keep hk)
    replace HW := Lib.hid (HW.out.keep hk)
    replace HX := Lib.hid (HX.out.keep hk)
    have HG := Lib.hid hx
    have SHG := Lib.hid hs
    clear hk hl hs ho hx
    have THG := Lib.hid (show tot cs5 ≤ 1048576 by rw [tot_is SHG.out]; exact HT.out)
    have LHG := Lib.hid HG.out.2.1
    go_wp2_with fail
    refine (eqBlockS_same _ _ _ _ _ _ _ _ HG.out.2.1 (SHG.out.trans SHW.out.symm) HG.out.row HW.out.row (by omega) (small_tot THG.out)).mono ?_
    rintro e w8 ⟨rfl, hk⟩
    replace HA := Lib.hid (HA.out.keep hk)
    replace HQ := Lib.hid (HQ.out.keep hk)
    replace HW := Lib.hid (HW.out.keep hk)
    replace HX := Lib.hid (HX.out.keep hk)
    replace HG := Lib.hid (HG.out.keep hk)
    clear hk
    go_wp2_with fail
    refine (toBlockS_any _ _ _ _ _ HL.out HA.out.row hn HP.out.1).mono ?_
    rintro e w9 ⟨A6, c6, cs6, rfl, hl, hs, ho, hk⟩
    replace HA := Lib.hid (HA.out.keep hk)
    replace HQ := Lib.hid (HQ.out.keep hk)
    replace HW := Lib.hid (HW.out.keep hk)
    replace HX := Lib.hid (HX.out.keep hk)
    replace HG := Lib.hid (HG.out.keep hk)
    have HR6 := Lib.hid (And.intro hl (And.intro hs ho.row))
    clear hk hl hs ho
    go_wp2_with fail
    refine (eqBlockS_same _ _ _ _ _ _ _ _ HX.out.2.1 (SHX.out.trans HR6.out.2.1.symm) HX.out.row HR6.out.2.2 hn (small_is SHX.out HP.out.1)).mono ?_
    rintro e w10 ⟨rfl, hk⟩
    replace HA := Lib.hid (HA.out.keep hk)
    replace HQ := Lib.hid (HQ.out.keep hk)
    replace HW := Lib.hid (HW.out.keep hk)
    replace HX := Lib.hid (HX.out.keep hk)
    replace HG := Lib.hid (HG.out.keep hk)
    clear hk
    go_wp2_with fail
    obtain ⟨vX, hvX⟩ : ∃ v : Int, v = ((endK 1 cs3 : Nat) : Int) := ⟨_, rfl⟩
    have tX : decide (vX < 0) = false := decide_eq_false (by omega)
    have HVX := Lib.hid hvX
    clear hvX
    refine (markBlockS_val HVX.out HX.out (by omega) THX.out).mono ?_
    rintro e w11 ⟨rfl, ho, hk⟩
    have hxlo := HX.out.2.2.2.2.2.1
    replace HA := Lib.hid (HA.out.marked hxlo hk)
    replace HQ := Lib.hid (HQ.out.out hk (.inl (by omega)))
    replace HW := Lib.hid (HW.out.marked (by omega) hxlo hk)
    replace HG := Lib.hid (HG.out.marked (by omega) hxlo hk)
    replace HX := Lib.hid (HX.out.self ho hk)
    clear ho hk hxlo
    go_wp2_with fail
    refine (eqBlockS_same _ _ _ _ _ _ _ _ HG.out.2.1 (SHG.out.trans SHW.out.symm) HG.out.row HW.out.row (by omega) (small_tot THG.out)).mono ?_
    rintro e w12 ⟨rfl, hk⟩
    replace HA := Lib.hid (HA.out.keep hk)
    replace HQ := Lib.hid (HQ.out.keep hk)
    replace HW := Lib.hid (HW.out.keep hk)
    replace HX := Lib.hid (HX.out.keep hk)
    replace HG := Lib.hid (HG.out.keep hk)
    clear hk
    go_wp2_with fail
    obtain ⟨vG, hvG⟩ : ∃ v : Int, v = ((endK 1 cs5 : Nat) : Int) := ⟨_, rfl⟩
    have tG : decide (vG < 0) = false := decide_eq_false (by omega)
    have HVG := Lib.hid hvG
    clear hvG
    refine (markBlockS_val HVG.out HG.out (by omega) THG.out).mono ?_
    rintro e w13 ⟨rfl, ho, hk⟩
    have hxlo := HG.out.2.2.2.2.2.1
    replace HA := Lib.hid (HA.out.marked hxlo hk)
    replace HQ := Lib.hid (HQ.out.out hk (.inl (by omega)))
    replace HW := Lib.hid (HW.out.marked (by omega) hxlo hk)
    replace HX := Lib.hid (HX.out.marked (by omega) hxlo hk)
    replace HG := Lib.hid (HG.out.self ho hk)
    clear ho hk hxlo
    go_wp2_with fail
    refine (heldBlockS_val HVG.out LHG.out HG.out (by omega) THG.out).mono ?_
    rintro e w14 ⟨rfl, rfl⟩
    obtain ⟨p0, p1, p2, p3, p4⟩ := cells5 HQ.out
    go_wp2_with fail
    refine wp_region_held_drew (S := (fun w' => w'.cell? ⟨w.heap.size, 0, none⟩ = some (.bool a2f0) ∧ w'.cell? ⟨w.heap.size, 1, none⟩ = some (.int .i64 a2f1) ∧ w'.cell? ⟨w.heap.size, 2, none⟩ = some (.int .i64 a2f2) ∧ w'.cell? ⟨w.heap.size, 3, none⟩ = some (.int .i64 a2f3) ∧ w'.cell? ⟨w.heap.size, 4, none⟩ = some (.int .i64 a2f4))) (by kernel_rfl) ?_ (fun hHeld => ?_)
    · exact ⟨p0, p1, p2, p3, p4⟩
    replace HA := Lib.hid (HA.out.keep (grown_drew (grown_refl _ none)))
    replace HQ := Lib.hid (HQ.out.keep (grown_drew (grown_refl _ none)))
    replace HW := Lib.hid (HW.out.keep (grown_drew (grown_refl _ none)))
    replace HX := Lib.hid (HX.out.keep (grown_drew (grown_refl _ none)))
    replace HG := Lib.hid (HG.out.keep (grown_drew (grown_refl _ none)))
    refine held_yes (i := 0) (d := some 84) (v := ?_) rfl rfl (by kernel_rfl) (by kernel_rfl) (by kernel_rfl) (fun _ _ _ h => h) (by rfl) ?_ (by assumption) ?_
    rotate_left
    · (intro w hSw; (try dsimp only at hSw); go_simp; (first | done | with_reducible rfl))
    try simp only [Act.put, List.setIfInBounds_toArray, List.set_cons_zero, List.set_cons_succ]
    refine held_yes (i := 2) (d := some 86) (v := ?_) rfl rfl (by kernel_rfl) (by kernel_rfl) (by kernel_rfl) (fun _ _ _ h => h) (by rfl) ?_ (by assumption) ?_
    rotate_left
    · (intro w hSw; (try dsimp only at hSw); go_simp; (first | done | with_reducible rfl))
    try simp only [Act.put, List.setIfInBounds_toArray, List.set_cons_zero, List.set_cons_succ]
    refine held_yes (i := 3) (d := some 87) (v := ?_) rfl rfl (by kernel_rfl) (by kernel_rfl) (by kernel_rfl) (fun _ _ _ h => h) (by rfl) ?_ (by assumption) ?_
    rotate_left
    · (intro w hSw; (try dsimp only at hSw); go_simp; (first | done | with_reducible rfl))
    try simp only [Act.put, List.setIfInBounds_toArray, List.set_cons_zero, List.set_cons_succ]
    refine wpAnyH_ready (rs := [1]) (by kernel_rfl) (by simp) ?_
    refine AllReadyH.cons rfl (fun K hK => ?_) AllReadyH.nil
    go_simp
    go_at_call 17
    refine (toBlockS_any _ _ _ _ _ HL.out HA.out.row hn HP.out.1).mono ?_
    rintro e w15 ⟨A8, c8, cs8, rfl, hl, hs, ho, hk⟩
    replace HA := Lib.hid (HA.out.keep hk)
    replace HQ := Lib.hid (HQ.out.keep hk)
    replace HW := Lib.hid (HW.out.keep hk)
    replace HX := Lib.hid (HX.out.keep hk)
    replace HG := Lib.hid (HG.out.keep hk)
    have HR8 := Lib.hid (And.intro hl (And.intro hs ho.row))
    clear hk hl hs ho
    clear p0 p1 p2 p3 p4
    obtain ⟨p0, p1, p2, p3, p4⟩ := cells5 HQ.out
    refine hK.out _ _ ?_ (fun hHeld => ?_)
    · exact ⟨p0, p1, p2, p3, p4⟩
    clear hK K
    try simp only [Act.put, List.setIfInBounds_toArray, List.set_cons_zero, List.set_cons_succ]
    refine wpAnyH_ready (rs := [4]) (by kernel_rfl) (by simp) ?_
    refine AllReadyH.cons rfl (fun K hK => ?_) AllReadyH.nil
    go_simp
    go_at_call 27
    refine (toPage_any _ _ _ _ _ _).mono ?_
    rintro e w16 ⟨rfl, hk⟩
    replace HA := Lib.hid (HA.out.keep hk)
    replace HQ := Lib.hid (HQ.out.keep hk)
    replace HW := Lib.hid (HW.out.keep hk)
    replace HX := Lib.hid (HX.out.keep hk)
    replace HG := Lib.hid (HG.out.keep hk)
    replace HR8 := Lib.hid (And.intro HR8.out.1 (And.intro HR8.out.2.1 (HR8.out.2.2.kept hk).here))
    clear hk
    clear p0 p1 p2 p3 p4
    obtain ⟨p0, p1, p2, p3, p4⟩ := cells5 HQ.out
    refine hK.out _ _ ?_ (fun hHeld => ?_)
    · exact ⟨p0, p1, p2, p3, p4⟩
    clear hK K
    try simp only [Act.put, List.setIfInBounds_toArray, List.set_cons_zero, List.set_cons_succ]
    refine wpAnyH_ready (rs := [5]) (by kernel_rfl) (by simp) ?_
    refine AllReadyH.cons rfl (fun K hK => ?_) AllReadyH.nil
    go_simp
    go_at_call 28
    refine (program_val (HI.out.of HR8.out.2.1) HR8.out.1 HR8.out.2.2 hn (small_is HR8.out.2.1 HP.out.1)).mono ?_
    rintro e w17 ⟨A9, c9, cs9, rfl, hl, hs, ho, hk⟩
    obtain ⟨loHH, hiHH, hx, qHH, rHH⟩ : ∃ lo hi, VX w A9 n1 c9 cs9 lo hi w17 ∧ hiHG ≤ lo ∧ lo ≤ hi := ⟨_, _, VX.made HA.out.2 hl ho hk, HG.out.2.2.2.2.1, hk.size⟩
    replace HA := Lib.hid (HA.out.keep hk)
    replace HQ := Lib.hid (HQ.out.keep hk)
    replace HW := Lib.hid (HW.out.keep hk)
    replace HX := Lib.hid (HX.out.keep hk)
    replace HG := Lib.hid (HG.out.keep hk)
    have HH := Lib.hid hx
    have SHH := Lib.hid hs
    clear hk hl hs ho hx
    clear p0 p1 p2 p3 p4
    obtain ⟨p0, p1, p2, p3, p4⟩ := cells5 HQ.out
    refine hK.out _ _ ?_ (fun hHeld => ?_)
    · exact ⟨p0, p1, p2, p3, p4⟩
    clear hK K
    try simp only [Act.put, List.setIfInBounds_toArray, List.set_cons_zero, List.set_cons_succ]
    refine held_yes (i := 6) (d := some 83) (v := ?_) rfl rfl (by kernel_rfl) (by kernel_rfl) (by kernel_rfl) (fun _ _ _ h => h) (by rfl) ?_ (by assumption) ?_
    rotate_left
    · (intro w hSw; (try dsimp only at hSw); go_simp; (first | done | with_reducible rfl))
    try simp only [Act.put, List.setIfInBounds_toArray, List.set_cons_zero, List.set_cons_succ]
    refine held_yes (i := 7) (d := some 90) (v := ?_) rfl rfl (by kernel_rfl) (by kernel_rfl) (by kernel_rfl) (fun _ _ _ h => h) (by rfl) ?_ (by assumption) ?_
    rotate_left
    · (intro w hSw; (try dsimp only at hSw); go_simp; (first | done | with_reducible rfl))
    try simp only [Act.put, List.setIfInBounds_toArray, List.set_cons_zero, List.set_cons_succ]
    refine held_yes (i := 8) (d := some 91) (v := ?_) rfl rfl (by kernel_rfl) (by kernel_rfl) (by kernel_rfl) (fun _ _ _ h => h) (by rfl) ?_ (by assumption) ?_
    rotate_left
    · (intro w hSw; (try dsimp only at hSw); go_simp; (first | done | with_reducible rfl))
    try simp only [Act.put, List.setIfInBounds_toArray, List.set_cons_zero, List.set_cons_succ]
    refine wpAnyH_ready (rs := [9]) (by kernel_rfl) (by simp) ?_
    refine AllReadyH.cons rfl (fun K hK => ?_) AllReadyH.nil
    go_simp
    refine hK.out _ _ ?_ (fun hHeld => ?_)
    · exact ⟨p0, p1, p2, p3, p4⟩
    clear hK K
    try simp only [Act.put, List.setIfInBounds_toArray, List.set_cons_zero, List.set_cons_succ]
    refine wpAnyH_ready (rs := [10]) (by kernel_rfl) (by simp) ?_
    refine AllReadyH.cons rfl (fun K hK => ?_) AllReadyH.nil
    go_simp
    refine hK.out _ _ ?_ (fun hHeld => ?_)
    · exact ⟨p0, p1, p2, p3, p4⟩
    clear hK K
    try simp only [Act.put, List.setIfInBounds_toArray, List.set_cons_zero, List.set_cons_succ]
    refine wpAnyH_done (by kernel_rfl) ?_ _
    clear p0 p1 p2 p3 p4
    have THH := Lib.hid (show tot cs9 ≤ 1048576 by rw [tot_is SHH.out]; exact HT.out)
    have LHH := Lib.hid HH.out.2.1
    go_wp2_with fail
    refine (eqBlockS_same _ _ _ _ _ _ _ _ HH.out.2.1 (SHH.out.trans SHW.out.symm) HH.out.row HW.out.row (by omega) (small_tot THH.out)).mono ?_
    rintro e w18 ⟨rfl, hk⟩
    replace HA := Lib.hid (HA.out.keep hk)
    replace HQ := Lib.hid (HQ.out.keep hk)
    replace HW := Lib.hid (HW.out.keep hk)
    replace HX := Lib.hid (HX.out.keep hk)
    replace HG := Lib.hid (HG.out.keep hk)
    replace HH := Lib.hid (HH.out.keep hk)
    clear hk
    go_wp2_with fail
    refine (heldBlockS_val HVG.out LHG.out HG.out (by omega) THG.out).mono ?_
    rintro e w19 ⟨rfl, rfl⟩
    go_wp2
    go_ret
    exact ⟨rfl, grown_below HA.out.2⟩

/-! ### THE ROW's STEP: WRITTEN OUT: LEAVE IT -/
set_option maxRecDepth 100000 in
theorem lifted (os : Os) (started : os.Started) (H : Type) (enc : TypeId × Value → H) :
    ReturnsInHanded {} Try.checked os 7 .any (Rows.fnExactProgramSpec.pre6 enc Try.prog Try.f7 Rows.fnExactProgramRow.domain false) (Rows.fnExactProgramSpec.post enc Try.prog Try.f7 false true false false) := by
  refine returnsInHanded_of_change (C := Try.checked) own started (by kernel_rfl) Try.func7
    (ChangeSpec.witness6 (enc := enc) (C := Try.checked) false ⟨#[], #[.slice none 0 0, .int .i64 0, .agg #[.bool false, .int .i64 0, .int .i64 0, .int .i64 0, .int .i64 0]], []⟩ 8 (by kernel_rfl) (by kernel_rfl) (by kernel_rfl) (by kernel_rfl)) ?_
  intro W base args ds gs before hval0 hW hcnd _
  have hval : ∀ (j : Nat) t v, Try.f7.params[j]? = some t → args[j]? = some v → Value.okWide Try.prog W .any base t v := hval0
  have hW' := hW
  obtain ⟨p, q, hA0, hV, rfl, hfz, hnd⟩ := hW
  have hA : DataW.TrodAll enc Try.prog W 0 (fun _ => true) true Try.f7.params.toList args.toList ds p := hA0
  rw [Try.params7] at hA hval
  obtain ⟨v0, vs0, d0, ds0, p0, q0, hargs, rfl, rfl, h0, r0⟩ := trodAll_cons hA
  obtain ⟨v1, vs1, d1, ds1, p1, q1, rfl, rfl, rfl, h1, r1⟩ := trodAll_cons r0
  obtain ⟨v2, vs2, d2, ds2, p2, q2, rfl, rfl, rfl, h2, r2⟩ := trodAll_cons r1
  obtain ⟨rfl, rfl, rfl⟩ := trodAll_nil r2
  obtain rfl : args = #[v0, v1, v2] := by cases args; simp_all
  obtain ⟨rfl, rfl⟩ := trodVars_none hV
  have k0 := h0
  have lt0 : ∀ x ∈ p0, x.block < W.heap.size := by obtain ⟨m, hm⟩ := k0; exact DataW.trod_lt m _ _ _ hm
  obtain ⟨a0, n0, c0, rfl⟩ := okWide_slice Try.underlying32 (hval 0 32 v0 rfl rfl)
  obtain ⟨b0, w0⟩ : ∃ bs, IsBlocks W a0 n0 c0 bs := by
    obtain ⟨fuel, hf⟩ := h0
    obtain ⟨A, n, c, bs, e, hw⟩ := open_blocks (v := .slice a0 n0 c0) hf
    injection e with e1 e2 e3
    subst e1; subst e2; subst e3
    exact ⟨bs, hw⟩
  obtain ⟨a1, rfl, rfl, rfl, w1⟩ := open_int Try.underlying3 (hval 1 3 v1 rfl rfl) h1
  have k2 := h2
  have lt2 : ∀ x ∈ p2, x.block < W.heap.size := by obtain ⟨m, hm⟩ := k2; exact DataW.trod_lt m _ _ _ hm
  obtain ⟨c2, rfl, l2, f2⟩ := open_agg Try.underlying43 (by kernel_rfl) (by kernel_rfl) (hval 2 43 v2 rfl rfl) h2
  obtain ⟨v2f0, v2f1, v2f2, v2f3, v2f4, rfl⟩ := list5 l2
  obtain ⟨n2f0, y2f0, t2f0⟩ := f2 0 _ _ rfl rfl
  obtain ⟨a2f0, e2f0, _⟩ := DataW.trod_bool Try.underlying4 t2f0
  obtain ⟨rfl, _⟩ := List.cons.inj e2f0
  obtain ⟨n2f1, y2f1, t2f1⟩ := f2 1 _ _ rfl rfl
  obtain ⟨a2f1, e2f1, _, w2f1⟩ := DataW.trod_int Try.underlying3 t2f1
  obtain ⟨rfl, _⟩ := List.cons.inj e2f1
  obtain ⟨n2f2, y2f2, t2f2⟩ := f2 2 _ _ rfl rfl
  obtain ⟨a2f2, e2f2, _, w2f2⟩ := DataW.trod_int Try.underlying3 t2f2
  obtain ⟨rfl, _⟩ := List.cons.inj e2f2
  obtain ⟨n2f3, y2f3, t2f3⟩ := f2 3 _ _ rfl rfl
  obtain ⟨a2f3, e2f3, _, w2f3⟩ := DataW.trod_int Try.underlying3 t2f3
  obtain ⟨rfl, _⟩ := List.cons.inj e2f3
  obtain ⟨n2f4, y2f4, t2f4⟩ := f2 4 _ _ rfl rfl
  obtain ⟨a2f4, e2f4, _, w2f4⟩ := DataW.trod_int Try.underlying3 t2f4
  obtain ⟨rfl, _⟩ := List.cons.inj e2f4
  clear hA0 hval0
  refine (walk a0 n0 c0 b0 a1 a2f0 a2f1 a2f2 a2f3 a2f4 W w0 w1 w2f1 w2f2 w2f3 w2f4).mono fun e W' ⟨he, bel⟩ => ?_
  subst he
  exact ⟨_, rfl, _, _, _, [], _, [], hW', trodAll_mk1 (shut_bool Try.underlying4 _), (trodAll_cons_mk (Below.trod laidOut (by kernel_rfl) (of_decide_eq_true (by kernel_rfl)) k0 bel lt0) (trodAll_cons_mk (shut_int Try.underlying3 w1) (trodAll_cons_mk (Below.trod laidOut (by kernel_rfl) (of_decide_eq_true (by kernel_rfl)) k2 bel lt2) trodAll_mk0))), rfl, bel.frame _, fun h => by cases h⟩

theorem over : Rows.fnExactProgramRow.holds Try.pinned (OpenSpec.ofChange Rows.fnExactProgramSpec) :=
  OpenClaim.holds_of_wide 7 Try.f7 rfl rfl rfl rfl rfl rfl rfl ⟨rfl, rfl, rfl, rfl, rfl⟩ rfl rfl rfl rfl rfl (by kernel_rfl) Try.func7 (by kernel_rfl)
    (of_decide_eq_true (by kernel_rfl)) (by unfold Func.isWrapper; first | (rw [if_pos (by decide +kernel)]; kernel_rfl) | (rw [if_neg (by decide +kernel)]; exact ⟨rfl, rfl⟩))
    (fun os started H enc _ => lifted os started H enc)

/-- ████ THE STATEMENT ████ -/
theorem proved : Rows.FnExactProgramSaid := over
#print axioms proved
end Go.Proofs.Ytbdpnmejkchjpaa.fnExactProgram
