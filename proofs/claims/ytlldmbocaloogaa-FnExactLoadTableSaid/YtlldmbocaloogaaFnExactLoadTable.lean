/- LoadTable answers as its model for every save, changes nothing of the save, and its answer owns its memory: proved.
   Conditions: none beyond the row's own reading of the input. The frame was written by the guide's proof-skeleton; the walk is ours. -/
import Derived.Test.YtlldmbocaloogaaAgg
import Derived.Test.YtlldmbocaloogaaLawSave
import Derived.Test.YtlldmbocaloogaaHand
import Derived.Test.YtlldmbocaloogaaRows
import Derived.WalkKit
import Derived.ProofKit
import Derived.OpenShut
import Derived.ShutString
import Derived.ChangeOld
import Derived.Below
namespace Go.Proofs.Ytlldmbocaloogaa.fnExactLoadTable
open Go.ChangeShapes Go.WideShapes Go.ChangeAt Go.RowKit
open Go.ChangeMaps (open_string shut_string)
set_option linter.unusedVariables false
set_option linter.unusedSimpArgs false

theorem own : ownKnob Try.prog.godebug = none := by kernel_rfl
theorem laidOut : laidOutB Try.prog = true := by kernel_rfl

/-- WHAT THE WALK IS TOLD OF A SLICE OF INTEGERS THAT CAME IN: it is nil; or it leads to a row of 'cap' cells, the numbers 'zs' (the first 'len' are its elements, the rest its spare room), each fitting its kind. -/
def IsRow (k : IntKind) (w : World) (a : Option Addr) (len cap : Nat) (zs : List Int) : Prop :=
  (a = none ∧ len = 0 ∧ cap = 0 ∧ zs = []) ∨
  ∃ x, a = some x ∧ len ≤ cap ∧ cap ≤ maxLen ∧ zs.length = cap ∧ (∀ i, i < zs.length → w.cell? (x.add i) = some (.int k (zs.getD i 0))) ∧ ∀ n ∈ zs, (Lit.int k n).wf = true

/-! ### STEP 1: THE WALK: the Go text returns true, AND WRITES NOTHING THAT WAS THERE: 'Below w.heap.size w w'' (Derived/Below.lean: '.refl', '.alloc', '.drew', '.setCell' at a new block, '.trans'). Open each 'IsRow' by 'rcases' AHEAD of 'go_enter'; part every test ahead of the walk. -/
set_option maxHeartbeats 4000000 in
set_option maxRecDepth 100000 in
theorem walk (a0f0 : Int) (a0f1 : Option Addr) (n0f1 c0f1 : Nat) (p0f1 : List Int) (a0f2 : Int) (w : World) (w0f0 : (Lit.int .i64 a0f0).wf = true) (w0f1 : IsInts w a0f1 n0f1 c0f1 p0f1) (w0f2 : (Lit.int .i64 a0f2).wf = true) :
    Calls Try.prog 9 #[.agg #[.int .i64 a0f0, .slice a0f1 n0f1 c0f1, .int .i64 a0f2]] w fun e w' => e = .returned (.bool true) ∧ Below w.heap.size w w' := by
  obtain ⟨T, ok, hV⟩ : ∃ T ok, loadV a0f0 p0f1 a0f2 = (T, ok) := ⟨_, _, rfl⟩
  obtain ⟨n1, hn1'⟩ : ∃ n1, T.length = n1 := ⟨_, rfl⟩
  have hT1 := loadV_small hV
  have hn1 : n1 ≤ 1048576 := by rw [← hn1']; exact hT1.1
  have HI := Lib.hid (And.intro hV hn1')
  have HT := Lib.hid hT1.2
  have tok : (ok != ok) = false := by simp
  clear hV hn1' hT1
  have HA := Lib.hid (SvA.arg (N := a0f0) (S := a0f2) w0f1)
  have HLHA := Lib.hid w0f1.1
  have hcap := w0f1.2.1
  have hmax := w0f1.2.2.1
  have hmx : n0f1 ≤ 9223372036854775807 := by simp only [maxLen] at hmax; omega
  clear w0f1
  obtain ⟨b0, b1, b2⟩ := HA.out.cells
  go_enter Try.func9, Try.ntmps9
  go_wp2_with fail
  refine (szSave_any _ _ _ _ _ _ _ (by omega) (by omega) hmx).mono ?_
  rintro e w1 ⟨v, rfl, hk, hv⟩
  clear b0 b1 b2
  replace HA := Lib.hid (HA.out.keep hk)
  rcases hv with rfl | ⟨hv0, hvL, hn⟩
  · clear hk
    go_wp2
    go_ret
    exact ⟨rfl, grown_below HA.out.2.2.2⟩
  · have tv : decide (v < 0) = false := decide_eq_false (by omega)
    clear hk
    obtain ⟨bHA, cHA, dHA⟩ := HA.out.cells
    have lHA := HA.out.1.lt
    go_wp2_with fail
    clear tv
    clear bHA cHA dHA lHA
    refine (toSave_any _ _ _ _ _ _ _ HLHA.out HA.out.row hn).mono ?_
    rintro e w2 ⟨g2, rfl, ho, hk⟩
    replace HA := Lib.hid (HA.out.keep hk)
    have HR2 := Lib.hid (VOwn.row ho)
    clear hk ho
    obtain ⟨bHA, cHA, dHA⟩ := HA.out.cells
    have lHA := HA.out.1.lt
    go_wp2_with fail
    have hp := HA.out.1.lt
    clear bHA cHA dHA lHA
    refine ((specLoad_val HI.out.1 HLHA.out HR2.out hn (Nat.le_refl _) (by omega)).mono fun _ _ q => TabMade2.to q HI.out.2).mono ?_
    rintro e w3 ⟨A4, c4, cs4, rfl, hl, hs, ho, hk⟩
    obtain ⟨loHW, hiHW, hx, qHW, rHW, sHW⟩ : ∃ lo hi, VT w w3.heap.size A4 n1 c4 cs4 lo hi (w3.alloc (.cells #[.slice A4 n1 c4] 31)) ∧ w.heap.size < lo ∧ lo ≤ hi ∧ hi ≤ w3.heap.size := ⟨_, _, VT.start HA.out.2.2.2 hl ho hk, hp, hk.size, Nat.le_refl _⟩
    replace HA := Lib.hid (HA.out.keep hk)
    obtain ⟨bHA, cHA, dHA⟩ := HA.out.cells
    have lHA := HA.out.1.lt
    replace HA := Lib.hid (HA.out.keep (grown_alloc (grown_refl w3 none) (.cells #[.slice A4 n1 c4] 31)))
    have HW := Lib.hid hx
    have SHW := Lib.hid hs
    clear hk hl hs ho hx hp
    go_wp2_with fail
    have hp := HW.out.1.lt
    clear bHA cHA dHA lHA
    refine (toSave_any _ _ _ _ _ _ _ HLHA.out HA.out.row hn).mono ?_
    rintro e w4 ⟨g3, rfl, ho, hk⟩
    obtain ⟨loHX, hiHX, hx, qHX, rHX, sHX⟩ : ∃ lo hi, SvV w w4.heap.size a0f0 a0f2 (some ⟨g3, 0, none⟩) n0f1 n0f1 p0f1 lo hi (w4.alloc (.cells #[.int .i64 a0f0, .slice (some ⟨g3, 0, none⟩) n0f1 n0f1, .int .i64 a0f2] 35)) ∧ w3.heap.size < lo ∧ lo ≤ hi ∧ hi ≤ w4.heap.size := ⟨_, _, SvV.start HA.out.2.2.2 HLHA.out ho hk, hp, hk.size, Nat.le_refl _⟩
    replace HA := Lib.hid (HA.out.keep hk)
    replace HW := Lib.hid (HW.out.keep hk)
    obtain ⟨bHA, cHA, dHA⟩ := HA.out.cells
    have lHA := HA.out.1.lt
    have bHW := HW.out.cell
    have lHW := HW.out.1.lt
    replace HA := Lib.hid (HA.out.keep (grown_alloc (grown_refl w4 none) (.cells #[.int .i64 a0f0, .slice (some ⟨g3, 0, none⟩) n0f1 n0f1, .int .i64 a0f2] 35)))
    replace HW := Lib.hid (HW.out.keep (grown_alloc (grown_refl w4 none) (.cells #[.int .i64 a0f0, .slice (some ⟨g3, 0, none⟩) n0f1 n0f1, .int .i64 a0f2] 35)))
    have HX := Lib.hid hx
    clear hk ho hx hp
    go_wp2_with fail
    have hp := HX.out.1.lt
    clear bHA cHA dHA lHA bHW lHW
    refine ((load_val HI.out.1 HX.out.2.1.2.1 HX.out.row hn).mono fun _ _ q => TabMade2.to q HI.out.2).mono ?_
    rintro e w5 ⟨A5, c5, cs5, rfl, hl, hs, ho, hk⟩
    obtain ⟨loHG, hiHG, hx, qHG, rHG, sHG⟩ : ∃ lo hi, VT w w5.heap.size A5 n1 c5 cs5 lo hi (w5.alloc (.cells #[.slice A5 n1 c5] 31)) ∧ w4.heap.size < lo ∧ lo ≤ hi ∧ hi ≤ w5.heap.size := ⟨_, _, VT.start HA.out.2.2.2 hl ho hk, hp, hk.size, Nat.le_refl _⟩
    replace HA := Lib.hid (HA.out.keep hk)
    replace HW := Lib.hid (HW.out.keep hk)
    replace HX := Lib.hid (HX.out.keep hk)
    obtain ⟨bHA, cHA, dHA⟩ := HA.out.cells
    have lHA := HA.out.1.lt
    have bHW := HW.out.cell
    have lHW := HW.out.1.lt
    obtain ⟨bHX, cHX, dHX⟩ := HX.out.cells
    have lHX := HX.out.1.lt
    replace HA := Lib.hid (HA.out.keep (grown_alloc (grown_refl w5 none) (.cells #[.slice A5 n1 c5] 31)))
    replace HW := Lib.hid (HW.out.keep (grown_alloc (grown_refl w5 none) (.cells #[.slice A5 n1 c5] 31)))
    replace HX := Lib.hid (HX.out.keep (grown_alloc (grown_refl w5 none) (.cells #[.slice A5 n1 c5] 31)))
    have HG := Lib.hid hx
    have SHG := Lib.hid hs
    clear hk hl hs ho hx hp
    go_wp2_with fail
    clear bHA cHA dHA lHA bHW lHW bHX cHX dHX lHX
    refine (eqTable_same _ _ _ _ _ _ _ _ HG.out.2.2.1 (SHG.out.trans SHW.out.symm) HG.out.row HW.out.row hn1 (by rw [SHG.out]; exact HT.out)).mono ?_
    rintro e w6 ⟨rfl, hk⟩
    replace HA := Lib.hid (HA.out.keep hk)
    replace HW := Lib.hid (HW.out.keep hk)
    replace HX := Lib.hid (HX.out.keep hk)
    replace HG := Lib.hid (HG.out.keep hk)
    clear hk
    obtain ⟨bHA, cHA, dHA⟩ := HA.out.cells
    have lHA := HA.out.1.lt
    have bHW := HW.out.cell
    have lHW := HW.out.1.lt
    obtain ⟨bHX, cHX, dHX⟩ := HX.out.cells
    have lHX := HX.out.1.lt
    have bHG := HG.out.cell
    have lHG := HG.out.1.lt
    go_wp2_with fail
    refine wp_region_held_drew (S := (fun w' => w'.cell? ⟨w4.heap.size, 0, none⟩ = some (.int .i64 a0f0) ∧ w'.cell? ⟨w4.heap.size, 1, none⟩ = some (.slice (some ⟨g3, 0, none⟩) n0f1 n0f1) ∧ w'.cell? ⟨w4.heap.size, 2, none⟩ = some (.int .i64 a0f2) ∧ w'.cell? ⟨w.heap.size, 0, none⟩ = some (.int .i64 a0f0) ∧ w'.cell? ⟨w.heap.size, 1, none⟩ = some (.slice a0f1 n0f1 c0f1) ∧ w'.cell? ⟨w.heap.size, 2, none⟩ = some (.int .i64 a0f2))) (by kernel_rfl) ?_ (fun hHeld => ?_)
    · exact ⟨bHX, cHX, dHX, bHA, cHA, dHA⟩
    replace HA := Lib.hid (HA.out.keep (grown_drew (grown_refl _ none)))
    replace HW := Lib.hid (HW.out.keep (grown_drew (grown_refl _ none)))
    replace HX := Lib.hid (HX.out.keep (grown_drew (grown_refl _ none)))
    replace HG := Lib.hid (HG.out.keep (grown_drew (grown_refl _ none)))
    refine heldY 0 41 ?_
    refine heldY 1 42 ?_
    refine wpAnyH_ready (rs := [2]) (by kernel_rfl) (by simp) ?_
    refine AllReadyH.cons rfl (fun K hK => ?_) AllReadyH.nil
    go_simp
    go_at_call 37
    clear bHA cHA dHA lHA bHW lHW bHX cHX dHX lHX bHG lHG
    refine (toSave_any _ _ _ _ _ _ _ HLHA.out HA.out.row hn).mono ?_
    rintro e w7 ⟨g6, rfl, ho, hk⟩
    replace HA := Lib.hid (HA.out.keep hk)
    replace HW := Lib.hid (HW.out.keep hk)
    replace HX := Lib.hid (HX.out.keep hk)
    replace HG := Lib.hid (HG.out.keep hk)
    have HR6 := Lib.hid (VOwn.row ho)
    clear hk ho
    obtain ⟨bHA, cHA, dHA⟩ := HA.out.cells
    have lHA := HA.out.1.lt
    have bHW := HW.out.cell
    have lHW := HW.out.1.lt
    obtain ⟨bHX, cHX, dHX⟩ := HX.out.cells
    have lHX := HX.out.1.lt
    have bHG := HG.out.cell
    have lHG := HG.out.1.lt
    refine hK.out _ _ ?_ (fun hHeld => ?_)
    · exact ⟨bHX, cHX, dHX, bHA, cHA, dHA⟩
    clear hK K
    try simp only [Act.put, List.setIfInBounds_toArray, List.set_cons_zero, List.set_cons_succ]
    refine wpAnyH_ready (rs := [3]) (by kernel_rfl) (by simp) ?_
    refine AllReadyH.cons rfl (fun K hK => ?_) AllReadyH.nil
    go_simp
    go_at_call 31
    clear bHA cHA dHA lHA bHW lHW bHX cHX dHX lHX bHG lHG
    refine (eqSave_same _ _ _ _ _ _ _ _ _ HX.out.2.1.2.1 HX.out.row HR6.out hn).mono ?_
    rintro e w8 ⟨rfl, hk⟩
    replace HA := Lib.hid (HA.out.keep hk)
    replace HW := Lib.hid (HW.out.keep hk)
    replace HX := Lib.hid (HX.out.keep hk)
    replace HG := Lib.hid (HG.out.keep hk)
    clear hk
    obtain ⟨bHA, cHA, dHA⟩ := HA.out.cells
    have lHA := HA.out.1.lt
    have bHW := HW.out.cell
    have lHW := HW.out.1.lt
    obtain ⟨bHX, cHX, dHX⟩ := HX.out.cells
    have lHX := HX.out.1.lt
    have bHG := HG.out.cell
    have lHG := HG.out.1.lt
    refine hK.out _ _ ?_ (fun hHeld => ?_)
    · exact ⟨bHX, cHX, dHX, bHA, cHA, dHA⟩
    clear hK K
    try simp only [Act.put, List.setIfInBounds_toArray, List.set_cons_zero, List.set_cons_succ]
    refine heldY 4 45 ?_
    refine wpAnyH_done (by kernel_rfl) ?_ _
    go_wp2_with fail
    obtain ⟨vX, hvX⟩ : ∃ v : Int, v = ((1 + n0f1 : Nat) : Int) := ⟨_, rfl⟩
    have tX : decide (vX < 0) = false := decide_eq_false (by omega)
    have HVX := Lib.hid (And.intro hvX tX)
    clear hvX
    clear bHA cHA dHA lHA bHW lHW bHX cHX dHX lHX bHG lHG
    refine (markSave_val HVX.out.1 HX.out hn).mono ?_
    rintro e w9 ⟨rfl, ho, hk⟩
    have hxlo := HX.out.2.1.2.2.2.2.1
    replace HA := Lib.hid (HA.out.marked hxlo (by omega) hk)
    replace HW := Lib.hid (HW.out.marked (by omega) hxlo hk)
    replace HG := Lib.hid (HG.out.marked (by omega) hxlo hk)
    replace HX := Lib.hid (HX.out.self ho hk)
    clear ho hk hxlo
    obtain ⟨bHA, cHA, dHA⟩ := HA.out.cells
    have lHA := HA.out.1.lt
    have bHW := HW.out.cell
    have lHW := HW.out.1.lt
    obtain ⟨bHX, cHX, dHX⟩ := HX.out.cells
    have lHX := HX.out.1.lt
    have bHG := HG.out.cell
    have lHG := HG.out.1.lt
    go_wp2_with fail
    clear bHA cHA dHA lHA bHW lHW bHX cHX dHX lHX bHG lHG
    refine (eqTable_same _ _ _ _ _ _ _ _ HG.out.2.2.1 (SHG.out.trans SHW.out.symm) HG.out.row HW.out.row hn1 (by rw [SHG.out]; exact HT.out)).mono ?_
    rintro e w10 ⟨rfl, hk⟩
    replace HA := Lib.hid (HA.out.keep hk)
    replace HW := Lib.hid (HW.out.keep hk)
    replace HX := Lib.hid (HX.out.keep hk)
    replace HG := Lib.hid (HG.out.keep hk)
    clear hk
    obtain ⟨bHA, cHA, dHA⟩ := HA.out.cells
    have lHA := HA.out.1.lt
    have bHW := HW.out.cell
    have lHW := HW.out.1.lt
    obtain ⟨bHX, cHX, dHX⟩ := HX.out.cells
    have lHX := HX.out.1.lt
    have bHG := HG.out.cell
    have lHG := HG.out.1.lt
    go_wp2_with fail
    have MHG := Lib.hid (show ltot (ll cs5) ≤ 1048576 by rw [SHG.out]; exact HT.out)
    obtain ⟨vG, hvG⟩ : ∃ v : Int, v = ((lend 1 cs5 : Nat) : Int) := ⟨_, rfl⟩
    have tG : decide (vG < 0) = false := decide_eq_false (by omega)
    have HVG := Lib.hid (And.intro hvG tG)
    clear hvG
    clear bHA cHA dHA lHA bHW lHW bHX cHX dHX lHX bHG lHG
    refine (markTable_val HVG.out.1 HG.out hn1 MHG.out).mono ?_
    rintro e w11 ⟨rfl, ho, hk⟩
    have hxlo := HG.out.2.2.2.2.2.2.1
    replace HA := Lib.hid (HA.out.marked hxlo (by omega) hk)
    replace HW := Lib.hid (HW.out.marked (by omega) hxlo hk)
    replace HX := Lib.hid (HX.out.marked (by omega) hxlo hk)
    have LHG := Lib.hid HG.out.2.2.1
    replace HG := Lib.hid (HG.out.self ho hk)
    clear ho hk hxlo
    obtain ⟨bHA, cHA, dHA⟩ := HA.out.cells
    have lHA := HA.out.1.lt
    have bHW := HW.out.cell
    have lHW := HW.out.1.lt
    obtain ⟨bHX, cHX, dHX⟩ := HX.out.cells
    have lHX := HX.out.1.lt
    have bHG := HG.out.cell
    have lHG := HG.out.1.lt
    go_wp2_with fail
    clear bHA cHA dHA lHA bHW lHW bHX cHX dHX lHX bHG lHG
    refine (heldTable_val HVG.out.1 HVG.out.2 LHG.out HG.out hn1 MHG.out).mono ?_
    rintro e w12 ⟨rfl, hk⟩
    replace HA := Lib.hid (HA.out.keep hk)
    replace HW := Lib.hid (HW.out.keep hk)
    replace HX := Lib.hid (HX.out.keep hk)
    replace HG := Lib.hid (HG.out.keep hk)
    clear hk
    obtain ⟨bHA, cHA, dHA⟩ := HA.out.cells
    have lHA := HA.out.1.lt
    have bHW := HW.out.cell
    have lHW := HW.out.1.lt
    obtain ⟨bHX, cHX, dHX⟩ := HX.out.cells
    have lHX := HX.out.1.lt
    have bHG := HG.out.cell
    have lHG := HG.out.1.lt
    go_wp2_with fail
    clear bHA cHA dHA lHA bHW lHW bHX cHX dHX lHX bHG lHG
    refine (toSave_any _ _ _ _ _ _ _ HLHA.out HA.out.row hn).mono ?_
    rintro e w13 ⟨g8, rfl, ho, hk⟩
    replace HA := Lib.hid (HA.out.keep hk)
    replace HW := Lib.hid (HW.out.keep hk)
    replace HX := Lib.hid (HX.out.keep hk)
    replace HG := Lib.hid (HG.out.keep hk)
    have HR8 := Lib.hid (VOwn.row ho)
    clear hk ho
    obtain ⟨bHA, cHA, dHA⟩ := HA.out.cells
    have lHA := HA.out.1.lt
    have bHW := HW.out.cell
    have lHW := HW.out.1.lt
    obtain ⟨bHX, cHX, dHX⟩ := HX.out.cells
    have lHX := HX.out.1.lt
    have bHG := HG.out.cell
    have lHG := HG.out.1.lt
    go_wp2_with fail
    have hp := HG.out.1.lt
    clear bHA cHA dHA lHA bHW lHW bHX cHX dHX lHX bHG lHG
    refine ((load_val HI.out.1 HLHA.out HR8.out hn).mono fun _ _ q => TabMade2.to q HI.out.2).mono ?_
    rintro e w14 ⟨A9, c9, cs9, rfl, hl, hs, ho, hk⟩
    obtain ⟨loHH, hiHH, hx, qHH, rHH, sHH⟩ : ∃ lo hi, VT w w14.heap.size A9 n1 c9 cs9 lo hi (w14.alloc (.cells #[.slice A9 n1 c9] 31)) ∧ w5.heap.size < lo ∧ lo ≤ hi ∧ hi ≤ w14.heap.size := ⟨_, _, VT.start HA.out.2.2.2 hl ho hk, hp, hk.size, Nat.le_refl _⟩
    replace HA := Lib.hid (HA.out.keep hk)
    replace HW := Lib.hid (HW.out.keep hk)
    replace HX := Lib.hid (HX.out.keep hk)
    replace HG := Lib.hid (HG.out.keep hk)
    obtain ⟨bHA, cHA, dHA⟩ := HA.out.cells
    have lHA := HA.out.1.lt
    have bHW := HW.out.cell
    have lHW := HW.out.1.lt
    obtain ⟨bHX, cHX, dHX⟩ := HX.out.cells
    have lHX := HX.out.1.lt
    have bHG := HG.out.cell
    have lHG := HG.out.1.lt
    replace HA := Lib.hid (HA.out.keep (grown_alloc (grown_refl w14 none) (.cells #[.slice A9 n1 c9] 31)))
    replace HW := Lib.hid (HW.out.keep (grown_alloc (grown_refl w14 none) (.cells #[.slice A9 n1 c9] 31)))
    replace HX := Lib.hid (HX.out.keep (grown_alloc (grown_refl w14 none) (.cells #[.slice A9 n1 c9] 31)))
    replace HG := Lib.hid (HG.out.keep (grown_alloc (grown_refl w14 none) (.cells #[.slice A9 n1 c9] 31)))
    have HH := Lib.hid hx
    have SHH := Lib.hid hs
    clear hk hl hs ho hx hp
    go_wp2_with fail
    clear bHA cHA dHA lHA bHW lHW bHX cHX dHX lHX bHG lHG
    refine (eqTable_same _ _ _ _ _ _ _ _ HH.out.2.2.1 (SHH.out.trans SHW.out.symm) HH.out.row HW.out.row hn1 (by rw [SHH.out]; exact HT.out)).mono ?_
    rintro e w15 ⟨rfl, hk⟩
    replace HA := Lib.hid (HA.out.keep hk)
    replace HW := Lib.hid (HW.out.keep hk)
    replace HX := Lib.hid (HX.out.keep hk)
    replace HG := Lib.hid (HG.out.keep hk)
    replace HH := Lib.hid (HH.out.keep hk)
    clear hk
    obtain ⟨bHA, cHA, dHA⟩ := HA.out.cells
    have lHA := HA.out.1.lt
    have bHW := HW.out.cell
    have lHW := HW.out.1.lt
    obtain ⟨bHX, cHX, dHX⟩ := HX.out.cells
    have lHX := HX.out.1.lt
    have bHG := HG.out.cell
    have lHG := HG.out.1.lt
    have bHH := HH.out.cell
    have lHH := HH.out.1.lt
    go_wp2_with fail
    clear bHA cHA dHA lHA bHW lHW bHX cHX dHX lHX bHG lHG bHH lHH
    refine (heldTable_val HVG.out.1 HVG.out.2 LHG.out HG.out hn1 MHG.out).mono ?_
    rintro e w16 ⟨rfl, hk⟩
    replace HA := Lib.hid (HA.out.keep hk)
    replace HW := Lib.hid (HW.out.keep hk)
    replace HX := Lib.hid (HX.out.keep hk)
    replace HG := Lib.hid (HG.out.keep hk)
    replace HH := Lib.hid (HH.out.keep hk)
    clear hk
    obtain ⟨bHA, cHA, dHA⟩ := HA.out.cells
    have lHA := HA.out.1.lt
    have bHW := HW.out.cell
    have lHW := HW.out.1.lt
    obtain ⟨bHX, cHX, dHX⟩ := HX.out.cells
    have lHX := HX.out.1.lt
    have bHG := HG.out.cell
    have lHG := HG.out.1.lt
    have bHH := HH.out.cell
    have lHH := HH.out.1.lt
    go_wp2
    go_ret
    exact ⟨rfl, grown_below HA.out.2.2.2⟩

/-! ### THE ROW's STEP: WRITTEN OUT: LEAVE IT -/
set_option maxRecDepth 100000 in
theorem lifted (os : Os) (started : os.Started) (H : Type) (enc : TypeId × Value → H) :
    ReturnsInHanded {} Try.checked os 9 .any (Rows.fnExactLoadTableSpec.pre6 enc Try.prog Try.f9 Rows.fnExactLoadTableRow.domain false) (Rows.fnExactLoadTableSpec.post enc Try.prog Try.f9 false true false false) := by
  refine returnsInHanded_of_change (C := Try.checked) own started (by kernel_rfl) Try.func9
    (ChangeSpec.witness6 (enc := enc) (C := Try.checked) false ⟨#[], #[.agg #[.int .i64 0, .slice none 0 0, .int .i64 0]], []⟩ 8 (by kernel_rfl) (by kernel_rfl) (by kernel_rfl) (by kernel_rfl)) ?_
  intro W base args ds gs before hval0 hW hcnd _
  have hval : ∀ (j : Nat) t v, Try.f9.params[j]? = some t → args[j]? = some v → Value.okWide Try.prog W .any base t v := hval0
  have hW' := hW
  obtain ⟨p, q, hA0, hV, rfl, hfz, hnd⟩ := hW
  have hA : DataW.TrodAll enc Try.prog W 0 (fun _ => true) true Try.f9.params.toList args.toList ds p := hA0
  rw [Try.params9] at hA hval
  obtain ⟨v0, vs0, d0, ds0, p0, q0, hargs, rfl, rfl, h0, r0⟩ := trodAll_cons hA
  obtain ⟨rfl, rfl, rfl⟩ := trodAll_nil r0
  obtain rfl : args = #[v0] := by cases args; simp_all
  obtain ⟨rfl, rfl⟩ := trodVars_none hV
  have k0 := h0
  have lt0 : ∀ x ∈ p0, x.block < W.heap.size := by obtain ⟨m, hm⟩ := k0; exact DataW.trod_lt m _ _ _ hm
  obtain ⟨c0, rfl, l0, f0⟩ := open_agg Try.underlying56 (by kernel_rfl) (by kernel_rfl) (hval 0 56 v0 rfl rfl) h0
  obtain ⟨v0f0, v0f1, v0f2, rfl⟩ := list3 l0
  obtain ⟨n0f0, y0f0, t0f0⟩ := f0 0 _ _ rfl rfl
  obtain ⟨a0f0, e0f0, _, w0f0⟩ := DataW.trod_int Try.underlying3 t0f0
  obtain ⟨rfl, _⟩ := List.cons.inj e0f0
  obtain ⟨n0f1, y0f1, t0f1⟩ := f0 1 _ _ rfl rfl
  obtain ⟨a0f1, n0f1, c0f1, p0f1, rfl, w0f1⟩ := open_intsT t0f1
  obtain ⟨n0f2, y0f2, t0f2⟩ := f0 2 _ _ rfl rfl
  obtain ⟨a0f2, e0f2, _, w0f2⟩ := DataW.trod_int Try.underlying3 t0f2
  obtain ⟨rfl, _⟩ := List.cons.inj e0f2
  clear hA0 hval0
  refine (walk a0f0 a0f1 n0f1 c0f1 p0f1 a0f2 W w0f0 w0f1 w0f2).mono fun e W' ⟨he, bel⟩ => ?_
  subst he
  exact ⟨_, rfl, _, _, _, [], _, [], hW', trodAll_mk1 (shut_bool Try.underlying4 _), (trodAll_cons_mk (Below.trod laidOut (by kernel_rfl) (of_decide_eq_true (by kernel_rfl)) k0 bel lt0) trodAll_mk0), rfl, bel.frame _, fun h => by cases h⟩

theorem over : Rows.fnExactLoadTableRow.holds Try.pinned (OpenSpec.ofChange Rows.fnExactLoadTableSpec) :=
  OpenClaim.holds_of_wide 9 Try.f9 rfl rfl rfl rfl rfl rfl rfl ⟨rfl, rfl, rfl, rfl, rfl⟩ rfl rfl rfl rfl rfl (by kernel_rfl) Try.func9 (by kernel_rfl)
    (of_decide_eq_true (by kernel_rfl)) (by unfold Func.isWrapper; first | (rw [if_pos (by decide +kernel)]; kernel_rfl) | (rw [if_neg (by decide +kernel)]; exact ⟨rfl, rfl⟩))
    (fun os started H enc _ => lifted os started H enc)

/-- ████ THE STATEMENT ████ -/
theorem proved : Rows.FnExactLoadTableSaid := over
#print axioms proved
end Go.Proofs.Ytlldmbocaloogaa.fnExactLoadTable
