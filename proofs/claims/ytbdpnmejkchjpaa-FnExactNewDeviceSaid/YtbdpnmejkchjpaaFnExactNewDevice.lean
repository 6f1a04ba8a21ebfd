/- NewDevice answers as its model for every number, every field of every page, and each answer lies in memory of its own: proved.
   Conditions: none beyond the row's own reading of the input. The frame was written by the guide's proof-skeleton; the walk is ours. -/
import Derived.Test.YtbdpnmejkchjpaaLawDev3
import Derived.Test.YtbdpnmejkchjpaaRows
import Derived.WalkKit
import Derived.ProofKit
import Derived.OpenShut
import Derived.ShutString
import Derived.ChangeOld
import Derived.Below
namespace Go.Proofs.Ytbdpnmejkchjpaa.fnExactNewDevice
open Go.ChangeShapes Go.WideShapes Go.ChangeAt Go.RowKit
open Go.ChangeMaps (open_string shut_string)
set_option linter.unusedVariables false

theorem own : ownKnob Try.prog.godebug = none := by kernel_rfl
theorem laidOut : laidOutB Try.prog = true := by kernel_rfl

/-- WHAT THE WALK IS TOLD OF A SLICE OF INTEGERS THAT CAME IN: it is nil; or it leads to a row of 'cap' cells, the numbers 'zs' (the first 'len' are its elements, the rest its spare room), each fitting its kind. -/
def IsRow (k : IntKind) (w : World) (a : Option Addr) (len cap : Nat) (zs : List Int) : Prop :=
  (a = none ∧ len = 0 ∧ cap = 0 ∧ zs = []) ∨
  ∃ x, a = some x ∧ len ≤ cap ∧ cap ≤ maxLen ∧ zs.length = cap ∧ (∀ i, i < zs.length → w.cell? (x.add i) = some (.int k (zs.getD i 0))) ∧ ∀ n ∈ zs, (Lit.int k n).wf = true

/-! ### STEP 1: THE WALK: the Go text returns true, AND WRITES NOTHING THAT WAS THERE: 'Below w.heap.size w w'' (Derived/Below.lean: '.refl', '.alloc', '.drew', '.setCell' at a new block, '.trans'). Open each 'IsRow' by 'rcases' AHEAD of 'go_enter'; part every test ahead of the walk. -/
set_option maxHeartbeats 2000000 in
theorem walk (a0 : Int) (w : World) (w0 : (Lit.int .i64 a0).wf = true) :
    Calls Try.prog 5 #[.int .i64 a0] w fun e w' => e = .returned (.bool true) ∧ Below w.heap.size w w' := by
  cases hv : inB a0 1 12
  · have HV := Lib.hid hv
    clear hv
    go_enter Try.func5, Try.ntmps5
    go_wp2_with fail
    refine (specNewDevice_no _ _ HV.out).mono ?_
    rintro e w1 ⟨A1, c1, cs1, rfl, hl, hs, ho, hk⟩
    obtain ⟨loHW, hiHW, hx, qHW, rHW⟩ : ∃ lo hi, VX w A1 0 c1 cs1 lo hi w1 ∧ w.heap.size ≤ lo ∧ lo ≤ hi := ⟨_, _, VX.made (grown_refl w none) hl ho hk, (grown_refl w none).size, hk.size⟩
    have HW := Lib.hid hx
    have SHW := Lib.hid hs
    clear hk hl hs ho hx
    go_wp2_with fail
    refine (newDevice_no _ _ HV.out).mono ?_
    rintro e w2 ⟨A2, c2, cs2, rfl, hl, hs, ho, hk⟩
    obtain ⟨loHG, hiHG, hx, qHG, rHG⟩ : ∃ lo hi, VX w A2 0 c2 cs2 lo hi w2 ∧ hiHW ≤ lo ∧ lo ≤ hi := ⟨_, _, VX.made HW.out.2.2.2.2.2.2 hl ho hk, HW.out.2.2.2.2.1, hk.size⟩
    replace HW := Lib.hid (HW.out.keep hk)
    have HG := Lib.hid hx
    have SHG := Lib.hid hs
    clear hk hl hs ho hx
    have THG := Lib.hid (show tot cs2 ≤ 1048576 by rw [tot_is SHG.out]; simp [totL])
    have LHG := Lib.hid HG.out.2.1
    go_wp2_with fail
    refine (eqBlockS_same _ _ _ _ _ _ _ _ HG.out.2.1 (SHG.out.trans SHW.out.symm) HG.out.row HW.out.row (by omega) (small_tot THG.out)).mono ?_
    rintro e w3 ⟨rfl, hk⟩
    replace HW := Lib.hid (HW.out.keep hk)
    replace HG := Lib.hid (HG.out.keep hk)
    clear hk
    go_wp2_with fail
    obtain ⟨vG, hvG⟩ : ∃ v : Int, v = ((endK 1 cs2 : Nat) : Int) := ⟨_, rfl⟩
    have tG : decide (vG < 0) = false := decide_eq_false (by omega)
    have HVG := Lib.hid hvG
    clear hvG
    refine (markBlockS_val HVG.out HG.out (by omega) THG.out).mono ?_
    rintro e w4 ⟨rfl, ho, hk⟩
    have hxlo := HG.out.2.2.2.2.2.1
    replace HW := Lib.hid (HW.out.marked (by omega) hxlo hk)
    replace HG := Lib.hid (HG.out.self ho hk)
    clear ho hk hxlo
    go_wp2_with fail
    refine (heldBlockS_val HVG.out LHG.out HG.out (by omega) THG.out).mono ?_
    rintro e w5 ⟨rfl, rfl⟩
    go_wp2_with fail
    refine (newDevice_no _ _ HV.out).mono ?_
    rintro e w6 ⟨A3, c3, cs3, rfl, hl, hs, ho, hk⟩
    obtain ⟨loHH, hiHH, hx, qHH, rHH⟩ : ∃ lo hi, VX w A3 0 c3 cs3 lo hi w6 ∧ hiHG ≤ lo ∧ lo ≤ hi := ⟨_, _, VX.made HW.out.2.2.2.2.2.2 hl ho hk, HG.out.2.2.2.2.1, hk.size⟩
    replace HW := Lib.hid (HW.out.keep hk)
    replace HG := Lib.hid (HG.out.keep hk)
    have HH := Lib.hid hx
    have SHH := Lib.hid hs
    clear hk hl hs ho hx
    have THH := Lib.hid (show tot cs3 ≤ 1048576 by rw [tot_is SHH.out]; simp [totL])
    have LHH := Lib.hid HH.out.2.1
    go_wp2_with fail
    refine (eqBlockS_same _ _ _ _ _ _ _ _ HH.out.2.1 (SHH.out.trans SHW.out.symm) HH.out.row HW.out.row (by omega) (small_tot THH.out)).mono ?_
    rintro e w7 ⟨rfl, hk⟩
    replace HW := Lib.hid (HW.out.keep hk)
    replace HG := Lib.hid (HG.out.keep hk)
    replace HH := Lib.hid (HH.out.keep hk)
    clear hk
    go_wp2_with fail
    refine (heldBlockS_val HVG.out LHG.out HG.out (by omega) THG.out).mono ?_
    rintro e w8 ⟨rfl, rfl⟩
    go_wp2
    go_ret
    exact ⟨rfl, grown_below HW.out.2.2.2.2.2.2⟩
  · obtain ⟨h1, h12⟩ := inB_iff.1 hv
    obtain ⟨n, rfl⟩ : ∃ n : Nat, a0 = (n : Int) := ⟨a0.toNat, by omega⟩
    have HT := Lib.hid (show totL ((zs n).map Bk.is) ≤ 1048576 by rw [← tot_is rfl]; exact zs_tot n (by omega))
    have HV := Lib.hid hv
    clear hv
    go_enter Try.func5, Try.ntmps5
    go_wp2_with fail
    refine (specNewDevice_yes _ _ HV.out).mono ?_
    rintro e w1 ⟨A1, c1, cs1, rfl, hl, hs, ho, hk⟩
    obtain ⟨loHW, hiHW, hx, qHW, rHW⟩ : ∃ lo hi, VX w A1 n c1 cs1 lo hi w1 ∧ w.heap.size ≤ lo ∧ lo ≤ hi := ⟨_, _, VX.made (grown_refl w none) hl ho hk, (grown_refl w none).size, hk.size⟩
    have HW := Lib.hid hx
    have SHW := Lib.hid hs
    clear hk hl hs ho hx
    go_wp2_with fail
    refine (newDevice_yes _ _ HV.out).mono ?_
    rintro e w2 ⟨A2, c2, cs2, rfl, hl, hs, ho, hk⟩
    obtain ⟨loHG, hiHG, hx, qHG, rHG⟩ : ∃ lo hi, VX w A2 n c2 cs2 lo hi w2 ∧ hiHW ≤ lo ∧ lo ≤ hi := ⟨_, _, VX.made HW.out.2.2.2.2.2.2 hl ho hk, HW.out.2.2.2.2.1, hk.size⟩
    replace HW := Lib.hid (HW.out.keep hk)
    have HG := Lib.hid hx
    have SHG := Lib.hid hs
    clear hk hl hs ho hx
    have THG := Lib.hid (show tot cs2 ≤ 1048576 by rw [tot_is SHG.out]; exact HT.out)
    have LHG := Lib.hid HG.out.2.1
    go_wp2_with fail
    refine (eqBlockS_same _ _ _ _ _ _ _ _ HG.out.2.1 (SHG.out.trans SHW.out.symm) HG.out.row HW.out.row (by omega) (small_tot THG.out)).mono ?_
    rintro e w3 ⟨rfl, hk⟩
    replace HW := Lib.hid (HW.out.keep hk)
    replace HG := Lib.hid (HG.out.keep hk)
    clear hk
    go_wp2_with fail
    obtain ⟨vG, hvG⟩ : ∃ v : Int, v = ((endK 1 cs2 : Nat) : Int) := ⟨_, rfl⟩
    have tG : decide (vG < 0) = false := decide_eq_false (by omega)
    have HVG := Lib.hid hvG
    clear hvG
    refine (markBlockS_val HVG.out HG.out (by omega) THG.out).mono ?_
    rintro e w4 ⟨rfl, ho, hk⟩
    have hxlo := HG.out.2.2.2.2.2.1
    replace HW := Lib.hid (HW.out.marked (by omega) hxlo hk)
    replace HG := Lib.hid (HG.out.self ho hk)
    clear ho hk hxlo
    go_wp2_with fail
    refine (heldBlockS_val HVG.out LHG.out HG.out (by omega) THG.out).mono ?_
    rintro e w5 ⟨rfl, rfl⟩
    go_wp2_with fail
    refine (newDevice_yes _ _ HV.out).mono ?_
    rintro e w6 ⟨A3, c3, cs3, rfl, hl, hs, ho, hk⟩
    obtain ⟨loHH, hiHH, hx, qHH, rHH⟩ : ∃ lo hi, VX w A3 n c3 cs3 lo hi w6 ∧ hiHG ≤ lo ∧ lo ≤ hi := ⟨_, _, VX.made HW.out.2.2.2.2.2.2 hl ho hk, HG.out.2.2.2.2.1, hk.size⟩
    replace HW := Lib.hid (HW.out.keep hk)
    replace HG := Lib.hid (HG.out.keep hk)
    have HH := Lib.hid hx
    have SHH := Lib.hid hs
    clear hk hl hs ho hx
    have THH := Lib.hid (show tot cs3 ≤ 1048576 by rw [tot_is SHH.out]; exact HT.out)
    have LHH := Lib.hid HH.out.2.1
    go_wp2_with fail
    refine (eqBlockS_same _ _ _ _ _ _ _ _ HH.out.2.1 (SHH.out.trans SHW.out.symm) HH.out.row HW.out.row (by omega) (small_tot THH.out)).mono ?_
    rintro e w7 ⟨rfl, hk⟩
    replace HW := Lib.hid (HW.out.keep hk)
    replace HG := Lib.hid (HG.out.keep hk)
    replace HH := Lib.hid (HH.out.keep hk)
    clear hk
    go_wp2_with fail
    refine (heldBlockS_val HVG.out LHG.out HG.out (by omega) THG.out).mono ?_
    rintro e w8 ⟨rfl, rfl⟩
    go_wp2
    go_ret
    exact ⟨rfl, grown_below HW.out.2.2.2.2.2.2⟩

/-! ### THE ROW's STEP: WRITTEN OUT: LEAVE IT -/
set_option maxRecDepth 100000 in
theorem lifted (os : Os) (started : os.Started) (H : Type) (enc : TypeId × Value → H) :
    ReturnsInHanded {} Try.checked os 5 .any (Rows.fnExactNewDeviceSpec.pre6 enc Try.prog Try.f5 Rows.fnExactNewDeviceRow.domain false) (Rows.fnExactNewDeviceSpec.post enc Try.prog Try.f5 false true false false) := by
  refine returnsInHanded_of_change (C := Try.checked) own started (by kernel_rfl) Try.func5
    (ChangeSpec.witness6 (enc := enc) (C := Try.checked) false ⟨#[], #[.int .i64 0], []⟩ 8 (by kernel_rfl) (by kernel_rfl) (by kernel_rfl) (by kernel_rfl)) ?_
  intro W base args ds gs before hval0 hW hcnd _
  have hval : ∀ (j : Nat) t v, Try.f5.params[j]? = some t → args[j]? = some v → Value.okWide Try.prog W .any base t v := hval0
  have hW' := hW
  obtain ⟨p, q, hA0, hV, rfl, hfz, hnd⟩ := hW
  have hA : DataW.TrodAll enc Try.prog W 0 (fun _ => true) true Try.f5.params.toList args.toList ds p := hA0
  rw [Try.params5] at hA hval
  obtain ⟨v0, vs0, d0, ds0, p0, q0, hargs, rfl, rfl, h0, r0⟩ := trodAll_cons hA
  obtain ⟨rfl, rfl, rfl⟩ := trodAll_nil r0
  obtain rfl : args = #[v0] := by cases args; simp_all
  obtain ⟨rfl, rfl⟩ := trodVars_none hV
  obtain ⟨a0, rfl, rfl, rfl, w0⟩ := open_int Try.underlying3 (hval 0 3 v0 rfl rfl) h0
  clear hA0 hval0
  refine (walk a0 W w0).mono fun e W' ⟨he, bel⟩ => ?_
  subst he
  exact ⟨_, rfl, _, _, _, [], _, [], hW', trodAll_mk1 (shut_bool Try.underlying4 _), (trodAll_cons_mk (shut_int Try.underlying3 w0) trodAll_mk0), rfl, bel.frame _, fun h => by cases h⟩

theorem over : Rows.fnExactNewDeviceRow.holds Try.pinned (OpenSpec.ofChange Rows.fnExactNewDeviceSpec) :=
  OpenClaim.holds_of_wide 5 Try.f5 rfl rfl rfl rfl rfl rfl rfl ⟨rfl, rfl, rfl, rfl, rfl⟩ rfl rfl rfl rfl rfl (by kernel_rfl) Try.func5 (by kernel_rfl)
    (of_decide_eq_true (by kernel_rfl)) (by unfold Func.isWrapper; first | (rw [if_pos (by decide +kernel)]; kernel_rfl) | (rw [if_neg (by decide +kernel)]; exact ⟨rfl, rfl⟩))
    (fun os started H enc _ => lifted os started H enc)

/-- ████ THE STATEMENT ████ -/
theorem proved : Rows.FnExactNewDeviceSaid := over
#print axioms proved
end Go.Proofs.Ytbdpnmejkchjpaa.fnExactNewDevice
