/- ExtentsList answers as its model for every list of extents, number by number, leaves its argument as it was, and each answer lies in memory of its own: proved.
   Conditions: none beyond the row's own reading of the input. The frame was written by the guide's proof-skeleton; the walk is ours. -/
import Derived.Test.YtpfmjagbnfcocaaAgg
import Derived.Test.YtpfmjagbnfcocaaPairExtent
import Derived.Test.YtpfmjagbnfcocaaExtLaws
import Derived.Test.YtpfmjagbnfcocaaRows
import Derived.WalkKit
import Derived.ProofKit
import Derived.OpenShut
import Derived.ShutString
import Derived.ChangeOld
import Derived.Below
namespace Go.Proofs.Ytpfmjagbnfcocaa.fnExactExtentsList
open Go.ChangeShapes Go.WideShapes Go.ChangeAt Go.RowKit
open Go.ChangeMaps (open_string shut_string)
set_option linter.unusedVariables false

theorem own : ownKnob Try.prog.godebug = none := by kernel_rfl
theorem laidOut : laidOutB Try.prog = true := by kernel_rfl

/-- WHAT THE WALK IS TOLD OF A SLICE OF INTEGERS THAT CAME IN: it is nil; or it leads to a row of 'cap' cells, the numbers 'zs' (the first 'len' are its elements, the rest its spare room), each fitting its kind. -/
def IsRow (k : IntKind) (w : World) (a : Option Addr) (len cap : Nat) (zs : List Int) : Prop :=
  (a = none ∧ len = 0 ∧ cap = 0 ∧ zs = []) ∨
  ∃ x, a = some x ∧ len ≤ cap ∧ cap ≤ maxLen ∧ zs.length = cap ∧ (∀ i, i < zs.length → w.cell? (x.add i) = some (.int k (zs.getD i 0))) ∧ ∀ n ∈ zs, (Lit.int k n).wf = true

/-! ### STEP 1: THE WALK: the Go text returns true, AND WRITES NOTHING THAT WAS THERE: 'Below w.heap.size w w'' (Derived/Below.lean: '.refl', '.alloc', '.drew', '.setCell' at a new block, '.trans'). Open each 'IsRow' by 'rcases' AHEAD of 'go_enter'; part every test ahead of the walk. -/
set_option maxHeartbeats 4000000 in
set_option maxRecDepth 100000 in
theorem walk (a0 : Option Addr) (n0 c0 : Nat) (b0 : List Pr) (w : World) (w0 : IsPrs w a0 n0 c0 b0) :
    Calls Try.prog 9 #[.slice a0 n0 c0] w fun e w' => e = .returned (.bool true) ∧ Below w.heap.size w w' := by
  have HA := Lib.hid (LPA.start w0.2.2.2)
  have HL := Lib.hid w0.1
  have hcap := w0.2.1
  have hmax := w0.2.2.1
  simp only [maxLen] at hmax
  clear w0
  obtain ⟨X, hX⟩ : ∃ X, exListV b0 = X := ⟨_, rfl⟩
  obtain ⟨n1, hn1'⟩ : ∃ n1, X.length = n1 := ⟨_, rfl⟩
  have hn1 : n1 ≤ 1048576 := by rw [← hn1', ← hX]; have := exListV_le b0; omega
  have HI := Lib.hid (And.intro hX hn1')
  clear hX hn1'
  by_cases hn : n0 ≤ 1048576
  · go_enter Try.func9, Try.ntmps9
    go_wp2_with fail
    refine (szExtentS_any _ _ _ _ (by omega)).mono ?_
    rintro e wx ⟨rfl, rfl⟩
    rw [if_pos hn]
    have tv : decide ((1048576 : Int) - n0 < 0) = false := decide_eq_false (by omega)
    go_wp2_with fail
    refine (toExtentS_any _ _ _ _ _ HL.out HA.out.row hn).mono ?_
    rintro e w1 ⟨A1, c1, rfl, hl, ho, hk⟩
    have HR1 := Lib.hid ho.row
    replace HA := Lib.hid (HA.out.keep hk)
    clear hk hl ho
    go_wp2_with fail
    refine (specExtList_val HI.out.1 HI.out.2 HL.out HR1.out hn).mono ?_
    rintro e w2 ⟨A2, c2, rfl, hl, ho, hk⟩
    obtain ⟨loHW, hiHW, hx, qHW, rHW⟩ : ∃ lo hi, VN w A2 n1 c2 X lo hi w2 ∧ w.heap.size ≤ lo ∧ lo ≤ hi := ⟨_, _, VN.made HA.out.2 hl ho hk, HA.out.2.size, hk.size⟩
    have HW := Lib.hid hx
    replace HA := Lib.hid (HA.out.keep hk)
    clear hk hl ho hx
    go_wp2_with fail
    refine (toExtentS_any _ _ _ _ _ HL.out HA.out.row hn).mono ?_
    rintro e w3 ⟨A3, c3, rfl, hl, ho, hk⟩
    obtain ⟨loHX, hiHX, hx, qHX, rHX, dHWHX⟩ : ∃ lo hi, VP w 27 A3 n0 c3 b0 lo hi w3 ∧ w.heap.size ≤ lo ∧ lo ≤ hi ∧ hiHW ≤ lo := ⟨_, _, VP.made HA.out.2 hl ho hk, HA.out.2.size, hk.size, HW.out.2.2.2.1⟩
    have HX := Lib.hid hx
    replace HA := Lib.hid (HA.out.keep hk)
    replace HW := Lib.hid (HW.out.keep hk)
    clear hk ho hx hl
    go_wp2_with fail
    refine (extList_val HI.out.1 HI.out.2 HX.out.2.1 HX.out.row hn).mono ?_
    rintro e w4 ⟨A4, c4, rfl, hl, ho, hk⟩
    obtain ⟨loHG, hiHG, hx, qHG, rHG, dHWHG, dHXHG⟩ : ∃ lo hi, VN w A4 n1 c4 X lo hi w4 ∧ w.heap.size ≤ lo ∧ lo ≤ hi ∧ hiHW ≤ lo ∧ hiHX ≤ lo := ⟨_, _, VN.made HA.out.2 hl ho hk, HA.out.2.size, hk.size, HW.out.2.2.2.1, HX.out.2.2.2.1⟩
    have HG := Lib.hid hx
    replace HA := Lib.hid (HA.out.keep hk)
    replace HW := Lib.hid (HW.out.keep hk)
    replace HX := Lib.hid (HX.out.keep hk)
    clear hk hl ho hx
    go_wp2_with fail
    refine (eqInts_val (V := true) (decide_eq_true rfl) HG.out.2.1 HW.out.2.1 HG.out.row HW.out.row hn1 hn1).mono ?_
    rintro e w5 ⟨rfl, hk⟩
    replace HA := Lib.hid (HA.out.keep hk)
    replace HW := Lib.hid (HW.out.keep hk)
    replace HX := Lib.hid (HX.out.keep hk)
    replace HG := Lib.hid (HG.out.keep hk)
    clear hk
    go_wp2_with fail
    refine (toExtentS_any _ _ _ _ _ HL.out HA.out.row hn).mono ?_
    rintro e w6 ⟨A6, c6, rfl, hl, ho, hk⟩
    have HR2 := Lib.hid ho.row
    replace HA := Lib.hid (HA.out.keep hk)
    replace HW := Lib.hid (HW.out.keep hk)
    replace HX := Lib.hid (HX.out.keep hk)
    replace HG := Lib.hid (HG.out.keep hk)
    clear hk hl ho
    go_wp2_with fail
    refine (eqExtentS_same _ _ _ _ _ _ _ HX.out.2.1 HX.out.row HR2.out hn).mono ?_
    rintro e w7 ⟨rfl, hk⟩
    replace HA := Lib.hid (HA.out.keep hk)
    replace HW := Lib.hid (HW.out.keep hk)
    replace HX := Lib.hid (HX.out.keep hk)
    replace HG := Lib.hid (HG.out.keep hk)
    clear hk
    obtain ⟨vX, hvX⟩ : ∃ v : Int, v = ((1 + 2 * n0 : Nat) : Int) := ⟨_, rfl⟩
    have tX : decide (vX < 0) = false := decide_eq_false (by omega)
    have HVX := Lib.hid hvX
    clear hvX
    go_wp2_with fail
    refine (pmarkExtent_val HVX.out HX.out hn).mono ?_
    rintro e w8 ⟨rfl, ho, hk⟩
    replace HA := Lib.hid (HA.out.marked qHX hk)
    replace HW := Lib.hid (HW.out.marked (.inl dHWHX) qHX hk)
    replace HG := Lib.hid (HG.out.marked (.inr dHXHG) qHX hk)
    replace HX := Lib.hid (HX.out.self ho hk)
    clear ho hk
    go_wp2_with fail
    refine (eqInts_val (V := true) (decide_eq_true rfl) HG.out.2.1 HW.out.2.1 HG.out.row HW.out.row hn1 hn1).mono ?_
    rintro e w9 ⟨rfl, hk⟩
    replace HA := Lib.hid (HA.out.keep hk)
    replace HW := Lib.hid (HW.out.keep hk)
    replace HX := Lib.hid (HX.out.keep hk)
    replace HG := Lib.hid (HG.out.keep hk)
    clear hk
    obtain ⟨vG, hvG⟩ : ∃ v : Int, v = ((1 + n1 : Nat) : Int) := ⟨_, rfl⟩
    have tG : decide (vG < 0) = false := decide_eq_false (by omega)
    have tGG : (vG != vG) = false := by simp
    have HVG := Lib.hid hvG
    clear hvG
    go_wp2_with fail
    refine (markInts_val HVG.out HG.out hn1).mono ?_
    rintro e w10 ⟨rfl, ho, hk⟩
    replace HA := Lib.hid (HA.out.marked qHG hk)
    replace HW := Lib.hid (HW.out.marked (.inl dHWHG) qHG hk)
    replace HX := Lib.hid (HX.out.marked (.inl dHXHG) qHG hk)
    replace HG := Lib.hid (HG.out.self ho hk)
    clear ho hk
    go_wp2_with fail
    refine (heldInts_val HVG.out HG.out hn1).mono ?_
    rintro e w11 ⟨rfl, hk⟩
    replace HA := Lib.hid (HA.out.keep hk)
    replace HW := Lib.hid (HW.out.keep hk)
    replace HX := Lib.hid (HX.out.keep hk)
    replace HG := Lib.hid (HG.out.keep hk)
    clear hk
    go_wp2_with fail
    refine (toExtentS_any _ _ _ _ _ HL.out HA.out.row hn).mono ?_
    rintro e w12 ⟨A12, c12, rfl, hl, ho, hk⟩
    have HR3 := Lib.hid ho.row
    replace HA := Lib.hid (HA.out.keep hk)
    replace HW := Lib.hid (HW.out.keep hk)
    replace HX := Lib.hid (HX.out.keep hk)
    replace HG := Lib.hid (HG.out.keep hk)
    clear hk hl ho
    go_wp2_with fail
    refine (extList_val HI.out.1 HI.out.2 HL.out HR3.out hn).mono ?_
    rintro e w13 ⟨A13, c13, rfl, hl, ho, hk⟩
    obtain ⟨loHH, hiHH, hx, qHH, rHH, dHWHH, dHXHH, dHGHH⟩ : ∃ lo hi, VN w A13 n1 c13 X lo hi w13 ∧ w.heap.size ≤ lo ∧ lo ≤ hi ∧ hiHW ≤ lo ∧ hiHX ≤ lo ∧ hiHG ≤ lo := ⟨_, _, VN.made HA.out.2 hl ho hk, HA.out.2.size, hk.size, HW.out.2.2.2.1, HX.out.2.2.2.1, HG.out.2.2.2.1⟩
    have HH := Lib.hid hx
    replace HA := Lib.hid (HA.out.keep hk)
    replace HW := Lib.hid (HW.out.keep hk)
    replace HX := Lib.hid (HX.out.keep hk)
    replace HG := Lib.hid (HG.out.keep hk)
    clear hk hl ho hx
    go_wp2_with fail
    refine (eqInts_val (V := true) (decide_eq_true rfl) HH.out.2.1 HW.out.2.1 HH.out.row HW.out.row hn1 hn1).mono ?_
    rintro e w14 ⟨rfl, hk⟩
    replace HA := Lib.hid (HA.out.keep hk)
    replace HW := Lib.hid (HW.out.keep hk)
    replace HX := Lib.hid (HX.out.keep hk)
    replace HG := Lib.hid (HG.out.keep hk)
    replace HH := Lib.hid (HH.out.keep hk)
    clear hk
    go_wp2_with fail
    refine (heldInts_val HVG.out HG.out hn1).mono ?_
    rintro e w15 ⟨rfl, hk⟩
    replace HA := Lib.hid (HA.out.keep hk)
    replace HW := Lib.hid (HW.out.keep hk)
    replace HX := Lib.hid (HX.out.keep hk)
    replace HG := Lib.hid (HG.out.keep hk)
    replace HH := Lib.hid (HH.out.keep hk)
    clear hk
    go_wp2
    go_ret
    exact ⟨rfl, grown_below HA.out.2⟩
  · go_enter Try.func9, Try.ntmps9
    go_wp2_with fail
    refine (szExtentS_any _ _ _ _ (by omega)).mono ?_
    rintro e w1 ⟨rfl, rfl⟩
    rw [if_neg hn]
    go_wp2
    go_ret
    exact ⟨rfl, grown_below HA.out.2⟩

/-! ### THE ROW's STEP: WRITTEN OUT: LEAVE IT -/
set_option maxRecDepth 100000 in
theorem lifted (os : Os) (started : os.Started) (H : Type) (enc : TypeId × Value → H) :
    ReturnsInHanded {} Try.checked os 9 .any (Rows.fnExactExtentsListSpec.pre6 enc Try.prog Try.f9 Rows.fnExactExtentsListRow.domain false) (Rows.fnExactExtentsListSpec.post enc Try.prog Try.f9 false true false false) := by
  refine returnsInHanded_of_change (C := Try.checked) own started (by kernel_rfl) Try.func9
    (ChangeSpec.witness6 (enc := enc) (C := Try.checked) false ⟨#[], #[.slice none 0 0], []⟩ 8 (by kernel_rfl) (by kernel_rfl) (by kernel_rfl) (by kernel_rfl)) ?_
  intro W base args ds gs before hval0 hW hcnd _
  have hval : ∀ (j : Nat) t v, Try.f9.params[j]? = some t → args[j]? = some v → Value.okWide Try.prog W .any base t v := hval0
  have hW' := hW
  obtain ⟨p, q, hA0, hV, rfl, hfz, hnd⟩ := hW
  have hA : DataW.TrodAll enc Try.prog W 0 (fun _ => true) true Try.f9.params.toList args.toList ds p := hA0
  rw [Try.params9] at hA hval
  obtain ⟨v0, vs0, d0, ds0, p0, q0, hargs, rfl, rfl, h0, r0⟩ := trodAll_cons hA
  obtain ⟨rfl, rfl, rfl⟩ := trodAll_nil r0
  obtain rfl : args = #[v0] := by cases args; simp_all
  obtain ⟨rfl, rfl⟩ := trodVars_none hV
  have k0 := h0
  have lt0 : ∀ x ∈ p0, x.block < W.heap.size := by obtain ⟨m, hm⟩ := k0; exact DataW.trod_lt m _ _ _ hm
  obtain ⟨a0, n0, c0, rfl⟩ := okWide_slice Try.underlying40 (hval 0 40 v0 rfl rfl)
  obtain ⟨b0, w0⟩ : ∃ bs, IsPrs W a0 n0 c0 bs := by
    obtain ⟨fuel, hf⟩ := h0
    obtain ⟨A, n, c, bs, e, hw⟩ := openPrs57 (v := .slice a0 n0 c0) hf
    injection e with e1 e2 e3
    subst e1; subst e2; subst e3
    exact ⟨bs, hw⟩
  clear hA0 hval0
  refine (walk a0 n0 c0 b0 W w0).mono fun e W' ⟨he, bel⟩ => ?_
  subst he
  exact ⟨_, rfl, _, _, _, [], _, [], hW', trodAll_mk1 (shut_bool Try.underlying4 _), (trodAll_cons_mk (Below.trod laidOut (by kernel_rfl) (of_decide_eq_true (by kernel_rfl)) k0 bel lt0) trodAll_mk0), rfl, bel.frame _, fun h => by cases h⟩

theorem over : Rows.fnExactExtentsListRow.holds Try.pinned (OpenSpec.ofChange Rows.fnExactExtentsListSpec) :=
  OpenClaim.holds_of_wide 9 Try.f9 rfl rfl rfl rfl rfl rfl rfl ⟨rfl, rfl, rfl, rfl, rfl⟩ rfl rfl rfl rfl rfl (by kernel_rfl) Try.func9 (by kernel_rfl)
    (of_decide_eq_true (by kernel_rfl)) (by unfold Func.isWrapper; first | (rw [if_pos (by decide +kernel)]; kernel_rfl) | (rw [if_neg (by decide +kernel)]; exact ⟨rfl, rfl⟩))
    (fun os started H enc _ => lifted os started H enc)

/-- ████ THE STATEMENT ████ -/
theorem proved : Rows.FnExactExtentsListSaid := over
#print axioms proved
end Go.Proofs.Ytpfmjagbnfcocaa.fnExactExtentsList
