/- UnpackSmall answers as its model for every number, value by value, and each answer lies in memory of its own: proved.
   Conditions: none beyond the row's own reading of the input. The frame was written by the guide's proof-skeleton; the walk is ours. -/
import Derived.Test.YthohleidjgeaeaaPairLaw
import Derived.Test.YthohleidjgeaeaaSmalls
import Derived.Test.YthohleidjgeaeaaRows
import Derived.WalkKit
import Derived.ProofKit
import Derived.OpenShut
import Derived.ShutString
import Derived.ChangeOld
import Derived.Below
namespace Go.Proofs.Ythohleidjgeaeaa.fnExactUnpackSmall
open Go.ChangeShapes Go.WideShapes Go.ChangeAt Go.RowKit
open Go.ChangeMaps (open_string shut_string)
set_option linter.unusedVariables false

theorem own : ownKnob Try.prog.godebug = none := by kernel_rfl
theorem laidOut : laidOutB Try.prog = true := by kernel_rfl

/-- WHAT THE WALK IS TOLD OF A SLICE OF INTEGERS THAT CAME IN: it is nil; or it leads to a row of 'cap' cells, the numbers 'zs' (the first 'len' are its elements, the rest its spare room), each fitting its kind. -/
def IsRow (k : IntKind) (w : World) (a : Option Addr) (len cap : Nat) (zs : List Int) : Prop :=
  (a = none ∧ len = 0 ∧ cap = 0 ∧ zs = []) ∨
  ∃ x, a = some x ∧ len ≤ cap ∧ cap ≤ maxLen ∧ zs.length = cap ∧ (∀ i, i < zs.length → w.cell? (x.add i) = some (.int k (zs.getD i 0))) ∧ ∀ n ∈ zs, (Lit.int k n).wf = true

/-! ### STEP 1: THE WALK: the Go text returns true, AND WRITES NOTHING THAT WAS THERE: 'Below w.heap.size w w'' (Derived/Below.lean: '.refl', '.alloc', '.drew', '.setCell' at a new block, '.trans'). Open each 'IsRow' by 'rcases' AHEAD of 'go_enter'; part every test ahead of the walk. -/
set_option maxHeartbeats 4000000 in
set_option maxRecDepth 100000 in
theorem walk (a0 : Int) (w : World) (w0 : (Lit.int .i64 a0).wf = true) :
    Calls Try.prog 8 #[.int .i64 a0] w fun e w' => e = .returned (.bool true) ∧ Below w.heap.size w w' := by
  have HA := Lib.hid (LIA.start (w := w) (A := none) (ys := []) VRow.nil)
  have hwf : -9223372036854775808 ≤ a0 ∧ a0 ≤ 9223372036854775807 := by simpa [Lit.wf, IntKind.min, IntKind.signed, IntKind.bits] using w0
  clear w0
  obtain ⟨X, r, hX⟩ : ∃ X r, smOut a0 = (X, r) := ⟨_, _, rfl⟩
  obtain ⟨n1, hn1'⟩ : ∃ n1, X.length = n1 := ⟨_, rfl⟩
  have hcase := smOut_cases hX
  have hn1 : n1 ≤ 1048576 := by rw [← hn1']; have := hcase.1; omega
  have HI := Lib.hid (And.intro hX hn1')
  have trr : (r != r) = false := by simp
  clear hX hn1'
  clear hcase
  go_enter Try.func8, Try.ntmps8
  go_wp2_with fail
  refine (specUnpack_val HI.out.1 HI.out.2 hwf).mono ?_
  rintro e w1 ⟨A1, c1, rfl, hl, ho, hk⟩
  obtain ⟨loHW, hiHW, hx, qHW, rHW⟩ : ∃ lo hi, VN w A1 n1 c1 X lo hi w1 ∧ w.heap.size ≤ lo ∧ lo ≤ hi := ⟨_, _, VN.made HA.out.2 hl ho hk, HA.out.2.size, hk.size⟩
  have HW := Lib.hid hx
  replace HA := Lib.hid (HA.out.keep hk)
  clear hk hl ho hx
  go_wp2_with fail
  refine (unpack_val HI.out.1 HI.out.2 hwf).mono ?_
  rintro e w2 ⟨A2, c2, rfl, hl, ho, hk⟩
  obtain ⟨loHG, hiHG, hx, qHG, rHG, dHWHG⟩ : ∃ lo hi, VN w A2 n1 c2 X lo hi w2 ∧ w.heap.size ≤ lo ∧ lo ≤ hi ∧ hiHW ≤ lo := ⟨_, _, VN.made HA.out.2 hl ho hk, HA.out.2.size, hk.size, HW.out.2.2.2.1⟩
  have HG := Lib.hid hx
  replace HA := Lib.hid (HA.out.keep hk)
  replace HW := Lib.hid (HW.out.keep hk)
  clear hk hl ho hx
  go_wp2_with fail
  refine (eqInts_val (V := true) (decide_eq_true rfl) HG.out.2.1 HW.out.2.1 HG.out.row HW.out.row hn1 hn1).mono ?_
  rintro e w3 ⟨rfl, hk⟩
  replace HA := Lib.hid (HA.out.keep hk)
  replace HW := Lib.hid (HW.out.keep hk)
  replace HG := Lib.hid (HG.out.keep hk)
  clear hk
  obtain ⟨vG, hvG⟩ : ∃ v : Int, v = ((1 + n1 : Nat) : Int) := ⟨_, rfl⟩
  have tG : decide (vG < 0) = false := decide_eq_false (by omega)
  have tGG : (vG != vG) = false := by simp
  have HVG := Lib.hid hvG
  clear hvG
  go_wp2_with fail
  refine (markInts_val HVG.out HG.out hn1).mono ?_
  rintro e w4 ⟨rfl, ho, hk⟩
  replace HA := Lib.hid (HA.out.marked qHG hk)
  replace HW := Lib.hid (HW.out.marked (.inl dHWHG) qHG hk)
  replace HG := Lib.hid (HG.out.self ho hk)
  clear ho hk
  go_wp2_with fail
  refine (heldInts_val HVG.out HG.out hn1).mono ?_
  rintro e w5 ⟨rfl, hk⟩
  replace HA := Lib.hid (HA.out.keep hk)
  replace HW := Lib.hid (HW.out.keep hk)
  replace HG := Lib.hid (HG.out.keep hk)
  clear hk
  go_wp2_with fail
  refine (unpack_val HI.out.1 HI.out.2 hwf).mono ?_
  rintro e w6 ⟨A6, c6, rfl, hl, ho, hk⟩
  obtain ⟨loHH, hiHH, hx, qHH, rHH, dHWHH, dHGHH⟩ : ∃ lo hi, VN w A6 n1 c6 X lo hi w6 ∧ w.heap.size ≤ lo ∧ lo ≤ hi ∧ hiHW ≤ lo ∧ hiHG ≤ lo := ⟨_, _, VN.made HA.out.2 hl ho hk, HA.out.2.size, hk.size, HW.out.2.2.2.1, HG.out.2.2.2.1⟩
  have HH := Lib.hid hx
  replace HA := Lib.hid (HA.out.keep hk)
  replace HW := Lib.hid (HW.out.keep hk)
  replace HG := Lib.hid (HG.out.keep hk)
  clear hk hl ho hx
  go_wp2_with fail
  refine (eqInts_val (V := true) (decide_eq_true rfl) HH.out.2.1 HW.out.2.1 HH.out.row HW.out.row hn1 hn1).mono ?_
  rintro e w7 ⟨rfl, hk⟩
  replace HA := Lib.hid (HA.out.keep hk)
  replace HW := Lib.hid (HW.out.keep hk)
  replace HG := Lib.hid (HG.out.keep hk)
  replace HH := Lib.hid (HH.out.keep hk)
  clear hk
  go_wp2_with fail
  refine (heldInts_val HVG.out HG.out hn1).mono ?_
  rintro e w8 ⟨rfl, hk⟩
  replace HA := Lib.hid (HA.out.keep hk)
  replace HW := Lib.hid (HW.out.keep hk)
  replace HG := Lib.hid (HG.out.keep hk)
  replace HH := Lib.hid (HH.out.keep hk)
  clear hk
  go_wp2
  go_ret
  exact ⟨rfl, grown_below HA.out.2⟩

/-! ### THE ROW's STEP: WRITTEN OUT: LEAVE IT -/
set_option maxRecDepth 100000 in
theorem lifted (os : Os) (started : os.Started) (H : Type) (enc : TypeId × Value → H) :
    ReturnsInHanded {} Try.checked os 8 .any (Rows.fnExactUnpackSmallSpec.pre6 enc Try.prog Try.f8 Rows.fnExactUnpackSmallRow.domain false) (Rows.fnExactUnpackSmallSpec.post enc Try.prog Try.f8 false true false false) := by
  refine returnsInHanded_of_change (C := Try.checked) own started (by kernel_rfl) Try.func8
    (ChangeSpec.witness6 (enc := enc) (C := Try.checked) false ⟨#[], #[.int .i64 0], []⟩ 8 (by kernel_rfl) (by kernel_rfl) (by kernel_rfl) (by kernel_rfl)) ?_
  intro W base args ds gs before hval0 hW hcnd _
  have hval : ∀ (j : Nat) t v, Try.f8.params[j]? = some t → args[j]? = some v → Value.okWide Try.prog W .any base t v := hval0
  have hW' := hW
  obtain ⟨p, q, hA0, hV, rfl, hfz, hnd⟩ := hW
  have hA : DataW.TrodAll enc Try.prog W 0 (fun _ => true) true Try.f8.params.toList args.toList ds p := hA0
  rw [Try.params8] at hA hval
  obtain ⟨v0, vs0, d0, ds0, p0, q0, hargs, rfl, rfl, h0, r0⟩ := trodAll_cons hA
  obtain ⟨rfl, rfl, rfl⟩ := trodAll_nil r0
  obtain rfl : args = #[v0] := by cases args; simp_all
  obtain ⟨rfl, rfl⟩ := trodVars_none hV
  obtain ⟨a0, rfl, rfl, rfl, w0⟩ := open_int Try.underlying3 (hval 0 3 v0 rfl rfl) h0
  clear hA0 hval0
  refine (walk a0 W w0).mono fun e W' ⟨he, bel⟩ => ?_
  subst he
  exact ⟨_, rfl, _, _, _, [], _, [], hW', trodAll_mk1 (shut_bool Try.underlying4 _), (trodAll_cons_mk (shut_int Try.underlying3 w0) trodAll_mk0), rfl, bel.frame _, fun h => by cases h⟩

theorem over : Rows.fnExactUnpackSmallRow.holds Try.pinned (OpenSpec.ofChange Rows.fnExactUnpackSmallSpec) :=
  OpenClaim.holds_of_wide 8 Try.f8 rfl rfl rfl rfl rfl rfl rfl ⟨rfl, rfl, rfl, rfl, rfl⟩ rfl rfl rfl rfl rfl (by kernel_rfl) Try.func8 (by kernel_rfl)
    (of_decide_eq_true (by kernel_rfl)) (by unfold Func.isWrapper; first | (rw [if_pos (by decide +kernel)]; kernel_rfl) | (rw [if_neg (by decide +kernel)]; exact ⟨rfl, rfl⟩))
    (fun os started H enc _ => lifted os started H enc)

/-- ████ THE STATEMENT ████ -/
theorem proved : Rows.FnExactUnpackSmallSaid := over
#print axioms proved
end Go.Proofs.Ythohleidjgeaeaa.fnExactUnpackSmall
