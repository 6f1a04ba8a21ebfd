/- HeatRun answers as its model for every list of numbers, and leaves its argument as it was: proved.
   Conditions: none beyond the row's own reading of the input. The frame was written by the guide's proof-skeleton; the walk is ours. -/
import Derived.Test.YtofolifmgpgkoaaAgg
import Derived.Test.YtofolifmgpgkoaaPairLaw
import Derived.Test.YtofolifmgpgkoaaHeats
import Derived.Test.YtofolifmgpgkoaaRows
import Derived.WalkKit
import Derived.ProofKit
import Derived.OpenShut
import Derived.ShutString
import Derived.ChangeOld
import Derived.Below
namespace Go.Proofs.Ytofolifmgpgkoaa.fnExactHeatRun
open Go.ChangeShapes Go.WideShapes Go.ChangeAt Go.RowKit
open Go.ChangeMaps (open_string shut_string)
set_option linter.unusedVariables false

theorem own : ownKnob Try.prog.godebug = none := by kernel_rfl
theorem laidOut : laidOutB Try.prog = true := by kernel_rfl

/-- WHAT THE WALK IS TOLD OF A SLICE OF INTEGERS THAT CAME IN: it is nil; or it leads to a row of 'cap' cells, the numbers 'zs' (the first 'len' are its elements, the rest its spare room), each fitting its kind. -/
def IsRow (k : IntKind) (w : World) (a : Option Addr) (len cap : Nat) (zs : List Int) : Prop :=
  (a = none ∧ len = 0 ∧ cap = 0 ∧ zs = []) ∨
  ∃ x, a = some x ∧ len ≤ cap ∧ cap ≤ maxLen ∧ zs.length = cap ∧ (∀ i, i < zs.length → w.cell? (x.add i) = some (.int k (zs.getD i 0))) ∧ ∀ n ∈ zs, (Lit.int k n).wf = true

/-! ### STEP 1: THE WALK: the Go text returns true, AND WRITES NOTHING THAT WAS THERE: 'Below w.heap.size w w'' (Derived/Below.lean: '.refl', '.alloc', '.drew', '.setCell' at a new block, '.trans'). Open each 'IsRow' by 'rcases' AHEAD of 'go_enter'; part every test ahead of the walk. -/
set_option maxHeartbeats 4000000 in
set_option maxRecDepth 100000 in
theorem walk (a0 : Option Addr) (len0 cap0 : Nat) (z0 : List Int) (w : World) (w0 : IsRow .i64 w a0 len0 cap0 z0) :
    Calls Try.prog 9 #[.slice a0 len0 cap0] w fun e w' => e = .returned (.bool true) ∧ Below w.heap.size w w' := by
  obtain ⟨xs, hl0, hcap, hmax, hrow, hwf⟩ := ints_of w0
  have HA := Lib.hid (LIA.start hrow)
  have HL := Lib.hid hl0
  have HW0 := Lib.hid hwf
  clear w0 hl0 hrow hwf
  obtain ⟨V, hV⟩ : ∃ V, runV xs = V := ⟨_, rfl⟩
  have HV := Lib.hid hV
  have tVV : (V != V) = false := by simp
  clear hV
  by_cases hn : len0 ≤ 1048576
  · go_enter Try.func9, Try.ntmps9
    go_wp2_with fail
    refine (toInts_any _ _ _ _ _ HL.out HA.out.row hn).mono ?_
    rintro e w1 ⟨g1, rfl, ho, hk⟩
    have HR1 := Lib.hid (VOwn.row ho)
    replace HA := Lib.hid (HA.out.keep hk)
    clear hk ho
    go_wp2_with fail
    refine (specRun_val HV.out HL.out HR1.out hn).mono ?_
    rintro e w2 ⟨rfl, hk⟩
    replace HA := Lib.hid (HA.out.keep hk)
    clear hk
    go_wp2_with fail
    refine (toInts_any _ _ _ _ _ HL.out HA.out.row hn).mono ?_
    rintro e w3 ⟨g3, rfl, ho, hk⟩
    obtain ⟨loHX, hiHX, hx, qHX, rHX⟩ : ∃ lo hi, VN w (some ⟨g3, 0, none⟩) len0 len0 xs lo hi w3 ∧ w.heap.size ≤ lo ∧ lo ≤ hi := ⟨_, _, VN.made HA.out.2 HL.out ho hk, HA.out.2.size, hk.size⟩
    have HX := Lib.hid hx
    replace HA := Lib.hid (HA.out.keep hk)
    clear hk ho hx
    go_wp2_with fail
    refine (heatRun_val HV.out HX.out.2.1 HX.out.row hn).mono ?_
    rintro e w4 ⟨rfl, hk⟩
    replace HA := Lib.hid (HA.out.keep hk)
    replace HX := Lib.hid (HX.out.keep hk)
    clear hk
    go_wp2_with fail
    refine (toInts_any _ _ _ _ _ HL.out HA.out.row hn).mono ?_
    rintro e w5 ⟨g5, rfl, ho, hk⟩
    have HR2 := Lib.hid (VOwn.row ho)
    replace HA := Lib.hid (HA.out.keep hk)
    replace HX := Lib.hid (HX.out.keep hk)
    clear hk ho
    go_wp2_with fail
    refine (eqInts_val (V := true) (decide_eq_true rfl) HX.out.2.1 HL.out HX.out.row HR2.out hn hn).mono ?_
    rintro e w6 ⟨rfl, hk⟩
    replace HA := Lib.hid (HA.out.keep hk)
    replace HX := Lib.hid (HX.out.keep hk)
    clear hk
    go_wp2
    go_ret
    exact ⟨rfl, grown_below HA.out.2⟩
  · go_enter Try.func9, Try.ntmps9
    go_wp2
    go_ret
    exact ⟨rfl, grown_below HA.out.2⟩

/-! ### THE ROW's STEP: WRITTEN OUT: LEAVE IT -/
set_option maxRecDepth 100000 in
theorem lifted (os : Os) (started : os.Started) (H : Type) (enc : TypeId × Value → H) :
    ReturnsInHanded {} Try.checked os 9 .any (Rows.fnExactHeatRunSpec.pre6 enc Try.prog Try.f9 Rows.fnExactHeatRunRow.domain false) (Rows.fnExactHeatRunSpec.post enc Try.prog Try.f9 false true false false) := by
  refine returnsInHanded_of_change (C := Try.checked) own started (by kernel_rfl) Try.func9
    (ChangeSpec.witness6 (enc := enc) (C := Try.checked) false ⟨#[], #[.slice none 0 0], []⟩ 8 (by kernel_rfl) (by kernel_rfl) (by kernel_rfl) (by kernel_rfl)) ?_
  intro W base args ds gs before hval0 hW hcnd _
  have hval : ∀ (j : Nat) t v, Try.f9.params[j]? = some t → args[j]? = some v → Value.okWide Try.prog W .any base t v := hval0
  have hW' := hW
  obtain ⟨p, q, hA0, hV, rfl, hfz, hnd⟩ := hW
  have hA : DataW.TrodAll enc Try.prog W 0 (fun _ => true) true Try.f9.params.toList args.toList ds p := hA0
  rw [Try.params9] at hA hval
  obtain ⟨v0, vs0, d0, ds0, p0, q0, hargs, rfl, rfl, h0, r0⟩ := trodAll_cons hA
  obtain ⟨rfl, rfl, rfl⟩ := trodAll_nil r0
  obtain rfl : args = #[v0] := by cases args; simp_all
  obtain ⟨rfl, rfl⟩ := trodVars_none hV
  obtain ⟨a0, len0, cap0, rfl⟩ := okWide_slice Try.underlying30 (hval 0 30 v0 rfl rfl)
  have k0 := h0
  have lt0 : ∀ x ∈ p0, x.block < W.heap.size := by obtain ⟨m, hm⟩ := k0; exact DataW.trod_lt m _ _ _ hm
  obtain ⟨z0, w0⟩ : ∃ zs, IsRow .i64 W a0 len0 cap0 zs := by
    obtain ⟨fuel, hf⟩ := h0
    rcases open_ints Try.underlying30 Try.underlying3 (by kernel_rfl) hf with ⟨hcs, _⟩ | ⟨x, l, c, zs, hcs, _, hl, hm, hz, _, hcell, hwz⟩
    · simp [Value.cells] at hcs
      obtain ⟨rfl, rfl, rfl⟩ := hcs
      exact ⟨[], .inl ⟨rfl, rfl, rfl, rfl⟩⟩
    · simp [Value.cells] at hcs
      obtain ⟨rfl, rfl, rfl⟩ := hcs
      exact ⟨zs, .inr ⟨_, rfl, hl, hm, by simpa using hz, hcell, hwz⟩⟩
  clear hA0 hval0
  refine (walk a0 len0 cap0 z0 W w0).mono fun e W' ⟨he, bel⟩ => ?_
  subst he
  exact ⟨_, rfl, _, _, _, [], _, [], hW', trodAll_mk1 (shut_bool Try.underlying4 _), (trodAll_cons_mk (Below.trod laidOut (by kernel_rfl) (of_decide_eq_true (by kernel_rfl)) k0 bel lt0) trodAll_mk0), rfl, bel.frame _, fun h => by cases h⟩

theorem over : Rows.fnExactHeatRunRow.holds Try.pinned (OpenSpec.ofChange Rows.fnExactHeatRunSpec) :=
  OpenClaim.holds_of_wide 9 Try.f9 rfl rfl rfl rfl rfl rfl rfl ⟨rfl, rfl, rfl, rfl, rfl⟩ rfl rfl rfl rfl rfl (by kernel_rfl) Try.func9 (by kernel_rfl)
    (of_decide_eq_true (by kernel_rfl)) (by unfold Func.isWrapper; first | (rw [if_pos (by decide +kernel)]; kernel_rfl) | (rw [if_neg (by decide +kernel)]; exact ⟨rfl, rfl⟩))
    (fun os started H enc _ => lifted os started H enc)

/-- ████ THE STATEMENT ████ -/
theorem proved : Rows.FnExactHeatRunSaid := over
#print axioms proved
end Go.Proofs.Ytofolifmgpgkoaa.fnExactHeatRun
