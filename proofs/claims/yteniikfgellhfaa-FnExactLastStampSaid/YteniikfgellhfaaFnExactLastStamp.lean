/- LastStamp answers as its model for every device and leaves it as it was: proved.
   Conditions: none beyond the row's own reading of the input. The frame was written by the guide's proof-skeleton; the walk is ours. -/
import Derived.Test.YteniikfgellhfaaAgg
import Derived.Test.YteniikfgellhfaaAggRows
import Derived.Test.YteniikfgellhfaaExactDev3
import Derived.Test.YteniikfgellhfaaRollLast
import Derived.Test.YteniikfgellhfaaRows
import Derived.WalkKit
import Derived.ProofKit
import Derived.OpenShut
import Derived.ShutString
import Derived.ChangeOld
import Derived.Below
namespace Go.Proofs.Yteniikfgellhfaa.fnExactLastStamp
open Go.ChangeShapes Go.WideShapes Go.ChangeAt Go.RowKit
open Go.ChangeMaps (open_string shut_string)
set_option linter.unusedVariables false

theorem own : ownKnob Try.prog.godebug = none := by kernel_rfl
theorem laidOut : laidOutB Try.prog = true := by kernel_rfl

/-- WHAT THE WALK IS TOLD OF A SLICE OF INTEGERS THAT CAME IN: it is nil; or it leads to a row of 'cap' cells, the numbers 'zs' (the first 'len' are its elements, the rest its spare room), each fitting its kind. -/
def IsRow (k : IntKind) (w : World) (a : Option Addr) (len cap : Nat) (zs : List Int) : Prop :=
  (a = none ∧ len = 0 ∧ cap = 0 ∧ zs = []) ∨
  ∃ x, a = some x ∧ len ≤ cap ∧ cap ≤ maxLen ∧ zs.length = cap ∧ (∀ i, i < zs.length → w.cell? (x.add i) = some (.int k (zs.getD i 0))) ∧ ∀ n ∈ zs, (Lit.int k n).wf = true

/-! ### STEP 1: THE WALK: the Go text returns true, AND WRITES NOTHING THAT WAS THERE: 'Below w.heap.size w w'' (Derived/Below.lean: '.refl', '.alloc', '.drew', '.setCell' at a new block, '.trans'). Open each 'IsRow' by 'rcases' AHEAD of 'go_enter'; part every test ahead of the walk. -/
set_option maxHeartbeats 1000000 in
theorem walk (a0 : Option Addr) (n0 c0 : Nat) (b0 : List Bk) (w : World) (w0 : IsBlocks w a0 n0 c0 b0) :
    Calls Try.prog 9 #[.slice a0 n0 c0] w fun e w' => e = .returned (.bool true) ∧ Below w.heap.size w w' := by
  have HA := Lib.hid (VD.arg w0)
  have HZ := Lib.hid w0
  have HL := Lib.hid w0.1
  clear w0
  go_enter Try.func9, Try.ntmps9
  go_wp2_with fail
  refine (szBlockS_any _ _ _ _ _ HZ.out).mono ?_
  rintro e w1 ⟨v, rfl, hk, hv⟩
  replace HA := Lib.hid (HA.out.keep hk)
  rcases hv with rfl | ⟨hv0, hn, ht⟩
  · clear hk
    go_wp2
    go_ret
    exact ⟨rfl, grown_below HA.out.2⟩
  · obtain ⟨V, hV0⟩ : ∃ V, lastD b0 = V := ⟨_, rfl⟩
    have HV := Lib.hid hV0
    clear hV0
    have tv : decide (v < 0) = false := decide_eq_false (by omega)
    have HP := Lib.hid (And.intro (small_tot ht) ht)
    clear hk ht
    go_wp2_with fail
    clear tv
    refine (toBlockS_any _ _ _ _ _ HL.out HA.out.row hn HP.out.1).mono ?_
    rintro e w2 ⟨A2, c2, cs2, rfl, hl, hs, ho, hk⟩
    replace HA := Lib.hid (HA.out.keep hk)
    have HR2 := Lib.hid (And.intro hl (And.intro hs ho.row))
    clear hk hl hs ho
    go_wp2_with fail
    refine (specLast_val ((lastD_is HR2.out.2.1).trans HV.out) HR2.out.1 HR2.out.2.2 hn (small_is HR2.out.2.1 HP.out.1)).mono ?_
    rintro e w3 ⟨rfl, hk⟩
    replace HA := Lib.hid (HA.out.keep hk)
    clear hk
    go_wp2_with fail
    refine (toBlockS_any _ _ _ _ _ HL.out HA.out.row hn HP.out.1).mono ?_
    rintro e w4 ⟨A3, c3, cs3, rfl, hl, hs, ho, hk⟩
    obtain ⟨loHX, hiHX, hx, qHX, rHX⟩ : ∃ lo hi, VX w A3 n0 c3 cs3 lo hi w4 ∧ w.heap.size ≤ lo ∧ lo ≤ hi := ⟨_, _, VX.made HA.out.2 hl ho hk, HA.out.2.size, hk.size⟩
    replace HA := Lib.hid (HA.out.keep hk)
    have HX := Lib.hid hx
    have SHX := Lib.hid hs
    clear hk hl hs ho hx
    go_wp2_with fail
    refine (last_val ((lastD_is SHX.out).trans HV.out) HX.out.2.1 HX.out.row hn (small_is SHX.out HP.out.1)).mono ?_
    rintro e w5 ⟨rfl, hk⟩
    replace HA := Lib.hid (HA.out.keep hk)
    replace HX := Lib.hid (HX.out.keep hk)
    clear hk
    go_wp2_with fail
    refine (toBlockS_any _ _ _ _ _ HL.out HA.out.row hn HP.out.1).mono ?_
    rintro e w6 ⟨A4, c4, cs4, rfl, hl, hs, ho, hk⟩
    replace HA := Lib.hid (HA.out.keep hk)
    replace HX := Lib.hid (HX.out.keep hk)
    have HR4 := Lib.hid (And.intro hl (And.intro hs ho.row))
    clear hk hl hs ho
    go_wp2_with fail
    refine (eqBlockS_same _ _ _ _ _ _ _ _ HX.out.2.1 (SHX.out.trans HR4.out.2.1.symm) HX.out.row HR4.out.2.2 hn (small_is SHX.out HP.out.1)).mono ?_
    rintro e w7 ⟨rfl, hk⟩
    replace HA := Lib.hid (HA.out.keep hk)
    replace HX := Lib.hid (HX.out.keep hk)
    clear hk
    go_wp2
    go_ret
    exact ⟨rfl, grown_below HA.out.2⟩

/-! ### THE ROW's STEP: WRITTEN OUT: LEAVE IT -/
set_option maxRecDepth 100000 in
theorem lifted (os : Os) (started : os.Started) (H : Type) (enc : TypeId × Value → H) :
    ReturnsInHanded {} Try.checked os 9 .any (Rows.fnExactLastStampSpec.pre6 enc Try.prog Try.f9 Rows.fnExactLastStampRow.domain false) (Rows.fnExactLastStampSpec.post enc Try.prog Try.f9 false true false false) := by
  refine returnsInHanded_of_change (C := Try.checked) own started (by kernel_rfl) Try.func9
    (ChangeSpec.witness6 (enc := enc) (C := Try.checked) false ⟨#[], #[.slice none 0 0], []⟩ 8 (by kernel_rfl) (by kernel_rfl) (by kernel_rfl) (by kernel_rfl)) ?_
  intro W base args ds gs before hval0 hW hcnd _
  have hval : ∀ (j : Nat) t v, Try.f9.params[j]? = some t → args[j]? = some v → Value.okWide Try.prog W .any base t v := hval0
  have hW' := hW
  obtain ⟨p, q, hA0, hV, rfl, hfz, hnd⟩ := hW
  have hA : DataW.TrodAll enc Try.prog W 0 (fun _ => true) true Try.f9.params.toList args.toList ds p := hA0
  rw [Try.params9] at hA hval
  obtain ⟨v0, vs0, d0, ds0, p0, q0, hargs, rfl, rfl, h0, r0⟩ := trodAll_cons hA
  obtain ⟨rfl, rfl, rfl⟩ := trodAll_nil r0
  obtain rfl : args = #[v0] := by cases args; simp_all
  obtain ⟨rfl, rfl⟩ := trodVars_none hV
  have k0 := h0
  have lt0 : ∀ x ∈ p0, x.block < W.heap.size := by obtain ⟨m, hm⟩ := k0; exact DataW.trod_lt m _ _ _ hm
  obtain ⟨a0, n0, c0, rfl⟩ := okWide_slice Try.underlying55 (hval 0 55 v0 rfl rfl)
  obtain ⟨b0, w0⟩ : ∃ bs, IsBlocks W a0 n0 c0 bs := by
    obtain ⟨fuel, hf⟩ := h0
    obtain ⟨A, n, c, bs, e, hw⟩ := open_blocks (v := .slice a0 n0 c0) hf
    injection e with e1 e2 e3
    subst e1; subst e2; subst e3
    exact ⟨bs, hw⟩
  clear hA0 hval0
  refine (walk a0 n0 c0 b0 W w0).mono fun e W' ⟨he, bel⟩ => ?_
  subst he
  exact ⟨_, rfl, _, _, _, [], _, [], hW', trodAll_mk1 (shut_bool Try.underlying4 _), (trodAll_cons_mk (Below.trod laidOut (by kernel_rfl) (of_decide_eq_true (by kernel_rfl)) k0 bel lt0) trodAll_mk0), rfl, bel.frame _, fun h => by cases h⟩

theorem over : Rows.fnExactLastStampRow.holds Try.pinned (OpenSpec.ofChange Rows.fnExactLastStampSpec) :=
  OpenClaim.holds_of_wide 9 Try.f9 rfl rfl rfl rfl rfl rfl rfl ⟨rfl, rfl, rfl, rfl, rfl⟩ rfl rfl rfl rfl rfl (by kernel_rfl) Try.func9 (by kernel_rfl)
    (of_decide_eq_true (by kernel_rfl)) (by unfold Func.isWrapper; first | (rw [if_pos (by decide +kernel)]; kernel_rfl) | (rw [if_neg (by decide +kernel)]; exact ⟨rfl, rfl⟩))
    (fun os started H enc _ => lifted os started H enc)

/-- ████ THE STATEMENT ████ -/
theorem proved : Rows.FnExactLastStampSaid := over
#print axioms proved
end Go.Proofs.Yteniikfgellhfaa.fnExactLastStamp
