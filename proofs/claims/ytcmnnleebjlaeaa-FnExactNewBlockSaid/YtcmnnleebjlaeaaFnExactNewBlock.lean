/- NewBlock answers as its model for every number, every field, and each answer lies in memory of its own: proved.
   Conditions: none beyond the row's own reading of the input. The frame was written by the guide's proof-skeleton; the walk is ours. -/
import Derived.Test.YtcmnnleebjlaeaaLawExact
import Derived.Test.YtcmnnleebjlaeaaRows
import Derived.WalkKit
import Derived.ProofKit
import Derived.OpenShut
import Derived.ShutString
import Derived.ChangeOld
import Derived.Below
namespace Go.Proofs.Ytcmnnleebjlaeaa.fnExactNewBlock
open Go.ChangeShapes Go.WideShapes Go.ChangeAt Go.RowKit
open Go.ChangeMaps (open_string shut_string)
set_option linter.unusedVariables false

theorem own : ownKnob Try.prog.godebug = none := by kernel_rfl
theorem laidOut : laidOutB Try.prog = true := by kernel_rfl

/-- WHAT THE WALK IS TOLD OF A SLICE OF INTEGERS THAT CAME IN: it is nil; or it leads to a row of 'cap' cells, the numbers 'zs' (the first 'len' are its elements, the rest its spare room), each fitting its kind. -/
def IsRow (k : IntKind) (w : World) (a : Option Addr) (len cap : Nat) (zs : List Int) : Prop :=
  (a = none ∧ len = 0 ∧ cap = 0 ∧ zs = []) ∨
  ∃ x, a = some x ∧ len ≤ cap ∧ cap ≤ maxLen ∧ zs.length = cap ∧ (∀ i, i < zs.length → w.cell? (x.add i) = some (.int k (zs.getD i 0))) ∧ ∀ n ∈ zs, (Lit.int k n).wf = true

/-! ### STEP 1: THE WALK: the Go text returns true, AND WRITES NOTHING THAT WAS THERE: 'Below w.heap.size w w'' (Derived/Below.lean: '.refl', '.alloc', '.drew', '.setCell' at a new block, '.trans'). Open each 'IsRow' by 'rcases' AHEAD of 'go_enter'; part every test ahead of the walk. -/
set_option maxHeartbeats 2000000 in
theorem walk (a0 : Int) (w : World) (w0 : (Lit.int .i64 a0).wf = true) :
    Calls Try.prog 9 #[.int .i64 a0] w fun e w' => e = .returned (.bool true) ∧ Below w.heap.size w w' := by
  cases hv : inB a0 0 100
  · have HV := Lib.hid hv
    clear hv
    go_enter Try.func9, Try.ntmps9
    go_wp2_with fail
    refine (specNewBlock_no _ _ HV.out).mono ?_
    rintro e w1 ⟨A1, c1, rfl, hl, ho, hk⟩
    have z1 := hk.size
    (try simp only [size_alloc1] at z1)
    have hG := hk
    have hlo := Nat.le_refl w.heap.size
    have hst := VO.start (t := 25) (m := 0) (n := 0) (c := c1) hG hl ho hlo
    (try simp only [size_alloc1] at hst)
    have HW := Lib.hid hst
    clear hk hl ho hG hlo hst
    go_wp2_with fail
    have hlo := HW.out.1.2.2.2.2.size
    refine (newBlock_no _ _ HV.out).mono ?_
    rintro e w2 ⟨A2, c2, rfl, hl, ho, hk⟩
    have z2 := hk.size
    (try simp only [size_alloc1] at z2)
    replace HW := Lib.hid (HW.out.keep hk)
    have hG := HW.out.1.2.2.2.2
    have hst := VO.start (t := 25) (m := 0) (n := 0) (c := c2) hG hl ho hlo
    obtain ⟨u0, u1, ul⟩ := HW.out.cells
    replace HW := Lib.hid (HW.out.keep (grown_alloc (grown_refl w2 none) (.cells #[.int .i64 0, .slice A2 0 c2] 25)))
    (try simp only [size_alloc1] at hst)
    have HG := Lib.hid hst
    clear hk hl ho hG hlo hst
    go_wp2_with fail
    clear u0 u1 ul
    refine (eqBlock_same _ _ _ _ _ 0 [] _ HG.out.1.2.1 HG.out.1.2.2.1 HW.out.1.2.2.1 (by omega)).mono ?_
    rintro e w3 ⟨rfl, hk⟩
    have z3 := hk.size
    (try simp only [size_alloc1] at z3)
    replace HW := Lib.hid (HW.out.keep hk)
    replace HG := Lib.hid (HG.out.keep hk)
    clear hk
    obtain ⟨u0, u1, ul⟩ := HW.out.cells
    obtain ⟨g0, g1, gl⟩ := HG.out.cells
    go_wp2_with fail
    obtain ⟨vG, hvG⟩ : ∃ v : Int, v = ((1 + 5 * 0 : Nat) : Int) := ⟨_, rfl⟩
    have tG : decide (vG < 0) = false := decide_eq_false (by omega)
    have HVG := Lib.hid hvG
    clear hvG
    clear u0 u1 ul g0 g1 gl
    refine (markBlock_val _ _ _ _ _ _ _ HVG.out HG.out.1.2.1 HG.out.2.1 (by omega)).mono ?_
    rintro e w4 ⟨rfl, ho, hk⟩
    have hxlo := HG.out.2.2.2
    replace HW := Lib.hid (HW.out.marked HG.out (by decide) (by omega) hk)
    replace HG := Lib.hid (HG.out.self (by decide) hk ho (marks_length _ _))
    have z4 := hk.size
    (try simp only [size_alloc1] at z4)
    clear ho hk hxlo
    obtain ⟨u0, u1, ul⟩ := HW.out.cells
    obtain ⟨g0, g1, gl⟩ := HG.out.cells
    go_wp2_with fail
    clear u0 u1 ul g0 g1 gl
    refine (heldBlock_val _ _ _ _ _ HVG.out HG.out.1.2.2.1 (by omega)).mono ?_
    rintro e w5 ⟨rfl, hk⟩
    have z5 := hk.size
    (try simp only [size_alloc1] at z5)
    replace HW := Lib.hid (HW.out.keep hk)
    replace HG := Lib.hid (HG.out.keep hk)
    clear hk
    obtain ⟨u0, u1, ul⟩ := HW.out.cells
    obtain ⟨g0, g1, gl⟩ := HG.out.cells
    go_wp2_with fail
    clear u0 u1 ul g0 g1 gl
    have hlo := HW.out.1.2.2.2.2.size
    refine (newBlock_no _ _ HV.out).mono ?_
    rintro e w6 ⟨A3, c3, rfl, hl, ho, hk⟩
    have z6 := hk.size
    (try simp only [size_alloc1] at z6)
    replace HW := Lib.hid (HW.out.keep hk)
    replace HG := Lib.hid (HG.out.keep hk)
    have hG := HW.out.1.2.2.2.2
    have hst := VO.start (t := 25) (m := 0) (n := 0) (c := c3) hG hl ho hlo
    obtain ⟨u0, u1, ul⟩ := HW.out.cells
    obtain ⟨g0, g1, gl⟩ := HG.out.cells
    replace HW := Lib.hid (HW.out.keep (grown_alloc (grown_refl w6 none) (.cells #[.int .i64 0, .slice A3 0 c3] 25)))
    replace HG := Lib.hid (HG.out.keep (grown_alloc (grown_refl w6 none) (.cells #[.int .i64 0, .slice A3 0 c3] 25)))
    (try simp only [size_alloc1] at hst)
    have HH := Lib.hid hst
    clear hk hl ho hG hlo hst
    go_wp2_with fail
    clear u0 u1 ul g0 g1 gl
    refine (eqBlock_same _ _ _ _ _ 0 [] _ HH.out.1.2.1 HH.out.1.2.2.1 HW.out.1.2.2.1 (by omega)).mono ?_
    rintro e w7 ⟨rfl, hk⟩
    have z7 := hk.size
    (try simp only [size_alloc1] at z7)
    replace HW := Lib.hid (HW.out.keep hk)
    replace HG := Lib.hid (HG.out.keep hk)
    replace HH := Lib.hid (HH.out.keep hk)
    clear hk
    obtain ⟨u0, u1, ul⟩ := HW.out.cells
    obtain ⟨g0, g1, gl⟩ := HG.out.cells
    obtain ⟨h0, h1, hl⟩ := HH.out.cells
    go_wp2_with fail
    clear u0 u1 ul g0 g1 gl h0 h1 hl
    refine (heldBlock_val _ _ _ _ _ HVG.out HG.out.1.2.2.1 (by omega)).mono ?_
    rintro e w8 ⟨rfl, hk⟩
    have z8 := hk.size
    (try simp only [size_alloc1] at z8)
    replace HW := Lib.hid (HW.out.keep hk)
    replace HG := Lib.hid (HG.out.keep hk)
    replace HH := Lib.hid (HH.out.keep hk)
    clear hk
    obtain ⟨u0, u1, ul⟩ := HW.out.cells
    obtain ⟨g0, g1, gl⟩ := HG.out.cells
    obtain ⟨h0, h1, hl⟩ := HH.out.cells
    go_wp2
    go_ret
    exact ⟨rfl, grown_below HW.out.1.2.2.2.2⟩
  · have HV := Lib.hid hv
    clear hv
    go_enter Try.func9, Try.ntmps9
    go_wp2_with fail
    refine (specNewBlock_any _ _ HV.out).mono ?_
    rintro e w1 ⟨A1, c1, rfl, hl, ho, hk⟩
    have z1 := hk.size
    (try simp only [size_alloc1] at z1)
    have hG := hk
    have hlo := Nat.le_refl w.heap.size
    have hst := VO.start (t := 25) (m := a0) (n := 4) (c := c1) hG hl ho hlo
    (try simp only [size_alloc1] at hst)
    have HW := Lib.hid hst
    clear hk hl ho hG hlo hst
    go_wp2_with fail
    have hlo := HW.out.1.2.2.2.2.size
    refine (newBlock_any _ _ HV.out).mono ?_
    rintro e w2 ⟨A2, c2, rfl, hl, ho, hk⟩
    have z2 := hk.size
    (try simp only [size_alloc1] at z2)
    replace HW := Lib.hid (HW.out.keep hk)
    have hG := HW.out.1.2.2.2.2
    have hst := VO.start (t := 25) (m := a0) (n := 4) (c := c2) hG hl ho hlo
    obtain ⟨u0, u1, ul⟩ := HW.out.cells
    replace HW := Lib.hid (HW.out.keep (grown_alloc (grown_refl w2 none) (.cells #[.int .i64 a0, .slice A2 4 c2] 25)))
    (try simp only [size_alloc1] at hst)
    have HG := Lib.hid hst
    clear hk hl ho hG hlo hst
    go_wp2_with fail
    clear u0 u1 ul
    refine (eqBlock_same _ _ _ _ _ 4 [pz, pz, pz, pz] _ HG.out.1.2.1 HG.out.1.2.2.1 HW.out.1.2.2.1 (by omega)).mono ?_
    rintro e w3 ⟨rfl, hk⟩
    have z3 := hk.size
    (try simp only [size_alloc1] at z3)
    replace HW := Lib.hid (HW.out.keep hk)
    replace HG := Lib.hid (HG.out.keep hk)
    clear hk
    obtain ⟨u0, u1, ul⟩ := HW.out.cells
    obtain ⟨g0, g1, gl⟩ := HG.out.cells
    go_wp2_with fail
    obtain ⟨vG, hvG⟩ : ∃ v : Int, v = ((1 + 5 * 4 : Nat) : Int) := ⟨_, rfl⟩
    have tG : decide (vG < 0) = false := decide_eq_false (by omega)
    have HVG := Lib.hid hvG
    clear hvG
    clear u0 u1 ul g0 g1 gl
    refine (markBlock_val _ _ _ _ _ _ _ HVG.out HG.out.1.2.1 HG.out.2.1 (by omega)).mono ?_
    rintro e w4 ⟨rfl, ho, hk⟩
    have hxlo := HG.out.2.2.2
    replace HW := Lib.hid (HW.out.marked HG.out (by decide) (by omega) hk)
    replace HG := Lib.hid (HG.out.self (by decide) hk ho (marks_length _ _))
    have z4 := hk.size
    (try simp only [size_alloc1] at z4)
    clear ho hk hxlo
    obtain ⟨u0, u1, ul⟩ := HW.out.cells
    obtain ⟨g0, g1, gl⟩ := HG.out.cells
    go_wp2_with fail
    clear u0 u1 ul g0 g1 gl
    refine (heldBlock_val _ _ _ _ _ HVG.out HG.out.1.2.2.1 (by omega)).mono ?_
    rintro e w5 ⟨rfl, hk⟩
    have z5 := hk.size
    (try simp only [size_alloc1] at z5)
    replace HW := Lib.hid (HW.out.keep hk)
    replace HG := Lib.hid (HG.out.keep hk)
    clear hk
    obtain ⟨u0, u1, ul⟩ := HW.out.cells
    obtain ⟨g0, g1, gl⟩ := HG.out.cells
    go_wp2_with fail
    clear u0 u1 ul g0 g1 gl
    have hlo := HW.out.1.2.2.2.2.size
    refine (newBlock_any _ _ HV.out).mono ?_
    rintro e w6 ⟨A3, c3, rfl, hl, ho, hk⟩
    have z6 := hk.size
    (try simp only [size_alloc1] at z6)
    replace HW := Lib.hid (HW.out.keep hk)
    replace HG := Lib.hid (HG.out.keep hk)
    have hG := HW.out.1.2.2.2.2
    have hst := VO.start (t := 25) (m := a0) (n := 4) (c := c3) hG hl ho hlo
    obtain ⟨u0, u1, ul⟩ := HW.out.cells
    obtain ⟨g0, g1, gl⟩ := HG.out.cells
    replace HW := Lib.hid (HW.out.keep (grown_alloc (grown_refl w6 none) (.cells #[.int .i64 a0, .slice A3 4 c3] 25)))
    replace HG := Lib.hid (HG.out.keep (grown_alloc (grown_refl w6 none) (.cells #[.int .i64 a0, .slice A3 4 c3] 25)))
    (try simp only [size_alloc1] at hst)
    have HH := Lib.hid hst
    clear hk hl ho hG hlo hst
    go_wp2_with fail
    clear u0 u1 ul g0 g1 gl
    refine (eqBlock_same _ _ _ _ _ 4 [pz, pz, pz, pz] _ HH.out.1.2.1 HH.out.1.2.2.1 HW.out.1.2.2.1 (by omega)).mono ?_
    rintro e w7 ⟨rfl, hk⟩
    have z7 := hk.size
    (try simp only [size_alloc1] at z7)
    replace HW := Lib.hid (HW.out.keep hk)
    replace HG := Lib.hid (HG.out.keep hk)
    replace HH := Lib.hid (HH.out.keep hk)
    clear hk
    obtain ⟨u0, u1, ul⟩ := HW.out.cells
    obtain ⟨g0, g1, gl⟩ := HG.out.cells
    obtain ⟨h0, h1, hl⟩ := HH.out.cells
    go_wp2_with fail
    clear u0 u1 ul g0 g1 gl h0 h1 hl
    refine (heldBlock_val _ _ _ _ _ HVG.out HG.out.1.2.2.1 (by omega)).mono ?_
    rintro e w8 ⟨rfl, hk⟩
    have z8 := hk.size
    (try simp only [size_alloc1] at z8)
    replace HW := Lib.hid (HW.out.keep hk)
    replace HG := Lib.hid (HG.out.keep hk)
    replace HH := Lib.hid (HH.out.keep hk)
    clear hk
    obtain ⟨u0, u1, ul⟩ := HW.out.cells
    obtain ⟨g0, g1, gl⟩ := HG.out.cells
    obtain ⟨h0, h1, hl⟩ := HH.out.cells
    go_wp2
    go_ret
    exact ⟨rfl, grown_below HW.out.1.2.2.2.2⟩

/-! ### THE ROW's STEP: WRITTEN OUT: LEAVE IT -/
set_option maxRecDepth 100000 in
theorem lifted (os : Os) (started : os.Started) (H : Type) (enc : TypeId × Value → H) :
    ReturnsInHanded {} Try.checked os 9 .any (Rows.fnExactNewBlockSpec.pre6 enc Try.prog Try.f9 Rows.fnExactNewBlockRow.domain false) (Rows.fnExactNewBlockSpec.post enc Try.prog Try.f9 false true false false) := by
  refine returnsInHanded_of_change (C := Try.checked) own started (by kernel_rfl) Try.func9
    (ChangeSpec.witness6 (enc := enc) (C := Try.checked) false ⟨#[], #[.int .i64 0], []⟩ 8 (by kernel_rfl) (by kernel_rfl) (by kernel_rfl) (by kernel_rfl)) ?_
  intro W base args ds gs before hval0 hW hcnd _
  have hval : ∀ (j : Nat) t v, Try.f9.params[j]? = some t → args[j]? = some v → Value.okWide Try.prog W .any base t v := hval0
  have hW' := hW
  obtain ⟨p, q, hA0, hV, rfl, hfz, hnd⟩ := hW
  have hA : DataW.TrodAll enc Try.prog W 0 (fun _ => true) true Try.f9.params.toList args.toList ds p := hA0
  rw [Try.params9] at hA hval
  obtain ⟨v0, vs0, d0, ds0, p0, q0, hargs, rfl, rfl, h0, r0⟩ := trodAll_cons hA
  obtain ⟨rfl, rfl, rfl⟩ := trodAll_nil r0
  obtain rfl : args = #[v0] := by cases args; simp_all
  obtain ⟨rfl, rfl⟩ := trodVars_none hV
  obtain ⟨a0, rfl, rfl, rfl, w0⟩ := open_int Try.underlying3 (hval 0 3 v0 rfl rfl) h0
  clear hA0 hval0
  refine (walk a0 W w0).mono fun e W' ⟨he, bel⟩ => ?_
  subst he
  exact ⟨_, rfl, _, _, _, [], _, [], hW', trodAll_mk1 (shut_bool Try.underlying4 _), (trodAll_cons_mk (shut_int Try.underlying3 w0) trodAll_mk0), rfl, bel.frame _, fun h => by cases h⟩

theorem over : Rows.fnExactNewBlockRow.holds Try.pinned (OpenSpec.ofChange Rows.fnExactNewBlockSpec) :=
  OpenClaim.holds_of_wide 9 Try.f9 rfl rfl rfl rfl rfl rfl rfl ⟨rfl, rfl, rfl, rfl, rfl⟩ rfl rfl rfl rfl rfl (by kernel_rfl) Try.func9 (by kernel_rfl)
    (of_decide_eq_true (by kernel_rfl)) (by unfold Func.isWrapper; first | (rw [if_pos (by decide +kernel)]; kernel_rfl) | (rw [if_neg (by decide +kernel)]; exact ⟨rfl, rfl⟩))
    (fun os started H enc _ => lifted os started H enc)

/-- ████ THE STATEMENT ████ -/
theorem proved : Rows.FnExactNewBlockSaid := over
#print axioms proved
end Go.Proofs.Ytcmnnleebjlaeaa.fnExactNewBlock
