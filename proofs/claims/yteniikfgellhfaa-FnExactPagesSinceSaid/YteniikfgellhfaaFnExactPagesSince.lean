/- PagesSince answers as its model for every device and number, leaves the device as it was, and each answer lies in memory of its own: proved.
   Conditions: none beyond the row's own reading of the input. The frame was written by the guide's proof-skeleton; the walk is ours. -/
import Derived.Test.YteniikfgellhfaaAgg
import Derived.Test.YteniikfgellhfaaAggRows
import Derived.Test.YteniikfgellhfaaRolls
import Derived.Test.YteniikfgellhfaaLawTabs
import Derived.Test.YteniikfgellhfaaHand
import Derived.Test.YteniikfgellhfaaRows
import Derived.WalkKit
import Derived.ProofKit
import Derived.OpenShut
import Derived.ShutString
import Derived.ChangeOld
import Derived.Below
namespace Go.Proofs.Yteniikfgellhfaa.fnExactPagesSince
open Go.ChangeShapes Go.WideShapes Go.ChangeAt Go.RowKit
open Go.ChangeMaps (open_string shut_string)
set_option linter.unusedVariables false

theorem own : ownKnob Try.prog.godebug = none := by kernel_rfl
theorem laidOut : laidOutB Try.prog = true := by kernel_rfl

/-- WHAT THE WALK IS TOLD OF A SLICE OF INTEGERS THAT CAME IN: it is nil; or it leads to a row of 'cap' cells, the numbers 'zs' (the first 'len' are its elements, the rest its spare room), each fitting its kind. -/
def IsRow (k : IntKind) (w : World) (a : Option Addr) (len cap : Nat) (zs : List Int) : Prop :=
  (a = none ∧ len = 0 ∧ cap = 0 ∧ zs = []) ∨
  ∃ x, a = some x ∧ len ≤ cap ∧ cap ≤ maxLen ∧ zs.length = cap ∧ (∀ i, i < zs.length → w.cell? (x.add i) = some (.int k (zs.getD i 0))) ∧ ∀ n ∈ zs, (Lit.int k n).wf = true

/-! ### STEP 1: THE WALK: the Go text returns true, AND WRITES NOTHING THAT WAS THERE: 'Below w.heap.size w w'' (Derived/Below.lean: '.refl', '.alloc', '.drew', '.setCell' at a new block, '.trans'). Open each 'IsRow' by 'rcases' AHEAD of 'go_enter'; part every test ahead of the walk. -/
set_option maxHeartbeats 4000000 in
set_option maxRecDepth 100000 in
theorem walk (a0 : Option Addr) (n0 c0 : Nat) (b0 : List Bk) (a1 : Int) (w : World) (w0 : IsBlocks w a0 n0 c0 b0) (w1 : (Lit.int .i64 a1).wf = true) :
    Calls Try.prog 7 #[.slice a0 n0 c0, .int .i64 a1] w fun e w' => e = .returned (.bool true) ∧ Below w.heap.size w w' := by
  obtain ⟨n1, x1, hri, hl1, hn1⟩ := since_is b0 a1
  have HI := Lib.hid (And.intro hri hl1)
  clear hri hl1
  have HA := Lib.hid (VD.arg w0)
  have HZ := Lib.hid w0
  have HL := Lib.hid w0.1
  clear w0
  go_enter Try.func7, Try.ntmps7
  go_wp2_with fail
  refine (szBlockS_any _ _ _ _ _ HZ.out).mono ?_
  rintro e w1 ⟨v, rfl, hk, hv⟩
  replace HA := Lib.hid (HA.out.keep hk)
  rcases hv with rfl | ⟨hv0, hn, ht⟩
  · clear hk
    go_wp2
    go_ret
    exact ⟨rfl, grown_below HA.out.2⟩
  · have tv : decide (v < 0) = false := decide_eq_false (by omega)
    have HP := Lib.hid (And.intro (small_tot ht) ht)
    clear hk ht
    go_wp2_with fail
    clear tv
    refine (toBlockS_any _ _ _ _ _ HL.out HA.out.row hn HP.out.1).mono ?_
    rintro e w2 ⟨A2, c2, cs2, rfl, hl, hs, ho, hk⟩
    replace HA := Lib.hid (HA.out.keep hk)
    have HR2 := Lib.hid (And.intro hl (And.intro hs ho.row))
    clear hk hl hs ho
    go_wp2_with fail
    have hp := HA.out.2.size
    refine (specSince_val (show sinV cs2 a1 = x1 by rw [sinV_is HR2.out.2.1]; exact HI.out.1) HI.out.2 HR2.out.1 HR2.out.2.2 hn (small_is HR2.out.2.1 HP.out.1)).mono ?_
    rintro e w3 ⟨A4, c4, rfl, hl, ho, hk⟩
    obtain ⟨loHW, hiHW, hx, qHW, rHW⟩ : ∃ lo hi, VN w A4 n1 c4 x1 lo hi w3 ∧ w.heap.size ≤ lo ∧ lo ≤ hi := ⟨_, _, VN.made HA.out.2 hl ho hk, hp, hk.size⟩
    replace HA := Lib.hid (HA.out.keep hk)
    have HW := Lib.hid hx
    clear hk hl ho hx hp
    go_wp2_with fail
    have hp := HW.out.2.2.2.1
    refine (toBlockS_any _ _ _ _ _ HL.out HA.out.row hn HP.out.1).mono ?_
    rintro e w4 ⟨A3, c3, cs3, rfl, hl, hs, ho, hk⟩
    obtain ⟨loHX, hiHX, hx, qHX, rHX⟩ : ∃ lo hi, VX w A3 n0 c3 cs3 lo hi w4 ∧ hiHW ≤ lo ∧ lo ≤ hi := ⟨_, _, VX.made HA.out.2 hl ho hk, hp, hk.size⟩
    replace HA := Lib.hid (HA.out.keep hk)
    replace HW := Lib.hid (HW.out.keep hk)
    have HX := Lib.hid hx
    have SHX := Lib.hid hs
    clear hk hl hs ho hx hp
    have THX := Lib.hid (show tot cs3 ≤ 1048576 by rw [tot_is SHX.out, ← tot_is rfl]; exact HP.out.2)
    go_wp2_with fail
    have hp := HX.out.2.2.2.2.1
    refine (since_val (show sinV cs3 a1 = x1 by rw [sinV_is SHX.out]; exact HI.out.1) HI.out.2 HX.out.2.1 HX.out.row hn (small_is SHX.out HP.out.1)).mono ?_
    rintro e w5 ⟨A5, c5, rfl, hl, ho, hk⟩
    obtain ⟨loHG, hiHG, hx, qHG, rHG⟩ : ∃ lo hi, VN w A5 n1 c5 x1 lo hi w5 ∧ hiHX ≤ lo ∧ lo ≤ hi := ⟨_, _, VN.made HA.out.2 hl ho hk, hp, hk.size⟩
    replace HA := Lib.hid (HA.out.keep hk)
    replace HW := Lib.hid (HW.out.keep hk)
    replace HX := Lib.hid (HX.out.keep hk)
    have HG := Lib.hid hx
    clear hk hl ho hx hp
    go_wp2_with fail
    refine (eqInts_val (V := true) (decide_eq_true rfl) HG.out.2.1 HW.out.2.1 HG.out.row HW.out.row hn1 hn1).mono ?_
    rintro e w6 ⟨rfl, hk⟩
    replace HA := Lib.hid (HA.out.keep hk)
    replace HW := Lib.hid (HW.out.keep hk)
    replace HX := Lib.hid (HX.out.keep hk)
    replace HG := Lib.hid (HG.out.keep hk)
    clear hk
    go_wp2_with fail
    refine (toBlockS_any _ _ _ _ _ HL.out HA.out.row hn HP.out.1).mono ?_
    rintro e w7 ⟨A6, c6, cs6, rfl, hl, hs, ho, hk⟩
    replace HA := Lib.hid (HA.out.keep hk)
    replace HW := Lib.hid (HW.out.keep hk)
    replace HX := Lib.hid (HX.out.keep hk)
    replace HG := Lib.hid (HG.out.keep hk)
    have HR6 := Lib.hid (And.intro hl (And.intro hs ho.row))
    clear hk hl hs ho
    go_wp2_with fail
    refine (eqBlockS_same _ _ _ _ _ _ _ _ HX.out.2.1 (SHX.out.trans HR6.out.2.1.symm) HX.out.row HR6.out.2.2 hn (small_is SHX.out HP.out.1)).mono ?_
    rintro e w8 ⟨rfl, hk⟩
    replace HA := Lib.hid (HA.out.keep hk)
    replace HW := Lib.hid (HW.out.keep hk)
    replace HX := Lib.hid (HX.out.keep hk)
    replace HG := Lib.hid (HG.out.keep hk)
    clear hk
    go_wp2_with fail
    obtain ⟨vX, hvX⟩ : ∃ v : Int, v = ((endK 1 cs3 : Nat) : Int) := ⟨_, rfl⟩
    have tX : decide (vX < 0) = false := decide_eq_false (by omega)
    have HVX := Lib.hid (And.intro hvX tX)
    clear hvX
    refine (markBlockS_val HVX.out.1 HX.out hn THX.out).mono ?_
    rintro e w9 ⟨rfl, ho, hk⟩
    have hxlo := HX.out.2.2.2.2.2.1
    replace HA := Lib.hid (HA.out.marked hxlo hk)
    replace HW := Lib.hid (HW.out.marked (by omega) hxlo hk)
    replace HG := Lib.hid (HG.out.marked (by omega) hxlo hk)
    replace HX := Lib.hid (HX.out.self ho hk)
    clear ho hk hxlo
    go_wp2_with fail
    refine (eqInts_val (V := true) (decide_eq_true rfl) HG.out.2.1 HW.out.2.1 HG.out.row HW.out.row hn1 hn1).mono ?_
    rintro e w10 ⟨rfl, hk⟩
    replace HA := Lib.hid (HA.out.keep hk)
    replace HW := Lib.hid (HW.out.keep hk)
    replace HX := Lib.hid (HX.out.keep hk)
    replace HG := Lib.hid (HG.out.keep hk)
    clear hk
    go_wp2_with fail
    obtain ⟨vG, hvG⟩ : ∃ v : Int, v = ((1 + n1 : Nat) : Int) := ⟨_, rfl⟩
    have tG : decide (vG < 0) = false := decide_eq_false (by omega)
    have HVG := Lib.hid (And.intro hvG tG)
    clear hvG
    refine (markInts_val HVG.out.1 HG.out hn1).mono ?_
    rintro e w11 ⟨rfl, ho, hk⟩
    have hxlo := HG.out.2.2.2.2.1
    replace HA := Lib.hid (HA.out.marked hxlo hk)
    replace HW := Lib.hid (HW.out.marked (by omega) hxlo hk)
    replace HX := Lib.hid (HX.out.marked (by omega) hxlo hk)
    replace HG := Lib.hid (HG.out.self ho hk)
    clear ho hk hxlo
    go_wp2_with fail
    refine (heldInts_val HVG.out.1 HG.out hn1).mono ?_
    rintro e w12 ⟨rfl, hk⟩
    replace HA := Lib.hid (HA.out.keep hk)
    replace HW := Lib.hid (HW.out.keep hk)
    replace HX := Lib.hid (HX.out.keep hk)
    replace HG := Lib.hid (HG.out.keep hk)
    clear hk
    go_wp2_with fail
    refine (toBlockS_any _ _ _ _ _ HL.out HA.out.row hn HP.out.1).mono ?_
    rintro e w13 ⟨A8, c8, cs8, rfl, hl, hs, ho, hk⟩
    replace HA := Lib.hid (HA.out.keep hk)
    replace HW := Lib.hid (HW.out.keep hk)
    replace HX := Lib.hid (HX.out.keep hk)
    replace HG := Lib.hid (HG.out.keep hk)
    have HR8 := Lib.hid (And.intro hl (And.intro hs ho.row))
    clear hk hl hs ho
    go_wp2_with fail
    have hp := HG.out.2.2.2.1
    refine (since_val (show sinV cs8 a1 = x1 by rw [sinV_is HR8.out.2.1]; exact HI.out.1) HI.out.2 HR8.out.1 HR8.out.2.2 hn (small_is HR8.out.2.1 HP.out.1)).mono ?_
    rintro e w14 ⟨A9, c9, rfl, hl, ho, hk⟩
    obtain ⟨loHH, hiHH, hx, qHH, rHH⟩ : ∃ lo hi, VN w A9 n1 c9 x1 lo hi w14 ∧ hiHG ≤ lo ∧ lo ≤ hi := ⟨_, _, VN.made HA.out.2 hl ho hk, hp, hk.size⟩
    replace HA := Lib.hid (HA.out.keep hk)
    replace HW := Lib.hid (HW.out.keep hk)
    replace HX := Lib.hid (HX.out.keep hk)
    replace HG := Lib.hid (HG.out.keep hk)
    have HH := Lib.hid hx
    clear hk hl ho hx hp
    go_wp2_with fail
    refine (eqInts_val (V := true) (decide_eq_true rfl) HH.out.2.1 HW.out.2.1 HH.out.row HW.out.row hn1 hn1).mono ?_
    rintro e w15 ⟨rfl, hk⟩
    replace HA := Lib.hid (HA.out.keep hk)
    replace HW := Lib.hid (HW.out.keep hk)
    replace HX := Lib.hid (HX.out.keep hk)
    replace HG := Lib.hid (HG.out.keep hk)
    replace HH := Lib.hid (HH.out.keep hk)
    clear hk
    go_wp2_with fail
    refine (heldInts_val HVG.out.1 HG.out hn1).mono ?_
    rintro e w16 ⟨rfl, hk⟩
    replace HA := Lib.hid (HA.out.keep hk)
    replace HW := Lib.hid (HW.out.keep hk)
    replace HX := Lib.hid (HX.out.keep hk)
    replace HG := Lib.hid (HG.out.keep hk)
    replace HH := Lib.hid (HH.out.keep hk)
    clear hk
    go_wp2
    go_ret
    exact ⟨rfl, grown_below HA.out.2⟩

/-! ### THE ROW's STEP: WRITTEN OUT: LEAVE IT -/
set_option maxRecDepth 100000 in
theorem lifted (os : Os) (started : os.Started) (H : Type) (enc : TypeId × Value → H) :
    ReturnsInHanded {} Try.checked os 7 .any (Rows.fnExactPagesSinceSpec.pre6 enc Try.prog Try.f7 Rows.fnExactPagesSinceRow.domain false) (Rows.fnExactPagesSinceSpec.post enc Try.prog Try.f7 false true false false) := by
  refine returnsInHanded_of_change (C := Try.checked) own started (by kernel_rfl) Try.func7
    (ChangeSpec.witness6 (enc := enc) (C := Try.checked) false ⟨#[], #[.slice none 0 0, .int .i64 0], []⟩ 8 (by kernel_rfl) (by kernel_rfl) (by kernel_rfl) (by kernel_rfl)) ?_
  intro W base args ds gs before hval0 hW hcnd _
  have hval : ∀ (j : Nat) t v, Try.f7.params[j]? = some t → args[j]? = some v → Value.okWide Try.prog W .any base t v := hval0
  have hW' := hW
  obtain ⟨p, q, hA0, hV, rfl, hfz, hnd⟩ := hW
  have hA : DataW.TrodAll enc Try.prog W 0 (fun _ => true) true Try.f7.params.toList args.toList ds p := hA0
  rw [Try.params7] at hA hval
  obtain ⟨v0, vs0, d0, ds0, p0, q0, hargs, rfl, rfl, h0, r0⟩ := trodAll_cons hA
  obtain ⟨v1, vs1, d1, ds1, p1, q1, rfl, rfl, rfl, h1, r1⟩ := trodAll_cons r0
  obtain ⟨rfl, rfl, rfl⟩ := trodAll_nil r1
  obtain rfl : args = #[v0, v1] := by cases args; simp_all
  obtain ⟨rfl, rfl⟩ := trodVars_none hV
  have k0 := h0
  have lt0 : ∀ x ∈ p0, x.block < W.heap.size := by obtain ⟨m, hm⟩ := k0; exact DataW.trod_lt m _ _ _ hm
  obtain ⟨a0, n0, c0, rfl⟩ := okWide_slice Try.underlying55 (hval 0 55 v0 rfl rfl)
  obtain ⟨b0, w0⟩ : ∃ bs, IsBlocks W a0 n0 c0 bs := by
    obtain ⟨fuel, hf⟩ := h0
    obtain ⟨A, n, c, bs, e, hw⟩ := open_blocks (v := .slice a0 n0 c0) hf
    injection e with e1 e2 e3
    subst e1; subst e2; subst e3
    exact ⟨bs, hw⟩
  obtain ⟨a1, rfl, rfl, rfl, w1⟩ := open_int Try.underlying3 (hval 1 3 v1 rfl rfl) h1
  clear hA0 hval0
  refine (walk a0 n0 c0 b0 a1 W w0 w1).mono fun e W' ⟨he, bel⟩ => ?_
  subst he
  exact ⟨_, rfl, _, _, _, [], _, [], hW', trodAll_mk1 (shut_bool Try.underlying4 _), (trodAll_cons_mk (Below.trod laidOut (by kernel_rfl) (of_decide_eq_true (by kernel_rfl)) k0 bel lt0) (trodAll_cons_mk (shut_int Try.underlying3 w1) trodAll_mk0)), rfl, bel.frame _, fun h => by cases h⟩

theorem over : Rows.fnExactPagesSinceRow.holds Try.pinned (OpenSpec.ofChange Rows.fnExactPagesSinceSpec) :=
  OpenClaim.holds_of_wide 7 Try.f7 rfl rfl rfl rfl rfl rfl rfl ⟨rfl, rfl, rfl, rfl, rfl⟩ rfl rfl rfl rfl rfl (by kernel_rfl) Try.func7 (by kernel_rfl)
    (of_decide_eq_true (by kernel_rfl)) (by unfold Func.isWrapper; first | (rw [if_pos (by decide +kernel)]; kernel_rfl) | (rw [if_neg (by decide +kernel)]; exact ⟨rfl, rfl⟩))
    (fun os started H enc _ => lifted os started H enc)

/-- ████ THE STATEMENT ████ -/
theorem proved : Rows.FnExactPagesSinceSaid := over
#print axioms proved
end Go.Proofs.Yteniikfgellhfaa.fnExactPagesSince
