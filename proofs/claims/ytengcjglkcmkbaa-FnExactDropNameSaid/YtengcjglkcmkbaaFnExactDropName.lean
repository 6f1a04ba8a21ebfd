/- Proves the exact law of DropName: for all names and every text the program returns the model's names and answer, in memory of its own, and leaves its arguments as they were.
   Conditions: none beyond the row's own reading of the input. The frame was written by the guide's proof-skeleton; the walk is ours. -/
import Derived.Test.YtengcjglkcmkbaaAgg
import Derived.Test.YtengcjglkcmkbaaNameLaw
import Derived.Test.YtengcjglkcmkbaaRows
import Derived.WalkKit
import Derived.ProofKit
import Derived.OpenShut
import Derived.ShutString
import Derived.ChangeOld
import Derived.Below
namespace Go.Proofs.Ytengcjglkcmkbaa.fnExactDropName
open Go.ChangeShapes Go.WideShapes Go.ChangeAt Go.RowKit
open Go.ChangeMaps (open_string shut_string)
set_option linter.unusedVariables false

theorem own : ownKnob Try.prog.godebug = none := by kernel_rfl
theorem laidOut : laidOutB Try.prog = true := by kernel_rfl

/-- WHAT THE WALK IS TOLD OF A SLICE OF INTEGERS THAT CAME IN: it is nil; or it leads to a row of 'cap' cells, the numbers 'zs' (the first 'len' are its elements, the rest its spare room), each fitting its kind. -/
def IsRow (k : IntKind) (w : World) (a : Option Addr) (len cap : Nat) (zs : List Int) : Prop :=
  (a = none ∧ len = 0 ∧ cap = 0 ∧ zs = []) ∨
  ∃ x, a = some x ∧ len ≤ cap ∧ cap ≤ maxLen ∧ zs.length = cap ∧ (∀ i, i < zs.length → w.cell? (x.add i) = some (.int k (zs.getD i 0))) ∧ ∀ n ∈ zs, (Lit.int k n).wf = true

/-! ### STEP 1: THE WALK: the Go text returns true, AND WRITES NOTHING THAT WAS THERE: 'Below w.heap.size w w'' (Derived/Below.lean: '.refl', '.alloc', '.drew', '.setCell' at a new block, '.trans'). Open each 'IsRow' by 'rcases' AHEAD of 'go_enter'; part every test ahead of the walk. -/
set_option maxHeartbeats 4000000 in
set_option maxRecDepth 100000 in
theorem walk (a0 : Option Addr) (n0 c0 : Nat) (b0 : List Nm) (a1 : ByteArray) (w : World) (w0 : IsNmz w a0 n0 c0 b0) (w1 : a1.size ≤ maxLen) :
    Calls Try.prog 14 #[.slice a0 n0 c0, .string a1] w fun e w' => e = .returned (.bool true) ∧ Below w.heap.size w w' := by
  have hbig : ∀ (k : Nat) p, b0[k]? = some p → p.a.size ≤ 9223372036854775807 := fun k p hp => w0.2 k p hp
  have HS := Lib.hid hbig
  have HL := Lib.hid w0.1.1
  have hcap := w0.1.2.1
  have hmax := w0.1.2.2.1
  simp only [maxLen] at hmax
  have HA := Lib.hid (LNA.start w0.1.2.2.2)
  have hz1 : a1.size ≤ 9223372036854775807 := w1
  clear hbig w0
  obtain ⟨X, hX⟩ : ∃ X, dropNms b0 a1 = X := ⟨_, rfl⟩
  obtain ⟨ok, hok⟩ : ∃ ok, dropNok b0 a1 = ok := ⟨_, rfl⟩
  obtain ⟨n1, hn1'⟩ : ∃ n1, X.length = n1 := ⟨_, rfl⟩
  have HI := Lib.hid (And.intro hX (And.intro hok hn1'))
  have tok : (ok != ok) = false := by simp
  clear hX hok hn1'
  have hn1 : n1 ≤ 1048576 := by rw [← HI.out.2.2, ← HI.out.1]; have := dropNm_le b0 a1; omega
  by_cases hbt : 1048576 < a1.size
  · have tb : decide ((1048576 : Int) < a1.size) = true := decide_eq_true (by omega)
    go_enter Try.func14, Try.ntmps14
    go_wp2
    go_ret
    exact ⟨rfl, grown_below HA.out.2⟩
  have tb : decide ((1048576 : Int) < a1.size) = false := decide_eq_false (by omega)
  go_enter Try.func14, Try.ntmps14
  go_wp2_with fail
  refine (szNameS_any _ _ _ _ _ HL.out HA.out.row (by omega) HS.out).mono ?_
  rintro e w1 ⟨v, rfl, hk, hv⟩
  replace HA := Lib.hid (HA.out.keep hk)
  clear hk
  rcases hv with rfl | ⟨hv0, hv1, hn, _⟩
  · have t0 : decide ((-1 : Int) < 0) = true := by decide
    go_wp2
    go_ret
    exact ⟨rfl, grown_below HA.out.2⟩
  have t0 : decide (v < 0) = false := decide_eq_false (by omega)
  go_wp2_with fail
  refine (toNameS_any _ _ _ _ _ HL.out HA.out.row hn).mono ?_
  rintro e w2 ⟨A2, c2, rfl, hl, ho, hk⟩
  have HR1 := Lib.hid (And.intro ho.row (ho.capn hl))
  replace HA := Lib.hid (HA.out.keep hk)
  clear hk hl ho
  go_wp2_with fail
  refine (specDrop_val HI.out.1 HI.out.2.1 HI.out.2.2 HL.out HR1.out.1 hn HS.out).mono ?_
  rintro e w3 ⟨A3, c3, rfl, hl, ho, hk⟩
  obtain ⟨loHW, hiHW, hx, qHW, rHW⟩ : ∃ lo hi, VNm w A3 n1 c3 X lo hi w3 ∧ w.heap.size ≤ lo ∧ lo ≤ hi := ⟨_, _, VNm.made HA.out.2 hl ho hk, HA.out.2.size, hk.size⟩
  have HW := Lib.hid hx
  replace HA := Lib.hid (HA.out.keep hk)
  clear hk hl ho hx
  go_wp2_with fail
  refine (toNameS_any _ _ _ _ _ HL.out HA.out.row hn).mono ?_
  rintro e w4 ⟨A4, c4, rfl, hl, ho, hk⟩
  obtain ⟨loHX, hiHX, hx, qHX, rHX, dHWHX⟩ : ∃ lo hi, VNm w A4 n0 c4 b0 lo hi w4 ∧ w.heap.size ≤ lo ∧ lo ≤ hi ∧ hiHW ≤ lo := ⟨_, _, VNm.made HA.out.2 hl ho hk, HA.out.2.size, hk.size, HW.out.2.2.2.1⟩
  have HX := Lib.hid hx
  replace HA := Lib.hid (HA.out.keep hk)
  replace HW := Lib.hid (HW.out.keep hk)
  clear hk hl ho hx
  go_wp2_with fail
  refine (dropName_val HI.out.1 HI.out.2.1 HI.out.2.2 HX.out.2.1 HX.out.row hn HS.out).mono ?_
  rintro e w5 ⟨A5, c5, rfl, hl, ho, hk⟩
  obtain ⟨loHG, hiHG, hx, qHG, rHG, dHWHG, dHXHG⟩ : ∃ lo hi, VNm w A5 n1 c5 X lo hi w5 ∧ w.heap.size ≤ lo ∧ lo ≤ hi ∧ hiHW ≤ lo ∧ hiHX ≤ lo := ⟨_, _, VNm.made HA.out.2 hl ho hk, HA.out.2.size, hk.size, HW.out.2.2.2.1, HX.out.2.2.2.1⟩
  have HG := Lib.hid hx
  replace HA := Lib.hid (HA.out.keep hk)
  replace HW := Lib.hid (HW.out.keep hk)
  replace HX := Lib.hid (HX.out.keep hk)
  clear hk hl ho hx
  go_wp2_with fail
  refine (eqNameS_same _ _ _ _ _ _ _ HG.out.2.1 HG.out.row HW.out.row hn1).mono ?_
  rintro e w6 ⟨rfl, hk⟩
  replace HA := Lib.hid (HA.out.keep hk)
  replace HW := Lib.hid (HW.out.keep hk)
  replace HX := Lib.hid (HX.out.keep hk)
  replace HG := Lib.hid (HG.out.keep hk)
  clear hk
  go_wp2_with fail
  refine (toNameS_any _ _ _ _ _ HL.out HA.out.row hn).mono ?_
  rintro e w7 ⟨A7, c7, rfl, hl, ho, hk⟩
  have HR2 := Lib.hid (And.intro ho.row (ho.capn hl))
  replace HA := Lib.hid (HA.out.keep hk)
  replace HW := Lib.hid (HW.out.keep hk)
  replace HX := Lib.hid (HX.out.keep hk)
  replace HG := Lib.hid (HG.out.keep hk)
  clear hk hl ho
  go_wp2_with fail
  refine (eqNameS_same _ _ _ _ _ _ _ HX.out.2.1 HX.out.row HR2.out.1 hn).mono ?_
  rintro e w8 ⟨rfl, hk⟩
  replace HA := Lib.hid (HA.out.keep hk)
  replace HW := Lib.hid (HW.out.keep hk)
  replace HX := Lib.hid (HX.out.keep hk)
  replace HG := Lib.hid (HG.out.keep hk)
  clear hk
  obtain ⟨vX, hvX⟩ : ∃ v : Int, v = ((1 + 2 * n0 : Nat) : Int) := ⟨_, rfl⟩
  have tX : decide (vX < 0) = false := decide_eq_false (by omega)
  have HVX := Lib.hid hvX
  clear hvX
  go_wp2_with fail
  refine (markName_val HVX.out HX.out hn).mono ?_
  rintro e w9 ⟨rfl, ho, hk⟩
  replace HA := Lib.hid (HA.out.marked qHX hk)
  replace HW := Lib.hid (HW.out.marked (.inl dHWHX) qHX hk)
  replace HG := Lib.hid (HG.out.marked (.inr dHXHG) qHX hk)
  replace HX := Lib.hid (HX.out.self ho hk)
  clear ho hk
  go_wp2_with fail
  refine (eqNameS_same _ _ _ _ _ _ _ HG.out.2.1 HG.out.row HW.out.row hn1).mono ?_
  rintro e w10 ⟨rfl, hk⟩
  replace HA := Lib.hid (HA.out.keep hk)
  replace HW := Lib.hid (HW.out.keep hk)
  replace HX := Lib.hid (HX.out.keep hk)
  replace HG := Lib.hid (HG.out.keep hk)
  clear hk
  obtain ⟨vG, hvG⟩ : ∃ v : Int, v = ((1 + 2 * n1 : Nat) : Int) := ⟨_, rfl⟩
  have tG : decide (vG < 0) = false := decide_eq_false (by omega)
  have tGG : (vG != vG) = false := by simp
  have HVG := Lib.hid hvG
  clear hvG
  go_wp2_with fail
  refine (markName_val HVG.out HG.out hn1).mono ?_
  rintro e w11 ⟨rfl, ho, hk⟩
  replace HA := Lib.hid (HA.out.marked qHG hk)
  replace HW := Lib.hid (HW.out.marked (.inl dHWHG) qHG hk)
  replace HX := Lib.hid (HX.out.marked (.inl dHXHG) qHG hk)
  replace HG := Lib.hid (HG.out.self ho hk)
  clear ho hk
  go_wp2_with fail
  refine (heldName_val HVG.out HG.out hn1).mono ?_
  rintro e w12 ⟨rfl, hk⟩
  replace HA := Lib.hid (HA.out.keep hk)
  replace HW := Lib.hid (HW.out.keep hk)
  replace HX := Lib.hid (HX.out.keep hk)
  replace HG := Lib.hid (HG.out.keep hk)
  clear hk
  go_wp2_with fail
  refine (toNameS_any _ _ _ _ _ HL.out HA.out.row hn).mono ?_
  rintro e w13 ⟨A13, c13, rfl, hl, ho, hk⟩
  have HR3 := Lib.hid (And.intro ho.row (ho.capn hl))
  replace HA := Lib.hid (HA.out.keep hk)
  replace HW := Lib.hid (HW.out.keep hk)
  replace HX := Lib.hid (HX.out.keep hk)
  replace HG := Lib.hid (HG.out.keep hk)
  clear hk hl ho
  go_wp2_with fail
  refine (dropName_val HI.out.1 HI.out.2.1 HI.out.2.2 HL.out HR3.out.1 hn HS.out).mono ?_
  rintro e w14 ⟨A14, c14, rfl, hl, ho, hk⟩
  obtain ⟨loHH, hiHH, hx, qHH, rHH, dHWHH, dHXHH, dHGHH⟩ : ∃ lo hi, VNm w A14 n1 c14 X lo hi w14 ∧ w.heap.size ≤ lo ∧ lo ≤ hi ∧ hiHW ≤ lo ∧ hiHX ≤ lo ∧ hiHG ≤ lo := ⟨_, _, VNm.made HA.out.2 hl ho hk, HA.out.2.size, hk.size, HW.out.2.2.2.1, HX.out.2.2.2.1, HG.out.2.2.2.1⟩
  have HH := Lib.hid hx
  replace HA := Lib.hid (HA.out.keep hk)
  replace HW := Lib.hid (HW.out.keep hk)
  replace HX := Lib.hid (HX.out.keep hk)
  replace HG := Lib.hid (HG.out.keep hk)
  clear hk hl ho hx
  go_wp2_with fail
  refine (eqNameS_same _ _ _ _ _ _ _ HH.out.2.1 HH.out.row HW.out.row hn1).mono ?_
  rintro e w15 ⟨rfl, hk⟩
  replace HA := Lib.hid (HA.out.keep hk)
  replace HW := Lib.hid (HW.out.keep hk)
  replace HX := Lib.hid (HX.out.keep hk)
  replace HG := Lib.hid (HG.out.keep hk)
  replace HH := Lib.hid (HH.out.keep hk)
  clear hk
  go_wp2_with fail
  refine (heldName_val HVG.out HG.out hn1).mono ?_
  rintro e w16 ⟨rfl, hk⟩
  replace HA := Lib.hid (HA.out.keep hk)
  replace HW := Lib.hid (HW.out.keep hk)
  replace HX := Lib.hid (HX.out.keep hk)
  replace HG := Lib.hid (HG.out.keep hk)
  replace HH := Lib.hid (HH.out.keep hk)
  clear hk
  go_wp2
  go_ret
  exact ⟨rfl, grown_below HA.out.2⟩

/-! ### THE ROW's STEP: WRITTEN OUT: LEAVE IT -/
set_option maxRecDepth 100000 in
theorem lifted (os : Os) (started : os.Started) (H : Type) (enc : TypeId × Value → H) :
    ReturnsInHanded {} Try.checked os 14 .any (Rows.fnExactDropNameSpec.pre6 enc Try.prog Try.f14 Rows.fnExactDropNameRow.domain false) (Rows.fnExactDropNameSpec.post enc Try.prog Try.f14 false true false false) := by
  refine returnsInHanded_of_change (C := Try.checked) own started (by kernel_rfl) Try.func14
    (ChangeSpec.witness6 (enc := enc) (C := Try.checked) false ⟨#[], #[.slice none 0 0, .string ByteArray.empty], []⟩ 8 (by kernel_rfl) (by kernel_rfl) (by kernel_rfl) (by kernel_rfl)) ?_
  intro W base args ds gs before hval0 hW hcnd _
  have hval : ∀ (j : Nat) t v, Try.f14.params[j]? = some t → args[j]? = some v → Value.okWide Try.prog W .any base t v := hval0
  have hW' := hW
  obtain ⟨p, q, hA0, hV, rfl, hfz, hnd⟩ := hW
  have hA : DataW.TrodAll enc Try.prog W 0 (fun _ => true) true Try.f14.params.toList args.toList ds p := hA0
  rw [Try.params14] at hA hval
  obtain ⟨v0, vs0, d0, ds0, p0, q0, hargs, rfl, rfl, h0, r0⟩ := trodAll_cons hA
  obtain ⟨v1, vs1, d1, ds1, p1, q1, rfl, rfl, rfl, h1, r1⟩ := trodAll_cons r0
  obtain ⟨rfl, rfl, rfl⟩ := trodAll_nil r1
  obtain rfl : args = #[v0, v1] := by cases args; simp_all
  obtain ⟨rfl, rfl⟩ := trodVars_none hV
  have k0 := h0
  have lt0 : ∀ x ∈ p0, x.block < W.heap.size := by obtain ⟨m, hm⟩ := k0; exact DataW.trod_lt m _ _ _ hm
  obtain ⟨a0, n0, c0, rfl⟩ := okWide_slice Try.underlying42 (hval 0 42 v0 rfl rfl)
  obtain ⟨b0, w0⟩ : ∃ bs, IsNmz W a0 n0 c0 bs := by
    obtain ⟨fuel, hf⟩ := h0
    obtain ⟨A, n, c, bs, e, hw⟩ := openNms47 (v := .slice a0 n0 c0) hf
    injection e with e1 e2 e3
    subst e1; subst e2; subst e3
    exact ⟨bs, hw⟩
  obtain ⟨a1, rfl, rfl, rfl, w1⟩ := open_string Try.underlying9 (hval 1 9 v1 rfl rfl) h1
  clear hA0 hval0
  refine (walk a0 n0 c0 b0 a1 W w0 w1).mono fun e W' ⟨he, bel⟩ => ?_
  subst he
  exact ⟨_, rfl, _, _, _, [], _, [], hW', trodAll_mk1 (shut_bool Try.underlying4 _), (trodAll_cons_mk (Below.trod laidOut (by kernel_rfl) (of_decide_eq_true (by kernel_rfl)) k0 bel lt0) (trodAll_cons_mk (shut_string Try.underlying9 w1) trodAll_mk0)), rfl, bel.frame _, fun h => by cases h⟩

theorem over : Rows.fnExactDropNameRow.holds Try.pinned (OpenSpec.ofChange Rows.fnExactDropNameSpec) :=
  OpenClaim.holds_of_wide 14 Try.f14 rfl rfl rfl rfl rfl rfl rfl ⟨rfl, rfl, rfl, rfl, rfl⟩ rfl rfl rfl rfl rfl (by kernel_rfl) Try.func14 (by kernel_rfl)
    (of_decide_eq_true (by kernel_rfl)) (by unfold Func.isWrapper; first | (rw [if_pos (by decide +kernel)]; kernel_rfl) | (rw [if_neg (by decide +kernel)]; exact ⟨rfl, rfl⟩))
    (fun os started H enc _ => lifted os started H enc)

/-- ████ THE STATEMENT ████ -/
theorem proved : Rows.FnExactDropNameSaid := over
#print axioms proved
end Go.Proofs.Ytengcjglkcmkbaa.fnExactDropName
