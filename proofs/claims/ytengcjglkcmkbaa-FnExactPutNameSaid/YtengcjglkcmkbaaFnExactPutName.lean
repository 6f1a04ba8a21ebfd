/- Proves the exact law of PutName: for all names and every further one the program returns the model's names and answer, in memory of its own, and leaves its arguments as they were.
   Conditions: none beyond the row's own reading of the input. The frame was written by the guide's proof-skeleton; the walk is ours. -/
import Derived.Test.YtengcjglkcmkbaaAgg
import Derived.Test.YtengcjglkcmkbaaNameLaw
import Derived.Test.YtengcjglkcmkbaaRows
import Derived.WalkKit
import Derived.ProofKit
import Derived.OpenShut
import Derived.ShutString
import Derived.ChangeOld
import Derived.Below
namespace Go.Proofs.Ytengcjglkcmkbaa.fnExactPutName
open Go.ChangeShapes Go.WideShapes Go.ChangeAt Go.RowKit
open Go.ChangeMaps (open_string shut_string)
set_option linter.unusedVariables false
set_option linter.unusedSimpArgs false

theorem own : ownKnob Try.prog.godebug = none := by kernel_rfl
theorem laidOut : laidOutB Try.prog = true := by kernel_rfl

/-- WHAT THE WALK IS TOLD OF A SLICE OF INTEGERS THAT CAME IN: it is nil; or it leads to a row of 'cap' cells, the numbers 'zs' (the first 'len' are its elements, the rest its spare room), each fitting its kind. -/
def IsRow (k : IntKind) (w : World) (a : Option Addr) (len cap : Nat) (zs : List Int) : Prop :=
  (a = none ∧ len = 0 ∧ cap = 0 ∧ zs = []) ∨
  ∃ x, a = some x ∧ len ≤ cap ∧ cap ≤ maxLen ∧ zs.length = cap ∧ (∀ i, i < zs.length → w.cell? (x.add i) = some (.int k (zs.getD i 0))) ∧ ∀ n ∈ zs, (Lit.int k n).wf = true

/-! ### STEP 1: THE WALK: the Go text returns true, AND WRITES NOTHING THAT WAS THERE: 'Below w.heap.size w w'' (Derived/Below.lean: '.refl', '.alloc', '.drew', '.setCell' at a new block, '.trans'). Open each 'IsRow' by 'rcases' AHEAD of 'go_enter'; part every test ahead of the walk. -/
set_option maxHeartbeats 4000000 in
set_option maxRecDepth 100000 in
theorem walk (a0 : Option Addr) (n0 c0 : Nat) (b0 : List Nm) (a1f0 : ByteArray) (a1f1 : Int) (w : World) (w0 : IsNmz w a0 n0 c0 b0) (w1f0 : a1f0.size ≤ maxLen) (w1f1 : (Lit.int .i64 a1f1).wf = true) :
    Calls Try.prog 13 #[.slice a0 n0 c0, .agg #[.string a1f0, .int .i64 a1f1]] w fun e w' => e = .returned (.bool true) ∧ Below w.heap.size w w' := by
  have hbig : ∀ (k : Nat) p, b0[k]? = some p → p.a.size ≤ 9223372036854775807 := fun k p hp => w0.2 k p hp
  have HS := Lib.hid hbig
  have HL := Lib.hid w0.1.1
  have hcap := w0.1.2.1
  have hmax := w0.1.2.2.1
  simp only [maxLen] at hmax
  have HA := Lib.hid (LNA.keep (LNA.start w0.1.2.2.2) (grown_alloc (grown_refl w none) (.cells #[.string a1f0, .int .i64 a1f1] 47)))
  have HV := Lib.hid (Blk.new w 47 #[.string a1f0, .int .i64 a1f1])
  have hz1 : a1f0.size ≤ 9223372036854775807 := w1f0
  clear hbig w0
  obtain ⟨X, hX⟩ : ∃ X, putNms b0 ⟨a1f0, a1f1⟩ = X := ⟨_, rfl⟩
  obtain ⟨ok, hok⟩ : ∃ ok, putNok b0 ⟨a1f0, a1f1⟩ = ok := ⟨_, rfl⟩
  obtain ⟨n1, hn1'⟩ : ∃ n1, X.length = n1 := ⟨_, rfl⟩
  have HI := Lib.hid (And.intro hX (And.intro hok hn1'))
  have tok : (ok != ok) = false := by simp
  clear hX hok hn1'
  have hn1 : n1 ≤ 1048576 := by rw [← HI.out.2.2, ← HI.out.1]; have := putNm_le b0 ⟨a1f0, a1f1⟩; omega
  go_enter Try.func13, Try.ntmps13
  go_wp2_with fail
  refine (szNameS_any _ _ _ _ _ HL.out HA.out.row (by omega) HS.out).mono ?_
  rintro e w1 ⟨v, rfl, hk, hv⟩
  replace HA := Lib.hid (HA.out.keep hk)
  replace HV := Lib.hid (HV.out.keep hk)
  clear hk
  rcases hv with rfl | ⟨hv0, hv1, hn, _⟩
  · have t0 : decide ((-1 : Int) < 0) = true := by decide
    go_wp2
    go_ret
    exact ⟨rfl, grown_below HA.out.2⟩
  have t0 : decide (v < 0) = false := decide_eq_false (by omega)
  have v0 := HV.out.cell 0
  have v1 := HV.out.cell 1
  go_wp2_with fail
  refine (szName_any _ _ _ _ hz1 hv0 hv1).mono ?_
  rintro e w2 ⟨rfl, hk⟩
  clear v0 v1
  replace HA := Lib.hid (HA.out.keep hk)
  replace HV := Lib.hid (HV.out.keep hk)
  clear hk
  by_cases hb2 : v < a1f0.size
  · rw [if_pos hb2]
    have t1 : decide ((-1 : Int) < 0) = true := by decide
    go_wp2
    go_ret
    exact ⟨rfl, grown_below HA.out.2⟩
  rw [if_neg hb2]
  have t1 : decide (v - (a1f0.size : Int) < 0) = false := decide_eq_false (by omega)
  go_wp2_with fail
  replace HA := Lib.hid (HA.out.keep (grown_drew (grown_refl _ _)))
  replace HV := Lib.hid (HV.out.keep (grown_drew (grown_refl _ _)))
  refine wp_region_held_drew (S := (fun w' => w'.cell? ⟨w.heap.size, 0, none⟩ = some (.string a1f0) ∧ w'.cell? ⟨w.heap.size, 1, none⟩ = some (.int .i64 a1f1))) (by kernel_rfl) ?_ (fun hHeld => ?_)
  · exact ⟨HV.out.cell 0, HV.out.cell 1⟩
  refine heldY 0 27 ?_
  refine heldY 2 29 ?_
  refine wpAnyH_ready (rs := [1]) (by kernel_rfl) (by simp) ?_
  refine AllReadyH.cons rfl (fun K hK => ?_) AllReadyH.nil
  go_simp
  go_at_call 36
  refine (toNameS_any _ _ _ _ _ HL.out HA.out.row hn).mono ?_
  rintro e w3 ⟨A3, c3, rfl, hl, ho, hk⟩
  have HR1 := Lib.hid (And.intro ho.row (ho.capn hl))
  replace HA := Lib.hid (HA.out.keep hk)
  replace HV := Lib.hid (HV.out.keep hk)
  clear hk hl ho
  refine hK.out _ _ ?_ (fun hHeld => ?_)
  · exact ⟨HV.out.cell 0, HV.out.cell 1⟩
  clear hK K
  try simp only [Act.put, List.setIfInBounds_toArray, List.set_cons_zero, List.set_cons_succ]
  refine wpAnyH_ready (rs := [3]) (by kernel_rfl) (by simp) ?_
  refine AllReadyH.cons rfl (fun K hK => ?_) AllReadyH.nil
  go_simp
  go_at_call 39
  refine (toName_any _ _ _).mono ?_
  rintro e w4 ⟨rfl, hk⟩
  replace HR1 := Lib.hid (And.intro (HR1.out.1.keepN hk) HR1.out.2)
  replace HA := Lib.hid (HA.out.keep hk)
  replace HV := Lib.hid (HV.out.keep hk)
  clear hk
  refine hK.out _ _ ?_ (fun hHeld => ?_)
  · exact ⟨HV.out.cell 0, HV.out.cell 1⟩
  clear hK K
  try simp only [Act.put, List.setIfInBounds_toArray, List.set_cons_zero, List.set_cons_succ]
  refine wpAnyH_ready (rs := [4]) (by kernel_rfl) (by simp) ?_
  refine AllReadyH.cons rfl (fun K hK => ?_) AllReadyH.nil
  go_simp
  go_at_call 30
  refine (specPut_val HI.out.1 HI.out.2.1 HI.out.2.2 HL.out HR1.out.1 hn HS.out hz1 HR1.out.2).mono ?_
  rintro e w5 ⟨A5, c5, rfl, hl, ho, hk⟩
  obtain ⟨loHW, hiHW, hx, qHW, rHW, vHW⟩ : ∃ lo hi, VNm w A5 n1 c5 X lo hi w5 ∧ w.heap.size ≤ lo ∧ lo ≤ hi ∧ w.heap.size < lo := ⟨_, _, VNm.made HA.out.2 hl ho hk, HA.out.2.size, hk.size, HV.out.lt⟩
  have HW := Lib.hid hx
  replace HA := Lib.hid (HA.out.keep hk)
  replace HV := Lib.hid (HV.out.keep hk)
  clear hk hl ho hx
  refine hK.out _ _ ?_ (fun hHeld => ?_)
  · exact ⟨HV.out.cell 0, HV.out.cell 1⟩
  clear hK K
  try simp only [Act.put, List.setIfInBounds_toArray, List.set_cons_zero, List.set_cons_succ]
  refine heldY 5 26 ?_
  refine heldY 6 32 ?_
  refine heldY 7 33 ?_
  refine heldY 8 6 ?_
  refine heldY 9 7 ?_
  refine wpAnyH_done (by kernel_rfl) ?_ _
  go_wp2_with fail
  refine (toNameS_any _ _ _ _ _ HL.out HA.out.row hn).mono ?_
  rintro e w6 ⟨A6, c6, rfl, hl, ho, hk⟩
  obtain ⟨loHX, hiHX, hx, qHX, rHX, dHWHX, vHX⟩ : ∃ lo hi, VNm w A6 n0 c6 b0 lo hi w6 ∧ w.heap.size ≤ lo ∧ lo ≤ hi ∧ hiHW ≤ lo ∧ w.heap.size < lo := ⟨_, _, VNm.made HA.out.2 hl ho hk, HA.out.2.size, hk.size, HW.out.2.2.2.1, HV.out.lt⟩
  have HX := Lib.hid hx
  replace HA := Lib.hid (HA.out.keep hk)
  replace HV := Lib.hid (HV.out.keep hk)
  replace HW := Lib.hid (HW.out.keep hk)
  clear hk hl ho hx
  have v0 := HV.out.cell 0
  have v1 := HV.out.cell 1
  go_wp2_with fail
  refine (toName_any _ _ _).mono ?_
  rintro e w7 ⟨rfl, hk⟩
  replace HA := Lib.hid (HA.out.keep hk)
  replace HV := Lib.hid (HV.out.keep hk)
  replace HW := Lib.hid (HW.out.keep hk)
  replace HX := Lib.hid (HX.out.keep hk)
  clear hk
  clear v0 v1
  go_wp2_with fail
  refine (putName_val HI.out.1 HI.out.2.1 HI.out.2.2 HX.out.2.1 HX.out.row hn HS.out hz1).mono ?_
  rintro e w8 ⟨A8, c8, rfl, hl, ho, hk⟩
  obtain ⟨loHG, hiHG, hx, qHG, rHG, dHWHG, dHXHG, vHG⟩ : ∃ lo hi, VNm w A8 n1 c8 X lo hi w8 ∧ w.heap.size ≤ lo ∧ lo ≤ hi ∧ hiHW ≤ lo ∧ hiHX ≤ lo ∧ w.heap.size < lo := ⟨_, _, VNm.made HA.out.2 hl ho hk, HA.out.2.size, hk.size, HW.out.2.2.2.1, HX.out.2.2.2.1, HV.out.lt⟩
  have HG := Lib.hid hx
  replace HA := Lib.hid (HA.out.keep hk)
  replace HV := Lib.hid (HV.out.keep hk)
  replace HW := Lib.hid (HW.out.keep hk)
  replace HX := Lib.hid (HX.out.keep hk)
  clear hk hl ho hx
  go_wp2_with fail
  refine (eqNameS_same _ _ _ _ _ _ _ HG.out.2.1 HG.out.row HW.out.row hn1).mono ?_
  rintro e w9 ⟨rfl, hk⟩
  replace HA := Lib.hid (HA.out.keep hk)
  replace HV := Lib.hid (HV.out.keep hk)
  replace HW := Lib.hid (HW.out.keep hk)
  replace HX := Lib.hid (HX.out.keep hk)
  replace HG := Lib.hid (HG.out.keep hk)
  clear hk
  go_wp2_with fail
  refine (toNameS_any _ _ _ _ _ HL.out HA.out.row hn).mono ?_
  rintro e w10 ⟨A10, c10, rfl, hl, ho, hk⟩
  have HR2 := Lib.hid (And.intro ho.row (ho.capn hl))
  replace HA := Lib.hid (HA.out.keep hk)
  replace HV := Lib.hid (HV.out.keep hk)
  replace HW := Lib.hid (HW.out.keep hk)
  replace HX := Lib.hid (HX.out.keep hk)
  replace HG := Lib.hid (HG.out.keep hk)
  clear hk hl ho
  go_wp2_with fail
  refine (eqNameS_same _ _ _ _ _ _ _ HX.out.2.1 HX.out.row HR2.out.1 hn).mono ?_
  rintro e w11 ⟨rfl, hk⟩
  replace HA := Lib.hid (HA.out.keep hk)
  replace HV := Lib.hid (HV.out.keep hk)
  replace HW := Lib.hid (HW.out.keep hk)
  replace HX := Lib.hid (HX.out.keep hk)
  replace HG := Lib.hid (HG.out.keep hk)
  clear hk
  obtain ⟨vX, hvX⟩ : ∃ v : Int, v = ((1 + 2 * n0 : Nat) : Int) := ⟨_, rfl⟩
  have tX : decide (vX < 0) = false := decide_eq_false (by omega)
  have HVX := Lib.hid hvX
  clear hvX
  go_wp2_with fail
  refine (markName_val HVX.out HX.out hn).mono ?_
  rintro e w12 ⟨rfl, ho, hk⟩
  replace HA := Lib.hid (HA.out.marked qHX hk)
  replace HV := Lib.hid (blk_out HV.out vHX hk)
  replace HW := Lib.hid (HW.out.marked (.inl dHWHX) qHX hk)
  replace HG := Lib.hid (HG.out.marked (.inr dHXHG) qHX hk)
  replace HX := Lib.hid (HX.out.self ho hk)
  clear ho hk
  go_wp2_with fail
  refine (eqNameS_same _ _ _ _ _ _ _ HG.out.2.1 HG.out.row HW.out.row hn1).mono ?_
  rintro e w13 ⟨rfl, hk⟩
  replace HA := Lib.hid (HA.out.keep hk)
  replace HV := Lib.hid (HV.out.keep hk)
  replace HW := Lib.hid (HW.out.keep hk)
  replace HX := Lib.hid (HX.out.keep hk)
  replace HG := Lib.hid (HG.out.keep hk)
  clear hk
  obtain ⟨vG, hvG⟩ : ∃ v : Int, v = ((1 + 2 * n1 : Nat) : Int) := ⟨_, rfl⟩
  have tG : decide (vG < 0) = false := decide_eq_false (by omega)
  have tGG : (vG != vG) = false := by simp
  have HVG := Lib.hid hvG
  clear hvG
  go_wp2_with fail
  refine (markName_val HVG.out HG.out hn1).mono ?_
  rintro e w14 ⟨rfl, ho, hk⟩
  replace HA := Lib.hid (HA.out.marked qHG hk)
  replace HV := Lib.hid (blk_out HV.out vHG hk)
  replace HW := Lib.hid (HW.out.marked (.inl dHWHG) qHG hk)
  replace HX := Lib.hid (HX.out.marked (.inl dHXHG) qHG hk)
  replace HG := Lib.hid (HG.out.self ho hk)
  clear ho hk
  go_wp2_with fail
  refine (heldName_val HVG.out HG.out hn1).mono ?_
  rintro e w15 ⟨rfl, hk⟩
  replace HA := Lib.hid (HA.out.keep hk)
  replace HV := Lib.hid (HV.out.keep hk)
  replace HW := Lib.hid (HW.out.keep hk)
  replace HX := Lib.hid (HX.out.keep hk)
  replace HG := Lib.hid (HG.out.keep hk)
  clear hk
  go_wp2_with fail
  replace HA := Lib.hid (HA.out.keep (grown_drew (grown_refl _ _)))
  replace HV := Lib.hid (HV.out.keep (grown_drew (grown_refl _ _)))
  replace HW := Lib.hid (HW.out.keep (grown_drew (grown_refl _ _)))
  replace HX := Lib.hid (HX.out.keep (grown_drew (grown_refl _ _)))
  replace HG := Lib.hid (HG.out.keep (grown_drew (grown_refl _ _)))
  refine wp_region_held_drew (S := (fun w' => w'.cell? ⟨w.heap.size, 0, none⟩ = some (.string a1f0) ∧ w'.cell? ⟨w.heap.size, 1, none⟩ = some (.int .i64 a1f1))) (by kernel_rfl) ?_ (fun hHeld => ?_)
  · exact ⟨HV.out.cell 0, HV.out.cell 1⟩
  refine heldY 0 85 ?_
  refine heldY 2 87 ?_
  refine wpAnyH_ready (rs := [1]) (by kernel_rfl) (by simp) ?_
  refine AllReadyH.cons rfl (fun K hK => ?_) AllReadyH.nil
  go_simp
  go_at_call 36
  refine (toNameS_any _ _ _ _ _ HL.out HA.out.row hn).mono ?_
  rintro e w16 ⟨A16, c16, rfl, hl, ho, hk⟩
  have HR3 := Lib.hid (And.intro ho.row (ho.capn hl))
  replace HA := Lib.hid (HA.out.keep hk)
  replace HV := Lib.hid (HV.out.keep hk)
  replace HW := Lib.hid (HW.out.keep hk)
  replace HX := Lib.hid (HX.out.keep hk)
  replace HG := Lib.hid (HG.out.keep hk)
  clear hk hl ho
  refine hK.out _ _ ?_ (fun hHeld => ?_)
  · exact ⟨HV.out.cell 0, HV.out.cell 1⟩
  clear hK K
  try simp only [Act.put, List.setIfInBounds_toArray, List.set_cons_zero, List.set_cons_succ]
  refine wpAnyH_ready (rs := [3]) (by kernel_rfl) (by simp) ?_
  refine AllReadyH.cons rfl (fun K hK => ?_) AllReadyH.nil
  go_simp
  go_at_call 39
  refine (toName_any _ _ _).mono ?_
  rintro e w17 ⟨rfl, hk⟩
  replace HR3 := Lib.hid (And.intro (HR3.out.1.keepN hk) HR3.out.2)
  replace HA := Lib.hid (HA.out.keep hk)
  replace HV := Lib.hid (HV.out.keep hk)
  replace HW := Lib.hid (HW.out.keep hk)
  replace HX := Lib.hid (HX.out.keep hk)
  replace HG := Lib.hid (HG.out.keep hk)
  clear hk
  refine hK.out _ _ ?_ (fun hHeld => ?_)
  · exact ⟨HV.out.cell 0, HV.out.cell 1⟩
  clear hK K
  try simp only [Act.put, List.setIfInBounds_toArray, List.set_cons_zero, List.set_cons_succ]
  refine wpAnyH_ready (rs := [4]) (by kernel_rfl) (by simp) ?_
  refine AllReadyH.cons rfl (fun K hK => ?_) AllReadyH.nil
  go_simp
  go_at_call 29
  refine (putName_val HI.out.1 HI.out.2.1 HI.out.2.2 HL.out HR3.out.1 hn HS.out hz1).mono ?_
  rintro e w18 ⟨A18, c18, rfl, hl, ho, hk⟩
  obtain ⟨loHH, hiHH, hx, qHH, rHH, dHWHH, dHXHH, dHGHH, vHH⟩ : ∃ lo hi, VNm w A18 n1 c18 X lo hi w18 ∧ w.heap.size ≤ lo ∧ lo ≤ hi ∧ hiHW ≤ lo ∧ hiHX ≤ lo ∧ hiHG ≤ lo ∧ w.heap.size < lo := ⟨_, _, VNm.made HA.out.2 hl ho hk, HA.out.2.size, hk.size, HW.out.2.2.2.1, HX.out.2.2.2.1, HG.out.2.2.2.1, HV.out.lt⟩
  have HH := Lib.hid hx
  replace HA := Lib.hid (HA.out.keep hk)
  replace HV := Lib.hid (HV.out.keep hk)
  replace HW := Lib.hid (HW.out.keep hk)
  replace HX := Lib.hid (HX.out.keep hk)
  replace HG := Lib.hid (HG.out.keep hk)
  clear hk hl ho hx
  refine hK.out _ _ ?_ (fun hHeld => ?_)
  · exact ⟨HV.out.cell 0, HV.out.cell 1⟩
  clear hK K
  try simp only [Act.put, List.setIfInBounds_toArray, List.set_cons_zero, List.set_cons_succ]
  refine heldY 5 84 ?_
  refine heldY 6 90 ?_
  refine heldY 7 91 ?_
  refine heldY 8 14 ?_
  refine heldY 9 15 ?_
  refine wpAnyH_done (by kernel_rfl) ?_ _
  go_wp2_with fail
  refine (eqNameS_same _ _ _ _ _ _ _ HH.out.2.1 HH.out.row HW.out.row hn1).mono ?_
  rintro e w19 ⟨rfl, hk⟩
  replace HA := Lib.hid (HA.out.keep hk)
  replace HV := Lib.hid (HV.out.keep hk)
  replace HW := Lib.hid (HW.out.keep hk)
  replace HX := Lib.hid (HX.out.keep hk)
  replace HG := Lib.hid (HG.out.keep hk)
  replace HH := Lib.hid (HH.out.keep hk)
  clear hk
  go_wp2_with fail
  refine (heldName_val HVG.out HG.out hn1).mono ?_
  rintro e w20 ⟨rfl, hk⟩
  replace HA := Lib.hid (HA.out.keep hk)
  replace HV := Lib.hid (HV.out.keep hk)
  replace HW := Lib.hid (HW.out.keep hk)
  replace HX := Lib.hid (HX.out.keep hk)
  replace HG := Lib.hid (HG.out.keep hk)
  replace HH := Lib.hid (HH.out.keep hk)
  clear hk
  go_wp2
  go_ret
  exact ⟨rfl, grown_below HA.out.2⟩

/-! ### THE ROW's STEP: WRITTEN OUT: LEAVE IT -/
set_option maxRecDepth 100000 in
theorem lifted (os : Os) (started : os.Started) (H : Type) (enc : TypeId × Value → H) :
    ReturnsInHanded {} Try.checked os 13 .any (Rows.fnExactPutNameSpec.pre6 enc Try.prog Try.f13 Rows.fnExactPutNameRow.domain false) (Rows.fnExactPutNameSpec.post enc Try.prog Try.f13 false true false false) := by
  refine returnsInHanded_of_change (C := Try.checked) own started (by kernel_rfl) Try.func13
    (ChangeSpec.witness6 (enc := enc) (C := Try.checked) false ⟨#[], #[.slice none 0 0, .agg #[.string ByteArray.empty, .int .i64 0]], []⟩ 8 (by kernel_rfl) (by kernel_rfl) (by kernel_rfl) (by kernel_rfl)) ?_
  intro W base args ds gs before hval0 hW hcnd _
  have hval : ∀ (j : Nat) t v, Try.f13.params[j]? = some t → args[j]? = some v → Value.okWide Try.prog W .any base t v := hval0
  have hW' := hW
  obtain ⟨p, q, hA0, hV, rfl, hfz, hnd⟩ := hW
  have hA : DataW.TrodAll enc Try.prog W 0 (fun _ => true) true Try.f13.params.toList args.toList ds p := hA0
  rw [Try.params13] at hA hval
  obtain ⟨v0, vs0, d0, ds0, p0, q0, hargs, rfl, rfl, h0, r0⟩ := trodAll_cons hA
  obtain ⟨v1, vs1, d1, ds1, p1, q1, rfl, rfl, rfl, h1, r1⟩ := trodAll_cons r0
  obtain ⟨rfl, rfl, rfl⟩ := trodAll_nil r1
  obtain rfl : args = #[v0, v1] := by cases args; simp_all
  obtain ⟨rfl, rfl⟩ := trodVars_none hV
  have k0 := h0
  have lt0 : ∀ x ∈ p0, x.block < W.heap.size := by obtain ⟨m, hm⟩ := k0; exact DataW.trod_lt m _ _ _ hm
  obtain ⟨a0, n0, c0, rfl⟩ := okWide_slice Try.underlying42 (hval 0 42 v0 rfl rfl)
  obtain ⟨b0, w0⟩ : ∃ bs, IsNmz W a0 n0 c0 bs := by
    obtain ⟨fuel, hf⟩ := h0
    obtain ⟨A, n, c, bs, e, hw⟩ := openNms47 (v := .slice a0 n0 c0) hf
    injection e with e1 e2 e3
    subst e1; subst e2; subst e3
    exact ⟨bs, hw⟩
  have k1 := h1
  have lt1 : ∀ x ∈ p1, x.block < W.heap.size := by obtain ⟨m, hm⟩ := k1; exact DataW.trod_lt m _ _ _ hm
  obtain ⟨c1, rfl, l1, f1⟩ := open_agg Try.underlying47 (by kernel_rfl) (by kernel_rfl) (hval 1 47 v1 rfl rfl) h1
  obtain ⟨v1f0, v1f1, rfl⟩ := list2 l1
  obtain ⟨n1f0, y1f0, t1f0⟩ := f1 0 _ _ rfl rfl
  obtain ⟨a1f0, e1f0, _, w1f0⟩ := DataW.trod_string Try.underlying9 t1f0
  obtain ⟨rfl, _⟩ := List.cons.inj e1f0
  obtain ⟨n1f1, y1f1, t1f1⟩ := f1 1 _ _ rfl rfl
  obtain ⟨a1f1, e1f1, _, w1f1⟩ := DataW.trod_int Try.underlying3 t1f1
  obtain ⟨rfl, _⟩ := List.cons.inj e1f1
  clear hA0 hval0
  refine (walk a0 n0 c0 b0 a1f0 a1f1 W w0 w1f0 w1f1).mono fun e W' ⟨he, bel⟩ => ?_
  subst he
  exact ⟨_, rfl, _, _, _, [], _, [], hW', trodAll_mk1 (shut_bool Try.underlying4 _), (trodAll_cons_mk (Below.trod laidOut (by kernel_rfl) (of_decide_eq_true (by kernel_rfl)) k0 bel lt0) (trodAll_cons_mk (Below.trod laidOut (by kernel_rfl) (of_decide_eq_true (by kernel_rfl)) k1 bel lt1) trodAll_mk0)), rfl, bel.frame _, fun h => by cases h⟩

theorem over : Rows.fnExactPutNameRow.holds Try.pinned (OpenSpec.ofChange Rows.fnExactPutNameSpec) :=
  OpenClaim.holds_of_wide 13 Try.f13 rfl rfl rfl rfl rfl rfl rfl ⟨rfl, rfl, rfl, rfl, rfl⟩ rfl rfl rfl rfl rfl (by kernel_rfl) Try.func13 (by kernel_rfl)
    (of_decide_eq_true (by kernel_rfl)) (by unfold Func.isWrapper; first | (rw [if_pos (by decide +kernel)]; kernel_rfl) | (rw [if_neg (by decide +kernel)]; exact ⟨rfl, rfl⟩))
    (fun os started H enc _ => lifted os started H enc)

/-- ████ THE STATEMENT ████ -/
theorem proved : Rows.FnExactPutNameSaid := over
#print axioms proved
end Go.Proofs.Ytengcjglkcmkbaa.fnExactPutName
