/- For every code, LoadTable answers of the drawn save as its model; SaveTable of the table, with the number, is the save, and with another sum it cannot be loaded: proved.
   Conditions: none beyond the row's own reading of the input. The frame was written by the guide's proof-skeleton; the walk is ours. -/
import Derived.Test.YtlldmbocaloogaaSaveFacts
import Derived.Test.YtlldmbocaloogaaRows
import Derived.WalkKit
import Derived.ProofKit
import Derived.OpenShut
import Derived.ShutString
import Derived.ChangeOld
import Derived.Below
namespace Go.Proofs.Ytlldmbocaloogaa.fnLoadTable
open Go.ChangeShapes Go.WideShapes Go.ChangeAt Go.RowKit
open Go.ChangeMaps (open_string shut_string)
set_option linter.unusedVariables false
set_option linter.unusedSimpArgs false

theorem own : ownKnob Try.prog.godebug = none := by kernel_rfl
theorem laidOut : laidOutB Try.prog = true := by kernel_rfl

/-- WHAT THE WALK IS TOLD OF A SLICE OF INTEGERS THAT CAME IN: it is nil; or it leads to a row of 'cap' cells, the numbers 'zs' (the first 'len' are its elements, the rest its spare room), each fitting its kind. -/
def IsRow (k : IntKind) (w : World) (a : Option Addr) (len cap : Nat) (zs : List Int) : Prop :=
  (a = none ∧ len = 0 ∧ cap = 0 ∧ zs = []) ∨
  ∃ x, a = some x ∧ len ≤ cap ∧ cap ≤ maxLen ∧ zs.length = cap ∧ (∀ i, i < zs.length → w.cell? (x.add i) = some (.int k (zs.getD i 0))) ∧ ∀ n ∈ zs, (Lit.int k n).wf = true

/-! ### STEP 1: THE WALK: the Go text returns true, AND WRITES NOTHING THAT WAS THERE: 'Below w.heap.size w w'' (Derived/Below.lean: '.refl', '.alloc', '.drew', '.setCell' at a new block, '.trans'). Open each 'IsRow' by 'rcases' AHEAD of 'go_enter'; part every test ahead of the walk. -/
set_option maxHeartbeats 4000000 in
set_option maxRecDepth 100000 in
theorem walk (a0 : Option Addr) (len0 cap0 : Nat) (z0 : List Int) (w : World) (w0 : IsRow .u8 w a0 len0 cap0 z0) :
    Calls Try.prog 5 #[.slice a0 len0 cap0] w fun e w' => e = .returned (.bool true) ∧ Below w.heap.size w w' := by
  obtain ⟨hl, hc, hb⟩ := bytes_of w0
  by_cases hbig : 1048576 < len0
  · go_enter Try.func5, Try.ntmps5
    go_wp2
    go_ret
    exact ⟨rfl, Below.refl _ _⟩
  · go_enter Try.func5, Try.ntmps5
    go_wp2_with fail
    refine (drawLoadTable_any w a0 len0 cap0 hl hc hb).mono ?_
    rintro e wa ⟨N, A, n, c, X, S, rfl, hln, h48, hcap, hmax, hr, hbw⟩
    have HS := Lib.hid (LSV.start hr hbw N S n c)
    have HL := Lib.hid (And.intro hln (And.intro hcap hmax))
    have hn : n ≤ 1048576 := by omega
    clear hb w0 hln hr hbw hcap hmax
    obtain ⟨T, ok, hV⟩ : ∃ T ok, loadV N X S = (T, ok) := ⟨_, _, rfl⟩
    have HV := Lib.hid hV
    have HZ := Lib.hid (loadT_small hV)
    have tok : (ok != ok) = false := by simp
    obtain ⟨bHS0, bHS1, bHS2⟩ := HS.out.cells
    go_wp2_with fail
    clear bHS0 bHS1 bHS2
    refine (load_val HV.out HL.out.1 HS.out.2.1 hn).mono ?_
    rintro e w1 ⟨A1, n1, c1, cs1, rfl, hl, hs, ho, hk⟩
    have K1 : w1.grownBy (w1.alloc (.cells #[.slice A1 n1 c1] 31)) none := grown_alloc (grown_refl _ _) _
    have HT := Lib.hid (LV.made (n := n1) (c := c1) HS.out.2.2 ho hk)
    have MHT := Lib.hid (And.intro hl hs)
    have hnHT : n1 ≤ 1048576 := by have h8 := HZ.out.1; rw [← hl, ← ll_length, hs]; omega
    replace HS := Lib.hid ((HS.out.keep hk).keep K1)
    clear hk ho hl hs K1
    obtain ⟨bHS0, bHS1, bHS2⟩ := HS.out.cells
    have bHT := HT.out.cell
    go_wp2_with fail
    clear bHS0 bHS1 bHS2 bHT
    refine (specLoad_val HV.out HL.out.1 HS.out.2.1 hn HL.out.2.1 HL.out.2.2).mono ?_
    rintro e w2 ⟨A2, n2, c2, cs2, rfl, hl, hs, ho, hk⟩
    have K2 : w2.grownBy (w2.alloc (.cells #[.slice A2 n2 c2] 31)) none := grown_alloc (grown_refl _ _) _
    have HU := Lib.hid (LV.made (n := n2) (c := c2) HS.out.2.2 ho hk)
    have MHU := Lib.hid (And.intro hl hs)
    have hnHU : n2 ≤ 1048576 := by have h8 := HZ.out.1; rw [← hl, ← ll_length, hs]; omega
    replace HS := Lib.hid ((HS.out.keep hk).keep K2)
    replace HT := Lib.hid ((HT.out.keep hk).keep K2)
    clear hk ho hl hs K2
    obtain ⟨bHS0, bHS1, bHS2⟩ := HS.out.cells
    have bHT := HT.out.cell
    have bHU := HU.out.cell
    go_wp2_with fail
    clear bHS0 bHS1 bHS2 bHT bHU
    refine (sameTable_val (V := true) (decide_eq_true (MHT.out.2.trans MHU.out.2.symm)) MHT.out.1 MHU.out.1 HT.out.2.1 HU.out.2.1 hnHT hnHU (ll_small MHT.out.2 HZ.out.2) (ll_small MHU.out.2 HZ.out.2)).mono ?_
    rintro e w3 ⟨rfl, hk⟩
    replace HS := Lib.hid (HS.out.keep hk)
    replace HT := Lib.hid (HT.out.keep hk)
    replace HU := Lib.hid (HU.out.keep hk)
    clear hk
    obtain ⟨bHS0, bHS1, bHS2⟩ := HS.out.cells
    have bHT := HT.out.cell
    have bHU := HU.out.cell
    rcases load_ways hV with ⟨rfl, rfl⟩ | ⟨rfl, htv, hsv, hs0, hs1, T', hno⟩
    · obtain rfl : cs1 = [] := by have h := congrArg List.length MHT.out.2; rw [ll_length] at h; exact List.eq_nil_of_length_eq_zero h
      obtain rfl : 0 = n1 := MHT.out.1
      clear hV
      go_wp2_with fail
      clear bHS0 bHS1 bHS2 bHT bHU
      refine (sameTable_val (V := true) (ls := []) (ms := []) (decide_eq_true rfl) rfl rfl HT.out.2.1 TRow.nil (by omega) (by omega) (fun l hl => by simp at hl) (fun l hl => by simp at hl)).mono ?_
      rintro e w4 ⟨rfl, hk⟩
      replace HS := Lib.hid (HS.out.keep hk)
      replace HT := Lib.hid (HT.out.keep hk)
      replace HU := Lib.hid (HU.out.keep hk)
      clear hk
      go_wp2_with (go_at_call 14; refine (alive_any _).mono ?_; rintro e w' ⟨rfl, rfl⟩)
      go_ret
      exact ⟨rfl, HS.out.2.2⟩
    · have HD := Lib.hid (And.intro hno (And.intro htv hsv))
      clear hV hno htv hsv tok
      go_wp2_with fail
      clear bHS0 bHS1 bHS2 bHT bHU
      refine (load_val HD.out.1 HL.out.1 HS.out.2.1 hn).mono ?_
      rintro e w4 ⟨A4, n4, c4, cs4, rfl, hl, hs, ho, hk⟩
      have K4 : w4.grownBy (w4.alloc (.cells #[.slice A4 n4 c4] 31)) none := grown_alloc (grown_refl _ _) _
      have HW := Lib.hid (LV.made (n := n4) (c := c4) HS.out.2.2 ho hk)
      have MHW := Lib.hid (And.intro hl hs)
      have hnHW : n4 ≤ 1048576 := by have h8 := (loadT_small HD.out.1).1; rw [← hl, ← ll_length, hs]; omega
      replace HS := Lib.hid ((HS.out.keep hk).keep K4)
      replace HT := Lib.hid ((HT.out.keep hk).keep K4)
      replace HU := Lib.hid ((HU.out.keep hk).keep K4)
      clear hk ho hl hs K4
      obtain ⟨bHS0, bHS1, bHS2⟩ := HS.out.cells
      have bHT := HT.out.cell
      have bHU := HU.out.cell
      have bHW := HW.out.cell
      go_wp2_with fail
      clear bHS0 bHS1 bHS2 bHT bHU bHW
      clear HU HW
      refine wp_region_held_drew (S := (fun w' => w'.cell? ⟨wa.heap.size, 0, none⟩ = some (.int .i64 N) ∧ w'.cell? ⟨wa.heap.size, 1, none⟩ = some (.slice A n c) ∧ w'.cell? ⟨wa.heap.size, 2, none⟩ = some (.int .i64 S) ∧ w'.cell? ⟨w1.heap.size, 0, none⟩ = some (.slice A1 n1 c1))) (by kernel_rfl) ?_ (fun hHeld => ?_)
      · exact ⟨HS.out.cells.1, HS.out.cells.2.1, HS.out.cells.2.2, HT.out.cell⟩
      replace HS := Lib.hid (HS.out.keep (grown_drew (grown_refl _ none)))
      replace HT := Lib.hid (HT.out.keep (grown_drew (grown_refl _ none)))
      refine heldY 0 54 ?_
      refine heldY 1 55 ?_
      refine heldY 2 56 ?_
      refine heldY 4 58 ?_
      refine wpAnyH_ready (rs := [3]) (by kernel_rfl) (by simp) ?_
      refine AllReadyH.cons rfl (fun K hK => ?_) AllReadyH.nil
      go_simp
      go_at_call 16
      refine (saveTable_val (show saveV (ll cs1) N = (N, X, S) by rw [MHT.out.2]; exact HD.out.2.2) MHT.out.1 HT.out.2.1 hnHT (ll_small MHT.out.2 HZ.out.2)).mono ?_
      rintro e w5 ⟨A5, n5, c5, rfl, hl5, ho, hk⟩
      obtain rfl : n = n5 := HL.out.1.symm.trans hl5
      replace HS := Lib.hid (HS.out.keep hk)
      replace HT := Lib.hid (HT.out.keep hk)
      have HR := Lib.hid (VOwn.row ho)
      clear hk ho hl5
      refine hK.out _ _ ?_ (fun hHeld => ?_)
      · exact ⟨HS.out.cells.1, HS.out.cells.2.1, HS.out.cells.2.2, HT.out.cell⟩
      clear hK K
      try simp only [Act.put, List.setIfInBounds_toArray, List.set_cons_zero, List.set_cons_succ]
      refine wpAnyH_ready (rs := [5]) (by kernel_rfl) (by simp) ?_
      refine AllReadyH.cons rfl (fun K hK => ?_) AllReadyH.nil
      go_simp
      go_at_call 17
      refine (sameSave_same _ _ _ _ _ _ _ X _ HL.out.1 HR.out HS.out.2.1 hn).mono ?_
      rintro e w6 ⟨rfl, hk⟩
      replace HS := Lib.hid (HS.out.keep hk)
      replace HT := Lib.hid (HT.out.keep hk)
      clear hk
      refine hK.out _ _ ?_ (fun hHeld => ?_)
      · exact ⟨HS.out.cells.1, HS.out.cells.2.1, HS.out.cells.2.2, HT.out.cell⟩
      clear hK K
      try simp only [Act.put, List.setIfInBounds_toArray, List.set_cons_zero, List.set_cons_succ]
      refine heldY 6 60 ?_
      refine heldY 7 61 ?_
      refine heldY 8 62 ?_
      refine heldY 9 63 ?_
      refine heldY 10 2 ?_
      refine wpAnyH_done (by kernel_rfl) ?_ _
      go_wp2
      go_ret
      exact ⟨rfl, HS.out.2.2⟩

/-! ### THE ROW's STEP: WRITTEN OUT: LEAVE IT -/
set_option maxRecDepth 100000 in
theorem lifted (os : Os) (started : os.Started) (H : Type) (enc : TypeId × Value → H) :
    ReturnsInHanded {} Try.checked os 5 .any (Rows.fnLoadTableSpec.pre6 enc Try.prog Try.f5 Rows.fnLoadTableRow.domain false) (Rows.fnLoadTableSpec.post enc Try.prog Try.f5 false true false false) := by
  refine returnsInHanded_of_change (C := Try.checked) own started (by kernel_rfl) Try.func5
    (ChangeSpec.witness6 (enc := enc) (C := Try.checked) false ⟨#[], #[.slice none 0 0], []⟩ 8 (by kernel_rfl) (by kernel_rfl) (by kernel_rfl) (by kernel_rfl)) ?_
  intro W base args ds gs before hval0 hW hcnd _
  have hval : ∀ (j : Nat) t v, Try.f5.params[j]? = some t → args[j]? = some v → Value.okWide Try.prog W .any base t v := hval0
  have hW' := hW
  obtain ⟨p, q, hA0, hV, rfl, hfz, hnd⟩ := hW
  have hA : DataW.TrodAll enc Try.prog W 0 (fun _ => true) true Try.f5.params.toList args.toList ds p := hA0
  rw [Try.params5] at hA hval
  obtain ⟨v0, vs0, d0, ds0, p0, q0, hargs, rfl, rfl, h0, r0⟩ := trodAll_cons hA
  obtain ⟨rfl, rfl, rfl⟩ := trodAll_nil r0
  obtain rfl : args = #[v0] := by cases args; simp_all
  obtain ⟨rfl, rfl⟩ := trodVars_none hV
  obtain ⟨a0, len0, cap0, rfl⟩ := okWide_slice Try.underlying22 (hval 0 22 v0 rfl rfl)
  have k0 := h0
  have lt0 : ∀ x ∈ p0, x.block < W.heap.size := by obtain ⟨m, hm⟩ := k0; exact DataW.trod_lt m _ _ _ hm
  obtain ⟨z0, w0⟩ : ∃ zs, IsRow .u8 W a0 len0 cap0 zs := by
    obtain ⟨fuel, hf⟩ := h0
    rcases open_ints Try.underlying22 Try.underlying5 (by kernel_rfl) hf with ⟨hcs, _⟩ | ⟨x, l, c, zs, hcs, _, hl, hm, hz, _, hcell, hwz⟩
    · simp [Value.cells] at hcs
      obtain ⟨rfl, rfl, rfl⟩ := hcs
      exact ⟨[], .inl ⟨rfl, rfl, rfl, rfl⟩⟩
    · simp [Value.cells] at hcs
      obtain ⟨rfl, rfl, rfl⟩ := hcs
      exact ⟨zs, .inr ⟨_, rfl, hl, hm, by simpa using hz, hcell, hwz⟩⟩
  clear hA0 hval0
  refine (walk a0 len0 cap0 z0 W w0).mono fun e W' ⟨he, bel⟩ => ?_
  subst he
  exact ⟨_, rfl, _, _, _, [], _, [], hW', trodAll_mk1 (shut_bool Try.underlying4 _), (trodAll_cons_mk (Below.trod laidOut (by kernel_rfl) (of_decide_eq_true (by kernel_rfl)) k0 bel lt0) trodAll_mk0), rfl, bel.frame _, fun h => by cases h⟩

theorem over : Rows.fnLoadTableRow.holds Try.pinned (OpenSpec.ofChange Rows.fnLoadTableSpec) :=
  OpenClaim.holds_of_wide 5 Try.f5 rfl rfl rfl rfl rfl rfl rfl ⟨rfl, rfl, rfl, rfl, rfl⟩ rfl rfl rfl rfl rfl (by kernel_rfl) Try.func5 (by kernel_rfl)
    (of_decide_eq_true (by kernel_rfl)) (by unfold Func.isWrapper; first | (rw [if_pos (by decide +kernel)]; kernel_rfl) | (rw [if_neg (by decide +kernel)]; exact ⟨rfl, rfl⟩))
    (fun os started H enc _ => lifted os started H enc)

/-- ████ THE STATEMENT ████ -/
theorem proved : Rows.FnLoadTableSaid := over
#print axioms proved
end Go.Proofs.Ytlldmbocaloogaa.fnLoadTable
