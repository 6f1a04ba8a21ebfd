/- For every code, NewerSave answers of the drawn saves as its model; there is a table exactly if one of both can be loaded, it is valid, and no other one that can be has a greater number: proved.
   Conditions: none beyond the row's own reading of the input. The frame was written by the guide's proof-skeleton; the walk is ours. -/
import Derived.Test.YtlldmbocaloogaaSaveFacts
import Derived.Test.YtlldmbocaloogaaRows
import Derived.WalkKit
import Derived.ProofKit
import Derived.OpenShut
import Derived.ShutString
import Derived.ChangeOld
import Derived.Below
namespace Go.Proofs.Ytlldmbocaloogaa.fnNewerSave
open Go.ChangeShapes Go.WideShapes Go.ChangeAt Go.RowKit
open Go.ChangeMaps (open_string shut_string)
set_option linter.unusedVariables false

theorem own : ownKnob Try.prog.godebug = none := by kernel_rfl
theorem laidOut : laidOutB Try.prog = true := by kernel_rfl

/-- WHAT THE WALK IS TOLD OF A SLICE OF INTEGERS THAT CAME IN: it is nil; or it leads to a row of 'cap' cells, the numbers 'zs' (the first 'len' are its elements, the rest its spare room), each fitting its kind. -/
def IsRow (k : IntKind) (w : World) (a : Option Addr) (len cap : Nat) (zs : List Int) : Prop :=
  (a = none ∧ len = 0 ∧ cap = 0 ∧ zs = []) ∨
  ∃ x, a = some x ∧ len ≤ cap ∧ cap ≤ maxLen ∧ zs.length = cap ∧ (∀ i, i < zs.length → w.cell? (x.add i) = some (.int k (zs.getD i 0))) ∧ ∀ n ∈ zs, (Lit.int k n).wf = true

/-! ### STEP 1: THE WALK: the Go text returns true, AND WRITES NOTHING THAT WAS THERE: 'Below w.heap.size w w'' (Derived/Below.lean: '.refl', '.alloc', '.drew', '.setCell' at a new block, '.trans'). Open each 'IsRow' by 'rcases' AHEAD of 'go_enter'; part every test ahead of the walk. -/
set_option maxHeartbeats 4000000 in
set_option maxRecDepth 100000 in
theorem walk (a0 : Option Addr) (len0 cap0 : Nat) (z0 : List Int) (w : World) (w0 : IsRow .u8 w a0 len0 cap0 z0) :
    Calls Try.prog 6 #[.slice a0 len0 cap0] w fun e w' => e = .returned (.bool true) ∧ Below w.heap.size w w' := by
  obtain ⟨hl, hc, hb⟩ := bytes_of w0
  by_cases hbig : 1048576 < len0
  · go_enter Try.func6, Try.ntmps6
    go_wp2
    go_ret
    exact ⟨rfl, Below.refl _ _⟩
  · go_enter Try.func6, Try.ntmps6
    go_wp2_with fail
    refine (drawNewerSave_any w a0 len0 cap0 hl hc hb).mono ?_
    rintro e wa ⟨N, A, n, c, X, S, N', A', n', c', X', S', rfl, hp, hp', hr, hr', hbw⟩
    have HS := Lib.hid ((LSV.start hr hbw N S n c).keep (grown_alloc (grown_refl _ none) (.cells #[.int .i64 N', .slice A' n' c', .int .i64 S'] 35)))
    have hu := LSV.start (wr := wa.alloc (.cells #[.int .i64 N, .slice A n c, .int .i64 S] 35)) (VRow.here (VRow.alloc hr' _)) (Below.and_kept hbw (grown_alloc (grown_refl _ none) (.cells #[.int .i64 N, .slice A n c, .int .i64 S] 35))) N' S' n' c'
    simp only [size_alloc1] at hu
    have HU := Lib.hid hu
    have HL := Lib.hid hp
    have HL' := Lib.hid hp'
    have hn : n ≤ 1048576 := by omega
    have hn' : n' ≤ 1048576 := by omega
    clear hb w0 hp hp' hr hr' hbw hu
    obtain ⟨T, M, ok, hV⟩ : ∃ T M ok, newV N X S N' X' S' = (T, M, ok) := ⟨_, _, _, rfl⟩
    obtain ⟨T1, o1, h1⟩ : ∃ T o, loadV N X S = (T, o) := ⟨_, _, rfl⟩
    obtain ⟨T2, o2, h2⟩ : ∃ T o, loadV N' X' S' = (T, o) := ⟨_, _, rfl⟩
    obtain ⟨hsm, hw⟩ := new_ways hV h1 h2
    have HV := Lib.hid (And.intro hV (And.intro h1 h2))
    have HZ := Lib.hid hsm
    have tM : (M != M) = false := by simp
    have tok : (ok != ok) = false := by simp
    have HW := Lib.hid hw
    clear hV h1 h2 hsm hw
    obtain ⟨bHS0, bHS1, bHS2⟩ := HS.out.cells
    obtain ⟨bHU0, bHU1, bHU2⟩ := HU.out.cells
    go_wp2_with fail
    clear bHS0 bHS1 bHS2 bHU0 bHU1 bHU2
    refine (newer_val HV.out.1 HL.out.1 HS.out.2.1 hn HL'.out.1 HU.out.2.1 hn').mono ?_
    rintro e w1 ⟨A1, n1, c1, cs1, rfl, hl, hs, ho, hk⟩
    have K1 : w1.grownBy (w1.alloc (.cells #[.slice A1 n1 c1] 31)) none := grown_alloc (grown_refl _ _) _
    have HT := Lib.hid (LV.made (n := n1) (c := c1) HS.out.2.2 ho hk)
    have MHT := Lib.hid (And.intro hl hs)
    have hnHT : n1 ≤ 1048576 := by have h8 := HZ.out.1; rw [← hl, ← ll_length, hs]; omega
    replace HS := Lib.hid ((HS.out.keep hk).keep K1)
    replace HU := Lib.hid ((HU.out.keep hk).keep K1)
    clear hk ho hl hs K1
    obtain ⟨bHS0, bHS1, bHS2⟩ := HS.out.cells
    obtain ⟨bHU0, bHU1, bHU2⟩ := HU.out.cells
    have bHT := HT.out.cell
    go_wp2_with fail
    clear bHS0 bHS1 bHS2 bHU0 bHU1 bHU2 bHT
    refine (specNewer_val HV.out.1 HL.out.1 HS.out.2.1 hn HL'.out.1 HU.out.2.1 hn' HL.out.2.2.1 HL.out.2.2.2 HL'.out.2.2.1 HL'.out.2.2.2).mono ?_
    rintro e w2 ⟨A2, n2, c2, cs2, rfl, hl, hs, ho, hk⟩
    have K2 : w2.grownBy (w2.alloc (.cells #[.slice A2 n2 c2] 31)) none := grown_alloc (grown_refl _ _) _
    have HQ := Lib.hid (LV.made (n := n2) (c := c2) HS.out.2.2 ho hk)
    have MHQ := Lib.hid (And.intro hl hs)
    have hnHQ : n2 ≤ 1048576 := by have h8 := HZ.out.1; rw [← hl, ← ll_length, hs]; omega
    replace HS := Lib.hid ((HS.out.keep hk).keep K2)
    replace HU := Lib.hid ((HU.out.keep hk).keep K2)
    replace HT := Lib.hid ((HT.out.keep hk).keep K2)
    clear hk ho hl hs K2
    obtain ⟨bHS0, bHS1, bHS2⟩ := HS.out.cells
    obtain ⟨bHU0, bHU1, bHU2⟩ := HU.out.cells
    have bHT := HT.out.cell
    have bHQ := HQ.out.cell
    go_wp2_with fail
    clear bHS0 bHS1 bHS2 bHU0 bHU1 bHU2 bHT bHQ
    refine (sameTable_val (V := true) (decide_eq_true (MHT.out.2.trans MHQ.out.2.symm)) MHT.out.1 MHQ.out.1 HT.out.2.1 HQ.out.2.1 hnHT hnHQ (ll_small MHT.out.2 HZ.out.2) (ll_small MHQ.out.2 HZ.out.2)).mono ?_
    rintro e w3 ⟨rfl, hk⟩
    replace HS := Lib.hid (HS.out.keep hk)
    replace HU := Lib.hid (HU.out.keep hk)
    replace HT := Lib.hid (HT.out.keep hk)
    replace HQ := Lib.hid (HQ.out.keep hk)
    clear hk
    obtain ⟨bHS0, bHS1, bHS2⟩ := HS.out.cells
    obtain ⟨bHU0, bHU1, bHU2⟩ := HU.out.cells
    have bHT := HT.out.cell
    have bHQ := HQ.out.cell
    go_wp2_with fail
    clear bHS0 bHS1 bHS2 bHU0 bHU1 bHU2 bHT bHQ
    refine (load_val HV.out.2.1 HL.out.1 HS.out.2.1 hn).mono ?_
    rintro e w4 ⟨A3, n3, c3, cs3, rfl, hl, hs, ho, hk⟩
    have K4 : w4.grownBy (w4.alloc (.cells #[.slice A3 n3 c3] 31)) none := grown_alloc (grown_refl _ _) _
    have HC := Lib.hid (LV.made (n := n3) (c := c3) HS.out.2.2 ho hk)
    have MHC := Lib.hid (And.intro hl hs)
    have hnHC : n3 ≤ 1048576 := by have h8 := (loadT_small HV.out.2.1).1; rw [← hl, ← ll_length, hs]; omega
    replace HS := Lib.hid ((HS.out.keep hk).keep K4)
    replace HU := Lib.hid ((HU.out.keep hk).keep K4)
    replace HT := Lib.hid ((HT.out.keep hk).keep K4)
    replace HQ := Lib.hid ((HQ.out.keep hk).keep K4)
    clear hk ho hl hs K4
    obtain ⟨bHS0, bHS1, bHS2⟩ := HS.out.cells
    obtain ⟨bHU0, bHU1, bHU2⟩ := HU.out.cells
    have bHT := HT.out.cell
    have bHQ := HQ.out.cell
    have bHC := HC.out.cell
    go_wp2_with fail
    clear bHS0 bHS1 bHS2 bHU0 bHU1 bHU2 bHT bHQ bHC
    refine (load_val HV.out.2.2 HL'.out.1 HU.out.2.1 hn').mono ?_
    rintro e w5 ⟨A4, n4, c4, cs4, rfl, hl, hs, ho, hk⟩
    have K5 : w5.grownBy (w5.alloc (.cells #[.slice A4 n4 c4] 31)) none := grown_alloc (grown_refl _ _) _
    have HD := Lib.hid (LV.made (n := n4) (c := c4) HS.out.2.2 ho hk)
    have MHD := Lib.hid (And.intro hl hs)
    have hnHD : n4 ≤ 1048576 := by have h8 := (loadT_small HV.out.2.2).1; rw [← hl, ← ll_length, hs]; omega
    replace HS := Lib.hid ((HS.out.keep hk).keep K5)
    replace HU := Lib.hid ((HU.out.keep hk).keep K5)
    replace HT := Lib.hid ((HT.out.keep hk).keep K5)
    replace HQ := Lib.hid ((HQ.out.keep hk).keep K5)
    replace HC := Lib.hid ((HC.out.keep hk).keep K5)
    clear hk ho hl hs K5
    obtain ⟨bHS0, bHS1, bHS2⟩ := HS.out.cells
    obtain ⟨bHU0, bHU1, bHU2⟩ := HU.out.cells
    have bHT := HT.out.cell
    have bHQ := HQ.out.cell
    have bHC := HC.out.cell
    have bHD := HD.out.cell
    rcases HW.out with ⟨rfl, rfl, rfl, rfl⟩ | ⟨rfl, htv, ⟨rfl, rfl, rfl⟩ | ⟨rfl, rfl, rfl⟩ | ⟨rfl, rfl, hN, hN'⟩⟩
    · clear HW
      go_wp2_with (go_at_call 14; refine (alive_any _).mono ?_; rintro e w' ⟨rfl, rfl⟩)
      go_ret
      exact ⟨rfl, HS.out.2.2⟩
    · have t1 : decide (M ≤ M) = true := decide_eq_true (Int.le_refl _)
      have HY := Lib.hid (show tabB (ll cs1) = true by rw [MHT.out.2]; exact htv)
      clear htv HW
      go_wp2_with fail
      clear bHS0 bHS1 bHS2 bHU0 bHU1 bHU2 bHT bHQ bHC bHD
      refine (tabValid_val HY.out MHT.out.1 HT.out.2.1 hnHT (ll_small MHT.out.2 HZ.out.2)).mono ?_
      rintro e w6 ⟨rfl, hk⟩
      replace HS := Lib.hid (HS.out.keep hk)
      replace HU := Lib.hid (HU.out.keep hk)
      replace HT := Lib.hid (HT.out.keep hk)
      replace HQ := Lib.hid (HQ.out.keep hk)
      replace HC := Lib.hid (HC.out.keep hk)
      replace HD := Lib.hid (HD.out.keep hk)
      clear hk
      obtain ⟨bHS0, bHS1, bHS2⟩ := HS.out.cells
      obtain ⟨bHU0, bHU1, bHU2⟩ := HU.out.cells
      have bHT := HT.out.cell
      have bHQ := HQ.out.cell
      have bHC := HC.out.cell
      have bHD := HD.out.cell
      go_wp2
      go_ret
      exact ⟨rfl, HS.out.2.2⟩
    · have t1 : decide (M ≤ M) = true := decide_eq_true (Int.le_refl _)
      have HY := Lib.hid (show tabB (ll cs1) = true by rw [MHT.out.2]; exact htv)
      clear htv HW
      go_wp2_with fail
      clear bHS0 bHS1 bHS2 bHU0 bHU1 bHU2 bHT bHQ bHC bHD
      refine (tabValid_val HY.out MHT.out.1 HT.out.2.1 hnHT (ll_small MHT.out.2 HZ.out.2)).mono ?_
      rintro e w6 ⟨rfl, hk⟩
      replace HS := Lib.hid (HS.out.keep hk)
      replace HU := Lib.hid (HU.out.keep hk)
      replace HT := Lib.hid (HT.out.keep hk)
      replace HQ := Lib.hid (HQ.out.keep hk)
      replace HC := Lib.hid (HC.out.keep hk)
      replace HD := Lib.hid (HD.out.keep hk)
      clear hk
      obtain ⟨bHS0, bHS1, bHS2⟩ := HS.out.cells
      obtain ⟨bHU0, bHU1, bHU2⟩ := HU.out.cells
      have bHT := HT.out.cell
      have bHQ := HQ.out.cell
      have bHC := HC.out.cell
      have bHD := HD.out.cell
      go_wp2
      go_ret
      exact ⟨rfl, HS.out.2.2⟩
    · have t1 : decide (N ≤ M) = true := decide_eq_true hN
      have t2 : decide (N' ≤ M) = true := decide_eq_true hN'
      clear hN hN'
      have HY := Lib.hid (show tabB (ll cs1) = true by rw [MHT.out.2]; exact htv)
      clear htv HW
      go_wp2_with fail
      clear bHS0 bHS1 bHS2 bHU0 bHU1 bHU2 bHT bHQ bHC bHD
      refine (tabValid_val HY.out MHT.out.1 HT.out.2.1 hnHT (ll_small MHT.out.2 HZ.out.2)).mono ?_
      rintro e w6 ⟨rfl, hk⟩
      replace HS := Lib.hid (HS.out.keep hk)
      replace HU := Lib.hid (HU.out.keep hk)
      replace HT := Lib.hid (HT.out.keep hk)
      replace HQ := Lib.hid (HQ.out.keep hk)
      replace HC := Lib.hid (HC.out.keep hk)
      replace HD := Lib.hid (HD.out.keep hk)
      clear hk
      obtain ⟨bHS0, bHS1, bHS2⟩ := HS.out.cells
      obtain ⟨bHU0, bHU1, bHU2⟩ := HU.out.cells
      have bHT := HT.out.cell
      have bHQ := HQ.out.cell
      have bHC := HC.out.cell
      have bHD := HD.out.cell
      go_wp2
      go_ret
      exact ⟨rfl, HS.out.2.2⟩

/-! ### THE ROW's STEP: WRITTEN OUT: LEAVE IT -/
set_option maxRecDepth 100000 in
theorem lifted (os : Os) (started : os.Started) (H : Type) (enc : TypeId × Value → H) :
    ReturnsInHanded {} Try.checked os 6 .any (Rows.fnNewerSaveSpec.pre6 enc Try.prog Try.f6 Rows.fnNewerSaveRow.domain false) (Rows.fnNewerSaveSpec.post enc Try.prog Try.f6 false true false false) := by
  refine returnsInHanded_of_change (C := Try.checked) own started (by kernel_rfl) Try.func6
    (ChangeSpec.witness6 (enc := enc) (C := Try.checked) false ⟨#[], #[.slice none 0 0], []⟩ 8 (by kernel_rfl) (by kernel_rfl) (by kernel_rfl) (by kernel_rfl)) ?_
  intro W base args ds gs before hval0 hW hcnd _
  have hval : ∀ (j : Nat) t v, Try.f6.params[j]? = some t → args[j]? = some v → Value.okWide Try.prog W .any base t v := hval0
  have hW' := hW
  obtain ⟨p, q, hA0, hV, rfl, hfz, hnd⟩ := hW
  have hA : DataW.TrodAll enc Try.prog W 0 (fun _ => true) true Try.f6.params.toList args.toList ds p := hA0
  rw [Try.params6] at hA hval
  obtain ⟨v0, vs0, d0, ds0, p0, q0, hargs, rfl, rfl, h0, r0⟩ := trodAll_cons hA
  obtain ⟨rfl, rfl, rfl⟩ := trodAll_nil r0
  obtain rfl : args = #[v0] := by cases args; simp_all
  obtain ⟨rfl, rfl⟩ := trodVars_none hV
  obtain ⟨a0, len0, cap0, rfl⟩ := okWide_slice Try.underlying22 (hval 0 22 v0 rfl rfl)
  have k0 := h0
  have lt0 : ∀ x ∈ p0, x.block < W.heap.size := by obtain ⟨m, hm⟩ := k0; exact DataW.trod_lt m _ _ _ hm
  obtain ⟨z0, w0⟩ : ∃ zs, IsRow .u8 W a0 len0 cap0 zs := by
    obtain ⟨fuel, hf⟩ := h0
    rcases open_ints Try.underlying22 Try.underlying5 (by kernel_rfl) hf with ⟨hcs, _⟩ | ⟨x, l, c, zs, hcs, _, hl, hm, hz, _, hcell, hwz⟩
    · simp [Value.cells] at hcs
      obtain ⟨rfl, rfl, rfl⟩ := hcs
      exact ⟨[], .inl ⟨rfl, rfl, rfl, rfl⟩⟩
    · simp [Value.cells] at hcs
      obtain ⟨rfl, rfl, rfl⟩ := hcs
      exact ⟨zs, .inr ⟨_, rfl, hl, hm, by simpa using hz, hcell, hwz⟩⟩
  clear hA0 hval0
  refine (walk a0 len0 cap0 z0 W w0).mono fun e W' ⟨he, bel⟩ => ?_
  subst he
  exact ⟨_, rfl, _, _, _, [], _, [], hW', trodAll_mk1 (shut_bool Try.underlying4 _), (trodAll_cons_mk (Below.trod laidOut (by kernel_rfl) (of_decide_eq_true (by kernel_rfl)) k0 bel lt0) trodAll_mk0), rfl, bel.frame _, fun h => by cases h⟩

theorem over : Rows.fnNewerSaveRow.holds Try.pinned (OpenSpec.ofChange Rows.fnNewerSaveSpec) :=
  OpenClaim.holds_of_wide 6 Try.f6 rfl rfl rfl rfl rfl rfl rfl ⟨rfl, rfl, rfl, rfl, rfl⟩ rfl rfl rfl rfl rfl (by kernel_rfl) Try.func6 (by kernel_rfl)
    (of_decide_eq_true (by kernel_rfl)) (by unfold Func.isWrapper; first | (rw [if_pos (by decide +kernel)]; kernel_rfl) | (rw [if_neg (by decide +kernel)]; exact ⟨rfl, rfl⟩))
    (fun os started H enc _ => lifted os started H enc)

/-- ████ THE STATEMENT ████ -/
theorem proved : Rows.FnNewerSaveSaid := over
#print axioms proved
end Go.Proofs.Ytlldmbocaloogaa.fnNewerSave
