/- For every code, MountTable answers of the drawn device, saves and stamp as its model; it is possible exactly for valid devices, the table is valid then, and without saves it is TableOf: proved.
   Conditions: none beyond the row's own reading of the input. The frame was written by the guide's proof-skeleton; the walk is ours. -/
import Derived.Test.YteniikfgellhfaaMountFacts
import Derived.Test.YteniikfgellhfaaDrawBoth
import Derived.Test.YteniikfgellhfaaDrawRoll3
import Derived.Test.YteniikfgellhfaaHand
import Derived.Test.YteniikfgellhfaaRows
import Derived.WalkKit
import Derived.ProofKit
import Derived.OpenShut
import Derived.ShutString
import Derived.ChangeOld
import Derived.Below
namespace Go.Proofs.Yteniikfgellhfaa.fnMountTable
open Go.ChangeShapes Go.WideShapes Go.ChangeAt Go.RowKit
open Go.ChangeMaps (open_string shut_string)
set_option linter.unusedVariables false
set_option linter.unusedSimpArgs false

theorem own : ownKnob Try.prog.godebug = none := by kernel_rfl
theorem laidOut : laidOutB Try.prog = true := by kernel_rfl

/-- WHAT THE WALK IS TOLD OF A SLICE OF INTEGERS THAT CAME IN: it is nil; or it leads to a row of 'cap' cells, the numbers 'zs' (the first 'len' are its elements, the rest its spare room), each fitting its kind. -/
def IsRow (k : IntKind) (w : World) (a : Option Addr) (len cap : Nat) (zs : List Int) : Prop :=
  (a = none ∧ len = 0 ∧ cap = 0 ∧ zs = []) ∨
  ∃ x, a = some x ∧ len ≤ cap ∧ cap ≤ maxLen ∧ zs.length = cap ∧ (∀ i, i < zs.length → w.cell? (x.add i) = some (.int k (zs.getD i 0))) ∧ ∀ n ∈ zs, (Lit.int k n).wf = true

/-! ### STEP 1: THE WALK: the Go text returns true, AND WRITES NOTHING THAT WAS THERE: 'Below w.heap.size w w'' (Derived/Below.lean: '.refl', '.alloc', '.drew', '.setCell' at a new block, '.trans'). Open each 'IsRow' by 'rcases' AHEAD of 'go_enter'; part every test ahead of the walk. -/
set_option maxHeartbeats 8000000 in
set_option maxRecDepth 100000 in
theorem walk (a0 : Option Addr) (len0 cap0 : Nat) (z0 : List Int) (w : World) (w0 : IsRow .u8 w a0 len0 cap0 z0) :
    Calls Try.prog 6 #[.slice a0 len0 cap0] w fun e w' => e = .returned (.bool true) ∧ Below w.heap.size w w' := by
  obtain ⟨hl, hc, hb⟩ := bytes_of w0
  by_cases hbig : 1048576 < len0
  · go_enter Try.func6, Try.ntmps6
    go_wp2
    go_ret
    exact ⟨rfl, Below.refl _ _⟩
  · go_enter Try.func6, Try.ntmps6
    go_wp2_with fail
    refine (drawMountTable_any w a0 len0 cap0 hl hc hb).mono ?_
    rintro e wa ⟨D, nd, cd, bs, N, A, n, c, X, S, N', A', n', c', X', S', s, rfl, hbl, hp, hp', hrd, hr, hr', hbw⟩
    have K0 := grown_alloc (grown_alloc (grown_refl wa none) (.cells #[.int .i64 N, .slice A n c, .int .i64 S] 49)) (.cells #[.int .i64 N', .slice A' n' c', .int .i64 S'] 49)
    have HD := Lib.hid (And.intro (And.intro hbl.1 (fun (q : Bk) (hq : q ∈ bs) => show q.ps.length ≤ 1048576 by have := hbl.2.2 q hq; omega)) (LD.keep (⟨hrd, hbw⟩ : LD w D bs wa) K0))
    have hnd : nd ≤ 1048576 := by have := hbl.2.1; omega
    have HS := Lib.hid ((LSV.start hr hbw N S n c).keep (grown_alloc (grown_refl _ none) (.cells #[.int .i64 N', .slice A' n' c', .int .i64 S'] 49)))
    have hu := LSV.start (wr := wa.alloc (.cells #[.int .i64 N, .slice A n c, .int .i64 S] 49)) (VRow.here (VRow.alloc hr' _)) (Below.and_kept hbw (grown_alloc (grown_refl _ none) (.cells #[.int .i64 N, .slice A n c, .int .i64 S] 49))) N' S' n' c'
    simp only [size_alloc1] at hu
    have HU := Lib.hid hu
    have HL := Lib.hid hp
    have HL' := Lib.hid hp'
    have hn : n ≤ 1048576 := by omega
    have hn' : n' ≤ 1048576 := by omega
    obtain ⟨T, M, ok, hV⟩ : ∃ T M ok, newV N X S N' X' S' = (T, M, ok) := ⟨_, _, _, rfl⟩
    obtain ⟨R, o, hR⟩ : ∃ R o, mountV bs T ok s = (R, o) := ⟨_, _, rfl⟩
    obtain ⟨hsm, hw⟩ := mount_ways hV hR
    have HV := Lib.hid (And.intro hV hR)
    have HZ := Lib.hid hsm
    have too : (o != o) = false := by simp
    clear hb w0 hbl hp hp' hrd hr hr' hbw hu K0 hV hR hsm
    obtain ⟨bHS0, bHS1, bHS2⟩ := HS.out.cells
    obtain ⟨bHU0, bHU1, bHU2⟩ := HU.out.cells
    go_wp2_with fail
    clear bHS0 bHS1 bHS2 bHU0 bHU1 bHU2
    refine (mount_val HV.out.1 HV.out.2 HD.out.1.1 HD.out.2.1 hnd HD.out.1.2 HL.out.1 HS.out.2.1 hn HL'.out.1 HU.out.2.1 hn').mono ?_
    rintro e w1 ⟨A1, n1, c1, cs1, rfl, hl, hs, ho, hk⟩
    have K1 := grown_alloc hk (.cells #[.slice A1 n1 c1] 40)
    have HT := Lib.hid (LV.made (n := n1) (c := c1) HS.out.2.2 ho hk)
    have MHT := Lib.hid (And.intro hl hs)
    have hnHT : n1 ≤ 1048576 := by have h8 := HZ.out.1; rw [← hl, ← ll_length, hs]; omega
    replace HS := Lib.hid (HS.out.keep K1)
    replace HU := Lib.hid (HU.out.keep K1)
    replace HD := Lib.hid (And.intro HD.out.1 (HD.out.2.keep K1))
    clear hk ho hl hs K1
    obtain ⟨bHS0, bHS1, bHS2⟩ := HS.out.cells
    obtain ⟨bHU0, bHU1, bHU2⟩ := HU.out.cells
    have bHT := HT.out.cell
    go_wp2_with fail
    clear bHS0 bHS1 bHS2 bHU0 bHU1 bHU2 bHT
    refine (specMount_val HV.out.1 HV.out.2 HD.out.1.1 HD.out.2.1 hnd HD.out.1.2 HL.out.1 HS.out.2.1 hn HL'.out.1 HU.out.2.1 hn' HL.out.2.2.1 HL.out.2.2.2 HL'.out.2.2.1 HL'.out.2.2.2).mono ?_
    rintro e w2 ⟨A2, n2, c2, cs2, rfl, hl, hs, ho, hk⟩
    have K2 := grown_alloc hk (.cells #[.slice A2 n2 c2] 40)
    have HQ := Lib.hid (LV.made (n := n2) (c := c2) HS.out.2.2 ho hk)
    have MHQ := Lib.hid (And.intro hl hs)
    have hnHQ : n2 ≤ 1048576 := by have h8 := HZ.out.1; rw [← hl, ← ll_length, hs]; omega
    replace HT := Lib.hid (HT.out.keep K2)
    replace HD := Lib.hid (And.intro HD.out.1 (HD.out.2.keep K2))
    clear hk ho hl hs K2 HS HU
    have bHT := HT.out.cell
    have bHQ := HQ.out.cell
    go_wp2_with fail
    clear bHT bHQ
    refine (sameTable_val (V := true) (decide_eq_true (MHT.out.2.trans MHQ.out.2.symm)) MHT.out.1 MHQ.out.1 HT.out.2.1 HQ.out.2.1 hnHT hnHQ (ll_small MHT.out.2 HZ.out.2) (ll_small MHQ.out.2 HZ.out.2)).mono ?_
    rintro e w3 ⟨rfl, hk⟩
    replace HT := Lib.hid (HT.out.keep hk)
    replace HD := Lib.hid (And.intro HD.out.1 (HD.out.2.keep hk))
    clear hk HQ
    rcases hw with ⟨hd, rfl, rfl⟩ | ⟨hd, rfl, hT⟩
    · have HW := Lib.hid (And.intro hd MHT.out.2)
      clear hd
      have bHT := HT.out.cell
      go_wp2_with fail
      clear bHT
      refine (sameTable_val (ms := []) (A' := none) (n' := 0) (c' := 0) (show decide (ll cs1 = ll []) = true by rw [HW.out.2]; rfl) MHT.out.1 rfl HT.out.2.1 TRow.nil hnHT (Nat.zero_le _) (ll_small MHT.out.2 HZ.out.2) (fun l hl => by simp at hl)).mono ?_
      rintro e w4 ⟨rfl, hk⟩
      replace HT := Lib.hid (HT.out.keep hk)
      replace HD := Lib.hid (And.intro HD.out.1 (HD.out.2.keep hk))
      clear hk
      go_wp2_with fail
      refine (deviceValid_val HD.out.1.1 HW.out.1 _ HD.out.2.1 hnd HD.out.1.2).mono ?_
      rintro e w5 ⟨rfl, hk⟩
      replace HT := Lib.hid (HT.out.keep hk)
      clear hk
      go_wp2_with (go_at_call 19; refine (alive_any _).mono ?_; rintro e w' ⟨rfl, rfl⟩)
      go_ret
      exact ⟨rfl, HT.out.2.2⟩
    · obtain ⟨l0, m0, hof, hm8, hX6⟩ := tof_is HD.out.1.1
      have hl0 := hof.1
      have HW := Lib.hid (And.intro hd (And.intro (show tabB (ll cs1) = true by rw [MHT.out.2]; exact hT) (And.intro hof (And.intro (show mountV bs [] false s = (l0, true) by rw [mount_none hd, hl0]) (fun xs (hx : xs ∈ l0) => show xs.length ≤ 1048576 by rw [hX6 xs hx]; omega)))))
      have hm0 : m0 ≤ 1048576 := by omega
      clear hd hT hof hX6 hl0
      go_wp2_with fail
      refine (mount_val new_zero HW.out.2.2.2.1 HD.out.1.1 HD.out.2.1 hnd HD.out.1.2 (X := []) (m := 0) rfl VRow.nil (by omega) (X' := []) (m' := 0) rfl VRow.nil (by omega)).mono ?_
      rintro e w4 ⟨A3, n3, c3, cs3, rfl, hl, hs, ho, hk⟩
      have K4 := grown_alloc hk (.cells #[.slice A3 n3 c3] 40)
      have HO := Lib.hid (LV.made (n := n3) (c := c3) HT.out.2.2 ho hk)
      have MHO := Lib.hid (And.intro hl hs)
      have hnHO : n3 ≤ 1048576 := by have h8 := HW.out.2.2.1.2; rw [← hl, ← ll_length, hs]; omega
      replace HT := Lib.hid (HT.out.keep K4)
      replace HD := Lib.hid (And.intro HD.out.1 (HD.out.2.keep K4))
      clear hk ho hl hs K4
      have bHT := HT.out.cell
      have bHO := HO.out.cell
      go_wp2_with fail
      clear bHT bHO
      refine wp_region_held_drew (S := (fun w' => w'.cell? ⟨w1.heap.size, 0, none⟩ = some (.slice A1 n1 c1) ∧ w'.cell? ⟨w4.heap.size, 0, none⟩ = some (.slice A3 n3 c3))) (by kernel_rfl) ?_ (fun hHeld => ?_)
      · exact ⟨HT.out.cell, HO.out.cell⟩
      replace HT := Lib.hid (HT.out.keep (grown_drew (grown_refl _ none)))
      replace HO := Lib.hid (HO.out.keep (grown_drew (grown_refl _ none)))
      replace HD := Lib.hid (And.intro HD.out.1 (HD.out.2.keep (grown_drew (grown_refl _ none))))
      refine heldY 0 69 ?_
      refine wpAnyH_ready (rs := [1]) (by kernel_rfl) (by simp) ?_
      refine AllReadyH.cons rfl (fun K hK => ?_) AllReadyH.nil
      go_simp
      go_at_call 24
      refine (tabValid_val HW.out.2.1 MHT.out.1 HT.out.2.1 hnHT (ll_small MHT.out.2 HZ.out.2)).mono ?_
      rintro e w5 ⟨rfl, hk⟩
      replace HT := Lib.hid (HT.out.keep hk)
      replace HO := Lib.hid (HO.out.keep hk)
      replace HD := Lib.hid (And.intro HD.out.1 (HD.out.2.keep hk))
      clear hk
      refine hK.out _ _ ?_ (fun hHeld => ?_)
      · exact ⟨HT.out.cell, HO.out.cell⟩
      clear hK K
      try simp only [Act.put, List.setIfInBounds_toArray, List.set_cons_zero, List.set_cons_succ]
      refine heldY 2 71 ?_
      refine heldY 3 72 ?_
      refine heldY 4 73 ?_
      refine heldY 5 74 ?_
      refine heldY 6 75 ?_
      refine heldY 7 76 ?_
      refine wpAnyH_ready (rs := [8]) (by kernel_rfl) (by simp) ?_
      refine AllReadyH.cons rfl (fun K hK => ?_) AllReadyH.nil
      go_simp
      go_at_call 32
      refine (tableOf_val HW.out.2.2.1 HD.out.1.1 HD.out.2.1 hnd HD.out.1.2).mono ?_
      rintro e w6 ⟨A5, c5, cs5, rfl, hl5, hs5, ho5, hk⟩
      replace HT := Lib.hid (HT.out.keep hk)
      replace HO := Lib.hid (HO.out.keep hk)
      have IY := Lib.hid (And.intro hl5 (And.intro hs5 ho5.row))
      clear hk ho5 hl5 hs5
      refine hK.out _ _ ?_ (fun hHeld => ?_)
      · exact ⟨HT.out.cell, HO.out.cell⟩
      clear hK K
      try simp only [Act.put, List.setIfInBounds_toArray, List.set_cons_zero, List.set_cons_succ]
      refine wpAnyH_ready (rs := [9]) (by kernel_rfl) (by simp) ?_
      refine AllReadyH.cons rfl (fun K hK => ?_) AllReadyH.nil
      go_simp
      go_at_call 22
      refine (sameTable_val (V := true) (decide_eq_true (MHO.out.2.trans IY.out.2.1.symm)) MHO.out.1 IY.out.1 HO.out.2.1 IY.out.2.2 hnHO hm0 (ll_small MHO.out.2 HW.out.2.2.2.2) (ll_small IY.out.2.1 HW.out.2.2.2.2)).mono ?_
      rintro e w7 ⟨rfl, hk⟩
      replace HT := Lib.hid (HT.out.keep hk)
      replace HO := Lib.hid (HO.out.keep hk)
      clear hk
      refine hK.out _ _ ?_ (fun hHeld => ?_)
      · exact ⟨HT.out.cell, HO.out.cell⟩
      clear hK K
      try simp only [Act.put, List.setIfInBounds_toArray, List.set_cons_zero, List.set_cons_succ]
      refine heldY 10 79 ?_
      refine heldY 11 2 ?_
      refine wpAnyH_done (by kernel_rfl) ?_ _
      go_wp2
      go_ret
      exact ⟨rfl, HT.out.2.2⟩

/-! ### THE ROW's STEP: WRITTEN OUT: LEAVE IT -/
set_option maxRecDepth 100000 in
theorem lifted (os : Os) (started : os.Started) (H : Type) (enc : TypeId × Value → H) :
    ReturnsInHanded {} Try.checked os 6 .any (Rows.fnMountTableSpec.pre6 enc Try.prog Try.f6 Rows.fnMountTableRow.domain false) (Rows.fnMountTableSpec.post enc Try.prog Try.f6 false true false false) := by
  refine returnsInHanded_of_change (C := Try.checked) own started (by kernel_rfl) Try.func6
    (ChangeSpec.witness6 (enc := enc) (C := Try.checked) false ⟨#[], #[.slice none 0 0], []⟩ 8 (by kernel_rfl) (by kernel_rfl) (by kernel_rfl) (by kernel_rfl)) ?_
  intro W base args ds gs before hval0 hW hcnd _
  have hval : ∀ (j : Nat) t v, Try.f6.params[j]? = some t → args[j]? = some v → Value.okWide Try.prog W .any base t v := hval0
  have hW' := hW
  obtain ⟨p, q, hA0, hV, rfl, hfz, hnd⟩ := hW
  have hA : DataW.TrodAll enc Try.prog W 0 (fun _ => true) true Try.f6.params.toList args.toList ds p := hA0
  rw [Try.params6] at hA hval
  obtain ⟨v0, vs0, d0, ds0, p0, q0, hargs, rfl, rfl, h0, r0⟩ := trodAll_cons hA
  obtain ⟨rfl, rfl, rfl⟩ := trodAll_nil r0
  obtain rfl : args = #[v0] := by cases args; simp_all
  obtain ⟨rfl, rfl⟩ := trodVars_none hV
  obtain ⟨a0, len0, cap0, rfl⟩ := okWide_slice Try.underlying22 (hval 0 22 v0 rfl rfl)
  have k0 := h0
  have lt0 : ∀ x ∈ p0, x.block < W.heap.size := by obtain ⟨m, hm⟩ := k0; exact DataW.trod_lt m _ _ _ hm
  obtain ⟨z0, w0⟩ : ∃ zs, IsRow .u8 W a0 len0 cap0 zs := by
    obtain ⟨fuel, hf⟩ := h0
    rcases open_ints Try.underlying22 Try.underlying5 (by kernel_rfl) hf with ⟨hcs, _⟩ | ⟨x, l, c, zs, hcs, _, hl, hm, hz, _, hcell, hwz⟩
    · simp [Value.cells] at hcs
      obtain ⟨rfl, rfl, rfl⟩ := hcs
      exact ⟨[], .inl ⟨rfl, rfl, rfl, rfl⟩⟩
    · simp [Value.cells] at hcs
      obtain ⟨rfl, rfl, rfl⟩ := hcs
      exact ⟨zs, .inr ⟨_, rfl, hl, hm, by simpa using hz, hcell, hwz⟩⟩
  clear hA0 hval0
  refine (walk a0 len0 cap0 z0 W w0).mono fun e W' ⟨he, bel⟩ => ?_
  subst he
  exact ⟨_, rfl, _, _, _, [], _, [], hW', trodAll_mk1 (shut_bool Try.underlying4 _), (trodAll_cons_mk (Below.trod laidOut (by kernel_rfl) (of_decide_eq_true (by kernel_rfl)) k0 bel lt0) trodAll_mk0), rfl, bel.frame _, fun h => by cases h⟩

theorem over : Rows.fnMountTableRow.holds Try.pinned (OpenSpec.ofChange Rows.fnMountTableSpec) :=
  OpenClaim.holds_of_wide 6 Try.f6 rfl rfl rfl rfl rfl rfl rfl ⟨rfl, rfl, rfl, rfl, rfl⟩ rfl rfl rfl rfl rfl (by kernel_rfl) Try.func6 (by kernel_rfl)
    (of_decide_eq_true (by kernel_rfl)) (by unfold Func.isWrapper; first | (rw [if_pos (by decide +kernel)]; kernel_rfl) | (rw [if_neg (by decide +kernel)]; exact ⟨rfl, rfl⟩))
    (fun os started H enc _ => lifted os started H enc)

/-- ████ THE STATEMENT ████ -/
theorem proved : Rows.FnMountTableSaid := over
#print axioms proved
end Go.Proofs.Yteniikfgellhfaa.fnMountTable
