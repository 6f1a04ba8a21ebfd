/- For every code, SaveTable answers of the drawn table and number as its model; the save is loaded as the table, with the number, or it is the zero value: proved.
   Conditions: none beyond the row's own reading of the input. The frame was written by the guide's proof-skeleton; the walk is ours. -/
import Derived.Test.YtlldmbocaloogaaSaveFacts
import Derived.Test.YtlldmbocaloogaaRows
import Derived.WalkKit
import Derived.ProofKit
import Derived.OpenShut
import Derived.ShutString
import Derived.ChangeOld
import Derived.Below
namespace Go.Proofs.Ytlldmbocaloogaa.fnSaveTable
open Go.ChangeShapes Go.WideShapes Go.ChangeAt Go.RowKit
open Go.ChangeMaps (open_string shut_string)
set_option linter.unusedVariables false
set_option linter.unusedSimpArgs false

theorem own : ownKnob Try.prog.godebug = none := by kernel_rfl
theorem laidOut : laidOutB Try.prog = true := by kernel_rfl

/-- WHAT THE WALK IS TOLD OF A SLICE OF INTEGERS THAT CAME IN: it is nil; or it leads to a row of 'cap' cells, the numbers 'zs' (the first 'len' are its elements, the rest its spare room), each fitting its kind. -/
def IsRow (k : IntKind) (w : World) (a : Option Addr) (len cap : Nat) (zs : List Int) : Prop :=
  (a = none ∧ len = 0 ∧ cap = 0 ∧ zs = []) ∨
  ∃ x, a = some x ∧ len ≤ cap ∧ cap ≤ maxLen ∧ zs.length = cap ∧ (∀ i, i < zs.length → w.cell? (x.add i) = some (.int k (zs.getD i 0))) ∧ ∀ n ∈ zs, (Lit.int k n).wf = true

/-! ### STEP 1: THE WALK: the Go text returns true, AND WRITES NOTHING THAT WAS THERE: 'Below w.heap.size w w'' (Derived/Below.lean: '.refl', '.alloc', '.drew', '.setCell' at a new block, '.trans'). Open each 'IsRow' by 'rcases' AHEAD of 'go_enter'; part every test ahead of the walk. -/
set_option maxHeartbeats 4000000 in
set_option maxRecDepth 100000 in
theorem walk (a0 : Option Addr) (len0 cap0 : Nat) (z0 : List Int) (w : World) (w0 : IsRow .u8 w a0 len0 cap0 z0) :
    Calls Try.prog 4 #[.slice a0 len0 cap0] w fun e w' => e = .returned (.bool true) ∧ Below w.heap.size w w' := by
  obtain ⟨hl, hc, hb⟩ := bytes_of w0
  by_cases hbig : 1048576 < len0
  · go_enter Try.func4, Try.ntmps4
    go_wp2
    go_ret
    exact ⟨rfl, Below.refl _ _⟩
  · go_enter Try.func4, Try.ntmps4
    go_wp2_with fail
    refine (drawSaveTable_any w a0 len0 cap0 hl hc hb).mono ?_
    rintro e wa ⟨A, n, c, ls, v, rfl, hln, h8, h6, hlt⟩
    have HS := Lib.hid (LV.start hlt n c)
    have HL := Lib.hid (And.intro hln (fun (l : Li) (hq : l ∈ ls) => show l.xs.length ≤ 1048576 by have := h6 l hq; omega))
    have hn : n ≤ 1048576 := by omega
    clear hb w0 hlt hln h6
    obtain ⟨M, X, S, hV⟩ : ∃ M X S, saveV (ll ls) v = (M, X, S) := ⟨_, _, _, rfl⟩
    have HV := Lib.hid hV
    have b := HS.out.cell
    go_wp2_with fail
    refine (saveTable_val HV.out HL.out.1 HS.out.2.1 hn HL.out.2).mono ?_
    rintro e w1 ⟨A1, n1, c1, rfl, hl1, ho, hk⟩
    have K1 : w1.grownBy (w1.alloc (.cells #[.int .i64 M, .slice A1 n1 c1, .int .i64 S] 35)) none := grown_alloc (grown_refl _ _) _
    have HT := Lib.hid (LSV.made HS.out.2.2 ho hk M S)
    replace HS := Lib.hid ((HS.out.keep hk).keep K1)
    have HX := Lib.hid hl1
    clear hk ho hl1 K1 b
    obtain ⟨b0, b1, b2⟩ := HT.out.cells
    have b := HS.out.cell
    go_wp2_with fail
    clear b0 b1 b2 b
    have hn1 : n1 ≤ 1048576 := by
      rcases save_ways HV.out with h | h
      · rw [← HX.out, h.2.1]; simp
      · rw [← HX.out, h.2.1]; omega
    refine wp_region_held_drew (S := (fun w' => w'.cell? ⟨w1.heap.size, 0, none⟩ = some (.int .i64 M) ∧ w'.cell? ⟨w1.heap.size, 1, none⟩ = some (.slice A1 n1 c1) ∧ w'.cell? ⟨w1.heap.size, 2, none⟩ = some (.int .i64 S) ∧ w'.cell? ⟨wa.heap.size, 0, none⟩ = some (.slice A n c))) (by kernel_rfl) ?_ (fun hHeld => ?_)
    · exact ⟨HT.out.cells.1, HT.out.cells.2.1, HT.out.cells.2.2, HS.out.cell⟩
    replace HS := Lib.hid (HS.out.keep (grown_drew (grown_refl _ none)))
    replace HT := Lib.hid (HT.out.keep (grown_drew (grown_refl _ none)))
    refine heldY 0 19 ?_
    refine heldY 1 20 ?_
    refine heldY 2 21 ?_
    refine wpAnyH_ready (rs := [3]) (by kernel_rfl) (by simp) ?_
    refine AllReadyH.cons rfl (fun K hK => ?_) AllReadyH.nil
    go_simp
    go_at_call 18
    refine (specSave_val HV.out HL.out.1 HS.out.2.1 hn HL.out.2).mono ?_
    rintro e w2 ⟨A2, n2, c2, rfl, hl2, ho, hk⟩
    obtain rfl : n1 = n2 := HX.out.symm.trans hl2
    replace HS := Lib.hid (HS.out.keep hk)
    replace HT := Lib.hid (HT.out.keep hk)
    have HR := Lib.hid (VOwn.row ho)
    clear hk ho hl2
    refine hK.out _ _ ?_ (fun hHeld => ?_)
    · exact ⟨HT.out.cells.1, HT.out.cells.2.1, HT.out.cells.2.2, HS.out.cell⟩
    clear hK K
    try simp only [Act.put, List.setIfInBounds_toArray, List.set_cons_zero, List.set_cons_succ]
    refine wpAnyH_ready (rs := [4]) (by kernel_rfl) (by simp) ?_
    refine AllReadyH.cons rfl (fun K hK => ?_) AllReadyH.nil
    go_simp
    go_at_call 17
    refine (sameSave_same _ _ _ _ _ _ _ X _ HX.out HT.out.2.1 HR.out hn1).mono ?_
    rintro e w3 ⟨rfl, hk⟩
    replace HS := Lib.hid (HS.out.keep hk)
    replace HT := Lib.hid (HT.out.keep hk)
    clear hk
    refine hK.out _ _ ?_ (fun hHeld => ?_)
    · exact ⟨HT.out.cells.1, HT.out.cells.2.1, HT.out.cells.2.2, HS.out.cell⟩
    clear hK K
    try simp only [Act.put, List.setIfInBounds_toArray, List.set_cons_zero, List.set_cons_succ]
    refine heldY 5 24 ?_
    refine wpAnyH_done (by kernel_rfl) ?_ _
    obtain ⟨b0, b1, b2⟩ := HT.out.cells
    have b := HS.out.cell
    rcases save_ways HV.out with ⟨rfl, rfl, rfl⟩ | ⟨rfl, h48, hld⟩
    · obtain rfl : 0 = n1 := HX.out
      clear hV
      go_wp2_with fail
      refine (sameSave_same 0 0 _ _ 0 _ _ [] _ rfl HT.out.2.1 VRow.nil (by omega)).mono ?_
      rintro e w4 ⟨rfl, hk⟩
      replace HS := Lib.hid (HS.out.keep hk)
      clear hk b0 b1 b2 b
      go_wp2_with (go_at_call 14; refine (alive_any _).mono ?_; rintro e w' ⟨rfl, rfl⟩)
      go_ret
      exact ⟨rfl, HS.out.2.2⟩
    · obtain rfl : n1 = 48 := HX.out.symm.trans h48
      have HD := Lib.hid (And.intro hld (rfl : ll ls = ll ls))
      clear hV hld h48
      go_wp2_with fail
      refine (load_val HD.out.1 HX.out HT.out.2.1 (by omega)).mono ?_
      rintro e w4 ⟨A4, n4, c4, cs, rfl, hl4, hs4, ho, hk⟩
      have K4 : w4.grownBy (w4.alloc (.cells #[.slice A4 n4 c4] 31)) none := grown_alloc (grown_refl _ _) _
      have HQ := Lib.hid (LV.made (n := n4) (c := c4) HS.out.2.2 ho hk)
      have HM := Lib.hid (And.intro hl4 hs4)
      replace HS := Lib.hid ((HS.out.keep hk).keep K4)
      replace HT := Lib.hid ((HT.out.keep hk).keep K4)
      have hn4 : n4 ≤ 1048576 := by rw [← hl4, ← ll_length, hs4, ll_length, HL.out.1]; exact hn
      clear hk ho hl4 hs4 K4 b0 b1 b2 b
      obtain ⟨b0, b1, b2⟩ := HT.out.cells
      have b := HS.out.cell
      have q := HQ.out.cell
      go_wp2_with fail
      refine (sameTable_val (V := true) (decide_eq_true HM.out.2) HM.out.1 HL.out.1 HQ.out.2.1 HS.out.2.1 hn4 hn (ll_small HM.out.2 (fun xs hx => by obtain ⟨l, hl, rfl⟩ := List.mem_map.1 hx; exact HL.out.2 l hl)) HL.out.2).mono ?_
      rintro e w5 ⟨rfl, hk⟩
      replace HS := Lib.hid (HS.out.keep hk)
      replace HT := Lib.hid (HT.out.keep hk)
      clear hk b0 b1 b2 b q
      obtain ⟨b0, b1, b2⟩ := HT.out.cells
      have e1 : (M == M) = true := by simp
      go_wp2
      go_ret
      exact ⟨rfl, HS.out.2.2⟩

/-! ### THE ROW's STEP: WRITTEN OUT: LEAVE IT -/
set_option maxRecDepth 100000 in
theorem lifted (os : Os) (started : os.Started) (H : Type) (enc : TypeId × Value → H) :
    ReturnsInHanded {} Try.checked os 4 .any (Rows.fnSaveTableSpec.pre6 enc Try.prog Try.f4 Rows.fnSaveTableRow.domain false) (Rows.fnSaveTableSpec.post enc Try.prog Try.f4 false true false false) := by
  refine returnsInHanded_of_change (C := Try.checked) own started (by kernel_rfl) Try.func4
    (ChangeSpec.witness6 (enc := enc) (C := Try.checked) false ⟨#[], #[.slice none 0 0], []⟩ 8 (by kernel_rfl) (by kernel_rfl) (by kernel_rfl) (by kernel_rfl)) ?_
  intro W base args ds gs before hval0 hW hcnd _
  have hval : ∀ (j : Nat) t v, Try.f4.params[j]? = some t → args[j]? = some v → Value.okWide Try.prog W .any base t v := hval0
  have hW' := hW
  obtain ⟨p, q, hA0, hV, rfl, hfz, hnd⟩ := hW
  have hA : DataW.TrodAll enc Try.prog W 0 (fun _ => true) true Try.f4.params.toList args.toList ds p := hA0
  rw [Try.params4] at hA hval
  obtain ⟨v0, vs0, d0, ds0, p0, q0, hargs, rfl, rfl, h0, r0⟩ := trodAll_cons hA
  obtain ⟨rfl, rfl, rfl⟩ := trodAll_nil r0
  obtain rfl : args = #[v0] := by cases args; simp_all
  obtain ⟨rfl, rfl⟩ := trodVars_none hV
  obtain ⟨a0, len0, cap0, rfl⟩ := okWide_slice Try.underlying22 (hval 0 22 v0 rfl rfl)
  have k0 := h0
  have lt0 : ∀ x ∈ p0, x.block < W.heap.size := by obtain ⟨m, hm⟩ := k0; exact DataW.trod_lt m _ _ _ hm
  obtain ⟨z0, w0⟩ : ∃ zs, IsRow .u8 W a0 len0 cap0 zs := by
    obtain ⟨fuel, hf⟩ := h0
    rcases open_ints Try.underlying22 Try.underlying5 (by kernel_rfl) hf with ⟨hcs, _⟩ | ⟨x, l, c, zs, hcs, _, hl, hm, hz, _, hcell, hwz⟩
    · simp [Value.cells] at hcs
      obtain ⟨rfl, rfl, rfl⟩ := hcs
      exact ⟨[], .inl ⟨rfl, rfl, rfl, rfl⟩⟩
    · simp [Value.cells] at hcs
      obtain ⟨rfl, rfl, rfl⟩ := hcs
      exact ⟨zs, .inr ⟨_, rfl, hl, hm, by simpa using hz, hcell, hwz⟩⟩
  clear hA0 hval0
  refine (walk a0 len0 cap0 z0 W w0).mono fun e W' ⟨he, bel⟩ => ?_
  subst he
  exact ⟨_, rfl, _, _, _, [], _, [], hW', trodAll_mk1 (shut_bool Try.underlying4 _), (trodAll_cons_mk (Below.trod laidOut (by kernel_rfl) (of_decide_eq_true (by kernel_rfl)) k0 bel lt0) trodAll_mk0), rfl, bel.frame _, fun h => by cases h⟩

theorem over : Rows.fnSaveTableRow.holds Try.pinned (OpenSpec.ofChange Rows.fnSaveTableSpec) :=
  OpenClaim.holds_of_wide 4 Try.f4 rfl rfl rfl rfl rfl rfl rfl ⟨rfl, rfl, rfl, rfl, rfl⟩ rfl rfl rfl rfl rfl (by kernel_rfl) Try.func4 (by kernel_rfl)
    (of_decide_eq_true (by kernel_rfl)) (by unfold Func.isWrapper; first | (rw [if_pos (by decide +kernel)]; kernel_rfl) | (rw [if_neg (by decide +kernel)]; exact ⟨rfl, rfl⟩))
    (fun os started H enc _ => lifted os started H enc)

/-- ████ THE STATEMENT ████ -/
theorem proved : Rows.FnSaveTableSaid := over
#print axioms proved
end Go.Proofs.Ytlldmbocaloogaa.fnSaveTable
