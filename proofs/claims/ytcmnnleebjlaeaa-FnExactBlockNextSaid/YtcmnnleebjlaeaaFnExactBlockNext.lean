/- BlockNext answers as its model for every block, and leaves it as it was: proved.
   Conditions: none beyond the row's own reading of the input. The frame was written by the guide's proof-skeleton; the walk is ours. -/
import Derived.Test.YtcmnnleebjlaeaaAgg
import Derived.Test.YtcmnnleebjlaeaaAggRows
import Derived.Test.YtcmnnleebjlaeaaLawExact
import Derived.Test.YtcmnnleebjlaeaaRows
import Derived.WalkKit
import Derived.ProofKit
import Derived.OpenShut
import Derived.ShutString
import Derived.ChangeOld
import Derived.Below
namespace Go.Proofs.Ytcmnnleebjlaeaa.fnExactBlockNext
open Go.ChangeShapes Go.WideShapes Go.ChangeAt Go.RowKit
open Go.ChangeMaps (open_string shut_string)
set_option linter.unusedVariables false
set_option linter.unusedSimpArgs false

theorem own : ownKnob Try.prog.godebug = none := by kernel_rfl
theorem laidOut : laidOutB Try.prog = true := by kernel_rfl

/-- WHAT THE WALK IS TOLD OF A SLICE OF INTEGERS THAT CAME IN: it is nil; or it leads to a row of 'cap' cells, the numbers 'zs' (the first 'len' are its elements, the rest its spare room), each fitting its kind. -/
def IsRow (k : IntKind) (w : World) (a : Option Addr) (len cap : Nat) (zs : List Int) : Prop :=
  (a = none ∧ len = 0 ∧ cap = 0 ∧ zs = []) ∨
  ∃ x, a = some x ∧ len ≤ cap ∧ cap ≤ maxLen ∧ zs.length = cap ∧ (∀ i, i < zs.length → w.cell? (x.add i) = some (.int k (zs.getD i 0))) ∧ ∀ n ∈ zs, (Lit.int k n).wf = true

/-! ### STEP 1: THE WALK: the Go text returns true, AND WRITES NOTHING THAT WAS THERE: 'Below w.heap.size w w'' (Derived/Below.lean: '.refl', '.alloc', '.drew', '.setCell' at a new block, '.trans'). Open each 'IsRow' by 'rcases' AHEAD of 'go_enter'; part every test ahead of the walk. -/
set_option maxHeartbeats 1000000 in
theorem walk (a0f0 : Int) (a0f1 : Option Addr) (n0f1 c0f1 : Nat) (p0f1 : List Pg) (w : World) (w0f0 : (Lit.int .i64 a0f0).wf = true) (w0f1 : IsPages w a0f1 n0f1 c0f1 p0f1) :
    Calls Try.prog 10 #[.agg #[.int .i64 a0f0, .slice a0f1 n0f1 c0f1]] w fun e w' => e = .returned (.bool true) ∧ Below w.heap.size w w' := by
  by_cases hbig : 1048576 < n0f1
  · have hm := w0f1.2.1; have hm2 := w0f1.2.2.1
    unfold maxLen at hm2
    go_enter Try.func10, Try.ntmps10
    go_wp2_with fail
    refine (szBlock_big _ _ _ _ _ hbig (by omega)).mono ?_
    rintro e w1 ⟨rfl, hk⟩
    go_wp2
    go_ret
    exact ⟨rfl, grown_below (grown_trans (grown_alloc (grown_refl w none) (.cells #[.int .i64 a0f0, .slice a0f1 n0f1 c0f1] 45)) hk)⟩
  · obtain ⟨r, hr⟩ : ∃ r : Int, nextV a0f0 p0f1 = r := ⟨_, rfl⟩
    have HV := Lib.hid hr
    clear hr
    have HA := Lib.hid (VB.arg (m := a0f0) w0f1)
    have HZ := Lib.hid w0f1
    clear w0f1
    go_enter Try.func10, Try.ntmps10
    go_wp2_with fail
    refine (szBlock_ok _ _ _ _ _ (by omega)).mono ?_
    rintro e w1 ⟨v, rfl, hv0, hk⟩
    have z1 := hk.size
    (try simp only [size_alloc1] at z1)
    replace HA := Lib.hid (HA.out.keep hk)
    clear hk
    obtain ⟨a0, a1, al⟩ := HA.out.cells
    have tv : decide (v < 0) = false := decide_eq_false (by omega)
    go_wp2_with fail
    clear tv
    clear a0 a1 al
    refine (toBlock_any _ _ _ _ _ _ HA.out.2.1 HA.out.2.2.1 (by omega)).mono ?_
    rintro e w2 ⟨A2, c2, rfl, hl, ho, hk⟩
    have z2 := hk.size
    (try simp only [size_alloc1] at z2)
    replace HA := Lib.hid (HA.out.keep hk)
    have HR2 := Lib.hid (And.intro hl ho.row)
    clear hk hl ho
    obtain ⟨a0, a1, al⟩ := HA.out.cells
    go_wp2_with fail
    clear a0 a1 al
    refine (specNext_val HR2.out.1 HV.out _ HR2.out.2 (by omega)).mono ?_
    rintro e w3 ⟨rfl, hk⟩
    have z3 := hk.size
    (try simp only [size_alloc1] at z3)
    replace HA := Lib.hid (HA.out.keep hk)
    clear hk
    obtain ⟨a0, a1, al⟩ := HA.out.cells
    go_wp2_with fail
    clear a0 a1 al
    have hlo := HA.out.2.2.2.2.size
    refine (toBlock_any _ _ _ _ _ _ HA.out.2.1 HA.out.2.2.1 (by omega)).mono ?_
    rintro e w4 ⟨A3, c3, rfl, hl, ho, hk⟩
    have z4 := hk.size
    (try simp only [size_alloc1] at z4)
    replace HA := Lib.hid (HA.out.keep hk)
    have hG := HA.out.2.2.2.2
    have hst := VO.start (t := 25) (m := a0f0) (n := n0f1) (c := c3) hG hl ho hlo
    obtain ⟨a0, a1, al⟩ := HA.out.cells
    replace HA := Lib.hid (HA.out.keep (grown_alloc (grown_refl w4 none) (.cells #[.int .i64 a0f0, .slice A3 n0f1 c3] 25)))
    (try simp only [size_alloc1] at hst)
    have HX := Lib.hid hst
    clear hk hl ho hG hlo hst
    go_wp2_with fail
    clear a0 a1 al
    refine (next_val HX.out.1.2.1 HV.out _ HX.out.1.2.2.1 (by omega)).mono ?_
    rintro e w5 ⟨rfl, hk⟩
    have z5 := hk.size
    (try simp only [size_alloc1] at z5)
    replace HA := Lib.hid (HA.out.keep hk)
    replace HX := Lib.hid (HX.out.keep hk)
    clear hk
    obtain ⟨a0, a1, al⟩ := HA.out.cells
    obtain ⟨x0, x1, xl⟩ := HX.out.cells
    go_wp2_with fail
    refine wp_region_held_drew (S := (fun w' => w'.cell? ⟨w4.heap.size, 0, none⟩ = some (.int .i64 a0f0) ∧ w'.cell? ⟨w4.heap.size, 1, none⟩ = some (.slice A3 n0f1 c3) ∧ w'.cell? ⟨w.heap.size, 0, none⟩ = some (.int .i64 a0f0) ∧ w'.cell? ⟨w.heap.size, 1, none⟩ = some (.slice a0f1 n0f1 c0f1))) (by kernel_rfl) ?_ (fun hHeld => ?_)
    · exact ⟨x0, x1, a0, a1⟩
    replace HA := Lib.hid (HA.out.keep (grown_drew (grown_refl _ none)))
    replace HX := Lib.hid (HX.out.keep (grown_drew (grown_refl _ none)))
    refine held_yes (i := 0) (d := some 22) (v := ?_) rfl rfl (by kernel_rfl) (by kernel_rfl) (by kernel_rfl) (fun _ _ _ h => h) (by rfl) ?_ (by assumption) ?_
    rotate_left
    · (intro w hSw; (try dsimp only at hSw); go_simp; (first | done | with_reducible rfl))
    try simp only [Act.put, List.setIfInBounds_toArray, List.set_cons_zero, List.set_cons_succ]
    refine held_yes (i := 1) (d := some 23) (v := ?_) rfl rfl (by kernel_rfl) (by kernel_rfl) (by kernel_rfl) (fun _ _ _ h => h) (by rfl) ?_ (by assumption) ?_
    rotate_left
    · (intro w hSw; (try dsimp only at hSw); go_simp; (first | done | with_reducible rfl))
    try simp only [Act.put, List.setIfInBounds_toArray, List.set_cons_zero, List.set_cons_succ]
    refine wpAnyH_ready (rs := [2]) (by kernel_rfl) (by simp) ?_
    refine AllReadyH.cons rfl (fun K hK => ?_) AllReadyH.nil
    go_simp
    go_at_call 32
    refine (toBlock_any _ _ _ _ _ _ HA.out.2.1 HA.out.2.2.1 (by omega)).mono ?_
    rintro e w6 ⟨A6, c6, rfl, hl, ho, hk⟩
    replace HA := Lib.hid (HA.out.keep hk)
    replace HX := Lib.hid (HX.out.keep hk)
    have HR6 := Lib.hid (And.intro hl ho.row)
    have z6 := hk.size
    (try simp only [World.drew, size_alloc1] at z6)
    clear hk hl ho
    clear a0 a1 al x0 x1 xl
    obtain ⟨a0, a1, al⟩ := HA.out.cells
    obtain ⟨x0, x1, xl⟩ := HX.out.cells
    refine hK.out _ _ ?_ (fun hHeld => ?_)
    · exact ⟨x0, x1, a0, a1⟩
    clear hK K
    try simp only [Act.put, List.setIfInBounds_toArray, List.set_cons_zero, List.set_cons_succ]
    refine wpAnyH_ready (rs := [3]) (by kernel_rfl) (by simp) ?_
    refine AllReadyH.cons rfl (fun K hK => ?_) AllReadyH.nil
    go_simp
    go_at_call 33
    refine (eqBlock_same _ _ _ _ _ _ _ _ HX.out.1.2.1 HX.out.1.2.2.1 HR6.out.2 (by omega)).mono ?_
    rintro e w7 ⟨rfl, hk⟩
    have z7 := hk.size
    (try simp only [size_alloc1] at z7)
    replace HA := Lib.hid (HA.out.keep hk)
    replace HX := Lib.hid (HX.out.keep hk)
    clear hk
    clear a0 a1 al x0 x1 xl
    obtain ⟨a0, a1, al⟩ := HA.out.cells
    obtain ⟨x0, x1, xl⟩ := HX.out.cells
    refine hK.out _ _ ?_ (fun hHeld => ?_)
    · exact ⟨x0, x1, a0, a1⟩
    clear hK K
    try simp only [Act.put, List.setIfInBounds_toArray, List.set_cons_zero, List.set_cons_succ]
    refine held_yes (i := 4) (d := some 26) (v := ?_) rfl rfl (by kernel_rfl) (by kernel_rfl) (by kernel_rfl) (fun _ _ _ h => h) (by rfl) ?_ (by assumption) ?_
    rotate_left
    · (intro w hSw; (try dsimp only at hSw); go_simp; (first | done | with_reducible rfl))
    try simp only [Act.put, List.setIfInBounds_toArray, List.set_cons_zero, List.set_cons_succ]
    refine wpAnyH_done (by kernel_rfl) ?_ _
    go_wp2
    go_ret
    exact ⟨rfl, grown_below HA.out.2.2.2.2⟩

/-! ### THE ROW's STEP: WRITTEN OUT: LEAVE IT -/
set_option maxRecDepth 100000 in
theorem lifted (os : Os) (started : os.Started) (H : Type) (enc : TypeId × Value → H) :
    ReturnsInHanded {} Try.checked os 10 .any (Rows.fnExactBlockNextSpec.pre6 enc Try.prog Try.f10 Rows.fnExactBlockNextRow.domain false) (Rows.fnExactBlockNextSpec.post enc Try.prog Try.f10 false true false false) := by
  refine returnsInHanded_of_change (C := Try.checked) own started (by kernel_rfl) Try.func10
    (ChangeSpec.witness6 (enc := enc) (C := Try.checked) false ⟨#[], #[.agg #[.int .i64 0, .slice none 0 0]], []⟩ 8 (by kernel_rfl) (by kernel_rfl) (by kernel_rfl) (by kernel_rfl)) ?_
  intro W base args ds gs before hval0 hW hcnd _
  have hval : ∀ (j : Nat) t v, Try.f10.params[j]? = some t → args[j]? = some v → Value.okWide Try.prog W .any base t v := hval0
  have hW' := hW
  obtain ⟨p, q, hA0, hV, rfl, hfz, hnd⟩ := hW
  have hA : DataW.TrodAll enc Try.prog W 0 (fun _ => true) true Try.f10.params.toList args.toList ds p := hA0
  rw [Try.params10] at hA hval
  obtain ⟨v0, vs0, d0, ds0, p0, q0, hargs, rfl, rfl, h0, r0⟩ := trodAll_cons hA
  obtain ⟨rfl, rfl, rfl⟩ := trodAll_nil r0
  obtain rfl : args = #[v0] := by cases args; simp_all
  obtain ⟨rfl, rfl⟩ := trodVars_none hV
  have k0 := h0
  have lt0 : ∀ x ∈ p0, x.block < W.heap.size := by obtain ⟨m, hm⟩ := k0; exact DataW.trod_lt m _ _ _ hm
  obtain ⟨c0, rfl, l0, f0⟩ := open_agg Try.underlying45 (by kernel_rfl) (by kernel_rfl) (hval 0 45 v0 rfl rfl) h0
  obtain ⟨v0f0, v0f1, rfl⟩ := list2 l0
  obtain ⟨n0f0, y0f0, t0f0⟩ := f0 0 _ _ rfl rfl
  obtain ⟨a0f0, e0f0, _, w0f0⟩ := DataW.trod_int Try.underlying3 t0f0
  obtain ⟨rfl, _⟩ := List.cons.inj e0f0
  obtain ⟨n0f1, y0f1, t0f1⟩ := f0 1 _ _ rfl rfl
  obtain ⟨a0f1, n0f1, c0f1, p0f1, rfl, w0f1⟩ := open_pages t0f1
  clear hA0 hval0
  refine (walk a0f0 a0f1 n0f1 c0f1 p0f1 W w0f0 w0f1).mono fun e W' ⟨he, bel⟩ => ?_
  subst he
  exact ⟨_, rfl, _, _, _, [], _, [], hW', trodAll_mk1 (shut_bool Try.underlying4 _), (trodAll_cons_mk (Below.trod laidOut (by kernel_rfl) (of_decide_eq_true (by kernel_rfl)) k0 bel lt0) trodAll_mk0), rfl, bel.frame _, fun h => by cases h⟩

theorem over : Rows.fnExactBlockNextRow.holds Try.pinned (OpenSpec.ofChange Rows.fnExactBlockNextSpec) :=
  OpenClaim.holds_of_wide 10 Try.f10 rfl rfl rfl rfl rfl rfl rfl ⟨rfl, rfl, rfl, rfl, rfl⟩ rfl rfl rfl rfl rfl (by kernel_rfl) Try.func10 (by kernel_rfl)
    (of_decide_eq_true (by kernel_rfl)) (by unfold Func.isWrapper; first | (rw [if_pos (by decide +kernel)]; kernel_rfl) | (rw [if_neg (by decide +kernel)]; exact ⟨rfl, rfl⟩))
    (fun os started H enc _ => lifted os started H enc)

/-- ████ THE STATEMENT ████ -/
theorem proved : Rows.FnExactBlockNextSaid := over
#print axioms proved
end Go.Proofs.Ytcmnnleebjlaeaa.fnExactBlockNext
