/- FreshBlock answers as its model for every device and heads, and leaves its arguments as they were: proved.
   Conditions: none beyond the row's own reading of the input. The frame was written by the guide's proof-skeleton; the walk is ours. -/
import Derived.Test.YtpdkfgihpchkiaaAgg
import Derived.Test.YtpdkfgihpchkiaaAggRows
import Derived.Test.YtpdkfgihpchkiaaHand
import Derived.Test.YtpdkfgihpchkiaaExactHeads
import Derived.Test.YtpdkfgihpchkiaaRows
import Derived.WalkKit
import Derived.ProofKit
import Derived.OpenShut
import Derived.ShutString
import Derived.ChangeOld
import Derived.Below
namespace Go.Proofs.Ytpdkfgihpchkiaa.fnExactFreshBlock
open Go.ChangeShapes Go.WideShapes Go.ChangeAt Go.RowKit
open Go.ChangeMaps (open_string shut_string)
set_option linter.unusedVariables false
set_option linter.unusedSimpArgs false

theorem own : ownKnob Try.prog.godebug = none := by kernel_rfl
theorem laidOut : laidOutB Try.prog = true := by kernel_rfl

/-- WHAT THE WALK IS TOLD OF A SLICE OF INTEGERS THAT CAME IN: it is nil; or it leads to a row of 'cap' cells, the numbers 'zs' (the first 'len' are its elements, the rest its spare room), each fitting its kind. -/
def IsRow (k : IntKind) (w : World) (a : Option Addr) (len cap : Nat) (zs : List Int) : Prop :=
  (a = none ∧ len = 0 ∧ cap = 0 ∧ zs = []) ∨
  ∃ x, a = some x ∧ len ≤ cap ∧ cap ≤ maxLen ∧ zs.length = cap ∧ (∀ i, i < zs.length → w.cell? (x.add i) = some (.int k (zs.getD i 0))) ∧ ∀ n ∈ zs, (Lit.int k n).wf = true

/-! ### STEP 1: THE WALK: the Go text returns true, AND WRITES NOTHING THAT WAS THERE: 'Below w.heap.size w w'' (Derived/Below.lean: '.refl', '.alloc', '.drew', '.setCell' at a new block, '.trans'). Open each 'IsRow' by 'rcases' AHEAD of 'go_enter'; part every test ahead of the walk. -/
set_option maxHeartbeats 4000000 in
theorem walk (a0 : Option Addr) (n0 c0 : Nat) (b0 : List Bk) (a1f0 : Int) (a1f1 : Int) (a1f2 : Int) (w : World) (w0 : IsBlocks w a0 n0 c0 b0) (w1f0 : (Lit.int .i64 a1f0).wf = true) (w1f1 : (Lit.int .i64 a1f1).wf = true) (w1f2 : (Lit.int .i64 a1f2).wf = true) :
    Calls Try.prog 11 #[.slice a0 n0 c0, .agg #[.int .i64 a1f0, .int .i64 a1f1, .int .i64 a1f2]] w fun e w' => e = .returned (.bool true) ∧ Below w.heap.size w w' := by
  obtain ⟨r, hr0⟩ := fresh_is n0 b0 a1f0 a1f1 a1f2
  have HV := Lib.hid hr0
  clear hr0
  have HA := Lib.hid ((VD.arg w0).keep (grown_alloc (grown_refl w none) (.cells #[.int .i64 a1f0, .int .i64 a1f1, .int .i64 a1f2] 52)))
  have HZ := Lib.hid (w0.alloc (.cells #[.int .i64 a1f0, .int .i64 a1f1, .int .i64 a1f2] 52))
  have HL := Lib.hid w0.1
  clear w0
  have HQ := Lib.hid (Blk.new w 52 #[.int .i64 a1f0, .int .i64 a1f1, .int .i64 a1f2])
  go_enter Try.func11, Try.ntmps11
  go_wp2_with fail
  refine (szBlockS_any _ _ _ _ _ HZ.out).mono ?_
  rintro e w1 ⟨v, rfl, hk, hv⟩
  replace HA := Lib.hid (HA.out.keep hk)
  replace HQ := Lib.hid (HQ.out.keep hk)
  rcases hv with rfl | ⟨hv0, hn, ht⟩
  · clear hk
    go_wp2
    go_ret
    exact ⟨rfl, grown_below HA.out.2⟩
  · have tv : decide (v < 0) = false := decide_eq_false (by omega)
    have HP := Lib.hid (And.intro (small_tot ht) ht)
    clear hk ht
    obtain ⟨p0, p1, p2⟩ := cells3 HQ.out
    go_wp2_with fail
    clear tv
    refine wp_region_held_drew (S := (fun w' => w'.cell? ⟨w.heap.size, 0, none⟩ = some (.int .i64 a1f0) ∧ w'.cell? ⟨w.heap.size, 1, none⟩ = some (.int .i64 a1f1) ∧ w'.cell? ⟨w.heap.size, 2, none⟩ = some (.int .i64 a1f2))) (by kernel_rfl) ?_ (fun hHeld => ?_)
    · exact ⟨p0, p1, p2⟩
    replace HA := Lib.hid (HA.out.keep (grown_drew (grown_refl _ none)))
    replace HQ := Lib.hid (HQ.out.keep (grown_drew (grown_refl _ none)))
    refine heldY 0 14 ?_
    refine heldY 2 16 ?_
    refine wpAnyH_ready (rs := [1]) (by kernel_rfl) (by simp) ?_
    refine AllReadyH.cons rfl (fun K hK => ?_) AllReadyH.nil
    go_simp
    go_at_call 38
    refine (toBlockS_any _ _ _ _ _ HL.out HA.out.row hn HP.out.1).mono ?_
    rintro e w2 ⟨A2, c2, cs2, rfl, hl, hs, ho, hk⟩
    replace HA := Lib.hid (HA.out.keep hk)
    replace HQ := Lib.hid (HQ.out.keep hk)
    have HR2 := Lib.hid (And.intro hl (And.intro hs ho.row))
    clear hk hl hs ho
    clear p0 p1 p2
    obtain ⟨p0, p1, p2⟩ := cells3 HQ.out
    refine hK.out _ _ ?_ (fun hHeld => ?_)
    · exact ⟨p0, p1, p2⟩
    clear hK K
    try simp only [Act.put, List.setIfInBounds_toArray, List.set_cons_zero, List.set_cons_succ]
    refine wpAnyH_ready (rs := [3]) (by kernel_rfl) (by simp) ?_
    refine AllReadyH.cons rfl (fun K hK => ?_) AllReadyH.nil
    go_simp
    go_at_call 40
    refine (toHeads_any _ _ _ _).mono ?_
    rintro e w3 ⟨rfl, hk⟩
    replace HA := Lib.hid (HA.out.keep hk)
    replace HQ := Lib.hid (HQ.out.keep hk)
    replace HR2 := Lib.hid (And.intro HR2.out.1 (And.intro HR2.out.2.1 (HR2.out.2.2.kept hk).here))
    clear hk
    clear p0 p1 p2
    obtain ⟨p0, p1, p2⟩ := cells3 HQ.out
    refine hK.out _ _ ?_ (fun hHeld => ?_)
    · exact ⟨p0, p1, p2⟩
    clear hK K
    try simp only [Act.put, List.setIfInBounds_toArray, List.set_cons_zero, List.set_cons_succ]
    refine wpAnyH_ready (rs := [4]) (by kernel_rfl) (by simp) ?_
    refine AllReadyH.cons rfl (fun K hK => ?_) AllReadyH.nil
    go_simp
    go_at_call 17
    refine (specFresh_val (HV.out.of HR2.out.2.1) HR2.out.1 HR2.out.2.2 hn (small_is HR2.out.2.1 HP.out.1)).mono ?_
    rintro e w4 ⟨rfl, hk⟩
    replace HA := Lib.hid (HA.out.keep hk)
    replace HQ := Lib.hid (HQ.out.keep hk)
    clear hk
    clear p0 p1 p2
    obtain ⟨p0, p1, p2⟩ := cells3 HQ.out
    refine hK.out _ _ ?_ (fun hHeld => ?_)
    · exact ⟨p0, p1, p2⟩
    clear hK K
    try simp only [Act.put, List.setIfInBounds_toArray, List.set_cons_zero, List.set_cons_succ]
    refine wpAnyH_ready (rs := [5]) (by kernel_rfl) (by simp) ?_
    refine AllReadyH.cons rfl (fun K hK => ?_) AllReadyH.nil
    go_simp
    refine hK.out _ _ ?_ (fun hHeld => ?_)
    · exact ⟨p0, p1, p2⟩
    clear hK K
    try simp only [Act.put, List.setIfInBounds_toArray, List.set_cons_zero, List.set_cons_succ]
    refine wpAnyH_done (by kernel_rfl) ?_ _
    clear p0 p1 p2
    go_wp2_with fail
    refine (toBlockS_any _ _ _ _ _ HL.out HA.out.row hn HP.out.1).mono ?_
    rintro e w5 ⟨A3, c3, cs3, rfl, hl, hs, ho, hk⟩
    obtain ⟨loHX, hiHX, hx, qHX, rHX⟩ : ∃ lo hi, VX w A3 n0 c3 cs3 lo hi w5 ∧ w.heap.size ≤ lo ∧ lo ≤ hi := ⟨_, _, VX.made HA.out.2 hl ho hk, HA.out.2.size, hk.size⟩
    replace HA := Lib.hid (HA.out.keep hk)
    replace HQ := Lib.hid (HQ.out.keep hk)
    have HX := Lib.hid hx
    have SHX := Lib.hid hs
    clear hk hl hs ho hx
    obtain ⟨p0, p1, p2⟩ := cells3 HQ.out
    go_wp2_with fail
    clear p0 p1 p2
    refine (toHeads_any _ _ _ _).mono ?_
    rintro e w6 ⟨rfl, hk⟩
    replace HA := Lib.hid (HA.out.keep hk)
    replace HQ := Lib.hid (HQ.out.keep hk)
    replace HX := Lib.hid (HX.out.keep hk)
    clear hk
    go_wp2_with fail
    refine (fresh_val (HV.out.of SHX.out) HX.out.2.1 HX.out.row hn (small_is SHX.out HP.out.1)).mono ?_
    rintro e w7 ⟨rfl, hk⟩
    replace HA := Lib.hid (HA.out.keep hk)
    replace HQ := Lib.hid (HQ.out.keep hk)
    replace HX := Lib.hid (HX.out.keep hk)
    clear hk
    go_wp2_with fail
    refine (toBlockS_any _ _ _ _ _ HL.out HA.out.row hn HP.out.1).mono ?_
    rintro e w8 ⟨A4, c4, cs4, rfl, hl, hs, ho, hk⟩
    replace HA := Lib.hid (HA.out.keep hk)
    replace HQ := Lib.hid (HQ.out.keep hk)
    replace HX := Lib.hid (HX.out.keep hk)
    have HR4 := Lib.hid (And.intro hl (And.intro hs ho.row))
    clear hk hl hs ho
    go_wp2_with fail
    refine (eqBlockS_same _ _ _ _ _ _ _ _ HX.out.2.1 (SHX.out.trans HR4.out.2.1.symm) HX.out.row HR4.out.2.2 hn (small_is SHX.out HP.out.1)).mono ?_
    rintro e w9 ⟨rfl, hk⟩
    replace HA := Lib.hid (HA.out.keep hk)
    replace HQ := Lib.hid (HQ.out.keep hk)
    replace HX := Lib.hid (HX.out.keep hk)
    clear hk
    go_wp2
    go_ret
    exact ⟨rfl, grown_below HA.out.2⟩

/-! ### THE ROW's STEP: WRITTEN OUT: LEAVE IT -/
set_option maxRecDepth 100000 in
theorem lifted (os : Os) (started : os.Started) (H : Type) (enc : TypeId × Value → H) :
    ReturnsInHanded {} Try.checked os 11 .any (Rows.fnExactFreshBlockSpec.pre6 enc Try.prog Try.f11 Rows.fnExactFreshBlockRow.domain false) (Rows.fnExactFreshBlockSpec.post enc Try.prog Try.f11 false true false false) := by
  refine returnsInHanded_of_change (C := Try.checked) own started (by kernel_rfl) Try.func11
    (ChangeSpec.witness6 (enc := enc) (C := Try.checked) false ⟨#[], #[.slice none 0 0, .agg #[.int .i64 0, .int .i64 0, .int .i64 0]], []⟩ 8 (by kernel_rfl) (by kernel_rfl) (by kernel_rfl) (by kernel_rfl)) ?_
  intro W base args ds gs before hval0 hW hcnd _
  have hval : ∀ (j : Nat) t v, Try.f11.params[j]? = some t → args[j]? = some v → Value.okWide Try.prog W .any base t v := hval0
  have hW' := hW
  obtain ⟨p, q, hA0, hV, rfl, hfz, hnd⟩ := hW
  have hA : DataW.TrodAll enc Try.prog W 0 (fun _ => true) true Try.f11.params.toList args.toList ds p := hA0
  rw [Try.params11] at hA hval
  obtain ⟨v0, vs0, d0, ds0, p0, q0, hargs, rfl, rfl, h0, r0⟩ := trodAll_cons hA
  obtain ⟨v1, vs1, d1, ds1, p1, q1, rfl, rfl, rfl, h1, r1⟩ := trodAll_cons r0
  obtain ⟨rfl, rfl, rfl⟩ := trodAll_nil r1
  obtain rfl : args = #[v0, v1] := by cases args; simp_all
  obtain ⟨rfl, rfl⟩ := trodVars_none hV
  have k0 := h0
  have lt0 : ∀ x ∈ p0, x.block < W.heap.size := by obtain ⟨m, hm⟩ := k0; exact DataW.trod_lt m _ _ _ hm
  obtain ⟨a0, n0, c0, rfl⟩ := okWide_slice Try.underlying48 (hval 0 48 v0 rfl rfl)
  obtain ⟨b0, w0⟩ : ∃ bs, IsBlocks W a0 n0 c0 bs := by
    obtain ⟨fuel, hf⟩ := h0
    obtain ⟨A, n, c, bs, e, hw⟩ := open_blocks (v := .slice a0 n0 c0) hf
    injection e with e1 e2 e3
    subst e1; subst e2; subst e3
    exact ⟨bs, hw⟩
  have k1 := h1
  have lt1 : ∀ x ∈ p1, x.block < W.heap.size := by obtain ⟨m, hm⟩ := k1; exact DataW.trod_lt m _ _ _ hm
  obtain ⟨c1, rfl, l1, f1⟩ := open_agg Try.underlying52 (by kernel_rfl) (by kernel_rfl) (hval 1 52 v1 rfl rfl) h1
  obtain ⟨v1f0, v1f1, v1f2, rfl⟩ := list3 l1
  obtain ⟨n1f0, y1f0, t1f0⟩ := f1 0 _ _ rfl rfl
  obtain ⟨a1f0, e1f0, _, w1f0⟩ := DataW.trod_int Try.underlying3 t1f0
  obtain ⟨rfl, _⟩ := List.cons.inj e1f0
  obtain ⟨n1f1, y1f1, t1f1⟩ := f1 1 _ _ rfl rfl
  obtain ⟨a1f1, e1f1, _, w1f1⟩ := DataW.trod_int Try.underlying3 t1f1
  obtain ⟨rfl, _⟩ := List.cons.inj e1f1
  obtain ⟨n1f2, y1f2, t1f2⟩ := f1 2 _ _ rfl rfl
  obtain ⟨a1f2, e1f2, _, w1f2⟩ := DataW.trod_int Try.underlying3 t1f2
  obtain ⟨rfl, _⟩ := List.cons.inj e1f2
  clear hA0 hval0
  refine (walk a0 n0 c0 b0 a1f0 a1f1 a1f2 W w0 w1f0 w1f1 w1f2).mono fun e W' ⟨he, bel⟩ => ?_
  subst he
  exact ⟨_, rfl, _, _, _, [], _, [], hW', trodAll_mk1 (shut_bool Try.underlying4 _), (trodAll_cons_mk (Below.trod laidOut (by kernel_rfl) (of_decide_eq_true (by kernel_rfl)) k0 bel lt0) (trodAll_cons_mk (Below.trod laidOut (by kernel_rfl) (of_decide_eq_true (by kernel_rfl)) k1 bel lt1) trodAll_mk0)), rfl, bel.frame _, fun h => by cases h⟩

theorem over : Rows.fnExactFreshBlockRow.holds Try.pinned (OpenSpec.ofChange Rows.fnExactFreshBlockSpec) :=
  OpenClaim.holds_of_wide 11 Try.f11 rfl rfl rfl rfl rfl rfl rfl ⟨rfl, rfl, rfl, rfl, rfl⟩ rfl rfl rfl rfl rfl (by kernel_rfl) Try.func11 (by kernel_rfl)
    (of_decide_eq_true (by kernel_rfl)) (by unfold Func.isWrapper; first | (rw [if_pos (by decide +kernel)]; kernel_rfl) | (rw [if_neg (by decide +kernel)]; exact ⟨rfl, rfl⟩))
    (fun os started H enc _ => lifted os started H enc)

/-- ████ THE STATEMENT ████ -/
theorem proved : Rows.FnExactFreshBlockSaid := over
#print axioms proved
end Go.Proofs.Ytpdkfgihpchkiaa.fnExactFreshBlock
