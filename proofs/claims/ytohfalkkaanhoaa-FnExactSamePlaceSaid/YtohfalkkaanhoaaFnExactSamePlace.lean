/- SamePlace answers as its model for every two pages: proved.
   Conditions: none beyond the row's own reading of the input. The frame was written by the guide's proof-skeleton; the walk is ours. -/
import Derived.Test.YtohfalkkaanhoaaAgg
import Derived.Test.YtohfalkkaanhoaaPages
import Derived.Test.YtohfalkkaanhoaaRows
import Derived.WalkKit
import Derived.ProofKit
import Derived.OpenShut
import Derived.ShutString
import Derived.ChangeOld
import Derived.Below
namespace Go.Proofs.Ytohfalkkaanhoaa.fnExactSamePlace
open Go.ChangeShapes Go.WideShapes Go.ChangeAt Go.RowKit
open Go.ChangeMaps (open_string shut_string)
set_option linter.unusedVariables false

theorem own : ownKnob Try.prog.godebug = none := by kernel_rfl
theorem laidOut : laidOutB Try.prog = true := by kernel_rfl

/-- WHAT THE WALK IS TOLD OF A SLICE OF INTEGERS THAT CAME IN: it is nil; or it leads to a row of 'cap' cells, the numbers 'zs' (the first 'len' are its elements, the rest its spare room), each fitting its kind. -/
def IsRow (k : IntKind) (w : World) (a : Option Addr) (len cap : Nat) (zs : List Int) : Prop :=
  (a = none ∧ len = 0 ∧ cap = 0 ∧ zs = []) ∨
  ∃ x, a = some x ∧ len ≤ cap ∧ cap ≤ maxLen ∧ zs.length = cap ∧ (∀ i, i < zs.length → w.cell? (x.add i) = some (.int k (zs.getD i 0))) ∧ ∀ n ∈ zs, (Lit.int k n).wf = true

/-! ### STEP 1: THE WALK: the Go text returns true, AND WRITES NOTHING THAT WAS THERE: 'Below w.heap.size w w'' (Derived/Below.lean: '.refl', '.alloc', '.drew', '.setCell' at a new block, '.trans'). Open each 'IsRow' by 'rcases' AHEAD of 'go_enter'; part every test ahead of the walk. -/
theorem walk (a0f0 : Bool) (a0f1 : Int) (a0f2 : Int) (a0f3 : Int) (a0f4 : Int) (a1f0 : Bool) (a1f1 : Int) (a1f2 : Int) (a1f3 : Int) (a1f4 : Int) (w : World) (w0f1 : (Lit.int .i64 a0f1).wf = true) (w0f2 : (Lit.int .i64 a0f2).wf = true) (w0f3 : (Lit.int .i64 a0f3).wf = true) (w0f4 : (Lit.int .i64 a0f4).wf = true) (w1f1 : (Lit.int .i64 a1f1).wf = true) (w1f2 : (Lit.int .i64 a1f2).wf = true) (w1f3 : (Lit.int .i64 a1f3).wf = true) (w1f4 : (Lit.int .i64 a1f4).wf = true) :
    Calls Try.prog 7 #[.agg #[.bool a0f0, .int .i64 a0f1, .int .i64 a0f2, .int .i64 a0f3, .int .i64 a0f4], .agg #[.bool a1f0, .int .i64 a1f1, .int .i64 a1f2, .int .i64 a1f3, .int .i64 a1f4]] w fun e w' => e = .returned (.bool true) ∧ Below w.heap.size w w' := by
  have hA := (Blk.new w 33 #[.bool a0f0, .int .i64 a0f1, .int .i64 a0f2, .int .i64 a0f3, .int .i64 a0f4]).alloc (.cells #[.bool a1f0, .int .i64 a1f1, .int .i64 a1f2, .int .i64 a1f3, .int .i64 a1f4] 33)
  have hB := Blk.new (w.alloc (.cells #[.bool a0f0, .int .i64 a0f1, .int .i64 a0f2, .int .i64 a0f3, .int .i64 a0f4] 33)) 33 #[.bool a1f0, .int .i64 a1f1, .int .i64 a1f2, .int .i64 a1f3, .int .i64 a1f4]
  simp only [size_alloc1] at hB
  have hG := grown_alloc (grown_alloc (grown_refl w none) (.cells #[.bool a0f0, .int .i64 a0f1, .int .i64 a0f2, .int .i64 a0f3, .int .i64 a0f4] 33)) (.cells #[.bool a1f0, .int .i64 a1f1, .int .i64 a1f2, .int .i64 a1f3, .int .i64 a1f4] 33)
  cases hv : sameB a0f0 a0f1 a0f2 a0f3 a0f4 a1f0 a1f1 a1f2 a1f3 a1f4
  all_goals
    go_enter Try.func7, Try.ntmps7
    go_wp2_with fail
    go_region_held3 (fun w' => w'.cell? ⟨w.heap.size, 0, none⟩ = some (.bool a0f0) ∧ w'.cell? ⟨w.heap.size, 1, none⟩ = some (.int .i64 a0f1) ∧ w'.cell? ⟨w.heap.size, 2, none⟩ = some (.int .i64 a0f2) ∧ w'.cell? ⟨w.heap.size, 3, none⟩ = some (.int .i64 a0f3) ∧ w'.cell? ⟨w.heap.size, 4, none⟩ = some (.int .i64 a0f4) ∧ w'.cell? ⟨w.heap.size + 1, 0, none⟩ = some (.bool a1f0) ∧ w'.cell? ⟨w.heap.size + 1, 1, none⟩ = some (.int .i64 a1f1) ∧ w'.cell? ⟨w.heap.size + 1, 2, none⟩ = some (.int .i64 a1f2) ∧ w'.cell? ⟨w.heap.size + 1, 3, none⟩ = some (.int .i64 a1f3) ∧ w'.cell? ⟨w.heap.size + 1, 4, none⟩ = some (.int .i64 a1f4)) (first | go_keep | exact ⟨c0, c1, c2, c3, c4, e0, e1, e2, e3, e4⟩)
      (first | (go_at_call 19; refine (toPage_any _ _ _ _ _ _).mono ?_; rintro e w1 ⟨rfl, hk⟩; (first | replace hA := hA.grown hk (by simp) | replace hA := hA.drew.grown hk (by simp)); (first | replace hB := hB.grown hk (by simp) | replace hB := hB.drew.grown hk (by simp)); (first | replace hG := grown_trans hG hk | replace hG := grown_trans (grown_drew hG) hk); clear hk; obtain ⟨c0, c1, c2, c3, c4⟩ := cells5 hA; obtain ⟨e0, e1, e2, e3, e4⟩ := cells5 hB) | (go_at_call 15; refine (specSame_any _ _ _ _ _ _ _ _ _ _ _).mono ?_; rintro e w1 ⟨rfl, hk⟩; (first | replace hA := hA.grown hk (by simp) | replace hA := hA.drew.grown hk (by simp)); (first | replace hB := hB.grown hk (by simp) | replace hB := hB.drew.grown hk (by simp)); (first | replace hG := grown_trans hG hk | replace hG := grown_trans (grown_drew hG) hk); clear hk; obtain ⟨c0, c1, c2, c3, c4⟩ := cells5 hA; obtain ⟨e0, e1, e2, e3, e4⟩ := cells5 hB))
    all_goals go_wp2_with fail
    all_goals
      go_region_held3 (fun w' => w'.cell? ⟨w.heap.size, 0, none⟩ = some (.bool a0f0) ∧ w'.cell? ⟨w.heap.size, 1, none⟩ = some (.int .i64 a0f1) ∧ w'.cell? ⟨w.heap.size, 2, none⟩ = some (.int .i64 a0f2) ∧ w'.cell? ⟨w.heap.size, 3, none⟩ = some (.int .i64 a0f3) ∧ w'.cell? ⟨w.heap.size, 4, none⟩ = some (.int .i64 a0f4) ∧ w'.cell? ⟨w.heap.size + 1, 0, none⟩ = some (.bool a1f0) ∧ w'.cell? ⟨w.heap.size + 1, 1, none⟩ = some (.int .i64 a1f1) ∧ w'.cell? ⟨w.heap.size + 1, 2, none⟩ = some (.int .i64 a1f2) ∧ w'.cell? ⟨w.heap.size + 1, 3, none⟩ = some (.int .i64 a1f3) ∧ w'.cell? ⟨w.heap.size + 1, 4, none⟩ = some (.int .i64 a1f4)) (first | go_keep | exact ⟨c0, c1, c2, c3, c4, e0, e1, e2, e3, e4⟩)
        (first | (go_at_call 19; refine (toPage_any _ _ _ _ _ _).mono ?_; rintro e w1 ⟨rfl, hk⟩; (first | replace hA := hA.grown hk (by simp) | replace hA := hA.drew.grown hk (by simp)); (first | replace hB := hB.grown hk (by simp) | replace hB := hB.drew.grown hk (by simp)); (first | replace hG := grown_trans hG hk | replace hG := grown_trans (grown_drew hG) hk); clear hk; obtain ⟨c0, c1, c2, c3, c4⟩ := cells5 hA; obtain ⟨e0, e1, e2, e3, e4⟩ := cells5 hB) | (go_at_call 14; refine (same_any _ _ _ _ _ _ _ _ _ _ _).mono ?_; rintro e w1 ⟨rfl, hk⟩; (first | replace hA := hA.grown hk (by simp) | replace hA := hA.drew.grown hk (by simp)); (first | replace hB := hB.grown hk (by simp) | replace hB := hB.drew.grown hk (by simp)); (first | replace hG := grown_trans hG hk | replace hG := grown_trans (grown_drew hG) hk); clear hk; obtain ⟨c0, c1, c2, c3, c4⟩ := cells5 hA; obtain ⟨e0, e1, e2, e3, e4⟩ := cells5 hB))
    all_goals
      go_wp2
      go_ret
      exact ⟨rfl, grown_below hG⟩

/-! ### THE ROW's STEP: WRITTEN OUT: LEAVE IT -/
set_option maxRecDepth 100000 in
theorem lifted (os : Os) (started : os.Started) (H : Type) (enc : TypeId × Value → H) :
    ReturnsInHanded {} Try.checked os 7 .any (Rows.fnExactSamePlaceSpec.pre6 enc Try.prog Try.f7 Rows.fnExactSamePlaceRow.domain false) (Rows.fnExactSamePlaceSpec.post enc Try.prog Try.f7 false true false false) := by
  refine returnsInHanded_of_change (C := Try.checked) own started (by kernel_rfl) Try.func7
    (ChangeSpec.witness6 (enc := enc) (C := Try.checked) false ⟨#[], #[.agg #[.bool false, .int .i64 0, .int .i64 0, .int .i64 0, .int .i64 0], .agg #[.bool false, .int .i64 0, .int .i64 0, .int .i64 0, .int .i64 0]], []⟩ 8 (by kernel_rfl) (by kernel_rfl) (by kernel_rfl) (by kernel_rfl)) ?_
  intro W base args ds gs before hval0 hW hcnd _
  have hval : ∀ (j : Nat) t v, Try.f7.params[j]? = some t → args[j]? = some v → Value.okWide Try.prog W .any base t v := hval0
  have hW' := hW
  obtain ⟨p, q, hA0, hV, rfl, hfz, hnd⟩ := hW
  have hA : DataW.TrodAll enc Try.prog W 0 (fun _ => true) true Try.f7.params.toList args.toList ds p := hA0
  rw [Try.params7] at hA hval
  obtain ⟨v0, vs0, d0, ds0, p0, q0, hargs, rfl, rfl, h0, r0⟩ := trodAll_cons hA
  obtain ⟨v1, vs1, d1, ds1, p1, q1, rfl, rfl, rfl, h1, r1⟩ := trodAll_cons r0
  obtain ⟨rfl, rfl, rfl⟩ := trodAll_nil r1
  obtain rfl : args = #[v0, v1] := by cases args; simp_all
  obtain ⟨rfl, rfl⟩ := trodVars_none hV
  have k0 := h0
  have lt0 : ∀ x ∈ p0, x.block < W.heap.size := by obtain ⟨m, hm⟩ := k0; exact DataW.trod_lt m _ _ _ hm
  obtain ⟨c0, rfl, l0, f0⟩ := open_agg Try.underlying33 (by kernel_rfl) (by kernel_rfl) (hval 0 33 v0 rfl rfl) h0
  obtain ⟨v0f0, v0f1, v0f2, v0f3, v0f4, rfl⟩ := list5 l0
  obtain ⟨n0f0, y0f0, t0f0⟩ := f0 0 _ _ rfl rfl
  obtain ⟨a0f0, e0f0, _⟩ := DataW.trod_bool Try.underlying4 t0f0
  obtain ⟨rfl, _⟩ := List.cons.inj e0f0
  obtain ⟨n0f1, y0f1, t0f1⟩ := f0 1 _ _ rfl rfl
  obtain ⟨a0f1, e0f1, _, w0f1⟩ := DataW.trod_int Try.underlying3 t0f1
  obtain ⟨rfl, _⟩ := List.cons.inj e0f1
  obtain ⟨n0f2, y0f2, t0f2⟩ := f0 2 _ _ rfl rfl
  obtain ⟨a0f2, e0f2, _, w0f2⟩ := DataW.trod_int Try.underlying3 t0f2
  obtain ⟨rfl, _⟩ := List.cons.inj e0f2
  obtain ⟨n0f3, y0f3, t0f3⟩ := f0 3 _ _ rfl rfl
  obtain ⟨a0f3, e0f3, _, w0f3⟩ := DataW.trod_int Try.underlying3 t0f3
  obtain ⟨rfl, _⟩ := List.cons.inj e0f3
  obtain ⟨n0f4, y0f4, t0f4⟩ := f0 4 _ _ rfl rfl
  obtain ⟨a0f4, e0f4, _, w0f4⟩ := DataW.trod_int Try.underlying3 t0f4
  obtain ⟨rfl, _⟩ := List.cons.inj e0f4
  have k1 := h1
  have lt1 : ∀ x ∈ p1, x.block < W.heap.size := by obtain ⟨m, hm⟩ := k1; exact DataW.trod_lt m _ _ _ hm
  obtain ⟨c1, rfl, l1, f1⟩ := open_agg Try.underlying33 (by kernel_rfl) (by kernel_rfl) (hval 1 33 v1 rfl rfl) h1
  obtain ⟨v1f0, v1f1, v1f2, v1f3, v1f4, rfl⟩ := list5 l1
  obtain ⟨n1f0, y1f0, t1f0⟩ := f1 0 _ _ rfl rfl
  obtain ⟨a1f0, e1f0, _⟩ := DataW.trod_bool Try.underlying4 t1f0
  obtain ⟨rfl, _⟩ := List.cons.inj e1f0
  obtain ⟨n1f1, y1f1, t1f1⟩ := f1 1 _ _ rfl rfl
  obtain ⟨a1f1, e1f1, _, w1f1⟩ := DataW.trod_int Try.underlying3 t1f1
  obtain ⟨rfl, _⟩ := List.cons.inj e1f1
  obtain ⟨n1f2, y1f2, t1f2⟩ := f1 2 _ _ rfl rfl
  obtain ⟨a1f2, e1f2, _, w1f2⟩ := DataW.trod_int Try.underlying3 t1f2
  obtain ⟨rfl, _⟩ := List.cons.inj e1f2
  obtain ⟨n1f3, y1f3, t1f3⟩ := f1 3 _ _ rfl rfl
  obtain ⟨a1f3, e1f3, _, w1f3⟩ := DataW.trod_int Try.underlying3 t1f3
  obtain ⟨rfl, _⟩ := List.cons.inj e1f3
  obtain ⟨n1f4, y1f4, t1f4⟩ := f1 4 _ _ rfl rfl
  obtain ⟨a1f4, e1f4, _, w1f4⟩ := DataW.trod_int Try.underlying3 t1f4
  obtain ⟨rfl, _⟩ := List.cons.inj e1f4
  clear hA0 hval0
  refine (walk a0f0 a0f1 a0f2 a0f3 a0f4 a1f0 a1f1 a1f2 a1f3 a1f4 W w0f1 w0f2 w0f3 w0f4 w1f1 w1f2 w1f3 w1f4).mono fun e W' ⟨he, bel⟩ => ?_
  subst he
  exact ⟨_, rfl, _, _, _, [], _, [], hW', trodAll_mk1 (shut_bool Try.underlying4 _), (trodAll_cons_mk (Below.trod laidOut (by kernel_rfl) (of_decide_eq_true (by kernel_rfl)) k0 bel lt0) (trodAll_cons_mk (Below.trod laidOut (by kernel_rfl) (of_decide_eq_true (by kernel_rfl)) k1 bel lt1) trodAll_mk0)), rfl, bel.frame _, fun h => by cases h⟩

theorem over : Rows.fnExactSamePlaceRow.holds Try.pinned (OpenSpec.ofChange Rows.fnExactSamePlaceSpec) :=
  OpenClaim.holds_of_wide 7 Try.f7 rfl rfl rfl rfl rfl rfl rfl ⟨rfl, rfl, rfl, rfl, rfl⟩ rfl rfl rfl rfl rfl (by kernel_rfl) Try.func7 (by kernel_rfl)
    (of_decide_eq_true (by kernel_rfl)) (by unfold Func.isWrapper; first | (rw [if_pos (by decide +kernel)]; kernel_rfl) | (rw [if_neg (by decide +kernel)]; exact ⟨rfl, rfl⟩))
    (fun os started H enc _ => lifted os started H enc)

/-- ████ THE STATEMENT ████ -/
theorem proved : Rows.FnExactSamePlaceSaid := over
#print axioms proved
end Go.Proofs.Ytohfalkkaanhoaa.fnExactSamePlace
