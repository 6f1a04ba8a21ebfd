/- Plain facts and states that the Fn laws of chapter 9 ask. -/
import Derived.Test.YtofolifmgpgkoaaExtLaws
import Derived.Test.YtofolifmgpgkoaaExtDraw
import Derived.Test.YtofolifmgpgkoaaSameTabs
namespace Go.Proofs.Ytofolifmgpgkoaa
open Go.ChangeShapes Go.WideShapes Go.ChangeAt Go.RowKit
set_option linter.unusedVariables false

/-- Numbers that were drawn out of a code, while a law walks on. -/
def LNs (w : World) (A : Option Addr) (xs : List Int) (wr : World) : Prop := IRow wr wr.heap.size A xs ∧ Below w.heap.size w wr
theorem LNs.keep {w wr w' : World} {A : Option Addr} {xs : List Int} (h : LNs w A xs wr) (k : wr.grownBy w' none) : LNs w A xs w' := ⟨IRow.keepN h.1 k, Below.and_kept h.2 k⟩
theorem exNums_bound {ps : List Pr} (h : extB ps = true) : ∀ x, x ∈ exNums ps → -9223372036854775808 ≤ x ∧ x ≤ 9223372036854775807 := by
  intro x hx
  simp only [exNums, List.mem_flatMap] at hx
  obtain ⟨p, hp, hx⟩ := hx
  obtain ⟨k, hk⟩ := List.getElem?_of_mem hp
  have ho := ext_ok h hk
  simp only [exOne, List.mem_map, List.mem_range] at hx
  obtain ⟨j, hj, rfl⟩ := hx
  omega
theorem exList_yes {ps : List Pr} (h : extB ps = true) : exListV ps = exNums ps := by simp [exListV, h]
theorem exList_no {ps : List Pr} (h : extB ps = false) : exListV ps = [] := by simp [exListV, h]
theorem exAt_cases {ps : List Pr} {x V : Int} {X : List Int} {m : Nat} (h : exAtV ps x = V) (hX : exListV ps = X) (hm : X.length = m) : ((x < 0 ∨ (m : Int) ≤ x) → V = -1) ∧ (0 ≤ x → x < (m : Int) → X[x.toNat]? = some V) := by
  subst hX; subst hm
  cases hv : extB ps
  · rw [exList_no hv]
    exact ⟨fun _ => by rw [← h, exAt_no hv], fun h0 h1 => by simp at h1; omega⟩
  · rw [exList_yes hv]
    constructor
    · rintro (h0 | h0)
      · rw [← h, exAt_neg h0]
      · by_cases h1 : x < 0
        · rw [← h, exAt_neg h1]
        · obtain ⟨N, rfl⟩ := Int.eq_ofNat_of_zero_le (show 0 ≤ x by omega)
          rw [← h, exAt_yes hv, List.getElem?_eq_none (by omega)]
          rfl
    · intro h0 h1
      obtain ⟨N, rfl⟩ := Int.eq_ofNat_of_zero_le h0
      rw [Int.toNat_natCast, ← h, exAt_yes hv]
      have hl : N < (exNums ps).length := by omega
      rw [List.getElem?_eq_getElem hl, Option.getD_some]
theorem rv_drop (ps : List Pr) (m : Nat) : rv (ps.drop m) = (rv ps).drop (m * 2) := by
  induction m generalizing ps with
  | zero => simp
  | succ m ih =>
    cases ps with
    | nil => simp [rv]
    | cons p r =>
      rw [List.drop_succ_cons, ih, show (m + 1) * 2 = m * 2 + 1 + 1 by omega]
      simp only [rv, List.drop_succ_cons]
/-- list[m:] -/
theorem PRow.from {w : World} {B : Nat} {A : Option Addr} {ps : List Pr} (h : PRow w B A ps) (m : Nat) : PRow w B (Option.map (fun x => x.add (m * 2)) A) (ps.drop m) := fun hn => by
  rw [rv_length, List.length_drop] at hn
  obtain ⟨g, off, rfl, hb, hz, hc⟩ := h (by rw [rv_length]; omega)
  refine ⟨g, off + m * 2, by simp [Go.WideShapes.add_plain], hb, hz, fun i u hu => ?_⟩
  rw [rv_drop, List.getElem?_drop] at hu
  have := hc _ _ hu
  rwa [← Nat.add_assoc] at this
end Go.Proofs.Ytofolifmgpgkoaa
