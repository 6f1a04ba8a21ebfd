/- What chapter 5 answers, further: EraseAt of both. -/
import Derived.Test.YtbhbbfpafonaiaaDevices9
namespace Go.Proofs.Ytbhbbfpafonaiaa
open Go.ChangeShapes Go.WideShapes Go.ChangeAt Go.RowKit

/-- There is such a block. -/
def hasB (n : Nat) (a : Int) : Bool := decide (0 ≤ a) && decide (a < (n : Int))
theorem hasBlock_any (A : Option Addr) (n c : Nat) (a : Int) (w : World) :
    Calls Try.prog 28 #[.slice A n c, .int .i64 a] w fun e w' => e = .returned (.bool (hasB n a)) ∧ w = w' := by
  go_enter Try.func28, Try.ntmps28
  go_wp2
  all_goals (go_ret; refine ⟨retB ?_, rfl⟩; rw [Bool.eq_iff_iff]; simp [hasB]; omega)
theorem hasBlock_val {n : Nat} {a : Int} {V : Bool} (h : hasB n a = V) (A : Option Addr) (c : Nat) (w : World) :
    Calls Try.prog 28 #[.slice A n c, .int .i64 a] w fun e w' => e = .returned (.bool V) ∧ w = w' := h ▸ hasBlock_any A n c a w
theorem hasB_in {n : Nat} {a : Int} (h : hasB n a = false) : inB a 0 ((n : Int) - 1) = false := by
  cases h2 : inB a 0 ((n : Int) - 1)
  · rfl
  · obtain ⟨h3, h4⟩ := inB_iff.1 h2
    simp [hasB] at h
    omega
theorem devMade2_nil {w w' : World} {r : Value} (h : w.grownBy w' none) : DevMade2 [] 0 r w (.returned (.tuple #[.slice none 0 0, r])) w' := ⟨none, 0, [], rfl, rfl, rfl, ⟨World.ownsRow_nil _ _ _ _, fun b hb => by simp at hb, fun i j b b' a a' _ hi => by simp at hi⟩, h⟩
theorem devMade2_empty {w w' : World} {r : Value} (h : w.grownBy w' none) : DevMade2 [] 0 r w (.returned (.tuple #[.slice (some ⟨w'.heap.size, 0, none⟩) 0 0, r])) (w'.alloc (.cells #[] 28)) :=
  ⟨_, _, [], rfl, rfl, rfl, (dev_empty w').base_le h.size, grown_alloc h _⟩
end Go.Proofs.Ytbhbbfpafonaiaa
