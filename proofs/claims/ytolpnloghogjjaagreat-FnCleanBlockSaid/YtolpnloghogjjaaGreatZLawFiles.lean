/- What the exact laws of chapter 8 carry along: numbers of the call's own; a table cut short. -/
import Derived.Test.YtolpnloghogjjaaGreatZLawTabs
import Derived.Test.YtolpnloghogjjaaGreatZFiles5
namespace Go.Proofs.YtolpnloghogjjaaGreat
open Go.ChangeShapes Go.WideShapes Go.ChangeAt Go.RowKit Go.Deep
set_option linter.unusedVariables false

section
variable {w wr w' : World} {A : Option Addr} {n c lo hi lox hix : Nat} {xs : List Int}
end
/-- So many numbers, in memory of their own. -/
def IMadeN (xs : List Int) (m : Nat) (w : World) (e : Ending) (w' : World) : Prop := ∃ (A : Option Addr) (c : Nat), e = .returned (.slice A m c) ∧ xs.length = m ∧ IOwn w' w.heap.size (.slice A m c) xs ∧ w.grownBy w' none
theorem IMade.to {xs : List Int} {m : Nat} {w w' : World} {e : Ending} (h : IMade xs w e w') (hl : xs.length = m) : IMadeN xs m w e w' := by
  obtain ⟨A, n, c, h1, h2, h3⟩ := h
  obtain rfl : n = m := by rw [← h2, ← hl]
  exact ⟨A, c, h1, h2, h3⟩
/-- So many numbers, in memory of their own, and whether it is possible. -/
def IMadeN2 (xs : List Int) (m : Nat) (r : Bool) (w : World) (e : Ending) (w' : World) : Prop := ∃ (A : Option Addr) (c : Nat), e = .returned (.tuple #[.slice A m c, .bool r]) ∧ xs.length = m ∧ IOwn w' w.heap.size (.slice A m c) xs ∧ w.grownBy w' none
theorem IMade2.to {xs : List Int} {m : Nat} {r : Bool} {w w' : World} {e : Ending} (h : IMade2 xs r w e w') (hl : xs.length = m) : IMadeN2 xs m r w e w' := by
  obtain ⟨A, n, c, h1, h2, h3⟩ := h
  obtain rfl : n = m := by rw [← h2, ← hl]
  exact ⟨A, c, h1, h2, h3⟩
theorem TabMade3.to {xss : List (List Int)} {n : Nat} {w w' : World} {e : Ending} (h : TabMade3 xss w e w') (hl : xss.length = n) : TabMade xss n w e w' := by
  obtain ⟨m, A, c, cs, h1, h2, h3, h4⟩ := h
  obtain rfl : m = n := by rw [← h2, ← hl, ← h3, ll_length]
  exact ⟨A, c, cs, h1, h2, h3, h4⟩
section
variable {w : World} {A : Option Addr} {n c n1 : Nat} {ls : List Li} {f p : Int} {l1 : List (List Int)} {x1 : List Int}
end
end Go.Proofs.YtolpnloghogjjaaGreat
