/- What the model draws for chapter 11: small values, a number. -/
import Derived.Test.YtofolifmgpgkoaaSmalls
import Derived.Test.YtofolifmgpgkoaaExtDraw
namespace Go.Proofs.Ytofolifmgpgkoaa
open Go.ChangeShapes Go.WideShapes Go.ChangeAt Go.RowKit
set_option linter.unusedVariables false
set_option linter.unusedSimpArgs false

/-- Small values are drawn. -/
def DrewSmall (w : World) (B g P : Nat) (e : Ending) (w' : World) : Prop :=
  ∃ (A : Option Addr) (n c : Nat) (xs : List Int), e = .returned (.slice A n c) ∧ xs.length = n ∧ n ≤ 5 ∧ IOwn w' w.heap.size (.slice A n c) xs ∧ Rd w' B g P ∧ w.grownBy w' (some g)
theorem litS3 (z : Nat) (h : z < 3) (a b c : Int) : ∃ v : Int, (#[Value.int .i64 a, .int .i64 b, .int .i64 c] : Array Value)[z]? = some (.int .i64 v) := by
  match z, h with
  | 0, _ => exact ⟨a, rfl⟩
  | 1, _ => exact ⟨b, rfl⟩
  | 2, _ => exact ⟨c, rfl⟩
/-- Small values are drawn out of a code. -/
def SmallDrawn (w : World) (e : Ending) (w' : World) : Prop := ∃ (A : Option Addr) (n c : Nat) (xs : List Int), e = .returned (.slice A n c) ∧ xs.length = n ∧ n ≤ 5 ∧ n ≤ c ∧ c ≤ maxLen ∧ IRow w' w'.heap.size A xs ∧ Below w.heap.size w w'
/-- A number is drawn out of a code. -/
def SmNumDrawn (w : World) (e : Ending) (w' : World) : Prop := ∃ v : Int, e = .returned (.int .i64 v) ∧ -9223372036854775808 ≤ v ∧ v ≤ 9223372036854775807 ∧ Below w.heap.size w w'
end Go.Proofs.Ytofolifmgpgkoaa
