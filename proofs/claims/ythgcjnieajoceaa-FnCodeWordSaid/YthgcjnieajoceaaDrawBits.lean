/- What the draws of chapter 1 answer: sets and numbers, and nothing that was there is written. -/
import Derived.Test.YthgcjnieajoceaaDraw
import Derived.Outline
namespace Go.Proofs.Ythgcjnieajoceaa
open Go.ChangeShapes Go.WideShapes Go.ChangeAt Go.RowKit

theorem size_of_alloc (w : World) (o : Obj) : (w.alloc o).heap.size = w.heap.size + 1 := by simp
/-- A draw of a number out of a reader. -/
def DrewInt (w : World) (B g P : Nat) (e : Ending) (w' : World) : Prop :=
  ∃ v : Int, e = .returned (.int .i64 v) ∧ Rd w' B g P ∧ w.grownBy w' (some g)

/-- A draw of one number out of a code: nothing that was there is written. -/
def IntDrawn (w : World) (e : Ending) (w' : World) : Prop := ∃ v : Int, e = .returned (.int .i64 v) ∧ Below w.heap.size w w'
def Int2Drawn (w : World) (e : Ending) (w' : World) : Prop := ∃ u v : Int, e = .returned (.tuple #[.int .i64 u, .int .i64 v]) ∧ Below w.heap.size w w'
def Int2BDrawn (w : World) (e : Ending) (w' : World) : Prop := ∃ (u v : Int) (b : Bool), e = .returned (.tuple #[.int .i64 u, .int .i64 v, .bool b]) ∧ Below w.heap.size w w'

end Go.Proofs.Ythgcjnieajoceaa
