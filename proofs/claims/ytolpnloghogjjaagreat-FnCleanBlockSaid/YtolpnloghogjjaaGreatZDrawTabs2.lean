/- What the model draws for chapter 7: DrawTableGet, DrawTableChanges.
   What the model draws for chapter 7: DrawTableChanges. -/
import Derived.Test.YtolpnloghogjjaaGreatZDrawTabs
namespace Go.Proofs.YtolpnloghogjjaaGreat
open Go.ChangeShapes Go.WideShapes Go.ChangeAt Go.RowKit
set_option linter.unusedVariables false
set_option linter.unusedSimpArgs false

/-- A drawn table while the law walks on. -/
def LT (w : World) (A : Option Addr) (ls : List Li) (wr : World) : Prop := TRow wr wr.heap.size A ls ∧ Below w.heap.size w wr
theorem LT.keep {w wr w' : World} {A : Option Addr} {ls : List Li} (h : LT w A ls wr) (k : wr.grownBy w' none) : LT w A ls w' := ⟨(h.1.kept k).here, Below.and_kept h.2 k⟩
theorem LT.alloc {w wr : World} {A : Option Addr} {ls : List Li} (h : LT w A ls wr) (o : Obj) : LT w A ls (wr.alloc o) := h.keep (grown_alloc (grown_refl _ _) o)
section
variable {w wr w' : World} {B g Q Q' V n c : Nat} {A : Option Addr} {ls : List Li}
end
end Go.Proofs.YtolpnloghogjjaaGreat
namespace Go.Proofs.YtolpnloghogjjaaGreat
open Go.ChangeShapes Go.WideShapes Go.ChangeAt Go.RowKit
set_option linter.unusedVariables false
set_option linter.unusedSimpArgs false

theorem LT.putLo {w wr : World} {A : Option Addr} {ls : List Li} {lo : Nat} (h : LT w A ls wr) (f : TFar lo A ls) {p : Addr} (hp : p.block < lo) (hw : w.heap.size ≤ p.block) (u : Value) : LT w A ls (wr.setCell p u) := by
  have hs : (wr.setCell p u).heap.size = wr.heap.size := by simp [World.setCell]
  refine ⟨?_, h.2.setCell hw u⟩
  rw [hs]
  exact h.1.putLo f hp u
end Go.Proofs.YtolpnloghogjjaaGreat
