/- What the model's l7New and l7Copy answer: tables in memory of their own.
   What the model's l7Copy answers: a table in memory of its own. -/
import Derived.Test.YtengcjglkcmkbaaInts
import Derived.Test.YtengcjglkcmkbaaHand
namespace Go.Proofs.Ytengcjglkcmkbaa
open Go.ChangeShapes Go.WideShapes Go.ChangeAt Go.RowKit

theorem take_at {xss : List (List Int)} {k : Nat} {xs : List Int} (h : xss[k]? = some xs) : xss.take (k + 1) = xss.take k ++ [xs] := by rw [List.take_add_one, h]; rfl
theorem VOwn.head {w : World} {base n : Nat} {ty : TypeId} {v : Value} {cs : List Value} (h : VOwn w base ty v cs) (hl : cs.length = n) (hpos : 0 < n) : ∃ g cap, v = .slice (some ⟨g, 0, none⟩) n cap ∧ base ≤ g ∧ g < w.heap.size ∧ n ≤ cap ∧ cap ≤ maxLen := by
  subst hl
  rcases h.form with ⟨_, rfl⟩ | ⟨g, cap, e, hb⟩
  · simp at hpos
  · exact ⟨g, cap, e, hb⟩
theorem irow_one (w : World) (x : Int) : IRow (w.alloc (.cells #[.int .i64 x] 3)) (w.heap.size + 1) (some ⟨w.heap.size, 0, none⟩) [x] := fun _ => by
  refine ⟨w.heap.size, 0, rfl, Nat.lt_succ_self _, by simp, fun i u hu => ?_⟩
  match i, hu with
  | 0, hu => simp [iv] at hu; subst hu; exact (Blk.new w 3 #[.int .i64 x]).cell 0
  | i + 1, hu => simp [iv] at hu
/-- A list without pages. -/
def m6 : List Int := List.replicate 6 (-1)
/-- A table without pages. -/
def noTab : List (List Int) := List.replicate 8 m6
end Go.Proofs.Ytengcjglkcmkbaa
namespace Go.Proofs.Ytengcjglkcmkbaa
open Go.ChangeShapes Go.WideShapes Go.ChangeAt Go.RowKit
set_option linter.unusedSimpArgs false

end Go.Proofs.Ytengcjglkcmkbaa
