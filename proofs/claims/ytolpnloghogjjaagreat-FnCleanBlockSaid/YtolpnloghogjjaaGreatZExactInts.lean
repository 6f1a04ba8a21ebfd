/- The exact laws' helpers for rows of numbers: szIntS, toIntS, eqIntS, markIntS, heldIntS.
   The exact laws' helpers for tables: szTable, toTable, eqTable, markTable, heldTable; a table that came in. -/
import Derived.Test.YtolpnloghogjjaaGreatZTables7
import Derived.Test.YtolpnloghogjjaaGreatZExactDev3
import Derived.Test.YtolpnloghogjjaaGreatZHand
import Derived.BigQuiet
namespace Go.Proofs.YtolpnloghogjjaaGreat
open Go.ChangeShapes Go.WideShapes Go.ChangeAt Go.RowKit
set_option linter.unusedVariables false

end Go.Proofs.YtolpnloghogjjaaGreat
namespace Go.Proofs.YtolpnloghogjjaaGreat
open Go.ChangeShapes Go.WideShapes Go.ChangeAt Go.RowKit Go.Deep
set_option linter.unusedVariables false
set_option linter.unusedSimpArgs false

/-- How many numbers. -/
def ltot (xss : List (List Int)) : Nat := (xss.map List.length).sum
theorem ltot_le {xss : List (List Int)} {xs : List Int} (h : xs ∈ xss) : xs.length ≤ ltot xss := by
  induction xss with
  | nil => simp at h
  | cons p r ih =>
    simp only [ltot, List.map_cons, List.sum_cons] at ih ⊢
    rcases List.mem_cons.1 h with rfl | h
    · omega
    · have := ih h
      omega
/-- Few numbers in all. -/
theorem small_ll {ls : List Li} (h : ltot (ll ls) ≤ 1048576) : ∀ l, l ∈ ls → l.xs.length ≤ 1048576 := fun l hl => Nat.le_trans (ltot_le (List.mem_map_of_mem hl)) h
end Go.Proofs.YtolpnloghogjjaaGreat
