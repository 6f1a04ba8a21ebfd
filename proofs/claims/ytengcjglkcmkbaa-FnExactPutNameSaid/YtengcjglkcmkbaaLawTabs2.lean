/- What the exact law of TableOf carries along: tables and devices side by side. -/
import Derived.Test.YtengcjglkcmkbaaLawTabs
import Derived.Test.YtengcjglkcmkbaaTables10
import Derived.Test.YtengcjglkcmkbaaLawDev
namespace Go.Proofs.Ytengcjglkcmkbaa
open Go.ChangeShapes Go.WideShapes Go.ChangeAt Go.RowKit

theorem ltot_few {l : List (List Int)} {m : Nat} (hl : l.length = m) (hm : m ≤ 8) (h6 : ∀ xs, xs ∈ l → xs.length = 6) : ltot l ≤ 1048576 := by
  have : ∀ l : List (List Int), (∀ xs, xs ∈ l → xs.length = 6) → ltot l = 6 * l.length := by
    intro l hl
    induction l with
    | nil => rfl
    | cons p r ih =>
      have h1 := ih fun xs hx => hl xs (by simp [hx])
      have h2 := hl p (by simp)
      simp only [ltot, List.map_cons, List.sum_cons, List.length_cons] at h1 ⊢
      omega
  rw [this l h6, hl]
  omega
end Go.Proofs.Ytengcjglkcmkbaa
