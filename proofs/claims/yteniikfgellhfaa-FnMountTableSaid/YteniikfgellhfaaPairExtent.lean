/- Slices of Extent: append, make, the laws' helpers for them; how one that came in is opened. -/
import Derived.Test.YteniikfgellhfaaPairs
import Derived.Test.YteniikfgellhfaaPages
import Derived.Test.YteniikfgellhfaaTables7
import Derived.Test.YteniikfgellhfaaAgg
import Derived.Test.YteniikfgellhfaaHand
import Derived.Deep.QuietTactic
import Derived.BigQuiet
namespace Go.Proofs.Yteniikfgellhfaa
open Go.ChangeShapes Go.WideShapes Go.ChangeAt Go.RowKit Go.Deep
set_option linter.unusedVariables false

section
variable {H : Type} {enc : TypeId × Value → H} {w : World} {base : Nat} {spare : Nat → Bool} {held : Bool}
theorem list2Extent {α : Type} {l : List α} (h : l.length = 2) : ∃ a b, l = [a, b] := by
  match l, h with
  | [a, b], _ => exact ⟨a, b, rfl⟩
end
end Go.Proofs.Yteniikfgellhfaa
