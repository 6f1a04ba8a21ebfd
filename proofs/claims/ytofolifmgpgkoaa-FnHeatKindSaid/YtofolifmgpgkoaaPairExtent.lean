/- Slices of Extent: append, make, the laws' helpers for them; how one that came in is opened. -/
import Derived.Test.YtofolifmgpgkoaaPairs
import Derived.Test.YtofolifmgpgkoaaPages
import Derived.Test.YtofolifmgpgkoaaTables7
import Derived.Test.YtofolifmgpgkoaaAgg
import Derived.Test.YtofolifmgpgkoaaHand
import Derived.Deep.QuietTactic
import Derived.BigQuiet
namespace Go.Proofs.Ytofolifmgpgkoaa
open Go.ChangeShapes Go.WideShapes Go.ChangeAt Go.RowKit Go.Deep
set_option linter.unusedVariables false

section
variable {H : Type} {enc : TypeId × Value → H} {w : World} {base : Nat} {spare : Nat → Bool} {held : Bool}
theorem list2Extent {α : Type} {l : List α} (h : l.length = 2) : ∃ a b, l = [a, b] := by
  match l, h with
  | [a, b], _ => exact ⟨a, b, rfl⟩
end
end Go.Proofs.Ytofolifmgpgkoaa
