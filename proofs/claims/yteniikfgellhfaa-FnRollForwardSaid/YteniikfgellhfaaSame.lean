/- The laws' helpers for blocks: samePages, sameBlock. -/
import Derived.Test.YteniikfgellhfaaBlocks
import Derived.Deep.QuietTactic
import Derived.BigQuiet
namespace Go.Proofs.Yteniikfgellhfaa
open Go.ChangeShapes Go.WideShapes Go.ChangeAt Go.RowKit

/-- Some answer. -/
def SomeB (w : World) (e : Ending) (w' : World) : Prop := ∃ v : Bool, e = .returned (.bool v) ∧ w.grownBy w' none
end Go.Proofs.Yteniikfgellhfaa
