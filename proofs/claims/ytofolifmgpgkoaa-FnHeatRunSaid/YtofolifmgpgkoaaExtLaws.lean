/- The contracts of chapter 9, told by letters, for its laws. -/
import Derived.Test.YtofolifmgpgkoaaPairLaw
import Derived.Test.YtofolifmgpgkoaaExtImpl
namespace Go.Proofs.Ytofolifmgpgkoaa
open Go.ChangeShapes Go.WideShapes Go.ChangeAt Go.RowKit
set_option linter.unusedVariables false

section
variable {A : Option Addr} {n c m : Nat} {ps X : List Pr} {xs Y : List Int} {x V : Int} {r : Bool} {w : World}
end
end Go.Proofs.Ytofolifmgpgkoaa
