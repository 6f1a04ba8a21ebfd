/- Plain facts that the laws of chapter 12 ask. -/
import Derived.Test.YtolpnloghogjjaaGreatZCounts
import Derived.Test.YtolpnloghogjjaaGreatZDrawCounts
import Derived.Test.YtolpnloghogjjaaGreatZFileFacts
namespace Go.Proofs.YtolpnloghogjjaaGreat
open Go.ChangeShapes Go.WideShapes Go.ChangeAt Go.RowKit
set_option linter.unusedVariables false

end Go.Proofs.YtolpnloghogjjaaGreat
