/- Plain facts that the laws of chapter 12 ask. -/
import Derived.Test.YtabocliimoglcaaGreatZCounts
import Derived.Test.YtabocliimoglcaaGreatZDrawCounts
import Derived.Test.YtabocliimoglcaaGreatZFileFacts
namespace Go.Proofs.YtabocliimoglcaaGreat
open Go.ChangeShapes Go.WideShapes Go.ChangeAt Go.RowKit
set_option linter.unusedVariables false

end Go.Proofs.YtabocliimoglcaaGreat
