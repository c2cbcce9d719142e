/- Lists within bounds, turns and steps: both sides. -/
import Derived.Test.YtkalpichninncabSvM
import Derived.Test.YtkalpichninncabFun
namespace Go.Proofs.Ytkalpichninncab
open Go.RowKit Go.WideShapes Go.ChangeShapes
set_option linter.unusedVariables false

/-! ### the program's own -/
end Go.Proofs.Ytkalpichninncab
