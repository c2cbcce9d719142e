/- Chains begun by the program: strict steps. -/
import Derived.Test.YtnlehkjfidpdlabChC
namespace Go.Proofs.Ytnlehkjfidpdlab
open Go.RowKit Go.WideShapes Go.ChangeShapes
set_option linter.unusedVariables false

end Go.Proofs.Ytnlehkjfidpdlab
