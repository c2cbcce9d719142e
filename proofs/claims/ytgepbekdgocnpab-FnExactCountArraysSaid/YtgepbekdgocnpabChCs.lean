/- Chains begun by the program: strict steps. -/
import Derived.Test.YtgepbekdgocnpabChC
namespace Go.Proofs.Ytgepbekdgocnpab
open Go.RowKit Go.WideShapes Go.ChangeShapes
set_option linter.unusedVariables false

end Go.Proofs.Ytgepbekdgocnpab
