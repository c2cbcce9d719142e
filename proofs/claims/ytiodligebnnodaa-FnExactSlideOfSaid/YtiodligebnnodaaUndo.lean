/- The motion that leads back. -/
import Derived.Test.YtiodligebnnodaaRow
namespace Go.Proofs.Ytiodligebnnodaa
open Go.RowKit Go.WideShapes Go.ChangeShapes
set_option linter.unusedVariables false

end Go.Proofs.Ytiodligebnnodaa
