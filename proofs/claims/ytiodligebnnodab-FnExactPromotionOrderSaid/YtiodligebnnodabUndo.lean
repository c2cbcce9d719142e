/- The motion that leads back. -/
import Derived.Test.YtiodligebnnodabRow
namespace Go.Proofs.Ytiodligebnnodab
open Go.RowKit Go.WideShapes Go.ChangeShapes
set_option linter.unusedVariables false

end Go.Proofs.Ytiodligebnnodab
