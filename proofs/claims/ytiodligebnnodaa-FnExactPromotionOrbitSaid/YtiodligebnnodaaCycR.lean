/- Cycles of rowmotion. -/
import Derived.Test.YtiodligebnnodaaCycC
import Derived.Test.YtiodligebnnodaaRow
import Derived.Test.YtiodligebnnodaaOrb
namespace Go.Proofs.Ytiodligebnnodaa
open Go.RowKit Go.WideShapes Go.ChangeShapes
set_option linter.unusedVariables false

end Go.Proofs.Ytiodligebnnodaa
