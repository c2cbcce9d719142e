/- The text of a poset: PosetText of the model. -/
import Derived.Test.YtiodligebnnodaaDoorTextI
namespace Go.Proofs.YtiodligebnnodaaDoor
open Go.RowKit Go.WideShapes Go.ChangeShapes
set_option linter.unusedVariables false

end Go.Proofs.YtiodligebnnodaaDoor
