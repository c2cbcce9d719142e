/- Sides of a rectangle: the model's test. -/
import Derived.Test.YtclhebpkpmholaaRect
namespace Go.Proofs.Ytclhebpkpmholaa
open Go.RowKit Go.WideShapes Go.ChangeShapes
set_option linter.unusedVariables false

end Go.Proofs.Ytclhebpkpmholaa
