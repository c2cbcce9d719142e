/- OrbitSum, AntichainSum, ElementSum: contracts. -/
import Derived.Test.YtkalpichninncabOrbS
namespace Go.Proofs.Ytkalpichninncab
open Go.RowKit Go.WideShapes Go.ChangeShapes
set_option linter.unusedVariables false

def ansOrbitSum (xs : List Int) (s : Int) : Int := (sumL (pc) (ansOO xs s) : Nat)
theorem ansOrbitSum_no {xs : List Int} {s : Int} (h : okIdeal xs s = false) : ansOrbitSum xs s = 0 := by unfold ansOrbitSum; rw [ansOO_no h]; rfl
theorem ansOrbitSum_yes {xs : List Int} {z : Nat} (h : okIdeal xs z = true) : ansOrbitSum xs z = ((sumTo (pc) (orbXs xs z) (orbXs xs z).length : Nat) : Int) := by unfold ansOrbitSum; rw [ansOO_yes h]; rfl
def ansAntichainSum (xs : List Int) (s : Int) : Int := (sumL (topPc xs) (ansOO xs s) : Nat)
theorem ansAntichainSum_no {xs : List Int} {s : Int} (h : okIdeal xs s = false) : ansAntichainSum xs s = 0 := by unfold ansAntichainSum; rw [ansOO_no h]; rfl
theorem ansAntichainSum_yes {xs : List Int} {z : Nat} (h : okIdeal xs z = true) : ansAntichainSum xs z = ((sumTo (topPc xs) (orbXs xs z) (orbXs xs z).length : Nat) : Int) := by unfold ansAntichainSum; rw [ansOO_yes h]; rfl
end Go.Proofs.Ytkalpichninncab
