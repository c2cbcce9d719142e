/- The levels of a box; BoxCount of the program. -/
import Derived.Test.YtnlehkjfidpdlaaBox
import Derived.Test.YtnlehkjfidpdlaaLabI
import Derived.Test.YtnlehkjfidpdlaaRect
namespace Go.Proofs.Ytnlehkjfidpdlaa
open Go.RowKit Go.WideShapes Go.ChangeShapes
set_option linter.unusedVariables false

def lvL (a b m : Int) : List Int := if boxB a b m then mkL (a.toNat * b.toNat) (lvN b.toNat) else []
theorem lvL_no {a b m : Int} (h : boxB a b m = false) : lvL a b m = [] := by simp [lvL, h]
theorem lvL_yes {x y m : Nat} (h : boxB x y m = true) : lvL x y m = mkL (x * y) (lvN y) := by
  unfold lvL; rw [if_pos h]; simp
end Go.Proofs.Ytnlehkjfidpdlaa
