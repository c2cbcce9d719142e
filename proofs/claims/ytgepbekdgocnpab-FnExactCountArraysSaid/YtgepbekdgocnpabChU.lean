/- CountLabels and CountStrict of the model. -/
import Derived.Test.YtgepbekdgocnpabChT
import Derived.Test.YtgepbekdgocnpabApi
namespace Go.Proofs.Ytgepbekdgocnpab
open Go.RowKit Go.WideShapes Go.ChangeShapes
set_option linter.unusedVariables false

def ansCN (xs : List Int) (b : Bool) (m : Int) : Int := if okBd xs m then ((cnt xs b (m.toNat + 1) (2 ^ xs.length - 1) : Nat) : Int) else 0
theorem ansCN_no {xs : List Int} {b : Bool} {m : Int} (h : okBd xs m = false) : ansCN xs b m = 0 := by simp [ansCN, h]
theorem ansCN_yes {xs : List Int} {b : Bool} {m : Nat} (h : okBd xs m = true) : ansCN xs b m = ((cnt xs b (m + 1) (2 ^ xs.length - 1) : Nat) : Int) := by
  unfold ansCN; rw [if_pos h, Int.toNat_natCast]
end Go.Proofs.Ytgepbekdgocnpab
