/- Toggles of the model and of the program: ideals, words, one toggle. -/
import Derived.Test.YtnlehkjfidpdlaaSpec2
import Derived.Test.YtnlehkjfidpdlaaTog
namespace Go.Proofs.Ytnlehkjfidpdlaa
open Go.RowKit Go.WideShapes Go.ChangeShapes
set_option linter.unusedVariables false

theorem okIdeal_no {xs : List Int} {s : Int} (h : okSet xs s = false) : okIdeal xs s = false := by simp [okIdeal, h]
theorem okSet_no {xs : List Int} {s : Int} (h : good xs = false) : okSet xs s = false := by simp [okSet, h]
theorem okIdeal_nat {xs : List Int} {z : Nat} (h : okSet xs (z : Int) = true) : okIdeal xs (z : Int) = holdsIdeal xs z := by simp [okIdeal, h]
end Go.Proofs.Ytnlehkjfidpdlaa
