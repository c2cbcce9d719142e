/- DskL DskZ -/
import Derived.Test.YtbmhaamenjhjfaaGreatDoorPkD38
namespace Go.Proofs.YtbmhaamenjhjfaaGreatDoor
open Go.RowKit Go.WideShapes Go.ChangeShapes
set_option linter.unusedVariables false
theorem outsD_getD (a0 a1 : Addr) (ls : List (List UInt8)) {k j : Nat} (h : j < k) (d : Value × Value) : (outsD a0 a1 ls k).getD j d = OcD a0 a1 ((j : Int) + 1) (repD ls j).1 (repD ls j).2 := by simp [outsD, List.getD, h]
end Go.Proofs.YtbmhaamenjhjfaaGreatDoor
namespace Go.Proofs.YtbmhaamenjhjfaaGreatDoor
open Go.RowKit Go.WideShapes Go.ChangeShapes
set_option linter.unusedVariables false
theorem okSc_50 {l : List UInt8} (h : okSc l = true) : nlD l ≤ 50 := by simp only [okSc, Bool.and_eq_true, decide_eq_true_eq] at h; exact h.2.2
end Go.Proofs.YtbmhaamenjhjfaaGreatDoor
