/- RowmotionTimes of the model; RowByToggles. -/
import Derived.Test.YtkcjppbplllaiabRow2
import Derived.Test.YtkcjppbplllaiabRev
import Derived.Test.YtkcjppbplllaiabOrder
namespace Go.Proofs.Ytkcjppbplllaiab
open Go.RowKit Go.WideShapes Go.ChangeShapes
set_option linter.unusedVariables false

theorem iter_comm (f : Nat → Nat) (k s : Nat) : iter f k (f s) = f (iter f k s) := by
  induction k with
  | zero => rfl
  | succ k ih => simp only [iter, ih]
/-! ### RowByToggles -/
def okRB (xs ys : List Int) (s : Int) : Bool := okIdeal xs s && orderB xs ys
def ansRB (xs ys : List Int) (s : Int) : Int := if okRB xs ys s then (togW xs s.toNat ys.reverse : Int) else 0
theorem okRB_no1 {xs ys : List Int} {s : Int} (h : okIdeal xs s = false) : okRB xs ys s = false := by simp [okRB, h]
theorem okRB_no2 {xs ys : List Int} {s : Int} (h : orderB xs ys = false) : okRB xs ys s = false := by simp [okRB, h]
theorem okRB_yes {xs ys : List Int} {s : Int} (h : okIdeal xs s = true) (k : orderB xs ys = true) : okRB xs ys s = true := by simp [okRB, h, k]
theorem ansRB_no {xs ys : List Int} {s : Int} (h : okRB xs ys s = false) : ansRB xs ys s = 0 := by simp [ansRB, h]
theorem ansRB_yes {xs ys : List Int} {z : Nat} (h : okRB xs ys z = true) : ansRB xs ys z = (togW xs z ys.reverse : Int) := by simp [ansRB, h]
theorem inW_reverse {n : Nat} {ys : List Int} (h : inW n ys = true) : inW n ys.reverse = true :=
  List.all_eq_true.2 fun y hy => List.all_eq_true.1 h y (List.mem_reverse.1 hy)
theorem reverse_getD (ys : List Int) (j : Nat) (hj : j < ys.length) : ys.reverse.getD j 0 = ys.getD (ys.length - 1 - j) 0 := by
  rw [List.getD_eq_getElem?_getD, List.getElem?_reverse hj, List.getD_eq_getElem?_getD]
end Go.Proofs.Ytkcjppbplllaiab
