/- Words of toggles: the model's and the program's contracts. -/
import Derived.Test.YtkcjppbplllaiaaMot
namespace Go.Proofs.Ytkcjppbplllaiaa
open Go.RowKit Go.WideShapes Go.ChangeShapes
set_option linter.unusedVariables false

theorem allIn_of {n : Nat} {ys : List Int} (h : ∀ j, j < ys.length → (decide (0 ≤ ys.getD j 0) && decide (ys.getD j 0 ≤ (n : Int) - 1)) = true) : inW n ys = true :=
  inW_of fun j hj => by
    have := h j hj
    simp only [Bool.and_eq_true, decide_eq_true_eq] at this
    omega
theorem not_inW' {n : Nat} {ys : List Int} {j : Nat} (hj : j < ys.length) (h : (decide (0 ≤ ys.getD j 0) && decide (ys.getD j 0 ≤ (n : Int) - 1)) = false) : inW n ys = false :=
  not_inW hj fun hc => by
    rw [Bool.eq_false_iff] at h
    apply h
    simp only [Bool.and_eq_true, decide_eq_true_eq]
    omega
theorem okWord_long {xs ys : List Int} (h : ¬ ys.length ≤ 100) : okWord xs ys = false := by simp [okWord, h]
theorem okWord_short {xs ys : List Int} (h : ys.length ≤ 100) : okWord xs ys = inW xs.length ys := by simp [okWord, h]
end Go.Proofs.Ytkcjppbplllaiaa
