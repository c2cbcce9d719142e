/- The model's own functions over posets and sets. -/
import Derived.Test.YtnlehkjfidpdlaaPoset
namespace Go.Proofs.Ytnlehkjfidpdlaa
open Go.RowKit Go.WideShapes Go.ChangeShapes

theorem range_true {n : Nat} (h : 1 ≤ n ∧ n ≤ 10) : (decide ((1 : Int) ≤ (n : Int)) && decide ((n : Int) ≤ 10)) = true := by simp; omega
theorem range_false {n : Nat} (h : ¬ (1 ≤ n ∧ n ≤ 10)) : (decide ((1 : Int) ≤ (n : Int)) && decide ((n : Int) ≤ 10)) = false := by rw [Bool.eq_false_iff]; simp; omega

/-- the rows below i are right, and row i's number has all that the first j of its elements have below them -/
theorem closed_of {xs : List Int} {i z : Nat} (hx : xs.getD i 0 = (z : Int)) (hz : z < 2 ^ i) (h : ∀ j, j < i → z.testBit j = true → sub (xs.getD j 0).toNat z = 0) : okAt xs i = true := by
  simp only [okAt, hx, Int.toNat_natCast, Bool.and_eq_true, decide_eq_true_eq]
  refine ⟨⟨by omega, by omega⟩, (holdsIdeal_iff xs z).2 fun e _ hb => h e (testBit_lt hz hb) hb⟩
theorem not_closed {xs : List Int} {i j z : Nat} (hx : xs.getD i 0 = (z : Int)) (hj : j < xs.length) (hb : z.testBit j = true) (h : sub (xs.getD j 0).toNat z ≠ 0) : okAt xs i = false := by
  cases hc : okAt xs i
  · rfl
  · simp only [okAt, hx, Int.toNat_natCast, Bool.and_eq_true, decide_eq_true_eq] at hc
    exact absurd ((holdsIdeal_iff xs z).1 hc.2 j hj hb) h

end Go.Proofs.Ytnlehkjfidpdlaa
