/- Factorials. -/
import Derived.Test.YtnlehkjfidpdlabFrom
namespace Go.Proofs.Ytnlehkjfidpdlab
open Go.RowKit Go.WideShapes Go.ChangeShapes
set_option linter.unusedVariables false

theorem ret_ibC {x y : Int} {a b : Bool} (e : x = y) (h : a = b) : Ending.returned (.tuple #[.int .i64 x, .bool a]) = .returned (.tuple #[.int .i64 y, .bool b]) := by rw [e, h]
theorem tdiv_natC (m n : Nat) : ((m : Int).tdiv (n : Int)) = ((m / n : Nat) : Int) := by
  rw [Int.tdiv_eq_ediv_of_nonneg (Int.natCast_nonneg _)]; simp
theorem tmod_natC (m n : Nat) : ((m : Int).tmod (n : Int)) = ((m % n : Nat) : Int) := by
  rw [Int.tmod_eq_emod_of_nonneg (Int.natCast_nonneg _)]; simp
def facN : Nat → Nat
  | 0 => 1
  | k + 1 => facN k * (k + 1)
theorem facN_le {k : Nat} (h : k ≤ 10) : facN k ≤ 3628800 := by
  have : ∀ k, k < 11 → facN k ≤ 3628800 := by decide
  exact this k (by omega)
theorem facN_succ (k : Nat) : ((facN k : Nat) : Int) * ((k : Int) + 1) = ((facN (k + 1) : Nat) : Int) := by
  show ((facN k : Nat) : Int) * ((k : Int) + 1) = ((facN k * (k + 1) : Nat) : Int)
  rw [Int.natCast_mul]; rfl
/-! ### staircases -/
def stP (n : Nat) : Nat → Nat
  | 0 => 1
  | i + 1 => stP n i * (2 * i + 1) ^ (n - i)
def stQ (n i k : Nat) : Nat := stP n i * (2 * i + 1) ^ k
theorem stQ_zero (n i : Nat) : stQ n i 0 = stP n i := by simp [stQ]
theorem stQ_end (n i : Nat) : stQ n i (n - i) = stP n (i + 1) := rfl
theorem stQ_succ (n i k : Nat) : stQ n i (k + 1) = stQ n i k * (2 * i + 1) := by unfold stQ; rw [Nat.pow_succ, Nat.mul_assoc]
theorem stQ_bnd {n i k : Nat} (hn : n ≤ 4) (hi : i ≤ 4) (hk : k ≤ 4) : 1 ≤ stQ n i k ∧ stQ n i k ≤ 1000000000000 := by
  have : ∀ n, n < 5 → ∀ i, i < 5 → ∀ k, k < 5 → 1 ≤ stQ n i k ∧ stQ n i k ≤ 1000000000000 := by decide +kernel
  exact this n (by omega) i (by omega) k (by omega)
theorem stP_bnd {n i : Nat} (hn : n ≤ 4) (hi : i ≤ 4) : 1 ≤ stP n i ∧ stP n i ≤ 1000000000000 := by
  have := stQ_bnd (k := 0) hn hi (by omega)
  rwa [stQ_zero] at this
def okST (n : Int) : Bool := decide (1 ≤ n) && decide (n ≤ 4)
def cntS (n : Int) : Int := if okST n then ((facN (n.toNat * (n.toNat + 1) / 2) / stP n.toNat n.toNat : Nat) : Int) else 0
theorem cntS_no {n : Int} (h : (decide (1 ≤ n) && decide (n ≤ 4)) = false) : cntS n = 0 := by
  have : okST n = false := h
  simp [cntS, this]
theorem cntS_yes {m : Nat} (h : (decide (1 ≤ (m : Int)) && decide ((m : Int) ≤ 4)) = true) : cntS m = ((facN (m * (m + 1) / 2) / stP m m : Nat) : Int) := by
  have : okST m = true := h
  simp [cntS, this]
end Go.Proofs.Ytnlehkjfidpdlab
