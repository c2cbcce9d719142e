/- Factorials and products of hooks. -/
import Derived.Test.YtbbkoagjplapkabTabS
namespace Go.Proofs.Ytbbkoagjplapkab
open Go.RowKit Go.WideShapes Go.ChangeShapes
set_option linter.unusedVariables false

theorem ret_ibC {x y : Int} {a b : Bool} (e : x = y) (h : a = b) : Ending.returned (.tuple #[.int .i64 x, .bool a]) = .returned (.tuple #[.int .i64 y, .bool b]) := by rw [e, h]
theorem tdiv_natC (m n : Nat) : ((m : Int).tdiv (n : Int)) = ((m / n : Nat) : Int) := by
  rw [Int.tdiv_eq_ediv_of_nonneg (Int.natCast_nonneg _)]; simp
theorem tmod_natC (m n : Nat) : ((m : Int).tmod (n : Int)) = ((m % n : Nat) : Int) := by
  rw [Int.tmod_eq_emod_of_nonneg (Int.natCast_nonneg _)]; simp
def facN : Nat → Nat
  | 0 => 1
  | k + 1 => facN k * (k + 1)
theorem facN_le {k : Nat} (h : k ≤ 10) : facN k ≤ 3628800 := by
  have : ∀ k, k < 11 → facN k ≤ 3628800 := by decide
  exact this k (by omega)
theorem facN_succ (k : Nat) : ((facN k : Nat) : Int) * ((k : Int) + 1) = ((facN (k + 1) : Nat) : Int) := by
  show ((facN k : Nat) : Int) * ((k : Int) + 1) = ((facN k * (k + 1) : Nat) : Int)
  rw [Int.natCast_mul]; rfl
/-- the hook at an index of a rectangle -/
def hkE (x y e : Nat) : Nat := x - e / y + y - e % y - 1
def hkP (x y : Nat) : Nat → Nat
  | 0 => 1
  | e + 1 => hkP x y e * hkE x y e
theorem hkE_le {x y e : Nat} (h2 : x ≤ 10) (h4 : y ≤ 10) : hkE x y e ≤ 19 := by
  unfold hkE; generalize e / y = p; generalize e % y = q; omega
theorem hkE_at {x y r c : Nat} (hr : r < x) (hc : c < y) : hkE x y (y * r + c) = x - r + y - c - 1 := by
  unfold hkE
  rw [Nat.mul_add_div (by omega), Nat.div_eq_of_lt hc, Nat.mul_add_mod, Nat.mod_eq_of_lt hc, Nat.add_zero]
theorem hkP_le {x y : Nat} (h2 : x ≤ 10) (h4 : y ≤ 10) (e : Nat) : hkP x y e ≤ 19 ^ e := by
  induction e with
  | zero => exact Nat.le_refl _
  | succ e ih => rw [hkP, Nat.pow_succ]; exact Nat.mul_le_mul ih (hkE_le h2 h4)
theorem hkP_le10 {x y e : Nat} (h2 : x ≤ 10) (h4 : y ≤ 10) (he : e ≤ 10) : hkP x y e ≤ 6131066257801 :=
  Nat.le_trans (hkP_le h2 h4 e) (Nat.le_trans (Nat.pow_le_pow_right (by decide) he) (by decide))
theorem hkE_pos {x y e : Nat} (he : e < x * y) : 1 ≤ hkE x y e := by
  have hy : 0 < y := by rcases Nat.eq_zero_or_pos y with h | h; · subst h; simp at he
                        · exact h
  have h1 : e / y < x := Nat.div_lt_of_lt_mul (by rw [Nat.mul_comm]; exact he)
  have h2 : e % y < y := Nat.mod_lt _ hy
  unfold hkE
  generalize e / y = p at *
  generalize e % y = q at *
  omega
theorem hkP_pos {x y : Nat} (e : Nat) (he : e ≤ x * y) : 1 ≤ hkP x y e := by
  induction e with
  | zero => exact Nat.le_refl _
  | succ e ih => rw [hkP]; exact Nat.mul_pos (ih (by omega)) (hkE_pos (by omega))
def cntT (a b : Int) : Int := if sides a b then ((facN (a.toNat * b.toNat) / hkP a.toNat b.toNat (a.toNat * b.toNat) : Nat) : Int) else 0
theorem cntT_no {a b : Int} (h : sides a b = false) : cntT a b = 0 := by simp [cntT, h]
theorem cntT_yes {x y : Nat} (h : sides x y = true) : cntT x y = ((facN (x * y) / hkP x y (x * y) : Nat) : Int) := by simp [cntT, h]
/-! ### staircases -/
def stP (n : Nat) : Nat → Nat
  | 0 => 1
  | i + 1 => stP n i * (2 * i + 1) ^ (n - i)
def stQ (n i k : Nat) : Nat := stP n i * (2 * i + 1) ^ k
theorem stQ_zero (n i : Nat) : stQ n i 0 = stP n i := by simp [stQ]
theorem stQ_end (n i : Nat) : stQ n i (n - i) = stP n (i + 1) := rfl
theorem stQ_succ (n i k : Nat) : stQ n i (k + 1) = stQ n i k * (2 * i + 1) := by unfold stQ; rw [Nat.pow_succ, Nat.mul_assoc]
theorem stQ_bnd {n i k : Nat} (hn : n ≤ 4) (hi : i ≤ 4) (hk : k ≤ 4) : 1 ≤ stQ n i k ∧ stQ n i k ≤ 1000000000000 := by
  have : ∀ n, n < 5 → ∀ i, i < 5 → ∀ k, k < 5 → 1 ≤ stQ n i k ∧ stQ n i k ≤ 1000000000000 := by decide +kernel
  exact this n (by omega) i (by omega) k (by omega)
theorem stP_bnd {n i : Nat} (hn : n ≤ 4) (hi : i ≤ 4) : 1 ≤ stP n i ∧ stP n i ≤ 1000000000000 := by
  have := stQ_bnd (k := 0) hn hi (by omega)
  rwa [stQ_zero] at this
def okST (n : Int) : Bool := decide (1 ≤ n) && decide (n ≤ 4)
def cntS (n : Int) : Int := if okST n then ((facN (n.toNat * (n.toNat + 1) / 2) / stP n.toNat n.toNat : Nat) : Int) else 0
theorem cntS_no {n : Int} (h : (decide (1 ≤ n) && decide (n ≤ 4)) = false) : cntS n = 0 := by
  have : okST n = false := h
  simp [cntS, this]
theorem cntS_yes {m : Nat} (h : (decide (1 ≤ (m : Int)) && decide ((m : Int) ≤ 4)) = true) : cntS m = ((facN (m * (m + 1) / 2) / stP m m : Nat) : Int) := by
  have : okST m = true := h
  simp [cntS, this]
end Go.Proofs.Ytbbkoagjplapkab
