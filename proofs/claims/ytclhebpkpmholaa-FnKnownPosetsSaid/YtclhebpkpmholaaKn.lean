/- Known posets: counts of ideals of rectangles, stairs and fences. -/
import Derived.Test.YtclhebpkpmholaaRank
import Derived.Test.YtclhebpkpmholaaRect
import Derived.Test.YtclhebpkpmholaaFence
import Derived.Test.YtclhebpkpmholaaStairS
import Derived.Test.YtclhebpkpmholaaIdeals
namespace Go.Proofs.Ytclhebpkpmholaa
open Go.RowKit Go.WideShapes Go.ChangeShapes
set_option linter.unusedVariables false

/-- choices, step by step -/
def wyN (b : Nat) : Nat → Nat
  | 0 => 1
  | i + 1 => wyN b i * (b + (i + 1)) / (i + 1)
/-- Catalan's numbers, step by step -/
def syN : Nat → Nat
  | 0 => 1
  | k + 1 => syN k * 2 * (2 * k + 1) / (k + 2)
def fbN : Nat → Nat × Nat
  | 0 => (1, 2)
  | k + 1 => ((fbN k).2, (fbN k).1 + (fbN k).2)
def cntI (L : List Int) : Nat := (idealsL L).length
def hgL (b n : Nat) : List Int := mkL n (fun e => e / b + e % b)
def knChk (a b : Nat) : Bool :=
  decide (cntI (whereL (rectF b) (a * b)) = wyN b a) && (ansIR (whereL (rectF b) (a * b)) && (decide (heightsL (whereL (rectF b) (a * b)) = hgL b (a * b)) && (List.range (a + 1)).all fun k => decide (wyN b k ≤ 1000)))
theorem kn_chk : ((List.range 11).all fun a => (List.range 11).all fun b => decide (a * b = 0) || decide (10 < a * b) || knChk a b) = true := by decide +kernel
theorem kn_at {a b : Nat} (h1 : 1 ≤ a) (h2 : a ≤ 10) (h3 : 1 ≤ b) (h4 : b ≤ 10) (h5 : a * b ≤ 10) :
    cntI (whereL (rectF b) (a * b)) = wyN b a ∧ ansIR (whereL (rectF b) (a * b)) = true ∧ heightsL (whereL (rectF b) (a * b)) = hgL b (a * b) ∧ ∀ k, k ≤ a → wyN b k ≤ 1000 := by
  have h := List.all_eq_true.1 (List.all_eq_true.1 kn_chk a (List.mem_range.2 (by omega))) b (List.mem_range.2 (by omega))
  have h6 : a * b ≠ 0 := Nat.pos_iff_ne_zero.1 (Nat.mul_pos h1 h3)
  simp only [Bool.or_eq_true, decide_eq_true_eq] at h
  rcases h with (h | h) | h
  · exact absurd h h6
  · omega
  · simp only [knChk, Bool.and_eq_true, decide_eq_true_eq] at h
    obtain ⟨p, q, r, s⟩ := h
    exact ⟨p, q, r, fun k hk => of_decide_eq_true (List.all_eq_true.1 s k (List.mem_range.2 (by omega)))⟩
theorem kn_sides {a b : Int} (h : sides a b = true) : ∃ x y : Nat, a = x ∧ b = y ∧ 1 ≤ x ∧ x ≤ 10 ∧ 1 ≤ y ∧ y ≤ 10 ∧ x * y ≤ 10 ∧ rectL a b = whereL (rectF y) (x * y) := by
  have h0 := h
  simp only [sides, Bool.and_eq_true, decide_eq_true_eq] at h
  obtain ⟨x, rfl⟩ := Int.eq_ofNat_of_zero_le (by omega : 0 ≤ a)
  obtain ⟨y, rfl⟩ := Int.eq_ofNat_of_zero_le (by omega : 0 ≤ b)
  have e : ((x : Int) * (y : Int)) = ((x * y : Nat) : Int) := by rw [Int.natCast_mul]
  have hxy := h.2.2
  rw [e] at hxy
  refine ⟨x, y, rfl, rfl, by omega, by omega, by omega, by omega, by omega, ?_⟩
  rw [rectL, if_pos h0, Int.toNat_natCast, Int.toNat_natCast]
theorem kn_st (n : Nat) (h1 : 1 ≤ n) (h2 : n ≤ 4) : cntI (stcL n) = syN (n + 1) ∧ 2 * (stcL n).length = n * (n + 1) ∧ good (stcL n) = true := by
  rcases (by omega : n = 1 ∨ n = 2 ∨ n = 3 ∨ n = 4) with rfl | rfl | rfl | rfl <;> decide +kernel
theorem kn_sy (k : Nat) (h : k ≤ 5) : syN k ≤ 1000 := by
  rcases (by omega : k = 0 ∨ k = 1 ∨ k = 2 ∨ k = 3 ∨ k = 4 ∨ k = 5) with rfl | rfl | rfl | rfl | rfl | rfl <;> decide
theorem kn_fe (n : Nat) (h1 : 1 ≤ n) (h2 : n ≤ 10) : cntI (fenceL n) = (fbN (n - 1)).2 ∧ good (fenceL n) = true := by
  rcases (by omega : n = 1 ∨ n = 2 ∨ n = 3 ∨ n = 4 ∨ n = 5 ∨ n = 6 ∨ n = 7 ∨ n = 8 ∨ n = 9 ∨ n = 10) with rfl | rfl | rfl | rfl | rfl | rfl | rfl | rfl | rfl | rfl <;> decide +kernel
theorem kn_fb (k : Nat) (h : k ≤ 10) : (fbN k).1 ≤ 1000 ∧ (fbN k).2 ≤ 1000 := by
  rcases (by omega : k = 0 ∨ k = 1 ∨ k = 2 ∨ k = 3 ∨ k = 4 ∨ k = 5 ∨ k = 6 ∨ k = 7 ∨ k = 8 ∨ k = 9 ∨ k = 10) with rfl | rfl | rfl | rfl | rfl | rfl | rfl | rfl | rfl | rfl | rfl <;> decide
end Go.Proofs.Ytclhebpkpmholaa
