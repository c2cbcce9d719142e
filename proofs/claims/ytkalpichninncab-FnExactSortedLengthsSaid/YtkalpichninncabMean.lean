/- MeanOfIdeals: contracts. -/
import Derived.Test.YtkalpichninncabOrbE
namespace Go.Proofs.Ytkalpichninncab
open Go.RowKit Go.WideShapes Go.ChangeShapes
set_option linter.unusedVariables false

theorem ret_iib {a b c d : Int} {x y : Bool} (h : a = c) (k : b = d) (l : x = y) : Ending.returned (.tuple #[.int .i64 a, .int .i64 b, .bool x]) = .returned (.tuple #[.int .i64 c, .int .i64 d, .bool y]) := by rw [h, k, l]
def idsXs (xs : List Int) : List Int := setsL (holdsIdeal xs) (2 ^ xs.length)
theorem idsXs_length {xs : List Int} (hg : good xs = true) : 1 ≤ (idsXs xs).length ∧ (idsXs xs).length ≤ 1024 := by
  have h1 := setsL_length (holdsIdeal xs) (2 ^ xs.length)
  have h2 := (two_pow_le _ (good_length hg).2).2
  refine ⟨?_, by unfold idsXs; omega⟩
  have h0 : holdsIdeal xs 0 = true := by rw [holdsIdeal_row]; intro e he hb; simp at hb
  unfold idsXs setsL
  rw [List.length_map]
  apply List.length_pos_of_mem (a := 0)
  rw [List.mem_filter]
  exact ⟨List.mem_range.2 (Nat.two_pow_pos _), h0⟩
theorem idsXs_at {xs : List Int} (hg : good xs = true) (j : Nat) (hj : j < (idsXs xs).length) : ∃ s : Nat, (idsXs xs).getD j 0 = (s : Int) ∧ s < 1024 := by
  have h2 := (two_pow_le _ (good_length hg).2).2
  have hj' : j < ((List.range (2 ^ xs.length)).filter (holdsIdeal xs)).length := by simpa [idsXs, setsL] using hj
  have hm := List.mem_filter.1 (List.getElem_mem hj')
  refine ⟨((List.range (2 ^ xs.length)).filter (holdsIdeal xs))[j], by simp [idsXs, setsL, List.getD, hj'], ?_⟩
  have := List.mem_range.1 hm.1
  omega
def meanU (xs : List Int) : Nat := sumTo pc (idsXs xs) (idsXs xs).length / Nat.gcd (sumTo pc (idsXs xs) (idsXs xs).length) (idsXs xs).length
def meanD (xs : List Int) : Nat := (idsXs xs).length / Nat.gcd (sumTo pc (idsXs xs) (idsXs xs).length) (idsXs xs).length
def ansMU (xs : List Int) : Int := if good xs then (meanU xs : Nat) else 0
def ansMD (xs : List Int) : Int := if good xs then (meanD xs : Nat) else 0
theorem ansM_no {xs : List Int} (h : good xs = false) : ansMU xs = 0 ∧ ansMD xs = 0 := by simp [ansMU, ansMD, h]
theorem ansM_yes {xs : List Int} (h : good xs = true) : ansMU xs = (meanU xs : Nat) ∧ ansMD xs = (meanD xs : Nat) := by simp [ansMU, ansMD, h]
end Go.Proofs.Ytkalpichninncab
