/- Rowmotion and its way back: the model's and the program's contracts. · The motion that leads back. · Words backwards: slices.Clone and slices.Reverse at the words of toggles; the motion that leads back. -/
import Derived.Test.YtgepbekdgocnpabTg2
import Derived.Test.YtgepbekdgocnpabLaw
import Derived.Test.YtgepbekdgocnpabApi
import Derived.Lib.SliceRun
import Derived.RegionTactic
namespace Go.Proofs.Ytgepbekdgocnpab
open Go.RowKit Go.WideShapes Go.ChangeShapes
set_option linter.unusedVariables false

theorem compl_bits (n s N : Nat) (hn : n ≤ 10) (hs : s < 1024) (hN : 2 ^ n = N) : bits .andNot .i64 ((N : Int) - 1) (s : Int) = ((compl n s : Nat) : Int) := by
  have hp := two_pow_le n hn
  have e : ((N : Int) - 1) = ((N - 1 : Nat) : Int) := by omega
  rw [e, i64_andNot_nat _ _ (by omega) (by omega)]
  unfold compl
  rw [hN]
end Go.Proofs.Ytgepbekdgocnpab
namespace Go.Proofs.Ytgepbekdgocnpab
open Go.RowKit Go.WideShapes Go.ChangeShapes
set_option linter.unusedVariables false

end Go.Proofs.Ytgepbekdgocnpab
namespace Go.Proofs.Ytgepbekdgocnpab
open Go.RowKit Go.WideShapes Go.ChangeShapes
set_option linter.unusedVariables false

/-! ### the first k pairs exchanged -/
def revK (xs : List Int) (k : Nat) : List Int := (List.range xs.length).map fun t => if t < k ∨ xs.length - 1 - t < k then xs.getD (xs.length - 1 - t) 0 else xs.getD t 0
theorem grown_drew {a w : World} {row : Option Nat} (h : a.grownBy w row) : a.grownBy w.drew row := ⟨h.os, h.tape, h.output, h.size, h.block⟩
theorem revK_length (xs : List Int) (k : Nat) : (revK xs k).length = xs.length := by simp [revK]
theorem revK_at (xs : List Int) (k t : Nat) (ht : t < xs.length) : (revK xs k)[t]? = some (if t < k ∨ xs.length - 1 - t < k then xs.getD (xs.length - 1 - t) 0 else xs.getD t 0) := by
  simp [revK, ht]
theorem getD_eq (xs : List Int) (t : Nat) (ht : t < xs.length) : xs[t]? = some (xs.getD t 0) := by simp [List.getD, ht]
theorem revK_zero (xs : List Int) : revK xs 0 = xs := by
  apply List.ext_getElem?
  intro t
  by_cases ht : t < xs.length
  · rw [revK_at xs 0 t ht, if_neg (by omega), getD_eq xs t ht]
  · rw [List.getElem?_eq_none (by rw [revK_length]; omega), List.getElem?_eq_none (by omega)]
theorem revK_mid (xs : List Int) (k : Nat) (hk : k < xs.length - 1 - k) : (revK xs k).getD k 0 = xs.getD k 0 ∧ (revK xs k).getD (xs.length - 1 - k) 0 = xs.getD (xs.length - 1 - k) 0 := by
  constructor
  · rw [List.getD_eq_getElem?_getD, revK_at xs k k (by omega), if_neg (by omega)]; rfl
  · rw [List.getD_eq_getElem?_getD, revK_at xs k _ (by omega), if_neg (by omega)]; rfl
theorem revK_step (xs : List Int) (k : Nat) (hk : k < xs.length - 1 - k) : ((revK xs k).set k (xs.getD (xs.length - 1 - k) 0)).set (xs.length - 1 - k) (xs.getD k 0) = revK xs (k + 1) := by
  apply List.ext_getElem?
  intro t
  by_cases ht : t < xs.length
  · rw [revK_at xs (k + 1) t ht, List.getElem?_set, List.getElem?_set, List.length_set, revK_length, revK_at xs k t ht]
    by_cases h1 : xs.length - 1 - k = t
    · rw [if_pos h1, if_pos (by omega), if_pos (by omega)]
      have : xs.length - 1 - t = k := by omega
      rw [this]
    · rw [if_neg h1]
      by_cases h2 : k = t
      · subst h2
        rw [if_pos rfl, if_pos (by omega), if_pos (by omega)]
      · rw [if_neg h2]
        by_cases h3 : t < k ∨ xs.length - 1 - t < k
        · rw [if_pos h3, if_pos (by omega)]
        · rw [if_neg h3, if_neg (by omega)]
  · rw [List.getElem?_eq_none (by simp [revK_length]; omega), List.getElem?_eq_none (by rw [revK_length]; omega)]
theorem revK_full (xs : List Int) (k : Nat) (hk : ¬ k < xs.length - 1 - k) : revK xs k = xs.reverse := by
  apply List.ext_getElem?
  intro t
  by_cases ht : t < xs.length
  · rw [revK_at xs k t ht, List.getElem?_reverse ht, getD_eq xs _ (by omega)]
    by_cases h : t < k ∨ xs.length - 1 - t < k
    · rw [if_pos h]
    · rw [if_neg h]
      have : xs.length - 1 - t = t := by omega
      rw [this]
  · rw [List.getElem?_eq_none (by rw [revK_length]; omega), List.getElem?_eq_none (by simp; omega)]
end Go.Proofs.Ytgepbekdgocnpab
