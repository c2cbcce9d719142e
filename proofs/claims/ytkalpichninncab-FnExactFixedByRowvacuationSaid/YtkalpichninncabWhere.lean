/- posetWhere: a poset out of a test. -/
import Derived.Test.YtkalpichninncabHeights
namespace Go.Proofs.Ytkalpichninncab
open Go.RowKit Go.WideShapes Go.ChangeShapes
set_option linter.unusedVariables false

def rowN (f : Nat → Bool) : Nat → Nat
  | 0 => 0
  | j + 1 => if f j then rowN f j ||| 2 ^ j else rowN f j
theorem rowN_testBit (f : Nat → Bool) (k s : Nat) : (rowN f k).testBit s = (decide (s < k) && f s) := by
  induction k with
  | zero => simp [rowN]
  | succ k ih =>
    unfold rowN
    by_cases h : s = k
    · subst h
      split
      · rename_i hf; rw [Nat.testBit_or, ih, Nat.testBit_two_pow_self]; simp [hf]
      · rename_i hf; rw [ih]; simp [hf]
    · have e : decide (s < k + 1) = decide (s < k) := by
        by_cases h2 : s < k
        · rw [decide_eq_true h2, decide_eq_true (by omega)]
        · rw [decide_eq_false h2, decide_eq_false (by omega)]
      rw [e]
      split
      · rw [Nat.testBit_or, ih, Nat.testBit_two_pow_of_ne (by omega)]; simp
      · exact ih
theorem rowN_lt (f : Nat → Bool) (k : Nat) : rowN f k < 2 ^ k := by
  apply Nat.lt_pow_two_of_testBit
  intro i hi
  rw [rowN_testBit, decide_eq_false (by omega)]; rfl
/-- the list of n numbers that g tells -/
def mkL (n : Nat) (g : Nat → Nat) : List Int := (List.range n).map fun (i : Nat) => ((g i : Nat) : Int)
theorem mkL_length (n : Nat) (g : Nat → Nat) : (mkL n g).length = n := by simp [mkL]
theorem mkL_getD {n : Nat} {g : Nat → Nat} {i : Nat} (h : i < n) : (mkL n g).getD i 0 = (g i : Int) := by simp [mkL, List.getD, h]
theorem mkL_congr {n : Nat} {g h : Nat → Nat} (e : ∀ i, i < n → g i = h i) : mkL n g = mkL n h := by
  apply List.map_congr_left
  intro i hi
  rw [e i (List.mem_range.1 hi)]
theorem mkL_set {n : Nat} {g : Nat → Nat} {k : Nat} (y : Nat) (h : k < n) : (mkL n g).set k (y : Int) = mkL n (fun i => if i = k then y else g i) := by
  apply List.ext_getElem?
  intro i
  rw [List.getElem?_set, mkL_length]
  simp only [mkL, List.getElem?_map]
  by_cases hi : i < n
  · by_cases e : k = i
    · subst e; simp [h]
    · simp [e, hi, Ne.symm e]
  · simp [hi]
    intro e; omega
theorem mkL_zero (n : Nat) : mkL n (fun _ => 0) = List.replicate n 0 := by
  apply List.ext_getElem?
  intro i
  simp only [mkL, List.getElem?_map]
  by_cases hi : i < n <;> simp [hi]
theorem mkL_upd {n : Nat} {g h : Nat → Nat} {k : Nat} (y : Nat) (hk : k < n) (e : ∀ i, i < n → h i = if i = k then y else g i) : mkL n h = (mkL n g).set k (y : Int) := by
  rw [mkL_set y hk]; exact mkL_congr e
def whereG (f : Nat → Nat → Bool) (k : Nat) (i : Nat) : Nat := if i < k then rowN (fun j => f j i) i else 0
def whereH (f : Nat → Nat → Bool) (k t : Nat) (i : Nat) : Nat := if i < k then rowN (fun j => f j i) i else if i = k then rowN (fun j => f j k) t else 0
def whereL (f : Nat → Nat → Bool) (n : Nat) : List Int := mkL n (fun i => rowN (fun j => f j i) i)


end Go.Proofs.Ytkalpichninncab
