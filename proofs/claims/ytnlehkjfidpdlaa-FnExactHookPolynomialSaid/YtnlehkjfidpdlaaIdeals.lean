/- Lists of sets: all ideals, all antichains. -/
import Derived.Test.YtnlehkjfidpdlaaApi
import Derived.Test.YtnlehkjfidpdlaaLaw
namespace Go.Proofs.Ytnlehkjfidpdlaa
open Go.RowKit Go.WideShapes Go.ChangeShapes
set_option linter.unusedVariables false

/-- all sets below k of a kind, in order -/
def setsL (f : Nat → Bool) (k : Nat) : List Int := ((List.range k).filter f).map fun (s : Nat) => (s : Int)
theorem setsL_zero (f : Nat → Bool) : setsL f 0 = [] := rfl
theorem setsL_yes {f : Nat → Bool} {k : Nat} (h : f k = true) : setsL f (k + 1) = setsL f k ++ [(k : Int)] := by
  simp [setsL, List.range_succ, List.filter_append, h]
theorem setsL_no {f : Nat → Bool} {k : Nat} (h : f k = false) : setsL f (k + 1) = setsL f k := by
  simp [setsL, List.range_succ, List.filter_append, h]
theorem setsL_length (f : Nat → Bool) (k : Nat) : (setsL f k).length ≤ k := by
  have := List.length_filter_le f (List.range k)
  simpa [setsL] using this
theorem pow10 {n : Nat} (h : n ≤ 10) : 2 ^ n ≤ 1024 := (two_pow_le n h).2

/-- all ideals, all antichains; none where there is no poset -/
def idealsL (xs : List Int) : List Int := if good xs then setsL (holdsIdeal xs) (2 ^ xs.length) else []
def antichainsL (xs : List Int) : List Int := if good xs then setsL (holdsAntichain xs) (2 ^ xs.length) else []
theorem idealsL_length (xs : List Int) : (idealsL xs).length ≤ 1048576 := by
  unfold idealsL
  split
  · rename_i h
    have h1 := setsL_length (holdsIdeal xs) (2 ^ xs.length)
    have h2 := (two_pow_le _ (good_length h).2).2
    omega
  · simp
theorem antichainsL_length (xs : List Int) : (antichainsL xs).length ≤ 1048576 := by
  unfold antichainsL
  split
  · rename_i h
    have h1 := setsL_length (holdsAntichain xs) (2 ^ xs.length)
    have h2 := (two_pow_le _ (good_length h).2).2
    omega
  · simp
theorem idealsL_yes {xs : List Int} (h : good xs = true) : idealsL xs = setsL (holdsIdeal xs) (2 ^ xs.length) := if_pos h
theorem idealsL_no {xs : List Int} (h : good xs = false) : idealsL xs = [] := by simp [idealsL, h]
theorem antichainsL_yes {xs : List Int} (h : good xs = true) : antichainsL xs = setsL (holdsAntichain xs) (2 ^ xs.length) := if_pos h
theorem antichainsL_no {xs : List Int} (h : good xs = false) : antichainsL xs = [] := by simp [antichainsL, h]
end Go.Proofs.Ytnlehkjfidpdlaa
