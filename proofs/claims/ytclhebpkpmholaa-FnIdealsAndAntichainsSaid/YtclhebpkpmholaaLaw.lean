/- The contracts of the laws' own helpers: sizes, copies, comparisons. -/
import Derived.Test.YtclhebpkpmholaaRows
import Derived.Test.YtclhebpkpmholaaBase
import Derived.Outline
namespace Go.Proofs.Ytclhebpkpmholaa
open Go.RowKit Go.WideShapes Go.ChangeShapes
theorem Try.info3 : (Try.prog.info? 3).map (fun i => (i.zero, i.size, i.bytes)) = some (some (.int .i64 0), 1, 8) := by kernel_rfl

/-- what is left of a size -/
def szRes (left : Int) (n : Nat) : Int := if left < n then -1 else left - n
theorem szRes_neg {left : Int} {n : Nat} (h : left < n) : szRes left n = -1 := if_pos h
theorem szRes_pos {left : Int} {n : Nat} (h : ¬ left < n) : szRes left n = left - n := if_neg h
theorem Try.laidOut : laidOutB Try.prog = true := by kernel_rfl
/-- k cells filled of n -/
def fillI (xs : List Int) (k : Nat) : Array Value := ((List.range xs.length).map fun j => Value.int .i64 (if j < k then xs.getD j 0 else 0)).toArray
theorem fillI_get (xs : List Int) (k i : Nat) (hi : i < xs.length) : (fillI xs k)[i]? = some (.int .i64 (if i < k then xs.getD i 0 else 0)) := by
  simp [fillI, hi]
theorem fillI_size (xs : List Int) (k : Nat) : (fillI xs k).size = xs.length := by simp [fillI]
theorem fillI_set (xs : List Int) (k : Nat) (hk : k < xs.length) : (fillI xs k).setIfInBounds k (.int .i64 (xs.getD k 0)) = fillI xs (k + 1) := by
  apply Array.ext_getElem?
  intro i
  rw [Array.getElem?_setIfInBounds, fillI_size]
  by_cases hi : i < xs.length
  · rw [fillI_get xs _ i hi, fillI_get xs _ i hi]
    by_cases h : k = i
    · subst h; simp [hk]
    · simp only [h, if_false]
      by_cases h2 : i < k
      · rw [if_pos h2, if_pos (by omega)]
      · rw [if_neg h2, if_neg (by omega)]
  · rw [Array.getElem?_eq_none (by rw [fillI_size]; omega), Array.getElem?_eq_none (by rw [fillI_size]; omega)]
    split
    · omega
    · rfl
theorem fillI_full (xs : List Int) : fillI xs xs.length = (xs.map (Value.int .i64)).toArray := by
  apply Array.ext_getElem?
  intro i
  by_cases hi : i < xs.length
  · rw [fillI_get xs _ i hi]; simp [hi]
  · rw [Array.getElem?_eq_none (by rw [fillI_size]; omega)]; simp [hi]
theorem fillI_zero (xs : List Int) : fillI xs 0 = madeCells #[.int .i64 0] xs.length := by
  have := toList_madeCells_one (.int .i64 0) xs.length
  rw [← Array.toList_inj, this]
  apply List.ext_getElem?
  intro i
  simp only [fillI, Nat.not_lt_zero, if_false, List.getElem?_map, List.getElem?_replicate]
  by_cases hi : i < xs.length <;> simp [hi]
/-! ### marks: what the law writes into a slice, and reads again -/
def markL (xs : List Int) (k : Int) (j : Nat) : List Int := (List.range xs.length).map fun i => if i < j then k + i else xs.getD i 0
def marks (n : Nat) (k : Int) : List Int := (List.range n).map fun (i : Nat) => k + (i : Int)
theorem markL_length (xs : List Int) (k : Int) (j : Nat) : (markL xs k j).length = xs.length := by simp [markL]
theorem marks_length (n : Nat) (k : Int) : (marks n k).length = n := by simp [marks]
theorem markL_zero (xs : List Int) (k : Int) : markL xs k 0 = xs := by
  apply List.ext_getElem?
  intro i
  simp only [markL, Nat.not_lt_zero, if_false, List.getElem?_map]
  by_cases hi : i < xs.length <;> simp [hi]
theorem markL_full (xs : List Int) (k : Int) : markL xs k xs.length = marks xs.length k := by
  apply List.ext_getElem?
  intro i
  simp only [markL, marks, List.getElem?_map]
  by_cases hi : i < xs.length <;> simp [hi]
theorem markL_at (xs : List Int) (k : Int) (j i : Nat) (hi : i < xs.length) : (markL xs k j)[i]? = some (if i < j then k + i else xs.getD i 0) := by
  simp [markL, hi]
theorem markL_set (xs : List Int) (k : Int) (j : Nat) (hj : j < xs.length) : ((markL xs k j).map (Value.int .i64)).set j (.int .i64 (k + j)) = (markL xs k (j + 1)).map (Value.int .i64) := by
  apply List.ext_getElem?
  intro i
  rw [List.getElem?_set, List.length_map, markL_length]
  by_cases hi : i < xs.length
  · rw [List.getElem?_map, List.getElem?_map, markL_at xs k j i hi, markL_at xs k (j + 1) i hi]
    by_cases h : j = i
    · subst h; simp [hj]
    · simp only [h, if_false, Option.map_some]
      by_cases h2 : i < j
      · rw [if_pos h2, if_pos (by omega)]
      · rw [if_neg h2, if_neg (by omega)]
  · have h1 : ∀ j', ((markL xs k j').map (Value.int .i64))[i]? = none := fun j' => List.getElem?_eq_none (by rw [List.length_map, markL_length]; omega)
    rw [h1, h1, if_neg (by omega)]
theorem marks_at (n : Nat) (k : Int) (i : Nat) (hi : i < n) : (marks n k).getD i 0 = k + i := by
  simp [marks, List.getD, hi]

/-! ### the copies as slices of the call's own -/
end Go.Proofs.Ytclhebpkpmholaa
