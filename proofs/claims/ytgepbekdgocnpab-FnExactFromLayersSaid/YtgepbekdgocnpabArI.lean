/- Arrays in the program: a filling (ten numbers and a bound), its ranges. -/
import Derived.Test.YtgepbekdgocnpabAr
import Derived.Test.YtgepbekdgocnpabLabS
import Derived.BigQuiet
namespace Go.Proofs.Ytgepbekdgocnpab
open Go.RowKit Go.WideShapes Go.ChangeShapes
set_option linter.unusedVariables false

/-- the cells of a filling -/
def fc (f : List Int) (b : Int) : Array Value := ((List.range 11).map fun j => if j = 10 then Value.int .i64 b else .int .i64 (f.getD j 0)).toArray
theorem fc_size (f : List Int) (b : Int) : (fc f b).size = 11 := by simp [fc]
theorem fc_get {f : List Int} {b : Int} {j : Nat} (h : j < 10) : (fc f b)[j]? = some (.int .i64 (f.getD j 0)) := by
  simp [fc]
  rw [List.getElem?_range (by omega)]
  simp
  omega
theorem fc_bound (f : List Int) (b : Int) : (fc f b)[10]? = some (.int .i64 b) := rfl
theorem fc_set {f : List Int} {b y : Int} {e : Nat} (he : e < f.length) (h : f.length ≤ 10) : (fc f b).setIfInBounds e (.int .i64 y) = fc (f.set e y) b := by
  unfold fc
  rw [List.setIfInBounds_toArray]
  congr 1
  refine List.ext_getElem (by simp) fun i h1 h2 => ?_
  have h3 : i < 11 := by simpa using h2
  rw [List.getElem_set, List.getElem_map, List.getElem_map, List.getElem_range, getD_setA f he]
  by_cases e1 : e = i
  · subst e1; simp; omega
  · have e2 : ¬ i = e := fun h => e1 h.symm
    simp only [e1, e2, if_false]
theorem fc_one (f : List Int) (b : Int) : (fc f b).all (·.oneCell') = true := by
  rw [Array.all_eq_true]
  intro i hi
  have h3 : i < 11 := by simpa [fc] using hi
  simp only [fc, List.getElem_toArray, List.getElem_map, List.getElem_range]
  split <;> rfl
theorem min_ifA (p q : Int) : (if q < p then q else p) = min p q := by split <;> omega
end Go.Proofs.Ytgepbekdgocnpab
