/- LabelsWith of the model. -/
import Derived.Test.YtnlehkjfidpdlabChT
import Derived.Test.YtnlehkjfidpdlabLbS
import Derived.Test.YtnlehkjfidpdlabLabS
import Derived.Test.YtnlehkjfidpdlabApi
namespace Go.Proofs.Ytnlehkjfidpdlab
open Go.RowKit Go.WideShapes Go.ChangeShapes
set_option linter.unusedVariables false

theorem ret_vbW {u : Value} {a b : Bool} (h : a = b) : Ending.returned (.tuple #[u, .bool a]) = .returned (.tuple #[u, .bool b]) := by rw [h]
/-- are there at most a thousand labels? -/
def fewB (xs : List Int) (m : Int) : Bool := okBd xs m && decide ((allF xs m.toNat).length ≤ 1000)
theorem fewB_no {xs : List Int} {m : Int} (h : okBd xs m = false) : fewB xs m = false := by simp [fewB, h]
theorem fewB_yes {xs : List Int} {m : Nat} (h : okBd xs m = true) : fewB xs m = decide ((allF xs m).length ≤ 1000) := by simp [fewB, h]
theorem fewB_all {xs : List Int} {m : Int} (h : fewB xs m = true) : good xs = true ∧ ∃ M : Nat, m = M ∧ M ≤ 12 ∧ (allF xs M).length ≤ 1000 := by
  simp only [fewB, Bool.and_eq_true, decide_eq_true_eq] at h
  obtain ⟨h1, h2, h3⟩ := okBd_all h.1
  obtain ⟨M, rfl⟩ := Int.eq_ofNat_of_zero_le h2
  exact ⟨h1, M, rfl, by omega, by simpa using h.2⟩
/-- is there a labeling with that rank? -/
def lwB (xs : List Int) (m r : Int) : Bool := fewB xs m && (decide (0 ≤ r) && decide (r < (allF xs m.toNat).length))
def ansLW6 (xs : List Int) (m r : Int) : List Int := if lwB xs m r then (allF xs m.toNat).getD r.toNat [] else []
theorem lwB_no {xs : List Int} {m r : Int} (h : fewB xs m = false) : lwB xs m r = false := by simp [lwB, h]
theorem ansLW6_no {xs : List Int} {m r : Int} (h : lwB xs m r = false) : ansLW6 xs m r = [] := by simp [ansLW6, h]
theorem ansLW6_yes {xs : List Int} {m r : Nat} (h : lwB xs m r = true) : ansLW6 xs m r = (allF xs m).getD r [] := by
  unfold ansLW6; rw [if_pos h]; simp
theorem ansLW6_length (xs : List Int) (m r : Int) : (ansLW6 xs m r).length ≤ 1048576 := by
  cases h : lwB xs m r
  · rw [ansLW6_no h]; simp
  · simp only [lwB, Bool.and_eq_true, decide_eq_true_eq] at h
    obtain ⟨h1, M, rfl, h2, h3⟩ := fewB_all h.1
    obtain ⟨R, rfl⟩ := Int.eq_ofNat_of_zero_le h.2.1
    rw [ansLW6_yes (by simp only [lwB, Bool.and_eq_true, decide_eq_true_eq]; exact h)]
    have hm : (allF xs M).getD R [] ∈ lbF xs M xs.length [] := by
      have hlt : R < (allF xs M).length := by have := h.2.2; simp at this; omega
      have e : (allF xs M).getD R [] = (allF xs M)[R] := by simp [List.getD, hlt]
      rw [e]; exact List.getElem_mem hlt
    have := ((lbF_mem xs.length [] _).1 hm).1
    have h10 := (good_length h1).2
    have e0 : ([] : List Int).length = 0 := rfl
    omega
theorem in_dec (r : Int) (N : Nat) : (decide (0 ≤ r) && decide (r ≤ (N : Int) - 1)) = (decide (0 ≤ r) && decide (r < (N : Int))) := by
  congr 1
  by_cases e : r < (N : Int)
  · rw [decide_eq_true e, decide_eq_true (by omega)]
  · rw [decide_eq_false e, decide_eq_false (by omega)]
end Go.Proofs.Ytnlehkjfidpdlab
