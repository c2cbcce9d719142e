/- Arrays in the model: rowmotion, RangeAt, ToggleNumber, ToggleNumbers, RowArray, RowArrayBack, RowArrayTimes. -/
import Derived.Test.YtgepbekdgocnpabArT
namespace Go.Proofs.Ytgepbekdgocnpab
open Go.RowKit Go.WideShapes Go.ChangeShapes
set_option linter.unusedVariables false

theorem wdK_len (xs : List Int) (b : Int) (f wd : List Int) (t : Nat) : (wdK xs b f wd t).length = f.length := by
  induction t with
  | zero => rfl
  | succ t ih => rw [wdK, pT_len, ih]
theorem tmK_len (xs : List Int) (b : Int) (wd f : List Int) (k : Nat) : (tmK xs b wd f k).length = f.length := by
  induction k with
  | zero => rfl
  | succ k ih => rw [tmK, wdK_len, ih]
theorem ansTN_len (xs f : List Int) (b : Int) (wd : List Int) : (ansTN xs f b wd).length ≤ 1048576 := by
  cases h : okTN xs f b wd
  · rw [ansTN_no h]; simp
  · rw [ansTN_yes h, wdK_len]
    simp only [okTN, Bool.and_eq_true] at h
    have h1 := okAr_all h.1
    have := (good_length h1.1).2
    have := h1.2.2.2.len
    omega
theorem ansRA_len (xs f : List Int) (b k : Int) : (ansRA xs f b k).length ≤ 1048576 := by
  cases h : okRA xs f b k
  · rw [ansRA_no h]; simp
  · rw [ansRA_yes h, tmK_len]
    simp only [okRA, Bool.and_eq_true] at h
    have h1 := okAr_all h.1
    have := (good_length h1.1).2
    have := h1.2.2.2.len
    omega
end Go.Proofs.Ytgepbekdgocnpab
