/- Arrays in the model: RangeAt, ToggleNumber, ToggleNumbers, RowArray, RowArrayBack, RowArrayTimes. -/
import Derived.Test.YtgepbekdgocnpabArU
namespace Go.Proofs.Ytgepbekdgocnpab
open Go.RowKit Go.WideShapes Go.ChangeShapes
set_option linter.unusedVariables false

def okRg (xs f : List Int) (b e : Int) : Bool := okAr xs f b && (decide (0 ≤ e) && decide (e < xs.length))
def ansLo (xs f : List Int) (b e : Int) : Int := if okRg xs f b e then loN xs f e.toNat xs.length else 0
def ansHi (xs f : List Int) (b e : Int) : Int := if okRg xs f b e then hiN xs f b e.toNat xs.length else 0
theorem okRg_no1 {xs f : List Int} {b e : Int} (h : okAr xs f b = false) : okRg xs f b e = false := by simp [okRg, h]
theorem okRg_no2 {xs f : List Int} {b e : Int} (h : (decide (0 ≤ e) && decide (e < xs.length)) = false) : okRg xs f b e = false := by simp only [okRg, h, Bool.and_false]
theorem okRg_yes {xs f : List Int} {b e : Int} (h : okAr xs f b = true) (k : (decide (0 ≤ e) && decide (e < xs.length)) = true) : okRg xs f b e = true := by simp only [okRg, h, k, Bool.and_self]
theorem ansLo_no {xs f : List Int} {b e : Int} (h : okRg xs f b e = false) : ansLo xs f b e = 0 := by simp [ansLo, h]
theorem ansHi_no {xs f : List Int} {b e : Int} (h : okRg xs f b e = false) : ansHi xs f b e = 0 := by simp [ansHi, h]
theorem ansLo_yes {xs f : List Int} {b : Int} {e : Nat} (h : okRg xs f b e = true) : ansLo xs f b e = loN xs f e xs.length := by unfold ansLo; rw [if_pos h, Int.toNat_natCast]
theorem ansHi_yes {xs f : List Int} {b : Int} {e : Nat} (h : okRg xs f b e = true) : ansHi xs f b e = hiN xs f b e xs.length := by unfold ansHi; rw [if_pos h, Int.toNat_natCast]
theorem ret_iib {a b a' b' : Int} {c c' : Bool} (h : a = a') (k : b = b') (l : c = c') : Ending.returned (.tuple #[.int .i64 a, .int .i64 b, .bool c]) = .returned (.tuple #[.int .i64 a', .int .i64 b', .bool c']) := by rw [h, k, l]
theorem wdK_one (xs : List Int) (b : Int) (f : List Int) (e : Nat) : wdK xs b f [(e : Int)] [(e : Int)].length = pT xs b f e := by
  show pT xs b f ((([(e : Int)] : List Int).getD 0 0).toNat) = _
  simp
theorem inW_rng {n : Nat} {ys : List Int} (h : inW n ys = true) {j : Nat} (hj : j < ys.length) : 0 ≤ ys.getD j 0 ∧ ys.getD j 0 < n := inW_at h hj
theorem okKR_one : okKR 1 = true := rfl
theorem okKR_mone : okKR (-1) = true := rfl
theorem ansRA_one {xs f : List Int} {b : Int} : okRA xs f b 1 = okAr xs f b ∧ (okAr xs f b = true → ansRA xs f b 1 = wdK xs b f (dnW xs.length) xs.length) := by
  have h : okRA xs f b 1 = okAr xs f b := by unfold okRA; rw [okKR_one, Bool.and_true]
  refine ⟨h, fun k => ?_⟩
  rw [ansRA_yes (h.trans k)]
  show wdK xs b f (dnW xs.length) (dnW xs.length).length = _
  rw [dnW_len]
theorem ansRA_mone {xs f : List Int} {b : Int} : okRA xs f b (-1) = okAr xs f b ∧ (okAr xs f b = true → ansRA xs f b (-1) = wdK xs b f (upW xs.length) xs.length) := by
  have h : okRA xs f b (-1) = okAr xs f b := by unfold okRA; rw [okKR_mone, Bool.and_true]
  refine ⟨h, fun k => ?_⟩
  rw [ansRA_yes (h.trans k)]
  show wdK xs b f (upW xs.length) (upW xs.length).length = _
  rw [upW_len]
end Go.Proofs.Ytgepbekdgocnpab
