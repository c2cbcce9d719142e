/- Products of 1 - q^k over others: by turns, or the products first; for rectangles they agree. No program is named here. -/
import Derived.Test.YtnlehkjfidpdlaaSv
import Derived.Test.YtnlehkjfidpdlaaBoxM
namespace Go.Proofs.Ytnlehkjfidpdlaa
open Go.RowKit Go.WideShapes Go.ChangeShapes
set_option linter.unusedVariables false

def bs0 (L : Nat) : List Int := (List.replicate L 0).set 0 1
def gzI (up lo : List Nat) (L : Nat) : Nat → List Int
  | 0 => bs0 L
  | e + 1 => divL (mulL (gzI up lo L e) (up.getD e 0)) (lo.getD e 0)
def gzU (up : List Nat) (L : Nat) : Nat → List Int
  | 0 => bs0 L
  | e + 1 => mulL (gzU up L e) (up.getD e 0)
def gzD (l : List Int) (lo : List Nat) : Nat → List Int
  | 0 => l
  | e + 1 => divL (gzD l lo e) (lo.getD e 0)
theorem bs0_length (L : Nat) : (bs0 L).length = L := by simp [bs0]
theorem gzI_length (up lo : List Nat) (L e : Nat) : (gzI up lo L e).length = L := by
  induction e with
  | zero => exact bs0_length L
  | succ e ih => rw [gzI, divL_length, mulL_length, ih]
theorem gzU_length (up : List Nat) (L e : Nat) : (gzU up L e).length = L := by
  induction e with
  | zero => exact bs0_length L
  | succ e ih => rw [gzU, mulL_length, ih]
theorem gzD_length (l : List Int) (lo : List Nat) (e : Nat) : (gzD l lo e).length = l.length := by
  induction e with
  | zero => rfl
  | succ e ih => rw [gzD, divL_length, ih]
def gzS (up lo : List Nat) (L : Nat) : List Int := gzD (gzU up L up.length) lo lo.length
theorem gzS_length (up lo : List Nat) (L : Nat) : (gzS up lo L).length = L := by unfold gzS; rw [gzD_length, gzU_length]
/-- m numbers from f on -/
def rgN (f m : Nat) : List Nat := (List.range m).map fun k => f + k
theorem rgN_length (f m : Nat) : (rgN f m).length = m := by simp [rgN]
theorem rgN_succ (f m : Nat) : rgN f (m + 1) = rgN f m ++ [f + m] := by simp [rgN, List.range_succ]
theorem rgN_mem {f m k : Nat} (h : k ∈ rgN f m) : f ≤ k ∧ k < f + m := by
  unfold rgN at h
  rw [List.mem_map] at h
  obtain ⟨i, hi, rfl⟩ := h
  have := List.mem_range.1 hi
  omega
/-- the hooks of the first m cells -/
def hkN (x y e : Nat) : Nat := x - e / y + y - e % y - 1
def hkT (x y m : Nat) : List Nat := (List.range m).map (hkN x y)
theorem hkT_length (x y m : Nat) : (hkT x y m).length = m := by simp [hkT]
theorem hkT_succ (x y m : Nat) : hkT x y (m + 1) = hkT x y m ++ [hkN x y m] := by simp [hkT, List.range_succ]
theorem hkN_le {x y e : Nat} (hx : x ≤ 10) (hy : y ≤ 10) : hkN x y e ≤ 20 := by
  unfold hkN
  exact Nat.le_trans (Nat.sub_le _ _) (Nat.le_trans (Nat.sub_le _ _) (by have := Nat.sub_le x (e / y); omega))
theorem hkT_mem {x y m k : Nat} (hx : x ≤ 10) (hy : y ≤ 10) (h : k ∈ hkT x y m) : k ≤ 20 := by
  unfold hkT at h
  rw [List.mem_map] at h
  obtain ⟨i, hi, rfl⟩ := h
  exact hkN_le hx hy
/-! what holds for all rectangles -/
def gzEq (up lo : List Nat) (L : Nat) : Bool := gzI up lo L up.length == gzS up lo L
def chkG (a b : Nat) : Bool := (rgN (b + 1) a).sum == (rgN 1 a).sum + a * b && gzEq (rgN (b + 1) a) (rgN 1 a) (a * b + 1)
theorem chk_G : ((List.range 11).all fun a => (List.range 11).all fun b => decide (10 < a * b) || chkG a b) = true := by decide +kernel
theorem gz_all {a b : Nat} (ha : a ≤ 10) (hb : b ≤ 10) (h : a * b ≤ 10) : (rgN (b + 1) a).sum = (rgN 1 a).sum + a * b ∧ gzI (rgN (b + 1) a) (rgN 1 a) (a * b + 1) a = gzS (rgN (b + 1) a) (rgN 1 a) (a * b + 1) := by
  have h3 := List.all_eq_true.1 (List.all_eq_true.1 chk_G a (List.mem_range.2 (by omega))) b (List.mem_range.2 (by omega))
  rw [decide_eq_false (show ¬ 10 < a * b by omega), Bool.false_or] at h3
  unfold chkG gzEq at h3
  rw [Bool.and_eq_true, rgN_length] at h3
  exact ⟨eq_of_beq h3.1, eq_of_beq h3.2⟩
/-- the degree that is left -/
def hkD (x y : Nat) : Nat := x * y * (x * y + 1) / 2 - (hkT x y (x * y)).sum
def chkH (x y : Nat) : Bool := (rgN 1 (x * y)).sum == (hkT x y (x * y)).sum + hkD x y && x * y * (x * y + 1) / 2 == (hkT x y (x * y)).sum + hkD x y && decide (hkD x y ≤ 100) && decide ((hkT x y (x * y)).sum ≤ 55) && gzEq (rgN 1 (x * y)) (hkT x y (x * y)) (hkD x y + 1)
theorem chk_H : ((List.range 11).all fun a => (List.range 11).all fun b => decide (10 < a * b) || chkH a b) = true := by decide +kernel
theorem hk_all {x y : Nat} (ha : x ≤ 10) (hb : y ≤ 10) (h : x * y ≤ 10) : (rgN 1 (x * y)).sum = (hkT x y (x * y)).sum + hkD x y ∧ x * y * (x * y + 1) / 2 = (hkT x y (x * y)).sum + hkD x y ∧ hkD x y ≤ 100 ∧ (hkT x y (x * y)).sum ≤ 55 ∧ gzI (rgN 1 (x * y)) (hkT x y (x * y)) (hkD x y + 1) (x * y) = gzS (rgN 1 (x * y)) (hkT x y (x * y)) (hkD x y + 1) := by
  have h3 := List.all_eq_true.1 (List.all_eq_true.1 chk_H x (List.mem_range.2 (by omega))) y (List.mem_range.2 (by omega))
  rw [decide_eq_false (show ¬ 10 < x * y by omega), Bool.false_or] at h3
  unfold chkH gzEq at h3
  simp only [Bool.and_eq_true, rgN_length, decide_eq_true_eq] at h3
  exact ⟨eq_of_beq h3.1.1.1.1, eq_of_beq h3.1.1.1.2, h3.1.1.2, h3.1.2, eq_of_beq h3.2⟩
end Go.Proofs.Ytnlehkjfidpdlaa
