/- CountLinear, LinearWith, RankLinear of both sides. -/
import Derived.Test.YtiodligebnnodabEndS
import Derived.Deep.RegionWith
namespace Go.Proofs.Ytiodligebnnodab
open Go.RowKit Go.WideShapes Go.ChangeShapes
set_option linter.unusedVariables false

def cntL (xs : List Int) : Nat := ends xs 0
theorem cntL_le {xs : List Int} (hl : xs.length ≤ 10) : cntL xs ≤ 10000000000 := ends_le hl 0
theorem cell_zero {w : World} {g N : Nat} {t : TypeId} {xs : List Int} (h : Blk w g t (Vals (mkL N (endG xs 0)))) (hN : 0 < N) : w.cell? ⟨g, 0, none⟩ = some (.int .i64 (cntL xs : Nat)) := by
  rw [h.cell, Vals_get (by rw [mkL_length]; exact hN), mkL_getD hN, endG_at (Nat.two_pow_pos _)]; rfl
def okLW (xs : List Int) (r : Int) : Bool := good xs && (decide (0 ≤ r) && decide (r ≤ (cntL xs : Int) - 1))
def ansLW (xs : List Int) (r : Int) : List Int := if okLW xs r then unrL xs r.toNat else []
theorem okLW_no1 {xs : List Int} {r : Int} (h : good xs = false) : okLW xs r = false := by simp [okLW, h]
theorem okLW_no2 {xs : List Int} {r : Int} (h : (decide (0 ≤ r) && decide (r ≤ (cntL xs : Int) - 1)) = false) : okLW xs r = false := by simp only [okLW, h]; simp
theorem okLW_yes {xs : List Int} {r : Int} (h : good xs = true) (k : (decide (0 ≤ r) && decide (r ≤ (cntL xs : Int) - 1)) = true) : okLW xs r = true := by simp only [okLW, h, k]; rfl
theorem ansLW_no {xs : List Int} {r : Int} (h : okLW xs r = false) : ansLW xs r = [] := by simp [ansLW, h]
theorem ansLW_yes {xs : List Int} {r : Nat} (h : okLW xs r = true) : ansLW xs r = unrL xs r := by simp [ansLW, h]
theorem ansLW_length (xs : List Int) (r : Int) : (ansLW xs r).length ≤ 1048576 := by
  cases h : okLW xs r
  · rw [ansLW_no h]; simp
  · unfold ansLW
    rw [if_pos h, unrL_length]
    have h1 : good xs = true := by simp only [okLW, Bool.and_eq_true] at h; exact h.1
    have := (good_length h1).2
    omega
def ansRk (xs ws : List Int) : Int := if okLin xs ws then (rankN xs ws : Int) else 0
theorem ansRk_no {xs ws : List Int} (h : okLin xs ws = false) : ansRk xs ws = 0 := by simp [ansRk, h]
theorem ansRk_yes {xs ws : List Int} (h : okLin xs ws = true) : ansRk xs ws = (rankN xs ws : Int) := by simp [ansRk, h]
end Go.Proofs.Ytiodligebnnodab
