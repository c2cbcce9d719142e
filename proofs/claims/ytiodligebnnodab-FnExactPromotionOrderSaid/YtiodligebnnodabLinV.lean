/- ToggleLinear, PromoteLinear, EvacuateLinear, CoevacuateLinear in the model. -/
import Derived.Test.YtiodligebnnodabLinU
namespace Go.Proofs.Ytiodligebnnodab
open Go.RowKit Go.WideShapes Go.ChangeShapes
set_option linter.unusedVariables false

theorem ints_ten {n : Nat} {ws : List Int} (h : Lw n ws) (hn : n ≤ 10) : ws.length ≤ 1048576 := by rw [h.len]; omega
def okTL (xs ws : List Int) (i : Int) : Bool := okLin xs ws && (decide (0 ≤ i) && decide (i ≤ (ws.length : Int) - 2))
def ansTL (xs ws : List Int) (i : Int) : List Int := if okTL xs ws i then togL xs ws i.toNat else []
theorem okTL_no1 {xs ws : List Int} {i : Int} (h : okLin xs ws = false) : okTL xs ws i = false := by simp [okTL, h]
theorem okTL_no2 {xs ws : List Int} {i : Int} (h : (decide (0 ≤ i) && decide (i ≤ (ws.length : Int) - 2)) = false) : okTL xs ws i = false := by simp only [okTL, h]; simp
theorem okTL_yes {xs ws : List Int} {i : Int} (h : okLin xs ws = true) (k : (decide (0 ≤ i) && decide (i ≤ (ws.length : Int) - 2)) = true) : okTL xs ws i = true := by simp only [okTL, h, k]; rfl
theorem ansTL_no {xs ws : List Int} {i : Int} (h : okTL xs ws i = false) : ansTL xs ws i = [] := by simp [ansTL, h]
theorem ansTL_yes {xs ws : List Int} {i : Nat} (h : okTL xs ws i = true) : ansTL xs ws i = togL xs ws i := by simp [ansTL, h]
theorem ansTL_length (xs ws : List Int) (i : Int) : (ansTL xs ws i).length ≤ 1048576 := by
  cases h : okTL xs ws i
  · rw [ansTL_no h]; simp
  · unfold ansTL
    rw [if_pos h, togL_length]
    have h1 : okLin xs ws = true := by simp only [okTL, Bool.and_eq_true] at h; exact h.1
    exact ints_ten (okLin_Lw h1) (good_length (okLin_all h1).1).2
def okPL (xs ws : List Int) (t : Int) : Bool := okLin xs ws && (decide (-100 ≤ t) && decide (t ≤ 100))
def ansPL (xs ws : List Int) (t : Int) : List Int := if okPL xs ws t then proL xs t ws else []
theorem okPL_no1 {xs ws : List Int} {t : Int} (h : okLin xs ws = false) : okPL xs ws t = false := by simp [okPL, h]
theorem okPL_no2 {xs ws : List Int} {t : Int} (h : (decide (-100 ≤ t) && decide (t ≤ 100)) = false) : okPL xs ws t = false := by simp only [okPL, h]; simp
theorem okPL_yes {xs ws : List Int} {t : Int} (h : okLin xs ws = true) (k : (decide (-100 ≤ t) && decide (t ≤ 100)) = true) : okPL xs ws t = true := by simp only [okPL, h, k]; rfl
theorem ansPL_no {xs ws : List Int} {t : Int} (h : okPL xs ws t = false) : ansPL xs ws t = [] := by simp [ansPL, h]
theorem ansPL_yes {xs ws : List Int} {t : Int} (h : okPL xs ws t = true) : ansPL xs ws t = proL xs t ws := by simp [ansPL, h]
theorem ansPL_length (xs ws : List Int) (t : Int) : (ansPL xs ws t).length ≤ 1048576 := by
  cases h : okPL xs ws t
  · rw [ansPL_no h]; simp
  · rw [ansPL_yes h]
    have h1 : okLin xs ws = true := by simp only [okPL, Bool.and_eq_true] at h; exact h.1
    have hg := good_length (okLin_all h1).1
    exact ints_ten ((okLin_Lw h1).pro hg.1 t) hg.2
def ansEL (xs ws : List Int) : List Int := if okLin xs ws then evaL xs ws else []
theorem ansEL_no {xs ws : List Int} (h : okLin xs ws = false) : ansEL xs ws = [] := by simp [ansEL, h]
theorem ansEL_yes {xs ws : List Int} (h : okLin xs ws = true) : ansEL xs ws = evaL xs ws := by simp [ansEL, h]
theorem ansEL_length (xs ws : List Int) : (ansEL xs ws).length ≤ 1048576 := by
  cases h : okLin xs ws
  · rw [ansEL_no h]; simp
  · rw [ansEL_yes h]
    have hg := good_length (okLin_all h).1
    exact ints_ten ((okLin_Lw h).eva hg.1) hg.2
def ansCL (xs ws : List Int) : List Int := if okLin xs ws then coeL xs ws else []
theorem ansCL_no {xs ws : List Int} (h : okLin xs ws = false) : ansCL xs ws = [] := by simp [ansCL, h]
theorem ansCL_yes {xs ws : List Int} (h : okLin xs ws = true) : ansCL xs ws = coeL xs ws := by simp [ansCL, h]
theorem ansCL_length (xs ws : List Int) : (ansCL xs ws).length ≤ 1048576 := by
  cases h : okLin xs ws
  · rw [ansCL_no h]; simp
  · rw [ansCL_yes h]
    have hg := good_length (okLin_all h).1
    exact ints_ten ((okLin_Lw h).coe hg.1) hg.2
end Go.Proofs.Ytiodligebnnodab
