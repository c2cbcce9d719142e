/- Labels in the model; AreLabels and AreStrict on both sides. -/
import Derived.Test.YtgepbekdgocnpabLab
import Derived.Test.YtgepbekdgocnpabApi
namespace Go.Proofs.Ytgepbekdgocnpab
open Go.RowKit Go.WideShapes Go.ChangeShapes
set_option linter.unusedVariables false

theorem labB_in {xs f : List Int} {m : Nat} {g : Int} (h : inW (m + 1) f = false) : labB xs f m g = false := by
  cases hc : labB xs f m g
  · rfl
  · have h1 := labB_all hc
    have : inW (m + 1) f = true := inW_of fun j hj => by
      obtain ⟨a, b⟩ := labAt_iff.1 (h1.2 j hj)
      have := leN_zero_le xs f j g j
      omega
    rw [h] at this; cases this
theorem labAt_pair {xs f : List Int} {m g : Int} {k j : Nat} (hj : j < k) (hb : (xs.getD k 0).toNat.testBit j = true) (h : f.getD k 0 < f.getD j 0 + g) : labAt xs f m g k = false := by
  cases hc : labAt xs f m g k
  · rfl
  · have := (leN_le.1 (labAt_iff.1 hc).2).2 j hj hb
    omega
theorem okLab_bd {xs f : List Int} {m g : Int} (h : okBd xs m = false) : okLab xs f m g = false := okLab_no1 h
end Go.Proofs.Ytgepbekdgocnpab
