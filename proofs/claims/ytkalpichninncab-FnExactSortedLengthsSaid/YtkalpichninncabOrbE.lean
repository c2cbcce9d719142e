/- ElementSum, MeanOfIdeals: contracts. -/
import Derived.Test.YtkalpichninncabOrbT
import Derived.Test.YtkalpichninncabCycD
import Derived.Test.YtkalpichninncabIdeals
namespace Go.Proofs.Ytkalpichninncab
open Go.RowKit Go.WideShapes Go.ChangeShapes
set_option linter.unusedVariables false

def okES (xs : List Int) (s e : Int) : Bool := okIdeal xs s && (decide (0 ≤ e) && decide (e < xs.length))
def ansES (xs : List Int) (s e : Int) : Int := if okES xs s e then (sumL (bitN e.toNat) (orbXs xs s.toNat) : Nat) else 0
theorem okES_no1 {xs : List Int} {s e : Int} (h : okIdeal xs s = false) : okES xs s e = false := by simp [okES, h]
theorem okES_no2 {xs : List Int} {s e : Int} (h : (decide (0 ≤ e) && decide (e < (xs.length : Int))) = false) : okES xs s e = false := by unfold okES; rw [h, Bool.and_false]
theorem okES_yes {xs : List Int} {s e : Int} (h : okIdeal xs s = true) (k : (decide (0 ≤ e) && decide (e < (xs.length : Int))) = true) : okES xs s e = true := by unfold okES; rw [h, k]; rfl
theorem ansES_no {xs : List Int} {s e : Int} (h : okES xs s e = false) : ansES xs s e = 0 := by simp [ansES, h]
theorem ansES_yes {xs : List Int} {z n : Nat} (h : okES xs z n = true) : ansES xs z n = ((sumTo (bitN n) (orbXs xs z) (orbXs xs z).length : Nat) : Int) := by unfold ansES; rw [if_pos h]; rfl
theorem bitN_bit (e s : Nat) : bitN e s = if s.testBit e then 1 else 0 := by
  unfold bitN
  rw [Nat.testBit_eq_decide_div_mod_eq]
  by_cases h : s / 2 ^ e % 2 = 1
  · simp [h]
  · simp [h]; omega
end Go.Proofs.Ytkalpichninncab
