/- Sizes of sets, and sums of what is told of each of a list of sets. -/
import Derived.Test.YtkalpichninncabPc
import Derived.Test.YtkalpichninncabMot
import Derived.Test.YtkalpichninncabOrb
import Derived.Test.YtkalpichninncabRev
namespace Go.Proofs.Ytkalpichninncab
open Go.RowKit Go.WideShapes Go.ChangeShapes
set_option linter.unusedVariables false

theorem top_le (xs : List Int) (s : Nat) : top xs s ≤ s := sub_le _ _
def sumTo (g : Nat → Nat) (ls : List Int) : Nat → Nat
  | 0 => 0
  | k + 1 => sumTo g ls k + g (ls.getD k 0).toNat
theorem sumTo_succ {g : Nat → Nat} {ls : List Int} {k s : Nat} (h : ls.getD k 0 = (s : Int)) : sumTo g ls (k + 1) = sumTo g ls k + g s := by
  simp only [sumTo, h, Int.toNat_natCast]
theorem sumTo_le {g : Nat → Nat} (h : ∀ s, g s ≤ 10) (ls : List Int) (k : Nat) : sumTo g ls k ≤ 10 * k := by
  induction k with
  | zero => exact Nat.le_refl _
  | succ k ih => have := h (ls.getD k 0).toNat; unfold sumTo; omega
def sumL (g : Nat → Nat) (ls : List Int) : Nat := sumTo g ls ls.length
def topPc (xs : List Int) (s : Nat) : Nat := pc (top xs s)
theorem topPc_le (xs : List Int) (s : Nat) : topPc xs s ≤ 10 := pc_le _
def bitN (e s : Nat) : Nat := s / 2 ^ e % 2
theorem bitN_le (e s : Nat) : bitN e s ≤ 10 := by unfold bitN; omega

end Go.Proofs.Ytkalpichninncab
