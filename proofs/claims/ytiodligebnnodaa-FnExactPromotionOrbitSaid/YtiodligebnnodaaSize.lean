/- Sizes of sets, and sums of what is told of each of a list of sets. -/
import Derived.Test.YtiodligebnnodaaMot
import Derived.Test.YtiodligebnnodaaOrb
import Derived.Test.YtiodligebnnodaaRow
namespace Go.Proofs.Ytiodligebnnodaa
open Go.RowKit Go.WideShapes Go.ChangeShapes
set_option linter.unusedVariables false

/-- the number of elements of a set -/
def pcF : Nat → Nat → Nat
  | 0, _ => 0
  | c + 1, s => s % 2 + pcF c (s / 2)
def pc (s : Nat) : Nat := pcF 10 s
theorem pcF_le (c s : Nat) : pcF c s ≤ c := by
  induction c generalizing s with
  | zero => exact Nat.le_refl _
  | succ c ih => have := ih (s / 2); unfold pcF; omega
theorem pc_le (s : Nat) : pc s ≤ 10 := pcF_le 10 s
theorem pcF_zero (c : Nat) : pcF c 0 = 0 := by
  induction c with
  | zero => rfl
  | succ c ih => unfold pcF; simp [ih]
theorem top_le (xs : List Int) (s : Nat) : top xs s ≤ s := sub_le _ _
def sumTo (g : Nat → Nat) (ls : List Int) : Nat → Nat
  | 0 => 0
  | k + 1 => sumTo g ls k + g (ls.getD k 0).toNat
theorem sumTo_succ {g : Nat → Nat} {ls : List Int} {k s : Nat} (h : ls.getD k 0 = (s : Int)) : sumTo g ls (k + 1) = sumTo g ls k + g s := by
  simp only [sumTo, h, Int.toNat_natCast]
theorem sumTo_le {g : Nat → Nat} (h : ∀ s, g s ≤ 10) (ls : List Int) (k : Nat) : sumTo g ls k ≤ 10 * k := by
  induction k with
  | zero => exact Nat.le_refl _
  | succ k ih => have := h (ls.getD k 0).toNat; unfold sumTo; omega
def sumL (g : Nat → Nat) (ls : List Int) : Nat := sumTo g ls ls.length
def topPc (xs : List Int) (s : Nat) : Nat := pc (top xs s)
theorem topPc_le (xs : List Int) (s : Nat) : topPc xs s ≤ 10 := pc_le _
def bitN (e s : Nat) : Nat := s / 2 ^ e % 2
theorem bitN_le (e s : Nat) : bitN e s ≤ 10 := by unfold bitN; omega

def onA (x : Int) : Int := IntKind.u64.wrap (bits .and .u64 (x / 2) 6148914691236517205 + bits .and .u64 x 6148914691236517205)
def onB (x : Int) : Int := IntKind.u64.wrap (bits .and .u64 (x / 4) 3689348814741910323 + bits .and .u64 x 3689348814741910323)
def onC (x : Int) : Int := bits .and .u64 (IntKind.u64.wrap (x / 16 + x)) 1085102592571150095
def onD (x : Int) : Int := IntKind.u64.wrap (x + x / 256)
def onE (x : Int) : Int := IntKind.u64.wrap (x + x / 65536)
def onF (x : Int) : Int := IntKind.u64.wrap (x + x / 4294967296)
def onesI (x : Int) : Int := bits .and .i64 (wrap64 (onF (onE (onD (onC (onB (onA x))))))) 127
theorem ones_chk : ((List.range 1024).all fun s => onesI (s : Int) == ((pc s : Nat) : Int)) = true := by decide +kernel
theorem ones_all {s : Nat} (h : s < 1024) : onesI (s : Int) = ((pc s : Nat) : Int) := by
  have := List.all_eq_true.1 ones_chk s (List.mem_range.2 h)
  simpa using this
end Go.Proofs.Ytiodligebnnodaa
