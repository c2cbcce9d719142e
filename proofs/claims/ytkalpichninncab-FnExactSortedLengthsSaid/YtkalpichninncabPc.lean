/- The sizes of sets, by the library's count of ones. -/
import Derived.Test.YtkalpichninncabPoset
namespace Go.Proofs.Ytkalpichninncab
open Go.RowKit Go.WideShapes Go.ChangeShapes
set_option linter.unusedVariables false

/-- the number of elements of a set -/
def pcF : Nat → Nat → Nat
  | 0, _ => 0
  | c + 1, s => s % 2 + pcF c (s / 2)
def pc (s : Nat) : Nat := pcF 10 s
theorem pcF_le (c s : Nat) : pcF c s ≤ c := by
  induction c generalizing s with
  | zero => exact Nat.le_refl _
  | succ c ih => have := ih (s / 2); unfold pcF; omega
theorem pc_le (s : Nat) : pc s ≤ 10 := pcF_le 10 s
theorem pcF_zero (c : Nat) : pcF c 0 = 0 := by
  induction c with
  | zero => rfl
  | succ c ih => unfold pcF; simp [ih]
def onA (x : Int) : Int := IntKind.u64.wrap (bits .and .u64 (x / 2) 6148914691236517205 + bits .and .u64 x 6148914691236517205)
def onB (x : Int) : Int := IntKind.u64.wrap (bits .and .u64 (x / 4) 3689348814741910323 + bits .and .u64 x 3689348814741910323)
def onC (x : Int) : Int := bits .and .u64 (IntKind.u64.wrap (x / 16 + x)) 1085102592571150095
def onD (x : Int) : Int := IntKind.u64.wrap (x + x / 256)
def onE (x : Int) : Int := IntKind.u64.wrap (x + x / 65536)
def onF (x : Int) : Int := IntKind.u64.wrap (x + x / 4294967296)
def onesI (x : Int) : Int := bits .and .i64 (wrap64 (onF (onE (onD (onC (onB (onA x))))))) 127
theorem ones_chk : ((List.range 1024).all fun s => onesI (s : Int) == ((pc s : Nat) : Int)) = true := by decide +kernel
theorem ones_all {s : Nat} (h : s < 1024) : onesI (s : Int) = ((pc s : Nat) : Int) := by
  have := List.all_eq_true.1 ones_chk s (List.mem_range.2 h)
  simpa using this
end Go.Proofs.Ytkalpichninncab
