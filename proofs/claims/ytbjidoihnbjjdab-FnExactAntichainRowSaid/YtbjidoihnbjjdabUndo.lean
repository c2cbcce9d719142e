/- The motion that leads back. -/
import Derived.Test.YtbjidoihnbjjdabRow
namespace Go.Proofs.Ytbjidoihnbjjdab
open Go.RowKit Go.WideShapes Go.ChangeShapes
set_option linter.unusedVariables false

theorem ta1 (w : World) : (Instr.typeAssert (.iface 58 (.agg #[])) 55 58 true).run Try.prog w = .ok (.tuple #[.agg #[], .bool true]) w := by kernel_rfl
theorem ta2 (A : Option Addr) (n c : Nat) (w : World) : (Instr.typeAssert (.iface 62 (.slice A n c)) 55 58 true).run Try.prog w = .ok (.tuple #[.agg #[], .bool false]) w := by kernel_rfl
theorem ta3 (A : Option Addr) (n c : Nat) (w : World) : (Instr.typeAssert (.iface 62 (.slice A n c)) 55 62 true).run Try.prog w = .ok (.tuple #[.slice A n c, .bool true]) w := by kernel_rfl
theorem undoneRow_any (w : World) : Calls Try.prog 48 #[.iface 58 (.agg #[])] w fun r w' => r = .returned (.iface 78 (.agg #[])) ∧ Below w.heap.size w w' := by
  have h1 := ta1
  go_enter Try.func48, Try.ntmps48
  go_wp2
  go_ret
  exact ⟨rfl, by first | exact Below.refl _ _ | exact (Below.refl _ _).alloc (Nat.le_refl _) _ | exact ((Below.refl _ _).alloc (Nat.le_refl _) _).setCell (by simp) _⟩
end Go.Proofs.Ytbjidoihnbjjdab
