/- The motion that leads back. -/
import Derived.Test.YtbjidoihnbjjdaaRow
namespace Go.Proofs.Ytbjidoihnbjjdaa
open Go.RowKit Go.WideShapes Go.ChangeShapes
set_option linter.unusedVariables false

theorem ta1 (w : World) : (Instr.typeAssert (.iface 85 (.agg #[])) 82 85 true).run Try.prog w = .ok (.tuple #[.agg #[], .bool true]) w := by kernel_rfl
theorem ta2 (A : Option Addr) (n c : Nat) (w : World) : (Instr.typeAssert (.iface 76 (.slice A n c)) 82 85 true).run Try.prog w = .ok (.tuple #[.agg #[], .bool false]) w := by kernel_rfl
theorem ta3 (A : Option Addr) (n c : Nat) (w : World) : (Instr.typeAssert (.iface 76 (.slice A n c)) 82 76 true).run Try.prog w = .ok (.tuple #[.slice A n c, .bool true]) w := by kernel_rfl
theorem undoneRow_any (w : World) : Calls Try.prog 94 #[.iface 85 (.agg #[])] w fun r w' => r = .returned (.iface 89 (.agg #[])) ∧ Below w.heap.size w w' := by
  have h1 := ta1
  go_enter Try.func94, Try.ntmps94
  go_wp2
  go_ret
  exact ⟨rfl, by first | exact Below.refl _ _ | exact (Below.refl _ _).alloc (Nat.le_refl _) _ | exact ((Below.refl _ _).alloc (Nat.le_refl _) _).setCell (by simp) _⟩
end Go.Proofs.Ytbjidoihnbjjdaa
