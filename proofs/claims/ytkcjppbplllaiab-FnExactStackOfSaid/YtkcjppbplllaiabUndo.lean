/- The motion that leads back. -/
import Derived.Test.YtkcjppbplllaiabRow
namespace Go.Proofs.Ytkcjppbplllaiab
open Go.RowKit Go.WideShapes Go.ChangeShapes
set_option linter.unusedVariables false

theorem ta3 (A : Option Addr) (n c : Nat) (w : World) : (Instr.typeAssert (.iface 59 (.slice A n c)) 78 59 true).run Try.prog w = .ok (.tuple #[.slice A n c, .bool true]) w := by kernel_rfl
end Go.Proofs.Ytkcjppbplllaiab
