/- Orbits: the model's and the program's contracts. -/
import Derived.Test.YtnlehkjfidpdlabOrb
import Derived.Test.YtnlehkjfidpdlabRev
namespace Go.Proofs.Ytnlehkjfidpdlab
open Go.RowKit Go.WideShapes Go.ChangeShapes
set_option linter.unusedVariables false

def lenV : Value → Nat
  | .slice _ n _ => n
  | _ => 0
theorem At.belowB {w w' : World} {b B : Nat} {v : Value} (h : At w b v) (hb : Below B w w') (hB : b < B) : At w' b v :=
  ⟨(hb.cell (p := ⟨b, 0, none⟩) hB).trans h.1, Nat.lt_of_lt_of_le h.2 hb.size⟩
theorem below_to2 {a w w' : World} {B : Nat} (h : Below a.heap.size a w) (hb : Below B w w') (hB : a.heap.size ≤ B) : Below a.heap.size a w' := h.trans (hb.mono hB)

end Go.Proofs.Ytnlehkjfidpdlab
