/- The program's tableaux: linear extensions, words, descents. -/
import Derived.Test.YtclhebpkpmholaaTabI
namespace Go.Proofs.Ytclhebpkpmholaa
open Go.RowKit Go.WideShapes Go.ChangeShapes
set_option linter.unusedVariables false

/-! ### rows of numbers -/
structure TB (ti : TypeId) (w0 : World) (t : Nat) (x y : Value) (W : World) : Prop where
  blk : Blk W t ti #[x, y]
  below : Below w0.heap.size w0 W
theorem TB.drew {ti : TypeId} {w0 : World} {t : Nat} {x y : Value} {W : World} (h : TB ti w0 t x y W) : TB ti w0 t x y W.drew := ⟨h.blk, h.below.drew⟩
theorem TB.to {ti : TypeId} {w0 : World} {t : Nat} {x y : Value} {W W' : World} (h : TB ti w0 t x y W) (hb : Below W.heap.size W W') : TB ti w0 t x y W' := ⟨h.blk.below hb h.blk.lt, below_to h.below hb⟩
end Go.Proofs.Ytclhebpkpmholaa
