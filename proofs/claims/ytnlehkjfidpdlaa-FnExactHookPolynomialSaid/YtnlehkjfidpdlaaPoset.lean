/- IsPoset of the program and of the model. -/
import Derived.Test.YtnlehkjfidpdlaaFun
namespace Go.Proofs.Ytnlehkjfidpdlaa
open Go.RowKit Go.WideShapes Go.ChangeShapes

theorem box_cell {w wr : World} {cs : Array Value} {T : TypeId} (h : Below (w.heap.size + 1) (w.alloc (.cells cs T)) wr) (i : Nat) : wr.cell? ⟨w.heap.size, i, none⟩ = cs[i]? := by
  rw [h.cell (p := ⟨w.heap.size, i, none⟩) (Nat.lt_succ_self _), (Blk.new w T cs).cell]
theorem Ints.box {w wr : World} {v : Value} {xs : List Int} {cs : Array Value} {T : TypeId} (hv : Ints w v xs) (h : Below (w.heap.size + 1) (w.alloc (.cells cs T)) wr) : Ints wr v xs :=
  (hv.alloc (.cells cs T)).below (h.mono (by simp))
theorem below_box {w wr : World} {cs : Array Value} {T : TypeId} (h : Below (w.heap.size + 1) (w.alloc (.cells cs T)) wr) : Below w.heap.size w wr :=
  ((Below.refl _ _).alloc (Nat.le_refl _) _).trans (h.mono (by omega))

end Go.Proofs.Ytnlehkjfidpdlaa
