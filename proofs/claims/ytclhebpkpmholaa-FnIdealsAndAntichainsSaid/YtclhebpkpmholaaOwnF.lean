/- One number of a list of the call's own is turned. -/
import Derived.Test.YtclhebpkpmholaaGrd
namespace Go.Proofs.Ytclhebpkpmholaa
open Go.RowKit Go.WideShapes Go.ChangeShapes
set_option linter.unusedVariables false

/-- one number of a list of the call's own is turned -/
theorem OwnI.cellF {e : TypeId} {w : World} {B : Nat} {A : Option Addr} {n c : Nat} {l : List Int} (h : OwnI e w B (.slice A n c) l) {j : Nat} (hj : j < l.length) :
    ∃ g, A = some ⟨g, 0, none⟩ ∧ n = l.length ∧ B ≤ g ∧ g < w.heap.size ∧ w.cell? ⟨g, j, none⟩ = some (.int .i64 (l.getD j 0)) ∧ w.frozen? ⟨g, j, none⟩ = false ∧ ∀ y, OwnI e (w.setCell ⟨g, j, none⟩ (.int .i64 y)) B (.slice A n c) (l.set j y) := by
  have h' : w.ownsRow B e 1 (.slice A n c) l.length (l.map (Value.int .i64)) := h
  obtain ⟨g, cap, hv, hB, hg⟩ := h'.form (by omega)
  injection hv with h1 h2 h3
  subst h1; subst h2; subst h3
  refine ⟨g, rfl, rfl, hB, hg, ?_, h'.frozenAt j, fun y => ?_⟩
  · rw [h'.cellAt j (by omega)]; exact map_getDV hj
  · have h2 := (h'.stored j (.int .i64 y)).1
    unfold OwnI
    rw [List.length_set]
    have e2 : (l.set j y).map (Value.int .i64) = (l.map (Value.int .i64)).set j (.int .i64 y) := by rw [List.map_set]
    rw [e2]; exact h2
end Go.Proofs.Ytclhebpkpmholaa
