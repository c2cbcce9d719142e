/- Chains of ideals, counted by the model. -/
import Derived.Test.YtgepbekdgocnpabChS
import Derived.Deep.RegionWith
namespace Go.Proofs.Ytgepbekdgocnpab
open Go.RowKit Go.WideShapes Go.ChangeShapes
set_option linter.unusedVariables false

theorem made0S {L : Nat} (h : 0 < L) : (madeCells #[Value.int IntKind.i64 0] L)[0]? = some (Value.int IntKind.i64 0) := by
  have e : (List.replicate L (0 : Int)).getD 0 0 = 0 := by
    unfold List.getD; rw [List.getElem?_replicate]; split <;> rfl
  rw [Vals_made, Vals_get (by rw [List.length_replicate]; exact h), e]
theorem start_cnt (xs : List Int) (b : Bool) {N : Nat} (hN : 0 < N) : (List.replicate N (0 : Int)).set 0 1 = mkL N (cnt xs b 0) := by
  rw [mkL_upd (g := fun _ => 0) (h := cnt xs b 0) 1 hN (fun i _ => by unfold cnt chN; rfl), mkL_zero]; rfl
theorem start_acc (xs : List Int) (b : Bool) (W : Nat → Nat) (N : Nat) : List.replicate N (0 : Int) = mkL N (acc xs b W 0) := (mkL_zero N).symm
end Go.Proofs.Ytgepbekdgocnpab
