/- slices.Repeat of one number. -/
import Derived.Test.YtclhebpkpmholaaTabG
import Derived.Laws.CopyOwn
import Derived.Deep.RegionLaw
namespace Go.Proofs.Ytclhebpkpmholaa
open Go.RowKit Go.WideShapes Go.ChangeShapes
set_option linter.unusedVariables false

theorem sizeIntR : (Try.prog.info? 3).map (·.size) = some 1 := by kernel_rfl
/-- the row while it is filled -/
def repI (x : Value) (N n : Nat) : List Value := List.replicate n x ++ List.replicate (N - n) (.int .i64 0)
theorem repI_length (x : Value) {N n : Nat} (h : n ≤ N) : (repI x N n).length = N := by simp [repI]; omega
theorem repI_splice (x : Value) {N n : Nat} (h : n ≤ N) (c : Nat) (hc : c ≤ N - n) : splice (repI x N n) n (List.replicate c x) = repI x N (n + c) := by
  have e1 : (repI x N n).take n = List.replicate n x := by simp [repI]
  have e2 : (repI x N n).drop (n + c) = List.replicate (N - (n + c)) (.int .i64 0) := by
    unfold repI
    rw [List.drop_append, List.drop_replicate, List.drop_replicate]
    simp
    omega
  unfold splice
  rw [List.length_replicate, e1, e2, ← List.append_assoc]
  unfold repI
  rw [List.replicate_append_replicate]
theorem repI_zero (x : Value) (N : Nat) : madeCells #[(.int .i64 0)] N = (repI x N 0).toArray := by
  have := toList_madeCells_one ((.int .i64 0)) N
  rw [← Array.toList_inj, this]
  simp [repI]
theorem repI_full (x : Value) (N : Nat) : repI x N N = List.replicate N x := by simp [repI]
end Go.Proofs.Ytclhebpkpmholaa
