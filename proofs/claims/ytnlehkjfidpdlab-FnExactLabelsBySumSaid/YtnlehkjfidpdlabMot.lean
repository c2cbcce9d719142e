/- Toggles of the model and of the program: ideals, words, one toggle. -/
import Derived.Test.YtnlehkjfidpdlabSpec2
import Derived.Test.YtnlehkjfidpdlabTog
namespace Go.Proofs.Ytnlehkjfidpdlab
open Go.RowKit Go.WideShapes Go.ChangeShapes
set_option linter.unusedVariables false

theorem okIdeal_no {xs : List Int} {s : Int} (h : okSet xs s = false) : okIdeal xs s = false := by simp [okIdeal, h]
theorem okSet_no {xs : List Int} {s : Int} (h : good xs = false) : okSet xs s = false := by simp [okSet, h]
theorem okIdeal_nat {xs : List Int} {z : Nat} (h : okSet xs (z : Int) = true) : okIdeal xs (z : Int) = holdsIdeal xs z := by simp [okIdeal, h]
theorem hasIndex_any (v : Value) (xs : List Int) (s : Int) (w : World) (hv : Ints w v xs) (hl : xs.length ≤ 1048576) :
    Calls Try.prog 150 #[.agg #[v], .int .i64 s] w fun r w' => r = .returned (.bool (decide (0 ≤ s) && decide (s < xs.length))) ∧ Below w.heap.size w w' := by
  obtain ⟨A, c, rfl, hA⟩ := hv
  clear hA
  go_enter Try.func150, Try.ntmps150
  go_wp2
  all_goals go_ret
  all_goals exact ⟨ret_bool (by simp <;> omega), (Below.refl _ _).alloc (Nat.le_refl _) _⟩
end Go.Proofs.Ytnlehkjfidpdlab
