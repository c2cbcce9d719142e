/- Toggles of the model and of the program: ideals, words, one toggle. -/
import Derived.Test.YtgepbekdgocnpaaSpec2
import Derived.Test.YtgepbekdgocnpaaTog
namespace Go.Proofs.Ytgepbekdgocnpaa
open Go.RowKit Go.WideShapes Go.ChangeShapes
set_option linter.unusedVariables false

theorem okIdeal_no {xs : List Int} {s : Int} (h : okSet xs s = false) : okIdeal xs s = false := by simp [okIdeal, h]
theorem okSet_no {xs : List Int} {s : Int} (h : good xs = false) : okSet xs s = false := by simp [okSet, h]
theorem okIdeal_nat {xs : List Int} {z : Nat} (h : okSet xs (z : Int) = true) : okIdeal xs (z : Int) = holdsIdeal xs z := by simp [okIdeal, h]
theorem tgElement_any (v : Value) (xs : List Int) (s : Int) (w : World) (hv : Ints w v xs) (hl : xs.length ≤ 1048576) :
    Calls Try.prog 46 #[.agg #[v], .int .i64 s] w fun r w' => r = .returned (.bool (decide (0 ≤ s) && decide (s < xs.length))) ∧ Below w.heap.size w w' := by
  obtain ⟨A, c, rfl, hA⟩ := hv
  clear hA
  have HE : Hid ((decide (0 ≤ s) && decide (s ≤ (xs.length : Int) - 1)) = (decide (0 ≤ s) && decide (s < xs.length))) := hid (by
    rw [show decide (s ≤ (xs.length : Int) - 1) = decide (s < xs.length) from decide_eq_decide.2 (by omega)])
  go_enter Try.func46, Try.ntmps46
  go_wp2_with (go_at_call 59; refine (l1In_any _ _ _ _).mono ?_; rw [HE.out]; rintro e w' ⟨rfl, rfl⟩)
  go_ret
  exact ⟨rfl, (Below.refl _ _).alloc (Nat.le_refl _) _⟩
theorem hasIndex_any (v : Value) (xs : List Int) (s : Int) (w : World) (hv : Ints w v xs) (hl : xs.length ≤ 1048576) :
    Calls Try.prog 49 #[.agg #[v], .int .i64 s] w fun r w' => r = .returned (.bool (decide (0 ≤ s) && decide (s < xs.length))) ∧ Below w.heap.size w w' := by
  obtain ⟨A, c, rfl, hA⟩ := hv
  clear hA
  go_enter Try.func49, Try.ntmps49
  go_wp2
  all_goals go_ret
  all_goals exact ⟨ret_bool (by simp <;> omega), (Below.refl _ _).alloc (Nat.le_refl _) _⟩
end Go.Proofs.Ytgepbekdgocnpaa
