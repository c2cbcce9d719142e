/- Sums and stacks: the program's functions. -/
import Derived.Test.YtgepbekdgocnpabJoin
import Derived.Test.YtgepbekdgocnpabPoset
import Derived.Test.YtgepbekdgocnpabApi
import Derived.Lib.SliceRun
namespace Go.Proofs.Ytgepbekdgocnpab
open Go.RowKit Go.WideShapes Go.ChangeShapes
set_option linter.unusedVariables false

theorem cloneI_any (v : Value) (xs : List Int) (w : World) (hv : Ints w v xs) (hl : xs.length ≤ 1048576) :
    Calls Try.prog 47 #[v] w fun (r : Ending) w' => ∃ u, r = Ending.returned u ∧ OwnI 3 w' w.heap.size u xs ∧ Below w.heap.size w w' := by
  have HV := hid hv
  obtain ⟨A, c, rfl, hA⟩ := hv
  have HA := hid hA
  clear hA
  have qT : ∀ (w : World) (a : Option Addr) (n c n' c' : Nat), (binOp .eql 22 (.slice a n c) (.slice none n' c')).run Try.prog w = .ok (.bool a.isNone) w := fun w a n c n' c' => Lib.run_eql_slice_nil w _ _ a n c n' c' Try.underlying22
  rcases A with _ | ⟨b, o, pt⟩
  · by_cases hx : xs = []
    · subst hx
      go_enter Try.func47, Try.ntmps47
      go_wp2
      go_ret
      exact ⟨_, rfl, OwnI.nil _ _ _, Below.refl _ _⟩
    · obtain ⟨b, o, h, -⟩ := HA.out hx
      cases h
  · skip
    go_enter Try.func47, Try.ntmps47
    go_wp2_with (at_builtin; refine wpList_append_ints rfl _ _ 22 3 rfl Try.underlying22 Try.info3 w.heap.size _ [] rfl (OwnI.empty 3 w) _ xs rfl (HV.out.alloc _) (by simpa using hl) (by simp) ?_; rintro u w1 ho hb)
    go_ret
    exact ⟨_, rfl, by simpa using ho, (below_alloc (Below.refl _ w) _).trans hb⟩
theorem sumL_yes {xs ys : List Int} (h : fits xs ys = true) : sumL xs ys = joinL xs ys (0) := by unfold sumL; rw [if_pos h]
theorem sumL_no {xs ys : List Int} (h : fits xs ys = false) : sumL xs ys = [] := by simp [sumL, h]
theorem sumL_length (xs ys : List Int) : (sumL xs ys).length ≤ 1048576 := by
  unfold sumL
  split
  · rename_i h
    have := fits_good h
    rw [joinL_length]; omega
  · simp
theorem stackL_yes {xs ys : List Int} (h : fits xs ys = true) : stackL xs ys = joinL xs ys (2 ^ xs.length - 1) := by unfold stackL; rw [if_pos h]
theorem stackL_no {xs ys : List Int} (h : fits xs ys = false) : stackL xs ys = [] := by simp [stackL, h]
theorem stackL_length (xs ys : List Int) : (stackL xs ys).length ≤ 1048576 := by
  unfold stackL
  split
  · rename_i h
    have := fits_good h
    rw [joinL_length]; omega
  · simp
end Go.Proofs.Ytgepbekdgocnpab
