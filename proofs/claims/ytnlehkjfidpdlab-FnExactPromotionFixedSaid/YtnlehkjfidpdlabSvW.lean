/- Lists within bounds, turns and steps: both sides. -/
import Derived.Test.YtnlehkjfidpdlabSvM
import Derived.Test.YtnlehkjfidpdlabFun
namespace Go.Proofs.Ytnlehkjfidpdlab
open Go.RowKit Go.WideShapes Go.ChangeShapes
set_option linter.unusedVariables false

theorem areSteps_any (n : Int) (w : World) : Calls Try.prog 31 #[.int .i64 n] w fun r w' => r = .returned (.bool (stB n)) ∧ w = w' := by
  go_enter Try.func31, Try.ntmps31
  go_wp2
  all_goals go_ret
  all_goals exact ⟨ret_bool (by simp [stB] <;> omega), rfl⟩
theorem svTurn_any (n : Int) (w : World) : Calls Try.prog 26 #[.int .i64 n] w fun r w' => r = .returned (.bool (stB n)) ∧ w = w' := by
  go_enter Try.func26, Try.ntmps26
  go_wp2_with (go_at_call 57; refine (l1In_any _ _ _ _).mono ?_; rintro e w' ⟨rfl, rfl⟩)
  go_ret
  exact ⟨rfl, rfl⟩
theorem l1AllB_any (v : Value) (ys : List Int) (lo hi : Int) (w : World) (hv : Ints w v ys) (hl : ys.length ≤ 1048576) :
    Calls Try.prog 97 #[v, .int .i64 lo, .int .i64 hi] w fun r w' => r = .returned (.bool (allB lo hi ys)) ∧ w = w' := by
  obtain ⟨A, c, rfl, hA⟩ := hv
  have HA := hid hA
  clear hA
  go_enter Try.func97, Try.ntmps97
  go_wp2
  go_loop [11] (fun i => ∃ k : Nat, k ≤ ys.length ∧ i = .int .i64 k ∧ Hid (∀ j, j < k → (decide (lo ≤ ys.getD j 0) && decide (ys.getD j 0 ≤ hi)) = true)) (fun i => ys.length - (intOf i).toNat)
  case atStart => exact ⟨0, Nat.zero_le _, rfl, hid (fun j hj => absurd hj (Nat.not_lt_zero _))⟩
  case round =>
    obtain ⟨k, hk, rfl, Hk⟩ := hrel
    by_cases hlt : k < ys.length
    · obtain ⟨b, o, rfl, hb, hc⟩ := HA.out (by intro h; simp [h] at hlt)
      have hcell := hc k hlt
      clear hc
      obtain ⟨x, hx⟩ : ∃ x, ys.getD k 0 = x := ⟨_, rfl⟩
      rw [hx] at hcell
      have Hx := hid hx
      clear hx
      cases hq : (decide (lo ≤ x) && decide (x ≤ hi))
      · have HQ := hid hq
        have HN := hid (allB_not (lo := lo) (hi := hi) hlt (by rw [Hx.out]; exact hq))
        clear hq
        go_wp2_with (go_at_call 57; refine (l1In_any _ _ _ _).mono ?_; rw [HQ.out]; rintro e w' ⟨rfl, rfl⟩)
        go_ret
        exact ⟨ret_bool HN.out.symm, rfl⟩
      · have HQ := hid hq
        clear hq
        go_wp2_with (go_at_call 57; refine (l1In_any _ _ _ _).mono ?_; rw [HQ.out]; rintro e w' ⟨rfl, rfl⟩)
        go_round
        case rel => exact ⟨k + 1, by omega, by go_num, hid (fun j hj => by
          by_cases h : j = k
          · subst h; rw [Hx.out]; exact HQ.out
          · exact Hk.out j (by omega))⟩
        case measure => simp [intOf]; omega
    · obtain rfl : k = ys.length := by omega
      have HN := hid (allB_of (lo := lo) (hi := hi) Hk.out)
      go_wp2
      go_ret
      exact ⟨ret_bool HN.out.symm, rfl⟩
/-! ### the program's own -/
end Go.Proofs.Ytnlehkjfidpdlab
