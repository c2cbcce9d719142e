/- Sides of a rectangle: the model's test. -/
import Derived.Test.YtnlehkjfidpdlabRect
namespace Go.Proofs.Ytnlehkjfidpdlab
open Go.RowKit Go.WideShapes Go.ChangeShapes
set_option linter.unusedVariables false

theorem shSides_any (a b : Int) (w : World) :
    Calls Try.prog 25 #[.int .i64 a, .int .i64 b] w fun r w' => r = .returned (.bool (sides a b)) ∧ w = w' := by
  cases ha : (decide (1 ≤ a) && decide (a ≤ 10))
  · have Ha := hid ha
    have H : Hid (sides a b = false) := hid (by simp only [sides, ha, Bool.false_and])
    clear ha
    go_enter Try.func25, Try.ntmps25
    go_wp2_with (go_at_call 57; refine (l1In_any _ _ _ _).mono ?_; rw [Ha.out]; rintro e w' ⟨rfl, rfl⟩)
    go_ret
    exact ⟨ret_bool H.out.symm, rfl⟩
  · cases hb : (decide (1 ≤ b) && decide (b ≤ 10))
    · have Ha := hid ha
      have Hb := hid hb
      have H : Hid (sides a b = false) := hid (by simp only [sides, ha, hb, Bool.false_and, Bool.and_false])
      clear ha hb
      go_enter Try.func25, Try.ntmps25
      go_wp2_with fail
      refine (l1In_any _ _ _ _).mono ?_
      rw [Ha.out]
      rintro e w' ⟨rfl, rfl⟩
      go_wp2_with fail
      refine (l1In_any _ _ _ _).mono ?_
      rw [Hb.out]
      rintro e w' ⟨rfl, rfl⟩
      go_wp2
      go_ret
      exact ⟨ret_bool H.out.symm, rfl⟩
    · have Ha := hid ha
      have Hb := hid hb
      have H : Hid (sides a b = decide (a * b ≤ 10)) := hid (by simp only [sides, ha, hb, Bool.true_and])
      simp only [Bool.and_eq_true, decide_eq_true_eq] at ha hb
      have hm : 0 ≤ a * b ∧ a * b ≤ 100 := by
        obtain ⟨x, rfl⟩ := Int.eq_ofNat_of_zero_le (by omega : 0 ≤ a)
        obtain ⟨y, rfl⟩ := Int.eq_ofNat_of_zero_le (by omega : 0 ≤ b)
        have : x * y ≤ 10 * 10 := Nat.mul_le_mul (by omega) (by omega)
        rw [← Int.natCast_mul]
        omega
      obtain ⟨hm1, hm2⟩ := hm
      obtain ⟨q, hq⟩ : ∃ q, a * b = q := ⟨_, rfl⟩
      rw [hq] at hm1 hm2 H
      clear ha hb
      go_enter Try.func25, Try.ntmps25
      go_wp2_with fail
      refine (l1In_any _ _ _ _).mono ?_
      rw [Ha.out]
      rintro e w' ⟨rfl, rfl⟩
      go_wp2_with fail
      refine (l1In_any _ _ _ _).mono ?_
      rw [Hb.out]
      rintro e w' ⟨rfl, rfl⟩
      go_wp2
      go_ret
      exact ⟨ret_bool H.out.symm, rfl⟩
end Go.Proofs.Ytnlehkjfidpdlab
