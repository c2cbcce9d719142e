/- The factorial. -/
import Derived.Test.YteaeeinfjhhhoabFac
namespace Go.Proofs.Yteaeeinfjhhhoab
open Go.RowKit Go.WideShapes Go.ChangeShapes
set_option linter.unusedVariables false

set_option maxHeartbeats 800000 in
theorem factorial_any (n : Nat) (w : World) (h1 : 1 ≤ n) (h2 : n ≤ 10) :
    Calls Try.prog 49 #[.int .i64 (n : Int)] w fun r w' => r = .returned (.int .i64 (facN n : Nat)) ∧ w = w' := by
  go_enter Try.func49, Try.ntmps49
  go_wp2
  go_loopw [3, 4] (fun p i wr => ∃ k : Nat, 1 ≤ k ∧ k ≤ n ∧ p = .int .i64 (facN k : Nat) ∧ i = .int .i64 ((k : Int) + 1) ∧ w = wr) (fun _ i _ => n + 1 - (intOf i).toNat)
  case atStart => exact ⟨1, Nat.le_refl _, h1, rfl, rfl, rfl⟩
  case round =>
    obtain ⟨k, hk1, hk2, rfl, rfl, rfl⟩ := hrel
    have hf := facN_le (k := k) (by omega)
    have hm := facN_succ k
    by_cases hlt : k < n
    · have hf2 := facN_le (k := k + 1) (by omega)
      have HNx : Hid (((facN (k + 1) : Nat) : Int) = ((facN (k + 1) : Nat) : Int)) := hid rfl
      obtain ⟨q, hq⟩ : ∃ q, facN (k + 1) = q := ⟨_, rfl⟩
      have HQ := hid hq
      obtain ⟨p, hp⟩ : ∃ p, facN k = p := ⟨_, rfl⟩
      rw [hq] at hm hf2
      rw [hp] at hm hf
      rw [hp]
      clear hp hq HNx
      go_wp2
      go_roundw
      case rel => exact ⟨k + 1, by omega, by omega, by rw [HQ.out]; first | rw [hm] | (congr 1; omega) | skip, by go_num, by first | rfl | trivial⟩
      case measure => simp [intOf]; omega
    · have HK := hid (show k = n by omega)
      have hge : ¬ ((k : Int) + 1 ≤ (n : Int)) := by omega
      clear hlt hm
      go_wp2
      go_ret
      exact ⟨by rw [HK.out]; rfl, rfl⟩
end Go.Proofs.Yteaeeinfjhhhoab
