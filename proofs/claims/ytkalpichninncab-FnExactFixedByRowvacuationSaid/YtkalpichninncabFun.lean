/- The contracts of the small functions that every law of this seat calls. -/
import Derived.Test.YtkalpichninncabRows
import Derived.Test.YtkalpichninncabSets
import Derived.Outline
namespace Go.Proofs.Ytkalpichninncab
open Go.RowKit Go.WideShapes Go.ChangeShapes

theorem hasElement_any (s e : Nat) (hs : s < 9223372036854775808) (he : e < 64) (w : World) : Calls Try.prog 50 #[.int .i64 s, .int .i64 e] w fun r w' => r = .returned (.bool (s.testBit e)) ∧ w = w' := by
  have hb := hid (bit_and s e hs)
  have hm := hid (Nat.min_eq_left (Nat.le_of_lt he))
  clear hs
  go_enter Try.func50, Try.ntmps50
  go_wp2
  go_ret
  exact ⟨ret_bool (by simpa [hm.out] using hb.out), rfl⟩
theorem poIn_any (s e : Nat) (he : e < 64) (w : World) : Calls Try.prog 73 #[.int .i64 s, .int .i64 e] w fun r w' => r = .returned (.bool (s.testBit e)) ∧ w = w' := by
  have hb := hid (bit_tmod s e)
  have hm := hid (Nat.min_eq_left (Nat.le_of_lt he))
  go_enter Try.func73, Try.ntmps73
  go_wp2
  go_ret
  exact ⟨ret_bool (by simpa [hm.out] using hb.out), rfl⟩
theorem wholeSet_any (n : Nat) (h : n ≤ 10) (w : World) : Calls Try.prog 65 #[.int .i64 n] w fun r w' => r = .returned (.int .i64 (2 ^ n - 1 : Nat)) ∧ w = w' := by
  have hp := two_pow_le n h
  go_enter Try.func65, Try.ntmps65
  go_wp2
  go_ret
  refine ⟨ret_int ?_, rfl⟩
  have e : (2 : Int) ^ n = ((2 ^ n : Nat) : Int) := by simp
  simp only [e]
  simp [wrap64]
  omega
theorem isSize_any (s : Int) (w : World) : Calls Try.prog 99 #[.int .i64 s] w fun r w' => r = .returned (.bool (decide (1 ≤ s) && decide (s ≤ 10))) ∧ w = w' := by
  go_enter Try.func99, Try.ntmps99
  go_wp2
  all_goals go_ret
  all_goals exact ⟨ret_bool (by simp <;> omega), rfl⟩
theorem l1In_any (n lo hi : Int) (w : World) : Calls Try.prog 77 #[.int .i64 n, .int .i64 lo, .int .i64 hi] w fun r w' => r = .returned (.bool (decide (lo ≤ n) && decide (n ≤ hi))) ∧ w = w' := by
  go_enter Try.func77, Try.ntmps77
  go_wp2
  all_goals go_ret
  all_goals exact ⟨ret_bool (by simp <;> omega), rfl⟩

theorem under_any (v : Value) (xs : List Int) (s : Nat) (w : World) (hv : Ints w v xs) (hl : xs.length ≤ 10) (hs : s < 1024) (hsm : Small xs s) :
    Calls Try.prog 66 #[.agg #[v], .int .i64 s] w fun r w' => r = .returned (.int .i64 (under xs s : Nat)) ∧ Below w.heap.size w w' := by
  obtain ⟨A, c, rfl, hA⟩ := hv
  have hlt := fun k hk => underN_lt xs s hsm k hk
  have HA := hid hA
  have Hlt := hid hlt
  have Hs := hid hsm
  clear hA hlt hsm
  go_enter Try.func66, Try.ntmps66
  go_wp2
  go_loop [5, 11] (fun f i => ∃ k : Nat, k ≤ xs.length ∧ i = .int .i64 k ∧ f = .int .i64 (underN xs s k : Nat)) (fun _ i => xs.length - (intOf i).toNat)
  case atStart => exact ⟨0, Nat.zero_le _, rfl, rfl⟩
  case round =>
    obtain ⟨k, hk, rfl, rfl⟩ := hrel
    by_cases hlt : k < xs.length
    · obtain ⟨b, o, rfl, hb, hc⟩ := HA.out (by intro h; simp [h] at hlt)
      have hcell := hc k hlt
      clear hc
      cases hbit : s.testBit k
      · have Hbit := hid hbit
        clear hbit
        go_wp2_with (go_at_call 50; refine (hasElement_any s k (by omega) (by omega) _).mono ?_; rw [Hbit.out]; rintro e w' ⟨rfl, rfl⟩)
        go_round
        case rel => exact ⟨k + 1, by omega, by go_num, by simp [underN, Hbit.out]⟩
        case measure => simp [intOf]; omega
      · have h2 := Hs.out k hlt hbit
        have h3 := Hlt.out k hk
        obtain ⟨z, hz⟩ := Int.eq_ofNat_of_zero_le h2.1
        rw [hz] at hcell
        have hor := i64_or_nat (underN xs s k) z (by omega) (by omega)
        have Hz := hid hz
        have Hbit := hid hbit
        clear hz hbit h2 h3
        go_wp2_with (go_at_call 50; refine (hasElement_any s k (by omega) (by omega) _).mono ?_; rw [Hbit.out]; rintro e w' ⟨rfl, rfl⟩)
        go_round
        case rel => exact ⟨k + 1, by omega, by go_num, by rw [underN, if_pos Hbit.out, Hz.out]; rfl⟩
        case measure => simp [intOf]; omega
    · obtain rfl : k = xs.length := by omega
      go_wp2
      go_ret
      exact ⟨rfl, (Below.refl _ _).alloc (Nat.le_refl _) _⟩

theorem top_any (v : Value) (xs : List Int) (s : Nat) (w : World) (hv : Ints w v xs) (hl : xs.length ≤ 10) (hs : s < 1024) (hsm : Small xs s) :
    Calls Try.prog 102 #[.agg #[v], .int .i64 s] w fun r w' => r = .returned (.int .i64 (top xs s : Nat)) ∧ Below w.heap.size w w' := by
  have hu := underN_lt xs s hsm xs.length (Nat.le_refl _)
  have hb := i64_andNot_nat s (under xs s) (by omega) (by unfold under; omega)
  have HV := hid hv
  have HS := hid hsm
  clear hv hsm hu
  go_enter Try.func102, Try.ntmps102
  go_wp2_with (go_at_call 66; refine (under_any v xs s _ (HV.out.alloc _) hl hs HS.out).mono ?_; rintro e w1 ⟨rfl, hb1⟩)
  go_ret
  exact ⟨ret_int rfl, ((Below.refl _ _).alloc (Nat.le_refl _) _).trans (hb1.mono (by simp))⟩
theorem holdsIdeal_any (v : Value) (xs : List Int) (s : Nat) (w : World) (hv : Ints w v xs) (hl : xs.length ≤ 10) (hs : s < 1024) (hsm : Small xs s) :
    Calls Try.prog 38 #[.agg #[v], .int .i64 s] w fun r w' => r = .returned (.bool (holdsIdeal xs s)) ∧ Below w.heap.size w w' := by
  have hu := underN_lt xs s hsm xs.length (Nat.le_refl _)
  have hb := i64_andNot_nat (under xs s) s (by unfold under; omega) (by omega)
  have HV := hid hv
  have HS := hid hsm
  clear hv hsm hu
  go_enter Try.func38, Try.ntmps38
  go_wp2_with (go_at_call 66; refine (under_any v xs s _ (HV.out.alloc _) hl hs HS.out).mono ?_; rintro e w1 ⟨rfl, hb1⟩)
  go_ret
  exact ⟨ret_bool (by rw [holdsIdeal, nat_beq0]), ((Below.refl _ _).alloc (Nat.le_refl _) _).trans (hb1.mono (by simp))⟩
end Go.Proofs.Ytkalpichninncab
