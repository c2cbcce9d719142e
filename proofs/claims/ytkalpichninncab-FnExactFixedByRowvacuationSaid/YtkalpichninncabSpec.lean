/- The model's own functions over posets and sets. -/
import Derived.Test.YtkalpichninncabPoset
namespace Go.Proofs.Ytkalpichninncab
open Go.RowKit Go.WideShapes Go.ChangeShapes

theorem range_true {n : Nat} (h : 1 ≤ n ∧ n ≤ 10) : (decide ((1 : Int) ≤ (n : Int)) && decide ((n : Int) ≤ 10)) = true := by simp; omega
theorem range_false {n : Nat} (h : ¬ (1 ≤ n ∧ n ≤ 10)) : (decide ((1 : Int) ≤ (n : Int)) && decide ((n : Int) ≤ 10)) = false := by rw [Bool.eq_false_iff]; simp; omega

/-- the rows below i are right, and row i's number has all that the first j of its elements have below them -/
theorem closed_of {xs : List Int} {i z : Nat} (hx : xs.getD i 0 = (z : Int)) (hz : z < 2 ^ i) (h : ∀ j, j < i → z.testBit j = true → sub (xs.getD j 0).toNat z = 0) : okAt xs i = true := by
  simp only [okAt, hx, Int.toNat_natCast, Bool.and_eq_true, decide_eq_true_eq]
  refine ⟨⟨by omega, by omega⟩, (holdsIdeal_iff xs z).2 fun e _ hb => h e (testBit_lt hz hb) hb⟩
theorem not_closed {xs : List Int} {i j z : Nat} (hx : xs.getD i 0 = (z : Int)) (hj : j < xs.length) (hb : z.testBit j = true) (h : sub (xs.getD j 0).toNat z ≠ 0) : okAt xs i = false := by
  cases hc : okAt xs i
  · rfl
  · simp only [okAt, hx, Int.toNat_natCast, Bool.and_eq_true, decide_eq_true_eq] at hc
    exact absurd ((holdsIdeal_iff xs z).1 hc.2 j hj hb) h

theorem poGood_any (v : Value) (xs : List Int) (w : World) (hv : Ints w v xs) (hl : xs.length ≤ 1048576) :
    Calls Try.prog 53 #[.agg #[v]] w fun r w' => r = .returned (.bool (good xs)) ∧ Below w.heap.size w w' := by
  obtain ⟨A, c, rfl, hA⟩ := hv
  have HA := hid hA
  clear hA
  by_cases hn : 1 ≤ xs.length ∧ xs.length ≤ 10
  · have Hd := hid (range_true hn)
    obtain ⟨hn1, hn2⟩ := hn
    go_enter Try.func53, Try.ntmps53
    go_wp2_with (go_at_call 77; refine (l1In_any _ _ _ _).mono ?_; rw [Hd.out]; rintro e w' ⟨rfl, rfl⟩)
    go_loop [16] (fun i => ∃ k : Nat, k ≤ xs.length ∧ i = .int .i64 k ∧ Hid (∀ j, j < k → okAt xs j = true)) (fun i => xs.length - (intOf i).toNat)
    case atStart => exact ⟨0, Nat.zero_le _, rfl, hid (fun j hj => absurd hj (Nat.not_lt_zero _))⟩
    case round =>
      obtain ⟨k, hk, rfl, Hok⟩ := hrel
      by_cases hlt : k < xs.length
      · obtain ⟨b, o, rfl, hbl, hc⟩ := HA.out (by intro h; simp [h] at hlt)
        have hcell := hc k hlt
        obtain ⟨x, hx⟩ : ∃ x, xs.getD k 0 = x := ⟨_, rfl⟩
        rw [hx] at hcell
        have hp := two_pow_le k (by omega)
        have Wm := hid (wrap_mask k (by omega))
        by_cases hr : 0 ≤ x ∧ x ≤ (2 ^ k - 1 : Nat)
        · obtain ⟨z, rfl⟩ := Int.eq_ofNat_of_zero_le hr.1
          have Hr := hid (show (decide ((0 : Int) ≤ (z : Int)) && decide ((z : Int) ≤ ((2 ^ k - 1 : Nat) : Int))) = true by simp only [Bool.and_eq_true, decide_eq_true_eq]; exact hr)
          have hz : z < 2 ^ k := by omega
          have Hz := hid hz
          have Hx := hid hx
          have Hc := hid hc
          have hz10 : z < 1024 := by omega
          have hk10 : k < 10 := by omega
          clear hr hx hz hp hc
          go_wp2_with (go_at_call 77; rw [Wm.out]; refine (l1In_any _ _ _ _).mono ?_; rw [Hr.out]; rintro e w' ⟨rfl, rfl⟩)
          go_loop [6] (fun j => ∃ t : Nat, t ≤ k ∧ j = .int .i64 t ∧ Hid (∀ e, e < t → z.testBit e = true → sub (xs.getD e 0).toNat z = 0)) (fun j => k - (intOf j).toNat)
          case atStart => exact ⟨0, Nat.zero_le _, rfl, hid (fun j hj => absurd hj (Nat.not_lt_zero _))⟩
          case round =>
            obtain ⟨t, ht, rfl, Ht⟩ := hrel
            by_cases htk : t < k
            · have hbt := bit_tmod z t
              cases hbit : z.testBit t
              · have Hbit := hid hbit
                rw [hbit] at hbt
                clear hbit
                go_wp2
                go_round
                case rel => exact ⟨t + 1, by omega, by go_num, hid (fun e he hb => by
                  by_cases h : e = t
                  · subst h; rw [Hbit.out] at hb; cases hb
                  · exact Ht.out e (by omega) hb)⟩
                case measure => simp [intOf]; omega
              · obtain ⟨y, hy⟩ : ∃ y, xs.getD t 0 = y := ⟨_, rfl⟩
                have hsm := okAt_small (Hok.out t htk) (by omega)
                rw [hy] at hsm
                obtain ⟨q, rfl⟩ := Int.eq_ofNat_of_zero_le hsm.1
                have hct := Hc.out t (by omega)
                rw [hy] at hct
                have han := i64_andNot_nat q z (by omega) (by omega)
                have Hy := hid hy
                have Hbit := hid hbit
                rw [hbit] at hbt
                clear hbit hy hsm
                by_cases hs : sub q z = 0
                · have hs' : (((sub q z : Nat) : Int) != 0) = false := by rw [hs]; rfl
                  have Hs := hid hs
                  clear hs
                  go_wp2
                  go_round
                  case rel => exact ⟨t + 1, by omega, by go_num, hid (fun e he hb => by
                    by_cases h : e = t
                    · subst h; rw [Hy.out]; exact Hs.out
                    · exact Ht.out e (by omega) hb)⟩
                  case measure => simp [intOf]; omega
                · have hs' : (((sub q z : Nat) : Int) != 0) = true := by rw [bne_iff_ne]; omega
                  have Hg := hid (not_good hlt (not_closed Hx.out (by omega) Hbit.out (by rw [Hy.out]; exact hs)))
                  clear hs
                  go_wp2
                  go_ret
                  exact ⟨ret_bool Hg.out.symm, (Below.refl _ _).alloc (Nat.le_refl _) _⟩
            · obtain rfl : t = k := by omega
              have Hk := hid (closed_of Hx.out Hz.out Ht.out)
              go_wp2
              go_round
              case rel => exact ⟨t + 1, by omega, by go_num, hid (fun j hj => by
                by_cases h : j = t
                · subst h; exact Hk.out
                · exact Hok.out j (by omega))⟩
              case measure => simp [intOf]; omega
        · have Hr := hid (show (decide ((0 : Int) ≤ x) && decide (x ≤ ((2 ^ k - 1 : Nat) : Int))) = false by
            rw [Bool.eq_false_iff]; simp only [ne_eq, Bool.and_eq_true, decide_eq_true_eq]; exact hr)
          have Hg := hid (not_good hlt (okAt_not (by rw [hx]; exact hr)))
          clear hx hc hr hp
          go_wp2_with (go_at_call 77; rw [Wm.out]; refine (l1In_any _ _ _ _).mono ?_; rw [Hr.out]; rintro e w' ⟨rfl, rfl⟩)
          go_ret
          exact ⟨ret_bool Hg.out.symm, (Below.refl _ _).alloc (Nat.le_refl _) _⟩
      · obtain rfl : k = xs.length := by omega
        have Hg := hid (good_of hn1 hn2 Hok.out)
        go_wp2
        go_ret
        exact ⟨ret_bool Hg.out.symm, (Below.refl _ _).alloc (Nat.le_refl _) _⟩
  · have Hd := hid (range_false hn)
    have Hg := hid (not_good_length hn)
    clear hn
    go_enter Try.func53, Try.ntmps53
    go_wp2_with (go_at_call 77; refine (l1In_any _ _ _ _).mono ?_; rw [Hd.out]; rintro e w' ⟨rfl, rfl⟩)
    go_ret
    exact ⟨ret_bool Hg.out.symm, (Below.refl _ _).alloc (Nat.le_refl _) _⟩
end Go.Proofs.Ytkalpichninncab
