/- Ideals, tops and bottoms of sets: the model's functions, and what both ask of a set. -/
import Derived.Test.YtkalpichninncabSpec
namespace Go.Proofs.Ytkalpichninncab
open Go.RowKit Go.WideShapes Go.ChangeShapes

theorem sub_sub_or (s a z : Nat) : sub (sub s a) z = sub s (a ||| z) := by
  apply Nat.eq_of_testBit_eq
  intro i
  simp only [sub_testBit, Nat.testBit_or]
  cases s.testBit i <;> cases a.testBit i <;> cases z.testBit i <;> rfl
theorem sub_zero_ (s : Nat) : sub s 0 = s := by simp [sub]
theorem bottomN_lt (xs : List Int) (s : Nat) (k : Nat) (hk : k ≤ 10) : bottomN xs s k < 1024 := by
  induction k with
  | zero => simp [bottomN]
  | succ k ih =>
    have h1 := ih (by omega)
    unfold bottomN
    split
    · exact Nat.or_lt_two_pow (n := 10) h1 (Nat.pow_lt_pow_right (by decide) (by omega))
    · exact h1

theorem poDown_any (v : Value) (xs : List Int) (s : Nat) (w : World) (hv : Ints w v xs) (hl : xs.length ≤ 10) (hs : s < 1024) (hsm : Small xs s) :
    Calls Try.prog 113 #[.agg #[v], .int .i64 s] w fun r w' => r = .returned (.int .i64 (down xs s : Nat)) ∧ Below w.heap.size w w' := by
  obtain ⟨A, c, rfl, hA⟩ := hv
  have HA := hid hA
  have Hlt := hid (fun k hk => underN_lt xs s hsm k hk)
  have Hs := hid hsm
  clear hA hsm
  go_enter Try.func113, Try.ntmps113
  go_wp2
  go_loop [5, 12] (fun f i => ∃ k : Nat, k ≤ xs.length ∧ i = .int .i64 k ∧ f = .int .i64 (s ||| underN xs s k : Nat)) (fun _ i => xs.length - (intOf i).toNat)
  case atStart => exact ⟨0, Nat.zero_le _, rfl, by simp [underN]⟩
  case round =>
    obtain ⟨k, hk, rfl, rfl⟩ := hrel
    by_cases hlt : k < xs.length
    · obtain ⟨b, o, rfl, hb, hc⟩ := HA.out (by intro h; simp [h] at hlt)
      have hcell := hc k hlt
      clear hc
      obtain ⟨x, hx⟩ : ∃ x, xs.getD k 0 = x := ⟨_, rfl⟩
      rw [hx] at hcell
      cases hbit : s.testBit k
      · have Hbit := hid hbit
        clear hbit hx
        go_wp2_with (go_at_call 73; refine (poIn_any s k (by omega) _).mono ?_; rw [Hbit.out]; rintro e w' ⟨rfl, rfl⟩)
        go_round
        case rel => exact ⟨k + 1, by omega, by go_num, by rw [underN, if_neg (by rw [Hbit.out]; decide)]⟩
        case measure => simp [intOf]; omega
      · have h2 := Hs.out k hlt hbit
        have h3 := Hlt.out k hk
        rw [hx] at h2
        obtain ⟨z, rfl⟩ := Int.eq_ofNat_of_zero_le h2.1
        have h4 : s ||| underN xs s k < 1024 := Nat.or_lt_two_pow (n := 10) hs h3
        have hor := i64_or_nat (s ||| underN xs s k) z (by omega) (by omega)
        have Hz := hid hx
        have Hbit := hid hbit
        clear hx hbit h2 h3 h4
        go_wp2_with (go_at_call 73; refine (poIn_any s k (by omega) _).mono ?_; rw [Hbit.out]; rintro e w' ⟨rfl, rfl⟩)
        go_round
        case rel => exact ⟨k + 1, by omega, by go_num, by rw [underN, if_pos Hbit.out, Hz.out, Int.toNat_natCast, Nat.or_assoc]⟩
        case measure => simp [intOf]; omega
    · obtain rfl : k = xs.length := by omega
      go_wp2
      go_ret
      exact ⟨rfl, (Below.refl _ _).alloc (Nat.le_refl _) _⟩
theorem poTop_any (v : Value) (xs : List Int) (s : Nat) (w : World) (hv : Ints w v xs) (hl : xs.length ≤ 10) (hs : s < 1024) (hsm : Small xs s) :
    Calls Try.prog 75 #[.agg #[v], .int .i64 s] w fun r w' => r = .returned (.int .i64 (top xs s : Nat)) ∧ Below w.heap.size w w' := by
  obtain ⟨A, c, rfl, hA⟩ := hv
  have HA := hid hA
  have Hs := hid hsm
  clear hA hsm
  go_enter Try.func75, Try.ntmps75
  go_wp2
  go_loop [5, 12] (fun f i => ∃ k : Nat, k ≤ xs.length ∧ i = .int .i64 k ∧ f = .int .i64 (sub s (underN xs s k) : Nat)) (fun _ i => xs.length - (intOf i).toNat)
  case atStart => exact ⟨0, Nat.zero_le _, rfl, by simp [underN, sub_zero_]⟩
  case round =>
    obtain ⟨k, hk, rfl, rfl⟩ := hrel
    by_cases hlt : k < xs.length
    · obtain ⟨b, o, rfl, hb, hc⟩ := HA.out (by intro h; simp [h] at hlt)
      have hcell := hc k hlt
      clear hc
      obtain ⟨x, hx⟩ : ∃ x, xs.getD k 0 = x := ⟨_, rfl⟩
      rw [hx] at hcell
      cases hbit : s.testBit k
      · have Hbit := hid hbit
        clear hbit hx
        go_wp2_with (go_at_call 73; refine (poIn_any s k (by omega) _).mono ?_; rw [Hbit.out]; rintro e w' ⟨rfl, rfl⟩)
        go_round
        case rel => exact ⟨k + 1, by omega, by go_num, by rw [underN, if_neg (by rw [Hbit.out]; decide)]⟩
        case measure => simp [intOf]; omega
      · have h2 := Hs.out k hlt hbit
        rw [hx] at h2
        obtain ⟨z, rfl⟩ := Int.eq_ofNat_of_zero_le h2.1
        have h4 : sub s (underN xs s k) < 1024 := Nat.lt_of_le_of_lt (sub_le _ _) hs
        have hor := i64_andNot_nat (sub s (underN xs s k)) z (by omega) (by omega)
        have Hz := hid hx
        have Hbit := hid hbit
        clear hx hbit h2 h4
        go_wp2_with (go_at_call 73; refine (poIn_any s k (by omega) _).mono ?_; rw [Hbit.out]; rintro e w' ⟨rfl, rfl⟩)
        go_round
        case rel => exact ⟨k + 1, by omega, by go_num, by rw [underN, if_pos Hbit.out, Hz.out, Int.toNat_natCast, sub_sub_or]⟩
        case measure => simp [intOf]; omega
    · obtain rfl : k = xs.length := by omega
      go_wp2
      go_ret
      exact ⟨rfl, (Below.refl _ _).alloc (Nat.le_refl _) _⟩
theorem poIdeal_any (v : Value) (xs : List Int) (s : Nat) (w : World) (hv : Ints w v xs) (hl : xs.length ≤ 10) (hs : s < 1024) (hsm : Small xs s) :
    Calls Try.prog 63 #[.agg #[v], .int .i64 s] w fun r w' => r = .returned (.bool (holdsIdeal xs s)) ∧ Below w.heap.size w w' := by
  obtain ⟨A, c, rfl, hA⟩ := hv
  have HA := hid hA
  have Hs := hid hsm
  clear hA hsm
  go_enter Try.func63, Try.ntmps63
  go_wp2
  go_loop [10] (fun i => ∃ k : Nat, k ≤ xs.length ∧ i = .int .i64 k ∧ Hid (∀ e, e < k → s.testBit e = true → sub (xs.getD e 0).toNat s = 0)) (fun i => xs.length - (intOf i).toNat)
  case atStart => exact ⟨0, Nat.zero_le _, rfl, hid (fun j hj => absurd hj (Nat.not_lt_zero _))⟩
  case round =>
    obtain ⟨k, hk, rfl, Hk⟩ := hrel
    by_cases hlt : k < xs.length
    · obtain ⟨b, o, rfl, hb, hc⟩ := HA.out (by intro h; simp [h] at hlt)
      have hcell := hc k hlt
      clear hc
      obtain ⟨x, hx⟩ : ∃ x, xs.getD k 0 = x := ⟨_, rfl⟩
      rw [hx] at hcell
      cases hbit : s.testBit k
      · have Hbit := hid hbit
        clear hbit hx
        go_wp2_with (go_at_call 73; refine (poIn_any s k (by omega) _).mono ?_; rw [Hbit.out]; rintro e w' ⟨rfl, rfl⟩)
        go_round
        case rel => exact ⟨k + 1, by omega, by go_num, hid (fun e he hb => by
          by_cases h : e = k
          · subst h; rw [Hbit.out] at hb; cases hb
          · exact Hk.out e (by omega) hb)⟩
        case measure => simp [intOf]; omega
      · have h2 := Hs.out k hlt hbit
        rw [hx] at h2
        obtain ⟨z, rfl⟩ := Int.eq_ofNat_of_zero_le h2.1
        have hor := i64_andNot_nat z s (by omega) (by omega)
        have Hz := hid hx
        have Hbit := hid hbit
        clear hx hbit h2
        by_cases h0 : sub z s = 0
        · have hs' : (((sub z s : Nat) : Int) != 0) = false := by rw [h0]; rfl
          have H0 := hid h0
          clear h0
          go_wp2_with (go_at_call 73; refine (poIn_any s k (by omega) _).mono ?_; rw [Hbit.out]; rintro e w' ⟨rfl, rfl⟩)
          go_round
          case rel => exact ⟨k + 1, by omega, by go_num, hid (fun e he hb => by
            by_cases h : e = k
            · subst h; rw [Hz.out]; exact H0.out
            · exact Hk.out e (by omega) hb)⟩
          case measure => simp [intOf]; omega
        · have hs' : (((sub z s : Nat) : Int) != 0) = true := by rw [bne_iff_ne]; omega
          have Hg : Hid (holdsIdeal xs s = false) := hid (by
            cases hh : holdsIdeal xs s
            · rfl
            · exact absurd ((holdsIdeal_iff xs s).1 hh k hlt Hbit.out) (by rw [Hz.out]; exact h0))
          clear h0
          go_wp2_with (go_at_call 73; refine (poIn_any s k (by omega) _).mono ?_; rw [Hbit.out]; rintro e w' ⟨rfl, rfl⟩)
          go_ret
          exact ⟨ret_bool Hg.out.symm, (Below.refl _ _).alloc (Nat.le_refl _) _⟩
    · obtain rfl : k = xs.length := by omega
      have Hg := hid ((holdsIdeal_iff xs s).2 Hk.out)
      go_wp2
      go_ret
      exact ⟨ret_bool Hg.out.symm, (Below.refl _ _).alloc (Nat.le_refl _) _⟩
theorem poBottom_any (v : Value) (xs : List Int) (s : Nat) (w : World) (hv : Ints w v xs) (hl : xs.length ≤ 10) (hs : s < 1024) (hsm : Small xs s) :
    Calls Try.prog 114 #[.agg #[v], .int .i64 s] w fun r w' => r = .returned (.int .i64 (bottom xs s : Nat)) ∧ Below w.heap.size w w' := by
  obtain ⟨A, c, rfl, hA⟩ := hv
  have HA := hid hA
  have Hs := hid hsm
  clear hA hsm
  go_enter Try.func114, Try.ntmps114
  go_wp2
  go_loop [5, 11] (fun f i => ∃ k : Nat, k ≤ xs.length ∧ i = .int .i64 k ∧ f = .int .i64 (bottomN xs s k : Nat)) (fun _ i => xs.length - (intOf i).toNat)
  case atStart => exact ⟨0, Nat.zero_le _, rfl, rfl⟩
  case round =>
    obtain ⟨k, hk, rfl, rfl⟩ := hrel
    by_cases hlt : k < xs.length
    · obtain ⟨b, o, rfl, hb, hc⟩ := HA.out (by intro h; simp [h] at hlt)
      have hcell := hc k hlt
      clear hc
      obtain ⟨x, hx⟩ : ∃ x, xs.getD k 0 = x := ⟨_, rfl⟩
      rw [hx] at hcell
      cases hbit : s.testBit k
      · have Hbit := hid hbit
        clear hbit hx
        go_wp2_with (go_at_call 73; refine (poIn_any s k (by omega) _).mono ?_; rw [Hbit.out]; rintro e w' ⟨rfl, rfl⟩)
        go_round
        case rel => exact ⟨k + 1, by omega, by go_num, by rw [bottomN, Hbit.out]; rfl⟩
        case measure => simp [intOf]; omega
      · have h2 := Hs.out k hlt hbit
        rw [hx] at h2
        obtain ⟨z, rfl⟩ := Int.eq_ofNat_of_zero_le h2.1
        have han := i64_and_nat z s (by omega) (by omega)
        have Hz := hid hx
        have Hbit := hid hbit
        have hp := two_pow_le k (by omega)
        have h3 := bottomN_lt xs s k (by omega)
        have wp := wrap_pow' k (by omega)
        have hor := or_pow (bottomN xs s k) k h3 (by omega)
        clear hx hbit h2 hp h3
        by_cases h0 : z &&& s = 0
        · have hs' : (((z &&& s : Nat) : Int) == 0) = true := by rw [h0]; rfl
          have H0 := hid h0
          clear h0
          go_wp2_with (go_at_call 73; refine (poIn_any s k (by omega) _).mono ?_; rw [Hbit.out]; rintro e w' ⟨rfl, rfl⟩)
          go_round
          case rel => exact ⟨k + 1, by omega, by go_num, by rw [bottomN, Hbit.out, Hz.out, Int.toNat_natCast, H0.out]; rfl⟩
          case measure => simp [intOf]; omega
        · have hs' : (((z &&& s : Nat) : Int) == 0) = false := by rw [beq_eq_false_iff_ne]; omega
          have H0 : Hid ((z &&& s == 0) = false) := hid (by rw [beq_eq_false_iff_ne]; exact h0)
          clear h0
          go_wp2_with (go_at_call 73; refine (poIn_any s k (by omega) _).mono ?_; rw [Hbit.out]; rintro e w' ⟨rfl, rfl⟩)
          go_round
          case rel => exact ⟨k + 1, by omega, by go_num, by rw [bottomN, Hbit.out, Hz.out, Int.toNat_natCast, H0.out]; rfl⟩
          case measure => simp [intOf]; omega
    · obtain rfl : k = xs.length := by omega
      go_wp2
      go_ret
      exact ⟨rfl, (Below.refl _ _).alloc (Nat.le_refl _) _⟩
theorem poSet_any (v : Value) (xs : List Int) (s : Int) (w : World) (hv : Ints w v xs) (hl : xs.length ≤ 10) :
    Calls Try.prog 72 #[.agg #[v], .int .i64 s] w fun r w' => r = .returned (.bool (decide (0 ≤ s) && decide (s ≤ (2 ^ xs.length - 1 : Nat)))) ∧ Below w.heap.size w w' := by
  obtain ⟨A, c, rfl, hA⟩ := hv
  clear hA
  have Wm := hid (wrap_mask xs.length hl)
  obtain ⟨R, hR⟩ : ∃ R, (decide (0 ≤ s) && decide (s ≤ ((2 ^ xs.length - 1 : Nat) : Int))) = R := ⟨_, rfl⟩
  rw [hR]
  have HR := hid hR
  clear hR
  go_enter Try.func72, Try.ntmps72
  go_wp2_with (go_at_call 77; rw [Wm.out]; refine (l1In_any _ _ _ _).mono ?_; rw [HR.out]; rintro e w' ⟨rfl, rfl⟩)
  go_ret
  exact ⟨rfl, (Below.refl _ _).alloc (Nat.le_refl _) _⟩
theorem hasSet_any (v : Value) (xs : List Int) (s : Int) (w : World) (hv : Ints w v xs) (hl : xs.length ≤ 1048576) :
    Calls Try.prog 74 #[.agg #[v], .int .i64 s] w fun r w' => r = .returned (.bool (okSet xs s)) ∧ Below w.heap.size w w' := by
  have HV := hid hv
  obtain ⟨A, c, rfl, hA⟩ := hv
  clear hA
  cases hg : good xs
  · have H1 : Hid (okSet xs s = false) := hid (by simp [okSet, hg])
    have Hg := hid hg
    clear hg
    go_enter Try.func74, Try.ntmps74
    go_wp2_with (go_at_call 79; refine (implIsPoset_any _ xs _ (HV.out.alloc _) hl).mono ?_; rw [Hg.out]; rintro e w1 ⟨rfl, hb1⟩)
    go_ret
    exact ⟨ret_bool H1.out.symm, ((Below.refl _ _).alloc (Nat.le_refl _) _).trans (hb1.mono (by simp))⟩
  · have hl10 := (good_length hg).2
    by_cases h0 : 0 ≤ s
    · have H1 : Hid (okSet xs s = decide (s ≤ (2 ^ xs.length - 1 : Nat))) := hid (by simp only [okSet, hg, decide_eq_true h0, Bool.true_and])
      have Hg := hid hg
      clear hg
      go_enter Try.func74, Try.ntmps74
      go_wp2_with fail
      refine (implIsPoset_any _ xs _ (HV.out.alloc _) hl).mono ?_
      rw [Hg.out]
      rintro e w1 ⟨rfl, hb1⟩
      obtain ⟨hc, hf⟩ := bcell hb1
      have HB := hid hb1
      clear hb1
      go_wp2_with (go_at_call 65; refine (wholeSet_any xs.length hl10 _).mono ?_; rintro e w' ⟨rfl, rfl⟩)
      go_ret
      exact ⟨ret_bool H1.out.symm, ((Below.refl _ _).alloc (Nat.le_refl _) _).trans (HB.out.mono (by simp))⟩
    · have H1 : Hid (okSet xs s = false) := hid (by simp only [okSet, hg, decide_eq_false h0, Bool.false_and, Bool.and_false])
      have Hg := hid hg
      clear hg
      go_enter Try.func74, Try.ntmps74
      go_wp2_with (go_at_call 79; refine (implIsPoset_any _ xs _ (HV.out.alloc _) hl).mono ?_; rw [Hg.out]; rintro e w1 ⟨rfl, hb1⟩)
      go_ret
      exact ⟨ret_bool H1.out.symm, ((Below.refl _ _).alloc (Nat.le_refl _) _).trans (hb1.mono (by simp))⟩
end Go.Proofs.Ytkalpichninncab
