/- Rowmotion and its way back: the model's and the program's contracts. -/
import Derived.Test.YtkcjppbplllaiaaTg2
import Derived.Test.YtkcjppbplllaiaaLaw
import Derived.Test.YtkcjppbplllaiaaApi
namespace Go.Proofs.Ytkcjppbplllaiaa
open Go.RowKit Go.WideShapes Go.ChangeShapes
set_option linter.unusedVariables false

theorem rowStep_any (v : Value) (xs : List Int) (s : Nat) (w : World) (hv : Ints w v xs) (hg : good xs = true) (hs : s < 2 ^ xs.length) :
    Calls Try.prog 112 #[.agg #[], .agg #[v], .int .i64 s] w fun r w' => r = .returned (.int .i64 (rowmo xs s : Nat)) ∧ Below w.heap.size w w' := by
  have hl10 := (good_length hg).2
  have hs10 := lt1024 hs hl10
  have HG := hid hg
  obtain ⟨A, c, rfl, hA⟩ := hv
  have HA := hid hA
  clear hA hg hs
  go_enter Try.func112, Try.ntmps112
  go_wp2
  go_loop [7, 13] (fun q i => ∃ k t : Nat, k ≤ xs.length ∧ i = .int .i64 k ∧ q = .int .i64 t ∧ Hid (orN (rowP xs s) (rowG xs) k = t)) (fun _ i => xs.length - (intOf i).toNat)
  case atStart => exact ⟨0, 0, Nat.zero_le _, rfl, rfl, hid rfl⟩
  case round =>
    obtain ⟨k, t, hk, rfl, rfl, HT⟩ := hrel
    by_cases hlt : k < xs.length
    · obtain ⟨b, o, rfl, hb, hc⟩ := HA.out (by intro h; simp [h] at hlt)
      have hcell := hc k hlt
      have hr := row_lt HG.out hlt
      have hr10 := row_lt10 HG.out hlt
      obtain ⟨z, hz⟩ : ∃ z, row xs k = z := ⟨_, rfl⟩
      rw [hz] at hr hr10
      rw [hr.1] at hcell
      have HZ := hid hz
      clear hc hr hz
      cases hbit : s.testBit k
      · have HBit := hid hbit
        have han := i64_andNot_nat z s (by omega) (by omega)
        clear hbit
        by_cases h0 : sub z s = 0
        · have h0' : (((sub z s : Nat) : Int) == 0) = true := by rw [h0]; rfl
          have HP : Hid (rowP xs s k = true) := hid (by simp [rowP, HBit.out, HZ.out, h0])
          have ht10 := lt1024 (Nat.lt_of_le_of_lt (Nat.le_of_eq HT.out.symm) (rowmoN_lt HG.out s hk)) hl10
          have HN : Hid (orN (rowP xs s) (rowG xs) (k + 1) = t ||| (2 ^ k ||| z)) := hid (by rw [orN_yes HP.out, HT.out, rowG, HZ.out])
          have wp := wrap_pow' k (by omega)
          have hp1 := Nat.pow_lt_pow_right (a := 2) (by decide) (show k < 10 by omega)
          have hg10 : 2 ^ k ||| z < 1024 := Nat.or_lt_two_pow (n := 10) hp1 hr10
          have hor := pow_or z k hr10 (by omega)
          have hor2 := i64_or_nat t (2 ^ k ||| z) (by omega) (by omega)
          clear h0 hp1
          go_wp2_with (go_at_call 96; refine (hasElement_any s k (by omega) (by omega) _).mono ?_; rw [HBit.out]; rintro e w' ⟨rfl, rfl⟩)
          go_round
          case rel => exact ⟨k + 1, _, by omega, by go_num, rfl, hid (by rw [HN.out])⟩
          case measure => simp [intOf]; omega
        · have h0' : (((sub z s : Nat) : Int) == 0) = false := by rw [beq_eq_false_iff_ne]; omega
          have HP : Hid (rowP xs s k = false) := hid (by simp [rowP, HBit.out, HZ.out, h0])
          clear h0
          go_wp2_with (go_at_call 96; refine (hasElement_any s k (by omega) (by omega) _).mono ?_; rw [HBit.out]; rintro e w' ⟨rfl, rfl⟩)
          go_round
          case rel => exact ⟨k + 1, t, by omega, by go_num, rfl, hid (by rw [orN_no HP.out, HT.out])⟩
          case measure => simp [intOf]; omega
      · have HBit := hid hbit
        have HP : Hid (rowP xs s k = false) := hid (by simp [rowP, hbit])
        clear hbit
        go_wp2_with (go_at_call 96; refine (hasElement_any s k (by omega) (by omega) _).mono ?_; rw [HBit.out]; rintro e w' ⟨rfl, rfl⟩)
        go_round
        case rel => exact ⟨k + 1, t, by omega, by go_num, rfl, hid (by rw [orN_no HP.out, HT.out])⟩
        case measure => simp [intOf]; omega
    · obtain rfl : k = xs.length := by omega
      go_wp2
      go_ret
      exact ⟨ret_int (by rw [← HT.out]; rfl), ((Below.refl _ _).alloc (Nat.le_refl _) _).alloc (by simp) _⟩
theorem compl_bits (n s N : Nat) (hn : n ≤ 10) (hs : s < 1024) (hN : 2 ^ n = N) : bits .andNot .i64 ((N : Int) - 1) (s : Int) = ((compl n s : Nat) : Int) := by
  have hp := two_pow_le n hn
  have e : ((N : Int) - 1) = ((N - 1 : Nat) : Int) := by omega
  rw [e, i64_andNot_nat _ _ (by omega) (by omega)]
  unfold compl
  rw [hN]
theorem tgRow_any (v : Value) (xs : List Int) (s : Nat) (w : World) (hv : Ints w v xs) (hg : good xs = true) (hs : s < 2 ^ xs.length) :
    Calls Try.prog 82 #[.agg #[v], .int .i64 s] w fun r w' => r = .returned (.int .i64 (rowmo xs s : Nat)) ∧ Below w.heap.size w w' := by
  have hl10 := (good_length hg).2
  have hs10 := lt1024 hs hl10
  have HV := hid hv
  have HR := hid (rowmo_spec hg s)
  have HS := hid (good_small hg)
  have hc10 := lt1024 (compl_lt xs.length s) hl10
  obtain ⟨A, c, rfl, -⟩ := hv
  obtain ⟨N, hN⟩ : ∃ N, 2 ^ xs.length = N := ⟨_, rfl⟩
  have wp : wrap64 ((2 : Int) ^ xs.length) = (N : Int) := by rw [wrap_pow xs.length hl10, hN]
  have hN1 := two_pow_le xs.length hl10
  rw [hN] at hN1
  have han := compl_bits xs.length s N hl10 hs10 hN
  obtain ⟨z, hz⟩ : ∃ z, compl xs.length s = z := ⟨_, rfl⟩
  rw [hz] at han hc10
  have HZ := hid hz
  have hbl : bottom xs z < 1024 := bottomN_lt xs z xs.length hl10
  clear hg hs hN hz
  go_enter Try.func82, Try.ntmps82
  have HB := hid (below_alloc (Below.refl _ w) (.cells #[(.slice A xs.length c)] 28))
  have A0 := hid (At.newAt w (.slice A xs.length c) 28 w.heap.size (by simp))
  go_wp2
  clear wp
  have hbx0 := A0.out.1
  go_region_with (first | (go_at_call 92; refine (poBottom_any _ xs z _ (HV.out.below HB.out).drew hl10 hc10 (HS.out z)).mono ?_; rintro e w1 ⟨rfl, hb1⟩; have H1 := hid (below_to HB.out.drew hb1); have hbx := (A0.out.drew.below hb1).1; clear hb1) | (go_at_call 91; refine (poDown_any _ xs (bottom xs z) _ (HV.out.below H1.out) hl10 hbl (HS.out _)).mono ?_; rintro e w2 ⟨rfl, hb2⟩; have H2 := hid (below_to H1.out hb2); clear hb2))
  all_goals go_wp2
  all_goals go_ret
  all_goals exact ⟨ret_int (by rw [← HR.out, HZ.out]), H2.out⟩
end Go.Proofs.Ytkcjppbplllaiaa
