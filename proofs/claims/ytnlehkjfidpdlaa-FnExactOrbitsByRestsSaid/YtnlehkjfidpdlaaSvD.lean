/- Divisors and signs: both sides. -/
import Derived.Test.YtnlehkjfidpdlaaSvW
import Derived.Test.YtnlehkjfidpdlaaGcd
import Derived.Test.YtnlehkjfidpdlaaCycD
namespace Go.Proofs.Ytnlehkjfidpdlaa
open Go.RowKit Go.WideShapes Go.ChangeShapes
set_option linter.unusedVariables false

theorem divisorsOf_any (n : Nat) (w : World) (hn : n ≤ 1000) :
    Calls Try.prog 40 #[.int .i64 n] w fun (r : Ending) w' => ∃ u, r = Ending.returned u ∧ OwnI 3 w' w.heap.size u (intsN (dvN n)) ∧ Below w.heap.size w w' := by
  go_enter Try.func40, Try.ntmps40
  go_wp2
  go_loopw [3, 7] (fun q i wr => ∃ k : Nat, k ≤ n ∧ i = .int .i64 k ∧ OwnI 3 wr w.heap.size q (intsN (dvT n k)) ∧ Below w.heap.size w wr) (fun _ i _ => n - (intOf i).toNat)
  case atStart => exact ⟨0, Nat.zero_le _, rfl, OwnI.nil _ _ _, Below.refl _ _⟩
  case round =>
    obtain ⟨k, hk, rfl, ho, hb⟩ := hrel
    obtain ⟨qA, qn, qc, rfl⟩ := ho.shape3
    have HO := hid ho
    have HB := hid hb
    clear ho hb
    by_cases hlt : k < n
    · have hlen : (intsN (dvT n k)).length < 1048576 := by rw [intsN_length]; have := dvT_length n k; omega
      have hz2 : w.heap.size ≤ wr.heap.size := HB.out.size
      have hk1 : IntKind.i64.wrap ((k : Int) + 1) = ((k + 1 : Nat) : Int) := by rw [IntWalk.i64_in _ (by omega)]; omega
      have hm1 := tmod_nat n (k + 1)
      have hm2 : ((n : Int) % ((k + 1 : Nat) : Int)) = ((n % (k + 1) : Nat) : Int) := by simp
      have hz3 : ¬ ((k + 1 : Nat) : Int) = 0 := by omega
      have hz4 : (((k + 1 : Nat) : Int) == 0) = false := by rw [beq_eq_false_iff_ne]; omega
      have hz5 : (0 : Int) < ((k + 1 : Nat) : Int) := by omega
      have HY := hid (fun h => dvT_yes (n := n) (j := k) h)
      have HN := hid (fun h => dvT_no (n := n) (j := k) h)
      have hkn : (k : Int) < (n : Int) := by omega
      have hk2 : k + 1 ≤ n := by omega
      have hltk : n % (k + 1) < k + 1 := Nat.mod_lt _ (by omega)
      obtain ⟨r, hr⟩ : ∃ r, n % (k + 1) = r := ⟨_, rfl⟩
      rw [hr] at hm1 hm2 HY HN hltk
      have HM : Hid (n - (k + 1) < n - k) := hid (by omega)
      obtain ⟨k1, hk1e⟩ : ∃ k1, k + 1 = k1 := ⟨_, rfl⟩
      rw [hk1e] at hm1 hm2 hz3 hz4 hz5 hk1 HY HN hk2 HM
      clear hr hk1e hltk
      by_cases h0 : r = 0
      · subst h0
        have HS := hid (HY.out rfl)
        go_wp2_with (at_builtin; refine wpList_append_int rfl _ _ 22 3 rfl Try.underlying22 Try.info3 w.heap.size _ (intsN (dvT n k)) ((k1 : Nat) : Int) rfl HO.out rfl rfl hlen hz2 ?_; intro v5 w5 ho5 hb5; rw [← intsN_snoc, ← HS.out] at ho5; obtain ⟨sA, sn, sc, rfl⟩ := ho5.shape3; have HO5 := hid ho5; have HB5 := hid hb5; clear ho5 hb5)
        clear hm1 hm2 hz3 hz4
        go_roundw
        case rel => exact ⟨k1, hk2, by go_num, HO5.out, HB.out.trans HB5.out⟩
        case measure => simp [intOf]; first | exact HM.out | (have h := HM.out; omega)
      · have hr2 : ((r : Int) == 0) = false := by rw [beq_eq_false_iff_ne]; omega
        have HS := hid (HN.out h0)
        go_wp2
        clear hm1 hm2 hz3 hz4 hr2
        go_roundw
        case rel => exact ⟨k1, hk2, by go_num, (by rw [HS.out]; exact HO.out), HB.out⟩
        case measure => simp [intOf]; first | exact HM.out | (have h := HM.out; omega)
    · have hE : Hid (dvT n k = dvN n) := hid (by rw [show k = n by omega]; rfl)
      have hkn : ¬ (k : Int) < (n : Int) := by omega
      clear hlt
      rw [hE.out] at HO
      go_wp2
      go_ret
      exact ⟨_, rfl, HO.out, HB.out⟩
set_option maxHeartbeats 800000 in
theorem svSign_any (n : Nat) (w : World) (h1 : 1 ≤ n) (hn : n ≤ 60) : Calls Try.prog 55 #[.int .i64 n] w fun r w' => r = .returned (.int .i64 (sgN n)) ∧ w = w' := by
  obtain ⟨R, hR⟩ : ∃ R, sgN n = R := ⟨_, rfl⟩
  have HR := hid hR
  rw [hR]
  clear hR
  go_enter Try.func55, Try.ntmps55
  go_wp2
  go_loop [0, 3, 4] (fun m s p => ∃ (x q f : Nat) (z : Int), m = .int .i64 x ∧ s = .int .i64 z ∧ p = .int .i64 q ∧ 1 ≤ x ∧ x ≤ 60 ∧ 2 ≤ q ∧ -1 ≤ z ∧ z ≤ 1 ∧ Hid (q + f = 62) ∧ Hid (NoDv q x) ∧ Hid (sgS f q x z = R)) (fun _ _ p => 62 - (intOf p).toNat)
  case atStart => exact ⟨n, 2, 60, 1, rfl, rfl, rfl, h1, hn, Nat.le_refl _, by omega, by omega, hid rfl, hid (fun q h2 h3 => by omega), HR⟩
  case round =>
    obtain ⟨x, q, f, z, rfl, rfl, rfl, hx1, hx2, hq2, hz1, hz2, HF, HD, HS⟩ := hrel
    by_cases hx : 1 < x
    · have hxn : ¬ x ≤ 1 := by omega
      have hqx := HD.out.le hxn
      obtain ⟨f', hf'⟩ : ∃ f', f = f' + 1 := ⟨f - 1, by have := HF.out; omega⟩
      have HF' : Hid (q + 1 + f' = 62) := hid (by have := HF.out; omega)
      subst hf'
      have HM : Hid (62 - (q + 1) < 62 - q) := hid (by have := HF.out; omega)
      have hm1 := tmod_natC x q
      have hm2 : ((x : Int) % (q : Int)) = ((x % q : Nat) : Int) := by simp
      have hz3 : ¬ (q : Int) = 0 := by omega
      have hz4 : ((q : Int) == 0) = false := by rw [beq_eq_false_iff_ne]; omega
      have hz5 : (0 : Int) < (q : Int) := by omega
      have HNo := hid (fun h => And.intro (sgS_no (f := f') (p := q) (n := x) z hxn h) (HD.out.no h))
      have HSq := hid (fun h k => sgS_sq (f := f') (p := q) (n := x) z hxn h k)
      have HYs := hid (fun h k => And.intro (sgS_yes (f := f') (p := q) (n := x) z hxn h k) (HD.out.yes h k))
      by_cases h0 : x % q = 0
      · have hd1 := tdiv_natC x q
        have hd2 : ((x : Int) / (q : Int)) = ((x / q : Nat) : Int) := by simp
        have hle : x / q ≤ x := Nat.div_le_self _ _
        have hge : 1 ≤ x / q := Nat.div_pos hqx (by omega)
        rw [h0] at hm1 hm2
        obtain ⟨y, hy⟩ : ∃ y, x / q = y := ⟨_, rfl⟩
        rw [hy] at hd1 hd2 hle hge HSq HYs
        have hwy : IntKind.i64.wrap (y : Int) = (y : Int) := IntWalk.i64_in _ (by omega)
        have hm3 := tmod_natC y q
        have hm4 : ((y : Int) % (q : Int)) = ((y % q : Nat) : Int) := by simp
        by_cases h2 : y % q = 0
        · have HE : Hid (R = 0) := hid (by rw [← HS.out]; exact HSq.out h0 h2)
          rw [h2] at hm3 hm4
          clear hy h0 h2
          go_wp2
          go_ret
          exact ⟨ret_int HE.out.symm, rfl⟩
        · have HE := hid (HYs.out h0 h2)
          have hr2 : ((y % q : Nat) : Int) ≠ 0 := by omega
          obtain ⟨r, hr⟩ : ∃ r, y % q = r := ⟨_, rfl⟩
          rw [hr] at hm3 hm4 hr2
          have hr3 : ((r : Int) == 0) = false := by rw [beq_eq_false_iff_ne]; exact hr2
          clear hy h0 h2 hr
          go_wp2
          clear hm1 hm2 hm3 hm4 hd1 hd2 hwy hz3 hz4 hr2 hr3
          go_round
          case rel => exact ⟨y, q + 1, f', -z, rfl, by go_num, by go_num, hge, by omega, by omega, by omega, by omega, HF', hid HE.out.2, hid (by rw [← HE.out.1]; exact HS.out)⟩
          case measure => simp [intOf]; first | exact HM.out | (have h := HM.out; omega)
      · have HE := hid (HNo.out h0)
        obtain ⟨r, hr⟩ : ∃ r, x % q = r := ⟨_, rfl⟩
        rw [hr] at hm1 hm2 h0
        have hr3 : (0 : Int) < (r : Int) := by omega
        clear hr h0
        go_wp2
        clear hm1 hm2 hz3 hz4
        go_round
        case rel => exact ⟨x, q + 1, f', z, rfl, rfl, by go_num, hx1, hx2, by omega, hz1, hz2, HF', hid HE.out.2, hid (by rw [← HE.out.1]; exact HS.out)⟩
        case measure => simp [intOf]; first | exact HM.out | (have h := HM.out; omega)
    · have HE : Hid (z = R) := hid (by rw [← HS.out]; exact (sgS_stop _ _ _ (by omega)).symm)
      go_wp2
      go_ret
      exact ⟨ret_int HE.out, rfl⟩
set_option maxHeartbeats 800000 in
theorem signOf_any (n : Nat) (w : World) (h1 : 1 ≤ n) (hn : n ≤ 60) : Calls Try.prog 42 #[.int .i64 n] w fun r w' => r = .returned (.int .i64 (sgN n)) ∧ Below w.heap.size w w' := by
  have HR := hid (sgF_eq hn)
  obtain ⟨R, hR⟩ : ∃ R, sgN n = R := ⟨_, rfl⟩
  rw [hR] at HR ⊢
  have HMm := hid (fun j (hj : j < (dvN n).length) => dvT_mem (dvT_get hj))
  have hdl := dvT_length n n
  have HDr := hid (fun j (hj : j < (dvN n).length) => drop_cons hj)
  have HEnd : Hid ((dvN n).drop (dvN n).length = []) := hid (List.drop_length)
  obtain ⟨L, hL⟩ : ∃ L, dvN n = L := ⟨_, rfl⟩
  have HL := hid hL
  rw [hL] at HR HMm HDr HEnd
  rw [show dvT n n = L from hL] at HMm hdl
  clear hR hL
  go_enter Try.func42, Try.ntmps42
  go_wp2_with fail
  refine (divisorsOf_any n _ (by omega)).mono ?_
  rintro e w1 ⟨u, rfl, ho, hb⟩
  rw [HL.out] at ho
  obtain ⟨A, c, rfl, hA⟩ := ho.ints
  rw [intsN_length] at hA ⊢
  have HA := hid hA
  have HB := hid hb
  clear ho hb hA
  go_wp2
  go_loop [0, 3, 9] (fun m s i => ∃ (x j : Nat) (z : Int), m = .int .i64 x ∧ s = .int .i64 z ∧ i = .int .i64 j ∧ j ≤ L.length ∧ x ≤ 60 ∧ -1 ≤ z ∧ z ≤ 1 ∧ Hid (sgF (L.drop j) x z = R)) (fun _ _ i => L.length - (intOf i).toNat)
  case atStart => exact ⟨n, 0, 1, rfl, rfl, rfl, Nat.zero_le _, hn, by omega, by omega, HR⟩
  case round =>
    obtain ⟨x, j, z, rfl, rfl, rfl, hj, hx2, hz1, hz2, HS⟩ := hrel
    by_cases hlt : j < L.length
    · obtain ⟨b, o, rfl, hbl, hc⟩ := HA.out (by intro h; have := congrArg List.length h; rw [intsN_length, List.length_nil] at this; omega)
      have hcell := hc j hlt
      rw [intsN_get hlt] at hcell
      have hmm := HMm.out j hlt
      rw [HDr.out j hlt] at HS
      obtain ⟨k, hk⟩ : ∃ k, L.getD j 0 = k := ⟨_, rfl⟩
      rw [hk] at hcell hmm HS
      obtain ⟨hk1, hk2, -⟩ := hmm
      have hm1 := tmod_natC x k
      have hm2 : ((x : Int) % (k : Int)) = ((x % k : Nat) : Int) := by simp
      have hz3 : ¬ (k : Int) = 0 := by omega
      have hz4 : ((k : Int) == 0) = false := by rw [beq_eq_false_iff_ne]; omega
      have hz5 : (0 : Int) < (k : Int) := by omega
      have HM : Hid (L.length - (j + 1) < L.length - j) := hid (by omega)
      clear hc hk
      by_cases hk0 : k = 1
      · have HE := hid ((sgF_one (ks := L.drop (j + 1)) (k := k) (n := x) z (.inl hk0)).symm.trans HS.out)
        subst hk0
        go_wp2
        clear hm1 hm2 hz3 hz4
        go_round
        case rel => exact ⟨x, j + 1, z, rfl, rfl, by go_num, by omega, hx2, hz1, hz2, HE⟩
        case measure => simp [intOf]; first | exact HM.out | (have h := HM.out; omega)
      · have hk3 : ((k : Int) == 1) = false := by rw [beq_eq_false_iff_ne]; omega
        by_cases h0 : x % k = 0
        · have hd1 := tdiv_natC x k
          have hd2 : ((x : Int) / (k : Int)) = ((x / k : Nat) : Int) := by simp
          have hle : x / k ≤ x := Nat.div_le_self _ _
          have HSq := hid (fun h => sgF_sq (ks := L.drop (j + 1)) (k := k) (n := x) z hk0 h0 h)
          have HYs := hid (fun h => sgF_yes (ks := L.drop (j + 1)) (k := k) (n := x) z hk0 h0 h)
          rw [h0] at hm1 hm2
          obtain ⟨y, hy⟩ : ∃ y, x / k = y := ⟨_, rfl⟩
          rw [hy] at hd1 hd2 hle HSq HYs
          have hwy : IntKind.i64.wrap (y : Int) = (y : Int) := IntWalk.i64_in _ (by omega)
          have hm3 := tmod_natC y k
          have hm4 : ((y : Int) % (k : Int)) = ((y % k : Nat) : Int) := by simp
          by_cases h2 : y % k = 0
          · have HE : Hid (R = 0) := hid (by rw [← HS.out]; exact HSq.out h2)
            rw [h2] at hm3 hm4
            clear hy h0 h2 hk0
            go_wp2
            go_ret
            exact ⟨ret_int HE.out.symm, HB.out⟩
          · have HE := hid (HYs.out h2)
            obtain ⟨r, hr⟩ : ∃ r, y % k = r := ⟨_, rfl⟩
            have hr2 : ((y % k : Nat) : Int) ≠ 0 := by omega
            rw [hr] at hm3 hm4 hr2
            have hr3 : ((r : Int) == 0) = false := by rw [beq_eq_false_iff_ne]; exact hr2
            have hy60 : y ≤ 60 := by omega
            clear hy h0 h2 hr hk0
            go_wp2
            clear hm1 hm2 hm3 hm4 hd1 hd2 hwy hz3 hz4 hr2 hr3 hk3
            go_round
            case rel => exact ⟨y, j + 1, -z, rfl, by go_num, by go_num, by omega, hy60, by omega, by omega, hid (by rw [← HE.out]; exact HS.out)⟩
            case measure => simp [intOf]; first | exact HM.out | (have h := HM.out; omega)
        · have HE := hid ((sgF_one (ks := L.drop (j + 1)) (k := k) (n := x) z (.inr h0)).symm.trans HS.out)
          obtain ⟨r, hr⟩ : ∃ r, x % k = r := ⟨_, rfl⟩
          rw [hr] at hm1 hm2 h0
          have hr3 : ((r : Int) != 0) = true := by rw [bne_iff_ne]; omega
          clear hr h0 hk0
          go_wp2
          clear hm1 hm2 hz3 hz4 hr3 hk3
          go_round
          case rel => exact ⟨x, j + 1, z, rfl, rfl, by go_num, by omega, hx2, hz1, hz2, HE⟩
          case measure => simp [intOf]; first | exact HM.out | (have h := HM.out; omega)
    · have HE : Hid (z = R) := hid (by
        have hjL : j = L.length := by omega
        have h := HS.out
        rw [hjL, HEnd.out] at h
        exact h)
      go_wp2
      go_ret
      exact ⟨ret_int HE.out, HB.out⟩
end Go.Proofs.Ytnlehkjfidpdlaa
