/- IsSieved: both sides. -/
import Derived.Test.YtnlehkjfidpdlaaSvW
import Derived.Test.YtnlehkjfidpdlaaFac
import Derived.Test.YtnlehkjfidpdlaaApi
namespace Go.Proofs.Ytnlehkjfidpdlaa
open Go.RowKit Go.WideShapes Go.ChangeShapes
set_option linter.unusedVariables false

theorem ret_bbV {a b c d : Bool} (h : a = c) (k : b = d) : Ending.returned (.tuple #[.bool a, .bool b]) = .returned (.tuple #[.bool c, .bool d]) := by rw [h, k]
theorem okSV_no1 {rs ss : List Int} (h : restB rs = false) : okSV rs ss = false := by unfold okSV; rw [h]; rfl
theorem okSV_no2 {rs ss : List Int} (h : decide ((ss.length : Int) ≤ 1000) = false) : okSV rs ss = false := by unfold okSV; rw [h]; simp
theorem okSV_no3 {rs ss : List Int} (h : allB 1 60 ss = false) : okSV rs ss = false := by unfold okSV; rw [h]; simp
theorem okSV_yes {rs ss : List Int} (h : restB rs = true) (h2 : decide ((ss.length : Int) ≤ 1000) = true) (h3 : allB 1 60 ss = true) : okSV rs ss = true := by unfold okSV; rw [h, h2, h3]; rfl
theorem ansSV_no {rs ss : List Int} (h : okSV rs ss = false) : ansSV rs ss = false := by unfold ansSV; rw [h]; rfl
theorem ansSV_yes {rs ss : List Int} (h : okSV rs ss = true) : ansSV rs ss = svB rs ss := by unfold ansSV; rw [h]; rfl
set_option maxHeartbeats 800000 in
theorem countDividing_any (v : Value) (ss : List Int) (r : Nat) (w : World) (hv : Ints w v ss) (hl : ss.length ≤ 1048576) (hs : allB 1 60 ss = true) :
    Calls Try.prog 48 #[v, .int .i64 r] w fun e w' => e = .returned (.int .i64 (cdN ss r : Nat)) ∧ w = w' := by
  obtain ⟨A, c, rfl, hA⟩ := hv
  have HA := hid hA
  have HAt := hid (fun j (hj : j < ss.length) => allB_at hs hj)
  have HLe := hid (cdT_le ss r)
  have HEnd : Hid (cdT ss r ss.length = cdN ss r) := hid rfl
  clear hA hs
  go_enter Try.func48, Try.ntmps48
  go_wp2
  go_loop [5, 10] (fun q i => ∃ j t : Nat, j ≤ ss.length ∧ q = .int .i64 (t : Int) ∧ i = .int .i64 (j : Int) ∧ Hid (cdT ss r j = t)) (fun _ i => ss.length - (intOf i).toNat)
  case atStart => exact ⟨0, 0, Nat.zero_le _, rfl, rfl, hid rfl⟩
  case round =>
    obtain ⟨j, t, hj, rfl, rfl, HT⟩ := hrel
    by_cases hlt : j < ss.length
    · obtain ⟨b, o, rfl, hbl, hc⟩ := HA.out (by intro h; simp [h] at hlt)
      have hcell := hc j hlt
      have ha := HAt.out j hlt
      have ht := HLe.out j
      rw [HT.out] at ht
      obtain ⟨k, hk⟩ := Int.eq_ofNat_of_zero_le (show 0 ≤ ss.getD j 0 by omega)
      rw [hk] at hcell ha
      have HY := hid (fun h => (cdT_yes (r := r) hk h).trans (by rw [HT.out]))
      have HN := hid (fun h => (cdT_no (r := r) hk h).trans HT.out)
      have hm1 := tmod_natC r k
      have hm2 : ((r : Int) % (k : Int)) = ((r % k : Nat) : Int) := by simp
      have hz3 : ¬ (k : Int) = 0 := by omega
      have hz4 : ((k : Int) == 0) = false := by rw [beq_eq_false_iff_ne]; omega
      have hz5 : (0 : Int) < (k : Int) := by omega
      obtain ⟨z, hz⟩ : ∃ z, r % k = z := ⟨_, rfl⟩
      rw [hz] at hm1 hm2 HY HN
      clear hc hk hz
      by_cases h0 : z = 0
      · have HS := hid (HY.out h0)
        subst h0
        go_wp2
        clear hm1 hm2 hz3 hz4
        go_round
        case rel => exact ⟨j + 1, t + 1, by omega, by go_num, by go_num, HS⟩
        case measure => simp [intOf]; omega
      · have HS := hid (HN.out h0)
        have hr3 : ((z : Int) == 0) = false := by rw [beq_eq_false_iff_ne]; omega
        go_wp2
        clear hm1 hm2 hz3 hz4 hr3
        go_round
        case rel => exact ⟨j + 1, t, by omega, rfl, by go_num, HS⟩
        case measure => simp [intOf]; omega
    · have HE : Hid (t = cdN ss r) := hid (by rw [← HT.out, ← HEnd.out, show j = ss.length by omega])
      go_wp2
      go_ret
      exact ⟨ret_int (by rw [HE.out]), rfl⟩
set_option maxHeartbeats 1600000 in
theorem implIsSieved_any (v : Value) (rs : List Int) (u : Value) (ss : List Int) (w : World) (hv : Ints w v rs) (hl : rs.length ≤ 1048576) (hu : Ints w u ss) (hm : ss.length ≤ 1048576) :
    Calls Try.prog 27 #[v, u] w fun r w' => r = .returned (.tuple #[.bool (ansSV rs ss), .bool (okSV rs ss)]) ∧ Below w.heap.size w w' := by
  have HI1 := hid (fun W (hW : Ints W v rs) => areRests_any v rs W hW hl)
  have HI2 := hid (fun W (hW : Ints W u ss) => areStabilizers_any u ss W hW hm)
  have HV := hid hv
  have HU := hid hu
  obtain ⟨A, c, rfl, hA⟩ := hv
  have HA := hid hA
  obtain ⟨A2, c2, rfl, -⟩ := hu
  clear hA
  cases hr : restB rs
  · have HO := hid (okSV_no1 (ss := ss) hr)
    rw [hr] at HI1
    clear hr
    go_enter Try.func27, Try.ntmps27
    go_wp2_with fail
    refine (HI1.out _ HV.out).mono ?_
    rintro e w1 ⟨rfl, hb⟩
    have HB := hid hb
    clear hb
    go_wp2
    go_ret2
    exact ⟨ret_bbV (ansSV_no HO.out).symm HO.out.symm, HB.out⟩
  cases hs : (decide ((ss.length : Int) ≤ 1000) && allB 1 60 ss)
  · have HO : Hid (okSV rs ss = false) := hid (by unfold okSV; rw [hs, Bool.and_false])
    rw [hr] at HI1
    rw [hs] at HI2
    clear hr hs
    go_enter Try.func27, Try.ntmps27
    go_wp2_with fail
    refine (HI1.out _ HV.out).mono ?_
    rintro e w1 ⟨rfl, hb⟩
    have HB := hid hb
    clear hb
    go_wp2_with fail
    refine (HI2.out _ (HU.out.below HB.out)).mono ?_
    rintro e w2 ⟨rfl, hb⟩
    have HB2 := hid (below_to HB.out hb)
    clear hb
    go_wp2
    go_ret2
    exact ⟨ret_bbV (ansSV_no HO.out).symm HO.out.symm, HB2.out⟩
  have HO : Hid (okSV rs ss = true) := hid (by unfold okSV; rw [hr, hs]; rfl)
  have hall : allB 1 60 ss = true := by rw [Bool.and_eq_true] at hs; exact hs.2
  have HAn := hid (ansSV_yes HO.out)
  obtain ⟨h1, h2, h3⟩ := restB_all hr
  have HCell := hid h3
  have HCd := hid (fun r W (hW : Ints W (.slice A2 ss.length c2) ss) => countDividing_any _ ss r W hW hm hall)
  have HSn := hid (fun r (hr : r < rs.length) h => svB_no (ss := ss) hr h)
  have HSy := hid (fun h => svB_yes (rs := rs) (ss := ss) h)
  rw [hr] at HI1
  rw [hs] at HI2
  clear hr hs hall h3
  go_enter Try.func27, Try.ntmps27
  go_wp2_with fail
  refine (HI1.out _ HV.out).mono ?_
  rintro e w1 ⟨rfl, hb⟩
  have HB := hid hb
  clear hb
  go_wp2_with fail
  refine (HI2.out _ (HU.out.below HB.out)).mono ?_
  rintro e w2 ⟨rfl, hb⟩
  have HB2 := hid (below_to HB.out hb)
  have HU2 := hid (HU.out.below (below_to HB.out hb))
  clear hb
  go_wp2
  go_loop [20] (fun i => ∃ k : Nat, k ≤ rs.length ∧ i = .int .i64 (k : Int) ∧ Hid (∀ r, r < k → rs.getD r 0 = (cdN ss r : Int))) (fun i => rs.length - (intOf i).toNat)
  case atStart => exact ⟨0, Nat.zero_le _, rfl, hid (fun r hr => absurd hr (Nat.not_lt_zero _))⟩
  case round =>
    obtain ⟨k, hk, rfl, HK⟩ := hrel
    by_cases hlt : k < rs.length
    · obtain ⟨b, o, rfl, hbl, hc⟩ := HA.out (by intro h; simp [h] at hlt)
      have hcell := (HB2.out.cell (p := ⟨b, o + k, none⟩) hbl).trans (hc k hlt)
      have HCk := hid (HCd.out k _ HU2.out)
      have HN := hid (HSn.out k hlt)
      obtain ⟨t, ht⟩ : ∃ t, cdN ss k = t := ⟨_, rfl⟩
      have HT := hid ht
      rw [ht] at HCk HN
      obtain ⟨x, hx⟩ : ∃ x, rs.getD k 0 = x := ⟨_, rfl⟩
      have HX := hid hx
      rw [hx] at hcell HN
      clear hc ht hx
      by_cases hxt : x = (t : Int)
      · have hbn : (x != (t : Int)) = false := by rw [bne_eq_false_iff_eq]; exact hxt
        go_wp2_with fail
        refine HCk.out.mono ?_
        rintro e w' ⟨rfl, rfl⟩
        clear hcell
        have HXT := hid hxt
        clear hxt
        go_wp2
        clear hbn
        go_round
        case rel => exact ⟨k + 1, hlt, by go_num, hid (fun r' hr' => by
          by_cases h : r' = k
          · subst h; rw [HX.out, HXT.out, HT.out]
          · exact HK.out r' (by omega))⟩
        case measure => simp [intOf]; omega
      · have hbn : (x != (t : Int)) = true := by rw [bne_iff_ne]; exact hxt
        have HS := hid (HN.out hxt)
        go_wp2_with fail
        refine HCk.out.mono ?_
        rintro e w' ⟨rfl, rfl⟩
        clear hcell
        go_wp2
        go_ret2
        exact ⟨ret_bbV (by rw [HAn.out, HS.out]) HO.out.symm, HB2.out⟩
    · have HS := hid (HSy.out (fun r hr => HK.out r (by omega)))
      go_wp2
      go_ret2
      exact ⟨ret_bbV (by rw [HAn.out, HS.out]) HO.out.symm, HB2.out⟩
set_option maxHeartbeats 1600000 in
theorem specIsSieved_any (v : Value) (rs : List Int) (u : Value) (ss : List Int) (w : World) (hv : Ints w v rs) (hl : rs.length ≤ 1048576) (hu : Ints w u ss) (hm : ss.length ≤ 1048576) :
    Calls Try.prog 26 #[v, u] w fun r w' => r = .returned (.tuple #[.bool (ansSV rs ss), .bool (okSV rs ss)]) ∧ Below w.heap.size w w' := by
  have HI1 := hid (fun W (hW : Ints W v rs) => svRests_any v rs W hW hl)
  have HI2 := hid (fun W (hW : Ints W u ss) => l1AllB_any u ss 1 60 W hW hm)
  have HV := hid hv
  have HU := hid hu
  obtain ⟨A, c, rfl, hA⟩ := hv
  have HA := hid hA
  obtain ⟨A2, c2, rfl, hA2⟩ := hu
  have HA2 := hid hA2
  clear hA hA2
  cases hr : restB rs
  · have HO := hid (okSV_no1 (ss := ss) hr)
    rw [hr] at HI1
    clear hr
    go_enter Try.func26, Try.ntmps26
    go_wp2_with fail
    refine (HI1.out _ HV.out).mono ?_
    rintro e w1 ⟨rfl, rfl⟩
    go_wp2
    go_ret2
    exact ⟨ret_bbV (ansSV_no HO.out).symm HO.out.symm, Below.refl _ _⟩
  by_cases hs1 : (ss.length : Int) ≤ 1000
  case neg =>
    have HO := hid (okSV_no2 (rs := rs) (decide_eq_false hs1))
    rw [hr] at HI1
    clear hr
    go_enter Try.func26, Try.ntmps26
    go_wp2_with fail
    refine (HI1.out _ HV.out).mono ?_
    rintro e w1 ⟨rfl, rfl⟩
    go_wp2
    go_ret2
    exact ⟨ret_bbV (ansSV_no HO.out).symm HO.out.symm, Below.refl _ _⟩
  cases hs : allB 1 60 ss
  · have HO := hid (okSV_no3 (rs := rs) hs)
    rw [hr] at HI1
    rw [hs] at HI2
    clear hr hs
    go_enter Try.func26, Try.ntmps26
    go_wp2_with fail
    refine (HI1.out _ HV.out).mono ?_
    rintro e w1 ⟨rfl, rfl⟩
    go_wp2_with fail
    refine (HI2.out _ HU.out).mono ?_
    rintro e w1 ⟨rfl, rfl⟩
    go_wp2
    go_ret2
    exact ⟨ret_bbV (ansSV_no HO.out).symm HO.out.symm, Below.refl _ _⟩
  have HO := hid (okSV_yes hr (decide_eq_true hs1) hs)
  have HAn := hid (ansSV_yes HO.out)
  obtain ⟨h1, h2, h3⟩ := restB_all hr
  have HAt := hid (fun j (hj : j < ss.length) => allB_at hs hj)
  have HSn := hid (fun r (hr : r < rs.length) h => svB_no (ss := ss) hr h)
  have HSy := hid (fun h => svB_yes (rs := rs) (ss := ss) h)
  rw [hr] at HI1
  rw [hs] at HI2
  clear hr hs h3
  go_enter Try.func26, Try.ntmps26
  go_wp2_with fail
  refine (HI1.out _ HV.out).mono ?_
  rintro e w1 ⟨rfl, rfl⟩
  go_wp2_with fail
  refine (HI2.out _ HU.out).mono ?_
  rintro e w1 ⟨rfl, rfl⟩
  go_wp2
  go_loop [26] (fun i => ∃ k : Nat, k ≤ rs.length ∧ i = .int .i64 (k : Int) ∧ Hid (∀ r, r < k → rs.getD r 0 = (cdN ss r : Int))) (fun i => rs.length - (intOf i).toNat)
  case atStart => exact ⟨0, Nat.zero_le _, rfl, hid (fun r hr => absurd hr (Nat.not_lt_zero _))⟩
  case round =>
    obtain ⟨k, hk, rfl, HK⟩ := hrel
    by_cases hlt : k < rs.length
    · obtain ⟨b, o, rfl, hbl, hc⟩ := HA.out (by intro h; simp [h] at hlt)
      have hcell := hc k hlt
      have HN := hid (HSn.out k hlt)
      have HLe := hid (cdT_le ss k)
      have HEnd : Hid (cdT ss k ss.length = cdN ss k) := hid rfl
      obtain ⟨x, hx⟩ : ∃ x, rs.getD k 0 = x := ⟨_, rfl⟩
      have HX := hid hx
      rw [hx] at hcell HN
      clear hc hx
      go_wp2
      clear hcell
      go_loop [8, 33] (fun q i => ∃ j t : Nat, j ≤ ss.length ∧ q = .int .i64 (t : Int) ∧ i = .int .i64 (j : Int) ∧ Hid (cdT ss k j = t)) (fun _ i => ss.length - (intOf i).toNat)
      case atStart => exact ⟨0, 0, Nat.zero_le _, rfl, rfl, hid rfl⟩
      case round =>
        obtain ⟨j, t, hj, rfl, rfl, HT⟩ := hrel
        by_cases hltj : j < ss.length
        · obtain ⟨b2, o2, rfl, hbl2, hc⟩ := HA2.out (by intro h; simp [h] at hltj)
          have hcell := hc j hltj
          have ha := HAt.out j hltj
          have ht := HLe.out j
          rw [HT.out] at ht
          obtain ⟨y, hk2⟩ := Int.eq_ofNat_of_zero_le (show 0 ≤ ss.getD j 0 by omega)
          rw [hk2] at hcell ha
          have HY := hid (fun h => (cdT_yes (r := k) hk2 h).trans (by rw [HT.out]))
          have HN2 := hid (fun h => (cdT_no (r := k) hk2 h).trans HT.out)
          have hm1 := tmod_natC k y
          have hm2 : ((k : Int) % (y : Int)) = ((k % y : Nat) : Int) := by simp
          have hz3 : ¬ (y : Int) = 0 := by omega
          have hz4 : ((y : Int) == 0) = false := by rw [beq_eq_false_iff_ne]; omega
          have hz5 : (0 : Int) < (y : Int) := by omega
          obtain ⟨z, hz⟩ : ∃ z, k % y = z := ⟨_, rfl⟩
          rw [hz] at hm1 hm2 HY HN2
          clear hc hk2 hz
          by_cases h0 : z = 0
          · have HS := hid (HY.out h0)
            subst h0
            go_wp2
            clear hm1 hm2 hz3 hz4
            go_round
            case rel => exact ⟨j + 1, t + 1, by omega, by go_num, by go_num, HS⟩
            case measure => simp [intOf]; omega
          · have HS := hid (HN2.out h0)
            have hr3 : ((z : Int) == 0) = false := by rw [beq_eq_false_iff_ne]; omega
            go_wp2
            clear hm1 hm2 hz3 hz4 hr3
            go_round
            case rel => exact ⟨j + 1, t, by omega, rfl, by go_num, HS⟩
            case measure => simp [intOf]; omega
        · have HE : Hid (cdN ss k = t) := hid (by rw [← HT.out, ← HEnd.out, show j = ss.length by omega])
          by_cases hxt : (t : Int) = x
          · have hbn : ((t : Int) != x) = false := by rw [bne_eq_false_iff_eq]; exact hxt
            have HXT := hid hxt
            clear hxt
            go_wp2
            clear hbn
            go_round
            case rel => exact ⟨k + 1, hlt, by go_num, hid (fun r' hr' => by
              by_cases h : r' = k
              · subst h; rw [HX.out, HE.out, HXT.out]
              · exact HK.out r' (by omega))⟩
            case measure => simp [intOf]; omega
          · have hbn : ((t : Int) != x) = true := by rw [bne_iff_ne]; exact hxt
            have HS := hid (HN.out (fun h => hxt (by rw [h, HE.out])))
            go_wp2
            go_ret2
            exact ⟨ret_bbV (by rw [HAn.out, HS.out]) HO.out.symm, Below.refl _ _⟩
    · have HS := hid (HSy.out (fun r hr => HK.out r (by omega)))
      go_wp2
      go_ret2
      exact ⟨ret_bbV (by rw [HAn.out, HS.out]) HO.out.symm, Below.refl _ _⟩
end Go.Proofs.Ytnlehkjfidpdlaa
