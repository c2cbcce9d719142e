/- CountLinear, LinearWith, RankLinear of both sides. -/
import Derived.Test.YtnlehkjfidpdlabEndS
import Derived.Deep.RegionWith
namespace Go.Proofs.Ytnlehkjfidpdlab
open Go.RowKit Go.WideShapes Go.ChangeShapes
set_option linter.unusedVariables false

def okLW (xs : List Int) (r : Int) : Bool := good xs && (decide (0 ≤ r) && decide (r ≤ (cntL xs : Int) - 1))
def ansLW (xs : List Int) (r : Int) : List Int := if okLW xs r then unrL xs r.toNat else []
theorem okLW_no1 {xs : List Int} {r : Int} (h : good xs = false) : okLW xs r = false := by simp [okLW, h]
theorem okLW_no2 {xs : List Int} {r : Int} (h : (decide (0 ≤ r) && decide (r ≤ (cntL xs : Int) - 1)) = false) : okLW xs r = false := by simp only [okLW, h]; simp
theorem okLW_yes {xs : List Int} {r : Int} (h : good xs = true) (k : (decide (0 ≤ r) && decide (r ≤ (cntL xs : Int) - 1)) = true) : okLW xs r = true := by simp only [okLW, h, k]; rfl
theorem ansLW_no {xs : List Int} {r : Int} (h : okLW xs r = false) : ansLW xs r = [] := by simp [ansLW, h]
theorem ansLW_yes {xs : List Int} {r : Nat} (h : okLW xs r = true) : ansLW xs r = unrL xs r := by simp [ansLW, h]
theorem ansLW_length (xs : List Int) (r : Int) : (ansLW xs r).length ≤ 1048576 := by
  cases h : okLW xs r
  · rw [ansLW_no h]; simp
  · unfold ansLW
    rw [if_pos h, unrL_length]
    have h1 : good xs = true := by simp only [okLW, Bool.and_eq_true] at h; exact h.1
    have := (good_length h1).2
    omega
def ansRk (xs ws : List Int) : Int := if okLin xs ws then (rankN xs ws : Int) else 0
theorem ansRk_no {xs ws : List Int} (h : okLin xs ws = false) : ansRk xs ws = 0 := by simp [ansRk, h]
theorem ansRk_yes {xs ws : List Int} (h : okLin xs ws = true) : ansRk xs ws = (rankN xs ws : Int) := by simp [ansRk, h]
set_option maxHeartbeats 3200000 in
theorem specRankLinear_any (v : Value) (xs : List Int) (u : Value) (ws : List Int) (w : World) (hv : Ints w v xs) (hl : xs.length ≤ 1048576) (hu : Ints w u ws) (hm : ws.length ≤ 1048576) :
    Calls Try.prog 41 #[.agg #[v], u] w fun r w' => r = .returned (.tuple #[.int .i64 (ansRk xs ws), .bool (okLin xs ws)]) ∧ Below w.heap.size w w' := by
  have HV := hid hv
  have HU := hid hu
  obtain ⟨A, c, rfl, hA⟩ := hv
  have HA := hid hA
  obtain ⟨A2, c2, rfl, hA2⟩ := hu
  have HA2 := hid hA2
  clear hA hA2
  go_enter Try.func41, Try.ntmps41
  have HB := hid (below_alloc (Below.refl _ w) (.cells #[(.slice A xs.length c)] 35))
  have A0 := hid (At.newAt w (.slice A xs.length c) 35 w.heap.size (by simp))
  go_wp2_with fail
  refine (poGood_any _ xs _ (HV.out.below HB.out) hl).mono ?_
  rintro e w' ⟨rfl, hb⟩
  replace HB := hid (below_to HB.out hb)
  replace A0 := hid (A0.out.below hb)
  clear hb
  cases hq : good xs
  · have HO : Hid (okLin xs ws = false) := hid (okOrder_no (ys := ws) hq)
    clear hq
    have ebox0 := A0.out.1
    go_wp2
    go_ret2
    exact ⟨ret_ib (ansRk_no HO.out).symm HO.out.symm, HB.out⟩
  · have HQ := hid hq
    have HOO : Hid (okLin xs ws = orderB xs ws) := hid (okOrder_yes (ys := ws) hq)
    have hl10 := (good_length hq).2
    have hN2 := two_pow_le xs.length hl10
    obtain ⟨N, hN⟩ : ∃ N, 2 ^ xs.length = N := ⟨_, rfl⟩
    rw [hN] at hN2
    have HNe := hid hN
    clear hq hN
    have ebox0 := A0.out.1
    go_wp2_with fail
    clear ebox0
    refine (liIs_any _ _ xs ws _ (HV.out.below HB.out) (HU.out.below HB.out) HQ.out hm).mono ?_
    rintro e w' ⟨rfl, hb⟩
    replace HB := hid (below_to HB.out hb)
    replace A0 := hid (A0.out.below hb)
    clear hb
    cases ho : orderB xs ws
    · have HO := hid (HOO.out.trans ho)
      clear ho
      have ebox0 := A0.out.1
      go_wp2
      go_ret2
      exact ⟨ret_ib (ansRk_no HO.out).symm HO.out.symm, HB.out⟩
    · have HO := hid (HOO.out.trans ho)
      have HLw := hid (okLin_Lw HO.out)
      have HY := hid (ansRk_yes HO.out)
      have hw10 : ws.length ≤ 10 := by have := HLw.out.len; omega
      clear ho
      have ebox0 := A0.out.1
      go_wp2_with fail
      clear ebox0
      refine (liCounts_any _ xs N _ (HV.out.below HB.out) HQ.out HNe.out).mono ?_
      rintro e w' ⟨g, rfl, hT, hgw, hb⟩
      replace HB := hid (below_to HB.out hb)
      replace A0 := hid (A0.out.below hb)
      clear hb
      have HT := hid hT
      clear hT
      have ebox0 := A0.out.1
      go_wp2
      go_loopw [7, 8, 25] (fun q s i wr => ∃ k : Nat, k ≤ ws.length ∧ i = .int .i64 k ∧ q = .int .i64 ((rkS xs ws k).1 : Nat) ∧ s = .int .i64 ((rkS xs ws k).2 : Nat) ∧ wr = w') (fun _ _ i _ => ws.length - (intOf i).toNat)
      case atStart => exact ⟨0, Nat.zero_le _, rfl, rfl, rfl, rfl⟩
      case round =>
        obtain ⟨k, hk, rfl, rfl, rfl, rfl⟩ := hrel
        by_cases hlt : k < ws.length
        · obtain ⟨b2, o2, rfl, hbl2, hc2⟩ := HA2.out (by intro h; simp [h] at hlt)
          have hcell := (HB.out.cell (p := ⟨b2, o2 + k, none⟩) hbl2).trans (hc2 k hlt)
          have hin := HLw.out.at (j := k) (by have := HLw.out.len; omega)
          have hRk := rkS_le hl10 HLw.out k (by omega)
          have HSuc : Hid (rkS xs ws (k + 1) = ((rkS xs ws k).1 + sumN (nterm xs (rkS xs ws k).2) (ws.getD k 0).toNat, (rkS xs ws k).2 ||| 2 ^ (ws.getD k 0).toNat)) := hid rfl
          obtain ⟨e, he⟩ := Int.eq_ofNat_of_zero_le hin.1
          rw [he] at hcell hin HSuc
          rw [Int.toNat_natCast] at HSuc
          have hen : e < xs.length := by omega
          obtain ⟨s, hs⟩ : ∃ s, (rkS xs ws k).2 = s := ⟨_, rfl⟩
          obtain ⟨q, hq⟩ : ∃ q, (rkS xs ws k).1 = q := ⟨_, rfl⟩
          rw [hs, hq] at hRk HSuc ⊢
          obtain ⟨hq2, hS⟩ := hRk
          have hs10 : s < 1024 := lt1024 hS hl10
          have HS := hid hS
          have hq3 : q ≤ 1000000000000 := by omega
          clear hs hq hS hq2 hc2 he hin
          go_wp2
          clear hcell
          go_loopw [7, 11] (fun q' j wi => ∃ m : Nat, m ≤ e ∧ j = .int .i64 m ∧ q' = .int .i64 ((q + sumN (nterm xs s) m : Nat) : Int) ∧ wi = wr) (fun _ j _ => e - (intOf j).toNat)
          case atStart => exact ⟨0, Nat.zero_le _, rfl, rfl, rfl⟩
          case round =>
            obtain ⟨m, hm', rfl, rfl, rfl⟩ := hrel
            by_cases hme : m < e
            · have hmx : m < xs.length := by omega
              obtain ⟨b, o, rfl, hbl, hc⟩ := HA.out (by intro h; simp [h] at hmx)
              have hcell := (HB.out.cell (p := ⟨b, o + m, none⟩) hbl).trans (hc m hmx)
              have hr := row_lt HQ.out hmx
              have hr10 := row_lt10 HQ.out hmx
              obtain ⟨z, hz⟩ : ∃ z, row xs m = z := ⟨_, rfl⟩
              rw [hz] at hr hr10
              rw [hr.1] at hcell
              have HZ := hid hz
              have hx := nterm_le (xs := xs) hl10 s m
              have hsm := sumN_nterm_le (xs := xs) hl10 s (k := m) (by omega)
              have HSs := hid (sumN_succ (nterm xs s) m)
              have HNtN := hid (fun h => nterm_no (xs := xs) (s := s) (e := m) h)
              have HNtY := hid (fun h => nterm_yes (xs := xs) (s := s) (e := m) h)
              obtain ⟨x, hxe⟩ : ∃ x, nterm xs s m = x := ⟨_, rfl⟩
              rw [hxe] at HSs hx HNtN HNtY
              obtain ⟨y, hy⟩ : ∃ y, sumN (nterm xs s) m = y := ⟨_, rfl⟩
              rw [hy] at hsm HSs
              rw [hy]
              obtain ⟨f, hf⟩ : ∃ f, q + y = f := ⟨_, rfl⟩
              rw [hf]
              have HF := hid hf
              have hf3 : f ≤ 2000000000000 := by omega
              have hbx := A0.out.1
              have Hmx := hid hmx
              clear hxe hy hf hc hr hz hmx
              cases hbit : s.testBit m
              · have HBit := hid hbit
                have han := i64_andNot_nat z s (by omega) (by omega)
                by_cases h0 : sub z s = 0
                · have h0' : (((sub z s : Nat) : Int) == 0) = true := by rw [h0]; rfl
                  have hst := stepP_yes HZ.out hbit h0
                  have hqT : s ||| 2 ^ m < 2 ^ xs.length := Nat.or_lt_two_pow HS.out (pow_lt_len Hmx.out)
                  have hqN : s ||| 2 ^ m < N := by rw [← HNe.out]; exact hqT
                  have hcq : wr.cell? ⟨g, s ||| 2 ^ m, none⟩ = some (.int .i64 (x : Nat)) := by
                    rw [HT.out.cell, Vals_get (by rw [mkL_length]; exact hqN), mkL_getD hqN, endG_at hqT, HNtY.out hst]
                  have wp1 := wrap_pow' m (by omega)
                  have hor := or_pow s m hs10 (by omega)
                  obtain ⟨t, ht⟩ : ∃ t, s ||| 2 ^ m = t := ⟨_, rfl⟩
                  rw [ht] at hcq hor hqN
                  clear h0 hbit hst hqT ht
                  go_wp2_with (go_at_call 75; refine (poIn_any s m (by omega) _).mono ?_; rw [HBit.out]; rintro e' w2 ⟨rfl, rfl⟩)
                  go_roundw
                  case rel => exact ⟨m + 1, by omega, by go_num, (by rw [HSs.out]; have := HF.out; first | (congr 1; omega) | (simp; omega)), by first | trivial | rfl⟩
                  case measure => simp [intOf]; omega
                · have h0' : (((sub z s : Nat) : Int) == 0) = false := by rw [beq_eq_false_iff_ne]; omega
                  have hx0 := HNtN.out (stepP_no2 (s := s) HZ.out h0)
                  have HS0 := hid (show q + sumN (nterm xs s) (m + 1) = f by rw [HSs.out]; have := HF.out; omega)
                  clear h0 hbit hx0
                  go_wp2_with (go_at_call 75; refine (poIn_any s m (by omega) _).mono ?_; rw [HBit.out]; rintro e' w2 ⟨rfl, rfl⟩)
                  go_roundw
                  case rel => exact ⟨m + 1, by omega, by go_num, by rw [HS0.out], by first | trivial | rfl⟩
                  case measure => simp [intOf]; omega
              · have HBit := hid hbit
                have hx0 := HNtN.out (stepP_no1 (xs := xs) hbit)
                have HS0 := hid (show q + sumN (nterm xs s) (m + 1) = f by rw [HSs.out]; have := HF.out; omega)
                clear hbit hx0
                go_wp2_with (go_at_call 75; refine (poIn_any s m (by omega) _).mono ?_; rw [HBit.out]; rintro e' w2 ⟨rfl, rfl⟩)
                go_roundw
                case rel => exact ⟨m + 1, by omega, by go_num, by rw [HS0.out], by first | trivial | rfl⟩
                case measure => simp [intOf]; omega
            · obtain rfl : m = e := by omega
              have wp1 := wrap_pow' m (by omega)
              have hor := or_pow s m hs10 (by omega)
              go_wp2
              go_roundw
              case rel => exact ⟨k + 1, by omega, by go_num, by rw [HSuc.out], by rw [HSuc.out], by first | trivial | rfl⟩
              case measure => simp [intOf]; omega
        · obtain rfl : k = ws.length := by omega
          go_wp2
          go_ret2
          exact ⟨ret_ib (by rw [HY.out]; rfl) HO.out.symm, HB.out⟩
end Go.Proofs.Ytnlehkjfidpdlab
