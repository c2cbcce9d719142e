/- The model's table of counts, a linear extension with a rank, the rank of one. -/
import Derived.Test.YtbbkoagjplapkaaEndW
namespace Go.Proofs.Ytbbkoagjplapkaa
open Go.RowKit Go.WideShapes Go.ChangeShapes
set_option linter.unusedVariables false

theorem mkL_succ (k : Nat) (f : Nat → Nat) : mkL (k + 1) f = mkL k f ++ [((f k : Nat) : Int)] := by
  unfold mkL; rw [List.range_succ, List.map_append]; rfl
set_option maxHeartbeats 3200000 in
theorem liCounts_any (v : Value) (xs : List Int) (N : Nat) (w : World) (hv : Ints w v xs) (hg : good xs = true) (hN : 2 ^ xs.length = N) :
    Calls Try.prog 92 #[.agg #[v]] w fun (r : Ending) w' => ∃ g, r = Ending.returned (.slice (some ⟨g, 0, none⟩) N N) ∧ Blk w' g 3 (Vals (mkL N (endG xs 0))) ∧ w.heap.size ≤ g ∧ Below w.heap.size w w' := by
  have HV := hid hv
  have HG := hid hg
  have hl1 := (good_length hg).1
  have hl10 := (good_length hg).2
  have wp : wrap64 ((2 : Int) ^ xs.length) = (N : Int) := by rw [wrap_pow xs.length hl10, hN]
  have hN2 := two_pow_le xs.length hl10
  have hN1 : 2 ≤ N := by rw [← hN]; calc 2 = 2 ^ 1 := rfl
                       _ ≤ 2 ^ xs.length := Nat.pow_le_pow_right (by decide) hl1
  have HTop := hid (fun t => endG_top (xs := xs) t)
  rw [hN] at hN2 HTop
  obtain ⟨M, hM⟩ : ∃ M, N - 1 = M := ⟨_, rfl⟩
  rw [hM] at HTop
  have hNM : N = M + 1 := by omega
  have HN := hid hN
  have hmk := run_make_row' (P := Try.prog) 27 3 (.int .i64 0) 8 Try.underlying27 Try.info3 rfl .i64 .i64 N (by omega) (by omega)
  have hc0 : (madeCells #[Value.int .i64 0] N)[M]? = some (.int .i64 0) := by
    rw [Vals_made, Vals_get (by simp; omega)]
    simp [List.getD, show M < N by omega]
  have e1 : (N : Int) - 1 = (M : Int) := by omega
  have e2 : (N : Int) - 2 = (M : Int) - 1 := by omega
  obtain ⟨A, c, rfl, hA⟩ := hv
  have HA := hid hA
  have HNM := hid hNM
  clear hg hN hM hA hNM
  go_enter Try.func92, Try.ntmps92
  go_wp2
  clear hmk hc0 e1 e2 wp
  rw [Vals_made, Vals_set]
  have hstart : (List.replicate N (0 : Int)).set M 1 = mkL N (endG xs M) := by
    rw [← mkL_zero, show (1 : Int) = ((1 : Nat) : Int) from rfl, mkL_set 1 (by have := HNM.out; omega)]
    exact mkL_congr fun i _ => by rw [HTop.out]
  rw [hstart]
  clear hstart
  go_loopw [5] (fun i wr => ∃ S : Nat, S ≤ M ∧ i = .int .i64 ((S : Int) - 1) ∧ Blk wr (w.heap.size + 1) 3 (Vals (mkL N (endG xs S))) ∧ At wr w.heap.size (.slice A xs.length c) ∧ Below w.heap.size w wr) (fun i _ => (intOf i + 1).toNat)
  case atStart => exact ⟨M, Nat.le_refl _, rfl, Blk.newAt _ _ _ _ (by simp), (At.new _ _ _).alloc _, below_alloc (below_alloc (Below.refl _ w) _) _⟩
  case round =>
    obtain ⟨S, hS, rfl, hB, ha, hb⟩ := hrel
    have HB1 := hid hB
    have HA1 := hid ha
    have Hb1 := hid hb
    have hbx := ha.1
    clear hB ha hb
    by_cases h0 : S = 0
    · subst h0
      clear hbx
      have hz : ((0 : Nat) : Int) - 1 = -1 := rfl
      rw [hz]
      go_wp2
      go_ret
      exact ⟨_, rfl, HB1.out, by omega, Hb1.out⟩
    · obtain ⟨s, rfl⟩ : ∃ s, S = s + 1 := ⟨S - 1, by omega⟩
      have hs1 : ((s + 1 : Nat) : Int) - 1 = (s : Int) := by omega
      rw [hs1]
      have hsn : s < N := by have := HNM.out; omega
      have hs10 : s < 1024 := by omega
      have hsN : s < 2 ^ xs.length := by rw [HN.out]; exact hsn
      have HSN := hid hsN
      have HSlow := hid (show s < 2 ^ xs.length - 1 by rw [HN.out]; have := HNM.out; omega)
      clear hs1 h0 hsN
      go_wp2
      clear hbx
      go_loopw [29] (fun i wi => ∃ k : Nat, k ≤ xs.length ∧ i = .int .i64 k ∧ Blk wi (w.heap.size + 1) 3 (Vals (mkL N (endP xs s k))) ∧ At wi w.heap.size (.slice A xs.length c) ∧ Below w.heap.size w wi) (fun i _ => xs.length - (intOf i).toNat)
      case atStart => exact ⟨0, Nat.zero_le _, rfl, (by rw [mkL_congr (fun t _ => endP_zero xs s t)]; exact HB1.out), HA1.out, Hb1.out⟩
      case round =>
        obtain ⟨k, hk, rfl, hB, ha, hb⟩ := hrel
        obtain ⟨wi, rfl⟩ : ∃ x, x = wr := ⟨wr, rfl⟩
        have HB2 := hid hB
        have HA2 := hid ha
        have Hb2 := hid hb
        clear hB ha hb
        by_cases hlt : k < xs.length
        · obtain ⟨b, o, rfl, hbl, hc⟩ := HA.out (by intro h; simp [h] at hlt)
          have hcell := (Hb2.out.cell (p := ⟨b, o + k, none⟩) hbl).trans (hc k hlt)
          have hr := row_lt HG.out hlt
          have hr10 := row_lt10 HG.out hlt
          obtain ⟨z, hz⟩ : ∃ z, row xs k = z := ⟨_, rfl⟩
          rw [hz] at hr hr10
          rw [hr.1] at hcell
          have HZ := hid hz
          clear hc hr hz
          cases hbit : s.testBit k
          · have HBit := hid hbit
            have han := i64_andNot_nat z s (by omega) (by omega)
            by_cases h0 : sub z s = 0
            · have h0' : (((sub z s : Nat) : Int) == 0) = true := by rw [h0]; rfl
              have hst := stepP_yes HZ.out hbit h0
              have hqN : s ||| 2 ^ k < N := by have := Nat.or_lt_two_pow HSN.out (pow_lt_len hlt); rw [HN.out] at this; exact this
              have hqv : endP xs s k (s ||| 2 ^ k) = nterm xs s k := by rw [← nx_endP HSN.out hlt, nx_yes hst]
              have hcq : wi.cell? ⟨w.heap.size + 1, s ||| 2 ^ k, none⟩ = some (.int .i64 (endP xs s k (s ||| 2 ^ k) : Nat)) := by
                rw [HB2.out.cell, Vals_get (by rw [mkL_length]; exact hqN), mkL_getD hqN]
              rw [hqv] at hcq
              have wp1 := wrap_pow' k (by omega)
              have hor := or_pow s k hs10 (by omega)
              obtain ⟨q, hq⟩ : ∃ q, s ||| 2 ^ k = q := ⟨_, rfl⟩
              rw [hq] at hcq hor hqN
              have hct : wi.cell? ⟨w.heap.size + 1, s, none⟩ = some (.int .i64 (endP xs s k s : Nat)) := by
                rw [HB2.out.cell, Vals_get (by rw [mkL_length]; exact hsn), mkL_getD hsn]
              have hft := HB2.out.frozen s
              have hy1 : endP xs s k s ≤ 100000000000 := by rw [endP_self]; exact sumN_nterm_le hl10 s hk
              have hy2 := nterm_le hl10 s k
              have HE := hid (fun t => endP_succ xs s k t)
              obtain ⟨y, hy⟩ : ∃ y, endP xs s k s = y := ⟨_, rfl⟩
              rw [hy] at hct hy1 HE
              obtain ⟨x, hx⟩ : ∃ x, nterm xs s k = x := ⟨_, rfl⟩
              rw [hx] at hcq hy2 HE
              clear h0 hbit hst hqv hq hy hx
              go_wp2_with (go_at_call 81; refine (poIn_any s k (by omega) _).mono ?_; rw [HBit.out]; rintro e' w2 ⟨rfl, rfl⟩)
              go_region
              go_wp2
              go_roundw
              case rel => exact ⟨k + 1, by omega, by go_num, (by rw [mkL_congr (h := fun t => if t = s then y + x else endP xs s k t) (fun t _ => HE.out t), ← mkL_set _ hsn, ← Vals_set]; exact HB2.out.set_ s _), HA2.out.far (by show w.heap.size ≠ w.heap.size + 1; omega) _, (Hb2.out.setCell (p := ⟨w.heap.size + 1, s, none⟩) (by show w.heap.size ≤ w.heap.size + 1; omega) _).drew⟩
              case measure => simp [intOf]; omega
            · have h0' : (((sub z s : Nat) : Int) == 0) = false := by rw [beq_eq_false_iff_ne]; omega
              have hnt := nterm_no (stepP_no2 (s := s) HZ.out h0)
              have HE := hid (fun t => endP_succ xs s k t)
              rw [hnt] at HE
              clear h0 hbit hnt
              go_wp2_with (go_at_call 81; refine (poIn_any s k (by omega) _).mono ?_; rw [HBit.out]; rintro e' w2 ⟨rfl, rfl⟩)
              go_roundw
              case rel => exact ⟨k + 1, by omega, by go_num, (by rw [mkL_congr (h := endP xs s k) (fun t _ => by rw [HE.out t]; split; (rename_i h; subst h; rfl); rfl)]; exact HB2.out), HA2.out, Hb2.out⟩
              case measure => simp [intOf]; omega
          · have HBit := hid hbit
            have hnt := nterm_no (stepP_no1 (xs := xs) hbit)
            have HE := hid (fun t => endP_succ xs s k t)
            rw [hnt] at HE
            clear hbit hnt
            go_wp2_with (go_at_call 81; refine (poIn_any s k (by omega) _).mono ?_; rw [HBit.out]; rintro e' w2 ⟨rfl, rfl⟩)
            go_roundw
            case rel => exact ⟨k + 1, by omega, by go_num, (by rw [mkL_congr (h := endP xs s k) (fun t _ => by rw [HE.out t]; split; (rename_i h; subst h; rfl); rfl)]; exact HB2.out), HA2.out, Hb2.out⟩
            case measure => simp [intOf]; omega
        · obtain rfl : k = xs.length := by omega
          go_wp2
          go_roundw
          case rel => exact ⟨s, by omega, by go_num, (by rw [mkL_congr (fun t _ => (endP_full HSlow.out t).symm)]; exact HB2.out), HA2.out, Hb2.out⟩
          case measure => simp [intOf]
set_option maxHeartbeats 3200000 in
theorem liWith_any (g N : Nat) (v : Value) (xs : List Int) (r : Nat) (w : World) (hv : Ints w v xs) (hT : Blk w g 3 (Vals (mkL N (endG xs 0)))) (hN : 2 ^ xs.length = N) (hg : good xs = true) (hr : r < ends xs 0) :
    Calls Try.prog 93 #[.agg #[v], .slice (some ⟨g, 0, none⟩) N N, .int .i64 r] w fun (res : Ending) w' => ∃ u, res = Ending.returned u ∧ OwnI 3 w' w.heap.size u (unrL xs r) ∧ Below w.heap.size w w' := by
  have HV := hid hv
  have HT := hid hT
  have HG := hid hg
  have HR := hid hr
  have hl1 := (good_length hg).1
  have hl10 := (good_length hg).2
  have hE := ends_le hl10 0
  have hr2 : r < 10000000000 := by omega
  have hN2 := two_pow_le xs.length hl10
  rw [hN] at hN2
  have HN := hid hN
  obtain ⟨A, c, rfl, hA⟩ := hv
  have HA := hid hA
  obtain ⟨n, hn⟩ : ∃ n, xs.length = n := ⟨_, rfl⟩
  have hn10 : n ≤ 10 := by omega
  have HNl := hid hn
  rw [hn]
  clear hT hg hr hE hn hN hA
  go_enter Try.func93, Try.ntmps93
  go_wp2
  go_loopw [2, 7, 8] (fun q u s wr => ∃ k : Nat, k ≤ n ∧ s = .int .i64 ((unS xs r k).1 : Nat) ∧ q = .int .i64 ((unS xs r k).2 : Nat) ∧ OwnI 3 wr (w.heap.size + 1) u (mkL k (unE xs r)) ∧ At wr w.heap.size (.slice A n c) ∧ Below w.heap.size w wr) (fun _ u _ _ => n - (match u with | .slice _ m _ => m | _ => 0))
  case atStart => exact ⟨0, Nat.zero_le _, rfl, rfl, OwnI.nil _ _ _, At.new _ _ _, below_alloc (Below.refl _ w) _⟩
  case round =>
    obtain ⟨k, hk, rfl, rfl, ho, ha, hb⟩ := hrel
    have HA1 := hid ha
    have Hb1 := hid hb
    obtain ⟨uA, uc, rfl, -⟩ := ho.shape
    rw [mkL_length] at ho ⊢
    have HO1 := hid ho
    have hbx := ha.1
    clear ho ha hb
    by_cases hlt : k < n
    · have hU := unS_ok HR.out k (by have := HNl.out; omega)
      have hP := hU.pick (by have := HNl.out; omega)
      have hS := hU.set
      have hq2 : (unS xs r k).2 < 10000000000 := by have h1 := hU.rank; have h2 := ends_le (xs := xs) (by have := HNl.out; omega) (unS xs r k).1; omega
      have HSuc := hid (unS_succ xs r k)
      have HRow := hid (mkL_succ k (unE xs r))
      have HPk : Hid (unE xs r k = pick (nterm xs (unS xs r k).1) (unS xs r k).2 xs.length) := hid rfl
      obtain ⟨s, hs⟩ : ∃ s, (unS xs r k).1 = s := ⟨_, rfl⟩
      obtain ⟨q, hq⟩ : ∃ q, (unS xs r k).2 = q := ⟨_, rfl⟩
      rw [hs, hq] at hP HPk
      rw [hs] at hS
      rw [hq] at hq2
      rw [hs, hq] at HSuc
      rw [hs, hq]
      obtain ⟨p, hp⟩ : ∃ p, pick (nterm xs s) q xs.length = p := ⟨_, rfl⟩
      rw [hp] at hP HPk
      rw [HPk.out] at HSuc HRow
      obtain ⟨hp1, hp2, hp3⟩ := hP
      have hs10 : s < 1024 := lt1024 hS (by have := HNl.out; omega)
      have HS := hid hS
      have hp10 : p < 10 := by have := HNl.out; omega
      have Hp2 := hid hp2
      have Hp3 := hid hp3
      have hpn : p < n := by have := HNl.out; omega
      have hkn : (k : Int) < (n : Int) := by omega
      clear hs hq hp hp1 hp2 hp3 hS hU HPk
      go_wp2
      clear hbx hkn
      go_loopw [2, 7, 8, 21] (fun q' u' s' e wi => ∃ j m : Nat, j ≤ p ∧ e = .int .i64 j ∧ q' = .int .i64 m ∧ u' = .slice uA k uc ∧ s' = .int .i64 (s : Nat) ∧ Hid (m + sumN (nterm xs s) j = q) ∧ m ≤ q ∧ wi = wr) (fun _ _ _ e _ => p - (intOf e).toNat)
      case atStart => exact ⟨0, q, Nat.zero_le _, rfl, rfl, rfl, rfl, hid (by simp [sumN]), Nat.le_refl _, rfl⟩
      case round =>
        obtain ⟨j, m, hj, rfl, rfl, rfl, rfl, HM, hm, rfl⟩ := hrel
        have hjn : j < n := by omega
        obtain ⟨b, o, rfl, hbl, hc⟩ := HA.out (by intro h; have := HNl.out; simp [h] at this; omega)
        have hjx : j < xs.length := by have := HNl.out; omega
        have hcell := (Hb1.out.cell (p := ⟨b, o + j, none⟩) hbl).trans (hc j hjx)
        have hr' := row_lt HG.out hjx
        have hr10 := row_lt10 HG.out hjx
        obtain ⟨z, hz⟩ : ∃ z, row xs j = z := ⟨_, rfl⟩
        rw [hz] at hr' hr10
        rw [hr'.1] at hcell
        have HZ := hid hz
        have hx := nterm_le (xs := xs) (by have := HNl.out; omega) s j
        have HSs := hid (sumN_succ (nterm xs s) j)
        have HNtN := hid (fun h => nterm_no (xs := xs) (s := s) (e := j) h)
        have HNtY := hid (fun h => nterm_yes (xs := xs) (s := s) (e := j) h)
        obtain ⟨x, hxe⟩ : ∃ x, nterm xs s j = x := ⟨_, rfl⟩
        rw [hxe] at hx HSs HNtN HNtY
        have Hjx := hid hjx
        clear hc hr' hz hxe hjx
        cases hbit : s.testBit j
        · have HBit := hid hbit
          have han := i64_andNot_nat z s (by omega) (by omega)
          by_cases h0 : sub z s = 0
          · have h0' : (((sub z s : Nat) : Int) != 0) = false := by rw [h0]; rfl
            have hst := stepP_yes HZ.out hbit h0
            have hqT : s ||| 2 ^ j < 2 ^ xs.length := Nat.or_lt_two_pow HS.out (pow_lt_len Hjx.out)
            have hqN : s ||| 2 ^ j < N := by rw [← HN.out]; exact hqT
            have hcq : wr.cell? ⟨g, s ||| 2 ^ j, none⟩ = some (.int .i64 (x : Nat)) := by
              rw [(HT.out.below Hb1.out HT.out.lt).cell, Vals_get (by rw [mkL_length]; exact hqN), mkL_getD hqN, endG_at hqT, HNtY.out hst]
            have wp1 := wrap_pow' j (by omega)
            have hor := or_pow s j hs10 (by omega)
            obtain ⟨t, ht⟩ : ∃ t, s ||| 2 ^ j = t := ⟨_, rfl⟩
            have HTq := hid ht
            rw [ht] at hcq hor hqN
            clear h0 hbit hst hqT ht
            by_cases hjp : j = p
            · subst hjp
              have hmx : m < x := by have h1 := HM.out; have h2 := Hp3.out; rw [HSs.out] at h2; omega
              have HM2 := hid (show m = q - sumN (nterm xs s) j by have := HM.out; omega)
              have hwz : w.heap.size + 1 ≤ wr.heap.size := HA1.out.2
              go_wp2_with (first | (go_at_call 81; refine (poIn_any s j (by omega) _).mono ?_; rw [HBit.out]; rintro e' w2 ⟨rfl, rfl⟩) | (at_builtin; refine wpList_append_int rfl _ _ 27 3 rfl Try.underlying27 Try.info3 (w.heap.size + 1) _ (mkL k (unE xs r)) (j : Int) rfl HO1.out rfl rfl (by rw [mkL_length]; omega) hwz ?_; rintro u3 w3 ho3 hb3))
              go_roundw
              case rel => exact ⟨k + 1, by omega, by rw [HSuc.out, HTq.out], by rw [HSuc.out, HM2.out], (by rw [HRow.out]; exact ho3), ⟨(hb3.cell (p := ⟨w.heap.size, 0, none⟩) (by show w.heap.size < w.heap.size + 1; omega)).trans HA1.out.1, Nat.lt_of_lt_of_le HA1.out.2 hb3.size⟩, Hb1.out.trans (hb3.mono (by omega))⟩
              case measure => obtain ⟨A3, c3, rfl, -⟩ := ho3.shape; simp [mkL_length]; omega
            · have hmx : x ≤ m := by
                have h1 := HM.out; have h2 := Hp2.out
                have h3 := sumN_mono (nterm xs s) (show j + 1 ≤ p by omega)
                rw [HSs.out] at h3; omega
              have hd1 : decide ((m : Int) < (x : Int)) = false := by simp; omega
              have hsub : (m : Int) - (x : Int) = ((m - x : Nat) : Int) := by omega
              obtain ⟨d, hd⟩ : ∃ d, m - x = d := ⟨_, rfl⟩
              have HD := hid hd
              rw [hd] at hsub
              have hdq : d ≤ q := by omega
              have hwd : IntKind.i64.wrap (d : Int) = (d : Int) := IntWalk.i64_in _ (by omega)
              clear hd
              go_wp2_with (go_at_call 81; refine (poIn_any s j (by omega) _).mono ?_; rw [HBit.out]; rintro e' w2 ⟨rfl, rfl⟩)
              go_roundw
              case rel => exact ⟨j + 1, d, by omega, by go_num, by first | rfl | go_num, rfl, rfl, hid (by rw [HSs.out]; have h1 := HM.out; have h2 := HD.out; omega), hdq, by first | trivial | rfl⟩
              case measure => simp [intOf]; omega
          · have h0' : (((sub z s : Nat) : Int) != 0) = true := by rw [bne_iff_ne]; omega
            have hx0 := HNtN.out (stepP_no2 (s := s) HZ.out h0)
            have hjp : j ≠ p := by
              rintro rfl
              have h1 := HM.out; have h2 := Hp3.out; rw [HSs.out] at h2; omega
            have HS0 := hid (show sumN (nterm xs s) (j + 1) = sumN (nterm xs s) j by rw [HSs.out]; omega)
            clear h0 hbit hx0
            go_wp2_with (go_at_call 81; refine (poIn_any s j (by omega) _).mono ?_; rw [HBit.out]; rintro e' w2 ⟨rfl, rfl⟩)
            go_roundw
            case rel => exact ⟨j + 1, m, by omega, by go_num, rfl, rfl, rfl, hid (by rw [HS0.out]; exact HM.out), hm, by first | trivial | rfl⟩
            case measure => simp [intOf]; omega
        · have HBit := hid hbit
          have hx0 := HNtN.out (stepP_no1 (xs := xs) hbit)
          have hjp : j ≠ p := by
            rintro rfl
            have h1 := HM.out; have h2 := Hp3.out; rw [HSs.out] at h2; omega
          have HS0 := hid (show sumN (nterm xs s) (j + 1) = sumN (nterm xs s) j by rw [HSs.out]; omega)
          clear hbit hx0
          go_wp2_with (go_at_call 81; refine (poIn_any s j (by omega) _).mono ?_; rw [HBit.out]; rintro e' w2 ⟨rfl, rfl⟩)
          go_roundw
          case rel => exact ⟨j + 1, m, by omega, by go_num, rfl, rfl, rfl, hid (by rw [HS0.out]; exact HM.out), hm, by first | trivial | rfl⟩
          case measure => simp [intOf]; omega
    · obtain rfl : k = n := by omega
      have HO : Hid (OwnI 3 wr w.heap.size (.slice uA k uc) (unrL xs r)) := hid (by
        have h2 := HO1.out
        unfold unrL; rw [HNl.out]; exact h2.mono (by omega))
      go_wp2
      go_ret
      exact ⟨_, rfl, HO.out, Hb1.out⟩
end Go.Proofs.Ytbbkoagjplapkaa
