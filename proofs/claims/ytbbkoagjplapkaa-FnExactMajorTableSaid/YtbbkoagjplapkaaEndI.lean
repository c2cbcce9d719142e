/- The program's table of counts: what goes on behind a set, a linear extension with a rank, a rank. -/
import Derived.Test.YtbbkoagjplapkaaEnd
import Derived.Test.YtbbkoagjplapkaaHeights
import Derived.Test.YtbbkoagjplapkaaLiIs
import Derived.Laws.Tables
import Derived.BigQuiet
namespace Go.Proofs.Ytbbkoagjplapkaa
open Go.RowKit Go.WideShapes Go.ChangeShapes
set_option linter.unusedVariables false

def nx (xs : List Int) (f : Nat → Nat) (s e : Nat) : Nat := if stepP xs s e = true then f (s ||| 2 ^ e) else 0
theorem nx_yes {xs : List Int} {f : Nat → Nat} {s e : Nat} (h : stepP xs s e = true) : nx xs f s e = f (s ||| 2 ^ e) := if_pos h
theorem nx_no {xs : List Int} {f : Nat → Nat} {s e : Nat} (h : stepP xs s e = false) : nx xs f s e = 0 := by unfold nx; rw [h]; rfl
theorem stepP_no1 {xs : List Int} {s e : Nat} (h : s.testBit e = true) : stepP xs s e = false := by simp [stepP, h]
theorem stepP_no2 {xs : List Int} {s e z : Nat} (hz : row xs e = z) (h : sub z s ≠ 0) : stepP xs s e = false := by simp [stepP, hz, h]
theorem stepP_yes {xs : List Int} {s e z : Nat} (hz : row xs e = z) (h1 : s.testBit e = false) (h : sub z s = 0) : stepP xs s e = true := by simp [stepP, hz, h, h1]
set_option maxHeartbeats 1600000 in
theorem nextWith_any (g : Nat) (f : Nat → Nat) (v : Value) (xs : List Int) (s e : Nat) (w : World) (hv : Ints w v xs) (hT : Blk w g 85 (Vals (mkL 1024 f))) (hg : good xs = true) (hs : s < 2 ^ xs.length) (he : e < xs.length) :
    Calls Try.prog 101 #[.pointer (some ⟨g, 0, none⟩), .agg #[v], .int .i64 s, .int .i64 e] w fun r w' => r = .returned (.int .i64 (nx xs f s e : Nat)) ∧ Below w.heap.size w w' := by
  have HV := hid hv
  have HT := hid hT
  have hgz := hT.lt
  have hl10 := (good_length hg).2
  have hs10 : s < 1024 := lt1024 hs hl10
  obtain ⟨A, c, rfl, hA⟩ := hv
  obtain ⟨b, o, rfl, hbl, hc⟩ := hA (by intro h; simp [h] at he)
  have hcell := hc e he
  have hr := row_lt hg he
  have hr10 := row_lt10 hg he
  obtain ⟨z, hz⟩ : ∃ z, row xs e = z := ⟨_, rfl⟩
  rw [hz] at hr hr10
  rw [hr.1] at hcell
  have hq : s ||| 2 ^ e < 1024 := Nat.or_lt_two_pow (n := 10) hs10 (Nat.pow_lt_pow_right (by decide) (by omega))
  have HZ := hid hz
  have HC := hid hcell
  have hwp := hid (wrap_pow' e (by omega))
  have hor := hid (or_pow s e hs10 (by omega))
  obtain ⟨q, hqe⟩ : ∃ q, s ||| 2 ^ e = q := ⟨_, rfl⟩
  rw [hqe] at hq hor
  have HQ := hid hqe
  have hcq : w.cell? ⟨g, q, none⟩ = some (.int .i64 (f q : Nat)) := by
    rw [hT.cell, Vals_get (by rw [mkL_length]; exact hq), mkL_getD hq]
  have HCQ := hid hcq
  clear hc hr hz hA hqe hcq hcell
  have HHE := hid (fun W => hasElement_any s e (by omega) (by omega) W)
  go_enter Try.func101, Try.ntmps101
  have HB := hid (below_alloc (Below.refl _ w) (.cells #[(.slice (some ⟨b, o, none⟩) xs.length c)] 52))
  have A0 := hid (At.newAt w (.slice (some ⟨b, o, none⟩) xs.length c) 52 w.heap.size (by simp))
  have ebox0 := A0.out.1
  have hcell := (HB.out.cell (p := ⟨b, o + e, none⟩) hbl).trans HC.out
  cases hbit : s.testBit e
  · have HBit := hid hbit
    have han := i64_andNot_nat z s (by omega) (by omega)
    by_cases h0 : sub z s = 0
    · have hs' : (((sub z s : Nat) : Int) != 0) = false := by rw [h0]; rfl
      have HN := hid ((nx_yes (f := f) (stepP_yes HZ.out hbit h0)).trans (by rw [HQ.out]))
      clear h0 hbit
      go_wp2_with (go_at_call 89; refine (HHE.out _).mono ?_; rw [HBit.out]; rintro e' w2 ⟨rfl, rfl⟩)
      clear hs' han hcell ebox0
      have wp1 := hwp.out
      have ho1 := hor.out
      have hcq1 := (HB.out.cell (p := ⟨g, q, none⟩) hgz).trans HCQ.out
      go_quiet (fail)
      clear wp1 ho1 hcq1
      go_wp2
      go_ret
      exact ⟨ret_int (by rw [HN.out]), below_drewN HB.out _⟩
    · have hs' : (((sub z s : Nat) : Int) != 0) = true := by rw [bne_iff_ne]; omega
      have HN := hid (nx_no (f := f) (stepP_no2 (s := s) HZ.out h0))
      clear h0 hbit
      go_wp2_with (go_at_call 89; refine (HHE.out _).mono ?_; rw [HBit.out]; rintro e' w2 ⟨rfl, rfl⟩)
      go_ret
      exact ⟨ret_int (by rw [HN.out]; rfl), HB.out⟩
  · have HBit := hid hbit
    have HN := hid (nx_no (f := f) (stepP_no1 (xs := xs) hbit))
    clear hbit hcell
    go_wp2_with (go_at_call 89; refine (HHE.out _).mono ?_; rw [HBit.out]; rintro e' w2 ⟨rfl, rfl⟩)
    go_ret
    exact ⟨ret_int (by rw [HN.out]; rfl), HB.out⟩
theorem endings_zero : Try.zeroCells85 = Vals (mkL 1024 (fun _ => 0)) := by rw [mkL_zero]; kernel_rfl
theorem nx_endP {xs : List Int} {s k : Nat} (hs : s < 2 ^ xs.length) (hk : k < xs.length) : nx xs (endP xs s k) s k = nterm xs s k := by
  cases h : stepP xs s k
  · rw [nx_no h, nterm_no h]
  · rw [nx_yes h, nterm_yes h, endP_above (Nat.or_lt_two_pow hs (pow_lt_len hk)) (or_gt (stepP_bit h))]
theorem nx_endG {xs : List Int} {s k : Nat} (hs : s < 2 ^ xs.length) (hk : k < xs.length) : nx xs (endG xs 0) s k = nterm xs s k := by
  cases h : stepP xs s k
  · rw [nx_no h, nterm_no h]
  · rw [nx_yes h, nterm_yes h, endG_at (Nat.or_lt_two_pow hs (pow_lt_len hk))]
set_option maxHeartbeats 3200000 in
theorem endingsOf_any (v : Value) (xs : List Int) (w : World) (hv : Ints w v xs) (hg : good xs = true) :
    Calls Try.prog 95 #[.agg #[v]] w fun (r : Ending) w' => ∃ g, r = Ending.returned (.pointer (some ⟨g, 0, none⟩)) ∧ Blk w' g 85 (Vals (mkL 1024 (endG xs 0))) ∧ w.heap.size ≤ g ∧ Below w.heap.size w w' := by
  have HV := hid hv
  have HG := hid hg
  have hl1 := (good_length hg).1
  have hl10 := (good_length hg).2
  have HZero := hid endings_zero
  obtain ⟨N, hN⟩ : ∃ N, 2 ^ xs.length = N := ⟨_, rfl⟩
  have hN2 := two_pow_le xs.length hl10
  have hN1 : 2 ≤ N := by rw [← hN]; calc 2 = 2 ^ 1 := rfl
                       _ ≤ 2 ^ xs.length := Nat.pow_le_pow_right (by decide) hl1
  have HTop := hid (fun t => endG_top (xs := xs) t)
  rw [hN] at hN2 HTop
  obtain ⟨M, hM⟩ : ∃ M, N - 1 = M := ⟨_, rfl⟩
  rw [hM] at HTop
  have hM1 : M < 1024 := by omega
  have hNM : N = M + 1 := by omega
  have HN := hid hN
  have HWS := hid (fun W => wholeSet_any xs.length hl10 W)
  rw [hN, hM] at HWS
  have hc0 : Try.zeroCells85[M]? = some (.int .i64 0) := by
    rw [HZero.out, Vals_get (by rw [mkL_length]; exact hM1), mkL_getD hM1]; rfl
  obtain ⟨A, c, rfl, -⟩ := hv
  have hMi : (M : Int) < 1024 := by omega
  clear hg hN hM
  go_enter Try.func95, Try.ntmps95
  go_wp2_with (go_at_call 99; refine (HWS.out _).mono ?_; rintro e w2 ⟨rfl, rfl⟩)
  rw [HZero.out, Vals_set]
  clear hc0 hMi
  have hstart : (mkL 1024 (fun _ => 0)).set M 1 = mkL 1024 (endG xs M) := by
    rw [show (1 : Int) = ((1 : Nat) : Int) from rfl, mkL_set 1 (by omega)]
    exact mkL_congr fun i _ => by rw [HTop.out]
  rw [hstart]
  clear hstart
  go_loopw [5] (fun i wr => ∃ S : Nat, S ≤ M ∧ i = .int .i64 ((S : Int) - 1) ∧ Blk wr (w.heap.size + 1) 85 (Vals (mkL 1024 (endG xs S))) ∧ At wr w.heap.size (.slice A xs.length c) ∧ Below w.heap.size w wr) (fun i _ => (intOf i + 1).toNat)
  case atStart => exact ⟨M, Nat.le_refl _, rfl, Blk.newAt _ _ _ _ (by simp), (At.new _ _ _).alloc _, below_alloc (below_alloc (Below.refl _ w) _) _⟩
  case round =>
    obtain ⟨S, hS, rfl, hB, ha, hb⟩ := hrel
    have HB1 := hid hB
    have HA1 := hid ha
    have Hb1 := hid hb
    have hbx := ha.1
    clear hB ha hb
    by_cases h0 : S = 0
    · subst h0
      clear hbx
      have hz : ((0 : Nat) : Int) - 1 = -1 := rfl
      rw [hz]
      go_wp2
      go_ret
      exact ⟨_, rfl, HB1.out, by omega, Hb1.out⟩
    · obtain ⟨s, rfl⟩ : ∃ s, S = s + 1 := ⟨S - 1, by omega⟩
      have hs1 : ((s + 1 : Nat) : Int) - 1 = (s : Int) := by omega
      rw [hs1]
      have hs10 : s < 1024 := by omega
      have hsN : s < 2 ^ xs.length := by rw [HN.out]; omega
      have HSN := hid hsN
      have HSlow := hid (show s < 2 ^ xs.length - 1 by rw [HN.out]; omega)
      clear hs1 h0 hsN
      go_wp2
      clear hbx
      go_loopw [26] (fun i wi => ∃ k : Nat, k ≤ xs.length ∧ i = .int .i64 k ∧ Blk wi (w.heap.size + 1) 85 (Vals (mkL 1024 (endP xs s k))) ∧ At wi w.heap.size (.slice A xs.length c) ∧ Below w.heap.size w wi) (fun i _ => xs.length - (intOf i).toNat)
      case atStart => exact ⟨0, Nat.zero_le _, rfl, (by rw [mkL_congr (fun t _ => endP_zero xs s t)]; exact HB1.out), HA1.out, Hb1.out⟩
      case round =>
        obtain ⟨k, hk, rfl, hB, ha, hb⟩ := hrel
        obtain ⟨wi, rfl⟩ : ∃ x, x = wr := ⟨wr, rfl⟩
        have HB2 := hid hB
        have HA2 := hid ha
        have Hb2 := hid hb
        clear hB ha hb
        by_cases hlt : k < xs.length
        · have HNX := hid (fun W (hW : Below wi.heap.size wi W) => nextWith_any (w.heap.size + 1) (endP xs s k) (.slice A xs.length c) xs s k W ((HV.out.below Hb2.out).below hW) (HB2.out.below hW HB2.out.lt) HG.out HSN.out hlt)
          rw [nx_endP HSN.out hlt] at HNX
          have hct : wi.cell? ⟨w.heap.size + 1, s, none⟩ = some (.int .i64 (endP xs s k s : Nat)) := by
            rw [HB2.out.cell, Vals_get (by rw [mkL_length]; exact hs10), mkL_getD hs10]
          have hft := HB2.out.frozen s
          have hy1 : endP xs s k s ≤ 100000000000 := by rw [endP_self]; exact sumN_nterm_le hl10 s hk
          have hy2 := nterm_le hl10 s k
          have HZ := hid (fun t => endP_succ xs s k t)
          obtain ⟨y, hy⟩ : ∃ y, endP xs s k s = y := ⟨_, rfl⟩
          rw [hy] at hct hy1 HZ
          obtain ⟨x, hx⟩ : ∃ x, nterm xs s k = x := ⟨_, rfl⟩
          rw [hx] at HNX hy2 HZ
          have hwv : IntKind.i64.wrap ((y : Int) + (x : Int)) = (y : Int) + (x : Int) := IntWalk.i64_in _ (by omega)
          have hsi : (s : Int) < 1024 := by omega
          have HCt := hid hct
          have hbx := HA2.out.1
          have hbxz := HA2.out.2
          clear hy hx
          go_wp2_with fail
          go_region_with (first | (go_at_call 101; refine (HNX.out _ (Below.refl _ wi).drew).mono ?_; rintro e' w3 ⟨rfl, hb3⟩; have H3 := hid (below_to (Below.refl _ wi).drew hb3); have HB3 := hid (HB2.out.below H3.out HB2.out.lt); have HA3 := hid (HA2.out.below H3.out); have hbx3 := HA3.out.1; have hct3 := (HB3.out.cell s).trans ((HB2.out.cell s).symm.trans HCt.out); have hft3 := HB3.out.frozen s; clear hb3))
          all_goals clear hct hft hct3 hft3 hwv hbx hbx3
          all_goals go_wp2
          all_goals go_roundw
          all_goals first
            | exact ⟨k + 1, by omega, by go_num, (by rw [mkL_congr (h := fun t => if t = s then y + x else endP xs s k t) (fun t _ => HZ.out t), ← mkL_set _ hs10, ← Vals_set]; exact HB3.out.set_ s _), HA3.out.far (by show w.heap.size ≠ w.heap.size + 1; omega) _, ((below_to Hb2.out H3.out).setCell (p := ⟨w.heap.size + 1, s, none⟩) (by show w.heap.size ≤ w.heap.size + 1; omega) _)⟩
            | (simp [intOf]; omega)
        · obtain rfl : k = xs.length := by omega
          go_wp2
          go_roundw
          case rel => exact ⟨s, by omega, by go_num, (by rw [mkL_congr (fun t _ => (endP_full HSlow.out t).symm)]; exact HB2.out), HA2.out, Hb2.out⟩
          case measure => simp [intOf]
end Go.Proofs.Ytbbkoagjplapkaa
