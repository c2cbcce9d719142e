/- Texts EndS, one behind the other. -/
import Derived.Laws.Tables
import Derived.BigQuiet
import Derived.Test.YtpdoheagfjeefaaPkLinearRankedProof02
import Derived.Test.YtpdoheagfjeefaaPkLinearRankedProof09
/- The program's table of counts: what goes on behind a set, a linear extension with a rank, a rank. · The program's linear extension with a rank, and the rank of one. · The model's table of counts, a linear extension with a rank, the rank of one. -/
namespace Go.Proofs.Ytpdoheagfjeefaa
open Go.RowKit Go.WideShapes Go.ChangeShapes
set_option linter.unusedVariables false

def nx (xs : List Int) (f : Nat → Nat) (s e : Nat) : Nat := if stepP xs s e = true then f (s ||| 2 ^ e) else 0
theorem nx_yes {xs : List Int} {f : Nat → Nat} {s e : Nat} (h : stepP xs s e = true) : nx xs f s e = f (s ||| 2 ^ e) := if_pos h
theorem nx_no {xs : List Int} {f : Nat → Nat} {s e : Nat} (h : stepP xs s e = false) : nx xs f s e = 0 := by unfold nx; rw [h]; rfl
theorem stepP_no1 {xs : List Int} {s e : Nat} (h : s.testBit e = true) : stepP xs s e = false := by simp [stepP, h]
theorem stepP_no2 {xs : List Int} {s e z : Nat} (hz : row xs e = z) (h : sub z s ≠ 0) : stepP xs s e = false := by simp [stepP, hz, h]
theorem stepP_yes {xs : List Int} {s e z : Nat} (hz : row xs e = z) (h1 : s.testBit e = false) (h : sub z s = 0) : stepP xs s e = true := by simp [stepP, hz, h, h1]
set_option maxHeartbeats 1600000 in
theorem nextWith_any (g : Nat) (f : Nat → Nat) (v : Value) (xs : List Int) (s e : Nat) (w : World) (hv : Ints w v xs) (hT : Blk w g 107 (Vals (mkL 1024 f))) (hg : good xs = true) (hs : s < 2 ^ xs.length) (he : e < xs.length) :
    Calls Try.prog 146 #[.pointer (some ⟨g, 0, none⟩), .agg #[v], .int .i64 s, .int .i64 e] w fun r w' => r = .returned (.int .i64 (nx xs f s e : Nat)) ∧ Below w.heap.size w w' := by
  have HV := hid hv
  have HT := hid hT
  have hgz := hT.lt
  have hl10 := (good_length hg).2
  have hs10 : s < 1024 := lt1024 hs hl10
  obtain ⟨A, c, rfl, hA⟩ := hv
  obtain ⟨b, o, rfl, hbl, hc⟩ := hA (by intro h; simp [h] at he)
  have hcell := hc e he
  have hr := row_lt hg he
  have hr10 := row_lt10 hg he
  obtain ⟨z, hz⟩ : ∃ z, row xs e = z := ⟨_, rfl⟩
  rw [hz] at hr hr10
  rw [hr.1] at hcell
  have hq : s ||| 2 ^ e < 1024 := Nat.or_lt_two_pow (n := 10) hs10 (Nat.pow_lt_pow_right (by decide) (by omega))
  have HZ := hid hz
  have HC := hid hcell
  have hwp := hid (wrap_pow' e (by omega))
  have hor := hid (or_pow s e hs10 (by omega))
  obtain ⟨q, hqe⟩ : ∃ q, s ||| 2 ^ e = q := ⟨_, rfl⟩
  rw [hqe] at hq hor
  have HQ := hid hqe
  have hcq : w.cell? ⟨g, q, none⟩ = some (.int .i64 (f q : Nat)) := by
    rw [hT.cell, Vals_get (by rw [mkL_length]; exact hq), mkL_getD hq]
  have HCQ := hid hcq
  clear hc hr hz hA hqe hcq hcell
  have HHE := hid (fun W => hasElement_any s e (by omega) (by omega) W)
  go_enter Try.func146, Try.ntmps146
  have HB := hid (below_alloc (Below.refl _ w) (.cells #[(.slice (some ⟨b, o, none⟩) xs.length c)] 26))
  have A0 := hid (At.newAt w (.slice (some ⟨b, o, none⟩) xs.length c) 26 w.heap.size (by simp))
  have ebox0 := A0.out.1
  have hcell := (HB.out.cell (p := ⟨b, o + e, none⟩) hbl).trans HC.out
  cases hbit : s.testBit e
  · have HBit := hid hbit
    have han := i64_andNot_nat z s (by omega) (by omega)
    by_cases h0 : sub z s = 0
    · have hs' : (((sub z s : Nat) : Int) != 0) = false := by rw [h0]; rfl
      have HN := hid ((nx_yes (f := f) (stepP_yes HZ.out hbit h0)).trans (by rw [HQ.out]))
      clear h0 hbit
      go_wp2_with (go_at_call 94; refine (HHE.out _).mono ?_; rw [HBit.out]; rintro e' w2 ⟨rfl, rfl⟩)
      clear hs' han hcell ebox0
      have wp1 := hwp.out
      have ho1 := hor.out
      have hcq1 := (HB.out.cell (p := ⟨g, q, none⟩) hgz).trans HCQ.out
      go_quiet (fail)
      clear wp1 ho1 hcq1
      go_wp2
      go_ret
      exact ⟨ret_int (by rw [HN.out]), below_drewN HB.out _⟩
    · have hs' : (((sub z s : Nat) : Int) != 0) = true := by rw [bne_iff_ne]; omega
      have HN := hid (nx_no (f := f) (stepP_no2 (s := s) HZ.out h0))
      clear h0 hbit
      go_wp2_with (go_at_call 94; refine (HHE.out _).mono ?_; rw [HBit.out]; rintro e' w2 ⟨rfl, rfl⟩)
      go_ret
      exact ⟨ret_int (by rw [HN.out]; rfl), HB.out⟩
  · have HBit := hid hbit
    have HN := hid (nx_no (f := f) (stepP_no1 (xs := xs) hbit))
    clear hbit hcell
    go_wp2_with (go_at_call 94; refine (HHE.out _).mono ?_; rw [HBit.out]; rintro e' w2 ⟨rfl, rfl⟩)
    go_ret
    exact ⟨ret_int (by rw [HN.out]; rfl), HB.out⟩
theorem endings_zero : Try.zeroCells107 = Vals (mkL 1024 (fun _ => 0)) := by rw [mkL_zero]; kernel_rfl
theorem nx_endP {xs : List Int} {s k : Nat} (hs : s < 2 ^ xs.length) (hk : k < xs.length) : nx xs (endP xs s k) s k = nterm xs s k := by
  cases h : stepP xs s k
  · rw [nx_no h, nterm_no h]
  · rw [nx_yes h, nterm_yes h, endP_above (Nat.or_lt_two_pow hs (pow_lt_len hk)) (or_gt (stepP_bit h))]
theorem nx_endG {xs : List Int} {s k : Nat} (hs : s < 2 ^ xs.length) (hk : k < xs.length) : nx xs (endG xs 0) s k = nterm xs s k := by
  cases h : stepP xs s k
  · rw [nx_no h, nterm_no h]
  · rw [nx_yes h, nterm_yes h, endG_at (Nat.or_lt_two_pow hs (pow_lt_len hk))]
set_option maxHeartbeats 3200000 in
theorem endingsOf_any (v : Value) (xs : List Int) (w : World) (hv : Ints w v xs) (hg : good xs = true) :
    Calls Try.prog 90 #[.agg #[v]] w fun (r : Ending) w' => ∃ g, r = Ending.returned (.pointer (some ⟨g, 0, none⟩)) ∧ Blk w' g 107 (Vals (mkL 1024 (endG xs 0))) ∧ w.heap.size ≤ g ∧ Below w.heap.size w w' := by
  have HV := hid hv
  have HG := hid hg
  have hl1 := (good_length hg).1
  have hl10 := (good_length hg).2
  have HZero := hid endings_zero
  obtain ⟨N, hN⟩ : ∃ N, 2 ^ xs.length = N := ⟨_, rfl⟩
  have hN2 := two_pow_le xs.length hl10
  have hN1 : 2 ≤ N := by rw [← hN]; calc 2 = 2 ^ 1 := rfl
                       _ ≤ 2 ^ xs.length := Nat.pow_le_pow_right (by decide) hl1
  have HTop := hid (fun t => endG_top (xs := xs) t)
  rw [hN] at hN2 HTop
  obtain ⟨M, hM⟩ : ∃ M, N - 1 = M := ⟨_, rfl⟩
  rw [hM] at HTop
  have hM1 : M < 1024 := by omega
  have hNM : N = M + 1 := by omega
  have HN := hid hN
  have HWS := hid (fun W => wholeSet_any xs.length hl10 W)
  rw [hN, hM] at HWS
  have hc0 : Try.zeroCells107[M]? = some (.int .i64 0) := by
    rw [HZero.out, Vals_get (by rw [mkL_length]; exact hM1), mkL_getD hM1]; rfl
  obtain ⟨A, c, rfl, -⟩ := hv
  have hMi : (M : Int) < 1024 := by omega
  clear hg hN hM
  go_enter Try.func90, Try.ntmps90
  go_wp2_with (go_at_call 144; refine (HWS.out _).mono ?_; rintro e w2 ⟨rfl, rfl⟩)
  rw [HZero.out, Vals_set]
  clear hc0 hMi
  have hstart : (mkL 1024 (fun _ => 0)).set M 1 = mkL 1024 (endG xs M) := by
    rw [show (1 : Int) = ((1 : Nat) : Int) from rfl, mkL_set 1 (by omega)]
    exact mkL_congr fun i _ => by rw [HTop.out]
  rw [hstart]
  clear hstart
  go_loopw [5] (fun i wr => ∃ S : Nat, S ≤ M ∧ i = .int .i64 ((S : Int) - 1) ∧ Blk wr (w.heap.size + 1) 107 (Vals (mkL 1024 (endG xs S))) ∧ At wr w.heap.size (.slice A xs.length c) ∧ Below w.heap.size w wr) (fun i _ => (intOf i + 1).toNat)
  case atStart => exact ⟨M, Nat.le_refl _, rfl, Blk.newAt _ _ _ _ (by simp), (At.new _ _ _).alloc _, below_alloc (below_alloc (Below.refl _ w) _) _⟩
  case round =>
    obtain ⟨S, hS, rfl, hB, ha, hb⟩ := hrel
    have HB1 := hid hB
    have HA1 := hid ha
    have Hb1 := hid hb
    have hbx := ha.1
    clear hB ha hb
    by_cases h0 : S = 0
    · subst h0
      clear hbx
      have hz : ((0 : Nat) : Int) - 1 = -1 := rfl
      rw [hz]
      go_wp2
      go_ret
      exact ⟨_, rfl, HB1.out, by omega, Hb1.out⟩
    · obtain ⟨s, rfl⟩ : ∃ s, S = s + 1 := ⟨S - 1, by omega⟩
      have hs1 : ((s + 1 : Nat) : Int) - 1 = (s : Int) := by omega
      rw [hs1]
      have hs10 : s < 1024 := by omega
      have hsN : s < 2 ^ xs.length := by rw [HN.out]; omega
      have HSN := hid hsN
      have HSlow := hid (show s < 2 ^ xs.length - 1 by rw [HN.out]; omega)
      clear hs1 h0 hsN
      go_wp2
      clear hbx
      go_loopw [26] (fun i wi => ∃ k : Nat, k ≤ xs.length ∧ i = .int .i64 k ∧ Blk wi (w.heap.size + 1) 107 (Vals (mkL 1024 (endP xs s k))) ∧ At wi w.heap.size (.slice A xs.length c) ∧ Below w.heap.size w wi) (fun i _ => xs.length - (intOf i).toNat)
      case atStart => exact ⟨0, Nat.zero_le _, rfl, (by rw [mkL_congr (fun t _ => endP_zero xs s t)]; exact HB1.out), HA1.out, Hb1.out⟩
      case round =>
        obtain ⟨k, hk, rfl, hB, ha, hb⟩ := hrel
        obtain ⟨wi, rfl⟩ : ∃ x, x = wr := ⟨wr, rfl⟩
        have HB2 := hid hB
        have HA2 := hid ha
        have Hb2 := hid hb
        clear hB ha hb
        by_cases hlt : k < xs.length
        · have HNX := hid (fun W (hW : Below wi.heap.size wi W) => nextWith_any (w.heap.size + 1) (endP xs s k) (.slice A xs.length c) xs s k W ((HV.out.below Hb2.out).below hW) (HB2.out.below hW HB2.out.lt) HG.out HSN.out hlt)
          rw [nx_endP HSN.out hlt] at HNX
          have hct : wi.cell? ⟨w.heap.size + 1, s, none⟩ = some (.int .i64 (endP xs s k s : Nat)) := by
            rw [HB2.out.cell, Vals_get (by rw [mkL_length]; exact hs10), mkL_getD hs10]
          have hft := HB2.out.frozen s
          have hy1 : endP xs s k s ≤ 100000000000 := by rw [endP_self]; exact sumN_nterm_le hl10 s hk
          have hy2 := nterm_le hl10 s k
          have HZ := hid (fun t => endP_succ xs s k t)
          obtain ⟨y, hy⟩ : ∃ y, endP xs s k s = y := ⟨_, rfl⟩
          rw [hy] at hct hy1 HZ
          obtain ⟨x, hx⟩ : ∃ x, nterm xs s k = x := ⟨_, rfl⟩
          rw [hx] at HNX hy2 HZ
          have hwv : IntKind.i64.wrap ((y : Int) + (x : Int)) = (y : Int) + (x : Int) := IntWalk.i64_in _ (by omega)
          have hsi : (s : Int) < 1024 := by omega
          have HCt := hid hct
          have hbx := HA2.out.1
          have hbxz := HA2.out.2
          clear hy hx
          go_wp2_with fail
          go_region_with (first | (go_at_call 146; refine (HNX.out _ (Below.refl _ wi).drew).mono ?_; rintro e' w3 ⟨rfl, hb3⟩; have H3 := hid (below_to (Below.refl _ wi).drew hb3); have HB3 := hid (HB2.out.below H3.out HB2.out.lt); have HA3 := hid (HA2.out.below H3.out); have hbx3 := HA3.out.1; have hct3 := (HB3.out.cell s).trans ((HB2.out.cell s).symm.trans HCt.out); have hft3 := HB3.out.frozen s; clear hb3))
          all_goals clear hct hft hct3 hft3 hwv hbx hbx3
          all_goals go_wp2
          all_goals go_roundw
          all_goals first
            | exact ⟨k + 1, by omega, by go_num, (by rw [mkL_congr (h := fun t => if t = s then y + x else endP xs s k t) (fun t _ => HZ.out t), ← mkL_set _ hs10, ← Vals_set]; exact HB3.out.set_ s _), HA3.out.far (by show w.heap.size ≠ w.heap.size + 1; omega) _, ((below_to Hb2.out H3.out).setCell (p := ⟨w.heap.size + 1, s, none⟩) (by show w.heap.size ≤ w.heap.size + 1; omega) _)⟩
            | (simp [intOf]; omega)
        · obtain rfl : k = xs.length := by omega
          go_wp2
          go_roundw
          case rel => exact ⟨s, by omega, by go_num, (by rw [mkL_congr (fun t _ => (endP_full HSlow.out t).symm)]; exact HB2.out), HA2.out, Hb2.out⟩
          case measure => simp [intOf]
end Go.Proofs.Ytpdoheagfjeefaa
namespace Go.Proofs.Ytpdoheagfjeefaa
open Go.RowKit Go.WideShapes Go.ChangeShapes
set_option linter.unusedVariables false

def rowW (xs : List Int) (r i j : Nat) : Nat := if j < i then unE xs r j else 0
theorem rowW_zero (xs : List Int) (r : Nat) : mkL xs.length (rowW xs r 0) = List.replicate xs.length 0 := by
  rw [← mkL_zero]; exact mkL_congr fun j _ => by simp [rowW]
theorem rowW_succ (xs : List Int) (r i : Nat) (hi : i < xs.length) : mkL xs.length (rowW xs r (i + 1)) = (mkL xs.length (rowW xs r i)).set i ((unE xs r i : Nat) : Int) :=
  mkL_upd _ hi fun j _ => by
    unfold rowW
    by_cases h : j = i
    · subst h; simp
    · rw [if_neg h]; by_cases h2 : j < i
      · rw [if_pos h2, if_pos (by omega)]
      · rw [if_neg h2, if_neg (by omega)]
theorem rowW_full (xs : List Int) (r : Nat) : mkL xs.length (rowW xs r xs.length) = unrL xs r := mkL_congr fun j hj => by simp [rowW, hj]
theorem unrL_length (xs : List Int) (r : Nat) : (unrL xs r).length = xs.length := mkL_length _ _
theorem sumN_succ (f : Nat → Nat) (k : Nat) : sumN f (k + 1) = sumN f k + f k := rfl
set_option maxHeartbeats 3200000 in
theorem linearWith_any (g : Nat) (v : Value) (xs : List Int) (r : Nat) (w : World) (hv : Ints w v xs) (hT : Blk w g 107 (Vals (mkL 1024 (endG xs 0)))) (hg : good xs = true) (hr : r < ends xs 0) :
    Calls Try.prog 131 #[.pointer (some ⟨g, 0, none⟩), .agg #[v], .int .i64 r] w fun (res : Ending) w' => ∃ u, res = Ending.returned u ∧ OwnI 3 w' w.heap.size u (unrL xs r) ∧ Below w.heap.size w w' := by
  have HV := hid hv
  have HT := hid hT
  have HG := hid hg
  have HR := hid hr
  have hl1 := (good_length hg).1
  have hl10 := (good_length hg).2
  have hE := ends_le hl10 0
  have hr2 : r < 10000000000 := by omega
  obtain ⟨A, c, rfl, -⟩ := hv
  obtain ⟨n, hn⟩ : ∃ n, xs.length = n := ⟨_, rfl⟩
  have hn10 : n ≤ 10 := by omega
  have HNl := hid hn
  have HV2 : Hid (Ints w (.slice A n c) xs) := hid (by rw [← hn]; exact HV.out)
  have hmk := run_make_row' (P := Try.prog) 24 3 (.int .i64 0) 8 Try.underlying24 Try.info3 rfl .i64 .i64 n (by omega) (by omega)
  rw [hn]
  clear hT hg hr hE hn
  go_enter Try.func131, Try.ntmps131
  go_wp2
  clear hmk
  rw [Vals_made]
  go_loopw [2, 8, 17] (fun q s i wr => ∃ k : Nat, k ≤ n ∧ i = .int .i64 k ∧ s = .int .i64 ((unS xs r k).1 : Nat) ∧ q = .int .i64 ((unS xs r k).2 : Nat) ∧ Blk wr (w.heap.size + 1) 3 (Vals (mkL n (rowW xs r k))) ∧ At wr w.heap.size (.slice A n c) ∧ Below w.heap.size w wr) (fun _ _ i _ => n - (intOf i).toNat)
  case atStart => exact ⟨0, Nat.zero_le _, rfl, rfl, rfl, (by have h := rowW_zero xs r; rw [HNl.out] at h; rw [h]; exact Blk.newAt _ _ _ _ (by simp)), (At.new _ _ _).alloc _, below_alloc (below_alloc (Below.refl _ w) _) _⟩
  case round =>
    obtain ⟨k, hk, rfl, rfl, rfl, hB, ha, hb⟩ := hrel
    have HB1 := hid hB
    have HA1 := hid ha
    have Hb1 := hid hb
    clear hB ha hb
    by_cases hlt : k < n
    · have hU := unS_ok HR.out k (by have := HNl.out; omega)
      have HU := hid hU
      have hP := hU.pick (by have := HNl.out; omega)
      have hS := hU.set
      have hq2 : (unS xs r k).2 < 10000000000 := by have h1 := hU.rank; have h2 := ends_le (xs := xs) (by have := HNl.out; omega) (unS xs r k).1; omega
      have HSuc := hid (unS_succ xs r k)
      have HRow := hid (rowW_succ xs r k (by have := HNl.out; omega))
      have HPk : Hid (unE xs r k = pick (nterm xs (unS xs r k).1) (unS xs r k).2 xs.length) := hid rfl
      obtain ⟨s, hs⟩ : ∃ s, (unS xs r k).1 = s := ⟨_, rfl⟩
      obtain ⟨q, hq⟩ : ∃ q, (unS xs r k).2 = q := ⟨_, rfl⟩
      rw [hs, hq] at hP HPk
      rw [hs] at hS
      rw [hq] at hq2
      rw [hs, hq] at HSuc
      rw [hs, hq]
      obtain ⟨p, hp⟩ : ∃ p, pick (nterm xs s) q xs.length = p := ⟨_, rfl⟩
      rw [hp] at hP HPk
      rw [HPk.out] at HSuc HRow
      obtain ⟨hp1, hp2, hp3⟩ := hP
      have hs10 : s < 1024 := lt1024 hS (by have := HNl.out; omega)
      have HS := hid hS
      have hp10 : p < 10 := by have := HNl.out; omega
      have Hp1 := hid hp1
      have Hp2 := hid hp2
      have Hp3 := hid hp3
      have HNT := hid (fun e => nterm_le (xs := xs) (by have := HNl.out; omega) s e)
      have hpn : p < n := by have := HNl.out; omega
      clear hs hq hp hp1 hp2 hp3 hS hU HU HPk
      have hbx := HA1.out.1
      go_wp2
      clear hbx
      go_loopw [2, 10] (fun q' e wi => ∃ j m : Nat, j ≤ p ∧ e = .int .i64 j ∧ q' = .int .i64 m ∧ Hid (m + sumN (nterm xs s) j = q) ∧ m ≤ q ∧ Blk wi (w.heap.size + 1) 3 (Vals (mkL n (rowW xs r k))) ∧ At wi w.heap.size (.slice A n c) ∧ Below w.heap.size w wi) (fun _ e _ => p - (intOf e).toNat)
      case atStart => exact ⟨0, q, Nat.zero_le _, rfl, rfl, hid (by simp [sumN]), Nat.le_refl _, HB1.out, HA1.out, Hb1.out⟩
      case round =>
        obtain ⟨j, m, hj, rfl, rfl, HM, hm, hB, ha, hb⟩ := hrel
        obtain ⟨wi, rfl⟩ : ∃ x, x = wr := ⟨wr, rfl⟩
        have HB2 := hid hB
        have HA2 := hid ha
        have Hb2 := hid hb
        clear hB ha hb
        have HNX := hid (fun W (hW : Below wi.heap.size wi W) => nextWith_any g (endG xs 0) (.slice A n c) xs s j W ((HV2.out.below Hb2.out).below hW) ((HT.out.below Hb2.out HT.out.lt).below hW (Nat.lt_of_lt_of_le HT.out.lt Hb2.out.size)) HG.out HS.out (by have := HNl.out; omega))
        rw [nx_endG HS.out (by have := HNl.out; omega)] at HNX
        have hx := HNT.out j
        have HSs := hid (sumN_succ (nterm xs s) j)
        obtain ⟨x, hxe⟩ : ∃ x, nterm xs s j = x := ⟨_, rfl⟩
        rw [hxe] at HNX hx HSs
        clear hxe
        have hbx := HA2.out.1
        by_cases hjp : j = p
        · subst hjp
          have hmx : m < x := by have h1 := HM.out; have h2 := Hp3.out; rw [HSs.out] at h2; omega
          have hd1 : decide ((x : Int) ≤ (m : Int)) = false := by simp; omega
          have HM2 := hid (show m = q - sumN (nterm xs s) j by have := HM.out; omega)
          go_wp2_with fail
          clear hbx
          refine (HNX.out _ (Below.refl _ wi)).mono ?_
          rintro e' w3 ⟨rfl, hb3⟩
          have H3 := hid hb3
          have HB3 := hid (HB2.out.below H3.out HB2.out.lt)
          have HA3 := hid (HA2.out.below H3.out)
          have Hb3 := hid (below_to Hb2.out H3.out)
          have hci : w3.cell? ⟨w.heap.size + 1, k, none⟩ = some (.int .i64 (rowW xs r k k : Nat)) := by
            rw [HB3.out.cell, Vals_get (by rw [mkL_length]; exact hlt), mkL_getD hlt]
          have hfi := HB3.out.frozen k
          have wp1 := wrap_pow' j (by omega)
          have hor := or_pow s j hs10 (by omega)
          clear hb3
          go_wp2
          go_roundw
          case rel => exact ⟨k + 1, by omega, by go_num, by rw [HSuc.out], by rw [HSuc.out, HM2.out], (by have h := HRow.out; rw [HNl.out] at h; rw [h, ← Vals_set]; exact HB3.out.set_ k _), HA3.out.far (by show w.heap.size ≠ w.heap.size + 1; omega) _, Hb3.out.setCell (p := ⟨w.heap.size + 1, k, none⟩) (by show w.heap.size ≤ w.heap.size + 1; omega) _⟩
          case measure => simp [intOf]; omega
        · have hmx : x ≤ m := by
            have h1 := HM.out; have h2 := Hp2.out
            have h3 := sumN_mono (nterm xs s) (show j + 1 ≤ p by omega)
            rw [HSs.out] at h3; omega
          have hd1 : decide ((x : Int) ≤ (m : Int)) = true := by simp; omega
          have hsub : (m : Int) - (x : Int) = ((m - x : Nat) : Int) := by omega
          obtain ⟨d, hd⟩ : ∃ d, m - x = d := ⟨_, rfl⟩
          have HD := hid hd
          rw [hd] at hsub
          have hdq : d ≤ q := by omega
          have hwd : IntKind.i64.wrap (d : Int) = (d : Int) := IntWalk.i64_in _ (by omega)
          clear hd
          go_wp2_with fail
          clear hbx
          refine (HNX.out _ (Below.refl _ wi)).mono ?_
          rintro e' w3 ⟨rfl, hb3⟩
          have HB3 := hid (HB2.out.below hb3 HB2.out.lt)
          have HA3 := hid (HA2.out.below hb3)
          have Hb3 := hid (below_to Hb2.out hb3)
          have H3 := hid hb3
          have hbx := HA3.out.1
          clear hb3
          go_wp2_with fail
          clear hbx
          refine (HNX.out _ H3.out).mono ?_
          rintro e' w4 ⟨rfl, hb4⟩
          have HB4 := hid (HB3.out.below hb4 HB3.out.lt)
          have HA4 := hid (HA3.out.below hb4)
          have Hb4 := hid (below_to Hb3.out hb4)
          clear hb4
          go_wp2
          go_roundw
          case rel => exact ⟨j + 1, d, by omega, by go_num, by first | rfl | go_num, hid (by rw [HSs.out]; have h1 := HM.out; have h2 := HD.out; omega), hdq, HB4.out, HA4.out, Hb4.out⟩
          case measure => simp [intOf]; omega
    · obtain rfl : k = n := by omega
      have HO : Hid (OwnI 3 wr w.heap.size (.slice (some ⟨w.heap.size + 1, 0, none⟩) k k) (unrL xs r)) := hid (by
        have h := rowW_full xs r
        rw [HNl.out] at h
        have h2 := HB1.out
        rw [h] at h2
        have h3 := Blk.own (xs := unrL xs r) (B := w.heap.size) h2 (by omega) (by rw [unrL_length, HNl.out]; omega)
        rw [unrL_length, HNl.out] at h3
        exact h3)
      go_wp2
      go_ret
      exact ⟨_, rfl, HO.out, Hb1.out⟩
set_option maxHeartbeats 3200000 in
theorem rankOf_any (g : Nat) (v u : Value) (xs ws : List Int) (w : World) (hv : Ints w v xs) (hu : Ints w u ws) (hT : Blk w g 107 (Vals (mkL 1024 (endG xs 0)))) (hg : good xs = true) (hw : Lw xs.length ws) :
    Calls Try.prog 133 #[.pointer (some ⟨g, 0, none⟩), .agg #[v], u] w fun r w' => r = .returned (.int .i64 (rankN xs ws : Nat)) ∧ Below w.heap.size w w' := by
  have HV := hid hv
  have HU := hid hu
  have HT := hid hT
  have HG := hid hg
  have HW := hid hw
  have hl1 := (good_length hg).1
  have hl10 := (good_length hg).2
  obtain ⟨A, c, rfl, -⟩ := hv
  obtain ⟨A2, c2, rfl, hA2⟩ := hu
  have HA2 := hid hA2
  have hwl := hw.len
  have hw10 : ws.length ≤ 10 := by omega
  have HWL := hid hwl
  clear hT hg hw hA2 hwl
  go_enter Try.func133, Try.ntmps133
  go_wp2
  go_loopw [7, 8, 14] (fun q s i wr => ∃ k : Nat, k ≤ ws.length ∧ i = .int .i64 k ∧ q = .int .i64 ((rkS xs ws k).1 : Nat) ∧ s = .int .i64 ((rkS xs ws k).2 : Nat) ∧ At wr w.heap.size (.slice A xs.length c) ∧ Below w.heap.size w wr) (fun _ _ i _ => ws.length - (intOf i).toNat)
  case atStart => exact ⟨0, Nat.zero_le _, rfl, rfl, rfl, (At.new _ _ _), below_alloc (Below.refl _ w) _⟩
  case round =>
    obtain ⟨k, hk, rfl, rfl, rfl, ha, hb⟩ := hrel
    have HA1 := hid ha
    have Hb1 := hid hb
    by_cases hlt : k < ws.length
    · obtain ⟨b2, o2, rfl, hbl2, hc2⟩ := HA2.out (by intro h; simp [h] at hlt)
      have hcell := (hb.cell (p := ⟨b2, o2 + k, none⟩) hbl2).trans (hc2 k hlt)
      have hin := HW.out.at (j := k) (by have := HWL.out; omega)
      have hRk := rkS_le hl10 HW.out k (by omega)
      have HSuc : Hid (rkS xs ws (k + 1) = ((rkS xs ws k).1 + sumN (nterm xs (rkS xs ws k).2) (ws.getD k 0).toNat, (rkS xs ws k).2 ||| 2 ^ (ws.getD k 0).toNat)) := hid rfl
      obtain ⟨e, he⟩ := Int.eq_ofNat_of_zero_le hin.1
      rw [he] at hcell hin HSuc
      rw [Int.toNat_natCast] at HSuc
      have hen : e < xs.length := by omega
      obtain ⟨s, hs⟩ : ∃ s, (rkS xs ws k).2 = s := ⟨_, rfl⟩
      obtain ⟨q, hq⟩ : ∃ q, (rkS xs ws k).1 = q := ⟨_, rfl⟩
      rw [hs, hq] at hRk HSuc ⊢
      obtain ⟨hq2, hS⟩ := hRk
      have hs10 : s < 1024 := lt1024 hS hl10
      have HS := hid hS
      have hq3 : q ≤ 1000000000000 := by omega
      have HNT := hid (fun e => nterm_le (xs := xs) hl10 s e)
      have HST := hid (fun j (hj : j ≤ xs.length) => sumN_nterm_le (xs := xs) hl10 s hj)
      clear hs hq hS hq2 hc2 he ha hb hin
      go_wp2
      clear hcell
      go_loopw [7, 19] (fun q' j wi => ∃ m : Nat, m ≤ e ∧ j = .int .i64 m ∧ q' = .int .i64 ((q + sumN (nterm xs s) m : Nat) : Int) ∧ At wi w.heap.size (.slice A xs.length c) ∧ Below w.heap.size w wi) (fun _ j _ => e - (intOf j).toNat)
      case atStart => exact ⟨0, Nat.zero_le _, rfl, rfl, HA1.out, Hb1.out⟩
      case round =>
        obtain ⟨m, hm, rfl, rfl, ha, hb⟩ := hrel
        obtain ⟨wi, rfl⟩ : ∃ x, x = wr := ⟨wr, rfl⟩
        have HA2' := hid ha
        have Hb2 := hid hb
        clear ha hb
        by_cases hme : m < e
        · have HNX := hid (nextWith_any g (endG xs 0) (.slice A xs.length c) xs s m wi (HV.out.below Hb2.out) (HT.out.below Hb2.out HT.out.lt) HG.out HS.out (by omega))
          rw [nx_endG HS.out (by omega)] at HNX
          have hx := HNT.out m
          have hsm := HST.out m (by omega)
          have HSs := hid (sumN_succ (nterm xs s) m)
          obtain ⟨x, hxe⟩ : ∃ x, nterm xs s m = x := ⟨_, rfl⟩
          rw [hxe] at HNX hx HSs
          obtain ⟨y, hy⟩ : ∃ y, sumN (nterm xs s) m = y := ⟨_, rfl⟩
          rw [hy] at hsm HSs
          rw [hy]
          obtain ⟨z, hz⟩ : ∃ z, q + y = z := ⟨_, rfl⟩
          rw [hz]
          have HZ := hid hz
          have hz3 : z ≤ 2000000000000 := by omega
          clear hxe hy hz
          have hbx := HA2'.out.1
          go_wp2_with fail
          clear hbx
          refine HNX.out.mono ?_
          rintro e' w3 ⟨rfl, hb3⟩
          have HA3 := hid (HA2'.out.below hb3)
          have Hb3 := hid (below_to Hb2.out hb3)
          clear hb3
          go_wp2
          go_roundw
          case rel => exact ⟨m + 1, by omega, by go_num, (by rw [HSs.out]; have := HZ.out; first | (congr 1; omega) | (simp; omega)), HA3.out, Hb3.out⟩
          case measure => simp [intOf]; omega
        · obtain rfl : m = e := by omega
          have wp1 := wrap_pow' m (by omega)
          have hor := or_pow s m hs10 (by omega)
          go_wp2
          go_roundw
          case rel => exact ⟨k + 1, by omega, by go_num, by rw [HSuc.out], by rw [HSuc.out], HA2'.out, Hb2.out⟩
          case measure => simp [intOf]; omega
    · obtain rfl : k = ws.length := by omega
      clear ha hb
      go_wp2
      go_ret
      exact ⟨rfl, Hb1.out⟩
def cntL (xs : List Int) : Nat := ends xs 0
theorem cntL_le {xs : List Int} (hl : xs.length ≤ 10) : cntL xs ≤ 10000000000 := ends_le hl 0
theorem cell_zero {w : World} {g N : Nat} {t : TypeId} {xs : List Int} (h : Blk w g t (Vals (mkL N (endG xs 0)))) (hN : 0 < N) : w.cell? ⟨g, 0, none⟩ = some (.int .i64 (cntL xs : Nat)) := by
  rw [h.cell, Vals_get (by rw [mkL_length]; exact hN), mkL_getD hN, endG_at (Nat.two_pow_pos _)]; rfl
end Go.Proofs.Ytpdoheagfjeefaa
namespace Go.Proofs.Ytpdoheagfjeefaa
open Go.RowKit Go.WideShapes Go.ChangeShapes
set_option linter.unusedVariables false

theorem mkL_succ (k : Nat) (f : Nat → Nat) : mkL (k + 1) f = mkL k f ++ [((f k : Nat) : Int)] := by
  unfold mkL; rw [List.range_succ, List.map_append]; rfl
set_option maxHeartbeats 3200000 in
theorem liCounts_any (v : Value) (xs : List Int) (N : Nat) (w : World) (hv : Ints w v xs) (hg : good xs = true) (hN : 2 ^ xs.length = N) :
    Calls Try.prog 129 #[.agg #[v]] w fun (r : Ending) w' => ∃ g, r = Ending.returned (.slice (some ⟨g, 0, none⟩) N N) ∧ Blk w' g 3 (Vals (mkL N (endG xs 0))) ∧ w.heap.size ≤ g ∧ Below w.heap.size w w' := by
  have HV := hid hv
  have HG := hid hg
  have hl1 := (good_length hg).1
  have hl10 := (good_length hg).2
  have wp : wrap64 ((2 : Int) ^ xs.length) = (N : Int) := by rw [wrap_pow xs.length hl10, hN]
  have hN2 := two_pow_le xs.length hl10
  have hN1 : 2 ≤ N := by rw [← hN]; calc 2 = 2 ^ 1 := rfl
                       _ ≤ 2 ^ xs.length := Nat.pow_le_pow_right (by decide) hl1
  have HTop := hid (fun t => endG_top (xs := xs) t)
  rw [hN] at hN2 HTop
  obtain ⟨M, hM⟩ : ∃ M, N - 1 = M := ⟨_, rfl⟩
  rw [hM] at HTop
  have hNM : N = M + 1 := by omega
  have HN := hid hN
  have hmk := run_make_row' (P := Try.prog) 24 3 (.int .i64 0) 8 Try.underlying24 Try.info3 rfl .i64 .i64 N (by omega) (by omega)
  have hc0 : (madeCells #[Value.int .i64 0] N)[M]? = some (.int .i64 0) := by
    rw [Vals_made, Vals_get (by simp; omega)]
    simp [List.getD, show M < N by omega]
  have e1 : (N : Int) - 1 = (M : Int) := by omega
  have e2 : (N : Int) - 2 = (M : Int) - 1 := by omega
  obtain ⟨A, c, rfl, hA⟩ := hv
  have HA := hid hA
  have HNM := hid hNM
  clear hg hN hM hA hNM
  go_enter Try.func129, Try.ntmps129
  go_wp2
  clear hmk hc0 e1 e2 wp
  rw [Vals_made, Vals_set]
  have hstart : (List.replicate N (0 : Int)).set M 1 = mkL N (endG xs M) := by
    rw [← mkL_zero, show (1 : Int) = ((1 : Nat) : Int) from rfl, mkL_set 1 (by have := HNM.out; omega)]
    exact mkL_congr fun i _ => by rw [HTop.out]
  rw [hstart]
  clear hstart
  go_loopw [5] (fun i wr => ∃ S : Nat, S ≤ M ∧ i = .int .i64 ((S : Int) - 1) ∧ Blk wr (w.heap.size + 1) 3 (Vals (mkL N (endG xs S))) ∧ At wr w.heap.size (.slice A xs.length c) ∧ Below w.heap.size w wr) (fun i _ => (intOf i + 1).toNat)
  case atStart => exact ⟨M, Nat.le_refl _, rfl, Blk.newAt _ _ _ _ (by simp), (At.new _ _ _).alloc _, below_alloc (below_alloc (Below.refl _ w) _) _⟩
  case round =>
    obtain ⟨S, hS, rfl, hB, ha, hb⟩ := hrel
    have HB1 := hid hB
    have HA1 := hid ha
    have Hb1 := hid hb
    have hbx := ha.1
    clear hB ha hb
    by_cases h0 : S = 0
    · subst h0
      clear hbx
      have hz : ((0 : Nat) : Int) - 1 = -1 := rfl
      rw [hz]
      go_wp2
      go_ret
      exact ⟨_, rfl, HB1.out, by omega, Hb1.out⟩
    · obtain ⟨s, rfl⟩ : ∃ s, S = s + 1 := ⟨S - 1, by omega⟩
      have hs1 : ((s + 1 : Nat) : Int) - 1 = (s : Int) := by omega
      rw [hs1]
      have hsn : s < N := by have := HNM.out; omega
      have hs10 : s < 1024 := by omega
      have hsN : s < 2 ^ xs.length := by rw [HN.out]; exact hsn
      have HSN := hid hsN
      have HSlow := hid (show s < 2 ^ xs.length - 1 by rw [HN.out]; have := HNM.out; omega)
      clear hs1 h0 hsN
      go_wp2
      clear hbx
      go_loopw [29] (fun i wi => ∃ k : Nat, k ≤ xs.length ∧ i = .int .i64 k ∧ Blk wi (w.heap.size + 1) 3 (Vals (mkL N (endP xs s k))) ∧ At wi w.heap.size (.slice A xs.length c) ∧ Below w.heap.size w wi) (fun i _ => xs.length - (intOf i).toNat)
      case atStart => exact ⟨0, Nat.zero_le _, rfl, (by rw [mkL_congr (fun t _ => endP_zero xs s t)]; exact HB1.out), HA1.out, Hb1.out⟩
      case round =>
        obtain ⟨k, hk, rfl, hB, ha, hb⟩ := hrel
        obtain ⟨wi, rfl⟩ : ∃ x, x = wr := ⟨wr, rfl⟩
        have HB2 := hid hB
        have HA2 := hid ha
        have Hb2 := hid hb
        clear hB ha hb
        by_cases hlt : k < xs.length
        · obtain ⟨b, o, rfl, hbl, hc⟩ := HA.out (by intro h; simp [h] at hlt)
          have hcell := (Hb2.out.cell (p := ⟨b, o + k, none⟩) hbl).trans (hc k hlt)
          have hr := row_lt HG.out hlt
          have hr10 := row_lt10 HG.out hlt
          obtain ⟨z, hz⟩ : ∃ z, row xs k = z := ⟨_, rfl⟩
          rw [hz] at hr hr10
          rw [hr.1] at hcell
          have HZ := hid hz
          clear hc hr hz
          cases hbit : s.testBit k
          · have HBit := hid hbit
            have han := i64_andNot_nat z s (by omega) (by omega)
            by_cases h0 : sub z s = 0
            · have h0' : (((sub z s : Nat) : Int) == 0) = true := by rw [h0]; rfl
              have hst := stepP_yes HZ.out hbit h0
              have hqN : s ||| 2 ^ k < N := by have := Nat.or_lt_two_pow HSN.out (pow_lt_len hlt); rw [HN.out] at this; exact this
              have hqv : endP xs s k (s ||| 2 ^ k) = nterm xs s k := by rw [← nx_endP HSN.out hlt, nx_yes hst]
              have hcq : wi.cell? ⟨w.heap.size + 1, s ||| 2 ^ k, none⟩ = some (.int .i64 (endP xs s k (s ||| 2 ^ k) : Nat)) := by
                rw [HB2.out.cell, Vals_get (by rw [mkL_length]; exact hqN), mkL_getD hqN]
              rw [hqv] at hcq
              have wp1 := wrap_pow' k (by omega)
              have hor := or_pow s k hs10 (by omega)
              obtain ⟨q, hq⟩ : ∃ q, s ||| 2 ^ k = q := ⟨_, rfl⟩
              rw [hq] at hcq hor hqN
              have hct : wi.cell? ⟨w.heap.size + 1, s, none⟩ = some (.int .i64 (endP xs s k s : Nat)) := by
                rw [HB2.out.cell, Vals_get (by rw [mkL_length]; exact hsn), mkL_getD hsn]
              have hft := HB2.out.frozen s
              have hy1 : endP xs s k s ≤ 100000000000 := by rw [endP_self]; exact sumN_nterm_le hl10 s hk
              have hy2 := nterm_le hl10 s k
              have HE := hid (fun t => endP_succ xs s k t)
              obtain ⟨y, hy⟩ : ∃ y, endP xs s k s = y := ⟨_, rfl⟩
              rw [hy] at hct hy1 HE
              obtain ⟨x, hx⟩ : ∃ x, nterm xs s k = x := ⟨_, rfl⟩
              rw [hx] at hcq hy2 HE
              clear h0 hbit hst hqv hq hy hx
              go_wp2_with (go_at_call 135; refine (poIn_any s k (by omega) _).mono ?_; rw [HBit.out]; rintro e' w2 ⟨rfl, rfl⟩)
              go_region
              go_wp2
              go_roundw
              case rel => exact ⟨k + 1, by omega, by go_num, (by rw [mkL_congr (h := fun t => if t = s then y + x else endP xs s k t) (fun t _ => HE.out t), ← mkL_set _ hsn, ← Vals_set]; exact HB2.out.set_ s _), HA2.out.far (by show w.heap.size ≠ w.heap.size + 1; omega) _, (Hb2.out.setCell (p := ⟨w.heap.size + 1, s, none⟩) (by show w.heap.size ≤ w.heap.size + 1; omega) _).drew⟩
              case measure => simp [intOf]; omega
            · have h0' : (((sub z s : Nat) : Int) == 0) = false := by rw [beq_eq_false_iff_ne]; omega
              have hnt := nterm_no (stepP_no2 (s := s) HZ.out h0)
              have HE := hid (fun t => endP_succ xs s k t)
              rw [hnt] at HE
              clear h0 hbit hnt
              go_wp2_with (go_at_call 135; refine (poIn_any s k (by omega) _).mono ?_; rw [HBit.out]; rintro e' w2 ⟨rfl, rfl⟩)
              go_roundw
              case rel => exact ⟨k + 1, by omega, by go_num, (by rw [mkL_congr (h := endP xs s k) (fun t _ => by rw [HE.out t]; split; (rename_i h; subst h; rfl); rfl)]; exact HB2.out), HA2.out, Hb2.out⟩
              case measure => simp [intOf]; omega
          · have HBit := hid hbit
            have hnt := nterm_no (stepP_no1 (xs := xs) hbit)
            have HE := hid (fun t => endP_succ xs s k t)
            rw [hnt] at HE
            clear hbit hnt
            go_wp2_with (go_at_call 135; refine (poIn_any s k (by omega) _).mono ?_; rw [HBit.out]; rintro e' w2 ⟨rfl, rfl⟩)
            go_roundw
            case rel => exact ⟨k + 1, by omega, by go_num, (by rw [mkL_congr (h := endP xs s k) (fun t _ => by rw [HE.out t]; split; (rename_i h; subst h; rfl); rfl)]; exact HB2.out), HA2.out, Hb2.out⟩
            case measure => simp [intOf]; omega
        · obtain rfl : k = xs.length := by omega
          go_wp2
          go_roundw
          case rel => exact ⟨s, by omega, by go_num, (by rw [mkL_congr (fun t _ => (endP_full HSlow.out t).symm)]; exact HB2.out), HA2.out, Hb2.out⟩
          case measure => simp [intOf]
set_option maxHeartbeats 3200000 in
theorem liWith_any (g N : Nat) (v : Value) (xs : List Int) (r : Nat) (w : World) (hv : Ints w v xs) (hT : Blk w g 3 (Vals (mkL N (endG xs 0)))) (hN : 2 ^ xs.length = N) (hg : good xs = true) (hr : r < ends xs 0) :
    Calls Try.prog 132 #[.agg #[v], .slice (some ⟨g, 0, none⟩) N N, .int .i64 r] w fun (res : Ending) w' => ∃ u, res = Ending.returned u ∧ OwnI 3 w' w.heap.size u (unrL xs r) ∧ Below w.heap.size w w' := by
  have HV := hid hv
  have HT := hid hT
  have HG := hid hg
  have HR := hid hr
  have hl1 := (good_length hg).1
  have hl10 := (good_length hg).2
  have hE := ends_le hl10 0
  have hr2 : r < 10000000000 := by omega
  have hN2 := two_pow_le xs.length hl10
  rw [hN] at hN2
  have HN := hid hN
  obtain ⟨A, c, rfl, hA⟩ := hv
  have HA := hid hA
  obtain ⟨n, hn⟩ : ∃ n, xs.length = n := ⟨_, rfl⟩
  have hn10 : n ≤ 10 := by omega
  have HNl := hid hn
  rw [hn]
  clear hT hg hr hE hn hN hA
  go_enter Try.func132, Try.ntmps132
  go_wp2
  go_loopw [2, 7, 8] (fun q u s wr => ∃ k : Nat, k ≤ n ∧ s = .int .i64 ((unS xs r k).1 : Nat) ∧ q = .int .i64 ((unS xs r k).2 : Nat) ∧ OwnI 3 wr (w.heap.size + 1) u (mkL k (unE xs r)) ∧ At wr w.heap.size (.slice A n c) ∧ Below w.heap.size w wr) (fun _ u _ _ => n - (match u with | .slice _ m _ => m | _ => 0))
  case atStart => exact ⟨0, Nat.zero_le _, rfl, rfl, OwnI.nil _ _ _, At.new _ _ _, below_alloc (Below.refl _ w) _⟩
  case round =>
    obtain ⟨k, hk, rfl, rfl, ho, ha, hb⟩ := hrel
    have HA1 := hid ha
    have Hb1 := hid hb
    obtain ⟨uA, uc, rfl, -⟩ := ho.shape
    rw [mkL_length] at ho ⊢
    have HO1 := hid ho
    have hbx := ha.1
    clear ho ha hb
    by_cases hlt : k < n
    · have hU := unS_ok HR.out k (by have := HNl.out; omega)
      have hP := hU.pick (by have := HNl.out; omega)
      have hS := hU.set
      have hq2 : (unS xs r k).2 < 10000000000 := by have h1 := hU.rank; have h2 := ends_le (xs := xs) (by have := HNl.out; omega) (unS xs r k).1; omega
      have HSuc := hid (unS_succ xs r k)
      have HRow := hid (mkL_succ k (unE xs r))
      have HPk : Hid (unE xs r k = pick (nterm xs (unS xs r k).1) (unS xs r k).2 xs.length) := hid rfl
      obtain ⟨s, hs⟩ : ∃ s, (unS xs r k).1 = s := ⟨_, rfl⟩
      obtain ⟨q, hq⟩ : ∃ q, (unS xs r k).2 = q := ⟨_, rfl⟩
      rw [hs, hq] at hP HPk
      rw [hs] at hS
      rw [hq] at hq2
      rw [hs, hq] at HSuc
      rw [hs, hq]
      obtain ⟨p, hp⟩ : ∃ p, pick (nterm xs s) q xs.length = p := ⟨_, rfl⟩
      rw [hp] at hP HPk
      rw [HPk.out] at HSuc HRow
      obtain ⟨hp1, hp2, hp3⟩ := hP
      have hs10 : s < 1024 := lt1024 hS (by have := HNl.out; omega)
      have HS := hid hS
      have hp10 : p < 10 := by have := HNl.out; omega
      have Hp2 := hid hp2
      have Hp3 := hid hp3
      have hpn : p < n := by have := HNl.out; omega
      have hkn : (k : Int) < (n : Int) := by omega
      clear hs hq hp hp1 hp2 hp3 hS hU HPk
      go_wp2
      clear hbx hkn
      go_loopw [2, 7, 8, 21] (fun q' u' s' e wi => ∃ j m : Nat, j ≤ p ∧ e = .int .i64 j ∧ q' = .int .i64 m ∧ u' = .slice uA k uc ∧ s' = .int .i64 (s : Nat) ∧ Hid (m + sumN (nterm xs s) j = q) ∧ m ≤ q ∧ wi = wr) (fun _ _ _ e _ => p - (intOf e).toNat)
      case atStart => exact ⟨0, q, Nat.zero_le _, rfl, rfl, rfl, rfl, hid (by simp [sumN]), Nat.le_refl _, rfl⟩
      case round =>
        obtain ⟨j, m, hj, rfl, rfl, rfl, rfl, HM, hm, rfl⟩ := hrel
        have hjn : j < n := by omega
        obtain ⟨b, o, rfl, hbl, hc⟩ := HA.out (by intro h; have := HNl.out; simp [h] at this; omega)
        have hjx : j < xs.length := by have := HNl.out; omega
        have hcell := (Hb1.out.cell (p := ⟨b, o + j, none⟩) hbl).trans (hc j hjx)
        have hr' := row_lt HG.out hjx
        have hr10 := row_lt10 HG.out hjx
        obtain ⟨z, hz⟩ : ∃ z, row xs j = z := ⟨_, rfl⟩
        rw [hz] at hr' hr10
        rw [hr'.1] at hcell
        have HZ := hid hz
        have hx := nterm_le (xs := xs) (by have := HNl.out; omega) s j
        have HSs := hid (sumN_succ (nterm xs s) j)
        have HNtN := hid (fun h => nterm_no (xs := xs) (s := s) (e := j) h)
        have HNtY := hid (fun h => nterm_yes (xs := xs) (s := s) (e := j) h)
        obtain ⟨x, hxe⟩ : ∃ x, nterm xs s j = x := ⟨_, rfl⟩
        rw [hxe] at hx HSs HNtN HNtY
        have Hjx := hid hjx
        clear hc hr' hz hxe hjx
        cases hbit : s.testBit j
        · have HBit := hid hbit
          have han := i64_andNot_nat z s (by omega) (by omega)
          by_cases h0 : sub z s = 0
          · have h0' : (((sub z s : Nat) : Int) != 0) = false := by rw [h0]; rfl
            have hst := stepP_yes HZ.out hbit h0
            have hqT : s ||| 2 ^ j < 2 ^ xs.length := Nat.or_lt_two_pow HS.out (pow_lt_len Hjx.out)
            have hqN : s ||| 2 ^ j < N := by rw [← HN.out]; exact hqT
            have hcq : wr.cell? ⟨g, s ||| 2 ^ j, none⟩ = some (.int .i64 (x : Nat)) := by
              rw [(HT.out.below Hb1.out HT.out.lt).cell, Vals_get (by rw [mkL_length]; exact hqN), mkL_getD hqN, endG_at hqT, HNtY.out hst]
            have wp1 := wrap_pow' j (by omega)
            have hor := or_pow s j hs10 (by omega)
            obtain ⟨t, ht⟩ : ∃ t, s ||| 2 ^ j = t := ⟨_, rfl⟩
            have HTq := hid ht
            rw [ht] at hcq hor hqN
            clear h0 hbit hst hqT ht
            by_cases hjp : j = p
            · subst hjp
              have hmx : m < x := by have h1 := HM.out; have h2 := Hp3.out; rw [HSs.out] at h2; omega
              have HM2 := hid (show m = q - sumN (nterm xs s) j by have := HM.out; omega)
              have hwz : w.heap.size + 1 ≤ wr.heap.size := HA1.out.2
              go_wp2_with (first | (go_at_call 135; refine (poIn_any s j (by omega) _).mono ?_; rw [HBit.out]; rintro e' w2 ⟨rfl, rfl⟩) | (at_builtin; refine wpList_append_int rfl _ _ 24 3 rfl Try.underlying24 Try.info3 (w.heap.size + 1) _ (mkL k (unE xs r)) (j : Int) rfl HO1.out rfl rfl (by rw [mkL_length]; omega) hwz ?_; rintro u3 w3 ho3 hb3))
              go_roundw
              case rel => exact ⟨k + 1, by omega, by rw [HSuc.out, HTq.out], by rw [HSuc.out, HM2.out], (by rw [HRow.out]; exact ho3), ⟨(hb3.cell (p := ⟨w.heap.size, 0, none⟩) (by show w.heap.size < w.heap.size + 1; omega)).trans HA1.out.1, Nat.lt_of_lt_of_le HA1.out.2 hb3.size⟩, Hb1.out.trans (hb3.mono (by omega))⟩
              case measure => obtain ⟨A3, c3, rfl, -⟩ := ho3.shape; simp [mkL_length]; omega
            · have hmx : x ≤ m := by
                have h1 := HM.out; have h2 := Hp2.out
                have h3 := sumN_mono (nterm xs s) (show j + 1 ≤ p by omega)
                rw [HSs.out] at h3; omega
              have hd1 : decide ((m : Int) < (x : Int)) = false := by simp; omega
              have hsub : (m : Int) - (x : Int) = ((m - x : Nat) : Int) := by omega
              obtain ⟨d, hd⟩ : ∃ d, m - x = d := ⟨_, rfl⟩
              have HD := hid hd
              rw [hd] at hsub
              have hdq : d ≤ q := by omega
              have hwd : IntKind.i64.wrap (d : Int) = (d : Int) := IntWalk.i64_in _ (by omega)
              clear hd
              go_wp2_with (go_at_call 135; refine (poIn_any s j (by omega) _).mono ?_; rw [HBit.out]; rintro e' w2 ⟨rfl, rfl⟩)
              go_roundw
              case rel => exact ⟨j + 1, d, by omega, by go_num, by first | rfl | go_num, rfl, rfl, hid (by rw [HSs.out]; have h1 := HM.out; have h2 := HD.out; omega), hdq, by first | trivial | rfl⟩
              case measure => simp [intOf]; omega
          · have h0' : (((sub z s : Nat) : Int) != 0) = true := by rw [bne_iff_ne]; omega
            have hx0 := HNtN.out (stepP_no2 (s := s) HZ.out h0)
            have hjp : j ≠ p := by
              rintro rfl
              have h1 := HM.out; have h2 := Hp3.out; rw [HSs.out] at h2; omega
            have HS0 := hid (show sumN (nterm xs s) (j + 1) = sumN (nterm xs s) j by rw [HSs.out]; omega)
            clear h0 hbit hx0
            go_wp2_with (go_at_call 135; refine (poIn_any s j (by omega) _).mono ?_; rw [HBit.out]; rintro e' w2 ⟨rfl, rfl⟩)
            go_roundw
            case rel => exact ⟨j + 1, m, by omega, by go_num, rfl, rfl, rfl, hid (by rw [HS0.out]; exact HM.out), hm, by first | trivial | rfl⟩
            case measure => simp [intOf]; omega
        · have HBit := hid hbit
          have hx0 := HNtN.out (stepP_no1 (xs := xs) hbit)
          have hjp : j ≠ p := by
            rintro rfl
            have h1 := HM.out; have h2 := Hp3.out; rw [HSs.out] at h2; omega
          have HS0 := hid (show sumN (nterm xs s) (j + 1) = sumN (nterm xs s) j by rw [HSs.out]; omega)
          clear hbit hx0
          go_wp2_with (go_at_call 135; refine (poIn_any s j (by omega) _).mono ?_; rw [HBit.out]; rintro e' w2 ⟨rfl, rfl⟩)
          go_roundw
          case rel => exact ⟨j + 1, m, by omega, by go_num, rfl, rfl, rfl, hid (by rw [HS0.out]; exact HM.out), hm, by first | trivial | rfl⟩
          case measure => simp [intOf]; omega
    · obtain rfl : k = n := by omega
      have HO : Hid (OwnI 3 wr w.heap.size (.slice uA k uc) (unrL xs r)) := hid (by
        have h2 := HO1.out
        unfold unrL; rw [HNl.out]; exact h2.mono (by omega))
      go_wp2
      go_ret
      exact ⟨_, rfl, HO.out, Hb1.out⟩
end Go.Proofs.Ytpdoheagfjeefaa
