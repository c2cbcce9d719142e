/- Texts EndL, EvG, one behind the other. -/
import Derived.Deep.RegionWith
import Derived.Test.YtpdoheagfjeefaaPkLinearRankedProof00
import Derived.Test.YtpdoheagfjeefaaPkLinearRankedProof07
import Derived.Test.YtpdoheagfjeefaaPkLinearRankedProof10
import Derived.Test.YtpdoheagfjeefaaPkLinearRankedProof14
/- CountLinear, LinearWith, RankLinear of both sides. -/
namespace Go.Proofs.Ytpdoheagfjeefaa
open Go.RowKit Go.WideShapes Go.ChangeShapes
set_option linter.unusedVariables false

theorem specCountLinear_any (v : Value) (xs : List Int) (w : World) (hv : Ints w v xs) (hl : xs.length ≤ 1048576) :
    Calls Try.prog 70 #[.agg #[v]] w fun r w' => r = .returned (.tuple #[.int .i64 (ansN xs cntL), .bool (good xs)]) ∧ Below w.heap.size w w' := by
  have HV := hid hv
  clear hv
  go_enter Try.func70, Try.ntmps70
  have HB := hid (below_alloc (Below.refl _ w) (.cells #[v] 26))
  have A0 := hid (At.newAt w v 26 w.heap.size (by simp))
  go_wp2_with fail
  refine (poGood_any _ xs _ (HV.out.below HB.out) hl).mono ?_
  rintro e w' ⟨rfl, hb⟩
  replace HB := hid (below_to HB.out hb)
  replace A0 := hid (A0.out.below hb)
  clear hb
  cases hq : good xs
  · have HQ := hid hq
    clear hq
    have ebox0 := A0.out.1
    go_wp2
    go_ret2
    exact ⟨ret_ib (ansN_no HQ.out).symm HQ.out.symm, HB.out⟩
  · have HQ := hid hq
    have hl10 := (good_length hq).2
    have hN2 := two_pow_le xs.length hl10
    obtain ⟨N, hN⟩ : ∃ N, 2 ^ xs.length = N := ⟨_, rfl⟩
    rw [hN] at hN2
    have hNi : (0 : Int) < (N : Int) := by omega
    have HA := hid (ansN_yes (f := cntL) hq)
    clear hq
    have ebox0 := A0.out.1
    go_wp2_with fail
    clear ebox0
    refine (liCounts_any _ xs N _ (HV.out.below HB.out) HQ.out hN).mono ?_
    rintro e w' ⟨g, rfl, hT, hgw, hb⟩
    replace HB := hid (below_to HB.out hb)
    replace A0 := hid (A0.out.below hb)
    clear hb
    have hc := cell_zero hT (by omega)
    obtain ⟨x, hx⟩ : ∃ x, cntL xs = x := ⟨_, rfl⟩
    rw [hx] at hc HA
    clear hT hN hx
    have ebox0 := A0.out.1
    go_wp2
    go_ret2
    exact ⟨ret_ib (by rw [HA.out]) HQ.out.symm, HB.out⟩
theorem implCountLinear_any (v : Value) (xs : List Int) (w : World) (hv : Ints w v xs) (hl : xs.length ≤ 1048576) :
    Calls Try.prog 21 #[.agg #[v]] w fun r w' => r = .returned (.tuple #[.int .i64 (ansN xs cntL), .bool (good xs)]) ∧ Below w.heap.size w w' := by
  have HV := hid hv
  clear hv
  go_enter Try.func21, Try.ntmps21
  have HB := hid (below_alloc (Below.refl _ w) (.cells #[v] 26))
  have A0 := hid (At.newAt w v 26 w.heap.size (by simp))
  go_wp2_with fail
  refine (implIsPoset_any _ xs _ (HV.out.below HB.out) hl).mono ?_
  rintro e w' ⟨rfl, hb⟩
  replace HB := hid (below_to HB.out hb)
  replace A0 := hid (A0.out.below hb)
  clear hb
  cases hq : good xs
  · have HQ := hid hq
    clear hq
    have ebox0 := A0.out.1
    go_wp2
    go_ret2
    exact ⟨ret_ib (ansN_no HQ.out).symm HQ.out.symm, HB.out⟩
  · have HQ := hid hq
    have HA := hid (ansN_yes (f := cntL) hq)
    clear hq
    have ebox0 := A0.out.1
    go_wp2_with fail
    clear ebox0
    refine (endingsOf_any _ xs _ (HV.out.below HB.out) HQ.out).mono ?_
    rintro e w' ⟨g, rfl, hT, hgw, hb⟩
    replace HB := hid (below_to HB.out hb)
    replace A0 := hid (A0.out.below hb)
    clear hb
    have hc := cell_zero hT (by omega)
    obtain ⟨x, hx⟩ : ∃ x, cntL xs = x := ⟨_, rfl⟩
    rw [hx] at hc HA
    clear hT hx
    have ebox0 := A0.out.1
    go_wp2
    go_ret2
    exact ⟨ret_ib (by rw [HA.out]) HQ.out.symm, HB.out⟩

def okLW (xs : List Int) (r : Int) : Bool := good xs && (decide (0 ≤ r) && decide (r ≤ (cntL xs : Int) - 1))
def ansLW (xs : List Int) (r : Int) : List Int := if okLW xs r then unrL xs r.toNat else []
theorem okLW_no1 {xs : List Int} {r : Int} (h : good xs = false) : okLW xs r = false := by simp [okLW, h]
theorem okLW_no2 {xs : List Int} {r : Int} (h : (decide (0 ≤ r) && decide (r ≤ (cntL xs : Int) - 1)) = false) : okLW xs r = false := by simp only [okLW, h]; simp
theorem okLW_yes {xs : List Int} {r : Int} (h : good xs = true) (k : (decide (0 ≤ r) && decide (r ≤ (cntL xs : Int) - 1)) = true) : okLW xs r = true := by simp only [okLW, h, k]; rfl
theorem ansLW_no {xs : List Int} {r : Int} (h : okLW xs r = false) : ansLW xs r = [] := by simp [ansLW, h]
theorem ansLW_yes {xs : List Int} {r : Nat} (h : okLW xs r = true) : ansLW xs r = unrL xs r := by simp [ansLW, h]
theorem ansLW_length (xs : List Int) (r : Int) : (ansLW xs r).length ≤ 1048576 := by
  cases h : okLW xs r
  · rw [ansLW_no h]; simp
  · unfold ansLW
    rw [if_pos h, unrL_length]
    have h1 : good xs = true := by simp only [okLW, Bool.and_eq_true] at h; exact h.1
    have := (good_length h1).2
    omega
theorem specLinearWith_any (v : Value) (xs : List Int) (r : Int) (w : World) (hv : Ints w v xs) (hl : xs.length ≤ 1048576) (wf : (Lit.int .i64 r).wf = true) :
    Calls Try.prog 66 #[.agg #[v], .int .i64 r] w fun (e : Ending) w' => ∃ q, e = Ending.returned (.tuple #[q, .bool (okLW xs r)]) ∧ OwnI 3 w' w.heap.size q (ansLW xs r) ∧ (ansLW xs r).length ≤ 1048576 ∧ Below w.heap.size w w' := by
  have HV := hid hv
  have HL := hid (ansLW_length xs r)
  clear hv wf
  go_enter Try.func66, Try.ntmps66
  have HB := hid (below_alloc (Below.refl _ w) (.cells #[v] 26))
  have A0 := hid (At.newAt w v 26 w.heap.size (by simp))
  go_wp2_with fail
  refine (poGood_any _ xs _ (HV.out.below HB.out) hl).mono ?_
  rintro e w' ⟨rfl, hb⟩
  replace HB := hid (below_to HB.out hb)
  replace A0 := hid (A0.out.below hb)
  clear hb
  cases hq : good xs
  · have HO := hid (okLW_no1 (r := r) hq)
    clear hq
    have ebox0 := A0.out.1
    go_wp2
    go_ret2
    exact ⟨_, ret_vbL HO.out.symm, by rw [ansLW_no HO.out]; exact OwnI.nil _ _ _, HL.out, HB.out⟩
  · have HQ := hid hq
    have hl10 := (good_length hq).2
    have hN2 := two_pow_le xs.length hl10
    obtain ⟨N, hN⟩ : ∃ N, 2 ^ xs.length = N := ⟨_, rfl⟩
    rw [hN] at hN2
    have hNi : (0 : Int) < (N : Int) := by omega
    have hxl := cntL_le hl10
    have HNe := hid hN
    clear hq
    have ebox0 := A0.out.1
    go_wp2_with fail
    clear ebox0
    refine (liCounts_any _ xs N _ (HV.out.below HB.out) HQ.out HNe.out).mono ?_
    rintro e w' ⟨g, rfl, hT, hgw, hb⟩
    replace HB := hid (below_to HB.out hb)
    replace A0 := hid (A0.out.below hb)
    clear hb
    have hc := cell_zero hT (by omega)
    have HT := hid hT
    obtain ⟨x, hx⟩ : ∃ x, cntL xs = x := ⟨_, rfl⟩
    rw [hx] at hc hxl
    have HX := hid hx
    have e1 : IntKind.i64.wrap ((x : Int) - 1) = (x : Int) - 1 := IntWalk.i64_in _ (by omega)
    clear hT hN hx
    have ebox0 := A0.out.1
    go_wp2_with fail
    clear ebox0
    refine (l1In_any r 0 ((x : Int) - 1) _).mono ?_
    rintro e w2 ⟨rfl, rfl⟩
    clear e1 hc
    cases hk : (decide (0 ≤ r) && decide (r ≤ (x : Int) - 1))
    · have HO := hid (okLW_no2 (xs := xs) (r := r) (by rw [HX.out]; exact hk))
      clear hk
      go_wp2
      go_ret2
      exact ⟨_, ret_vbL HO.out.symm, by rw [ansLW_no HO.out]; exact OwnI.nil _ _ _, HL.out, HB.out⟩
    · have HO := hid (okLW_yes (r := r) HQ.out (by rw [HX.out]; exact hk))
      have hk2 : 0 ≤ r ∧ r ≤ (x : Int) - 1 := by simpa using hk
      obtain ⟨z, rfl⟩ := Int.eq_ofNat_of_zero_le hk2.1
      have HY := hid (ansLW_yes HO.out)
      have HZ : Hid (z < ends xs 0) := hid (by show z < cntL xs; rw [HX.out]; omega)
      have hz := HB.out.size
      clear hk hk2
      have ebox0 := A0.out.1
      go_wp2_with fail
      clear ebox0
      refine (liWith_any g N _ xs z _ (HV.out.below HB.out) HT.out HNe.out HQ.out HZ.out).mono ?_
      rintro e w' ⟨q, rfl, ho, hb⟩
      replace HB := hid (below_to HB.out hb)
      replace A0 := hid (A0.out.below hb)
      clear hb
      have ebox0 := A0.out.1
      go_wp2
      go_ret2
      exact ⟨_, ret_vbL HO.out.symm, by rw [HY.out]; exact ho.mono hz, HL.out, HB.out⟩
theorem implLinearWith_any (v : Value) (xs : List Int) (r : Int) (w : World) (hv : Ints w v xs) (hl : xs.length ≤ 1048576) (wf : (Lit.int .i64 r).wf = true) :
    Calls Try.prog 65 #[.agg #[v], .int .i64 r] w fun (e : Ending) w' => ∃ q, e = Ending.returned (.tuple #[q, .bool (okLW xs r)]) ∧ OwnI 3 w' w.heap.size q (ansLW xs r) ∧ (ansLW xs r).length ≤ 1048576 ∧ Below w.heap.size w w' := by
  have HV := hid hv
  have HL := hid (ansLW_length xs r)
  clear hv wf
  go_enter Try.func65, Try.ntmps65
  have HB := hid (below_alloc (Below.refl _ w) (.cells #[v] 26))
  have A0 := hid (At.newAt w v 26 w.heap.size (by simp))
  go_wp2_with fail
  refine (implIsPoset_any _ xs _ (HV.out.below HB.out) hl).mono ?_
  rintro e w' ⟨rfl, hb⟩
  replace HB := hid (below_to HB.out hb)
  replace A0 := hid (A0.out.below hb)
  clear hb
  cases hq : good xs
  · have HO := hid (okLW_no1 (r := r) hq)
    clear hq
    have ebox0 := A0.out.1
    go_wp2
    go_ret2
    exact ⟨_, ret_vbL HO.out.symm, by rw [ansLW_no HO.out]; exact OwnI.nil _ _ _, HL.out, HB.out⟩
  · have HQ := hid hq
    have hl10 := (good_length hq).2
    have hxl := cntL_le hl10
    clear hq
    have ebox0 := A0.out.1
    go_wp2_with fail
    clear ebox0
    refine (endingsOf_any _ xs _ (HV.out.below HB.out) HQ.out).mono ?_
    rintro e w' ⟨g, rfl, hT, hgw, hb⟩
    replace HB := hid (below_to HB.out hb)
    replace A0 := hid (A0.out.below hb)
    clear hb
    have hc := cell_zero hT (by omega)
    have HT := hid hT
    obtain ⟨x, hx⟩ : ∃ x, cntL xs = x := ⟨_, rfl⟩
    rw [hx] at hc hxl
    have HX := hid hx
    clear hT hx
    by_cases h0 : r < 0
    · have HO := hid (okLW_no2 (xs := xs) (r := r) (by rw [HX.out, Bool.eq_false_iff]; simp; omega))
      have ebox0 := A0.out.1
      go_wp2
      go_ret2
      exact ⟨_, ret_vbL HO.out.symm, by rw [ansLW_no HO.out]; exact OwnI.nil _ _ _, HL.out, HB.out⟩
    · by_cases h2 : (x : Int) ≤ r
      · have HO := hid (okLW_no2 (xs := xs) (r := r) (by rw [HX.out, Bool.eq_false_iff]; simp; omega))
        have ebox0 := A0.out.1
        go_wp2
        go_ret2
        exact ⟨_, ret_vbL HO.out.symm, by rw [ansLW_no HO.out]; exact OwnI.nil _ _ _, HL.out, HB.out⟩
      · have HO := hid (okLW_yes (r := r) HQ.out (by rw [HX.out]; simp; omega))
        obtain ⟨z, rfl⟩ := Int.eq_ofNat_of_zero_le (show 0 ≤ r by omega)
        have HY := hid (ansLW_yes HO.out)
        have HZ : Hid (z < ends xs 0) := hid (by show z < cntL xs; rw [HX.out]; omega)
        have hz := HB.out.size
        have ebox0 := A0.out.1
        go_wp2_with fail
        clear ebox0
        refine (linearWith_any g _ xs z _ (HV.out.below HB.out) HT.out HQ.out HZ.out).mono ?_
        rintro e w' ⟨q, rfl, ho, hb⟩
        replace HB := hid (below_to HB.out hb)
        replace A0 := hid (A0.out.below hb)
        clear hb
        clear h0 h2 hc
        have ebox0 := A0.out.1
        go_wp2
        go_ret2
        exact ⟨_, ret_vbL HO.out.symm, by rw [HY.out]; exact ho.mono hz, HL.out, HB.out⟩

def ansRk (xs ws : List Int) : Int := if okLin xs ws then (rankN xs ws : Int) else 0
theorem ansRk_no {xs ws : List Int} (h : okLin xs ws = false) : ansRk xs ws = 0 := by simp [ansRk, h]
theorem ansRk_yes {xs ws : List Int} (h : okLin xs ws = true) : ansRk xs ws = (rankN xs ws : Int) := by simp [ansRk, h]
set_option maxHeartbeats 1600000 in
theorem implRankLinear_any (v : Value) (xs : List Int) (u : Value) (ws : List Int) (w : World) (hv : Ints w v xs) (hl : xs.length ≤ 1048576) (hu : Ints w u ws) (hm : ws.length ≤ 1048576) :
    Calls Try.prog 73 #[.agg #[v], u] w fun r w' => r = .returned (.tuple #[.int .i64 (ansRk xs ws), .bool (okLin xs ws)]) ∧ Below w.heap.size w w' := by
  have HV := hid hv
  have HU := hid hu
  clear hv hu
  go_enter Try.func73, Try.ntmps73
  have HB := hid (below_alloc (Below.refl _ w) (.cells #[v] 26))
  have A0 := hid (At.newAt w v 26 w.heap.size (by simp))
  go_wp2_with fail
  refine (hasLinear_any _ _ xs ws _ (HV.out.below HB.out) hl (HU.out.below HB.out) hm).mono ?_
  rintro e w' ⟨rfl, hb⟩
  replace HB := hid (below_to HB.out hb)
  replace A0 := hid (A0.out.below hb)
  clear hb
  cases hq : okLin xs ws
  · have HO := hid hq
    clear hq
    have ebox0 := A0.out.1
    go_wp2
    go_ret2
    exact ⟨ret_ib (ansRk_no HO.out).symm HO.out.symm, HB.out⟩
  · have HO := hid hq
    have HLw := hid (okLin_Lw hq)
    have HG := hid (okLin_all hq).1
    have HY := hid (ansRk_yes hq)
    have HV1 := hid (HV.out.below HB.out)
    have HU1 := hid (HU.out.below HB.out)
    have ebox0 := A0.out.1
    clear hq
    go_wp2_with fail
    go_region_with (first | (go_at_call 90; refine (endingsOf_any _ xs _ HV1.out.drew HG.out).mono ?_; rintro e w3 ⟨g, rfl, hT, -, hb3⟩; have H3 := hid (below_to (Below.refl _ w').drew hb3); have HT3 := hid hT; have ebox3 := (A0.out.below H3.out).1; clear hb3 hT) | (go_at_call 133; refine (rankOf_any g _ _ xs ws _ (HV1.out.below H3.out) (HU1.out.below H3.out) HT3.out HG.out HLw.out).mono ?_; rintro e w4 ⟨rfl, hb4⟩; have H4 := hid (below_to H3.out hb4); clear hb4))
    all_goals clear ebox0 ebox3
    all_goals go_wp2
    all_goals go_ret2
    all_goals exact ⟨ret_ib (by rw [HY.out]) HO.out.symm, below_to HB.out H4.out⟩
set_option maxHeartbeats 3200000 in
theorem specRankLinear_any (v : Value) (xs : List Int) (u : Value) (ws : List Int) (w : World) (hv : Ints w v xs) (hl : xs.length ≤ 1048576) (hu : Ints w u ws) (hm : ws.length ≤ 1048576) :
    Calls Try.prog 74 #[.agg #[v], u] w fun r w' => r = .returned (.tuple #[.int .i64 (ansRk xs ws), .bool (okLin xs ws)]) ∧ Below w.heap.size w w' := by
  have HV := hid hv
  have HU := hid hu
  obtain ⟨A, c, rfl, hA⟩ := hv
  have HA := hid hA
  obtain ⟨A2, c2, rfl, hA2⟩ := hu
  have HA2 := hid hA2
  clear hA hA2
  go_enter Try.func74, Try.ntmps74
  have HB := hid (below_alloc (Below.refl _ w) (.cells #[(.slice A xs.length c)] 26))
  have A0 := hid (At.newAt w (.slice A xs.length c) 26 w.heap.size (by simp))
  go_wp2_with fail
  refine (poGood_any _ xs _ (HV.out.below HB.out) hl).mono ?_
  rintro e w' ⟨rfl, hb⟩
  replace HB := hid (below_to HB.out hb)
  replace A0 := hid (A0.out.below hb)
  clear hb
  cases hq : good xs
  · have HO : Hid (okLin xs ws = false) := hid (okOrder_no (ys := ws) hq)
    clear hq
    have ebox0 := A0.out.1
    go_wp2
    go_ret2
    exact ⟨ret_ib (ansRk_no HO.out).symm HO.out.symm, HB.out⟩
  · have HQ := hid hq
    have HOO : Hid (okLin xs ws = orderB xs ws) := hid (okOrder_yes (ys := ws) hq)
    have hl10 := (good_length hq).2
    have hN2 := two_pow_le xs.length hl10
    obtain ⟨N, hN⟩ : ∃ N, 2 ^ xs.length = N := ⟨_, rfl⟩
    rw [hN] at hN2
    have HNe := hid hN
    clear hq hN
    have ebox0 := A0.out.1
    go_wp2_with fail
    clear ebox0
    refine (liIs_any _ _ xs ws _ (HV.out.below HB.out) (HU.out.below HB.out) HQ.out hm).mono ?_
    rintro e w' ⟨rfl, hb⟩
    replace HB := hid (below_to HB.out hb)
    replace A0 := hid (A0.out.below hb)
    clear hb
    cases ho : orderB xs ws
    · have HO := hid (HOO.out.trans ho)
      clear ho
      have ebox0 := A0.out.1
      go_wp2
      go_ret2
      exact ⟨ret_ib (ansRk_no HO.out).symm HO.out.symm, HB.out⟩
    · have HO := hid (HOO.out.trans ho)
      have HLw := hid (okLin_Lw HO.out)
      have HY := hid (ansRk_yes HO.out)
      have hw10 : ws.length ≤ 10 := by have := HLw.out.len; omega
      clear ho
      have ebox0 := A0.out.1
      go_wp2_with fail
      clear ebox0
      refine (liCounts_any _ xs N _ (HV.out.below HB.out) HQ.out HNe.out).mono ?_
      rintro e w' ⟨g, rfl, hT, hgw, hb⟩
      replace HB := hid (below_to HB.out hb)
      replace A0 := hid (A0.out.below hb)
      clear hb
      have HT := hid hT
      clear hT
      have ebox0 := A0.out.1
      go_wp2
      go_loopw [7, 8, 25] (fun q s i wr => ∃ k : Nat, k ≤ ws.length ∧ i = .int .i64 k ∧ q = .int .i64 ((rkS xs ws k).1 : Nat) ∧ s = .int .i64 ((rkS xs ws k).2 : Nat) ∧ wr = w') (fun _ _ i _ => ws.length - (intOf i).toNat)
      case atStart => exact ⟨0, Nat.zero_le _, rfl, rfl, rfl, rfl⟩
      case round =>
        obtain ⟨k, hk, rfl, rfl, rfl, rfl⟩ := hrel
        by_cases hlt : k < ws.length
        · obtain ⟨b2, o2, rfl, hbl2, hc2⟩ := HA2.out (by intro h; simp [h] at hlt)
          have hcell := (HB.out.cell (p := ⟨b2, o2 + k, none⟩) hbl2).trans (hc2 k hlt)
          have hin := HLw.out.at (j := k) (by have := HLw.out.len; omega)
          have hRk := rkS_le hl10 HLw.out k (by omega)
          have HSuc : Hid (rkS xs ws (k + 1) = ((rkS xs ws k).1 + sumN (nterm xs (rkS xs ws k).2) (ws.getD k 0).toNat, (rkS xs ws k).2 ||| 2 ^ (ws.getD k 0).toNat)) := hid rfl
          obtain ⟨e, he⟩ := Int.eq_ofNat_of_zero_le hin.1
          rw [he] at hcell hin HSuc
          rw [Int.toNat_natCast] at HSuc
          have hen : e < xs.length := by omega
          obtain ⟨s, hs⟩ : ∃ s, (rkS xs ws k).2 = s := ⟨_, rfl⟩
          obtain ⟨q, hq⟩ : ∃ q, (rkS xs ws k).1 = q := ⟨_, rfl⟩
          rw [hs, hq] at hRk HSuc ⊢
          obtain ⟨hq2, hS⟩ := hRk
          have hs10 : s < 1024 := lt1024 hS hl10
          have HS := hid hS
          have hq3 : q ≤ 1000000000000 := by omega
          clear hs hq hS hq2 hc2 he hin
          go_wp2
          clear hcell
          go_loopw [7, 11] (fun q' j wi => ∃ m : Nat, m ≤ e ∧ j = .int .i64 m ∧ q' = .int .i64 ((q + sumN (nterm xs s) m : Nat) : Int) ∧ wi = wr) (fun _ j _ => e - (intOf j).toNat)
          case atStart => exact ⟨0, Nat.zero_le _, rfl, rfl, rfl⟩
          case round =>
            obtain ⟨m, hm', rfl, rfl, rfl⟩ := hrel
            by_cases hme : m < e
            · have hmx : m < xs.length := by omega
              obtain ⟨b, o, rfl, hbl, hc⟩ := HA.out (by intro h; simp [h] at hmx)
              have hcell := (HB.out.cell (p := ⟨b, o + m, none⟩) hbl).trans (hc m hmx)
              have hr := row_lt HQ.out hmx
              have hr10 := row_lt10 HQ.out hmx
              obtain ⟨z, hz⟩ : ∃ z, row xs m = z := ⟨_, rfl⟩
              rw [hz] at hr hr10
              rw [hr.1] at hcell
              have HZ := hid hz
              have hx := nterm_le (xs := xs) hl10 s m
              have hsm := sumN_nterm_le (xs := xs) hl10 s (k := m) (by omega)
              have HSs := hid (sumN_succ (nterm xs s) m)
              have HNtN := hid (fun h => nterm_no (xs := xs) (s := s) (e := m) h)
              have HNtY := hid (fun h => nterm_yes (xs := xs) (s := s) (e := m) h)
              obtain ⟨x, hxe⟩ : ∃ x, nterm xs s m = x := ⟨_, rfl⟩
              rw [hxe] at HSs hx HNtN HNtY
              obtain ⟨y, hy⟩ : ∃ y, sumN (nterm xs s) m = y := ⟨_, rfl⟩
              rw [hy] at hsm HSs
              rw [hy]
              obtain ⟨f, hf⟩ : ∃ f, q + y = f := ⟨_, rfl⟩
              rw [hf]
              have HF := hid hf
              have hf3 : f ≤ 2000000000000 := by omega
              have hbx := A0.out.1
              have Hmx := hid hmx
              clear hxe hy hf hc hr hz hmx
              cases hbit : s.testBit m
              · have HBit := hid hbit
                have han := i64_andNot_nat z s (by omega) (by omega)
                by_cases h0 : sub z s = 0
                · have h0' : (((sub z s : Nat) : Int) == 0) = true := by rw [h0]; rfl
                  have hst := stepP_yes HZ.out hbit h0
                  have hqT : s ||| 2 ^ m < 2 ^ xs.length := Nat.or_lt_two_pow HS.out (pow_lt_len Hmx.out)
                  have hqN : s ||| 2 ^ m < N := by rw [← HNe.out]; exact hqT
                  have hcq : wr.cell? ⟨g, s ||| 2 ^ m, none⟩ = some (.int .i64 (x : Nat)) := by
                    rw [HT.out.cell, Vals_get (by rw [mkL_length]; exact hqN), mkL_getD hqN, endG_at hqT, HNtY.out hst]
                  have wp1 := wrap_pow' m (by omega)
                  have hor := or_pow s m hs10 (by omega)
                  obtain ⟨t, ht⟩ : ∃ t, s ||| 2 ^ m = t := ⟨_, rfl⟩
                  rw [ht] at hcq hor hqN
                  clear h0 hbit hst hqT ht
                  go_wp2_with (go_at_call 135; refine (poIn_any s m (by omega) _).mono ?_; rw [HBit.out]; rintro e' w2 ⟨rfl, rfl⟩)
                  go_roundw
                  case rel => exact ⟨m + 1, by omega, by go_num, (by rw [HSs.out]; have := HF.out; first | (congr 1; omega) | (simp; omega)), by first | trivial | rfl⟩
                  case measure => simp [intOf]; omega
                · have h0' : (((sub z s : Nat) : Int) == 0) = false := by rw [beq_eq_false_iff_ne]; omega
                  have hx0 := HNtN.out (stepP_no2 (s := s) HZ.out h0)
                  have HS0 := hid (show q + sumN (nterm xs s) (m + 1) = f by rw [HSs.out]; have := HF.out; omega)
                  clear h0 hbit hx0
                  go_wp2_with (go_at_call 135; refine (poIn_any s m (by omega) _).mono ?_; rw [HBit.out]; rintro e' w2 ⟨rfl, rfl⟩)
                  go_roundw
                  case rel => exact ⟨m + 1, by omega, by go_num, by rw [HS0.out], by first | trivial | rfl⟩
                  case measure => simp [intOf]; omega
              · have HBit := hid hbit
                have hx0 := HNtN.out (stepP_no1 (xs := xs) hbit)
                have HS0 := hid (show q + sumN (nterm xs s) (m + 1) = f by rw [HSs.out]; have := HF.out; omega)
                clear hbit hx0
                go_wp2_with (go_at_call 135; refine (poIn_any s m (by omega) _).mono ?_; rw [HBit.out]; rintro e' w2 ⟨rfl, rfl⟩)
                go_roundw
                case rel => exact ⟨m + 1, by omega, by go_num, by rw [HS0.out], by first | trivial | rfl⟩
                case measure => simp [intOf]; omega
            · obtain rfl : m = e := by omega
              have wp1 := wrap_pow' m (by omega)
              have hor := or_pow s m hs10 (by omega)
              go_wp2
              go_roundw
              case rel => exact ⟨k + 1, by omega, by go_num, by rw [HSuc.out], by rw [HSuc.out], by first | trivial | rfl⟩
              case measure => simp [intOf]; omega
        · obtain rfl : k = ws.length := by omega
          go_wp2
          go_ret2
          exact ⟨ret_ib (by rw [HY.out]; rfl) HO.out.symm, HB.out⟩
end Go.Proofs.Ytpdoheagfjeefaa

/- Evacuation, of any involutions in a row of which those that are not neighbours commute. No program is named here. -/
namespace Go.Proofs.Ytpdoheagfjeefaa
set_option linter.unusedVariables false

/-- involutions T 0, .., T (n - 1) on the numbers of kind D -/
structure Ivs {α : Type} (T : Nat → α → α) (D : α → Prop) (n : Nat) : Prop where
  ins : ∀ i s, i < n → D s → D (T i s)
  inv : ∀ i s, i < n → D s → T i (T i s) = s
  com : ∀ i j s, i < n → j < n → i + 2 ≤ j → D s → T i (T j s) = T j (T i s)
def actT {α : Type} (T : Nat → α → α) (w : List Nat) (s : α) : α := w.foldl (fun s i => T i s) s
theorem actT_nil {α : Type} (T : Nat → α → α) (s : α) : actT T [] s = s := rfl
theorem actT_cons {α : Type} (T : Nat → α → α) (i : Nat) (w : List Nat) (s : α) : actT T (i :: w) s = actT T w (T i s) := rfl
theorem actT_append {α : Type} (T : Nat → α → α) (a b : List Nat) (s : α) : actT T (a ++ b) s = actT T b (actT T a s) := by simp [actT, List.foldl_append]
/-- all letters are below n -/
def Lt (n : Nat) (w : List Nat) : Prop := ∀ i ∈ w, i < n
theorem Lt.app {n : Nat} {a b : List Nat} (ha : Lt n a) (hb : Lt n b) : Lt n (a ++ b) := fun i hi => (List.mem_append.1 hi).elim (ha i) (hb i)
theorem Lt.mono {m n : Nat} {a : List Nat} (h : Lt m a) (hmn : m ≤ n) : Lt n a := fun i hi => Nat.lt_of_lt_of_le (h i hi) hmn
theorem Ivs.act {α : Type} {T : Nat → α → α} {D : α → Prop} {n : Nat} (H : Ivs T D n) {w : List Nat} (hw : Lt n w) : ∀ s, D s → D (actT T w s) := by
  induction w with
  | nil => exact fun s hs => hs
  | cons i w ih => exact fun s hs => ih (fun j hj => hw j (List.mem_cons_of_mem _ hj)) _ (H.ins i s (hw i (by simp)) hs)
theorem Ivs.rev {α : Type} {T : Nat → α → α} {D : α → Prop} {n : Nat} (H : Ivs T D n) {w : List Nat} (hw : Lt n w) : ∀ s, D s → actT T (w ++ w.reverse) s = s := by
  induction w with
  | nil => exact fun s hs => rfl
  | cons i w ih =>
    intro s hs
    have hi := hw i (by simp)
    have hw2 : Lt n w := fun j hj => hw j (List.mem_cons_of_mem _ hj)
    rw [List.reverse_cons, ← List.append_assoc, actT_append, List.cons_append]
    show T i (actT T (w ++ w.reverse) (T i s)) = s
    rw [ih hw2 _ (H.ins i s hi hs)]
    exact H.inv i s hi hs
theorem Ivs.com' {α : Type} {T : Nat → α → α} {D : α → Prop} {n : Nat} (H : Ivs T D n) {i j : Nat} {s : α} (hi : i < n) (hj : j < n) (hij : i + 2 ≤ j ∨ j + 2 ≤ i) (hs : D s) : T i (T j s) = T j (T i s) :=
  hij.elim (fun h => H.com i j s hi hj h hs) (fun h => (H.com j i s hj hi h hs).symm)
theorem Ivs.one {α : Type} {T : Nat → α → α} {D : α → Prop} {n : Nat} (H : Ivs T D n) {i : Nat} (hi : i < n) {b : List Nat} (hb : Lt n b) (h : ∀ j ∈ b, i + 2 ≤ j ∨ j + 2 ≤ i) : ∀ s, D s → actT T b (T i s) = T i (actT T b s) := by
  induction b with
  | nil => exact fun _ _ => rfl
  | cons j b ih =>
    intro s hs
    have hj := hb j (by simp)
    rw [actT_cons, actT_cons, ← H.com' hi hj (h j (by simp)) hs]
    exact ih (fun k hk => hb k (List.mem_cons_of_mem _ hk)) (fun k hk => h k (List.mem_cons_of_mem _ hk)) _ (H.ins j s hj hs)
theorem Ivs.swap {α : Type} {T : Nat → α → α} {D : α → Prop} {n : Nat} (H : Ivs T D n) {a b : List Nat} (ha : Lt n a) (hb : Lt n b) (h : ∀ i ∈ a, ∀ j ∈ b, i + 2 ≤ j ∨ j + 2 ≤ i) : ∀ s, D s → actT T (a ++ b) s = actT T (b ++ a) s := by
  induction a with
  | nil => intro s hs; simp
  | cons i a ih =>
    intro s hs
    have hi := ha i (by simp)
    have ha2 : Lt n a := fun j hj => ha j (List.mem_cons_of_mem _ hj)
    rw [List.cons_append, actT_cons, ih ha2 (fun k hk => h k (List.mem_cons_of_mem _ hk)) _ (H.ins i s hi hs), actT_append, H.one hi hb (h i (by simp)) s hs, actT_append, actT_cons]
/-- 0, 1, .., k - 1 · m, .., n - 1 · up k, up (k - 1), .., up 1 -/
def upW (k : Nat) : List Nat := List.range k
def geW (m n : Nat) : List Nat := (List.range (n - m)).map fun j => m + j
def gaW : Nat → List Nat
  | 0 => []
  | k + 1 => upW (k + 1) ++ gaW k
theorem upW_lt (k : Nat) : Lt k (upW k) := fun i hi => List.mem_range.1 hi
theorem gaW_lt : ∀ k, Lt k (gaW k)
  | 0 => fun i hi => by cases hi
  | k + 1 => (upW_lt (k + 1)).app ((gaW_lt k).mono (Nat.le_succ k))
theorem geW_mem {m n i : Nat} : i ∈ geW m n ↔ m ≤ i ∧ i < n := by
  unfold geW
  rw [List.mem_map]
  constructor
  · rintro ⟨j, hj, rfl⟩; rw [List.mem_range] at hj; omega
  · rintro ⟨h1, h2⟩; exact ⟨i - m, List.mem_range.2 (by omega), by omega⟩
theorem geW_lt (m n : Nat) : Lt n (geW m n) := fun i hi => (geW_mem.1 hi).2
theorem upW_geW {m n : Nat} (h : m ≤ n) : upW m ++ geW m n = upW n := by
  unfold upW geW
  have e := List.range_add (n := m) (m := n - m)
  rw [show m + (n - m) = n by omega] at e
  exact e.symm
theorem upW_succ (k : Nat) : upW (k + 1) = upW k ++ [k] := List.range_succ
/-- evacuation of k + 1 is that of k, and all backwards -/
theorem Ivs.gaBack {α : Type} {T : Nat → α → α} {D : α → Prop} {n : Nat} (H : Ivs T D n) : ∀ k, k + 1 ≤ n → ∀ s, D s → actT T (gaW (k + 1)) s = actT T (gaW k ++ (upW (k + 1)).reverse) s
  | 0, h, s, hs => rfl
  | k + 1, h, s, hs => by
    have h1 : gaW (k + 2) = upW (k + 1) ++ ([k + 1] ++ gaW (k + 1)) := by
      show upW (k + 2) ++ gaW (k + 1) = _
      rw [upW_succ (k + 1), List.append_assoc]
    have hup := (upW_lt (k + 1)).mono (show k + 1 ≤ n by omega)
    rw [h1, actT_append, actT_append]
    have hs1 := H.act hup s hs
    have hs2 : D (actT T [k + 1] (actT T (upW (k + 1)) s)) := H.act (w := [k + 1]) (fun i hi => by rw [List.mem_singleton] at hi; omega) _ hs1
    rw [H.gaBack k (by omega) _ hs2, ← actT_append, ← List.append_assoc, actT_append]
    rw [H.swap (a := [k + 1]) (b := gaW k) (fun i hi => by rw [List.mem_singleton] at hi; omega) ((gaW_lt k).mono (by omega)) (fun i hi j hj => by rw [List.mem_singleton] at hi; have := gaW_lt k j hj; omega) _ hs1]
    rw [← actT_append, ← actT_append]
    congr 1
    rw [upW_succ (k + 1), List.reverse_append]
    show _ = (upW (k + 1) ++ gaW k) ++ ([k + 1] ++ (upW (k + 1)).reverse)
    simp
/-- evacuation undoes itself -/
theorem Ivs.gaTwice {α : Type} {T : Nat → α → α} {D : α → Prop} {n : Nat} (H : Ivs T D n) : ∀ k, k ≤ n → ∀ s, D s → actT T (gaW k) (actT T (gaW k) s) = s
  | 0, h, s, hs => rfl
  | k + 1, h, s, hs => by
    have hg := (gaW_lt k).mono (show k ≤ n by omega)
    have hup := (upW_lt (k + 1)).mono h
    have hr : Lt n (upW (k + 1)).reverse := fun i hi => hup i (List.mem_reverse.1 hi)
    rw [H.gaBack k h s hs, actT_append]
    show actT T (upW (k + 1) ++ gaW k) _ = s
    rw [actT_append, ← actT_append T _ (upW (k + 1))]
    have e := H.rev (w := (upW (k + 1)).reverse) hr (actT T (gaW k) s) (H.act hg s hs)
    rw [List.reverse_reverse] at e
    rw [e]
    exact H.gaTwice k (by omega) s hs
/-- and turns 'all of them in order' round -/
theorem Ivs.gaTurn {α : Type} {T : Nat → α → α} {D : α → Prop} {n : Nat} (H : Ivs T D n) {k : Nat} (h : k + 1 ≤ n) {s : α} (hs : D s) : actT T (upW (k + 1)) (actT T (gaW (k + 1)) (actT T (upW (k + 1)) s)) = actT T (gaW (k + 1)) s := by
  have hg := (gaW_lt k).mono (show k ≤ n by omega)
  have hup := (upW_lt (k + 1)).mono h
  have hr : Lt n (upW (k + 1)).reverse := fun i hi => hup i (List.mem_reverse.1 hi)
  have hs1 := H.act hup s hs
  rw [H.gaBack k h _ hs1, actT_append, ← actT_append T _ (upW (k + 1))]
  have e := H.rev (w := (upW (k + 1)).reverse) hr (actT T (gaW k) (actT T (upW (k + 1)) s)) (H.act hg _ hs1)
  rw [List.reverse_reverse] at e
  rw [e, ← actT_append]
  rfl
/-- m .. n - 1, then m - 1 .. n - 1, .., then 1 .. n - 1 -/
def reW (n : Nat) : Nat → List Nat
  | 0 => []
  | m + 1 => geW (m + 1) n ++ reW n m
theorem reW_lt (n : Nat) : ∀ m, Lt n (reW n m)
  | 0 => fun i hi => by cases hi
  | m + 1 => (geW_lt (m + 1) n).app (reW_lt n m)
def powT {α : Type} (T : Nat → α → α) (w : List Nat) : Nat → α → α
  | 0, s => s
  | k + 1, s => powT T w k (actT T w s)
theorem powT_last {α : Type} (T : Nat → α → α) (w : List Nat) : ∀ k s, powT T w (k + 1) s = actT T w (powT T w k s)
  | 0, s => rfl
  | k + 1, s => by rw [powT, powT_last T w k]; rfl
/-- the dual evacuation: n - 1, .., 0, then n - 1, .., 1, .., then n - 1 -/
def duW (n : Nat) : List Nat := (reW n (n - 1) ++ upW n).reverse
theorem Ivs.gaRe {α : Type} {T : Nat → α → α} {D : α → Prop} {n : Nat} (H : Ivs T D n) : ∀ m, m < n → ∀ s, D s → actT T (gaW m ++ reW n m) s = powT T (upW n) m s
  | 0, h, s, hs => rfl
  | m + 1, h, s, hs => by
    have hup := (upW_lt (m + 1)).mono (show m + 1 ≤ n by omega)
    have hs1 := H.act hup s hs
    have e1 : gaW (m + 1) ++ reW n (m + 1) = upW (m + 1) ++ (gaW m ++ geW (m + 1) n ++ reW n m) := by
      show (upW (m + 1) ++ gaW m) ++ (geW (m + 1) n ++ reW n m) = _
      simp
    rw [e1, actT_append, actT_append, H.swap ((gaW_lt m).mono (by omega)) (geW_lt (m + 1) n) (fun i hi j hj => by have := gaW_lt m i hi; have := (geW_mem.1 hj).1; omega) _ hs1, ← actT_append, List.append_assoc, actT_append,
      ← actT_append T (upW (m + 1)), upW_geW (by omega)]
    exact H.gaRe m (by omega) _ (H.act (upW_lt n) s hs)
theorem Ivs.duTwo {α : Type} {T : Nat → α → α} {D : α → Prop} {n : Nat} (H : Ivs T D n) (h1 : 1 ≤ n) {s : α} (hs : D s) (hd : actT T (duW n) (actT T (duW n) s) = s) (hall : ∀ t, D t → actT T (duW n) (actT T (duW n) t) = t) : actT T (duW n) (actT T (gaW n) s) = powT T (upW n) (n + 1) s := by
  obtain ⟨m, rfl⟩ : ∃ m, n = m + 1 := ⟨n - 1, by omega⟩
  have hre : Lt (m + 1) (reW (m + 1) m ++ upW (m + 1)) := (reW_lt (m + 1) m).app (upW_lt (m + 1))
  have hdl : Lt (m + 1) (duW (m + 1)) := fun i hi => hre i (List.mem_reverse.1 hi)
  have hg := H.act (gaW_lt (m + 1)) s hs
  -- the dual is its own reverse
  have e : actT T (duW (m + 1)) (actT T (gaW (m + 1)) s) = actT T (reW (m + 1) m ++ upW (m + 1)) (actT T (gaW (m + 1)) s) := by
    have e1 := H.rev (w := duW (m + 1)) hdl (actT T (gaW (m + 1)) s) hg
    have e2 : (duW (m + 1)).reverse = reW (m + 1) m ++ upW (m + 1) := List.reverse_reverse _
    rw [e2, actT_append] at e1
    have hd2 := H.act hdl _ hg
    have e3 := hall _ hg
    have e4 : ∀ t, D t → actT T (reW (m + 1) m ++ upW (m + 1)) (actT T (duW (m + 1)) t) = t := fun t ht => by
      have := H.rev (w := duW (m + 1)) hdl t ht
      rwa [e2, actT_append] at this
    have e5 := e4 _ hd2
    rw [e3] at e5
    exact e5.symm
  rw [e, actT_append, ← actT_append T (gaW (m + 1))]
  have e6 : gaW (m + 1) ++ reW (m + 1) m = upW (m + 1) ++ (gaW m ++ reW (m + 1) m) := by
    show (upW (m + 1) ++ gaW m) ++ _ = _
    simp
  rw [e6, actT_append, H.gaRe m (by omega) _ (H.act (upW_lt (m + 1)) s hs), ← powT_last]
  rfl
/-- the involutions in the other order -/
theorem Ivs.flip {α : Type} {T : Nat → α → α} {D : α → Prop} {n : Nat} (H : Ivs T D n) : Ivs (fun i => T (n - 1 - i)) D n where
  ins i s hi hs := H.ins _ s (by omega) hs
  inv i s hi hs := H.inv _ s (by omega) hs
  com i j s hi hj hij hs := (H.com (n - 1 - j) (n - 1 - i) s (by omega) (by omega) (by omega) hs).symm
theorem actT_flip {α : Type} (T : Nat → α → α) (n : Nat) : ∀ (w : List Nat) (s : α), actT (fun i => T (n - 1 - i)) w s = actT T (w.map fun i => n - 1 - i) s
  | [], s => rfl
  | i :: w, s => by rw [actT_cons, List.map_cons, actT_cons]; exact actT_flip T n w _
theorem upW_flip (n k : Nat) (hk : k ≤ n) : (upW k).map (fun i => n - 1 - i) = (geW (n - k) n).reverse := by
  apply List.ext_getElem
  · simp [upW, geW]; omega
  · intro i h1 h2
    rw [List.getElem_reverse]
    simp only [upW, geW, List.getElem_map, List.getElem_range, List.length_map, List.length_range]
    have : i < k := by simpa [upW] using h1
    omega
def reX (n : Nat) : Nat → List Nat
  | 0 => []
  | k + 1 => reX n k ++ geW (n - (k + 1)) n
theorem gaW_flip (n : Nat) : ∀ k, k ≤ n → (gaW k).map (fun i => n - 1 - i) = (reX n k).reverse
  | 0, _ => rfl
  | k + 1, h => by
    show (upW (k + 1) ++ gaW k).map _ = (reX n k ++ geW (n - (k + 1)) n).reverse
    rw [List.map_append, upW_flip n (k + 1) h, gaW_flip n k (by omega), List.reverse_append]
theorem reX_reW (n : Nat) : ∀ k, k + 1 ≤ n → reX n k ++ reW n (n - 1 - k) = reW n (n - 1)
  | 0, _ => rfl
  | k + 1, h => by
    have ih := reX_reW n k (by omega)
    have e : reW n (n - 1 - k) = geW (n - (k + 1)) n ++ reW n (n - 1 - (k + 1)) := by
      obtain ⟨m, hm⟩ : ∃ m, n - 1 - k = m + 1 := ⟨n - 1 - k - 1, by omega⟩
      rw [hm, show n - (k + 1) = m + 1 by omega, show n - 1 - (k + 1) = m by omega]; rfl
    rw [e, ← List.append_assoc] at ih
    exact ih
theorem duW_flip {n : Nat} (h : 1 ≤ n) : (gaW n).map (fun i => n - 1 - i) = duW n := by
  rw [gaW_flip n n (Nat.le_refl _)]
  unfold duW
  congr 1
  obtain ⟨m, rfl⟩ : ∃ m, n = m + 1 := ⟨n - 1, by omega⟩
  have e := reX_reW (m + 1) m (by omega)
  rw [show m + 1 - 1 - m = 0 by omega] at e
  show reX (m + 1) m ++ geW (m + 1 - (m + 1)) (m + 1) = _
  rw [← e, show m + 1 - (m + 1) = 0 by omega]
  have e2 : geW 0 (m + 1) = upW (m + 1) := by simp [geW, upW]
  rw [e2]
  simp [reW]
theorem Ivs.duTwice {α : Type} {T : Nat → α → α} {D : α → Prop} {n : Nat} (H : Ivs T D n) (h : 1 ≤ n) {s : α} (hs : D s) : actT T (duW n) (actT T (duW n) s) = s := by
  have e := H.flip.gaTwice n (Nat.le_refl _) s hs
  rw [actT_flip, actT_flip, duW_flip h] at e
  exact e
theorem duW_lt {n : Nat} : Lt n (duW n) := fun i hi => ((reW_lt n (n - 1)).app (upW_lt n)) i (List.mem_reverse.1 hi)
theorem Ivs.duTurn {α : Type} {T : Nat → α → α} {D : α → Prop} {n : Nat} (H : Ivs T D n) (h : 1 ≤ n) {s : α} (hs : D s) : actT T (upW n) (actT T (duW n) (actT T (upW n) s)) = actT T (duW n) s := by
  obtain ⟨m, rfl⟩ : ∃ m, n = m + 1 := ⟨n - 1, by omega⟩
  have hup := upW_lt (m + 1)
  have hr : Lt (m + 1) (upW (m + 1)).reverse := fun i hi => hup i (List.mem_reverse.1 hi)
  have hs1 := H.act hup s hs
  have e := H.flip.gaTurn (k := m) (Nat.le_refl _) hs1
  rw [actT_flip, actT_flip, actT_flip, actT_flip, duW_flip h, upW_flip (m + 1) (m + 1) (Nat.le_refl _), show m + 1 - (m + 1) = 0 by omega] at e
  have e2 : geW 0 (m + 1) = upW (m + 1) := by simp [geW, upW]
  rw [e2] at e
  have e3 := H.rev hup s hs
  rw [actT_append] at e3
  rw [e3] at e
  have hd := H.act duW_lt s hs
  have e4 := H.rev hr _ hd
  rw [List.reverse_reverse, actT_append, e] at e4
  exact e4
theorem Ivs.gaDu {α : Type} {T : Nat → α → α} {D : α → Prop} {n : Nat} (H : Ivs T D n) (h1 : 1 ≤ n) {s : α} (hs : D s) : actT T (duW n) (actT T (gaW n) s) = powT T (upW n) (n + 1) s :=
  H.duTwo h1 hs (H.duTwice h1 hs) fun t ht => H.duTwice h1 ht
end Go.Proofs.Ytpdoheagfjeefaa
