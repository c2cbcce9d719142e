/- Texts EndL, Has, one behind the other. -/
import Derived.Deep.RegionWith
import Derived.Deep.AppendLies
import Derived.Test.YtpdoheagfjeefaaPkPromotionTogglesProof07
import Derived.Test.YtpdoheagfjeefaaPkPromotionTogglesProof10
import Derived.Test.YtpdoheagfjeefaaPkPromotionTogglesProof14
/- CountLinear, LinearWith, RankLinear of both sides. -/
namespace Go.Proofs.Ytpdoheagfjeefaa
open Go.RowKit Go.WideShapes Go.ChangeShapes
set_option linter.unusedVariables false

theorem specCountLinear_any (v : Value) (xs : List Int) (w : World) (hv : Ints w v xs) (hl : xs.length ≤ 1048576) :
    Calls Try.prog 70 #[.agg #[v]] w fun r w' => r = .returned (.tuple #[.int .i64 (ansN xs cntL), .bool (good xs)]) ∧ Below w.heap.size w w' := by
  have HV := hid hv
  clear hv
  go_enter Try.func70, Try.ntmps70
  have HB := hid (below_alloc (Below.refl _ w) (.cells #[v] 26))
  have A0 := hid (At.newAt w v 26 w.heap.size (by simp))
  go_wp2_with fail
  refine (poGood_any _ xs _ (HV.out.below HB.out) hl).mono ?_
  rintro e w' ⟨rfl, hb⟩
  replace HB := hid (below_to HB.out hb)
  replace A0 := hid (A0.out.below hb)
  clear hb
  cases hq : good xs
  · have HQ := hid hq
    clear hq
    have ebox0 := A0.out.1
    go_wp2
    go_ret2
    exact ⟨ret_ib (ansN_no HQ.out).symm HQ.out.symm, HB.out⟩
  · have HQ := hid hq
    have hl10 := (good_length hq).2
    have hN2 := two_pow_le xs.length hl10
    obtain ⟨N, hN⟩ : ∃ N, 2 ^ xs.length = N := ⟨_, rfl⟩
    rw [hN] at hN2
    have hNi : (0 : Int) < (N : Int) := by omega
    have HA := hid (ansN_yes (f := cntL) hq)
    clear hq
    have ebox0 := A0.out.1
    go_wp2_with fail
    clear ebox0
    refine (liCounts_any _ xs N _ (HV.out.below HB.out) HQ.out hN).mono ?_
    rintro e w' ⟨g, rfl, hT, hgw, hb⟩
    replace HB := hid (below_to HB.out hb)
    replace A0 := hid (A0.out.below hb)
    clear hb
    have hc := cell_zero hT (by omega)
    obtain ⟨x, hx⟩ : ∃ x, cntL xs = x := ⟨_, rfl⟩
    rw [hx] at hc HA
    clear hT hN hx
    have ebox0 := A0.out.1
    go_wp2
    go_ret2
    exact ⟨ret_ib (by rw [HA.out]) HQ.out.symm, HB.out⟩
theorem implCountLinear_any (v : Value) (xs : List Int) (w : World) (hv : Ints w v xs) (hl : xs.length ≤ 1048576) :
    Calls Try.prog 21 #[.agg #[v]] w fun r w' => r = .returned (.tuple #[.int .i64 (ansN xs cntL), .bool (good xs)]) ∧ Below w.heap.size w w' := by
  have HV := hid hv
  clear hv
  go_enter Try.func21, Try.ntmps21
  have HB := hid (below_alloc (Below.refl _ w) (.cells #[v] 26))
  have A0 := hid (At.newAt w v 26 w.heap.size (by simp))
  go_wp2_with fail
  refine (implIsPoset_any _ xs _ (HV.out.below HB.out) hl).mono ?_
  rintro e w' ⟨rfl, hb⟩
  replace HB := hid (below_to HB.out hb)
  replace A0 := hid (A0.out.below hb)
  clear hb
  cases hq : good xs
  · have HQ := hid hq
    clear hq
    have ebox0 := A0.out.1
    go_wp2
    go_ret2
    exact ⟨ret_ib (ansN_no HQ.out).symm HQ.out.symm, HB.out⟩
  · have HQ := hid hq
    have HA := hid (ansN_yes (f := cntL) hq)
    clear hq
    have ebox0 := A0.out.1
    go_wp2_with fail
    clear ebox0
    refine (endingsOf_any _ xs _ (HV.out.below HB.out) HQ.out).mono ?_
    rintro e w' ⟨g, rfl, hT, hgw, hb⟩
    replace HB := hid (below_to HB.out hb)
    replace A0 := hid (A0.out.below hb)
    clear hb
    have hc := cell_zero hT (by omega)
    obtain ⟨x, hx⟩ : ∃ x, cntL xs = x := ⟨_, rfl⟩
    rw [hx] at hc HA
    clear hT hx
    have ebox0 := A0.out.1
    go_wp2
    go_ret2
    exact ⟨ret_ib (by rw [HA.out]) HQ.out.symm, HB.out⟩

def okLW (xs : List Int) (r : Int) : Bool := good xs && (decide (0 ≤ r) && decide (r ≤ (cntL xs : Int) - 1))
def ansLW (xs : List Int) (r : Int) : List Int := if okLW xs r then unrL xs r.toNat else []
theorem okLW_no1 {xs : List Int} {r : Int} (h : good xs = false) : okLW xs r = false := by simp [okLW, h]
theorem okLW_no2 {xs : List Int} {r : Int} (h : (decide (0 ≤ r) && decide (r ≤ (cntL xs : Int) - 1)) = false) : okLW xs r = false := by simp only [okLW, h]; simp
theorem okLW_yes {xs : List Int} {r : Int} (h : good xs = true) (k : (decide (0 ≤ r) && decide (r ≤ (cntL xs : Int) - 1)) = true) : okLW xs r = true := by simp only [okLW, h, k]; rfl
theorem ansLW_no {xs : List Int} {r : Int} (h : okLW xs r = false) : ansLW xs r = [] := by simp [ansLW, h]
theorem ansLW_yes {xs : List Int} {r : Nat} (h : okLW xs r = true) : ansLW xs r = unrL xs r := by simp [ansLW, h]
theorem ansLW_length (xs : List Int) (r : Int) : (ansLW xs r).length ≤ 1048576 := by
  cases h : okLW xs r
  · rw [ansLW_no h]; simp
  · unfold ansLW
    rw [if_pos h, unrL_length]
    have h1 : good xs = true := by simp only [okLW, Bool.and_eq_true] at h; exact h.1
    have := (good_length h1).2
    omega
theorem specLinearWith_any (v : Value) (xs : List Int) (r : Int) (w : World) (hv : Ints w v xs) (hl : xs.length ≤ 1048576) (wf : (Lit.int .i64 r).wf = true) :
    Calls Try.prog 66 #[.agg #[v], .int .i64 r] w fun (e : Ending) w' => ∃ q, e = Ending.returned (.tuple #[q, .bool (okLW xs r)]) ∧ OwnI 3 w' w.heap.size q (ansLW xs r) ∧ (ansLW xs r).length ≤ 1048576 ∧ Below w.heap.size w w' := by
  have HV := hid hv
  have HL := hid (ansLW_length xs r)
  clear hv wf
  go_enter Try.func66, Try.ntmps66
  have HB := hid (below_alloc (Below.refl _ w) (.cells #[v] 26))
  have A0 := hid (At.newAt w v 26 w.heap.size (by simp))
  go_wp2_with fail
  refine (poGood_any _ xs _ (HV.out.below HB.out) hl).mono ?_
  rintro e w' ⟨rfl, hb⟩
  replace HB := hid (below_to HB.out hb)
  replace A0 := hid (A0.out.below hb)
  clear hb
  cases hq : good xs
  · have HO := hid (okLW_no1 (r := r) hq)
    clear hq
    have ebox0 := A0.out.1
    go_wp2
    go_ret2
    exact ⟨_, ret_vbL HO.out.symm, by rw [ansLW_no HO.out]; exact OwnI.nil _ _ _, HL.out, HB.out⟩
  · have HQ := hid hq
    have hl10 := (good_length hq).2
    have hN2 := two_pow_le xs.length hl10
    obtain ⟨N, hN⟩ : ∃ N, 2 ^ xs.length = N := ⟨_, rfl⟩
    rw [hN] at hN2
    have hNi : (0 : Int) < (N : Int) := by omega
    have hxl := cntL_le hl10
    have HNe := hid hN
    clear hq
    have ebox0 := A0.out.1
    go_wp2_with fail
    clear ebox0
    refine (liCounts_any _ xs N _ (HV.out.below HB.out) HQ.out HNe.out).mono ?_
    rintro e w' ⟨g, rfl, hT, hgw, hb⟩
    replace HB := hid (below_to HB.out hb)
    replace A0 := hid (A0.out.below hb)
    clear hb
    have hc := cell_zero hT (by omega)
    have HT := hid hT
    obtain ⟨x, hx⟩ : ∃ x, cntL xs = x := ⟨_, rfl⟩
    rw [hx] at hc hxl
    have HX := hid hx
    have e1 : IntKind.i64.wrap ((x : Int) - 1) = (x : Int) - 1 := IntWalk.i64_in _ (by omega)
    clear hT hN hx
    have ebox0 := A0.out.1
    go_wp2_with fail
    clear ebox0
    refine (l1In_any r 0 ((x : Int) - 1) _).mono ?_
    rintro e w2 ⟨rfl, rfl⟩
    clear e1 hc
    cases hk : (decide (0 ≤ r) && decide (r ≤ (x : Int) - 1))
    · have HO := hid (okLW_no2 (xs := xs) (r := r) (by rw [HX.out]; exact hk))
      clear hk
      go_wp2
      go_ret2
      exact ⟨_, ret_vbL HO.out.symm, by rw [ansLW_no HO.out]; exact OwnI.nil _ _ _, HL.out, HB.out⟩
    · have HO := hid (okLW_yes (r := r) HQ.out (by rw [HX.out]; exact hk))
      have hk2 : 0 ≤ r ∧ r ≤ (x : Int) - 1 := by simpa using hk
      obtain ⟨z, rfl⟩ := Int.eq_ofNat_of_zero_le hk2.1
      have HY := hid (ansLW_yes HO.out)
      have HZ : Hid (z < ends xs 0) := hid (by show z < cntL xs; rw [HX.out]; omega)
      have hz := HB.out.size
      clear hk hk2
      have ebox0 := A0.out.1
      go_wp2_with fail
      clear ebox0
      refine (liWith_any g N _ xs z _ (HV.out.below HB.out) HT.out HNe.out HQ.out HZ.out).mono ?_
      rintro e w' ⟨q, rfl, ho, hb⟩
      replace HB := hid (below_to HB.out hb)
      replace A0 := hid (A0.out.below hb)
      clear hb
      have ebox0 := A0.out.1
      go_wp2
      go_ret2
      exact ⟨_, ret_vbL HO.out.symm, by rw [HY.out]; exact ho.mono hz, HL.out, HB.out⟩
theorem implLinearWith_any (v : Value) (xs : List Int) (r : Int) (w : World) (hv : Ints w v xs) (hl : xs.length ≤ 1048576) (wf : (Lit.int .i64 r).wf = true) :
    Calls Try.prog 65 #[.agg #[v], .int .i64 r] w fun (e : Ending) w' => ∃ q, e = Ending.returned (.tuple #[q, .bool (okLW xs r)]) ∧ OwnI 3 w' w.heap.size q (ansLW xs r) ∧ (ansLW xs r).length ≤ 1048576 ∧ Below w.heap.size w w' := by
  have HV := hid hv
  have HL := hid (ansLW_length xs r)
  clear hv wf
  go_enter Try.func65, Try.ntmps65
  have HB := hid (below_alloc (Below.refl _ w) (.cells #[v] 26))
  have A0 := hid (At.newAt w v 26 w.heap.size (by simp))
  go_wp2_with fail
  refine (implIsPoset_any _ xs _ (HV.out.below HB.out) hl).mono ?_
  rintro e w' ⟨rfl, hb⟩
  replace HB := hid (below_to HB.out hb)
  replace A0 := hid (A0.out.below hb)
  clear hb
  cases hq : good xs
  · have HO := hid (okLW_no1 (r := r) hq)
    clear hq
    have ebox0 := A0.out.1
    go_wp2
    go_ret2
    exact ⟨_, ret_vbL HO.out.symm, by rw [ansLW_no HO.out]; exact OwnI.nil _ _ _, HL.out, HB.out⟩
  · have HQ := hid hq
    have hl10 := (good_length hq).2
    have hxl := cntL_le hl10
    clear hq
    have ebox0 := A0.out.1
    go_wp2_with fail
    clear ebox0
    refine (endingsOf_any _ xs _ (HV.out.below HB.out) HQ.out).mono ?_
    rintro e w' ⟨g, rfl, hT, hgw, hb⟩
    replace HB := hid (below_to HB.out hb)
    replace A0 := hid (A0.out.below hb)
    clear hb
    have hc := cell_zero hT (by omega)
    have HT := hid hT
    obtain ⟨x, hx⟩ : ∃ x, cntL xs = x := ⟨_, rfl⟩
    rw [hx] at hc hxl
    have HX := hid hx
    clear hT hx
    by_cases h0 : r < 0
    · have HO := hid (okLW_no2 (xs := xs) (r := r) (by rw [HX.out, Bool.eq_false_iff]; simp; omega))
      have ebox0 := A0.out.1
      go_wp2
      go_ret2
      exact ⟨_, ret_vbL HO.out.symm, by rw [ansLW_no HO.out]; exact OwnI.nil _ _ _, HL.out, HB.out⟩
    · by_cases h2 : (x : Int) ≤ r
      · have HO := hid (okLW_no2 (xs := xs) (r := r) (by rw [HX.out, Bool.eq_false_iff]; simp; omega))
        have ebox0 := A0.out.1
        go_wp2
        go_ret2
        exact ⟨_, ret_vbL HO.out.symm, by rw [ansLW_no HO.out]; exact OwnI.nil _ _ _, HL.out, HB.out⟩
      · have HO := hid (okLW_yes (r := r) HQ.out (by rw [HX.out]; simp; omega))
        obtain ⟨z, rfl⟩ := Int.eq_ofNat_of_zero_le (show 0 ≤ r by omega)
        have HY := hid (ansLW_yes HO.out)
        have HZ : Hid (z < ends xs 0) := hid (by show z < cntL xs; rw [HX.out]; omega)
        have hz := HB.out.size
        have ebox0 := A0.out.1
        go_wp2_with fail
        clear ebox0
        refine (linearWith_any g _ xs z _ (HV.out.below HB.out) HT.out HQ.out HZ.out).mono ?_
        rintro e w' ⟨q, rfl, ho, hb⟩
        replace HB := hid (below_to HB.out hb)
        replace A0 := hid (A0.out.below hb)
        clear hb
        clear h0 h2 hc
        have ebox0 := A0.out.1
        go_wp2
        go_ret2
        exact ⟨_, ret_vbL HO.out.symm, by rw [HY.out]; exact ho.mono hz, HL.out, HB.out⟩

def ansRk (xs ws : List Int) : Int := if okLin xs ws then (rankN xs ws : Int) else 0
theorem ansRk_no {xs ws : List Int} (h : okLin xs ws = false) : ansRk xs ws = 0 := by simp [ansRk, h]
theorem ansRk_yes {xs ws : List Int} (h : okLin xs ws = true) : ansRk xs ws = (rankN xs ws : Int) := by simp [ansRk, h]
set_option maxHeartbeats 1600000 in
theorem implRankLinear_any (v : Value) (xs : List Int) (u : Value) (ws : List Int) (w : World) (hv : Ints w v xs) (hl : xs.length ≤ 1048576) (hu : Ints w u ws) (hm : ws.length ≤ 1048576) :
    Calls Try.prog 73 #[.agg #[v], u] w fun r w' => r = .returned (.tuple #[.int .i64 (ansRk xs ws), .bool (okLin xs ws)]) ∧ Below w.heap.size w w' := by
  have HV := hid hv
  have HU := hid hu
  clear hv hu
  go_enter Try.func73, Try.ntmps73
  have HB := hid (below_alloc (Below.refl _ w) (.cells #[v] 26))
  have A0 := hid (At.newAt w v 26 w.heap.size (by simp))
  go_wp2_with fail
  refine (hasLinear_any _ _ xs ws _ (HV.out.below HB.out) hl (HU.out.below HB.out) hm).mono ?_
  rintro e w' ⟨rfl, hb⟩
  replace HB := hid (below_to HB.out hb)
  replace A0 := hid (A0.out.below hb)
  clear hb
  cases hq : okLin xs ws
  · have HO := hid hq
    clear hq
    have ebox0 := A0.out.1
    go_wp2
    go_ret2
    exact ⟨ret_ib (ansRk_no HO.out).symm HO.out.symm, HB.out⟩
  · have HO := hid hq
    have HLw := hid (okLin_Lw hq)
    have HG := hid (okLin_all hq).1
    have HY := hid (ansRk_yes hq)
    have HV1 := hid (HV.out.below HB.out)
    have HU1 := hid (HU.out.below HB.out)
    have ebox0 := A0.out.1
    clear hq
    go_wp2_with fail
    go_region_with (first | (go_at_call 90; refine (endingsOf_any _ xs _ HV1.out.drew HG.out).mono ?_; rintro e w3 ⟨g, rfl, hT, -, hb3⟩; have H3 := hid (below_to (Below.refl _ w').drew hb3); have HT3 := hid hT; have ebox3 := (A0.out.below H3.out).1; clear hb3 hT) | (go_at_call 133; refine (rankOf_any g _ _ xs ws _ (HV1.out.below H3.out) (HU1.out.below H3.out) HT3.out HG.out HLw.out).mono ?_; rintro e w4 ⟨rfl, hb4⟩; have H4 := hid (below_to H3.out hb4); clear hb4))
    all_goals clear ebox0 ebox3
    all_goals go_wp2
    all_goals go_ret2
    all_goals exact ⟨ret_ib (by rw [HY.out]) HO.out.symm, below_to HB.out H4.out⟩
set_option maxHeartbeats 3200000 in
theorem specRankLinear_any (v : Value) (xs : List Int) (u : Value) (ws : List Int) (w : World) (hv : Ints w v xs) (hl : xs.length ≤ 1048576) (hu : Ints w u ws) (hm : ws.length ≤ 1048576) :
    Calls Try.prog 74 #[.agg #[v], u] w fun r w' => r = .returned (.tuple #[.int .i64 (ansRk xs ws), .bool (okLin xs ws)]) ∧ Below w.heap.size w w' := by
  have HV := hid hv
  have HU := hid hu
  obtain ⟨A, c, rfl, hA⟩ := hv
  have HA := hid hA
  obtain ⟨A2, c2, rfl, hA2⟩ := hu
  have HA2 := hid hA2
  clear hA hA2
  go_enter Try.func74, Try.ntmps74
  have HB := hid (below_alloc (Below.refl _ w) (.cells #[(.slice A xs.length c)] 26))
  have A0 := hid (At.newAt w (.slice A xs.length c) 26 w.heap.size (by simp))
  go_wp2_with fail
  refine (poGood_any _ xs _ (HV.out.below HB.out) hl).mono ?_
  rintro e w' ⟨rfl, hb⟩
  replace HB := hid (below_to HB.out hb)
  replace A0 := hid (A0.out.below hb)
  clear hb
  cases hq : good xs
  · have HO : Hid (okLin xs ws = false) := hid (okOrder_no (ys := ws) hq)
    clear hq
    have ebox0 := A0.out.1
    go_wp2
    go_ret2
    exact ⟨ret_ib (ansRk_no HO.out).symm HO.out.symm, HB.out⟩
  · have HQ := hid hq
    have HOO : Hid (okLin xs ws = orderB xs ws) := hid (okOrder_yes (ys := ws) hq)
    have hl10 := (good_length hq).2
    have hN2 := two_pow_le xs.length hl10
    obtain ⟨N, hN⟩ : ∃ N, 2 ^ xs.length = N := ⟨_, rfl⟩
    rw [hN] at hN2
    have HNe := hid hN
    clear hq hN
    have ebox0 := A0.out.1
    go_wp2_with fail
    clear ebox0
    refine (liIs_any _ _ xs ws _ (HV.out.below HB.out) (HU.out.below HB.out) HQ.out hm).mono ?_
    rintro e w' ⟨rfl, hb⟩
    replace HB := hid (below_to HB.out hb)
    replace A0 := hid (A0.out.below hb)
    clear hb
    cases ho : orderB xs ws
    · have HO := hid (HOO.out.trans ho)
      clear ho
      have ebox0 := A0.out.1
      go_wp2
      go_ret2
      exact ⟨ret_ib (ansRk_no HO.out).symm HO.out.symm, HB.out⟩
    · have HO := hid (HOO.out.trans ho)
      have HLw := hid (okLin_Lw HO.out)
      have HY := hid (ansRk_yes HO.out)
      have hw10 : ws.length ≤ 10 := by have := HLw.out.len; omega
      clear ho
      have ebox0 := A0.out.1
      go_wp2_with fail
      clear ebox0
      refine (liCounts_any _ xs N _ (HV.out.below HB.out) HQ.out HNe.out).mono ?_
      rintro e w' ⟨g, rfl, hT, hgw, hb⟩
      replace HB := hid (below_to HB.out hb)
      replace A0 := hid (A0.out.below hb)
      clear hb
      have HT := hid hT
      clear hT
      have ebox0 := A0.out.1
      go_wp2
      go_loopw [7, 8, 25] (fun q s i wr => ∃ k : Nat, k ≤ ws.length ∧ i = .int .i64 k ∧ q = .int .i64 ((rkS xs ws k).1 : Nat) ∧ s = .int .i64 ((rkS xs ws k).2 : Nat) ∧ wr = w') (fun _ _ i _ => ws.length - (intOf i).toNat)
      case atStart => exact ⟨0, Nat.zero_le _, rfl, rfl, rfl, rfl⟩
      case round =>
        obtain ⟨k, hk, rfl, rfl, rfl, rfl⟩ := hrel
        by_cases hlt : k < ws.length
        · obtain ⟨b2, o2, rfl, hbl2, hc2⟩ := HA2.out (by intro h; simp [h] at hlt)
          have hcell := (HB.out.cell (p := ⟨b2, o2 + k, none⟩) hbl2).trans (hc2 k hlt)
          have hin := HLw.out.at (j := k) (by have := HLw.out.len; omega)
          have hRk := rkS_le hl10 HLw.out k (by omega)
          have HSuc : Hid (rkS xs ws (k + 1) = ((rkS xs ws k).1 + sumN (nterm xs (rkS xs ws k).2) (ws.getD k 0).toNat, (rkS xs ws k).2 ||| 2 ^ (ws.getD k 0).toNat)) := hid rfl
          obtain ⟨e, he⟩ := Int.eq_ofNat_of_zero_le hin.1
          rw [he] at hcell hin HSuc
          rw [Int.toNat_natCast] at HSuc
          have hen : e < xs.length := by omega
          obtain ⟨s, hs⟩ : ∃ s, (rkS xs ws k).2 = s := ⟨_, rfl⟩
          obtain ⟨q, hq⟩ : ∃ q, (rkS xs ws k).1 = q := ⟨_, rfl⟩
          rw [hs, hq] at hRk HSuc ⊢
          obtain ⟨hq2, hS⟩ := hRk
          have hs10 : s < 1024 := lt1024 hS hl10
          have HS := hid hS
          have hq3 : q ≤ 1000000000000 := by omega
          clear hs hq hS hq2 hc2 he hin
          go_wp2
          clear hcell
          go_loopw [7, 11] (fun q' j wi => ∃ m : Nat, m ≤ e ∧ j = .int .i64 m ∧ q' = .int .i64 ((q + sumN (nterm xs s) m : Nat) : Int) ∧ wi = wr) (fun _ j _ => e - (intOf j).toNat)
          case atStart => exact ⟨0, Nat.zero_le _, rfl, rfl, rfl⟩
          case round =>
            obtain ⟨m, hm', rfl, rfl, rfl⟩ := hrel
            by_cases hme : m < e
            · have hmx : m < xs.length := by omega
              obtain ⟨b, o, rfl, hbl, hc⟩ := HA.out (by intro h; simp [h] at hmx)
              have hcell := (HB.out.cell (p := ⟨b, o + m, none⟩) hbl).trans (hc m hmx)
              have hr := row_lt HQ.out hmx
              have hr10 := row_lt10 HQ.out hmx
              obtain ⟨z, hz⟩ : ∃ z, row xs m = z := ⟨_, rfl⟩
              rw [hz] at hr hr10
              rw [hr.1] at hcell
              have HZ := hid hz
              have hx := nterm_le (xs := xs) hl10 s m
              have hsm := sumN_nterm_le (xs := xs) hl10 s (k := m) (by omega)
              have HSs := hid (sumN_succ (nterm xs s) m)
              have HNtN := hid (fun h => nterm_no (xs := xs) (s := s) (e := m) h)
              have HNtY := hid (fun h => nterm_yes (xs := xs) (s := s) (e := m) h)
              obtain ⟨x, hxe⟩ : ∃ x, nterm xs s m = x := ⟨_, rfl⟩
              rw [hxe] at HSs hx HNtN HNtY
              obtain ⟨y, hy⟩ : ∃ y, sumN (nterm xs s) m = y := ⟨_, rfl⟩
              rw [hy] at hsm HSs
              rw [hy]
              obtain ⟨f, hf⟩ : ∃ f, q + y = f := ⟨_, rfl⟩
              rw [hf]
              have HF := hid hf
              have hf3 : f ≤ 2000000000000 := by omega
              have hbx := A0.out.1
              have Hmx := hid hmx
              clear hxe hy hf hc hr hz hmx
              cases hbit : s.testBit m
              · have HBit := hid hbit
                have han := i64_andNot_nat z s (by omega) (by omega)
                by_cases h0 : sub z s = 0
                · have h0' : (((sub z s : Nat) : Int) == 0) = true := by rw [h0]; rfl
                  have hst := stepP_yes HZ.out hbit h0
                  have hqT : s ||| 2 ^ m < 2 ^ xs.length := Nat.or_lt_two_pow HS.out (pow_lt_len Hmx.out)
                  have hqN : s ||| 2 ^ m < N := by rw [← HNe.out]; exact hqT
                  have hcq : wr.cell? ⟨g, s ||| 2 ^ m, none⟩ = some (.int .i64 (x : Nat)) := by
                    rw [HT.out.cell, Vals_get (by rw [mkL_length]; exact hqN), mkL_getD hqN, endG_at hqT, HNtY.out hst]
                  have wp1 := wrap_pow' m (by omega)
                  have hor := or_pow s m hs10 (by omega)
                  obtain ⟨t, ht⟩ : ∃ t, s ||| 2 ^ m = t := ⟨_, rfl⟩
                  rw [ht] at hcq hor hqN
                  clear h0 hbit hst hqT ht
                  go_wp2_with (go_at_call 135; refine (poIn_any s m (by omega) _).mono ?_; rw [HBit.out]; rintro e' w2 ⟨rfl, rfl⟩)
                  go_roundw
                  case rel => exact ⟨m + 1, by omega, by go_num, (by rw [HSs.out]; have := HF.out; first | (congr 1; omega) | (simp; omega)), by first | trivial | rfl⟩
                  case measure => simp [intOf]; omega
                · have h0' : (((sub z s : Nat) : Int) == 0) = false := by rw [beq_eq_false_iff_ne]; omega
                  have hx0 := HNtN.out (stepP_no2 (s := s) HZ.out h0)
                  have HS0 := hid (show q + sumN (nterm xs s) (m + 1) = f by rw [HSs.out]; have := HF.out; omega)
                  clear h0 hbit hx0
                  go_wp2_with (go_at_call 135; refine (poIn_any s m (by omega) _).mono ?_; rw [HBit.out]; rintro e' w2 ⟨rfl, rfl⟩)
                  go_roundw
                  case rel => exact ⟨m + 1, by omega, by go_num, by rw [HS0.out], by first | trivial | rfl⟩
                  case measure => simp [intOf]; omega
              · have HBit := hid hbit
                have hx0 := HNtN.out (stepP_no1 (xs := xs) hbit)
                have HS0 := hid (show q + sumN (nterm xs s) (m + 1) = f by rw [HSs.out]; have := HF.out; omega)
                clear hbit hx0
                go_wp2_with (go_at_call 135; refine (poIn_any s m (by omega) _).mono ?_; rw [HBit.out]; rintro e' w2 ⟨rfl, rfl⟩)
                go_roundw
                case rel => exact ⟨m + 1, by omega, by go_num, by rw [HS0.out], by first | trivial | rfl⟩
                case measure => simp [intOf]; omega
            · obtain rfl : m = e := by omega
              have wp1 := wrap_pow' m (by omega)
              have hor := or_pow s m hs10 (by omega)
              go_wp2
              go_roundw
              case rel => exact ⟨k + 1, by omega, by go_num, by rw [HSuc.out], by rw [HSuc.out], by first | trivial | rfl⟩
              case measure => simp [intOf]; omega
        · obtain rfl : k = ws.length := by omega
          go_wp2
          go_ret2
          exact ⟨ret_ib (by rw [HY.out]; rfl) HO.out.symm, HB.out⟩
end Go.Proofs.Ytpdoheagfjeefaa

/- Is a number in a list (the model's l1Has); an append that leaves another list of the call's own. -/
namespace Go.Proofs.Ytpdoheagfjeefaa
open Go.RowKit Go.WideShapes Go.ChangeShapes
set_option linter.unusedVariables false

def hasL (xs : List Int) (n : Int) : Bool := decide (n ∈ xs)
theorem l1HasL_any (v : Value) (xs : List Int) (n : Int) (w : World) (hv : Ints w v xs) (hl : xs.length ≤ 1048576) :
    Calls Try.prog 123 #[v, .int .i64 n] w fun r w' => r = .returned (.bool (hasL xs n)) ∧ w = w' := by
  obtain ⟨A, c, rfl, hA⟩ := hv
  have HA := hid hA
  clear hA
  go_enter Try.func123, Try.ntmps123
  go_wp2
  go_loopw [9] (fun i wr => ∃ k : Nat, k ≤ xs.length ∧ i = .int .i64 k ∧ Hid (∀ j, j < k → xs.getD j 0 ≠ n) ∧ wr = w) (fun i _ => xs.length - (intOf i).toNat)
  case atStart => exact ⟨0, Nat.zero_le _, rfl, hid (fun j hj => absurd hj (Nat.not_lt_zero _)), rfl⟩
  case round =>
    obtain ⟨k, hk, rfl, HJ, rfl⟩ := hrel
    by_cases hlt : k < xs.length
    · obtain ⟨b, o, rfl, hbl, hc⟩ := HA.out (by intro h; simp [h] at hlt)
      have hcell := hc k hlt
      obtain ⟨x, hx⟩ : ∃ x, xs.getD k 0 = x := ⟨_, rfl⟩
      rw [hx] at hcell
      have HX := hid hx
      clear hc hx
      by_cases hxn : x = n
      · subst hxn
        have HT : Hid (hasL xs x = true) := hid (by
          unfold hasL; rw [decide_eq_true_iff, ← HX.out]
          rw [List.getD_eq_getElem?_getD, List.getElem?_eq_getElem hlt]
          exact List.getElem_mem hlt)
        have hbe : (x == x) = true := by simp
        go_wp2
        go_ret
        exact ⟨ret_bool HT.out.symm, rfl⟩
      · have hbe : (x == n) = false := by rw [beq_eq_false_iff_ne]; exact hxn
        have HJ2 : Hid (∀ j, j < k + 1 → xs.getD j 0 ≠ n) := hid (fun j hj => by
          by_cases e : j = k
          · subst e; rw [HX.out]; exact hxn
          · exact HJ.out j (by omega))
        clear hxn
        go_wp2
        go_roundw
        case rel => exact ⟨k + 1, by omega, by go_num, HJ2, by first | trivial | rfl⟩
        case measure => simp [intOf]; omega
    · obtain rfl : k = xs.length := by omega
      have HT : Hid (hasL xs n = false) := hid (by
        unfold hasL; rw [decide_eq_false_iff_not]
        intro hm
        obtain ⟨j, hj, e⟩ := List.mem_iff_getElem.1 hm
        refine HJ.out j hj ?_
        simp [List.getD, hj, e])
      go_wp2
      go_ret
      exact ⟨ret_bool HT.out.symm, rfl⟩
theorem hasL_snoc (l : List Int) (y n : Int) : hasL (l ++ [y]) n = (hasL l n || n == y) := by
  unfold hasL
  rw [Bool.eq_iff_iff]
  simp
theorem Ints.takeK {w : World} {A : Option Addr} {n c : Nat} {l : List Int} (h : Ints w (.slice A n c) l) {k : Nat} (hk : k ≤ l.length) (c' : Nat) : Ints w (.slice A k c') (l.take k) := by
  obtain ⟨A', c1, e, hA⟩ := h
  injection e with e1 e2 e3
  subst e1
  refine ⟨A, c', by rw [List.length_take, Nat.min_eq_left hk], fun hne => ?_⟩
  obtain ⟨b, o, rfl, hb, hc⟩ := hA (by rintro rfl; simp at hne)
  refine ⟨b, o, rfl, hb, fun j hj => ?_⟩
  rw [List.length_take] at hj
  rw [hc j (by omega)]
  simp [List.getD, show j < k by omega]
theorem Ints.dropK {w : World} {b o n c : Nat} {l : List Int} (h : Ints w (.slice (some ⟨b, o, none⟩) n c) l) {k : Nat} (hk : k ≤ l.length) (m c' : Nat) (hm : m = l.length - k) : Ints w (.slice (some ⟨b, o + k, none⟩) m c') (l.drop k) := by
  obtain ⟨A', c1, e, hA⟩ := h
  injection e with e1 e2 e3
  subst e1
  refine ⟨some ⟨b, o + k, none⟩, c', by rw [List.length_drop, hm], fun hne => ?_⟩
  obtain ⟨b', o', e, hb, hc⟩ := hA (by rintro rfl; simp at hne)
  injection e with e
  injection e with e4 e5
  subst e4; subst e5
  refine ⟨b, o + k, rfl, hb, fun j hj => ?_⟩
  rw [List.length_drop] at hj
  rw [Nat.add_assoc, hc (k + j) (by omega)]
  simp [List.getD]
theorem OwnI.capH {e : TypeId} {w : World} {B : Nat} {A : Option Addr} {n c : Nat} {xs : List Int} (h : OwnI e w B (.slice A n c) xs) : xs.length ≤ c := by
  rcases h.2 with ⟨h1, h2⟩ | ⟨g, cap, cur, h1, _, _, h2, _⟩
  · simp at h2; simp [h2]
  · injection h1 with _ _ h3; omega
theorem OwnI.nilOr {e : TypeId} {w : World} {B : Nat} {A : Option Addr} {n c : Nat} {xs : List Int} (h : OwnI e w B (.slice A n c) xs) : (A = none ∧ c = 0 ∧ xs = []) ∨ ∃ g, A = some ⟨g, 0, none⟩ ∧ B ≤ g ∧ g < w.heap.size ∧ ∀ j, j < xs.length → w.cell? ⟨g, j, none⟩ = some (.int .i64 (xs.getD j 0)) := by
  have h' : w.ownsRow B e 1 (.slice A n c) xs.length (xs.map (Value.int .i64)) := h
  rcases h.2 with ⟨h1, h2⟩ | ⟨g, cap, cur, h1, hB, hh, _⟩
  · injection h1 with e1 e2 e3
    exact .inl ⟨e1, e3, by simpa using h2⟩
  · injection h1 with e1 e2 e3
    subst e1; subst e2; subst e3
    refine .inr ⟨g, rfl, hB, (Array.getElem?_eq_some_iff.1 hh).1, fun j hj => ?_⟩
    rw [h'.cellAt j (by omega)]
    simp [List.getD, hj]
theorem Ints.dropK0 {w : World} {b n c : Nat} {l : List Int} (h : Ints w (.slice (some ⟨b, 0, none⟩) n c) l) {k : Nat} (hk : k ≤ l.length) (m c' : Nat) (hm : m = l.length - k) : Ints w (.slice (some ⟨b, k, none⟩) m c') (l.drop k) := by
  have := h.dropK hk m c' hm
  rwa [Nat.zero_add] at this
theorem Ints.noneL (w : World) (A : Option Addr) (n c : Nat) (h : n = 0) : Ints w (.slice A n c) [] := by subst h; exact ⟨A, c, rfl, fun h => absurd rfl h⟩
theorem Ints.none_ (w : World) (A : Option Addr) (c : Nat) : Ints w (.slice A 0 c) [] := ⟨A, c, rfl, fun h => absurd rfl h⟩
/-- 'out = append(out, y)', beside another list of the call's own -/
theorem wpList_append_int2 {P : Program} {w W : World} {ops : Array Oper} {rest : List Oper} {o : Oper} {a : Act} {Q : Exit → Act → World → Prop} (hgd : o.guard = none) (s x : Operand) (t e : TypeId)
    (ho : o.op = .call { callee := .builtin .append, args := #[s, x], argTypes := #[t, t] }) (ht : P.underlying t = some (.slice e)) (hinfo : (P.info? e).map (fun i => (i.zero, i.size, i.bytes)) = some (some (.int .i64 0), 1, 8))
    (B : Nat) (v : Value) (xs : List Int) (y : Int) (hs : a.eval s = v) (hown : OwnI e w B v xs) (hW : W = w.alloc (.cells #[.int .i64 y] e)) (hx : a.eval x = .slice (some ⟨w.heap.size, 0, none⟩) 1 1) (hlen : xs.length < 1048576) (hB : B ≤ w.heap.size)
    (h : ∀ v' w', OwnI e w' B v' (xs ++ [y]) → Below B w w' → (∀ z zs, OwnI e w B z zs → (z.ownBlock = none ∨ z.ownBlock ≠ v.ownBlock) → OwnI e w' B z zs ∧ (z.ownBlock = none ∨ z.ownBlock ≠ v'.ownBlock)) → wpList P ops Q rest (a.put o.dst v') w') : wpList P ops Q (o :: rest) a W := by
  subst hW
  obtain ⟨i0, hi, hz0, hz1, hz2⟩ := info_parts hinfo
  refine wpList_append_lies _ hgd s x t ho B e i0 (.int .i64 0) 1 8 ht hi hz0 hz1 hz2 rfl (by decide) v xs.length (xs.map (Value.int .i64)) hs (World.ownsRow.alloc hown _) ⟨w.heap.size, 0, none⟩ 1 1 [.int .i64 y] hx rfl ?_ ?_ (by decide) ?_ ?_ ?_ _ rfl ?_
  · intro j u hj
    match j, hj with
    | 0, hj =>
      simp only [List.getElem?_cons_zero, Option.some.injEq] at hj
      subst hj
      exact (Blk.new w e #[.int .i64 y]).cell 0
    | j + 1, hj => simp at hj
  · intro u hu
    simp only [List.mem_singleton] at hu
    subst hu; rfl
  · unfold maxLen; omega
  · omega
  · simp; omega
  · intro g cap w' h6 h7 h8 h9
    have hb : Below B w (w.alloc (.cells #[.int .i64 y] e)) := (Below.refl _ _).alloc hB _
    have hB2 : Below B w w' := hb.grown h7 (by simp; omega) fun k hk => (World.ownsRow.lt hown k hk).1
    refine h _ w' (by unfold OwnI; simpa using h6) hB2 fun z zs hz hzv => ⟨(World.ownsRow.alloc hz _).kept h7 hzv, ?_⟩
    rcases hzv with hzn | hzn
    · exact .inl hzn
    · rcases hq : z.ownBlock with _ | q
      · exact .inl rfl
      · refine .inr fun e2 => ?_
        have hql := (World.ownsRow.lt hz q hq).2
        simp only [Value.ownBlock, Option.some.injEq] at e2
        subst e2
        rcases h8 with h8 | h8
        · exact hzn (by rw [hq, h8])
        · simp at h8; omega
end Go.Proofs.Ytpdoheagfjeefaa
