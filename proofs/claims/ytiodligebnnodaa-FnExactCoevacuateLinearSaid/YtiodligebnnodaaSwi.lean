/- ToggleLinear, PromoteLinear, EvacuateLinear, CoevacuateLinear of the program. -/
import Derived.Test.YtiodligebnnodaaSwr
import Derived.Test.YtiodligebnnodaaLinV
namespace Go.Proofs.Ytiodligebnnodaa
open Go.RowKit Go.WideShapes Go.ChangeShapes
set_option linter.unusedVariables false

theorem implToggleLinear_any (v : Value) (xs : List Int) (u : Value) (ws : List Int) (i : Int) (w : World) (hv : Ints w v xs) (hl : xs.length ≤ 1048576) (hu : Ints w u ws) (hm : ws.length ≤ 1048576) (wf : (Lit.int .i64 i).wf = true) :
    Calls Try.prog 36 #[.agg #[v], u, .int .i64 i] w fun (r : Ending) w' => ∃ q, r = Ending.returned (.tuple #[q, .bool (okTL xs ws i)]) ∧ OwnI 3 w' w.heap.size q (ansTL xs ws i) ∧ (ansTL xs ws i).length ≤ 1048576 ∧ Below w.heap.size w w' := by
  have HV := hid hv
  have HU := hid hu
  have HL := hid (ansTL_length xs ws i)
  obtain ⟨A, c, rfl, -⟩ := hu
  clear hv wf
  go_enter Try.func36, Try.ntmps36
  have HB := hid (below_alloc (Below.refl _ w) (.cells #[v] 28))
  have A0 := hid (At.newAt w v 28 w.heap.size (by simp))
  go_wp2_with fail
  refine (hasLinear_any _ _ xs ws _ (HV.out.below HB.out) hl (HU.out.below HB.out) hm).mono ?_
  rintro e w' ⟨rfl, hb⟩
  replace HB := hid (below_to HB.out hb)
  replace A0 := hid (A0.out.below hb)
  clear hb
  cases hq : okLin xs ws
  · have HO := hid (okTL_no1 (i := i) hq)
    clear hq
    have ebox0 := A0.out.1
    go_wp2
    go_ret2
    exact ⟨_, ret_vbL HO.out.symm, by rw [ansTL_no HO.out]; exact OwnI.nil _ _ _, HL.out, HB.out⟩
  · have HQ := hid hq
    have HLw := hid (okLin_Lw hq)
    have HG := hid (okLin_all hq).1
    clear hq
    have e2 : IntKind.i64.wrap ((ws.length : Int) - 2) = (ws.length : Int) - 2 := IntWalk.i64_in _ (by omega)
    by_cases h0 : i < 0
    · have HO := hid (okTL_no2 (xs := xs) (ws := ws) (i := i) (by rw [Bool.eq_false_iff]; simp; omega))
      have ebox0 := A0.out.1
      go_wp2
      go_ret2
      exact ⟨_, ret_vbL HO.out.symm, by rw [ansTL_no HO.out]; exact OwnI.nil _ _ _, HL.out, HB.out⟩
    · by_cases h2 : (ws.length : Int) - 2 < i
      · have HO := hid (okTL_no2 (xs := xs) (ws := ws) (i := i) (by rw [Bool.eq_false_iff]; simp; omega))
        have ebox0 := A0.out.1
        go_wp2
        go_ret2
        exact ⟨_, ret_vbL HO.out.symm, by rw [ansTL_no HO.out]; exact OwnI.nil _ _ _, HL.out, HB.out⟩
      · have HO := hid (okTL_yes HQ.out (i := i) (by simp; omega))
        have hz := HB.out.size
        obtain ⟨z, rfl⟩ := Int.eq_ofNat_of_zero_le (show 0 ≤ i by omega)
        have hz2 : z + 1 < xs.length := by have := HLw.out.len; omega
        have HY := hid (ansTL_yes HO.out)
        have ebox0 := A0.out.1
        go_wp2_with fail
        clear ebox0 e2 h0 h2
        refine (swapAt_any v xs z _ (HV.out.below HB.out) HG.out hz2).mono ?_
        rintro e w2 ⟨fn, caps, rfl, hS, hb2⟩
        have HS := hid hS
        have HU2 := hid ((HU.out.below HB.out).below hb2)
        have HB2 := hid (below_to HB.out hb2)
        have hz3 := HB2.out.size
        have hl10 := (good_length HG.out).2
        clear hS hb2
        go_wp2_with fail
        refine (swapped_any _ xs ws fn caps _ _ _ HU2.out HLw.out hl10 HS.out).mono ?_
        rintro e w3 ⟨q, rfl, ho, hb3⟩
        have HO3 := hid (ho.mono hz3)
        have HB3 := hid (below_to HB2.out hb3)
        clear ho hb3
        go_wp2
        go_ret2
        exact ⟨_, ret_vbL HO.out.symm, by rw [HY.out]; exact HO3.out, HL.out, HB3.out⟩
theorem implPromoteLinear_any (v : Value) (xs : List Int) (u : Value) (ws : List Int) (t : Int) (w : World) (hv : Ints w v xs) (hl : xs.length ≤ 1048576) (hu : Ints w u ws) (hm : ws.length ≤ 1048576) (wf : (Lit.int .i64 t).wf = true) :
    Calls Try.prog 38 #[.agg #[v], u, .int .i64 t] w fun (r : Ending) w' => ∃ q, r = Ending.returned (.tuple #[q, .bool (okPL xs ws t)]) ∧ OwnI 3 w' w.heap.size q (ansPL xs ws t) ∧ (ansPL xs ws t).length ≤ 1048576 ∧ Below w.heap.size w w' := by
  have HV := hid hv
  have HU := hid hu
  have HL := hid (ansPL_length xs ws t)
  obtain ⟨A, c, rfl, -⟩ := hu
  clear hv wf
  go_enter Try.func38, Try.ntmps38
  have HB := hid (below_alloc (Below.refl _ w) (.cells #[v] 28))
  have A0 := hid (At.newAt w v 28 w.heap.size (by simp))
  go_wp2_with fail
  refine (hasLinear_any _ _ xs ws _ (HV.out.below HB.out) hl (HU.out.below HB.out) hm).mono ?_
  rintro e w' ⟨rfl, hb⟩
  replace HB := hid (below_to HB.out hb)
  replace A0 := hid (A0.out.below hb)
  clear hb
  cases hq : okLin xs ws
  · have HO := hid (okPL_no1 (t := t) hq)
    clear hq
    have ebox0 := A0.out.1
    go_wp2
    go_ret2
    exact ⟨_, ret_vbL HO.out.symm, by rw [ansPL_no HO.out]; exact OwnI.nil _ _ _, HL.out, HB.out⟩
  · have HQ := hid hq
    have HLw := hid (okLin_Lw hq)
    have HG := hid (okLin_all hq).1
    clear hq
    by_cases h0 : t < -100
    · have HO := hid (okPL_no2 (xs := xs) (ws := ws) (t := t) (by rw [Bool.eq_false_iff]; simp; omega))
      have ebox0 := A0.out.1
      go_wp2
      go_ret2
      exact ⟨_, ret_vbL HO.out.symm, by rw [ansPL_no HO.out]; exact OwnI.nil _ _ _, HL.out, HB.out⟩
    · by_cases h2 : 100 < t
      · have HO := hid (okPL_no2 (xs := xs) (ws := ws) (t := t) (by rw [Bool.eq_false_iff]; simp; omega))
        have ebox0 := A0.out.1
        go_wp2
        go_ret2
        exact ⟨_, ret_vbL HO.out.symm, by rw [ansPL_no HO.out]; exact OwnI.nil _ _ _, HL.out, HB.out⟩
      · have HO := hid (okPL_yes HQ.out (t := t) (by simp; omega))
        have hz := HB.out.size
        have HY := hid (ansPL_yes HO.out)
        have ht1 : -100 ≤ t := by omega
        have ht2 : t ≤ 100 := by omega
        have ebox0 := A0.out.1
        go_wp2_with fail
        clear ebox0 h0 h2
        refine (promotions_any v xs t _ (HV.out.below HB.out) HG.out ht1 ht2).mono ?_
        rintro e w2 ⟨fn, caps, rfl, hS, hb2⟩
        have HS := hid hS
        have HU2 := hid ((HU.out.below HB.out).below hb2)
        have HB2 := hid (below_to HB.out hb2)
        have hz3 := HB2.out.size
        have hl10 := (good_length HG.out).2
        clear hS hb2
        go_wp2_with fail
        refine (swapped_any _ xs ws fn caps _ _ _ HU2.out HLw.out hl10 HS.out).mono ?_
        rintro e w3 ⟨q, rfl, ho, hb3⟩
        have HO3 := hid (ho.mono hz3)
        have HB3 := hid (below_to HB2.out hb3)
        clear ho hb3
        go_wp2
        go_ret2
        exact ⟨_, ret_vbL HO.out.symm, by rw [HY.out]; exact HO3.out, HL.out, HB3.out⟩
theorem implEvacuateLinear_any (v : Value) (xs : List Int) (u : Value) (ws : List Int) (w : World) (hv : Ints w v xs) (hl : xs.length ≤ 1048576) (hu : Ints w u ws) (hm : ws.length ≤ 1048576) :
    Calls Try.prog 40 #[.agg #[v], u] w fun (r : Ending) w' => ∃ q, r = Ending.returned (.tuple #[q, .bool (okLin xs ws)]) ∧ OwnI 3 w' w.heap.size q (ansEL xs ws) ∧ (ansEL xs ws).length ≤ 1048576 ∧ Below w.heap.size w w' := by
  have HV := hid hv
  have HU := hid hu
  have HL := hid (ansEL_length xs ws)
  obtain ⟨A, c, rfl, -⟩ := hu
  clear hv
  go_enter Try.func40, Try.ntmps40
  have HB := hid (below_alloc (Below.refl _ w) (.cells #[v] 28))
  have A0 := hid (At.newAt w v 28 w.heap.size (by simp))
  go_wp2_with fail
  refine (hasLinear_any _ _ xs ws _ (HV.out.below HB.out) hl (HU.out.below HB.out) hm).mono ?_
  rintro e w' ⟨rfl, hb⟩
  replace HB := hid (below_to HB.out hb)
  replace A0 := hid (A0.out.below hb)
  clear hb
  cases hq : okLin xs ws
  · have HO := hid hq
    clear hq
    have ebox0 := A0.out.1
    go_wp2
    go_ret2
    exact ⟨_, ret_vbL HO.out.symm, by rw [ansEL_no HO.out]; exact OwnI.nil _ _ _, HL.out, HB.out⟩
  · have HO := hid hq
    have HLw := hid (okLin_Lw hq)
    have HG := hid (okLin_all hq).1
    have HY := hid (ansEL_yes hq)
    clear hq
    have ebox0 := A0.out.1
    go_wp2_with fail
    clear ebox0
    refine (evacuation_any v xs _ (HV.out.below HB.out) HG.out).mono ?_
    rintro e w2 ⟨fn, caps, rfl, hS, hb2⟩
    have HS := hid hS
    have HU2 := hid ((HU.out.below HB.out).below hb2)
    have HB2 := hid (below_to HB.out hb2)
    have hz3 := HB2.out.size
    have hl10 := (good_length HG.out).2
    clear hS hb2
    go_wp2_with fail
    refine (swapped_any _ xs ws fn caps _ _ _ HU2.out HLw.out hl10 HS.out).mono ?_
    rintro e w3 ⟨q, rfl, ho, hb3⟩
    have HO3 := hid (ho.mono hz3)
    have HB3 := hid (below_to HB2.out hb3)
    clear ho hb3
    go_wp2
    go_ret2
    exact ⟨_, ret_vbL HO.out.symm, by rw [HY.out]; exact HO3.out, HL.out, HB3.out⟩
theorem implCoevacuateLinear_any (v : Value) (xs : List Int) (u : Value) (ws : List Int) (w : World) (hv : Ints w v xs) (hl : xs.length ≤ 1048576) (hu : Ints w u ws) (hm : ws.length ≤ 1048576) :
    Calls Try.prog 42 #[.agg #[v], u] w fun (r : Ending) w' => ∃ q, r = Ending.returned (.tuple #[q, .bool (okLin xs ws)]) ∧ OwnI 3 w' w.heap.size q (ansCL xs ws) ∧ (ansCL xs ws).length ≤ 1048576 ∧ Below w.heap.size w w' := by
  have HV := hid hv
  have HU := hid hu
  have HL := hid (ansCL_length xs ws)
  obtain ⟨A, c, rfl, -⟩ := hu
  clear hv
  go_enter Try.func42, Try.ntmps42
  have HB := hid (below_alloc (Below.refl _ w) (.cells #[v] 28))
  have A0 := hid (At.newAt w v 28 w.heap.size (by simp))
  go_wp2_with fail
  refine (hasLinear_any _ _ xs ws _ (HV.out.below HB.out) hl (HU.out.below HB.out) hm).mono ?_
  rintro e w' ⟨rfl, hb⟩
  replace HB := hid (below_to HB.out hb)
  replace A0 := hid (A0.out.below hb)
  clear hb
  cases hq : okLin xs ws
  · have HO := hid hq
    clear hq
    have ebox0 := A0.out.1
    go_wp2
    go_ret2
    exact ⟨_, ret_vbL HO.out.symm, by rw [ansCL_no HO.out]; exact OwnI.nil _ _ _, HL.out, HB.out⟩
  · have HO := hid hq
    have HLw := hid (okLin_Lw hq)
    have HG := hid (okLin_all hq).1
    have HY := hid (ansCL_yes hq)
    clear hq
    have ebox0 := A0.out.1
    go_wp2_with fail
    clear ebox0
    refine (coevacuation_any v xs _ (HV.out.below HB.out) HG.out).mono ?_
    rintro e w2 ⟨fn, caps, rfl, hS, hb2⟩
    have HS := hid hS
    have HU2 := hid ((HU.out.below HB.out).below hb2)
    have HB2 := hid (below_to HB.out hb2)
    have hz3 := HB2.out.size
    have hl10 := (good_length HG.out).2
    clear hS hb2
    go_wp2_with fail
    refine (swapped_any _ xs ws fn caps _ _ _ HU2.out HLw.out hl10 HS.out).mono ?_
    rintro e w3 ⟨q, rfl, ho, hb3⟩
    have HO3 := hid (ho.mono hz3)
    have HB3 := hid (below_to HB2.out hb3)
    clear ho hb3
    go_wp2
    go_ret2
    exact ⟨_, ret_vbL HO.out.symm, by rw [HY.out]; exact HO3.out, HL.out, HB3.out⟩
end Go.Proofs.Ytiodligebnnodaa
