/- ToggleLinear, PromoteLinear, EvacuateLinear, CoevacuateLinear in the model. -/
import Derived.Test.YtiodligebnnodaaLinU
namespace Go.Proofs.Ytiodligebnnodaa
open Go.RowKit Go.WideShapes Go.ChangeShapes
set_option linter.unusedVariables false

theorem ints_ten {n : Nat} {ws : List Int} (h : Lw n ws) (hn : n ≤ 10) : ws.length ≤ 1048576 := by rw [h.len]; omega
def okTL (xs ws : List Int) (i : Int) : Bool := okLin xs ws && (decide (0 ≤ i) && decide (i ≤ (ws.length : Int) - 2))
def ansTL (xs ws : List Int) (i : Int) : List Int := if okTL xs ws i then togL xs ws i.toNat else []
theorem okTL_no1 {xs ws : List Int} {i : Int} (h : okLin xs ws = false) : okTL xs ws i = false := by simp [okTL, h]
theorem okTL_no2 {xs ws : List Int} {i : Int} (h : (decide (0 ≤ i) && decide (i ≤ (ws.length : Int) - 2)) = false) : okTL xs ws i = false := by simp only [okTL, h]; simp
theorem okTL_yes {xs ws : List Int} {i : Int} (h : okLin xs ws = true) (k : (decide (0 ≤ i) && decide (i ≤ (ws.length : Int) - 2)) = true) : okTL xs ws i = true := by simp only [okTL, h, k]; rfl
theorem ansTL_no {xs ws : List Int} {i : Int} (h : okTL xs ws i = false) : ansTL xs ws i = [] := by simp [ansTL, h]
theorem ansTL_yes {xs ws : List Int} {i : Nat} (h : okTL xs ws i = true) : ansTL xs ws i = togL xs ws i := by simp [ansTL, h]
theorem ansTL_length (xs ws : List Int) (i : Int) : (ansTL xs ws i).length ≤ 1048576 := by
  cases h : okTL xs ws i
  · rw [ansTL_no h]; simp
  · unfold ansTL
    rw [if_pos h, togL_length]
    have h1 : okLin xs ws = true := by simp only [okTL, Bool.and_eq_true] at h; exact h.1
    exact ints_ten (okLin_Lw h1) (good_length (okLin_all h1).1).2
theorem specToggleLinear_any (v : Value) (xs : List Int) (u : Value) (ws : List Int) (i : Int) (w : World) (hv : Ints w v xs) (hl : xs.length ≤ 1048576) (hu : Ints w u ws) (hm : ws.length ≤ 1048576) (wf : (Lit.int .i64 i).wf = true) :
    Calls Try.prog 35 #[.agg #[v], u, .int .i64 i] w fun (r : Ending) w' => ∃ q, r = Ending.returned (.tuple #[q, .bool (okTL xs ws i)]) ∧ OwnI 3 w' w.heap.size q (ansTL xs ws i) ∧ (ansTL xs ws i).length ≤ 1048576 ∧ Below w.heap.size w w' := by
  have HV := hid hv
  have HU := hid hu
  have HL := hid (ansTL_length xs ws i)
  obtain ⟨A, c, rfl, -⟩ := hu
  clear hv wf
  go_enter Try.func35, Try.ntmps35
  have HB := hid (below_alloc (Below.refl _ w) (.cells #[v] 28))
  have A0 := hid (At.newAt w v 28 w.heap.size (by simp))
  go_wp2_with fail
  refine (liGiven_any _ _ xs ws _ (HV.out.below HB.out) hl (HU.out.below HB.out) hm).mono ?_
  rintro e w' ⟨rfl, hb⟩
  replace HB := hid (below_to HB.out hb)
  replace A0 := hid (A0.out.below hb)
  clear hb
  cases hq : okLin xs ws
  · have HO := hid (okTL_no1 (i := i) hq)
    clear hq
    have ebox0 := A0.out.1
    go_wp2
    go_ret2
    exact ⟨_, ret_vbL HO.out.symm, by rw [ansTL_no HO.out]; exact OwnI.nil _ _ _, HL.out, HB.out⟩
  · have HQ := hid hq
    have HLw := hid (okLin_Lw hq)
    have HG := hid (okLin_all hq).1
    clear hq
    have e2 : IntKind.i64.wrap ((ws.length : Int) - 2) = (ws.length : Int) - 2 := IntWalk.i64_in _ (by omega)
    have ebox0 := A0.out.1
    go_wp2_with fail
    clear ebox0
    refine (l1In_any i 0 ((ws.length : Int) - 2) _).mono ?_
    rintro e w2 ⟨rfl, rfl⟩
    clear e2
    cases hk : (decide (0 ≤ i) && decide (i ≤ (ws.length : Int) - 2))
    · have HO := hid (okTL_no2 (xs := xs) hk)
      clear hk
      go_wp2
      go_ret2
      exact ⟨_, ret_vbL HO.out.symm, by rw [ansTL_no HO.out]; exact OwnI.nil _ _ _, HL.out, HB.out⟩
    · have HO := hid (okTL_yes HQ.out hk)
      have hz := HB.out.size
      have hk2 : 0 ≤ i ∧ i ≤ (ws.length : Int) - 2 := by simpa using hk
      obtain ⟨z, rfl⟩ := Int.eq_ofNat_of_zero_le hk2.1
      have hz2 : z + 1 < xs.length := by have := HLw.out.len; omega
      have HY := hid (ansTL_yes HO.out)
      clear hk hk2
      have ebox0 := A0.out.1
      go_wp2_with fail
      clear ebox0
      refine (liToggle_any _ _ xs ws z _ (HV.out.below HB.out) (HU.out.below HB.out) HG.out HLw.out hz2).mono ?_
      rintro e w' ⟨q, rfl, ho, hb⟩
      replace HB := hid (below_to HB.out hb)
      replace A0 := hid (A0.out.below hb)
      clear hb
      have ebox0 := A0.out.1
      go_wp2
      go_ret2
      exact ⟨_, ret_vbL HO.out.symm, by rw [HY.out]; exact ho.mono hz, HL.out, HB.out⟩

def okPL (xs ws : List Int) (t : Int) : Bool := okLin xs ws && (decide (-100 ≤ t) && decide (t ≤ 100))
def ansPL (xs ws : List Int) (t : Int) : List Int := if okPL xs ws t then proL xs t ws else []
theorem okPL_no1 {xs ws : List Int} {t : Int} (h : okLin xs ws = false) : okPL xs ws t = false := by simp [okPL, h]
theorem okPL_no2 {xs ws : List Int} {t : Int} (h : (decide (-100 ≤ t) && decide (t ≤ 100)) = false) : okPL xs ws t = false := by simp only [okPL, h]; simp
theorem okPL_yes {xs ws : List Int} {t : Int} (h : okLin xs ws = true) (k : (decide (-100 ≤ t) && decide (t ≤ 100)) = true) : okPL xs ws t = true := by simp only [okPL, h, k]; rfl
theorem ansPL_no {xs ws : List Int} {t : Int} (h : okPL xs ws t = false) : ansPL xs ws t = [] := by simp [ansPL, h]
theorem ansPL_yes {xs ws : List Int} {t : Int} (h : okPL xs ws t = true) : ansPL xs ws t = proL xs t ws := by simp [ansPL, h]
theorem ansPL_length (xs ws : List Int) (t : Int) : (ansPL xs ws t).length ≤ 1048576 := by
  cases h : okPL xs ws t
  · rw [ansPL_no h]; simp
  · rw [ansPL_yes h]
    have h1 : okLin xs ws = true := by simp only [okPL, Bool.and_eq_true] at h; exact h.1
    have hg := good_length (okLin_all h1).1
    exact ints_ten ((okLin_Lw h1).pro hg.1 t) hg.2
theorem specPromoteLinear_any (v : Value) (xs : List Int) (u : Value) (ws : List Int) (t : Int) (w : World) (hv : Ints w v xs) (hl : xs.length ≤ 1048576) (hu : Ints w u ws) (hm : ws.length ≤ 1048576) (wf : (Lit.int .i64 t).wf = true) :
    Calls Try.prog 37 #[.agg #[v], u, .int .i64 t] w fun (r : Ending) w' => ∃ q, r = Ending.returned (.tuple #[q, .bool (okPL xs ws t)]) ∧ OwnI 3 w' w.heap.size q (ansPL xs ws t) ∧ (ansPL xs ws t).length ≤ 1048576 ∧ Below w.heap.size w w' := by
  have HV := hid hv
  have HU := hid hu
  have HL := hid (ansPL_length xs ws t)
  obtain ⟨A, c, rfl, -⟩ := hu
  clear hv wf
  go_enter Try.func37, Try.ntmps37
  have HB := hid (below_alloc (Below.refl _ w) (.cells #[v] 28))
  have A0 := hid (At.newAt w v 28 w.heap.size (by simp))
  go_wp2_with fail
  refine (liGiven_any _ _ xs ws _ (HV.out.below HB.out) hl (HU.out.below HB.out) hm).mono ?_
  rintro e w' ⟨rfl, hb⟩
  replace HB := hid (below_to HB.out hb)
  replace A0 := hid (A0.out.below hb)
  clear hb
  cases hq : okLin xs ws
  · have HO := hid (okPL_no1 (t := t) hq)
    clear hq
    have ebox0 := A0.out.1
    go_wp2
    go_ret2
    exact ⟨_, ret_vbL HO.out.symm, by rw [ansPL_no HO.out]; exact OwnI.nil _ _ _, HL.out, HB.out⟩
  · have HQ := hid hq
    have HLw := hid (okLin_Lw hq)
    have HG := hid (okLin_all hq).1
    clear hq
    have ebox0 := A0.out.1
    go_wp2_with fail
    clear ebox0
    refine (l1In_any t (-100) 100 _).mono ?_
    rintro e w2 ⟨rfl, rfl⟩
    cases hk : (decide (-100 ≤ t) && decide (t ≤ 100))
    · have HO := hid (okPL_no2 (xs := xs) (ws := ws) hk)
      clear hk
      go_wp2
      go_ret2
      exact ⟨_, ret_vbL HO.out.symm, by rw [ansPL_no HO.out]; exact OwnI.nil _ _ _, HL.out, HB.out⟩
    · have HO := hid (okPL_yes HQ.out hk)
      have hz := HB.out.size
      have hk2 : -100 ≤ t ∧ t ≤ 100 := by simpa using hk
      have HY := hid (ansPL_yes HO.out)
      clear hk
      have ebox0 := A0.out.1
      go_wp2_with fail
      clear ebox0
      refine (liPromote_any _ _ xs ws t _ (HV.out.below HB.out) (HU.out.below HB.out) HG.out HLw.out hk2.1 hk2.2).mono ?_
      rintro e w' ⟨q, rfl, ho, hb⟩
      replace HB := hid (below_to HB.out hb)
      replace A0 := hid (A0.out.below hb)
      clear hb
      have ebox0 := A0.out.1
      go_wp2
      go_ret2
      exact ⟨_, ret_vbL HO.out.symm, by rw [HY.out]; exact ho.mono hz, HL.out, HB.out⟩

def ansEL (xs ws : List Int) : List Int := if okLin xs ws then evaL xs ws else []
theorem ansEL_no {xs ws : List Int} (h : okLin xs ws = false) : ansEL xs ws = [] := by simp [ansEL, h]
theorem ansEL_yes {xs ws : List Int} (h : okLin xs ws = true) : ansEL xs ws = evaL xs ws := by simp [ansEL, h]
theorem ansEL_length (xs ws : List Int) : (ansEL xs ws).length ≤ 1048576 := by
  cases h : okLin xs ws
  · rw [ansEL_no h]; simp
  · rw [ansEL_yes h]
    have hg := good_length (okLin_all h).1
    exact ints_ten ((okLin_Lw h).eva hg.1) hg.2
theorem specEvacuateLinear_any (v : Value) (xs : List Int) (u : Value) (ws : List Int) (w : World) (hv : Ints w v xs) (hl : xs.length ≤ 1048576) (hu : Ints w u ws) (hm : ws.length ≤ 1048576) :
    Calls Try.prog 39 #[.agg #[v], u] w fun (r : Ending) w' => ∃ q, r = Ending.returned (.tuple #[q, .bool (okLin xs ws)]) ∧ OwnI 3 w' w.heap.size q (ansEL xs ws) ∧ (ansEL xs ws).length ≤ 1048576 ∧ Below w.heap.size w w' := by
  have HV := hid hv
  have HU := hid hu
  have HL := hid (ansEL_length xs ws)
  obtain ⟨A, c, rfl, -⟩ := hu
  clear hv
  go_enter Try.func39, Try.ntmps39
  have HB := hid (below_alloc (Below.refl _ w) (.cells #[v] 28))
  have A0 := hid (At.newAt w v 28 w.heap.size (by simp))
  go_wp2_with fail
  refine (liGiven_any _ _ xs ws _ (HV.out.below HB.out) hl (HU.out.below HB.out) hm).mono ?_
  rintro e w' ⟨rfl, hb⟩
  replace HB := hid (below_to HB.out hb)
  replace A0 := hid (A0.out.below hb)
  clear hb
  cases hq : okLin xs ws
  · have HO := hid hq
    clear hq
    have ebox0 := A0.out.1
    go_wp2
    go_ret2
    exact ⟨_, ret_vbL HO.out.symm, by rw [ansEL_no HO.out]; exact OwnI.nil _ _ _, HL.out, HB.out⟩
  · have HO := hid hq
    have HLw := hid (okLin_Lw hq)
    have HG := hid (okLin_all hq).1
    have HY := hid (ansEL_yes hq)
    have hz := HB.out.size
    clear hq
    have ebox0 := A0.out.1
    go_wp2_with fail
    clear ebox0
    refine (liEvacuate_any _ _ xs ws _ (HV.out.below HB.out) (HU.out.below HB.out) HG.out HLw.out).mono ?_
    rintro e w' ⟨q, rfl, ho, hb⟩
    replace HB := hid (below_to HB.out hb)
    replace A0 := hid (A0.out.below hb)
    clear hb
    have ebox0 := A0.out.1
    go_wp2
    go_ret2
    exact ⟨_, ret_vbL HO.out.symm, by rw [HY.out]; exact ho.mono hz, HL.out, HB.out⟩

def ansCL (xs ws : List Int) : List Int := if okLin xs ws then coeL xs ws else []
theorem ansCL_no {xs ws : List Int} (h : okLin xs ws = false) : ansCL xs ws = [] := by simp [ansCL, h]
theorem ansCL_yes {xs ws : List Int} (h : okLin xs ws = true) : ansCL xs ws = coeL xs ws := by simp [ansCL, h]
theorem ansCL_length (xs ws : List Int) : (ansCL xs ws).length ≤ 1048576 := by
  cases h : okLin xs ws
  · rw [ansCL_no h]; simp
  · rw [ansCL_yes h]
    have hg := good_length (okLin_all h).1
    exact ints_ten ((okLin_Lw h).coe hg.1) hg.2
set_option maxHeartbeats 1600000 in
theorem specCoevacuateLinear_any (v : Value) (xs : List Int) (u : Value) (ws : List Int) (w : World) (hv : Ints w v xs) (hl : xs.length ≤ 1048576) (hu : Ints w u ws) (hm : ws.length ≤ 1048576) :
    Calls Try.prog 41 #[.agg #[v], u] w fun (r : Ending) w' => ∃ q, r = Ending.returned (.tuple #[q, .bool (okLin xs ws)]) ∧ OwnI 3 w' w.heap.size q (ansCL xs ws) ∧ (ansCL xs ws).length ≤ 1048576 ∧ Below w.heap.size w w' := by
  have HV := hid hv
  have HU := hid hu
  have HL := hid (ansCL_length xs ws)
  obtain ⟨A, c, rfl, -⟩ := hu
  clear hv
  go_enter Try.func41, Try.ntmps41
  have HB := hid (below_alloc (Below.refl _ w) (.cells #[v] 28))
  have A0 := hid (At.newAt w v 28 w.heap.size (by simp))
  go_wp2_with fail
  refine (liGiven_any _ _ xs ws _ (HV.out.below HB.out) hl (HU.out.below HB.out) hm).mono ?_
  rintro e w' ⟨rfl, hb⟩
  replace HB := hid (below_to HB.out hb)
  replace A0 := hid (A0.out.below hb)
  clear hb
  cases hq : okLin xs ws
  · have HO := hid hq
    clear hq
    have ebox0 := A0.out.1
    go_wp2
    go_ret2
    exact ⟨_, ret_vbL HO.out.symm, by rw [ansCL_no HO.out]; exact OwnI.nil _ _ _, HL.out, HB.out⟩
  · have HO := hid hq
    have HLw := hid (okLin_Lw hq)
    have HG := hid (okLin_all hq).1
    have hz := HB.out.size
    have hl1 := (good_length HG.out).1
    have hl10 := (good_length HG.out).2
    obtain ⟨n, hn⟩ : ∃ n, xs.length = n + 1 := ⟨xs.length - 1, by omega⟩
    have HN := hid (show xs.length - 1 = n by omega)
    have HN1 := hid hn
    have hn2 : n < 10 := by omega
    have hwl : ws.length = n + 1 := by rw [HLw.out.len]; exact hn
    have HWL := hid hwl
    have HY : Hid (ansCL xs ws = turnN (fun k => downL xs n (n - k)) n ws) := hid (by rw [ansCL_yes hq]; unfold coeL; rw [HN.out])
    have e1 : (ws.length : Int) - 1 = (n : Int) := by omega
    have e2 : (ws.length : Int) - 2 = (n : Int) - 1 := by omega
    have hw48 : ws.length ≤ 1048576 := hm
    have HE1 := hid e1
    have HE2 := hid e2
    clear hq hn hwl e1 e2
    have ebox0 := A0.out.1
    go_wp2_with fail
    clear ebox0
    refine (l1OwnL_any _ ws _ (HU.out.below HB.out) hm).mono ?_
    rintro e w' ⟨q, rfl, ho, hb⟩
    replace HB := hid (below_to HB.out hb)
    replace A0 := hid (A0.out.below hb)
    clear hb
    have HO0 := hid (ho.mono hz)
    clear ho
    have ebox0 := A0.out.1
    go_wp2
    go_loopw [6, 7, 8] (fun q i j wr => ∃ k : Nat, k ≤ n ∧ i = .int .i64 k ∧ OwnI 3 wr w.heap.size q (turnN (fun k => downL xs n (n - k)) k ws) ∧ Below w.heap.size w wr ∧ At wr w.heap.size v) (fun _ i _ _ => n - (intOf i).toNat)
    case atStart => exact ⟨0, Nat.zero_le _, rfl, HO0.out, HB.out, A0.out⟩
    case round =>
      obtain ⟨k, hk, rfl, hi, hb, ha⟩ := hrel
      have HI := hid hi
      have HB1 := hid hb
      have HA1 := hid ha
      have HWk := hid (show Lw xs.length (turnN (fun k => downL xs n (n - k)) k ws) from HLw.out.turn fun _ _ a ha => ha.down (by have := HN1.out; omega) (by omega))
      obtain ⟨A1, c1, rfl⟩ := hi.ints.lw HWk.out
      have e1 := HE1.out
      have e2 := HE2.out
      clear hi hb ha
      by_cases hlt : k < n
      · go_wp2
        clear e1 e2
        go_loopw [6, 8] (fun q j wi => ∃ m : Nat, m ≤ n - k ∧ j = .int .i64 ((n : Int) - 1 - (m : Int)) ∧ OwnI 3 wi w.heap.size q (downL xs n m (turnN (fun k => downL xs n (n - k)) k ws)) ∧ Below w.heap.size w wi ∧ At wi w.heap.size v) (fun _ j _ => (intOf j + 1).toNat)
        case atStart => exact ⟨0, Nat.zero_le _, by simp, HI.out, HB1.out, HA1.out⟩
        case round =>
          obtain ⟨m, hm, rfl, hi, hb, ha⟩ := hrel
          have HI1 := hid hi
          have HB2 := hid hb
          have HA2 := hid ha
          have HWm := hid (HWk.out.down (xs := xs) (t := n) (k := m) (by have := HN1.out; omega) (by omega))
          obtain ⟨A2, c2, rfl⟩ := hi.ints.lw HWm.out
          have hbx := ha.1
          clear hi hb ha
          by_cases hlm : m < n - k
          · obtain ⟨p, hp⟩ : ∃ p, n - 1 - m = p := ⟨_, rfl⟩
            have hp2 : (n : Int) - 1 - (m : Int) = (p : Int) := by omega
            have HP := hid hp
            have HP2 := hid hp2
            have hp3 : p + 1 < xs.length := by have := HN1.out; omega
            have hpk : k ≤ p := by omega
            rw [hp2]
            clear hp hp2
            go_wp2_with fail
            refine (liToggle_any _ _ xs _ p _ (HV.out.below HB2.out) HI1.out.ints HG.out HWm.out hp3).mono ?_
            rintro e w2 ⟨q2, rfl, ho2, hb2⟩
            have HI2 : Hid (OwnI 3 w2 w.heap.size q2 (downL xs n (m + 1) (turnN (fun k => downL xs n (n - k)) k ws))) := hid (by rw [downL_succ, HP.out]; exact ho2.mono HB2.out.size)
            have HB3 := hid (below_to HB2.out hb2)
            have HA3 := hid (HA2.out.below hb2)
            clear ho2 hb2 hbx
            go_wp2
            go_roundw
            case rel => exact ⟨m + 1, by omega, (by have := HP2.out; first | (congr 1; omega) | (simp; omega)), HI2.out, HB3.out, HA3.out⟩
            case measure => first | (simp [intOf]; done) | (simp [intOf]; have := HP2.out; omega)
          · obtain rfl : m = n - k := by omega
            have e2 : (n : Int) - 1 - ((n - k : Nat) : Int) = (k : Int) - 1 := by omega
            rw [e2]
            clear hbx e2 hlm hm
            have HI2 : Hid (OwnI 3 wr w.heap.size (.slice A2 xs.length c2) (turnN (fun k => downL xs n (n - k)) (k + 1) ws)) := hid HI1.out
            go_wp2
            go_roundw
            case rel => exact ⟨k + 1, by omega, by go_num, HI2.out, HB2.out, HA2.out⟩
            case measure => simp [intOf]; omega
      · obtain rfl : k = n := by omega
        go_wp2
        go_ret2
        exact ⟨_, ret_vbL HO.out.symm, by rw [HY.out]; exact HI.out, HL.out, HB1.out⟩
end Go.Proofs.Ytiodligebnnodaa
