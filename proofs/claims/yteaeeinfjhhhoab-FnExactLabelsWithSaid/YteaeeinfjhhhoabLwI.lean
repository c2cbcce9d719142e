/- LabelsWith of the program. -/
import Derived.Test.YteaeeinfjhhhoabLbY
import Derived.Test.YteaeeinfjhhhoabLwS
namespace Go.Proofs.Yteaeeinfjhhhoab
open Go.RowKit Go.WideShapes Go.ChangeShapes
set_option linter.unusedVariables false

theorem implLabelsWith_any (v : Value) (xs : List Int) (m r : Int) (w : World) (hv : Ints w v xs) (hl : xs.length ≤ 1048576) (wf : (Lit.int .i64 m).wf = true) (wf2 : (Lit.int .i64 r).wf = true) :
    Calls Try.prog 28 #[.agg #[v], .int .i64 m, .int .i64 r] w fun (e : Ending) w' => ∃ q, e = Ending.returned (.tuple #[q, .bool (lwB xs m r)]) ∧ OwnI 3 w' w.heap.size q (ansLW6 xs m r) ∧ (ansLW6 xs m r).length ≤ 1048576 ∧ Below w.heap.size w w' := by
  have HV := hid hv
  have HL := hid (ansLW6_length xs m r)
  clear hv wf wf2
  cases hb : okBd xs m
  · have HF := hid hb
    have HO := hid (lwB_no (r := r) (fewB_no hb))
    have HN := hid (ansLW6_no HO.out)
    clear hb
    go_enter Try.func28, Try.ntmps28
    have HB := hid (below_alloc (Below.refl _ w) (.cells #[v] 28))
    have A0 := hid (At.newAt w v 28 w.heap.size (by simp))
    go_wp2_with fail
    refine (hasBound_any _ xs m _ (HV.out.below HB.out) hl).mono ?_
    rw [HF.out]
    rintro e w' ⟨rfl, hb⟩
    replace HB := hid (below_to HB.out hb)
    replace A0 := hid (A0.out.below hb)
    clear hb
    have ebox0 := A0.out.1
    go_wp2
    go_ret2
    exact ⟨_, ret_vbW HO.out.symm, by rw [HN.out]; exact OwnI.nil _ _ _, HL.out, HB.out⟩
  obtain ⟨hg, h1, h2⟩ := okBd_all hb
  obtain ⟨M, rfl⟩ := Int.eq_ofNat_of_zero_le h1
  have HF := hid hb
  have HFe := fewB_yes hb
  have HAll := hid (fun W hW => allLabels_any v xs M W hW hg (by omega))
  have HY := hid (fun R h => ansLW6_yes (xs := xs) (m := M) (r := R) h)
  have hlw : lwB xs M r = (fewB xs M && (decide (0 ≤ r) && decide (r < ((allF xs M).length : Int)))) := rfl
  rw [HFe] at hlw
  have HNo := hid (fun h => ansLW6_no (xs := xs) (m := M) (r := r) h)
  obtain ⟨A, hA⟩ : ∃ A, allF xs M = A := ⟨_, rfl⟩
  rw [hA] at HAll HY hlw
  obtain ⟨N, hNe⟩ : ∃ N, A.length = N := ⟨_, rfl⟩
  have HNe := hid hNe
  rw [hNe] at hlw HAll
  clear hb hg hA hNe h1 HFe
  by_cases hN : N ≤ 1000
  · rw [decide_eq_true hN, Bool.true_and] at hlw
    rw [decide_eq_true hN, if_pos hN] at HAll
    by_cases h0 : r < 0
    · have HQ : Hid (lwB xs M r = false) := hid (by rw [hlw, decide_eq_false (by omega)]; rfl)
      have HN := hid (HNo.out HQ.out)
      clear hlw
      go_enter Try.func28, Try.ntmps28
      have HB := hid (below_alloc (Below.refl _ w) (.cells #[v] 28))
      have A0 := hid (At.newAt w v 28 w.heap.size (by simp))
      go_wp2_with fail
      refine (hasBound_any _ xs M _ (HV.out.below HB.out) hl).mono ?_
      rw [HF.out]
      rintro e w' ⟨rfl, hb⟩
      replace HB := hid (below_to HB.out hb)
      replace A0 := hid (A0.out.below hb)
      clear hb
      have ebox0 := A0.out.1
      go_wp2_with fail
      clear ebox0
      refine (HAll.out _ (HV.out.below HB.out)).mono ?_
      rintro e w1 ⟨q, rfl, ho, hb⟩
      obtain ⟨qA, qc, rfl, -⟩ := ho.rows
      rw [HNe.out]
      replace HB := hid (below_to HB.out hb)
      clear ho hb
      go_wp2
      go_ret2
      exact ⟨_, ret_vbW HQ.out.symm, by rw [HN.out]; exact OwnI.nil _ _ _, HL.out, HB.out⟩
    · by_cases h1 : r < N
      · have hq : lwB xs M r = true := by rw [hlw, decide_eq_true h1, decide_eq_true (by omega)]; rfl
        obtain ⟨R, rfl⟩ := Int.eq_ofNat_of_zero_le (by omega : 0 ≤ r)
        have HN := hid (HY.out R hq)
        have HQ := hid hq
        have hRN : R < N := by omega
        have hge : ¬ (R : Int) ≥ (N : Int) := by omega
        clear hlw hq h1
        go_enter Try.func28, Try.ntmps28
        have HB := hid (below_alloc (Below.refl _ w) (.cells #[v] 28))
        have A0 := hid (At.newAt w v 28 w.heap.size (by simp))
        go_wp2_with fail
        refine (hasBound_any _ xs M _ (HV.out.below HB.out) hl).mono ?_
        rw [HF.out]
        rintro e w' ⟨rfl, hb⟩
        replace HB := hid (below_to HB.out hb)
        replace A0 := hid (A0.out.below hb)
        clear hb
        have ebox0 := A0.out.1
        go_wp2_with fail
        clear ebox0
        refine (HAll.out _ (HV.out.below HB.out)).mono ?_
        rintro e w1 ⟨q, rfl, ho, hb⟩
        obtain ⟨qA, qc, rfl, hrow⟩ := ho.rows
        rw [HNe.out]
        obtain ⟨b, u, rfl, hbl, hc, hown, -⟩ := hrow R (by rw [HNe.out]; exact hRN)
        have HOw := hid (hown.mono HB.out.size)
        replace HB := hid (below_to HB.out hb)
        clear ho hb hrow hown
        go_wp2
        go_ret2
        exact ⟨_, ret_vbW HQ.out.symm, by rw [HN.out]; exact HOw.out, HL.out, HB.out⟩
      · have HQ : Hid (lwB xs M r = false) := hid (by rw [hlw, decide_eq_false h1, Bool.and_false])
        have HN := hid (HNo.out HQ.out)
        have hge : r ≥ (N : Int) := by omega
        clear hlw
        go_enter Try.func28, Try.ntmps28
        have HB := hid (below_alloc (Below.refl _ w) (.cells #[v] 28))
        have A0 := hid (At.newAt w v 28 w.heap.size (by simp))
        go_wp2_with fail
        refine (hasBound_any _ xs M _ (HV.out.below HB.out) hl).mono ?_
        rw [HF.out]
        rintro e w' ⟨rfl, hb⟩
        replace HB := hid (below_to HB.out hb)
        replace A0 := hid (A0.out.below hb)
        clear hb
        have ebox0 := A0.out.1
        go_wp2_with fail
        clear ebox0
        refine (HAll.out _ (HV.out.below HB.out)).mono ?_
        rintro e w1 ⟨q, rfl, ho, hb⟩
        obtain ⟨qA, qc, rfl, -⟩ := ho.rows
        rw [HNe.out]
        replace HB := hid (below_to HB.out hb)
        clear ho hb
        go_wp2
        go_ret2
        exact ⟨_, ret_vbW HQ.out.symm, by rw [HN.out]; exact OwnI.nil _ _ _, HL.out, HB.out⟩
  · rw [decide_eq_false hN, Bool.false_and] at hlw
    rw [decide_eq_false hN, if_neg hN] at HAll
    have HQ := hid hlw
    have HN := hid (HNo.out hlw)
    clear hlw
    go_enter Try.func28, Try.ntmps28
    have HB := hid (below_alloc (Below.refl _ w) (.cells #[v] 28))
    have A0 := hid (At.newAt w v 28 w.heap.size (by simp))
    go_wp2_with fail
    refine (hasBound_any _ xs M _ (HV.out.below HB.out) hl).mono ?_
    rw [HF.out]
    rintro e w' ⟨rfl, hb⟩
    replace HB := hid (below_to HB.out hb)
    replace A0 := hid (A0.out.below hb)
    clear hb
    have ebox0 := A0.out.1
    go_wp2_with fail
    clear ebox0
    refine (HAll.out _ (HV.out.below HB.out)).mono ?_
    rintro e w1 ⟨q, rfl, ho, hb⟩
    obtain ⟨qA, qc, rfl, -⟩ := ho.rows
    replace HB := hid (below_to HB.out hb)
    clear ho hb
    go_wp2
    go_ret2
    exact ⟨_, ret_vbW HQ.out.symm, by rw [HN.out]; exact OwnI.nil _ _ _, HL.out, HB.out⟩
end Go.Proofs.Yteaeeinfjhhhoab
