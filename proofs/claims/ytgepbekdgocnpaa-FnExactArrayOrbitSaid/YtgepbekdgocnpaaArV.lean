/- Arrays in the model: RangeAt, ToggleNumber, ToggleNumbers, RowArray, RowArrayBack, RowArrayTimes. -/
import Derived.Test.YtgepbekdgocnpaaArU
namespace Go.Proofs.Ytgepbekdgocnpaa
open Go.RowKit Go.WideShapes Go.ChangeShapes
set_option linter.unusedVariables false

def okRg (xs f : List Int) (b e : Int) : Bool := okAr xs f b && (decide (0 ≤ e) && decide (e < xs.length))
def ansLo (xs f : List Int) (b e : Int) : Int := if okRg xs f b e then loN xs f e.toNat xs.length else 0
def ansHi (xs f : List Int) (b e : Int) : Int := if okRg xs f b e then hiN xs f b e.toNat xs.length else 0
theorem okRg_no1 {xs f : List Int} {b e : Int} (h : okAr xs f b = false) : okRg xs f b e = false := by simp [okRg, h]
theorem okRg_no2 {xs f : List Int} {b e : Int} (h : (decide (0 ≤ e) && decide (e < xs.length)) = false) : okRg xs f b e = false := by simp only [okRg, h, Bool.and_false]
theorem okRg_yes {xs f : List Int} {b e : Int} (h : okAr xs f b = true) (k : (decide (0 ≤ e) && decide (e < xs.length)) = true) : okRg xs f b e = true := by simp only [okRg, h, k, Bool.and_self]
theorem ansLo_no {xs f : List Int} {b e : Int} (h : okRg xs f b e = false) : ansLo xs f b e = 0 := by simp [ansLo, h]
theorem ansHi_no {xs f : List Int} {b e : Int} (h : okRg xs f b e = false) : ansHi xs f b e = 0 := by simp [ansHi, h]
theorem ansLo_yes {xs f : List Int} {b : Int} {e : Nat} (h : okRg xs f b e = true) : ansLo xs f b e = loN xs f e xs.length := by unfold ansLo; rw [if_pos h, Int.toNat_natCast]
theorem ansHi_yes {xs f : List Int} {b : Int} {e : Nat} (h : okRg xs f b e = true) : ansHi xs f b e = hiN xs f b e xs.length := by unfold ansHi; rw [if_pos h, Int.toNat_natCast]
theorem ret_iib {a b a' b' : Int} {c c' : Bool} (h : a = a') (k : b = b') (l : c = c') : Ending.returned (.tuple #[.int .i64 a, .int .i64 b, .bool c]) = .returned (.tuple #[.int .i64 a', .int .i64 b', .bool c']) := by rw [h, k, l]
theorem specRangeAt_any (v : Value) (xs : List Int) (u : Value) (f : List Int) (b e : Int) (w : World) (hv : Ints w v xs) (hl : xs.length ≤ 1048576) (hu : Ints w u f) (hm : f.length ≤ 1048576) (wf : (Lit.int .i64 b).wf = true) (wfe : (Lit.int .i64 e).wf = true) :
    Calls Try.prog 18 #[.agg #[v], u, .int .i64 b, .int .i64 e] w fun r w' => r = .returned (.tuple #[.int .i64 (ansLo xs f b e), .int .i64 (ansHi xs f b e), .bool (okRg xs f b e)]) ∧ Below w.heap.size w w' := by
  have HV := hid hv
  have HU := hid hu
  clear hv hu wf wfe
  go_enter Try.func18, Try.ntmps18
  have HB := hid (below_alloc (Below.refl _ w) (.cells #[v] 28))
  have A0 := hid (At.newAt w v 28 w.heap.size (by simp))
  go_wp2_with fail
  refine (pcIs_any _ _ xs f b _ (HV.out.below HB.out) (HU.out.below HB.out) hl hm).mono ?_
  rintro e w' ⟨rfl, hb⟩
  replace HB := hid (below_to HB.out hb)
  replace A0 := hid (A0.out.below hb)
  clear hb
  cases hq : okAr xs f b
  · have HO := hid (okRg_no1 (e := e) hq)
    clear hq
    go_wp2
    go_ret3
    exact ⟨ret_iib (ansLo_no HO.out).symm (ansHi_no HO.out).symm HO.out.symm, HB.out⟩
  · have HQ := hid hq
    clear hq
    have ebox0 := A0.out.1
    go_wp2_with fail
    clear ebox0
    refine (tgElement_any _ xs e _ (HV.out.below HB.out) hl).mono ?_
    rintro e w' ⟨rfl, hb⟩
    replace HB := hid (below_to HB.out hb)
    replace A0 := hid (A0.out.below hb)
    clear hb
    cases hk : (decide (0 ≤ e) && decide (e < (xs.length : Int)))
    · have HO := hid (okRg_no2 (f := f) (b := b) hk)
      clear hk
      have ebox0 := A0.out.1
      go_wp2
      go_ret3
      exact ⟨ret_iib (ansLo_no HO.out).symm (ansHi_no HO.out).symm HO.out.symm, HB.out⟩
    · have HO := hid (okRg_yes HQ.out hk)
      have hk2 : 0 ≤ e ∧ e < xs.length := by simpa using hk
      clear hk
      obtain ⟨h1, h2, h3, h4⟩ := okAr_all HQ.out
      obtain ⟨n, rfl⟩ := Int.eq_ofNat_of_zero_le hk2.1
      have HG := hid h1
      have HR := hid h4
      clear h1 h4
      have ebox0 := A0.out.1
      go_wp2_with fail
      clear ebox0
      refine (pcRange_any _ _ xs f b n _ (HV.out.below HB.out) (HU.out.below HB.out) HG.out HR.out.len (by omega)).mono ?_
      rintro e w' ⟨rfl, hb⟩
      replace HB := hid (below_to HB.out hb)
      replace A0 := hid (A0.out.below hb)
      clear hb
      have ebox0 := A0.out.1
      go_wp2
      go_ret3
      exact ⟨ret_iib (ansLo_yes HO.out).symm (ansHi_yes HO.out).symm HO.out.symm, HB.out⟩
theorem wdK_one (xs : List Int) (b : Int) (f : List Int) (e : Nat) : wdK xs b f [(e : Int)] [(e : Int)].length = pT xs b f e := by
  show pT xs b f ((([(e : Int)] : List Int).getD 0 0).toNat) = _
  simp
theorem specToggleNumber_any (v : Value) (xs : List Int) (u : Value) (f : List Int) (b e : Int) (w : World) (hv : Ints w v xs) (hl : xs.length ≤ 1048576) (hu : Ints w u f) (hm : f.length ≤ 1048576) (wf : (Lit.int .i64 b).wf = true) (wfe : (Lit.int .i64 e).wf = true) :
    Calls Try.prog 20 #[.agg #[v], u, .int .i64 b, .int .i64 e] w fun (r : Ending) w' => ∃ q, r = Ending.returned (.tuple #[q, .bool (okTN xs f b [e])]) ∧ OwnI 3 w' w.heap.size q (ansTN xs f b [e]) ∧ (ansTN xs f b [e]).length ≤ 1048576 ∧ Below w.heap.size w w' := by
  have HV := hid hv
  have HU := hid hu
  have HL := hid (ansTN_len xs f b [e])
  clear hv hu wf wfe
  go_enter Try.func20, Try.ntmps20
  have HB := hid (below_alloc (Below.refl _ w) (.cells #[v] 28))
  have A0 := hid (At.newAt w v 28 w.heap.size (by simp))
  go_wp2_with fail
  refine (pcIs_any _ _ xs f b _ (HV.out.below HB.out) (HU.out.below HB.out) hl hm).mono ?_
  rintro e w' ⟨rfl, hb⟩
  replace HB := hid (below_to HB.out hb)
  replace A0 := hid (A0.out.below hb)
  clear hb
  cases hq : okAr xs f b
  · have HO := hid (okTN_no1 (wd := [e]) hq)
    have HN := hid (ansTN_no HO.out)
    clear hq
    have ebox0 := A0.out.1
    go_wp2
    go_ret2
    exact ⟨_, ret_vbA HO.out.symm, by rw [HN.out]; exact OwnI.nil _ _ _, HL.out, HB.out⟩
  · have HQ := hid hq
    clear hq
    have ebox0 := A0.out.1
    go_wp2_with fail
    clear ebox0
    refine (tgElement_any _ xs e _ (HV.out.below HB.out) hl).mono ?_
    rintro e w' ⟨rfl, hb⟩
    replace HB := hid (below_to HB.out hb)
    replace A0 := hid (A0.out.below hb)
    clear hb
    cases hk : (decide (0 ≤ e) && decide (e < (xs.length : Int)))
    · have HO := hid (okTN_no2 (f := f) (b := b) ((okWord_one xs e).trans hk))
      have HN := hid (ansTN_no HO.out)
      clear hk
      have ebox0 := A0.out.1
      go_wp2
      go_ret2
      exact ⟨_, ret_vbA HO.out.symm, by rw [HN.out]; exact OwnI.nil _ _ _, HL.out, HB.out⟩
    · have HO := hid (okTN_yes HQ.out ((okWord_one xs e).trans hk))
      have hk2 : 0 ≤ e ∧ e < xs.length := by simpa using hk
      clear hk
      obtain ⟨h1, h2, h3, h4⟩ := okAr_all HQ.out
      obtain ⟨n, rfl⟩ := Int.eq_ofNat_of_zero_le hk2.1
      have HN := hid ((ansTN_yes HO.out).trans (wdK_one xs b f n))
      have HG := hid h1
      have HR := hid h4
      have hz := HB.out.size
      clear h1 h4
      have ebox0 := A0.out.1
      go_wp2_with fail
      clear ebox0
      refine (pcAt_any _ _ xs f b n _ (HV.out.below HB.out) (HU.out.below HB.out) HG.out HR.out h2 h3 (by omega)).mono ?_
      rintro e w' ⟨q, rfl, ho, hb⟩
      replace HB := hid (below_to HB.out hb)
      replace A0 := hid (A0.out.below hb)
      clear hb
      have HQ2 := hid (ho.mono hz)
      clear ho
      have ebox0 := A0.out.1
      go_wp2
      go_ret2
      exact ⟨_, ret_vbA HO.out.symm, by rw [HN.out]; exact HQ2.out, HL.out, HB.out⟩
theorem inW_rng {n : Nat} {ys : List Int} (h : inW n ys = true) {j : Nat} (hj : j < ys.length) : 0 ≤ ys.getD j 0 ∧ ys.getD j 0 < n := inW_at h hj
theorem specToggleNumbers_any (v : Value) (xs : List Int) (u : Value) (f : List Int) (b : Int) (t : Value) (ys : List Int) (w : World) (hv : Ints w v xs) (hl : xs.length ≤ 1048576) (hu : Ints w u f) (hm : f.length ≤ 1048576) (wf : (Lit.int .i64 b).wf = true) (ht : Ints w t ys) (hk : ys.length ≤ 1048576) :
    Calls Try.prog 25 #[.agg #[v], u, .int .i64 b, t] w fun (r : Ending) w' => ∃ q, r = Ending.returned (.tuple #[q, .bool (okTN xs f b ys)]) ∧ OwnI 3 w' w.heap.size q (ansTN xs f b ys) ∧ (ansTN xs f b ys).length ≤ 1048576 ∧ Below w.heap.size w w' := by
  have HV := hid hv
  have HU := hid hu
  have HT := hid ht
  have HL := hid (ansTN_len xs f b ys)
  obtain ⟨T, ct, rfl, hTc⟩ := ht
  have HTc := hid hTc
  clear hv hu wf hTc
  obtain ⟨Y, hY⟩ : ∃ Y, ys.length = Y := ⟨_, rfl⟩
  have HY := hid hY
  rw [hY] at HT HTc hk ⊢
  clear hY
  go_enter Try.func25, Try.ntmps25
  have HB := hid (below_alloc (Below.refl _ w) (.cells #[v] 28))
  have A0 := hid (At.newAt w v 28 w.heap.size (by simp))
  go_wp2_with fail
  refine (pcIs_any _ _ xs f b _ (HV.out.below HB.out) (HU.out.below HB.out) hl hm).mono ?_
  rintro e w' ⟨rfl, hb⟩
  replace HB := hid (below_to HB.out hb)
  replace A0 := hid (A0.out.below hb)
  clear hb
  cases hq : okAr xs f b
  · have HO := hid (okTN_no1 (wd := ys) hq)
    have HN := hid (ansTN_no HO.out)
    clear hq
    have ebox0 := A0.out.1
    go_wp2
    go_ret2
    exact ⟨_, ret_vbA HO.out.symm, by rw [HN.out]; exact OwnI.nil _ _ _, HL.out, HB.out⟩
  · have HQ := hid hq
    clear hq
    have ebox0 := A0.out.1
    go_wp2_with fail
    clear ebox0
    refine (tgIsWord_any _ _ xs ys _ (HV.out.below HB.out) (HT.out.below HB.out) hl (by rw [HY.out]; exact hk)).mono ?_
    rintro e w' ⟨rfl, hb⟩
    replace HB := hid (below_to HB.out hb)
    replace A0 := hid (A0.out.below hb)
    clear hb
    cases hw : okWord xs ys
    · have HO := hid (okTN_no2 (f := f) (b := b) hw)
      have HN := hid (ansTN_no HO.out)
      clear hw
      have ebox0 := A0.out.1
      go_wp2
      go_ret2
      exact ⟨_, ret_vbA HO.out.symm, by rw [HN.out]; exact OwnI.nil _ _ _, HL.out, HB.out⟩
    · have HO := hid (okTN_yes HQ.out hw)
      have HN := hid (ansTN_yes HO.out)
      obtain ⟨h1, h2, h3, h4⟩ := okAr_all HQ.out
      have hw2 := hw
      simp only [okWord, Bool.and_eq_true, decide_eq_true_eq] at hw2
      have HW := hid (fun j (hj : j < ys.length) => inW_rng hw2.2 hj)
      have HRk := hid (fun k (hk : k ≤ ys.length) => wdK_rise (wd := ys) h1 h4 (t := k) (fun j hj => HW.out j (by omega)))
      have HPt := hid (fun W q g e hW hq hr' he => pcAt_any v q xs g b e W hW hq h1 hr' h2 h3 he)
      have hfl : f.length ≤ 1048576 := hm
      rw [HY.out] at HN HW HRk
      clear hw hw2 h1 h2 h3 h4
      have ebox0 := A0.out.1
      go_wp2_with fail
      clear ebox0
      refine (l1OwnA_any u f _ (HU.out.below HB.out) hm).mono ?_
      rintro e' w2 ⟨q, rfl, ho, hb⟩
      have HO1 := hid (ho.mono HB.out.size)
      have HA := hid (A0.out.below hb)
      replace HB := hid (below_to HB.out hb)
      clear hb ho A0
      go_wp2
      go_loopw [10, 28] (fun q i wr => ∃ k : Nat, k ≤ Y ∧ i = .int .i64 k ∧ OwnI 3 wr w.heap.size q (wdK xs b f ys k) ∧ At wr w.heap.size v ∧ Below w.heap.size w wr) (fun _ i _ => Y - (intOf i).toNat)
      case atStart => exact ⟨0, Nat.zero_le _, rfl, HO1.out, HA.out, HB.out⟩
      case round =>
        obtain ⟨k, hkY, rfl, ho, ha, hb⟩ := hrel
        have HO2 := hid ho
        have HA1 := hid ha
        have HB1 := hid hb
        have hbox := ha.1
        clear ho ha
        by_cases hlt : k < Y
        · obtain ⟨tb, to, rfl, htl, htc⟩ := HTc.out (by intro h; have := HY.out; rw [h] at this; simp at this; omega)
          have hcell := (hb.cell (p := ⟨tb, to + k, none⟩) htl).trans (htc k hlt)
          have hrg := HW.out k hlt
          have HS : Hid (wdK xs b f ys (k + 1) = pT xs b (wdK xs b f ys k) (ys.getD k 0).toNat) := hid rfl
          obtain ⟨y, hy⟩ : ∃ y, ys.getD k 0 = y := ⟨_, rfl⟩
          rw [hy] at hcell hrg HS
          obtain ⟨e, rfl⟩ := Int.eq_ofNat_of_zero_le hrg.1
          rw [Int.toNat_natCast] at HS
          have hen : e < xs.length := by omega
          clear hb hy htc
          go_wp2_with fail
          clear hbox hcell
          refine (HPt.out wr _ _ e (HV.out.below HB1.out) HO2.out.ints (HRk.out k (by omega)) hen).mono ?_
          rintro e' w3 ⟨q2, rfl, ho2, hb2⟩
          have HO3 := hid (ho2.mono HB1.out.size)
          have HA2 := hid (HA1.out.below hb2)
          have HB2 := hid (below_to HB1.out hb2)
          clear ho2 hb2
          go_wp2
          go_roundw
          case rel => exact ⟨k + 1, by omega, by go_num, by rw [HS.out]; exact HO3.out, HA2.out, HB2.out⟩
          case measure => simp [intOf]; try omega
        · obtain rfl : k = Y := by omega
          clear hb
          go_wp2
          go_ret2
          exact ⟨_, ret_vbA HO.out.symm, by rw [HN.out]; exact HO2.out, HL.out, HB1.out⟩
theorem okKR_one : okKR 1 = true := rfl
theorem okKR_mone : okKR (-1) = true := rfl
theorem ansRA_one {xs f : List Int} {b : Int} : okRA xs f b 1 = okAr xs f b ∧ (okAr xs f b = true → ansRA xs f b 1 = wdK xs b f (dnW xs.length) xs.length) := by
  have h : okRA xs f b 1 = okAr xs f b := by unfold okRA; rw [okKR_one, Bool.and_true]
  refine ⟨h, fun k => ?_⟩
  rw [ansRA_yes (h.trans k)]
  show wdK xs b f (dnW xs.length) (dnW xs.length).length = _
  rw [dnW_len]
theorem ansRA_mone {xs f : List Int} {b : Int} : okRA xs f b (-1) = okAr xs f b ∧ (okAr xs f b = true → ansRA xs f b (-1) = wdK xs b f (upW xs.length) xs.length) := by
  have h : okRA xs f b (-1) = okAr xs f b := by unfold okRA; rw [okKR_mone, Bool.and_true]
  refine ⟨h, fun k => ?_⟩
  rw [ansRA_yes (h.trans k)]
  show wdK xs b f (upW xs.length) (upW xs.length).length = _
  rw [upW_len]
theorem specRowArray_any (v : Value) (xs : List Int) (u : Value) (f : List Int) (b : Int) (w : World) (hv : Ints w v xs) (hl : xs.length ≤ 1048576) (hu : Ints w u f) (hm : f.length ≤ 1048576) (wf : (Lit.int .i64 b).wf = true) :
    Calls Try.prog 27 #[.agg #[v], u, .int .i64 b] w fun (r : Ending) w' => ∃ q, r = Ending.returned (.tuple #[q, .bool (okRA xs f b 1)]) ∧ OwnI 3 w' w.heap.size q (ansRA xs f b 1) ∧ (ansRA xs f b 1).length ≤ 1048576 ∧ Below w.heap.size w w' := by
  have HV := hid hv
  have HU := hid hu
  have HL := hid (ansRA_len xs f b 1)
  have HK := hid (@ansRA_one xs f b)
  clear hv hu wf
  go_enter Try.func27, Try.ntmps27
  have HB := hid (below_alloc (Below.refl _ w) (.cells #[v] 28))
  have A0 := hid (At.newAt w v 28 w.heap.size (by simp))
  go_wp2_with fail
  refine (pcIs_any _ _ xs f b _ (HV.out.below HB.out) (HU.out.below HB.out) hl hm).mono ?_
  rintro e w' ⟨rfl, hb⟩
  replace HB := hid (below_to HB.out hb)
  replace A0 := hid (A0.out.below hb)
  clear hb
  cases hq : okAr xs f b
  · have HO := hid (HK.out.1.trans hq)
    have HN := hid (ansRA_no HO.out)
    clear hq
    have ebox0 := A0.out.1
    go_wp2
    go_ret2
    exact ⟨_, ret_vbA HO.out.symm, by rw [HN.out]; exact OwnI.nil _ _ _, HL.out, HB.out⟩
  · have HO := hid (HK.out.1.trans hq)
    have HN := hid (HK.out.2 hq)
    obtain ⟨h1, h2, h3, h4⟩ := okAr_all hq
    have HG := hid h1
    have HR := hid h4
    have hz := HB.out.size
    clear h1 h4 hq
    have ebox0 := A0.out.1
    go_wp2_with fail
    clear ebox0
    refine (pcRow_any _ _ xs f b _ (HV.out.below HB.out) (HU.out.below HB.out) HG.out HR.out h2 h3).mono ?_
    rintro e w' ⟨q, rfl, ho, hb⟩
    replace HB := hid (below_to HB.out hb)
    replace A0 := hid (A0.out.below hb)
    clear hb
    have HQ2 := hid (ho.mono hz)
    clear ho
    have ebox0 := A0.out.1
    go_wp2
    go_ret2
    exact ⟨_, ret_vbA HO.out.symm, by rw [HN.out]; exact HQ2.out, HL.out, HB.out⟩
theorem specRowArrayBack_any (v : Value) (xs : List Int) (u : Value) (f : List Int) (b : Int) (w : World) (hv : Ints w v xs) (hl : xs.length ≤ 1048576) (hu : Ints w u f) (hm : f.length ≤ 1048576) (wf : (Lit.int .i64 b).wf = true) :
    Calls Try.prog 29 #[.agg #[v], u, .int .i64 b] w fun (r : Ending) w' => ∃ q, r = Ending.returned (.tuple #[q, .bool (okRA xs f b (-1))]) ∧ OwnI 3 w' w.heap.size q (ansRA xs f b (-1)) ∧ (ansRA xs f b (-1)).length ≤ 1048576 ∧ Below w.heap.size w w' := by
  have HV := hid hv
  have HU := hid hu
  have HL := hid (ansRA_len xs f b (-1))
  have HK := hid (@ansRA_mone xs f b)
  clear hv hu wf
  go_enter Try.func29, Try.ntmps29
  have HB := hid (below_alloc (Below.refl _ w) (.cells #[v] 28))
  have A0 := hid (At.newAt w v 28 w.heap.size (by simp))
  go_wp2_with fail
  refine (pcIs_any _ _ xs f b _ (HV.out.below HB.out) (HU.out.below HB.out) hl hm).mono ?_
  rintro e w' ⟨rfl, hb⟩
  replace HB := hid (below_to HB.out hb)
  replace A0 := hid (A0.out.below hb)
  clear hb
  cases hq : okAr xs f b
  · have HO := hid (HK.out.1.trans hq)
    have HN := hid (ansRA_no HO.out)
    clear hq
    have ebox0 := A0.out.1
    go_wp2
    go_ret2
    exact ⟨_, ret_vbA HO.out.symm, by rw [HN.out]; exact OwnI.nil _ _ _, HL.out, HB.out⟩
  · have HO := hid (HK.out.1.trans hq)
    have HN := hid (HK.out.2 hq)
    obtain ⟨h1, h2, h3, h4⟩ := okAr_all hq
    have HG := hid h1
    have HR := hid h4
    have hz := HB.out.size
    clear h1 h4 hq
    have ebox0 := A0.out.1
    go_wp2_with fail
    clear ebox0
    refine (pcBack_any _ _ xs f b _ (HV.out.below HB.out) (HU.out.below HB.out) HG.out HR.out h2 h3).mono ?_
    rintro e w' ⟨q, rfl, ho, hb⟩
    replace HB := hid (below_to HB.out hb)
    replace A0 := hid (A0.out.below hb)
    clear hb
    have HQ2 := hid (ho.mono hz)
    clear ho
    have ebox0 := A0.out.1
    go_wp2
    go_ret2
    exact ⟨_, ret_vbA HO.out.symm, by rw [HN.out]; exact HQ2.out, HL.out, HB.out⟩
set_option maxHeartbeats 800000 in
theorem specRowArrayTimes_any (v : Value) (xs : List Int) (u : Value) (f : List Int) (b k : Int) (w : World) (hv : Ints w v xs) (hl : xs.length ≤ 1048576) (hu : Ints w u f) (hm : f.length ≤ 1048576) (wf : (Lit.int .i64 b).wf = true) (wfk : (Lit.int .i64 k).wf = true) :
    Calls Try.prog 31 #[.agg #[v], u, .int .i64 b, .int .i64 k] w fun (r : Ending) w' => ∃ q, r = Ending.returned (.tuple #[q, .bool (okRA xs f b k)]) ∧ OwnI 3 w' w.heap.size q (ansRA xs f b k) ∧ (ansRA xs f b k).length ≤ 1048576 ∧ Below w.heap.size w w' := by
  have HV := hid hv
  have HU := hid hu
  have HL := hid (ansRA_len xs f b k)
  clear hv hu wf wfk
  go_enter Try.func31, Try.ntmps31
  have HB := hid (below_alloc (Below.refl _ w) (.cells #[v] 28))
  have A0 := hid (At.newAt w v 28 w.heap.size (by simp))
  go_wp2_with fail
  refine (pcIs_any _ _ xs f b _ (HV.out.below HB.out) (HU.out.below HB.out) hl hm).mono ?_
  rintro e w' ⟨rfl, hb⟩
  replace HB := hid (below_to HB.out hb)
  replace A0 := hid (A0.out.below hb)
  clear hb
  cases hq : okAr xs f b
  · have HO := hid (okRA_no1 (k := k) hq)
    have HN := hid (ansRA_no HO.out)
    clear hq
    have ebox0 := A0.out.1
    go_wp2
    go_ret2
    exact ⟨_, ret_vbA HO.out.symm, by rw [HN.out]; exact OwnI.nil _ _ _, HL.out, HB.out⟩
  cases hk : okKR k
  · have HO := hid (okRA_no2 (xs := xs) (f := f) (b := b) hk)
    have HN := hid (ansRA_no HO.out)
    have HK : Hid ((decide (-1000 ≤ k) && decide (k ≤ 1000)) = false) := hid hk
    clear hk hq
    have ebox0 := A0.out.1
    go_wp2_with (go_at_call 59; refine (l1In_any _ _ _ _).mono ?_; rw [HK.out]; rintro e w' ⟨rfl, rfl⟩)
    go_ret2
    exact ⟨_, ret_vbA HO.out.symm, by rw [HN.out]; exact OwnI.nil _ _ _, HL.out, HB.out⟩
  · have HO := hid (okRA_yes hq hk)
    have HN := hid (ansRA_yes HO.out)
    have HK : Hid ((decide (-1000 ≤ k) && decide (k ≤ 1000)) = true) := hid hk
    have hkr := okKR_all hk
    obtain ⟨h1, h2, h3, h4⟩ := okAr_all hq
    have HRk := hid (fun t => tmK_rise (wd := wdOf xs.length k) h1 h4 (fun j hj => by rw [wdOf_len] at hj; exact wdOf_rng hj) t)
    have HPd := hid (fun W q g hW hq hr' => pcRow_any v q xs g b W hW hq h1 hr' h2 h3)
    have HPu := hid (fun W q g hW hq hr' => pcBack_any v q xs g b W hW hq h1 hr' h2 h3)
    clear hk hq h1 h2 h3 h4
    have ebox0 := A0.out.1
    go_wp2_with (first | (go_at_call 59; refine (l1In_any _ _ _ _).mono ?_; rw [HK.out]; rintro e w' ⟨rfl, rfl⟩) | fail)
    clear ebox0
    refine (l1OwnA_any u f _ (HU.out.below HB.out) hm).mono ?_
    rintro e' w2 ⟨q, rfl, ho, hb⟩
    have HO1 := hid (ho.mono HB.out.size)
    have HA := hid (A0.out.below hb)
    replace HB := hid (below_to HB.out hb)
    clear hb ho A0
    by_cases hneg : k < 0
    · obtain ⟨K, hK⟩ : ∃ K : Nat, -k = K := Int.eq_ofNat_of_zero_le (by omega)
      have HNa : Hid (k.natAbs = K) := hid (by omega)
      have HWd : Hid (wdOf xs.length k = upW xs.length) := hid (by unfold wdOf; rw [if_pos hneg])
      rw [HWd.out] at HRk HN
      rw [HNa.out] at HN
      have HKe := hid hK
      have hK1 : K ≤ 1000 := by omega
      clear hkr
      go_wp2
      go_loopw [10, 3] (fun q i wr => i = .int .i64 k ∧ OwnI 3 wr w.heap.size q f ∧ At wr w.heap.size v ∧ Below w.heap.size w wr) (fun _ _ _ => 0)
      case atStart => exact ⟨rfl, HO1.out, HA.out, HB.out⟩
      case round =>
        obtain ⟨rfl, ho, ha, hb⟩ := hrel
        have HO2 := hid ho
        have HA1 := hid ha
        have HB1 := hid hb
        clear ho ha hb
        have hng : ¬ (0 < k) := by omega
        go_wp2
        go_loopw [10, 3] (fun q i wr => ∃ t r : Nat, t + r = K ∧ i = .int .i64 (-(r : Int)) ∧ OwnI 3 wr w.heap.size q (tmK xs b (upW xs.length) f t) ∧ At wr w.heap.size v ∧ Below w.heap.size w wr) (fun _ i _ => (- intOf i).toNat)
        case atStart => exact ⟨0, K, by omega, by rw [← HKe.out]; simp, HO2.out, HA1.out, HB1.out⟩
        case round =>
          obtain ⟨t, r, htr, rfl, ho, ha, hb⟩ := hrel
          have HO3 := hid ho
          have HA2 := hid ha
          have HB2 := hid hb
          have hbox := ha.1
          clear ho ha hb
          by_cases hr0 : r = 0
          · subst hr0
            obtain rfl : t = K := by omega
            go_wp2
            go_ret2
            exact ⟨_, ret_vbA HO.out.symm, by rw [HN.out]; exact HO3.out, HL.out, HB2.out⟩
          · have hlt : -(r : Int) < 0 := by omega
            have HS : Hid (tmK xs b (upW xs.length) f (t + 1) = wdK xs b (tmK xs b (upW xs.length) f t) (upW xs.length) xs.length) := hid (by rw [tmK, upW_len])
            go_wp2_with fail
            clear hbox
            refine (HPu.out wr _ _ (HV.out.below HB2.out) HO3.out.ints (HRk.out t)).mono ?_
            rintro e' w3 ⟨q2, rfl, ho2, hb2⟩
            have HO4 := hid (ho2.mono HB2.out.size)
            have HA3 := hid (HA2.out.below hb2)
            have HB3 := hid (below_to HB2.out hb2)
            have hw1 : IntKind.i64.wrap (-(r : Int) + 1) = -((r - 1 : Nat) : Int) := by rw [IntWalk.i64_in _ (by omega)]; omega
            clear ho2 hb2
            go_wp2
            clear hw1
            go_roundw
            case rel => exact ⟨t + 1, r - 1, by omega, by first | rfl | go_num, by rw [HS.out]; exact HO4.out, HA3.out, HB3.out⟩
            case measure => simp [intOf]; try omega
    · obtain ⟨K, rfl⟩ : ∃ K : Nat, k = K := Int.eq_ofNat_of_zero_le (by omega)
      have HNa : Hid ((K : Int).natAbs = K) := hid (by omega)
      have HWd : Hid (wdOf xs.length (K : Int) = dnW xs.length) := hid (by unfold wdOf; rw [if_neg hneg])
      rw [HWd.out] at HRk HN
      rw [HNa.out] at HN
      clear hneg
      go_wp2
      go_loopw [10, 3] (fun q i wr => ∃ t r : Nat, t + r = K ∧ i = .int .i64 (r : Int) ∧ OwnI 3 wr w.heap.size q (tmK xs b (dnW xs.length) f t) ∧ At wr w.heap.size v ∧ Below w.heap.size w wr) (fun _ i _ => (intOf i).toNat)
      case atStart => exact ⟨0, K, by omega, rfl, HO1.out, HA.out, HB.out⟩
      case round =>
        obtain ⟨t, r, htr, rfl, ho, ha, hb⟩ := hrel
        have HO3 := hid ho
        have HA2 := hid ha
        have HB2 := hid hb
        have hbox := ha.1
        clear ho ha hb
        by_cases hr0 : r = 0
        · subst hr0
          obtain rfl : t = K := by omega
          clear hbox
          go_wp2
          go_loopw [10, 3] (fun q i wr => i = .int .i64 0 ∧ OwnI 3 wr w.heap.size q (tmK xs b (dnW xs.length) f t) ∧ Below w.heap.size w wr) (fun _ _ _ => 0)
          case atStart => exact ⟨rfl, HO3.out, HB2.out⟩
          case round =>
            obtain ⟨rfl, ho, hb⟩ := hrel
            have HO4 := hid ho
            have HB3 := hid hb
            clear ho hb
            go_wp2
            go_ret2
            exact ⟨_, ret_vbA HO.out.symm, by rw [HN.out]; exact HO4.out, HL.out, HB3.out⟩
        · have hlt : 0 < (r : Int) := by omega
          have HS : Hid (tmK xs b (dnW xs.length) f (t + 1) = wdK xs b (tmK xs b (dnW xs.length) f t) (dnW xs.length) xs.length) := hid (by rw [tmK, dnW_len])
          go_wp2_with fail
          clear hbox
          refine (HPd.out wr _ _ (HV.out.below HB2.out) HO3.out.ints (HRk.out t)).mono ?_
          rintro e' w3 ⟨q2, rfl, ho2, hb2⟩
          have HO4 := hid (ho2.mono HB2.out.size)
          have HA3 := hid (HA2.out.below hb2)
          have HB3 := hid (below_to HB2.out hb2)
          have hw1 : IntKind.i64.wrap ((r : Int) - 1) = ((r - 1 : Nat) : Int) := by rw [IntWalk.i64_in _ (by omega)]; omega
          clear ho2 hb2
          go_wp2
          clear hw1
          go_roundw
          case rel => exact ⟨t + 1, r - 1, by omega, by first | rfl | go_num, by rw [HS.out]; exact HO4.out, HA3.out, HB3.out⟩
          case measure => simp [intOf]; try omega
end Go.Proofs.Ytgepbekdgocnpaa
