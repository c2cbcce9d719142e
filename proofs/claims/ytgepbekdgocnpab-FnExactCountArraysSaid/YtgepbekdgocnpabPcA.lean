/- AllArrays of both sides. -/
import Derived.Test.YtgepbekdgocnpabPcL
import Derived.Test.YtgepbekdgocnpabLbX
import Derived.Test.YtgepbekdgocnpabJoinI
import Derived.Test.YtgepbekdgocnpabAddRow
import Derived.Test.YtgepbekdgocnpabApi
import Derived.Test.YtgepbekdgocnpabArT
namespace Go.Proofs.Ytgepbekdgocnpab
open Go.RowKit Go.WideShapes Go.ChangeShapes
set_option linter.unusedVariables false

def okLs (xs : List Int) : Bool := good xs && decide (xs.length ≤ 6)
theorem okLs_all {xs : List Int} (h : okLs xs = true) : good xs = true ∧ xs.length ≤ 6 := by simpa [okLs] using h
theorem okLs_no1 {xs : List Int} (h : good xs = false) : okLs xs = false := by simp [okLs, h]
theorem okLs_no2 {xs : List Int} (h : ¬ xs.length ≤ 6) : okLs xs = false := by simp [okLs, h]
theorem okLs_yes {xs : List Int} (h : good xs = true) (k : xs.length ≤ 6) : okLs xs = true := by simp [okLs, h, k]
def fewB (b : Int) : Bool := decide (0 ≤ b) && decide (b ≤ 4)
theorem fewB_all {b : Int} (h : fewB b = true) : 0 ≤ b ∧ b ≤ 4 := by simpa [fewB] using h
def okAA (xs : List Int) (b : Int) : Bool := okLs xs && fewB b
def ansAA (xs : List Int) (b : Int) : List (List Int) := if okAA xs b then allF xs b.toNat else []
theorem okAA_no1 {xs : List Int} {b : Int} (h : okLs xs = false) : okAA xs b = false := by simp [okAA, h]
theorem okAA_no2 {xs : List Int} {b : Int} (h : fewB b = false) : okAA xs b = false := by simp [okAA, h]
theorem okAA_yes {xs : List Int} {b : Int} (h : okLs xs = true) (k : fewB b = true) : okAA xs b = true := by simp [okAA, h, k]
theorem ansAA_no {xs : List Int} {b : Int} (h : okAA xs b = false) : ansAA xs b = [] := by simp [ansAA, h]
theorem ansAA_yes {xs : List Int} {b : Nat} (h : okAA xs b = true) : ansAA xs b = allF xs b := by unfold ansAA; rw [if_pos h, Int.toNat_natCast]
theorem ansAA_small (xs : List Int) (b : Int) : SSmall (ansAA xs b) := by
  cases h : okAA xs b
  · rw [ansAA_no h]; exact ⟨by simp, by simp, by simp [offL]⟩
  · have h2 := h
    simp only [okAA, Bool.and_eq_true] at h2
    obtain ⟨hl, hb⟩ := h2
    obtain ⟨b0, b1⟩ := fewB_all hb
    obtain ⟨m, rfl⟩ := Int.eq_ofNat_of_zero_le b0
    have h6 := (okLs_all hl).2
    rw [ansAA_yes h]
    have h3 : (allF xs m).length ≤ 15625 := lbF_small [] (by omega) h6
    have h4 : ∀ j, j < (allF xs m).length → ((allF xs m).getD j []).length ≤ 6 := fun j hj => by rw [(allF_row (xs := xs) (m := m) (i := j) hj).1]; exact h6
    refine ⟨by omega, fun j hj => by have := h4 j hj; omega, ?_⟩
    have h5 := offL_leR h4 _ (Nat.le_refl _)
    omega
theorem isListed_any (v : Value) (xs : List Int) (w : World) (hv : Ints w v xs) (hl : xs.length ≤ 1048576) :
    Calls Try.prog 57 #[.agg #[v]] w fun r w' => r = .returned (.bool (okLs xs)) ∧ Below w.heap.size w w' := by
  have HV := hid hv
  obtain ⟨A, c, rfl, -⟩ := hv
  cases hg : good xs
  · have HG := hid hg
    have HO := hid (okLs_no1 hg)
    clear hg
    go_enter Try.func57, Try.ntmps57
    have HB := hid (below_alloc (Below.refl _ w) (.cells #[(.slice A xs.length c)] 28))
    have A0 := hid (At.newAt w (.slice A xs.length c) 28 w.heap.size (by simp))
    go_wp2_with fail
    refine (implIsPoset_any _ xs _ (HV.out.below HB.out) hl).mono ?_
    rw [HG.out]
    rintro e w' ⟨rfl, hb⟩
    replace HB := hid (below_to HB.out hb)
    replace A0 := hid (A0.out.below hb)
    clear hb
    have ebox0 := A0.out.1
    go_wp2
    go_ret
    exact ⟨ret_bool HO.out.symm, HB.out⟩
  · have HG := hid hg
    have HO : Hid (okLs xs = decide (xs.length ≤ 6)) := hid (by simp [okLs, hg])
    clear hg
    obtain ⟨n, hn⟩ : ∃ n, xs.length = n := ⟨_, rfl⟩
    have HN := hid hn
    rw [hn] at HV hl HO ⊢
    clear hn
    by_cases h6 : n ≤ 6
    · have hI : (n : Int) ≤ 6 := by omega
      have HD := hid (decide_eq_true h6)
      go_enter Try.func57, Try.ntmps57
      have HB := hid (below_alloc (Below.refl _ w) (.cells #[(.slice A n c)] 28))
      have A0 := hid (At.newAt w (.slice A n c) 28 w.heap.size (by simp))
      go_wp2_with fail
      refine (implIsPoset_any _ xs _ (HV.out.below HB.out) (by rw [HN.out]; exact hl)).mono ?_
      rw [HG.out]
      rintro e w' ⟨rfl, hb⟩
      replace HB := hid (below_to HB.out hb)
      replace A0 := hid (A0.out.below hb)
      clear hb
      have ebox0 := A0.out.1
      go_wp2
      go_ret
      exact ⟨ret_bool (by rw [HO.out]; first | exact HD.out.symm | (rw [HD.out]; first | done | rfl | (simp; omega)) | (simp; omega)), HB.out⟩
    · have hI : ¬ (n : Int) ≤ 6 := by omega
      have HD := hid (decide_eq_false h6)
      go_enter Try.func57, Try.ntmps57
      have HB := hid (below_alloc (Below.refl _ w) (.cells #[(.slice A n c)] 28))
      have A0 := hid (At.newAt w (.slice A n c) 28 w.heap.size (by simp))
      go_wp2_with fail
      refine (implIsPoset_any _ xs _ (HV.out.below HB.out) (by rw [HN.out]; exact hl)).mono ?_
      rw [HG.out]
      rintro e w' ⟨rfl, hb⟩
      replace HB := hid (below_to HB.out hb)
      replace A0 := hid (A0.out.below hb)
      clear hb
      have ebox0 := A0.out.1
      go_wp2
      go_ret
      exact ⟨ret_bool (by rw [HO.out]; first | exact HD.out.symm | (rw [HD.out]; first | done | rfl | (simp; omega)) | (simp; omega)), HB.out⟩
set_option maxHeartbeats 800000 in
theorem specAllArrays_any (v : Value) (xs : List Int) (b : Int) (w : World) (hv : Ints w v xs) (hl : xs.length ≤ 1048576) (wf : (Lit.int .i64 b).wf = true) :
    Calls Try.prog 28 #[.agg #[v], .int .i64 b] w fun (r : Ending) w' => ∃ q, r = Ending.returned (.tuple #[q, .bool (okAA xs b)]) ∧ OwnSS 3 22 w' w.heap.size w'.heap.size q (ansAA xs b) ∧ SSmall (ansAA xs b) ∧ Below w.heap.size w w' := by
  have HV := hid hv
  have HL := hid (ansAA_small xs b)
  obtain ⟨A, c, rfl, -⟩ := hv
  clear wf
  cases hg : good xs
  · have HG := hid hg
    have HO := hid (okAA_no1 (b := b) (okLs_no1 hg))
    have HN := hid (ansAA_no HO.out)
    clear hg
    go_enter Try.func28, Try.ntmps28
    have HB := hid (below_alloc (Below.refl _ w) (.cells #[(.slice A xs.length c)] 28))
    have A0 := hid (At.newAt w (.slice A xs.length c) 28 w.heap.size (by simp))
    go_wp2_with fail
    refine (poGood_any _ xs _ (HV.out.below HB.out) hl).mono ?_
    rw [HG.out]
    rintro e w' ⟨rfl, hb⟩
    replace HB := hid (below_to HB.out hb)
    replace A0 := hid (A0.out.below hb)
    clear hb
    have ebox0 := A0.out.1
    go_wp2
    go_ret2
    exact ⟨_, ret_vbA HO.out.symm, by rw [HN.out]; exact OwnSS.nil _ _ _ _ _, HL.out, HB.out⟩
  obtain ⟨n, hn⟩ : ∃ n, xs.length = n := ⟨_, rfl⟩
  have HNn := hid hn
  by_cases h6 : n ≤ 6
  · cases hb : fewB b
    · have HG := hid hg
      have HD : Hid ((decide (0 ≤ b) && decide (b ≤ 4)) = false) := hid hb
      have HO := hid (okAA_no2 (xs := xs) hb)
      have HN := hid (ansAA_no HO.out)
      rw [hn] at HV hl ⊢
      have hI : ¬ 6 < (n : Int) := by omega
      clear hg hb hn
      go_enter Try.func28, Try.ntmps28
      have HB := hid (below_alloc (Below.refl _ w) (.cells #[(.slice A n c)] 28))
      have A0 := hid (At.newAt w (.slice A n c) 28 w.heap.size (by simp))
      go_wp2_with fail
      refine (poGood_any _ xs _ (HV.out.below HB.out) (by rw [HNn.out]; exact hl)).mono ?_
      rw [HG.out]
      rintro e w' ⟨rfl, hb⟩
      replace HB := hid (below_to HB.out hb)
      replace A0 := hid (A0.out.below hb)
      clear hb
      have ebox0 := A0.out.1
      go_wp2_with (go_at_call 55; refine (l1In_any _ _ _ _).mono ?_; rw [HD.out]; rintro e w' ⟨rfl, rfl⟩)
      go_ret2
      exact ⟨_, ret_vbA HO.out.symm, by rw [HN.out]; exact OwnSS.nil _ _ _ _ _, HL.out, HB.out⟩
    · have HG := hid hg
      have HD : Hid ((decide (0 ≤ b) && decide (b ≤ 4)) = true) := hid hb
      have HO := hid (okAA_yes (okLs_yes hg (by omega)) hb)
      obtain ⟨b0, b1⟩ := fewB_all hb
      obtain ⟨m, rfl⟩ := Int.eq_ofNat_of_zero_le b0
      have HN := hid (ansAA_yes HO.out)
      have HAl := hid (fun W hW => pcAll_any n (.slice A n c) (.slice none 0 0) xs [] m W hW ⟨none, 0, rfl, fun h => absurd rfl h⟩ hg (by rw [hn]; simp) (fun j hj => by simp at hj) (by omega) (by omega))
      have HAf : Hid (lbF xs m n [] = allF xs m) := hid (by unfold allF; rw [hn])
      rw [HAf.out] at HAl
      rw [hn] at HV hl ⊢
      have hI : ¬ 6 < (n : Int) := by omega
      clear hg hb hn
      go_enter Try.func28, Try.ntmps28
      have HB := hid (below_alloc (Below.refl _ w) (.cells #[(.slice A n c)] 28))
      have A0 := hid (At.newAt w (.slice A n c) 28 w.heap.size (by simp))
      go_wp2_with fail
      refine (poGood_any _ xs _ (HV.out.below HB.out) (by rw [HNn.out]; exact hl)).mono ?_
      rw [HG.out]
      rintro e w' ⟨rfl, hb⟩
      replace HB := hid (below_to HB.out hb)
      replace A0 := hid (A0.out.below hb)
      clear hb
      have ebox0 := A0.out.1
      go_wp2_with (first | (go_at_call 55; refine (l1In_any _ _ _ _).mono ?_; rw [HD.out]; rintro e w' ⟨rfl, rfl⟩) | fail)
      clear ebox0
      refine (HAl.out _ (HV.out.below HB.out)).mono ?_
      rintro e w1 ⟨q, rfl, ho, hb⟩
      have HS := hid (ho.monoBR HB.out.size)
      replace HB := hid (below_to HB.out hb)
      clear ho hb
      go_wp2
      go_ret2
      exact ⟨_, ret_vbA HO.out.symm, by rw [HN.out]; exact HS.out, HL.out, HB.out⟩
  · have HG := hid hg
    have HO := hid (okAA_no1 (b := b) (okLs_no2 (xs := xs) (by omega)))
    have HN := hid (ansAA_no HO.out)
    rw [hn] at HV hl ⊢
    have hI : 6 < (n : Int) := by omega
    clear hg hn
    go_enter Try.func28, Try.ntmps28
    have HB := hid (below_alloc (Below.refl _ w) (.cells #[(.slice A n c)] 28))
    have A0 := hid (At.newAt w (.slice A n c) 28 w.heap.size (by simp))
    go_wp2_with fail
    refine (poGood_any _ xs _ (HV.out.below HB.out) (by rw [HNn.out]; exact hl)).mono ?_
    rw [HG.out]
    rintro e w' ⟨rfl, hb⟩
    replace HB := hid (below_to HB.out hb)
    replace A0 := hid (A0.out.below hb)
    clear hb
    have ebox0 := A0.out.1
    go_wp2
    go_ret2
    exact ⟨_, ret_vbA HO.out.symm, by rw [HN.out]; exact OwnSS.nil _ _ _ _ _, HL.out, HB.out⟩
/-- how many rounds are left -/
def msB (q b : Value) : Nat := match q, b with | .slice _ l _, .bool true => 20000 - l + 1 | _, _ => 0
set_option maxRecDepth 100000 in
set_option maxHeartbeats 3200000 in
theorem implAllArrays_any (v : Value) (xs : List Int) (b : Int) (w : World) (hv : Ints w v xs) (hl : xs.length ≤ 1048576) (wf : (Lit.int .i64 b).wf = true) :
    Calls Try.prog 29 #[.agg #[v], .int .i64 b] w fun (r : Ending) w' => ∃ q, r = Ending.returned (.tuple #[q, .bool (okAA xs b)]) ∧ OwnSS 3 22 w' w.heap.size w'.heap.size q (ansAA xs b) ∧ SSmall (ansAA xs b) ∧ Below w.heap.size w w' := by
  have HV := hid hv
  have HL := hid (ansAA_small xs b)
  clear hv wf
  cases hls : okLs xs
  · have HG := hid hls
    have HO := hid (okAA_no1 (b := b) hls)
    have HN := hid (ansAA_no HO.out)
    clear hls
    go_enter Try.func29, Try.ntmps29
    have HB := hid (below_alloc (Below.refl _ w) (.cells #[v] 28))
    have A0 := hid (At.newAt w v 28 w.heap.size (by simp))
    go_wp2_with fail
    refine (isListed_any _ xs _ (HV.out.below HB.out) hl).mono ?_
    rw [HG.out]
    rintro e w' ⟨rfl, hb⟩
    replace HB := hid (below_to HB.out hb)
    replace A0 := hid (A0.out.below hb)
    clear hb
    have ebox0 := A0.out.1
    go_wp2
    go_ret2
    exact ⟨_, ret_vbA HO.out.symm, by rw [HN.out]; exact OwnSS.nil _ _ _ _ _, HL.out, HB.out⟩
  by_cases hb1 : b < 0
  · have HG := hid hls
    have HO := hid (okAA_no2 (xs := xs) (b := b) (by simp [fewB]; omega))
    have HN := hid (ansAA_no HO.out)
    clear hls
    go_enter Try.func29, Try.ntmps29
    have HB := hid (below_alloc (Below.refl _ w) (.cells #[v] 28))
    have A0 := hid (At.newAt w v 28 w.heap.size (by simp))
    go_wp2_with fail
    refine (isListed_any _ xs _ (HV.out.below HB.out) hl).mono ?_
    rw [HG.out]
    rintro e w' ⟨rfl, hb⟩
    replace HB := hid (below_to HB.out hb)
    replace A0 := hid (A0.out.below hb)
    clear hb
    have ebox0 := A0.out.1
    go_wp2
    go_ret2
    exact ⟨_, ret_vbA HO.out.symm, by rw [HN.out]; exact OwnSS.nil _ _ _ _ _, HL.out, HB.out⟩
  by_cases hb2 : 4 < b
  · have HG := hid hls
    have HO := hid (okAA_no2 (xs := xs) (b := b) (by simp [fewB]; omega))
    have HN := hid (ansAA_no HO.out)
    clear hls
    go_enter Try.func29, Try.ntmps29
    have HB := hid (below_alloc (Below.refl _ w) (.cells #[v] 28))
    have A0 := hid (At.newAt w v 28 w.heap.size (by simp))
    go_wp2_with fail
    refine (isListed_any _ xs _ (HV.out.below HB.out) hl).mono ?_
    rw [HG.out]
    rintro e w' ⟨rfl, hb⟩
    replace HB := hid (below_to HB.out hb)
    replace A0 := hid (A0.out.below hb)
    clear hb
    have ebox0 := A0.out.1
    go_wp2
    go_ret2
    exact ⟨_, ret_vbA HO.out.symm, by rw [HN.out]; exact OwnSS.nil _ _ _ _ _, HL.out, HB.out⟩
  · have HLs := hid hls
    have HO := hid (okAA_yes (b := b) hls (by simp [fewB]; omega))
    obtain ⟨m, rfl⟩ := Int.eq_ofNat_of_zero_le (show 0 ≤ b by omega)
    have HN := hid (ansAA_yes HO.out)
    obtain ⟨hg, h6⟩ := okLs_all hls
    have HG := hid hg
    have hx10 := (good_length hg).2
    have hm4 : m ≤ 4 := by omega
    obtain ⟨hN0, hA0, hAn, hAm⟩ := allF_run xs m
    have HA0 := hid hA0
    have HAn := hid hAn
    have HAm := hid hAm
    have HRow := hid (fun i hi => allF_row (xs := xs) (m := m) (i := i) hi)
    have hNs : (allF xs m).length ≤ 15625 := lbF_small [] hm4 h6
    obtain ⟨A, hA⟩ : ∃ A, allF xs m = A := ⟨_, rfl⟩
    rw [hA] at HA0 HAn HAm HRow hN0 HN hNs
    obtain ⟨N, hN⟩ : ∃ N, A.length = N := ⟨_, rfl⟩
    have HNe := hid hN
    rw [hN] at HAn HAm HRow hN0 hNs
    obtain ⟨n, hn⟩ : ∃ n, xs.length = n := ⟨_, rfl⟩
    have HNx := hid hn
    obtain ⟨B, c, rfl, -⟩ := HV.out
    rw [hn] at HV hx10 HA0 HRow hl ⊢
    have hmk := run_make_row' (P := Try.prog) 22 3 (.int .i64 0) 8 Try.underlying22 Try.info3 rfl .i64 .i64 n (by omega) (by omega)
    have Hmk := hid hmk
    clear hg hls hA hN hA0 hAn hAm hn hmk
    go_enter Try.func29, Try.ntmps29
    have HB := hid (below_alloc (Below.refl _ w) (.cells #[(.slice B n c)] 28))
    have A0 := hid (At.newAt w (.slice B n c) 28 w.heap.size (by simp))
    go_wp2_with fail
    refine (isListed_any _ xs _ (HV.out.below HB.out) (by rw [HNx.out]; exact hl)).mono ?_
    rw [HLs.out]
    rintro e w' ⟨rfl, hb⟩
    replace HB := hid (below_to HB.out hb)
    replace A0 := hid (A0.out.below hb)
    clear hb
    have hmk := Hmk.out
    have ebox0 := A0.out.1
    go_wp2
    clear hmk ebox0
    rw [Vals_made]
    have hwF0 := A0.out.2
    have HX0 : Hid (At (w'.alloc (.cells (Vals (List.replicate n 0)) 3)) w.heap.size (.slice B n c)) := hid (A0.out.alloc _)
    have HK0 : Hid (Blk (w'.alloc (.cells (Vals (List.replicate n 0)) 3)) w'.heap.size 3 (Vals (A.getD 0 []))) := hid (by rw [HA0.out]; exact Blk.new _ _ _)
    have HB0 := hid (below_alloc HB.out (.cells (Vals (List.replicate n 0)) 3))
    have hz0 : (w'.alloc (.cells (Vals (List.replicate n 0)) 3)).heap.size = w'.heap.size + 1 := by simp
    obtain ⟨W1, hW1⟩ : ∃ W1, w'.alloc (.cells (Vals (List.replicate n 0)) 3) = W1 := ⟨_, rfl⟩
    rw [hW1] at HK0 HB0 HX0 hz0 ⊢
    obtain ⟨F, hFe⟩ : ∃ F, w'.heap.size = F := ⟨_, rfl⟩
    have hwF : w.heap.size < F := by omega
    rw [hFe] at HK0 hz0 ⊢
    clear hW1 hFe A0 hwF0
    go_loopw [6, 8] (fun q b wr => ∃ t : Nat, t ≤ N ∧ ((b = .bool true ∧ t < N ∧ Blk wr F 3 (Vals (A.getD t []))) ∨ (b = .bool false ∧ t = N)) ∧ OwnSS 3 22 wr (F + 1) wr.heap.size q (A.take t) ∧ At wr w.heap.size (.slice B n c) ∧ Below w.heap.size w wr ∧ F + 1 ≤ wr.heap.size) (fun q b _ => msB q b)
    case atStart => exact ⟨0, by omega, .inl ⟨rfl, hN0, HK0.out⟩, OwnSS.nil _ _ _ _ _, HX0.out, HB0.out, by omega⟩
    case round =>
      clear HK0 HX0 HB0 hz0
      obtain ⟨t, ht, hst, ho, ha, hb, hFw⟩ := hrel
      have HOt := hid ho
      have HX := hid ha
      have HBt := hid hb
      obtain ⟨oA, oc, rfl, -⟩ := ho.rows
      clear ho ha hb
      rcases hst with ⟨rfl, htN, hk⟩ | ⟨rfl, rfl⟩
      · have HK := hid hk
        have hlt : (A.take t).length = t := by rw [List.length_take, HNe.out]; omega
        rw [hlt] at HOt ⊢
        clear hk
        obtain ⟨hr1, hr2⟩ := HRow.out t htN
        obtain ⟨f, hf⟩ : ∃ f, A.getD t [] = f := ⟨_, rfl⟩
        have HFe2 := hid hf
        rw [hf] at hr1 hr2 HK
        have HR := hid hr2
        have Hn1 := hid hr1
        have HTk : Hid (A.take t ++ [f] = A.take (t + 1)) := hid (by
          rw [← hf, List.take_add_one]; congr 1
          have : t < A.length := by rw [HNe.out]; omega
          simp [List.getD, this])
        have HI : Hid (Ints wr (.slice (some ⟨F, 0, none⟩) n n) f) := hid (by
          have h := Blk.ints (c := n) (show Blk wr F 3 (f.map (Value.int .i64)).toArray from HK.out)
          rw [hr1] at h; exact h)
        clear hf hr1 hr2
        go_wp2_with fail
        refine (cloneI_any _ f _ HI.out (by rw [Hn1.out]; omega)).mono ?_
        rintro e w2 ⟨u, rfl, ho2, hb2⟩
        obtain ⟨uA, uc, rfl, -⟩ := ho2.ints
        have HO2 := hid ho2
        have HB2 := hid hb2
        have hz2 := hb2.size
        clear ho2 hb2
        have HOs2 := hid (HOt.out.below HB2.out)
        have HO2m := hid (HO2.out.mono hFw)
        have HOB := hid (fun b hb => (HO2.out.blockLt b hb).1)
        have HK2 := hid (HK.out.below HB2.out HK.out.lt)
        have HX2 := hid (HX.out.below HB2.out)
        have hFz2 : F + 1 ≤ w2.heap.size := Nat.le_trans hFw hz2
        have HBw2 := hid (below_to HBt.out HB2.out)
        have hlt1 : (A.take (t + 1)).length = t + 1 := by rw [List.length_take, HNe.out]; omega
        go_wp2_with (at_builtin; refine wpList_append_row rfl _ _ 42 22 3 rfl Try.underlying42 Try.info22 (by decide) (F + 1) wr.heap.size _ _ (A.take t) f rfl HOs2.out HO2m.out HOB.out rfl rfl (by rw [hlt]; omega) (by omega) (by omega) ?_; intro u5 w5 ho5 hb5; rw [HTk.out] at ho5; have HO5 := hid ho5; have HK5 := hid (HK2.out.below hb5 (Nat.lt_succ_self _)); have HX5 : Hid (At w5 w.heap.size (.slice B n c)) := hid ⟨(hb5.cell (p := ⟨w.heap.size, 0, none⟩) (by show w.heap.size < F + 1; omega)).trans HX2.out.1, Nat.lt_of_lt_of_le HX2.out.2 hb5.size⟩; have HB5 := hid (HBw2.out.trans (hb5.mono (by omega))); have hFz5 := Nat.le_trans hFz2 hb5.size; obtain ⟨rA, rc, rfl, -⟩ := ho5.rows; rw [hlt1] at HO5 ⊢; have hbx5 := HX5.out.1; clear ho5 hb5)
        have HCall := hid (nextLabels_any (.slice B n c) xs f m F n n w w5 HV.out HB5.out (by omega) HK5.out HG.out HNx.out Hn1.out (by rw [Hn1.out]; exact HR.out) (by omega))
        clear hlt1 hlt
        refine HCall.out.mono ?_
        rintro e w6 ⟨⟨rfl, hall⟩ | ⟨h, rfl, hnx, hk6⟩, ht6⟩
        · have hN1 : t + 1 = N := by
            by_cases q : t + 1 < N
            · have := (HAn.out t q).notM
              rw [HFe2.out] at this
              exact absurd hall this
            · omega
          have HO6 := hid (HO5.out.turned ht6 (.inr (Nat.le_refl _)))
          have HX6 := hid (HX5.out.turned ht6 (.inl hwF))
          have HB6 := hid (below_turned HB5.out ht6 (by omega))
          have hz6 := ht6.size
          have HN1 := hid hN1
          clear ht6 hall hbx5 hN1
          go_wp2
          go_roundw
          case rel => exact ⟨t + 1, by have := HN1.out; omega, .inr ⟨rfl, HN1.out⟩, HO6.out.monoE hz6, HX6.out, HB6.out, by omega⟩
          case measure => simp [msB]
        · have hN1 : t + 1 < N := by
            by_cases q : t + 1 < N
            · exact q
            · have := HAm.out
              rw [show N - 1 = t by omega, HFe2.out] at this
              exact absurd this hnx.notM
          have HE := hid (hnx.fn (by have := HAn.out t hN1; rw [HFe2.out] at this; exact this))
          rw [HE.out] at hk6
          have HK6 := hid hk6
          have HO6 := hid (HO5.out.turned ht6 (.inr (Nat.le_refl _)))
          have HX6 := hid (HX5.out.turned ht6 (.inl hwF))
          have HB6 := hid (below_turned HB5.out ht6 (by omega))
          have hz6 := ht6.size
          clear ht6 hnx hk6 hbx5
          go_wp2
          go_roundw
          case rel => exact ⟨t + 1, by omega, .inl ⟨rfl, hN1, HK6.out⟩, HO6.out.monoE hz6, HX6.out, HB6.out, by omega⟩
          case measure => simp [msB]; omega
      · have htk : A.take t = A := List.take_of_length_le (by rw [HNe.out]; omega)
        rw [htk] at HOt ⊢
        clear htk
        go_wp2
        go_ret2
        exact ⟨_, ret_vbA HO.out.symm, by rw [HN.out]; exact HOt.out.monoBR (by omega), HL.out, HBt.out⟩
end Go.Proofs.Ytgepbekdgocnpab
