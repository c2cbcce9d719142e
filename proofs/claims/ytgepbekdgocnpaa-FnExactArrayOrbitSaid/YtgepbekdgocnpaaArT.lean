/- Arrays in the model: one toggle, rowmotion, IsArray, RangeAt, ToggleNumber, ToggleNumbers, RowArray and its like. -/
import Derived.Test.YtgepbekdgocnpaaArS
import Derived.Test.YtgepbekdgocnpaaTg2
import Derived.Test.YtgepbekdgocnpaaTg3
namespace Go.Proofs.Ytgepbekdgocnpaa
open Go.RowKit Go.WideShapes Go.ChangeShapes
set_option linter.unusedVariables false

theorem ret_vbA {u : Value} {a b : Bool} (h : a = b) : Ending.returned (.tuple #[u, .bool a]) = .returned (.tuple #[u, .bool b]) := by rw [h]
theorem pcIs_any (v u : Value) (xs f : List Int) (b : Int) (w : World) (hv : Ints w v xs) (hu : Ints w u f) (hl : xs.length ≤ 1048576) (hm : f.length ≤ 1048576) :
    Calls Try.prog 45 #[.agg #[v], u, .int .i64 b] w fun r w' => r = .returned (.bool (okAr xs f b)) ∧ Below w.heap.size w w' := by
  have HV := hid hv
  have HU := hid hu
  obtain ⟨A, c, rfl, -⟩ := hv
  obtain ⟨B, d, rfl, -⟩ := hu
  cases hg : good xs
  · have HG := hid hg
    have HI := hid (okIA_no1 (f := f) (b := b) hg)
    have HO := hid (okAr_no HI.out)
    clear hg
    go_enter Try.func45, Try.ntmps45
    have HB := hid (below_alloc (Below.refl _ w) (.cells #[(.slice A xs.length c)] 28))
    have A0 := hid (At.newAt w (.slice A xs.length c) 28 w.heap.size (by simp))
    go_wp2_with fail
    refine (poGood_any _ xs _ (HV.out.below HB.out) hl).mono ?_
    rw [HG.out]
    rintro e w' ⟨rfl, hb⟩
    replace HB := hid (below_to HB.out hb)
    replace A0 := hid (A0.out.below hb)
    clear hb
    have ebox0 := A0.out.1
    go_wp2
    go_ret
    exact ⟨ret_bool HO.out.symm, HB.out⟩
  cases hb : hiB b
  · have HG := hid hg
    have HD := hid hb
    have HI := hid (okIA_no2 (xs := xs) (f := f) hb)
    have HO := hid (okAr_no HI.out)
    clear hg hb
    go_enter Try.func45, Try.ntmps45
    have HB := hid (below_alloc (Below.refl _ w) (.cells #[(.slice A xs.length c)] 28))
    have A0 := hid (At.newAt w (.slice A xs.length c) 28 w.heap.size (by simp))
    go_wp2_with fail
    refine (poGood_any _ xs _ (HV.out.below HB.out) hl).mono ?_
    rw [HG.out]
    rintro e w' ⟨rfl, hb⟩
    replace HB := hid (below_to HB.out hb)
    replace A0 := hid (A0.out.below hb)
    clear hb
    go_wp2_with (go_at_call 40; refine (pcBound_any b _).mono ?_; rw [HD.out]; rintro e w' ⟨rfl, rfl⟩)
    go_ret
    exact ⟨ret_bool HO.out.symm, HB.out⟩
  by_cases hn : f.length = xs.length
  · have HG := hid hg
    have HD := hid hb
    have HI := hid (okIA_yes hg hb hn)
    have HO := hid (okAr_lab HI.out)
    have heq : ((f.length : Int) == (xs.length : Int)) = true := by rw [beq_iff_eq]; omega
    have hne : ((f.length : Int) != (xs.length : Int)) = false := by rw [bne_eq_false_iff_eq]; omega
    obtain ⟨h1, h2⟩ := hiB_all hb
    obtain ⟨m, rfl⟩ := Int.eq_ofNat_of_zero_le h1
    have HLa := hid (fun W hW hU => pcRises_any (.slice A xs.length c) (.slice B f.length d) xs f m W hW hU hg hn (by omega))
    clear hg hb h1 h2 hn
    go_enter Try.func45, Try.ntmps45
    have HB := hid (below_alloc (Below.refl _ w) (.cells #[(.slice A xs.length c)] 28))
    have A0 := hid (At.newAt w (.slice A xs.length c) 28 w.heap.size (by simp))
    go_wp2_with fail
    refine (poGood_any _ xs _ (HV.out.below HB.out) hl).mono ?_
    rw [HG.out]
    rintro e w' ⟨rfl, hb⟩
    replace HB := hid (below_to HB.out hb)
    replace A0 := hid (A0.out.below hb)
    clear hb
    have ebox0 := A0.out.1
    go_wp2_with (first | (go_at_call 40; refine (pcBound_any _ _).mono ?_; rw [HD.out]; rintro e w' ⟨rfl, rfl⟩) | fail)
    clear ebox0
    refine (HLa.out _ (HV.out.below HB.out) (HU.out.below HB.out)).mono ?_
    rintro e w1 ⟨rfl, hb⟩
    replace HB := hid (below_to HB.out hb)
    clear hb heq hne
    go_wp2
    go_ret
    exact ⟨ret_bool HO.out.symm, HB.out⟩
  · have HG := hid hg
    have HD := hid hb
    have HI := hid (okIA_no3 (b := b) hn)
    have HO := hid (okAr_no HI.out)
    have heq : ((f.length : Int) == (xs.length : Int)) = false := by rw [beq_eq_false_iff_ne]; omega
    have hne : ((f.length : Int) != (xs.length : Int)) = true := by rw [bne_iff_ne]; omega
    clear hg hb hn
    go_enter Try.func45, Try.ntmps45
    have HB := hid (below_alloc (Below.refl _ w) (.cells #[(.slice A xs.length c)] 28))
    have A0 := hid (At.newAt w (.slice A xs.length c) 28 w.heap.size (by simp))
    go_wp2_with fail
    refine (poGood_any _ xs _ (HV.out.below HB.out) hl).mono ?_
    rw [HG.out]
    rintro e w' ⟨rfl, hb⟩
    replace HB := hid (below_to HB.out hb)
    replace A0 := hid (A0.out.below hb)
    clear hb
    have ebox0 := A0.out.1
    go_wp2_with (go_at_call 40; refine (pcBound_any b _).mono ?_; rw [HD.out]; rintro e w' ⟨rfl, rfl⟩)
    go_ret
    exact ⟨ret_bool HO.out.symm, HB.out⟩
theorem specIsArray_any (v : Value) (xs : List Int) (u : Value) (f : List Int) (b : Int) (w : World) (hv : Ints w v xs) (hl : xs.length ≤ 1048576) (hu : Ints w u f) (hm : f.length ≤ 1048576) (wf : (Lit.int .i64 b).wf = true) :
    Calls Try.prog 12 #[.agg #[v], u, .int .i64 b] w fun r w' => r = .returned (.tuple #[.bool (okAr xs f b), .bool (okIA xs f b)]) ∧ Below w.heap.size w w' := by
  have HV := hid hv
  have HU := hid hu
  obtain ⟨A, c, rfl, -⟩ := hv
  obtain ⟨B, d, rfl, -⟩ := hu
  cases hg : good xs
  · have HG := hid hg
    have HI := hid (okIA_no1 (f := f) (b := b) hg)
    have HO := hid (okAr_no HI.out)
    clear hg
    go_enter Try.func12, Try.ntmps12
    have HB := hid (below_alloc (Below.refl _ w) (.cells #[(.slice A xs.length c)] 28))
    have A0 := hid (At.newAt w (.slice A xs.length c) 28 w.heap.size (by simp))
    go_wp2_with fail
    refine (poGood_any _ xs _ (HV.out.below HB.out) hl).mono ?_
    rw [HG.out]
    rintro e w' ⟨rfl, hb⟩
    replace HB := hid (below_to HB.out hb)
    replace A0 := hid (A0.out.below hb)
    clear hb
    have ebox0 := A0.out.1
    go_wp2
    go_ret2
    exact ⟨ret_bb HO.out.symm HI.out.symm, HB.out⟩
  cases hb : hiB b
  · have HG := hid hg
    have HD := hid hb
    have HI := hid (okIA_no2 (xs := xs) (f := f) hb)
    have HO := hid (okAr_no HI.out)
    clear hg hb
    go_enter Try.func12, Try.ntmps12
    have HB := hid (below_alloc (Below.refl _ w) (.cells #[(.slice A xs.length c)] 28))
    have A0 := hid (At.newAt w (.slice A xs.length c) 28 w.heap.size (by simp))
    go_wp2_with fail
    refine (poGood_any _ xs _ (HV.out.below HB.out) hl).mono ?_
    rw [HG.out]
    rintro e w' ⟨rfl, hb⟩
    replace HB := hid (below_to HB.out hb)
    replace A0 := hid (A0.out.below hb)
    clear hb
    go_wp2_with (go_at_call 40; refine (pcBound_any b _).mono ?_; rw [HD.out]; rintro e w' ⟨rfl, rfl⟩)
    go_ret2
    exact ⟨ret_bb HO.out.symm HI.out.symm, HB.out⟩
  by_cases hn : f.length = xs.length
  · have HG := hid hg
    have HD := hid hb
    have HI := hid (okIA_yes hg hb hn)
    have HO := hid (okAr_lab HI.out)
    have heq : ((f.length : Int) == (xs.length : Int)) = true := by rw [beq_iff_eq]; omega
    have hne : ((f.length : Int) != (xs.length : Int)) = false := by rw [bne_eq_false_iff_eq]; omega
    obtain ⟨h1, h2⟩ := hiB_all hb
    obtain ⟨m, rfl⟩ := Int.eq_ofNat_of_zero_le h1
    have HLa := hid (fun W hW hU => pcRises_any (.slice A xs.length c) (.slice B f.length d) xs f m W hW hU hg hn (by omega))
    clear hg hb h1 h2 hn
    go_enter Try.func12, Try.ntmps12
    have HB := hid (below_alloc (Below.refl _ w) (.cells #[(.slice A xs.length c)] 28))
    have A0 := hid (At.newAt w (.slice A xs.length c) 28 w.heap.size (by simp))
    go_wp2_with fail
    refine (poGood_any _ xs _ (HV.out.below HB.out) hl).mono ?_
    rw [HG.out]
    rintro e w' ⟨rfl, hb⟩
    replace HB := hid (below_to HB.out hb)
    replace A0 := hid (A0.out.below hb)
    clear hb
    have ebox0 := A0.out.1
    go_wp2_with (first | (go_at_call 40; refine (pcBound_any _ _).mono ?_; rw [HD.out]; rintro e w' ⟨rfl, rfl⟩) | fail)
    clear ebox0
    refine (HLa.out _ (HV.out.below HB.out) (HU.out.below HB.out)).mono ?_
    rintro e w1 ⟨rfl, hb⟩
    replace HB := hid (below_to HB.out hb)
    clear hb heq hne
    go_wp2
    go_ret2
    exact ⟨ret_bb HO.out.symm HI.out.symm, HB.out⟩
  · have HG := hid hg
    have HD := hid hb
    have HI := hid (okIA_no3 (b := b) hn)
    have HO := hid (okAr_no HI.out)
    have heq : ((f.length : Int) == (xs.length : Int)) = false := by rw [beq_eq_false_iff_ne]; omega
    have hne : ((f.length : Int) != (xs.length : Int)) = true := by rw [bne_iff_ne]; omega
    clear hg hb hn
    go_enter Try.func12, Try.ntmps12
    have HB := hid (below_alloc (Below.refl _ w) (.cells #[(.slice A xs.length c)] 28))
    have A0 := hid (At.newAt w (.slice A xs.length c) 28 w.heap.size (by simp))
    go_wp2_with fail
    refine (poGood_any _ xs _ (HV.out.below HB.out) hl).mono ?_
    rw [HG.out]
    rintro e w' ⟨rfl, hb⟩
    replace HB := hid (below_to HB.out hb)
    replace A0 := hid (A0.out.below hb)
    clear hb
    have ebox0 := A0.out.1
    go_wp2_with (go_at_call 40; refine (pcBound_any b _).mono ?_; rw [HD.out]; rintro e w' ⟨rfl, rfl⟩)
    go_ret2
    exact ⟨ret_bb HO.out.symm HI.out.symm, HB.out⟩
set_option maxHeartbeats 800000 in
theorem pcAt_any (v u : Value) (xs f : List Int) (b : Int) (e : Nat) (w : World) (hv : Ints w v xs) (hu : Ints w u f) (hg : good xs = true) (hr : Rise xs f b) (b0 : 0 ≤ b) (b1 : b ≤ 20) (he : e < xs.length) :
    Calls Try.prog 51 #[.agg #[v], u, .int .i64 b, .int .i64 e] w fun (r : Ending) w' => ∃ q, r = Ending.returned q ∧ OwnI 3 w' w.heap.size q (pT xs b f e) ∧ Below w.heap.size w w' := by
  have HV := hid hv
  have HU := hid hu
  have hl10 := (good_length hg).2
  have hfl := hr.len
  have HRg := hid (fun W hW hU => pcRange_any v u xs f b e W hW hU hg hr.len he)
  have hlo := hr.lo he (Nat.le_refl _)
  have hhi := hr.hi he (Nat.le_refl _)
  have HY := hid (show pT xs b f e = f.set e (loN xs f e xs.length + hiN xs f b e xs.length - f.getD e 0) from rfl)
  obtain ⟨lo, hlo'⟩ : ∃ lo, loN xs f e xs.length = lo := ⟨_, rfl⟩
  obtain ⟨hi, hhi'⟩ : ∃ hi, hiN xs f b e xs.length = hi := ⟨_, rfl⟩
  obtain ⟨x, hx⟩ : ∃ x, f.getD e 0 = x := ⟨_, rfl⟩
  have HX := hid hx
  rw [hlo', hhi'] at HRg
  rw [hlo'] at hlo
  rw [hhi'] at hhi
  rw [hlo', hhi', hx] at HY
  rw [hx] at hlo hhi
  have hef : e < f.length := by omega
  have HE := hid hef
  have hfm : f.length ≤ 1048576 := by omega
  have HOw := hid (fun W hW => l1OwnA_any u f W hW hfm)
  obtain ⟨B, d, rfl, hB⟩ := hu
  obtain ⟨fb, fo, rfl, hbl, hc⟩ := hB (by intro h; rw [h] at hef; simp at hef)
  have HC := hid (hc e hef)
  rw [hx] at HC
  have hw1 : IntKind.i64.wrap (lo + hi) = lo + hi := IntWalk.i64_in _ (by omega)
  have hw2 : IntKind.i64.wrap (lo + hi - x) = lo + hi - x := IntWalk.i64_in _ (by omega)
  have Hw1 := hid hw1
  have Hw2 := hid hw2
  obtain ⟨n, hn⟩ : ∃ n, f.length = n := ⟨_, rfl⟩
  have HN := hid hn
  rw [hn] at HU HRg HOw hef ⊢
  clear hv hB hc hg hr hfl hlo' hhi' hx hw1 hw2 hn he
  go_enter Try.func51, Try.ntmps51
  have HB := hid (below_alloc (Below.refl _ w) (.cells #[v] 28))
  have A0 := hid (At.newAt w v 28 w.heap.size (by simp))
  go_wp2_with fail
  refine (HRg.out _ (HV.out.below HB.out) (HU.out.below HB.out)).mono ?_
  rintro e w' ⟨rfl, hb⟩
  replace HB := hid (below_to HB.out hb)
  replace A0 := hid (A0.out.below hb)
  clear hb
  go_wp2_with fail
  refine (HOw.out _ (HU.out.below HB.out)).mono ?_
  rintro e' w2 ⟨q, rfl, ho, hb⟩
  have HO := hid ho
  have HCw := hid ((HB.out.cell (p := ⟨fb, fo + e, none⟩) hbl).trans HC.out)
  have HC2 := hid ((hb.cell (p := ⟨fb, fo + e, none⟩) (Nat.lt_of_lt_of_le hbl HB.out.size)).trans HCw.out)
  have hwB := HB.out.size
  replace HB := hid (below_to HB.out hb)
  obtain ⟨g, cc, rfl, hg1, hg2⟩ := ho.blockA (by have := HE.out; omega)
  obtain ⟨hc1, hc2⟩ := ho.cellA HE.out
  rw [HX.out] at hc1
  rw [HN.out] at HO ⊢
  have hc3 := HC2.out
  have hw1 := Hw1.out
  have hw2 := Hw2.out
  have hgw : w.heap.size ≤ g := by omega
  clear hb ho
  go_wp2
  clear hw1 hw2
  go_ret
  exact ⟨_, rfl, by rw [HY.out]; exact (HO.out.storedA e _).mono hwB, HB.out.setCell (p := ⟨g, e, none⟩) hgw _⟩
end Go.Proofs.Ytgepbekdgocnpaa
