/- Arrays in the model: one toggle, rowmotion, IsArray, RangeAt, ToggleNumber, ToggleNumbers, RowArray and its like. -/
import Derived.Test.YtgepbekdgocnpabArS
import Derived.Test.YtgepbekdgocnpabTg2
import Derived.Test.YtgepbekdgocnpabTg3
namespace Go.Proofs.Ytgepbekdgocnpab
open Go.RowKit Go.WideShapes Go.ChangeShapes
set_option linter.unusedVariables false

theorem ret_vbA {u : Value} {a b : Bool} (h : a = b) : Ending.returned (.tuple #[u, .bool a]) = .returned (.tuple #[u, .bool b]) := by rw [h]
theorem pcIs_any (v u : Value) (xs f : List Int) (b : Int) (w : World) (hv : Ints w v xs) (hu : Ints w u f) (hl : xs.length ≤ 1048576) (hm : f.length ≤ 1048576) :
    Calls Try.prog 42 #[.agg #[v], u, .int .i64 b] w fun r w' => r = .returned (.bool (okAr xs f b)) ∧ Below w.heap.size w w' := by
  have HV := hid hv
  have HU := hid hu
  obtain ⟨A, c, rfl, -⟩ := hv
  obtain ⟨B, d, rfl, -⟩ := hu
  cases hg : good xs
  · have HG := hid hg
    have HI := hid (okIA_no1 (f := f) (b := b) hg)
    have HO := hid (okAr_no HI.out)
    clear hg
    go_enter Try.func42, Try.ntmps42
    have HB := hid (below_alloc (Below.refl _ w) (.cells #[(.slice A xs.length c)] 28))
    have A0 := hid (At.newAt w (.slice A xs.length c) 28 w.heap.size (by simp))
    go_wp2_with fail
    refine (poGood_any _ xs _ (HV.out.below HB.out) hl).mono ?_
    rw [HG.out]
    rintro e w' ⟨rfl, hb⟩
    replace HB := hid (below_to HB.out hb)
    replace A0 := hid (A0.out.below hb)
    clear hb
    have ebox0 := A0.out.1
    go_wp2
    go_ret
    exact ⟨ret_bool HO.out.symm, HB.out⟩
  cases hb : hiB b
  · have HG := hid hg
    have HD := hid hb
    have HI := hid (okIA_no2 (xs := xs) (f := f) hb)
    have HO := hid (okAr_no HI.out)
    clear hg hb
    go_enter Try.func42, Try.ntmps42
    have HB := hid (below_alloc (Below.refl _ w) (.cells #[(.slice A xs.length c)] 28))
    have A0 := hid (At.newAt w (.slice A xs.length c) 28 w.heap.size (by simp))
    go_wp2_with fail
    refine (poGood_any _ xs _ (HV.out.below HB.out) hl).mono ?_
    rw [HG.out]
    rintro e w' ⟨rfl, hb⟩
    replace HB := hid (below_to HB.out hb)
    replace A0 := hid (A0.out.below hb)
    clear hb
    go_wp2_with (go_at_call 37; refine (pcBound_any b _).mono ?_; rw [HD.out]; rintro e w' ⟨rfl, rfl⟩)
    go_ret
    exact ⟨ret_bool HO.out.symm, HB.out⟩
  by_cases hn : f.length = xs.length
  · have HG := hid hg
    have HD := hid hb
    have HI := hid (okIA_yes hg hb hn)
    have HO := hid (okAr_lab HI.out)
    have heq : ((f.length : Int) == (xs.length : Int)) = true := by rw [beq_iff_eq]; omega
    have hne : ((f.length : Int) != (xs.length : Int)) = false := by rw [bne_eq_false_iff_eq]; omega
    obtain ⟨h1, h2⟩ := hiB_all hb
    obtain ⟨m, rfl⟩ := Int.eq_ofNat_of_zero_le h1
    have HLa := hid (fun W hW hU => pcRises_any (.slice A xs.length c) (.slice B f.length d) xs f m W hW hU hg hn (by omega))
    clear hg hb h1 h2 hn
    go_enter Try.func42, Try.ntmps42
    have HB := hid (below_alloc (Below.refl _ w) (.cells #[(.slice A xs.length c)] 28))
    have A0 := hid (At.newAt w (.slice A xs.length c) 28 w.heap.size (by simp))
    go_wp2_with fail
    refine (poGood_any _ xs _ (HV.out.below HB.out) hl).mono ?_
    rw [HG.out]
    rintro e w' ⟨rfl, hb⟩
    replace HB := hid (below_to HB.out hb)
    replace A0 := hid (A0.out.below hb)
    clear hb
    have ebox0 := A0.out.1
    go_wp2_with (first | (go_at_call 37; refine (pcBound_any _ _).mono ?_; rw [HD.out]; rintro e w' ⟨rfl, rfl⟩) | fail)
    clear ebox0
    refine (HLa.out _ (HV.out.below HB.out) (HU.out.below HB.out)).mono ?_
    rintro e w1 ⟨rfl, hb⟩
    replace HB := hid (below_to HB.out hb)
    clear hb heq hne
    go_wp2
    go_ret
    exact ⟨ret_bool HO.out.symm, HB.out⟩
  · have HG := hid hg
    have HD := hid hb
    have HI := hid (okIA_no3 (b := b) hn)
    have HO := hid (okAr_no HI.out)
    have heq : ((f.length : Int) == (xs.length : Int)) = false := by rw [beq_eq_false_iff_ne]; omega
    have hne : ((f.length : Int) != (xs.length : Int)) = true := by rw [bne_iff_ne]; omega
    clear hg hb hn
    go_enter Try.func42, Try.ntmps42
    have HB := hid (below_alloc (Below.refl _ w) (.cells #[(.slice A xs.length c)] 28))
    have A0 := hid (At.newAt w (.slice A xs.length c) 28 w.heap.size (by simp))
    go_wp2_with fail
    refine (poGood_any _ xs _ (HV.out.below HB.out) hl).mono ?_
    rw [HG.out]
    rintro e w' ⟨rfl, hb⟩
    replace HB := hid (below_to HB.out hb)
    replace A0 := hid (A0.out.below hb)
    clear hb
    have ebox0 := A0.out.1
    go_wp2_with (go_at_call 37; refine (pcBound_any b _).mono ?_; rw [HD.out]; rintro e w' ⟨rfl, rfl⟩)
    go_ret
    exact ⟨ret_bool HO.out.symm, HB.out⟩
end Go.Proofs.Ytgepbekdgocnpab
