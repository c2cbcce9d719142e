/- RankLabels of the program. -/
import Derived.Test.YteaeeinfjhhhoabLbY
import Derived.Test.YteaeeinfjhhhoabRkS
namespace Go.Proofs.Yteaeeinfjhhhoab
open Go.RowKit Go.WideShapes Go.ChangeShapes
set_option linter.unusedVariables false

theorem labClosure_any (y : Value) (l : List Int) (u : Value) (f : List Int) (a : Nat) (w : World) (hy : Ints w y l) (h1 : At w a u) (hu : Ints w u f) (hf : f.length ≤ 1048576) :
    Calls Try.prog 64 #[y, .pointer (some ⟨a, 0, none⟩)] w fun r w' => r = .returned (.bool (sameL f l)) ∧ Below w.heap.size w w' := by
  have hbox := h1.1
  have HE := hid (equalL_any u y f l w hu hy hf)
  clear h1
  go_enter Try.func64, Try.ntmps64
  go_wp2_with fail
  clear hbox
  refine HE.out.mono ?_
  rintro e w' ⟨rfl, hb⟩
  have HB := hid hb
  clear hb
  go_wp2
  go_ret
  exact ⟨rfl, HB.out⟩
set_option maxHeartbeats 800000 in
theorem indexLab_any (v : Value) (ls : List (List Int)) (u : Value) (f : List Int) (a R : Nat) (w : World) (hv : IntsSS w v ls) (hl : ls.length ≤ 1048576) (h1 : At w a u) (hu : Ints w u f) (hf : f.length ≤ 1048576) (hR : R < ls.length) (hat : ls.getD R [] = f) (hne : ∀ j, j < ls.length → j ≠ R → ls.getD j [] ≠ f) :
    Calls Try.prog 63 #[v, .func (.func 64) #[] #[.pointer (some ⟨a, 0, none⟩)]] w fun (r : Ending) w' => r = Ending.returned (.int .i64 R) ∧ Below w.heap.size w w' := by
  have H1 := hid h1
  have HU := hid hu
  have HAt := hid hat
  have HNe := hid hne
  obtain ⟨A, c, rfl, hA⟩ := hv
  have HA := hid hA
  clear hA h1 hat hne
  obtain ⟨N, hN⟩ : ∃ N, ls.length = N := ⟨_, rfl⟩
  rw [hN] at HA HNe hR hl ⊢
  clear hN
  go_enter Try.func63, Try.ntmps63
  go_wp2
  go_loopw [8] (fun i wr => ∃ k : Nat, k ≤ R ∧ i = .int .i64 k ∧ Below w.heap.size w wr) (fun i _ => N - (intOf i).toNat)
  case atStart => exact ⟨0, Nat.zero_le _, rfl, Below.refl _ _⟩
  case round =>
    obtain ⟨k, hk, rfl, hb⟩ := hrel
    have HB := hid hb
    clear hb
    have hlt : k < N := by omega
    obtain ⟨bb, o, y, rfl, hbl, hc, hi⟩ := HA.out k hlt
    have hcell := (HB.out.cell (p := ⟨bb, o + k, none⟩) hbl).trans hc
    have HI := hid (hi.below HB.out)
    have HU2 := hid (HU.out.below HB.out)
    have H2 := hid (H1.out.below HB.out)
    clear hi hc
    by_cases hkR : k = R
    · subst hkR
      have HS : Hid (sameL f (ls.getD k []) = true) := hid (by unfold sameL; exact decide_eq_true HAt.out.symm)
      go_wp2_with fail
      clear hcell
      refine (labClosure_any _ (ls.getD k []) u f a _ HI.out H2.out HU2.out hf).mono ?_
      rw [HS.out]
      rintro e w' ⟨rfl, hb⟩
      have HB3 := hid (below_to HB.out hb)
      clear hb
      go_wp2
      go_ret
      exact ⟨rfl, HB3.out⟩
    · have HS : Hid (sameL f (ls.getD k []) = false) := hid (by unfold sameL; exact decide_eq_false (fun e => HNe.out k hlt hkR e.symm))
      go_wp2_with fail
      clear hcell
      refine (labClosure_any _ (ls.getD k []) u f a _ HI.out H2.out HU2.out hf).mono ?_
      rw [HS.out]
      rintro e w' ⟨rfl, hb⟩
      have HB3 := hid (below_to HB.out hb)
      clear hb
      go_wp2
      go_roundw
      case rel => exact ⟨k + 1, by omega, by go_num, HB3.out⟩
      case measure => simp [intOf]; omega
set_option maxHeartbeats 800000 in
theorem implRankLabels_any (v : Value) (xs : List Int) (u : Value) (f : List Int) (m : Int) (w : World) (hv : Ints w v xs) (hl : xs.length ≤ 1048576) (hu : Ints w u f) (hm : f.length ≤ 1048576) (wf : (Lit.int .i64 m).wf = true) :
    Calls Try.prog 31 #[.agg #[v], u, .int .i64 m] w fun r w' => r = .returned (.tuple #[.int .i64 (ansRK6 xs f m), .bool (rkB xs f m)]) ∧ Below w.heap.size w w' := by
  have HV := hid hv
  have HU := hid hu
  obtain ⟨B, d, rfl, -⟩ := hu
  clear hv wf
  have HHas := hid (fun W hW hW2 => hasLabels_any v (.slice B f.length d) xs f m W hW hW2 hl hm)
  cases hb : okLab xs f m 0
  · have HO : Hid (rkB xs f m = false) := hid (by
      cases e : rkB xs f m
      · rfl
      · simp only [rkB, fewB, Bool.and_eq_true] at e
        rw [okLab, e.1.1, e.2] at hb; exact absurd hb (by simp))
    have HN := hid (ansRK6_no HO.out)
    rw [hb] at HHas
    clear hb
    go_enter Try.func31, Try.ntmps31
    have HB := hid (below_alloc (below_alloc (Below.refl _ w) (.cells #[v] 28)) (.cells #[(.slice B f.length d)] 22))
    have A0 := hid ((At.newAt w v 28 w.heap.size (by simp)).alloc (.cells #[(.slice B f.length d)] 22))
    have A1 := hid (At.newAt (w.alloc (.cells #[v] 28)) (.slice B f.length d) 22 (w.heap.size + 1) (by simp))
    have ebox0 := A0.out.1
    have ebox1 := A1.out.1
    go_wp2_with fail
    clear ebox0 ebox1
    with_reducible refine (HHas.out _ (HV.out.below HB.out) (HU.out.below HB.out)).mono ?_
    rintro e w' ⟨rfl, hb⟩
    replace HB := hid (below_to HB.out hb)
    clear hb
    go_wp2
    go_ret2
    exact ⟨ret_ibR HN.out.symm HO.out.symm, HB.out⟩
  obtain ⟨hg, h1, h2, h3, h4⟩ := okLab_all hb
  have hbd : okBd xs m = true := by
    cases e : okBd xs m
    · rw [okLab, e] at hb; exact absurd hb (by simp)
    · rfl
  have hlb : labB xs f m 0 = true := by rw [okLab, hbd] at hb; exact hb
  obtain ⟨M, rfl⟩ := Int.eq_ofNat_of_zero_le h1
  have HAll := hid (fun W hW => allLabels_any v xs M W hW hg (by omega))
  have hFe := fewB_yes hbd
  rw [hb] at HHas
  by_cases hN : (allF xs M).length ≤ 1000
  · have HO : Hid (rkB xs f M = true) := hid (by rw [rkB, hFe, hlb, decide_eq_true hN]; rfl)
    have HNa := hid (ansRK6_yes HO.out)
    obtain ⟨hp1, hp2, hp3⟩ := rk_place HO.out
    rw [decide_eq_true hN, if_pos hN] at HAll
    obtain ⟨A, hA⟩ : ∃ A, allF xs M = A := ⟨_, rfl⟩
    rw [hA] at HAll hN hp1 hp2 hp3 HNa
    obtain ⟨R, hR⟩ : ∃ R, ixF f A = R := ⟨_, rfl⟩
    rw [hR] at hp1 hp2 hp3 HNa
    have HP2 := hid hp2
    have HP3 := hid hp3
    clear hb hbd hlb hFe hA hR hp2 hp3 hg h1 h3 h4
    go_enter Try.func31, Try.ntmps31
    have HB := hid (below_alloc (below_alloc (Below.refl _ w) (.cells #[v] 28)) (.cells #[(.slice B f.length d)] 22))
    have A0 := hid ((At.newAt w v 28 w.heap.size (by simp)).alloc (.cells #[(.slice B f.length d)] 22))
    have A1 := hid (At.newAt (w.alloc (.cells #[v] 28)) (.slice B f.length d) 22 (w.heap.size + 1) (by simp))
    have ebox0 := A0.out.1
    have ebox1 := A1.out.1
    go_wp2_with fail
    clear ebox0 ebox1
    with_reducible refine (HHas.out _ (HV.out.below HB.out) (HU.out.below HB.out)).mono ?_
    rintro e w1 ⟨rfl, hb⟩
    replace HB := hid (below_to HB.out hb)
    replace A0 := hid (A0.out.below hb)
    replace A1 := hid (A1.out.below hb)
    clear hb
    have ebox0 := A0.out.1
    go_wp2_with fail
    clear ebox0
    refine (HAll.out _ (HV.out.below HB.out)).mono ?_
    rintro e w2 ⟨q, rfl, ho, hb⟩
    replace HB := hid (below_to HB.out hb)
    replace A1 := hid (A1.out.below hb)
    have HSS := hid ho.ints
    have HIx := hid (indexLab_any q A (.slice B f.length d) f (w.heap.size + 1) R w2 HSS.out (by omega) A1.out (HU.out.below HB.out) hm hp1 HP2.out HP3.out)
    clear ho hb
    go_wp2_with fail
    refine HIx.out.mono ?_
    rintro e w3 ⟨rfl, hb⟩
    replace HB := hid (below_to HB.out hb)
    clear hb
    go_wp2
    go_ret2
    exact ⟨ret_ibR HNa.out.symm HO.out.symm, HB.out⟩
  · have HO : Hid (rkB xs f M = false) := hid (by rw [rkB, hFe, decide_eq_false hN]; rfl)
    have HNa := hid (ansRK6_no HO.out)
    rw [decide_eq_false hN, if_neg hN] at HAll
    clear hb hbd hlb hFe hg h1 h3 h4
    go_enter Try.func31, Try.ntmps31
    have HB := hid (below_alloc (below_alloc (Below.refl _ w) (.cells #[v] 28)) (.cells #[(.slice B f.length d)] 22))
    have A0 := hid ((At.newAt w v 28 w.heap.size (by simp)).alloc (.cells #[(.slice B f.length d)] 22))
    have A1 := hid (At.newAt (w.alloc (.cells #[v] 28)) (.slice B f.length d) 22 (w.heap.size + 1) (by simp))
    have ebox0 := A0.out.1
    have ebox1 := A1.out.1
    go_wp2_with fail
    clear ebox0 ebox1
    with_reducible refine (HHas.out _ (HV.out.below HB.out) (HU.out.below HB.out)).mono ?_
    rintro e w1 ⟨rfl, hb⟩
    replace HB := hid (below_to HB.out hb)
    replace A0 := hid (A0.out.below hb)
    clear hb
    have ebox0 := A0.out.1
    go_wp2_with fail
    clear ebox0
    refine (HAll.out _ (HV.out.below HB.out)).mono ?_
    rintro e w2 ⟨q, rfl, ho, hb⟩
    replace HB := hid (below_to HB.out hb)
    obtain ⟨qA, qc, rfl, -⟩ := ho.rows
    clear ho hb
    go_wp2
    go_ret2
    exact ⟨ret_ibR HNa.out.symm HO.out.symm, HB.out⟩
end Go.Proofs.Yteaeeinfjhhhoab
