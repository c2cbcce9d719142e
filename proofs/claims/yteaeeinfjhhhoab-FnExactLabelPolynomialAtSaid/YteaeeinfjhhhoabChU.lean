/- CountLabels and CountStrict of the model. -/
import Derived.Test.YteaeeinfjhhhoabChT
import Derived.Test.YteaeeinfjhhhoabApi
namespace Go.Proofs.Yteaeeinfjhhhoab
open Go.RowKit Go.WideShapes Go.ChangeShapes
set_option linter.unusedVariables false

def ansCN (xs : List Int) (b : Bool) (m : Int) : Int := if okBd xs m then ((cnt xs b (m.toNat + 1) (2 ^ xs.length - 1) : Nat) : Int) else 0
theorem ansCN_no {xs : List Int} {b : Bool} {m : Int} (h : okBd xs m = false) : ansCN xs b m = 0 := by simp [ansCN, h]
theorem ansCN_yes {xs : List Int} {b : Bool} {m : Nat} (h : okBd xs m = true) : ansCN xs b m = ((cnt xs b (m + 1) (2 ^ xs.length - 1) : Nat) : Int) := by
  unfold ansCN; rw [if_pos h, Int.toNat_natCast]
theorem specCountLabels_any (v : Value) (xs : List Int) (m : Int) (w : World) (hv : Ints w v xs) (hl : xs.length ≤ 1048576) (wf : (Lit.int .i64 m).wf = true) :
    Calls Try.prog 11 #[.agg #[v], .int .i64 m] w fun r w' => r = .returned (.tuple #[.int .i64 (ansCN xs false m), .bool (okBd xs m)]) ∧ Below w.heap.size w w' := by
  have HV := hid hv
  clear hv wf
  cases hg : good xs
  · have HG := hid hg
    have HO := hid (okBd_no1 (m := m) hg)
    have HN := hid (ansCN_no (b := false) HO.out)
    clear hg
    go_enter Try.func11, Try.ntmps11
    have HB := hid (below_alloc (Below.refl _ w) (.cells #[v] 28))
    have A0 := hid (At.newAt w v 28 w.heap.size (by simp))
    go_wp2_with fail
    refine (poGood_any _ xs _ (HV.out.below HB.out) hl).mono ?_
    rw [HG.out]
    rintro e w' ⟨rfl, hb⟩
    replace HB := hid (below_to HB.out hb)
    replace A0 := hid (A0.out.below hb)
    clear hb
    have ebox0 := A0.out.1
    go_wp2
    go_ret2
    exact ⟨ret_ib HN.out.symm HO.out.symm, HB.out⟩
  cases hb : bdB m
  · have HG := hid hg
    have HD := hid hb
    have HO := hid (okBd_no2 (xs := xs) hb)
    have HN := hid (ansCN_no (b := false) HO.out)
    clear hg hb
    go_enter Try.func11, Try.ntmps11
    have HB := hid (below_alloc (Below.refl _ w) (.cells #[v] 28))
    have A0 := hid (At.newAt w v 28 w.heap.size (by simp))
    go_wp2_with fail
    refine (poGood_any _ xs _ (HV.out.below HB.out) hl).mono ?_
    rw [HG.out]
    rintro e w' ⟨rfl, hb⟩
    replace HB := hid (below_to HB.out hb)
    replace A0 := hid (A0.out.below hb)
    clear hb
    go_wp2_with (go_at_call 34; refine (laBound_any m _).mono ?_; rw [HD.out]; rintro e w' ⟨rfl, rfl⟩)
    go_ret2
    exact ⟨ret_ib HN.out.symm HO.out.symm, HB.out⟩
  obtain ⟨h1, h2⟩ := bdB_all hb
  obtain ⟨M, rfl⟩ := Int.eq_ofNat_of_zero_le h1
  have HG := hid hg
  have HD := hid hb
  have HO := hid (okBd_yes hg hb)
  have HY := hid (ansCN_yes (b := false) HO.out)
  have HCh := hid (fun W hW => laChains_any v xs (M + 1) false W hW hg (by omega))
  obtain ⟨S, hS⟩ : ∃ S, M + 1 = S := ⟨_, rfl⟩
  have hMS : (M : Int) + 1 = (S : Int) := by omega
  have hSw : IntKind.i64.wrap (S : Int) = (S : Int) := IntWalk.i64_in _ (by omega)
  rw [hS] at HCh HY
  clear hg hb h1 hS
  go_enter Try.func11, Try.ntmps11
  have HB := hid (below_alloc (Below.refl _ w) (.cells #[v] 28))
  have A0 := hid (At.newAt w v 28 w.heap.size (by simp))
  go_wp2_with fail
  refine (poGood_any _ xs _ (HV.out.below HB.out) hl).mono ?_
  rw [HG.out]
  rintro e w' ⟨rfl, hb⟩
  replace HB := hid (below_to HB.out hb)
  replace A0 := hid (A0.out.below hb)
  clear hb
  have ebox0 := A0.out.1
  go_wp2_with (first | (go_at_call 34; refine (laBound_any _ _).mono ?_; rw [HD.out]; rintro e w' ⟨rfl, rfl⟩) | fail)
  clear ebox0
  with_reducible refine (HCh.out _ (HV.out.below HB.out)).mono ?_
  rintro e w1 ⟨rfl, hb⟩
  replace HB := hid (below_to HB.out hb)
  clear hb
  go_wp2
  go_ret2
  exact ⟨ret_ib HY.out.symm HO.out.symm, HB.out⟩
theorem specCountStrict_any (v : Value) (xs : List Int) (m : Int) (w : World) (hv : Ints w v xs) (hl : xs.length ≤ 1048576) (wf : (Lit.int .i64 m).wf = true) :
    Calls Try.prog 15 #[.agg #[v], .int .i64 m] w fun r w' => r = .returned (.tuple #[.int .i64 (ansCN xs true m), .bool (okBd xs m)]) ∧ Below w.heap.size w w' := by
  have HV := hid hv
  clear hv wf
  cases hg : good xs
  · have HG := hid hg
    have HO := hid (okBd_no1 (m := m) hg)
    have HN := hid (ansCN_no (b := true) HO.out)
    clear hg
    go_enter Try.func15, Try.ntmps15
    have HB := hid (below_alloc (Below.refl _ w) (.cells #[v] 28))
    have A0 := hid (At.newAt w v 28 w.heap.size (by simp))
    go_wp2_with fail
    refine (poGood_any _ xs _ (HV.out.below HB.out) hl).mono ?_
    rw [HG.out]
    rintro e w' ⟨rfl, hb⟩
    replace HB := hid (below_to HB.out hb)
    replace A0 := hid (A0.out.below hb)
    clear hb
    have ebox0 := A0.out.1
    go_wp2
    go_ret2
    exact ⟨ret_ib HN.out.symm HO.out.symm, HB.out⟩
  cases hb : bdB m
  · have HG := hid hg
    have HD := hid hb
    have HO := hid (okBd_no2 (xs := xs) hb)
    have HN := hid (ansCN_no (b := true) HO.out)
    clear hg hb
    go_enter Try.func15, Try.ntmps15
    have HB := hid (below_alloc (Below.refl _ w) (.cells #[v] 28))
    have A0 := hid (At.newAt w v 28 w.heap.size (by simp))
    go_wp2_with fail
    refine (poGood_any _ xs _ (HV.out.below HB.out) hl).mono ?_
    rw [HG.out]
    rintro e w' ⟨rfl, hb⟩
    replace HB := hid (below_to HB.out hb)
    replace A0 := hid (A0.out.below hb)
    clear hb
    go_wp2_with (go_at_call 34; refine (laBound_any m _).mono ?_; rw [HD.out]; rintro e w' ⟨rfl, rfl⟩)
    go_ret2
    exact ⟨ret_ib HN.out.symm HO.out.symm, HB.out⟩
  obtain ⟨h1, h2⟩ := bdB_all hb
  obtain ⟨M, rfl⟩ := Int.eq_ofNat_of_zero_le h1
  have HG := hid hg
  have HD := hid hb
  have HO := hid (okBd_yes hg hb)
  have HY := hid (ansCN_yes (b := true) HO.out)
  have HCh := hid (fun W hW => laChains_any v xs (M + 1) true W hW hg (by omega))
  obtain ⟨S, hS⟩ : ∃ S, M + 1 = S := ⟨_, rfl⟩
  have hMS : (M : Int) + 1 = (S : Int) := by omega
  have hSw : IntKind.i64.wrap (S : Int) = (S : Int) := IntWalk.i64_in _ (by omega)
  rw [hS] at HCh HY
  clear hg hb h1 hS
  go_enter Try.func15, Try.ntmps15
  have HB := hid (below_alloc (Below.refl _ w) (.cells #[v] 28))
  have A0 := hid (At.newAt w v 28 w.heap.size (by simp))
  go_wp2_with fail
  refine (poGood_any _ xs _ (HV.out.below HB.out) hl).mono ?_
  rw [HG.out]
  rintro e w' ⟨rfl, hb⟩
  replace HB := hid (below_to HB.out hb)
  replace A0 := hid (A0.out.below hb)
  clear hb
  have ebox0 := A0.out.1
  go_wp2_with (first | (go_at_call 34; refine (laBound_any _ _).mono ?_; rw [HD.out]; rintro e w' ⟨rfl, rfl⟩) | fail)
  clear ebox0
  with_reducible refine (HCh.out _ (HV.out.below HB.out)).mono ?_
  rintro e w1 ⟨rfl, hb⟩
  replace HB := hid (below_to HB.out hb)
  clear hb
  go_wp2
  go_ret2
  exact ⟨ret_ib HY.out.symm HO.out.symm, HB.out⟩
end Go.Proofs.Yteaeeinfjhhhoab
