/- LabelsWith of the model. -/
import Derived.Test.YteaeeinfjhhhoabChT
import Derived.Test.YteaeeinfjhhhoabLbS
import Derived.Test.YteaeeinfjhhhoabLabS
import Derived.Test.YteaeeinfjhhhoabApi
namespace Go.Proofs.Yteaeeinfjhhhoab
open Go.RowKit Go.WideShapes Go.ChangeShapes
set_option linter.unusedVariables false

theorem ret_vbW {u : Value} {a b : Bool} (h : a = b) : Ending.returned (.tuple #[u, .bool a]) = .returned (.tuple #[u, .bool b]) := by rw [h]
/-- are there at most a thousand labels? -/
def fewB (xs : List Int) (m : Int) : Bool := okBd xs m && decide ((allF xs m.toNat).length ≤ 1000)
theorem fewB_no {xs : List Int} {m : Int} (h : okBd xs m = false) : fewB xs m = false := by simp [fewB, h]
theorem fewB_yes {xs : List Int} {m : Nat} (h : okBd xs m = true) : fewB xs m = decide ((allF xs m).length ≤ 1000) := by simp [fewB, h]
theorem fewB_all {xs : List Int} {m : Int} (h : fewB xs m = true) : good xs = true ∧ ∃ M : Nat, m = M ∧ M ≤ 12 ∧ (allF xs M).length ≤ 1000 := by
  simp only [fewB, Bool.and_eq_true, decide_eq_true_eq] at h
  obtain ⟨h1, h2, h3⟩ := okBd_all h.1
  obtain ⟨M, rfl⟩ := Int.eq_ofNat_of_zero_le h2
  exact ⟨h1, M, rfl, by omega, by simpa using h.2⟩
/-- is there a labeling with that rank? -/
def lwB (xs : List Int) (m r : Int) : Bool := fewB xs m && (decide (0 ≤ r) && decide (r < (allF xs m.toNat).length))
def ansLW6 (xs : List Int) (m r : Int) : List Int := if lwB xs m r then (allF xs m.toNat).getD r.toNat [] else []
theorem lwB_no {xs : List Int} {m r : Int} (h : fewB xs m = false) : lwB xs m r = false := by simp [lwB, h]
theorem ansLW6_no {xs : List Int} {m r : Int} (h : lwB xs m r = false) : ansLW6 xs m r = [] := by simp [ansLW6, h]
theorem ansLW6_yes {xs : List Int} {m r : Nat} (h : lwB xs m r = true) : ansLW6 xs m r = (allF xs m).getD r [] := by
  unfold ansLW6; rw [if_pos h]; simp
theorem ansLW6_length (xs : List Int) (m r : Int) : (ansLW6 xs m r).length ≤ 1048576 := by
  cases h : lwB xs m r
  · rw [ansLW6_no h]; simp
  · simp only [lwB, Bool.and_eq_true, decide_eq_true_eq] at h
    obtain ⟨h1, M, rfl, h2, h3⟩ := fewB_all h.1
    obtain ⟨R, rfl⟩ := Int.eq_ofNat_of_zero_le h.2.1
    rw [ansLW6_yes (by simp only [lwB, Bool.and_eq_true, decide_eq_true_eq]; exact h)]
    have hm : (allF xs M).getD R [] ∈ lbF xs M xs.length [] := by
      have hlt : R < (allF xs M).length := by have := h.2.2; simp at this; omega
      have e : (allF xs M).getD R [] = (allF xs M)[R] := by simp [List.getD, hlt]
      rw [e]; exact List.getElem_mem hlt
    have := ((lbF_mem xs.length [] _).1 hm).1
    have h10 := (good_length h1).2
    have e0 : ([] : List Int).length = 0 := rfl
    omega
theorem laFew_any (v : Value) (xs : List Int) (m : Int) (w : World) (hv : Ints w v xs) (hl : xs.length ≤ 1048576) :
    Calls Try.prog 58 #[.agg #[v], .int .i64 m] w fun r w' => r = .returned (.bool (fewB xs m)) ∧ Below w.heap.size w w' := by
  have HV := hid hv
  clear hv
  cases hg : good xs
  · have HG := hid hg
    have HO := hid (fewB_no (okBd_no1 (m := m) hg))
    clear hg
    go_enter Try.func58, Try.ntmps58
    have HB := hid (below_alloc (Below.refl _ w) (.cells #[v] 28))
    have A0 := hid (At.newAt w v 28 w.heap.size (by simp))
    go_wp2_with fail
    refine (poGood_any _ xs _ (HV.out.below HB.out) hl).mono ?_
    rw [HG.out]
    rintro e w' ⟨rfl, hb⟩
    replace HB := hid (below_to HB.out hb)
    replace A0 := hid (A0.out.below hb)
    clear hb
    have ebox0 := A0.out.1
    go_wp2
    go_ret
    exact ⟨ret_bool HO.out.symm, HB.out⟩
  cases hb : bdB m
  · have HG := hid hg
    have HD := hid hb
    have HO := hid (fewB_no (okBd_no2 (xs := xs) hb))
    clear hg hb
    go_enter Try.func58, Try.ntmps58
    have HB := hid (below_alloc (Below.refl _ w) (.cells #[v] 28))
    have A0 := hid (At.newAt w v 28 w.heap.size (by simp))
    go_wp2_with fail
    refine (poGood_any _ xs _ (HV.out.below HB.out) hl).mono ?_
    rw [HG.out]
    rintro e w' ⟨rfl, hb⟩
    replace HB := hid (below_to HB.out hb)
    replace A0 := hid (A0.out.below hb)
    clear hb
    go_wp2_with (go_at_call 34; refine (laBound_any m _).mono ?_; rw [HD.out]; rintro e w' ⟨rfl, rfl⟩)
    go_ret
    exact ⟨ret_bool HO.out.symm, HB.out⟩
  obtain ⟨h1, h2⟩ := bdB_all hb
  obtain ⟨M, rfl⟩ := Int.eq_ofNat_of_zero_le h1
  have HG := hid hg
  have HD := hid hb
  have HO := hid (fewB_yes (okBd_yes hg hb))
  have HCh := hid (fun W hW => laChains_any v xs (M + 1) false W hW hg (by omega))
  have HCn := hid (all_count hg M)
  obtain ⟨S, hS⟩ : ∃ S, M + 1 = S := ⟨_, rfl⟩
  have hMS : (M : Int) + 1 = (S : Int) := by omega
  have hSw : IntKind.i64.wrap (S : Int) = (S : Int) := IntWalk.i64_in _ (by omega)
  rw [hS] at HCh HCn
  rw [← HCn.out] at HCh
  obtain ⟨N, hN⟩ : ∃ N, (allF xs M).length = N := ⟨_, rfl⟩
  rw [hN] at HCh HO
  have hde : decide ((N : Int) ≤ 1000) = decide (N ≤ 1000) := by
    by_cases e : N ≤ 1000
    · rw [decide_eq_true e, decide_eq_true (by omega)]
    · rw [decide_eq_false e, decide_eq_false (by omega)]
  obtain ⟨D, hD⟩ : ∃ D, decide ((N : Int) ≤ 1000) = D := ⟨_, rfl⟩
  have HDd : Hid (D = fewB xs M) := hid (by rw [HO.out, ← hde, hD])
  clear hg hb h1 hS hN hde
  go_enter Try.func58, Try.ntmps58
  have HB := hid (below_alloc (Below.refl _ w) (.cells #[v] 28))
  have A0 := hid (At.newAt w v 28 w.heap.size (by simp))
  go_wp2_with fail
  refine (poGood_any _ xs _ (HV.out.below HB.out) hl).mono ?_
  rw [HG.out]
  rintro e w' ⟨rfl, hb⟩
  replace HB := hid (below_to HB.out hb)
  replace A0 := hid (A0.out.below hb)
  clear hb
  have ebox0 := A0.out.1
  go_wp2_with (first | (go_at_call 34; refine (laBound_any _ _).mono ?_; rw [HD.out]; rintro e w' ⟨rfl, rfl⟩) | fail)
  clear ebox0
  with_reducible refine (HCh.out _ (HV.out.below HB.out)).mono ?_
  rintro e w1 ⟨rfl, hb⟩
  replace HB := hid (below_to HB.out hb)
  clear hb
  go_wp2
  go_ret
  exact ⟨ret_bool HDd.out, HB.out⟩
theorem in_dec (r : Int) (N : Nat) : (decide (0 ≤ r) && decide (r ≤ (N : Int) - 1)) = (decide (0 ≤ r) && decide (r < (N : Int))) := by
  congr 1
  by_cases e : r < (N : Int)
  · rw [decide_eq_true e, decide_eq_true (by omega)]
  · rw [decide_eq_false e, decide_eq_false (by omega)]
theorem specLabelsWith_any (v : Value) (xs : List Int) (m r : Int) (w : World) (hv : Ints w v xs) (hl : xs.length ≤ 1048576) (wf : (Lit.int .i64 m).wf = true) (wf2 : (Lit.int .i64 r).wf = true) :
    Calls Try.prog 27 #[.agg #[v], .int .i64 m, .int .i64 r] w fun (e : Ending) w' => ∃ q, e = Ending.returned (.tuple #[q, .bool (lwB xs m r)]) ∧ OwnI 3 w' w.heap.size q (ansLW6 xs m r) ∧ (ansLW6 xs m r).length ≤ 1048576 ∧ Below w.heap.size w w' := by
  have HV := hid hv
  have HL := hid (ansLW6_length xs m r)
  clear hv wf wf2
  cases hf : fewB xs m
  · have HF := hid hf
    have HO := hid (lwB_no (r := r) hf)
    have HN := hid (ansLW6_no HO.out)
    clear hf
    go_enter Try.func27, Try.ntmps27
    have HB := hid (below_alloc (Below.refl _ w) (.cells #[v] 28))
    have A0 := hid (At.newAt w v 28 w.heap.size (by simp))
    go_wp2_with fail
    refine (laFew_any _ xs _ _ (HV.out.below HB.out) hl).mono ?_
    rw [HF.out]
    rintro e w' ⟨rfl, hb⟩
    replace HB := hid (below_to HB.out hb)
    replace A0 := hid (A0.out.below hb)
    clear hb
    have ebox0 := A0.out.1
    go_wp2
    go_ret2
    exact ⟨_, ret_vbW HO.out.symm, by rw [HN.out]; exact OwnI.nil _ _ _, HL.out, HB.out⟩
  obtain ⟨hg, M, rfl, hM, hN⟩ := fewB_all hf
  have HF := hid hf
  have HAll := hid (fun W hW => laAll_any xs.length v (.slice none 0 0) xs [] M 1000 W hW ⟨none, 0, rfl, fun h => absurd rfl h⟩ hg (by simp) (fun j hj => by simp at hj) hM (by omega) (by omega))
  have HT : Hid ((lbF xs M xs.length []).take 1000 = allF xs M) := hid (List.take_of_length_le hN)
  rw [HT.out] at HAll
  have hlw : lwB xs M r = (decide (0 ≤ r) && decide (r < ((allF xs M).length : Int))) := by unfold lwB; rw [hf]; simp
  have HY := hid (fun R h => ansLW6_yes (xs := xs) (m := M) (r := R) h)
  obtain ⟨A, hA⟩ : ∃ A, allF xs M = A := ⟨_, rfl⟩
  rw [hA] at HAll hN HY hlw
  obtain ⟨N, hNe⟩ : ∃ N, A.length = N := ⟨_, rfl⟩
  have HNe := hid hNe
  rw [hNe] at hN hlw
  have hNw : IntKind.i64.wrap ((N : Int) - 1) = (N : Int) - 1 := IntWalk.i64_in _ (by omega)
  have HIn := hid (l1In_any r 0 ((N : Int) - 1))
  rw [in_dec, ← hlw] at HIn
  clear hf hg hA hNe
  cases hq : lwB xs M r
  · rw [hq] at HIn
    have HN := hid (ansLW6_no hq)
    have HQ := hid hq
    clear hq hlw
    go_enter Try.func27, Try.ntmps27
    have HB := hid (below_alloc (Below.refl _ w) (.cells #[v] 28))
    have A0 := hid (At.newAt w v 28 w.heap.size (by simp))
    go_wp2_with fail
    refine (laFew_any _ xs _ _ (HV.out.below HB.out) hl).mono ?_
    rw [HF.out]
    rintro e w' ⟨rfl, hb⟩
    replace HB := hid (below_to HB.out hb)
    replace A0 := hid (A0.out.below hb)
    clear hb
    have ebox0 := A0.out.1
    go_wp2_with fail
    clear ebox0
    refine (HAll.out _ (HV.out.below HB.out)).mono ?_
    rintro e w1 ⟨q, rfl, ho, hb⟩
    obtain ⟨qA, qc, rfl, -⟩ := ho.rows
    rw [HNe.out]
    replace HB := hid (below_to HB.out hb)
    clear ho hb
    go_wp2_with (go_at_call 47; refine (HIn.out _).mono ?_; rintro e w' ⟨rfl, rfl⟩)
    go_ret2
    exact ⟨_, rfl, by rw [HN.out]; exact OwnI.nil _ _ _, HL.out, HB.out⟩
  · rw [hq] at HIn hlw
    obtain ⟨h0, h1⟩ : 0 ≤ r ∧ r < N := by
      have := hlw.symm
      simpa using this
    obtain ⟨R, rfl⟩ := Int.eq_ofNat_of_zero_le h0
    have HN := hid (HY.out R hq)
    have HQ := hid hq
    have hRN : R < N := by omega
    clear hq hlw
    go_enter Try.func27, Try.ntmps27
    have HB := hid (below_alloc (Below.refl _ w) (.cells #[v] 28))
    have A0 := hid (At.newAt w v 28 w.heap.size (by simp))
    go_wp2_with fail
    refine (laFew_any _ xs _ _ (HV.out.below HB.out) hl).mono ?_
    rw [HF.out]
    rintro e w' ⟨rfl, hb⟩
    replace HB := hid (below_to HB.out hb)
    replace A0 := hid (A0.out.below hb)
    clear hb
    have ebox0 := A0.out.1
    go_wp2_with fail
    clear ebox0
    refine (HAll.out _ (HV.out.below HB.out)).mono ?_
    rintro e w1 ⟨q, rfl, ho, hb⟩
    obtain ⟨qA, qc, rfl, hrow⟩ := ho.rows
    rw [HNe.out]
    obtain ⟨b, u, rfl, hbl, hc, hown, -⟩ := hrow R (by rw [HNe.out]; exact hRN)
    have HOw := hid (hown.mono HB.out.size)
    replace HB := hid (below_to HB.out hb)
    clear ho hb hrow hown
    go_wp2_with (go_at_call 47; refine (HIn.out _).mono ?_; rintro e w' ⟨rfl, rfl⟩)
    go_ret2
    exact ⟨_, rfl, by rw [HN.out]; exact HOw.out, HL.out, HB.out⟩
end Go.Proofs.Yteaeeinfjhhhoab
