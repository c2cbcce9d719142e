/- LabelPolynomialAt of the model. -/
import Derived.Test.YteaeeinfjhhhoabStS
namespace Go.Proofs.Yteaeeinfjhhhoab
open Go.RowKit Go.WideShapes Go.ChangeShapes
set_option linter.unusedVariables false

set_option maxHeartbeats 1600000 in
theorem specLabelPolynomialAt_any (v : Value) (xs : List Int) (x : Int) (w : World) (hv : Ints w v xs) (hl : xs.length ≤ 1048576) (wf : (Lit.int .i64 x).wf = true) :
    Calls Try.prog 23 #[.agg #[v], .int .i64 x] w fun r w' => r = .returned (.tuple #[.int .i64 (ansLP xs x), .bool (okLP xs x)]) ∧ Below w.heap.size w w' := by
  have HV := hid hv
  clear hv wf
  cases hg : good xs
  · have HG := hid hg
    have HO := hid (okLP_no1 (x := x) hg)
    have HN := hid (ansLP_no HO.out)
    clear hg
    go_enter Try.func23, Try.ntmps23
    have HB := hid (below_alloc (Below.refl _ w) (.cells #[v] 28))
    have A0 := hid (At.newAt w v 28 w.heap.size (by simp))
    go_wp2_with fail
    refine (poGood_any _ xs _ (HV.out.below HB.out) hl).mono ?_
    rw [HG.out]
    rintro e w' ⟨rfl, hb⟩
    replace HB := hid (below_to HB.out hb)
    replace A0 := hid (A0.out.below hb)
    clear hb
    have ebox0 := A0.out.1
    go_wp2
    go_ret2
    exact ⟨ret_ib HN.out.symm HO.out.symm, HB.out⟩
  cases hb : (decide (-13 ≤ x) && decide (x ≤ 13))
  · have HG := hid hg
    have HD := hid hb
    have HO := hid (okLP_no2 (xs := xs) hb)
    have HN := hid (ansLP_no HO.out)
    clear hg hb
    go_enter Try.func23, Try.ntmps23
    have HB := hid (below_alloc (Below.refl _ w) (.cells #[v] 28))
    have A0 := hid (At.newAt w v 28 w.heap.size (by simp))
    go_wp2_with fail
    refine (poGood_any _ xs _ (HV.out.below HB.out) hl).mono ?_
    rw [HG.out]
    rintro e w' ⟨rfl, hb⟩
    replace HB := hid (below_to HB.out hb)
    replace A0 := hid (A0.out.below hb)
    clear hb
    go_wp2_with (go_at_call 47; refine (l1In_any _ _ _ _).mono ?_; rw [HD.out]; rintro e w' ⟨rfl, rfl⟩)
    go_ret2
    exact ⟨ret_ib HN.out.symm HO.out.symm, HB.out⟩
  have HG := hid hg
  have HD := hid hb
  have HO := hid (okLP_yes hg hb)
  have HY := hid (ansLP_yes HO.out)
  have hx : -13 ≤ x ∧ x ≤ 13 := by simpa using hb
  obtain ⟨hx0, hx1⟩ := hx
  have hl10 := (good_length hg).2
  have HTm := hid (fun k (hk : k < xs.length) => term_small hg hx0 hx1 hk)
  have HPl := hid (fun k (hk : k ≤ xs.length) => pol_small hg hx0 hx1 k hk)
  have HPs : Hid (∀ k, polN xs x (k + 1) = polN xs x k + (stpN xs k : Int) * chI x (k + 1)) := hid fun _ => rfl
  have HCI := hid (fun k (hk : k ≤ 11) => (ch_all hx0 hx1 hk).1)
  clear hg hb
  go_enter Try.func23, Try.ntmps23
  have HB := hid (below_alloc (Below.refl _ w) (.cells #[v] 28))
  have A0 := hid (At.newAt w v 28 w.heap.size (by simp))
  go_wp2_with fail
  refine (poGood_any _ xs _ (HV.out.below HB.out) hl).mono ?_
  rw [HG.out]
  rintro e w' ⟨rfl, hb⟩
  replace HB := hid (below_to HB.out hb)
  replace A0 := hid (A0.out.below hb)
  clear hb
  have ebox0 := A0.out.1
  go_wp2_with (first | (go_at_call 47; refine (l1In_any _ _ _ _).mono ?_; rw [HD.out]; rintro e w' ⟨rfl, rfl⟩) | fail)
  clear ebox0
  with_reducible refine (laSteps_any v xs _ (HV.out.below HB.out) HG.out).mono ?_
  rintro e w1 ⟨u, rfl, ho, hb⟩
  replace HB := hid (below_to HB.out hb)
  obtain ⟨uA, uc, rfl, hA⟩ := ho.ints
  rw [mkL_length]
  have HA := hid hA
  clear ho hb hA
  go_wp2
  go_loop [6, 20] (fun q i => ∃ (k : Nat) (t : Int), k ≤ xs.length ∧ i = .int .i64 k ∧ q = .int .i64 t ∧ Hid (polN xs x k = t)) (fun _ i => xs.length - (intOf i).toNat)
  case atStart => exact ⟨0, 0, Nat.zero_le _, rfl, rfl, hid rfl⟩
  case round =>
    obtain ⟨k, t, hk, rfl, rfl, HT⟩ := hrel
    by_cases hlt : k < xs.length
    · obtain ⟨b, o, rfl, hbl, hc⟩ := HA.out (by intro h; have := congrArg List.length h; rw [mkL_length, List.length_nil] at this; omega)
      have hcell := hc k (by rw [mkL_length]; exact hlt)
      rw [mkL_getD hlt] at hcell
      have htm := HTm.out k hlt
      have hpl := HPl.out (k + 1) hlt
      have hps := HPs.out k
      have hci := HCI.out (k + 1) (by omega)
      have HLC := hid (laChoose_any x (k + 1) w1 hx0 hx1 (by omega))
      rw [HT.out] at hps
      obtain ⟨y, hy⟩ : ∃ y, stpN xs k = y := ⟨_, rfl⟩
      obtain ⟨z, hz⟩ : ∃ z, chI x (k + 1) = z := ⟨_, rfl⟩
      rw [hy] at hcell htm hps
      rw [hz] at HLC htm hps hci
      obtain ⟨p, hp⟩ : ∃ p, (y : Int) * z = p := ⟨_, rfl⟩
      rw [hp] at htm hps
      rw [hps] at hpl
      have HP := hid hps
      have hwp : IntKind.i64.wrap p = p := IntWalk.i64_in _ (by omega)
      have hwt : IntKind.i64.wrap (t + p) = t + p := IntWalk.i64_in _ (by omega)
      have ht1 : (k : Int) + 1 = ((k + 1 : Nat) : Int) := by omega
      obtain ⟨k1, hk1⟩ : ∃ k1, k + 1 = k1 := ⟨_, rfl⟩
      have HK1 := hid hk1
      rw [hk1] at HLC ht1 HP
      have hkw : IntKind.i64.wrap (k1 : Int) = (k1 : Int) := IntWalk.i64_in _ (by omega)
      clear hc hy hz htm hpl hps hci hk1
      go_wp2_with fail
      with_reducible refine HLC.out.mono ?_
      rintro e w' ⟨rfl, rfl⟩
      clear ht1 hkw
      go_wp2
      clear hp hwp hwt
      go_round
      case rel => exact ⟨k1, t + p, by have := HK1.out; omega, by first | rfl | (have := HK1.out; subst this; go_num), rfl, HP⟩
      case measure => simp [intOf]; omega
    · have hkn : k = xs.length := by omega
      have HE : Hid (ansLP xs x = t) := hid (by rw [HY.out, ← hkn, HT.out])
      go_wp2
      go_ret2
      exact ⟨ret_ib HE.out.symm HO.out.symm, HB.out⟩
end Go.Proofs.Yteaeeinfjhhhoab
