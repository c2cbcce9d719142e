/- StepCounts and LabelPolynomialAt of the model. -/
import Derived.Test.YteaeeinfjhhhoabStC
import Derived.Test.YteaeeinfjhhhoabChT
import Derived.Test.YteaeeinfjhhhoabApi
namespace Go.Proofs.Yteaeeinfjhhhoab
open Go.RowKit Go.WideShapes Go.ChangeShapes
set_option linter.unusedVariables false

theorem ret_vbSt {u : Value} {a b : Bool} (h : a = b) : Ending.returned (.tuple #[u, .bool a]) = .returned (.tuple #[u, .bool b]) := by rw [h]
theorem mkL_succS (n : Nat) (g : Nat → Nat) : mkL (n + 1) g = mkL n g ++ [((g n : Nat) : Int)] := by
  unfold mkL; rw [List.range_succ, List.map_append]; rfl
set_option maxRecDepth 100000 in
set_option maxHeartbeats 3200000 in
theorem laSteps_any (v : Value) (xs : List Int) (w : World) (hv : Ints w v xs) (hg : good xs = true) :
    Calls Try.prog 40 #[.agg #[v]] w fun (r : Ending) w' => ∃ u, r = Ending.returned u ∧ OwnI 3 w' w.heap.size u (mkL xs.length (stpN xs)) ∧ Below w.heap.size w w' := by
  have HV := hid hv
  have hl10 := (good_length hg).2
  have HCh := hid (fun k (hk : k ≤ 13) W hW => laChains_any v xs k true W hW hg hk)
  have HTk := hid (fun k => cnt_tk hg k)
  have HTl := hid (fun k => tk_last xs k)
  have HTm := hid (fun k i j (h : i ≤ j) => tk_le xs k h)
  have HSm := hid (fun k (hk : k ≤ 13) => cnt_small hg (b := true) hk (full_ideal hg).1)
  have HFu : Hid (2 ^ xs.length - 1 = full xs) := hid rfl
  have HSuc := hid (fun j => mkL_succS j (stpN xs))
  have HTs : Hid (∀ k j, tkN xs k (j + 1) = tkN xs k j + binN k (j + 1) * stpN xs j) := hid fun _ _ => rfl
  rw [HFu.out] at HCh
  obtain ⟨A, c, rfl, -⟩ := hv
  obtain ⟨n, hn⟩ : ∃ n, xs.length = n := ⟨_, rfl⟩
  rw [hn] at HV HCh hl10 ⊢
  obtain ⟨V, hV⟩ : ∃ V, Value.slice A n c = V := ⟨_, rfl⟩
  have HVv := hid hV
  rw [hV] at HV HCh ⊢
  clear hg hn hV
  go_enter Try.func40, Try.ntmps40
  have HB := hid (below_alloc (Below.refl _ w) (.cells #[V] 28))
  have A0 := hid (At.newAt w V 28 w.heap.size (by simp))
  go_wp2
  go_loopw [3, 4] (fun q i wr => ∃ j k : Nat, k = j + 1 ∧ j ≤ n ∧ i = .int .i64 (k : Int) ∧ OwnI 3 wr (w.heap.size + 1) q (mkL j (stpN xs)) ∧ Below (w.heap.size + 1) (w.alloc (.cells #[V] 28)) wr) (fun _ i _ => n + 1 - (intOf i).toNat)
  case atStart => exact ⟨0, 1, rfl, Nat.zero_le _, rfl, OwnI.nil _ _ _, Below.refl _ _⟩
  case round =>
    obtain ⟨j, k, hkj, hj, rfl, ho, hb⟩ := hrel
    obtain ⟨oA, oc, rfl, hoA⟩ := ho.ints
    rw [mkL_length] at ho ⊢
    have HO := hid ho
    have HOc := hid hoA
    have HB1 := hid hb
    have hbx : wr.cell? ⟨w.heap.size, 0, none⟩ = some V := box_cell hb 0
    rw [← HVv.out] at hbx
    have HKJ := hid hkj
    have hkj1 : j < k := by omega
    have hkj2 : k ≤ j + 1 := by omega
    have hz1 : w.heap.size + 1 ≤ wr.heap.size := by have := hb.size; simp at this; omega
    clear ho hoA hb hkj
    by_cases hlt : k ≤ n
    · have hki : (k : Int) ≤ (n : Int) := by omega
      have HCk := hid (HCh.out k (by omega) wr (HV.out.below (below_box HB1.out)))
      have hsm := HSm.out k (by omega)
      have htk := HTk.out k
      obtain ⟨C, hC⟩ : ∃ C, cnt xs true k (full xs) = C := ⟨_, rfl⟩
      rw [hC] at HCk hsm htk
      have HTK : Hid (C = tkN xs k k) := hid htk
      clear hC htk
      rw [HVv.out] at hbx
      have HBx := hid hbx
      rw [← HVv.out] at hbx
      go_wp2_with fail
      rw [HVv.out]
      clear hbx
      with_reducible refine HCk.out.mono ?_
      rintro e w2 ⟨rfl, hb2⟩
      have HB2 := hid (HB1.out.trans (hb2.mono hz1))
      have HO2 := hid (HO.out.below hb2)
      have hz2 := Nat.le_trans hz1 hb2.size
      have HOb := hid (fun (hne : mkL j (stpN xs) ≠ []) => HOc.out hne)
      clear hb2
      have HOI := hid HO2.out.ints
      obtain ⟨oA', oc', hsh, hoA2⟩ := HO2.out.ints
      rw [mkL_length] at hsh hoA2
      injection hsh with e1 _ e3
      subst e1; subst e3
      have HOc2 := hid hoA2
      clear hoA2 HOc HOb HO
      obtain ⟨W2, hW2⟩ : ∃ x, x = w2 := ⟨w2, rfl⟩
      rw [← hW2] at HB2 HO2 HOc2 HOI hz2 ⊢
      clear hW2
      go_wp2
      go_loop [5, 20] (fun q i => ∃ (t own : Nat), t ≤ j ∧ i = .int .i64 t ∧ q = .int .i64 (own : Int) ∧ Hid (own + tkN xs k t = C)) (fun _ i => j - (intOf i).toNat)
      case atStart => exact ⟨0, C, Nat.zero_le _, rfl, rfl, hid rfl⟩
      case round =>
        obtain ⟨t, own, ht, rfl, rfl, HOw⟩ := hrel
        by_cases htj : t < j
        · obtain ⟨b, o, rfl, hbl, hc⟩ := HOc2.out (by intro h; have := congrArg List.length h; rw [mkL_length, List.length_nil] at this; omega)
          have hcell := hc t htj
          rw [mkL_getD htj] at hcell
          have hts := HTs.out k t
          have htm := HTm.out k (t + 1) k (by omega)
          have hch := bin_all (n := k) (k := t + 1) (by omega) (by omega)
          have HLC := hid (laChoose_any (k : Int) (t + 1) W2 (by omega) (by omega) (by omega))
          rw [hch] at HLC
          rw [← HTK.out, hts, ← HOw.out] at htm
          have HOw2 := HOw.out
          obtain ⟨T, hT⟩ : ∃ T, tkN xs k t = T := ⟨_, rfl⟩
          obtain ⟨y, hy⟩ : ∃ y, stpN xs t = y := ⟨_, rfl⟩
          obtain ⟨z, hz⟩ : ∃ z, binN k (t + 1) = z := ⟨_, rfl⟩
          rw [hT] at hts htm HOw2
          rw [hy] at hcell hts htm
          rw [hz] at HLC hts htm
          obtain ⟨p, hp⟩ : ∃ p, z * y = p := ⟨_, rfl⟩
          rw [hp] at hts htm
          have hmul : (y : Int) * (z : Int) = (p : Int) := by rw [← Int.natCast_mul, Nat.mul_comm, hp]
          have hpo : p ≤ own := by omega
          have hown : own ≤ 137858491849 := by omega
          have hwp : IntKind.i64.wrap (p : Int) = (p : Int) := IntWalk.i64_in _ (by omega)
          have hsub : IntKind.i64.wrap ((own : Int) - (p : Int)) = ((own - p : Nat) : Int) := by rw [IntWalk.i64_in _ (by omega)]; omega
          have HNew : Hid (own - p + tkN xs k (t + 1) = C) := hid (by rw [hts]; omega)
          have ht1 : (t : Int) + 1 = ((t + 1 : Nat) : Int) := by omega
          obtain ⟨t1, ht1e⟩ : ∃ t1, t + 1 = t1 := ⟨_, rfl⟩
          have HT1 := hid ht1e
          rw [ht1e] at HLC ht1 HNew
          have htw : IntKind.i64.wrap (t1 : Int) = (t1 : Int) := IntWalk.i64_in _ (by omega)
          obtain ⟨o2, ho2⟩ : ∃ o2, own - p = o2 := ⟨_, rfl⟩
          rw [ho2] at hsub HNew
          clear hc hch hts htm HOw2 hT hy hz hp ht1e ho2 hown hpo
          go_wp2_with fail
          with_reducible refine HLC.out.mono ?_
          rintro e w' ⟨rfl, rfl⟩
          clear ht1 htw
          go_wp2
          clear hmul hwp hsub
          go_round
          case rel => exact ⟨t1, o2, by have := HT1.out; omega, by first | rfl | go_num | (have := HT1.out; subst this; go_num), rfl, HNew⟩
          case measure => simp [intOf]; omega
        · have htj' : t = j := by omega
          subst htj'
          have HEq : Hid (own = stpN xs t) := hid (by
            have h1 := HOw.out
            rw [HTK.out] at h1
            have hk : k = t + 1 := HKJ.out
            rw [hk, HTl.out] at h1
            omega)
          have hlen : (mkL t (stpN xs)).length < 1048576 := by rw [mkL_length]; omega
          have hz3 : w.heap.size + 1 ≤ W2.heap.size := hz2
          go_wp2_with (at_builtin; refine wpList_append_int rfl _ _ 22 3 rfl Try.underlying22 Try.info3 (w.heap.size + 1) _ _ ((own : Nat) : Int) rfl HO2.out rfl rfl hlen hz3 ?_; rintro q2 w3 ho3 hb3)
          go_roundw
          case rel => exact ⟨t + 1, k + 1, by have := HKJ.out; omega, by omega, by go_num, by rw [HSuc.out, ← HEq.out]; exact ho3, HB2.out.trans hb3⟩
          case measure => simp [intOf]; omega
    · have hjn : j = n := by have := HKJ.out; omega
      subst hjn
      have hki : ¬ (k : Int) ≤ (j : Int) := by omega
      go_wp2
      go_ret
      exact ⟨_, rfl, HO.out.mono (Nat.le_succ _), below_box HB1.out⟩
theorem specStepCounts_any (v : Value) (xs : List Int) (w : World) (hv : Ints w v xs) (hl : xs.length ≤ 1048576) :
    Calls Try.prog 17 #[.agg #[v]] w fun (r : Ending) w' => ∃ u, r = Ending.returned (.tuple #[u, .bool (good xs)]) ∧ OwnI 3 w' w.heap.size u (ansSC xs) ∧ (ansSC xs).length ≤ 1048576 ∧ Below w.heap.size w w' := by
  have HV := hid hv
  have HL := hid (ansSC_length xs)
  clear hv
  cases hg : good xs
  · have HG := hid hg
    have HN := hid (ansSC_no hg)
    clear hg
    go_enter Try.func17, Try.ntmps17
    have HB := hid (below_alloc (Below.refl _ w) (.cells #[v] 28))
    have A0 := hid (At.newAt w v 28 w.heap.size (by simp))
    go_wp2_with fail
    refine (poGood_any _ xs _ (HV.out.below HB.out) hl).mono ?_
    rw [HG.out]
    rintro e w' ⟨rfl, hb⟩
    replace HB := hid (below_to HB.out hb)
    replace A0 := hid (A0.out.below hb)
    clear hb
    have ebox0 := A0.out.1
    go_wp2
    go_ret2
    exact ⟨_, rfl, by rw [HN.out]; exact OwnI.nil _ _ _, HL.out, HB.out⟩
  · have HG := hid hg
    have HY := hid (ansSC_yes hg)
    clear hg
    go_enter Try.func17, Try.ntmps17
    have HB := hid (below_alloc (Below.refl _ w) (.cells #[v] 28))
    have A0 := hid (At.newAt w v 28 w.heap.size (by simp))
    go_wp2_with fail
    refine (poGood_any _ xs _ (HV.out.below HB.out) hl).mono ?_
    rw [HG.out]
    rintro e w' ⟨rfl, hb⟩
    replace HB := hid (below_to HB.out hb)
    replace A0 := hid (A0.out.below hb)
    clear hb
    have hz := HB.out.size
    have ebox0 := A0.out.1
    go_wp2_with fail
    clear ebox0
    refine (laSteps_any _ xs _ (HV.out.below HB.out) HG.out).mono ?_
    rintro e w' ⟨u, rfl, ho, hb⟩
    replace HB := hid (below_to HB.out hb)
    replace A0 := hid (A0.out.below hb)
    clear hb
    have HO := hid ho
    have ebox0 := A0.out.1
    go_wp2
    go_ret2
    exact ⟨_, rfl, by rw [HY.out]; exact HO.out.mono (by omega), HL.out, HB.out⟩
end Go.Proofs.Yteaeeinfjhhhoab
