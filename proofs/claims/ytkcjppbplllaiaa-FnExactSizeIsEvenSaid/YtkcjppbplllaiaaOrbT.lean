/- OrbitSum, AntichainSum, ElementSum: contracts. -/
import Derived.Test.YtkcjppbplllaiaaOrbS
namespace Go.Proofs.Ytkcjppbplllaiaa
open Go.RowKit Go.WideShapes Go.ChangeShapes
set_option linter.unusedVariables false

set_option maxHeartbeats 800000 in
theorem obSumF_any (v u : Value) (xs ls : List Int) (w : World) (hv : Ints w v xs) (hg : good xs = true) (hu : Ints w u ls) (hl : ls.length ≤ 1024) (hp : ∀ j, j < ls.length → ∃ s : Nat, ls.getD j 0 = (s : Int) ∧ s < 1024) :
    Calls Try.prog 69 #[.agg #[v], u, .bool false] w fun r w' => r = .returned (.int .i64 (sumTo (pc) ls ls.length : Nat)) ∧ Below w.heap.size w w' := by
  have HV := hid hv
  have hl10 := (good_length hg).2
  have HSM := hid (good_small hg)
  have HP := hid hp
  obtain ⟨A, c, rfl, hA⟩ := hu
  have HA := hid hA
  clear hA hp hv hg
  go_enter Try.func69, Try.ntmps69
  have HB := hid (below_alloc (Below.refl _ w) (.cells #[v] 28))
  have A0 := hid (At.newAt w v 28 w.heap.size (by simp))
  go_wp2
  go_loopw [7, 12] (fun q i wr => ∃ k t : Nat, k ≤ ls.length ∧ i = .int .i64 k ∧ q = .int .i64 t ∧ Hid (sumTo (pc) ls k = t) ∧ t ≤ 10 * k ∧ Below w.heap.size w wr ∧ At wr w.heap.size v) (fun _ i _ => ls.length - (intOf i).toNat)
  case atStart => exact ⟨0, 0, Nat.zero_le _, rfl, rfl, hid rfl, Nat.zero_le _, HB.out, A0.out⟩
  case round =>
    obtain ⟨k, t, hk, rfl, rfl, HT, ht, hb, ha⟩ := hrel
    have HB1 := hid hb
    have HA1 := hid ha
    by_cases hlt : k < ls.length
    · obtain ⟨b, o, rfl, hbl, hc⟩ := HA.out (by intro h; simp [h] at hlt)
      have hcell : wr.cell? ⟨b, o + k, none⟩ = some (.int .i64 (ls.getD k 0)) := (hb.cell (p := ⟨b, o + k, none⟩) hbl).trans (hc k hlt)
      obtain ⟨s, hs, hD⟩ := HP.out k hlt
      have HSt : Hid (sumTo (pc) ls (k + 1) = sumTo (pc) ls k + pc s) := hid (sumTo_succ (g := pc) hs)
      rw [hs] at hcell
      have hg10 : pc s ≤ 10 := pc_le s
      clear hc hs hb ha
      go_wp2_with (go_at_call 66; refine (obSize_any s _ hD).mono ?_; rintro e w2 ⟨rfl, rfl⟩)
      go_roundw
      case rel => exact ⟨k + 1, t + pc s, by omega, by go_num, by go_num, hid (by rw [HSt.out, HT.out]), by omega, HB1.out, HA1.out⟩
      case measure => simp [intOf]; omega
    · obtain rfl : k = ls.length := by omega
      clear hb ha
      go_wp2
      go_ret
      exact ⟨ret_int (by rw [HT.out]), HB1.out⟩

set_option maxHeartbeats 800000 in
theorem obSumT_any (v u : Value) (xs ls : List Int) (w : World) (hv : Ints w v xs) (hg : good xs = true) (hu : Ints w u ls) (hl : ls.length ≤ 1024) (hp : ∀ j, j < ls.length → ∃ s : Nat, ls.getD j 0 = (s : Int) ∧ s < 1024) :
    Calls Try.prog 69 #[.agg #[v], u, .bool true] w fun r w' => r = .returned (.int .i64 (sumTo (topPc xs) ls ls.length : Nat)) ∧ Below w.heap.size w w' := by
  have HV := hid hv
  have hl10 := (good_length hg).2
  have HSM := hid (good_small hg)
  have HP := hid hp
  obtain ⟨A, c, rfl, hA⟩ := hu
  have HA := hid hA
  clear hA hp hv hg
  go_enter Try.func69, Try.ntmps69
  have HB := hid (below_alloc (Below.refl _ w) (.cells #[v] 28))
  have A0 := hid (At.newAt w v 28 w.heap.size (by simp))
  go_wp2
  go_loopw [7, 12] (fun q i wr => ∃ k t : Nat, k ≤ ls.length ∧ i = .int .i64 k ∧ q = .int .i64 t ∧ Hid (sumTo (topPc xs) ls k = t) ∧ t ≤ 10 * k ∧ Below w.heap.size w wr ∧ At wr w.heap.size v) (fun _ i _ => ls.length - (intOf i).toNat)
  case atStart => exact ⟨0, 0, Nat.zero_le _, rfl, rfl, hid rfl, Nat.zero_le _, HB.out, A0.out⟩
  case round =>
    obtain ⟨k, t, hk, rfl, rfl, HT, ht, hb, ha⟩ := hrel
    have HB1 := hid hb
    have HA1 := hid ha
    by_cases hlt : k < ls.length
    · obtain ⟨b, o, rfl, hbl, hc⟩ := HA.out (by intro h; simp [h] at hlt)
      have hcell : wr.cell? ⟨b, o + k, none⟩ = some (.int .i64 (ls.getD k 0)) := (hb.cell (p := ⟨b, o + k, none⟩) hbl).trans (hc k hlt)
      obtain ⟨s, hs, hD⟩ := HP.out k hlt
      have HSt : Hid (sumTo (topPc xs) ls (k + 1) = sumTo (topPc xs) ls k + pc (top xs s)) := hid (sumTo_succ (g := topPc xs) hs)
      rw [hs] at hcell
      have hg10 : pc (top xs s) ≤ 10 := topPc_le xs s
      clear hc hs hb ha
      have hbx := HA1.out.1
      have htop : top xs s < 1024 := Nat.lt_of_le_of_lt (top_le xs s) hD
      go_wp2_with fail
      clear hbx
      refine (poTop_any _ xs s _ (HV.out.below HB1.out) hl10 hD (HSM.out s)).mono ?_
      rintro e w2 ⟨rfl, hb2⟩
      have HB2 := hid (below_to HB1.out hb2)
      have HA2 := hid (HA1.out.below hb2)
      clear hb2 hcell
      go_wp2_with (go_at_call 66; refine (obSize_any _ _ htop).mono ?_; rintro e w2 ⟨rfl, rfl⟩)
      go_roundw
      case rel => exact ⟨k + 1, t + pc (top xs s), by omega, by go_num, by go_num, hid (by rw [HSt.out, HT.out]), by omega, HB2.out, HA2.out⟩
      case measure => simp [intOf]; omega
    · obtain rfl : k = ls.length := by omega
      clear hb ha
      go_wp2
      go_ret
      exact ⟨ret_int (by rw [HT.out]), HB1.out⟩

def ansOrbitSum (xs : List Int) (s : Int) : Int := (sumL (pc) (ansOO xs s) : Nat)
theorem ansOrbitSum_no {xs : List Int} {s : Int} (h : okIdeal xs s = false) : ansOrbitSum xs s = 0 := by unfold ansOrbitSum; rw [ansOO_no h]; rfl
theorem ansOrbitSum_yes {xs : List Int} {z : Nat} (h : okIdeal xs z = true) : ansOrbitSum xs z = ((sumTo (pc) (orbXs xs z) (orbXs xs z).length : Nat) : Int) := by unfold ansOrbitSum; rw [ansOO_yes h]; rfl
set_option maxHeartbeats 800000 in
theorem specOrbitSum_any (v : Value) (xs : List Int) (s : Int) (w : World) (hv : Ints w v xs) (hl : xs.length ≤ 1048576) (wf : (Lit.int .i64 s).wf = true) :
    Calls Try.prog 35 #[.agg #[v], .int .i64 s] w fun r w' => r = .returned (.tuple #[.int .i64 (ansOrbitSum xs s), .bool (okIdeal xs s)]) ∧ Below w.heap.size w w' := by
  have HV := hid hv
  clear hv wf
  go_enter Try.func35, Try.ntmps35
  have HB := hid (below_alloc (Below.refl _ w) (.cells #[v] 28))
  have A0 := hid (At.newAt w v 28 w.heap.size (by simp))
  go_wp2_with fail
  refine (tgIn_any _ xs s _ (HV.out.below HB.out) hl).mono ?_
  rintro e w' ⟨rfl, hb⟩
  replace HB := hid (below_to HB.out hb)
  replace A0 := hid (A0.out.below hb)
  clear hb
  cases hq : okIdeal xs s
  · have HO := hid hq
    clear hq
    have ebox0 := A0.out.1
    go_wp2
    go_ret2
    exact ⟨ret_ib (ansOrbitSum_no HO.out).symm HO.out.symm, HB.out⟩
  · have HO := hid hq
    clear hq
    obtain ⟨z, rfl, h1, h2⟩ := okIdeal_idB HO.out
    have HG := hid h1
    have HI := hid h2
    have HAt := hid (orbXs_at h1 h2)
    have HLn := hid (orbXs_length h1 h2).2
    clear h1 h2
    have hbx0 := A0.out.1
    go_wp2_with fail
    go_region_with (first | (go_at_call 51; refine (obOrbit_any _ xs z _ (HV.out.below HB.out).drew HG.out HI.out).mono ?_; rintro e w1 ⟨q, rfl, ho, hb1⟩; have H1 := hid (below_to HB.out.drew hb1); have hbx := (A0.out.drew.below hb1).1; have HO1 := hid ho; clear hb1 ho) | (go_at_call 69; refine (obSumF_any _ _ xs (orbXs xs z) _ (HV.out.below H1.out) HG.out HO1.out.ints HLn.out HAt.out).mono ?_; rintro e w2 ⟨rfl, hb2⟩; have H2 := hid (below_to H1.out hb2); clear hb2))
    all_goals go_wp2
    all_goals go_ret2
    all_goals exact ⟨ret_ib (ansOrbitSum_yes HO.out).symm HO.out.symm, H2.out⟩
set_option maxHeartbeats 800000 in
theorem implOrbitSum_any (v : Value) (xs : List Int) (s : Int) (w : World) (hv : Ints w v xs) (hl : xs.length ≤ 1048576) (wf : (Lit.int .i64 s).wf = true) :
    Calls Try.prog 36 #[.agg #[v], .int .i64 s] w fun r w' => r = .returned (.tuple #[.int .i64 (ansOrbitSum xs s), .bool (okIdeal xs s)]) ∧ Below w.heap.size w w' := by
  have HV := hid hv
  have HLn := hid (ansOO_length xs s)
  have HAt := hid (ansOO_at xs s)
  have WF := hid wf
  clear hv wf
  go_enter Try.func36, Try.ntmps36
  have HB := hid (below_alloc (Below.refl _ w) (.cells #[v] 28))
  have A0 := hid (At.newAt w v 28 w.heap.size (by simp))
  go_wp2_with fail
  refine (implOrbitOf_any _ xs s _ (HV.out.below HB.out) hl WF.out).mono ?_
  rintro e w' ⟨q, rfl, ho, hlen, hb⟩
  replace HB := hid (below_to HB.out hb)
  replace A0 := hid (A0.out.below hb)
  clear hb
  have HO1 := hid ho.ints
  have HO2 : Hid (ansOO xs s = ansOO xs s) := hid rfl
  clear ho hlen
  have ebox0 := A0.out.1
  go_wp2_with fail
  clear ebox0
  refine (sumOverSize_any q (ansOO xs s) pc (· < 1024) _ HO1.out HLn.out HAt.out pc_le (fun s W hD hb => (sizeOf_any s W hD).mono fun _ _ ⟨h1, h2⟩ => ⟨h1, h2 ▸ Below.refl _ _⟩)).mono ?_
  rintro e w' ⟨rfl, hb⟩
  replace HB := hid (below_to HB.out hb)
  replace A0 := hid (A0.out.below hb)
  clear hb
  have ebox0 := A0.out.1
  go_wp2
  go_ret2
  exact ⟨rfl, HB.out⟩

def ansAntichainSum (xs : List Int) (s : Int) : Int := (sumL (topPc xs) (ansOO xs s) : Nat)
theorem ansAntichainSum_no {xs : List Int} {s : Int} (h : okIdeal xs s = false) : ansAntichainSum xs s = 0 := by unfold ansAntichainSum; rw [ansOO_no h]; rfl
theorem ansAntichainSum_yes {xs : List Int} {z : Nat} (h : okIdeal xs z = true) : ansAntichainSum xs z = ((sumTo (topPc xs) (orbXs xs z) (orbXs xs z).length : Nat) : Int) := by unfold ansAntichainSum; rw [ansOO_yes h]; rfl
set_option maxHeartbeats 800000 in
theorem specAntichainSum_any (v : Value) (xs : List Int) (s : Int) (w : World) (hv : Ints w v xs) (hl : xs.length ≤ 1048576) (wf : (Lit.int .i64 s).wf = true) :
    Calls Try.prog 37 #[.agg #[v], .int .i64 s] w fun r w' => r = .returned (.tuple #[.int .i64 (ansAntichainSum xs s), .bool (okIdeal xs s)]) ∧ Below w.heap.size w w' := by
  have HV := hid hv
  clear hv wf
  go_enter Try.func37, Try.ntmps37
  have HB := hid (below_alloc (Below.refl _ w) (.cells #[v] 28))
  have A0 := hid (At.newAt w v 28 w.heap.size (by simp))
  go_wp2_with fail
  refine (tgIn_any _ xs s _ (HV.out.below HB.out) hl).mono ?_
  rintro e w' ⟨rfl, hb⟩
  replace HB := hid (below_to HB.out hb)
  replace A0 := hid (A0.out.below hb)
  clear hb
  cases hq : okIdeal xs s
  · have HO := hid hq
    clear hq
    have ebox0 := A0.out.1
    go_wp2
    go_ret2
    exact ⟨ret_ib (ansAntichainSum_no HO.out).symm HO.out.symm, HB.out⟩
  · have HO := hid hq
    clear hq
    obtain ⟨z, rfl, h1, h2⟩ := okIdeal_idB HO.out
    have HG := hid h1
    have HI := hid h2
    have HAt := hid (orbXs_at h1 h2)
    have HLn := hid (orbXs_length h1 h2).2
    clear h1 h2
    have hbx0 := A0.out.1
    go_wp2_with fail
    go_region_with (first | (go_at_call 51; refine (obOrbit_any _ xs z _ (HV.out.below HB.out).drew HG.out HI.out).mono ?_; rintro e w1 ⟨q, rfl, ho, hb1⟩; have H1 := hid (below_to HB.out.drew hb1); have hbx := (A0.out.drew.below hb1).1; have HO1 := hid ho; clear hb1 ho) | (go_at_call 69; refine (obSumT_any _ _ xs (orbXs xs z) _ (HV.out.below H1.out) HG.out HO1.out.ints HLn.out HAt.out).mono ?_; rintro e w2 ⟨rfl, hb2⟩; have H2 := hid (below_to H1.out hb2); clear hb2))
    all_goals go_wp2
    all_goals go_ret2
    all_goals exact ⟨ret_ib (ansAntichainSum_yes HO.out).symm HO.out.symm, H2.out⟩
set_option maxHeartbeats 800000 in
theorem implAntichainSum_any (v : Value) (xs : List Int) (s : Int) (w : World) (hv : Ints w v xs) (hl : xs.length ≤ 1048576) (wf : (Lit.int .i64 s).wf = true) :
    Calls Try.prog 38 #[.agg #[v], .int .i64 s] w fun r w' => r = .returned (.tuple #[.int .i64 (ansAntichainSum xs s), .bool (okIdeal xs s)]) ∧ Below w.heap.size w w' := by
  have HV := hid hv
  have HLn := hid (ansOO_length xs s)
  have HAt := hid (ansOO_at xs s)
  have WF := hid wf
  clear hv wf
  go_enter Try.func38, Try.ntmps38
  have HB := hid (below_alloc (Below.refl _ w) (.cells #[v] 28))
  have A0 := hid (At.newAt w v 28 w.heap.size (by simp))
  go_wp2_with fail
  refine (implOrbitOf_any _ xs s _ (HV.out.below HB.out) hl WF.out).mono ?_
  rintro e w' ⟨q, rfl, ho, hlen, hb⟩
  replace HB := hid (below_to HB.out hb)
  replace A0 := hid (A0.out.below hb)
  clear hb
  have HO1 := hid ho.ints
  have HO2 : Hid (ansOO xs s = ansOO xs s) := hid rfl
  clear ho hlen
  cases hq : okIdeal xs s
  · have HN := hid (ansOO_no hq)
    have HA := hid (ansAntichainSum_no hq)
    have HQ := hid hq
    rw [HN.out] at HO1
    clear hq
    have ebox0 := A0.out.1
    go_wp2_with fail
    clear ebox0
    refine (sumOverTop_any q [] v pc (fun _ => False) _ HO1.out (by simp) (fun j hj => absurd hj (Nat.not_lt_zero _)) pc_le (fun s W hD hb => hD.elim)).mono ?_
    rintro e w' ⟨rfl, hb⟩
    replace HB := hid (below_to HB.out hb)
    replace A0 := hid (A0.out.below hb)
    clear hb
    have ebox0 := A0.out.1
    go_wp2
    go_ret2
    exact ⟨ret_ib (by rw [HA.out]; rfl) HQ.out.symm, HB.out⟩
  · have HQ := hid hq
    clear hq
    obtain ⟨z, rfl, h1, h2⟩ := okIdeal_idB HQ.out
    have HG := hid h1
    have hl10 := (good_length h1).2
    clear h1 h2
    have ebox0 := A0.out.1
    go_wp2_with fail
    clear ebox0
    refine (sumOverTop_any q (ansOO xs z) v (topPc xs) (· < 1024) _ HO1.out HLn.out HAt.out (topPc_le xs) (fun s W hD hb => topSize_any _ xs s W ((HV.out.below HB.out).below hb) hl10 hD (good_small HG.out s))).mono ?_
    rintro e w' ⟨rfl, hb⟩
    replace HB := hid (below_to HB.out hb)
    replace A0 := hid (A0.out.below hb)
    clear hb
    have ebox0 := A0.out.1
    go_wp2
    go_ret2
    exact ⟨ret_ib rfl HQ.out.symm, HB.out⟩
end Go.Proofs.Ytkcjppbplllaiaa
