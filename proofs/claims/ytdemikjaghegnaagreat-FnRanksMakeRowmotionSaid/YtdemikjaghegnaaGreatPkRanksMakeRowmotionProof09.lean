/- Texts Rank, CurK, one behind the other. -/
import Derived.Test.YtdemikjaghegnaaGreatPkRanksMakeRowmotionProof02
import Derived.Test.YtdemikjaghegnaaGreatPkRanksMakeRowmotionProof05
import Derived.Test.YtdemikjaghegnaaGreatPkRanksMakeRowmotionProof08
/- IsRanked. -/
namespace Go.Proofs.YtdemikjaghegnaaGreat
open Go.RowKit Go.WideShapes Go.ChangeShapes
set_option linter.unusedVariables false

def rankP (hs : List Int) (p : Nat × Nat) : Bool := hs.getD p.2 0 == hs.getD p.1 0 + 1
def rankedN (hs : List Int) (ps : List (Nat × Nat)) (k : Nat) : Bool := (ps.take k).all (rankP hs)
def rankedB (xs : List Int) : Bool := rankedN (heightsL xs) (coversP xs) (coversP xs).length
def ansIR (xs : List Int) : Bool := good xs && rankedB xs
theorem ansIR_no {xs : List Int} (h : good xs = false) : ansIR xs = false := by simp [ansIR, h]
theorem ansIR_yes {xs : List Int} (h : good xs = true) : ansIR xs = rankedB xs := by simp [ansIR, h]
theorem rankedN_step {hs : List Int} {ps : List (Nat × Nat)} {k : Nat} (hk : k < ps.length) : rankedN hs ps (k + 1) = (rankedN hs ps k && rankP hs (ps.getD k (0, 0))) := by
  have e : ps.take (k + 1) = ps.take k ++ [ps.getD k (0, 0)] := by
    rw [List.take_succ_eq_append_getElem hk]; simp [List.getD, hk]
  unfold rankedN
  rw [e, List.all_append]
  simp
theorem rankedN_no {hs : List Int} {ps : List (Nat × Nat)} {k : Nat} (hk : k < ps.length) (h : rankP hs (ps.getD k (0, 0)) = false) : rankedN hs ps ps.length = false := by
  rw [Bool.eq_false_iff]
  intro hc
  unfold rankedN at hc
  rw [List.take_length] at hc
  have := List.all_eq_true.1 hc (ps.getD k (0, 0)) (by simp [List.getD, hk])
  rw [h] at this; cases this
theorem covIn_bound {xs : List Int} {j : Nat} (i : Nat) : ∀ p ∈ covIn xs j i, p.1 = j ∧ p.2 < i := by
  induction i with
  | zero => simp [covIn]
  | succ i ih =>
    intro p hp
    unfold covIn at hp
    split at hp
    · rw [List.mem_append, List.mem_singleton] at hp
      rcases hp with hp | hp
      · have := ih p hp; omega
      · subst hp; exact ⟨rfl, Nat.lt_succ_self _⟩
    · have := ih p hp; omega
theorem covPS_bound {xs : List Int} {n : Nat} (j : Nat) : ∀ p ∈ covPS xs n j, p.1 < j ∧ p.2 < n := by
  induction j with
  | zero => simp [covPS]
  | succ j ih =>
    intro p hp
    unfold covPS at hp
    rw [List.mem_append] at hp
    rcases hp with hp | hp
    · have := ih p hp; omega
    · have := covIn_bound n p hp; omega
theorem coversP_bound {xs : List Int} {k : Nat} (hg : good xs = true) (hk : k < (coversP xs).length) : ((coversP xs).getD k (0, 0)).1 < xs.length ∧ ((coversP xs).getD k (0, 0)).2 < xs.length := by
  have h : (coversP xs).getD k (0, 0) ∈ coversP xs := by simp [List.getD, hk]
  rw [coversP_yes hg] at h ⊢
  exact covPS_bound _ _ h
theorem heights_bound {xs : List Int} (hg : good xs = true) (e : Nat) : 0 ≤ (heightsL xs).getD e 0 ∧ (heightsL xs).getD e 0 ≤ e := by
  rw [heightsL_yes hg]
  exact (HB_out xs xs.length xs.length (Nat.le_refl _)).2 e
theorem heights_len {xs : List Int} (hg : good xs = true) : (heightsL xs).length = xs.length := by
  rw [heightsL_yes hg]
  exact (HB_out xs xs.length xs.length (Nat.le_refl _)).1
set_option maxHeartbeats 1600000 in
theorem poRanked_any (v : Value) (xs : List Int) (w : World) (hv : Ints w v xs) (hg : good xs = true) :
    Calls Tryz.prog 113 #[.agg #[v]] w fun r w' => r = .returned (.bool (rankedB xs)) ∧ Below w.heap.size w w' := by
  have HV := hid hv
  have HQ := hid hg
  clear hv hg
  go_enter Tryz.func113, Tryz.ntmps113
  have HB := hid (below_alloc (Below.refl _ w) (.cells #[v] 26))
  have A0 := hid (At.newAt w v 26 w.heap.size (by simp))
  go_wp2_with fail
  refine (poHeights_any _ xs _ (HV.out.below HB.out) HQ.out).mono ?_
  rintro e w' ⟨u, rfl, ho, hb⟩
  replace HB := hid (below_to HB.out hb)
  replace A0 := hid (A0.out.below hb)
  clear hb
  have HH := hid ho.ints
  obtain ⟨uA, un, uc, rfl⟩ := ho.shape3
  clear ho
  have ebox0 := A0.out.1
  go_wp2_with fail
  clear ebox0
  refine (poPairs_any _ xs _ (HV.out.below HB.out) HQ.out).mono ?_
  rintro e w' ⟨q, rfl, hp, hb⟩
  replace HB := hid (below_to HB.out hb)
  replace A0 := hid (A0.out.below hb)
  replace HH := hid (HH.out.below hb)
  clear hb
  rw [← coversP_yes HQ.out] at hp
  have HP := hid hp
  clear hp
  obtain ⟨hA, hc, hEq, hAA⟩ := HH.out
  cases hEq
  have HAA := hid hAA
  obtain ⟨pA, pc, rfl, hPA⟩ := HP.out.shape
  have HPA := hid hPA
  have hhl := heights_len HQ.out
  have HHL := hid hhl
  have HW := hid (Below.refl w'.heap.size w')
  clear hAA hPA hhl
  have ebox0 := A0.out.1
  go_wp2
  go_loopw [11] (fun i wr => ∃ k : Nat, k ≤ (coversP xs).length ∧ i = .int .i64 k ∧ Hid (rankedN (heightsL xs) (coversP xs) k = true) ∧ Below w.heap.size w wr ∧ Below w'.heap.size w' wr) (fun i _ => (coversP xs).length - (intOf i).toNat)
  case atStart => exact ⟨0, Nat.zero_le _, rfl, hid rfl, HB.out, HW.out⟩
  case round =>
    obtain ⟨k, hk, rfl, HK, hb, hu⟩ := hrel
    have HB1 := hid hb
    have HU1 := hid hu
    by_cases hlt : k < (coversP xs).length
    · obtain ⟨b, g, rfl, hbl, hgl, hcb, hc0, hc1⟩ := HPA.out k hlt
      have hcb' : wr.cell? ⟨b, k, none⟩ = some (.slice (some ⟨g, 0, none⟩) 2 2) := (hu.cell (p := ⟨b, k, none⟩) hbl).trans hcb
      have hc0' : wr.cell? ⟨g, 0, none⟩ = some (.int .i64 (((coversP xs).getD k (0, 0)).1 : Nat)) := (hu.cell (p := ⟨g, 0, none⟩) hgl).trans hc0
      have hc1' : wr.cell? ⟨g, 1, none⟩ = some (.int .i64 (((coversP xs).getD k (0, 0)).2 : Nat)) := (hu.cell (p := ⟨g, 1, none⟩) hgl).trans hc1
      have hbd := coversP_bound HQ.out hlt
      obtain ⟨P, hP⟩ : ∃ P, (coversP xs).getD k (0, 0) = P := ⟨_, rfl⟩
      rw [hP] at hc0' hc1' hbd
      obtain ⟨p1, p2⟩ := P
      simp only at hc0' hc1' hbd
      obtain ⟨bh, oh, rfl, hbhl, hch⟩ := HAA.out (by intro h; have := HHL.out; rw [h] at this; simp at this; omega)
      have hh1 : wr.cell? ⟨bh, oh + p1, none⟩ = some (.int .i64 ((heightsL xs).getD p1 0)) := (hu.cell (p := ⟨bh, oh + p1, none⟩) hbhl).trans (hch p1 (by rw [HHL.out]; exact hbd.1))
      have hh2 : wr.cell? ⟨bh, oh + p2, none⟩ = some (.int .i64 ((heightsL xs).getD p2 0)) := (hu.cell (p := ⟨bh, oh + p2, none⟩) hbhl).trans (hch p2 (by rw [HHL.out]; exact hbd.2))
      have hn1 := heights_bound HQ.out p1
      have hl10 := (good_length HQ.out).2
      have hcl := coversP_length xs
      have hi1 : (p1 : Int) < (heightsL xs).length := by rw [HHL.out]; omega
      have hi2 : (p2 : Int) < (heightsL xs).length := by rw [HHL.out]; omega
      have hi3 : p1 < (heightsL xs).length := by rw [HHL.out]; omega
      have hi4 : p2 < (heightsL xs).length := by rw [HHL.out]; omega
      obtain ⟨n1, hn⟩ : ∃ n, (heightsL xs).getD p1 0 = n := ⟨_, rfl⟩
      obtain ⟨n2, hm⟩ : ∃ n, (heightsL xs).getD p2 0 = n := ⟨_, rfl⟩
      have hR : rankP (heightsL xs) ((coversP xs).getD k (0, 0)) = (n2 == n1 + 1) := by rw [hP, rankP, hn, hm]
      rw [hn] at hh1 hn1
      rw [hm] at hh2
      have HR := hid hR
      have hn10 : n1 ≤ 10 := by omega
      have hw : IntKind.i64.wrap (n1 + 1) = n1 + 1 := IntWalk.i64_in _ (by omega)
      have HStep := hid (rankedN_step (hs := heightsL xs) hlt)
      clear hc0 hc1 hcb hch hb hu hP hn hm hR
      cases hq : (n2 == n1 + 1)
      · have hne : (n2 != n1 + 1) = true := by rw [bne, hq]; rfl
        have HNo : Hid (rankedB xs = false) := hid (rankedN_no hlt (by rw [HR.out]; exact hq))
        clear hq
        go_wp2_with fail
        go_quiet (fail)
        clear hw
        go_wp2
        go_ret
        exact ⟨ret_bool HNo.out.symm, below_drewN HB1.out _⟩
      · have hne : (n2 != n1 + 1) = false := by rw [bne, hq]; rfl
        have HYes : Hid (rankedN (heightsL xs) (coversP xs) (k + 1) = true) := hid (by rw [HStep.out, HK.out, HR.out, hq]; rfl)
        clear hq
        go_wp2_with fail
        go_quiet (fail)
        clear hw
        go_wp2
        go_roundw
        case rel => exact ⟨k + 1, by omega, by go_num, HYes, below_drewN HB1.out _, below_drewN HU1.out _⟩
        case measure => simp [intOf]; omega
    · have hk2 : k = (coversP xs).length := by omega
      have HY : Hid (rankedB xs = true) := hid (by rw [rankedB, ← hk2]; exact HK.out)
      clear hb hu hk2
      go_wp2
      go_ret
      exact ⟨ret_bool HY.out.symm, HB1.out⟩
set_option maxHeartbeats 1600000 in
theorem implIsRanked_any (v : Value) (xs : List Int) (w : World) (hv : Ints w v xs) (hl : xs.length ≤ 1048576) :
    Calls Tryz.prog 55 #[.agg #[v]] w fun r w' => r = .returned (.tuple #[.bool (ansIR xs), .bool (good xs)]) ∧ Below w.heap.size w w' := by
  have HV := hid hv
  clear hv
  go_enter Tryz.func55, Tryz.ntmps55
  have HB := hid (below_alloc (Below.refl _ w) (.cells #[v] 26))
  have A0 := hid (At.newAt w v 26 w.heap.size (by simp))
  go_wp2_with fail
  refine (implHeightsOf_any _ xs _ (HV.out.below HB.out) hl).mono ?_
  rintro e w' ⟨u, rfl, ho, hlh, hb⟩
  replace HB := hid (below_to HB.out hb)
  replace A0 := hid (A0.out.below hb)
  clear hb
  have HH := hid ho.ints
  obtain ⟨uA, un, uc, rfl⟩ := ho.shape3
  clear ho
  cases hq : good xs
  · have HQ := hid hq
    clear hq
    have ebox0 := A0.out.1
    go_wp2
    go_ret2
    exact ⟨ret_bb (ansIR_no HQ.out).symm HQ.out.symm, HB.out⟩
  · have HQ := hid hq
    have HAn := hid (ansIR_yes hq)
    clear hq
    have ebox0 := A0.out.1
    go_wp2_with fail
    clear ebox0
    refine (implCoversP_any _ xs _ (HV.out.below HB.out) hl).mono ?_
    rintro e w' ⟨q, rfl, hp, hb⟩
    replace HB := hid (below_to HB.out hb)
    replace A0 := hid (A0.out.below hb)
    replace HH := hid (HH.out.below hb)
    clear hb
    have HP := hid hp
    clear hp
    obtain ⟨hA, hc, hEq, hAA⟩ := HH.out
    cases hEq
    have HAA := hid hAA
    obtain ⟨pA, pc, rfl, hPA⟩ := HP.out.shape
    have HPA := hid hPA
    have hhl := heights_len HQ.out
    have HHL := hid hhl
    have HW := hid (Below.refl w'.heap.size w')
    clear hAA hPA hhl
    have ebox0 := A0.out.1
    go_wp2
    go_loopw [24] (fun i wr => ∃ k : Nat, k ≤ (coversP xs).length ∧ i = .int .i64 k ∧ Hid (rankedN (heightsL xs) (coversP xs) k = true) ∧ Below w.heap.size w wr ∧ Below w'.heap.size w' wr) (fun i _ => (coversP xs).length - (intOf i).toNat)
    case atStart => exact ⟨0, Nat.zero_le _, rfl, hid rfl, HB.out, HW.out⟩
    case round =>
      obtain ⟨k, hk, rfl, HK, hb, hu⟩ := hrel
      have HB1 := hid hb
      have HU1 := hid hu
      by_cases hlt : k < (coversP xs).length
      · obtain ⟨b, g, rfl, hbl, hgl, hcb, hc0, hc1⟩ := HPA.out k hlt
        have hcb' : wr.cell? ⟨b, k, none⟩ = some (.slice (some ⟨g, 0, none⟩) 2 2) := (hu.cell (p := ⟨b, k, none⟩) hbl).trans hcb
        have hc0' : wr.cell? ⟨g, 0, none⟩ = some (.int .i64 (((coversP xs).getD k (0, 0)).1 : Nat)) := (hu.cell (p := ⟨g, 0, none⟩) hgl).trans hc0
        have hc1' : wr.cell? ⟨g, 1, none⟩ = some (.int .i64 (((coversP xs).getD k (0, 0)).2 : Nat)) := (hu.cell (p := ⟨g, 1, none⟩) hgl).trans hc1
        have hbd := coversP_bound HQ.out hlt
        obtain ⟨P, hP⟩ : ∃ P, (coversP xs).getD k (0, 0) = P := ⟨_, rfl⟩
        rw [hP] at hc0' hc1' hbd
        obtain ⟨p1, p2⟩ := P
        simp only at hc0' hc1' hbd
        obtain ⟨bh, oh, rfl, hbhl, hch⟩ := HAA.out (by intro h; have := HHL.out; rw [h] at this; simp at this; omega)
        have hh1 : wr.cell? ⟨bh, oh + p1, none⟩ = some (.int .i64 ((heightsL xs).getD p1 0)) := (hu.cell (p := ⟨bh, oh + p1, none⟩) hbhl).trans (hch p1 (by rw [HHL.out]; exact hbd.1))
        have hh2 : wr.cell? ⟨bh, oh + p2, none⟩ = some (.int .i64 ((heightsL xs).getD p2 0)) := (hu.cell (p := ⟨bh, oh + p2, none⟩) hbhl).trans (hch p2 (by rw [HHL.out]; exact hbd.2))
        have hn1 := heights_bound HQ.out p1
        have hl10 := (good_length HQ.out).2
        have hcl := coversP_length xs
        have hi1 : (p1 : Int) < (heightsL xs).length := by rw [HHL.out]; omega
        have hi2 : (p2 : Int) < (heightsL xs).length := by rw [HHL.out]; omega
        have hi3 : p1 < (heightsL xs).length := by rw [HHL.out]; omega
        have hi4 : p2 < (heightsL xs).length := by rw [HHL.out]; omega
        obtain ⟨n1, hn⟩ : ∃ n, (heightsL xs).getD p1 0 = n := ⟨_, rfl⟩
        obtain ⟨n2, hm⟩ : ∃ n, (heightsL xs).getD p2 0 = n := ⟨_, rfl⟩
        have hR : rankP (heightsL xs) ((coversP xs).getD k (0, 0)) = (n2 == n1 + 1) := by rw [hP, rankP, hn, hm]
        rw [hn] at hh1 hn1
        rw [hm] at hh2
        have HR := hid hR
        have hn10 : n1 ≤ 10 := by omega
        have hw : IntKind.i64.wrap (n1 + 1) = n1 + 1 := IntWalk.i64_in _ (by omega)
        have HStep := hid (rankedN_step (hs := heightsL xs) hlt)
        clear hc0 hc1 hcb hch hb hu hP hn hm hR
        cases hq : (n2 == n1 + 1)
        · have hne : (n2 != n1 + 1) = true := by rw [bne, hq]; rfl
          have HNo : Hid (rankedB xs = false) := hid (rankedN_no hlt (by rw [HR.out]; exact hq))
          clear hq
          go_wp2_with fail
          go_quiet (fail)
          clear hw
          go_wp2
          go_ret2
          exact ⟨ret_bb (by rw [HAn.out, HNo.out]) HQ.out.symm, below_drewN HB1.out _⟩
        · have hne : (n2 != n1 + 1) = false := by rw [bne, hq]; rfl
          have HYes : Hid (rankedN (heightsL xs) (coversP xs) (k + 1) = true) := hid (by rw [HStep.out, HK.out, HR.out, hq]; rfl)
          clear hq
          go_wp2_with fail
          go_quiet (fail)
          clear hw
          go_wp2
          go_roundw
          case rel => exact ⟨k + 1, by omega, by go_num, HYes, below_drewN HB1.out _, below_drewN HU1.out _⟩
          case measure => simp [intOf]; omega
      · have hk2 : k = (coversP xs).length := by omega
        have HY : Hid (rankedB xs = true) := hid (by rw [rankedB, ← hk2]; exact HK.out)
        clear hb hu hk2
        go_wp2
        go_ret2
        exact ⟨ret_bb (by rw [HAn.out, HY.out]) HQ.out.symm, HB1.out⟩

end Go.Proofs.YtdemikjaghegnaaGreat

/- The model's cursor of draws: ranked posets, and an ideal of one. (by genck.py) -/
namespace Go.Proofs.YtdemikjaghegnaaGreat
open Go.RowKit Go.WideShapes Go.ChangeShapes
set_option linter.unusedVariables false

set_option maxHeartbeats 3200000 in
theorem ranked_any (g A most : Nat) (w : World) (h : Cur w g A) (hA : A < 700000000000) (hm1 : 1 ≤ most) (hm : most ≤ 10) :
    Calls Tryz.prog 68 #[.pointer (some ⟨g, 0, none⟩), .int .i64 most] w fun (r : Ending) w' => ∃ u xs, r = .returned (.agg #[u]) ∧ OwnI 3 w' w.heap.size u xs ∧ xs.length ≤ 21 ∧ Drawn w g (A + 1100) w' := by
  have HC := hid h
  have hgl := h.lt
  clear h
  go_enter Tryz.func68, Tryz.ntmps68
  go_wp2_with fail
  have HD0 := hid ((Drawn.mk HC.out (TurnedIn.refl _ _ _)).below (below_alloc (Below.refl _ w) (.cells #[.slice none 0 0] 26)))
  have HA0 := hid (Blk.new w 26 #[.slice none 0 0])
  refine (poset_any g A most _ HD0.out.cur (by omega) hm1 hm).mono ?_
  rintro e w1 ⟨u1, xs, rfl, ho, hl2, hd1⟩
  have HD1 := hid (Drawn.mk hd1.cur (HD0.out.turned.trans hd1.turned))
  have HA1 := hid (HA0.out.turned hd1.turned (Or.inr (by omega)))
  have HO1 := hid (ho.mono (show w.heap.size + 1 ≤ _ by simp))
  have hz1 : w.heap.size + 1 ≤ w1.heap.size := by have := hd1.turned.size; simpa using this
  clear ho hd1 HD0 HA0
  obtain ⟨B5, hB5⟩ : ∃ B5, w1.heap.size = B5 := ⟨_, rfl⟩
  obtain ⟨vA, vc, rfl, hv⟩ := HO1.out.shape
  clear hv
  have HD2 := hid (HD1.out.below (below_alloc (Below.refl _ w1) (.cells #[.slice vA xs.length vc] 26)))
  have HA2 := hid (HA1.out.alloc (.cells #[.slice vA xs.length vc] 26))
  have HB2 := hid (Blk.new w1 26 #[.slice vA xs.length vc])
  have HO2 := hid (HO1.out.alloc (.cells #[.slice vA xs.length vc] 26))
  rw [hB5] at HB2
  clear HD1 HA1 HO1
  go_wp2
  try rw [hB5]
  go_loopw [6] (fun i wr => ∃ (k : Nat) (ys : List Int) (v : Value), k ≤ 4 ∧ i = .int .i64 k ∧ ys.length ≤ 21 ∧ OwnI 3 wr (w.heap.size + 1) v ys ∧ Drawn w g (A + 210 + 200 * k) wr ∧ Blk wr w.heap.size 26 #[.slice none 0 0] ∧ Blk wr B5 26 #[v]) (fun i _ => 4 - (intOf i).toNat)
  case atStart => exact ⟨0, xs, _, by omega, rfl, hl2, HO2.out, HD2.out, HA2.out, HB2.out⟩
  case round =>
    obtain ⟨k, ys, v, hk, rfl, hys, ho, hd, ha, hb⟩ := hrel
    have HO9 := hid ho
    have HD9 := hid hd
    have HA9 := hid ha
    have HB9 := hid hb
    obtain ⟨vA, vc, rfl, -⟩ := ho.shape
    have hBl := hb.lt
    clear ho hd ha hb
    have t1 := HB9.out.cell 0
    by_cases hlt : k < 4
    · go_wp2_with fail
      refine (poGood_any _ ys _ HO9.out.ints (by omega)).mono ?_
      rintro e w3 ⟨rfl, hb3⟩
      have HO3 := hid (HO9.out.below hb3)
      have HD3 := hid (HD9.out.below hb3)
      have HA3 := hid (HA9.out.below hb3 HA9.out.lt)
      have HB3 := hid (HB9.out.below hb3 HB9.out.lt)
      clear hb3 t1 HO9 HD9 HA9 HB9
      have t3 := HB3.out.cell 0
      cases hg : good ys
      · skip
        have HO9 := HO3
        have HD9 := HD3
        have HA9 := HA3
        have HB9 := HB3
        go_wp2_with fail
        clear t3
        refine (one_any g (A + 210 + 200 * k) 4 _ HD9.out.cur (by omega)).mono ?_
        rintro e wa ⟨bo, rfl, hca, hta⟩
        have HDa := hid (Drawn.mk hca (HD9.out.turned.trans hta))
        have HAa := hid (HA9.out.turned hta (Or.inr (by omega)))
        have HBa := hid (HB9.out.turned hta (Or.inr (by omega)))
        have HOa := hid (HO9.out.turnedLow hta (by omega))
        clear hca hta
        cases bo
        · have tb := HBa.out.cell 0
          have a1 := HAa.out.cell 0
          have a2 := HAa.out.frozen 0
          go_wp2
          refine bodyPost_ret (v := .agg #[.slice vA ys.length vc]) (by simp [results, Tryz.results68, go_sem, a1]) rfl ⟨_, ys, rfl, HOa.out.box (Nat.le_refl _) _, hys, (HDa.out.box hgl _ (Nat.le_refl _) _).le (by omega)⟩
        · go_wp2_with fail
          refine (pick_any g ((A + 210 + 200 * k) + 2) 3 _ HDa.out.cur (by omega)).mono ?_
          rintro e wb ⟨m, hm3, rfl, hcb, htb⟩
          have HDb := hid (Drawn.mk hcb (HDa.out.turned.trans htb))
          have HAb := hid (HAa.out.turned htb (Or.inr (by omega)))
          have hzb : w.heap.size + 1 ≤ wb.heap.size := HAb.out.lt
          obtain ⟨a, ha⟩ : ∃ a : Nat, (1 : Int) + (m : Int) = a := ⟨1 + m, by omega⟩
          have HLa : Hid ((stcL a).length ≤ 21) := hid (by rcases (by omega : a = 1 ∨ a = 2 ∨ a = 3) with h | h | h <;> (rw [h]; decide))
          have ha3 : a ≤ 3 := by omega
          clear hcb htb
          go_wp2_with fail
          try rw [ha]
          refine (specStaircase_any a _ (wf_i64 _ (by omega) (by omega))).mono ?_
          rintro e wc ⟨u, rfl, ho, -, hbc⟩
          have HDc := hid (HDb.out.below hbc)
          have HAc := hid (HAb.out.below hbc (by omega))
          have HOc := hid ho
          obtain ⟨uA, un, uc, rfl⟩ := ho.shape3
          have hzc : w.heap.size + 1 ≤ wc.heap.size := HAc.out.lt
          clear ho hbc
          have HDd := hid (HDc.out.below (below_alloc (Below.refl _ wc) (.cells #[.slice uA un uc] 26)))
          have HOd := hid (HOc.out.alloc (.cells #[.slice uA un uc] 26))
          have HAd := HAc.out.alloc (.cells #[.slice uA un uc] 26)
          have t1 := HAd.cell 0
          have t2 := HAd.frozen 0
          have t3 := (Blk.new wc 26 #[.slice uA un uc]).cell 0
          clear HAd
          go_wp2
          refine bodyPost_ret (v := .agg #[.slice uA un uc]) (by simp [results, Tryz.results68, go_sem, t1]) rfl ⟨_, _, rfl, HOd.out.box hzb _, HLa.out, (HDd.out.box hgl _ (Nat.le_refl _) _).le (by omega)⟩
      · have HG := hid hg
        clear hg
        go_wp2_with fail
        refine (poRanked_any _ ys _ HO3.out.ints HG.out).mono ?_
        rintro e w4 ⟨rfl, hb4⟩
        have HO4 := hid (HO3.out.below hb4)
        have HD4 := hid (HD3.out.below hb4)
        have HA4 := hid (HA3.out.below hb4 HA3.out.lt)
        have HB4 := hid (HB3.out.below hb4 HB3.out.lt)
        clear hb4 t3 HO3 HD3 HA3 HB3
        have t4 := HB4.out.cell 0
        cases hr : rankedB ys
        · clear hr
          go_wp2_with fail
          refine (surePoset_any g (A + 210 + 200 * k) most _ HD4.out.cur (by omega) hm1 hm).mono ?_
          rintro e w5 ⟨u5, zs, rfl, ho5, hl5, hl6, hd5⟩
          have HD5 := hid (Drawn.mk hd5.cur (HD4.out.turned.trans hd5.turned))
          have HA5 := hid (HA4.out.turned hd5.turned (Or.inr (by omega)))
          have HB5 := hid (HB4.out.turned hd5.turned (Or.inr (by omega)))
          have HO5 := hid ho5
          have hz5 : B5 + 1 ≤ w4.heap.size := HB4.out.lt
          obtain ⟨uA, un, uc, rfl⟩ := ho5.shape3
          clear ho5 hd5 t4 HO4 HD4 HA4 HB4
          have t5 := HB5.out.cell 0
          have t6 := HB5.out.frozen 0
          go_wp2
          go_roundw
          case rel => exact ⟨k + 1, zs, _, by omega, by go_num, by omega, (HO5.out.turnedLow ((TurnedIn.refl B5 (B5 + 1) w5).set_ ⟨B5, 0, none⟩ ⟨Nat.le_refl _, Nat.lt_succ_self _⟩ _) (by omega)).mono (by omega), (HD5.out.box hgl ⟨B5, 0, none⟩ (by show w.heap.size ≤ B5; omega) _).le (by omega), HA5.out.far (p := ⟨B5, 0, none⟩) (by show w.heap.size ≠ B5; omega) _, HB5.out.set_ 0 _⟩
          case measure => simp [intOf] <;> omega
        · clear hr
          have HO9 := HO4
          have HD9 := HD4
          have HA9 := HA4
          have HB9 := HB4
          go_wp2_with fail
          clear t4
          refine (one_any g (A + 210 + 200 * k) 4 _ HD9.out.cur (by omega)).mono ?_
          rintro e wa ⟨bo, rfl, hca, hta⟩
          have HDa := hid (Drawn.mk hca (HD9.out.turned.trans hta))
          have HAa := hid (HA9.out.turned hta (Or.inr (by omega)))
          have HBa := hid (HB9.out.turned hta (Or.inr (by omega)))
          have HOa := hid (HO9.out.turnedLow hta (by omega))
          clear hca hta
          cases bo
          · have tb := HBa.out.cell 0
            have a1 := HAa.out.cell 0
            have a2 := HAa.out.frozen 0
            go_wp2
            refine bodyPost_ret (v := .agg #[.slice vA ys.length vc]) (by simp [results, Tryz.results68, go_sem, a1]) rfl ⟨_, ys, rfl, HOa.out.box (Nat.le_refl _) _, hys, (HDa.out.box hgl _ (Nat.le_refl _) _).le (by omega)⟩
          · go_wp2_with fail
            refine (pick_any g ((A + 210 + 200 * k) + 2) 3 _ HDa.out.cur (by omega)).mono ?_
            rintro e wb ⟨m, hm3, rfl, hcb, htb⟩
            have HDb := hid (Drawn.mk hcb (HDa.out.turned.trans htb))
            have HAb := hid (HAa.out.turned htb (Or.inr (by omega)))
            have hzb : w.heap.size + 1 ≤ wb.heap.size := HAb.out.lt
            obtain ⟨a, ha⟩ : ∃ a : Nat, (1 : Int) + (m : Int) = a := ⟨1 + m, by omega⟩
            have HLa : Hid ((stcL a).length ≤ 21) := hid (by rcases (by omega : a = 1 ∨ a = 2 ∨ a = 3) with h | h | h <;> (rw [h]; decide))
            have ha3 : a ≤ 3 := by omega
            clear hcb htb
            go_wp2_with fail
            try rw [ha]
            refine (specStaircase_any a _ (wf_i64 _ (by omega) (by omega))).mono ?_
            rintro e wc ⟨u, rfl, ho, -, hbc⟩
            have HDc := hid (HDb.out.below hbc)
            have HAc := hid (HAb.out.below hbc (by omega))
            have HOc := hid ho
            obtain ⟨uA, un, uc, rfl⟩ := ho.shape3
            have hzc : w.heap.size + 1 ≤ wc.heap.size := HAc.out.lt
            clear ho hbc
            have HDd := hid (HDc.out.below (below_alloc (Below.refl _ wc) (.cells #[.slice uA un uc] 26)))
            have HOd := hid (HOc.out.alloc (.cells #[.slice uA un uc] 26))
            have HAd := HAc.out.alloc (.cells #[.slice uA un uc] 26)
            have t1 := HAd.cell 0
            have t2 := HAd.frozen 0
            have t3 := (Blk.new wc 26 #[.slice uA un uc]).cell 0
            clear HAd
            go_wp2
            refine bodyPost_ret (v := .agg #[.slice uA un uc]) (by simp [results, Tryz.results68, go_sem, t1]) rfl ⟨_, _, rfl, HOd.out.box hzb _, HLa.out, (HDd.out.box hgl _ (Nat.le_refl _) _).le (by omega)⟩
    · go_wp2_with fail
      clear t1
      refine (one_any g (A + 210 + 200 * k) 4 _ HD9.out.cur (by omega)).mono ?_
      rintro e wa ⟨bo, rfl, hca, hta⟩
      have HDa := hid (Drawn.mk hca (HD9.out.turned.trans hta))
      have HAa := hid (HA9.out.turned hta (Or.inr (by omega)))
      have HBa := hid (HB9.out.turned hta (Or.inr (by omega)))
      have HOa := hid (HO9.out.turnedLow hta (by omega))
      clear hca hta
      cases bo
      · have tb := HBa.out.cell 0
        have a1 := HAa.out.cell 0
        have a2 := HAa.out.frozen 0
        go_wp2
        refine bodyPost_ret (v := .agg #[.slice vA ys.length vc]) (by simp [results, Tryz.results68, go_sem, a1]) rfl ⟨_, ys, rfl, HOa.out.box (Nat.le_refl _) _, hys, (HDa.out.box hgl _ (Nat.le_refl _) _).le (by omega)⟩
      · go_wp2_with fail
        refine (pick_any g ((A + 210 + 200 * k) + 2) 3 _ HDa.out.cur (by omega)).mono ?_
        rintro e wb ⟨m, hm3, rfl, hcb, htb⟩
        have HDb := hid (Drawn.mk hcb (HDa.out.turned.trans htb))
        have HAb := hid (HAa.out.turned htb (Or.inr (by omega)))
        have hzb : w.heap.size + 1 ≤ wb.heap.size := HAb.out.lt
        obtain ⟨a, ha⟩ : ∃ a : Nat, (1 : Int) + (m : Int) = a := ⟨1 + m, by omega⟩
        have HLa : Hid ((stcL a).length ≤ 21) := hid (by rcases (by omega : a = 1 ∨ a = 2 ∨ a = 3) with h | h | h <;> (rw [h]; decide))
        have ha3 : a ≤ 3 := by omega
        clear hcb htb
        go_wp2_with fail
        try rw [ha]
        refine (specStaircase_any a _ (wf_i64 _ (by omega) (by omega))).mono ?_
        rintro e wc ⟨u, rfl, ho, -, hbc⟩
        have HDc := hid (HDb.out.below hbc)
        have HAc := hid (HAb.out.below hbc (by omega))
        have HOc := hid ho
        obtain ⟨uA, un, uc, rfl⟩ := ho.shape3
        have hzc : w.heap.size + 1 ≤ wc.heap.size := HAc.out.lt
        clear ho hbc
        have HDd := hid (HDc.out.below (below_alloc (Below.refl _ wc) (.cells #[.slice uA un uc] 26)))
        have HOd := hid (HOc.out.alloc (.cells #[.slice uA un uc] 26))
        have HAd := HAc.out.alloc (.cells #[.slice uA un uc] 26)
        have t1 := HAd.cell 0
        have t2 := HAd.frozen 0
        have t3 := (Blk.new wc 26 #[.slice uA un uc]).cell 0
        clear HAd
        go_wp2
        refine bodyPost_ret (v := .agg #[.slice uA un uc]) (by simp [results, Tryz.results68, go_sem, t1]) rfl ⟨_, _, rfl, HOd.out.box hzb _, HLa.out, (HDd.out.box hgl _ (Nat.le_refl _) _).le (by omega)⟩
set_option maxHeartbeats 3200000 in
theorem rankedIdeal_any (g A most : Nat) (w : World) (h : Cur w g A) (hA : A < 600000000000) (hm1 : 1 ≤ most) (hm : most ≤ 10) :
    Calls Tryz.prog 49 #[.pointer (some ⟨g, 0, none⟩), .int .i64 most] w fun (r : Ending) w' => ∃ u xs s, r = .returned (.tuple #[.agg #[u], .int .i64 s]) ∧ (Lit.int .i64 s).wf = true ∧ OwnI 3 w' w.heap.size u xs ∧ xs.length ≤ 21 ∧ Drawn w g (A + 1130) w' := by
  have HC := hid h
  have hgl := h.lt
  clear h
  go_enter Tryz.func49, Tryz.ntmps49
  go_wp2_with fail
  have HD0 := hid ((Drawn.mk HC.out (TurnedIn.refl _ _ _)).below (below_alloc (Below.refl _ w) (.cells #[.slice none 0 0] 26)))
  have HA0 := hid (Blk.new w 26 #[.slice none 0 0])
  refine (ranked_any g A most _ HD0.out.cur (by omega) hm1 hm).mono ?_
  rintro e w1 ⟨u1, xs, rfl, ho, hl2, hd1⟩
  have HD1 := hid (Drawn.mk hd1.cur (HD0.out.turned.trans hd1.turned))
  have HA1 := hid (HA0.out.turned hd1.turned (Or.inr (by omega)))
  have HO1 := hid (ho.mono (show w.heap.size + 1 ≤ _ by simp))
  have hz1 : w.heap.size + 1 ≤ w1.heap.size := by have := hd1.turned.size; simpa using this
  clear ho hd1 HD0 HA0
  obtain ⟨B6, hB6⟩ : ∃ B6, w1.heap.size = B6 := ⟨_, rfl⟩
  obtain ⟨vA, vc, rfl, hv⟩ := HO1.out.shape
  clear hv
  have HD2 := hid (HD1.out.below (below_alloc (Below.refl _ w1) (.cells #[.slice vA xs.length vc] 26)))
  have HA2 := hid (HA1.out.alloc (.cells #[.slice vA xs.length vc] 26))
  have HB2 := hid (Blk.new w1 26 #[.slice vA xs.length vc])
  have HO2 := hid (HO1.out.alloc (.cells #[.slice vA xs.length vc] 26))
  have hbox := (Blk.new w1 26 #[.slice vA xs.length vc]).cell 0
  go_wp2_with fail
  clear hbox HD1 HA1 HO1
  rw [hB6] at HB2
  refine (setOf_any g (A + 1100) _ xs _ HD2.out.cur (by omega) HO2.out.ints (by omega)).mono ?_
  rintro e w3 ⟨s, hwf, rfl, hd3⟩
  have HD3 := hid (Drawn.mk hd3.cur (HD2.out.turned.trans hd3.turned))
  have HA3 := hid (HA2.out.turned hd3.turned (Or.inr (by omega)))
  have HB3 := hid (HB2.out.turned hd3.turned (Or.inr (by omega)))
  have HO3 := hid (HO2.out.turnedLow hd3.turned (by omega))
  have HW := hid hwf
  clear hd3 hwf HD2 HA2 HB2 HO2
  have t3 := HB3.out.cell 0
  go_wp2_with fail
  refine (poGood_any _ xs _ HO3.out.ints (by omega)).mono ?_
  rintro e w4 ⟨rfl, hb4⟩
  have HD4 := hid (HD3.out.below hb4)
  have HA4 := hid (HA3.out.below hb4 HA3.out.lt)
  have HB4 := hid (HB3.out.below hb4 HB3.out.lt)
  have HO4 := hid (HO3.out.below hb4)
  clear hb4 HD3 HA3 HB3 HO3 t3
  have t4 := HB4.out.cell 0
  cases hg : good xs
  · skip
    have a1 := HA4.out.cell 0
    have a2 := HA4.out.frozen 0
    go_wp2
    refine bodyPost_ret (v := .tuple #[.agg #[.slice vA xs.length vc], .int .i64 s]) (by simp [results, Tryz.results49, go_sem, a1]) rfl ⟨_, xs, _, rfl, HW.out, HO4.out.box (Nat.le_refl _) _, hl2, (HD4.out.box hgl _ (Nat.le_refl _) _).le (by omega)⟩
  · have HG := hid hg
    have hl10 := (good_length hg).2
    clear hg
    go_wp2_with fail
    refine (poSet_any _ xs s _ HO4.out.ints hl10).mono ?_
    rintro e w5 ⟨rfl, hb5⟩
    have HD5 := hid (HD4.out.below hb5)
    have HA5 := hid (HA4.out.below hb5 HA4.out.lt)
    have HB5 := hid (HB4.out.below hb5 HB4.out.lt)
    have HO5 := hid (HO4.out.below hb5)
    clear hb5 HD4 HA4 HB4 HO4 t4
    have t5 := HB5.out.cell 0
    cases hs : (decide (0 ≤ s) && decide (s ≤ (2 ^ xs.length - 1 : Nat)))
    · clear hs
      have a1 := HA5.out.cell 0
      have a2 := HA5.out.frozen 0
      go_wp2
      refine bodyPost_ret (v := .tuple #[.agg #[.slice vA xs.length vc], .int .i64 s]) (by simp [results, Tryz.results49, go_sem, a1]) rfl ⟨_, xs, _, rfl, HW.out, HO5.out.box (Nat.le_refl _) _, hl2, (HD5.out.box hgl _ (Nat.le_refl _) _).le (by omega)⟩
    · simp only [Bool.and_eq_true, decide_eq_true_eq] at hs
      obtain ⟨S, rfl⟩ := Int.eq_ofNat_of_zero_le hs.1
      have h2n := two_pow_le xs.length hl10
      have hS : S < 1024 := by omega
      clear hs h2n
      go_wp2_with fail
      refine (one_any g (A + 1110) 12 _ HD5.out.cur (by omega)).mono ?_
      rintro e w6 ⟨b, rfl, hc6, ht6⟩
      have HD6 := hid (Drawn.mk hc6 (HD5.out.turned.trans ht6))
      have HA6 := hid (HA5.out.turned ht6 (Or.inr (by omega)))
      have HB6 := hid (HB5.out.turned ht6 (Or.inr (by omega)))
      have HO6 := hid (HO5.out.turnedLow ht6 (by omega))
      clear hc6 ht6 HD5 HA5 HB5 HO5 t5
      have t6 := HB6.out.cell 0
      cases b
      · go_wp2
        have HI6 : Hid (IW 3 26 w g (A + 1112) B6 (.slice vA xs.length vc) xs w6) := hid ⟨HD6.out, HA6.out, HB6.out, HO6.out⟩
        have hB6g : w.heap.size < B6 := by omega
        clear HD6 HA6 HB6 HO6
        go_region_held3 (fun W => W.cell? ⟨B6, 0, none⟩ = some (.slice vA xs.length vc) ∧ Hid (∃ a, (W = w6.drew ∧ a = 1112 ∨ a = 1122) ∧ IW 3 26 w g (A + a) B6 (.slice vA xs.length vc) xs W)) (first | exact ⟨t6, hid ⟨1112, Or.inl ⟨rfl, rfl⟩, HI6.out.below (below_drewN (Below.refl _ _) 1)⟩⟩ | exact ⟨HI8.out.2.2.1.cell 0, hid ⟨1122, Or.inr rfl, HI8.out⟩⟩ | exact ⟨HI9.out.2.2.1.cell 0, hid ⟨1122, Or.inr rfl, HI9.out⟩⟩ | exact ⟨HI10.out.2.2.1.cell 0, hid ⟨1122, Or.inr rfl, HI10.out⟩⟩) (first | (go_at_call 95; refine (setOf_any g (A + 1112) _ xs _ (HI6.out.below (below_drewN (Below.refl _ _) 1)).1.cur (by omega) (HI6.out.below (below_drewN (Below.refl _ _) 1)).2.2.2.ints (by omega)).mono ?_; rintro e w8 ⟨s2, hwf2, rfl, hd8⟩; have HI8 := hid ((HI6.out.below (below_drewN (Below.refl _ _) 1)).drawn hd8 hgl hB6g); obtain ⟨n8, hn8, he8⟩ := and_sub S hS s2; clear hd8 hwf2) | (go_at_call 99; refine (poTop_any _ xs n8 _ HI8.out.2.2.2.ints hl10 (by omega) (good_small HG.out _)).mono ?_; rintro e w9 ⟨rfl, hb9⟩; have HI9 := hid (HI8.out.below hb9); have htl := top_lt (xs := xs) (show n8 < 1024 by omega); clear hb9) | (go_at_call 98; refine (poDown_any _ xs (top xs n8) _ HI9.out.2.2.2.ints hl10 htl (good_small HG.out _)).mono ?_; rintro e w10 ⟨rfl, hb10⟩; have HI10 := hid (HI9.out.below hb10); clear hb10))
        have hdl : down xs (top xs n8) < 1024 := Nat.or_lt_two_pow (n := 10) htl (underN_lt xs _ (good_small HG.out _) _ (Nat.le_refl _))
        obtain ⟨z, hz⟩ : ∃ z, down xs (top xs n8) = z := ⟨_, rfl⟩
        rw [hz] at hdl ⊢
        have a0 := HI10.out.2.2.1.cell 0
        have a1 := HI10.out.2.1.cell 0
        have a2 := HI10.out.2.1.frozen 0
        go_wp2
        refine bodyPost_ret (v := .tuple #[.agg #[.slice vA xs.length vc], .int .i64 z]) (by simp [results, Tryz.results49, go_sem, a1]) rfl ⟨_, xs, _, rfl, wf_i64 _ (by omega) (by omega), HI10.out.2.2.2.box (Nat.le_refl _) _, hl2, (HI10.out.1.box hgl _ (Nat.le_refl _) _).le (by omega)⟩
      · skip
        have a1 := HA6.out.cell 0
        have a2 := HA6.out.frozen 0
        go_wp2
        refine bodyPost_ret (v := .tuple #[.agg #[.slice vA xs.length vc], .int .i64 S]) (by simp [results, Tryz.results49, go_sem, a1]) rfl ⟨_, xs, _, rfl, HW.out, HO6.out.box (Nat.le_refl _) _, hl2, (HD6.out.box hgl _ (Nat.le_refl _) _).le (by omega)⟩
end Go.Proofs.YtdemikjaghegnaaGreat
