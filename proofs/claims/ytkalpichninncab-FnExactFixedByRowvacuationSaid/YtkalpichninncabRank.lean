/- IsRanked. -/
import Derived.Test.YtkalpichninncabCovers
import Derived.Test.YtkalpichninncabHeights
import Derived.Test.YtkalpichninncabApi
namespace Go.Proofs.Ytkalpichninncab
open Go.RowKit Go.WideShapes Go.ChangeShapes
set_option linter.unusedVariables false

def rankP (hs : List Int) (p : Nat × Nat) : Bool := hs.getD p.2 0 == hs.getD p.1 0 + 1
def rankedN (hs : List Int) (ps : List (Nat × Nat)) (k : Nat) : Bool := (ps.take k).all (rankP hs)
def rankedB (xs : List Int) : Bool := rankedN (heightsL xs) (coversP xs) (coversP xs).length
def ansIR (xs : List Int) : Bool := good xs && rankedB xs
theorem ansIR_no {xs : List Int} (h : good xs = false) : ansIR xs = false := by simp [ansIR, h]
theorem ansIR_yes {xs : List Int} (h : good xs = true) : ansIR xs = rankedB xs := by simp [ansIR, h]
theorem rankedN_step {hs : List Int} {ps : List (Nat × Nat)} {k : Nat} (hk : k < ps.length) : rankedN hs ps (k + 1) = (rankedN hs ps k && rankP hs (ps.getD k (0, 0))) := by
  have e : ps.take (k + 1) = ps.take k ++ [ps.getD k (0, 0)] := by
    rw [List.take_succ_eq_append_getElem hk]; simp [List.getD, hk]
  unfold rankedN
  rw [e, List.all_append]
  simp
theorem rankedN_no {hs : List Int} {ps : List (Nat × Nat)} {k : Nat} (hk : k < ps.length) (h : rankP hs (ps.getD k (0, 0)) = false) : rankedN hs ps ps.length = false := by
  rw [Bool.eq_false_iff]
  intro hc
  unfold rankedN at hc
  rw [List.take_length] at hc
  have := List.all_eq_true.1 hc (ps.getD k (0, 0)) (by simp [List.getD, hk])
  rw [h] at this; cases this
theorem covIn_bound {xs : List Int} {j : Nat} (i : Nat) : ∀ p ∈ covIn xs j i, p.1 = j ∧ p.2 < i := by
  induction i with
  | zero => simp [covIn]
  | succ i ih =>
    intro p hp
    unfold covIn at hp
    split at hp
    · rw [List.mem_append, List.mem_singleton] at hp
      rcases hp with hp | hp
      · have := ih p hp; omega
      · subst hp; exact ⟨rfl, Nat.lt_succ_self _⟩
    · have := ih p hp; omega
theorem covPS_bound {xs : List Int} {n : Nat} (j : Nat) : ∀ p ∈ covPS xs n j, p.1 < j ∧ p.2 < n := by
  induction j with
  | zero => simp [covPS]
  | succ j ih =>
    intro p hp
    unfold covPS at hp
    rw [List.mem_append] at hp
    rcases hp with hp | hp
    · have := ih p hp; omega
    · have := covIn_bound n p hp; omega
theorem coversP_bound {xs : List Int} {k : Nat} (hg : good xs = true) (hk : k < (coversP xs).length) : ((coversP xs).getD k (0, 0)).1 < xs.length ∧ ((coversP xs).getD k (0, 0)).2 < xs.length := by
  have h : (coversP xs).getD k (0, 0) ∈ coversP xs := by simp [List.getD, hk]
  rw [coversP_yes hg] at h ⊢
  exact covPS_bound _ _ h
theorem heights_bound {xs : List Int} (hg : good xs = true) (e : Nat) : 0 ≤ (heightsL xs).getD e 0 ∧ (heightsL xs).getD e 0 ≤ e := by
  rw [heightsL_yes hg]
  exact (HB_out xs xs.length xs.length (Nat.le_refl _)).2 e
theorem heights_len {xs : List Int} (hg : good xs = true) : (heightsL xs).length = xs.length := by
  rw [heightsL_yes hg]
  exact (HB_out xs xs.length xs.length (Nat.le_refl _)).1
set_option maxHeartbeats 1600000 in
theorem poRanked_any (v : Value) (xs : List Int) (w : World) (hv : Ints w v xs) (hg : good xs = true) :
    Calls Try.prog 56 #[.agg #[v]] w fun r w' => r = .returned (.bool (rankedB xs)) ∧ Below w.heap.size w w' := by
  have HV := hid hv
  have HQ := hid hg
  clear hv hg
  go_enter Try.func56, Try.ntmps56
  have HB := hid (below_alloc (Below.refl _ w) (.cells #[v] 28))
  have A0 := hid (At.newAt w v 28 w.heap.size (by simp))
  go_wp2_with fail
  refine (poHeights_any _ xs _ (HV.out.below HB.out) HQ.out).mono ?_
  rintro e w' ⟨u, rfl, ho, hb⟩
  replace HB := hid (below_to HB.out hb)
  replace A0 := hid (A0.out.below hb)
  clear hb
  have HH := hid ho.ints
  obtain ⟨uA, un, uc, rfl⟩ := ho.shape3
  clear ho
  have ebox0 := A0.out.1
  go_wp2_with fail
  clear ebox0
  refine (poPairs_any _ xs _ (HV.out.below HB.out) HQ.out).mono ?_
  rintro e w' ⟨q, rfl, hp, hb⟩
  replace HB := hid (below_to HB.out hb)
  replace A0 := hid (A0.out.below hb)
  replace HH := hid (HH.out.below hb)
  clear hb
  rw [← coversP_yes HQ.out] at hp
  have HP := hid hp
  clear hp
  obtain ⟨hA, hc, hEq, hAA⟩ := HH.out
  cases hEq
  have HAA := hid hAA
  obtain ⟨pA, pc, rfl, hPA⟩ := HP.out.shape
  have HPA := hid hPA
  have hhl := heights_len HQ.out
  have HHL := hid hhl
  have HW := hid (Below.refl w'.heap.size w')
  clear hAA hPA hhl
  have ebox0 := A0.out.1
  go_wp2
  go_loopw [11] (fun i wr => ∃ k : Nat, k ≤ (coversP xs).length ∧ i = .int .i64 k ∧ Hid (rankedN (heightsL xs) (coversP xs) k = true) ∧ Below w.heap.size w wr ∧ Below w'.heap.size w' wr) (fun i _ => (coversP xs).length - (intOf i).toNat)
  case atStart => exact ⟨0, Nat.zero_le _, rfl, hid rfl, HB.out, HW.out⟩
  case round =>
    obtain ⟨k, hk, rfl, HK, hb, hu⟩ := hrel
    have HB1 := hid hb
    have HU1 := hid hu
    by_cases hlt : k < (coversP xs).length
    · obtain ⟨b, g, rfl, hbl, hgl, hcb, hc0, hc1⟩ := HPA.out k hlt
      have hcb' : wr.cell? ⟨b, k, none⟩ = some (.slice (some ⟨g, 0, none⟩) 2 2) := (hu.cell (p := ⟨b, k, none⟩) hbl).trans hcb
      have hc0' : wr.cell? ⟨g, 0, none⟩ = some (.int .i64 (((coversP xs).getD k (0, 0)).1 : Nat)) := (hu.cell (p := ⟨g, 0, none⟩) hgl).trans hc0
      have hc1' : wr.cell? ⟨g, 1, none⟩ = some (.int .i64 (((coversP xs).getD k (0, 0)).2 : Nat)) := (hu.cell (p := ⟨g, 1, none⟩) hgl).trans hc1
      have hbd := coversP_bound HQ.out hlt
      obtain ⟨P, hP⟩ : ∃ P, (coversP xs).getD k (0, 0) = P := ⟨_, rfl⟩
      rw [hP] at hc0' hc1' hbd
      obtain ⟨p1, p2⟩ := P
      simp only at hc0' hc1' hbd
      obtain ⟨bh, oh, rfl, hbhl, hch⟩ := HAA.out (by intro h; have := HHL.out; rw [h] at this; simp at this; omega)
      have hh1 : wr.cell? ⟨bh, oh + p1, none⟩ = some (.int .i64 ((heightsL xs).getD p1 0)) := (hu.cell (p := ⟨bh, oh + p1, none⟩) hbhl).trans (hch p1 (by rw [HHL.out]; exact hbd.1))
      have hh2 : wr.cell? ⟨bh, oh + p2, none⟩ = some (.int .i64 ((heightsL xs).getD p2 0)) := (hu.cell (p := ⟨bh, oh + p2, none⟩) hbhl).trans (hch p2 (by rw [HHL.out]; exact hbd.2))
      have hn1 := heights_bound HQ.out p1
      have hl10 := (good_length HQ.out).2
      have hcl := coversP_length xs
      have hi1 : (p1 : Int) < (heightsL xs).length := by rw [HHL.out]; omega
      have hi2 : (p2 : Int) < (heightsL xs).length := by rw [HHL.out]; omega
      have hi3 : p1 < (heightsL xs).length := by rw [HHL.out]; omega
      have hi4 : p2 < (heightsL xs).length := by rw [HHL.out]; omega
      obtain ⟨n1, hn⟩ : ∃ n, (heightsL xs).getD p1 0 = n := ⟨_, rfl⟩
      obtain ⟨n2, hm⟩ : ∃ n, (heightsL xs).getD p2 0 = n := ⟨_, rfl⟩
      have hR : rankP (heightsL xs) ((coversP xs).getD k (0, 0)) = (n2 == n1 + 1) := by rw [hP, rankP, hn, hm]
      rw [hn] at hh1 hn1
      rw [hm] at hh2
      have HR := hid hR
      have hn10 : n1 ≤ 10 := by omega
      have hw : IntKind.i64.wrap (n1 + 1) = n1 + 1 := IntWalk.i64_in _ (by omega)
      have HStep := hid (rankedN_step (hs := heightsL xs) hlt)
      clear hc0 hc1 hcb hch hb hu hP hn hm hR
      cases hq : (n2 == n1 + 1)
      · have hne : (n2 != n1 + 1) = true := by rw [bne, hq]; rfl
        have HNo : Hid (rankedB xs = false) := hid (rankedN_no hlt (by rw [HR.out]; exact hq))
        clear hq
        go_wp2_with fail
        go_quiet (fail)
        clear hw
        go_wp2
        go_ret
        exact ⟨ret_bool HNo.out.symm, below_drewN HB1.out _⟩
      · have hne : (n2 != n1 + 1) = false := by rw [bne, hq]; rfl
        have HYes : Hid (rankedN (heightsL xs) (coversP xs) (k + 1) = true) := hid (by rw [HStep.out, HK.out, HR.out, hq]; rfl)
        clear hq
        go_wp2_with fail
        go_quiet (fail)
        clear hw
        go_wp2
        go_roundw
        case rel => exact ⟨k + 1, by omega, by go_num, HYes, below_drewN HB1.out _, below_drewN HU1.out _⟩
        case measure => simp [intOf]; omega
    · have hk2 : k = (coversP xs).length := by omega
      have HY : Hid (rankedB xs = true) := hid (by rw [rankedB, ← hk2]; exact HK.out)
      clear hb hu hk2
      go_wp2
      go_ret
      exact ⟨ret_bool HY.out.symm, HB1.out⟩
set_option maxHeartbeats 1600000 in
theorem implIsRanked_any (v : Value) (xs : List Int) (w : World) (hv : Ints w v xs) (hl : xs.length ≤ 1048576) :
    Calls Try.prog 58 #[.agg #[v]] w fun r w' => r = .returned (.tuple #[.bool (ansIR xs), .bool (good xs)]) ∧ Below w.heap.size w w' := by
  have HV := hid hv
  clear hv
  go_enter Try.func58, Try.ntmps58
  have HB := hid (below_alloc (Below.refl _ w) (.cells #[v] 28))
  have A0 := hid (At.newAt w v 28 w.heap.size (by simp))
  go_wp2_with fail
  refine (implHeightsOf_any _ xs _ (HV.out.below HB.out) hl).mono ?_
  rintro e w' ⟨u, rfl, ho, hlh, hb⟩
  replace HB := hid (below_to HB.out hb)
  replace A0 := hid (A0.out.below hb)
  clear hb
  have HH := hid ho.ints
  obtain ⟨uA, un, uc, rfl⟩ := ho.shape3
  clear ho
  cases hq : good xs
  · have HQ := hid hq
    clear hq
    have ebox0 := A0.out.1
    go_wp2
    go_ret2
    exact ⟨ret_bb (ansIR_no HQ.out).symm HQ.out.symm, HB.out⟩
  · have HQ := hid hq
    have HAn := hid (ansIR_yes hq)
    clear hq
    have ebox0 := A0.out.1
    go_wp2_with fail
    clear ebox0
    refine (implCoversP_any _ xs _ (HV.out.below HB.out) hl).mono ?_
    rintro e w' ⟨q, rfl, hp, hb⟩
    replace HB := hid (below_to HB.out hb)
    replace A0 := hid (A0.out.below hb)
    replace HH := hid (HH.out.below hb)
    clear hb
    have HP := hid hp
    clear hp
    obtain ⟨hA, hc, hEq, hAA⟩ := HH.out
    cases hEq
    have HAA := hid hAA
    obtain ⟨pA, pc, rfl, hPA⟩ := HP.out.shape
    have HPA := hid hPA
    have hhl := heights_len HQ.out
    have HHL := hid hhl
    have HW := hid (Below.refl w'.heap.size w')
    clear hAA hPA hhl
    have ebox0 := A0.out.1
    go_wp2
    go_loopw [24] (fun i wr => ∃ k : Nat, k ≤ (coversP xs).length ∧ i = .int .i64 k ∧ Hid (rankedN (heightsL xs) (coversP xs) k = true) ∧ Below w.heap.size w wr ∧ Below w'.heap.size w' wr) (fun i _ => (coversP xs).length - (intOf i).toNat)
    case atStart => exact ⟨0, Nat.zero_le _, rfl, hid rfl, HB.out, HW.out⟩
    case round =>
      obtain ⟨k, hk, rfl, HK, hb, hu⟩ := hrel
      have HB1 := hid hb
      have HU1 := hid hu
      by_cases hlt : k < (coversP xs).length
      · obtain ⟨b, g, rfl, hbl, hgl, hcb, hc0, hc1⟩ := HPA.out k hlt
        have hcb' : wr.cell? ⟨b, k, none⟩ = some (.slice (some ⟨g, 0, none⟩) 2 2) := (hu.cell (p := ⟨b, k, none⟩) hbl).trans hcb
        have hc0' : wr.cell? ⟨g, 0, none⟩ = some (.int .i64 (((coversP xs).getD k (0, 0)).1 : Nat)) := (hu.cell (p := ⟨g, 0, none⟩) hgl).trans hc0
        have hc1' : wr.cell? ⟨g, 1, none⟩ = some (.int .i64 (((coversP xs).getD k (0, 0)).2 : Nat)) := (hu.cell (p := ⟨g, 1, none⟩) hgl).trans hc1
        have hbd := coversP_bound HQ.out hlt
        obtain ⟨P, hP⟩ : ∃ P, (coversP xs).getD k (0, 0) = P := ⟨_, rfl⟩
        rw [hP] at hc0' hc1' hbd
        obtain ⟨p1, p2⟩ := P
        simp only at hc0' hc1' hbd
        obtain ⟨bh, oh, rfl, hbhl, hch⟩ := HAA.out (by intro h; have := HHL.out; rw [h] at this; simp at this; omega)
        have hh1 : wr.cell? ⟨bh, oh + p1, none⟩ = some (.int .i64 ((heightsL xs).getD p1 0)) := (hu.cell (p := ⟨bh, oh + p1, none⟩) hbhl).trans (hch p1 (by rw [HHL.out]; exact hbd.1))
        have hh2 : wr.cell? ⟨bh, oh + p2, none⟩ = some (.int .i64 ((heightsL xs).getD p2 0)) := (hu.cell (p := ⟨bh, oh + p2, none⟩) hbhl).trans (hch p2 (by rw [HHL.out]; exact hbd.2))
        have hn1 := heights_bound HQ.out p1
        have hl10 := (good_length HQ.out).2
        have hcl := coversP_length xs
        have hi1 : (p1 : Int) < (heightsL xs).length := by rw [HHL.out]; omega
        have hi2 : (p2 : Int) < (heightsL xs).length := by rw [HHL.out]; omega
        have hi3 : p1 < (heightsL xs).length := by rw [HHL.out]; omega
        have hi4 : p2 < (heightsL xs).length := by rw [HHL.out]; omega
        obtain ⟨n1, hn⟩ : ∃ n, (heightsL xs).getD p1 0 = n := ⟨_, rfl⟩
        obtain ⟨n2, hm⟩ : ∃ n, (heightsL xs).getD p2 0 = n := ⟨_, rfl⟩
        have hR : rankP (heightsL xs) ((coversP xs).getD k (0, 0)) = (n2 == n1 + 1) := by rw [hP, rankP, hn, hm]
        rw [hn] at hh1 hn1
        rw [hm] at hh2
        have HR := hid hR
        have hn10 : n1 ≤ 10 := by omega
        have hw : IntKind.i64.wrap (n1 + 1) = n1 + 1 := IntWalk.i64_in _ (by omega)
        have HStep := hid (rankedN_step (hs := heightsL xs) hlt)
        clear hc0 hc1 hcb hch hb hu hP hn hm hR
        cases hq : (n2 == n1 + 1)
        · have hne : (n2 != n1 + 1) = true := by rw [bne, hq]; rfl
          have HNo : Hid (rankedB xs = false) := hid (rankedN_no hlt (by rw [HR.out]; exact hq))
          clear hq
          go_wp2_with fail
          go_quiet (fail)
          clear hw
          go_wp2
          go_ret2
          exact ⟨ret_bb (by rw [HAn.out, HNo.out]) HQ.out.symm, below_drewN HB1.out _⟩
        · have hne : (n2 != n1 + 1) = false := by rw [bne, hq]; rfl
          have HYes : Hid (rankedN (heightsL xs) (coversP xs) (k + 1) = true) := hid (by rw [HStep.out, HK.out, HR.out, hq]; rfl)
          clear hq
          go_wp2_with fail
          go_quiet (fail)
          clear hw
          go_wp2
          go_roundw
          case rel => exact ⟨k + 1, by omega, by go_num, HYes, below_drewN HB1.out _, below_drewN HU1.out _⟩
          case measure => simp [intOf]; omega
      · have hk2 : k = (coversP xs).length := by omega
        have HY : Hid (rankedB xs = true) := hid (by rw [rankedB, ← hk2]; exact HK.out)
        clear hb hu hk2
        go_wp2
        go_ret2
        exact ⟨ret_bb (by rw [HAn.out, HY.out]) HQ.out.symm, HB1.out⟩

end Go.Proofs.Ytkalpichninncab
