/- Rank Comm RvM -/
import Derived.Test.YtbmhaamenjhjfaaGreatDoorPkD08
namespace Go.Proofs.YtbmhaamenjhjfaaGreatDoor
open Go.RowKit Go.WideShapes Go.ChangeShapes
set_option linter.unusedVariables false
def rankP (hs : List Int) (p : Nat × Nat) : Bool := hs.getD p.2 0 == hs.getD p.1 0 + 1
def rankedN (hs : List Int) (ps : List (Nat × Nat)) (k : Nat) : Bool := (ps.take k).all (rankP hs)
def rankedB (xs : List Int) : Bool := rankedN (heightsL xs) (coversP xs) (coversP xs).length
def ansIR (xs : List Int) : Bool := good xs && rankedB xs
theorem ansIR_no {xs : List Int} (h : good xs = false) : ansIR xs = false := by simp [ansIR, h]
theorem ansIR_yes {xs : List Int} (h : good xs = true) : ansIR xs = rankedB xs := by simp [ansIR, h]
theorem rankedN_step {hs : List Int} {ps : List (Nat × Nat)} {k : Nat} (hk : k < ps.length) : rankedN hs ps (k + 1) = (rankedN hs ps k && rankP hs (ps.getD k (0, 0))) := by
  have e : ps.take (k + 1) = ps.take k ++ [ps.getD k (0, 0)] := by
    rw [List.take_succ_eq_append_getElem hk]; simp [List.getD, hk]
  unfold rankedN
  rw [e, List.all_append]
  simp
theorem rankedN_no {hs : List Int} {ps : List (Nat × Nat)} {k : Nat} (hk : k < ps.length) (h : rankP hs (ps.getD k (0, 0)) = false) : rankedN hs ps ps.length = false := by
  rw [Bool.eq_false_iff]
  intro hc
  unfold rankedN at hc
  rw [List.take_length] at hc
  have := List.all_eq_true.1 hc (ps.getD k (0, 0)) (by simp [List.getD, hk])
  rw [h] at this; cases this
theorem covIn_bound {xs : List Int} {j : Nat} (i : Nat) : ∀ p ∈ covIn xs j i, p.1 = j ∧ p.2 < i := by
  induction i with
  | zero => simp [covIn]
  | succ i ih =>
    intro p hp
    unfold covIn at hp
    split at hp
    · rw [List.mem_append, List.mem_singleton] at hp
      rcases hp with hp | hp
      · have := ih p hp; omega
      · subst hp; exact ⟨rfl, Nat.lt_succ_self _⟩
    · have := ih p hp; omega
theorem covPS_bound {xs : List Int} {n : Nat} (j : Nat) : ∀ p ∈ covPS xs n j, p.1 < j ∧ p.2 < n := by
  induction j with
  | zero => simp [covPS]
  | succ j ih =>
    intro p hp
    unfold covPS at hp
    rw [List.mem_append] at hp
    rcases hp with hp | hp
    · have := ih p hp; omega
    · have := covIn_bound n p hp; omega
theorem coversP_bound {xs : List Int} {k : Nat} (hg : good xs = true) (hk : k < (coversP xs).length) : ((coversP xs).getD k (0, 0)).1 < xs.length ∧ ((coversP xs).getD k (0, 0)).2 < xs.length := by
  have h : (coversP xs).getD k (0, 0) ∈ coversP xs := by simp [List.getD, hk]
  rw [coversP_yes hg] at h ⊢
  exact covPS_bound _ _ h
theorem heights_bound {xs : List Int} (hg : good xs = true) (e : Nat) : 0 ≤ (heightsL xs).getD e 0 ∧ (heightsL xs).getD e 0 ≤ e := by
  rw [heightsL_yes hg]
  exact (HB_out xs xs.length xs.length (Nat.le_refl _)).2 e
theorem heights_len {xs : List Int} (hg : good xs = true) : (heightsL xs).length = xs.length := by
  rw [heightsL_yes hg]
  exact (HB_out xs xs.length xs.length (Nat.le_refl _)).1
set_option maxHeartbeats 1600000 in
theorem poRanked_any (v : Value) (xs : List Int) (w : World) (hv : Ints w v xs) (hg : good xs = true) :
    Calls Tryz.prog 215 #[.agg #[v]] w fun r w' => r = .returned (.bool (rankedB xs)) ∧ Below w.heap.size w w' := by
  have HV := hid hv
  have HQ := hid hg
  clear hv hg
  go_enter Tryz.func215, Tryz.ntmps215
  have HB := hid (below_alloc (Below.refl _ w) (.cells #[v] 28))
  have A0 := hid (At.newAt w v 28 w.heap.size (by simp))
  go_wp2_with fail
  refine (poHeights_any _ xs _ (HV.out.below HB.out) HQ.out).mono ?_
  rintro e w' ⟨u, rfl, ho, hb⟩
  replace HB := hid (below_to HB.out hb)
  replace A0 := hid (A0.out.below hb)
  clear hb
  have HH := hid ho.ints
  obtain ⟨uA, un, uc, rfl⟩ := ho.shape3
  clear ho
  have ebox0 := A0.out.1
  go_wp2_with fail
  clear ebox0
  refine (poPairs_any _ xs _ (HV.out.below HB.out) HQ.out).mono ?_
  rintro e w' ⟨q, rfl, hp, hb⟩
  replace HB := hid (below_to HB.out hb)
  replace A0 := hid (A0.out.below hb)
  replace HH := hid (HH.out.below hb)
  clear hb
  rw [← coversP_yes HQ.out] at hp
  have HP := hid hp
  clear hp
  obtain ⟨hA, hc, hEq, hAA⟩ := HH.out
  cases hEq
  have HAA := hid hAA
  obtain ⟨pA, pc, rfl, hPA⟩ := HP.out.shape
  have HPA := hid hPA
  have hhl := heights_len HQ.out
  have HHL := hid hhl
  have HW := hid (Below.refl w'.heap.size w')
  clear hAA hPA hhl
  have ebox0 := A0.out.1
  go_wp2
  go_loopw [11] (fun i wr => ∃ k : Nat, k ≤ (coversP xs).length ∧ i = .int .i64 k ∧ Hid (rankedN (heightsL xs) (coversP xs) k = true) ∧ Below w.heap.size w wr ∧ Below w'.heap.size w' wr) (fun i _ => (coversP xs).length - (intOf i).toNat)
  case atStart => exact ⟨0, Nat.zero_le _, rfl, hid rfl, HB.out, HW.out⟩
  case round =>
    obtain ⟨k, hk, rfl, HK, hb, hu⟩ := hrel
    have HB1 := hid hb
    have HU1 := hid hu
    by_cases hlt : k < (coversP xs).length
    · obtain ⟨b, g, rfl, hbl, hgl, hcb, hc0, hc1⟩ := HPA.out k hlt
      have hcb' : wr.cell? ⟨b, k, none⟩ = some (.slice (some ⟨g, 0, none⟩) 2 2) := (hu.cell (p := ⟨b, k, none⟩) hbl).trans hcb
      have hc0' : wr.cell? ⟨g, 0, none⟩ = some (.int .i64 (((coversP xs).getD k (0, 0)).1 : Nat)) := (hu.cell (p := ⟨g, 0, none⟩) hgl).trans hc0
      have hc1' : wr.cell? ⟨g, 1, none⟩ = some (.int .i64 (((coversP xs).getD k (0, 0)).2 : Nat)) := (hu.cell (p := ⟨g, 1, none⟩) hgl).trans hc1
      have hbd := coversP_bound HQ.out hlt
      obtain ⟨P, hP⟩ : ∃ P, (coversP xs).getD k (0, 0) = P := ⟨_, rfl⟩
      rw [hP] at hc0' hc1' hbd
      obtain ⟨p1, p2⟩ := P
      simp only at hc0' hc1' hbd
      obtain ⟨bh, oh, rfl, hbhl, hch⟩ := HAA.out (by intro h; have := HHL.out; rw [h] at this; simp at this; omega)
      have hh1 : wr.cell? ⟨bh, oh + p1, none⟩ = some (.int .i64 ((heightsL xs).getD p1 0)) := (hu.cell (p := ⟨bh, oh + p1, none⟩) hbhl).trans (hch p1 (by rw [HHL.out]; exact hbd.1))
      have hh2 : wr.cell? ⟨bh, oh + p2, none⟩ = some (.int .i64 ((heightsL xs).getD p2 0)) := (hu.cell (p := ⟨bh, oh + p2, none⟩) hbhl).trans (hch p2 (by rw [HHL.out]; exact hbd.2))
      have hn1 := heights_bound HQ.out p1
      have hl10 := (good_length HQ.out).2
      have hcl := coversP_length xs
      have hi1 : (p1 : Int) < (heightsL xs).length := by rw [HHL.out]; omega
      have hi2 : (p2 : Int) < (heightsL xs).length := by rw [HHL.out]; omega
      have hi3 : p1 < (heightsL xs).length := by rw [HHL.out]; omega
      have hi4 : p2 < (heightsL xs).length := by rw [HHL.out]; omega
      obtain ⟨n1, hn⟩ : ∃ n, (heightsL xs).getD p1 0 = n := ⟨_, rfl⟩
      obtain ⟨n2, hm⟩ : ∃ n, (heightsL xs).getD p2 0 = n := ⟨_, rfl⟩
      have hR : rankP (heightsL xs) ((coversP xs).getD k (0, 0)) = (n2 == n1 + 1) := by rw [hP, rankP, hn, hm]
      rw [hn] at hh1 hn1
      rw [hm] at hh2
      have HR := hid hR
      have hn10 : n1 ≤ 10 := by omega
      have hw : IntKind.i64.wrap (n1 + 1) = n1 + 1 := IntWalk.i64_in _ (by omega)
      have HStep := hid (rankedN_step (hs := heightsL xs) hlt)
      clear hc0 hc1 hcb hch hb hu hP hn hm hR
      cases hq : (n2 == n1 + 1)
      · have hne : (n2 != n1 + 1) = true := by rw [bne, hq]; rfl
        have HNo : Hid (rankedB xs = false) := hid (rankedN_no hlt (by rw [HR.out]; exact hq))
        clear hq
        go_wp2_with fail
        go_quiet (fail)
        clear hw
        go_wp2
        go_ret
        exact ⟨ret_bool HNo.out.symm, below_drewN HB1.out _⟩
      · have hne : (n2 != n1 + 1) = false := by rw [bne, hq]; rfl
        have HYes : Hid (rankedN (heightsL xs) (coversP xs) (k + 1) = true) := hid (by rw [HStep.out, HK.out, HR.out, hq]; rfl)
        clear hq
        go_wp2_with fail
        go_quiet (fail)
        clear hw
        go_wp2
        go_roundw
        case rel => exact ⟨k + 1, by omega, by go_num, HYes, below_drewN HB1.out _, below_drewN HU1.out _⟩
        case measure => simp [intOf]; omega
    · have hk2 : k = (coversP xs).length := by omega
      have HY : Hid (rankedB xs = true) := hid (by rw [rankedB, ← hk2]; exact HK.out)
      clear hb hu hk2
      go_wp2
      go_ret
      exact ⟨ret_bool HY.out.symm, HB1.out⟩
set_option maxHeartbeats 1600000 in
theorem implIsRanked_any (v : Value) (xs : List Int) (w : World) (hv : Ints w v xs) (hl : xs.length ≤ 1048576) :
    Calls Tryz.prog 230 #[.agg #[v]] w fun r w' => r = .returned (.tuple #[.bool (ansIR xs), .bool (good xs)]) ∧ Below w.heap.size w w' := by
  have HV := hid hv
  clear hv
  go_enter Tryz.func230, Tryz.ntmps230
  have HB := hid (below_alloc (Below.refl _ w) (.cells #[v] 28))
  have A0 := hid (At.newAt w v 28 w.heap.size (by simp))
  go_wp2_with fail
  refine (implHeightsOf_any _ xs _ (HV.out.below HB.out) hl).mono ?_
  rintro e w' ⟨u, rfl, ho, hlh, hb⟩
  replace HB := hid (below_to HB.out hb)
  replace A0 := hid (A0.out.below hb)
  clear hb
  have HH := hid ho.ints
  obtain ⟨uA, un, uc, rfl⟩ := ho.shape3
  clear ho
  cases hq : good xs
  · have HQ := hid hq
    clear hq
    have ebox0 := A0.out.1
    go_wp2
    go_ret2
    exact ⟨ret_bb (ansIR_no HQ.out).symm HQ.out.symm, HB.out⟩
  · have HQ := hid hq
    have HAn := hid (ansIR_yes hq)
    clear hq
    have ebox0 := A0.out.1
    go_wp2_with fail
    clear ebox0
    refine (implCoversP_any _ xs _ (HV.out.below HB.out) hl).mono ?_
    rintro e w' ⟨q, rfl, hp, hb⟩
    replace HB := hid (below_to HB.out hb)
    replace A0 := hid (A0.out.below hb)
    replace HH := hid (HH.out.below hb)
    clear hb
    have HP := hid hp
    clear hp
    obtain ⟨hA, hc, hEq, hAA⟩ := HH.out
    cases hEq
    have HAA := hid hAA
    obtain ⟨pA, pc, rfl, hPA⟩ := HP.out.shape
    have HPA := hid hPA
    have hhl := heights_len HQ.out
    have HHL := hid hhl
    have HW := hid (Below.refl w'.heap.size w')
    clear hAA hPA hhl
    have ebox0 := A0.out.1
    go_wp2
    go_loopw [24] (fun i wr => ∃ k : Nat, k ≤ (coversP xs).length ∧ i = .int .i64 k ∧ Hid (rankedN (heightsL xs) (coversP xs) k = true) ∧ Below w.heap.size w wr ∧ Below w'.heap.size w' wr) (fun i _ => (coversP xs).length - (intOf i).toNat)
    case atStart => exact ⟨0, Nat.zero_le _, rfl, hid rfl, HB.out, HW.out⟩
    case round =>
      obtain ⟨k, hk, rfl, HK, hb, hu⟩ := hrel
      have HB1 := hid hb
      have HU1 := hid hu
      by_cases hlt : k < (coversP xs).length
      · obtain ⟨b, g, rfl, hbl, hgl, hcb, hc0, hc1⟩ := HPA.out k hlt
        have hcb' : wr.cell? ⟨b, k, none⟩ = some (.slice (some ⟨g, 0, none⟩) 2 2) := (hu.cell (p := ⟨b, k, none⟩) hbl).trans hcb
        have hc0' : wr.cell? ⟨g, 0, none⟩ = some (.int .i64 (((coversP xs).getD k (0, 0)).1 : Nat)) := (hu.cell (p := ⟨g, 0, none⟩) hgl).trans hc0
        have hc1' : wr.cell? ⟨g, 1, none⟩ = some (.int .i64 (((coversP xs).getD k (0, 0)).2 : Nat)) := (hu.cell (p := ⟨g, 1, none⟩) hgl).trans hc1
        have hbd := coversP_bound HQ.out hlt
        obtain ⟨P, hP⟩ : ∃ P, (coversP xs).getD k (0, 0) = P := ⟨_, rfl⟩
        rw [hP] at hc0' hc1' hbd
        obtain ⟨p1, p2⟩ := P
        simp only at hc0' hc1' hbd
        obtain ⟨bh, oh, rfl, hbhl, hch⟩ := HAA.out (by intro h; have := HHL.out; rw [h] at this; simp at this; omega)
        have hh1 : wr.cell? ⟨bh, oh + p1, none⟩ = some (.int .i64 ((heightsL xs).getD p1 0)) := (hu.cell (p := ⟨bh, oh + p1, none⟩) hbhl).trans (hch p1 (by rw [HHL.out]; exact hbd.1))
        have hh2 : wr.cell? ⟨bh, oh + p2, none⟩ = some (.int .i64 ((heightsL xs).getD p2 0)) := (hu.cell (p := ⟨bh, oh + p2, none⟩) hbhl).trans (hch p2 (by rw [HHL.out]; exact hbd.2))
        have hn1 := heights_bound HQ.out p1
        have hl10 := (good_length HQ.out).2
        have hcl := coversP_length xs
        have hi1 : (p1 : Int) < (heightsL xs).length := by rw [HHL.out]; omega
        have hi2 : (p2 : Int) < (heightsL xs).length := by rw [HHL.out]; omega
        have hi3 : p1 < (heightsL xs).length := by rw [HHL.out]; omega
        have hi4 : p2 < (heightsL xs).length := by rw [HHL.out]; omega
        obtain ⟨n1, hn⟩ : ∃ n, (heightsL xs).getD p1 0 = n := ⟨_, rfl⟩
        obtain ⟨n2, hm⟩ : ∃ n, (heightsL xs).getD p2 0 = n := ⟨_, rfl⟩
        have hR : rankP (heightsL xs) ((coversP xs).getD k (0, 0)) = (n2 == n1 + 1) := by rw [hP, rankP, hn, hm]
        rw [hn] at hh1 hn1
        rw [hm] at hh2
        have HR := hid hR
        have hn10 : n1 ≤ 10 := by omega
        have hw : IntKind.i64.wrap (n1 + 1) = n1 + 1 := IntWalk.i64_in _ (by omega)
        have HStep := hid (rankedN_step (hs := heightsL xs) hlt)
        clear hc0 hc1 hcb hch hb hu hP hn hm hR
        cases hq : (n2 == n1 + 1)
        · have hne : (n2 != n1 + 1) = true := by rw [bne, hq]; rfl
          have HNo : Hid (rankedB xs = false) := hid (rankedN_no hlt (by rw [HR.out]; exact hq))
          clear hq
          go_wp2_with fail
          go_quiet (fail)
          clear hw
          go_wp2
          go_ret2
          exact ⟨ret_bb (by rw [HAn.out, HNo.out]) HQ.out.symm, below_drewN HB1.out _⟩
        · have hne : (n2 != n1 + 1) = false := by rw [bne, hq]; rfl
          have HYes : Hid (rankedN (heightsL xs) (coversP xs) (k + 1) = true) := hid (by rw [HStep.out, HK.out, HR.out, hq]; rfl)
          clear hq
          go_wp2_with fail
          go_quiet (fail)
          clear hw
          go_wp2
          go_roundw
          case rel => exact ⟨k + 1, by omega, by go_num, HYes, below_drewN HB1.out _, below_drewN HU1.out _⟩
          case measure => simp [intOf]; omega
      · have hk2 : k = (coversP xs).length := by omega
        have HY : Hid (rankedB xs = true) := hid (by rw [rankedB, ← hk2]; exact HK.out)
        clear hb hu hk2
        go_wp2
        go_ret2
        exact ⟨ret_bb (by rw [HAn.out, HY.out]) HQ.out.symm, HB1.out⟩
end Go.Proofs.YtbmhaamenjhjfaaGreatDoor
namespace Go.Proofs.YtbmhaamenjhjfaaGreatDoor
set_option linter.unusedVariables false
def can (xs : List Int) (s e : Nat) : Bool := holdsIdeal xs (s ^^^ 2 ^ e)
theorem tog_can {xs : List Int} {s e : Nat} (h : can xs s e = true) : tog xs s e = s ^^^ 2 ^ e := tog_yes h
theorem tog_cant {xs : List Int} {s e : Nat} (h : can xs s e = false) : tog xs s e = s := tog_no h
theorem can_in {xs : List Int} (hg : good xs = true) {s e : Nat} (hs : holdsIdeal xs s = true) (he : e < xs.length) (hb : s.testBit e = true) :
    can xs s e = true ↔ ∀ i, i < xs.length → s.testBit i = true → (row xs i).testBit e = false := by
  unfold can
  rw [holdsIdeal_row]
  have hI := holdsIdeal_row.1 hs
  constructor
  · intro h i hi hbi
    cases hr : (row xs i).testBit e
    · rfl
    · exfalso
      have hei : e < i := testBit_lt (row_lt hg hi).2 hr
      have := h i hi (by rw [xor_bit, if_neg (by omega)]; exact hbi) e hr
      rw [xor_bit, if_pos rfl, hb] at this; cases this
  · intro h i hi hbi j hj
    rw [xor_bit] at hbi ⊢
    split at hbi
    · rw [hb] at hbi; cases hbi
    · split
      · rename_i hje
        subst hje
        rw [h i hi hbi] at hj; cases hj
      · exact hI i hi hbi j hj
theorem can_out {xs : List Int} (hg : good xs = true) {s e : Nat} (hs : holdsIdeal xs s = true) (he : e < xs.length) (hb : s.testBit e = false) :
    can xs s e = true ↔ ∀ j, (row xs e).testBit j = true → s.testBit j = true := by
  unfold can
  rw [holdsIdeal_row]
  have hI := holdsIdeal_row.1 hs
  constructor
  · intro h j hj
    have hje : j < e := testBit_lt (row_lt hg he).2 hj
    have := h e he (by rw [xor_bit, if_pos rfl, hb]; rfl) j hj
    rw [xor_bit, if_neg (by omega)] at this
    exact this
  · intro h i hi hbi j hj
    rw [xor_bit] at hbi ⊢
    split at hbi
    · rename_i hie
      subst hie
      have hje : j < i := testBit_lt (row_lt hg hi).2 hj
      rw [if_neg (by omega)]
      exact h j hj
    · have := hI i hi hbi j hj
      split
      · rename_i hje
        subst hje
        rw [hb] at this; cases this
      · exact this
def Apart (xs : List Int) (d e : Nat) : Prop :=
  ((row xs e).testBit d = true → ∃ m, m < xs.length ∧ (row xs e).testBit m = true ∧ (row xs m).testBit d = true) ∧
  ((row xs d).testBit e = true → ∃ m, m < xs.length ∧ (row xs d).testBit m = true ∧ (row xs m).testBit e = true)
theorem Apart.symm {xs : List Int} {d e : Nat} (h : Apart xs d e) : Apart xs e d := ⟨h.2, h.1⟩
theorem can_stays {xs : List Int} (hg : good xs = true) {s d e : Nat} (hs : holdsIdeal xs s = true) (hd : d < xs.length) (he : e < xs.length) (hne : d ≠ e) (hap : Apart xs d e) (hce : can xs s e = true) :
    can xs (s ^^^ 2 ^ e) d = can xs s d := by
  have hs' : holdsIdeal xs (s ^^^ 2 ^ e) = true := hce
  have hI := holdsIdeal_row.1 hs
  have hbd : (s ^^^ 2 ^ e).testBit d = s.testBit d := by rw [xor_bit, if_neg hne]
  rw [Bool.eq_iff_iff]
  cases hb : s.testBit d
  · rw [can_out hg hs hd hb, can_out hg hs' hd (by rw [hbd, hb])]
    -- e below d: by an m between
    cases hr : (row xs d).testBit e
    · constructor
      · intro h j hj
        have := h j hj
        rw [xor_bit] at this
        split at this
        · rename_i hje; subst hje; rw [hr] at hj; cases hj
        · exact this
      · intro h j hj
        rw [xor_bit]
        split
        · rename_i hje; subst hje; rw [hr] at hj; cases hj
        · exact h j hj
    · obtain ⟨m, hm, h1, h2⟩ := hap.2 hr
      have hem : e < m := testBit_lt (row_lt hg hm).2 h2
      -- m isn't there, now and then
      have hms : s.testBit m = false := by
        cases hse : s.testBit e
        · cases hsm : s.testBit m
          · rfl
          · rw [hI m hm hsm e h2] at hse; cases hse
        · have := (can_in hg hs he hse).1 hce
          cases hsm : s.testBit m
          · rfl
          · rw [this m hm hsm] at h2; cases h2
      constructor
      · intro h
        have := h m h1
        rw [xor_bit, if_neg (by omega), hms] at this; cases this
      · intro h
        have := h m h1
        rw [hms] at this; cases this
  · rw [can_in hg hs hd hb, can_in hg hs' hd (by rw [hbd, hb])]
    cases hr : (row xs e).testBit d
    · constructor
      · intro h i hi hbi
        by_cases hie : i = e
        · subst hie; exact hr
        · exact h i hi (by rw [xor_bit, if_neg hie]; exact hbi)
      · intro h i hi hbi
        by_cases hie : i = e
        · subst hie; exact hr
        · rw [xor_bit, if_neg hie] at hbi
          exact h i hi hbi
    · obtain ⟨m, hm, h1, h2⟩ := hap.1 hr
      have hdm : d < m := testBit_lt (row_lt hg hm).2 h2
      have hme : m < e := testBit_lt (row_lt hg he).2 h1
      have hms : s.testBit m = true := by
        cases hse : s.testBit e
        · exact (can_out hg hs he hse).1 hce m h1
        · exact hI e he hse m h1
      constructor
      · intro h
        have := h m hm (by rw [xor_bit, if_neg (by omega)]; exact hms)
        rw [h2] at this; cases this
      · intro h
        have := h m hm hms
        rw [h2] at this; cases this
theorem xor_swap (s d e : Nat) : s ^^^ 2 ^ d ^^^ 2 ^ e = s ^^^ 2 ^ e ^^^ 2 ^ d := by
  rw [Nat.xor_assoc, Nat.xor_comm (2 ^ d), ← Nat.xor_assoc]
theorem tog_swap {xs : List Int} (hg : good xs = true) {s d e : Nat} (hs : holdsIdeal xs s = true) (hd : d < xs.length) (he : e < xs.length) (hap : Apart xs d e) :
    tog xs (tog xs s d) e = tog xs (tog xs s e) d := by
  by_cases hne : d = e
  · subst hne; rfl
  · cases h1 : can xs s d
    · cases h2 : can xs s e
      · rw [tog_cant h1, tog_cant h2, tog_cant h1]
      · rw [tog_cant h1, tog_can h2, tog_cant]
        rw [can_stays hg hs hd he hne hap h2, h1]
    · cases h2 : can xs s e
      · rw [tog_can h1, tog_cant h2, tog_can h1, tog_cant]
        rw [can_stays hg hs he hd (fun h => hne h.symm) hap.symm h1, h2]
      · rw [tog_can h1, tog_can h2, tog_can, tog_can, xor_swap]
        · rw [can_stays hg hs hd he hne hap h2, h1]
        · rw [can_stays hg hs he hd (fun h => hne h.symm) hap.symm h1, h2]
def covered (xs : List Int) (d e : Nat) : Bool := (top xs (row xs (max d e))).testBit (min d e)
theorem top_row {xs : List Int} {i j : Nat} : (top xs (row xs i)).testBit j = true ↔ (row xs i).testBit j = true ∧ ∀ m, m < xs.length → (row xs i).testBit m = true → (row xs m).testBit j = false := by
  unfold top
  rw [sub_testBit, Bool.and_eq_true, Bool.not_eq_true']
  constructor
  · rintro ⟨h1, h2⟩
    refine ⟨h1, fun m hm hb => ?_⟩
    cases hr : (row xs m).testBit j
    · rfl
    · have := (underN_testBit xs (row xs i) xs.length j).2 ⟨m, hm, hb, hr⟩
      unfold under at h2
      rw [this] at h2; cases h2
  · rintro ⟨h1, h2⟩
    refine ⟨h1, ?_⟩
    cases hu : (under xs (row xs i)).testBit j
    · rfl
    · obtain ⟨m, hm, hb, hr⟩ := (underN_testBit xs (row xs i) xs.length j).1 hu
      have := h2 m hm hb
      unfold row at this
      rw [this] at hr; cases hr
theorem covered_no {xs : List Int} (hg : good xs = true) {d e : Nat} (hd : d < xs.length) (he : e < xs.length) (h : covered xs d e = false) : Apart xs d e := by
  have key : ∀ {a b : Nat}, a < xs.length → b < xs.length → (top xs (row xs b)).testBit a = false → (row xs b).testBit a = true → ∃ m, m < xs.length ∧ (row xs b).testBit m = true ∧ (row xs m).testBit a = true := by
    intro a b ha hb ht hr
    apply Classical.byContradiction
    intro hn
    rw [Bool.eq_false_iff] at ht
    apply ht
    refine top_row.2 ⟨hr, fun m hm hbm => ?_⟩
    cases hc : (row xs m).testBit a
    · rfl
    · exact absurd ⟨m, hm, hbm, hc⟩ hn
  unfold covered at h
  constructor
  · intro hr
    have hde : d < e := testBit_lt (row_lt hg he).2 hr
    rw [Nat.max_eq_right (by omega), Nat.min_eq_left (by omega)] at h
    exact key hd he h hr
  · intro hr
    have hde : e < d := testBit_lt (row_lt hg hd).2 hr
    rw [Nat.max_eq_left (by omega), Nat.min_eq_right (by omega)] at h
    exact key he hd h hr
end Go.Proofs.YtbmhaamenjhjfaaGreatDoor
namespace Go.Proofs.YtbmhaamenjhjfaaGreatDoor
open Go.RowKit Go.WideShapes Go.ChangeShapes
set_option linter.unusedVariables false
def rkM (hs : List Int) : Nat → Nat
  | 0 => 0
  | k + 1 => max (rkM hs k) ((hs.getD k 0).toNat + 1)
def rkE (hs : List Int) (k i : Nat) : Nat := orN (fun e => (hs.getD e 0).toNat == i) (fun e => 2 ^ e) k
def rkQ (hs : List Int) (k m : Nat) : List Int := (List.range m).map fun i => ((rkE hs k i : Nat) : Int)
theorem rkQ_length (hs : List Int) (k m : Nat) : (rkQ hs k m).length = m := by simp [rkQ]
theorem rkQ_get (hs : List Int) (k : Nat) {m i : Nat} (h : i < m) : (rkQ hs k m).getD i 0 = ((rkE hs k i : Nat) : Int) := by simp [rkQ, List.getD, h]
theorem rkE_lt (hs : List Int) {k n : Nat} (h : k ≤ n) (i : Nat) : rkE hs k i < 2 ^ n := orN_lt fun e he _ => pow_lt_len (by omega)
theorem rkE_bit (hs : List Int) (k i e : Nat) : (rkE hs k i).testBit e = true ↔ e < k ∧ (hs.getD e 0).toNat = i := by
  unfold rkE
  rw [orN_testBit]
  constructor
  · rintro ⟨f, hf, hp, hb⟩
    rw [Nat.testBit_two_pow] at hb
    have hfe : f = e := by simpa using hb
    subst hfe
    exact ⟨hf, by simpa using hp⟩
  · rintro ⟨h1, h2⟩
    exact ⟨e, h1, by simpa using h2, by simp⟩
theorem rkM_lt (hs : List Int) {k e : Nat} (h : e < k) : (hs.getD e 0).toNat < rkM hs k := by
  induction k with
  | zero => omega
  | succ k ih =>
    show _ < max (rkM hs k) ((hs.getD k 0).toNat + 1)
    by_cases he : e = k
    · subst he; omega
    · have := ih (by omega); omega
theorem rkE_none (hs : List Int) {k i : Nat} (h : rkM hs k ≤ i) : rkE hs k i = 0 := by
  apply Nat.eq_of_testBit_eq
  intro e
  rw [Nat.zero_testBit, Bool.eq_false_iff]
  intro hb
  obtain ⟨h1, h2⟩ := (rkE_bit hs k i e).1 hb
  have := rkM_lt hs h1
  omega
theorem rkM_le {hs : List Int} (h : ∀ e, (hs.getD e 0).toNat ≤ e) (k : Nat) : rkM hs k ≤ k := by
  induction k with
  | zero => exact Nat.le_refl _
  | succ k ih =>
    show max (rkM hs k) ((hs.getD k 0).toNat + 1) ≤ k + 1
    have := h k; omega
theorem rkM_pos (hs : List Int) {k : Nat} (h : 1 ≤ k) : 1 ≤ rkM hs k := by
  have := rkM_lt hs (show 0 < k by omega); omega
theorem rkQ_grow (hs : List Int) {k m : Nat} (h : rkM hs k ≤ m) : rkQ hs k m ++ [0] = rkQ hs k (m + 1) := by
  unfold rkQ
  rw [List.range_succ, List.map_append, List.map_singleton, rkE_none hs h]; rfl
theorem rkE_step (hs : List Int) (k i : Nat) : rkE hs (k + 1) i = if (hs.getD k 0).toNat = i then rkE hs k i ||| 2 ^ k else rkE hs k i := by
  unfold rkE
  by_cases h : (hs.getD k 0).toNat = i
  · rw [if_pos h]; exact orN_yes (p := fun e => (hs.getD e 0).toNat == i) (by simpa using h)
  · rw [if_neg h]; exact orN_no (p := fun e => (hs.getD e 0).toNat == i) (by simpa using h)
theorem rkQ_set (hs : List Int) {k m i : Nat} (h : (hs.getD k 0).toNat = i) (hi : i < m) : (rkQ hs k m).set i ((rkE hs k i ||| 2 ^ k : Nat) : Int) = rkQ hs (k + 1) m := by
  apply List.ext_getElem
  · simp [rkQ]
  · intro j h1 h2
    rw [List.getElem_set]
    have hj : j < m := by simpa [rkQ] using h2
    simp only [rkQ, List.getElem_map, List.getElem_range]
    rw [rkE_step]
    by_cases hji : i = j
    · subst hji; rw [if_pos rfl, if_pos h]
    · rw [if_neg hji, if_neg (by omega)]
theorem rkQ_zero (hs : List Int) (m : Nat) : rkQ hs 0 m = List.replicate m 0 := by
  apply List.ext_getElem <;> simp [rkQ, rkE, orN]
def rkN (xs : List Int) : Nat := rkM (heightsL xs) xs.length
def rankL (xs : List Int) : List Int := rkQ (heightsL xs) xs.length (rkN xs)
theorem rankL_length (xs : List Int) : (rankL xs).length = rkN xs := rkQ_length _ _ _
theorem heights_nat {xs : List Int} (hg : good xs = true) (e : Nat) : (heightsL xs).getD e 0 = (((heightsL xs).getD e 0).toNat : Int) ∧ ((heightsL xs).getD e 0).toNat ≤ e := by
  have := heights_bound hg e; omega
theorem rkN_bounds {xs : List Int} (hg : good xs = true) : 1 ≤ rkN xs ∧ rkN xs ≤ xs.length :=
  ⟨rkM_pos _ (good_length hg).1, rkM_le (fun e => (heights_nat hg e).2) _⟩
theorem rankL_get {xs : List Int} {i : Nat} (hi : i < rkN xs) : (rankL xs).getD i 0 = ((rkE (heightsL xs) xs.length i : Nat) : Int) := rkQ_get _ _ hi
def elN (n r : Nat) : List Nat := (List.range n).filter fun e => r.testBit e
def elL (n r : Nat) : List Int := (elN n r).map fun e : Nat => (e : Int)
theorem elL_zero (r : Nat) : elL 0 r = [] := rfl
theorem elL_yes {n r : Nat} (h : r.testBit n = true) : elL (n + 1) r = elL n r ++ [(n : Int)] := by simp [elL, elN, List.range_succ, List.filter_append, h]
theorem elL_no {n r : Nat} (h : r.testBit n = false) : elL (n + 1) r = elL n r := by simp [elL, elN, List.range_succ, List.filter_append, h]
theorem elL_length (n r : Nat) : (elL n r).length ≤ n := by
  unfold elL elN
  rw [List.length_map]
  exact Nat.le_trans (List.length_filter_le _ _) (by simp)
theorem elN_mem {n r e : Nat} : e ∈ elN n r ↔ e < n ∧ r.testBit e = true := by simp [elN]
theorem elL_more {n r : Nat} (h : r < 2 ^ n) (d : Nat) : elL (n + d) r = elL n r := by
  induction d with
  | zero => rfl
  | succ d ih =>
    rw [← Nat.add_assoc, elL_no, ih]
    rw [Bool.eq_false_iff]; intro hb; have := testBit_lt h hb; omega
theorem elL_ten {n r : Nat} (h : r < 2 ^ n) (hn : n ≤ 10) : elL 10 r = elL n r := by
  have := elL_more h (10 - n); rwa [show n + (10 - n) = 10 by omega] at this
theorem elN_nodup (n r : Nat) : (elN n r).Nodup := List.Nodup.sublist List.filter_sublist List.nodup_range
def rkW (rs ws : List Int) : List Int := ws.flatMap fun i => elL 10 (rs.getD i.toNat 0).toNat
theorem rkW_append (rs a b : List Int) : rkW rs (a ++ b) = rkW rs a ++ rkW rs b := by simp [rkW]
theorem rkW_one (rs : List Int) (i : Int) : rkW rs [i] = elL 10 (rs.getD i.toNat 0).toNat := by simp [rkW]
theorem rkW_take (rs ws : List Int) {k : Nat} (hk : k < ws.length) : rkW rs (ws.take (k + 1)) = rkW rs (ws.take k) ++ elL 10 (rs.getD (ws.getD k 0).toNat 0).toNat := by
  rw [List.take_succ_eq_append_getElem hk, rkW_append, rkW_one]; simp [List.getD, hk]
theorem rkW_length (rs ws : List Int) : (rkW rs ws).length ≤ 10 * ws.length := by
  induction ws with
  | nil => simp [rkW]
  | cons a t ih =>
    show (elL 10 _ ++ rkW rs t).length ≤ _
    rw [List.length_append, List.length_cons]
    have := elL_length 10 (rs.getD a.toNat 0).toNat
    omega
theorem togW_app (xs : List Int) (s : Nat) (a b : List Int) : togW xs s (a ++ b) = togW xs (togW xs s a) b := by simp [togW, List.foldl_append]
theorem rank_mem {xs : List Int} {i : Nat} (hi : i < rkN xs) (e : Int) : e ∈ elL 10 ((rankL xs).getD i 0).toNat ↔ ∃ f : Nat, e = f ∧ f < xs.length ∧ f < 10 ∧ ((heightsL xs).getD f 0).toNat = i := by
  rw [rankL_get hi]
  unfold elL
  rw [List.mem_map]
  constructor
  · rintro ⟨f, hf, rfl⟩
    rw [elN_mem, Int.toNat_natCast, rkE_bit] at hf
    exact ⟨f, rfl, hf.2.1, hf.1, hf.2.2⟩
  · rintro ⟨f, rfl, h1, h2, h3⟩
    exact ⟨f, by rw [elN_mem, Int.toNat_natCast, rkE_bit]; exact ⟨h2, h1, h3⟩, rfl⟩
theorem inW_rkW {xs : List Int} (hg : good xs = true) {ws : List Int} (hw : inW (rkN xs) ws = true) : inW xs.length (rkW (rankL xs) ws) = true := by
  rw [inW, List.all_eq_true]
  intro e he
  rw [rkW, List.mem_flatMap] at he
  obtain ⟨i, hi, he⟩ := he
  have hi2 := List.all_eq_true.1 hw i hi
  simp only [Bool.and_eq_true, decide_eq_true_eq] at hi2
  obtain ⟨f, rfl, h1, h2, h3⟩ := (rank_mem (show i.toNat < rkN xs by omega) e).1 he
  simp; omega
theorem togW_perm {xs : List Int} (hg : good xs = true) {a b : List Int} (hp : a.Perm b) (hin : inW xs.length a = true) (hap : ∀ d ∈ a, ∀ e ∈ a, Apart xs d.toNat e.toNat) :
    ∀ s, holdsIdeal xs s = true → togW xs s a = togW xs s b := by
  induction hp with
  | nil => exact fun _ _ => rfl
  | cons x _ ih =>
    intro s hs
    have h1 := List.all_eq_true.1 hin
    exact ih (List.all_eq_true.2 fun y hy => h1 y (List.mem_cons_of_mem _ hy)) (fun d hd e he => hap d (List.mem_cons_of_mem _ hd) e (List.mem_cons_of_mem _ he)) _ (tog_ideal hs)
  | swap x y l =>
    intro s hs
    have h1 := List.all_eq_true.1 hin
    have hy := h1 y (by simp)
    have hx := h1 x (by simp)
    simp only [Bool.and_eq_true, decide_eq_true_eq] at hx hy
    have := tog_swap hg hs (d := y.toNat) (e := x.toNat) (by omega) (by omega) (hap y (by simp) x (by simp))
    show togW xs (tog xs (tog xs s y.toNat) x.toNat) l = togW xs (tog xs (tog xs s x.toNat) y.toNat) l
    rw [this]
  | trans p1 _ ih1 ih2 =>
    intro s hs
    rw [ih1 hin hap s hs]
    refine ih2 ?_ (fun d hd e he => hap d (p1.mem_iff.2 hd) e (p1.mem_iff.2 he)) s hs
    exact List.all_eq_true.2 fun y hy => List.all_eq_true.1 hin y (p1.mem_iff.2 hy)
theorem covIn_memM {xs : List Int} {j k : Nat} (n : Nat) (hk : k < n) (h : coverB xs j k = true) : (j, k) ∈ covIn xs j n := by
  induction n with
  | zero => omega
  | succ n ih =>
    unfold covIn
    by_cases hkn : k = n
    · subst hkn; rw [if_pos h]; simp
    · have := ih (by omega)
      split
      · exact List.mem_append_left _ this
      · exact this
theorem covPS_memM {xs : List Int} {j k n : Nat} (m : Nat) (hj : j < m) (hk : k < n) (h : coverB xs j k = true) : (j, k) ∈ covPS xs n m := by
  induction m with
  | zero => omega
  | succ m ih =>
    unfold covPS
    by_cases hjm : j = m
    · subst hjm; exact List.mem_append_right _ (covIn_memM n hk h)
    · exact List.mem_append_left _ (ih (by omega))
theorem cover_rank {xs : List Int} (hg : good xs = true) (hr : rankedB xs = true) {j k : Nat} (hk : k < xs.length) (hb : (row xs k).testBit j = true)
    (hn : ∀ m, m < xs.length → (row xs k).testBit m = true → (row xs m).testBit j = false) : ((heightsL xs).getD k 0).toNat = ((heightsL xs).getD j 0).toNat + 1 := by
  have hjk : j < k := testBit_lt (row_lt hg hk).2 hb
  have hc : coverB xs j k = true := coverB_true hb fun m _ hm => by
    cases h1 : bitAt xs k m
    · rfl
    · exact hn m (by omega) h1
  have hm : (j, k) ∈ coversP xs := by rw [coversP_yes hg]; exact covPS_memM _ (by omega) hk hc
  unfold rankedB rankedN at hr
  rw [List.take_length] at hr
  have := List.all_eq_true.1 hr _ hm
  unfold rankP at this
  rw [beq_iff_eq] at this
  have h1 := heights_nat hg k
  have h2 := heights_nat hg j
  simp only at this
  omega
theorem apart_rank {xs : List Int} (hg : good xs = true) (hr : rankedB xs = true) {d e : Nat} (hd : d < xs.length) (he : e < xs.length)
    (h : ((heightsL xs).getD d 0).toNat % 2 = ((heightsL xs).getD e 0).toNat % 2) : Apart xs d e := by
  refine covered_no hg hd he ?_
  rw [Bool.eq_false_iff]
  intro hc
  unfold covered at hc
  obtain ⟨h1, h2⟩ := top_row.1 hc
  by_cases hde : d ≤ e
  · rw [Nat.max_eq_right hde, Nat.min_eq_left hde] at h1 h2
    have := cover_rank hg hr he h1 h2
    omega
  · rw [Nat.max_eq_left (by omega), Nat.min_eq_right (by omega)] at h1 h2
    have := cover_rank hg hr hd h1 h2
    omega
end Go.Proofs.YtbmhaamenjhjfaaGreatDoor
