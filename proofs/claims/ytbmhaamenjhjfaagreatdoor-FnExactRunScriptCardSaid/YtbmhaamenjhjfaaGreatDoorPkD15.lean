/- OrdC Lens Map -/
import Derived.Maps.RangeWalk
import Derived.Test.YtbmhaamenjhjfaaGreatDoorPkD14
namespace Go.Proofs.YtbmhaamenjhjfaaGreatDoor
open Go.RowKit Go.WideShapes Go.ChangeShapes
set_option linter.unusedVariables false
set_option maxHeartbeats 1600000 in
theorem tgOrders_any (v : Value) (xs : List Int) (w : World) (hv : Ints w v xs) (hg : good xs = true) :
    Calls Tryz.prog 90 #[.agg #[v]] w fun r w' => r = .returned (.int .i64 (ordersN xs : Nat)) ∧ Below w.heap.size w w' := by
  have hl10 := (good_length hg).2
  have HG := hid hg
  obtain ⟨A, c, rfl, hA⟩ := hv
  have HA := hid hA
  obtain ⟨N, hN⟩ : ∃ N, 2 ^ xs.length = N := ⟨_, rfl⟩
  have wp : wrap64 ((2 : Int) ^ xs.length) = (N : Int) := by rw [wrap_pow xs.length hl10, hN]
  have hN2 := two_pow_le xs.length hl10
  rw [hN] at hN2
  have HN := hid hN
  have HLe := hid (fwd_le xs hl10)
  have HW := hid (ways_lt hl10)
  have hmk := run_make_row' (P := Tryz.prog) 22 3 (.int .i64 0) 8 Tryz.underlying22 Tryz.info3 rfl .i64 .i64 N (by omega) (by omega)
  have hc0 : (madeCells #[Value.int .i64 0] N)[0]? = some (.int .i64 0) := by
    rw [Vals_made, Vals_get (by simp; omega)]
    simp [List.getD, show 0 < N by omega]
  clear hA hg hN
  go_enter Tryz.func90, Tryz.ntmps90
  go_wp2
  clear hmk hc0 wp
  rw [Vals_made, Vals_set]
  have hstart : (List.replicate N (0 : Int)).set 0 1 = mkL N (fwd xs 0 0) := by
    rw [← mkL_zero, show (1 : Int) = ((1 : Nat) : Int) from rfl, mkL_set 1 (by omega)]
    exact mkL_congr fun i _ => by rw [fwd_start]
  rw [hstart]
  clear hstart
  go_loopw [17] (fun i wr => ∃ S : Nat, S ≤ N ∧ i = .int .i64 S ∧ Blk wr (w.heap.size + 1) 3 (Vals (mkL N (fwd xs S 0))) ∧ At wr w.heap.size (.slice A xs.length c) ∧ Below w.heap.size w wr) (fun i _ => N - (intOf i).toNat)
  case atStart => exact ⟨0, Nat.zero_le _, rfl, Blk.newAt _ _ _ _ (by simp), (At.new _ _ _).alloc _, below_alloc (below_alloc (Below.refl _ w) _) _⟩
  case round =>
    obtain ⟨S, hS, rfl, hB, ha, hb⟩ := hrel
    by_cases hlt : S < N
    · have hcS : wr.cell? ⟨w.heap.size + 1, S, none⟩ = some (.int .i64 (ways xs S : Nat)) := by
        rw [hB.cell, Vals_get (by rw [mkL_length]; exact hlt), mkL_getD hlt, fwd_self]
      have hbox := ha.1
      have HB := hid hB
      have HA1 := hid ha
      have Hb := hid hb
      clear hB ha hb
      have hwx := HW.out S
      obtain ⟨x, hx⟩ : ∃ x, ways xs S = x := ⟨_, rfl⟩
      rw [hx] at hcS hwx
      have HX := hid hx
      clear hx
      by_cases h0 : x = 0
      · subst h0
        have HE := hid (mkL_congr (n := N) (fun i _ => fwd_skip (xs := xs) HX.out i))
        go_wp2
        go_roundw
        case rel => exact ⟨S + 1, by omega, by go_num, by rw [← HE.out]; exact HB.out, HA1.out, Hb.out⟩
        case measure => simp [intOf]; omega
      · have hx0 : ((x : Int) == 0) = false := by rw [beq_eq_false_iff_ne]; omega
        have hx1 : 1 ≤ x := by omega
        clear h0
        go_wp2
        clear hx0
        go_loopw [27] (fun i wi => ∃ k : Nat, k ≤ xs.length ∧ i = .int .i64 k ∧ Blk wi (w.heap.size + 1) 3 (Vals (mkL N (fwd xs S k))) ∧ At wi w.heap.size (.slice A xs.length c) ∧ Below w.heap.size w wi) (fun i _ => xs.length - (intOf i).toNat)
        case atStart => exact ⟨0, Nat.zero_le _, rfl, HB.out, HA1.out, Hb.out⟩
        case round =>
          obtain ⟨k, hk, rfl, hB, ha, hb⟩ := hrel
          by_cases hkl : k < xs.length
          · obtain ⟨b, o, rfl, hbl, hc⟩ := HA.out (by intro h; simp [h] at hkl)
            have hcell : wr.cell? ⟨b, o + k, none⟩ = some (.int .i64 (xs.getD k 0)) := (hb.cell (p := ⟨b, o + k, none⟩) hbl).trans (hc k hkl)
            have hr := row_lt HG.out hkl
            have hr10 := row_lt10 HG.out hkl
            obtain ⟨z, hz⟩ : ∃ z, row xs k = z := ⟨_, rfl⟩
            rw [hz] at hr hr10
            rw [hr.1] at hcell
            have HZ := hid hz
            have HB2 := hid hB
            have HA2 := hid ha
            have Hb2 := hid hb
            have hS10 : S < 1024 := by omega
            clear hc hr hz ha hb
            cases hbit : S.testBit k
            · have HBit := hid hbit
              have han := i64_andNot_nat z S (by omega) (by omega)
              by_cases hs0 : sub z S = 0
              · have h0' : (((sub z S : Nat) : Int) == 0) = true := by rw [hs0]; rfl
                have hp1 : stepP xs S k = true := by simp [stepP, hbit, HZ.out, hs0]
                have hqn : S ||| 2 ^ k < N := by rw [← HN.out]; exact Nat.or_lt_two_pow (by rw [HN.out]; omega) (pow_lt_len hkl)
                obtain ⟨q, hq⟩ : ∃ q, S ||| 2 ^ k = q := ⟨_, rfl⟩
                have HE : Hid (mkL N (fwd xs S (k + 1)) = (mkL N (fwd xs S k)).set q ((fwd xs S k q + x : Nat) : Int)) := hid (mkL_upd _ (by rw [← hq]; exact hqn) (fun i _ => by
                  rw [fwd_step hkl, HX.out]
                  by_cases hi : i = q
                  · subst hi; rw [if_pos ⟨hp1, hq.symm⟩, if_pos rfl]
                  · rw [if_neg (fun h => hi (by rw [h.2, hq])), if_neg hi]))
                have wp1 := wrap_pow' k (by omega)
                have hor := or_pow S k hS10 (by omega)
                rw [hq] at hor hqn
                have hcq : wr.cell? ⟨w.heap.size + 1, q, none⟩ = some (.int .i64 (fwd xs S k q : Nat)) := by
                  rw [hB.cell, Vals_get (by rw [mkL_length]; exact hqn), mkL_getD hqn]
                have hfq := hB.frozen q
                have hyl := HLe.out S k q
                obtain ⟨y, hy⟩ : ∃ y, fwd xs S k q = y := ⟨_, rfl⟩
                rw [hy] at hcq HE hyl
                clear hs0 hp1 hq hy hB hbit
                go_wp2_with (go_at_call 130; refine (poIn_any S k (by omega) _).mono ?_; rw [HBit.out]; rintro e w' ⟨rfl, rfl⟩)
                go_roundw
                case rel => exact ⟨k + 1, by omega, by go_num, (by rw [HE.out, ← Vals_set]; exact HB2.out.set_ q _), HA2.out.far (by show w.heap.size ≠ w.heap.size + 1; omega) _, Hb2.out.setCell (by show w.heap.size ≤ w.heap.size + 1; omega) _⟩
                case measure => simp [intOf]; omega
              · have h0' : (((sub z S : Nat) : Int) == 0) = false := by rw [beq_eq_false_iff_ne]; omega
                have HE : Hid (mkL N (fwd xs S (k + 1)) = mkL N (fwd xs S k)) := hid (mkL_congr fun i _ => by
                  rw [fwd_step hkl, if_neg]; rintro ⟨h, _⟩; simp [stepP, HZ.out, hs0] at h)
                clear hs0 hB hbit
                go_wp2_with (go_at_call 130; refine (poIn_any S k (by omega) _).mono ?_; rw [HBit.out]; rintro e w' ⟨rfl, rfl⟩)
                go_roundw
                case rel => exact ⟨k + 1, by omega, by go_num, (by rw [HE.out]; exact HB2.out), HA2.out, Hb2.out⟩
                case measure => simp [intOf]; omega
            · have HBit := hid hbit
              have HE : Hid (mkL N (fwd xs S (k + 1)) = mkL N (fwd xs S k)) := hid (mkL_congr fun i _ => by
                rw [fwd_step hkl, if_neg]; rintro ⟨h, _⟩; simp [stepP, hbit] at h)
              clear hB hbit
              go_wp2_with (go_at_call 130; refine (poIn_any S k (by omega) _).mono ?_; rw [HBit.out]; rintro e w' ⟨rfl, rfl⟩)
              go_roundw
              case rel => exact ⟨k + 1, by omega, by go_num, (by rw [HE.out]; exact HB2.out), HA2.out, Hb2.out⟩
              case measure => simp [intOf]; omega
          · obtain rfl : k = xs.length := by omega
            have HE := hid (mkL_congr (n := N) (fun i _ => fwd_next xs S i))
            have HB2 := hid hB
            have HA2 := hid ha
            have Hb2 := hid hb
            clear hB ha hb
            go_wp2
            go_roundw
            case rel => exact ⟨S + 1, by omega, by go_num, by rw [← HE.out]; exact HB2.out, HA2.out, Hb2.out⟩
            case measure => simp [intOf]; omega
    · obtain rfl : S = N := by omega
      have hcS : wr.cell? ⟨w.heap.size + 1, S - 1, none⟩ = some (.int .i64 (ordersN xs : Nat)) := by
        rw [hB.cell, Vals_get (by rw [mkL_length]; omega), mkL_getD (by omega), fwd_below _ _ _ _ (by omega), ordersN, HN.out]
      have HB := hid hB
      have Hb := hid hb
      obtain ⟨R, hR⟩ : ∃ R, ordersN xs = R := ⟨_, rfl⟩
      rw [hR] at hcS
      have HR := hid hR
      have hSe : ((S : Int) - 1) = ((S - 1 : Nat) : Int) := by omega
      obtain ⟨p, hp⟩ : ∃ p, S - 1 = p := ⟨_, rfl⟩
      rw [hp] at hcS hSe
      have hpS : p < S := by omega
      clear hB ha hb hR hp
      go_wp2
      go_ret
      exact ⟨ret_int (by rw [HR.out]), Hb.out⟩
def ansN (xs : List Int) (f : List Int → Nat) : Int := if good xs then (f xs : Int) else 0
theorem ansN_no {xs : List Int} {f : List Int → Nat} (h : good xs = false) : ansN xs f = 0 := by simp [ansN, h]
theorem ansN_yes {xs : List Int} {f : List Int → Nat} (h : good xs = true) : ansN xs f = (f xs : Int) := by simp [ansN, h]
theorem setsL_sorted (f : Nat → Bool) (N : Nat) : ((List.range N).filter f).Pairwise (· < ·) := List.Pairwise.filter _ List.pairwise_lt_range
theorem setsL_at {f : Nat → Bool} {N j : Nat} (hj : j < (setsL f N).length) : ∃ s : Nat, (setsL f N).getD j 0 = (s : Int) ∧ s < N ∧ f s = true ∧ (∀ t : Nat, (t : Int) ∈ (setsL f N).take j → t < s) ∧ (∀ t : Nat, t < s → f t = true → (t : Int) ∈ (setsL f N).take j) := by
  have hj' : j < ((List.range N).filter f).length := by simpa [setsL] using hj
  have hmem : ((List.range N).filter f)[j] ∈ (List.range N).filter f := List.getElem_mem hj'
  have hmem2 := List.mem_filter.1 hmem
  have hP := List.pairwise_iff_getElem.1 (setsL_sorted f N)
  refine ⟨((List.range N).filter f)[j], ?_, List.mem_range.1 hmem2.1, hmem2.2, ?_, ?_⟩
  · simp [setsL, List.getD, hj']
  · intro t ht
    unfold setsL at ht
    rw [← List.map_take, List.mem_map] at ht
    obtain ⟨a, ha, hat⟩ := ht
    have : a = t := by exact_mod_cast hat
    subst this
    obtain ⟨i, hi, e⟩ := List.mem_iff_getElem.1 ha
    rw [List.getElem_take] at e
    have hi2 : i < j := by rw [List.length_take] at hi; omega
    have := hP i j (by omega) hj' hi2
    omega
  · intro t ht hft
    have hts : t ∈ (List.range N).filter f := List.mem_filter.2 ⟨List.mem_range.2 (by have := List.mem_range.1 hmem2.1; omega), hft⟩
    obtain ⟨i, hi, e⟩ := List.mem_iff_getElem.1 hts
    have hij : i < j := by
      rcases Nat.lt_or_ge i j with h | h
      · exact h
      · exfalso
        rcases Nat.lt_or_eq_of_le h with h2 | h2
        · have := hP j i hj' hi h2; omega
        · subst h2; omega
    unfold setsL
    rw [← List.map_take, List.mem_map]
    refine ⟨t, ?_, rfl⟩
    rw [List.mem_take_iff_getElem]
    exact ⟨i, by omega, e⟩
theorem take_succ_mem {I : List Int} {j : Nat} (hj : j < I.length) (t : Int) : t ∈ I.take (j + 1) ↔ t ∈ I.take j ∨ t = I.getD j 0 := by
  have e : I.take (j + 1) = I.take j ++ [I.getD j 0] := by
    rw [List.take_succ_eq_append_getElem hj]; simp [List.getD, hj]
  rw [e, List.mem_append, List.mem_singleton]
def bk (xs I : List Int) (j t : Nat) : Nat := if t = 0 then 1 else if (t : Int) ∈ I.take j then ways xs t else 0
def ik (xs I : List Int) (j s k t : Nat) : Nat := if t = s ∧ s ≠ 0 then bwd xs s k else bk xs I j t
theorem bk_ways {xs I : List Int} {j t : Nat} (h : t = 0 ∨ (t : Int) ∈ I.take j) : bk xs I j t = ways xs t := by
  unfold bk
  by_cases h0 : t = 0
  · subst h0; rw [if_pos rfl, ways_zero]
  · rw [if_neg h0, if_pos (h.resolve_left h0)]
theorem holdsIdeal_whole {xs : List Int} (hg : good xs = true) : holdsIdeal xs (2 ^ xs.length - 1) = true := holdsIdeal_row.2 fun e he _ j hj => by
  rw [Nat.testBit_two_pow_sub_one]
  have := testBit_lt (row_lt hg he).2 hj
  simp; omega
theorem top_sub {xs : List Int} {s k : Nat} (h : (top xs s).testBit k = true) : s.testBit k = true := by
  unfold top at h
  rw [sub_testBit, Bool.and_eq_true] at h
  exact h.1
theorem ik_step {xs I : List Int} {j s k t : Nat} (hg : good xs = true) (hk : k < xs.length) (hI : holdsIdeal xs s = true) (hb : (top xs s).testBit k = true)
    (h2 : ∀ t : Nat, t < s → holdsIdeal xs t = true → (t : Int) ∈ I.take j) :
    ik xs I j s (k + 1) t = if t = s then ik xs I j s k s + ik xs I j s k (s ^^^ 2 ^ k) else ik xs I j s k t := by
  obtain ⟨h3, h4⟩ := top_down hg hI hk hb
  have hlt := xor_lt_self h4
  have hs0 : s ≠ 0 := by rintro rfl; simp at h4
  unfold ik
  by_cases ht : t = s
  · subst ht
    rw [if_pos ⟨rfl, hs0⟩, if_pos rfl, if_pos ⟨rfl, hs0⟩, if_neg (by omega)]
    rw [bk_ways (.inr (h2 _ hlt h3))]
    simp [bwd, sumN, hb]
  · rw [if_neg (fun h => ht h.1), if_neg ht, if_neg (fun h => ht h.1)]
theorem ik_no {xs I : List Int} {j s k t : Nat} (hb : (top xs s).testBit k = false) : ik xs I j s (k + 1) t = ik xs I j s k t := by
  unfold ik bwd
  simp [sumN, hb]
theorem ik_start {xs I : List Int} {j s t : Nat} (h1 : ∀ t : Nat, (t : Int) ∈ I.take j → t < s) : ik xs I j s 0 t = bk xs I j t := by
  unfold ik
  by_cases h : t = s ∧ s ≠ 0
  · rw [if_pos h]
    unfold bk
    rw [if_neg (by omega), if_neg]
    · rfl
    · intro hm; have := h1 t hm; omega
  · rw [if_neg h]
theorem ik_end {xs I : List Int} {j s t : Nat} (hg : good xs = true) (hj : j < I.length) (hs : I.getD j 0 = (s : Int)) (hsl : s < 2 ^ xs.length) (hI : holdsIdeal xs s = true) : ik xs I j s xs.length t = bk xs I (j + 1) t := by
  unfold ik
  by_cases h : t = s ∧ s ≠ 0
  · rw [if_pos h, bwd_full hg hsl h.2 hI, bk_ways]
    · rw [h.1]
    · right; rw [take_succ_mem hj, hs, h.1]; exact .inr rfl
  · rw [if_neg h]
    unfold bk
    by_cases h0 : t = 0
    · rw [if_pos h0, if_pos h0]
    · rw [if_neg h0, if_neg h0]
      have : (t : Int) ∈ I.take (j + 1) ↔ (t : Int) ∈ I.take j := by
        rw [take_succ_mem hj, hs]
        constructor
        · rintro (h1 | h1)
          · exact h1
          · have : t = s := by omega
            subst this
            exact absurd ⟨rfl, h0⟩ h
        · exact .inl
      simp only [this]
theorem bk_le {xs I : List Int} (hl : xs.length ≤ 10) (j t : Nat) : bk xs I j t ≤ 10000000000 := by
  unfold bk
  split
  · omega
  · split
    · exact ways_lt hl t
    · omega
theorem ik_le {xs I : List Int} (hl : xs.length ≤ 10) (j s t : Nat) {k : Nat} (hk : k ≤ xs.length) : ik xs I j s k t ≤ 100000000000 := by
  unfold ik
  split
  · exact bwd_le hl s hk
  · have := bk_le (xs := xs) (I := I) hl j t; omega
theorem bk_last {xs : List Int} (hg : good xs = true) : bk xs (setsL (holdsIdeal xs) (2 ^ xs.length)) (setsL (holdsIdeal xs) (2 ^ xs.length)).length (2 ^ xs.length - 1) = ordersN xs := by
  have h1 := (two_pow_le xs.length (good_length hg).2).1
  refine bk_ways (.inr ?_)
  rw [List.take_length]
  unfold setsL
  exact List.mem_map.2 ⟨_, List.mem_filter.2 ⟨List.mem_range.2 (by omega), holdsIdeal_whole hg⟩, rfl⟩
theorem top_lt {xs : List Int} {s n : Nat} (h : s < n) : top xs s < n := Nat.lt_of_le_of_lt (sub_le _ _) h
set_option maxHeartbeats 3200000 in
theorem implCountOrders_any (v : Value) (xs : List Int) (w : World) (hv : Ints w v xs) (hl : xs.length ≤ 1048576) :
    Calls Tryz.prog 120 #[.agg #[v]] w fun r w' => r = .returned (.tuple #[.int .i64 (ansN xs ordersN), .bool (good xs)]) ∧ Below w.heap.size w w' := by
  have HV := hid hv
  obtain ⟨A, c, rfl, -⟩ := hv
  go_enter Tryz.func120, Tryz.ntmps120
  have HB := hid (below_alloc (Below.refl _ w) (.cells #[(.slice A xs.length c)] 28))
  have A0 := hid (At.newAt w (.slice A xs.length c) 28 w.heap.size (by simp))
  go_wp2_with fail
  refine (implIdealsOf_any _ xs _ (HV.out.below HB.out) hl).mono ?_
  rintro e w' ⟨u, rfl, ho, hlen, hb⟩
  replace HB := hid (below_to HB.out hb)
  replace A0 := hid (A0.out.below hb)
  clear hb
  have HU := hid ho.ints
  clear ho
  cases hq : good xs
  · have HQ := hid hq
    clear hq
    have ebox0 := A0.out.1
    go_wp2
    go_ret2
    exact ⟨ret_ib (ansN_no HQ.out).symm HQ.out.symm, HB.out⟩
  · have HQ := hid hq
    have HIL := hid (idealsL_yes hq)
    have hl10 := (good_length hq).2
    have HL := hid (bk_last hq)
    clear hq
    obtain ⟨N, hN⟩ : ∃ N, 2 ^ xs.length = N := ⟨_, rfl⟩
    have hN2 := two_pow_le xs.length hl10
    obtain ⟨I, hI⟩ : ∃ I, setsL (holdsIdeal xs) N = I := ⟨_, rfl⟩
    have HAt := hid (fun j hj => setsL_at (f := holdsIdeal xs) (N := N) (j := j) hj)
    have hIN := setsL_length (holdsIdeal xs) N
    rw [HIL.out, hN, hI] at HU hlen
    rw [hI] at HAt hIN
    rw [hN, hI] at HL
    rw [hN] at hN2
    obtain ⟨uA, uc, rfl, hUA⟩ := HU.out
    have HUA := hid hUA
    have HN := hid hN
    clear hI hUA
    obtain ⟨g, hg⟩ : ∃ g, w'.heap.size = g := ⟨_, rfl⟩
    have hwg : w.heap.size < g := by have := A0.out.2; omega
    have hM : ((N - 1 : Nat) : Int) + 1 = (N : Int) := by omega
    have hmk := run_make_row' (P := Tryz.prog) 22 3 (.int .i64 0) 8 Tryz.underlying22 Tryz.info3 rfl .i64 .i64 N (by omega) (by omega)
    have hc0 : (madeCells #[Value.int .i64 0] N)[0]? = some (.int .i64 0) := by
      rw [Vals_made, Vals_get (by simp; omega)]
      simp [List.getD, show 0 < N by omega]
    have ebox0 := A0.out.1
    have ebox0z := A0.out.2
    have HG := hid hg
    clear hg
    go_wp2_with (go_at_call 148; refine (wholeSet_any xs.length hl10 _).mono ?_; rw [hN]; rintro e w2 ⟨rfl, rfl⟩)
    clear hmk hc0 hM ebox0 ebox0z hN
    rw [Vals_made, Vals_set]
    have hstart : (List.replicate N (0 : Int)).set 0 1 = mkL N (bk xs I 0) := by
      rw [← mkL_zero, show (1 : Int) = ((1 : Nat) : Int) from rfl, mkL_set 1 (by omega)]
      exact mkL_congr fun i _ => by unfold bk; simp
    rw [hstart, HG.out]
    clear hstart
    go_loopw [30] (fun i wr => ∃ j : Nat, j ≤ I.length ∧ i = .int .i64 j ∧ Blk wr g 3 (Vals (mkL N (bk xs I j))) ∧ At wr w.heap.size (.slice A xs.length c) ∧ Below w.heap.size w wr ∧ Below w'.heap.size w' wr) (fun i _ => I.length - (intOf i).toNat)
    case atStart => exact ⟨0, Nat.zero_le _, rfl, Blk.newAt _ _ _ _ HG.out.symm, A0.out.alloc _, below_alloc HB.out _, below_alloc (Below.refl _ _) _⟩
    case round =>
      obtain ⟨j, hj, rfl, hB, ha, hb, hu⟩ := hrel
      have HB1 := hid hB
      have HA1 := hid ha
      have Hb1 := hid hb
      have HU1 := hid hu
      have hbox := ha.1
      by_cases hlt : j < I.length
      · obtain ⟨s, hs, hsN, hIs, hlo, hup⟩ := HAt.out j hlt
        obtain ⟨b, o, rfl, hbl, hc⟩ := HUA.out (by intro h; simp [h] at hlt)
        have hcell : wr.cell? ⟨b, o + j, none⟩ = some (.int .i64 s) := by rw [(hu.cell (p := ⟨b, o + j, none⟩) hbl).trans (hc j hlt), hs]
        have HS := hid hs
        have HIs := hid hIs
        have HLo := hid hlo
        have HUp := hid hup
        have hs10 : s < 1024 := by omega
        have HSm := hid (good_small HQ.out s)
        clear hc hB ha hb hu hs hIs hlo hup
        go_wp2_with fail
        clear hbox hcell
        refine (top_any _ xs s _ (HV.out.below Hb1.out) hl10 hs10 HSm.out).mono ?_
        rintro e w3 ⟨rfl, hb3⟩
        have HB3 := hid (HB1.out.below hb3 HB1.out.lt)
        have HA3 := hid (HA1.out.below hb3)
        have Hb3 := hid (below_to Hb1.out hb3)
        have HU3 := hid (below_to HU1.out hb3)
        have hbox := HA3.out.1
        obtain ⟨T, hT⟩ : ∃ T, top xs s = T := ⟨_, rfl⟩
        rw [hT]
        have HTop := hid hT
        have hT10 : T < 1024 := by rw [← hT]; exact top_lt hs10
        clear hb3 hT
        go_wp2
        clear hbox
        go_loopw [40] (fun i wi => ∃ k : Nat, k ≤ xs.length ∧ i = .int .i64 k ∧ Blk wi g 3 (Vals (mkL N (ik xs I j s k))) ∧ At wi w.heap.size (.slice A xs.length c) ∧ Below w.heap.size w wi ∧ Below w'.heap.size w' wi) (fun i _ => xs.length - (intOf i).toNat)
        case atStart => exact ⟨0, Nat.zero_le _, rfl, (by rw [mkL_congr (fun t _ => ik_start (xs := xs) HLo.out)]; exact HB3.out), HA3.out, Hb3.out, HU3.out⟩
        case round =>
          obtain ⟨k, hk, rfl, hB, ha, hb, hu⟩ := hrel
          have HB4 := hid hB
          have HA4 := hid ha
          have Hb4 := hid hb
          have HU4 := hid hu
          clear ha hb hu
          by_cases hkl : k < xs.length
          · cases hbit : T.testBit k
            · have HBit := hid hbit
              have HE := hid (mkL_congr (n := N) (fun t _ => ik_no (xs := xs) (I := I) (j := j) (s := s) (k := k) (t := t) (by rw [HTop.out]; exact hbit)))
              clear hbit hB
              go_wp2_with (go_at_call 165; refine (hasElement_any T k (by omega) (by omega) _).mono ?_; rw [HBit.out]; rintro e w' ⟨rfl, rfl⟩)
              go_roundw
              case rel => exact ⟨k + 1, by omega, by go_num, (by rw [HE.out]; exact HB4.out), HA4.out, Hb4.out, HU4.out⟩
              case measure => simp [intOf]; omega
            · have HBit := hid hbit
              have hbs : s.testBit k = true := top_sub (xs := xs) (by rw [HTop.out]; exact hbit)
              have hql := xor_lt_self hbs
              obtain ⟨q, hq⟩ : ∃ q, s ^^^ 2 ^ k = q := ⟨_, rfl⟩
              rw [hq] at hql
              have hqN : q < N := by omega
              have HE : Hid (mkL N (ik xs I j s (k + 1)) = (mkL N (ik xs I j s k)).set s ((ik xs I j s k s + ik xs I j s k q : Nat) : Int)) := hid (mkL_upd _ hsN (fun t _ => by
                rw [ik_step HQ.out hkl HIs.out (by rw [HTop.out]; exact hbit) HUp.out, hq]))
              have wp1 := wrap_pow' k (by omega)
              have hxor := xor_pow s k hs10 (by omega)
              rw [hq] at hxor
              have hcs : wr.cell? ⟨g, s, none⟩ = some (.int .i64 (ik xs I j s k s : Nat)) := by
                rw [hB.cell, Vals_get (by rw [mkL_length]; exact hsN), mkL_getD hsN]
              have hcq : wr.cell? ⟨g, q, none⟩ = some (.int .i64 (ik xs I j s k q : Nat)) := by
                rw [hB.cell, Vals_get (by rw [mkL_length]; exact hqN), mkL_getD hqN]
              have hfs := hB.frozen s
              have hy1 := ik_le (xs := xs) (I := I) hl10 j s s hk
              have hy2 := ik_le (xs := xs) (I := I) hl10 j s q hk
              obtain ⟨y1, hy⟩ : ∃ y, ik xs I j s k s = y := ⟨_, rfl⟩
              rw [hy] at hcs HE hy1
              obtain ⟨y2, hy'⟩ : ∃ y, ik xs I j s k q = y := ⟨_, rfl⟩
              rw [hy'] at hcq HE hy2
              clear hq hy hy' hB hbit hbs
              go_wp2_with (go_at_call 165; refine (hasElement_any T k (by omega) (by omega) _).mono ?_; rw [HBit.out]; rintro e w' ⟨rfl, rfl⟩)
              go_region
              go_wp2
              go_roundw
              case rel => exact ⟨k + 1, by omega, by go_num, (by rw [HE.out, ← Vals_set]; exact HB4.out.set_ s _), HA4.out.far (by show w.heap.size ≠ g; omega) _, (Hb4.out.setCell (by show w.heap.size ≤ g; omega) _).drew, (HU4.out.setCell (by show w'.heap.size ≤ g; have := HG.out; omega) _).drew⟩
              case measure => simp [intOf]; omega
          · obtain rfl : k = xs.length := by omega
            have HE := hid (mkL_congr (n := N) (fun t _ => ik_end (t := t) HQ.out hlt HS.out (by rw [HN.out]; exact hsN) HIs.out))
            clear hB
            go_wp2
            go_roundw
            case rel => exact ⟨j + 1, by omega, by go_num, (by rw [← HE.out]; exact HB4.out), HA4.out, Hb4.out, HU4.out⟩
            case measure => simp [intOf]; omega
      · obtain rfl : j = I.length := by omega
        have hp : N - 1 < N := by omega
        have hcS : wr.cell? ⟨g, N - 1, none⟩ = some (.int .i64 (ordersN xs : Nat)) := by
          rw [hB.cell, Vals_get (by rw [mkL_length]; exact hp), mkL_getD hp, HL.out]
        obtain ⟨R, hR⟩ : ∃ R, ordersN xs = R := ⟨_, rfl⟩
        rw [hR] at hcS
        have HR := hid hR
        obtain ⟨M, hM⟩ : ∃ M, N - 1 = M := ⟨_, rfl⟩
        rw [hM] at hcS hp ⊢
        clear hB ha hb hu hR hM
        go_wp2
        go_ret2
        exact ⟨ret_ib (by rw [ansN_yes HQ.out, HR.out]) HQ.out.symm, Hb1.out⟩
end Go.Proofs.YtbmhaamenjhjfaaGreatDoor
namespace Go.Proofs.YtbmhaamenjhjfaaGreatDoor
open Go.RowKit Go.WideShapes Go.ChangeShapes
set_option linter.unusedVariables false
def lensT (ls : List (List Int)) (k : Nat) : List Int := (ls.take k).map fun l => ((l.length : Nat) : Int)
theorem lensT_succ (ls : List (List Int)) {k : Nat} (hk : k < ls.length) : lensT ls (k + 1) = lensT ls k ++ [(((ls.getD k []).length : Nat) : Int)] := by
  unfold lensT
  rw [List.take_succ_eq_append_getElem hk, List.map_append]
  simp [List.getD, hk]
theorem lensT_length (ls : List (List Int)) {k : Nat} (hk : k ≤ ls.length) : (lensT ls k).length = k := by simp [lensT]; omega
def lensXs (xs : List Int) : List Int := lensT (allXs xs) (allXs xs).length
theorem lensXs_starts (xs : List Int) : lensXs xs = (starts (rowmo xs) (2 ^ xs.length) (idsXs xs)).map fun s => ((per (rowmo xs) (2 ^ xs.length) s : Nat) : Int) := by
  unfold lensXs lensT allXs orbsOf
  rw [List.take_length, List.map_map]
  exact List.map_congr_left fun s _ => by simp [orbL_length]
theorem lensXs_cyc {xs : List Int} (hg : good xs = true) : cyclesL (rowmo xs) (2 ^ xs.length) (setsL (holdsIdeal xs) (2 ^ xs.length)) = lensXs xs := by
  rw [lensXs_starts]
  exact cyclesL_starts (rowMov hg) (idsXs_D xs)
theorem allXs_length {xs : List Int} (hg : good xs = true) : (allXs xs).length ≤ 1024 := by
  unfold allXs
  rw [orbsOf_length]
  have := startsN_length (rowmo xs) (2 ^ xs.length) (idsXs xs) (idsXs xs).length
  have := (idsXs_length hg).2
  unfold starts
  omega
theorem allXs_row {xs : List Int} (hg : good xs = true) {j : Nat} (hj : j < (allXs xs).length) : ∃ s : Nat, idB xs s = true ∧ (allXs xs).getD j [] = orbXs xs s := by
  unfold allXs orbsOf at hj ⊢
  rw [List.length_map] at hj
  refine ⟨(starts (rowmo xs) (2 ^ xs.length) (idsXs xs))[j], startsN_D (idsXs_D xs) (Nat.le_refl _) (List.getElem_mem hj), ?_⟩
  simp [List.getD, hj, orbXs]
theorem lensXs_length {xs : List Int} (hg : good xs = true) : (lensXs xs).length ≤ 1024 := by
  unfold lensXs
  rw [lensT_length _ (Nat.le_refl _)]
  exact allXs_length hg
theorem lensXs_pos {xs : List Int} (hg : good xs = true) : ∀ x ∈ lensXs xs, 1 ≤ x ∧ x ≤ 1024 := by
  intro x hx
  rw [← lensXs_cyc hg] at hx
  have h3 := pow10 (good_length hg).2
  obtain ⟨N, hN⟩ : ∃ N, 2 ^ xs.length = N := ⟨_, rfl⟩
  rw [hN] at hx h3
  have h1 := cycSt_pos (rowmo xs) N (setsL (holdsIdeal xs) N) _ x hx
  omega
set_option maxHeartbeats 800000 in
theorem obLengths_any (v : Value) (xs : List Int) (w : World) (hv : Ints w v xs) (hg : good xs = true) :
    Calls Tryz.prog 91 #[.agg #[v]] w fun (r : Ending) w' => ∃ q, r = Ending.returned q ∧ OwnI 3 w' w.heap.size q (lensXs xs) ∧ Below w.heap.size w w' := by
  have HV := hid hv
  have HG := hid hg
  have HLn := hid (allXs_length hg)
  clear hv hg
  go_enter Tryz.func91, Tryz.ntmps91
  have HB := hid (below_alloc (Below.refl _ w) (.cells #[v] 28))
  have A0 := hid (At.newAt w v 28 w.heap.size (by simp))
  go_wp2_with fail
  refine (obAll_any _ xs _ (HV.out.below HB.out) HG.out).mono ?_
  rintro e w' ⟨q, rfl, ho, hb⟩
  replace HB := hid (below_to HB.out hb)
  replace A0 := hid (A0.out.below hb)
  clear hb
  have hz := HB.out.size
  have HI := hid ho.ints
  have HEnd : Hid (lensXs xs = lensT (allXs xs) (allXs xs).length) := hid rfl
  obtain ⟨ls, hls⟩ : ∃ ls, allXs xs = ls := ⟨_, rfl⟩
  rw [hls] at HI HLn HEnd
  obtain ⟨A, c, rfl, hA⟩ := HI.out
  have HA := hid hA
  have hl1 := HLn.out
  clear ho HI hA hls
  go_wp2
  go_loopw [3, 9] (fun q i wr => ∃ (k : Nat), k ≤ ls.length ∧ i = .int .i64 k ∧ OwnI 3 wr w'.heap.size q (lensT ls k) ∧ Below w'.heap.size w' wr) (fun _ i _ => ls.length - (intOf i).toNat)
  case atStart => exact ⟨0, Nat.zero_le _, rfl, OwnI.nil _ _ _, Below.refl _ _⟩
  case round =>
    obtain ⟨k, hk, rfl, ho, hb⟩ := hrel
    have HO := hid ho
    have HB1 := hid hb
    have hz1 := hb.size
    by_cases hlt : k < ls.length
    · obtain ⟨b, o, u, rfl, hbl, hc, hi⟩ := HA.out k hlt
      have hcell := (hb.cell (p := ⟨b, o + k, none⟩) hbl).trans hc
      obtain ⟨uA, uc, rfl, -⟩ := hi
      have HSn := hid (lensT_succ ls hlt)
      have hll := lensT_length ls hk
      obtain ⟨n, hn⟩ : ∃ n, (ls.getD k []).length = n := ⟨_, rfl⟩
      rw [hn] at hcell HSn
      have hl48 : (lensT ls k).length < 1048576 := by omega
      clear ho hb hc hn hll
      go_wp2_with (at_builtin; refine wpList_append_int rfl _ _ 22 3 rfl Tryz.underlying22 Tryz.info3 w'.heap.size _ _ n rfl HO.out rfl rfl hl48 hz1 ?_; rintro q2 w6 ho6 hb6)
      go_roundw
      case rel => exact ⟨k + 1, by omega, by go_num, (by rw [HSn.out]; exact ho6), HB1.out.trans hb6⟩
      case measure => simp [intOf]; omega
    · obtain rfl : k = ls.length := by omega
      clear ho hb
      go_wp2
      go_ret
      exact ⟨_, rfl, (by rw [HEnd.out]; exact HO.out.mono hz), below_to HB.out HB1.out⟩
def ansOL (xs : List Int) : List Int := if good xs then lensXs xs else []
theorem ansOL_no {xs : List Int} (h : good xs = false) : ansOL xs = [] := by simp [ansOL, h]
theorem ansOL_yes {xs : List Int} (h : good xs = true) : ansOL xs = lensXs xs := by simp [ansOL, h]
theorem ansOL_length (xs : List Int) : (ansOL xs).length ≤ 1048576 := by
  cases h : good xs
  · rw [ansOL_no h]; simp
  · rw [ansOL_yes h]; have := lensXs_length h; omega
theorem implOrbitLengths_any (v : Value) (xs : List Int) (w : World) (hv : Ints w v xs) (hl : xs.length ≤ 1048576) :
    Calls Tryz.prog 121 #[.agg #[v]] w fun (r : Ending) w' => ∃ q, r = Ending.returned (.tuple #[q, .bool (good xs)]) ∧ OwnI 3 w' w.heap.size q (ansOL xs) ∧ (ansOL xs).length ≤ 1048576 ∧ Below w.heap.size w w' := by
  have HV := hid hv
  have HL := hid (ansOL_length xs)
  clear hv
  go_enter Tryz.func121, Tryz.ntmps121
  have HB := hid (below_alloc (Below.refl _ w) (.cells #[v] 28))
  have A0 := hid (At.newAt w v 28 w.heap.size (by simp))
  go_wp2_with fail
  refine (implIsPoset_any _ xs _ (HV.out.below HB.out) hl).mono ?_
  rintro e w' ⟨rfl, hb⟩
  replace HB := hid (below_to HB.out hb)
  replace A0 := hid (A0.out.below hb)
  clear hb
  cases hq : good xs
  · have HQ := hid hq
    clear hq
    have ebox0 := A0.out.1
    go_wp2
    go_ret2
    exact ⟨_, ret_vb' HQ.out.symm, by rw [ansOL_no HQ.out]; exact OwnI.nil _ _ _, HL.out, HB.out⟩
  · have HQ := hid hq
    have HE := hid (lensXs_cyc hq)
    have hz := HB.out.size
    clear hq
    have ebox0 := A0.out.1
    go_wp2_with fail
    clear ebox0
    refine (cyclesRow_any _ xs _ (HV.out.below HB.out) HQ.out).mono ?_
    rintro e w' ⟨q, rfl, ho, hb⟩
    replace HB := hid (below_to HB.out hb)
    replace A0 := hid (A0.out.below hb)
    clear hb
    have ebox0 := A0.out.1
    go_wp2
    go_ret2
    exact ⟨_, ret_vb' HQ.out.symm, by rw [ansOL_yes HQ.out, ← HE.out]; exact ho.mono hz, HL.out, HB.out⟩
end Go.Proofs.YtbmhaamenjhjfaaGreatDoor
namespace Go.Proofs.YtbmhaamenjhjfaaGreatDoor
open Go.RowKit Go.WideShapes Go.ChangeShapes
open Go.Maps (Keyed keyOf_int_mk int_keyed)
set_option linter.unusedVariables false
theorem lawInt : Keyed Tryz.prog 3 := int_keyed Tryz.underlying3
def MSet (w : World) (b n : Nat) (S : Nat → Bool) : Prop :=
  ∃ D : DataW Unit, w.ownsMap Tryz.prog 3 (plainElem Tryz.prog 4) b n D ∧ ∀ x : Int, Maps.has D (.int .i64 x) = true ↔ ∃ s : Nat, x = (s : Int) ∧ S s = true
theorem MSet.made (w : World) : MSet (w.alloc (.map #[] 0)) w.heap.size 0 (fun _ => false) :=
  ⟨.map [], World.ownsMap_made _ _ _ _, fun x => by simp [Maps.has_eq]⟩
theorem MSet.lt {w : World} {b n : Nat} {S : Nat → Bool} (h : MSet w b n S) : b < w.heap.size := by
  obtain ⟨D, h1, _⟩ := h; exact h1.lt
theorem MSet.belowB {w w' : World} {b n B : Nat} {S : Nat → Bool} (h : MSet w b n S) (hb : Below B w w') (hB : b < B) : MSet w' b n S := by
  obtain ⟨D, ⟨es, clock, h1, h2⟩, h3⟩ := h
  exact ⟨D, ⟨es, clock, (hb.block b hB).trans h1, h2⟩, h3⟩
theorem MSet.below {w w' : World} {b n : Nat} {S : Nat → Bool} (h : MSet w b n S) (hb : Below w.heap.size w w') : MSet w' b n S := h.belowB hb h.lt
theorem MSet.drew {w : World} {b n : Nat} {S : Nat → Bool} (h : MSet w b n S) : MSet w.drew b n S := h
theorem MSet.mono {w : World} {b n n' : Nat} {S : Nat → Bool} (h : MSet w b n S) (hn : n ≤ n') : MSet w b n' S := by
  obtain ⟨D, h1, h2⟩ := h; exact ⟨D, h1.mono hn, h2⟩
theorem MSet.congr {w : World} {b n : Nat} {S S' : Nat → Bool} (h : MSet w b n S) (e : ∀ s, S s = S' s) : MSet w b n S' := by
  obtain ⟨D, h1, h2⟩ := h
  exact ⟨D, h1, fun x => by rw [h2]; constructor <;> rintro ⟨s, hs, hS⟩ <;> exact ⟨s, hs, by simpa [e] using hS⟩⟩
theorem lit_ne {x y : Int} (h : x ≠ y) : (Lit.int .i64 x) ≠ (Lit.int .i64 y) := fun e => h (by injection e)
theorem has_put {D : DataW Unit} (hD : Maps.IsMap D) {S : Nat → Bool} (h : ∀ x : Int, Maps.has D (.int .i64 x) = true ↔ ∃ s : Nat, x = (s : Int) ∧ S s = true) (t : Nat) (d : DataW Unit) (x : Int) :
    Maps.has (D.put (.int .i64 (t : Int)) d) (.int .i64 x) = true ↔ ∃ s : Nat, x = (s : Int) ∧ (S s || s == t) = true := by
  by_cases e : x = (t : Int)
  · subst e
    rw [Maps.has_put_same hD (by trivial)]
    exact ⟨fun _ => ⟨t, rfl, by simp⟩, fun _ => rfl⟩
  · rw [Maps.has_put_other (lit_ne e), h]
    constructor
    · rintro ⟨s, hs, hS⟩; exact ⟨s, hs, by simp [hS]⟩
    · rintro ⟨s, hs, hS⟩
      refine ⟨s, hs, ?_⟩
      simp only [Bool.or_eq_true, beq_iff_eq] at hS
      rcases hS with hS | hS
      · exact hS
      · exact absurd (by rw [hs, hS]) e
theorem has_del {D : DataW Unit} {S : Nat → Bool} (h : ∀ x : Int, Maps.has D (.int .i64 x) = true ↔ ∃ s : Nat, x = (s : Int) ∧ S s = true) (t : Nat) (x : Int) :
    Maps.has (D.del (.int .i64 (t : Int))) (.int .i64 x) = true ↔ ∃ s : Nat, x = (s : Int) ∧ (S s && !(s == t)) = true := by
  by_cases e : x = (t : Int)
  · subst e
    rw [Maps.has_del_same]
    constructor
    · intro h; cases h
    · rintro ⟨s, hs, hS⟩
      have : s = t := by omega
      subst this
      simp at hS
  · rw [Maps.has_del_other (lit_ne e), h]
    constructor
    · rintro ⟨s, hs, hS⟩; exact ⟨s, hs, by simp [hS]; rintro rfl; exact e hs⟩
    · rintro ⟨s, hs, hS⟩
      simp only [Bool.and_eq_true] at hS
      exact ⟨s, hs, hS.1⟩
theorem size_pos {w : World} {b n : Nat} {D : DataW Unit} (h : w.ownsMap Tryz.prog 3 (plainElem Tryz.prog 4) b n D) (hs : 0 < Maps.size D) : ∃ x : Int, Maps.has D (.int .i64 x) = true := by
  obtain ⟨es, clock, hb, F, hz, rfl⟩ := h
  have e1 : 0 < es.toList.length := by simpa [Maps.size, length_sorted] using hs
  obtain ⟨x, hx⟩ := List.exists_mem_of_length_pos e1
  obtain ⟨y, hy⟩ := F.reads x hx
  have hk := WideElems.rd_key hy
  obtain ⟨a, h1, h2, h3⟩ := Maps.keyOf_int_inv Tryz.underlying3 hk
  refine ⟨a, ?_⟩
  refine List.any_eq_true.2 ⟨WideElems.rg Tryz.prog 3 (plainElem Tryz.prog 4) x, mem_sorted.2 (List.mem_map.2 ⟨x, hx, rfl⟩), ?_⟩
  rw [WideElems.rg_of hy, h2]
  exact WideAt.sameKey_self trivial
theorem pos_of_has {D : DataW Unit} (hD : Maps.IsMap D) {kl : Lit} (h : Maps.has D kl = true) : 0 < Maps.size D := by
  obtain ⟨es, rfl⟩ := hD
  rw [Maps.has_eq] at h
  rw [Maps.size_eq]
  obtain ⟨p, hp, _⟩ := List.any_eq_true.1 h
  exact List.length_pos_of_mem hp
theorem grown_below {w w' : World} {r : Nat} {B : Nat} (h : Below B w w') {w'' : World} (hg : w'.grownBy w'' (some r)) (hr : B ≤ r) (hB : B ≤ w.heap.size) : Below B w w'' :=
  h.grown hg (Nat.le_trans hB h.size) (fun k hk => by simp only [Option.some.injEq] at hk; subst hk; exact hr)
set_option maxRecDepth 100000 in
set_option maxHeartbeats 800000 in
theorem least_any (b n m : Nat) (S : Nat → Bool) (w : World) (hm : MSet w b n S) (hm1 : S m = true) (hm2 : ∀ s, S s = true → m ≤ s) (hbig : m < 1024) :
    Calls Tryz.prog 213 #[.map (some b)] w fun r w' => r = .returned (.int .i64 (m : Nat)) ∧ Below w.heap.size w w' := by
  obtain ⟨D, hown, hD⟩ := hm
  have HD := hid hD
  have HM1 := hid hm1
  have HM2 := hid hm2
  clear hD hm1 hm2
  go_enter Tryz.func213, Tryz.ntmps213
  go_wp2_with (first
    | (at_range; refine wpList_range_own _ rfl _ 230 rfl 3 4 lawInt Tryz.underlying230 _ b n _ rfl hown ?_; intro w0 hrg0 hg0 hs0)
    | go_in)
  go_frame
  go_loopw [3] (fun q wr => ∃ (left : Lit → Bool) (cnt : Nat) (y : Int), q = .int .i64 y ∧ wr.ranges Tryz.prog 3 (plainElem Tryz.prog 4) b w.heap.size n D left cnt ∧ Below w.heap.size w wr ∧ Hid (∀ x : Int, Maps.has D (.int .i64 x) = true → left (.int .i64 x) = false → y ≤ x) ∧ Hid (y = 9223372036854775807 ∨ Maps.has D (.int .i64 y) = true)) (fun _ wr => wr.rangeLeft b w.heap.size)
  case atStart => exact ⟨_, _, _, rfl, hrg0, (Below.refl _ _).grown hg0 (Nat.le_refl _) (fun k hk => by cases hk), hid (fun x h1 h2 => by rw [h1] at h2; cases h2), hid (Or.inl rfl)⟩
  case round =>
    obtain ⟨left, cnt, y, rfl, hrg, hb, HY, HE⟩ := hrel
    go_wp2_with (first
      | (at_next; refine wpList_next_ranges _ rfl _ rfl 3 lawInt (plainElem Tryz.prog 4) (Value.int .i64) (fun v : Value => v) (fun key kl hkey => by obtain ⟨x, rfl, _⟩ := Maps.keyOf_int_inv Tryz.underlying3 hkey; exact ⟨x, rfl⟩) (fun v y hv => ⟨v, rfl⟩) b w.heap.size n _ _ _ rfl hrg ?_ ?_)
      | go_in)
    · intro hc0 hl0
      have HR : Hid (y = (m : Int)) := hid (by
        have h1 := HY.out m ((HD.out m).2 ⟨m, rfl, HM1.out⟩) (hl0 _)
        rcases HE.out with h2 | h2
        · omega
        · obtain ⟨s, hs, hS⟩ := (HD.out y).1 h2
          have := HM2.out s hS
          omega)
      clear hl0
      go_wp2
      go_ret
      exact ⟨ret_int (by rw [HR.out]), hb⟩
    · intro x c kl ya yb w1 cnt1 hkey hlx hv hat hrg1 hlt hg1 hs1 hen
      obtain ⟨x', ex, hkl, hwx⟩ := Maps.keyOf_int_inv Tryz.underlying3 hkey
      cases ex
      subst hkl
      have hhas : Maps.has D (.int .i64 x) = true := Maps.has_true_of_atKey hat
      have HHas := hid hhas
      have HB1 := hid (grown_below hb hg1 (Nat.le_refl _) (Nat.le_refl _))
      clear hat hhas hkey hv
      go_wp2
      go_roundw
      case rel => exact ⟨_, cnt1, _, rfl, hrg1, HB1.out, hid (fun z hz hz2 => by
        rw [Bool.and_eq_false_iff] at hz2
        rcases hz2 with hz2 | hz2
        · have := HY.out z hz hz2
          omega
        · have h3 : (Lit.int .i64 z).sameKey (.int .i64 x) = true := by simpa using hz2
          have h4 := WideAt.sameKey_eq h3
          injection h4 with _ h4
          omega), hid (by
        by_cases hle : x < y
        · rw [if_pos hle]; exact .inr HHas.out
        · rw [if_neg hle]; exact HE.out)⟩
      case measure => rw [hrg1.left_eq, hrg.left_eq]; exact hlt
theorem take_contains {ls : List Int} {k : Nat} (hk : k < ls.length) {s : Nat} (hs : ls.getD k 0 = (s : Int)) (t : Nat) : (ls.take (k + 1)).contains (t : Int) = ((ls.take k).contains (t : Int) || t == s) := by
  have e : ls.take (k + 1) = ls.take k ++ [(s : Int)] := by
    rw [List.take_succ_eq_append_getElem hk]
    have : ls[k] = (s : Int) := by rw [← hs]; simp [List.getD, hk]
    rw [this]
  rw [e, List.contains_eq_any_beq, List.contains_eq_any_beq, List.any_append]
  congr 1
  simp only [List.any_cons, List.any_nil, Bool.or_false]
  rw [Bool.eq_iff_iff, beq_iff_eq, beq_iff_eq]; omega
theorem cell_no_map {w : World} {b o : Nat} {es : Array MapEntry} {clock : Nat} (h : w.heap[b]? = some (.map es clock)) {y : Value} (hc : w.cell? ⟨b, o, none⟩ = some y) : False := by
  simp [World.cell?, h] at hc
set_option maxRecDepth 100000 in
set_option maxHeartbeats 800000 in
theorem remove_any (b n : Nat) (S : Nat → Bool) (u : Value) (ls : List Int) (w : World) (hm : MSet w b n S) (hu : Ints w u ls) (hl : ls.length ≤ 1048576) (hp : ∀ j, j < ls.length → ∃ s : Nat, ls.getD j 0 = (s : Int) ∧ s < 1024) :
    Calls Tryz.prog 214 #[.map (some b), u] w fun r w' => r = .returned (.tuple #[]) ∧ MSet w' b n (fun t => S t && !(ls.contains (t : Int))) ∧ w.grownBy w' (some b) := by
  have HM := hid hm
  have HP := hid hp
  obtain ⟨A, c, rfl, hA⟩ := hu
  have HA := hid hA
  clear hA hm hp
  go_enter Tryz.func214, Tryz.ntmps214
  go_wp2
  go_loopw [8] (fun i wr => ∃ k : Nat, k ≤ ls.length ∧ i = .int .i64 k ∧ MSet wr b n (fun t => S t && !((ls.take k).contains (t : Int))) ∧ w.grownBy wr (some b)) (fun i _ => ls.length - (intOf i).toNat)
  case atStart => exact ⟨0, Nat.zero_le _, rfl, HM.out.congr (fun s => by simp), World.grownBy.refl _ _⟩
  case round =>
    obtain ⟨k, hk, rfl, hm, hg⟩ := hrel
    by_cases hlt : k < ls.length
    · obtain ⟨b2, o, rfl, hbl, hc⟩ := HA.out (by intro h; simp [h] at hlt)
      obtain ⟨s, hs, hD⟩ := HP.out k hlt
      have hc1 := hc k hlt
      rw [hs] at hc1
      have hne : b2 ≠ b := by
        rintro rfl
        obtain ⟨D, ⟨es, clock, h1, _⟩, _⟩ := HM.out
        exact cell_no_map h1 hc1
      have hcell : wr.cell? ⟨b2, o + k, none⟩ = some (.int .i64 (s : Nat)) := hg.cell (a := ⟨b2, o + k, none⟩) hc1 (by simp only [ne_eq, Option.some.injEq]; exact hne)
      have HTk := hid (take_contains hlt hs)
      obtain ⟨D, hown, hDD⟩ := hm
      have HDD := hid hDD
      have HG := hid hg
      clear hc hc1 hs hDD hg hne
      go_wp2_with (first
        | (at_delete; refine wpList_delete_own _ rfl _ _ 230 3 rfl 4 lawInt Tryz.underlying230 _ b n _ rfl hown _ _ rfl (keyOf_int_mk Tryz.underlying3 (WalkArith.wf_i64 (by omega))) ?_; intro w1 hown1 hturn1; go_frame)
        | go_in)
      go_roundw
      case rel => exact ⟨k + 1, by omega, by go_num, ⟨_, hown1, fun x => by
        rw [has_del HDD.out]
        constructor
        · rintro ⟨t, ht, hS⟩
          refine ⟨t, ht, ?_⟩
          show (S t && !((ls.take (k + 1)).contains (t : Int))) = true
          rw [HTk.out]
          revert hS
          cases S t <;> cases (ls.take k).contains (t : Int) <;> cases (t == s) <;> simp
        · rintro ⟨t, ht, hS⟩
          refine ⟨t, ht, ?_⟩
          have hS : (S t && !((ls.take (k + 1)).contains (t : Int))) = true := hS
          rw [HTk.out] at hS
          revert hS
          cases S t <;> cases (ls.take k).contains (t : Int) <;> cases (t == s) <;> simp⟩, grown_trans HG.out hturn1.grown⟩
      case measure => simp [intOf]; omega
    · obtain rfl : k = ls.length := by omega
      go_wp2
      go_end0
      exact ⟨rfl, hm.congr (fun s => by rw [List.take_length]), hg⟩
end Go.Proofs.YtbmhaamenjhjfaaGreatDoor
