/- Texts OrdC, CurI, Drw, Byt, LwH, one behind the other. -/
import Derived.Deep.RegionHeld3
import Derived.Test.YtdemikjaghegnaaPkRowmotionByTogglesProof00
import Derived.Test.YtdemikjaghegnaaPkRowmotionByTogglesProof01
import Derived.Test.YtdemikjaghegnaaPkRowmotionByTogglesProof02
import Derived.Test.YtdemikjaghegnaaPkRowmotionByTogglesProof04
import Derived.Test.YtdemikjaghegnaaPkRowmotionByTogglesProof05
import Derived.Test.YtdemikjaghegnaaPkRowmotionByTogglesProof07
/- CountOrders: the two tables. -/
namespace Go.Proofs.Ytdemikjaghegnaa
open Go.RowKit Go.WideShapes Go.ChangeShapes
set_option linter.unusedVariables false

set_option maxHeartbeats 1600000 in
theorem tgOrders_any (v : Value) (xs : List Int) (w : World) (hv : Ints w v xs) (hg : good xs = true) :
    Calls Try.prog 76 #[.agg #[v]] w fun r w' => r = .returned (.int .i64 (ordersN xs : Nat)) ∧ Below w.heap.size w w' := by
  have hl10 := (good_length hg).2
  have HG := hid hg
  obtain ⟨A, c, rfl, hA⟩ := hv
  have HA := hid hA
  obtain ⟨N, hN⟩ : ∃ N, 2 ^ xs.length = N := ⟨_, rfl⟩
  have wp : wrap64 ((2 : Int) ^ xs.length) = (N : Int) := by rw [wrap_pow xs.length hl10, hN]
  have hN2 := two_pow_le xs.length hl10
  rw [hN] at hN2
  have HN := hid hN
  have HLe := hid (fwd_le xs hl10)
  have HW := hid (ways_lt hl10)
  have hmk := run_make_row' (P := Try.prog) 24 3 (.int .i64 0) 8 Try.underlying24 Try.info3 rfl .i64 .i64 N (by omega) (by omega)
  have hc0 : (madeCells #[Value.int .i64 0] N)[0]? = some (.int .i64 0) := by
    rw [Vals_made, Vals_get (by simp; omega)]
    simp [List.getD, show 0 < N by omega]
  clear hA hg hN
  go_enter Try.func76, Try.ntmps76
  go_wp2
  clear hmk hc0 wp
  rw [Vals_made, Vals_set]
  have hstart : (List.replicate N (0 : Int)).set 0 1 = mkL N (fwd xs 0 0) := by
    rw [← mkL_zero, show (1 : Int) = ((1 : Nat) : Int) from rfl, mkL_set 1 (by omega)]
    exact mkL_congr fun i _ => by rw [fwd_start]
  rw [hstart]
  clear hstart
  go_loopw [17] (fun i wr => ∃ S : Nat, S ≤ N ∧ i = .int .i64 S ∧ Blk wr (w.heap.size + 1) 3 (Vals (mkL N (fwd xs S 0))) ∧ At wr w.heap.size (.slice A xs.length c) ∧ Below w.heap.size w wr) (fun i _ => N - (intOf i).toNat)
  case atStart => exact ⟨0, Nat.zero_le _, rfl, Blk.newAt _ _ _ _ (by simp), (At.new _ _ _).alloc _, below_alloc (below_alloc (Below.refl _ w) _) _⟩
  case round =>
    obtain ⟨S, hS, rfl, hB, ha, hb⟩ := hrel
    by_cases hlt : S < N
    · have hcS : wr.cell? ⟨w.heap.size + 1, S, none⟩ = some (.int .i64 (ways xs S : Nat)) := by
        rw [hB.cell, Vals_get (by rw [mkL_length]; exact hlt), mkL_getD hlt, fwd_self]
      have hbox := ha.1
      have HB := hid hB
      have HA1 := hid ha
      have Hb := hid hb
      clear hB ha hb
      have hwx := HW.out S
      obtain ⟨x, hx⟩ : ∃ x, ways xs S = x := ⟨_, rfl⟩
      rw [hx] at hcS hwx
      have HX := hid hx
      clear hx
      by_cases h0 : x = 0
      · subst h0
        have HE := hid (mkL_congr (n := N) (fun i _ => fwd_skip (xs := xs) HX.out i))
        go_wp2
        go_roundw
        case rel => exact ⟨S + 1, by omega, by go_num, by rw [← HE.out]; exact HB.out, HA1.out, Hb.out⟩
        case measure => simp [intOf]; omega
      · have hx0 : ((x : Int) == 0) = false := by rw [beq_eq_false_iff_ne]; omega
        have hx1 : 1 ≤ x := by omega
        clear h0
        go_wp2
        clear hx0
        go_loopw [27] (fun i wi => ∃ k : Nat, k ≤ xs.length ∧ i = .int .i64 k ∧ Blk wi (w.heap.size + 1) 3 (Vals (mkL N (fwd xs S k))) ∧ At wi w.heap.size (.slice A xs.length c) ∧ Below w.heap.size w wi) (fun i _ => xs.length - (intOf i).toNat)
        case atStart => exact ⟨0, Nat.zero_le _, rfl, HB.out, HA1.out, Hb.out⟩
        case round =>
          obtain ⟨k, hk, rfl, hB, ha, hb⟩ := hrel
          by_cases hkl : k < xs.length
          · obtain ⟨b, o, rfl, hbl, hc⟩ := HA.out (by intro h; simp [h] at hkl)
            have hcell : wr.cell? ⟨b, o + k, none⟩ = some (.int .i64 (xs.getD k 0)) := (hb.cell (p := ⟨b, o + k, none⟩) hbl).trans (hc k hkl)
            have hr := row_lt HG.out hkl
            have hr10 := row_lt10 HG.out hkl
            obtain ⟨z, hz⟩ : ∃ z, row xs k = z := ⟨_, rfl⟩
            rw [hz] at hr hr10
            rw [hr.1] at hcell
            have HZ := hid hz
            have HB2 := hid hB
            have HA2 := hid ha
            have Hb2 := hid hb
            have hS10 : S < 1024 := by omega
            clear hc hr hz ha hb
            cases hbit : S.testBit k
            · have HBit := hid hbit
              have han := i64_andNot_nat z S (by omega) (by omega)
              by_cases hs0 : sub z S = 0
              · have h0' : (((sub z S : Nat) : Int) == 0) = true := by rw [hs0]; rfl
                have hp1 : stepP xs S k = true := by simp [stepP, hbit, HZ.out, hs0]
                have hqn : S ||| 2 ^ k < N := by rw [← HN.out]; exact Nat.or_lt_two_pow (by rw [HN.out]; omega) (pow_lt_len hkl)
                obtain ⟨q, hq⟩ : ∃ q, S ||| 2 ^ k = q := ⟨_, rfl⟩
                have HE : Hid (mkL N (fwd xs S (k + 1)) = (mkL N (fwd xs S k)).set q ((fwd xs S k q + x : Nat) : Int)) := hid (mkL_upd _ (by rw [← hq]; exact hqn) (fun i _ => by
                  rw [fwd_step hkl, HX.out]
                  by_cases hi : i = q
                  · subst hi; rw [if_pos ⟨hp1, hq.symm⟩, if_pos rfl]
                  · rw [if_neg (fun h => hi (by rw [h.2, hq])), if_neg hi]))
                have wp1 := wrap_pow' k (by omega)
                have hor := or_pow S k hS10 (by omega)
                rw [hq] at hor hqn
                have hcq : wr.cell? ⟨w.heap.size + 1, q, none⟩ = some (.int .i64 (fwd xs S k q : Nat)) := by
                  rw [hB.cell, Vals_get (by rw [mkL_length]; exact hqn), mkL_getD hqn]
                have hfq := hB.frozen q
                have hyl := HLe.out S k q
                obtain ⟨y, hy⟩ : ∃ y, fwd xs S k q = y := ⟨_, rfl⟩
                rw [hy] at hcq HE hyl
                clear hs0 hp1 hq hy hB hbit
                go_wp2_with (go_at_call 96; refine (poIn_any S k (by omega) _).mono ?_; rw [HBit.out]; rintro e w' ⟨rfl, rfl⟩)
                go_roundw
                case rel => exact ⟨k + 1, by omega, by go_num, (by rw [HE.out, ← Vals_set]; exact HB2.out.set_ q _), HA2.out.far (by show w.heap.size ≠ w.heap.size + 1; omega) _, Hb2.out.setCell (by show w.heap.size ≤ w.heap.size + 1; omega) _⟩
                case measure => simp [intOf]; omega
              · have h0' : (((sub z S : Nat) : Int) == 0) = false := by rw [beq_eq_false_iff_ne]; omega
                have HE : Hid (mkL N (fwd xs S (k + 1)) = mkL N (fwd xs S k)) := hid (mkL_congr fun i _ => by
                  rw [fwd_step hkl, if_neg]; rintro ⟨h, _⟩; simp [stepP, HZ.out, hs0] at h)
                clear hs0 hB hbit
                go_wp2_with (go_at_call 96; refine (poIn_any S k (by omega) _).mono ?_; rw [HBit.out]; rintro e w' ⟨rfl, rfl⟩)
                go_roundw
                case rel => exact ⟨k + 1, by omega, by go_num, (by rw [HE.out]; exact HB2.out), HA2.out, Hb2.out⟩
                case measure => simp [intOf]; omega
            · have HBit := hid hbit
              have HE : Hid (mkL N (fwd xs S (k + 1)) = mkL N (fwd xs S k)) := hid (mkL_congr fun i _ => by
                rw [fwd_step hkl, if_neg]; rintro ⟨h, _⟩; simp [stepP, hbit] at h)
              clear hB hbit
              go_wp2_with (go_at_call 96; refine (poIn_any S k (by omega) _).mono ?_; rw [HBit.out]; rintro e w' ⟨rfl, rfl⟩)
              go_roundw
              case rel => exact ⟨k + 1, by omega, by go_num, (by rw [HE.out]; exact HB2.out), HA2.out, Hb2.out⟩
              case measure => simp [intOf]; omega
          · obtain rfl : k = xs.length := by omega
            have HE := hid (mkL_congr (n := N) (fun i _ => fwd_next xs S i))
            have HB2 := hid hB
            have HA2 := hid ha
            have Hb2 := hid hb
            clear hB ha hb
            go_wp2
            go_roundw
            case rel => exact ⟨S + 1, by omega, by go_num, by rw [← HE.out]; exact HB2.out, HA2.out, Hb2.out⟩
            case measure => simp [intOf]; omega
    · obtain rfl : S = N := by omega
      have hcS : wr.cell? ⟨w.heap.size + 1, S - 1, none⟩ = some (.int .i64 (ordersN xs : Nat)) := by
        rw [hB.cell, Vals_get (by rw [mkL_length]; omega), mkL_getD (by omega), fwd_below _ _ _ _ (by omega), ordersN, HN.out]
      have HB := hid hB
      have Hb := hid hb
      obtain ⟨R, hR⟩ : ∃ R, ordersN xs = R := ⟨_, rfl⟩
      rw [hR] at hcS
      have HR := hid hR
      have hSe : ((S : Int) - 1) = ((S - 1 : Nat) : Int) := by omega
      obtain ⟨p, hp⟩ : ∃ p, S - 1 = p := ⟨_, rfl⟩
      rw [hp] at hcS hSe
      have hpS : p < S := by omega
      clear hB ha hb hR hp
      go_wp2
      go_ret
      exact ⟨ret_int (by rw [HR.out]), Hb.out⟩

def ansN (xs : List Int) (f : List Int → Nat) : Int := if good xs then (f xs : Int) else 0
theorem ansN_no {xs : List Int} {f : List Int → Nat} (h : good xs = false) : ansN xs f = 0 := by simp [ansN, h]
theorem ansN_yes {xs : List Int} {f : List Int → Nat} (h : good xs = true) : ansN xs f = (f xs : Int) := by simp [ansN, h]
theorem specCountOrders_any (v : Value) (xs : List Int) (w : World) (hv : Ints w v xs) (hl : xs.length ≤ 1048576) :
    Calls Try.prog 26 #[.agg #[v]] w fun r w' => r = .returned (.tuple #[.int .i64 (ansN xs ordersN), .bool (good xs)]) ∧ Below w.heap.size w w' := by
  have HV := hid hv
  clear hv
  go_enter Try.func26, Try.ntmps26
  have HB := hid (below_alloc (Below.refl _ w) (.cells #[v] 26))
  have A0 := hid (At.newAt w v 26 w.heap.size (by simp))
  go_wp2_with fail
  refine (poGood_any _ xs _ (HV.out.below HB.out) hl).mono ?_
  rintro e w' ⟨rfl, hb⟩
  replace HB := hid (below_to HB.out hb)
  replace A0 := hid (A0.out.below hb)
  clear hb
  cases hq : good xs
  · have HQ := hid hq
    clear hq
    have ebox0 := A0.out.1
    go_wp2
    go_ret2
    exact ⟨ret_ib (ansN_no HQ.out).symm HQ.out.symm, HB.out⟩
  · have HQ := hid hq
    clear hq
    have ebox0 := A0.out.1
    go_wp2_with fail
    clear ebox0
    refine (tgOrders_any _ xs _ (HV.out.below HB.out) HQ.out).mono ?_
    rintro e w' ⟨rfl, hb⟩
    replace HB := hid (below_to HB.out hb)
    replace A0 := hid (A0.out.below hb)
    clear hb
    have ebox0 := A0.out.1
    go_wp2
    go_ret2
    exact ⟨ret_ib (ansN_yes HQ.out).symm HQ.out.symm, HB.out⟩

/-! ### the list of all sets of a kind, by its places -/
theorem setsL_sorted (f : Nat → Bool) (N : Nat) : ((List.range N).filter f).Pairwise (· < ·) := List.Pairwise.filter _ List.pairwise_lt_range
theorem setsL_at {f : Nat → Bool} {N j : Nat} (hj : j < (setsL f N).length) : ∃ s : Nat, (setsL f N).getD j 0 = (s : Int) ∧ s < N ∧ f s = true ∧ (∀ t : Nat, (t : Int) ∈ (setsL f N).take j → t < s) ∧ (∀ t : Nat, t < s → f t = true → (t : Int) ∈ (setsL f N).take j) := by
  have hj' : j < ((List.range N).filter f).length := by simpa [setsL] using hj
  have hmem : ((List.range N).filter f)[j] ∈ (List.range N).filter f := List.getElem_mem hj'
  have hmem2 := List.mem_filter.1 hmem
  have hP := List.pairwise_iff_getElem.1 (setsL_sorted f N)
  refine ⟨((List.range N).filter f)[j], ?_, List.mem_range.1 hmem2.1, hmem2.2, ?_, ?_⟩
  · simp [setsL, List.getD, hj']
  · intro t ht
    unfold setsL at ht
    rw [← List.map_take, List.mem_map] at ht
    obtain ⟨a, ha, hat⟩ := ht
    have : a = t := by exact_mod_cast hat
    subst this
    obtain ⟨i, hi, e⟩ := List.mem_iff_getElem.1 ha
    rw [List.getElem_take] at e
    have hi2 : i < j := by rw [List.length_take] at hi; omega
    have := hP i j (by omega) hj' hi2
    omega
  · intro t ht hft
    have hts : t ∈ (List.range N).filter f := List.mem_filter.2 ⟨List.mem_range.2 (by have := List.mem_range.1 hmem2.1; omega), hft⟩
    obtain ⟨i, hi, e⟩ := List.mem_iff_getElem.1 hts
    have hij : i < j := by
      rcases Nat.lt_or_ge i j with h | h
      · exact h
      · exfalso
        rcases Nat.lt_or_eq_of_le h with h2 | h2
        · have := hP j i hj' hi h2; omega
        · subst h2; omega
    unfold setsL
    rw [← List.map_take, List.mem_map]
    refine ⟨t, ?_, rfl⟩
    rw [List.mem_take_iff_getElem]
    exact ⟨i, by omega, e⟩
theorem take_succ_mem {I : List Int} {j : Nat} (hj : j < I.length) (t : Int) : t ∈ I.take (j + 1) ↔ t ∈ I.take j ∨ t = I.getD j 0 := by
  have e : I.take (j + 1) = I.take j ++ [I.getD j 0] := by
    rw [List.take_succ_eq_append_getElem hj]; simp [List.getD, hj]
  rw [e, List.mem_append, List.mem_singleton]
def bk (xs I : List Int) (j t : Nat) : Nat := if t = 0 then 1 else if (t : Int) ∈ I.take j then ways xs t else 0
def ik (xs I : List Int) (j s k t : Nat) : Nat := if t = s ∧ s ≠ 0 then bwd xs s k else bk xs I j t
theorem bk_ways {xs I : List Int} {j t : Nat} (h : t = 0 ∨ (t : Int) ∈ I.take j) : bk xs I j t = ways xs t := by
  unfold bk
  by_cases h0 : t = 0
  · subst h0; rw [if_pos rfl, ways_zero]
  · rw [if_neg h0, if_pos (h.resolve_left h0)]
theorem holdsIdeal_zero (xs : List Int) : holdsIdeal xs 0 = true := holdsIdeal_row.2 fun e _ h => by simp at h
theorem holdsIdeal_whole {xs : List Int} (hg : good xs = true) : holdsIdeal xs (2 ^ xs.length - 1) = true := holdsIdeal_row.2 fun e he _ j hj => by
  rw [Nat.testBit_two_pow_sub_one]
  have := testBit_lt (row_lt hg he).2 hj
  simp; omega
theorem top_sub {xs : List Int} {s k : Nat} (h : (top xs s).testBit k = true) : s.testBit k = true := by
  unfold top at h
  rw [sub_testBit, Bool.and_eq_true] at h
  exact h.1
theorem ik_step {xs I : List Int} {j s k t : Nat} (hg : good xs = true) (hk : k < xs.length) (hI : holdsIdeal xs s = true) (hb : (top xs s).testBit k = true)
    (h2 : ∀ t : Nat, t < s → holdsIdeal xs t = true → (t : Int) ∈ I.take j) :
    ik xs I j s (k + 1) t = if t = s then ik xs I j s k s + ik xs I j s k (s ^^^ 2 ^ k) else ik xs I j s k t := by
  obtain ⟨h3, h4⟩ := top_down hg hI hk hb
  have hlt := xor_lt_self h4
  have hs0 : s ≠ 0 := by rintro rfl; simp at h4
  unfold ik
  by_cases ht : t = s
  · subst ht
    rw [if_pos ⟨rfl, hs0⟩, if_pos rfl, if_pos ⟨rfl, hs0⟩, if_neg (by omega)]
    rw [bk_ways (.inr (h2 _ hlt h3))]
    simp [bwd, sumN, hb]
  · rw [if_neg (fun h => ht h.1), if_neg ht, if_neg (fun h => ht h.1)]
theorem ik_no {xs I : List Int} {j s k t : Nat} (hb : (top xs s).testBit k = false) : ik xs I j s (k + 1) t = ik xs I j s k t := by
  unfold ik bwd
  simp [sumN, hb]
theorem ik_start {xs I : List Int} {j s t : Nat} (h1 : ∀ t : Nat, (t : Int) ∈ I.take j → t < s) : ik xs I j s 0 t = bk xs I j t := by
  unfold ik
  by_cases h : t = s ∧ s ≠ 0
  · rw [if_pos h]
    unfold bk
    rw [if_neg (by omega), if_neg]
    · rfl
    · intro hm; have := h1 t hm; omega
  · rw [if_neg h]
theorem ik_end {xs I : List Int} {j s t : Nat} (hg : good xs = true) (hj : j < I.length) (hs : I.getD j 0 = (s : Int)) (hsl : s < 2 ^ xs.length) (hI : holdsIdeal xs s = true) : ik xs I j s xs.length t = bk xs I (j + 1) t := by
  unfold ik
  by_cases h : t = s ∧ s ≠ 0
  · rw [if_pos h, bwd_full hg hsl h.2 hI, bk_ways]
    · rw [h.1]
    · right; rw [take_succ_mem hj, hs, h.1]; exact .inr rfl
  · rw [if_neg h]
    unfold bk
    by_cases h0 : t = 0
    · rw [if_pos h0, if_pos h0]
    · rw [if_neg h0, if_neg h0]
      have : (t : Int) ∈ I.take (j + 1) ↔ (t : Int) ∈ I.take j := by
        rw [take_succ_mem hj, hs]
        constructor
        · rintro (h1 | h1)
          · exact h1
          · have : t = s := by omega
            subst this
            exact absurd ⟨rfl, h0⟩ h
        · exact .inl
      simp only [this]
theorem bk_le {xs I : List Int} (hl : xs.length ≤ 10) (j t : Nat) : bk xs I j t ≤ 10000000000 := by
  unfold bk
  split
  · omega
  · split
    · exact ways_lt hl t
    · omega
theorem ik_le {xs I : List Int} (hl : xs.length ≤ 10) (j s t : Nat) {k : Nat} (hk : k ≤ xs.length) : ik xs I j s k t ≤ 100000000000 := by
  unfold ik
  split
  · exact bwd_le hl s hk
  · have := bk_le (xs := xs) (I := I) hl j t; omega
theorem bk_last {xs : List Int} (hg : good xs = true) : bk xs (setsL (holdsIdeal xs) (2 ^ xs.length)) (setsL (holdsIdeal xs) (2 ^ xs.length)).length (2 ^ xs.length - 1) = ordersN xs := by
  have h1 := (two_pow_le xs.length (good_length hg).2).1
  refine bk_ways (.inr ?_)
  rw [List.take_length]
  unfold setsL
  exact List.mem_map.2 ⟨_, List.mem_filter.2 ⟨List.mem_range.2 (by omega), holdsIdeal_whole hg⟩, rfl⟩
theorem top_lt {xs : List Int} {s n : Nat} (h : s < n) : top xs s < n := Nat.lt_of_le_of_lt (sub_le _ _) h
set_option maxHeartbeats 3200000 in
theorem implCountOrders_any (v : Value) (xs : List Int) (w : World) (hv : Ints w v xs) (hl : xs.length ≤ 1048576) :
    Calls Try.prog 25 #[.agg #[v]] w fun r w' => r = .returned (.tuple #[.int .i64 (ansN xs ordersN), .bool (good xs)]) ∧ Below w.heap.size w w' := by
  have HV := hid hv
  obtain ⟨A, c, rfl, -⟩ := hv
  go_enter Try.func25, Try.ntmps25
  have HB := hid (below_alloc (Below.refl _ w) (.cells #[(.slice A xs.length c)] 26))
  have A0 := hid (At.newAt w (.slice A xs.length c) 26 w.heap.size (by simp))
  go_wp2_with fail
  refine (implIdealsOf_any _ xs _ (HV.out.below HB.out) hl).mono ?_
  rintro e w' ⟨u, rfl, ho, hlen, hb⟩
  replace HB := hid (below_to HB.out hb)
  replace A0 := hid (A0.out.below hb)
  clear hb
  have HU := hid ho.ints
  clear ho
  cases hq : good xs
  · have HQ := hid hq
    clear hq
    have ebox0 := A0.out.1
    go_wp2
    go_ret2
    exact ⟨ret_ib (ansN_no HQ.out).symm HQ.out.symm, HB.out⟩
  · have HQ := hid hq
    have HIL := hid (idealsL_yes hq)
    have hl10 := (good_length hq).2
    have HL := hid (bk_last hq)
    clear hq
    obtain ⟨N, hN⟩ : ∃ N, 2 ^ xs.length = N := ⟨_, rfl⟩
    have hN2 := two_pow_le xs.length hl10
    obtain ⟨I, hI⟩ : ∃ I, setsL (holdsIdeal xs) N = I := ⟨_, rfl⟩
    have HAt := hid (fun j hj => setsL_at (f := holdsIdeal xs) (N := N) (j := j) hj)
    have hIN := setsL_length (holdsIdeal xs) N
    rw [HIL.out, hN, hI] at HU hlen
    rw [hI] at HAt hIN
    rw [hN, hI] at HL
    rw [hN] at hN2
    obtain ⟨uA, uc, rfl, hUA⟩ := HU.out
    have HUA := hid hUA
    have HN := hid hN
    clear hI hUA
    obtain ⟨g, hg⟩ : ∃ g, w'.heap.size = g := ⟨_, rfl⟩
    have hwg : w.heap.size < g := by have := A0.out.2; omega
    have hM : ((N - 1 : Nat) : Int) + 1 = (N : Int) := by omega
    have hmk := run_make_row' (P := Try.prog) 24 3 (.int .i64 0) 8 Try.underlying24 Try.info3 rfl .i64 .i64 N (by omega) (by omega)
    have hc0 : (madeCells #[Value.int .i64 0] N)[0]? = some (.int .i64 0) := by
      rw [Vals_made, Vals_get (by simp; omega)]
      simp [List.getD, show 0 < N by omega]
    have ebox0 := A0.out.1
    have ebox0z := A0.out.2
    have HG := hid hg
    clear hg
    go_wp2_with (go_at_call 75; refine (wholeSet_any xs.length hl10 _).mono ?_; rw [hN]; rintro e w2 ⟨rfl, rfl⟩)
    clear hmk hc0 hM ebox0 ebox0z hN
    rw [Vals_made, Vals_set]
    have hstart : (List.replicate N (0 : Int)).set 0 1 = mkL N (bk xs I 0) := by
      rw [← mkL_zero, show (1 : Int) = ((1 : Nat) : Int) from rfl, mkL_set 1 (by omega)]
      exact mkL_congr fun i _ => by unfold bk; simp
    rw [hstart, HG.out]
    clear hstart
    go_loopw [30] (fun i wr => ∃ j : Nat, j ≤ I.length ∧ i = .int .i64 j ∧ Blk wr g 3 (Vals (mkL N (bk xs I j))) ∧ At wr w.heap.size (.slice A xs.length c) ∧ Below w.heap.size w wr ∧ Below w'.heap.size w' wr) (fun i _ => I.length - (intOf i).toNat)
    case atStart => exact ⟨0, Nat.zero_le _, rfl, Blk.newAt _ _ _ _ HG.out.symm, A0.out.alloc _, below_alloc HB.out _, below_alloc (Below.refl _ _) _⟩
    case round =>
      obtain ⟨j, hj, rfl, hB, ha, hb, hu⟩ := hrel
      have HB1 := hid hB
      have HA1 := hid ha
      have Hb1 := hid hb
      have HU1 := hid hu
      have hbox := ha.1
      by_cases hlt : j < I.length
      · obtain ⟨s, hs, hsN, hIs, hlo, hup⟩ := HAt.out j hlt
        obtain ⟨b, o, rfl, hbl, hc⟩ := HUA.out (by intro h; simp [h] at hlt)
        have hcell : wr.cell? ⟨b, o + j, none⟩ = some (.int .i64 s) := by rw [(hu.cell (p := ⟨b, o + j, none⟩) hbl).trans (hc j hlt), hs]
        have HS := hid hs
        have HIs := hid hIs
        have HLo := hid hlo
        have HUp := hid hup
        have hs10 : s < 1024 := by omega
        have HSm := hid (good_small HQ.out s)
        clear hc hB ha hb hu hs hIs hlo hup
        go_wp2_with fail
        clear hbox hcell
        refine (top_any _ xs s _ (HV.out.below Hb1.out) hl10 hs10 HSm.out).mono ?_
        rintro e w3 ⟨rfl, hb3⟩
        have HB3 := hid (HB1.out.below hb3 HB1.out.lt)
        have HA3 := hid (HA1.out.below hb3)
        have Hb3 := hid (below_to Hb1.out hb3)
        have HU3 := hid (below_to HU1.out hb3)
        have hbox := HA3.out.1
        obtain ⟨T, hT⟩ : ∃ T, top xs s = T := ⟨_, rfl⟩
        rw [hT]
        have HTop := hid hT
        have hT10 : T < 1024 := by rw [← hT]; exact top_lt hs10
        clear hb3 hT
        go_wp2
        clear hbox
        go_loopw [40] (fun i wi => ∃ k : Nat, k ≤ xs.length ∧ i = .int .i64 k ∧ Blk wi g 3 (Vals (mkL N (ik xs I j s k))) ∧ At wi w.heap.size (.slice A xs.length c) ∧ Below w.heap.size w wi ∧ Below w'.heap.size w' wi) (fun i _ => xs.length - (intOf i).toNat)
        case atStart => exact ⟨0, Nat.zero_le _, rfl, (by rw [mkL_congr (fun t _ => ik_start (xs := xs) HLo.out)]; exact HB3.out), HA3.out, Hb3.out, HU3.out⟩
        case round =>
          obtain ⟨k, hk, rfl, hB, ha, hb, hu⟩ := hrel
          have HB4 := hid hB
          have HA4 := hid ha
          have Hb4 := hid hb
          have HU4 := hid hu
          clear ha hb hu
          by_cases hkl : k < xs.length
          · cases hbit : T.testBit k
            · have HBit := hid hbit
              have HE := hid (mkL_congr (n := N) (fun t _ => ik_no (xs := xs) (I := I) (j := j) (s := s) (k := k) (t := t) (by rw [HTop.out]; exact hbit)))
              clear hbit hB
              go_wp2_with (go_at_call 62; refine (hasElement_any T k (by omega) (by omega) _).mono ?_; rw [HBit.out]; rintro e w' ⟨rfl, rfl⟩)
              go_roundw
              case rel => exact ⟨k + 1, by omega, by go_num, (by rw [HE.out]; exact HB4.out), HA4.out, Hb4.out, HU4.out⟩
              case measure => simp [intOf]; omega
            · have HBit := hid hbit
              have hbs : s.testBit k = true := top_sub (xs := xs) (by rw [HTop.out]; exact hbit)
              have hql := xor_lt_self hbs
              obtain ⟨q, hq⟩ : ∃ q, s ^^^ 2 ^ k = q := ⟨_, rfl⟩
              rw [hq] at hql
              have hqN : q < N := by omega
              have HE : Hid (mkL N (ik xs I j s (k + 1)) = (mkL N (ik xs I j s k)).set s ((ik xs I j s k s + ik xs I j s k q : Nat) : Int)) := hid (mkL_upd _ hsN (fun t _ => by
                rw [ik_step HQ.out hkl HIs.out (by rw [HTop.out]; exact hbit) HUp.out, hq]))
              have wp1 := wrap_pow' k (by omega)
              have hxor := xor_pow s k hs10 (by omega)
              rw [hq] at hxor
              have hcs : wr.cell? ⟨g, s, none⟩ = some (.int .i64 (ik xs I j s k s : Nat)) := by
                rw [hB.cell, Vals_get (by rw [mkL_length]; exact hsN), mkL_getD hsN]
              have hcq : wr.cell? ⟨g, q, none⟩ = some (.int .i64 (ik xs I j s k q : Nat)) := by
                rw [hB.cell, Vals_get (by rw [mkL_length]; exact hqN), mkL_getD hqN]
              have hfs := hB.frozen s
              have hy1 := ik_le (xs := xs) (I := I) hl10 j s s hk
              have hy2 := ik_le (xs := xs) (I := I) hl10 j s q hk
              obtain ⟨y1, hy⟩ : ∃ y, ik xs I j s k s = y := ⟨_, rfl⟩
              rw [hy] at hcs HE hy1
              obtain ⟨y2, hy'⟩ : ∃ y, ik xs I j s k q = y := ⟨_, rfl⟩
              rw [hy'] at hcq HE hy2
              clear hq hy hy' hB hbit hbs
              go_wp2_with (go_at_call 62; refine (hasElement_any T k (by omega) (by omega) _).mono ?_; rw [HBit.out]; rintro e w' ⟨rfl, rfl⟩)
              go_region
              go_wp2
              go_roundw
              case rel => exact ⟨k + 1, by omega, by go_num, (by rw [HE.out, ← Vals_set]; exact HB4.out.set_ s _), HA4.out.far (by show w.heap.size ≠ g; omega) _, (Hb4.out.setCell (by show w.heap.size ≤ g; omega) _).drew, (HU4.out.setCell (by show w'.heap.size ≤ g; have := HG.out; omega) _).drew⟩
              case measure => simp [intOf]; omega
          · obtain rfl : k = xs.length := by omega
            have HE := hid (mkL_congr (n := N) (fun t _ => ik_end (t := t) HQ.out hlt HS.out (by rw [HN.out]; exact hsN) HIs.out))
            clear hB
            go_wp2
            go_roundw
            case rel => exact ⟨j + 1, by omega, by go_num, (by rw [← HE.out]; exact HB4.out), HA4.out, Hb4.out, HU4.out⟩
            case measure => simp [intOf]; omega
      · obtain rfl : j = I.length := by omega
        have hp : N - 1 < N := by omega
        have hcS : wr.cell? ⟨g, N - 1, none⟩ = some (.int .i64 (ordersN xs : Nat)) := by
          rw [hB.cell, Vals_get (by rw [mkL_length]; exact hp), mkL_getD hp, HL.out]
        obtain ⟨R, hR⟩ : ∃ R, ordersN xs = R := ⟨_, rfl⟩
        rw [hR] at hcS
        have HR := hid hR
        obtain ⟨M, hM⟩ : ∃ M, N - 1 = M := ⟨_, rfl⟩
        rw [hM] at hcS hp ⊢
        clear hB ha hb hu hR hM
        go_wp2
        go_ret2
        exact ⟨ret_ib (by rw [ansN_yes HQ.out, HR.out]) HQ.out.symm, Hb1.out⟩
end Go.Proofs.Ytdemikjaghegnaa

/- The model's cursor of draws: a poset and an ideal. -/
namespace Go.Proofs.Ytdemikjaghegnaa
open Go.RowKit Go.WideShapes Go.ChangeShapes
set_option linter.unusedVariables false

theorem and_sub (s : Nat) (hs : s < 1024) (y : Int) : ∃ n : Nat, n ≤ s ∧ bits .and .i64 (s : Int) y = (n : Int) := by
  refine ⟨(BitVec.ofInt 64 (s : Int) &&& BitVec.ofInt 64 y).toNat, ?_, ?_⟩
  · rw [BitVec.toNat_and, ofInt_i64 s (by omega)]; exact Nat.and_le_left
  · have h : (BitVec.ofInt 64 (s : Int) &&& BitVec.ofInt 64 y).toNat ≤ s := by rw [BitVec.toNat_and, ofInt_i64 s (by omega)]; exact Nat.and_le_left
    show IntKind.i64.wrap ((BitVec.ofInt 64 (s : Int) &&& BitVec.ofInt 64 y).toNat : Int) = _
    rw [IntKind.wrap_i64]; omega
/-- the cursor, the two boxes and the list of a poset drawn; the cursor stands at A, or at B already if b -/
def IW (ti tp : TypeId) (w : World) (g A B6 : Nat) (v : Value) (xs : List Int) (W : World) : Prop :=
  Drawn w g A W ∧ Blk W w.heap.size tp #[.slice none 0 0] ∧ Blk W B6 tp #[v] ∧ OwnI ti W (w.heap.size + 1) v xs
theorem IW.below {ti tp : TypeId} {w W W' : World} {g A B6 : Nat} {v : Value} {xs : List Int} (h : IW ti tp w g A B6 v xs W) (hb : Below W.heap.size W W') : IW ti tp w g A B6 v xs W' :=
  ⟨h.1.below hb, h.2.1.below hb h.2.1.lt, h.2.2.1.below hb h.2.2.1.lt, h.2.2.2.below hb⟩
theorem IW.drawn {ti tp : TypeId} {w W W' : World} {g A A' B6 : Nat} {v : Value} {xs : List Int} (h : IW ti tp w g A B6 v xs W) (hd : Drawn W g A' W') (hg : g < w.heap.size) (hB : w.heap.size < B6) : IW ti tp w g A' B6 v xs W' :=
  ⟨⟨hd.cur, h.1.turned.trans hd.turned⟩, h.2.1.turned hd.turned (Or.inr (by omega)), h.2.2.1.turned hd.turned (Or.inr (by omega)), h.2.2.2.turnedLow hd.turned (by omega)⟩
set_option maxHeartbeats 3200000 in
theorem ideal_any (g A most : Nat) (w : World) (h : Cur w g A) (hA : A < 700000000000) (hm1 : 1 ≤ most) (hm : most ≤ 10) :
    Calls Try.prog 50 #[.pointer (some ⟨g, 0, none⟩), .int .i64 most] w fun (r : Ending) w' => ∃ u xs s, r = .returned (.tuple #[.agg #[u], .int .i64 s]) ∧ (Lit.int .i64 s).wf = true ∧ OwnI 3 w' w.heap.size u xs ∧ xs.length ≤ 21 ∧ Drawn w g (A + 240) w' := by
  have HC := hid h
  have hgl := h.lt
  clear h
  go_enter Try.func50, Try.ntmps50
  go_wp2_with fail
  have HD0 := hid ((Drawn.mk HC.out (TurnedIn.refl _ _ _)).below (below_alloc (Below.refl _ w) (.cells #[.slice none 0 0] 26)))
  have HA0 := hid (Blk.new w 26 #[.slice none 0 0])
  refine (poset_any g A most _ HD0.out.cur (by omega) hm1 hm).mono ?_
  rintro e w1 ⟨u1, xs, rfl, ho, hl2, hd1⟩
  have HD1 := hid (Drawn.mk hd1.cur (HD0.out.turned.trans hd1.turned))
  have HA1 := hid (HA0.out.turned hd1.turned (Or.inr (by omega)))
  have HO1 := hid (ho.mono (show w.heap.size + 1 ≤ _ by simp))
  have hz1 : w.heap.size + 1 ≤ w1.heap.size := by have := hd1.turned.size; simpa using this
  clear ho hd1 HD0 HA0
  obtain ⟨B6, hB6⟩ : ∃ B6, w1.heap.size = B6 := ⟨_, rfl⟩
  obtain ⟨vA, vc, rfl, hv⟩ := HO1.out.shape
  clear hv
  have HD2 := hid (HD1.out.below (below_alloc (Below.refl _ w1) (.cells #[.slice vA xs.length vc] 26)))
  have HA2 := hid (HA1.out.alloc (.cells #[.slice vA xs.length vc] 26))
  have HB2 := hid (Blk.new w1 26 #[.slice vA xs.length vc])
  have HO2 := hid (HO1.out.alloc (.cells #[.slice vA xs.length vc] 26))
  have hbox := (Blk.new w1 26 #[.slice vA xs.length vc]).cell 0
  go_wp2_with fail
  clear hbox HD1 HA1 HO1
  rw [hB6] at HB2
  refine (setOf_any g (A + 210) _ xs _ HD2.out.cur (by omega) HO2.out.ints (by omega)).mono ?_
  rintro e w3 ⟨s, hwf, rfl, hd3⟩
  have HD3 := hid (Drawn.mk hd3.cur (HD2.out.turned.trans hd3.turned))
  have HA3 := hid (HA2.out.turned hd3.turned (Or.inr (by omega)))
  have HB3 := hid (HB2.out.turned hd3.turned (Or.inr (by omega)))
  have HO3 := hid (HO2.out.turnedLow hd3.turned (by omega))
  have HW := hid hwf
  clear hd3 hwf HD2 HA2 HB2 HO2
  have t3 := HB3.out.cell 0
  go_wp2_with fail
  refine (poGood_any _ xs _ HO3.out.ints (by omega)).mono ?_
  rintro e w4 ⟨rfl, hb4⟩
  have HD4 := hid (HD3.out.below hb4)
  have HA4 := hid (HA3.out.below hb4 HA3.out.lt)
  have HB4 := hid (HB3.out.below hb4 HB3.out.lt)
  have HO4 := hid (HO3.out.below hb4)
  clear hb4 HD3 HA3 HB3 HO3 t3
  have t4 := HB4.out.cell 0
  cases hg : good xs
  · skip
    have a1 := HA4.out.cell 0
    have a2 := HA4.out.frozen 0
    go_wp2
    refine bodyPost_ret (v := .tuple #[.agg #[.slice vA xs.length vc], .int .i64 s]) (by simp [results, Try.results50, go_sem, a1]) rfl ⟨_, xs, _, rfl, HW.out, HO4.out.box (Nat.le_refl _) _, hl2, (HD4.out.box hgl _ (Nat.le_refl _) _).le (by omega)⟩
  · have HG := hid hg
    have hl10 := (good_length hg).2
    clear hg
    go_wp2_with fail
    refine (poSet_any _ xs s _ HO4.out.ints hl10).mono ?_
    rintro e w5 ⟨rfl, hb5⟩
    have HD5 := hid (HD4.out.below hb5)
    have HA5 := hid (HA4.out.below hb5 HA4.out.lt)
    have HB5 := hid (HB4.out.below hb5 HB4.out.lt)
    have HO5 := hid (HO4.out.below hb5)
    clear hb5 HD4 HA4 HB4 HO4 t4
    have t5 := HB5.out.cell 0
    cases hs : (decide (0 ≤ s) && decide (s ≤ (2 ^ xs.length - 1 : Nat)))
    · clear hs
      have a1 := HA5.out.cell 0
      have a2 := HA5.out.frozen 0
      go_wp2
      refine bodyPost_ret (v := .tuple #[.agg #[.slice vA xs.length vc], .int .i64 s]) (by simp [results, Try.results50, go_sem, a1]) rfl ⟨_, xs, _, rfl, HW.out, HO5.out.box (Nat.le_refl _) _, hl2, (HD5.out.box hgl _ (Nat.le_refl _) _).le (by omega)⟩
    · simp only [Bool.and_eq_true, decide_eq_true_eq] at hs
      obtain ⟨S, rfl⟩ := Int.eq_ofNat_of_zero_le hs.1
      have h2n := two_pow_le xs.length hl10
      have hS : S < 1024 := by omega
      clear hs h2n
      go_wp2_with fail
      refine (one_any g (A + 220) 12 _ HD5.out.cur (by omega)).mono ?_
      rintro e w6 ⟨b, rfl, hc6, ht6⟩
      have HD6 := hid (Drawn.mk hc6 (HD5.out.turned.trans ht6))
      have HA6 := hid (HA5.out.turned ht6 (Or.inr (by omega)))
      have HB6 := hid (HB5.out.turned ht6 (Or.inr (by omega)))
      have HO6 := hid (HO5.out.turnedLow ht6 (by omega))
      clear hc6 ht6 HD5 HA5 HB5 HO5 t5
      have t6 := HB6.out.cell 0
      cases b
      · go_wp2
        have HI6 : Hid (IW 3 26 w g (A + 222) B6 (.slice vA xs.length vc) xs w6) := hid ⟨HD6.out, HA6.out, HB6.out, HO6.out⟩
        have hB6g : w.heap.size < B6 := by omega
        clear HD6 HA6 HB6 HO6
        go_region_held3 (fun W => W.cell? ⟨B6, 0, none⟩ = some (.slice vA xs.length vc) ∧ Hid (∃ a, (W = w6.drew ∧ a = 222 ∨ a = 232) ∧ IW 3 26 w g (A + a) B6 (.slice vA xs.length vc) xs W)) (first | exact ⟨t6, hid ⟨222, Or.inl ⟨rfl, rfl⟩, HI6.out.below (below_drewN (Below.refl _ _) 1)⟩⟩ | exact ⟨HI8.out.2.2.1.cell 0, hid ⟨232, Or.inr rfl, HI8.out⟩⟩ | exact ⟨HI9.out.2.2.1.cell 0, hid ⟨232, Or.inr rfl, HI9.out⟩⟩ | exact ⟨HI10.out.2.2.1.cell 0, hid ⟨232, Or.inr rfl, HI10.out⟩⟩) (first | (go_at_call 95; refine (setOf_any g (A + 222) _ xs _ (HI6.out.below (below_drewN (Below.refl _ _) 1)).1.cur (by omega) (HI6.out.below (below_drewN (Below.refl _ _) 1)).2.2.2.ints (by omega)).mono ?_; rintro e w8 ⟨s2, hwf2, rfl, hd8⟩; have HI8 := hid ((HI6.out.below (below_drewN (Below.refl _ _) 1)).drawn hd8 hgl hB6g); obtain ⟨n8, hn8, he8⟩ := and_sub S hS s2; clear hd8 hwf2) | (go_at_call 79; refine (poTop_any _ xs n8 _ HI8.out.2.2.2.ints hl10 (by omega) (good_small HG.out _)).mono ?_; rintro e w9 ⟨rfl, hb9⟩; have HI9 := hid (HI8.out.below hb9); have htl := top_lt (xs := xs) (show n8 < 1024 by omega); clear hb9) | (go_at_call 80; refine (poDown_any _ xs (top xs n8) _ HI9.out.2.2.2.ints hl10 htl (good_small HG.out _)).mono ?_; rintro e w10 ⟨rfl, hb10⟩; have HI10 := hid (HI9.out.below hb10); clear hb10))
        have hdl : down xs (top xs n8) < 1024 := Nat.or_lt_two_pow (n := 10) htl (underN_lt xs _ (good_small HG.out _) _ (Nat.le_refl _))
        obtain ⟨z, hz⟩ : ∃ z, down xs (top xs n8) = z := ⟨_, rfl⟩
        rw [hz] at hdl ⊢
        have a0 := HI10.out.2.2.1.cell 0
        have a1 := HI10.out.2.1.cell 0
        have a2 := HI10.out.2.1.frozen 0
        go_wp2
        refine bodyPost_ret (v := .tuple #[.agg #[.slice vA xs.length vc], .int .i64 z]) (by simp [results, Try.results50, go_sem, a1]) rfl ⟨_, xs, _, rfl, wf_i64 _ (by omega) (by omega), HI10.out.2.2.2.box (Nat.le_refl _) _, hl2, (HI10.out.1.box hgl _ (Nat.le_refl _) _).le (by omega)⟩
      · skip
        have a1 := HA6.out.cell 0
        have a2 := HA6.out.frozen 0
        go_wp2
        refine bodyPost_ret (v := .tuple #[.agg #[.slice vA xs.length vc], .int .i64 S]) (by simp [results, Try.results50, go_sem, a1]) rfl ⟨_, xs, _, rfl, HW.out, HO6.out.box (Nat.le_refl _) _, hl2, (HD6.out.box hgl _ (Nat.le_refl _) _).le (by omega)⟩
end Go.Proofs.Ytdemikjaghegnaa

/- Draws of the model: posets, sides, sizes. -/
namespace Go.Proofs.Ytdemikjaghegnaa
open Go.RowKit Go.WideShapes Go.ChangeShapes
set_option linter.unusedVariables false

theorem BytesB.below {w w' : World} {B : Nat} {v : Value} {xs : List Int} (h : BytesB w B v xs) (hb : Below w.heap.size w w') : BytesB w' B v xs := h.turned (TurnedIn.of_below (E := 0) hb)
theorem BytesB.up {w : World} {B B' : Nat} {v : Value} {xs : List Int} (h : BytesB w B v xs) (hb : B ≤ B') : BytesB w B' v xs := by
  obtain ⟨A, c, rfl, hr, h⟩ := h
  refine ⟨A, c, rfl, hr, fun hx => ?_⟩
  obtain ⟨b, o, e, h1, h2⟩ := h hx
  exact ⟨b, o, e, Nat.lt_of_lt_of_le h1 hb, h2⟩
/-- a new cursor -/
theorem Cur.new (w : World) (v : Value) (bs : List Int) (g : Nat) (hg : g = w.heap.size) (hb : BytesB w w.heap.size v bs) (hl : bs.length ≤ 1048576) :
    Cur (w.alloc (.cells #[v, .int .i64 0, .int .u64 0] 56)) g 0 := by
  subst hg
  exact ⟨v, bs, 0, 0, hb.below (below_alloc (Below.refl _ _) _), hl, Nat.le_refl _, by omega, by omega, Blk.new w _ _⟩
/-- what is drawn by a cursor of the call's own leaves all that was there -/
theorem Drawn.belowAll {w w1 w' : World} {g A : Nat} (h : Drawn w1 g A w') (hb : Below w.heap.size w w1) (hg : w.heap.size ≤ g) : Below w.heap.size w w' := below_turned hb h.turned hg
theorem drawIsPoset_any (v : Value) (bs : List Int) (w : World) (hb : BytesB w w.heap.size v bs) (hl : bs.length ≤ 1048576) :
    Calls Try.prog 73 #[v] w fun (r : Ending) w' => ∃ u xs, r = .returned (.agg #[u]) ∧ OwnI 3 w' w.heap.size u xs ∧ xs.length ≤ 21 ∧ Below w.heap.size w w' := by
  have HBy := hid hb
  obtain ⟨vA, vc, rfl, -⟩ := hb
  have HA0 := hid (Blk.new w 26 #[.slice none 0 0])
  have HB0 := hid (below_alloc (Below.refl _ w) (.cells #[.slice none 0 0] 26))
  go_enter Try.func73, Try.ntmps73
  go_wp2_with fail
  have HC := hid (Cur.new (w.alloc (.cells #[.slice none 0 0] 26)) _ bs (w.heap.size + 1) (by simp) ((HBy.out.below HB0.out).up (by simp)) hl)
  have HB1 := hid (below_alloc HB0.out (.cells #[.slice vA bs.length vc, .int .i64 0, .int .u64 0] 56))
  have HA1 := hid (HA0.out.alloc (.cells #[.slice vA bs.length vc, .int .i64 0, .int .u64 0] 56))
  refine (poset_any (w.heap.size + 1) 0 10 _ HC.out (by decide) (by decide) (by decide)).mono ?_
  rintro e w2 ⟨u, xs, rfl, ho, hl2, hd⟩
  have HB2 := hid (hd.belowAll HB1.out (by omega))
  have HA2 := hid (HA1.out.turned hd.turned (Or.inl (by omega)))
  have HO := hid (ho.mono (show w.heap.size + 1 ≤ _ by simp))
  obtain ⟨uA, un, uc, rfl⟩ := ho.shape3
  clear ho hd HA0 HA1 HB0 HB1 HC
  have a1 := HA2.out.cell 0
  have a2 := HA2.out.frozen 0
  go_wp2
  refine bodyPost_ret (v := .agg #[.slice uA un uc]) (by simp [results, Try.results73, go_sem, a1]) rfl ⟨_, xs, rfl, HO.out.box (Nat.le_refl _) _, hl2, HB2.out.setCell (p := ⟨w.heap.size, 0, none⟩) (Nat.le_refl _) _⟩
end Go.Proofs.Ytdemikjaghegnaa

/- A slice of bytes as an argument of a law, and the draws that hand on. -/
namespace Go.Proofs.Ytdemikjaghegnaa
open Go.RowKit Go.WideShapes Go.ChangeShapes
set_option linter.unusedVariables false

theorem open_bytes {H : Type} {enc : TypeId × Value → H} {P : Program} {w : World} {base : Nat} {spare : Nat → Bool} {held : Bool} {r : Reach} {b0 : Nat} {ts ti : TypeId} {v : Value} {d : DataW H} {p : List MemPlace}
    (hts : P.underlying ts = some (.slice ti)) (hti : P.underlying ti = some (.int .u8)) (hc1 : P.cellsOf ti = 1)
    (hv : Value.okWide P w r b0 ts v) (h : DataW.Trod enc P w base spare held ts v d p) :
    ∃ (xs : List Int), BytesB w w.heap.size v xs ∧ xs.length ≤ maxLen := by
  obtain ⟨A, len, cap, rfl⟩ := okWide_slice hts hv
  obtain ⟨fuel, hf⟩ := h
  rcases open_ints hts hti hc1 hf with ⟨hcs, _⟩ | ⟨a, len, cap, zs, hcs, _, hle, hm, hz, _, hc, hwz⟩
  · simp [Value.cells] at hcs
    obtain ⟨rfl, rfl, rfl⟩ := hcs
    exact ⟨[], ⟨none, 0, rfl, by simp, fun h => absurd rfl h⟩, by simp⟩
  · simp [Value.cells] at hcs
    obtain ⟨rfl, rfl, rfl⟩ := hcs
    have hzl : len ≤ zs.length := by rw [hz]; split <;> omega
    have hl' : (zs.take len).length = len := by rw [List.length_take]; omega
    refine ⟨zs.take len, ⟨some a, cap, by rw [hl'], ?_, fun hx => ?_⟩, by rw [hl']; omega⟩
    · intro j
      by_cases hj : j < (zs.take len).length
      · have e : (zs.take len).getD j 0 = (zs.take len)[j] := by rw [List.getD, List.getElem?_eq_getElem hj]; rfl
        have hmem : (zs.take len)[j] ∈ zs := List.mem_of_mem_take (List.getElem_mem hj)
        have := hwz _ hmem
        rw [e]
        have h8 : (decide (IntKind.u8.min ≤ (zs.take len)[j]) && decide ((zs.take len)[j] ≤ IntKind.u8.max)) = true := this
        rw [show IntKind.u8.min = 0 from by decide, show IntKind.u8.max = 255 from by decide] at h8
        simp only [Bool.and_eq_true, decide_eq_true_eq] at h8
        omega
      · simp [List.getD, List.getElem?_eq_none (Nat.le_of_not_lt hj)]
    · have hp : 0 < len := by
        rcases Nat.eq_zero_or_pos len with h0 | h0
        · subst h0; simp at hx
        · exact h0
      obtain ⟨b, off, rfl, hcell⟩ := ints_at hc (by omega)
      have hbl : b < w.heap.size := World.block_lt_of_cell? w _ (hcell 0 (by omega))
      refine ⟨b, off, rfl, hbl, hbl, fun j hj => ?_⟩
      rw [hl'] at hj
      rw [hcell j (by omega)]
      congr 2
      simp [List.getD, hj]
/-- 'big': more than a million of bytes -/
theorem big_any (u v : Value) (bs cs : List Int) (w : World) (hu : BytesB w w.heap.size u bs) (hv : BytesB w w.heap.size v cs) (hbl : bs.length ≤ maxLen) (hcl : cs.length ≤ maxLen) :
    Calls Try.prog 5 #[u, v] w fun (r : Ending) w' => r = .returned (.bool (decide (1048576 < bs.length + cs.length))) ∧ w = w' := by
  obtain ⟨uA, uc, rfl, -⟩ := hu
  obtain ⟨vA, vc, rfl, -⟩ := hv
  unfold maxLen at hbl hcl
  go_enter Try.func5, Try.ntmps5
  by_cases h1 : 1048576 < bs.length
  · go_wp2
    go_ret
    exact ⟨ret_bool (by simp; omega), rfl⟩
  · go_wp2
    go_ret
    exact ⟨ret_bool (by rw [Bool.eq_iff_iff]; simp; omega), rfl⟩
end Go.Proofs.Ytdemikjaghegnaa

/- The general laws' own helpers. · The general laws' own helpers: numberOf, nHas, nIdeal. -/
namespace Go.Proofs.Ytdemikjaghegnaa
open Go.RowKit Go.WideShapes Go.ChangeShapes
set_option linter.unusedVariables false

theorem nSame_any (v u : Value) (xs : List Int) (w : World) (hv : Ints w v xs) (hu : Ints w u xs) (hl : xs.length ≤ 1048576) :
    Calls Try.prog 47 #[v, u] w fun r w' => r = .returned (.bool true) ∧ Below w.heap.size w w' := by
  obtain ⟨A, c, rfl, hA⟩ := hv
  obtain ⟨B, d, rfl, hB⟩ := hu
  have HA := hid hA
  have HB := hid hB
  clear hA hB
  go_enter Try.func47, Try.ntmps47
  go_wp2
  go_loopw [13] (fun i wr => ∃ k : Nat, k ≤ xs.length ∧ i = .int .i64 k ∧ Below w.heap.size w wr) (fun i _ => xs.length - (intOf i).toNat)
  case atStart => exact ⟨0, Nat.zero_le _, rfl, Below.refl _ _⟩
  case round =>
    obtain ⟨k, hk, rfl, hb⟩ := hrel
    by_cases hlt : k < xs.length
    · obtain ⟨b, o, rfl, hbl, hc⟩ := HA.out (by intro h; simp [h] at hlt)
      obtain ⟨b2, o2, rfl, hbl2, hc2⟩ := HB.out (by intro h; simp [h] at hlt)
      have hcell : wr.cell? ⟨b, o + k, none⟩ = some (.int .i64 (xs.getD k 0)) := by
        rw [hb.cell (p := ⟨b, o + k, none⟩) hbl]; exact hc k hlt
      have hcell2 : wr.cell? ⟨b2, o2 + k, none⟩ = some (.int .i64 (xs.getD k 0)) := by
        rw [hb.cell (p := ⟨b2, o2 + k, none⟩) hbl2]; exact hc2 k hlt
      obtain ⟨x, hx⟩ : ∃ x, xs.getD k 0 = x := ⟨_, rfl⟩
      rw [hx] at hcell hcell2
      have Hb := hid hb
      have hlt' : (k : Int) < xs.length := by omega
      clear hc hb hc2 hx
      go_wp2
      go_quiet (fail)
      go_wp2
      go_roundw
      case rel => exact ⟨k + 1, by omega, by go_num, below_drewN Hb.out _⟩
      case measure => simp [intOf]; omega
    · obtain rfl : k = xs.length := by omega
      have Hb := hid hb
      clear hb
      go_wp2
      go_ret
      exact ⟨rfl, Hb.out⟩
end Go.Proofs.Ytdemikjaghegnaa
namespace Go.Proofs.Ytdemikjaghegnaa
open Go.RowKit Go.WideShapes Go.ChangeShapes
set_option linter.unusedVariables false

theorem nIdeal_any (v : Value) (xs : List Int) (s : Int) (w : World) (hv : Ints w v xs) (hl : xs.length ≤ 1048576) (wf : (Lit.int .i64 s).wf = true) :
    Calls Try.prog 17 #[.agg #[v], .int .i64 s] w fun r w' => r = .returned (.bool (ansB xs s holdsIdeal)) ∧ Below w.heap.size w w' := by
  obtain ⟨A, c, rfl, -⟩ := id hv
  have HV := hid hv
  clear hv
  go_enter Try.func17, Try.ntmps17
  go_wp2_with fail
  have HB0 := hid (below_alloc (Below.refl _ w) (.cells #[.slice A xs.length c] 26))
  refine (implIsIdeal_any _ xs s _ (HV.out.alloc _) hl wf).mono ?_
  rintro e w1 ⟨rfl, hb1⟩
  have HB1 := hid (below_to HB0.out hb1)
  clear hb1 HB0
  have hab : ansB xs s holdsIdeal = (okSet xs s && holdsIdeal xs s.toNat) := rfl
  cases ho : okSet xs s
  · rw [ho] at hab
    simp at hab
    have HAb := hid hab
    clear hab
    rw [HAb.out]
    go_wp2
    go_ret
    exact ⟨ret_bool HAb.out.symm, HB1.out⟩
  · clear hab
    cases ha : ansB xs s holdsIdeal
    · have HAb := hid ha
      clear ha
      go_wp2
      go_ret
      exact ⟨ret_bool HAb.out.symm, HB1.out⟩
    · have HAb := hid ha
      clear ha
      go_wp2
      go_ret
      exact ⟨ret_bool HAb.out.symm, HB1.out⟩
end Go.Proofs.Ytdemikjaghegnaa
