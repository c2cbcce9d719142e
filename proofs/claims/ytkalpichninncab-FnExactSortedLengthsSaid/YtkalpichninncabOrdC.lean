/- CountOrders: the two tables. -/
import Derived.Test.YtkalpichninncabOrd
import Derived.Test.YtkalpichninncabIdeals
import Derived.Test.YtkalpichninncabHeights
import Derived.Test.YtkalpichninncabWhere
namespace Go.Proofs.Ytkalpichninncab
open Go.RowKit Go.WideShapes Go.ChangeShapes
set_option linter.unusedVariables false

def ansN (xs : List Int) (f : List Int → Nat) : Int := if good xs then (f xs : Int) else 0
theorem ansN_no {xs : List Int} {f : List Int → Nat} (h : good xs = false) : ansN xs f = 0 := by simp [ansN, h]
theorem ansN_yes {xs : List Int} {f : List Int → Nat} (h : good xs = true) : ansN xs f = (f xs : Int) := by simp [ansN, h]
/-! ### the list of all sets of a kind, by its places -/
theorem setsL_sorted (f : Nat → Bool) (N : Nat) : ((List.range N).filter f).Pairwise (· < ·) := List.Pairwise.filter _ List.pairwise_lt_range
theorem setsL_at {f : Nat → Bool} {N j : Nat} (hj : j < (setsL f N).length) : ∃ s : Nat, (setsL f N).getD j 0 = (s : Int) ∧ s < N ∧ f s = true ∧ (∀ t : Nat, (t : Int) ∈ (setsL f N).take j → t < s) ∧ (∀ t : Nat, t < s → f t = true → (t : Int) ∈ (setsL f N).take j) := by
  have hj' : j < ((List.range N).filter f).length := by simpa [setsL] using hj
  have hmem : ((List.range N).filter f)[j] ∈ (List.range N).filter f := List.getElem_mem hj'
  have hmem2 := List.mem_filter.1 hmem
  have hP := List.pairwise_iff_getElem.1 (setsL_sorted f N)
  refine ⟨((List.range N).filter f)[j], ?_, List.mem_range.1 hmem2.1, hmem2.2, ?_, ?_⟩
  · simp [setsL, List.getD, hj']
  · intro t ht
    unfold setsL at ht
    rw [← List.map_take, List.mem_map] at ht
    obtain ⟨a, ha, hat⟩ := ht
    have : a = t := by exact_mod_cast hat
    subst this
    obtain ⟨i, hi, e⟩ := List.mem_iff_getElem.1 ha
    rw [List.getElem_take] at e
    have hi2 : i < j := by rw [List.length_take] at hi; omega
    have := hP i j (by omega) hj' hi2
    omega
  · intro t ht hft
    have hts : t ∈ (List.range N).filter f := List.mem_filter.2 ⟨List.mem_range.2 (by have := List.mem_range.1 hmem2.1; omega), hft⟩
    obtain ⟨i, hi, e⟩ := List.mem_iff_getElem.1 hts
    have hij : i < j := by
      rcases Nat.lt_or_ge i j with h | h
      · exact h
      · exfalso
        rcases Nat.lt_or_eq_of_le h with h2 | h2
        · have := hP j i hj' hi h2; omega
        · subst h2; omega
    unfold setsL
    rw [← List.map_take, List.mem_map]
    refine ⟨t, ?_, rfl⟩
    rw [List.mem_take_iff_getElem]
    exact ⟨i, by omega, e⟩
theorem take_succ_mem {I : List Int} {j : Nat} (hj : j < I.length) (t : Int) : t ∈ I.take (j + 1) ↔ t ∈ I.take j ∨ t = I.getD j 0 := by
  have e : I.take (j + 1) = I.take j ++ [I.getD j 0] := by
    rw [List.take_succ_eq_append_getElem hj]; simp [List.getD, hj]
  rw [e, List.mem_append, List.mem_singleton]
def bk (xs I : List Int) (j t : Nat) : Nat := if t = 0 then 1 else if (t : Int) ∈ I.take j then ways xs t else 0
def ik (xs I : List Int) (j s k t : Nat) : Nat := if t = s ∧ s ≠ 0 then bwd xs s k else bk xs I j t
theorem bk_ways {xs I : List Int} {j t : Nat} (h : t = 0 ∨ (t : Int) ∈ I.take j) : bk xs I j t = ways xs t := by
  unfold bk
  by_cases h0 : t = 0
  · subst h0; rw [if_pos rfl, ways_zero]
  · rw [if_neg h0, if_pos (h.resolve_left h0)]
theorem holdsIdeal_zero (xs : List Int) : holdsIdeal xs 0 = true := holdsIdeal_row.2 fun e _ h => by simp at h
theorem holdsIdeal_whole {xs : List Int} (hg : good xs = true) : holdsIdeal xs (2 ^ xs.length - 1) = true := holdsIdeal_row.2 fun e he _ j hj => by
  rw [Nat.testBit_two_pow_sub_one]
  have := testBit_lt (row_lt hg he).2 hj
  simp; omega
theorem top_sub {xs : List Int} {s k : Nat} (h : (top xs s).testBit k = true) : s.testBit k = true := by
  unfold top at h
  rw [sub_testBit, Bool.and_eq_true] at h
  exact h.1
theorem ik_step {xs I : List Int} {j s k t : Nat} (hg : good xs = true) (hk : k < xs.length) (hI : holdsIdeal xs s = true) (hb : (top xs s).testBit k = true)
    (h2 : ∀ t : Nat, t < s → holdsIdeal xs t = true → (t : Int) ∈ I.take j) :
    ik xs I j s (k + 1) t = if t = s then ik xs I j s k s + ik xs I j s k (s ^^^ 2 ^ k) else ik xs I j s k t := by
  obtain ⟨h3, h4⟩ := top_down hg hI hk hb
  have hlt := xor_lt_self h4
  have hs0 : s ≠ 0 := by rintro rfl; simp at h4
  unfold ik
  by_cases ht : t = s
  · subst ht
    rw [if_pos ⟨rfl, hs0⟩, if_pos rfl, if_pos ⟨rfl, hs0⟩, if_neg (by omega)]
    rw [bk_ways (.inr (h2 _ hlt h3))]
    simp [bwd, sumN, hb]
  · rw [if_neg (fun h => ht h.1), if_neg ht, if_neg (fun h => ht h.1)]
theorem ik_no {xs I : List Int} {j s k t : Nat} (hb : (top xs s).testBit k = false) : ik xs I j s (k + 1) t = ik xs I j s k t := by
  unfold ik bwd
  simp [sumN, hb]
theorem ik_start {xs I : List Int} {j s t : Nat} (h1 : ∀ t : Nat, (t : Int) ∈ I.take j → t < s) : ik xs I j s 0 t = bk xs I j t := by
  unfold ik
  by_cases h : t = s ∧ s ≠ 0
  · rw [if_pos h]
    unfold bk
    rw [if_neg (by omega), if_neg]
    · rfl
    · intro hm; have := h1 t hm; omega
  · rw [if_neg h]
theorem ik_end {xs I : List Int} {j s t : Nat} (hg : good xs = true) (hj : j < I.length) (hs : I.getD j 0 = (s : Int)) (hsl : s < 2 ^ xs.length) (hI : holdsIdeal xs s = true) : ik xs I j s xs.length t = bk xs I (j + 1) t := by
  unfold ik
  by_cases h : t = s ∧ s ≠ 0
  · rw [if_pos h, bwd_full hg hsl h.2 hI, bk_ways]
    · rw [h.1]
    · right; rw [take_succ_mem hj, hs, h.1]; exact .inr rfl
  · rw [if_neg h]
    unfold bk
    by_cases h0 : t = 0
    · rw [if_pos h0, if_pos h0]
    · rw [if_neg h0, if_neg h0]
      have : (t : Int) ∈ I.take (j + 1) ↔ (t : Int) ∈ I.take j := by
        rw [take_succ_mem hj, hs]
        constructor
        · rintro (h1 | h1)
          · exact h1
          · have : t = s := by omega
            subst this
            exact absurd ⟨rfl, h0⟩ h
        · exact .inl
      simp only [this]
theorem bk_le {xs I : List Int} (hl : xs.length ≤ 10) (j t : Nat) : bk xs I j t ≤ 10000000000 := by
  unfold bk
  split
  · omega
  · split
    · exact ways_lt hl t
    · omega
theorem ik_le {xs I : List Int} (hl : xs.length ≤ 10) (j s t : Nat) {k : Nat} (hk : k ≤ xs.length) : ik xs I j s k t ≤ 100000000000 := by
  unfold ik
  split
  · exact bwd_le hl s hk
  · have := bk_le (xs := xs) (I := I) hl j t; omega
theorem bk_last {xs : List Int} (hg : good xs = true) : bk xs (setsL (holdsIdeal xs) (2 ^ xs.length)) (setsL (holdsIdeal xs) (2 ^ xs.length)).length (2 ^ xs.length - 1) = ordersN xs := by
  have h1 := (two_pow_le xs.length (good_length hg).2).1
  refine bk_ways (.inr ?_)
  rw [List.take_length]
  unfold setsL
  exact List.mem_map.2 ⟨_, List.mem_filter.2 ⟨List.mem_range.2 (by omega), holdsIdeal_whole hg⟩, rfl⟩
theorem top_lt {xs : List Int} {s n : Nat} (h : s < n) : top xs s < n := Nat.lt_of_le_of_lt (sub_le _ _) h
end Go.Proofs.Ytkalpichninncab
