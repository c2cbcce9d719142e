/- The relations that follow from the covers of a poset are the poset's own (mathematics: for ParsePoset). -/
import Derived.Test.YtiodligebnnodaaDoorCovers
import Derived.Test.YtiodligebnnodaaDoorFcov
namespace Go.Proofs.YtiodligebnnodaaDoor
open Go.RowKit Go.WideShapes Go.ChangeShapes
set_option linter.unusedVariables false

theorem good_trans {xs : List Int} (hg : good xs = true) {i k j : Nat} (hi : i < xs.length) (h1 : bitAt xs i k = true) (h2 : bitAt xs k j = true) : bitAt xs i j = true := by
  have hk := good_bit hg hi h1
  have ho := good_at hg hi
  simp only [okAt, Bool.and_eq_true] at ho
  exact (sub_eq_zero _ _).1 ((holdsIdeal_iff xs _).1 ho.2 k (by omega) h1) j h2
theorem coverB_bit {xs : List Int} {j i : Nat} (h : coverB xs j i = true) : bitAt xs i j = true := by
  unfold coverB at h
  simp only [Bool.and_eq_true] at h
  exact h.1
theorem covIn_cov {xs : List Int} {j : Nat} (m : Nat) {p : Nat × Nat} (h : p ∈ covIn xs j m) : p.1 = j ∧ p.2 < m ∧ coverB xs j p.2 = true := by
  induction m with
  | zero => simp [covIn] at h
  | succ m ih =>
    unfold covIn at h
    split at h
    · rename_i hc
      rw [List.mem_append] at h
      rcases h with h | h
      · obtain ⟨a, b, c⟩ := ih h
        exact ⟨a, by omega, c⟩
      · simp at h; subst h; exact ⟨rfl, by simp, hc⟩
    · obtain ⟨a, b, c⟩ := ih h
      exact ⟨a, by omega, c⟩
theorem covPS_cov {xs : List Int} {n : Nat} (m : Nat) {p : Nat × Nat} (h : p ∈ covPS xs n m) : p.1 < m ∧ p.2 < n ∧ coverB xs p.1 p.2 = true := by
  induction m with
  | zero => simp [covPS] at h
  | succ m ih =>
    unfold covPS at h
    rw [List.mem_append] at h
    rcases h with h | h
    · obtain ⟨a, b, c⟩ := ih h
      exact ⟨by omega, b, c⟩
    · obtain ⟨a, b, c⟩ := covIn_cov n h
      exact ⟨by omega, b, by rw [a]; exact c⟩
theorem covIn_has {xs : List Int} {j i : Nat} (m : Nat) (hi : i < m) (h : coverB xs j i = true) : (j, i) ∈ covIn xs j m := by
  induction m with
  | zero => omega
  | succ m ih =>
    unfold covIn
    by_cases e : i = m
    · subst e
      rw [if_pos h]
      exact List.mem_append_right _ (by simp)
    · have := ih (by omega)
      split
      · exact List.mem_append_left _ this
      · exact this
theorem covPS_has {xs : List Int} {n j i : Nat} (m : Nat) (hj : j < m) (hi : i < n) (h : coverB xs j i = true) : (j, i) ∈ covPS xs n m := by
  induction m with
  | zero => omega
  | succ m ih =>
    unfold covPS
    by_cases e : j = m
    · subst e
      exact List.mem_append_right _ (covIn_has n hi h)
    · exact List.mem_append_left _ (ih (by omega))
theorem cover_up {xs : List Int} (hg : good xs = true) : UpPairs xs.length (covPS xs xs.length xs.length) := by
  intro k hk
  have e : (covPS xs xs.length xs.length).getD k (0, 0) = (covPS xs xs.length xs.length)[k] := by simp [List.getD, hk]
  rw [e]
  obtain ⟨a, b, c⟩ := covPS_cov _ (List.getElem_mem hk)
  exact ⟨good_bit hg b (coverB_bit c), b⟩
/-- between b and r lies a cover of r -/
theorem cover_between {xs : List Int} (hg : good xs = true) {r b : Nat} (hr : r < xs.length) : ∀ (d c : Nat), r - c = d → bitAt xs r c = true → (c = b ∨ bitAt xs c b = true) → ∃ j, coverB xs j r = true ∧ (j = b ∨ bitAt xs j b = true) := by
  intro d
  induction d using Nat.strongRecOn with
  | _ d ih =>
    intro c hd h1 h2
    cases hc : coverB xs c r
    · have hcr := good_bit hg hr h1
      have ha : ((List.range r).any fun k => decide (c < k) && (bitAt xs r k && bitAt xs k c)) = true := by
        unfold coverB at hc
        rw [h1, Bool.true_and] at hc
        simpa using hc
      obtain ⟨k, hk, hk2⟩ := List.any_eq_true.1 ha
      rw [List.mem_range] at hk
      simp only [Bool.and_eq_true, decide_eq_true_eq] at hk2
      obtain ⟨k1, k2, k3⟩ := hk2
      refine ih (r - k) (by omega) k rfl k2 (.inr ?_)
      rcases h2 with h2 | h2
      · subst h2; exact k3
      · exact good_trans hg (by omega) k3 h2
    · exact ⟨c, hc, h2⟩
theorem fout_cov {xs : List Int} (hg : good xs = true) (r : Nat) : r < xs.length → ∀ b, (fout (covPS xs xs.length xs.length) xs.length r).testBit b = bitAt xs r b := by
  induction r using Nat.strongRecOn with
  | _ r ih =>
    intro hr b
    rw [Bool.eq_iff_iff, fout_bit (cover_up hg) hr]
    constructor
    · rintro ⟨t, ht, h1, h2⟩
      have e : (covPS xs xs.length xs.length).getD t (0, 0) = (covPS xs xs.length xs.length)[t] := by simp [List.getD, ht]
      rw [e] at h1 h2
      obtain ⟨a, b', c⟩ := covPS_cov _ (List.getElem_mem ht)
      have hbit := coverB_bit c
      rw [h1] at hbit
      rcases h2 with h2 | h2
      · rw [h2]; exact hbit
      · rw [ih _ (good_bit hg hr hbit) a] at h2
        exact good_trans hg hr hbit h2
    · intro h
      obtain ⟨j, hj, hjb⟩ := cover_between hg hr (r - b) b rfl h (.inl rfl)
      have hjr := good_bit hg hr (coverB_bit hj)
      have hm := covPS_has (n := xs.length) xs.length (show j < xs.length by omega) hr hj
      obtain ⟨t, ht, he⟩ := List.mem_iff_getElem.1 hm
      have e : (covPS xs xs.length xs.length).getD t (0, 0) = (j, r) := by rw [← he]; simp [List.getD, ht]
      refine ⟨t, ht, by rw [e], ?_⟩
      rw [e]
      rcases hjb with h3 | h3
      · exact .inl h3.symm
      · exact .inr (by rw [ih j hjr (by omega)]; exact h3)
/-- a poset is what follows from its covers -/
theorem fromL_cov {xs : List Int} (hg : good xs = true) : fromL xs.length (covPS xs xs.length xs.length) = xs := by
  apply List.ext_getElem?
  intro i
  by_cases hi : i < xs.length
  · have h0 := okAt_range (good_at hg hi)
    have e : fout (covPS xs xs.length xs.length) xs.length i = (xs.getD i 0).toNat := Nat.eq_of_testBit_eq fun b => fout_cov hg i hi b
    unfold fromL mkL
    rw [List.getElem?_map, List.getElem?_range hi, Option.map_some, e]
    have hx : xs[i]? = some (xs.getD i 0) := by simp [List.getD, hi]
    rw [hx]
    congr 1
    omega
  · rw [List.getElem?_eq_none (by unfold fromL; rw [mkL_length]; omega), List.getElem?_eq_none (by omega)]
end Go.Proofs.YtiodligebnnodaaDoor
