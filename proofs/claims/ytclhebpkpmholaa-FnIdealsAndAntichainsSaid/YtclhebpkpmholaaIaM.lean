/- Ideals and antichains tell each other: mathematics. -/
import Derived.Test.YtclhebpkpmholaaOrd
import Derived.Test.YtclhebpkpmholaaIdeals
namespace Go.Proofs.Ytclhebpkpmholaa
open Go.RowKit Go.WideShapes Go.ChangeShapes
set_option linter.unusedVariables false

theorem under_bit (xs : List Int) (s j : Nat) : (under xs s).testBit j = true ↔ ∃ e, e < xs.length ∧ s.testBit e = true ∧ (row xs e).testBit j = true := underN_testBit xs s xs.length j
theorem top_bit (xs : List Int) (s j : Nat) : (top xs s).testBit j = true ↔ s.testBit j = true ∧ ¬ ∃ e, e < xs.length ∧ s.testBit e = true ∧ (row xs e).testBit j = true := by
  rw [← under_bit, top, sub_testBit]
  simp
theorem row_less {xs : List Int} (hg : good xs = true) {e j : Nat} (he : e < xs.length) (h : (row xs e).testBit j = true) : j < e := testBit_lt (row_lt hg he).2 h
theorem anti_iff (xs : List Int) (s : Nat) : holdsAntichain xs s = true ↔ ∀ e, e < xs.length → s.testBit e = true → ∀ j, (row xs e).testBit j = true → s.testBit j = false := by
  unfold holdsAntichain
  rw [beq_iff_eq]
  constructor
  · intro h e he hs j hj
    have h1 : (under xs s).testBit j = true := (under_bit xs s j).2 ⟨e, he, hs, hj⟩
    have h2 : (under xs s &&& s).testBit j = false := by rw [h]; simp
    rw [Nat.testBit_and, h1] at h2
    simpa using h2
  · intro h
    apply Nat.eq_of_testBit_eq
    intro j
    rw [Nat.testBit_and, Nat.zero_testBit]
    cases hu : (under xs s).testBit j
    · rfl
    · obtain ⟨e, he, hs, hj⟩ := (under_bit xs s j).1 hu
      rw [h e he hs j hj]; rfl
/-- what lies in s, or below it, lies under a greatest one -/
theorem top_over {xs : List Int} (hg : good xs = true) {s : Nat} (hs : s < 2 ^ xs.length) : ∀ (d j : Nat), xs.length - j ≤ d → s.testBit j = true → (top xs s).testBit j = true ∨ ∃ e, e < xs.length ∧ (top xs s).testBit e = true ∧ (row xs e).testBit j = true := by
  intro d
  induction d with
  | zero => intro j hd hj; have := testBit_lt hs hj; omega
  | succ d ih =>
    intro j hd hj
    by_cases hc : ∃ e, e < xs.length ∧ s.testBit e = true ∧ (row xs e).testBit j = true
    · obtain ⟨e, he, hse, hr⟩ := hc
      have hlt := row_less hg he hr
      rcases ih e (by omega) hse with h | ⟨f, hf, ht, hrf⟩
      · exact Or.inr ⟨e, he, h, hr⟩
      · exact Or.inr ⟨f, hf, ht, row_closed hg hf hrf hr⟩
    · exact Or.inl ((top_bit xs s j).2 ⟨hj, hc⟩)
theorem down_top {xs : List Int} (hg : good xs = true) {s : Nat} (hs : s < 2 ^ xs.length) (hi : holdsIdeal xs s = true) : down xs (top xs s) = s := by
  apply Nat.eq_of_testBit_eq
  intro j
  rw [Bool.eq_iff_iff, down_testBit]
  constructor
  · rintro (h | ⟨e, he, h, hr⟩)
    · exact ((top_bit xs s j).1 h).1
    · exact holdsIdeal_row.1 hi e he ((top_bit xs s e).1 h).1 j hr
  · intro h
    exact top_over hg hs _ j (Nat.le_refl _) h
theorem top_anti (xs : List Int) (s : Nat) : holdsAntichain xs (top xs s) = true := by
  rw [anti_iff]
  intro e he ht j hj
  rw [Bool.eq_false_iff]
  intro h
  exact ((top_bit xs s j).1 h).2 ⟨e, he, ((top_bit xs s e).1 ht).1, hj⟩
theorem down_ideal {xs : List Int} (hg : good xs = true) (s : Nat) : holdsIdeal xs (down xs s) = true := by
  rw [holdsIdeal_row]
  intro e he h j hj
  rw [down_testBit] at h ⊢
  rcases h with h | ⟨f, hf, hsf, hr⟩
  · exact Or.inr ⟨e, he, h, hj⟩
  · exact Or.inr ⟨f, hf, hsf, row_closed hg hf hr hj⟩
theorem top_down_eq {xs : List Int} (hg : good xs = true) {a : Nat} (ha : holdsAntichain xs a = true) : top xs (down xs a) = a := by
  apply Nat.eq_of_testBit_eq
  intro j
  rw [Bool.eq_iff_iff, top_bit, down_testBit]
  constructor
  · rintro ⟨h | ⟨e, he, h, hr⟩, hn⟩
    · exact h
    · exact absurd ⟨e, he, (down_testBit xs a e).2 (Or.inl h), hr⟩ hn
  · intro h
    refine ⟨Or.inl h, ?_⟩
    rintro ⟨e, he, hd, hr⟩
    have hA := (anti_iff xs a).1 ha
    rcases (down_testBit xs a e).1 hd with h2 | ⟨f, hf, h2, hr2⟩
    · rw [hA e he h2 j hr] at h; cases h
    · rw [hA f hf h2 j (row_closed hg hf hr2 hr)] at h; cases h
theorem top_lt_len {xs : List Int} {s : Nat} (hs : s < 2 ^ xs.length) : top xs s < 2 ^ xs.length := by
  apply Nat.lt_pow_two_of_testBit
  intro i hi
  rw [Bool.eq_false_iff]
  intro h
  have := testBit_lt hs ((top_bit xs s i).1 h).1
  omega
theorem down_lt_len {xs : List Int} (hg : good xs = true) {s : Nat} (hs : s < 2 ^ xs.length) : down xs s < 2 ^ xs.length := by
  apply Nat.lt_pow_two_of_testBit
  intro i hi
  rw [Bool.eq_false_iff]
  intro h
  rcases (down_testBit xs s i).1 h with h | ⟨e, he, h, hr⟩
  · have := testBit_lt hs h; omega
  · have := row_less hg he hr; omega
theorem bottom_lt_len {xs : List Int} {s : Nat} : bottom xs s < 2 ^ xs.length := by
  apply Nat.lt_pow_two_of_testBit
  intro i hi
  rw [Bool.eq_false_iff]
  intro h
  have := ((bottomN_testBit xs s xs.length i).1 h).1
  omega
theorem and_zero_bit {a s : Nat} (h : a &&& s = 0) {j : Nat} (ha : a.testBit j = true) : s.testBit j = false := by
  have h2 : (a &&& s).testBit j = false := by rw [h]; simp
  rw [Nat.testBit_and, ha] at h2
  simpa using h2
theorem bottom_anti (xs : List Int) (s : Nat) : holdsAntichain xs (bottom xs s) = true := by
  rw [anti_iff]
  intro e he hb j hj
  obtain ⟨-, h1, h2⟩ := (bottomN_testBit xs s xs.length e).1 hb
  rw [Bool.eq_false_iff]
  intro h
  obtain ⟨-, h3, -⟩ := (bottomN_testBit xs s xs.length j).1 h
  rw [and_zero_bit h2 hj] at h3; cases h3
theorem or_ideal {xs : List Int} {s t : Nat} (hs : holdsIdeal xs s = true) (ht : holdsIdeal xs t = true) : holdsIdeal xs (s ||| t) = true := by
  rw [holdsIdeal_row] at *
  intro e he h j hj
  rw [Nat.testBit_or, Bool.or_eq_true] at *
  rcases h with h | h
  · exact Or.inl (hs e he h j hj)
  · exact Or.inr (ht e he h j hj)
theorem and_ideal {xs : List Int} {s t : Nat} (hs : holdsIdeal xs s = true) (ht : holdsIdeal xs t = true) : holdsIdeal xs (s &&& t) = true := by
  rw [holdsIdeal_row] at *
  intro e he h j hj
  rw [Nat.testBit_and, Bool.and_eq_true] at *
  exact ⟨hs e he h.1 j hj, ht e he h.2 j hj⟩
theorem ideal_down {xs : List Int} (s : Nat) : holdsIdeal xs s = true ↔ down xs s = s := by
  rw [holdsIdeal_row]
  constructor
  · intro h
    apply Nat.eq_of_testBit_eq
    intro j
    rw [Bool.eq_iff_iff, down_testBit]
    exact ⟨fun hh => hh.elim id fun ⟨e, he, h1, h2⟩ => h e he h1 j h2, Or.inl⟩
  · intro h e he h1 j hj
    rw [← h, down_testBit]
    exact Or.inr ⟨e, he, h1, hj⟩
theorem some_bit {s : Nat} (h : s ≠ 0) : ∃ j, s.testBit j = true := by
  apply Classical.byContradiction
  intro hn
  apply h
  apply Nat.eq_of_testBit_eq
  intro i
  rw [Nat.zero_testBit, Bool.eq_false_iff]
  intro hi
  exact hn ⟨i, hi⟩
theorem top_some {xs : List Int} (hg : good xs = true) {s : Nat} (hs : s < 2 ^ xs.length) (h : s ≠ 0) : top xs s ≠ 0 := by
  obtain ⟨j, hj⟩ := some_bit h
  intro hz
  rcases top_over hg hs _ j (Nat.le_refl _) hj with h | ⟨e, -, h, -⟩ <;> (rw [hz] at h; simp at h)
theorem bottom_some {xs : List Int} (hg : good xs = true) {s : Nat} (hs : s < 2 ^ xs.length) (h : s ≠ 0) : bottom xs s ≠ 0 := by
  obtain ⟨j, hj⟩ := some_bit h
  have : ∀ (d j : Nat), j ≤ d → s.testBit j = true → bottom xs s ≠ 0 := by
    intro d
    induction d with
    | zero =>
      intro j hd hj hz
      obtain rfl : j = 0 := by omega
      have hjl := testBit_lt hs hj
      have : (bottom xs s).testBit 0 = true := (bottomN_testBit xs s xs.length 0).2 ⟨hjl, hj, by
        have := (row_lt hg hjl).2
        have h0 : row xs 0 = 0 := by omega
        rw [h0, Nat.zero_and]⟩
      rw [hz] at this; simp at this
    | succ d ih =>
      intro j hd hj
      by_cases hc : ∃ i, (row xs j).testBit i = true ∧ s.testBit i = true
      · obtain ⟨i, h1, h2⟩ := hc
        have := row_less hg (testBit_lt hs hj) h1
        exact ih i (by omega) h2
      · intro hz
        have : (bottom xs s).testBit j = true := (bottomN_testBit xs s xs.length j).2 ⟨testBit_lt hs hj, hj, by
          apply Nat.eq_of_testBit_eq
          intro i
          rw [Nat.testBit_and, Nat.zero_testBit, Bool.eq_false_iff]
          intro h
          rw [Bool.and_eq_true] at h
          exact hc ⟨i, h.1, h.2⟩⟩
        rw [hz] at this; simp at this
  exact this j j (Nat.le_refl _) hj
/-! ### the lists -/
theorem iaL_mem {f : Nat → Bool} {N s : Nat} (hs : s < N) (hf : f s = true) : ∃ j, j < (setsL f N).length ∧ (setsL f N).getD j 0 = (s : Int) := by
  have hm : (s : Int) ∈ setsL f N := List.mem_map.2 ⟨s, List.mem_filter.2 ⟨List.mem_range.2 hs, hf⟩, rfl⟩
  obtain ⟨j, hj, he⟩ := List.getElem_of_mem hm
  exact ⟨j, hj, by rw [List.getD, List.getElem?_eq_getElem hj]; exact he⟩
theorem iaL_at {f : Nat → Bool} {N j : Nat} (hj : j < (setsL f N).length) : ∃ s, s < N ∧ f s = true ∧ (setsL f N).getD j 0 = (s : Int) := by
  have hm : (setsL f N).getD j 0 ∈ setsL f N := by rw [List.getD, List.getElem?_eq_getElem hj]; exact List.getElem_mem hj
  obtain ⟨s, hs, he⟩ := List.mem_map.1 hm
  have := List.mem_filter.1 hs
  exact ⟨s, List.mem_range.1 this.1, this.2, he.symm⟩
theorem iaL_lt {f : Nat → Bool} {N i j : Nat} (hij : i < j) (hj : j < (setsL f N).length) : (setsL f N).getD i 0 < (setsL f N).getD j 0 := by
  have hp : (setsL f N).Pairwise (· < ·) := by
    unfold setsL
    rw [List.pairwise_map]
    exact (List.pairwise_lt_range.filter f).imp (fun h => Int.ofNat_lt.2 h)
  have h := List.pairwise_iff_getElem.1 hp i j (by omega) hj hij
  rw [List.getD, List.getD, List.getElem?_eq_getElem hj, List.getElem?_eq_getElem (by omega)]
  exact h
theorem iaL_zeroth {f : Nat → Bool} {N : Nat} (hN : 0 < N) (h0 : f 0 = true) : 0 < (setsL f N).length ∧ (setsL f N).getD 0 0 = 0 := by
  obtain ⟨j, hj, he⟩ := iaL_mem hN h0
  refine ⟨by omega, ?_⟩
  obtain ⟨s, hs, hf, e2⟩ := iaL_at (show 0 < (setsL f N).length by omega)
  rcases Nat.eq_zero_or_pos j with rfl | hp
  · simpa using he
  · have := iaL_lt hp hj
    rw [he, e2] at this
    exact absurd this (by simp)
theorem iaL_last {f : Nat → Bool} {M : Nat} (h0 : f M = true) : (setsL f (M + 1)).getD ((setsL f (M + 1)).length - 1) 0 = (M : Int) := by
  rw [setsL_yes h0, List.length_append, List.length_singleton]
  simp [List.getD]
theorem iaL_count {f g : Nat → Bool} {N : Nat} (A B : Nat → Nat) (h1 : ∀ s, s < N → f s = true → A s < N ∧ g (A s) = true ∧ B (A s) = s) (h2 : ∀ s, s < N → g s = true → B s < N ∧ f (B s) = true ∧ A (B s) = s) :
    (setsL g N).length = (setsL f N).length := by
  have hf : ((List.range N).filter f).Nodup := List.Pairwise.filter _ List.nodup_range
  have hg : ((List.range N).filter g).Nodup := List.Pairwise.filter _ List.nodup_range
  have hm : (((List.range N).filter f).map A).Nodup := by
    unfold List.Nodup
    rw [List.pairwise_map]
    refine List.Pairwise.imp_of_mem ?_ hf
    intro a b ha hb hne he
    have ha2 := List.mem_filter.1 ha
    have hb2 := List.mem_filter.1 hb
    have e1 := (h1 a (List.mem_range.1 ha2.1) ha2.2).2.2
    have e2 := (h1 b (List.mem_range.1 hb2.1) hb2.2).2.2
    exact hne (by rw [← e1, ← e2, he])
  have hp : (((List.range N).filter f).map A).Perm ((List.range N).filter g) := by
    refine (List.perm_ext_iff_of_nodup hm hg).2 fun t => ?_
    rw [List.mem_map, List.mem_filter, List.mem_range]
    constructor
    · rintro ⟨s, hs, rfl⟩
      have := List.mem_filter.1 hs
      have := h1 s (List.mem_range.1 this.1) this.2
      exact ⟨this.1, this.2.1⟩
    · rintro ⟨ht, hgt⟩
      have := h2 t ht hgt
      exact ⟨B t, List.mem_filter.2 ⟨List.mem_range.2 this.1, this.2.1⟩, this.2.2⟩
  have := hp.length_eq
  rw [List.length_map] at this
  simp only [setsL, List.length_map]
  exact this.symm
theorem full_ideal {xs : List Int} (hg : good xs = true) : holdsIdeal xs (2 ^ xs.length - 1) = true := by
  rw [holdsIdeal_row]
  intro e he _ j hj
  have := row_less hg he hj
  rw [Nat.testBit_two_pow_sub_one]
  simp; omega
theorem zero_ideal (xs : List Int) : holdsIdeal xs 0 = true := by
  rw [holdsIdeal_row]
  intro e he h
  simp at h
theorem chains_count {xs : List Int} (hg : good xs = true) : (antichainsL xs).length = (idealsL xs).length := by
  rw [antichainsL, idealsL, if_pos hg, if_pos hg]
  exact iaL_count (top xs) (down xs) (fun s hs h => ⟨top_lt_len hs, top_anti xs s, down_top hg hs h⟩) (fun a ha h => ⟨down_lt_len hg ha, down_ideal hg a, top_down_eq hg h⟩)
end Go.Proofs.Ytclhebpkpmholaa
