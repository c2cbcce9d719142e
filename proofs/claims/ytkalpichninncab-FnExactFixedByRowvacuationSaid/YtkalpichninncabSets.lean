/- Sets of elements as numbers: what the program and the model compute, as plain functions. No program is named here. -/
import Derived.Test.YtkalpichninncabBase
namespace Go.Proofs.Ytkalpichninncab

/-- all that the first k elements of s have below them -/
def underN (xs : List Int) (s : Nat) : Nat → Nat
  | 0 => 0
  | k + 1 => if s.testBit k then underN xs s k ||| (xs.getD k 0).toNat else underN xs s k
def under (xs : List Int) (s : Nat) : Nat := underN xs s xs.length
/-- the rows of the elements of s are small numbers -/
def Small (xs : List Int) (s : Nat) : Prop := ∀ e, e < xs.length → s.testBit e = true → 0 ≤ xs.getD e 0 ∧ xs.getD e 0 < 1024
theorem underN_lt (xs : List Int) (s : Nat) (hs : Small xs s) (k : Nat) (hk : k ≤ xs.length) : underN xs s k < 1024 := by
  induction k with
  | zero => simp [underN]
  | succ k ih =>
    have := ih (by omega)
    unfold underN
    split
    · rename_i h
      have h2 := hs k (by omega) h
      exact Nat.or_lt_two_pow (n := 10) this (by omega)
    · exact this
theorem underN_testBit (xs : List Int) (s k j : Nat) : (underN xs s k).testBit j = true ↔ ∃ e, e < k ∧ s.testBit e = true ∧ (xs.getD e 0).toNat.testBit j = true := by
  induction k with
  | zero => simp [underN]
  | succ k ih =>
    unfold underN
    split
    · rename_i h
      rw [Nat.testBit_or, Bool.or_eq_true, ih]
      constructor
      · rintro (⟨e, h1, h2, h3⟩ | h3)
        · exact ⟨e, by omega, h2, h3⟩
        · exact ⟨k, by omega, h, h3⟩
      · rintro ⟨e, h1, h2, h3⟩
        by_cases he : e = k
        · subst he; exact .inr h3
        · exact .inl ⟨e, by omega, h2, h3⟩
    · rename_i h
      rw [ih]
      constructor
      · rintro ⟨e, h1, h2, h3⟩; exact ⟨e, by omega, h2, h3⟩
      · rintro ⟨e, h1, h2, h3⟩
        by_cases he : e = k
        · subst he; exact absurd h2 h
        · exact ⟨e, by omega, h2, h3⟩
/-- is s closed under what lies below? -/
def holdsIdeal (xs : List Int) (s : Nat) : Bool := sub (under xs s) s == 0
def holdsAntichain (xs : List Int) (s : Nat) : Bool := under xs s &&& s == 0
def top (xs : List Int) (s : Nat) : Nat := sub s (under xs s)
def down (xs : List Int) (s : Nat) : Nat := s ||| under xs s
def bottomN (xs : List Int) (s : Nat) : Nat → Nat
  | 0 => 0
  | k + 1 => if s.testBit k && ((xs.getD k 0).toNat &&& s == 0) then bottomN xs s k ||| 2 ^ k else bottomN xs s k
def bottom (xs : List Int) (s : Nat) : Nat := bottomN xs s xs.length
/-- is row i right? -/
def okAt (xs : List Int) (i : Nat) : Bool := decide (0 ≤ xs.getD i 0) && decide (xs.getD i 0 ≤ (2 ^ i - 1 : Nat)) && holdsIdeal xs (xs.getD i 0).toNat
/-- is 'xs' a poset? -/
def good (xs : List Int) : Bool := (decide (1 ≤ xs.length) && decide (xs.length ≤ 10)) && (List.range xs.length).all (okAt xs)
def okSet (xs : List Int) (s : Int) : Bool := good xs && (decide (0 ≤ s) && decide (s ≤ (2 ^ xs.length - 1 : Nat)))

theorem sub_eq_zero (a b : Nat) : sub a b = 0 ↔ ∀ i, a.testBit i = true → b.testBit i = true := by
  constructor
  · intro h i hi
    have := sub_testBit a b i
    rw [h, hi] at this
    revert this
    cases b.testBit i <;> simp
  · intro h
    apply Nat.eq_of_testBit_eq
    intro i
    rw [sub_testBit]
    have := h i
    cases ha : a.testBit i
    · simp
    · simp [this ha]
theorem holdsIdeal_iff (xs : List Int) (s : Nat) : holdsIdeal xs s = true ↔ ∀ e, e < xs.length → s.testBit e = true → sub (xs.getD e 0).toNat s = 0 := by
  unfold holdsIdeal
  rw [beq_iff_eq, sub_eq_zero]
  constructor
  · intro h e he hb
    rw [sub_eq_zero]
    exact fun i hi => h i ((underN_testBit xs s xs.length i).2 ⟨e, he, hb, hi⟩)
  · intro h i hi
    obtain ⟨e, he, hb, h2⟩ := (underN_testBit xs s xs.length i).1 hi
    exact (sub_eq_zero _ _).1 (h e he hb) i h2
theorem testBit_lt {s n e : Nat} (h : s < 2 ^ n) (hb : s.testBit e = true) : e < n := by
  rcases Nat.lt_or_ge e n with h1 | h1
  · exact h1
  · rw [Nat.testBit_lt_two_pow (Nat.lt_of_lt_of_le h (Nat.pow_le_pow_right (by decide) h1))] at hb
    cases hb
theorem okAt_range {xs : List Int} {i : Nat} (h : okAt xs i = true) : 0 ≤ xs.getD i 0 ∧ xs.getD i 0 ≤ (2 ^ i - 1 : Nat) := by
  simp only [okAt, Bool.and_eq_true, decide_eq_true_eq] at h
  exact h.1
theorem okAt_not {xs : List Int} {i : Nat} (h : ¬ (0 ≤ xs.getD i 0 ∧ xs.getD i 0 ≤ (2 ^ i - 1 : Nat))) : okAt xs i = false := by
  cases hc : okAt xs i
  · rfl
  · exact absurd (okAt_range hc) h
theorem okAt_small {xs : List Int} {i : Nat} (h : okAt xs i = true) (hi : i < 10) : 0 ≤ xs.getD i 0 ∧ xs.getD i 0 < 512 := by
  have := okAt_range h
  have hp := Nat.pow_le_pow_right (n := 2) (by decide) (Nat.le_of_lt_succ hi)
  omega
theorem good_length {xs : List Int} (h : good xs = true) : 1 ≤ xs.length ∧ xs.length ≤ 10 := by
  simp only [good, Bool.and_eq_true, decide_eq_true_eq] at h
  exact h.1
theorem good_at {xs : List Int} (h : good xs = true) {i : Nat} (hi : i < xs.length) : okAt xs i = true := by
  simp only [good, Bool.and_eq_true] at h
  exact List.all_eq_true.1 h.2 i (List.mem_range.2 hi)
theorem good_small {xs : List Int} (h : good xs = true) (s : Nat) : Small xs s := fun e he _ => by
  have := okAt_small (good_at h he) (by have := good_length h; omega)
  omega
theorem small_of {xs : List Int} {s k : Nat} (hs : s < 2 ^ k) (hk : k ≤ 10) (h : ∀ j, j < k → okAt xs j = true) : Small xs s := fun e _ hb => by
  have h1 := testBit_lt hs hb
  have := okAt_small (h e h1) (by omega)
  omega
theorem good_of {xs : List Int} (h1 : 1 ≤ xs.length) (h2 : xs.length ≤ 10) (h : ∀ j, j < xs.length → okAt xs j = true) : good xs = true := by
  simp only [good, Bool.and_eq_true, decide_eq_true_eq]
  exact ⟨⟨h1, h2⟩, List.all_eq_true.2 fun j hj => h j (List.mem_range.1 hj)⟩
theorem not_good {xs : List Int} {k : Nat} (hk : k < xs.length) (h : okAt xs k = false) : good xs = false := by
  cases hg : good xs
  · rfl
  · rw [good_at hg hk] at h; cases h
theorem not_good_length {xs : List Int} (h : ¬ (1 ≤ xs.length ∧ xs.length ≤ 10)) : good xs = false := by
  cases hg : good xs
  · rfl
  · exact absurd (good_length hg) h
theorem okSet_good {xs : List Int} {s : Int} (h : okSet xs s = true) : good xs = true ∧ 0 ≤ s ∧ s ≤ (2 ^ xs.length - 1 : Nat) := by
  simp only [okSet, Bool.and_eq_true, decide_eq_true_eq] at h
  exact h
theorem okSet_lt {xs : List Int} {s : Int} (h : okSet xs s = true) : 0 ≤ s ∧ s < 1024 := by
  obtain ⟨h1, h2, h3⟩ := okSet_good h
  have := two_pow_le xs.length (good_length h1).2
  omega
end Go.Proofs.Ytkalpichninncab
