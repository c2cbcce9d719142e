/- FromCovers: relations that follow, in two ways. -/
import Derived.Test.YtiodligebnnodaaDoorFrom
import Derived.Test.YtiodligebnnodaaDoorNest2
import Derived.Test.YtiodligebnnodaaDoorTg2
namespace Go.Proofs.YtiodligebnnodaaDoor
open Go.RowKit Go.WideShapes Go.ChangeShapes
set_option linter.unusedVariables false

/-! ### the model's rows, bit by bit -/
theorem fin_other {ps : List (Nat × Nat)} {i : Nat} {g : Nat → Nat} (k r : Nat) (h : r ≠ i) : fin_ ps i g k r = g r := by
  induction k with
  | zero => rfl
  | succ k ih =>
    unfold fin_ fstep
    split
    · first | exact ih | (rw [if_neg h]; exact ih)
    · exact ih
theorem fout_high {ps : List (Nat × Nat)} (m r : Nat) (h : m ≤ r) : fout ps m r = 0 := by
  induction m with
  | zero => rfl
  | succ m ih =>
    unfold fout
    rw [fin_other _ _ (by omega)]
    exact ih (by omega)
theorem fout_low {ps : List (Nat × Nat)} {r : Nat} (m : Nat) (h : r < m) : fout ps m r = fout ps (r + 1) r := by
  induction m with
  | zero => omega
  | succ m ih =>
    by_cases e : r = m
    · subst e; rfl
    · rw [fout, fin_other _ _ e]
      exact ih (by omega)
/-- pairs upwards, below n -/
def UpPairs (n : Nat) (ps : List (Nat × Nat)) : Prop := ∀ k, k < ps.length → (ps.getD k (0, 0)).1 < (ps.getD k (0, 0)).2 ∧ (ps.getD k (0, 0)).2 < n
theorem fin_bit {n : Nat} {ps : List (Nat × Nat)} (hp : UpPairs n ps) {i : Nat} {g : Nat → Nat} (k : Nat) (hk : k ≤ ps.length) (b : Nat) :
    (fin_ ps i g k i).testBit b = true ↔ (g i).testBit b = true ∨ ∃ t, t < k ∧ (ps.getD t (0, 0)).2 = i ∧ (b = (ps.getD t (0, 0)).1 ∨ (g (ps.getD t (0, 0)).1).testBit b = true) := by
  induction k with
  | zero => simp [fin_]
  | succ k ih =>
    have ih := ih (by omega)
    have hpk := hp k (by omega)
    unfold fin_ fstep
    split
    · rename_i hi
      rw [if_pos rfl, Nat.testBit_or, Nat.testBit_or, Nat.testBit_two_pow, Bool.or_eq_true, Bool.or_eq_true, decide_eq_true_eq, ih, fin_other (g := g) k (ps.getD k (0, 0)).1 (by omega)]
      constructor
      · rintro ((h | ⟨t, h1, h2, h3⟩) | h)
        · exact .inl h
        · exact .inr ⟨t, by omega, h2, h3⟩
        · refine .inr ⟨k, by omega, hi, ?_⟩
          rcases h with h | h
          · exact .inl h.symm
          · exact .inr h
      · rintro (h | ⟨t, h1, h2, h3⟩)
        · exact .inl (.inl h)
        · by_cases e : t = k
          · subst e
            refine .inr ?_
            rcases h3 with h3 | h3
            · exact .inl h3.symm
            · exact .inr h3
          · exact .inl (.inr ⟨t, by omega, h2, h3⟩)
    · rename_i hi
      rw [ih]
      constructor
      · rintro (h | ⟨t, h1, h2, h3⟩)
        · exact .inl h
        · exact .inr ⟨t, by omega, h2, h3⟩
      · rintro (h | ⟨t, h1, h2, h3⟩)
        · exact .inl h
        · refine .inr ⟨t, ?_, h2, h3⟩
          by_cases e : t = k
          · subst e; exact absurd h2 hi
          · omega
theorem fout_bit {n : Nat} {ps : List (Nat × Nat)} (hp : UpPairs n ps) {r : Nat} (hr : r < n) (b : Nat) :
    (fout ps n r).testBit b = true ↔ ∃ t, t < ps.length ∧ (ps.getD t (0, 0)).2 = r ∧ (b = (ps.getD t (0, 0)).1 ∨ (fout ps n (ps.getD t (0, 0)).1).testBit b = true) := by
  rw [fout_low n hr, fout, fin_bit hp _ (Nat.le_refl _), fout_high r r (Nat.le_refl _)]
  simp only [Nat.zero_testBit, Bool.false_eq_true, false_or]
  constructor
  · rintro ⟨t, h1, h2, h3⟩
    have := hp t h1
    rw [fout_low r (by omega), ← fout_low n (by omega)] at h3
    exact ⟨t, h1, h2, h3⟩
  · rintro ⟨t, h1, h2, h3⟩
    have := hp t h1
    refine ⟨t, h1, h2, ?_⟩
    rw [fout_low r (by omega), ← fout_low n (by omega)]
    exact h3

/-! ### the program's rows -/
def dirN (ps : List (Nat × Nat)) : Nat → Nat → Nat
  | 0, _ => 0
  | k + 1, r => if (ps.getD k (0, 0)).2 = r then dirN ps k r ||| 2 ^ (ps.getD k (0, 0)).1 else dirN ps k r
def clN (ps : List (Nat × Nat)) (n : Nat) : Nat → Nat → Nat
  | 0, r => dirN ps ps.length r
  | k + 1, r => if r = k then clN ps n k k ||| under (mkL n (clN ps n k)) (clN ps n k k) else clN ps n k r
theorem dirN_bit (ps : List (Nat × Nat)) (k r b : Nat) : (dirN ps k r).testBit b = true ↔ ∃ t, t < k ∧ (ps.getD t (0, 0)).2 = r ∧ b = (ps.getD t (0, 0)).1 := by
  induction k with
  | zero => simp [dirN]
  | succ k ih =>
    unfold dirN
    split
    · rename_i h
      rw [Nat.testBit_or, Nat.testBit_two_pow, Bool.or_eq_true, ih, decide_eq_true_eq]
      constructor
      · rintro (⟨t, h1, h2, h3⟩ | h3)
        · exact ⟨t, by omega, h2, h3⟩
        · exact ⟨k, by omega, h, h3.symm⟩
      · rintro ⟨t, h1, h2, h3⟩
        by_cases e : t = k
        · subst e; exact .inr h3.symm
        · exact .inl ⟨t, by omega, h2, h3⟩
    · rename_i h
      rw [ih]
      constructor
      · rintro ⟨t, h1, h2, h3⟩; exact ⟨t, by omega, h2, h3⟩
      · rintro ⟨t, h1, h2, h3⟩
        by_cases e : t = k
        · subst e; exact absurd h2 h
        · exact ⟨t, by omega, h2, h3⟩
theorem dirN_lt {n : Nat} {ps : List (Nat × Nat)} (hp : UpPairs n ps) (hn : n ≤ 10) (k : Nat) (hk : k ≤ ps.length) (r : Nat) : dirN ps k r < 1024 := by
  apply Nat.lt_pow_two_of_testBit (n := 10)
  intro i hi
  rw [Bool.eq_false_iff]
  intro h
  obtain ⟨t, h1, h2, h3⟩ := (dirN_bit ps k r i).1 h
  have := hp t (by omega)
  omega
theorem clN_high {ps : List (Nat × Nat)} {n : Nat} (k r : Nat) (h : k ≤ r) : clN ps n k r = dirN ps ps.length r := by
  induction k with
  | zero => rfl
  | succ k ih => rw [clN, if_neg (by omega)]; exact ih (by omega)
theorem clN_low {ps : List (Nat × Nat)} {n r : Nat} (m : Nat) (h : r < m) : clN ps n m r = clN ps n (r + 1) r := by
  induction m with
  | zero => omega
  | succ m ih =>
    by_cases e : r = m
    · subst e; rfl
    · rw [clN, if_neg e]; exact ih (by omega)
theorem under_mkL {n : Nat} {g : Nat → Nat} {s b : Nat} : (under (mkL n g) s).testBit b = true ↔ ∃ e, e < n ∧ s.testBit e = true ∧ (g e).testBit b = true := by
  unfold under
  rw [underN_testBit, mkL_length]
  constructor
  · rintro ⟨e, h1, h2, h3⟩
    rw [mkL_getD h1, Int.toNat_natCast] at h3
    exact ⟨e, h1, h2, h3⟩
  · rintro ⟨e, h1, h2, h3⟩
    exact ⟨e, h1, h2, by rw [mkL_getD h1, Int.toNat_natCast]; exact h3⟩
theorem clN_fout {n : Nat} {ps : List (Nat × Nat)} (hp : UpPairs n ps) (r : Nat) : r < n → clN ps n n r = fout ps n r := by
  induction r using Nat.strongRecOn with
  | _ r ih =>
    intro hr
    apply Nat.eq_of_testBit_eq
    intro b
    rw [Bool.eq_iff_iff, fout_bit hp hr, clN_low n hr, clN, if_pos rfl, clN_high r r (Nat.le_refl _), Nat.testBit_or, Bool.or_eq_true, under_mkL, dirN_bit]
    constructor
    · rintro (⟨t, h1, h2, h3⟩ | ⟨e, h1, h2, h3⟩)
      · exact ⟨t, h1, h2, .inl h3⟩
      · obtain ⟨t, h4, h5, h6⟩ := (dirN_bit ps _ r e).1 h2
        have := hp t h4
        rw [clN_low r (by omega), ← clN_low n (by omega), ih e (by omega) (by omega)] at h3
        exact ⟨t, h4, h5, .inr (by rw [← h6]; exact h3)⟩
    · rintro ⟨t, h1, h2, h3⟩
      have := hp t h1
      rcases h3 with h3 | h3
      · exact .inl ⟨t, h1, h2, h3⟩
      · refine .inr ⟨(ps.getD t (0, 0)).1, by omega, (dirN_bit ps _ r _).2 ⟨t, h1, h2, rfl⟩, ?_⟩
        rw [clN_low r (by omega), ← clN_low n (by omega), ih _ (by omega) (by omega)]
        exact h3
theorem clN_lt {n : Nat} {ps : List (Nat × Nat)} (hp : UpPairs n ps) (hn : n ≤ 10) (k : Nat) (hk : k ≤ n) (r : Nat) : clN ps n k r < 1024 := by
  induction k generalizing r with
  | zero => exact dirN_lt hp hn _ (Nat.le_refl _) r
  | succ k ih =>
    unfold clN
    split
    · refine Nat.or_lt_two_pow (n := 10) (ih (by omega) k) ?_
      apply Nat.lt_pow_two_of_testBit
      intro i hi
      rw [Bool.eq_false_iff]
      intro h
      obtain ⟨e, h1, h2, h3⟩ := under_mkL.1 h
      have := ih (by omega) e
      rw [Nat.testBit_lt_two_pow (Nat.lt_of_lt_of_le this (Nat.pow_le_pow_right (n := 2) (by decide) hi : 2 ^ 10 ≤ 2 ^ i))] at h3
      cases h3
    · exact ih (by omega) r
theorem clN_full {n : Nat} {ps : List (Nat × Nat)} (hp : UpPairs n ps) : mkL n (clN ps n n) = fromL n ps := mkL_congr fun i hi => clN_fout hp i hi
end Go.Proofs.YtiodligebnnodaaDoor
