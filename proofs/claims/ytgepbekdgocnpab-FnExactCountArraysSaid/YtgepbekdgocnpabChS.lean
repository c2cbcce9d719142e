/- Chains of ideals, as the model counts them. -/
import Derived.Test.YtgepbekdgocnpabChL
import Derived.Test.YtgepbekdgocnpabLab
namespace Go.Proofs.Ytgepbekdgocnpab
open Go.RowKit Go.WideShapes Go.ChangeShapes
set_option linter.unusedVariables false

theorem anti_iff (xs : List Int) (s : Nat) : holdsAntichain xs s = true ↔ ∀ e, e < xs.length → s.testBit e = true → (xs.getD e 0).toNat &&& s = 0 := by
  unfold holdsAntichain
  rw [beq_iff_eq]
  constructor
  · intro h e he hb
    apply Nat.eq_of_testBit_eq
    intro i
    rw [Nat.testBit_and, Nat.zero_testBit]
    cases h1 : (xs.getD e 0).toNat.testBit i
    · rfl
    · cases h2 : s.testBit i
      · rfl
      · have : (under xs s &&& s).testBit i = true := by
          rw [Nat.testBit_and, h2, Bool.and_true]
          exact (underN_testBit xs s xs.length i).2 ⟨e, he, hb, h1⟩
        rw [h] at this; simp at this
  · intro h
    apply Nat.eq_of_testBit_eq
    intro i
    rw [Nat.testBit_and, Nat.zero_testBit]
    cases h1 : (under xs s).testBit i
    · rfl
    · obtain ⟨e, he, hb, h2⟩ := (underN_testBit xs s xs.length i).1 h1
      cases h3 : s.testBit i
      · rfl
      · have : ((xs.getD e 0).toNat &&& s).testBit i = true := by rw [Nat.testBit_and, h2, h3]; rfl
        rw [h e he hb] at this; simp at this
/-! ### one step of the model -/
/-- what has come to t from the first i ideals -/
def acc (xs : List Int) (b : Bool) (W : Nat → Nat) (i t : Nat) : Nat := sumR (fun j => if onId xs (stpB xs b) (idA xs j) t then W (idA xs j) else 0) i
def bnd (xs : List Int) (j : Nat) : Nat := if j < (idN xs).length then idA xs j else 2 ^ xs.length
/-- while the i-th ideal is handed on to the first j -/
def mid (xs : List Int) (b : Bool) (W : Nat → Nat) (i j t : Nat) : Nat := if t < bnd xs j then acc xs b W (i + 1) t else acc xs b W i t
theorem acc_succ (xs : List Int) (b : Bool) (W : Nat → Nat) (i t : Nat) : acc xs b W (i + 1) t = acc xs b W i t + (if onId xs (stpB xs b) (idA xs i) t then W (idA xs i) else 0) := rfl
theorem acc_out {xs : List Int} {b : Bool} {W : Nat → Nat} {i t : Nat} (h : holdsIdeal xs t = false) : acc xs b W (i + 1) t = acc xs b W i t := by
  rw [acc_succ, if_neg]; rfl
  unfold onId; rw [h]; simp
theorem bnd_zero (xs : List Int) : bnd xs 0 = 0 := by unfold bnd; rw [if_pos (idN_pos xs), idA_zero]
theorem bnd_full (xs : List Int) : bnd xs (idN xs).length = 2 ^ xs.length := by unfold bnd; rw [if_neg (Nat.lt_irrefl _)]
theorem bnd_succ {xs : List Int} {j t : Nat} (hj : j < (idN xs).length) (ht : t < 2 ^ xs.length) (hi : holdsIdeal xs t = true) : t < bnd xs (j + 1) ↔ t < bnd xs j ∨ t = idA xs j := by
  obtain ⟨i, hi', rfl⟩ := idA_has ht hi
  have hbj : bnd xs j = idA xs j := by unfold bnd; rw [if_pos hj]
  rw [hbj]
  have mono : ∀ a b, a < (idN xs).length → b < (idN xs).length → (idA xs a < idA xs b ↔ a < b) := fun a b ha hb => by
    constructor
    · intro h
      rcases Nat.lt_or_ge a b with h1 | h1
      · exact h1
      · have := idA_le h1 ha; omega
    · intro h; exact idA_lt h hb
  have inj : idA xs i = idA xs j ↔ i = j := by
    constructor
    · intro h
      rcases Nat.lt_trichotomy i j with h1 | h1 | h1
      · have := idA_lt h1 hj; omega
      · exact h1
      · have := idA_lt h1 hi'; omega
    · intro h; rw [h]
  rw [mono i j hi' hj, inj]
  unfold bnd
  by_cases h2 : j + 1 < (idN xs).length
  · rw [if_pos h2, mono i (j + 1) hi' h2]; omega
  · rw [if_neg h2]; omega
theorem mid_zero (xs : List Int) (b : Bool) (W : Nat → Nat) (i n : Nat) : mkL n (mid xs b W i 0) = mkL n (acc xs b W i) := mkL_congr fun t _ => by
  unfold mid; rw [bnd_zero, if_neg (Nat.not_lt_zero t)]
theorem mid_full (xs : List Int) (b : Bool) (W : Nat → Nat) (i : Nat) : mkL (2 ^ xs.length) (mid xs b W i (idN xs).length) = mkL (2 ^ xs.length) (acc xs b W (i + 1)) := mkL_congr fun t ht => by
  unfold mid; rw [bnd_full, if_pos ht]
theorem mid_no {xs : List Int} {b : Bool} {W : Nat → Nat} {i j : Nat} (hj : j < (idN xs).length) (h : (if onId xs (stpB xs b) (idA xs i) (idA xs j) then W (idA xs i) else 0) = 0) :
    mkL (2 ^ xs.length) (mid xs b W i (j + 1)) = mkL (2 ^ xs.length) (mid xs b W i j) := mkL_congr fun t ht => by
  unfold mid
  cases hi : holdsIdeal xs t
  · rw [acc_out hi]; split <;> split <;> rfl
  · by_cases e : t = idA xs j
    · subst e; rw [acc_succ, h, Nat.add_zero]; split <;> split <;> rfl
    · by_cases h2 : t < bnd xs j
      · rw [if_pos ((bnd_succ hj ht hi).2 (.inl h2)), if_pos h2]
      · rw [if_neg (fun h3 => by rcases (bnd_succ hj ht hi).1 h3 with h4 | h4; exact h2 h4; exact e h4), if_neg h2]
theorem mid_yes {xs : List Int} {b : Bool} {W : Nat → Nat} {i j x : Nat} (hj : j < (idN xs).length) (h : (if onId xs (stpB xs b) (idA xs i) (idA xs j) then W (idA xs i) else 0) = x) :
    mkL (2 ^ xs.length) (mid xs b W i (j + 1)) = (mkL (2 ^ xs.length) (mid xs b W i j)).set (idA xs j) ((acc xs b W i (idA xs j) + x : Nat) : Int) :=
  mkL_upd _ (idA_mem hj).1 fun t ht => by
    by_cases e : t = idA xs j
    · subst e
      rw [if_pos rfl]
      unfold mid
      rw [if_pos ((bnd_succ hj ht (idA_mem hj).2).2 (.inr rfl)), acc_succ, h]
    · rw [if_neg e]
      unfold mid
      cases hi : holdsIdeal xs t
      · rw [acc_out hi]; split <;> split <;> rfl
      · by_cases h2 : t < bnd xs j
        · rw [if_pos ((bnd_succ hj ht hi).2 (.inl h2)), if_pos h2]
        · rw [if_neg (fun h3 => by rcases (bnd_succ hj ht hi).1 h3 with h4 | h4; exact h2 h4; exact e h4), if_neg h2]
theorem mid_at {xs : List Int} {b : Bool} {W : Nat → Nat} {i j : Nat} (hj : j < (idN xs).length) : mid xs b W i j (idA xs j) = acc xs b W i (idA xs j) := by
  unfold mid bnd; rw [if_pos hj, if_neg (Nat.lt_irrefl _)]
theorem acc_full (xs : List Int) (b : Bool) (k t : Nat) : acc xs b (cnt xs b k) (idN xs).length t = cnt xs b (k + 1) t := by
  cases h : holdsIdeal xs t
  · unfold cnt
    rw [chN_out _ _ h]
    unfold acc
    rw [sumR_congr (g := fun _ => 0) (fun j _ => by unfold onId; rw [h]; simp), sumR_zero]
  · unfold cnt
    rw [chN_all k t h]
    refine sumR_congr fun j hj => ?_
    unfold onId
    rw [h, (idA_mem hj).2]
    simp
theorem sumR_mono (f : Nat → Nat) {a b : Nat} (h : a ≤ b) : sumR f a ≤ sumR f b := by
  induction b with
  | zero => have : a = 0 := by omega
            subst this; exact Nat.le_refl _
  | succ b ih =>
    rcases Nat.lt_or_eq_of_le h with h1 | h1
    · have := ih (by omega); rw [sumR]; omega
    · subst h1; exact Nat.le_refl _
theorem acc_le {xs : List Int} {b : Bool} {k i t : Nat} (hi : i ≤ (idN xs).length) : acc xs b (cnt xs b k) i t ≤ cnt xs b (k + 1) t := by
  rw [← acc_full]; exact sumR_mono _ hi
end Go.Proofs.Ytgepbekdgocnpab
