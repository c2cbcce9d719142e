/- Counts of what can follow a set in a linear extension; ranks. No program is named here. -/
import Derived.Test.YtclhebpkpmholaaLin
import Derived.Test.YtclhebpkpmholaaOrd
import Derived.Test.YtclhebpkpmholaaWhere
namespace Go.Proofs.Ytclhebpkpmholaa
set_option linter.unusedVariables false

theorem or_gt {s e : Nat} (h : s.testBit e = false) : s < s ||| 2 ^ e := by
  have h1 : s ≤ s ||| 2 ^ e := Nat.left_le_or
  rcases Nat.lt_or_ge s (s ||| 2 ^ e) with h2 | h2
  · exact h2
  · have h3 : s ||| 2 ^ e = s := by omega
    have h4 : (s ||| 2 ^ e).testBit e = true := by rw [Nat.testBit_or, Nat.testBit_two_pow_self]; simp
    rw [h3, h] at h4; cases h4
theorem stepP_bit {xs : List Int} {s e : Nat} (h : stepP xs s e = true) : s.testBit e = false := by
  simp only [stepP, Bool.and_eq_true, Bool.not_eq_true'] at h; exact h.1
/-- in how many ways the elements outside of s can follow -/
def ends (xs : List Int) (s : Nat) : Nat :=
  if 2 ^ xs.length - 1 ≤ s then 1 else sumN (fun e => if h : stepP xs s e = true then ends xs (s ||| 2 ^ e) else 0) xs.length
termination_by 2 ^ xs.length - s
decreasing_by have := or_gt (stepP_bit h); omega
def nterm (xs : List Int) (s e : Nat) : Nat := if stepP xs s e = true then ends xs (s ||| 2 ^ e) else 0
theorem ends_top {xs : List Int} {s : Nat} (h : 2 ^ xs.length - 1 ≤ s) : ends xs s = 1 := by rw [ends, if_pos h]
theorem ends_low {xs : List Int} {s : Nat} (h : s < 2 ^ xs.length - 1) : ends xs s = sumN (nterm xs s) xs.length := by
  rw [ends, if_neg (by omega)]; rfl
theorem nterm_no {xs : List Int} {s e : Nat} (h : stepP xs s e = false) : nterm xs s e = 0 := by simp [nterm, h]
theorem nterm_yes {xs : List Int} {s e : Nat} (h : stepP xs s e = true) : nterm xs s e = ends xs (s ||| 2 ^ e) := by simp [nterm, h]
theorem cntB_or {s e n : Nat} (he : e < n) (h : s.testBit e = false) : cntB (s ||| 2 ^ e) n = cntB s n + 1 := by
  have h1 : (s ||| 2 ^ e).testBit e = true := by rw [Nat.testBit_or, Nat.testBit_two_pow_self]; simp
  have h2 := cntB_xor he h1
  have h3 : (s ||| 2 ^ e) ^^^ 2 ^ e = s := by
    rw [or_eq_xor h, Nat.xor_assoc, Nat.xor_self, Nat.xor_zero]
  rw [h3] at h2
  omega
theorem sumN_mono (f : Nat → Nat) {i j : Nat} (h : i ≤ j) : sumN f i ≤ sumN f j := by
  induction j with
  | zero => have : i = 0 := by omega
            subst this; exact Nat.le_refl _
  | succ j ih =>
    by_cases e : i = j + 1
    · subst e; exact Nat.le_refl _
    · simp only [sumN]; have := ih (by omega); omega
theorem ends_pow {xs : List Int} (hl : xs.length ≤ 10) (d : Nat) : ∀ s, 2 ^ xs.length - s ≤ d → ends xs s ≤ 10 ^ (xs.length - cntB s xs.length) := by
  induction d with
  | zero =>
    intro s hd
    rw [ends_top (by omega)]
    exact Nat.one_le_pow _ _ (by decide)
  | succ d ih =>
    intro s hd
    by_cases h : 2 ^ xs.length - 1 ≤ s
    · rw [ends_top h]; exact Nat.one_le_pow _ _ (by decide)
    · rw [ends_low (by omega)]
      by_cases hc : ∃ e, e < xs.length ∧ stepP xs s e = true
      · obtain ⟨e0, he0, hs0⟩ := hc
        have hlt : cntB s xs.length < xs.length := by
          have h1 := cntB_or he0 (stepP_bit hs0)
          have h2 := cntB_le (s ||| 2 ^ e0) xs.length
          omega
        refine Nat.le_trans (sumN_const (c := 10 ^ (xs.length - cntB s xs.length - 1)) ?_) ?_
        · intro e he
          cases hs : stepP xs s e
          · rw [nterm_no hs]; exact Nat.zero_le _
          · rw [nterm_yes hs]
            have h1 := ih (s ||| 2 ^ e) (by have := or_gt (stepP_bit hs); omega)
            rw [cntB_or he (stepP_bit hs)] at h1
            have h2 : xs.length - (cntB s xs.length + 1) = xs.length - cntB s xs.length - 1 := by omega
            rw [h2] at h1
            exact h1
        · have h4 : 10 ^ (xs.length - cntB s xs.length) = 10 ^ (xs.length - cntB s xs.length - 1) * 10 := by rw [← Nat.pow_succ]; congr 1; omega
          rw [h4, Nat.mul_comm]
          exact Nat.mul_le_mul_left _ hl
      · rw [sumN_zero]
        · exact Nat.zero_le _
        · intro e he
          refine nterm_no ?_
          cases hs : stepP xs s e
          · rfl
          · exact absurd ⟨e, he, hs⟩ hc
theorem ends_le {xs : List Int} (hl : xs.length ≤ 10) (s : Nat) : ends xs s ≤ 10000000000 := by
  have h1 := ends_pow hl _ s (Nat.le_refl _)
  have h2 : 10 ^ (xs.length - cntB s xs.length) ≤ 10 ^ 10 := Nat.pow_le_pow_right (by decide) (by omega)
  omega
theorem nterm_le {xs : List Int} (hl : xs.length ≤ 10) (s e : Nat) : nterm xs s e ≤ 10000000000 := by
  unfold nterm; split
  · exact ends_le hl _
  · omega
theorem sumN_nterm_le {xs : List Int} (hl : xs.length ≤ 10) (s : Nat) {k : Nat} (hk : k ≤ xs.length) : sumN (nterm xs s) k ≤ 100000000000 := by
  have h := sumN_const (f := nterm xs s) (k := k) (c := 10000000000) fun e _ => nterm_le hl s e
  have : k * 10000000000 ≤ 10 * 10000000000 := Nat.mul_le_mul_right _ (by omega)
  omega

/-! ### the table while it is filled from above -/
def endG (xs : List Int) (S t : Nat) : Nat := if t < 2 ^ xs.length ∧ S ≤ t then ends xs t else 0
def endP (xs : List Int) (s k t : Nat) : Nat := if t < 2 ^ xs.length ∧ s < t then ends xs t else if t = s then sumN (nterm xs s) k else 0
theorem endP_zero (xs : List Int) (s t : Nat) : endP xs s 0 t = endG xs (s + 1) t := by
  unfold endP endG
  by_cases h : t < 2 ^ xs.length ∧ s < t
  · rw [if_pos h, if_pos (show t < 2 ^ xs.length ∧ s + 1 ≤ t from ⟨h.1, h.2⟩)]
  · rw [if_neg h, if_neg (show ¬(t < 2 ^ xs.length ∧ s + 1 ≤ t) from fun k => h ⟨k.1, k.2⟩)]
    split <;> rfl
theorem endP_full {xs : List Int} {s : Nat} (hs : s < 2 ^ xs.length - 1) (t : Nat) : endP xs s xs.length t = endG xs s t := by
  unfold endP endG
  by_cases h : t < 2 ^ xs.length ∧ s < t
  · rw [if_pos h, if_pos (show t < 2 ^ xs.length ∧ s ≤ t from ⟨h.1, by omega⟩)]
  · rw [if_neg h]
    by_cases e : t = s
    · subst e; rw [if_pos rfl, if_pos (show t < 2 ^ xs.length ∧ t ≤ t from ⟨by omega, Nat.le_refl _⟩), ends_low hs]
    · rw [if_neg e, if_neg (show ¬(t < 2 ^ xs.length ∧ s ≤ t) from fun k => h ⟨k.1, by omega⟩)]
theorem endG_top {xs : List Int} (t : Nat) : endG xs (2 ^ xs.length - 1) t = if t = 2 ^ xs.length - 1 then 1 else 0 := by
  have h1 : 1 ≤ 2 ^ xs.length := Nat.one_le_two_pow
  unfold endG
  by_cases e : t = 2 ^ xs.length - 1
  · rw [if_pos (show t < 2 ^ xs.length ∧ 2 ^ xs.length - 1 ≤ t by omega), if_pos e, ends_top (by omega)]
  · rw [if_neg (show ¬(t < 2 ^ xs.length ∧ 2 ^ xs.length - 1 ≤ t) by omega), if_neg e]
theorem endP_self (xs : List Int) (s k : Nat) : endP xs s k s = sumN (nterm xs s) k := by
  unfold endP; rw [if_neg (by omega), if_pos rfl]
theorem endP_succ (xs : List Int) (s k t : Nat) : endP xs s (k + 1) t = if t = s then endP xs s k s + nterm xs s k else endP xs s k t := by
  by_cases e : t = s
  · subst e; rw [if_pos rfl, endP_self, endP_self]; rfl
  · rw [if_neg e]; unfold endP; rw [if_neg e, if_neg e]
theorem endP_above {xs : List Int} {s k t : Nat} (h1 : t < 2 ^ xs.length) (h2 : s < t) : endP xs s k t = ends xs t := by
  unfold endP; rw [if_pos ⟨h1, h2⟩]
theorem endG_at {xs : List Int} {t : Nat} (h1 : t < 2 ^ xs.length) : endG xs 0 t = ends xs t := by
  unfold endG; rw [if_pos ⟨h1, Nat.zero_le _⟩]

/-! ### the element that a rank picks -/
def pick (f : Nat → Nat) (r : Nat) : Nat → Nat
  | 0 => 0
  | k + 1 => if sumN f k ≤ r then k else pick f r k
theorem pick_eq {f : Nat → Nat} {r e : Nat} (h1 : sumN f e ≤ r) (h2 : r < sumN f (e + 1)) (n : Nat) (he : e < n) : pick f r n = e := by
  induction n with
  | zero => omega
  | succ n ih =>
    unfold pick
    by_cases h : e = n
    · subst h; rw [if_pos h1]
    · rw [if_neg (by have := sumN_mono f (show e + 1 ≤ n by omega); omega)]
      exact ih (by omega)
theorem pick_spec {f : Nat → Nat} {r : Nat} (n : Nat) (h : r < sumN f n) : pick f r n < n ∧ sumN f (pick f r n) ≤ r ∧ r < sumN f (pick f r n + 1) := by
  induction n with
  | zero => simp [sumN] at h
  | succ n ih =>
    unfold pick
    by_cases h1 : sumN f n ≤ r
    · rw [if_pos h1]; exact ⟨by omega, h1, h⟩
    · rw [if_neg h1]
      obtain ⟨a, b, c⟩ := ih (by omega)
      exact ⟨by omega, b, c⟩
/-- the set and what is left of the rank, behind i elements -/
def unS (xs : List Int) (r : Nat) : Nat → Nat × Nat
  | 0 => (0, r)
  | i + 1 =>
    ((unS xs r i).1 ||| 2 ^ pick (nterm xs (unS xs r i).1) (unS xs r i).2 xs.length,
     (unS xs r i).2 - sumN (nterm xs (unS xs r i).1) (pick (nterm xs (unS xs r i).1) (unS xs r i).2 xs.length))
def unE (xs : List Int) (r i : Nat) : Nat := pick (nterm xs (unS xs r i).1) (unS xs r i).2 xs.length
theorem unS_succ (xs : List Int) (r i : Nat) : unS xs r (i + 1) = ((unS xs r i).1 ||| 2 ^ unE xs r i, (unS xs r i).2 - sumN (nterm xs (unS xs r i).1) (unE xs r i)) := rfl
def unrL (xs : List Int) (r : Nat) : List Int := mkL xs.length (unE xs r)
theorem cntB_full {s n : Nat} (h : 2 ^ n - 1 = s) : cntB s n = n := by
  subst h
  unfold cntB
  have : ∀ k, k ≤ n → sumN (fun e => if (2 ^ n - 1).testBit e = true then 1 else 0) k = k := by
    intro k hk
    induction k with
    | zero => rfl
    | succ k ih =>
      simp only [sumN]
      rw [ih (by omega)]
      have : (2 ^ n - 1).testBit k = true := by rw [Nat.testBit_two_pow_sub_one]; simp; omega
      rw [this]; simp
  exact this n (Nat.le_refl _)
/-- what is known of the state behind i elements -/
structure UnOk (xs : List Int) (s q i : Nat) : Prop where
  set : s < 2 ^ xs.length
  cnt : cntB s xs.length = i
  rank : q < ends xs s
theorem UnOk.low {xs : List Int} {s q i : Nat} (h : UnOk xs s q i) (hi : i < xs.length) : s < 2 ^ xs.length - 1 := by
  rcases Nat.lt_or_ge s (2 ^ xs.length - 1) with h1 | h1
  · exact h1
  · have := cntB_full (show 2 ^ xs.length - 1 = s by have := h.set; omega)
    have := h.cnt
    omega
theorem UnOk.step {xs : List Int} {s q i e : Nat} (h : UnOk xs s q i) (hi : i < xs.length) (he : e < xs.length) (h1 : sumN (nterm xs s) e ≤ q) (h2 : q < sumN (nterm xs s) (e + 1)) :
    stepP xs s e = true ∧ UnOk xs (s ||| 2 ^ e) (q - sumN (nterm xs s) e) (i + 1) := by
  simp only [sumN] at h2
  have hp : stepP xs s e = true := by
    cases hs : stepP xs s e
    · rw [nterm_no hs] at h2; omega
    · rfl
  rw [nterm_yes hp] at h2
  exact ⟨hp, Nat.or_lt_two_pow h.set (pow_lt_len he), by rw [cntB_or he (stepP_bit hp), h.cnt], by omega⟩
theorem UnOk.pick {xs : List Int} {s q i : Nat} (h : UnOk xs s q i) (hi : i < xs.length) : pick (nterm xs s) q xs.length < xs.length ∧ sumN (nterm xs s) (pick (nterm xs s) q xs.length) ≤ q ∧ q < sumN (nterm xs s) (pick (nterm xs s) q xs.length + 1) := by
  refine pick_spec _ ?_
  rw [← ends_low (h.low hi)]
  exact h.rank
theorem cntB_zero (n : Nat) : cntB 0 n = 0 := sumN_zero fun e _ => by simp
theorem unS_ok {xs : List Int} {r : Nat} (hr : r < ends xs 0) (i : Nat) (hi : i ≤ xs.length) : UnOk xs (unS xs r i).1 (unS xs r i).2 i := by
  induction i with
  | zero => exact ⟨Nat.two_pow_pos _, cntB_zero _, hr⟩
  | succ i ih =>
    have h := ih (by omega)
    obtain ⟨a, b, c⟩ := h.pick (by omega)
    rw [unS_succ]
    exact (h.step (by omega) a b c).2
theorem unE_lt {xs : List Int} {r : Nat} (hr : r < ends xs 0) {i : Nat} (hi : i < xs.length) : unE xs r i < xs.length := ((unS_ok hr i (by omega)).pick hi).1

/-! ### the rank of a list -/
def rkS (xs ws : List Int) : Nat → Nat × Nat
  | 0 => (0, 0)
  | i + 1 => ((rkS xs ws i).1 + sumN (nterm xs (rkS xs ws i).2) (ws.getD i 0).toNat, (rkS xs ws i).2 ||| 2 ^ (ws.getD i 0).toNat)
def rankN (xs ws : List Int) : Nat := (rkS xs ws ws.length).1
theorem rkS_le {xs ws : List Int} (hl : xs.length ≤ 10) (h : Lw xs.length ws) (i : Nat) (hi : i ≤ ws.length) : (rkS xs ws i).1 ≤ 100000000000 * i ∧ (rkS xs ws i).2 < 2 ^ xs.length := by
  induction i with
  | zero => exact ⟨Nat.zero_le _, Nat.two_pow_pos _⟩
  | succ i ih =>
    obtain ⟨h1, h2⟩ := ih (by omega)
    have h3 := h.at (j := i) (by rw [← h.len]; omega)
    have h4 : (ws.getD i 0).toNat < xs.length := by omega
    have h5 := sumN_nterm_le hl (rkS xs ws i).2 (Nat.le_of_lt h4)
    simp only [rkS]
    exact ⟨by omega, Nat.or_lt_two_pow h2 (pow_lt_len h4)⟩
end Go.Proofs.Ytclhebpkpmholaa
