/- Chains of sets that grow by steps of a kind: how many there are; chains that may stand still against chains that may not. No program is named here. -/
import Derived.Test.YtgepbekdgocnpabSets
namespace Go.Proofs.Ytgepbekdgocnpab
set_option linter.unusedVariables false

/-- a sum over all numbers below n -/
def sumR (f : Nat → Nat) : Nat → Nat
  | 0 => 0
  | k + 1 => sumR f k + f k
theorem sumR_congr {f g : Nat → Nat} {n : Nat} (h : ∀ i, i < n → f i = g i) : sumR f n = sumR g n := by
  induction n with
  | zero => rfl
  | succ n ih => rw [sumR, sumR, ih (fun i hi => h i (by omega)), h n (by omega)]
theorem sumR_le {f g : Nat → Nat} {n : Nat} (h : ∀ i, i < n → f i ≤ g i) : sumR f n ≤ sumR g n := by
  induction n with
  | zero => exact Nat.le_refl _
  | succ n ih => have := ih (fun i hi => h i (by omega)); have := h n (by omega); rw [sumR, sumR]; omega
theorem sumR_add (f g : Nat → Nat) (n : Nat) : sumR (fun i => f i + g i) n = sumR f n + sumR g n := by
  induction n with
  | zero => rfl
  | succ n ih => rw [sumR, sumR, sumR, ih]; omega
theorem sumR_mul (f : Nat → Nat) (c n : Nat) : sumR (fun i => c * f i) n = c * sumR f n := by
  induction n with
  | zero => rfl
  | succ n ih => rw [sumR, sumR, ih, Nat.mul_add]
theorem sumR_zero (n : Nat) : sumR (fun _ => 0) n = 0 := by
  induction n with
  | zero => rfl
  | succ n ih => rw [sumR, ih]
theorem sumR_comm (f : Nat → Nat → Nat) (n m : Nat) : sumR (fun i => sumR (fun j => f i j) m) n = sumR (fun j => sumR (fun i => f i j) n) m := by
  induction n with
  | zero => rw [sumR]; exact (sumR_zero m).symm
  | succ n ih =>
    have e : sumR (fun j => sumR (fun i => f i j) (n + 1)) m = sumR (fun j => sumR (fun i => f i j) n + f n j) m := sumR_congr fun _ _ => rfl
    rw [sumR, ih, e, sumR_add]
theorem sumR_one (n t : Nat) (x : Nat) (h : t < n) : sumR (fun i => if i = t then x else 0) n = x := by
  induction n with
  | zero => omega
  | succ n ih =>
    rw [sumR]
    by_cases e : t = n
    · subst e
      rw [if_pos rfl, sumR_congr (g := fun _ => 0) (fun i hi => if_neg (by omega)), sumR_zero, Nat.zero_add]
    · rw [ih (by omega), if_neg (fun h => e h.symm)]; rfl
theorem sumR_front (f : Nat → Nat) (n : Nat) : sumR f (n + 1) = f 0 + sumR (fun i => f (i + 1)) n := by
  induction n with
  | zero => simp [sumR]
  | succ n ih => rw [sumR, ih, sumR]; omega
theorem sumR_term {f : Nat → Nat} {n i : Nat} (h : i < n) : f i ≤ sumR f n := by
  induction n with
  | zero => omega
  | succ n ih =>
    rw [sumR]
    by_cases e : i = n
    · subst e; omega
    · have := ih (by omega); omega

/-- the chains from the empty set in k steps -/
def chN (ok : Nat → Nat → Bool) (N : Nat) : Nat → Nat → Nat
  | 0, t => if t = 0 then 1 else 0
  | k + 1, t => sumR (fun s => if ok s t then chN ok N k s else 0) N
/-- the same step, but on to another set -/
def onOk (ok : Nat → Nat → Bool) (s t : Nat) : Bool := decide (s ≠ t) && ok s t
/-- binomial numbers -/
def binN : Nat → Nat → Nat
  | _, 0 => 1
  | 0, _ + 1 => 0
  | n + 1, k + 1 => binN n k + binN n (k + 1)
theorem binN_zero (n : Nat) : binN n 0 = 1 := by cases n <;> rfl
theorem binN_big {n k : Nat} (h : n < k) : binN n k = 0 := by
  induction n generalizing k with
  | zero => obtain ⟨j, rfl⟩ : ∃ j, k = j + 1 := ⟨k - 1, by omega⟩; rfl
  | succ n ih =>
    obtain ⟨j, rfl⟩ : ∃ j, k = j + 1 := ⟨k - 1, by omega⟩
    show binN n j + binN n (j + 1) = 0
    rw [ih (by omega), ih (by omega)]
theorem binN_self (n : Nat) : binN n n = 1 := by
  induction n with
  | zero => rfl
  | succ n ih => show binN n n + binN n (n + 1) = 1; rw [ih, binN_big (Nat.lt_succ_self n)]
/-- a chain that may stand still stands at some of its steps -/
theorem chN_bin {ok : Nat → Nat → Bool} {N : Nat} (hid : ∀ t, t < N → (∃ s, s < N ∧ ok s t = true) → ok t t = true) (h00 : N = 0 ∨ ok 0 0 = true) (k t : Nat) (ht : t < N) :
    (t = 0 ∨ ok t t = true) → chN ok N k t = sumR (fun j => binN k j * chN (onOk ok) N j t) (k + 1) := by
  induction k generalizing t with
  | zero => intro _; simp [sumR, binN, chN]
  | succ k ih =>
    intro h0
    have htt : ok t t = true := by
      rcases h0 with h0 | h0
      · subst h0; rcases h00 with h | h; omega; exact h
      · exact h0
    have e1 : chN ok N (k + 1) t = chN ok N k t + sumR (fun s => if onOk ok s t then chN ok N k s else 0) N := by
      show sumR (fun s => if ok s t then chN ok N k s else 0) N = _
      rw [← sumR_one N t (chN ok N k t) ht, ← sumR_add]
      refine sumR_congr fun s hs => ?_
      unfold onOk
      by_cases e : s = t
      · subst e; simp [htt]
      · simp [e]
    have e2 : sumR (fun s => if onOk ok s t then chN ok N k s else 0) N = sumR (fun j => binN k j * chN (onOk ok) N (j + 1) t) (k + 1) := by
      have a : sumR (fun s => if onOk ok s t then chN ok N k s else 0) N = sumR (fun s => sumR (fun j => binN k j * (if onOk ok s t then chN (onOk ok) N j s else 0)) (k + 1)) N := by
        refine sumR_congr fun s hs => ?_
        by_cases e : onOk ok s t = true
        · rw [if_pos e]
          have hok : ok s t = true := by unfold onOk at e; simp at e; exact e.2
          by_cases hs0 : s = 0
          · rw [ih s hs (.inl hs0)]
            exact sumR_congr fun j _ => by rw [if_pos e]
          · by_cases hss : ok s s = true
            · rw [ih s hs (.inr hss)]
              exact sumR_congr fun j _ => by rw [if_pos e]
            · have hno : ∀ j, chN ok N j s = 0 ∧ chN (onOk ok) N j s = 0 := by
                intro j
                cases j with
                | zero => simp [chN, hs0]
                | succ j =>
                  have hf : ∀ u, u < N → ok u s = false := fun u hu => by
                    cases hc : ok u s
                    · rfl
                    · exact absurd (hid s hs ⟨u, hu, hc⟩) hss
                  constructor
                  · show sumR _ N = 0
                    rw [sumR_congr (g := fun _ => 0) (fun u hu => by rw [hf u hu]; rfl), sumR_zero]
                  · show sumR _ N = 0
                    rw [sumR_congr (g := fun _ => 0) (fun u hu => by unfold onOk; rw [hf u hu]; simp), sumR_zero]
              rw [(hno k).1, sumR_congr (g := fun _ => 0) (fun j _ => by rw [(hno j).2]; simp), sumR_zero]
        · rw [if_neg e, sumR_congr (g := fun _ => 0) (fun j _ => by rw [if_neg e, Nat.mul_zero]), sumR_zero]
      rw [a, sumR_comm]
      refine sumR_congr fun j _ => ?_
      rw [sumR_mul]
      rfl
    rw [e1, e2, ih t ht h0, sumR_front (fun j => binN (k + 1) j * chN (onOk ok) N j t)]
    have e3 : sumR (fun i => binN (k + 1) (i + 1) * chN (onOk ok) N (i + 1) t) (k + 1) = sumR (fun j => binN k j * chN (onOk ok) N (j + 1) t) (k + 1) + sumR (fun j => binN k (j + 1) * chN (onOk ok) N (j + 1) t) (k + 1) := by
      rw [← sumR_add]
      refine sumR_congr fun j _ => ?_
      show (binN k j + binN k (j + 1)) * _ = _
      rw [Nat.add_mul]
    have e4 : sumR (fun j => binN k j * chN (onOk ok) N j t) (k + 1) = binN k 0 * chN (onOk ok) N 0 t + sumR (fun j => binN k (j + 1) * chN (onOk ok) N (j + 1) t) (k + 1) := by
      rw [sumR_front]
      congr 1
      rw [sumR, binN_big (Nat.lt_succ_self k)]
      simp
    rw [e3, e4, binN_zero, binN_zero]
    omega

/-! ### bounds -/
def bitsF : Nat → Nat → Nat
  | 0, _ => 0
  | c + 1, s => s % 2 + bitsF c (s / 2)
theorem bitsF_le (c s : Nat) : bitsF c s ≤ c := by
  induction c generalizing s with
  | zero => exact Nat.le_refl _
  | succ c ih => have := ih (s / 2); unfold bitsF; omega
theorem sumR_pairs (f : Nat → Nat) (n : Nat) : sumR f (2 * n) = sumR (fun q => f (2 * q) + f (2 * q + 1)) n := by
  induction n with
  | zero => rfl
  | succ n ih =>
    rw [show 2 * (n + 1) = 2 * n + 1 + 1 from by omega, sumR, sumR, ih, sumR]
    omega
theorem part_half {s t : Nat} : (sub s t = 0) ↔ (s % 2 ≤ t % 2 ∧ sub (s / 2) (t / 2) = 0) := by
  rw [sub_eq_zero, sub_eq_zero]
  constructor
  · intro h
    constructor
    · have := h 0
      rw [Nat.testBit_zero, Nat.testBit_zero] at this
      simp at this
      omega
    · intro i hi
      have := h (i + 1)
      rw [Nat.testBit_succ, Nat.testBit_succ] at this
      exact this hi
  · rintro ⟨h1, h2⟩ i hi
    cases i with
    | zero => rw [Nat.testBit_zero] at hi ⊢; simp at hi ⊢; omega
    | succ i => rw [Nat.testBit_succ] at hi ⊢; exact h2 i hi
theorem parts_pow (k c t : Nat) : sumR (fun s => if sub s t = 0 then k ^ bitsF c s else 0) (2 ^ c) ≤ (k + 1) ^ bitsF c t := by
  induction c generalizing t with
  | zero =>
    simp only [Nat.pow_zero, sumR, bitsF, Nat.zero_add]
    split <;> omega
  | succ c ih =>
    rw [Nat.pow_succ, Nat.mul_comm, sumR_pairs]
    have key : ∀ q, q < 2 ^ c → (if sub (2 * q) t = 0 then k ^ bitsF (c + 1) (2 * q) else 0) + (if sub (2 * q + 1) t = 0 then k ^ bitsF (c + 1) (2 * q + 1) else 0) = (if t % 2 = 1 then k + 1 else 1) * (if sub q (t / 2) = 0 then k ^ bitsF c q else 0) := by
      intro q _
      have d1 : 2 * q / 2 = q := by omega
      have d2 : (2 * q + 1) / 2 = q := by omega
      have m1 : 2 * q % 2 = 0 := by omega
      have m2 : (2 * q + 1) % 2 = 1 := by omega
      have b1 : bitsF (c + 1) (2 * q) = bitsF c q := by simp only [bitsF, d1, m1, Nat.zero_add]
      have b2 : bitsF (c + 1) (2 * q + 1) = 1 + bitsF c q := by simp only [bitsF, d2, m2]
      rw [b1, b2]
      by_cases hq : sub q (t / 2) = 0
      · have p1 : sub (2 * q) t = 0 := part_half.2 ⟨by omega, by rw [d1]; exact hq⟩
        rw [if_pos p1, if_pos hq]
        by_cases ht : t % 2 = 1
        · have p2 : sub (2 * q + 1) t = 0 := part_half.2 ⟨by omega, by rw [d2]; exact hq⟩
          rw [if_pos p2, if_pos ht, Nat.pow_add, Nat.pow_one, Nat.add_mul, Nat.one_mul]
          omega
        · have p2 : ¬ sub (2 * q + 1) t = 0 := fun h => by have := (part_half.1 h).1; omega
          rw [if_neg p2, if_neg ht]; omega
      · have p1 : ¬ sub (2 * q) t = 0 := fun h => hq (by have := (part_half.1 h).2; rwa [d1] at this)
        have p2 : ¬ sub (2 * q + 1) t = 0 := fun h => hq (by have := (part_half.1 h).2; rwa [d2] at this)
        rw [if_neg p1, if_neg p2, if_neg hq]; simp
    rw [sumR_congr key, sumR_mul]
    have h := ih (t / 2)
    show _ ≤ (k + 1) ^ (t % 2 + bitsF c (t / 2))
    rw [Nat.pow_add]
    refine Nat.mul_le_mul ?_ h
    by_cases ht : t % 2 = 1
    · rw [if_pos ht, ht, Nat.pow_one]; exact Nat.le_refl _
    · have : t % 2 = 0 := by omega
      rw [if_neg ht, this]; exact Nat.le_refl _
/-- k steps, each on to a set that has the one before as a part -/
theorem chN_le {ok : Nat → Nat → Bool} {c : Nat} (hp : ∀ s t, ok s t = true → sub s t = 0) (k t : Nat) (ht : t < 2 ^ c) : chN ok (2 ^ c) k t ≤ k ^ bitsF c t := by
  induction k generalizing t with
  | zero =>
    unfold chN
    split
    · rename_i h; subst h
      have : ∀ c, bitsF c 0 = 0 := by
        intro c
        induction c with
        | zero => rfl
        | succ c ih => simp [bitsF, ih]
      rw [this]; exact Nat.le_refl _
    · exact Nat.zero_le _
  | succ k ih =>
    refine Nat.le_trans (sumR_le (g := fun s => if sub s t = 0 then k ^ bitsF c s else 0) fun s hs => ?_) (parts_pow k c t)
    split
    · rename_i h
      rw [if_pos (hp s t h)]
      exact ih s hs
    · exact Nat.zero_le _
theorem chN_small {ok : Nat → Nat → Bool} {n : Nat} (hn : n ≤ 10) (hp : ∀ s t, ok s t = true → sub s t = 0) {k t : Nat} (hk : k ≤ 13) (ht : t < 2 ^ n) : chN ok (2 ^ n) k t ≤ 137858491849 := by
  refine Nat.le_trans (chN_le hp k t ht) ?_
  rcases Nat.eq_zero_or_pos k with h | h
  · subst h
    rcases Nat.eq_zero_or_pos (bitsF n t) with e | e
    · rw [e]; decide
    · rw [Nat.zero_pow e]; exact Nat.zero_le _
  · refine Nat.le_trans (Nat.pow_le_pow_left hk _) (Nat.le_trans (Nat.pow_le_pow_right (by decide) (Nat.le_trans (bitsF_le n t) hn)) ?_)
    decide
end Go.Proofs.Ytgepbekdgocnpab
