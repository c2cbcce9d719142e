/- Orders of a poset, counted in two ways. No program is named here. -/
import Derived.Test.YtkalpichninncabTog
namespace Go.Proofs.Ytkalpichninncab
set_option linter.unusedVariables false

def sumN (f : Nat → Nat) : Nat → Nat
  | 0 => 0
  | k + 1 => sumN f k + f k
theorem sumN_congr {f g : Nat → Nat} {k : Nat} (h : ∀ e, e < k → f e = g e) : sumN f k = sumN g k := by
  induction k with
  | zero => rfl
  | succ k ih => simp only [sumN]; rw [ih (fun e he => h e (by omega)), h k (by omega)]
theorem sumN_zero {f : Nat → Nat} {k : Nat} (h : ∀ e, e < k → f e = 0) : sumN f k = 0 := by
  induction k with
  | zero => rfl
  | succ k ih => simp only [sumN]; rw [ih (fun e he => h e (by omega)), h k (by omega)]
theorem sumN_le {f g : Nat → Nat} {k : Nat} (h : ∀ e, e < k → f e ≤ g e) : sumN f k ≤ sumN g k := by
  induction k with
  | zero => exact Nat.le_refl _
  | succ k ih =>
    simp only [sumN]
    have h1 := ih (fun e he => h e (by omega))
    have h2 := h k (by omega)
    omega
theorem sumN_const {f : Nat → Nat} {k c : Nat} (h : ∀ e, e < k → f e ≤ c) : sumN f k ≤ k * c := by
  induction k with
  | zero => simp [sumN]
  | succ k ih =>
    simp only [sumN]
    have h1 := ih (fun e he => h e (by omega))
    have h2 := h k (by omega)
    have h3 : (k + 1) * c = k * c + c := Nat.succ_mul k c
    omega
theorem sumN_upd {f g : Nat → Nat} {k i : Nat} (hi : i < k) (h : ∀ e, e < k → e ≠ i → f e = g e) : sumN f k + g i = sumN g k + f i := by
  induction k with
  | zero => omega
  | succ k ih =>
    simp only [sumN]
    by_cases e : i = k
    · subst e
      have := sumN_congr (f := f) (g := g) (k := i) (fun e he => h e (by omega) (by omega))
      omega
    · have h1 := ih (by omega) (fun e he hn => h e (by omega) hn)
      have h2 := h k (by omega) (by omega)
      omega

theorem xor_bit (t e i : Nat) : (t ^^^ 2 ^ e).testBit i = (if i = e then !t.testBit e else t.testBit i) := by
  rw [Nat.testBit_xor, Nat.testBit_two_pow]
  by_cases h : i = e
  · subst h; simp
  · have : ¬ e = i := fun h2 => h h2.symm
    simp [h, this]
theorem xor_lt_self {t e : Nat} (h : t.testBit e = true) : t ^^^ 2 ^ e < t := by
  have h1 : t ^^^ 2 ^ e ≤ t := by
    apply Nat.le_of_testBit
    intro i hi
    rw [xor_bit] at hi
    split at hi
    · rename_i hie; subst hie; exact h
    · exact hi
  rcases Nat.lt_or_ge (t ^^^ 2 ^ e) t with h2 | h2
  · exact h2
  · have h3 : t ^^^ 2 ^ e = t := by omega
    have h4 := xor_bit t e e
    rw [h3, if_pos rfl, h] at h4
    cases h4
/-- may e stand last in an order of t? -/
def predP (xs : List Int) (t e : Nat) : Bool := t.testBit e && (sub (row xs e) (t ^^^ 2 ^ e) == 0)
theorem predP_bit {xs : List Int} {t e : Nat} (h : predP xs t e = true) : t.testBit e = true := by
  simp only [predP, Bool.and_eq_true] at h; exact h.1
/-- how many orders of t there are -/
def ways (xs : List Int) (t : Nat) : Nat :=
  if t = 0 then 1 else sumN (fun e => if h : predP xs t e = true then ways xs (t ^^^ 2 ^ e) else 0) xs.length
termination_by t
decreasing_by exact xor_lt_self (predP_bit h)
def wterm (xs : List Int) (t e : Nat) : Nat := if predP xs t e = true then ways xs (t ^^^ 2 ^ e) else 0
theorem ways_zero (xs : List Int) : ways xs 0 = 1 := by rw [ways]; simp
theorem ways_pos {xs : List Int} {t : Nat} (h : t ≠ 0) : ways xs t = sumN (wterm xs t) xs.length := by
  rw [ways, if_neg h]
  rfl
theorem predP_zero (xs : List Int) (e : Nat) : predP xs 0 e = false := by simp [predP]

/-- bits of t below n, counted -/
def cntB (t : Nat) (n : Nat) : Nat := sumN (fun e => if t.testBit e = true then 1 else 0) n
theorem cntB_xor {t e n : Nat} (he : e < n) (h : t.testBit e = true) : cntB (t ^^^ 2 ^ e) n + 1 = cntB t n := by
  have := sumN_upd (f := fun i => if (t ^^^ 2 ^ e).testBit i = true then 1 else 0) (g := fun i => if t.testBit i = true then 1 else 0) he (fun i _ hn => by simp only [xor_bit, if_neg hn])
  simp only [xor_bit, h, if_true, Bool.not_true] at this
  unfold cntB
  simp only [xor_bit, h] at this ⊢
  simpa using this
theorem ways_le {xs : List Int} (hl : xs.length ≤ 10) (t : Nat) : ways xs t ≤ 10 ^ cntB t xs.length := by
  induction t using Nat.strongRecOn with
  | _ t ih =>
    by_cases h0 : t = 0
    · subst h0; rw [ways_zero]; exact Nat.one_le_pow _ _ (by decide)
    · rw [ways_pos h0]
      by_cases hc : cntB t xs.length = 0
      · rw [sumN_zero]
        · exact Nat.zero_le _
        · intro e he
          unfold wterm
          split
          · rename_i hp
            have := cntB_xor he (predP_bit hp)
            omega
          · rfl
      · refine Nat.le_trans (sumN_const (c := 10 ^ (cntB t xs.length - 1)) ?_) ?_
        · intro e he
          unfold wterm
          split
          · rename_i hp
            have h1 := ih _ (xor_lt_self (predP_bit hp))
            have h2 := cntB_xor he (predP_bit hp)
            have h3 : cntB t xs.length - 1 = cntB (t ^^^ 2 ^ e) xs.length := by omega
            rw [h3]; exact h1
          · exact Nat.zero_le _
        · have h4 : 10 ^ cntB t xs.length = 10 ^ (cntB t xs.length - 1) * 10 := by rw [← Nat.pow_succ]; congr 1; omega
          rw [h4, Nat.mul_comm]
          exact Nat.mul_le_mul_left _ hl
theorem cntB_le (t n : Nat) : cntB t n ≤ n := by
  have := sumN_const (f := fun e => if t.testBit e = true then 1 else 0) (k := n) (c := 1) (fun e _ => by split <;> omega)
  simpa [cntB] using this
theorem ways_lt {xs : List Int} (hl : xs.length ≤ 10) (t : Nat) : ways xs t ≤ 10000000000 := by
  refine Nat.le_trans (ways_le hl t) ?_
  have h1 := cntB_le t xs.length
  have : 10 ^ cntB t xs.length ≤ 10 ^ 10 := Nat.pow_le_pow_right (by decide) (by omega)
  simpa using this
/-- a set that is no ideal has no order -/
theorem ways_no {xs : List Int} (hg : good xs = true) (t : Nat) (h : holdsIdeal xs t = false) : ways xs t = 0 := by
  induction t using Nat.strongRecOn with
  | _ t ih =>
    have hn : ¬ (∀ e, e < xs.length → t.testBit e = true → ∀ j, (row xs e).testBit j = true → t.testBit j = true) := by
      rw [← holdsIdeal_row, h]; simp
    have h0 : t ≠ 0 := by
      rintro rfl
      exact hn (fun e _ hb => by simp at hb)
    rw [ways_pos h0]
    refine sumN_zero fun e he => ?_
    unfold wterm
    split
    · rename_i hp
      refine ih _ (xor_lt_self (predP_bit hp)) ?_
      cases hI : holdsIdeal xs (t ^^^ 2 ^ e)
      · rfl
      · exfalso
        apply hn
        rw [holdsIdeal_row] at hI
        simp only [predP, Bool.and_eq_true, beq_iff_eq] at hp
        obtain ⟨hp1, hp2⟩ := hp
        rw [sub_eq_zero] at hp2
        have hsub : ∀ j, (t ^^^ 2 ^ e).testBit j = true → t.testBit j = true := by
          intro j hj
          rw [xor_bit] at hj
          split at hj
          · rename_i hje; subst hje; exact hp1
          · exact hj
        intro e' he' hb j hj
        by_cases hee : e' = e
        · subst hee; exact hsub j (hp2 j hj)
        · exact hsub j (hI e' he' (by rw [xor_bit, if_neg hee]; exact hb) j hj)
    · rfl
/-- for an ideal: its tops alone may stand last -/
theorem ways_top {xs : List Int} (hg : good xs = true) {t e : Nat} (ht : t < 2 ^ xs.length) (h : holdsIdeal xs t = true) (he : e < xs.length) :
    wterm xs t e = if (top xs t).testBit e = true then ways xs (t ^^^ 2 ^ e) else 0 := by
  have hI := holdsIdeal_row.1 h
  unfold wterm top
  rw [sub_testBit]
  cases hb : t.testBit e
  · simp [predP, hb]
  · have hp : predP xs t e = true := by
      simp only [predP, hb, Bool.true_and, beq_iff_eq, sub_eq_zero]
      intro j hj
      have hje : j < e := testBit_lt (row_lt hg he).2 hj
      rw [xor_bit, if_neg (by omega)]
      exact hI e he hb j hj
    rw [if_pos hp]
    cases hu : (under xs t).testBit e
    · simp
    · simp only [Bool.not_true, Bool.and_false, Bool.false_eq_true, if_false]
      refine ways_no hg _ ?_
      obtain ⟨i, hi, hbi, hri⟩ := (underN_testBit xs t xs.length e).1 hu
      cases hc : holdsIdeal xs (t ^^^ 2 ^ e)
      · rfl
      · exfalso
        have hei : e < i := testBit_lt (row_lt hg hi).2 hri
        have := holdsIdeal_row.1 hc i hi (by rw [xor_bit, if_neg (by omega)]; exact hbi) e hri
        rw [xor_bit, if_pos rfl, hb] at this
        cases this
/-- an ideal without one of its tops is one -/
theorem top_down {xs : List Int} (hg : good xs = true) {t e : Nat} (h : holdsIdeal xs t = true) (he : e < xs.length) (hb : (top xs t).testBit e = true) : holdsIdeal xs (t ^^^ 2 ^ e) = true ∧ t.testBit e = true := by
  have hI := holdsIdeal_row.1 h
  unfold top at hb
  rw [sub_testBit, Bool.and_eq_true, Bool.not_eq_true'] at hb
  refine ⟨holdsIdeal_row.2 fun i hi hbi j hj => ?_, hb.1⟩
  rw [xor_bit] at hbi ⊢
  split at hbi
  · rw [hb.1] at hbi; cases hbi
  · split
    · rename_i hne hje
      subst hje
      exfalso
      have := (underN_testBit xs t xs.length j).2 ⟨i, hi, hbi, hj⟩
      have h2 := hb.2
      unfold under at h2
      rw [this] at h2; cases h2
    · exact hI i hi hbi j hj

/-! ### the model's table, forwards -/
/-- what has come to t when all below S and the first k steps of S are done -/
def fwd (xs : List Int) (S k t : Nat) : Nat :=
  (if t = 0 then 1 else 0) + sumN (fun e => if predP xs t e = true ∧ (t ^^^ 2 ^ e < S ∨ (t ^^^ 2 ^ e = S ∧ e < k)) then ways xs (t ^^^ 2 ^ e) else 0) xs.length
theorem fwd_self (xs : List Int) (S k : Nat) : fwd xs S k S = ways xs S := by
  unfold fwd
  by_cases h : S = 0
  · subst h
    rw [ways_zero, sumN_zero]
    · rfl
    · intro e _; rw [if_neg]; rintro ⟨h1, _⟩; rw [predP_zero] at h1; cases h1
  · rw [if_neg h, ways_pos h, Nat.zero_add]
    refine sumN_congr fun e _ => ?_
    unfold wterm
    by_cases hp : predP xs S e = true
    · rw [if_pos hp, if_pos ⟨hp, .inl (xor_lt_self (predP_bit hp))⟩]
    · rw [if_neg hp, if_neg (fun h => hp h.1)]
theorem fwd_below (xs : List Int) (S k t : Nat) (h : t ≤ S) : fwd xs S k t = ways xs t := by
  rw [← fwd_self xs t k]
  unfold fwd
  congr 1
  refine sumN_congr fun e _ => ?_
  by_cases hp : predP xs t e = true
  · have := xor_lt_self (predP_bit hp)
    rw [if_pos ⟨hp, .inl (by omega)⟩, if_pos ⟨hp, .inl this⟩]
  · rw [if_neg (fun h => hp h.1), if_neg (fun h => hp h.1)]
theorem fwd_next (xs : List Int) (S t : Nat) : fwd xs S xs.length t = fwd xs (S + 1) 0 t := by
  unfold fwd
  congr 1
  refine sumN_congr fun e he => ?_
  congr 1
  apply propext
  constructor
  · rintro ⟨h1, h2⟩; exact ⟨h1, by omega⟩
  · rintro ⟨h1, h2⟩; exact ⟨h1, by omega⟩
theorem fwd_skip {xs : List Int} {S : Nat} (h : ways xs S = 0) (t : Nat) : fwd xs S 0 t = fwd xs (S + 1) 0 t := by
  unfold fwd
  congr 1
  refine sumN_congr fun e he => ?_
  by_cases hp : predP xs t e = true
  · by_cases h2 : t ^^^ 2 ^ e = S
    · rw [h2, h]; simp
    · have : (predP xs t e = true ∧ (t ^^^ 2 ^ e < S ∨ (t ^^^ 2 ^ e = S ∧ e < 0))) ↔ (predP xs t e = true ∧ (t ^^^ 2 ^ e < S + 1 ∨ (t ^^^ 2 ^ e = S + 1 ∧ e < 0))) := by
        constructor
        · rintro ⟨h1, h2⟩; exact ⟨h1, by omega⟩
        · rintro ⟨h1, h2⟩; exact ⟨h1, by omega⟩
      simp only [this]
  · rw [if_neg (fun h => hp h.1), if_neg (fun h => hp h.1)]
theorem fwd_start (xs : List Int) (t : Nat) : fwd xs 0 0 t = if t = 0 then 1 else 0 := by
  unfold fwd
  rw [sumN_zero]
  · rfl
  · intro e _; rw [if_neg]; rintro ⟨_, h⟩; omega
/-- can k come behind S? -/
def stepP (xs : List Int) (S k : Nat) : Bool := !S.testBit k && (sub (row xs k) S == 0)
theorem or_eq_xor {S k : Nat} (h : S.testBit k = false) : S ||| 2 ^ k = S ^^^ 2 ^ k := by
  apply Nat.eq_of_testBit_eq
  intro i
  rw [Nat.testBit_or, xor_bit, Nat.testBit_two_pow]
  by_cases hi : i = k
  · subst hi; simp [h]
  · have : ¬ k = i := fun h2 => hi h2.symm
    simp [hi, this]
theorem xor_xor (S k : Nat) : S ^^^ 2 ^ k ^^^ 2 ^ k = S := by rw [Nat.xor_assoc, Nat.xor_self, Nat.xor_zero]
theorem fwd_step {xs : List Int} {S k : Nat} (hk : k < xs.length) (t : Nat) :
    fwd xs S (k + 1) t = if stepP xs S k = true ∧ t = S ||| 2 ^ k then fwd xs S k t + ways xs S else fwd xs S k t := by
  have main := sumN_upd (f := fun e => if predP xs t e = true ∧ (t ^^^ 2 ^ e < S ∨ (t ^^^ 2 ^ e = S ∧ e < k + 1)) then ways xs (t ^^^ 2 ^ e) else 0)
    (g := fun e => if predP xs t e = true ∧ (t ^^^ 2 ^ e < S ∨ (t ^^^ 2 ^ e = S ∧ e < k)) then ways xs (t ^^^ 2 ^ e) else 0) hk (fun e he hn => by
      have : (predP xs t e = true ∧ (t ^^^ 2 ^ e < S ∨ (t ^^^ 2 ^ e = S ∧ e < k + 1))) ↔ (predP xs t e = true ∧ (t ^^^ 2 ^ e < S ∨ (t ^^^ 2 ^ e = S ∧ e < k))) := by
        constructor
        · rintro ⟨h1, h2⟩; exact ⟨h1, by omega⟩
        · rintro ⟨h1, h2⟩; exact ⟨h1, by omega⟩
      simp only [this])
  by_cases hp : predP xs t k = true ∧ t ^^^ 2 ^ k = S
  · obtain ⟨hp, hS⟩ := hp
    have hb := predP_bit hp
    have hSk : S.testBit k = false := by rw [← hS, xor_bit, if_pos rfl, hb]; rfl
    have ht : t = S ||| 2 ^ k := by rw [or_eq_xor hSk, ← hS, xor_xor]
    have hst : stepP xs S k = true := by
      have h2 := hp
      simp only [predP, hb, Bool.true_and] at h2
      rw [hS] at h2
      simp only [stepP, hSk, Bool.not_false, Bool.true_and]
      exact h2
    rw [if_pos ⟨hst, ht⟩]
    simp only [hp, hS, true_and, Nat.lt_irrefl, false_or] at main
    simp only [Nat.lt_succ_self, if_true, if_false] at main
    unfold fwd
    omega
  · have hn : ¬ (stepP xs S k = true ∧ t = S ||| 2 ^ k) := by
      rintro ⟨h1, h2⟩
      simp only [stepP, Bool.and_eq_true, Bool.not_eq_true', beq_iff_eq] at h1
      have h3 := or_eq_xor h1.1
      have h4 : t ^^^ 2 ^ k = S := by rw [h2, h3, xor_xor]
      refine hp ⟨?_, h4⟩
      unfold predP
      rw [h4, h1.2, h2, Nat.testBit_or, Nat.testBit_two_pow_self]
      simp
    rw [if_neg hn]
    have e1 : (predP xs t k = true ∧ (t ^^^ 2 ^ k < S ∨ (t ^^^ 2 ^ k = S ∧ k < k + 1))) ↔ (predP xs t k = true ∧ (t ^^^ 2 ^ k < S ∨ (t ^^^ 2 ^ k = S ∧ k < k))) := by
      constructor
      · rintro ⟨h1, h2⟩
        refine ⟨h1, ?_⟩
        rcases h2 with h2 | ⟨h2, _⟩
        · exact .inl h2
        · exact absurd ⟨h1, h2⟩ hp
      · rintro ⟨h1, h2⟩; exact ⟨h1, by omega⟩
    simp only [e1] at main
    unfold fwd
    omega
theorem fwd_le (xs : List Int) (hl : xs.length ≤ 10) (S k t : Nat) : fwd xs S k t ≤ 100000000001 := by
  unfold fwd
  have := sumN_const (f := fun e => if predP xs t e = true ∧ (t ^^^ 2 ^ e < S ∨ (t ^^^ 2 ^ e = S ∧ e < k)) then ways xs (t ^^^ 2 ^ e) else 0) (k := xs.length) (c := 10000000000) (fun e _ => by
    split
    · exact ways_lt hl _
    · omega)
  have h2 : xs.length * 10000000000 ≤ 10 * 10000000000 := Nat.mul_le_mul_right _ hl
  split <;> omega

/-! ### the program's table, ideal by ideal -/
/-- what has come to s by its first k elements -/
def bwd (xs : List Int) (s k : Nat) : Nat := sumN (fun e => if (top xs s).testBit e = true then ways xs (s ^^^ 2 ^ e) else 0) k
theorem bwd_full {xs : List Int} (hg : good xs = true) {s : Nat} (hs : s < 2 ^ xs.length) (h0 : s ≠ 0) (h : holdsIdeal xs s = true) : bwd xs s xs.length = ways xs s := by
  rw [ways_pos h0]
  exact sumN_congr fun e he => (ways_top hg hs h he).symm
theorem bwd_le {xs : List Int} (hl : xs.length ≤ 10) (s : Nat) {k : Nat} (hk : k ≤ xs.length) : bwd xs s k ≤ 100000000000 := by
  have := sumN_const (f := fun e => if (top xs s).testBit e = true then ways xs (s ^^^ 2 ^ e) else 0) (k := k) (c := 10000000000) (fun e _ => by
    split
    · exact ways_lt hl _
    · omega)
  have h2 : k * 10000000000 ≤ 10 * 10000000000 := Nat.mul_le_mul_right _ (by omega)
  unfold bwd
  omega
theorem top_zero (xs : List Int) : top xs 0 = 0 := by
  apply Nat.eq_of_testBit_eq
  intro i
  rw [top, sub_testBit]; simp
def ordersN (xs : List Int) : Nat := ways xs (2 ^ xs.length - 1)
end Go.Proofs.Ytkalpichninncab
