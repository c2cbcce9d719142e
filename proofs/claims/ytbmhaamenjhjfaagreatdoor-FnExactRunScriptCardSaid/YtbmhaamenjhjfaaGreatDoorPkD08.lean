/- Lin Ord End LinX Ideals IaM DuaM -/
import Derived.Test.YtbmhaamenjhjfaaGreatDoorPkD07
namespace Go.Proofs.YtbmhaamenjhjfaaGreatDoor
set_option linter.unusedVariables false
def swapL (ws : List Int) (i : Nat) : List Int := (ws.set i (ws.getD (i + 1) 0)).set (i + 1) (ws.getD i 0)
def togL (xs ws : List Int) (i : Nat) : List Int := if (row xs (ws.getD (i + 1) 0).toNat).testBit (ws.getD i 0).toNat = true then ws else swapL ws i
theorem getD_set_ (ws : List Int) (i j : Nat) (x : Int) : (ws.set i x).getD j 0 = if i = j ∧ i < ws.length then x else ws.getD j 0 := by
  rw [List.getD_eq_getElem?_getD, List.getElem?_set, List.getD_eq_getElem?_getD]
  by_cases h : i = j
  · subst h
    by_cases h2 : i < ws.length
    · simp [h2]
    · simp [h2]
  · simp [h]
structure Lw (n : Nat) (ws : List Int) : Prop where
  len : ws.length = n
  ins : inW n ws = true
theorem Lw.at {n : Nat} {ws : List Int} (h : Lw n ws) {j : Nat} (hj : j < n) : 0 ≤ ws.getD j 0 ∧ ws.getD j 0 < n := inW_at h.ins (by rw [h.len]; exact hj)
theorem swapL_length (ws : List Int) (i : Nat) : (swapL ws i).length = ws.length := by simp [swapL]
theorem swapL_getD (ws : List Int) (i j : Nat) (hi : i + 1 < ws.length) : (swapL ws i).getD j 0 = if j = i then ws.getD (i + 1) 0 else if j = i + 1 then ws.getD i 0 else ws.getD j 0 := by
  unfold swapL
  rw [getD_set_, getD_set_, List.length_set]
  by_cases h1 : j = i
  · subst h1
    rw [if_neg (by omega), if_pos ⟨rfl, by omega⟩, if_pos rfl]
  · rw [if_neg h1]
    by_cases h2 : j = i + 1
    · subst h2; rw [if_pos ⟨rfl, by omega⟩, if_pos rfl]
    · rw [if_neg (by omega), if_neg (by omega), if_neg h2]
theorem Lw.swap {n : Nat} {ws : List Int} (h : Lw n ws) {i : Nat} (hi : i + 1 < n) : Lw n (swapL ws i) := by
  refine ⟨by rw [swapL_length]; exact h.len, inW_of fun j hj => ?_⟩
  rw [swapL_length, h.len] at hj
  rw [swapL_getD ws i j (by rw [h.len]; exact hi)]
  split
  · exact h.at hi
  · split
    · exact h.at (by omega)
    · exact h.at hj
theorem Lw.tog {n : Nat} {xs ws : List Int} (h : Lw n ws) {i : Nat} (hi : i + 1 < n) : Lw n (togL xs ws i) := by
  unfold togL
  split
  · exact h
  · exact h.swap hi
def turnN (F : Nat → List Int → List Int) : Nat → List Int → List Int
  | 0, ws => ws
  | k + 1, ws => F k (turnN F k ws)
theorem Lw.turn {n : Nat} {F : Nat → List Int → List Int} {m : Nat} (hF : ∀ k, k < m → ∀ ws, Lw n ws → Lw n (F k ws)) {ws : List Int} (h : Lw n ws) : Lw n (turnN F m ws) := by
  induction m with
  | zero => exact h
  | succ m ih => exact hF m (by omega) _ (ih fun k hk => hF k (by omega))
def downL (xs : List Int) (t k : Nat) (ws : List Int) : List Int := turnN (fun i a => togL xs a (t - 1 - i)) k ws
theorem Lw.down {n : Nat} {xs : List Int} {t k : Nat} (ht : t + 1 ≤ n) (hk : k ≤ t) {ws : List Int} (h : Lw n ws) : Lw n (downL xs t k ws) := h.turn fun i hi a ha => ha.tog (by omega)
end Go.Proofs.YtbmhaamenjhjfaaGreatDoor
namespace Go.Proofs.YtbmhaamenjhjfaaGreatDoor
set_option linter.unusedVariables false
def sumN (f : Nat → Nat) : Nat → Nat
  | 0 => 0
  | k + 1 => sumN f k + f k
theorem sumN_congr {f g : Nat → Nat} {k : Nat} (h : ∀ e, e < k → f e = g e) : sumN f k = sumN g k := by
  induction k with
  | zero => rfl
  | succ k ih => simp only [sumN]; rw [ih (fun e he => h e (by omega)), h k (by omega)]
theorem sumN_zero {f : Nat → Nat} {k : Nat} (h : ∀ e, e < k → f e = 0) : sumN f k = 0 := by
  induction k with
  | zero => rfl
  | succ k ih => simp only [sumN]; rw [ih (fun e he => h e (by omega)), h k (by omega)]
theorem sumN_const {f : Nat → Nat} {k c : Nat} (h : ∀ e, e < k → f e ≤ c) : sumN f k ≤ k * c := by
  induction k with
  | zero => simp [sumN]
  | succ k ih =>
    simp only [sumN]
    have h1 := ih (fun e he => h e (by omega))
    have h2 := h k (by omega)
    have h3 : (k + 1) * c = k * c + c := Nat.succ_mul k c
    omega
theorem sumN_upd {f g : Nat → Nat} {k i : Nat} (hi : i < k) (h : ∀ e, e < k → e ≠ i → f e = g e) : sumN f k + g i = sumN g k + f i := by
  induction k with
  | zero => omega
  | succ k ih =>
    simp only [sumN]
    by_cases e : i = k
    · subst e
      have := sumN_congr (f := f) (g := g) (k := i) (fun e he => h e (by omega) (by omega))
      omega
    · have h1 := ih (by omega) (fun e he hn => h e (by omega) hn)
      have h2 := h k (by omega) (by omega)
      omega
theorem xor_bit (t e i : Nat) : (t ^^^ 2 ^ e).testBit i = (if i = e then !t.testBit e else t.testBit i) := by
  rw [Nat.testBit_xor, Nat.testBit_two_pow]
  by_cases h : i = e
  · subst h; simp
  · have : ¬ e = i := fun h2 => h h2.symm
    simp [h, this]
theorem xor_lt_self {t e : Nat} (h : t.testBit e = true) : t ^^^ 2 ^ e < t := by
  have h1 : t ^^^ 2 ^ e ≤ t := by
    apply Nat.le_of_testBit
    intro i hi
    rw [xor_bit] at hi
    split at hi
    · rename_i hie; subst hie; exact h
    · exact hi
  rcases Nat.lt_or_ge (t ^^^ 2 ^ e) t with h2 | h2
  · exact h2
  · have h3 : t ^^^ 2 ^ e = t := by omega
    have h4 := xor_bit t e e
    rw [h3, if_pos rfl, h] at h4
    cases h4
def predP (xs : List Int) (t e : Nat) : Bool := t.testBit e && (sub (row xs e) (t ^^^ 2 ^ e) == 0)
theorem predP_bit {xs : List Int} {t e : Nat} (h : predP xs t e = true) : t.testBit e = true := by
  simp only [predP, Bool.and_eq_true] at h; exact h.1
def ways (xs : List Int) (t : Nat) : Nat :=
  if t = 0 then 1 else sumN (fun e => if h : predP xs t e = true then ways xs (t ^^^ 2 ^ e) else 0) xs.length
termination_by t
decreasing_by exact xor_lt_self (predP_bit h)
def wterm (xs : List Int) (t e : Nat) : Nat := if predP xs t e = true then ways xs (t ^^^ 2 ^ e) else 0
theorem ways_zero (xs : List Int) : ways xs 0 = 1 := by rw [ways]; simp
theorem ways_pos {xs : List Int} {t : Nat} (h : t ≠ 0) : ways xs t = sumN (wterm xs t) xs.length := by
  rw [ways, if_neg h]
  rfl
theorem predP_zero (xs : List Int) (e : Nat) : predP xs 0 e = false := by simp [predP]
def cntB (t : Nat) (n : Nat) : Nat := sumN (fun e => if t.testBit e = true then 1 else 0) n
theorem cntB_xor {t e n : Nat} (he : e < n) (h : t.testBit e = true) : cntB (t ^^^ 2 ^ e) n + 1 = cntB t n := by
  have := sumN_upd (f := fun i => if (t ^^^ 2 ^ e).testBit i = true then 1 else 0) (g := fun i => if t.testBit i = true then 1 else 0) he (fun i _ hn => by simp only [xor_bit, if_neg hn])
  simp only [xor_bit, h, if_true, Bool.not_true] at this
  unfold cntB
  simp only [xor_bit, h] at this ⊢
  simpa using this
theorem ways_le {xs : List Int} (hl : xs.length ≤ 10) (t : Nat) : ways xs t ≤ 10 ^ cntB t xs.length := by
  induction t using Nat.strongRecOn with
  | _ t ih =>
    by_cases h0 : t = 0
    · subst h0; rw [ways_zero]; exact Nat.one_le_pow _ _ (by decide)
    · rw [ways_pos h0]
      by_cases hc : cntB t xs.length = 0
      · rw [sumN_zero]
        · exact Nat.zero_le _
        · intro e he
          unfold wterm
          split
          · rename_i hp
            have := cntB_xor he (predP_bit hp)
            omega
          · rfl
      · refine Nat.le_trans (sumN_const (c := 10 ^ (cntB t xs.length - 1)) ?_) ?_
        · intro e he
          unfold wterm
          split
          · rename_i hp
            have h1 := ih _ (xor_lt_self (predP_bit hp))
            have h2 := cntB_xor he (predP_bit hp)
            have h3 : cntB t xs.length - 1 = cntB (t ^^^ 2 ^ e) xs.length := by omega
            rw [h3]; exact h1
          · exact Nat.zero_le _
        · have h4 : 10 ^ cntB t xs.length = 10 ^ (cntB t xs.length - 1) * 10 := by rw [← Nat.pow_succ]; congr 1; omega
          rw [h4, Nat.mul_comm]
          exact Nat.mul_le_mul_left _ hl
theorem cntB_le (t n : Nat) : cntB t n ≤ n := by
  have := sumN_const (f := fun e => if t.testBit e = true then 1 else 0) (k := n) (c := 1) (fun e _ => by split <;> omega)
  simpa [cntB] using this
theorem ways_lt {xs : List Int} (hl : xs.length ≤ 10) (t : Nat) : ways xs t ≤ 10000000000 := by
  refine Nat.le_trans (ways_le hl t) ?_
  have h1 := cntB_le t xs.length
  have : 10 ^ cntB t xs.length ≤ 10 ^ 10 := Nat.pow_le_pow_right (by decide) (by omega)
  simpa using this
theorem ways_no {xs : List Int} (hg : good xs = true) (t : Nat) (h : holdsIdeal xs t = false) : ways xs t = 0 := by
  induction t using Nat.strongRecOn with
  | _ t ih =>
    have hn : ¬ (∀ e, e < xs.length → t.testBit e = true → ∀ j, (row xs e).testBit j = true → t.testBit j = true) := by
      rw [← holdsIdeal_row, h]; simp
    have h0 : t ≠ 0 := by
      rintro rfl
      exact hn (fun e _ hb => by simp at hb)
    rw [ways_pos h0]
    refine sumN_zero fun e he => ?_
    unfold wterm
    split
    · rename_i hp
      refine ih _ (xor_lt_self (predP_bit hp)) ?_
      cases hI : holdsIdeal xs (t ^^^ 2 ^ e)
      · rfl
      · exfalso
        apply hn
        rw [holdsIdeal_row] at hI
        simp only [predP, Bool.and_eq_true, beq_iff_eq] at hp
        obtain ⟨hp1, hp2⟩ := hp
        rw [sub_eq_zero] at hp2
        have hsub : ∀ j, (t ^^^ 2 ^ e).testBit j = true → t.testBit j = true := by
          intro j hj
          rw [xor_bit] at hj
          split at hj
          · rename_i hje; subst hje; exact hp1
          · exact hj
        intro e' he' hb j hj
        by_cases hee : e' = e
        · subst hee; exact hsub j (hp2 j hj)
        · exact hsub j (hI e' he' (by rw [xor_bit, if_neg hee]; exact hb) j hj)
    · rfl
theorem ways_top {xs : List Int} (hg : good xs = true) {t e : Nat} (ht : t < 2 ^ xs.length) (h : holdsIdeal xs t = true) (he : e < xs.length) :
    wterm xs t e = if (top xs t).testBit e = true then ways xs (t ^^^ 2 ^ e) else 0 := by
  have hI := holdsIdeal_row.1 h
  unfold wterm top
  rw [sub_testBit]
  cases hb : t.testBit e
  · simp [predP, hb]
  · have hp : predP xs t e = true := by
      simp only [predP, hb, Bool.true_and, beq_iff_eq, sub_eq_zero]
      intro j hj
      have hje : j < e := testBit_lt (row_lt hg he).2 hj
      rw [xor_bit, if_neg (by omega)]
      exact hI e he hb j hj
    rw [if_pos hp]
    cases hu : (under xs t).testBit e
    · simp
    · simp only [Bool.not_true, Bool.and_false, Bool.false_eq_true, if_false]
      refine ways_no hg _ ?_
      obtain ⟨i, hi, hbi, hri⟩ := (underN_testBit xs t xs.length e).1 hu
      cases hc : holdsIdeal xs (t ^^^ 2 ^ e)
      · rfl
      · exfalso
        have hei : e < i := testBit_lt (row_lt hg hi).2 hri
        have := holdsIdeal_row.1 hc i hi (by rw [xor_bit, if_neg (by omega)]; exact hbi) e hri
        rw [xor_bit, if_pos rfl, hb] at this
        cases this
theorem top_down {xs : List Int} (hg : good xs = true) {t e : Nat} (h : holdsIdeal xs t = true) (he : e < xs.length) (hb : (top xs t).testBit e = true) : holdsIdeal xs (t ^^^ 2 ^ e) = true ∧ t.testBit e = true := by
  have hI := holdsIdeal_row.1 h
  unfold top at hb
  rw [sub_testBit, Bool.and_eq_true, Bool.not_eq_true'] at hb
  refine ⟨holdsIdeal_row.2 fun i hi hbi j hj => ?_, hb.1⟩
  rw [xor_bit] at hbi ⊢
  split at hbi
  · rw [hb.1] at hbi; cases hbi
  · split
    · rename_i hne hje
      subst hje
      exfalso
      have := (underN_testBit xs t xs.length j).2 ⟨i, hi, hbi, hj⟩
      have h2 := hb.2
      unfold under at h2
      rw [this] at h2; cases h2
    · exact hI i hi hbi j hj
def fwd (xs : List Int) (S k t : Nat) : Nat :=
  (if t = 0 then 1 else 0) + sumN (fun e => if predP xs t e = true ∧ (t ^^^ 2 ^ e < S ∨ (t ^^^ 2 ^ e = S ∧ e < k)) then ways xs (t ^^^ 2 ^ e) else 0) xs.length
theorem fwd_self (xs : List Int) (S k : Nat) : fwd xs S k S = ways xs S := by
  unfold fwd
  by_cases h : S = 0
  · subst h
    rw [ways_zero, sumN_zero]
    · rfl
    · intro e _; rw [if_neg]; rintro ⟨h1, _⟩; rw [predP_zero] at h1; cases h1
  · rw [if_neg h, ways_pos h, Nat.zero_add]
    refine sumN_congr fun e _ => ?_
    unfold wterm
    by_cases hp : predP xs S e = true
    · rw [if_pos hp, if_pos ⟨hp, .inl (xor_lt_self (predP_bit hp))⟩]
    · rw [if_neg hp, if_neg (fun h => hp h.1)]
theorem fwd_below (xs : List Int) (S k t : Nat) (h : t ≤ S) : fwd xs S k t = ways xs t := by
  rw [← fwd_self xs t k]
  unfold fwd
  congr 1
  refine sumN_congr fun e _ => ?_
  by_cases hp : predP xs t e = true
  · have := xor_lt_self (predP_bit hp)
    rw [if_pos ⟨hp, .inl (by omega)⟩, if_pos ⟨hp, .inl this⟩]
  · rw [if_neg (fun h => hp h.1), if_neg (fun h => hp h.1)]
theorem fwd_next (xs : List Int) (S t : Nat) : fwd xs S xs.length t = fwd xs (S + 1) 0 t := by
  unfold fwd
  congr 1
  refine sumN_congr fun e he => ?_
  congr 1
  apply propext
  constructor
  · rintro ⟨h1, h2⟩; exact ⟨h1, by omega⟩
  · rintro ⟨h1, h2⟩; exact ⟨h1, by omega⟩
theorem fwd_skip {xs : List Int} {S : Nat} (h : ways xs S = 0) (t : Nat) : fwd xs S 0 t = fwd xs (S + 1) 0 t := by
  unfold fwd
  congr 1
  refine sumN_congr fun e he => ?_
  by_cases hp : predP xs t e = true
  · by_cases h2 : t ^^^ 2 ^ e = S
    · rw [h2, h]; simp
    · have : (predP xs t e = true ∧ (t ^^^ 2 ^ e < S ∨ (t ^^^ 2 ^ e = S ∧ e < 0))) ↔ (predP xs t e = true ∧ (t ^^^ 2 ^ e < S + 1 ∨ (t ^^^ 2 ^ e = S + 1 ∧ e < 0))) := by
        constructor
        · rintro ⟨h1, h2⟩; exact ⟨h1, by omega⟩
        · rintro ⟨h1, h2⟩; exact ⟨h1, by omega⟩
      simp only [this]
  · rw [if_neg (fun h => hp h.1), if_neg (fun h => hp h.1)]
theorem fwd_start (xs : List Int) (t : Nat) : fwd xs 0 0 t = if t = 0 then 1 else 0 := by
  unfold fwd
  rw [sumN_zero]
  · rfl
  · intro e _; rw [if_neg]; rintro ⟨_, h⟩; omega
def stepP (xs : List Int) (S k : Nat) : Bool := !S.testBit k && (sub (row xs k) S == 0)
theorem or_eq_xor {S k : Nat} (h : S.testBit k = false) : S ||| 2 ^ k = S ^^^ 2 ^ k := by
  apply Nat.eq_of_testBit_eq
  intro i
  rw [Nat.testBit_or, xor_bit, Nat.testBit_two_pow]
  by_cases hi : i = k
  · subst hi; simp [h]
  · have : ¬ k = i := fun h2 => hi h2.symm
    simp [hi, this]
theorem xor_xor (S k : Nat) : S ^^^ 2 ^ k ^^^ 2 ^ k = S := by rw [Nat.xor_assoc, Nat.xor_self, Nat.xor_zero]
theorem fwd_step {xs : List Int} {S k : Nat} (hk : k < xs.length) (t : Nat) :
    fwd xs S (k + 1) t = if stepP xs S k = true ∧ t = S ||| 2 ^ k then fwd xs S k t + ways xs S else fwd xs S k t := by
  have main := sumN_upd (f := fun e => if predP xs t e = true ∧ (t ^^^ 2 ^ e < S ∨ (t ^^^ 2 ^ e = S ∧ e < k + 1)) then ways xs (t ^^^ 2 ^ e) else 0)
    (g := fun e => if predP xs t e = true ∧ (t ^^^ 2 ^ e < S ∨ (t ^^^ 2 ^ e = S ∧ e < k)) then ways xs (t ^^^ 2 ^ e) else 0) hk (fun e he hn => by
      have : (predP xs t e = true ∧ (t ^^^ 2 ^ e < S ∨ (t ^^^ 2 ^ e = S ∧ e < k + 1))) ↔ (predP xs t e = true ∧ (t ^^^ 2 ^ e < S ∨ (t ^^^ 2 ^ e = S ∧ e < k))) := by
        constructor
        · rintro ⟨h1, h2⟩; exact ⟨h1, by omega⟩
        · rintro ⟨h1, h2⟩; exact ⟨h1, by omega⟩
      simp only [this])
  by_cases hp : predP xs t k = true ∧ t ^^^ 2 ^ k = S
  · obtain ⟨hp, hS⟩ := hp
    have hb := predP_bit hp
    have hSk : S.testBit k = false := by rw [← hS, xor_bit, if_pos rfl, hb]; rfl
    have ht : t = S ||| 2 ^ k := by rw [or_eq_xor hSk, ← hS, xor_xor]
    have hst : stepP xs S k = true := by
      have h2 := hp
      simp only [predP, hb, Bool.true_and] at h2
      rw [hS] at h2
      simp only [stepP, hSk, Bool.not_false, Bool.true_and]
      exact h2
    rw [if_pos ⟨hst, ht⟩]
    simp only [hp, hS, true_and, Nat.lt_irrefl, false_or] at main
    simp only [Nat.lt_succ_self, if_true, if_false] at main
    unfold fwd
    omega
  · have hn : ¬ (stepP xs S k = true ∧ t = S ||| 2 ^ k) := by
      rintro ⟨h1, h2⟩
      simp only [stepP, Bool.and_eq_true, Bool.not_eq_true', beq_iff_eq] at h1
      have h3 := or_eq_xor h1.1
      have h4 : t ^^^ 2 ^ k = S := by rw [h2, h3, xor_xor]
      refine hp ⟨?_, h4⟩
      unfold predP
      rw [h4, h1.2, h2, Nat.testBit_or, Nat.testBit_two_pow_self]
      simp
    rw [if_neg hn]
    have e1 : (predP xs t k = true ∧ (t ^^^ 2 ^ k < S ∨ (t ^^^ 2 ^ k = S ∧ k < k + 1))) ↔ (predP xs t k = true ∧ (t ^^^ 2 ^ k < S ∨ (t ^^^ 2 ^ k = S ∧ k < k))) := by
      constructor
      · rintro ⟨h1, h2⟩
        refine ⟨h1, ?_⟩
        rcases h2 with h2 | ⟨h2, _⟩
        · exact .inl h2
        · exact absurd ⟨h1, h2⟩ hp
      · rintro ⟨h1, h2⟩; exact ⟨h1, by omega⟩
    simp only [e1] at main
    unfold fwd
    omega
theorem fwd_le (xs : List Int) (hl : xs.length ≤ 10) (S k t : Nat) : fwd xs S k t ≤ 100000000001 := by
  unfold fwd
  have := sumN_const (f := fun e => if predP xs t e = true ∧ (t ^^^ 2 ^ e < S ∨ (t ^^^ 2 ^ e = S ∧ e < k)) then ways xs (t ^^^ 2 ^ e) else 0) (k := xs.length) (c := 10000000000) (fun e _ => by
    split
    · exact ways_lt hl _
    · omega)
  have h2 : xs.length * 10000000000 ≤ 10 * 10000000000 := Nat.mul_le_mul_right _ hl
  split <;> omega
def bwd (xs : List Int) (s k : Nat) : Nat := sumN (fun e => if (top xs s).testBit e = true then ways xs (s ^^^ 2 ^ e) else 0) k
theorem bwd_full {xs : List Int} (hg : good xs = true) {s : Nat} (hs : s < 2 ^ xs.length) (h0 : s ≠ 0) (h : holdsIdeal xs s = true) : bwd xs s xs.length = ways xs s := by
  rw [ways_pos h0]
  exact sumN_congr fun e he => (ways_top hg hs h he).symm
theorem bwd_le {xs : List Int} (hl : xs.length ≤ 10) (s : Nat) {k : Nat} (hk : k ≤ xs.length) : bwd xs s k ≤ 100000000000 := by
  have := sumN_const (f := fun e => if (top xs s).testBit e = true then ways xs (s ^^^ 2 ^ e) else 0) (k := k) (c := 10000000000) (fun e _ => by
    split
    · exact ways_lt hl _
    · omega)
  have h2 : k * 10000000000 ≤ 10 * 10000000000 := Nat.mul_le_mul_right _ (by omega)
  unfold bwd
  omega
def ordersN (xs : List Int) : Nat := ways xs (2 ^ xs.length - 1)
end Go.Proofs.YtbmhaamenjhjfaaGreatDoor
namespace Go.Proofs.YtbmhaamenjhjfaaGreatDoor
set_option linter.unusedVariables false
theorem or_gt {s e : Nat} (h : s.testBit e = false) : s < s ||| 2 ^ e := by
  have h1 : s ≤ s ||| 2 ^ e := Nat.left_le_or
  rcases Nat.lt_or_ge s (s ||| 2 ^ e) with h2 | h2
  · exact h2
  · have h3 : s ||| 2 ^ e = s := by omega
    have h4 : (s ||| 2 ^ e).testBit e = true := by rw [Nat.testBit_or, Nat.testBit_two_pow_self]; simp
    rw [h3, h] at h4; cases h4
theorem stepP_bit {xs : List Int} {s e : Nat} (h : stepP xs s e = true) : s.testBit e = false := by
  simp only [stepP, Bool.and_eq_true, Bool.not_eq_true'] at h; exact h.1
def ends (xs : List Int) (s : Nat) : Nat :=
  if 2 ^ xs.length - 1 ≤ s then 1 else sumN (fun e => if h : stepP xs s e = true then ends xs (s ||| 2 ^ e) else 0) xs.length
termination_by 2 ^ xs.length - s
decreasing_by have := or_gt (stepP_bit h); omega
def nterm (xs : List Int) (s e : Nat) : Nat := if stepP xs s e = true then ends xs (s ||| 2 ^ e) else 0
theorem nterm_no {xs : List Int} {s e : Nat} (h : stepP xs s e = false) : nterm xs s e = 0 := by simp [nterm, h]
theorem nterm_yes {xs : List Int} {s e : Nat} (h : stepP xs s e = true) : nterm xs s e = ends xs (s ||| 2 ^ e) := by simp [nterm, h]
theorem cntB_or {s e n : Nat} (he : e < n) (h : s.testBit e = false) : cntB (s ||| 2 ^ e) n = cntB s n + 1 := by
  have h1 : (s ||| 2 ^ e).testBit e = true := by rw [Nat.testBit_or, Nat.testBit_two_pow_self]; simp
  have h2 := cntB_xor he h1
  have h3 : (s ||| 2 ^ e) ^^^ 2 ^ e = s := by
    rw [or_eq_xor h, Nat.xor_assoc, Nat.xor_self, Nat.xor_zero]
  rw [h3] at h2
  omega
theorem cntB_full {s n : Nat} (h : 2 ^ n - 1 = s) : cntB s n = n := by
  subst h
  unfold cntB
  have : ∀ k, k ≤ n → sumN (fun e => if (2 ^ n - 1).testBit e = true then 1 else 0) k = k := by
    intro k hk
    induction k with
    | zero => rfl
    | succ k ih =>
      simp only [sumN]
      rw [ih (by omega)]
      have : (2 ^ n - 1).testBit k = true := by rw [Nat.testBit_two_pow_sub_one]; simp; omega
      rw [this]; simp
  exact this n (Nat.le_refl _)
structure UnOk (xs : List Int) (s q i : Nat) : Prop where
  set : s < 2 ^ xs.length
  cnt : cntB s xs.length = i
  rank : q < ends xs s
theorem UnOk.low {xs : List Int} {s q i : Nat} (h : UnOk xs s q i) (hi : i < xs.length) : s < 2 ^ xs.length - 1 := by
  rcases Nat.lt_or_ge s (2 ^ xs.length - 1) with h1 | h1
  · exact h1
  · have := cntB_full (show 2 ^ xs.length - 1 = s by have := h.set; omega)
    have := h.cnt
    omega
theorem UnOk.step {xs : List Int} {s q i e : Nat} (h : UnOk xs s q i) (hi : i < xs.length) (he : e < xs.length) (h1 : sumN (nterm xs s) e ≤ q) (h2 : q < sumN (nterm xs s) (e + 1)) :
    stepP xs s e = true ∧ UnOk xs (s ||| 2 ^ e) (q - sumN (nterm xs s) e) (i + 1) := by
  simp only [sumN] at h2
  have hp : stepP xs s e = true := by
    cases hs : stepP xs s e
    · rw [nterm_no hs] at h2; omega
    · rfl
  rw [nterm_yes hp] at h2
  exact ⟨hp, Nat.or_lt_two_pow h.set (pow_lt_len he), by rw [cntB_or he (stepP_bit hp), h.cnt], by omega⟩
theorem cntB_zero (n : Nat) : cntB 0 n = 0 := sumN_zero fun e _ => by simp
end Go.Proofs.YtbmhaamenjhjfaaGreatDoor
namespace Go.Proofs.YtbmhaamenjhjfaaGreatDoor
set_option linter.unusedVariables false
def wN (ws : List Int) (k : Nat) : Nat := (ws.getD k 0).toNat
def stL (ws : List Int) : Nat → Nat
  | 0 => 0
  | k + 1 => stL ws k ||| 2 ^ wN ws k
structure LinX (xs ws : List Int) : Prop where
  len : ws.length = xs.length
  rng : ∀ k, k < xs.length → ws.getD k 0 = (wN ws k : Int) ∧ wN ws k < xs.length
  stp : ∀ k, k < xs.length → stepP xs (stL ws k) (wN ws k) = true
theorem LinX.st {xs ws : List Int} (h : LinX xs ws) (k : Nat) (hk : k ≤ xs.length) : ordSt xs ws k = some (stL ws k) := by
  induction k with
  | zero => rfl
  | succ k ih =>
    have h1 := h.rng k (by omega)
    have h2 := h.stp k (by omega)
    rw [ordSt_yes (ih (by omega)) ?_]
    · rfl
    · simp only [stepP, Bool.and_eq_true] at h2
      simp only [ordP, Bool.and_eq_true, decide_eq_true_eq]
      exact ⟨by omega, h2⟩
theorem stL_bit (ws : List Int) (k e : Nat) : (stL ws k).testBit e = true ↔ ∃ j, j < k ∧ wN ws j = e := by
  induction k with
  | zero => simp [stL]
  | succ k ih =>
    rw [stL, Nat.testBit_or, Bool.or_eq_true, ih, Nat.testBit_two_pow]
    constructor
    · rintro (⟨j, h1, h2⟩ | h)
      · exact ⟨j, by omega, h2⟩
      · exact ⟨k, by omega, by simpa using h⟩
    · rintro ⟨j, h1, h2⟩
      by_cases e : j = k
      · subst e; exact .inr (by simpa using h2)
      · exact .inl ⟨j, by omega, h2⟩
theorem LinX.lt {xs ws : List Int} (h : LinX xs ws) (k : Nat) (hk : k ≤ xs.length) : stL ws k < 2 ^ xs.length := by
  induction k with
  | zero => exact Nat.two_pow_pos _
  | succ k ih => exact Nat.or_lt_two_pow (ih (by omega)) (pow_lt_len (h.rng k (by omega)).2)
theorem LinX.cnt {xs ws : List Int} (h : LinX xs ws) (k : Nat) (hk : k ≤ xs.length) : cntB (stL ws k) xs.length = k := by
  induction k with
  | zero => exact cntB_zero _
  | succ k ih => rw [stL, cntB_or (h.rng k (by omega)).2 (stepP_bit (h.stp k (by omega))), ih (by omega)]
theorem LinX.ne {xs ws : List Int} (h : LinX xs ws) {j k : Nat} (hjk : j < k) (hk : k < xs.length) : wN ws j ≠ wN ws k := by
  intro e
  have h1 := stepP_bit (h.stp k hk)
  have h2 := (stL_bit ws k (wN ws k)).2 ⟨j, hjk, e⟩
  rw [h1] at h2; cases h2
theorem stepP_sub {xs : List Int} {s e : Nat} (h : stepP xs s e = true) {j : Nat} (hj : (row xs e).testBit j = true) : s.testBit j = true := by
  simp only [stepP, Bool.and_eq_true, beq_iff_eq] at h
  exact (sub_eq_zero _ _).1 h.2 j hj
theorem LinX.before {xs ws : List Int} (h : LinX xs ws) {k j : Nat} (hk : k < xs.length) (hj : (row xs (wN ws k)).testBit j = true) : ∃ i, i < k ∧ wN ws i = j :=
  (stL_bit ws k j).1 (stepP_sub (h.stp k hk) hj)
theorem LinX.ext {xs ws vs : List Int} (h : LinX xs ws) (k : LinX xs vs) (e : ∀ j, j < xs.length → wN ws j = wN vs j) : ws = vs := by
  refine List.ext_getElem (by rw [h.len, k.len]) fun j h1 h2 => ?_
  have hj : j < xs.length := by rw [← h.len]; exact h1
  have a := (h.rng j hj).1
  have b := (k.rng j hj).1
  rw [e j hj, ← b] at a
  simpa [List.getD, h1, h2] using a
end Go.Proofs.YtbmhaamenjhjfaaGreatDoor
namespace Go.Proofs.YtbmhaamenjhjfaaGreatDoor
open Go.RowKit Go.WideShapes Go.ChangeShapes
set_option linter.unusedVariables false
def setsL (f : Nat → Bool) (k : Nat) : List Int := ((List.range k).filter f).map fun (s : Nat) => (s : Int)
theorem setsL_yes {f : Nat → Bool} {k : Nat} (h : f k = true) : setsL f (k + 1) = setsL f k ++ [(k : Int)] := by
  simp [setsL, List.range_succ, List.filter_append, h]
theorem setsL_no {f : Nat → Bool} {k : Nat} (h : f k = false) : setsL f (k + 1) = setsL f k := by
  simp [setsL, List.range_succ, List.filter_append, h]
theorem setsL_length (f : Nat → Bool) (k : Nat) : (setsL f k).length ≤ k := by
  have := List.length_filter_le f (List.range k)
  simpa [setsL] using this
theorem pow10 {n : Nat} (h : n ≤ 10) : 2 ^ n ≤ 1024 := (two_pow_le n h).2
theorem poIdeals_any (v : Value) (xs : List Int) (w : World) (hv : Ints w v xs) (hg : good xs = true) :
    Calls Tryz.prog 89 #[.agg #[v]] w fun (r : Ending) w' => ∃ u, r = Ending.returned u ∧ OwnI 3 w' w.heap.size u (setsL (holdsIdeal xs) (2 ^ xs.length)) ∧ Below w.heap.size w w' := by
  have hl10 := (good_length hg).2
  have HV := hid hv
  have HS := hid (good_small hg)
  obtain ⟨A, c, rfl, hA⟩ := hv
  obtain ⟨N, hN⟩ : ∃ N, 2 ^ xs.length = N := ⟨_, rfl⟩
  have wp : wrap64 ((2 : Int) ^ xs.length) = (N : Int) := by rw [wrap_pow xs.length hl10, hN]
  have hN10 : N ≤ 1024 := by rw [← hN]; exact pow10 hl10
  rw [hN]
  clear hA hg hN
  go_enter Tryz.func89, Tryz.ntmps89
  go_wp2
  go_loopw [3, 4] (fun q i wr => ∃ s : Nat, s ≤ N ∧ i = .int .i64 s ∧ OwnI 3 wr (w.heap.size + 1) q (setsL (holdsIdeal xs) s) ∧ Below (w.heap.size + 1) (w.alloc (.cells #[.slice A xs.length c] 28)) wr) (fun _ i _ => N - (intOf i).toNat)
  case atStart => exact ⟨0, Nat.zero_le _, rfl, OwnI.nil _ _ _, Below.refl _ _⟩
  case round =>
    obtain ⟨s, hs, rfl, ho, hb⟩ := hrel
    have hbox := box_cell hb 0
    have hbz : w.heap.size < wr.heap.size := by have := hb.size; simp at this; omega
    have HO := hid ho
    have HB := hid hb
    clear ho hb
    by_cases hlt : s < N
    · cases hI : holdsIdeal xs s
      · have HI := hid hI
        clear hI
        go_wp2_with (go_at_call 67; refine (poIdeal_any _ xs s _ (Ints.box HV.out HB.out) hl10 (by omega) (HS.out s)).mono ?_; rw [HI.out]; rintro e w1 ⟨rfl, hb1⟩)
        go_roundw
        case rel => exact ⟨s + 1, by omega, by go_num, by rw [setsL_no HI.out]; exact HO.out.below hb1, HB.out.trans (hb1.mono (by omega))⟩
        case measure => simp [intOf]; omega
      · have HI := hid hI
        clear hI
        go_wp2_with fail
        refine (poIdeal_any _ xs s _ (Ints.box HV.out HB.out) hl10 (by omega) (HS.out s)).mono ?_
        rw [HI.out]
        rintro e w1 ⟨rfl, hb1⟩
        have HO1 := hid (HO.out.below hb1)
        have HB1 := hid (HB.out.trans (hb1.mono (by omega)))
        have hz1 : w.heap.size + 1 ≤ w1.heap.size := by have := hb1.size; omega
        have hlen := setsL_length (holdsIdeal xs) s
        clear hb1 hbox
        go_wp2_with (at_builtin; refine wpList_append_int rfl _ _ 22 3 rfl Tryz.underlying22 Tryz.info3 (w.heap.size + 1) _ _ s rfl HO1.out rfl rfl (by omega) (by omega) ?_; rintro q2 w2 ho2 hb2)
        go_roundw
        case rel => exact ⟨s + 1, by omega, by go_num, by rw [setsL_yes HI.out]; exact ho2, HB1.out.trans hb2⟩
        case measure => simp [intOf]; omega
    · obtain rfl : s = N := by omega
      go_wp2
      go_ret
      exact ⟨_, rfl, HO.out.mono (by omega), below_box HB.out⟩
theorem setsI_any (v : Value) (xs : List Int) (w : World) (hv : Ints w v xs) (hg : good xs = true) :
    Calls Tryz.prog 212 #[.agg #[v], .func (.func 95) #[] #[]] w fun (r : Ending) w' => ∃ u, r = Ending.returned u ∧ OwnI 3 w' w.heap.size u (setsL (holdsIdeal xs) (2 ^ xs.length)) ∧ Below w.heap.size w w' := by
  have hl10 := (good_length hg).2
  have HV := hid hv
  have HS := hid (good_small hg)
  obtain ⟨A, c, rfl, hA⟩ := hv
  obtain ⟨N, hN⟩ : ∃ N, 2 ^ xs.length = N := ⟨_, rfl⟩
  have hN10 : 1 ≤ N ∧ N ≤ 1024 := by rw [← hN]; exact two_pow_le _ hl10
  have HW := hid (wholeSet_any xs.length hl10)
  rw [hN] at HW ⊢
  obtain ⟨hN1, hN2⟩ := hN10
  have e1 : ((N - 1 : Nat) : Int) + 1 = (N : Int) := by omega
  clear hA hg hN
  go_enter Tryz.func212, Tryz.ntmps212
  go_wp2_with (go_at_call 148; refine (HW.out _).mono ?_; rintro e w' ⟨rfl, rfl⟩)
  clear e1
  go_loopw [5, 12] (fun q i wr => ∃ s : Nat, s ≤ N ∧ i = .int .i64 s ∧ OwnI 3 wr (w.heap.size + 1) q (setsL (holdsIdeal xs) s) ∧ Below (w.heap.size + 1) (w.alloc (.cells #[.slice A xs.length c] 28)) wr) (fun _ i _ => N - (intOf i).toNat)
  case atStart => exact ⟨0, Nat.zero_le _, rfl, OwnI.nil _ _ _, Below.refl _ _⟩
  case round =>
    obtain ⟨s, hs, rfl, ho, hb⟩ := hrel
    have hbox := box_cell hb 0
    have hbz : w.heap.size < wr.heap.size := by have := hb.size; simp at this; omega
    have HO := hid ho
    have HB := hid hb
    clear ho hb
    by_cases hlt : s < N
    · cases hI : holdsIdeal xs s
      · have HI := hid hI
        clear hI
        go_wp2_with (go_at_call 95; refine (holdsIdeal_any _ xs s _ (Ints.box HV.out HB.out) hl10 (by omega) (HS.out s)).mono ?_; rw [HI.out]; rintro e w1 ⟨rfl, hb1⟩)
        go_roundw
        case rel => exact ⟨s + 1, by omega, by go_num, by rw [setsL_no HI.out]; exact HO.out.below hb1, HB.out.trans (hb1.mono (by omega))⟩
        case measure => simp [intOf]; omega
      · have HI := hid hI
        clear hI
        go_wp2_with fail
        refine (holdsIdeal_any _ xs s _ (Ints.box HV.out HB.out) hl10 (by omega) (HS.out s)).mono ?_
        rw [HI.out]
        rintro e w1 ⟨rfl, hb1⟩
        have HO1 := hid (HO.out.below hb1)
        have HB1 := hid (HB.out.trans (hb1.mono (by omega)))
        have hz1 : w.heap.size + 1 ≤ w1.heap.size := by have := hb1.size; omega
        have hlen := setsL_length (holdsIdeal xs) s
        clear hb1 hbox
        go_wp2_with (at_builtin; refine wpList_append_int rfl _ _ 22 3 rfl Tryz.underlying22 Tryz.info3 (w.heap.size + 1) _ _ s rfl HO1.out rfl rfl (by omega) (by omega) ?_; rintro q2 w2 ho2 hb2)
        go_roundw
        case rel => exact ⟨s + 1, by omega, by go_num, by rw [setsL_yes HI.out]; exact ho2, HB1.out.trans hb2⟩
        case measure => simp [intOf]; omega
    · obtain rfl : s = N := by omega
      go_wp2
      go_ret
      exact ⟨_, rfl, HO.out.mono (by omega), below_box HB.out⟩
def idealsL (xs : List Int) : List Int := if good xs then setsL (holdsIdeal xs) (2 ^ xs.length) else []
theorem idealsL_length (xs : List Int) : (idealsL xs).length ≤ 1048576 := by
  unfold idealsL
  split
  · rename_i h
    have h1 := setsL_length (holdsIdeal xs) (2 ^ xs.length)
    have h2 := (two_pow_le _ (good_length h).2).2
    omega
  · simp
theorem idealsL_yes {xs : List Int} (h : good xs = true) : idealsL xs = setsL (holdsIdeal xs) (2 ^ xs.length) := if_pos h
theorem idealsL_no {xs : List Int} (h : good xs = false) : idealsL xs = [] := by simp [idealsL, h]
theorem implIdealsOf_any (v : Value) (xs : List Int) (w : World) (hv : Ints w v xs) (hl : xs.length ≤ 1048576) :
    Calls Tryz.prog 177 #[.agg #[v]] w fun (r : Ending) w' => ∃ u, r = Ending.returned (.tuple #[u, .bool (good xs)]) ∧ OwnI 3 w' w.heap.size u (idealsL xs) ∧ (idealsL xs).length ≤ 1048576 ∧ Below w.heap.size w w' := by
  have HV := hid hv
  clear hv
  have HL := hid (idealsL_length xs)
  cases hg : good xs
  · have HG := hid hg
    have HN := hid (idealsL_no hg)
    clear hg
    go_enter Tryz.func177, Tryz.ntmps177
    go_wp2_with (go_at_call 147; refine (implIsPoset_any _ xs _ (HV.out.alloc _) hl).mono ?_; rw [HG.out]; rintro e w1 ⟨rfl, hb1⟩)
    go_ret2
    exact ⟨_, rfl, by rw [HN.out]; exact OwnI.nil _ _ _, HL.out, ((Below.refl _ _).alloc (Nat.le_refl _) _).trans (hb1.mono (by simp))⟩
  · have HG := hid hg
    have HY := hid (idealsL_yes hg)
    clear hg
    go_enter Tryz.func177, Tryz.ntmps177
    go_wp2_with fail
    refine (implIsPoset_any _ xs _ (HV.out.alloc _) hl).mono ?_
    rw [HG.out]
    rintro e w1 ⟨rfl, hb1⟩
    have hbox := ((At.new w v 28).below hb1).1
    have HB1 := hid (below_to (below_alloc (Below.refl _ w) _) hb1)
    have HV1 := hid ((HV.out.alloc _).below hb1)
    have hz := HB1.out.size
    clear hb1
    go_wp2_with (go_at_call 212; refine (setsI_any _ xs _ HV1.out HG.out).mono ?_; rintro e w2 ⟨u, rfl, ho, hb2⟩)
    go_ret2
    exact ⟨_, rfl, by rw [HY.out]; exact ho.mono hz, HL.out, below_to HB1.out hb2⟩
theorem implCountIdeals_any (v : Value) (xs : List Int) (w : World) (hv : Ints w v xs) (hl : xs.length ≤ 1048576) :
    Calls Tryz.prog 119 #[.agg #[v]] w fun r w' => r = .returned (.tuple #[.int .i64 (idealsL xs).length, .bool (good xs)]) ∧ Below w.heap.size w w' := by
  have HV := hid hv
  clear hv
  go_enter Tryz.func119, Tryz.ntmps119
  go_wp2_with fail
  refine (implIdealsOf_any _ xs _ (HV.out.alloc _) hl).mono ?_
  rintro e w1 ⟨u, rfl, ho, hll, hb1⟩
  obtain ⟨A, c, rfl, -⟩ := ho.shape
  have HB := hid hb1
  clear hb1 ho
  go_wp2
  go_ret2
  exact ⟨rfl, ((Below.refl _ _).alloc (Nat.le_refl _) _).trans (HB.out.mono (by simp))⟩
end Go.Proofs.YtbmhaamenjhjfaaGreatDoor
namespace Go.Proofs.YtbmhaamenjhjfaaGreatDoor
open Go.RowKit Go.WideShapes Go.ChangeShapes
set_option linter.unusedVariables false
theorem zero_ideal (xs : List Int) : holdsIdeal xs 0 = true := by
  rw [holdsIdeal_row]
  intro e he h
  simp at h
end Go.Proofs.YtbmhaamenjhjfaaGreatDoor
namespace Go.Proofs.YtbmhaamenjhjfaaGreatDoor
open Go.RowKit Go.WideShapes Go.ChangeShapes
set_option linter.unusedVariables false
theorem dualD_length {xs : List Int} (hg : good xs = true) : (dualL xs).length = xs.length := by rw [dualL_yes hg, whereL, mkL_length]
theorem dualD_row {xs : List Int} (hg : good xs = true) {i j : Nat} (hi : i < xs.length) : (row (dualL xs) i).testBit j = true ↔ j < i ∧ (row xs (xs.length - 1 - j)).testBit (xs.length - 1 - i) = true := by
  have e : (dualL xs).getD i 0 = ((rowN (fun j => dualF xs j i) i : Nat) : Int) := by rw [dualL_yes hg, whereL, mkL_getD hi]
  unfold row
  rw [e, Int.toNat_natCast, rowN_testBit]
  simp [dualF]
theorem dualD_get {xs : List Int} (hg : good xs = true) {i : Nat} (hi : i < xs.length) : (dualL xs).getD i 0 = ((row (dualL xs) i : Nat) : Int) ∧ row (dualL xs) i < 2 ^ i := by
  have e : (dualL xs).getD i 0 = ((rowN (fun j => dualF xs j i) i : Nat) : Int) := by rw [dualL_yes hg, whereL, mkL_getD hi]
  unfold row
  rw [e, Int.toNat_natCast]
  exact ⟨rfl, rowN_lt _ _⟩
theorem dualD_good {xs : List Int} (hg : good xs = true) : good (dualL xs) = true := by
  have hl := dualD_length hg
  have hb := good_length hg
  refine good_of (by omega) (by omega) fun i hi => ?_
  rw [hl] at hi
  obtain ⟨h1, h2⟩ := dualD_get hg hi
  unfold okAt
  rw [h1, Int.toNat_natCast]
  have hid : holdsIdeal (dualL xs) (row (dualL xs) i) = true := by
    rw [holdsIdeal_row]
    intro e he hbe j hj
    rw [hl] at he
    obtain ⟨a1, a2⟩ := (dualD_row hg hi).1 hbe
    obtain ⟨b1, b2⟩ := (dualD_row hg he).1 hj
    refine (dualD_row hg hi).2 ⟨by omega, ?_⟩
    exact row_closed hg (show xs.length - 1 - j < xs.length by omega) b2 a2
  rw [hid]
  have : 0 ≤ ((row (dualL xs) i : Nat) : Int) := by omega
  have h3 : ((row (dualL xs) i : Nat) : Int) ≤ ((2 ^ i - 1 : Nat) : Int) := by omega
  simp [this, h3]
end Go.Proofs.YtbmhaamenjhjfaaGreatDoor
