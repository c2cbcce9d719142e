/- Texts Ord, Ideals, OrdC, CurI, Drw, one behind the other. -/
import Derived.Deep.RegionHeld3
import Derived.Test.YtpdoheagfjeefaaPkLinearRankedProof00
import Derived.Test.YtpdoheagfjeefaaPkLinearRankedProof02
import Derived.Test.YtpdoheagfjeefaaPkLinearRankedProof04
import Derived.Test.YtpdoheagfjeefaaPkLinearRankedProof05
import Derived.Test.YtpdoheagfjeefaaPkLinearRankedProof06
/- Orders of a poset, counted in two ways. No program is named here. -/
namespace Go.Proofs.Ytpdoheagfjeefaa
set_option linter.unusedVariables false

def sumN (f : Nat → Nat) : Nat → Nat
  | 0 => 0
  | k + 1 => sumN f k + f k
theorem sumN_congr {f g : Nat → Nat} {k : Nat} (h : ∀ e, e < k → f e = g e) : sumN f k = sumN g k := by
  induction k with
  | zero => rfl
  | succ k ih => simp only [sumN]; rw [ih (fun e he => h e (by omega)), h k (by omega)]
theorem sumN_zero {f : Nat → Nat} {k : Nat} (h : ∀ e, e < k → f e = 0) : sumN f k = 0 := by
  induction k with
  | zero => rfl
  | succ k ih => simp only [sumN]; rw [ih (fun e he => h e (by omega)), h k (by omega)]
theorem sumN_le {f g : Nat → Nat} {k : Nat} (h : ∀ e, e < k → f e ≤ g e) : sumN f k ≤ sumN g k := by
  induction k with
  | zero => exact Nat.le_refl _
  | succ k ih =>
    simp only [sumN]
    have h1 := ih (fun e he => h e (by omega))
    have h2 := h k (by omega)
    omega
theorem sumN_const {f : Nat → Nat} {k c : Nat} (h : ∀ e, e < k → f e ≤ c) : sumN f k ≤ k * c := by
  induction k with
  | zero => simp [sumN]
  | succ k ih =>
    simp only [sumN]
    have h1 := ih (fun e he => h e (by omega))
    have h2 := h k (by omega)
    have h3 : (k + 1) * c = k * c + c := Nat.succ_mul k c
    omega
theorem sumN_upd {f g : Nat → Nat} {k i : Nat} (hi : i < k) (h : ∀ e, e < k → e ≠ i → f e = g e) : sumN f k + g i = sumN g k + f i := by
  induction k with
  | zero => omega
  | succ k ih =>
    simp only [sumN]
    by_cases e : i = k
    · subst e
      have := sumN_congr (f := f) (g := g) (k := i) (fun e he => h e (by omega) (by omega))
      omega
    · have h1 := ih (by omega) (fun e he hn => h e (by omega) hn)
      have h2 := h k (by omega) (by omega)
      omega

theorem xor_bit (t e i : Nat) : (t ^^^ 2 ^ e).testBit i = (if i = e then !t.testBit e else t.testBit i) := by
  rw [Nat.testBit_xor, Nat.testBit_two_pow]
  by_cases h : i = e
  · subst h; simp
  · have : ¬ e = i := fun h2 => h h2.symm
    simp [h, this]
theorem xor_lt_self {t e : Nat} (h : t.testBit e = true) : t ^^^ 2 ^ e < t := by
  have h1 : t ^^^ 2 ^ e ≤ t := by
    apply Nat.le_of_testBit
    intro i hi
    rw [xor_bit] at hi
    split at hi
    · rename_i hie; subst hie; exact h
    · exact hi
  rcases Nat.lt_or_ge (t ^^^ 2 ^ e) t with h2 | h2
  · exact h2
  · have h3 : t ^^^ 2 ^ e = t := by omega
    have h4 := xor_bit t e e
    rw [h3, if_pos rfl, h] at h4
    cases h4
/-- may e stand last in an order of t? -/
def predP (xs : List Int) (t e : Nat) : Bool := t.testBit e && (sub (row xs e) (t ^^^ 2 ^ e) == 0)
theorem predP_bit {xs : List Int} {t e : Nat} (h : predP xs t e = true) : t.testBit e = true := by
  simp only [predP, Bool.and_eq_true] at h; exact h.1
/-- how many orders of t there are -/
def ways (xs : List Int) (t : Nat) : Nat :=
  if t = 0 then 1 else sumN (fun e => if h : predP xs t e = true then ways xs (t ^^^ 2 ^ e) else 0) xs.length
termination_by t
decreasing_by exact xor_lt_self (predP_bit h)
def wterm (xs : List Int) (t e : Nat) : Nat := if predP xs t e = true then ways xs (t ^^^ 2 ^ e) else 0
theorem ways_zero (xs : List Int) : ways xs 0 = 1 := by rw [ways]; simp
theorem ways_pos {xs : List Int} {t : Nat} (h : t ≠ 0) : ways xs t = sumN (wterm xs t) xs.length := by
  rw [ways, if_neg h]
  rfl
theorem predP_zero (xs : List Int) (e : Nat) : predP xs 0 e = false := by simp [predP]

/-- bits of t below n, counted -/
def cntB (t : Nat) (n : Nat) : Nat := sumN (fun e => if t.testBit e = true then 1 else 0) n
theorem cntB_xor {t e n : Nat} (he : e < n) (h : t.testBit e = true) : cntB (t ^^^ 2 ^ e) n + 1 = cntB t n := by
  have := sumN_upd (f := fun i => if (t ^^^ 2 ^ e).testBit i = true then 1 else 0) (g := fun i => if t.testBit i = true then 1 else 0) he (fun i _ hn => by simp only [xor_bit, if_neg hn])
  simp only [xor_bit, h, if_true, Bool.not_true] at this
  unfold cntB
  simp only [xor_bit, h] at this ⊢
  simpa using this
theorem ways_le {xs : List Int} (hl : xs.length ≤ 10) (t : Nat) : ways xs t ≤ 10 ^ cntB t xs.length := by
  induction t using Nat.strongRecOn with
  | _ t ih =>
    by_cases h0 : t = 0
    · subst h0; rw [ways_zero]; exact Nat.one_le_pow _ _ (by decide)
    · rw [ways_pos h0]
      by_cases hc : cntB t xs.length = 0
      · rw [sumN_zero]
        · exact Nat.zero_le _
        · intro e he
          unfold wterm
          split
          · rename_i hp
            have := cntB_xor he (predP_bit hp)
            omega
          · rfl
      · refine Nat.le_trans (sumN_const (c := 10 ^ (cntB t xs.length - 1)) ?_) ?_
        · intro e he
          unfold wterm
          split
          · rename_i hp
            have h1 := ih _ (xor_lt_self (predP_bit hp))
            have h2 := cntB_xor he (predP_bit hp)
            have h3 : cntB t xs.length - 1 = cntB (t ^^^ 2 ^ e) xs.length := by omega
            rw [h3]; exact h1
          · exact Nat.zero_le _
        · have h4 : 10 ^ cntB t xs.length = 10 ^ (cntB t xs.length - 1) * 10 := by rw [← Nat.pow_succ]; congr 1; omega
          rw [h4, Nat.mul_comm]
          exact Nat.mul_le_mul_left _ hl
theorem cntB_le (t n : Nat) : cntB t n ≤ n := by
  have := sumN_const (f := fun e => if t.testBit e = true then 1 else 0) (k := n) (c := 1) (fun e _ => by split <;> omega)
  simpa [cntB] using this
theorem ways_lt {xs : List Int} (hl : xs.length ≤ 10) (t : Nat) : ways xs t ≤ 10000000000 := by
  refine Nat.le_trans (ways_le hl t) ?_
  have h1 := cntB_le t xs.length
  have : 10 ^ cntB t xs.length ≤ 10 ^ 10 := Nat.pow_le_pow_right (by decide) (by omega)
  simpa using this
/-- a set that is no ideal has no order -/
theorem ways_no {xs : List Int} (hg : good xs = true) (t : Nat) (h : holdsIdeal xs t = false) : ways xs t = 0 := by
  induction t using Nat.strongRecOn with
  | _ t ih =>
    have hn : ¬ (∀ e, e < xs.length → t.testBit e = true → ∀ j, (row xs e).testBit j = true → t.testBit j = true) := by
      rw [← holdsIdeal_row, h]; simp
    have h0 : t ≠ 0 := by
      rintro rfl
      exact hn (fun e _ hb => by simp at hb)
    rw [ways_pos h0]
    refine sumN_zero fun e he => ?_
    unfold wterm
    split
    · rename_i hp
      refine ih _ (xor_lt_self (predP_bit hp)) ?_
      cases hI : holdsIdeal xs (t ^^^ 2 ^ e)
      · rfl
      · exfalso
        apply hn
        rw [holdsIdeal_row] at hI
        simp only [predP, Bool.and_eq_true, beq_iff_eq] at hp
        obtain ⟨hp1, hp2⟩ := hp
        rw [sub_eq_zero] at hp2
        have hsub : ∀ j, (t ^^^ 2 ^ e).testBit j = true → t.testBit j = true := by
          intro j hj
          rw [xor_bit] at hj
          split at hj
          · rename_i hje; subst hje; exact hp1
          · exact hj
        intro e' he' hb j hj
        by_cases hee : e' = e
        · subst hee; exact hsub j (hp2 j hj)
        · exact hsub j (hI e' he' (by rw [xor_bit, if_neg hee]; exact hb) j hj)
    · rfl
/-- for an ideal: its tops alone may stand last -/
theorem ways_top {xs : List Int} (hg : good xs = true) {t e : Nat} (ht : t < 2 ^ xs.length) (h : holdsIdeal xs t = true) (he : e < xs.length) :
    wterm xs t e = if (top xs t).testBit e = true then ways xs (t ^^^ 2 ^ e) else 0 := by
  have hI := holdsIdeal_row.1 h
  unfold wterm top
  rw [sub_testBit]
  cases hb : t.testBit e
  · simp [predP, hb]
  · have hp : predP xs t e = true := by
      simp only [predP, hb, Bool.true_and, beq_iff_eq, sub_eq_zero]
      intro j hj
      have hje : j < e := testBit_lt (row_lt hg he).2 hj
      rw [xor_bit, if_neg (by omega)]
      exact hI e he hb j hj
    rw [if_pos hp]
    cases hu : (under xs t).testBit e
    · simp
    · simp only [Bool.not_true, Bool.and_false, Bool.false_eq_true, if_false]
      refine ways_no hg _ ?_
      obtain ⟨i, hi, hbi, hri⟩ := (underN_testBit xs t xs.length e).1 hu
      cases hc : holdsIdeal xs (t ^^^ 2 ^ e)
      · rfl
      · exfalso
        have hei : e < i := testBit_lt (row_lt hg hi).2 hri
        have := holdsIdeal_row.1 hc i hi (by rw [xor_bit, if_neg (by omega)]; exact hbi) e hri
        rw [xor_bit, if_pos rfl, hb] at this
        cases this
/-- an ideal without one of its tops is one -/
theorem top_down {xs : List Int} (hg : good xs = true) {t e : Nat} (h : holdsIdeal xs t = true) (he : e < xs.length) (hb : (top xs t).testBit e = true) : holdsIdeal xs (t ^^^ 2 ^ e) = true ∧ t.testBit e = true := by
  have hI := holdsIdeal_row.1 h
  unfold top at hb
  rw [sub_testBit, Bool.and_eq_true, Bool.not_eq_true'] at hb
  refine ⟨holdsIdeal_row.2 fun i hi hbi j hj => ?_, hb.1⟩
  rw [xor_bit] at hbi ⊢
  split at hbi
  · rw [hb.1] at hbi; cases hbi
  · split
    · rename_i hne hje
      subst hje
      exfalso
      have := (underN_testBit xs t xs.length j).2 ⟨i, hi, hbi, hj⟩
      have h2 := hb.2
      unfold under at h2
      rw [this] at h2; cases h2
    · exact hI i hi hbi j hj

/-! ### the model's table, forwards -/
/-- what has come to t when all below S and the first k steps of S are done -/
def fwd (xs : List Int) (S k t : Nat) : Nat :=
  (if t = 0 then 1 else 0) + sumN (fun e => if predP xs t e = true ∧ (t ^^^ 2 ^ e < S ∨ (t ^^^ 2 ^ e = S ∧ e < k)) then ways xs (t ^^^ 2 ^ e) else 0) xs.length
theorem fwd_self (xs : List Int) (S k : Nat) : fwd xs S k S = ways xs S := by
  unfold fwd
  by_cases h : S = 0
  · subst h
    rw [ways_zero, sumN_zero]
    · rfl
    · intro e _; rw [if_neg]; rintro ⟨h1, _⟩; rw [predP_zero] at h1; cases h1
  · rw [if_neg h, ways_pos h, Nat.zero_add]
    refine sumN_congr fun e _ => ?_
    unfold wterm
    by_cases hp : predP xs S e = true
    · rw [if_pos hp, if_pos ⟨hp, .inl (xor_lt_self (predP_bit hp))⟩]
    · rw [if_neg hp, if_neg (fun h => hp h.1)]
theorem fwd_below (xs : List Int) (S k t : Nat) (h : t ≤ S) : fwd xs S k t = ways xs t := by
  rw [← fwd_self xs t k]
  unfold fwd
  congr 1
  refine sumN_congr fun e _ => ?_
  by_cases hp : predP xs t e = true
  · have := xor_lt_self (predP_bit hp)
    rw [if_pos ⟨hp, .inl (by omega)⟩, if_pos ⟨hp, .inl this⟩]
  · rw [if_neg (fun h => hp h.1), if_neg (fun h => hp h.1)]
theorem fwd_next (xs : List Int) (S t : Nat) : fwd xs S xs.length t = fwd xs (S + 1) 0 t := by
  unfold fwd
  congr 1
  refine sumN_congr fun e he => ?_
  congr 1
  apply propext
  constructor
  · rintro ⟨h1, h2⟩; exact ⟨h1, by omega⟩
  · rintro ⟨h1, h2⟩; exact ⟨h1, by omega⟩
theorem fwd_skip {xs : List Int} {S : Nat} (h : ways xs S = 0) (t : Nat) : fwd xs S 0 t = fwd xs (S + 1) 0 t := by
  unfold fwd
  congr 1
  refine sumN_congr fun e he => ?_
  by_cases hp : predP xs t e = true
  · by_cases h2 : t ^^^ 2 ^ e = S
    · rw [h2, h]; simp
    · have : (predP xs t e = true ∧ (t ^^^ 2 ^ e < S ∨ (t ^^^ 2 ^ e = S ∧ e < 0))) ↔ (predP xs t e = true ∧ (t ^^^ 2 ^ e < S + 1 ∨ (t ^^^ 2 ^ e = S + 1 ∧ e < 0))) := by
        constructor
        · rintro ⟨h1, h2⟩; exact ⟨h1, by omega⟩
        · rintro ⟨h1, h2⟩; exact ⟨h1, by omega⟩
      simp only [this]
  · rw [if_neg (fun h => hp h.1), if_neg (fun h => hp h.1)]
theorem fwd_start (xs : List Int) (t : Nat) : fwd xs 0 0 t = if t = 0 then 1 else 0 := by
  unfold fwd
  rw [sumN_zero]
  · rfl
  · intro e _; rw [if_neg]; rintro ⟨_, h⟩; omega
/-- can k come behind S? -/
def stepP (xs : List Int) (S k : Nat) : Bool := !S.testBit k && (sub (row xs k) S == 0)
theorem or_eq_xor {S k : Nat} (h : S.testBit k = false) : S ||| 2 ^ k = S ^^^ 2 ^ k := by
  apply Nat.eq_of_testBit_eq
  intro i
  rw [Nat.testBit_or, xor_bit, Nat.testBit_two_pow]
  by_cases hi : i = k
  · subst hi; simp [h]
  · have : ¬ k = i := fun h2 => hi h2.symm
    simp [hi, this]
theorem xor_xor (S k : Nat) : S ^^^ 2 ^ k ^^^ 2 ^ k = S := by rw [Nat.xor_assoc, Nat.xor_self, Nat.xor_zero]
theorem fwd_step {xs : List Int} {S k : Nat} (hk : k < xs.length) (t : Nat) :
    fwd xs S (k + 1) t = if stepP xs S k = true ∧ t = S ||| 2 ^ k then fwd xs S k t + ways xs S else fwd xs S k t := by
  have main := sumN_upd (f := fun e => if predP xs t e = true ∧ (t ^^^ 2 ^ e < S ∨ (t ^^^ 2 ^ e = S ∧ e < k + 1)) then ways xs (t ^^^ 2 ^ e) else 0)
    (g := fun e => if predP xs t e = true ∧ (t ^^^ 2 ^ e < S ∨ (t ^^^ 2 ^ e = S ∧ e < k)) then ways xs (t ^^^ 2 ^ e) else 0) hk (fun e he hn => by
      have : (predP xs t e = true ∧ (t ^^^ 2 ^ e < S ∨ (t ^^^ 2 ^ e = S ∧ e < k + 1))) ↔ (predP xs t e = true ∧ (t ^^^ 2 ^ e < S ∨ (t ^^^ 2 ^ e = S ∧ e < k))) := by
        constructor
        · rintro ⟨h1, h2⟩; exact ⟨h1, by omega⟩
        · rintro ⟨h1, h2⟩; exact ⟨h1, by omega⟩
      simp only [this])
  by_cases hp : predP xs t k = true ∧ t ^^^ 2 ^ k = S
  · obtain ⟨hp, hS⟩ := hp
    have hb := predP_bit hp
    have hSk : S.testBit k = false := by rw [← hS, xor_bit, if_pos rfl, hb]; rfl
    have ht : t = S ||| 2 ^ k := by rw [or_eq_xor hSk, ← hS, xor_xor]
    have hst : stepP xs S k = true := by
      have h2 := hp
      simp only [predP, hb, Bool.true_and] at h2
      rw [hS] at h2
      simp only [stepP, hSk, Bool.not_false, Bool.true_and]
      exact h2
    rw [if_pos ⟨hst, ht⟩]
    simp only [hp, hS, true_and, Nat.lt_irrefl, false_or] at main
    simp only [Nat.lt_succ_self, if_true, if_false] at main
    unfold fwd
    omega
  · have hn : ¬ (stepP xs S k = true ∧ t = S ||| 2 ^ k) := by
      rintro ⟨h1, h2⟩
      simp only [stepP, Bool.and_eq_true, Bool.not_eq_true', beq_iff_eq] at h1
      have h3 := or_eq_xor h1.1
      have h4 : t ^^^ 2 ^ k = S := by rw [h2, h3, xor_xor]
      refine hp ⟨?_, h4⟩
      unfold predP
      rw [h4, h1.2, h2, Nat.testBit_or, Nat.testBit_two_pow_self]
      simp
    rw [if_neg hn]
    have e1 : (predP xs t k = true ∧ (t ^^^ 2 ^ k < S ∨ (t ^^^ 2 ^ k = S ∧ k < k + 1))) ↔ (predP xs t k = true ∧ (t ^^^ 2 ^ k < S ∨ (t ^^^ 2 ^ k = S ∧ k < k))) := by
      constructor
      · rintro ⟨h1, h2⟩
        refine ⟨h1, ?_⟩
        rcases h2 with h2 | ⟨h2, _⟩
        · exact .inl h2
        · exact absurd ⟨h1, h2⟩ hp
      · rintro ⟨h1, h2⟩; exact ⟨h1, by omega⟩
    simp only [e1] at main
    unfold fwd
    omega
theorem fwd_le (xs : List Int) (hl : xs.length ≤ 10) (S k t : Nat) : fwd xs S k t ≤ 100000000001 := by
  unfold fwd
  have := sumN_const (f := fun e => if predP xs t e = true ∧ (t ^^^ 2 ^ e < S ∨ (t ^^^ 2 ^ e = S ∧ e < k)) then ways xs (t ^^^ 2 ^ e) else 0) (k := xs.length) (c := 10000000000) (fun e _ => by
    split
    · exact ways_lt hl _
    · omega)
  have h2 : xs.length * 10000000000 ≤ 10 * 10000000000 := Nat.mul_le_mul_right _ hl
  split <;> omega

/-! ### the program's table, ideal by ideal -/
/-- what has come to s by its first k elements -/
def bwd (xs : List Int) (s k : Nat) : Nat := sumN (fun e => if (top xs s).testBit e = true then ways xs (s ^^^ 2 ^ e) else 0) k
theorem bwd_full {xs : List Int} (hg : good xs = true) {s : Nat} (hs : s < 2 ^ xs.length) (h0 : s ≠ 0) (h : holdsIdeal xs s = true) : bwd xs s xs.length = ways xs s := by
  rw [ways_pos h0]
  exact sumN_congr fun e he => (ways_top hg hs h he).symm
theorem bwd_le {xs : List Int} (hl : xs.length ≤ 10) (s : Nat) {k : Nat} (hk : k ≤ xs.length) : bwd xs s k ≤ 100000000000 := by
  have := sumN_const (f := fun e => if (top xs s).testBit e = true then ways xs (s ^^^ 2 ^ e) else 0) (k := k) (c := 10000000000) (fun e _ => by
    split
    · exact ways_lt hl _
    · omega)
  have h2 : k * 10000000000 ≤ 10 * 10000000000 := Nat.mul_le_mul_right _ (by omega)
  unfold bwd
  omega
theorem top_zero (xs : List Int) : top xs 0 = 0 := by
  apply Nat.eq_of_testBit_eq
  intro i
  rw [top, sub_testBit]; simp
def ordersN (xs : List Int) : Nat := ways xs (2 ^ xs.length - 1)
end Go.Proofs.Ytpdoheagfjeefaa

/- Lists of sets: all ideals, all antichains. -/
namespace Go.Proofs.Ytpdoheagfjeefaa
open Go.RowKit Go.WideShapes Go.ChangeShapes
set_option linter.unusedVariables false

/-- all sets below k of a kind, in order -/
def setsL (f : Nat → Bool) (k : Nat) : List Int := ((List.range k).filter f).map fun (s : Nat) => (s : Int)
theorem setsL_zero (f : Nat → Bool) : setsL f 0 = [] := rfl
theorem setsL_yes {f : Nat → Bool} {k : Nat} (h : f k = true) : setsL f (k + 1) = setsL f k ++ [(k : Int)] := by
  simp [setsL, List.range_succ, List.filter_append, h]
theorem setsL_no {f : Nat → Bool} {k : Nat} (h : f k = false) : setsL f (k + 1) = setsL f k := by
  simp [setsL, List.range_succ, List.filter_append, h]
theorem setsL_length (f : Nat → Bool) (k : Nat) : (setsL f k).length ≤ k := by
  have := List.length_filter_le f (List.range k)
  simpa [setsL] using this
theorem pow10 {n : Nat} (h : n ≤ 10) : 2 ^ n ≤ 1024 := (two_pow_le n h).2

theorem poIdeals_any (v : Value) (xs : List Int) (w : World) (hv : Ints w v xs) (hg : good xs = true) :
    Calls Try.prog 110 #[.agg #[v]] w fun (r : Ending) w' => ∃ u, r = Ending.returned u ∧ OwnI 3 w' w.heap.size u (setsL (holdsIdeal xs) (2 ^ xs.length)) ∧ Below w.heap.size w w' := by
  have hl10 := (good_length hg).2
  have HV := hid hv
  have HS := hid (good_small hg)
  obtain ⟨A, c, rfl, hA⟩ := hv
  obtain ⟨N, hN⟩ : ∃ N, 2 ^ xs.length = N := ⟨_, rfl⟩
  have wp : wrap64 ((2 : Int) ^ xs.length) = (N : Int) := by rw [wrap_pow xs.length hl10, hN]
  have hN10 : N ≤ 1024 := by rw [← hN]; exact pow10 hl10
  rw [hN]
  clear hA hg hN
  go_enter Try.func110, Try.ntmps110
  go_wp2
  go_loopw [3, 4] (fun q i wr => ∃ s : Nat, s ≤ N ∧ i = .int .i64 s ∧ OwnI 3 wr (w.heap.size + 1) q (setsL (holdsIdeal xs) s) ∧ Below (w.heap.size + 1) (w.alloc (.cells #[.slice A xs.length c] 26)) wr) (fun _ i _ => N - (intOf i).toNat)
  case atStart => exact ⟨0, Nat.zero_le _, rfl, OwnI.nil _ _ _, Below.refl _ _⟩
  case round =>
    obtain ⟨s, hs, rfl, ho, hb⟩ := hrel
    have hbox := box_cell hb 0
    have hbz : w.heap.size < wr.heap.size := by have := hb.size; simp at this; omega
    have HO := hid ho
    have HB := hid hb
    clear ho hb
    by_cases hlt : s < N
    · cases hI : holdsIdeal xs s
      · have HI := hid hI
        clear hI
        go_wp2_with (go_at_call 157; refine (poIdeal_any _ xs s _ (Ints.box HV.out HB.out) hl10 (by omega) (HS.out s)).mono ?_; rw [HI.out]; rintro e w1 ⟨rfl, hb1⟩)
        go_roundw
        case rel => exact ⟨s + 1, by omega, by go_num, by rw [setsL_no HI.out]; exact HO.out.below hb1, HB.out.trans (hb1.mono (by omega))⟩
        case measure => simp [intOf]; omega
      · have HI := hid hI
        clear hI
        go_wp2_with fail
        refine (poIdeal_any _ xs s _ (Ints.box HV.out HB.out) hl10 (by omega) (HS.out s)).mono ?_
        rw [HI.out]
        rintro e w1 ⟨rfl, hb1⟩
        have HO1 := hid (HO.out.below hb1)
        have HB1 := hid (HB.out.trans (hb1.mono (by omega)))
        have hz1 : w.heap.size + 1 ≤ w1.heap.size := by have := hb1.size; omega
        have hlen := setsL_length (holdsIdeal xs) s
        clear hb1 hbox
        go_wp2_with (at_builtin; refine wpList_append_int rfl _ _ 24 3 rfl Try.underlying24 Try.info3 (w.heap.size + 1) _ _ s rfl HO1.out rfl rfl (by omega) (by omega) ?_; rintro q2 w2 ho2 hb2)
        go_roundw
        case rel => exact ⟨s + 1, by omega, by go_num, by rw [setsL_yes HI.out]; exact ho2, HB1.out.trans hb2⟩
        case measure => simp [intOf]; omega
    · obtain rfl : s = N := by omega
      go_wp2
      go_ret
      exact ⟨_, rfl, HO.out.mono (by omega), below_box HB.out⟩
theorem setsI_any (v : Value) (xs : List Int) (w : World) (hv : Ints w v xs) (hg : good xs = true) :
    Calls Try.prog 163 #[.agg #[v], .func (.func 145) #[] #[]] w fun (r : Ending) w' => ∃ u, r = Ending.returned u ∧ OwnI 3 w' w.heap.size u (setsL (holdsIdeal xs) (2 ^ xs.length)) ∧ Below w.heap.size w w' := by
  have hl10 := (good_length hg).2
  have HV := hid hv
  have HS := hid (good_small hg)
  obtain ⟨A, c, rfl, hA⟩ := hv
  obtain ⟨N, hN⟩ : ∃ N, 2 ^ xs.length = N := ⟨_, rfl⟩
  have hN10 : 1 ≤ N ∧ N ≤ 1024 := by rw [← hN]; exact two_pow_le _ hl10
  have HW := hid (wholeSet_any xs.length hl10)
  rw [hN] at HW ⊢
  obtain ⟨hN1, hN2⟩ := hN10
  have e1 : ((N - 1 : Nat) : Int) + 1 = (N : Int) := by omega
  clear hA hg hN
  go_enter Try.func163, Try.ntmps163
  go_wp2_with (go_at_call 144; refine (HW.out _).mono ?_; rintro e w' ⟨rfl, rfl⟩)
  clear e1
  go_loopw [5, 12] (fun q i wr => ∃ s : Nat, s ≤ N ∧ i = .int .i64 s ∧ OwnI 3 wr (w.heap.size + 1) q (setsL (holdsIdeal xs) s) ∧ Below (w.heap.size + 1) (w.alloc (.cells #[.slice A xs.length c] 26)) wr) (fun _ i _ => N - (intOf i).toNat)
  case atStart => exact ⟨0, Nat.zero_le _, rfl, OwnI.nil _ _ _, Below.refl _ _⟩
  case round =>
    obtain ⟨s, hs, rfl, ho, hb⟩ := hrel
    have hbox := box_cell hb 0
    have hbz : w.heap.size < wr.heap.size := by have := hb.size; simp at this; omega
    have HO := hid ho
    have HB := hid hb
    clear ho hb
    by_cases hlt : s < N
    · cases hI : holdsIdeal xs s
      · have HI := hid hI
        clear hI
        go_wp2_with (go_at_call 145; refine (holdsIdeal_any _ xs s _ (Ints.box HV.out HB.out) hl10 (by omega) (HS.out s)).mono ?_; rw [HI.out]; rintro e w1 ⟨rfl, hb1⟩)
        go_roundw
        case rel => exact ⟨s + 1, by omega, by go_num, by rw [setsL_no HI.out]; exact HO.out.below hb1, HB.out.trans (hb1.mono (by omega))⟩
        case measure => simp [intOf]; omega
      · have HI := hid hI
        clear hI
        go_wp2_with fail
        refine (holdsIdeal_any _ xs s _ (Ints.box HV.out HB.out) hl10 (by omega) (HS.out s)).mono ?_
        rw [HI.out]
        rintro e w1 ⟨rfl, hb1⟩
        have HO1 := hid (HO.out.below hb1)
        have HB1 := hid (HB.out.trans (hb1.mono (by omega)))
        have hz1 : w.heap.size + 1 ≤ w1.heap.size := by have := hb1.size; omega
        have hlen := setsL_length (holdsIdeal xs) s
        clear hb1 hbox
        go_wp2_with (at_builtin; refine wpList_append_int rfl _ _ 24 3 rfl Try.underlying24 Try.info3 (w.heap.size + 1) _ _ s rfl HO1.out rfl rfl (by omega) (by omega) ?_; rintro q2 w2 ho2 hb2)
        go_roundw
        case rel => exact ⟨s + 1, by omega, by go_num, by rw [setsL_yes HI.out]; exact ho2, HB1.out.trans hb2⟩
        case measure => simp [intOf]; omega
    · obtain rfl : s = N := by omega
      go_wp2
      go_ret
      exact ⟨_, rfl, HO.out.mono (by omega), below_box HB.out⟩
/-- all ideals, all antichains; none where there is no poset -/
def idealsL (xs : List Int) : List Int := if good xs then setsL (holdsIdeal xs) (2 ^ xs.length) else []
def antichainsL (xs : List Int) : List Int := if good xs then setsL (holdsAntichain xs) (2 ^ xs.length) else []
theorem idealsL_length (xs : List Int) : (idealsL xs).length ≤ 1048576 := by
  unfold idealsL
  split
  · rename_i h
    have h1 := setsL_length (holdsIdeal xs) (2 ^ xs.length)
    have h2 := (two_pow_le _ (good_length h).2).2
    omega
  · simp
theorem antichainsL_length (xs : List Int) : (antichainsL xs).length ≤ 1048576 := by
  unfold antichainsL
  split
  · rename_i h
    have h1 := setsL_length (holdsAntichain xs) (2 ^ xs.length)
    have h2 := (two_pow_le _ (good_length h).2).2
    omega
  · simp
theorem idealsL_yes {xs : List Int} (h : good xs = true) : idealsL xs = setsL (holdsIdeal xs) (2 ^ xs.length) := if_pos h
theorem idealsL_no {xs : List Int} (h : good xs = false) : idealsL xs = [] := by simp [idealsL, h]
theorem antichainsL_yes {xs : List Int} (h : good xs = true) : antichainsL xs = setsL (holdsAntichain xs) (2 ^ xs.length) := if_pos h
theorem antichainsL_no {xs : List Int} (h : good xs = false) : antichainsL xs = [] := by simp [antichainsL, h]
theorem implIdealsOf_any (v : Value) (xs : List Int) (w : World) (hv : Ints w v xs) (hl : xs.length ≤ 1048576) :
    Calls Try.prog 116 #[.agg #[v]] w fun (r : Ending) w' => ∃ u, r = Ending.returned (.tuple #[u, .bool (good xs)]) ∧ OwnI 3 w' w.heap.size u (idealsL xs) ∧ (idealsL xs).length ≤ 1048576 ∧ Below w.heap.size w w' := by
  have HV := hid hv
  clear hv
  have HL := hid (idealsL_length xs)
  cases hg : good xs
  · have HG := hid hg
    have HN := hid (idealsL_no hg)
    clear hg
    go_enter Try.func116, Try.ntmps116
    go_wp2_with (go_at_call 89; refine (implIsPoset_any _ xs _ (HV.out.alloc _) hl).mono ?_; rw [HG.out]; rintro e w1 ⟨rfl, hb1⟩)
    go_ret2
    exact ⟨_, rfl, by rw [HN.out]; exact OwnI.nil _ _ _, HL.out, ((Below.refl _ _).alloc (Nat.le_refl _) _).trans (hb1.mono (by simp))⟩
  · have HG := hid hg
    have HY := hid (idealsL_yes hg)
    clear hg
    go_enter Try.func116, Try.ntmps116
    go_wp2_with fail
    refine (implIsPoset_any _ xs _ (HV.out.alloc _) hl).mono ?_
    rw [HG.out]
    rintro e w1 ⟨rfl, hb1⟩
    have hbox := ((At.new w v 26).below hb1).1
    have HB1 := hid (below_to (below_alloc (Below.refl _ w) _) hb1)
    have HV1 := hid ((HV.out.alloc _).below hb1)
    have hz := HB1.out.size
    clear hb1
    go_wp2_with (go_at_call 163; refine (setsI_any _ xs _ HV1.out HG.out).mono ?_; rintro e w2 ⟨u, rfl, ho, hb2⟩)
    go_ret2
    exact ⟨_, rfl, by rw [HY.out]; exact ho.mono hz, HL.out, below_to HB1.out hb2⟩
theorem implCountIdeals_any (v : Value) (xs : List Int) (w : World) (hv : Ints w v xs) (hl : xs.length ≤ 1048576) :
    Calls Try.prog 44 #[.agg #[v]] w fun r w' => r = .returned (.tuple #[.int .i64 (idealsL xs).length, .bool (good xs)]) ∧ Below w.heap.size w w' := by
  have HV := hid hv
  clear hv
  go_enter Try.func44, Try.ntmps44
  go_wp2_with fail
  refine (implIdealsOf_any _ xs _ (HV.out.alloc _) hl).mono ?_
  rintro e w1 ⟨u, rfl, ho, hll, hb1⟩
  obtain ⟨A, c, rfl, -⟩ := ho.shape
  have HB := hid hb1
  clear hb1 ho
  go_wp2
  go_ret2
  exact ⟨rfl, ((Below.refl _ _).alloc (Nat.le_refl _) _).trans (HB.out.mono (by simp))⟩
end Go.Proofs.Ytpdoheagfjeefaa

/- CountOrders: the two tables. -/
namespace Go.Proofs.Ytpdoheagfjeefaa
open Go.RowKit Go.WideShapes Go.ChangeShapes
set_option linter.unusedVariables false

def ansN (xs : List Int) (f : List Int → Nat) : Int := if good xs then (f xs : Int) else 0
theorem ansN_no {xs : List Int} {f : List Int → Nat} (h : good xs = false) : ansN xs f = 0 := by simp [ansN, h]
theorem ansN_yes {xs : List Int} {f : List Int → Nat} (h : good xs = true) : ansN xs f = (f xs : Int) := by simp [ansN, h]
/-! ### the list of all sets of a kind, by its places -/
theorem setsL_sorted (f : Nat → Bool) (N : Nat) : ((List.range N).filter f).Pairwise (· < ·) := List.Pairwise.filter _ List.pairwise_lt_range
theorem setsL_at {f : Nat → Bool} {N j : Nat} (hj : j < (setsL f N).length) : ∃ s : Nat, (setsL f N).getD j 0 = (s : Int) ∧ s < N ∧ f s = true ∧ (∀ t : Nat, (t : Int) ∈ (setsL f N).take j → t < s) ∧ (∀ t : Nat, t < s → f t = true → (t : Int) ∈ (setsL f N).take j) := by
  have hj' : j < ((List.range N).filter f).length := by simpa [setsL] using hj
  have hmem : ((List.range N).filter f)[j] ∈ (List.range N).filter f := List.getElem_mem hj'
  have hmem2 := List.mem_filter.1 hmem
  have hP := List.pairwise_iff_getElem.1 (setsL_sorted f N)
  refine ⟨((List.range N).filter f)[j], ?_, List.mem_range.1 hmem2.1, hmem2.2, ?_, ?_⟩
  · simp [setsL, List.getD, hj']
  · intro t ht
    unfold setsL at ht
    rw [← List.map_take, List.mem_map] at ht
    obtain ⟨a, ha, hat⟩ := ht
    have : a = t := by exact_mod_cast hat
    subst this
    obtain ⟨i, hi, e⟩ := List.mem_iff_getElem.1 ha
    rw [List.getElem_take] at e
    have hi2 : i < j := by rw [List.length_take] at hi; omega
    have := hP i j (by omega) hj' hi2
    omega
  · intro t ht hft
    have hts : t ∈ (List.range N).filter f := List.mem_filter.2 ⟨List.mem_range.2 (by have := List.mem_range.1 hmem2.1; omega), hft⟩
    obtain ⟨i, hi, e⟩ := List.mem_iff_getElem.1 hts
    have hij : i < j := by
      rcases Nat.lt_or_ge i j with h | h
      · exact h
      · exfalso
        rcases Nat.lt_or_eq_of_le h with h2 | h2
        · have := hP j i hj' hi h2; omega
        · subst h2; omega
    unfold setsL
    rw [← List.map_take, List.mem_map]
    refine ⟨t, ?_, rfl⟩
    rw [List.mem_take_iff_getElem]
    exact ⟨i, by omega, e⟩
theorem take_succ_mem {I : List Int} {j : Nat} (hj : j < I.length) (t : Int) : t ∈ I.take (j + 1) ↔ t ∈ I.take j ∨ t = I.getD j 0 := by
  have e : I.take (j + 1) = I.take j ++ [I.getD j 0] := by
    rw [List.take_succ_eq_append_getElem hj]; simp [List.getD, hj]
  rw [e, List.mem_append, List.mem_singleton]
def bk (xs I : List Int) (j t : Nat) : Nat := if t = 0 then 1 else if (t : Int) ∈ I.take j then ways xs t else 0
def ik (xs I : List Int) (j s k t : Nat) : Nat := if t = s ∧ s ≠ 0 then bwd xs s k else bk xs I j t
theorem bk_ways {xs I : List Int} {j t : Nat} (h : t = 0 ∨ (t : Int) ∈ I.take j) : bk xs I j t = ways xs t := by
  unfold bk
  by_cases h0 : t = 0
  · subst h0; rw [if_pos rfl, ways_zero]
  · rw [if_neg h0, if_pos (h.resolve_left h0)]
theorem holdsIdeal_zero (xs : List Int) : holdsIdeal xs 0 = true := holdsIdeal_row.2 fun e _ h => by simp at h
theorem holdsIdeal_whole {xs : List Int} (hg : good xs = true) : holdsIdeal xs (2 ^ xs.length - 1) = true := holdsIdeal_row.2 fun e he _ j hj => by
  rw [Nat.testBit_two_pow_sub_one]
  have := testBit_lt (row_lt hg he).2 hj
  simp; omega
theorem top_sub {xs : List Int} {s k : Nat} (h : (top xs s).testBit k = true) : s.testBit k = true := by
  unfold top at h
  rw [sub_testBit, Bool.and_eq_true] at h
  exact h.1
theorem ik_step {xs I : List Int} {j s k t : Nat} (hg : good xs = true) (hk : k < xs.length) (hI : holdsIdeal xs s = true) (hb : (top xs s).testBit k = true)
    (h2 : ∀ t : Nat, t < s → holdsIdeal xs t = true → (t : Int) ∈ I.take j) :
    ik xs I j s (k + 1) t = if t = s then ik xs I j s k s + ik xs I j s k (s ^^^ 2 ^ k) else ik xs I j s k t := by
  obtain ⟨h3, h4⟩ := top_down hg hI hk hb
  have hlt := xor_lt_self h4
  have hs0 : s ≠ 0 := by rintro rfl; simp at h4
  unfold ik
  by_cases ht : t = s
  · subst ht
    rw [if_pos ⟨rfl, hs0⟩, if_pos rfl, if_pos ⟨rfl, hs0⟩, if_neg (by omega)]
    rw [bk_ways (.inr (h2 _ hlt h3))]
    simp [bwd, sumN, hb]
  · rw [if_neg (fun h => ht h.1), if_neg ht, if_neg (fun h => ht h.1)]
theorem ik_no {xs I : List Int} {j s k t : Nat} (hb : (top xs s).testBit k = false) : ik xs I j s (k + 1) t = ik xs I j s k t := by
  unfold ik bwd
  simp [sumN, hb]
theorem ik_start {xs I : List Int} {j s t : Nat} (h1 : ∀ t : Nat, (t : Int) ∈ I.take j → t < s) : ik xs I j s 0 t = bk xs I j t := by
  unfold ik
  by_cases h : t = s ∧ s ≠ 0
  · rw [if_pos h]
    unfold bk
    rw [if_neg (by omega), if_neg]
    · rfl
    · intro hm; have := h1 t hm; omega
  · rw [if_neg h]
theorem ik_end {xs I : List Int} {j s t : Nat} (hg : good xs = true) (hj : j < I.length) (hs : I.getD j 0 = (s : Int)) (hsl : s < 2 ^ xs.length) (hI : holdsIdeal xs s = true) : ik xs I j s xs.length t = bk xs I (j + 1) t := by
  unfold ik
  by_cases h : t = s ∧ s ≠ 0
  · rw [if_pos h, bwd_full hg hsl h.2 hI, bk_ways]
    · rw [h.1]
    · right; rw [take_succ_mem hj, hs, h.1]; exact .inr rfl
  · rw [if_neg h]
    unfold bk
    by_cases h0 : t = 0
    · rw [if_pos h0, if_pos h0]
    · rw [if_neg h0, if_neg h0]
      have : (t : Int) ∈ I.take (j + 1) ↔ (t : Int) ∈ I.take j := by
        rw [take_succ_mem hj, hs]
        constructor
        · rintro (h1 | h1)
          · exact h1
          · have : t = s := by omega
            subst this
            exact absurd ⟨rfl, h0⟩ h
        · exact .inl
      simp only [this]
theorem bk_le {xs I : List Int} (hl : xs.length ≤ 10) (j t : Nat) : bk xs I j t ≤ 10000000000 := by
  unfold bk
  split
  · omega
  · split
    · exact ways_lt hl t
    · omega
theorem ik_le {xs I : List Int} (hl : xs.length ≤ 10) (j s t : Nat) {k : Nat} (hk : k ≤ xs.length) : ik xs I j s k t ≤ 100000000000 := by
  unfold ik
  split
  · exact bwd_le hl s hk
  · have := bk_le (xs := xs) (I := I) hl j t; omega
theorem bk_last {xs : List Int} (hg : good xs = true) : bk xs (setsL (holdsIdeal xs) (2 ^ xs.length)) (setsL (holdsIdeal xs) (2 ^ xs.length)).length (2 ^ xs.length - 1) = ordersN xs := by
  have h1 := (two_pow_le xs.length (good_length hg).2).1
  refine bk_ways (.inr ?_)
  rw [List.take_length]
  unfold setsL
  exact List.mem_map.2 ⟨_, List.mem_filter.2 ⟨List.mem_range.2 (by omega), holdsIdeal_whole hg⟩, rfl⟩
theorem top_lt {xs : List Int} {s n : Nat} (h : s < n) : top xs s < n := Nat.lt_of_le_of_lt (sub_le _ _) h
end Go.Proofs.Ytpdoheagfjeefaa

/- The model's cursor of draws: a poset and an ideal. -/
namespace Go.Proofs.Ytpdoheagfjeefaa
open Go.RowKit Go.WideShapes Go.ChangeShapes
set_option linter.unusedVariables false

theorem and_sub (s : Nat) (hs : s < 1024) (y : Int) : ∃ n : Nat, n ≤ s ∧ bits .and .i64 (s : Int) y = (n : Int) := by
  refine ⟨(BitVec.ofInt 64 (s : Int) &&& BitVec.ofInt 64 y).toNat, ?_, ?_⟩
  · rw [BitVec.toNat_and, ofInt_i64 s (by omega)]; exact Nat.and_le_left
  · have h : (BitVec.ofInt 64 (s : Int) &&& BitVec.ofInt 64 y).toNat ≤ s := by rw [BitVec.toNat_and, ofInt_i64 s (by omega)]; exact Nat.and_le_left
    show IntKind.i64.wrap ((BitVec.ofInt 64 (s : Int) &&& BitVec.ofInt 64 y).toNat : Int) = _
    rw [IntKind.wrap_i64]; omega
/-- the cursor, the two boxes and the list of a poset drawn; the cursor stands at A, or at B already if b -/
def IW (ti tp : TypeId) (w : World) (g A B6 : Nat) (v : Value) (xs : List Int) (W : World) : Prop :=
  Drawn w g A W ∧ Blk W w.heap.size tp #[.slice none 0 0] ∧ Blk W B6 tp #[v] ∧ OwnI ti W (w.heap.size + 1) v xs
theorem IW.below {ti tp : TypeId} {w W W' : World} {g A B6 : Nat} {v : Value} {xs : List Int} (h : IW ti tp w g A B6 v xs W) (hb : Below W.heap.size W W') : IW ti tp w g A B6 v xs W' :=
  ⟨h.1.below hb, h.2.1.below hb h.2.1.lt, h.2.2.1.below hb h.2.2.1.lt, h.2.2.2.below hb⟩
theorem IW.drawn {ti tp : TypeId} {w W W' : World} {g A A' B6 : Nat} {v : Value} {xs : List Int} (h : IW ti tp w g A B6 v xs W) (hd : Drawn W g A' W') (hg : g < w.heap.size) (hB : w.heap.size < B6) : IW ti tp w g A' B6 v xs W' :=
  ⟨⟨hd.cur, h.1.turned.trans hd.turned⟩, h.2.1.turned hd.turned (Or.inr (by omega)), h.2.2.1.turned hd.turned (Or.inr (by omega)), h.2.2.2.turnedLow hd.turned (by omega)⟩
set_option maxHeartbeats 3200000 in
theorem ideal_any (g A most : Nat) (w : World) (h : Cur w g A) (hA : A < 700000000000) (hm1 : 1 ≤ most) (hm : most ≤ 10) :
    Calls Try.prog 95 #[.pointer (some ⟨g, 0, none⟩), .int .i64 most] w fun (r : Ending) w' => ∃ u xs s, r = .returned (.tuple #[.agg #[u], .int .i64 s]) ∧ (Lit.int .i64 s).wf = true ∧ OwnI 3 w' w.heap.size u xs ∧ xs.length ≤ 21 ∧ Drawn w g (A + 240) w' := by
  have HC := hid h
  have hgl := h.lt
  clear h
  go_enter Try.func95, Try.ntmps95
  go_wp2_with fail
  have HD0 := hid ((Drawn.mk HC.out (TurnedIn.refl _ _ _)).below (below_alloc (Below.refl _ w) (.cells #[.slice none 0 0] 26)))
  have HA0 := hid (Blk.new w 26 #[.slice none 0 0])
  refine (poset_any g A most _ HD0.out.cur (by omega) hm1 hm).mono ?_
  rintro e w1 ⟨u1, xs, rfl, ho, hl2, hd1⟩
  have HD1 := hid (Drawn.mk hd1.cur (HD0.out.turned.trans hd1.turned))
  have HA1 := hid (HA0.out.turned hd1.turned (Or.inr (by omega)))
  have HO1 := hid (ho.mono (show w.heap.size + 1 ≤ _ by simp))
  have hz1 : w.heap.size + 1 ≤ w1.heap.size := by have := hd1.turned.size; simpa using this
  clear ho hd1 HD0 HA0
  obtain ⟨B6, hB6⟩ : ∃ B6, w1.heap.size = B6 := ⟨_, rfl⟩
  obtain ⟨vA, vc, rfl, hv⟩ := HO1.out.shape
  clear hv
  have HD2 := hid (HD1.out.below (below_alloc (Below.refl _ w1) (.cells #[.slice vA xs.length vc] 26)))
  have HA2 := hid (HA1.out.alloc (.cells #[.slice vA xs.length vc] 26))
  have HB2 := hid (Blk.new w1 26 #[.slice vA xs.length vc])
  have HO2 := hid (HO1.out.alloc (.cells #[.slice vA xs.length vc] 26))
  have hbox := (Blk.new w1 26 #[.slice vA xs.length vc]).cell 0
  go_wp2_with fail
  clear hbox HD1 HA1 HO1
  rw [hB6] at HB2
  refine (setOf_any g (A + 210) _ xs _ HD2.out.cur (by omega) HO2.out.ints (by omega)).mono ?_
  rintro e w3 ⟨s, hwf, rfl, hd3⟩
  have HD3 := hid (Drawn.mk hd3.cur (HD2.out.turned.trans hd3.turned))
  have HA3 := hid (HA2.out.turned hd3.turned (Or.inr (by omega)))
  have HB3 := hid (HB2.out.turned hd3.turned (Or.inr (by omega)))
  have HO3 := hid (HO2.out.turnedLow hd3.turned (by omega))
  have HW := hid hwf
  clear hd3 hwf HD2 HA2 HB2 HO2
  have t3 := HB3.out.cell 0
  go_wp2_with fail
  refine (poGood_any _ xs _ HO3.out.ints (by omega)).mono ?_
  rintro e w4 ⟨rfl, hb4⟩
  have HD4 := hid (HD3.out.below hb4)
  have HA4 := hid (HA3.out.below hb4 HA3.out.lt)
  have HB4 := hid (HB3.out.below hb4 HB3.out.lt)
  have HO4 := hid (HO3.out.below hb4)
  clear hb4 HD3 HA3 HB3 HO3 t3
  have t4 := HB4.out.cell 0
  cases hg : good xs
  · skip
    have a1 := HA4.out.cell 0
    have a2 := HA4.out.frozen 0
    go_wp2
    refine bodyPost_ret (v := .tuple #[.agg #[.slice vA xs.length vc], .int .i64 s]) (by simp [results, Try.results95, go_sem, a1]) rfl ⟨_, xs, _, rfl, HW.out, HO4.out.box (Nat.le_refl _) _, hl2, (HD4.out.box hgl _ (Nat.le_refl _) _).le (by omega)⟩
  · have HG := hid hg
    have hl10 := (good_length hg).2
    clear hg
    go_wp2_with fail
    refine (poSet_any _ xs s _ HO4.out.ints hl10).mono ?_
    rintro e w5 ⟨rfl, hb5⟩
    have HD5 := hid (HD4.out.below hb5)
    have HA5 := hid (HA4.out.below hb5 HA4.out.lt)
    have HB5 := hid (HB4.out.below hb5 HB4.out.lt)
    have HO5 := hid (HO4.out.below hb5)
    clear hb5 HD4 HA4 HB4 HO4 t4
    have t5 := HB5.out.cell 0
    cases hs : (decide (0 ≤ s) && decide (s ≤ (2 ^ xs.length - 1 : Nat)))
    · clear hs
      have a1 := HA5.out.cell 0
      have a2 := HA5.out.frozen 0
      go_wp2
      refine bodyPost_ret (v := .tuple #[.agg #[.slice vA xs.length vc], .int .i64 s]) (by simp [results, Try.results95, go_sem, a1]) rfl ⟨_, xs, _, rfl, HW.out, HO5.out.box (Nat.le_refl _) _, hl2, (HD5.out.box hgl _ (Nat.le_refl _) _).le (by omega)⟩
    · simp only [Bool.and_eq_true, decide_eq_true_eq] at hs
      obtain ⟨S, rfl⟩ := Int.eq_ofNat_of_zero_le hs.1
      have h2n := two_pow_le xs.length hl10
      have hS : S < 1024 := by omega
      clear hs h2n
      go_wp2_with fail
      refine (one_any g (A + 220) 12 _ HD5.out.cur (by omega)).mono ?_
      rintro e w6 ⟨b, rfl, hc6, ht6⟩
      have HD6 := hid (Drawn.mk hc6 (HD5.out.turned.trans ht6))
      have HA6 := hid (HA5.out.turned ht6 (Or.inr (by omega)))
      have HB6 := hid (HB5.out.turned ht6 (Or.inr (by omega)))
      have HO6 := hid (HO5.out.turnedLow ht6 (by omega))
      clear hc6 ht6 HD5 HA5 HB5 HO5 t5
      have t6 := HB6.out.cell 0
      cases b
      · go_wp2
        have HI6 : Hid (IW 3 26 w g (A + 222) B6 (.slice vA xs.length vc) xs w6) := hid ⟨HD6.out, HA6.out, HB6.out, HO6.out⟩
        have hB6g : w.heap.size < B6 := by omega
        clear HD6 HA6 HB6 HO6
        go_region_held3 (fun W => W.cell? ⟨B6, 0, none⟩ = some (.slice vA xs.length vc) ∧ Hid (∃ a, (W = w6.drew ∧ a = 222 ∨ a = 232) ∧ IW 3 26 w g (A + a) B6 (.slice vA xs.length vc) xs W)) (first | exact ⟨t6, hid ⟨222, Or.inl ⟨rfl, rfl⟩, HI6.out.below (below_drewN (Below.refl _ _) 1)⟩⟩ | exact ⟨HI8.out.2.2.1.cell 0, hid ⟨232, Or.inr rfl, HI8.out⟩⟩ | exact ⟨HI9.out.2.2.1.cell 0, hid ⟨232, Or.inr rfl, HI9.out⟩⟩ | exact ⟨HI10.out.2.2.1.cell 0, hid ⟨232, Or.inr rfl, HI10.out⟩⟩) (first | (go_at_call 148; refine (setOf_any g (A + 222) _ xs _ (HI6.out.below (below_drewN (Below.refl _ _) 1)).1.cur (by omega) (HI6.out.below (below_drewN (Below.refl _ _) 1)).2.2.2.ints (by omega)).mono ?_; rintro e w8 ⟨s2, hwf2, rfl, hd8⟩; have HI8 := hid ((HI6.out.below (below_drewN (Below.refl _ _) 1)).drawn hd8 hgl hB6g); obtain ⟨n8, hn8, he8⟩ := and_sub S hS s2; clear hd8 hwf2) | (go_at_call 151; refine (poTop_any _ xs n8 _ HI8.out.2.2.2.ints hl10 (by omega) (good_small HG.out _)).mono ?_; rintro e w9 ⟨rfl, hb9⟩; have HI9 := hid (HI8.out.below hb9); have htl := top_lt (xs := xs) (show n8 < 1024 by omega); clear hb9) | (go_at_call 150; refine (poDown_any _ xs (top xs n8) _ HI9.out.2.2.2.ints hl10 htl (good_small HG.out _)).mono ?_; rintro e w10 ⟨rfl, hb10⟩; have HI10 := hid (HI9.out.below hb10); clear hb10))
        have hdl : down xs (top xs n8) < 1024 := Nat.or_lt_two_pow (n := 10) htl (underN_lt xs _ (good_small HG.out _) _ (Nat.le_refl _))
        obtain ⟨z, hz⟩ : ∃ z, down xs (top xs n8) = z := ⟨_, rfl⟩
        rw [hz] at hdl ⊢
        have a0 := HI10.out.2.2.1.cell 0
        have a1 := HI10.out.2.1.cell 0
        have a2 := HI10.out.2.1.frozen 0
        go_wp2
        refine bodyPost_ret (v := .tuple #[.agg #[.slice vA xs.length vc], .int .i64 z]) (by simp [results, Try.results95, go_sem, a1]) rfl ⟨_, xs, _, rfl, wf_i64 _ (by omega) (by omega), HI10.out.2.2.2.box (Nat.le_refl _) _, hl2, (HI10.out.1.box hgl _ (Nat.le_refl _) _).le (by omega)⟩
      · skip
        have a1 := HA6.out.cell 0
        have a2 := HA6.out.frozen 0
        go_wp2
        refine bodyPost_ret (v := .tuple #[.agg #[.slice vA xs.length vc], .int .i64 S]) (by simp [results, Try.results95, go_sem, a1]) rfl ⟨_, xs, _, rfl, HW.out, HO6.out.box (Nat.le_refl _) _, hl2, (HD6.out.box hgl _ (Nat.le_refl _) _).le (by omega)⟩
end Go.Proofs.Ytpdoheagfjeefaa

/- Draws of the model: posets, sides, sizes. -/
namespace Go.Proofs.Ytpdoheagfjeefaa
open Go.RowKit Go.WideShapes Go.ChangeShapes
set_option linter.unusedVariables false

theorem BytesB.below {w w' : World} {B : Nat} {v : Value} {xs : List Int} (h : BytesB w B v xs) (hb : Below w.heap.size w w') : BytesB w' B v xs := h.turned (TurnedIn.of_below (E := 0) hb)
theorem BytesB.up {w : World} {B B' : Nat} {v : Value} {xs : List Int} (h : BytesB w B v xs) (hb : B ≤ B') : BytesB w B' v xs := by
  obtain ⟨A, c, rfl, hr, h⟩ := h
  refine ⟨A, c, rfl, hr, fun hx => ?_⟩
  obtain ⟨b, o, e, h1, h2⟩ := h hx
  exact ⟨b, o, e, Nat.lt_of_lt_of_le h1 hb, h2⟩
/-- a new cursor -/
theorem Cur.new (w : World) (v : Value) (bs : List Int) (g : Nat) (hg : g = w.heap.size) (hb : BytesB w w.heap.size v bs) (hl : bs.length ≤ 1048576) :
    Cur (w.alloc (.cells #[v, .int .i64 0, .int .u64 0] 79)) g 0 := by
  subst hg
  exact ⟨v, bs, 0, 0, hb.below (below_alloc (Below.refl _ _) _), hl, Nat.le_refl _, by omega, by omega, Blk.new w _ _⟩
/-- what is drawn by a cursor of the call's own leaves all that was there -/
theorem Drawn.belowAll {w w1 w' : World} {g A : Nat} (h : Drawn w1 g A w') (hb : Below w.heap.size w w1) (hg : w.heap.size ≤ g) : Below w.heap.size w w' := below_turned hb h.turned hg
end Go.Proofs.Ytpdoheagfjeefaa
