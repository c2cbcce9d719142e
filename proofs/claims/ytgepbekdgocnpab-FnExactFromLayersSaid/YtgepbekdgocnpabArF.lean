/- Layers of an array, and the array of given layers. No program is named here. -/
import Derived.Test.YtgepbekdgocnpabAr
import Derived.Test.YtgepbekdgocnpabChL
namespace Go.Proofs.Ytgepbekdgocnpab
set_option linter.unusedVariables false

/-- how many of the first k do not hold -/
def cntF (a : Nat → Bool) : Nat → Nat
  | 0 => 0
  | k + 1 => if a k then cntF a k else cntF a k + 1
theorem cntF_le (a : Nat → Bool) (k : Nat) : cntF a k ≤ k := by
  induction k with
  | zero => exact Nat.le_refl _
  | succ k ih => rw [cntF]; split <;> omega
theorem cntF_mono (a : Nat → Bool) {i k : Nat} (h : i ≤ k) : cntF a i ≤ cntF a k := by
  induction k with
  | zero => obtain rfl : i = 0 := by omega
            exact Nat.le_refl _
  | succ k ih =>
    by_cases e : i = k + 1
    · subst e; exact Nat.le_refl _
    · have := ih (by omega); rw [cntF]; split <;> omega
theorem cntF_imp {a b : Nat → Bool} {k : Nat} (h : ∀ j, j < k → a j = true → b j = true) : cntF b k ≤ cntF a k := by
  induction k with
  | zero => exact Nat.le_refl _
  | succ k ih =>
    have h1 := ih fun j hj => h j (by omega)
    have h2 := h k (by omega)
    rw [cntF, cntF]
    cases ha : a k
    · cases hb : b k <;> simp <;> omega
    · rw [h2 ha]; simpa using h1
theorem cntF_up {a : Nat → Bool} {k j : Nat} (hm : ∀ i, i + 1 < k → a i = true → a (i + 1) = true) (hj : j < k) : cntF a k ≤ j ↔ a j = true := by
  have up : ∀ d i, i + d < k → a i = true → a (i + d) = true := by
    intro d
    induction d with
    | zero => intro i _ h; exact h
    | succ d ih => intro i hi h; have := ih i (by omega) h; exact hm (i + d) (by omega) this
  constructor
  · intro h
    cases ha : a j
    · exfalso
      have hno : ∀ i, i ≤ j → a i = false := fun i hi => by
        cases hc : a i
        · rfl
        · have := up (j - i) i (by omega) hc
          rw [show i + (j - i) = j by omega, ha] at this; cases this
      have he : ∀ i, i ≤ j + 1 → cntF a i = i := by
        intro i
        induction i with
        | zero => intro _; rfl
        | succ i ih => intro hi; rw [cntF, hno i (by omega), ih (by omega)]; simp
      have h1 := cntF_mono a (show j + 1 ≤ k by omega)
      rw [he (j + 1) (Nat.le_refl _)] at h1
      omega
    · rfl
  · intro h
    have : ∀ i, j ≤ i → i ≤ k → cntF a i ≤ j := by
      intro i
      induction i with
      | zero => intro _ _; exact Nat.zero_le _
      | succ i ih =>
        intro h1 h2
        by_cases e : i + 1 = j
        · rw [e]; exact cntF_le a j
        · have h3 := up (i - j) j (by omega) h
          rw [show j + (i - j) = i by omega] at h3
          rw [cntF, h3, if_pos rfl]
          exact ih (by omega) (by omega)
    exact this k (by omega) (Nat.le_refl _)
/-- the bit of any number, as the machine has it -/
def bitI (s : Int) (e : Nat) : Bool := decide (s / 2 ^ e % 2 = 1)
theorem bitI_nat (s e : Nat) : bitI (s : Int) e = s.testBit e := by
  unfold bitI
  rw [Nat.testBit_eq_decide_div_mod_eq]
  congr 1
  apply propext
  have h1 : ((s : Int) / 2 ^ e) = ((s / 2 ^ e : Nat) : Int) := by simp
  rw [h1]
  omega
/-- the array that has such layers -/
def flX (n : Nat) (L : List Int) : List Int := mkL n fun e => cntF (fun j => bitI (L.getD j 0) e) L.length
def lyOk (xs L : List Int) (j : Nat) : Bool := (decide (0 ≤ L.getD j 0) && decide (L.getD j 0 ≤ (2 ^ xs.length - 1 : Nat))) && holdsIdeal xs (L.getD j 0).toNat && (decide (j = 0) || sub (L.getD (j - 1) 0).toNat (L.getD j 0).toNat == 0)
def okL0 (xs L : List Int) : Bool := good xs && decide (L.length ≤ 20)
def okFL (xs L : List Int) : Bool := okL0 xs L && (List.range L.length).all (lyOk xs L)
theorem okFL_no0 {xs L : List Int} (h : okL0 xs L = false) : okFL xs L = false := by simp [okFL, h]
theorem okFL_no {xs L : List Int} {j : Nat} (hj : j < L.length) (h : lyOk xs L j = false) : okFL xs L = false := by
  cases hc : okFL xs L
  · rfl
  · simp only [okFL, Bool.and_eq_true] at hc
    have := List.all_eq_true.1 hc.2 j (List.mem_range.2 hj)
    rw [h] at this; cases this
theorem okFL_yes {xs L : List Int} (h0 : okL0 xs L = true) (h : ∀ j, j < L.length → lyOk xs L j = true) : okFL xs L = true := by
  simp only [okFL, Bool.and_eq_true]
  exact ⟨h0, List.all_eq_true.2 fun e he => h e (List.mem_range.1 he)⟩
theorem okFL_all {xs L : List Int} (h : okFL xs L = true) : okL0 xs L = true ∧ ∀ j, j < L.length → lyOk xs L j = true := by
  simp only [okFL, Bool.and_eq_true] at h
  exact ⟨h.1, fun e he => List.all_eq_true.1 h.2 e (List.mem_range.2 he)⟩
theorem lyOk_iff {xs L : List Int} {j : Nat} : lyOk xs L j = true ↔ (0 ≤ L.getD j 0 ∧ L.getD j 0 ≤ (2 ^ xs.length - 1 : Nat)) ∧ holdsIdeal xs (L.getD j 0).toNat = true ∧ (j = 0 ∨ sub (L.getD (j - 1) 0).toNat (L.getD j 0).toNat = 0) := by
  simp only [lyOk, Bool.and_eq_true, Bool.or_eq_true, decide_eq_true_eq, beq_iff_eq]
  constructor
  · rintro ⟨⟨h1, h2⟩, h3⟩; exact ⟨h1, h2, h3⟩
  · rintro ⟨h1, h2, h3⟩; exact ⟨⟨h1, h2⟩, h3⟩
theorem layN_testBit (f : List Int) (j : Int) (n e : Nat) : (layN f j n).testBit e = (decide (e < n) && decide (f.getD e 0 ≤ j)) := rowN_testBit _ _ _
theorem layN_lt (f : List Int) (j : Int) (n : Nat) : layN f j n < 2 ^ n := rowN_lt _ _
theorem layN_ideal {xs f : List Int} {b : Int} (hg : good xs = true) (h : Rise xs f b) (j : Int) : holdsIdeal xs (layN f j xs.length) = true := by
  rw [holdsIdeal_iff]
  intro e he hb
  rw [sub_eq_zero]
  intro i hi
  have hie := good_bit hg he hi
  rw [layN_testBit] at hb ⊢
  simp only [Bool.and_eq_true, decide_eq_true_eq] at hb ⊢
  have := h.up e i he (by omega) hi
  omega
theorem flX_len (n : Nat) (L : List Int) : (flX n L).length = n := mkL_length _ _
theorem flX_at {n e : Nat} {L : List Int} (h : e < n) : (flX n L).getD e 0 = (cntF (fun j => bitI (L.getD j 0) e) L.length : Nat) := mkL_getD h
theorem lyOk_all {xs L : List Int} (hg : good xs = true) (h : ∀ j, j < L.length → lyOk xs L j = true) : Rise xs (flX xs.length L) L.length ∧ layL (flX xs.length L) xs.length L.length = L := by
  have hz : ∀ j, j < L.length → ∃ z : Nat, L.getD j 0 = (z : Int) ∧ z < 2 ^ xs.length ∧ holdsIdeal xs z = true := fun j hj => by
    obtain ⟨⟨h1, h2⟩, h3, -⟩ := lyOk_iff.1 (h j hj)
    obtain ⟨z, hz⟩ := Int.eq_ofNat_of_zero_le h1
    rw [hz] at h2 h3
    have := Nat.one_le_two_pow (n := xs.length)
    exact ⟨z, hz, by omega, h3⟩
  have hmono : ∀ e i, i + 1 < L.length → bitI (L.getD i 0) e = true → bitI (L.getD (i + 1) 0) e = true := fun e i hi hb => by
    obtain ⟨z1, e1, -, -⟩ := hz i (by omega)
    obtain ⟨z2, e2, -, -⟩ := hz (i + 1) hi
    obtain ⟨-, -, h3⟩ := lyOk_iff.1 (h (i + 1) hi)
    rcases h3 with h3 | h3
    · omega
    · rw [show i + 1 - 1 = i by omega, e1, e2, Int.toNat_natCast, Int.toNat_natCast, sub_eq_zero] at h3
      rw [e1, bitI_nat] at hb
      rw [e2, bitI_nat]
      exact h3 e hb
  refine ⟨⟨flX_len _ _, fun j hj => ?_, fun i j hi hj hb => ?_⟩, ?_⟩
  · rw [flX_at hj]
    have := cntF_le (fun i => bitI (L.getD i 0) j) L.length
    omega
  · rw [flX_at hi, flX_at hj]
    have : cntF (fun k => bitI (L.getD k 0) j) L.length ≤ cntF (fun k => bitI (L.getD k 0) i) L.length := cntF_imp fun k hk ha => by
      obtain ⟨z, e1, -, e3⟩ := hz k hk
      rw [e1, bitI_nat] at ha ⊢
      exact (sub_eq_zero _ _).1 ((holdsIdeal_iff xs z).1 e3 i hi ha) j hb
    omega
  · refine List.ext_getElem (by simp [layL, mkL]) fun j h1 h2 => ?_
    obtain ⟨z, e1, e2, -⟩ := hz j h2
    have e0 : L[j] = (z : Int) := by rw [← e1]; simp [List.getD, h2]
    rw [e0]
    have e4 : layN (flX xs.length L) (j : Int) xs.length = z := by
      apply Nat.eq_of_testBit_eq
      intro e
      rw [layN_testBit]
      by_cases he : e < xs.length
      · rw [flX_at he]
        have := cntF_up (a := fun k => bitI (L.getD k 0) e) (k := L.length) (j := j) (hmono e) h2
        have e5 : (bitI (L.getD j 0) e = true) ↔ z.testBit e = true := by rw [e1, bitI_nat]
        rw [Bool.eq_iff_iff]
        simp only [Bool.and_eq_true, decide_eq_true_eq]
        constructor
        · rintro ⟨-, h3⟩; exact e5.1 (this.1 (by omega))
        · intro h3; exact ⟨he, by have := this.2 (e5.2 h3); omega⟩
      · have : z.testBit e = false := by
          cases hc : z.testBit e
          · rfl
          · exact absurd (testBit_lt e2 hc) he
        rw [this]; simp [he]
    simp [layL, mkL, e4]
theorem lay_ok {xs L f : List Int} {b : Int} (hg : good xs = true) (h : Rise xs f b) (hL : layL f xs.length L.length = L) : ∀ j, j < L.length → lyOk xs L j = true := by
  intro j hj
  have e : ∀ i, i < L.length → L.getD i 0 = ((layN f (i : Int) xs.length : Nat) : Int) := fun i hi => by
    conv => lhs; rw [← hL]
    exact mkL_getD hi
  rw [lyOk_iff, e j hj, Int.toNat_natCast]
  have h1 := layN_lt f (j : Int) xs.length
  refine ⟨⟨by omega, by omega⟩, layN_ideal hg h _, ?_⟩
  by_cases h0 : j = 0
  · exact .inl h0
  · right
    rw [e (j - 1) (by omega), Int.toNat_natCast, sub_eq_zero]
    intro i hi
    rw [layN_testBit] at hi ⊢
    simp only [Bool.and_eq_true, decide_eq_true_eq] at hi ⊢
    omega
/-- the test of the program against that of the model -/
theorem okFL_test {xs L : List Int} (h0 : okL0 xs L = true) : okFL xs L = (labB xs (flX xs.length L) L.length 0 && decide (layL (flX xs.length L) xs.length L.length = L)) := by
  have hg : good xs = true := by simp only [okL0, Bool.and_eq_true] at h0; exact h0.1
  rw [Bool.eq_iff_iff]
  simp only [Bool.and_eq_true, decide_eq_true_eq]
  constructor
  · intro h
    obtain ⟨h1, h2⟩ := lyOk_all hg (okFL_all h).2
    exact ⟨rise_lab hg h1, h2⟩
  · rintro ⟨h1, h2⟩
    exact okFL_yes h0 (lay_ok hg (lab_rise hg h1) h2)
def ansFL (xs L : List Int) : List Int := if okFL xs L then flX xs.length L else []
theorem ansFL_no {xs L : List Int} (h : okFL xs L = false) : ansFL xs L = [] := by simp [ansFL, h]
theorem ansFL_yes {xs L : List Int} (h : okFL xs L = true) : ansFL xs L = flX xs.length L := by simp [ansFL, h]
theorem ansFL_len (xs L : List Int) : (ansFL xs L).length ≤ 1048576 := by
  cases h : okFL xs L
  · rw [ansFL_no h]; simp
  · rw [ansFL_yes h, flX_len]
    have h0 := (okFL_all h).1
    simp only [okL0, Bool.and_eq_true] at h0
    have := (good_length h0.1).2
    omega
end Go.Proofs.Ytgepbekdgocnpab
