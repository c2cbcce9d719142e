/- What a linear extension is. No program is named here. -/
import Derived.Test.YtclhebpkpmholaaEnd
namespace Go.Proofs.Ytclhebpkpmholaa
set_option linter.unusedVariables false

def wN (ws : List Int) (k : Nat) : Nat := (ws.getD k 0).toNat
def stL (ws : List Int) : Nat → Nat
  | 0 => 0
  | k + 1 => stL ws k ||| 2 ^ wN ws k
structure LinX (xs ws : List Int) : Prop where
  len : ws.length = xs.length
  rng : ∀ k, k < xs.length → ws.getD k 0 = (wN ws k : Int) ∧ wN ws k < xs.length
  stp : ∀ k, k < xs.length → stepP xs (stL ws k) (wN ws k) = true
theorem ordP_split {xs : List Int} {m : Nat} {y : Int} (h : ordP xs m y = true) : (0 ≤ y ∧ y < xs.length) ∧ stepP xs m y.toNat = true := by
  simp only [ordP, Bool.and_eq_true, decide_eq_true_eq] at h
  exact ⟨h.1, by simp only [stepP, Bool.and_eq_true]; exact h.2⟩
theorem ordSt_stL {xs ws : List Int} (k : Nat) : ∀ m, ordSt xs ws k = some m → m = stL ws k ∧ ∀ j, j < k → ordP xs (stL ws j) (ws.getD j 0) = true := by
  induction k with
  | zero => intro m h; simp only [ordSt, Option.some.injEq] at h; exact ⟨h.symm, fun j hj => by omega⟩
  | succ k ih =>
    intro m h
    cases hq : ordSt xs ws k with
    | none => simp only [ordSt, hq] at h; cases h
    | some q =>
      obtain ⟨h1, h2⟩ := ih q hq
      cases hp : ordP xs q (ws.getD k 0)
      · rw [ordSt_no hq hp (k + 1) (by omega)] at h; cases h
      · rw [ordSt_yes hq hp] at h
        simp only [Option.some.injEq] at h
        subst h1
        refine ⟨h.symm, fun j hj => ?_⟩
        by_cases e : j = k
        · subst e; exact hp
        · exact h2 j (by omega)
theorem orderB_LinX {xs ws : List Int} (h : orderB xs ws = true) : LinX xs ws := by
  simp only [orderB, Bool.and_eq_true, decide_eq_true_eq] at h
  obtain ⟨hl, h2⟩ := h
  obtain ⟨m, hm⟩ := Option.isSome_iff_exists.1 h2
  obtain ⟨-, h3⟩ := ordSt_stL _ m hm
  have h4 : ∀ k, k < xs.length → ((0 ≤ ws.getD k 0 ∧ ws.getD k 0 < xs.length) ∧ stepP xs (stL ws k) (ws.getD k 0).toNat = true) := fun k hk => ordP_split (h3 k (by omega))
  exact ⟨hl, fun k hk => by obtain ⟨⟨a, b⟩, c⟩ := h4 k hk; unfold wN; omega, fun k hk => (h4 k hk).2⟩
theorem LinX.st {xs ws : List Int} (h : LinX xs ws) (k : Nat) (hk : k ≤ xs.length) : ordSt xs ws k = some (stL ws k) := by
  induction k with
  | zero => rfl
  | succ k ih =>
    have h1 := h.rng k (by omega)
    have h2 := h.stp k (by omega)
    rw [ordSt_yes (ih (by omega)) ?_]
    · rfl
    · simp only [stepP, Bool.and_eq_true] at h2
      simp only [ordP, Bool.and_eq_true, decide_eq_true_eq]
      exact ⟨by omega, h2⟩
theorem LinX.order {xs ws : List Int} (h : LinX xs ws) : orderB xs ws = true := orderB_yes h.len (h.st ws.length (by rw [h.len]; exact Nat.le_refl _))
theorem stL_bit (ws : List Int) (k e : Nat) : (stL ws k).testBit e = true ↔ ∃ j, j < k ∧ wN ws j = e := by
  induction k with
  | zero => simp [stL]
  | succ k ih =>
    rw [stL, Nat.testBit_or, Bool.or_eq_true, ih, Nat.testBit_two_pow]
    constructor
    · rintro (⟨j, h1, h2⟩ | h)
      · exact ⟨j, by omega, h2⟩
      · exact ⟨k, by omega, by simpa using h⟩
    · rintro ⟨j, h1, h2⟩
      by_cases e : j = k
      · subst e; exact .inr (by simpa using h2)
      · exact .inl ⟨j, by omega, h2⟩
theorem LinX.lt {xs ws : List Int} (h : LinX xs ws) (k : Nat) (hk : k ≤ xs.length) : stL ws k < 2 ^ xs.length := by
  induction k with
  | zero => exact Nat.two_pow_pos _
  | succ k ih => exact Nat.or_lt_two_pow (ih (by omega)) (pow_lt_len (h.rng k (by omega)).2)
theorem LinX.cnt {xs ws : List Int} (h : LinX xs ws) (k : Nat) (hk : k ≤ xs.length) : cntB (stL ws k) xs.length = k := by
  induction k with
  | zero => exact cntB_zero _
  | succ k ih => rw [stL, cntB_or (h.rng k (by omega)).2 (stepP_bit (h.stp k (by omega))), ih (by omega)]
theorem cntB_all {s n : Nat} (h : s < 2 ^ n) (c : cntB s n = n) : s = 2 ^ n - 1 := by
  apply Nat.eq_of_testBit_eq
  intro i
  rw [Nat.testBit_two_pow_sub_one]
  by_cases hi : i < n
  · cases hb : s.testBit i
    · have h1 := cntB_or hi hb
      have h2 := cntB_le (s ||| 2 ^ i) n
      omega
    · simp [hi]
  · cases hb : s.testBit i
    · simp; omega
    · exact absurd (testBit_lt h hb) hi
theorem LinX.full {xs ws : List Int} (h : LinX xs ws) : stL ws xs.length = 2 ^ xs.length - 1 := cntB_all (h.lt _ (Nat.le_refl _)) (h.cnt _ (Nat.le_refl _))
theorem LinX.surj {xs ws : List Int} (h : LinX xs ws) {e : Nat} (he : e < xs.length) : ∃ j, j < xs.length ∧ wN ws j = e := by
  rw [← stL_bit, h.full, Nat.testBit_two_pow_sub_one]
  simpa using he
theorem LinX.ne {xs ws : List Int} (h : LinX xs ws) {j k : Nat} (hjk : j < k) (hk : k < xs.length) : wN ws j ≠ wN ws k := by
  intro e
  have h1 := stepP_bit (h.stp k hk)
  have h2 := (stL_bit ws k (wN ws k)).2 ⟨j, hjk, e⟩
  rw [h1] at h2; cases h2
theorem stepP_sub {xs : List Int} {s e : Nat} (h : stepP xs s e = true) {j : Nat} (hj : (row xs e).testBit j = true) : s.testBit j = true := by
  simp only [stepP, Bool.and_eq_true, beq_iff_eq] at h
  exact (sub_eq_zero _ _).1 h.2 j hj
theorem LinX.before {xs ws : List Int} (h : LinX xs ws) {k j : Nat} (hk : k < xs.length) (hj : (row xs (wN ws k)).testBit j = true) : ∃ i, i < k ∧ wN ws i = j :=
  (stL_bit ws k j).1 (stepP_sub (h.stp k hk) hj)
theorem LinX.ext {xs ws vs : List Int} (h : LinX xs ws) (k : LinX xs vs) (e : ∀ j, j < xs.length → wN ws j = wN vs j) : ws = vs := by
  refine List.ext_getElem (by rw [h.len, k.len]) fun j h1 h2 => ?_
  have hj : j < xs.length := by rw [← h.len]; exact h1
  have a := (h.rng j hj).1
  have b := (k.rng j hj).1
  rw [e j hj, ← b] at a
  simpa [List.getD, h1, h2] using a
end Go.Proofs.Ytclhebpkpmholaa
