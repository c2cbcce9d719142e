/- When two toggles commute. No program is named here. -/
import Derived.Test.YtkalpichninncabOrd
namespace Go.Proofs.Ytkalpichninncab
set_option linter.unusedVariables false

/-- would toggling at e turn s? -/
def can (xs : List Int) (s e : Nat) : Bool := holdsIdeal xs (s ^^^ 2 ^ e)
theorem tog_can {xs : List Int} {s e : Nat} (h : can xs s e = true) : tog xs s e = s ^^^ 2 ^ e := tog_yes h
theorem tog_cant {xs : List Int} {s e : Nat} (h : can xs s e = false) : tog xs s e = s := tog_no h
/-- an element that is there can go if nothing above it is there; one that isn't can come if all below are there -/
theorem can_in {xs : List Int} (hg : good xs = true) {s e : Nat} (hs : holdsIdeal xs s = true) (he : e < xs.length) (hb : s.testBit e = true) :
    can xs s e = true ↔ ∀ i, i < xs.length → s.testBit i = true → (row xs i).testBit e = false := by
  unfold can
  rw [holdsIdeal_row]
  have hI := holdsIdeal_row.1 hs
  constructor
  · intro h i hi hbi
    cases hr : (row xs i).testBit e
    · rfl
    · exfalso
      have hei : e < i := testBit_lt (row_lt hg hi).2 hr
      have := h i hi (by rw [xor_bit, if_neg (by omega)]; exact hbi) e hr
      rw [xor_bit, if_pos rfl, hb] at this; cases this
  · intro h i hi hbi j hj
    rw [xor_bit] at hbi ⊢
    split at hbi
    · rw [hb] at hbi; cases hbi
    · split
      · rename_i hje
        subst hje
        rw [h i hi hbi] at hj; cases hj
      · exact hI i hi hbi j hj
theorem can_out {xs : List Int} (hg : good xs = true) {s e : Nat} (hs : holdsIdeal xs s = true) (he : e < xs.length) (hb : s.testBit e = false) :
    can xs s e = true ↔ ∀ j, (row xs e).testBit j = true → s.testBit j = true := by
  unfold can
  rw [holdsIdeal_row]
  have hI := holdsIdeal_row.1 hs
  constructor
  · intro h j hj
    have hje : j < e := testBit_lt (row_lt hg he).2 hj
    have := h e he (by rw [xor_bit, if_pos rfl, hb]; rfl) j hj
    rw [xor_bit, if_neg (by omega)] at this
    exact this
  · intro h i hi hbi j hj
    rw [xor_bit] at hbi ⊢
    split at hbi
    · rename_i hie
      subst hie
      have hje : j < i := testBit_lt (row_lt hg hi).2 hj
      rw [if_neg (by omega)]
      exact h j hj
    · have := hI i hi hbi j hj
      split
      · rename_i hje
        subst hje
        rw [hb] at this; cases this
      · exact this
/-- no cover between d and e, neither way -/
def Apart (xs : List Int) (d e : Nat) : Prop :=
  ((row xs e).testBit d = true → ∃ m, m < xs.length ∧ (row xs e).testBit m = true ∧ (row xs m).testBit d = true) ∧
  ((row xs d).testBit e = true → ∃ m, m < xs.length ∧ (row xs d).testBit m = true ∧ (row xs m).testBit e = true)
theorem Apart.symm {xs : List Int} {d e : Nat} (h : Apart xs d e) : Apart xs e d := ⟨h.2, h.1⟩
theorem can_stays {xs : List Int} (hg : good xs = true) {s d e : Nat} (hs : holdsIdeal xs s = true) (hd : d < xs.length) (he : e < xs.length) (hne : d ≠ e) (hap : Apart xs d e) (hce : can xs s e = true) :
    can xs (s ^^^ 2 ^ e) d = can xs s d := by
  have hs' : holdsIdeal xs (s ^^^ 2 ^ e) = true := hce
  have hI := holdsIdeal_row.1 hs
  have hbd : (s ^^^ 2 ^ e).testBit d = s.testBit d := by rw [xor_bit, if_neg hne]
  rw [Bool.eq_iff_iff]
  cases hb : s.testBit d
  · rw [can_out hg hs hd hb, can_out hg hs' hd (by rw [hbd, hb])]
    -- e below d: by an m between
    cases hr : (row xs d).testBit e
    · constructor
      · intro h j hj
        have := h j hj
        rw [xor_bit] at this
        split at this
        · rename_i hje; subst hje; rw [hr] at hj; cases hj
        · exact this
      · intro h j hj
        rw [xor_bit]
        split
        · rename_i hje; subst hje; rw [hr] at hj; cases hj
        · exact h j hj
    · obtain ⟨m, hm, h1, h2⟩ := hap.2 hr
      have hem : e < m := testBit_lt (row_lt hg hm).2 h2
      -- m isn't there, now and then
      have hms : s.testBit m = false := by
        cases hse : s.testBit e
        · cases hsm : s.testBit m
          · rfl
          · rw [hI m hm hsm e h2] at hse; cases hse
        · have := (can_in hg hs he hse).1 hce
          cases hsm : s.testBit m
          · rfl
          · rw [this m hm hsm] at h2; cases h2
      constructor
      · intro h
        have := h m h1
        rw [xor_bit, if_neg (by omega), hms] at this; cases this
      · intro h
        have := h m h1
        rw [hms] at this; cases this
  · rw [can_in hg hs hd hb, can_in hg hs' hd (by rw [hbd, hb])]
    cases hr : (row xs e).testBit d
    · constructor
      · intro h i hi hbi
        by_cases hie : i = e
        · subst hie; exact hr
        · exact h i hi (by rw [xor_bit, if_neg hie]; exact hbi)
      · intro h i hi hbi
        by_cases hie : i = e
        · subst hie; exact hr
        · rw [xor_bit, if_neg hie] at hbi
          exact h i hi hbi
    · obtain ⟨m, hm, h1, h2⟩ := hap.1 hr
      have hdm : d < m := testBit_lt (row_lt hg hm).2 h2
      have hme : m < e := testBit_lt (row_lt hg he).2 h1
      have hms : s.testBit m = true := by
        cases hse : s.testBit e
        · exact (can_out hg hs he hse).1 hce m h1
        · exact hI e he hse m h1
      constructor
      · intro h
        have := h m hm (by rw [xor_bit, if_neg (by omega)]; exact hms)
        rw [h2] at this; cases this
      · intro h
        have := h m hm hms
        rw [h2] at this; cases this
theorem xor_swap (s d e : Nat) : s ^^^ 2 ^ d ^^^ 2 ^ e = s ^^^ 2 ^ e ^^^ 2 ^ d := by
  rw [Nat.xor_assoc, Nat.xor_comm (2 ^ d), ← Nat.xor_assoc]
theorem tog_swap {xs : List Int} (hg : good xs = true) {s d e : Nat} (hs : holdsIdeal xs s = true) (hd : d < xs.length) (he : e < xs.length) (hap : Apart xs d e) :
    tog xs (tog xs s d) e = tog xs (tog xs s e) d := by
  by_cases hne : d = e
  · subst hne; rfl
  · cases h1 : can xs s d
    · cases h2 : can xs s e
      · rw [tog_cant h1, tog_cant h2, tog_cant h1]
      · rw [tog_cant h1, tog_can h2, tog_cant]
        rw [can_stays hg hs hd he hne hap h2, h1]
    · cases h2 : can xs s e
      · rw [tog_can h1, tog_cant h2, tog_can h1, tog_cant]
        rw [can_stays hg hs he hd (fun h => hne h.symm) hap.symm h1, h2]
      · rw [tog_can h1, tog_can h2, tog_can, tog_can, xor_swap]
        · rw [can_stays hg hs hd he hne hap h2, h1]
        · rw [can_stays hg hs he hd (fun h => hne h.symm) hap.symm h1, h2]
/-- d covered by e: the elements below e, without d, tell the toggles apart -/
theorem tog_apart {xs : List Int} (hg : good xs = true) {d e : Nat} (he : e < xs.length) (hr : (row xs e).testBit d = true)
    (hno : ∀ m, m < xs.length → (row xs e).testBit m = true → (row xs m).testBit d = false) :
    holdsIdeal xs (row xs e ^^^ 2 ^ d) = true ∧ row xs e ^^^ 2 ^ d < 2 ^ xs.length ∧
      (tog xs (tog xs (row xs e ^^^ 2 ^ d) d) e).testBit e = true ∧ (tog xs (tog xs (row xs e ^^^ 2 ^ d) e) d).testBit e = false := by
  have hde : d < e := testBit_lt (row_lt hg he).2 hr
  have hd : d < xs.length := by omega
  have hrow : holdsIdeal xs (row xs e) = true := holdsIdeal_row.2 fun i hi hbi j hj => row_closed hg he hbi hj
  have hI : holdsIdeal xs (row xs e ^^^ 2 ^ d) = true := (can_in hg hrow hd hr).2 fun i hi hbi => hno i hi hbi
  have hee : (row xs e).testBit e = false := Nat.testBit_lt_two_pow (row_lt hg he).2
  have hb : (row xs e ^^^ 2 ^ d).testBit d = false := by rw [xor_bit, if_pos rfl, hr]; rfl
  have h1 : tog xs (row xs e ^^^ 2 ^ d) d = row xs e := by
    rw [tog_can (show can xs (row xs e ^^^ 2 ^ d) d = true by unfold can; rw [xor_xor]; exact hrow), xor_xor]
  have h2 : tog xs (row xs e) e = row xs e ^^^ 2 ^ e := tog_can ((can_out hg hrow he hee).2 fun j hj => hj)
  have hee2 : (row xs e ^^^ 2 ^ d).testBit e = false := by rw [xor_bit, if_neg (by omega)]; exact hee
  have h3 : tog xs (row xs e ^^^ 2 ^ d) e = row xs e ^^^ 2 ^ d := tog_cant (by
    cases hc : can xs (row xs e ^^^ 2 ^ d) e
    · rfl
    · have := (can_out hg hI he hee2).1 hc d hr
      rw [hb] at this; cases this)
  refine ⟨hI, ?_, ?_, ?_⟩
  · exact xor_lt_len (row_lt_len hg he) hd
  · rw [h1, h2, xor_bit, if_pos rfl, hee]; rfl
  · rw [h3, h1]; exact hee
/-- is one of them covered by the other? -/
def covered (xs : List Int) (d e : Nat) : Bool := (top xs (row xs (max d e))).testBit (min d e)
theorem top_row {xs : List Int} {i j : Nat} : (top xs (row xs i)).testBit j = true ↔ (row xs i).testBit j = true ∧ ∀ m, m < xs.length → (row xs i).testBit m = true → (row xs m).testBit j = false := by
  unfold top
  rw [sub_testBit, Bool.and_eq_true, Bool.not_eq_true']
  constructor
  · rintro ⟨h1, h2⟩
    refine ⟨h1, fun m hm hb => ?_⟩
    cases hr : (row xs m).testBit j
    · rfl
    · have := (underN_testBit xs (row xs i) xs.length j).2 ⟨m, hm, hb, hr⟩
      unfold under at h2
      rw [this] at h2; cases h2
  · rintro ⟨h1, h2⟩
    refine ⟨h1, ?_⟩
    cases hu : (under xs (row xs i)).testBit j
    · rfl
    · obtain ⟨m, hm, hb, hr⟩ := (underN_testBit xs (row xs i) xs.length j).1 hu
      have := h2 m hm hb
      unfold row at this
      rw [this] at hr; cases hr
theorem covered_no {xs : List Int} (hg : good xs = true) {d e : Nat} (hd : d < xs.length) (he : e < xs.length) (h : covered xs d e = false) : Apart xs d e := by
  have key : ∀ {a b : Nat}, a < xs.length → b < xs.length → (top xs (row xs b)).testBit a = false → (row xs b).testBit a = true → ∃ m, m < xs.length ∧ (row xs b).testBit m = true ∧ (row xs m).testBit a = true := by
    intro a b ha hb ht hr
    apply Classical.byContradiction
    intro hn
    rw [Bool.eq_false_iff] at ht
    apply ht
    refine top_row.2 ⟨hr, fun m hm hbm => ?_⟩
    cases hc : (row xs m).testBit a
    · rfl
    · exact absurd ⟨m, hm, hbm, hc⟩ hn
  unfold covered at h
  constructor
  · intro hr
    have hde : d < e := testBit_lt (row_lt hg he).2 hr
    rw [Nat.max_eq_right (by omega), Nat.min_eq_left (by omega)] at h
    exact key hd he h hr
  · intro hr
    have hde : e < d := testBit_lt (row_lt hg hd).2 hr
    rw [Nat.max_eq_left (by omega), Nat.min_eq_right (by omega)] at h
    exact key he hd h hr
/-- do the two toggles commute on s? -/
def swapAt (xs : List Int) (d e s : Nat) : Bool := tog xs (tog xs s d) e == tog xs (tog xs s e) d
theorem covered_yes {xs : List Int} (hg : good xs = true) {d e : Nat} (hd : d < xs.length) (he : e < xs.length) (h : covered xs d e = true) : ∃ s, s < 2 ^ xs.length ∧ holdsIdeal xs s = true ∧ swapAt xs d e s = false := by
  unfold covered at h
  rcases Nat.lt_trichotomy d e with hde | hde | hde
  · rw [Nat.max_eq_right (by omega), Nat.min_eq_left (by omega)] at h
    obtain ⟨h1, h2⟩ := top_row.1 h
    obtain ⟨h3, h4, h5, h6⟩ := tog_apart hg he h1 h2
    refine ⟨_, h4, h3, ?_⟩
    unfold swapAt
    rw [beq_eq_false_iff_ne]
    intro hc
    rw [hc, h6] at h5; cases h5
  · subst hde
    rw [Nat.max_self, Nat.min_self] at h
    obtain ⟨h1, -⟩ := top_row.1 h
    have := testBit_lt (row_lt hg hd).2 h1
    omega
  · rw [Nat.max_eq_left (by omega), Nat.min_eq_right (by omega)] at h
    obtain ⟨h1, h2⟩ := top_row.1 h
    obtain ⟨h3, h4, h5, h6⟩ := tog_apart hg hd h1 h2
    refine ⟨_, h4, h3, ?_⟩
    unfold swapAt
    rw [beq_eq_false_iff_ne]
    intro hc
    rw [← hc, h6] at h5; cases h5
theorem covered_all {xs : List Int} (hg : good xs = true) {d e s : Nat} (hd : d < xs.length) (he : e < xs.length) (h : covered xs d e = false) (hs : holdsIdeal xs s = true) : swapAt xs d e s = true := by
  unfold swapAt
  rw [beq_iff_eq]
  exact tog_swap hg hs hd he (covered_no hg hd he h)
end Go.Proofs.Ytkalpichninncab
