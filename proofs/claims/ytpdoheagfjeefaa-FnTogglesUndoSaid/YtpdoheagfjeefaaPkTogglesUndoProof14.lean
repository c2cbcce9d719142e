/- Texts CovRow, Comm, ComC, TgC, TgH, one behind the other. -/
import Derived.Deep.RegionHeld3
import Derived.Test.YtpdoheagfjeefaaPkTogglesUndoProof05
import Derived.Test.YtpdoheagfjeefaaPkTogglesUndoProof07
import Derived.Test.YtpdoheagfjeefaaPkTogglesUndoProof08
import Derived.Test.YtpdoheagfjeefaaPkTogglesUndoProof09
import Derived.Test.YtpdoheagfjeefaaPkTogglesUndoProof11
import Derived.Test.YtpdoheagfjeefaaPkTogglesUndoProof13
/- The relations that follow from the covers of a poset are the poset's own (mathematics: for ParsePoset). -/
namespace Go.Proofs.Ytpdoheagfjeefaa
open Go.RowKit Go.WideShapes Go.ChangeShapes
set_option linter.unusedVariables false

theorem good_trans {xs : List Int} (hg : good xs = true) {i k j : Nat} (hi : i < xs.length) (h1 : bitAt xs i k = true) (h2 : bitAt xs k j = true) : bitAt xs i j = true := by
  have hk := good_bit hg hi h1
  have ho := good_at hg hi
  simp only [okAt, Bool.and_eq_true] at ho
  exact (sub_eq_zero _ _).1 ((holdsIdeal_iff xs _).1 ho.2 k (by omega) h1) j h2
theorem coverB_bit {xs : List Int} {j i : Nat} (h : coverB xs j i = true) : bitAt xs i j = true := by
  unfold coverB at h
  simp only [Bool.and_eq_true] at h
  exact h.1
theorem covIn_cov {xs : List Int} {j : Nat} (m : Nat) {p : Nat × Nat} (h : p ∈ covIn xs j m) : p.1 = j ∧ p.2 < m ∧ coverB xs j p.2 = true := by
  induction m with
  | zero => simp [covIn] at h
  | succ m ih =>
    unfold covIn at h
    split at h
    · rename_i hc
      rw [List.mem_append] at h
      rcases h with h | h
      · obtain ⟨a, b, c⟩ := ih h
        exact ⟨a, by omega, c⟩
      · simp at h; subst h; exact ⟨rfl, by simp, hc⟩
    · obtain ⟨a, b, c⟩ := ih h
      exact ⟨a, by omega, c⟩
theorem covPS_cov {xs : List Int} {n : Nat} (m : Nat) {p : Nat × Nat} (h : p ∈ covPS xs n m) : p.1 < m ∧ p.2 < n ∧ coverB xs p.1 p.2 = true := by
  induction m with
  | zero => simp [covPS] at h
  | succ m ih =>
    unfold covPS at h
    rw [List.mem_append] at h
    rcases h with h | h
    · obtain ⟨a, b, c⟩ := ih h
      exact ⟨by omega, b, c⟩
    · obtain ⟨a, b, c⟩ := covIn_cov n h
      exact ⟨by omega, b, by rw [a]; exact c⟩
theorem covIn_has {xs : List Int} {j i : Nat} (m : Nat) (hi : i < m) (h : coverB xs j i = true) : (j, i) ∈ covIn xs j m := by
  induction m with
  | zero => omega
  | succ m ih =>
    unfold covIn
    by_cases e : i = m
    · subst e
      rw [if_pos h]
      exact List.mem_append_right _ (by simp)
    · have := ih (by omega)
      split
      · exact List.mem_append_left _ this
      · exact this
theorem covPS_has {xs : List Int} {n j i : Nat} (m : Nat) (hj : j < m) (hi : i < n) (h : coverB xs j i = true) : (j, i) ∈ covPS xs n m := by
  induction m with
  | zero => omega
  | succ m ih =>
    unfold covPS
    by_cases e : j = m
    · subst e
      exact List.mem_append_right _ (covIn_has n hi h)
    · exact List.mem_append_left _ (ih (by omega))
theorem cover_up {xs : List Int} (hg : good xs = true) : UpPairs xs.length (covPS xs xs.length xs.length) := by
  intro k hk
  have e : (covPS xs xs.length xs.length).getD k (0, 0) = (covPS xs xs.length xs.length)[k] := by simp [List.getD, hk]
  rw [e]
  obtain ⟨a, b, c⟩ := covPS_cov _ (List.getElem_mem hk)
  exact ⟨good_bit hg b (coverB_bit c), b⟩
/-- between b and r lies a cover of r -/
theorem cover_between {xs : List Int} (hg : good xs = true) {r b : Nat} (hr : r < xs.length) : ∀ (d c : Nat), r - c = d → bitAt xs r c = true → (c = b ∨ bitAt xs c b = true) → ∃ j, coverB xs j r = true ∧ (j = b ∨ bitAt xs j b = true) := by
  intro d
  induction d using Nat.strongRecOn with
  | _ d ih =>
    intro c hd h1 h2
    cases hc : coverB xs c r
    · have hcr := good_bit hg hr h1
      have ha : ((List.range r).any fun k => decide (c < k) && (bitAt xs r k && bitAt xs k c)) = true := by
        unfold coverB at hc
        rw [h1, Bool.true_and] at hc
        simpa using hc
      obtain ⟨k, hk, hk2⟩ := List.any_eq_true.1 ha
      rw [List.mem_range] at hk
      simp only [Bool.and_eq_true, decide_eq_true_eq] at hk2
      obtain ⟨k1, k2, k3⟩ := hk2
      refine ih (r - k) (by omega) k rfl k2 (.inr ?_)
      rcases h2 with h2 | h2
      · subst h2; exact k3
      · exact good_trans hg (by omega) k3 h2
    · exact ⟨c, hc, h2⟩
theorem fout_cov {xs : List Int} (hg : good xs = true) (r : Nat) : r < xs.length → ∀ b, (fout (covPS xs xs.length xs.length) xs.length r).testBit b = bitAt xs r b := by
  induction r using Nat.strongRecOn with
  | _ r ih =>
    intro hr b
    rw [Bool.eq_iff_iff, fout_bit (cover_up hg) hr]
    constructor
    · rintro ⟨t, ht, h1, h2⟩
      have e : (covPS xs xs.length xs.length).getD t (0, 0) = (covPS xs xs.length xs.length)[t] := by simp [List.getD, ht]
      rw [e] at h1 h2
      obtain ⟨a, b', c⟩ := covPS_cov _ (List.getElem_mem ht)
      have hbit := coverB_bit c
      rw [h1] at hbit
      rcases h2 with h2 | h2
      · rw [h2]; exact hbit
      · rw [ih _ (good_bit hg hr hbit) a] at h2
        exact good_trans hg hr hbit h2
    · intro h
      obtain ⟨j, hj, hjb⟩ := cover_between hg hr (r - b) b rfl h (.inl rfl)
      have hjr := good_bit hg hr (coverB_bit hj)
      have hm := covPS_has (n := xs.length) xs.length (show j < xs.length by omega) hr hj
      obtain ⟨t, ht, he⟩ := List.mem_iff_getElem.1 hm
      have e : (covPS xs xs.length xs.length).getD t (0, 0) = (j, r) := by rw [← he]; simp [List.getD, ht]
      refine ⟨t, ht, by rw [e], ?_⟩
      rw [e]
      rcases hjb with h3 | h3
      · exact .inl h3.symm
      · exact .inr (by rw [ih j hjr (by omega)]; exact h3)
/-- a poset is what follows from its covers -/
theorem fromL_cov {xs : List Int} (hg : good xs = true) : fromL xs.length (covPS xs xs.length xs.length) = xs := by
  apply List.ext_getElem?
  intro i
  by_cases hi : i < xs.length
  · have h0 := okAt_range (good_at hg hi)
    have e : fout (covPS xs xs.length xs.length) xs.length i = (xs.getD i 0).toNat := Nat.eq_of_testBit_eq fun b => fout_cov hg i hi b
    unfold fromL mkL
    rw [List.getElem?_map, List.getElem?_range hi, Option.map_some, e]
    have hx : xs[i]? = some (xs.getD i 0) := by simp [List.getD, hi]
    rw [hx]
    congr 1
    omega
  · rw [List.getElem?_eq_none (by unfold fromL; rw [mkL_length]; omega), List.getElem?_eq_none (by omega)]
end Go.Proofs.Ytpdoheagfjeefaa

/- When two toggles commute. No program is named here. -/
namespace Go.Proofs.Ytpdoheagfjeefaa
set_option linter.unusedVariables false

/-- would toggling at e turn s? -/
def can (xs : List Int) (s e : Nat) : Bool := holdsIdeal xs (s ^^^ 2 ^ e)
theorem tog_can {xs : List Int} {s e : Nat} (h : can xs s e = true) : tog xs s e = s ^^^ 2 ^ e := tog_yes h
theorem tog_cant {xs : List Int} {s e : Nat} (h : can xs s e = false) : tog xs s e = s := tog_no h
/-- an element that is there can go if nothing above it is there; one that isn't can come if all below are there -/
theorem can_in {xs : List Int} (hg : good xs = true) {s e : Nat} (hs : holdsIdeal xs s = true) (he : e < xs.length) (hb : s.testBit e = true) :
    can xs s e = true ↔ ∀ i, i < xs.length → s.testBit i = true → (row xs i).testBit e = false := by
  unfold can
  rw [holdsIdeal_row]
  have hI := holdsIdeal_row.1 hs
  constructor
  · intro h i hi hbi
    cases hr : (row xs i).testBit e
    · rfl
    · exfalso
      have hei : e < i := testBit_lt (row_lt hg hi).2 hr
      have := h i hi (by rw [xor_bit, if_neg (by omega)]; exact hbi) e hr
      rw [xor_bit, if_pos rfl, hb] at this; cases this
  · intro h i hi hbi j hj
    rw [xor_bit] at hbi ⊢
    split at hbi
    · rw [hb] at hbi; cases hbi
    · split
      · rename_i hje
        subst hje
        rw [h i hi hbi] at hj; cases hj
      · exact hI i hi hbi j hj
theorem can_out {xs : List Int} (hg : good xs = true) {s e : Nat} (hs : holdsIdeal xs s = true) (he : e < xs.length) (hb : s.testBit e = false) :
    can xs s e = true ↔ ∀ j, (row xs e).testBit j = true → s.testBit j = true := by
  unfold can
  rw [holdsIdeal_row]
  have hI := holdsIdeal_row.1 hs
  constructor
  · intro h j hj
    have hje : j < e := testBit_lt (row_lt hg he).2 hj
    have := h e he (by rw [xor_bit, if_pos rfl, hb]; rfl) j hj
    rw [xor_bit, if_neg (by omega)] at this
    exact this
  · intro h i hi hbi j hj
    rw [xor_bit] at hbi ⊢
    split at hbi
    · rename_i hie
      subst hie
      have hje : j < i := testBit_lt (row_lt hg hi).2 hj
      rw [if_neg (by omega)]
      exact h j hj
    · have := hI i hi hbi j hj
      split
      · rename_i hje
        subst hje
        rw [hb] at this; cases this
      · exact this
/-- no cover between d and e, neither way -/
def Apart (xs : List Int) (d e : Nat) : Prop :=
  ((row xs e).testBit d = true → ∃ m, m < xs.length ∧ (row xs e).testBit m = true ∧ (row xs m).testBit d = true) ∧
  ((row xs d).testBit e = true → ∃ m, m < xs.length ∧ (row xs d).testBit m = true ∧ (row xs m).testBit e = true)
theorem Apart.symm {xs : List Int} {d e : Nat} (h : Apart xs d e) : Apart xs e d := ⟨h.2, h.1⟩
theorem can_stays {xs : List Int} (hg : good xs = true) {s d e : Nat} (hs : holdsIdeal xs s = true) (hd : d < xs.length) (he : e < xs.length) (hne : d ≠ e) (hap : Apart xs d e) (hce : can xs s e = true) :
    can xs (s ^^^ 2 ^ e) d = can xs s d := by
  have hs' : holdsIdeal xs (s ^^^ 2 ^ e) = true := hce
  have hI := holdsIdeal_row.1 hs
  have hbd : (s ^^^ 2 ^ e).testBit d = s.testBit d := by rw [xor_bit, if_neg hne]
  rw [Bool.eq_iff_iff]
  cases hb : s.testBit d
  · rw [can_out hg hs hd hb, can_out hg hs' hd (by rw [hbd, hb])]
    -- e below d: by an m between
    cases hr : (row xs d).testBit e
    · constructor
      · intro h j hj
        have := h j hj
        rw [xor_bit] at this
        split at this
        · rename_i hje; subst hje; rw [hr] at hj; cases hj
        · exact this
      · intro h j hj
        rw [xor_bit]
        split
        · rename_i hje; subst hje; rw [hr] at hj; cases hj
        · exact h j hj
    · obtain ⟨m, hm, h1, h2⟩ := hap.2 hr
      have hem : e < m := testBit_lt (row_lt hg hm).2 h2
      -- m isn't there, now and then
      have hms : s.testBit m = false := by
        cases hse : s.testBit e
        · cases hsm : s.testBit m
          · rfl
          · rw [hI m hm hsm e h2] at hse; cases hse
        · have := (can_in hg hs he hse).1 hce
          cases hsm : s.testBit m
          · rfl
          · rw [this m hm hsm] at h2; cases h2
      constructor
      · intro h
        have := h m h1
        rw [xor_bit, if_neg (by omega), hms] at this; cases this
      · intro h
        have := h m h1
        rw [hms] at this; cases this
  · rw [can_in hg hs hd hb, can_in hg hs' hd (by rw [hbd, hb])]
    cases hr : (row xs e).testBit d
    · constructor
      · intro h i hi hbi
        by_cases hie : i = e
        · subst hie; exact hr
        · exact h i hi (by rw [xor_bit, if_neg hie]; exact hbi)
      · intro h i hi hbi
        by_cases hie : i = e
        · subst hie; exact hr
        · rw [xor_bit, if_neg hie] at hbi
          exact h i hi hbi
    · obtain ⟨m, hm, h1, h2⟩ := hap.1 hr
      have hdm : d < m := testBit_lt (row_lt hg hm).2 h2
      have hme : m < e := testBit_lt (row_lt hg he).2 h1
      have hms : s.testBit m = true := by
        cases hse : s.testBit e
        · exact (can_out hg hs he hse).1 hce m h1
        · exact hI e he hse m h1
      constructor
      · intro h
        have := h m hm (by rw [xor_bit, if_neg (by omega)]; exact hms)
        rw [h2] at this; cases this
      · intro h
        have := h m hm hms
        rw [h2] at this; cases this
theorem xor_swap (s d e : Nat) : s ^^^ 2 ^ d ^^^ 2 ^ e = s ^^^ 2 ^ e ^^^ 2 ^ d := by
  rw [Nat.xor_assoc, Nat.xor_comm (2 ^ d), ← Nat.xor_assoc]
theorem tog_swap {xs : List Int} (hg : good xs = true) {s d e : Nat} (hs : holdsIdeal xs s = true) (hd : d < xs.length) (he : e < xs.length) (hap : Apart xs d e) :
    tog xs (tog xs s d) e = tog xs (tog xs s e) d := by
  by_cases hne : d = e
  · subst hne; rfl
  · cases h1 : can xs s d
    · cases h2 : can xs s e
      · rw [tog_cant h1, tog_cant h2, tog_cant h1]
      · rw [tog_cant h1, tog_can h2, tog_cant]
        rw [can_stays hg hs hd he hne hap h2, h1]
    · cases h2 : can xs s e
      · rw [tog_can h1, tog_cant h2, tog_can h1, tog_cant]
        rw [can_stays hg hs he hd (fun h => hne h.symm) hap.symm h1, h2]
      · rw [tog_can h1, tog_can h2, tog_can, tog_can, xor_swap]
        · rw [can_stays hg hs hd he hne hap h2, h1]
        · rw [can_stays hg hs he hd (fun h => hne h.symm) hap.symm h1, h2]
/-- d covered by e: the elements below e, without d, tell the toggles apart -/
theorem tog_apart {xs : List Int} (hg : good xs = true) {d e : Nat} (he : e < xs.length) (hr : (row xs e).testBit d = true)
    (hno : ∀ m, m < xs.length → (row xs e).testBit m = true → (row xs m).testBit d = false) :
    holdsIdeal xs (row xs e ^^^ 2 ^ d) = true ∧ row xs e ^^^ 2 ^ d < 2 ^ xs.length ∧
      (tog xs (tog xs (row xs e ^^^ 2 ^ d) d) e).testBit e = true ∧ (tog xs (tog xs (row xs e ^^^ 2 ^ d) e) d).testBit e = false := by
  have hde : d < e := testBit_lt (row_lt hg he).2 hr
  have hd : d < xs.length := by omega
  have hrow : holdsIdeal xs (row xs e) = true := holdsIdeal_row.2 fun i hi hbi j hj => row_closed hg he hbi hj
  have hI : holdsIdeal xs (row xs e ^^^ 2 ^ d) = true := (can_in hg hrow hd hr).2 fun i hi hbi => hno i hi hbi
  have hee : (row xs e).testBit e = false := Nat.testBit_lt_two_pow (row_lt hg he).2
  have hb : (row xs e ^^^ 2 ^ d).testBit d = false := by rw [xor_bit, if_pos rfl, hr]; rfl
  have h1 : tog xs (row xs e ^^^ 2 ^ d) d = row xs e := by
    rw [tog_can (show can xs (row xs e ^^^ 2 ^ d) d = true by unfold can; rw [xor_xor]; exact hrow), xor_xor]
  have h2 : tog xs (row xs e) e = row xs e ^^^ 2 ^ e := tog_can ((can_out hg hrow he hee).2 fun j hj => hj)
  have hee2 : (row xs e ^^^ 2 ^ d).testBit e = false := by rw [xor_bit, if_neg (by omega)]; exact hee
  have h3 : tog xs (row xs e ^^^ 2 ^ d) e = row xs e ^^^ 2 ^ d := tog_cant (by
    cases hc : can xs (row xs e ^^^ 2 ^ d) e
    · rfl
    · have := (can_out hg hI he hee2).1 hc d hr
      rw [hb] at this; cases this)
  refine ⟨hI, ?_, ?_, ?_⟩
  · exact xor_lt_len (row_lt_len hg he) hd
  · rw [h1, h2, xor_bit, if_pos rfl, hee]; rfl
  · rw [h3, h1]; exact hee
/-- is one of them covered by the other? -/
def covered (xs : List Int) (d e : Nat) : Bool := (top xs (row xs (max d e))).testBit (min d e)
theorem top_row {xs : List Int} {i j : Nat} : (top xs (row xs i)).testBit j = true ↔ (row xs i).testBit j = true ∧ ∀ m, m < xs.length → (row xs i).testBit m = true → (row xs m).testBit j = false := by
  unfold top
  rw [sub_testBit, Bool.and_eq_true, Bool.not_eq_true']
  constructor
  · rintro ⟨h1, h2⟩
    refine ⟨h1, fun m hm hb => ?_⟩
    cases hr : (row xs m).testBit j
    · rfl
    · have := (underN_testBit xs (row xs i) xs.length j).2 ⟨m, hm, hb, hr⟩
      unfold under at h2
      rw [this] at h2; cases h2
  · rintro ⟨h1, h2⟩
    refine ⟨h1, ?_⟩
    cases hu : (under xs (row xs i)).testBit j
    · rfl
    · obtain ⟨m, hm, hb, hr⟩ := (underN_testBit xs (row xs i) xs.length j).1 hu
      have := h2 m hm hb
      unfold row at this
      rw [this] at hr; cases hr
theorem covered_no {xs : List Int} (hg : good xs = true) {d e : Nat} (hd : d < xs.length) (he : e < xs.length) (h : covered xs d e = false) : Apart xs d e := by
  have key : ∀ {a b : Nat}, a < xs.length → b < xs.length → (top xs (row xs b)).testBit a = false → (row xs b).testBit a = true → ∃ m, m < xs.length ∧ (row xs b).testBit m = true ∧ (row xs m).testBit a = true := by
    intro a b ha hb ht hr
    apply Classical.byContradiction
    intro hn
    rw [Bool.eq_false_iff] at ht
    apply ht
    refine top_row.2 ⟨hr, fun m hm hbm => ?_⟩
    cases hc : (row xs m).testBit a
    · rfl
    · exact absurd ⟨m, hm, hbm, hc⟩ hn
  unfold covered at h
  constructor
  · intro hr
    have hde : d < e := testBit_lt (row_lt hg he).2 hr
    rw [Nat.max_eq_right (by omega), Nat.min_eq_left (by omega)] at h
    exact key hd he h hr
  · intro hr
    have hde : e < d := testBit_lt (row_lt hg hd).2 hr
    rw [Nat.max_eq_left (by omega), Nat.min_eq_right (by omega)] at h
    exact key he hd h hr
/-- do the two toggles commute on s? -/
def swapAt (xs : List Int) (d e s : Nat) : Bool := tog xs (tog xs s d) e == tog xs (tog xs s e) d
theorem covered_yes {xs : List Int} (hg : good xs = true) {d e : Nat} (hd : d < xs.length) (he : e < xs.length) (h : covered xs d e = true) : ∃ s, s < 2 ^ xs.length ∧ holdsIdeal xs s = true ∧ swapAt xs d e s = false := by
  unfold covered at h
  rcases Nat.lt_trichotomy d e with hde | hde | hde
  · rw [Nat.max_eq_right (by omega), Nat.min_eq_left (by omega)] at h
    obtain ⟨h1, h2⟩ := top_row.1 h
    obtain ⟨h3, h4, h5, h6⟩ := tog_apart hg he h1 h2
    refine ⟨_, h4, h3, ?_⟩
    unfold swapAt
    rw [beq_eq_false_iff_ne]
    intro hc
    rw [hc, h6] at h5; cases h5
  · subst hde
    rw [Nat.max_self, Nat.min_self] at h
    obtain ⟨h1, -⟩ := top_row.1 h
    have := testBit_lt (row_lt hg hd).2 h1
    omega
  · rw [Nat.max_eq_left (by omega), Nat.min_eq_right (by omega)] at h
    obtain ⟨h1, h2⟩ := top_row.1 h
    obtain ⟨h3, h4, h5, h6⟩ := tog_apart hg hd h1 h2
    refine ⟨_, h4, h3, ?_⟩
    unfold swapAt
    rw [beq_eq_false_iff_ne]
    intro hc
    rw [← hc, h6] at h5; cases h5
theorem covered_all {xs : List Int} (hg : good xs = true) {d e s : Nat} (hd : d < xs.length) (he : e < xs.length) (h : covered xs d e = false) (hs : holdsIdeal xs s = true) : swapAt xs d e s = true := by
  unfold swapAt
  rw [beq_iff_eq]
  exact tog_swap hg hs hd he (covered_no hg hd he h)
end Go.Proofs.Ytpdoheagfjeefaa

/- DoCommute. -/
namespace Go.Proofs.Ytpdoheagfjeefaa
open Go.RowKit Go.WideShapes Go.ChangeShapes
set_option linter.unusedVariables false

def okEl (xs : List Int) (d e : Int) : Bool := good xs && ((decide (0 ≤ d) && decide (d < xs.length)) && (decide (0 ≤ e) && decide (e < xs.length)))
def ansDC (xs : List Int) (d e : Int) : Bool := okEl xs d e && !covered xs d.toNat e.toNat
theorem ansDC_no {xs : List Int} {d e : Int} (h : okEl xs d e = false) : ansDC xs d e = false := by simp [ansDC, h]
theorem ansDC_yes {xs : List Int} {d e : Nat} (h : okEl xs d e = true) : ansDC xs d e = !covered xs d e := by simp [ansDC, h]
theorem okEl_no {xs : List Int} {d e : Int} (h : good xs = false) : okEl xs d e = false := by simp [okEl, h]
theorem okEl_no1 {xs : List Int} {d e : Int} (h : (decide (0 ≤ d) && decide (d < xs.length)) = false) : okEl xs d e = false := by simp only [okEl, h]; simp
theorem okEl_no2 {xs : List Int} {d e : Int} (h : (decide (0 ≤ e) && decide (e < xs.length)) = false) : okEl xs d e = false := by simp only [okEl, h]; simp
theorem okEl_yes {xs : List Int} {d e : Int} (h : good xs = true) (h1 : (decide (0 ≤ d) && decide (d < xs.length)) = true) (h2 : (decide (0 ≤ e) && decide (e < xs.length)) = true) : okEl xs d e = true := by simp only [okEl, h, h1, h2]; rfl
theorem setsL_mem {f : Nat → Bool} {N s : Nat} (hs : s < N) (hf : f s = true) : ∃ j, j < (setsL f N).length ∧ (setsL f N).getD j 0 = (s : Int) := by
  have : (s : Int) ∈ setsL f N := List.mem_map.2 ⟨s, List.mem_filter.2 ⟨List.mem_range.2 hs, hf⟩, rfl⟩
  obtain ⟨j, hj, e⟩ := List.mem_iff_getElem.1 this
  exact ⟨j, hj, by simp [List.getD, hj, e]⟩
/-- S of the region: the box and all that was there -/
structure SW (w : World) (b : Nat) (v : Value) (W : World) : Prop where
  at_ : At W b v
  below : Below w.heap.size w W
theorem SW.drew {w : World} {b : Nat} {v : Value} {W : World} (h : SW w b v W) : SW w b v W.drew := ⟨h.at_.drew, h.below.drew⟩
theorem SW.to {w : World} {b : Nat} {v : Value} {W W' : World} (h : SW w b v W) (hb : Below W.heap.size W W') : SW w b v W' := ⟨h.at_.below hb, below_to h.below hb⟩
theorem tgAt_SW (v : Value) (xs : List Int) (w0 : World) (b s e : Nat) (W : World) (hv : Ints w0 v xs) (hg : good xs = true) (hS : SW w0 b v W) (hs : s < 2 ^ xs.length) (he : e < xs.length) :
    Calls Try.prog 111 #[.agg #[v], .int .i64 s, .int .i64 e] W fun r w' => r = .returned (.int .i64 (tog xs s e : Nat)) ∧ SW w0 b v w' :=
  (tgAt_any v xs s e W (hv.below hS.below) hg hs he).mono fun _ _ ⟨h1, h2⟩ => ⟨h1, hS.to h2⟩
set_option maxHeartbeats 3200000 in
theorem specDoCommute_any (v : Value) (xs : List Int) (d e : Int) (w : World) (hv : Ints w v xs) (hl : xs.length ≤ 1048576) (wfd : (Lit.int .i64 d).wf = true) (wfe : (Lit.int .i64 e).wf = true) :
    Calls Try.prog 32 #[.agg #[v], .int .i64 d, .int .i64 e] w fun r w' => r = .returned (.tuple #[.bool (ansDC xs d e), .bool (okEl xs d e)]) ∧ Below w.heap.size w w' := by
  have HV := hid hv
  clear hv wfd wfe
  go_enter Try.func32, Try.ntmps32
  have HB := hid (below_alloc (Below.refl _ w) (.cells #[v] 26))
  have A0 := hid (At.newAt w v 26 w.heap.size (by simp))
  go_wp2_with fail
  refine (poGood_any _ xs _ (HV.out.below HB.out) hl).mono ?_
  rintro e w' ⟨rfl, hb⟩
  replace HB := hid (below_to HB.out hb)
  replace A0 := hid (A0.out.below hb)
  clear hb
  cases hq : good xs
  · have HO := hid (okEl_no (d := d) (e := e) hq)
    clear hq
    have ebox0 := A0.out.1
    go_wp2
    go_ret2
    exact ⟨ret_bb (ansDC_no HO.out).symm HO.out.symm, HB.out⟩
  · have HQ := hid hq
    have hl10 := (good_length hq).2
    clear hq
    have ebox0 := A0.out.1
    go_wp2_with fail
    clear ebox0
    refine (tgElement_any _ xs d _ (HV.out.below HB.out) hl).mono ?_
    rintro e w' ⟨rfl, hb⟩
    replace HB := hid (below_to HB.out hb)
    replace A0 := hid (A0.out.below hb)
    clear hb
    cases h1 : (decide (0 ≤ d) && decide (d < (xs.length : Int)))
    · have HO := hid (okEl_no1 (e := e) h1)
      clear h1
      have ebox0 := A0.out.1
      go_wp2
      go_ret2
      exact ⟨ret_bb (ansDC_no HO.out).symm HO.out.symm, HB.out⟩
    · have H1 := hid h1
      clear h1
      have ebox0 := A0.out.1
      go_wp2_with fail
      clear ebox0
      refine (tgElement_any _ xs e _ (HV.out.below HB.out) hl).mono ?_
      rintro e w' ⟨rfl, hb⟩
      replace HB := hid (below_to HB.out hb)
      replace A0 := hid (A0.out.below hb)
      clear hb
      cases h2 : (decide (0 ≤ e) && decide (e < (xs.length : Int)))
      · have HO := hid (okEl_no2 (d := d) h2)
        clear h2
        have ebox0 := A0.out.1
        go_wp2
        go_ret2
        exact ⟨ret_bb (ansDC_no HO.out).symm HO.out.symm, HB.out⟩
      · have HO := hid (okEl_yes HQ.out H1.out h2)
        have h3 : 0 ≤ d ∧ d < xs.length := by simpa using H1.out
        have h4 : 0 ≤ e ∧ e < xs.length := by simpa using h2
        clear h2
        obtain ⟨x, rfl⟩ := Int.eq_ofNat_of_zero_le h3.1
        obtain ⟨y, rfl⟩ := Int.eq_ofNat_of_zero_le h4.1
        have hx : x < xs.length := by omega
        have hy : y < xs.length := by omega
        clear h3 h4
        have HAns := hid (ansDC_yes HO.out)
        have ebox0 := A0.out.1
        go_wp2_with fail
        clear ebox0
        refine (poIdeals_any _ xs _ (HV.out.below HB.out) HQ.out).mono ?_
        rintro e w' ⟨u, rfl, ho, hb⟩
        replace HB := hid (below_to HB.out hb)
        replace A0 := hid (A0.out.below hb)
        clear hb
        have HU := hid ho.ints
        clear ho
        obtain ⟨N, hN⟩ : ∃ N, 2 ^ xs.length = N := ⟨_, rfl⟩
        obtain ⟨I, hI⟩ : ∃ I, setsL (holdsIdeal xs) N = I := ⟨_, rfl⟩
        have HAt := hid (fun j hj => setsL_at (f := holdsIdeal xs) (N := N) (j := j) hj)
        have HMem := hid (fun s hs hf => setsL_mem (f := holdsIdeal xs) (N := N) (s := s) hs hf)
        have hIN := setsL_length (holdsIdeal xs) N
        have hN10 : N ≤ 1024 := by rw [← hN]; exact pow10 hl10
        rw [hN, hI] at HU
        rw [hI] at HAt hIN HMem
        have HNe := hid hN
        clear hI hN
        obtain ⟨uA, uc, rfl, hUA⟩ := HU.out
        have HUA := hid hUA
        have HUZ := hid HB.out
        clear hUA
        have HW := hid (Below.refl w'.heap.size w')
        have ebox0 := A0.out.1
        go_wp2
        go_loopw [28] (fun i wr => ∃ j : Nat, j ≤ I.length ∧ i = .int .i64 j ∧ Hid (∀ t, t < j → swapAt xs x y (I.getD t 0).toNat = true) ∧ At wr w.heap.size v ∧ Below w.heap.size w wr ∧ Below w'.heap.size w' wr) (fun i _ => I.length - (intOf i).toNat)
        case atStart => exact ⟨0, Nat.zero_le _, rfl, hid (fun t ht => absurd ht (Nat.not_lt_zero _)), A0.out, HB.out, HW.out⟩
        case round =>
          obtain ⟨j, hj, rfl, HJ, ha, hb, hu⟩ := hrel
          have HA1 := hid ha
          have Hb1 := hid hb
          have HU1 := hid hu
          by_cases hlt : j < I.length
          · obtain ⟨s, hs, hsN, hIs, hlo, hup⟩ := HAt.out j hlt
            obtain ⟨b, o, rfl, hbl, hc⟩ := HUA.out (by intro h; simp [h] at hlt)
            have hcell : wr.cell? ⟨b, o + j, none⟩ = some (.int .i64 s) := by rw [(hu.cell (p := ⟨b, o + j, none⟩) hbl).trans (hc j hlt), hs]
            have HS := hid hs
            have HIs := hid hIs
            have hz0 : s < 2 ^ xs.length := by rw [HNe.out]; exact hsN
            have hz1 := tog_lt (xs := xs) hz0 hx
            have hz2 := tog_lt (xs := xs) hz0 hy
            have HSW := hid (show SW w' w.heap.size v wr from ⟨ha, hu⟩)
            have HV1 := hid (HV.out.below HB.out)
            have hbx := ha.1
            clear hc ha hb hu hs hIs hlo hup
            go_wp2_with fail
            go_region_held3 (fun W => W.cell? ⟨w.heap.size, 0, none⟩ = some v ∧ Hid (SW w' w.heap.size v W)) (first | exact ⟨HSW.out.drew.at_.1, hid HSW.out.drew⟩ | exact ⟨HS2.out.at_.1, HS2⟩) (first | (go_at_call 111; refine (tgAt_SW v xs w' w.heap.size _ _ _ HV1.out HQ.out (Hid.out (by first | assumption | exact hid HSW.out.drew)) (by assumption) (by assumption)).mono ?_; rintro e' w4 ⟨rfl, hs4⟩; have HS2 := hid hs4; clear hs4))
            have HA3 := hid HS2.out.at_
            have HU3 := hid HS2.out.below
            have Hb3 := hid (below_to HB.out HS2.out.below)
            cases hsw : swapAt xs x y s
            · have hne : (((tog xs (tog xs s x) y : Nat) : Int) != ((tog xs (tog xs s y) x : Nat) : Int)) = true := by
                unfold swapAt at hsw
                rw [beq_eq_false_iff_ne] at hsw
                rw [bne_iff_ne]
                omega
              have HC : Hid (ansDC xs x y = false) := hid (by
                rw [HAns.out]
                cases hc : covered xs x y
                · rw [covered_all HQ.out hx hy hc HIs.out] at hsw; cases hsw
                · rfl)
              clear hsw
              go_wp2
              go_ret2
              exact ⟨ret_bb HC.out.symm HO.out.symm, Hb3.out⟩
            · have hne : (((tog xs (tog xs s x) y : Nat) : Int) != ((tog xs (tog xs s y) x : Nat) : Int)) = false := by
                unfold swapAt at hsw
                rw [beq_iff_eq] at hsw
                rw [bne_eq_false_iff_eq, hsw]
              have HJ2 : Hid (∀ t, t < j + 1 → swapAt xs x y (I.getD t 0).toNat = true) := hid (fun t ht => by
                by_cases h : t = j
                · subst h; rw [HS.out, Int.toNat_natCast]; exact hsw
                · exact HJ.out t (by omega))
              clear hsw
              go_wp2
              go_roundw
              case rel => exact ⟨j + 1, by omega, by go_num, HJ2, HA3.out, Hb3.out, HU3.out⟩
              case measure => simp [intOf]; omega
          · have HC : Hid (ansDC xs x y = true) := hid (by
              rw [HAns.out]
              cases hc : covered xs x y
              · rfl
              · exfalso
                obtain ⟨s, h1, h2, h3⟩ := covered_yes HQ.out hx hy hc
                obtain ⟨t, h4, h5⟩ := HMem.out s (by rw [← HNe.out]; exact h1) h2
                have := HJ.out t (by omega)
                rw [h5, Int.toNat_natCast, h3] at this; cases this)
            clear ha hb hu
            go_wp2
            go_ret2
            exact ⟨ret_bb HC.out.symm HO.out.symm, Hb1.out⟩
theorem okWord_two (xs : List Int) (d e : Int) : okWord xs [d, e] = ((decide (0 ≤ d) && decide (d < xs.length)) && (decide (0 ≤ e) && decide (e < xs.length))) := by
  simp [okWord, inW]
set_option maxHeartbeats 1600000 in
theorem implDoCommute_any (v : Value) (xs : List Int) (d e : Int) (w : World) (hv : Ints w v xs) (hl : xs.length ≤ 1048576) (wfd : (Lit.int .i64 d).wf = true) (wfe : (Lit.int .i64 e).wf = true) :
    Calls Try.prog 31 #[.agg #[v], .int .i64 d, .int .i64 e] w fun r w' => r = .returned (.tuple #[.bool (ansDC xs d e), .bool (okEl xs d e)]) ∧ Below w.heap.size w w' := by
  have HV := hid hv
  obtain ⟨A, c, rfl, hA⟩ := hv
  have HA := hid hA
  clear hA wfd wfe
  go_enter Try.func31, Try.ntmps31
  have HB := hid (below_alloc (Below.refl _ w) (.cells #[(.slice A xs.length c)] 26))
  have A0 := hid (At.newAt w (.slice A xs.length c) 26 w.heap.size (by simp))
  go_wp2_with fail
  refine (implIsPoset_any _ xs _ (HV.out.below HB.out) hl).mono ?_
  rintro e w' ⟨rfl, hb⟩
  replace HB := hid (below_to HB.out hb)
  replace A0 := hid (A0.out.below hb)
  clear hb
  cases hq : good xs
  · have HO := hid (okEl_no (d := d) (e := e) hq)
    clear hq
    have ebox0 := A0.out.1
    go_wp2
    go_ret2
    exact ⟨ret_bb (ansDC_no HO.out).symm HO.out.symm, HB.out⟩
  · have HQ := hid hq
    have hl10 := (good_length hq).2
    clear hq
    have ebx := A0.out.1
    have ebxz := A0.out.2
    go_wp2_with fail
    clear ebx ebxz
    refine (hasWord_any _ _ xs [d, e] _ ((HV.out.below HB.out).alloc _) (Blk.ints (xs := [d, e]) (c := 2) (Blk.newAt _ 3 _ _ (by first | rfl | simp))) hl (by simp)).mono ?_
    rw [okWord_two]
    rintro e' w4 ⟨rfl, hb⟩
    have HB4 := hid (below_to (below_alloc HB.out _) hb)
    have HA4 := hid ((A0.out.alloc _).below hb)
    clear hb
    cases h12 : ((decide (0 ≤ d) && decide (d < (xs.length : Int))) && (decide (0 ≤ e) && decide (e < (xs.length : Int))))
    · have HO : Hid (okEl xs d e = false) := hid (by simp only [okEl, HQ.out, h12]; rfl)
      clear h12
      go_wp2
      go_ret2
      exact ⟨ret_bb (ansDC_no HO.out).symm HO.out.symm, HB4.out⟩
    · have HO : Hid (okEl xs d e = true) := hid (by simp only [okEl, HQ.out, h12]; rfl)
      have h3 : (0 ≤ d ∧ d < xs.length) ∧ (0 ≤ e ∧ e < xs.length) := by simpa only [Bool.and_eq_true, decide_eq_true_eq] using h12
      clear h12
      obtain ⟨x, rfl⟩ := Int.eq_ofNat_of_zero_le h3.1.1
      obtain ⟨y, rfl⟩ := Int.eq_ofNat_of_zero_le h3.2.1
      have hx : x < xs.length := by omega
      have hy : y < xs.length := by omega
      clear h3
      have HAns := hid (ansDC_yes HO.out)
      rcases Nat.lt_trichotomy x y with hxy | hxy | hxy
      · skip
        obtain ⟨b, o, rfl, hbl, hc⟩ := HA.out (by intro h; simp [h] at hx)
        have hcell : w4.cell? ⟨b, o + y, none⟩ = some (.int .i64 (xs.getD y 0)) := (HB4.out.cell (p := ⟨b, o + y, none⟩) hbl).trans (hc _ hy)
        have hr := row_lt HQ.out hy
        have hr10 := row_lt10 HQ.out hy
        have HCv : Hid (covered xs x y = (top xs (row xs y)).testBit x) := hid (by unfold covered; first | rw [Nat.max_self, Nat.min_self] | rw [Nat.max_eq_right (by omega), Nat.min_eq_left (by omega)] | rw [Nat.max_eq_left (by omega), Nat.min_eq_right (by omega)])
        obtain ⟨z, hz⟩ : ∃ z, row xs y = z := ⟨_, rfl⟩
        rw [hz] at hr hr10 HCv
        rw [hr.1] at hcell
        have HSm := hid (good_small HQ.out z)
        obtain ⟨T, hT⟩ : ∃ T, top xs z = T := ⟨_, rfl⟩
        have hT10 : T < 1024 := by rw [← hT]; exact top_lt hr10
        rw [hT] at HCv
        have HTop := hid hT
        have hiI : (y : Int) < xs.length := by omega
        have hlo64 : x < 64 := by omega
        have HV4 := hid (HV.out.below HB4.out)
        have hbox := HA4.out.1
        clear hc hr hz hT
        go_wp2_with fail
        go_region_with (first | (go_at_call 108; refine (top_any _ xs z _ HV4.out.drew hl10 hr10 HSm.out).mono ?_; rw [HTop.out]; rintro e' w5 ⟨rfl, hb5⟩; have H5 := hid (below_to HB4.out.drew hb5); have hbx5 := (HA4.out.drew.below hb5).1; have hcell5 := (hb5.cell (p := ⟨b, o + y, none⟩) (Nat.lt_of_lt_of_le hbl HB4.out.size)).trans hcell; clear hb5) | (go_at_call 94; refine (hasElement_any T x (by omega) hlo64 _).mono ?_; rintro e' w6 ⟨rfl, rfl⟩))
        all_goals go_wp2
        all_goals go_ret2
        all_goals exact ⟨ret_bb (by rw [HAns.out, HCv.out]) HO.out.symm, H5.out⟩
      · subst hxy
        obtain ⟨b, o, rfl, hbl, hc⟩ := HA.out (by intro h; simp [h] at hx)
        have hcell : w4.cell? ⟨b, o + x, none⟩ = some (.int .i64 (xs.getD x 0)) := (HB4.out.cell (p := ⟨b, o + x, none⟩) hbl).trans (hc _ hx)
        have hr := row_lt HQ.out hx
        have hr10 := row_lt10 HQ.out hx
        have HCv : Hid (covered xs x x = (top xs (row xs x)).testBit x) := hid (by unfold covered; first | rw [Nat.max_self, Nat.min_self] | rw [Nat.max_eq_right (by omega), Nat.min_eq_left (by omega)] | rw [Nat.max_eq_left (by omega), Nat.min_eq_right (by omega)])
        obtain ⟨z, hz⟩ : ∃ z, row xs x = z := ⟨_, rfl⟩
        rw [hz] at hr hr10 HCv
        rw [hr.1] at hcell
        have HSm := hid (good_small HQ.out z)
        obtain ⟨T, hT⟩ : ∃ T, top xs z = T := ⟨_, rfl⟩
        have hT10 : T < 1024 := by rw [← hT]; exact top_lt hr10
        rw [hT] at HCv
        have HTop := hid hT
        have hiI : (x : Int) < xs.length := by omega
        have hlo64 : x < 64 := by omega
        have HV4 := hid (HV.out.below HB4.out)
        have hbox := HA4.out.1
        clear hc hr hz hT
        go_wp2_with fail
        go_region_with (first | (go_at_call 108; refine (top_any _ xs z _ HV4.out.drew hl10 hr10 HSm.out).mono ?_; rw [HTop.out]; rintro e' w5 ⟨rfl, hb5⟩; have H5 := hid (below_to HB4.out.drew hb5); have hbx5 := (HA4.out.drew.below hb5).1; have hcell5 := (hb5.cell (p := ⟨b, o + x, none⟩) (Nat.lt_of_lt_of_le hbl HB4.out.size)).trans hcell; clear hb5) | (go_at_call 94; refine (hasElement_any T x (by omega) hlo64 _).mono ?_; rintro e' w6 ⟨rfl, rfl⟩))
        all_goals go_wp2
        all_goals go_ret2
        all_goals exact ⟨ret_bb (by rw [HAns.out, HCv.out]) HO.out.symm, H5.out⟩
      · skip
        obtain ⟨b, o, rfl, hbl, hc⟩ := HA.out (by intro h; simp [h] at hx)
        have hcell : w4.cell? ⟨b, o + x, none⟩ = some (.int .i64 (xs.getD x 0)) := (HB4.out.cell (p := ⟨b, o + x, none⟩) hbl).trans (hc _ hx)
        have hr := row_lt HQ.out hx
        have hr10 := row_lt10 HQ.out hx
        have HCv : Hid (covered xs x y = (top xs (row xs x)).testBit y) := hid (by unfold covered; first | rw [Nat.max_self, Nat.min_self] | rw [Nat.max_eq_right (by omega), Nat.min_eq_left (by omega)] | rw [Nat.max_eq_left (by omega), Nat.min_eq_right (by omega)])
        obtain ⟨z, hz⟩ : ∃ z, row xs x = z := ⟨_, rfl⟩
        rw [hz] at hr hr10 HCv
        rw [hr.1] at hcell
        have HSm := hid (good_small HQ.out z)
        obtain ⟨T, hT⟩ : ∃ T, top xs z = T := ⟨_, rfl⟩
        have hT10 : T < 1024 := by rw [← hT]; exact top_lt hr10
        rw [hT] at HCv
        have HTop := hid hT
        have hiI : (x : Int) < xs.length := by omega
        have hlo64 : y < 64 := by omega
        have HV4 := hid (HV.out.below HB4.out)
        have hbox := HA4.out.1
        clear hc hr hz hT
        go_wp2_with fail
        go_region_with (first | (go_at_call 108; refine (top_any _ xs z _ HV4.out.drew hl10 hr10 HSm.out).mono ?_; rw [HTop.out]; rintro e' w5 ⟨rfl, hb5⟩; have H5 := hid (below_to HB4.out.drew hb5); have hbx5 := (HA4.out.drew.below hb5).1; have hcell5 := (hb5.cell (p := ⟨b, o + x, none⟩) (Nat.lt_of_lt_of_le hbl HB4.out.size)).trans hcell; clear hb5) | (go_at_call 94; refine (hasElement_any T y (by omega) hlo64 _).mono ?_; rintro e' w6 ⟨rfl, rfl⟩))
        all_goals go_wp2
        all_goals go_ret2
        all_goals exact ⟨ret_bb (by rw [HAns.out, HCv.out]) HO.out.symm, H5.out⟩
end Go.Proofs.Ytpdoheagfjeefaa

/- The facts that the law on toggles asks for: two elements that a cover joins. -/
namespace Go.Proofs.Ytpdoheagfjeefaa
open Go.RowKit Go.WideShapes Go.ChangeShapes
set_option linter.unusedVariables false

/-- the pair joins d and e -/
def joinB (d e : Nat) (p : Nat × Nat) : Bool := (p.1 == d && p.2 == e) || (p.1 == e && p.2 == d)
/-- one of the first k pairs joins d and e -/
def joinN (ps : List (Nat × Nat)) (d e : Nat) : Nat → Bool
  | 0 => false
  | k + 1 => joinN ps d e k || joinB d e (ps.getD k (0, 0))
theorem joinN_iff (ps : List (Nat × Nat)) (d e k : Nat) : joinN ps d e k = true ↔ ∃ j, j < k ∧ joinB d e (ps.getD j (0, 0)) = true := by
  induction k with
  | zero => simp [joinN]
  | succ k ih =>
    rw [joinN, Bool.or_eq_true, ih]
    constructor
    · rintro (⟨j, hj, h⟩ | h)
      · exact ⟨j, by omega, h⟩
      · exact ⟨k, by omega, h⟩
    · rintro ⟨j, hj, h⟩
      rcases Nat.lt_or_ge j k with h1 | h1
      · exact .inl ⟨j, h1, h⟩
      · obtain rfl : j = k := by omega
        exact .inr h
theorem cover_less {xs : List Int} (hg : good xs = true) {j i : Nat} (hi : i < xs.length) (h : coverB xs j i = true) : j < i := by
  unfold coverB at h
  rw [Bool.and_eq_true] at h
  exact row_less hg hi h.1
theorem cover_topJ {xs : List Int} (hg : good xs = true) {j i : Nat} (hi : i < xs.length) : coverB xs j i = (top xs (row xs i)).testBit j := by
  rw [Bool.eq_iff_iff, top_row]
  unfold coverB
  rw [Bool.and_eq_true, Bool.not_eq_true', List.any_eq_false]
  constructor
  · rintro ⟨h1, h2⟩
    refine ⟨h1, fun m hm h3 => ?_⟩
    have hmi := row_less hg hi h3
    have := h2 m (List.mem_range.2 hmi)
    cases h4 : (row xs m).testBit j
    · rfl
    · exfalso
      have hjm := row_less hg hm h4
      apply this
      have e1 : bitAt xs i m = true := h3
      have e2 : bitAt xs m j = true := h4
      simp [e1, e2, hjm]
  · rintro ⟨h1, h2⟩
    refine ⟨h1, fun m hm => ?_⟩
    rw [List.mem_range] at hm
    intro h3
    simp only [Bool.and_eq_true, decide_eq_true_eq] at h3
    have e1 : (row xs i).testBit m = true := h3.2.1
    have e2 : (row xs m).testBit j = true := h3.2.2
    rw [h2 m (by omega) e1] at e2
    cases e2
theorem joinFacts {xs : List Int} {d e : Nat} (hg : good xs = true) (hd : d < xs.length) (he : e < xs.length) : joinN (coversP xs) d e (coversP xs).length = covered xs d e := by
  have hmm : covered xs d e = coverB xs (min d e) (max d e) := by rw [cover_topJ hg (by omega)]; rfl
  rw [hmm, Bool.eq_iff_iff, joinN_iff, coversP_yes hg]
  constructor
  · rintro ⟨j, hj, h⟩
    have hm : (covPS xs xs.length xs.length).getD j (0, 0) ∈ covPS xs xs.length xs.length := by
      rw [show (covPS xs xs.length xs.length).getD j (0, 0) = (covPS xs xs.length xs.length)[j] from by simp [List.getD, hj]]
      exact List.getElem_mem hj
    obtain ⟨c1, c2, c3⟩ := covPS_cov _ hm
    have hlt := cover_less hg c2 c3
    unfold joinB at h
    simp only [Bool.or_eq_true, Bool.and_eq_true, beq_iff_eq] at h
    rcases h with ⟨h1, h2⟩ | ⟨h1, h2⟩
    · rw [h1, h2] at c3 hlt
      rw [show min d e = d by omega, show max d e = e by omega]; exact c3
    · rw [h1, h2] at c3 hlt
      rw [show min d e = e by omega, show max d e = d by omega]; exact c3
  · intro h
    have hm := covPS_has (n := xs.length) xs.length (show min d e < xs.length by omega) (show max d e < xs.length by omega) h
    obtain ⟨j, hj, e1⟩ := List.mem_iff_getElem.1 hm
    refine ⟨j, hj, ?_⟩
    rw [show (covPS xs xs.length xs.length).getD j (0, 0) = (covPS xs xs.length xs.length)[j] from by simp [List.getD, hj], e1]
    unfold joinB
    rcases Nat.le_total d e with h1 | h1
    · rw [show min d e = d by omega, show max d e = e by omega]; simp
    · rw [show min d e = e by omega, show max d e = d by omega]; simp
end Go.Proofs.Ytpdoheagfjeefaa

/- What the law on toggles asks besides: sums of a list, lists read backwards. -/
namespace Go.Proofs.Ytpdoheagfjeefaa
open Go.RowKit Go.WideShapes Go.ChangeShapes
set_option linter.unusedVariables false

theorem smI_bounds {ls : List Int} (h0 : ∀ j, j < ls.length → 0 ≤ ls.getD j 0) (d : Nat) : ∀ k, k + d = ls.length → 0 ≤ smI ls k ∧ smI ls k ≤ smI ls ls.length := by
  have hz : ∀ k, k ≤ ls.length → 0 ≤ smI ls k := by
    intro k
    induction k with
    | zero => intro _; exact Int.le_refl _
    | succ k ih =>
      intro hk
      have := ih (by omega)
      have := h0 k (by omega)
      rw [smI]; omega
  induction d with
  | zero =>
    intro k hk
    rw [show k = ls.length by omega]
    exact ⟨hz _ (Nat.le_refl _), Int.le_refl _⟩
  | succ d ih =>
    intro k hk
    have h1 := ih (k + 1) (by omega)
    have h2 := h0 k (by omega)
    rw [smI] at h1
    exact ⟨hz k (by omega), by omega⟩
/-- the cycles' partial sums -/
theorem cycPart {xs ys : List Int} (h : okGW xs ys = true) (k : Nat) (hk : k ≤ (tcL xs ys).length) : 0 ≤ smI (tcL xs ys) k ∧ smI (tcL xs ys) k ≤ 1024 := by
  obtain ⟨h1, h2⟩ := cycSum h
  have h3 := smI_bounds (ls := tcL xs ys) (fun j hj => by obtain ⟨n, e, -⟩ := cycFacts h hj; rw [e]; omega) ((tcL xs ys).length - k) k (by omega)
  omega
theorem rev_take {ys : List Int} {k j : Nat} (h : k + (j + 1) = ys.length) : ys.reverse.take (k + 1) = ys.reverse.take k ++ [ys.getD j 0] := by
  have hk : k < ys.reverse.length := by rw [List.length_reverse]; omega
  rw [List.take_add_one, List.getElem?_eq_getElem hk]
  have e : ys.reverse[k] = ys.getD j 0 := by
    rw [List.getElem_reverse]
    simp [List.getD, show ys.length - 1 - k = j by omega, show j < ys.length by omega]
  rw [e]; rfl
theorem joinN_succ (ps : List (Nat × Nat)) (d e k : Nat) {p1 p2 : Nat} (h1 : (ps.getD k (0, 0)).1 = p1) (h2 : (ps.getD k (0, 0)).2 = p2) : joinN ps d e (k + 1) = (joinN ps d e k || ((p1 == d && p2 == e) || (p1 == e && p2 == d))) := by
  rw [joinN, joinB, h1, h2]
theorem okEl_nat {xs : List Int} {d e : Int} (h : okEl xs d e = true) : ∃ a b : Nat, d = (a : Int) ∧ e = (b : Int) ∧ a < xs.length ∧ b < xs.length ∧ good xs = true ∧ xs.length ≤ 10 := by
  simp only [okEl, Bool.and_eq_true, decide_eq_true_eq] at h
  obtain ⟨hg, ⟨h1, h2⟩, h3, h4⟩ := h
  obtain ⟨a, rfl⟩ := Int.eq_ofNat_of_zero_le h1
  obtain ⟨b, rfl⟩ := Int.eq_ofNat_of_zero_le h3
  exact ⟨a, b, rfl, rfl, by omega, by omega, hg, (good_length hg).2⟩
theorem natBeq (p a : Nat) : ((p : Int) == (a : Int)) = (p == a) := by
  rw [Bool.eq_iff_iff, beq_iff_eq, beq_iff_eq]
  exact Int.ofNat_inj
theorem nSum_any (v : Value) (xs : List Int) (w : World) (hv : Ints w v xs) (hl : xs.length ≤ 1048576) (hb : ∀ k, k ≤ xs.length → 0 ≤ smI xs k ∧ smI xs k ≤ 1000000000000) :
    Calls Try.prog 45 #[v] w fun (r : Ending) w' => r = .returned (.int .i64 (smI xs xs.length)) ∧ w = w' := by
  obtain ⟨A, c, rfl, hA⟩ := hv
  have HA := hid hA
  have HB := hid hb
  clear hA hb
  go_enter Try.func45, Try.ntmps45
  go_wp2
  go_loop [3, 8] (fun q i => ∃ k : Nat, k ≤ xs.length ∧ i = .int .i64 k ∧ q = .int .i64 (smI xs k)) (fun _ i => xs.length - (intOf i).toNat)
  case atStart => exact ⟨0, Nat.zero_le _, rfl, rfl⟩
  case round =>
    obtain ⟨k, hk, rfl, rfl⟩ := hrel
    by_cases hlt : k < xs.length
    · obtain ⟨b, o, rfl, -, hce⟩ := HA.out (by intro h; simp [h] at hlt)
      have hcell := hce k hlt
      have b1 := HB.out k hk
      have b2 := HB.out (k + 1) hlt
      have HS : Hid (smI xs (k + 1) = smI xs k + xs.getD k 0) := hid rfl
      rw [HS.out] at b2
      obtain ⟨S, hS⟩ : ∃ S, smI xs k = S := ⟨_, rfl⟩
      obtain ⟨y, hy⟩ : ∃ y, xs.getD k 0 = y := ⟨_, rfl⟩
      rw [hS, hy] at HS b2
      rw [hS] at b1 ⊢
      rw [hy] at hcell
      clear hce hS hy
      go_wp2
      go_round
      case rel => exact ⟨k + 1, by omega, by go_num, by rw [HS.out]⟩
      case measure => simp [intOf]; omega
    · obtain rfl : k = xs.length := by omega
      go_wp2
      go_ret
      exact ⟨rfl, rfl⟩
end Go.Proofs.Ytpdoheagfjeefaa
