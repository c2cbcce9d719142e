/- A text of a poset, cut and read again (mathematics: for ParsePoset). -/
import Derived.Test.YtiodligebnnodaaDoorTextP
import Derived.Test.YtiodligebnnodaaDoorCovRow
namespace Go.Proofs.YtiodligebnnodaaDoor
open Go.RowKit Go.WideShapes Go.ChangeShapes
set_option linter.unusedVariables false

def splR (b : UInt8) : List UInt8 → List (List UInt8)
  | [] => [[]]
  | c :: r => if c = b then [] :: splR b r else match splR b r with
    | [] => [[c]]
    | h :: t => (c :: h) :: t
theorem splR_cons {b : UInt8} {x : List UInt8} (h : b ∉ x) (y : List UInt8) : splR b (x ++ b :: y) = x :: splR b y := by
  induction x with
  | nil => simp [splR]
  | cons c x ih =>
    simp only [List.mem_cons, not_or] at h
    rw [List.cons_append, splR, if_neg (Ne.symm h.1), ih h.2]
theorem splR_no {b : UInt8} {x : List UInt8} (h : b ∉ x) : splR b x = [x] := by
  induction x with
  | nil => rfl
  | cons c x ih =>
    simp only [List.mem_cons, not_or] at h
    rw [splR, if_neg (Ne.symm h.1), ih h.2]
theorem splN_inv (b : UInt8) (l : List UInt8) (k : Nat) (hk : k ≤ l.length) : splR b l = (splN b l k).1 ++ splR b (l.drop (splN b l k).2) ∧ b ∉ (l.drop (splN b l k).2).take (k - (splN b l k).2) := by
  induction k with
  | zero => simp [splN]
  | succ k ih =>
    obtain ⟨h1, h2⟩ := ih (by omega)
    obtain ⟨-, hn⟩ := splN_len b l k
    have hkl : k < l.length := by omega
    have hget : l.getD k 0 = l[k] := by simp [List.getD, hkl]
    generalize hP : (splN b l k).1 = P at *
    generalize hq : (splN b l k).2 = n at *
    have hcut : l.drop n = (l.drop n).take (k - n) ++ l[k] :: l.drop (k + 1) := by
      have e1 : (l.drop n).drop (k - n) = l.drop k := by rw [List.drop_drop]; congr 1; omega
      have e2 : l.drop k = l[k] :: l.drop (k + 1) := List.drop_eq_getElem_cons hkl
      rw [← e2, ← e1, List.take_append_drop]
    unfold splN
    split
    · rename_i hb
      rw [hget] at hb
      simp only [hP, hq]
      refine ⟨?_, by simp⟩
      rw [h1]
      conv => lhs; rw [hcut, hb, splR_cons h2]
      rw [List.append_assoc]; rfl
    · rename_i hb
      rw [hget] at hb
      rw [hP, hq]
      refine ⟨h1, ?_⟩
      have e3 : k + 1 - n = (k - n) + 1 := by omega
      have hlt : k - n < (l.drop n).length := by rw [List.length_drop]; omega
      rw [e3, List.take_succ_eq_append_getElem hlt]
      intro hm
      rw [List.mem_append] at hm
      rcases hm with hm | hm
      · exact h2 hm
      · simp only [List.mem_singleton, List.getElem_drop] at hm
        have e4 : n + (k - n) = k := by omega
        simp only [e4] at hm
        exact hb hm.symm
theorem splitL_eq (b : UInt8) (l : List UInt8) : splitL b l = splR b l := by
  obtain ⟨h1, h2⟩ := splN_inv b l l.length (Nat.le_refl _)
  have hn := (splN_len b l l.length).2
  unfold splitL
  rw [h1]
  have e : (l.drop (splN b l l.length).2).take (l.length - (splN b l l.length).2) = l.drop (splN b l l.length).2 := List.take_of_length_le (by simp)
  rw [e] at h2
  rw [splR_no h2]
theorem readL_numL (n : Nat) (h : n ≤ 10) : readL (numL n) = n := by
  rcases (by omega : n = 0 ∨ n = 1 ∨ n = 2 ∨ n = 3 ∨ n = 4 ∨ n = 5 ∨ n = 6 ∨ n = 7 ∨ n = 8 ∨ n = 9 ∨ n = 10) with rfl | rfl | rfl | rfl | rfl | rfl | rfl | rfl | rfl | rfl | rfl <;> decide +kernel
theorem numL_free (n : Nat) (h : n ≤ 10) : (58 : UInt8) ∉ numL n ∧ (44 : UInt8) ∉ numL n ∧ (60 : UInt8) ∉ numL n ∧ (45 : UInt8) ∉ numL n := by
  rcases (by omega : n = 0 ∨ n = 1 ∨ n = 2 ∨ n = 3 ∨ n = 4 ∨ n = 5 ∨ n = 6 ∨ n = 7 ∨ n = 8 ∨ n = 9 ∨ n = 10) with rfl | rfl | rfl | rfl | rfl | rfl | rfl | rfl | rfl | rfl | rfl <;> decide +kernel
theorem split_pair {p : Nat × Nat} (h1 : p.1 ≤ 10) (h2 : p.2 ≤ 10) : splitL 60 (pairT p) = [numL p.1, numL p.2] := by
  rw [splitL_eq, pairT, List.append_assoc, List.singleton_append, splR_cons (numL_free _ h1).2.2.1, splR_no (numL_free _ h2).2.2.1]
theorem pair_free {p : Nat × Nat} (h1 : p.1 ≤ 10) (h2 : p.2 ≤ 10) : (58 : UInt8) ∉ pairT p ∧ (44 : UInt8) ∉ pairT p := by
  obtain ⟨a1, a2, -⟩ := numL_free _ h1
  obtain ⟨b1, b2, -⟩ := numL_free _ h2
  unfold pairT
  constructor
  · simp only [List.mem_append, List.mem_singleton, not_or]; exact ⟨⟨a1, by decide⟩, b1⟩
  · simp only [List.mem_append, List.mem_singleton, not_or]; exact ⟨⟨a2, by decide⟩, b2⟩
theorem splR_ne (b : UInt8) (x : List UInt8) : splR b x ≠ [] := by
  cases x with
  | nil => simp [splR]
  | cons c x =>
    unfold splR
    split
    · simp
    · split <;> simp
theorem splR_append (b : UInt8) (x y : List UInt8) : splR b (x ++ b :: y) = splR b x ++ splR b y := by
  induction x with
  | nil => simp [splR]
  | cons c x ih =>
    rw [List.cons_append, splR, splR]
    by_cases e : c = b
    · rw [if_pos e, if_pos e, ih]; rfl
    · rw [if_neg e, if_neg e, ih]
      cases hx : splR b x with
      | nil => exact absurd hx (splR_ne b x)
      | cons h t => simp
theorem split_list {ps : List (Nat × Nat)} (hp : ∀ k, k < ps.length → (ps.getD k (0, 0)).1 ≤ 10 ∧ (ps.getD k (0, 0)).2 ≤ 10) (k : Nat) (h1 : 1 ≤ k) (hk : k ≤ ps.length) : splitL 44 (lsT ps k) = partsL ps k := by
  rw [splitL_eq]
  induction k with
  | zero => omega
  | succ k ih =>
    obtain ⟨a, b⟩ := hp k (by omega)
    rw [lsT, partsL_succ]
    by_cases h0 : 0 < k
    · rw [if_pos h0, List.append_assoc, List.singleton_append, splR_append, ih (by omega) (by omega), splR_no (pair_free a b).2]
    · obtain rfl : k = 0 := by omega
      rw [if_neg h0]
      simp only [lsT, List.nil_append]
      rw [splR_no (pair_free a b).2]
      simp [partsL]
theorem lsT_free {ps : List (Nat × Nat)} (hp : ∀ k, k < ps.length → (ps.getD k (0, 0)).1 ≤ 10 ∧ (ps.getD k (0, 0)).2 ≤ 10) (k : Nat) (hk : k ≤ ps.length) : (58 : UInt8) ∉ lsT ps k := by
  induction k with
  | zero => simp [lsT]
  | succ k ih =>
    obtain ⟨a, b⟩ := hp k (by omega)
    have h1 := ih (by omega)
    have h2 := (pair_free a b).1
    unfold lsT
    split
    · simp only [List.mem_append, List.mem_singleton, not_or]
      exact ⟨⟨h1, by decide⟩, h2⟩
    · simp only [List.mem_append, not_or]
      exact ⟨h1, h2⟩
theorem split_text {n : Nat} {ps : List (Nat × Nat)} (hn : n ≤ 10) (hp : ∀ k, k < ps.length → (ps.getD k (0, 0)).1 ≤ 10 ∧ (ps.getD k (0, 0)).2 ≤ 10) :
    splitL 58 (textL n ps) = [numL n, if ps.length = 0 then [45] else lsT ps ps.length] := by
  rw [splitL_eq, textL, List.append_assoc, List.singleton_append, splR_cons (numL_free n hn).1, splR_no]
  split
  · decide
  · exact lsT_free hp _ (Nat.le_refl _)
/-- a list of parts is no dash -/
theorem lsT_dash {ps : List (Nat × Nat)} (k : Nat) (h1 : 1 ≤ k) : lsT ps k ≠ [45] := by
  intro h
  have h2 := congrArg List.length h
  obtain ⟨j, rfl⟩ : ∃ j, k = j + 1 := ⟨k - 1, by omega⟩
  generalize hpj : ps.getD j (0, 0) = p at *
  have h3 : 3 ≤ (pairT p).length := by
    have a : ∀ m, 1 ≤ (numL m).length := fun m => by unfold numL; split <;> simp
    have := a p.1
    have := a p.2
    unfold pairT
    simp only [List.length_append, List.length_singleton]
    omega
  unfold lsT at h2
  rw [List.length_append, hpj] at h2
  simp only [List.length_singleton] at h2
  omega
/-! ### what follows from pairs upwards is a poset -/
theorem fout_up {n : Nat} {ps : List (Nat × Nat)} (hp : UpPairs n ps) (r : Nat) : r < n → ∀ b, (fout ps n r).testBit b = true → b < r ∧ ∀ c, (fout ps n b).testBit c = true → (fout ps n r).testBit c = true := by
  induction r using Nat.strongRecOn with
  | _ r ih =>
    intro hr b hb
    obtain ⟨t, ht, h1, h2⟩ := (fout_bit hp hr b).1 hb
    have hup := hp t ht
    have step : ∀ c, (fout ps n (ps.getD t (0, 0)).1).testBit c = true → (fout ps n r).testBit c = true := fun c hc => (fout_bit hp hr c).2 ⟨t, ht, h1, .inr hc⟩
    rcases h2 with h2 | h2
    · subst h2
      exact ⟨by omega, step⟩
    · obtain ⟨h3, h4⟩ := ih _ (by omega) (by omega) b h2
      exact ⟨by omega, fun c hc => step c (h4 c hc)⟩
theorem good_from {n : Nat} {ps : List (Nat × Nat)} (hp : UpPairs n ps) (h1 : 1 ≤ n) (h2 : n ≤ 10) : good (fromL n ps) = true := by
  have hlen : (fromL n ps).length = n := by unfold fromL; rw [mkL_length]
  have hget : ∀ i, i < n → (fromL n ps).getD i 0 = (fout ps n i : Int) := fun i hi => by unfold fromL; rw [mkL_getD hi]
  refine good_of (by omega) (by omega) fun j hj => ?_
  rw [hlen] at hj
  have hlt : fout ps n j < 2 ^ j := by
    apply Nat.lt_pow_two_of_testBit
    intro i hi
    rw [Bool.eq_false_iff]
    intro h
    have := (fout_up hp j hj i h).1
    omega
  unfold okAt
  rw [hget j hj]
  simp only [Bool.and_eq_true, decide_eq_true_eq, Int.toNat_natCast]
  refine ⟨⟨by omega, by omega⟩, (holdsIdeal_iff _ _).2 fun e he hb => ?_⟩
  rw [hlen] at he
  rw [hget e he, Int.toNat_natCast, sub_eq_zero]
  exact (fout_up hp j hj e hb).2
end Go.Proofs.YtiodligebnnodaaDoor
