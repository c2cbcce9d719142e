/- Sorted lists: insertion in order. -/
import Derived.Test.YtkalpichninncabSort
namespace Go.Proofs.Ytkalpichninncab
open Go.RowKit Go.WideShapes Go.ChangeShapes
set_option linter.unusedVariables false

theorem sortL_sorted (l : List Int) : (sortL l).Pairwise fun a b => a ≤ b := by
  have h := List.pairwise_mergeSort (le := fun (x y : Int) => decide (x ≤ y)) (fun a b c h1 h2 => by simp only [decide_eq_true_eq] at *; omega) (fun a b => by simp only [Bool.or_eq_true, decide_eq_true_eq]; omega) l
  exact h.imp fun {a b} h => by simpa using h
theorem sortL_perm (l : List Int) : (sortL l).Perm l := List.mergeSort_perm _ _
theorem sorted_eq {l m : List Int} (hl : l.Pairwise fun a b => a ≤ b) (hm : m.Pairwise fun a b => a ≤ b) (h : l.Perm m) : l = m :=
  List.Perm.eq_of_pairwise (le := fun a b => a ≤ b) (fun a b _ _ h1 h2 => by omega) hl hm h
theorem insAt_sort {l : List Int} {x : Int} {k : Nat} (hk : k ≤ (sortL l).length) (h1 : ∀ j, j < k → (sortL l).getD j 0 ≤ x) (h2 : k < (sortL l).length → x < (sortL l).getD k 0) :
    (sortL l).take k ++ [x] ++ (sortL l).drop k = sortL (l ++ [x]) := by
  have hs := sortL_sorted l
  have hp := sortL_perm l
  generalize sortL l = s at *
  refine sorted_eq ?_ (sortL_sorted _) ?_
  · have hsp : (s.take k ++ s.drop k).Pairwise fun a b => a ≤ b := by rw [List.take_append_drop]; exact hs
    rw [List.pairwise_append] at hsp
    obtain ⟨p1, p2, p3⟩ := hsp
    have q1 : ∀ a ∈ s.take k, a ≤ x := fun a ha => by
      obtain ⟨j, hj, rfl⟩ := List.mem_iff_getElem.1 ha
      rw [List.length_take] at hj
      have := h1 j (by omega)
      rw [List.getElem_take]
      simpa [List.getD, show j < s.length by omega] using this
    have q2 : ∀ b ∈ s.drop k, x ≤ b := fun b hb => by
      obtain ⟨j, hj, rfl⟩ := List.mem_iff_getElem.1 hb
      rw [List.length_drop] at hj
      have hx := h2 (by omega)
      rw [List.getElem_drop]
      have hle : s[k]'(by omega) ≤ s[k + j]'(by omega) := by
        rcases Nat.eq_zero_or_pos j with h0 | h0
        · subst h0; simp
        · exact (List.pairwise_iff_getElem.1 hs) k (k + j) (by omega) (by omega) (by omega)
      have : s.getD k 0 = s[k]'(by omega) := by simp [List.getD, show k < s.length by omega]
      omega
    rw [List.append_assoc, List.pairwise_append]
    refine ⟨p1, ?_, fun a ha b hb => ?_⟩
    · simp only [List.cons_append, List.nil_append, List.pairwise_cons]
      exact ⟨q2, p2⟩
    · simp only [List.cons_append, List.nil_append, List.mem_cons] at hb
      rcases hb with rfl | hb
      · exact q1 a ha
      · exact p3 a ha b hb
  · refine List.Perm.trans ?_ (List.Perm.trans (List.Perm.append_right [x] hp) (sortL_perm _).symm)
    have e : (s.take k ++ s.drop k ++ [x]).Perm (s ++ [x]) := by rw [List.take_append_drop]
    refine List.Perm.trans ?_ e
    rw [List.append_assoc, List.append_assoc]
    exact List.Perm.append_left _ List.perm_append_comm
end Go.Proofs.Ytkalpichninncab
