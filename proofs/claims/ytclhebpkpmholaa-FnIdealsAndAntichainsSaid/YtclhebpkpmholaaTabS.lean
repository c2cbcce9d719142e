/- Tableaux in the model: are rows one. -/
import Derived.Test.YtclhebpkpmholaaTab
import Derived.Test.YtclhebpkpmholaaShs
import Derived.Test.YtclhebpkpmholaaNest
import Derived.Test.YtclhebpkpmholaaTg
namespace Go.Proofs.Ytclhebpkpmholaa
open Go.RowKit Go.WideShapes Go.ChangeShapes
set_option linter.unusedVariables false

theorem tabB_row {ls : List (List Int)} {r : Nat} (hr : r < ls.length) (hn : inW (ls.length * wid ls) (ls.getD r []) = false) : tabB ls = false := by
  cases ht : tabB ls
  · rfl
  · obtain ⟨hL, hX⟩ := tabB_all ht
    have : inW (ls.length * wid ls) (ls.getD r []) = true := inW_of fun j hj => by
      rw [hL.row r hr] at hj
      have h1 := hX.rng (wid ls * r + j) (cell_lt hr hj)
      rw [celF_at ls hj] at h1
      exact h1
    rw [this] at hn; cases hn
theorem tabB_cell {ls : List (List Int)} {e : Nat} (he : e < ls.length * wid ls) (hn : chkF (wid ls) (celF ls (wid ls)) e = false) : tabB ls = false := by
  cases h : shapeB ls
  · exact tabB_no1 h
  · rw [tabB_yes h]; exact tabF_no2 (shapeB_L h).b1 he hn
theorem tabB_full {ls : List (List Int)} (h : shapeB ls = true) (hf : ∀ e, e < ls.length * wid ls → (0 ≤ celF ls (wid ls) e ∧ celF ls (wid ls) e < (ls.length * wid ls : Nat)) ∧ chkF (wid ls) (celF ls (wid ls)) e = true) : tabB ls = true := by
  rw [tabB_yes h]; exact tabF_yes (shapeB_L h).b1 (fun e he => (hf e he).1) (fun e he => (hf e he).2)
theorem chkF_bit {b e : Nat} {f : Nat → Int} (h : (seeN f e).testBit (f e).toNat = true) : chkF b f e = false := by simp [chkF, h]
theorem chkF_left {b e : Nat} {f : Nat → Int} (h1 : e % b ≠ 0) (h : f e < f (e - 1)) : chkF b f e = false := by
  simp only [chkF, decide_eq_false h1, decide_eq_false (show ¬ f (e - 1) ≤ f e by omega)]; simp
theorem chkF_up {b e : Nat} {f : Nat → Int} (h1 : b ≤ e) (h : f e < f (e - b)) : chkF b f e = false := by
  simp only [chkF, decide_eq_false (show ¬ e < b by omega), decide_eq_false (show ¬ f (e - b) ≤ f e by omega)]; simp
theorem chkF_yes {b e : Nat} {f : Nat → Int} (h0 : (seeN f e).testBit (f e).toNat = false) (h1 : e % b = 0 ∨ f (e - 1) ≤ f e) (h2 : e < b ∨ f (e - b) ≤ f e) : chkF b f e = true := by
  simp only [chkF, h0, Bool.not_false, Bool.true_and, Bool.and_eq_true, Bool.or_eq_true, decide_eq_true_eq]
  exact ⟨h1, h2⟩
theorem sides_no10 {m : Nat} {b : Int} (h : 10 < m) : sides m b = false := by
  simp only [sides, decide_eq_false (show ¬ (m : Int) ≤ 10 by omega)]; simp
theorem sides_no0 {m : Nat} {b : Int} (h : m = 0) : sides m b = false := by
  subst h; rfl

theorem IntsSS.row0 {w : World} {v : Value} {ls : List (List Int)} (h : IntsSS w v ls) (h0 : 0 < ls.length) : ∃ b o c, v = .slice (some ⟨b, o, none⟩) ls.length c ∧ b < w.heap.size ∧ ∀ r, r < ls.length → ∃ u, w.cell? ⟨b, o + r, none⟩ = some u ∧ Ints w u (ls.getD r []) := by
  obtain ⟨A, c, rfl, h⟩ := h
  obtain ⟨b, o, u, rfl, h1, h2, h3⟩ := h 0 h0
  refine ⟨b, o, c, rfl, h1, fun r hr => ?_⟩
  obtain ⟨b', o', u', e, h1', h2', h3'⟩ := h r hr
  injection e with e
  injection e with e1 e2 e3
  subst e1; subst e2
  exact ⟨u', h2', h3'⟩
end Go.Proofs.Ytclhebpkpmholaa
