/- Chains begun by the program, counted in lists (words, by tools/genchl.py). -/
import Derived.Test.YtnlehkjfidpdlabChJ
namespace Go.Proofs.Ytnlehkjfidpdlab
open Go.RowKit Go.WideShapes Go.ChangeShapes
set_option linter.unusedVariables false

theorem OwnI.kq {e : TypeId} {w W : World} {B P g : Nat} {v : Value} {xs : List Int} (h : OwnI e w B v xs) (hk : Kq P g w W) (hP : v.ownBlock ≠ some P) (hg : v.ownBlock ≠ some g) : OwnI e W B v xs := by
  refine ⟨h.1, ?_⟩
  rcases h.2 with h6 | ⟨k, cap, cur, rfl, hB, hh, r⟩
  · exact .inl h6
  · refine .inr ⟨k, cap, cur, rfl, hB, ?_, r⟩
    have hl : k < w.heap.size := by
      rcases Nat.lt_or_ge k w.heap.size with hlt | hge
      · exact hlt
      · rw [Array.getElem?_eq_none hge] at hh; cases hh
    rw [hk.block k hl (by intro e; subst e; exact hP rfl) (by intro e; subst e; exact hg rfl)]; exact hh
theorem RowsB.kq {ti ts : TypeId} {w W : World} {q S P g : Nat} {ls : List (List Int)} (h : RowsB ti ts w q S ls) (hk : Kq P g w W) (hP : q ≠ P) (hg : q ≠ g) (hPS : P < S) (hgS : g < S) : RowsB ti ts W q S ls := by
  obtain ⟨us, h1, h2, h3, h4, h5⟩ := h
  refine ⟨us, h1, (hk.block q h2.lt hP hg).trans h2, h3, fun j u l hu hl => ?_, h5⟩
  have hi := h4 j u l hu hl
  exact hi.kq hk (fun e => by have := (hi.blockLt P e).1; omega) (fun e => by have := (hi.blockLt g e).1; omega)
/-- chains counted in lists: the object P, the block cb of the counts, what the other fields hold -/
def ChV (tc ts : TypeId) (w : World) (P cb n : Nat) (vi vb fv : Value) (ids : List Int) (bl : List (List Int)) (cs : Array Value) : Prop :=
  cb ≠ P ∧ Blk w P tc #[vi, vb, .slice (some ⟨cb, 0, none⟩) n n, fv] ∧ Blk w cb ts cs ∧ ∀ W, Kq P cb w W → Ints W vi ids ∧ IntsSS W vb bl
end Go.Proofs.Ytnlehkjfidpdlab
