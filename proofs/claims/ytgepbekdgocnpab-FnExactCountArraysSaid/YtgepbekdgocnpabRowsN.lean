/- Rows of lists told by a function. -/
import Derived.Test.YtgepbekdgocnpabAddRow
namespace Go.Proofs.Ytgepbekdgocnpab
open Go.RowKit Go.WideShapes Go.ChangeShapes
set_option linter.unusedVariables false

theorem OwnSS.monoBR {ti ts : TypeId} {w : World} {B B' E : Nat} {v : Value} {ls : List (List Int)} (h : OwnSS ti ts w B E v ls) (hB : B' ≤ B) : OwnSS ti ts w B' E v ls := by
  obtain ⟨us, h1, h2, h3, h4, h5⟩ := h
  refine ⟨us, h1, ?_, h3, fun j u l hu hl => ⟨(h4 j u l hu hl).1.mono hB, (h4 j u l hu hl).2⟩, h5⟩
  obtain ⟨a1, a2⟩ := h2
  refine ⟨a1, ?_⟩
  rcases a2 with a2 | ⟨g, cap, cur, hv, hg, r⟩
  · exact .inl a2
  · exact .inr ⟨g, cap, cur, hv, by omega, r⟩
theorem OwnSS.single {ti ts : TypeId} {w : World} {B : Nat} {u : Value} {l : List Int} (h : OwnI ti w B u l) (hB : B ≤ w.heap.size) : OwnSS ti ts (w.alloc (.cells #[u] ts)) B (w.heap.size + 1) (.slice (some ⟨w.heap.size, 0, none⟩) 1 1) [l] := by
  refine ⟨[u], rfl, ⟨rfl, .inr ⟨w.heap.size, 1, #[u], rfl, hB, heap_alloc_new w _, Nat.le_refl _, by unfold maxLen; omega, rfl, rfl⟩⟩, fun k hk => ?_, fun j y m hy hm => ?_, fun i j y y' hij hy hy' => ?_⟩
  · simp only [Value.ownBlock, Option.some.injEq] at hk; omega
  · match j, hy, hm with
    | 0, hy, hm =>
      simp only [List.getElem?_cons_zero, Option.some.injEq] at hy hm
      subst hy; subst hm
      exact ⟨h.alloc _, fun k hk => by have := (h.blockLt k hk).2; omega⟩
    | j + 1, hy, hm => simp at hy
  · match i, j, hij, hy, hy' with
    | 0, 0, hij, _, _ => exact absurd rfl hij
    | 0, j + 1, _, _, hy' => simp at hy'
    | i + 1, j, _, hy, _ => simp at hy
theorem OwnSS.monoE {ti ts : TypeId} {w : World} {B E E' : Nat} {v : Value} {ls : List (List Int)} (h : OwnSS ti ts w B E v ls) (hE : E ≤ E') : OwnSS ti ts w B E' v ls := by
  obtain ⟨us, h1, h2, h3, h4, h5⟩ := h
  exact ⟨us, h1, h2, fun k hk => Nat.lt_of_lt_of_le (h3 k hk) hE, fun j u l hu hl => ⟨(h4 j u l hu hl).1, fun k hk => Nat.lt_of_lt_of_le ((h4 j u l hu hl).2 k hk) hE⟩, h5⟩
def rowsN (f : Nat → List Int) (m : Nat) : List (List Int) := (List.range m).map f
theorem rowsN_succ (f : Nat → List Int) (m : Nat) : rowsN f (m + 1) = rowsN f m ++ [f m] := by
  unfold rowsN; rw [List.range_succ, List.map_append]; rfl
theorem rowsN_length (f : Nat → List Int) (m : Nat) : (rowsN f m).length = m := by simp [rowsN]
theorem rowsN_getD (f : Nat → List Int) {m j : Nat} (h : j < m) : (rowsN f m).getD j [] = f j := by simp [rowsN, List.getD, h]
theorem offL_leR {ls : List (List Int)} {m : Nat} (h : ∀ j, j < ls.length → (ls.getD j []).length ≤ m) (k : Nat) (hk : k ≤ ls.length) : offL ls k ≤ m * k := by
  induction k with
  | zero => simp [offL]
  | succ k ih =>
    have h1 := ih (by omega)
    have h2 := h k (by omega)
    unfold offL
    rw [Nat.mul_succ]; omega
theorem rowsN_small (f : Nat → List Int) {m : Nat} (hm : m ≤ 500) (h : ∀ j, j < m → (f j).length ≤ 10) : SSmall (rowsN f m) := by
  have h2 : ∀ j, j < (rowsN f m).length → ((rowsN f m).getD j []).length ≤ 1024 := by
    intro j hj
    rw [rowsN_length] at hj
    rw [rowsN_getD f hj]
    have := h j hj
    omega
  have hl := rowsN_length f m
  refine ⟨by omega, fun j hj => by have := h2 j hj; omega, ?_⟩
  have h3 := offL_leR h2 _ (Nat.le_refl _)
  have h4 : 1024 * (rowsN f m).length ≤ 1024 * 500 := Nat.mul_le_mul_left _ (by omega)
  omega
theorem rows_cell {w : World} {v : Value} {ls : List (List Int)} (h : IntsSS w v ls) {k : Nat} (hk : k < ls.length) : ∃ b o c u, v = .slice (some ⟨b, o, none⟩) ls.length c ∧ b < w.heap.size ∧ w.cell? ⟨b, o + k, none⟩ = some u ∧ Ints w u (ls.getD k []) := by
  obtain ⟨A, c, rfl, h⟩ := h
  obtain ⟨b, o, u, rfl, h1, h2, h3⟩ := h k hk
  exact ⟨b, o, c, u, rfl, h1, h2, h3⟩
end Go.Proofs.Ytgepbekdgocnpab
