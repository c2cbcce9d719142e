/- Slices of slices of integers: words for memory, and the laws' helpers over them. -/
import Derived.Test.YtkalpichninncabLaw
namespace Go.Proofs.Ytkalpichninncab
open Go.RowKit Go.WideShapes Go.ChangeShapes
set_option linter.unusedVariables false

/-- below the heap's old size only blocks in [B, E) have turned -/
structure TurnedIn (B E : Nat) (w w' : World) : Prop where
  os : w'.os = w.os
  tape : w'.tape = w.tape
  output : w'.output = w.output
  size : w.heap.size ≤ w'.heap.size
  block : ∀ k, k < w.heap.size → k < B ∨ E ≤ k → w'.heap[k]? = w.heap[k]?
theorem TurnedIn.refl (B E : Nat) (w : World) : TurnedIn B E w w := ⟨rfl, rfl, rfl, Nat.le_refl _, fun _ _ _ => rfl⟩
theorem TurnedIn.trans {B E : Nat} {a b c : World} (h : TurnedIn B E a b) (k : TurnedIn B E b c) : TurnedIn B E a c :=
  ⟨k.os.trans h.os, k.tape.trans h.tape, k.output.trans h.output, Nat.le_trans h.size k.size, fun i hi ho => (k.block i (Nat.lt_of_lt_of_le hi h.size) ho).trans (h.block i hi ho)⟩
theorem TurnedIn.of_below {B E : Nat} {a b : World} (h : Below a.heap.size a b) : TurnedIn B E a b := ⟨h.os, h.tape, h.output, h.size, fun i hi _ => h.block i hi⟩
theorem TurnedIn.of_grown {B E : Nat} {a b : World} {row : Option Nat} (h : a.grownBy b row) (hr : ∀ k, row = some k → B ≤ k ∧ k < E) : TurnedIn B E a b :=
  ⟨h.os, h.tape, h.output, h.size, fun i hi ho => h.block i hi (fun e => by have := hr i e.symm; omega)⟩
theorem At.turned {w w' : World} {b : Nat} {v : Value} {B E : Nat} (h : At w b v) (hg : TurnedIn B E w w') (hb : b < B ∨ E ≤ b) : At w' b v :=
  ⟨(World.cell?_of_block (a := ⟨b, 0, none⟩) (hg.block b h.2 hb)).trans h.1, Nat.lt_of_lt_of_le h.2 hg.size⟩
theorem below_turned {a w w' : World} {B E : Nat} (h : Below a.heap.size a w) (hg : TurnedIn B E w w') (hB : a.heap.size ≤ B) : Below a.heap.size a w' :=
  h.trans ⟨hg.os, hg.tape, hg.output, hg.size, fun k hk => hg.block k (Nat.lt_of_lt_of_le hk h.size) (.inl (by omega))⟩
theorem OwnI.turned {e : TypeId} {w w' : World} {B B' E E' : Nat} {v : Value} {xs : List Int} (h : OwnI e w B v xs) (hg : TurnedIn B' E' w w') (hv : ∀ k, v.ownBlock = some k → B ≤ k ∧ k < E) (hs : E ≤ B' ∨ E' ≤ B) : OwnI e w' B v xs := by
  obtain ⟨h1, h2⟩ := h
  refine ⟨h1, ?_⟩
  rcases h2 with h2 | ⟨g, cap, cur, rfl, hB, hh, r⟩
  · exact .inl h2
  · refine .inr ⟨g, cap, cur, rfl, hB, ?_, r⟩
    have := hv g rfl
    have hlt : g < w.heap.size := by
      rcases Nat.lt_or_ge g w.heap.size with hlt | hge
      · exact hlt
      · rw [Array.getElem?_eq_none hge] at hh; cases hh
    rw [hg.block g hlt (by omega)]; exact hh

/-- 'v' is a slice of the slices 'ls' -/
def IntsSS (w : World) (v : Value) (ls : List (List Int)) : Prop :=
  ∃ A c, v = .slice A ls.length c ∧ ∀ j, j < ls.length → ∃ b o u, A = some ⟨b, o, none⟩ ∧ b < w.heap.size ∧ w.cell? ⟨b, o + j, none⟩ = some u ∧ Ints w u (ls.getD j [])
theorem IntsSS.below {w w' : World} {v : Value} {ls : List (List Int)} (h : IntsSS w v ls) (hb : Below w.heap.size w w') : IntsSS w' v ls := by
  obtain ⟨A, c, rfl, h⟩ := h
  refine ⟨A, c, rfl, fun j hj => ?_⟩
  obtain ⟨b, o, u, rfl, hlt, hc, hi⟩ := h j hj
  exact ⟨b, o, u, rfl, Nat.lt_of_lt_of_le hlt hb.size, (hb.cell (p := ⟨b, o + j, none⟩) hlt).trans hc, hi.below hb⟩
theorem IntsSS.alloc {w : World} {v : Value} {ls : List (List Int)} (h : IntsSS w v ls) (o : Obj) : IntsSS (w.alloc o) v ls := h.below ((Below.refl _ _).alloc (Nat.le_refl _) o)
/-- 'v' is a slice of slices of the call's own: all blocks lie in [B, E), no two rows share one, and the outer row is none of them -/
def OwnSS (ti ts : TypeId) (w : World) (B E : Nat) (v : Value) (ls : List (List Int)) : Prop :=
  ∃ us : List Value, us.length = ls.length ∧ w.ownsRow B ts 1 v ls.length us ∧ (∀ k, v.ownBlock = some k → k < E) ∧
    (∀ (j : Nat) (u : Value) (l : List Int), us[j]? = some u → ls[j]? = some l → OwnI ti w B u l ∧ ∀ k, u.ownBlock = some k → k < E) ∧
    (∀ (i j : Nat) (u u' : Value), i ≠ j → us[i]? = some u → us[j]? = some u' → u.ownBlock = none ∨ u.ownBlock ≠ u'.ownBlock)
theorem OwnSS.nil (ti ts : TypeId) (w : World) (B E : Nat) : OwnSS ti ts w B E (.slice none 0 0) [] :=
  ⟨[], rfl, World.ownsRow_nil w B ts 1, by simp [Value.ownBlock], by simp, by simp⟩
theorem OwnSS.rows {ti ts : TypeId} {w : World} {B E : Nat} {v : Value} {ls : List (List Int)} (h : OwnSS ti ts w B E v ls) :
    ∃ A c, v = .slice A ls.length c ∧ ∀ j, j < ls.length → ∃ b u, A = some ⟨b, 0, none⟩ ∧ b < w.heap.size ∧ w.cell? ⟨b, j, none⟩ = some u ∧ OwnI ti w B u (ls.getD j []) ∧ (∀ k, u.ownBlock = some k → k < E) := by
  obtain ⟨us, h1, h2, h3, h4, h5⟩ := h
  rcases h2.2 with ⟨rfl, hn⟩ | ⟨b, cap, cur, rfl, hB, hh, _⟩
  · exact ⟨none, 0, by rw [hn], fun j hj => by omega⟩
  · refine ⟨_, cap, rfl, fun j hj => ?_⟩
    have hu : us[j]? = some us[j] := List.getElem?_eq_getElem (by omega)
    have hl : ls[j]? = some ls[j] := List.getElem?_eq_getElem hj
    obtain ⟨hi, hk⟩ := h4 j _ _ hu hl
    have hc := h2.cellAt j (by omega)
    rw [hu] at hc
    have hbl : b < w.heap.size := by
      rcases Nat.lt_or_ge b w.heap.size with hlt | hge
      · exact hlt
      · rw [Array.getElem?_eq_none hge] at hh; cases hh
    have e2 : ls.getD j [] = ls[j] := by simp [List.getD, hl]
    exact ⟨b, us[j], rfl, hbl, hc, by rw [e2]; exact hi, hk⟩
theorem OwnSS.ints {ti ts : TypeId} {w : World} {B E : Nat} {v : Value} {ls : List (List Int)} (h : OwnSS ti ts w B E v ls) : IntsSS w v ls := by
  obtain ⟨A, c, rfl, hr⟩ := h.rows
  refine ⟨A, c, rfl, fun j hj => ?_⟩
  obtain ⟨b, u, rfl, hb, hc, hi, -⟩ := hr j hj
  exact ⟨b, 0, u, rfl, hb, by rw [Nat.zero_add]; exact hc, hi.ints⟩
theorem OwnSS.turned {ti ts : TypeId} {w w' : World} {B E B' E' : Nat} {v : Value} {ls : List (List Int)} (h : OwnSS ti ts w B E v ls) (hg : TurnedIn B' E' w w') (hs : E ≤ B' ∨ E' ≤ B) : OwnSS ti ts w' B E v ls := by
  obtain ⟨us, h1, h2, h3, h4, h5⟩ := h
  refine ⟨us, h1, ?_, h3, ?_, h5⟩
  · obtain ⟨a1, a2⟩ := h2
    refine ⟨a1, ?_⟩
    rcases a2 with a2 | ⟨g, cap, cur, rfl, hB, hh, r⟩
    · exact .inl a2
    · refine .inr ⟨g, cap, cur, rfl, hB, ?_, r⟩
      have := h3 g rfl
      have hlt : g < w.heap.size := by
        rcases Nat.lt_or_ge g w.heap.size with hlt | hge
        · exact hlt
        · rw [Array.getElem?_eq_none hge] at hh; cases hh
      rw [hg.block g hlt (by omega)]; exact hh
  · intro j u l hu hl
    obtain ⟨hi, hk⟩ := h4 j u l hu hl
    exact ⟨hi.turned hg (fun k e => ⟨(hi.blockLt k e).1, hk k e⟩) hs, hk⟩
theorem OwnSS.below {ti ts : TypeId} {w w' : World} {B E : Nat} {v : Value} {ls : List (List Int)} (h : OwnSS ti ts w B E v ls) (hb : Below w.heap.size w w') : OwnSS ti ts w' B E v ls := by
  obtain ⟨us, h1, h2, h3, h4, h5⟩ := h
  refine ⟨us, h1, ?_, h3, fun j u l hu hl => ⟨(h4 j u l hu hl).1.below hb, (h4 j u l hu hl).2⟩, h5⟩
  by_cases hv : v.ownBlock = none
  · exact h2.kept (grown_of_below hb none) (.inl hv)
  · exact h2.kept (grown_of_below hb none) (.inr hv)

theorem OwnSS.alloc {ti ts : TypeId} {w : World} {B E : Nat} {v : Value} {ls : List (List Int)} (h : OwnSS ti ts w B E v ls) (o : Obj) : OwnSS ti ts (w.alloc o) B E v ls := h.below ((Below.refl _ _).alloc (Nat.le_refl _) o)
theorem OwnSS.drew {ti ts : TypeId} {w : World} {B E : Nat} {v : Value} {ls : List (List Int)} (h : OwnSS ti ts w B E v ls) : OwnSS ti ts w.drew B E v ls := h.below (Go.Joins.below_draws _ _ 1)
theorem OwnSS.shape3 {ti ts : TypeId} {w : World} {B E : Nat} {v : Value} {ls : List (List Int)} (h : OwnSS ti ts w B E v ls) : ∃ A n c, v = .slice A n c := by
  obtain ⟨A, c, h, _⟩ := h.rows
  exact ⟨A, _, c, h⟩
/-! ### marks in slices of slices -/
def offL (ls : List (List Int)) : Nat → Nat
  | 0 => 0
  | i + 1 => offL ls i + (ls.getD i []).length
def marksSS (ls : List (List Int)) (k : Int) : List (List Int) := (List.range ls.length).map fun i => marks (ls.getD i []).length (k + (offL ls i : Int))
def markSS (ls : List (List Int)) (k : Int) (j : Nat) : List (List Int) := (List.range ls.length).map fun i => if i < j then marks (ls.getD i []).length (k + (offL ls i : Int)) else ls.getD i []
theorem markSS_length (ls : List (List Int)) (k : Int) (j : Nat) : (markSS ls k j).length = ls.length := by simp [markSS]
theorem marksSS_length (ls : List (List Int)) (k : Int) : (marksSS ls k).length = ls.length := by simp [marksSS]
theorem markSS_zero (ls : List (List Int)) (k : Int) : markSS ls k 0 = ls := by
  apply List.ext_getElem?
  intro i
  simp only [markSS, Nat.not_lt_zero, if_false, List.getElem?_map]
  by_cases hi : i < ls.length <;> simp [hi]
theorem markSS_full (ls : List (List Int)) (k : Int) : markSS ls k ls.length = marksSS ls k := by
  apply List.ext_getElem?
  intro i
  simp only [markSS, marksSS, List.getElem?_map]
  by_cases hi : i < ls.length <;> simp [hi]
theorem markSS_getD (ls : List (List Int)) (k : Int) (j i : Nat) (hi : i < ls.length) : (markSS ls k j).getD i [] = if i < j then marks (ls.getD i []).length (k + (offL ls i : Int)) else ls.getD i [] := by
  simp [markSS, List.getD, hi]
theorem marksSS_getD (ls : List (List Int)) (k : Int) (i : Nat) (hi : i < ls.length) : (marksSS ls k).getD i [] = marks (ls.getD i []).length (k + (offL ls i : Int)) := by
  simp [marksSS, List.getD, hi]
theorem markSS_set (ls : List (List Int)) (k : Int) (j : Nat) (hj : j < ls.length) : (markSS ls k j).set j (marks (ls.getD j []).length (k + (offL ls j : Int))) = markSS ls k (j + 1) := by
  apply List.ext_getElem?
  intro i
  rw [List.getElem?_set, markSS_length]
  simp only [markSS, List.getElem?_map]
  by_cases hi : i < ls.length
  · by_cases h : j = i
    · subst h; simp [hj]
    · simp only [h, if_false]
      by_cases h2 : i < j
      · simp [hi, h2, show i < j + 1 by omega]
      · simp [hi, h2, show ¬ i < j + 1 by omega]
  · simp [hi]
    intro h; omega
/-- all rows together are not long -/
def SSmall (ls : List (List Int)) : Prop := ls.length ≤ 1048576 ∧ (∀ j, j < ls.length → (ls.getD j []).length ≤ 1048576) ∧ offL ls ls.length ≤ 1000000000
theorem offL_mono (ls : List (List Int)) {i j : Nat} (h : i ≤ j) : offL ls i ≤ offL ls j := by
  induction j with
  | zero => have : i = 0 := by omega
            subst this; exact Nat.le_refl _
  | succ j ih =>
    by_cases e : i = j + 1
    · subst e; exact Nat.le_refl _
    · have h1 := ih (by omega)
      have h2 : offL ls (j + 1) = offL ls j + (ls.getD j []).length := rfl
      omega
theorem OwnSS.upd {ti ts : TypeId} {w : World} {B E : Nat} {A : Option Addr} {n c : Nat} {ls : List (List Int)} (h : OwnSS ti ts w B E (.slice A n c) ls) (hne : ti ≠ ts) :
    n = ls.length ∧ ∀ j, j < ls.length → ∃ b u, A = some ⟨b, 0, none⟩ ∧ b < w.heap.size ∧ w.cell? ⟨b, j, none⟩ = some u ∧ OwnI ti w B u (ls.getD j []) ∧ (∀ k, u.ownBlock = some k → k < E) ∧
      ∀ w' l', OwnI ti w' B u l' → w.grownBy w' u.ownBlock → OwnSS ti ts w' B E (.slice A n c) (ls.set j l') := by
  obtain ⟨us, h1, h2, h3, h4, h5⟩ := h
  refine ⟨?_, fun j hj => ?_⟩
  · rcases h2.2 with ⟨e, hn⟩ | ⟨b, cap, cur, e, _⟩
    · injection e with _ e _; omega
    · injection e
  · rcases h2.2 with ⟨e, hn⟩ | ⟨b, cap, cur, e, hB, hh, r1, r2, r3, r4⟩
    · omega
    · injection e with e1 e2 e3
      subst e1; subst e2; subst e3
      have hu : us[j]? = some us[j] := List.getElem?_eq_getElem (by omega)
      have hl : ls[j]? = some ls[j] := List.getElem?_eq_getElem hj
      obtain ⟨hi, hk⟩ := h4 j _ _ hu hl
      have hc := h2.cellAt j (by omega)
      rw [hu] at hc
      have hbl : b < w.heap.size := by
        rcases Nat.lt_or_ge b w.heap.size with hlt | hge
        · exact hlt
        · rw [Array.getElem?_eq_none hge] at hh; cases hh
      have e2 : ls.getD j [] = ls[j] := by simp [List.getD, hl]
      refine ⟨b, us[j], rfl, hbl, hc, by rw [e2]; exact hi, hk, fun w' l' ho hg => ?_⟩
      have hbne : some b ≠ us[j].ownBlock := by
        intro e
        rcases hi.2 with ⟨e', _⟩ | ⟨g, cap', cur', e', _, hh', _⟩
        · rw [e'] at e; simp [Value.ownBlock] at e
        · rw [e'] at e
          simp only [Value.ownBlock, Option.some.injEq] at e
          subst e
          rw [hh] at hh'
          injection hh' with hh'
          injection hh' with _ hh'
          exact hne hh'.symm
      refine ⟨us, by simp [h1], ?_, h3, ?_, h5⟩
      · rw [List.length_set]
        refine ⟨h2.1, .inr ⟨b, c, cur, rfl, hB, ?_, r1, r2, r3, r4⟩⟩
        rw [hg.block b hbl hbne]; exact hh
      · intro i u l hu' hl'
        by_cases e : j = i
        · subst e
          rw [hu] at hu'
          injection hu' with hu'
          subst hu'
          rw [List.getElem?_set_self (by omega)] at hl'
          injection hl' with hl'
          subst hl'
          exact ⟨ho, hk⟩
        · rw [List.getElem?_set_ne e] at hl'
          obtain ⟨hi', hk'⟩ := h4 i u l hu' hl'
          exact ⟨hi'.grown hg (h5 i j u us[j] (fun e' => e e'.symm) hu' hu), hk'⟩

end Go.Proofs.Ytkalpichninncab
