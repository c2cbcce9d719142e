/- Words for chains in memory: a slice of rows that grow in their places; an object whose fields alone turn. -/
import Derived.Test.YtgepbekdgocnpabHas
import Derived.Test.YtgepbekdgocnpabRowsN
import Derived.Test.YtgepbekdgocnpabHeights
import Derived.Test.YtgepbekdgocnpabJoin
namespace Go.Proofs.Ytgepbekdgocnpab
open Go.RowKit Go.WideShapes Go.ChangeShapes
set_option linter.unusedVariables false

/-- 'q' holds the slices of the rows 'ls', which lie apart in blocks from S on -/
def RowsB (ti ts : TypeId) (w : World) (q S : Nat) (ls : List (List Int)) : Prop :=
  ∃ us : List Value, us.length = ls.length ∧ Blk w q ts us.toArray ∧ q < S ∧ (∀ (j : Nat) (u : Value) (l : List Int), us[j]? = some u → ls[j]? = some l → OwnI ti w S u l) ∧
    (∀ (i j : Nat) (u u' : Value), i ≠ j → us[i]? = some u → us[j]? = some u' → u.ownBlock = none ∨ u.ownBlock ≠ u'.ownBlock)
theorem RowsB.made (ti ts : TypeId) (w : World) (n S : Nat) (hS : w.heap.size < S) : RowsB ti ts (w.alloc (.cells (madeCells #[.slice none 0 0] n) ts)) w.heap.size S (rowsN (fun _ => []) n) := by
  have hm := toList_madeCells_one (.slice none 0 0) n
  refine ⟨List.replicate n (.slice none 0 0), by rw [List.length_replicate, rowsN_length], ?_, hS, ?_, ?_⟩
  · rw [← hm]; exact Blk.new _ _ _
  · intro j u l hu hl
    obtain ⟨hj, rfl⟩ := List.getElem?_eq_some_iff.1 hu
    obtain ⟨hj', rfl⟩ := List.getElem?_eq_some_iff.1 hl
    simp only [rowsN, List.getElem_map, List.getElem_replicate]
    exact OwnI.nil _ _ _
  · intro i j u u' hij hu hu'
    obtain ⟨hj, rfl⟩ := List.getElem?_eq_some_iff.1 hu
    left
    simp [Value.ownBlock]
theorem RowsB.below {ti ts : TypeId} {w w' : World} {q S : Nat} {ls : List (List Int)} (h : RowsB ti ts w q S ls) (hb : Below w.heap.size w w') : RowsB ti ts w' q S ls := by
  obtain ⟨us, h1, h2, h3, h4, h5⟩ := h
  exact ⟨us, h1, h2.below hb h2.lt, h3, fun j u l hu hl => (h4 j u l hu hl).below hb, h5⟩
theorem RowsB.alloc {ti ts : TypeId} {w : World} {q S : Nat} {ls : List (List Int)} (h : RowsB ti ts w q S ls) (o : Obj) : RowsB ti ts (w.alloc o) q S ls := h.below ((Below.refl _ _).alloc (Nat.le_refl _) o)
theorem RowsB.drew {ti ts : TypeId} {w : World} {q S : Nat} {ls : List (List Int)} (h : RowsB ti ts w q S ls) : RowsB ti ts w.drew q S ls := h.below (Go.Joins.below_draws _ _ 1)
theorem RowsB.far {ti ts : TypeId} {w : World} {q S : Nat} {ls : List (List Int)} (h : RowsB ti ts w q S ls) {p : Addr} (hp : p.block ≠ q) (hpS : p.block < S) (x : Value) : RowsB ti ts (w.setCell p x) q S ls := by
  obtain ⟨us, h1, h2, h3, h4, h5⟩ := h
  refine ⟨us, h1, h2.far (fun e => hp e.symm) x, h3, fun j u l hu hl => ?_, h5⟩
  obtain ⟨b, o, x'⟩ := p
  have hi := h4 j u l hu hl
  refine ⟨hi.1, ?_⟩
  rcases hi.2 with h6 | ⟨g, cap, cur, e, hB, hh, r⟩
  · exact .inl h6
  · refine .inr ⟨g, cap, cur, e, hB, ?_, r⟩
    rw [Below.heap_setCell w _ x g (by simp only; intro e'; subst e'; simp only at hpS; omega)]
    exact hh
/-- one row, and what an append to it makes of all -/
theorem RowsB.at {ti ts : TypeId} {w : World} {q S : Nat} {ls : List (List Int)} (h : RowsB ti ts w q S ls) {j : Nat} (hj : j < ls.length) :
    ∃ u, w.cell? ⟨q, j, none⟩ = some u ∧ w.frozen? ⟨q, j, none⟩ = false ∧ OwnI ti w S u (ls.getD j []) ∧ q < S ∧
      ∀ w' v' l', OwnI ti w' S v' l' → Below S w w' → (∀ z zs, OwnI ti w S z zs → (z.ownBlock = none ∨ z.ownBlock ≠ u.ownBlock) → OwnI ti w' S z zs ∧ (z.ownBlock = none ∨ z.ownBlock ≠ v'.ownBlock)) →
        w'.cell? ⟨q, j, none⟩ = some u ∧ w'.frozen? ⟨q, j, none⟩ = false ∧ RowsB ti ts (w'.setCell ⟨q, j, none⟩ v') q S (ls.set j l') := by
  obtain ⟨us, h1, h2, h3, h4, h5⟩ := h
  have hu : us[j]? = some us[j] := List.getElem?_eq_getElem (by omega)
  have hl : ls[j]? = some ls[j] := List.getElem?_eq_getElem hj
  have el : ls.getD j [] = ls[j] := by simp [List.getD, hl]
  have hc : ∀ W, Blk W q ts us.toArray → W.cell? ⟨q, j, none⟩ = some us[j] := fun W hW => by rw [hW.cell, List.getElem?_toArray, hu]
  refine ⟨us[j], hc w h2, h2.frozen j, by rw [el]; exact h4 j _ _ hu hl, h3, fun w' v' l' ho hb hz => ?_⟩
  have h2' := h2.below hb h3
  refine ⟨hc w' h2', h2'.frozen j, us.set j v', by simp [h1], ?_, h3, ?_, ?_⟩
  · have := h2'.set_ j v'
    rwa [List.setIfInBounds_toArray] at this
  · intro i u l hu' hl'
    have hfar : ∀ z zs, OwnI ti w' S z zs → OwnI ti (w'.setCell ⟨q, j, none⟩ v') S z zs := fun z zs hz' =>
      hz'.grown (grown_setCell (World.grownBy.refl _ _) j v') (hz'.apart (.inl h3))
    by_cases e : j = i
    · subst e
      rw [List.getElem?_set_self (by omega)] at hu' hl'
      injection hu' with hu'
      injection hl' with hl'
      subst hu'; subst hl'
      exact hfar _ _ ho
    · rw [List.getElem?_set_ne e] at hu' hl'
      have hd := h5 i j u us[j] (fun e' => e e'.symm) hu' hu
      exact hfar _ _ (hz u l (h4 i u l hu' hl') hd).1
  · intro i i' u1 u2 hii hu1 hu2
    by_cases e : j = i
    · subst e
      rw [List.getElem?_set_self (by omega)] at hu1
      rw [List.getElem?_set_ne hii] at hu2
      injection hu1 with hu1
      subst hu1
      have hl2 : i' < us.length := (List.getElem?_eq_some_iff.1 hu2).1
      have hd := h5 i' j u2 us[j] (fun e => hii e.symm) hu2 hu
      rcases (hz u2 ls[i'] (h4 i' u2 _ hu2 (List.getElem?_eq_getElem (by omega))) hd).2 with h6 | h6
      · rcases hv : v'.ownBlock with _ | k
        · exact .inl rfl
        · right; rw [h6]; simp
      · exact .inr (fun e' => h6 e'.symm)
    · rw [List.getElem?_set_ne e] at hu1
      by_cases e' : j = i'
      · subst e'
        rw [List.getElem?_set_self (by omega)] at hu2
        injection hu2 with hu2
        subst hu2
        have hl1 : i < us.length := (List.getElem?_eq_some_iff.1 hu1).1
        exact (hz u1 ls[i] (h4 i u1 _ hu1 (List.getElem?_eq_getElem (by omega))) (h5 i j u1 us[j] hii hu1 hu)).2
      · rw [List.getElem?_set_ne e'] at hu2
        exact h5 i i' u1 u2 hii hu1 hu2

/-- 'rows[j] = append(rows[j], y)' within a region that draws -/
theorem step_append_rows {P : Program} {ops : Array Oper} {o : Oper} {a : Act} {w : World} {K : Act → World → Prop} {Q : Exit → Act → World → Prop} {E : Prop} (hgd : o.guard = none) (s x : Operand) (t ts e : TypeId)
    (ho : o.op = .call { callee := .builtin .append, args := #[s, x], argTypes := #[t, t] }) (ht : P.underlying t = some (.slice e)) (hinfo : (P.info? e).map (fun i => (i.zero, i.size, i.bytes)) = some (some (.int .i64 0), 1, 8))
    (q S j : Nat) (ls : List (List Int)) (y : Int) (u : Value) (hR : RowsB e ts w q S ls) (hj : j < ls.length) (hc : w.cell? ⟨q, j, none⟩ = some u) (hs : a.eval s = u) (g : Nat) (hx : a.eval x = .slice (some ⟨g, 0, none⟩) 1 1) (hg : Blk w g e #[.int .i64 y])
    (hlen : (ls.getD j []).length < 1048576) (hS : S ≤ w.heap.size)
    (h : ∀ g' cap w', w'.cell? ⟨q, j, none⟩ = some u → w'.frozen? ⟨q, j, none⟩ = false → Below S w w' → RowsB e ts (w'.setCell ⟨q, j, none⟩ (.slice (some ⟨g', 0, none⟩) ((ls.getD j []).length + 1) cap)) q S (ls.set j (ls.getD j [] ++ [y])) →
      K (a.put o.dst (.slice (some ⟨g', 0, none⟩) ((ls.getD j []).length + 1) cap)) w') :
    if Region.wanted o (yielded ops a.tmps) = true then Oper.wp P o a w K Q else E := by
  obtain ⟨u', hc', -, hown, hqS, hstep⟩ := hR.at hj
  rw [hc] at hc'
  injection hc' with hc'
  subst hc'
  refine step_append_int hgd s x t e ho ht hinfo S u (ls.getD j []) y hs hown g hx hg hlen hS ?_
  intro g' cap w' h1 h2 h3 h4
  have hB : Below S w w' := (Below.refl _ _).grown h2 hS fun k hk => (hown.blockLt k hk).1
  obtain ⟨k1, k2, k3⟩ := hstep w' _ _ (by have e2 : OwnI e w' S (.slice (some ⟨g', 0, none⟩) ((ls.getD j []).length + 1) cap) (ls.getD j [] ++ [y]) := h1
                                          exact e2) hB fun z zs hz hzv => ⟨hz.grown h2 hzv, by
    rcases hq : z.ownBlock with _ | k
    · exact .inl rfl
    · refine .inr fun e2 => ?_
      simp only [Value.ownBlock, Option.some.injEq] at e2
      subst e2
      rcases h3 with h3 | h3
      · rcases hzv with h5 | h5
        · rw [hq] at h5; cases h5
        · exact h5 (by rw [hq, h3])
      · have := (hz.blockLt _ hq).2; omega⟩
  exact h g' cap w' k1 k2 hB k3

/-- all that was there stays, but for the block P -/
structure Kp (P : Nat) (w W : World) : Prop where
  size : w.heap.size ≤ W.heap.size
  block : ∀ k, k < w.heap.size → k ≠ P → W.heap[k]? = w.heap[k]?
theorem Kp.refl (P : Nat) (w : World) : Kp P w w := ⟨Nat.le_refl _, fun _ _ _ => rfl⟩
theorem Kp.trans {P : Nat} {a b c : World} (h : Kp P a b) (k : Kp P b c) : Kp P a c :=
  ⟨Nat.le_trans h.size k.size, fun i hi hne => (k.block i (Nat.lt_of_lt_of_le hi h.size) hne).trans (h.block i hi hne)⟩
theorem Kp.of_below {P : Nat} {a b : World} (h : Below a.heap.size a b) : Kp P a b := ⟨h.size, fun i hi _ => h.block i hi⟩
theorem Kp.set_ {P : Nat} {a b : World} (h : Kp P a b) (i : Nat) (x : Value) : Kp P a (b.setCell ⟨P, i, none⟩ x) :=
  ⟨by simpa [World.setCell] using h.size, fun k hk hne => (Below.heap_setCell b ⟨P, i, none⟩ x k hne).trans (h.block k hk hne)⟩
theorem OwnI.kp {e : TypeId} {w W : World} {B P : Nat} {v : Value} {xs : List Int} (h : OwnI e w B v xs) (hk : Kp P w W) (hP : v.ownBlock ≠ some P) : OwnI e W B v xs := by
  refine ⟨h.1, ?_⟩
  rcases h.2 with h6 | ⟨g, cap, cur, rfl, hB, hh, r⟩
  · exact .inl h6
  · refine .inr ⟨g, cap, cur, rfl, hB, ?_, r⟩
    have hg : g < w.heap.size := by
      rcases Nat.lt_or_ge g w.heap.size with hlt | hge
      · exact hlt
      · rw [Array.getElem?_eq_none hge] at hh; cases hh
    rw [hk.block g hg (by intro e; subst e; exact hP rfl)]; exact hh
theorem RowsB.kp {ti ts : TypeId} {w W : World} {q S P : Nat} {ls : List (List Int)} (h : RowsB ti ts w q S ls) (hk : Kp P w W) (hP : q ≠ P) (hPS : P < S) : RowsB ti ts W q S ls := by
  obtain ⟨us, h1, h2, h3, h4, h5⟩ := h
  refine ⟨us, h1, (hk.block q h2.lt hP).trans h2, h3, fun j u l hu hl => ?_, h5⟩
  have hi := h4 j u l hu hl
  exact hi.kp hk (fun e => by have := (hi.blockLt P e).1; omega)
theorem RowsB.ss {ti ts : TypeId} {w : World} {q S : Nat} {ls : List (List Int)} (h : RowsB ti ts w q S ls) (c : Nat) : IntsSS w (.slice (some ⟨q, 0, none⟩) ls.length c) ls := by
  refine ⟨_, _, rfl, fun j hj => ?_⟩
  obtain ⟨u, hc, -, ho, -, -⟩ := h.at hj
  obtain ⟨us, h1, h2, -⟩ := h
  exact ⟨q, 0, u, rfl, h2.lt, by rw [Nat.zero_add]; exact hc, ho.ints⟩
/-- chains: the object P, and what its fields hold -/
def ChI (tc : TypeId) (w : World) (P : Nat) (vi vb fv : Value) (ids : List Int) (bl : List (List Int)) (cs : List Int) : Prop :=
  ∃ vc, Blk w P tc #[vi, vb, vc, fv] ∧ ∀ W, Kp P w W → Ints W vi ids ∧ IntsSS W vb bl ∧ Ints W vc cs
theorem ChI.below {tc : TypeId} {w w' : World} {P : Nat} {vi vb fv : Value} {ids : List Int} {bl : List (List Int)} {cs : List Int} (h : ChI tc w P vi vb fv ids bl cs) (hb : Below w.heap.size w w') : ChI tc w' P vi vb fv ids bl cs := by
  obtain ⟨vc, h1, h2⟩ := h
  exact ⟨vc, h1.below hb h1.lt, fun W hW => h2 W ((Kp.of_below hb).trans hW)⟩
theorem ChI.here {tc : TypeId} {w : World} {P : Nat} {vi vb fv : Value} {ids : List Int} {bl : List (List Int)} {cs : List Int} (h : ChI tc w P vi vb fv ids bl cs) : ∃ vc, Blk w P tc #[vi, vb, vc, fv] ∧ Ints w vi ids ∧ IntsSS w vb bl ∧ Ints w vc cs := by
  obtain ⟨vc, h1, h2⟩ := h
  exact ⟨vc, h1, h2 w (Kp.refl _ _)⟩
/-- the counts are put anew -/
theorem ChI.put {tc : TypeId} {w w' : World} {P : Nat} {vi vb fv : Value} {ids : List Int} {bl : List (List Int)} {cs cs' : List Int} (h : ChI tc w P vi vb fv ids bl cs) (hb : Below w.heap.size w w') {G n c : Nat} {t : TypeId}
    (hG : Blk w' G t (Vals cs')) (hGP : w.heap.size ≤ G) (hn : n = cs'.length) : ChI tc (w'.setCell ⟨P, 2, none⟩ (.slice (some ⟨G, 0, none⟩) n c)) P vi vb fv ids bl cs' := by
  obtain ⟨vc, h1, h2⟩ := h
  have hP := h1.lt
  have h3 := (h1.below hb hP).set_ 2 (.slice (some ⟨G, 0, none⟩) n c)
  refine ⟨.slice (some ⟨G, 0, none⟩) n c, h3, fun W hW => ?_⟩
  have hk : Kp P w W := ((Kp.of_below hb).set_ 2 _).trans hW
  obtain ⟨a, b, -⟩ := h2 W hk
  refine ⟨a, b, ?_⟩
  subst hn
  have hGB : Blk (w'.setCell ⟨P, 2, none⟩ (.slice (some ⟨G, 0, none⟩) cs'.length c)) G t (Vals cs') := hG.far (p := ⟨P, 2, none⟩) (by simp only; omega) _
  have hGW : Blk W G t (Vals cs') := (hW.block G hGB.lt (by omega)).trans hGB
  exact hGW.ints
end Go.Proofs.Ytgepbekdgocnpab
