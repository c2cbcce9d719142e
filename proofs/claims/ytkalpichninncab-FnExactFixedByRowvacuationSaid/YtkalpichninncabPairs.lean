/- Lists of pairs of numbers: slices of slices of two. -/
import Derived.Test.YtkalpichninncabWhere
namespace Go.Proofs.Ytkalpichninncab
open Go.RowKit Go.WideShapes Go.ChangeShapes
set_option linter.unusedVariables false

theorem Try.info22 : (Try.prog.info? 22).map (fun i => (i.zero, i.size, i.bytes)) = some (some (.slice none 0 0), 1, 24) := by kernel_rfl

/-- 'u' is a slice of just the two numbers a and b, in a block of its own -/
def PairAt (ti : TypeId) (w : World) (B : Nat) (u : Value) (p : Nat × Nat) : Prop := ∃ g, u = .slice (some ⟨g, 0, none⟩) 2 2 ∧ B ≤ g ∧ Blk w g ti #[.int .i64 (p.1 : Int), .int .i64 (p.2 : Int)]
theorem PairAt.below {ti : TypeId} {w w' : World} {B : Nat} {u : Value} {p : Nat × Nat} (h : PairAt ti w B u p) (hb : Below w.heap.size w w') : PairAt ti w' B u p := by
  obtain ⟨g, rfl, hB, hg⟩ := h
  exact ⟨g, rfl, hB, hg.below hb hg.lt⟩
/-- 'v' is a slice of the pairs ps -/
def Pairs (ti ts : TypeId) (w : World) (B : Nat) (v : Value) (ps : List (Nat × Nat)) : Prop :=
  ∃ us : List Value, us.length = ps.length ∧ w.ownsRow B ts 1 v ps.length us ∧ (∀ (j : Nat) (u : Value) (p : Nat × Nat), us[j]? = some u → ps[j]? = some p → PairAt ti w B u p) ∧ ∀ (i j : Nat) (u : Value), us[i]? = some u → us[j]? = some u → i = j
theorem Pairs.nil (ti ts : TypeId) (w : World) (B : Nat) : Pairs ti ts w B (.slice none 0 0) [] := ⟨[], rfl, World.ownsRow_nil w B ts 1, by simp, by simp⟩
theorem Pairs.below {ti ts : TypeId} {w w' : World} {B : Nat} {v : Value} {ps : List (Nat × Nat)} (h : Pairs ti ts w B v ps) (hb : Below w.heap.size w w') : Pairs ti ts w' B v ps := by
  obtain ⟨us, h1, h2, h3, h4⟩ := h
  refine ⟨us, h1, ?_, fun j u p hu hp => (h3 j u p hu hp).below hb, h4⟩
  by_cases hv : v.ownBlock = none
  · exact h2.kept (grown_of_below hb none) (.inl hv)
  · exact h2.kept (grown_of_below hb none) (.inr hv)
theorem Pairs.shape {ti ts : TypeId} {w : World} {B : Nat} {v : Value} {ps : List (Nat × Nat)} (h : Pairs ti ts w B v ps) :
    ∃ A c, v = .slice A ps.length c ∧ ∀ j, j < ps.length → ∃ b g, A = some ⟨b, 0, none⟩ ∧ b < w.heap.size ∧ g < w.heap.size ∧ w.cell? ⟨b, j, none⟩ = some (.slice (some ⟨g, 0, none⟩) 2 2) ∧ w.cell? ⟨g, 0, none⟩ = some (.int .i64 ((ps.getD j (0, 0)).1 : Int)) ∧ w.cell? ⟨g, 1, none⟩ = some (.int .i64 ((ps.getD j (0, 0)).2 : Int)) := by
  obtain ⟨us, h1, h2, h3, -⟩ := h
  rcases h2.2 with ⟨rfl, hn⟩ | ⟨b, cap, cur, rfl, hB, hh, _⟩
  · exact ⟨none, 0, by rw [hn], fun j hj => by omega⟩
  · refine ⟨_, cap, rfl, fun j hj => ?_⟩
    have hu : us[j]? = some us[j] := List.getElem?_eq_getElem (by omega)
    have hp : ps[j]? = some ps[j] := List.getElem?_eq_getElem hj
    obtain ⟨g, e, -, hg⟩ := h3 j _ _ hu hp
    have hc := h2.cellAt j (by omega)
    rw [hu, e] at hc
    have hbl : b < w.heap.size := by
      rcases Nat.lt_or_ge b w.heap.size with hlt | hge
      · exact hlt
      · rw [Array.getElem?_eq_none hge] at hh; cases hh
    have e2 : ps.getD j (0, 0) = ps[j] := by simp [List.getD, hp]
    refine ⟨b, g, rfl, hbl, hg.lt, hc, ?_, ?_⟩
    · rw [hg.cell, e2]; rfl
    · rw [hg.cell, e2]; rfl
/-- 'pairs = append(pairs, []int{a, b})' -/
theorem wpList_append_pair {P : Program} {w W : World} {ops : Array Oper} {rest : List Oper} {o : Oper} {ac : Act} {Q : Exit → Act → World → Prop} (hgd : o.guard = none) (s x : Operand) (t ts ti : TypeId)
    (ho : o.op = .call { callee := .builtin .append, args := #[s, x], argTypes := #[t, t] }) (ht : P.underlying t = some (.slice ts)) (hinfo : (P.info? ts).map (fun i => (i.zero, i.size, i.bytes)) = some (some (.slice none 0 0), 1, 24))
    (hne : ti ≠ ts) (B : Nat) (v : Value) (ps : List (Nat × Nat)) (a b : Nat) (hs : ac.eval s = v) (hown : Pairs ti ts w B v ps)
    (hW : W = (w.alloc (.cells #[.int .i64 (a : Int), .int .i64 (b : Int)] ti)).alloc (.cells #[.slice (some ⟨w.heap.size, 0, none⟩) 2 2] ts)) (hx : ac.eval x = .slice (some ⟨w.heap.size + 1, 0, none⟩) 1 1) (hlen : ps.length < 1048576) (hB : B ≤ w.heap.size)
    (h : ∀ v' w', Pairs ti ts w' B v' (ps ++ [(a, b)]) → Below B w w' → wpList P ops Q rest (ac.put o.dst v') w') : wpList P ops Q (o :: rest) ac W := by
  subst hW
  obtain ⟨i0, hi, hz0, hz1, hz2⟩ := info_parts hinfo
  obtain ⟨us, h1, h2, h3, hdis⟩ := hown
  refine wpList_append_own _ hgd s x t ho B ts i0 (.slice none 0 0) 1 24 ht hi hz0 hz1 hz2 rfl (by decide) v ps.length us hs ((h2.alloc _).alloc _) ⟨w.heap.size + 1, 0, none⟩ 1 1 [.slice (some ⟨w.heap.size, 0, none⟩) 2 2] hx rfl ?_ ?_ ?_ ?_ ?_ ?_
  · intro j u hj
    match j, hj with
    | 0, hj =>
      simp only [List.getElem?_cons_zero, Option.some.injEq] at hj
      subst hj
      exact (Blk.newAt (w.alloc (.cells #[.int .i64 (a : Int), .int .i64 (b : Int)] ti)) ts #[.slice (some ⟨w.heap.size, 0, none⟩) 2 2] (w.heap.size + 1) (by simp)).cell 0
    | j + 1, hj => simp at hj
  · intro u hu
    simp only [List.mem_singleton] at hu
    subst hu; rfl
  · unfold maxLen; omega
  · omega
  · simp; omega
  · intro v' w' h4 h5 _
    have hnew := Blk.alloc (Blk.new w ti #[.int .i64 (a : Int), .int .i64 (b : Int)]) (.cells #[.slice (some ⟨w.heap.size, 0, none⟩) 2 2] ts)
    have keep : ∀ g cs, Blk ((w.alloc (.cells #[.int .i64 (a : Int), .int .i64 (b : Int)] ti)).alloc (.cells #[.slice (some ⟨w.heap.size, 0, none⟩) 2 2] ts)) g ti cs → Blk w' g ti cs := by
      intro g cs hg
      refine (h5.block g hg.lt ?_).trans hg
      intro e
      rcases ((h2.alloc (.cells #[.int .i64 (a : Int), .int .i64 (b : Int)] ti)).alloc (.cells #[.slice (some ⟨w.heap.size, 0, none⟩) 2 2] ts)).2 with ⟨rfl, _⟩ | ⟨g', cap, cur, rfl, _, hh, _⟩
      · simp [Value.ownBlock] at e
      · simp only [Value.ownBlock, Option.some.injEq] at e
        subst e
        unfold Blk at hg
        rw [hh] at hg
        injection hg with hg
        injection hg with _ hg
        exact hne hg.symm
    refine h v' w' ⟨us ++ [.slice (some ⟨w.heap.size, 0, none⟩) 2 2], by simp [h1], by simpa using h4, ?_, ?_⟩ ?_
    · intro j u p hu hp
      rw [List.getElem?_append] at hu hp
      by_cases hj : j < ps.length
      · rw [if_pos (by omega)] at hu
        rw [if_pos hj] at hp
        obtain ⟨g, e, hgB, hg⟩ := h3 j u p hu hp
        exact ⟨g, e, hgB, keep g _ (Blk.alloc (Blk.alloc hg _) _)⟩
      · rw [if_neg (by omega)] at hu
        rw [if_neg hj] at hp
        rcases Nat.eq_zero_or_pos (j - ps.length) with h0 | h0
        · rw [h0] at hp
          rw [h1, h0] at hu
          simp only [List.getElem?_cons_zero, Option.some.injEq] at hu hp
          subst hu; subst hp
          exact ⟨w.heap.size, rfl, hB, keep _ _ hnew⟩
        · rw [List.getElem?_eq_none (by simp; omega)] at hp; cases hp
    · have old : ∀ i u, i < us.length → us[i]? = some u → u ≠ .slice (some ⟨w.heap.size, 0, none⟩) 2 2 := by
        intro i u hi hu e
        have hp : ps[i]? = some ps[i] := List.getElem?_eq_getElem (by omega)
        obtain ⟨g, e', _, hg⟩ := h3 i u _ hu hp
        rw [e'] at e
        injection e with e
        injection e with e
        injection e with e
        have := hg.lt
        omega
      intro i j u hu hu'
      rw [List.getElem?_append] at hu hu'
      by_cases hi : i < us.length
      · rw [if_pos hi] at hu
        by_cases hj : j < us.length
        · rw [if_pos hj] at hu'
          exact hdis i j u hu hu'
        · rw [if_neg hj] at hu'
          rcases Nat.eq_zero_or_pos (j - us.length) with h0 | h0
          · rw [h0] at hu'
            simp only [List.getElem?_cons_zero, Option.some.injEq] at hu'
            exact absurd hu'.symm (old i u hi hu)
          · rw [List.getElem?_eq_none (by simp; omega)] at hu'; cases hu'
      · rw [if_neg hi] at hu
        rcases Nat.eq_zero_or_pos (i - us.length) with h0 | h0
        · rw [h0] at hu
          simp only [List.getElem?_cons_zero, Option.some.injEq] at hu
          by_cases hj : j < us.length
          · rw [if_pos hj] at hu'
            exact absurd hu.symm (old j u hj hu')
          · rw [if_neg hj] at hu'
            rcases Nat.eq_zero_or_pos (j - us.length) with h0' | h0'
            · omega
            · rw [List.getElem?_eq_none (by simp; omega)] at hu'; cases hu'
        · rw [List.getElem?_eq_none (by simp; omega)] at hu; cases hu
    · have hb : Below B w ((w.alloc (.cells #[.int .i64 (a : Int), .int .i64 (b : Int)] ti)).alloc (.cells #[.slice (some ⟨w.heap.size, 0, none⟩) 2 2] ts)) := ((Below.refl _ _).alloc hB _).alloc (by simp; omega) _
      exact hb.grown h5 (by simp; omega) fun k hk => (h2.lt k hk).1
end Go.Proofs.Ytkalpichninncab
