/- Tables of major numbers: the model. -/
import Derived.Test.YtbbkoagjplapkaaMtM
import Derived.Test.YtbbkoagjplapkaaEndS
import Derived.Test.YtbbkoagjplapkaaTofS
import Derived.Test.YtbbkoagjplapkaaTabL
import Derived.Test.YtbbkoagjplapkaaOwnF
namespace Go.Proofs.Ytbbkoagjplapkaa
open Go.RowKit Go.WideShapes Go.ChangeShapes
set_option linter.unusedVariables false

/-- rows stay where one block of another kind has turned -/
theorem OwnSS.grownT {ti ts tq : TypeId} {w w' : World} {B E q : Nat} {v : Value} {ls : List (List Int)} {cs : Array Value} (h : OwnSS ti ts w B E v ls) (hg : w.grownBy w' (some q)) (hq : w.heap[q]? = some (.cells cs tq (0, 0))) (h1 : ti ≠ tq) (h2 : ts ≠ tq) : OwnSS ti ts w' B E v ls := by
  obtain ⟨us, a1, a2, a3, a4, a5⟩ := h
  have hv : v.ownBlock = none ∨ v.ownBlock ≠ some q := by
    rcases a2.2 with ⟨rfl, _⟩ | ⟨b, cap, cur, rfl, _, hh, _⟩
    · exact .inl rfl
    · refine .inr fun e => ?_
      simp only [Value.ownBlock, Option.some.injEq] at e
      subst e
      rw [hh] at hq
      injection hq with hq
      injection hq with _ hq
      exact h2 hq
  exact ⟨us, a1, a2.kept hg hv, a3, fun j u l hu hl => ⟨(a4 j u l hu hl).1.grown hg (.inr (own_neT h1 (a4 j u l hu hl).1 hq)), (a4 j u l hu hl).2⟩, a5⟩
where
  own_neT {ti tq : TypeId} {w : World} {B q : Nat} {u : Value} {l : List Int} {cs : Array Value} (hne : ti ≠ tq) (h : OwnI ti w B u l) (hq : w.heap[q]? = some (.cells cs tq (0, 0))) : u.ownBlock ≠ some q := by
    intro e
    rcases h.2 with ⟨rfl, _⟩ | ⟨g, cap, cur, rfl, _, hh, _⟩
    · simp [Value.ownBlock] at e
    · simp only [Value.ownBlock, Option.some.injEq] at e
      subst e
      rw [hh] at hq
      injection hq with hq
      injection hq with _ hq
      exact hne hq
/-- a slice of the call's own of rows of rows -/
def OwnT (ti ts tt : TypeId) (B : Nat) (w : World) (v : Value) (F : Nat → List (List Int)) (m : Nat) : Prop :=
  ∃ us : List Value, us.length = m ∧ w.ownsRow B tt 1 v m us ∧ ∀ j u, us[j]? = some u → OwnSS ti ts w B w.heap.size u (F j)
theorem OwnT.nil (ti ts tt : TypeId) (B : Nat) (w : World) (F : Nat → List (List Int)) : OwnT ti ts tt B w (.slice none 0 0) F 0 :=
  ⟨[], rfl, World.ownsRow_nil w B tt 1, fun j u h => by simp at h⟩
theorem OwnT.below {ti ts tt : TypeId} {B : Nat} {w w' : World} {v : Value} {F : Nat → List (List Int)} {m : Nat} (h : OwnT ti ts tt B w v F m) (hb : Below w.heap.size w w') : OwnT ti ts tt B w' v F m := by
  obtain ⟨us, h1, h2, h3⟩ := h
  refine ⟨us, h1, ?_, fun j u hu => ((h3 j u hu).below hb).mono hb.size⟩
  by_cases hv : v.ownBlock = none
  · exact h2.kept (grown_of_below hb none) (.inl hv)
  · exact h2.kept (grown_of_below hb none) (.inr hv)
theorem OwnT.shape {ti ts tt : TypeId} {B : Nat} {w : World} {v : Value} {F : Nat → List (List Int)} {m : Nat} (h : OwnT ti ts tt B w v F m) : ∃ A c, v = .slice A m c := by
  obtain ⟨us, h1, h2, h3⟩ := h
  rcases h2.2 with ⟨rfl, rfl⟩ | ⟨g, cap, cur, rfl, _⟩
  · exact ⟨none, 0, rfl⟩
  · exact ⟨_, cap, rfl⟩
theorem OwnT.cell {ti ts tt : TypeId} {B : Nat} {w : World} {A : Option Addr} {n c : Nat} {F : Nat → List (List Int)} {m : Nat} (h : OwnT ti ts tt B w (.slice A n c) F m) {j : Nat} (hj : j < m) :
    ∃ g u, A = some ⟨g, 0, none⟩ ∧ g < w.heap.size ∧ w.cell? ⟨g, j, none⟩ = some u ∧ OwnSS ti ts w B w.heap.size u (F j) := by
  obtain ⟨us, h1, h2, h3⟩ := h
  obtain ⟨g, cap, hv, hB, hg⟩ := h2.form (by omega)
  injection hv with e1 e2 e3
  subst e1; subst e2; subst e3
  have hu : us[j]? = some us[j] := List.getElem?_eq_getElem (by omega)
  exact ⟨g, us[j], rfl, hg, by rw [h2.cellAt j (by omega), hu], h3 j _ hu⟩
theorem OwnT.monoB {ti ts tt : TypeId} {B B' : Nat} {w : World} {v : Value} {F : Nat → List (List Int)} {m : Nat} (h : OwnT ti ts tt B w v F m) (hB : B' ≤ B) : OwnT ti ts tt B' w v F m := by
  obtain ⟨us, h1, h2, h3⟩ := h
  refine ⟨us, h1, ?_, fun j u hu => (h3 j u hu).monoG hB⟩
  obtain ⟨a1, a2⟩ := h2
  refine ⟨a1, ?_⟩
  rcases a2 with a2 | ⟨g, cap, cur, hv, hg, r⟩
  · exact .inl a2
  · exact .inr ⟨g, cap, cur, hv, by omega, r⟩
/-- 'out = append(out, rows)' -/
theorem wpList_append_t {P : Program} {w W : World} {ops : Array Oper} {rest : List Oper} {o : Oper} {a : Act} {Q : Exit → Act → World → Prop} (hgd : o.guard = none) (s x : Operand) (t tt ts ti : TypeId)
    (ho : o.op = .call { callee := .builtin .append, args := #[s, x], argTypes := #[t, t] }) (ht : P.underlying t = some (.slice tt)) (hinfo : (P.info? tt).map (fun i => (i.zero, i.size, i.bytes)) = some (some (.slice none 0 0), 1, 24))
    (hn1 : ti ≠ tt) (hn2 : ts ≠ tt) (B : Nat) (v u : Value) (F : Nat → List (List Int)) (m : Nat) (hs : a.eval s = v) (hown : OwnT ti ts tt B w v F m) (hu : OwnSS ti ts w B w.heap.size u (F m))
    (hW : W = w.alloc (.cells #[u] tt)) (hx : a.eval x = .slice (some ⟨w.heap.size, 0, none⟩) 1 1) (hlen : m < 1048576) (hB : B ≤ w.heap.size)
    (h : ∀ v' w', OwnT ti ts tt B w' v' F (m + 1) → Below B w w' → wpList P ops Q rest (a.put o.dst v') w') : wpList P ops Q (o :: rest) a W := by
  subst hW
  obtain ⟨i0, hi, hz0, hz1, hz2⟩ := info_parts hinfo
  obtain ⟨us, h1, h2, h3⟩ := hown
  obtain ⟨uA, un, uc, hush⟩ := hu.shape3
  refine wpList_append_lies _ hgd s x t ho B tt i0 (.slice none 0 0) 1 24 ht hi hz0 hz1 hz2 rfl (by decide) v m us hs (h2.alloc _) ⟨w.heap.size, 0, none⟩ 1 1 [u] hx rfl ?_ ?_ (by decide) ?_ ?_ ?_ _ rfl ?_
  · intro j y hj
    match j, hj with
    | 0, hj =>
      simp only [List.getElem?_cons_zero, Option.some.injEq] at hj
      subst hj
      exact (Blk.new w tt #[u]).cell 0
    | j + 1, hj => simp at hj
  · intro y hy
    simp only [List.mem_singleton] at hy
    subst hy; subst hush; rfl
  · unfold maxLen; omega
  · omega
  · simp; omega
  · intro g cap w' h6 h7 h8 h9
    have hb : Below B w (w.alloc (.cells #[u] tt)) := (Below.refl _ _).alloc hB _
    have hB2 : Below B w w' := hb.grown h7 (by simp; omega) fun k hk => (h2.lt k hk).1
    have hsz : w.heap.size ≤ w'.heap.size := hB2.size
    have keep : ∀ z l, OwnSS ti ts w B w.heap.size z l → OwnSS ti ts w' B w'.heap.size z l := fun z l hz => by
      have hz' := hz.below ((Below.refl w.heap.size w).alloc (Nat.le_refl _) (.cells #[u] tt))
      rcases h2.2 with ⟨e, _⟩ | ⟨q, cap', cur, e, _, hh, _⟩
      · subst e
        exact (hz'.below ⟨h7.os, h7.tape, h7.output, h7.size, fun k hk => h7.block k hk (by simp [Value.ownBlock])⟩).mono hsz
      · subst e
        have hql : q < w.heap.size := by
          rcases Nat.lt_or_ge q w.heap.size with hlt | hge
          · exact hlt
          · rw [Array.getElem?_eq_none hge] at hh; cases hh
        exact (hz'.grownT h7 ((Below.heap_alloc w _ q hql).trans hh) hn1 hn2).mono hsz
    refine h _ w' ⟨us ++ [u], by simp [h1], h6, fun j y hy => ?_⟩ hB2
    rw [List.getElem?_append] at hy
    by_cases hj : j < us.length
    · rw [if_pos hj] at hy
      exact keep _ _ (h3 j y hy)
    · rw [if_neg hj] at hy
      rcases Nat.eq_zero_or_pos (j - us.length) with h0 | h0
      · rw [h0] at hy
        simp only [List.getElem?_cons_zero, Option.some.injEq] at hy
        subst hy
        have hjm : j = m := by omega
        subst hjm
        exact keep _ _ hu
      · rw [List.getElem?_eq_none (by simp; omega)] at hy; cases hy
end Go.Proofs.Ytbbkoagjplapkaa
