/- 'rows[r] = append(rows[r], y)': one row of rows of the call's own grows. -/
import Derived.Test.YtbbkoagjplapkaaNest2
import Derived.Test.YtbbkoagjplapkaaAddRow
import Derived.Deep.AppendLies
namespace Go.Proofs.Ytbbkoagjplapkaa
open Go.RowKit Go.WideShapes Go.ChangeShapes
set_option linter.unusedVariables false

theorem own_ne {ti ts : TypeId} {w : World} {B q : Nat} {u : Value} {l : List Int} {cs : Array Value} (hne : ti ≠ ts) (h : OwnI ti w B u l) (hq : w.heap[q]? = some (.cells cs ts (0, 0))) : u.ownBlock ≠ some q := by
  intro e
  rcases h.2 with ⟨rfl, _⟩ | ⟨g, cap, cur, rfl, _, hh, _⟩
  · simp [Value.ownBlock] at e
  · simp only [Value.ownBlock, Option.some.injEq] at e
    subst e
    rw [hh] at hq
    injection hq with hq
    injection hq with _ hq
    exact hne hq
theorem wpList_append_at {P : Program} {w W : World} {ops : Array Oper} {rest : List Oper} {o : Oper} {ac : Act} {Q : Exit → Act → World → Prop} (hgd : o.guard = none) (s x : Operand) (t ts ti : TypeId)
    (ho : o.op = .call { callee := .builtin .append, args := #[s, x], argTypes := #[t, t] }) (ht : P.underlying t = some (.slice ti)) (hinfo : (P.info? ti).map (fun i => (i.zero, i.size, i.bytes)) = some (some (.int .i64 0), 1, 8))
    (hne : ti ≠ ts) (B E q m cv r : Nat) (ls : List (List Int)) (y : Int) (u : Value) (hown : OwnSS ti ts w B E (.slice (some ⟨q, 0, none⟩) m cv) ls) (hr : r < ls.length) (hc : w.cell? ⟨q, r, none⟩ = some u) (hs : ac.eval s = u)
    (hW : W = w.alloc (.cells #[.int .i64 y] ti)) (hx : ac.eval x = .slice (some ⟨w.heap.size, 0, none⟩) 1 1) (hlen : (ls.getD r []).length < 1048576) (hB : B ≤ w.heap.size) (hE : E ≤ w.heap.size)
    (h : ∀ g cap w', w'.cell? ⟨q, r, none⟩ = some u → w'.frozen? ⟨q, r, none⟩ = false → Below B w w' → B ≤ q → OwnSS ti ts (w'.setCell ⟨q, r, none⟩ (.slice (some ⟨g, 0, none⟩) ((ls.getD r []).length + 1) cap)) B w'.heap.size (.slice (some ⟨q, 0, none⟩) m cv) (ls.set r (ls.getD r [] ++ [y])) →
      wpList P ops Q rest (ac.put o.dst (.slice (some ⟨g, 0, none⟩) ((ls.getD r []).length + 1) cap)) w') : wpList P ops Q (o :: rest) ac W := by
  subst hW
  obtain ⟨i0, hi, hz0, hz1, hz2⟩ := info_parts hinfo
  obtain ⟨us, h1, h2, h3, h4, h5⟩ := hown
  have hu : us[r]? = some us[r] := List.getElem?_eq_getElem (by omega)
  have hl : ls[r]? = some ls[r] := List.getElem?_eq_getElem hr
  have el : ls.getD r [] = ls[r] := by simp [List.getD, hl]
  obtain ⟨hi', hk'⟩ := h4 r _ _ hu hl
  rw [← el] at hi'
  have hm : m = ls.length ∧ B ≤ q ∧ q < w.heap.size ∧ ∃ cur, w.heap[q]? = some (.cells cur ts (0, 0)) := by
    rcases h2.2 with ⟨e, hn⟩ | ⟨b, cap, cur, e, hBq, hh, _⟩
    · omega
    · injection e with e1 e2 _
      injection e1 with e1
      injection e1 with e1 _ _
      subst e1; subst e2
      refine ⟨rfl, hBq, ?_, cur, hh⟩
      rcases Nat.lt_or_ge q w.heap.size with hlt | hge
      · exact hlt
      · rw [Array.getElem?_eq_none hge] at hh; cases hh
  obtain ⟨rfl, hBq, hql, cur, hq⟩ := hm
  have hcu := h2.cellAt r (by omega)
  rw [hc, hu] at hcu
  injection hcu with hcu
  rw [← hcu] at hi' hk'
  have hui : w.ownsRow B ti 1 u (ls.getD r []).length ((ls.getD r []).map (Value.int .i64)) := hi'
  refine wpList_append_lies _ hgd s x t ho B ti i0 (.int .i64 0) 1 8 ht hi hz0 hz1 hz2 rfl (by decide) u (ls.getD r []).length ((ls.getD r []).map (Value.int .i64)) hs (hui.alloc _) ⟨w.heap.size, 0, none⟩ 1 1 [.int .i64 y] hx rfl ?_ ?_ (by decide) ?_ ?_ ?_ _ rfl ?_
  · intro j z hj
    match j, hj with
    | 0, hj =>
      simp only [List.getElem?_cons_zero, Option.some.injEq] at hj
      subst hj
      exact (Blk.new w ti #[.int .i64 y]).cell 0
    | j + 1, hj => simp at hj
  · intro z hz
    simp only [List.mem_singleton] at hz
    subst hz; rfl
  · unfold maxLen; omega
  · omega
  · simp; omega
  · intro g cap w' h6 h7 h8 h9
    have hb : Below B w (w.alloc (.cells #[.int .i64 y] ti)) := (Below.refl _ _).alloc hB _
    have hB2 : Below B w w' := hb.grown h7 (by simp; omega) fun k hk => (hui.lt k hk).1
    have hsz : w.heap.size ≤ w'.heap.size := hB2.size
    have hqa : (w.alloc (.cells #[.int .i64 y] ti)).heap[q]? = some (.cells cur ts (0, 0)) := (Below.heap_alloc w _ q hql).trans hq
    have hqu : u.ownBlock ≠ some q := own_ne hne hi' hq
    have hq' : w'.heap[q]? = some (.cells cur ts (0, 0)) := (h7.block q (by simp; omega) (fun e => hqu e.symm)).trans hqa
    have h2' : w'.ownsRow B ts 1 (.slice (some ⟨q, 0, none⟩) ls.length cv) ls.length us := (h2.alloc (.cells #[.int .i64 y] ti)).kept h7 (.inr (by
      intro e; exact hqu e.symm))
    have h6' : OwnI ti w' B (.slice (some ⟨g, 0, none⟩) ((ls.getD r []).length + 1) cap) (ls.getD r [] ++ [y]) := by
      unfold OwnI
      rw [List.length_append, List.map_append]
      exact h6
    have hgq : g ≠ q := fun e => own_ne hne h6' hq' (by rw [e]; rfl)
    have hset : ∀ (z : Value) (l : List Int), OwnI ti w' B z l → OwnI ti (w'.setCell ⟨q, r, none⟩ (.slice (some ⟨g, 0, none⟩) ((ls.getD r []).length + 1) cap)) B z l := fun z l hz =>
      hz.grown (grown_setCell (g := q) (World.grownBy.refl w' (some q)) r _) (.inr (own_ne hne hz hq'))
    have hold : ∀ i z l, i ≠ r → us[i]? = some z → ls[i]? = some l → OwnI ti w' B z l := fun i z l hir hz hl' => by
      obtain ⟨a, -⟩ := h4 i z l hz hl'
      refine (a.alloc _).grown h7 ?_
      have := h5 i r z us[r] hir hz hu
      rw [← hcu] at this
      exact this
    refine h g cap w' ?_ (h2'.frozenAt r) hB2 hBq ⟨us.set r (.slice (some ⟨g, 0, none⟩) ((ls.getD r []).length + 1) cap), by simp [h1], ?_, fun k hk => ?_, ?_, ?_⟩
    · rw [h2'.cellAt r (by omega), hu, hcu]
    · rw [List.length_set]
      exact (h2'.stored r _).1
    · simp only [Value.ownBlock, Option.some.injEq] at hk
      omega
    · intro i z l hz hl'
      by_cases e : r = i
      · subst e
        rw [List.getElem?_set_self (by omega)] at hz hl'
        injection hz with hz
        injection hl' with hl'
        subst hz; subst hl'
        exact ⟨hset _ _ h6', fun k hk => (h6'.blockLt k hk).2⟩
      · rw [List.getElem?_set_ne e] at hz hl'
        have h10 := hold i z l (fun e' => e e'.symm) hz hl'
        exact ⟨hset _ _ h10, fun k hk => (h10.blockLt k hk).2⟩
    · have key : ∀ i z, i ≠ r → us[i]? = some z → z.ownBlock ≠ some g := by
        intro i z hir hz e
        have hlt : i < us.length := (List.getElem?_eq_some_iff.1 hz).1
        obtain ⟨-, hkz⟩ := h4 i z ls[i] hz (List.getElem?_eq_getElem (by omega))
        have hgE := hkz g e
        rcases h8 with h8 | h8
        · rcases h5 i r z us[r] hir hz hu with h11 | h11
          · rw [h11] at e; cases e
          · rw [← hcu] at h11; exact h11 (by rw [e, h8])
        · simp at h8; omega
      intro i j z z' hij hz hz'
      by_cases e : r = i
      · subst e
        rw [List.getElem?_set_self (by omega)] at hz
        rw [List.getElem?_set_ne hij] at hz'
        injection hz with hz
        subst hz
        exact .inr (fun e' => key j z' (fun h => hij h.symm) hz' e'.symm)
      · rw [List.getElem?_set_ne e] at hz
        by_cases e' : r = j
        · subst e'
          rw [List.getElem?_set_self (by omega)] at hz'
          injection hz' with hz'
          subst hz'
          rcases hzo : z.ownBlock with _ | k
          · exact .inl rfl
          · exact .inr (fun e2 => key i z (fun h => e h.symm) hz (by rw [hzo]; exact e2))
        · rw [List.getElem?_set_ne e'] at hz'
          exact h5 i j z z' hij hz hz'
end Go.Proofs.Ytbbkoagjplapkaa
