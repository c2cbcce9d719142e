/- Slices of slices as arguments: read, sized, copied. -/
import Derived.Test.YtclhebpkpmholaaNest
import Derived.Test.YtclhebpkpmholaaPairs
import Derived.Deep.Matrix
namespace Go.Proofs.Ytclhebpkpmholaa
open Go.RowKit Go.WideShapes Go.ChangeShapes
set_option linter.unusedVariables false

theorem open_lists {H : Type} {enc : TypeId × Value → H} {P : Program} {w : World} {base : Nat} {held : Bool} {r : Reach} {b0 : Nat} {t e q : TypeId} {v : Value} {d : DataW H} {p : List MemPlace}
    (ht : P.underlying t = some (.slice e)) (he : P.underlying e = some (.slice q)) (hq : P.underlying q = some (.int .i64)) (ce : P.cellsOf e = 1) (cq : P.cellsOf q = 1)
    (hv : Value.okWide P w r b0 t v) (h : DataW.Trod enc P w base (fun _ => true) held t v d p) :
    ∃ ls : List (List Int), IntsSS w v ls ∧ ls.length ≤ maxLen ∧ ∀ j, j < ls.length → (ls.getD j []).length ≤ maxLen := by
  obtain ⟨A0, len0, cap0, rfl⟩ := okWide_slice ht hv
  obtain ⟨fuel, hf⟩ := h
  rcases Go.Deep.open_int_rows ht he hq ce cq hf with ⟨hcs, _⟩ | ⟨a, len, cap, A, L, C, Z, hcs, hb, hl, hm, _, hr⟩
  · simp [Value.cells] at hcs
    obtain ⟨rfl, rfl, rfl⟩ := hcs
    exact ⟨[], ⟨none, 0, rfl, fun j hj => absurd hj (Nat.not_lt_zero _)⟩, Nat.zero_le _, fun j hj => absurd hj (Nat.not_lt_zero _)⟩
  · simp [Value.cells] at hcs
    obtain ⟨rfl, rfl, rfl⟩ := hcs
    have hlen : ((List.range len0).map fun r => (Z r).take (L r)).length = len0 := by simp
    have hget : ∀ j, j < len0 → ((List.range len0).map fun r => (Z r).take (L r)).getD j [] = (Z j).take (L j) := fun j hj => by simp [List.getD, hj]
    refine ⟨(List.range len0).map fun r => (Z r).take (L r), ⟨some a, cap0, by rw [hlen], fun j hj => ?_⟩, by rw [hlen]; omega, fun j hj => ?_⟩
    · rw [hlen] at hj
      obtain ⟨h1, h2, h3, h4, -, h5, h6⟩ := hr j (by omega)
      rw [hget j hj]
      obtain ⟨ab, ao, rfl⟩ : ∃ b o, a = ⟨b, o, none⟩ := by
        have h0 := (hr 0 (by omega)).1
        obtain ⟨b, o, pt⟩ := a
        have hspot : pt = none := by simpa [Addr.add] using World.cell?_spot h0
        subst hspot
        exact ⟨b, o, rfl⟩
      have hadd : ((⟨ab, ao, none⟩ : Addr).add j) = ⟨ab, ao + j, none⟩ := Go.WideShapes.add_plain _ _ _
      rw [hadd] at h1
      have hlt := World.block_lt_of_cell? w _ h1
      refine ⟨ab, ao, _, rfl, hlt, h1, A j, C j, ?_, fun hx => ?_⟩
      · rw [List.length_take]; congr 1; omega
      · have hLp : 0 < L j := by
          rcases Nat.eq_zero_or_pos (L j) with h0 | h0
          · rw [h0] at hx; simp at hx
          · exact h0
        cases hA : A j with
        | none => have := h5 hA; omega
        | some a' =>
          obtain ⟨-, hc⟩ := h6 a' hA
          obtain ⟨b', o', rfl, hcell⟩ := ints_at (zs := Z j) (fun i hi => hc i (by omega)) (by omega)
          refine ⟨b', o', rfl, ?_, fun i hi => ?_⟩
          · exact World.block_lt_of_cell? w _ (hcell 0 (by omega))
          · rw [List.length_take] at hi
            rw [hcell i (by omega)]
            congr 2
            simp [List.getD, show i < L j by omega]
    · rw [hlen] at hj
      obtain ⟨h1, h2, h3, h4, -⟩ := hr j (by omega)
      rw [hget j hj, List.length_take]
      omega
/-! ### sizes -/
def szN (left : Int) (ls : List (List Int)) : Nat → Int
  | 0 => left
  | k + 1 => if szN left ls k < 0 then -1 else szRes (szN left ls k) (ls.getD k []).length
def szAll (left : Int) (ls : List (List Int)) : Int := if left < ls.length then -1 else szN (left - ls.length) ls ls.length
theorem szN_neg {left : Int} {ls : List (List Int)} {k : Nat} (h : szN left ls k < 0) (j : Nat) (hj : k < j) : szN left ls j = -1 := by
  induction j with
  | zero => omega
  | succ j ih =>
    unfold szN
    by_cases e : k = j
    · subst e; rw [if_pos h]
    · rw [if_pos (by rw [ih (by omega)]; decide)]
theorem szN_off {left : Int} {ls : List (List Int)} (k : Nat) (h : 0 ≤ szN left ls k) : szN left ls k = left - offL ls k := by
  induction k with
  | zero => simp [szN, offL]
  | succ k ih =>
    have hs : offL ls (k + 1) = offL ls k + (ls.getD k []).length := rfl
    unfold szN at h ⊢
    by_cases h0 : szN left ls k < 0
    · rw [if_pos h0] at h; omega
    · rw [if_neg h0] at h ⊢
      have h1 := ih (by omega)
      by_cases h2 : szN left ls k < (ls.getD k []).length
      · rw [szRes_neg h2] at h; omega
      · rw [szRes_pos h2, h1]; omega
theorem szAll_small {ls : List (List Int)} {left : Int} (hl : left ≤ 1048576) (h : 0 ≤ szAll left ls) : SSmall ls := by
  unfold szAll at h
  split at h
  · omega
  · rename_i hn
    have h1 := szN_off _ h
    refine ⟨by omega, fun j hj => ?_, by omega⟩
    have h2 := offL_mono ls (show j + 1 ≤ ls.length by omega)
    have hs : offL ls (j + 1) = offL ls j + (ls.getD j []).length := rfl
    omega
/-! ### copies -/
def fillSS (ls : List (List Int)) (k : Nat) : List (List Int) := (List.range ls.length).map fun j => if j < k then ls.getD j [] else []
theorem fillSS_length (ls : List (List Int)) (k : Nat) : (fillSS ls k).length = ls.length := by simp [fillSS]
theorem fillSS_set (ls : List (List Int)) (k : Nat) (hk : k < ls.length) : (fillSS ls k).set k (ls.getD k []) = fillSS ls (k + 1) := by
  apply List.ext_getElem?
  intro i
  rw [List.getElem?_set, fillSS_length]
  simp only [fillSS, List.getElem?_map]
  by_cases hi : i < ls.length
  · by_cases e : k = i
    · subst e; simp [hk]
    · simp only [e, if_false, List.getElem?_range hi, Option.map_some]
      by_cases h2 : i < k
      · rw [if_pos h2, if_pos (by omega)]
      · rw [if_neg h2, if_neg (by omega)]
  · simp [hi]
    intro h; omega
theorem fillSS_full (ls : List (List Int)) : fillSS ls ls.length = ls := by
  apply List.ext_getElem?
  intro i
  simp only [fillSS, List.getElem?_map]
  by_cases hi : i < ls.length
  · simp [hi]
  · simp [hi]
/-- one row of a slice of slices is replaced by a fresh one -/
theorem OwnSS.put {ti ts : TypeId} {w : World} {B E E' : Nat} {A : Option Addr} {n c : Nat} {ls : List (List Int)} (h : OwnSS ti ts w B E (.slice A n c) ls) (hne : ti ≠ ts) (hE : E ≤ E') {j : Nat} (hj : j < ls.length) {u : Value} {l : List Int}
    (hu : OwnI ti w B u l) (hfr : ∀ k, u.ownBlock = some k → E ≤ k ∧ k < E') :
    ∃ b, A = some ⟨b, 0, none⟩ ∧ b < E ∧ w.frozen? ⟨b, j, none⟩ = false ∧ (∃ x, w.cell? ⟨b, j, none⟩ = some x) ∧ OwnSS ti ts (w.setCell ⟨b, j, none⟩ u) B E' (.slice A n c) (ls.set j l) := by
  obtain ⟨us, h1, h2, h3, h4, h5⟩ := h
  have h2' := h2
  rcases h2.2 with ⟨e, hn⟩ | ⟨b, cap, cur, e, hB, hh, r1, r2, r3, r4⟩
  · omega
  · injection e with e1 e2 e3
    subst e1; subst e2; subst e3
    have hbE : b < E := h3 b rfl
    have hrow : ∀ (u' : Value) (l' : List Int), OwnI ti w B u' l' → some b ≠ u'.ownBlock := by
      intro u' l' hi e
      rcases hi.2 with ⟨e', _⟩ | ⟨g, cap', cur', e', _, hh', _⟩
      · rw [e'] at e; simp [Value.ownBlock] at e
      · rw [e'] at e
        simp only [Value.ownBlock, Option.some.injEq] at e
        subst e
        rw [hh] at hh'
        injection hh' with hh'
        injection hh' with _ hh'
        exact hne hh'.symm
    refine ⟨b, rfl, hbE, h2.frozenAt j, ?_, us.set j u, by simp [h1], ?_, fun k hk => Nat.lt_of_lt_of_le (h3 k hk) hE, ?_, ?_⟩
    · have := h2.cellAt j (by omega)
      exact ⟨us[j]'(by omega), by rw [this]; exact List.getElem?_eq_getElem (by omega)⟩
    · rw [List.length_set]
      exact (h2'.stored j u).1
    · intro i u' l' hu' hl'
      have hset : ∀ (x : Value) (m : List Int), OwnI ti w B x m → OwnI ti (w.setCell ⟨b, j, none⟩ u) B x m := fun x m hx =>
        hx.grown (grown_setCell (g := b) (World.grownBy.refl w (some b)) j u) (.inr (fun e => hrow x m hx e.symm))
      by_cases e : j = i
      · subst e
        rw [List.getElem?_set_self (by omega)] at hu' hl'
        injection hu' with hu'
        injection hl' with hl'
        subst hu'; subst hl'
        exact ⟨hset _ _ hu, fun k hk => (hfr k hk).2⟩
      · rw [List.getElem?_set_ne e] at hu' hl'
        obtain ⟨hi, hk⟩ := h4 i u' l' hu' hl'
        exact ⟨hset _ _ hi, fun k hk' => Nat.lt_of_lt_of_le (hk k hk') hE⟩
    · intro i i' u1 u2 hii hu1 hu2
      by_cases e : j = i
      · subst e
        rw [List.getElem?_set_self (by omega)] at hu1
        rw [List.getElem?_set_ne hii] at hu2
        injection hu1 with hu1
        subst hu1
        have hl2 : i' < us.length := (List.getElem?_eq_some_iff.1 hu2).1
        obtain ⟨-, hk2⟩ := h4 i' u2 ls[i'] hu2 (List.getElem?_eq_getElem (by omega))
        rcases hq : u.ownBlock with _ | k
        · exact .inl rfl
        · refine .inr fun e => ?_
          have a := hfr k hq
          have b := hk2 k e.symm
          omega
      · rw [List.getElem?_set_ne e] at hu1
        by_cases e' : j = i'
        · subst e'
          rw [List.getElem?_set_self (by omega)] at hu2
          injection hu2 with hu2
          subst hu2
          have hl1 : i < us.length := (List.getElem?_eq_some_iff.1 hu1).1
          obtain ⟨-, hk1⟩ := h4 i u1 ls[i] hu1 (List.getElem?_eq_getElem (by omega))
          rcases hq : u1.ownBlock with _ | k
          · exact .inl rfl
          · refine .inr fun e => ?_
            have a := hfr k e.symm
            have b := hk1 k hq
            omega
        · rw [List.getElem?_set_ne e'] at hu2
          exact h5 i i' u1 u2 hii hu1 hu2
theorem OwnSS.made {P : Program} (ti ts : TypeId) (w : World) (ls : List (List Int)) (hl : ls.length ≤ 1048576) :
    OwnSS ti ts (w.alloc (.cells (madeCells #[.slice none 0 0] ls.length) ts)) w.heap.size (w.heap.size + 1) (.slice (some ⟨w.heap.size, 0, none⟩) ls.length ls.length) (fillSS ls 0) := by
  have hm := toList_madeCells_one (.slice none 0 0) ls.length
  have hsz : (madeCells #[.slice none 0 0] ls.length).size = ls.length := by
    have := congrArg List.length hm
    simpa using this
  refine ⟨List.replicate ls.length (.slice none 0 0), by simp [fillSS_length], ?_, ?_, ?_, ?_⟩
  · rw [fillSS_length]
    refine ⟨by simp, .inr ⟨w.heap.size, ls.length, _, rfl, Nat.le_refl _, heap_alloc_new w _, Nat.le_refl _, by unfold maxLen; omega, by rw [hsz, Nat.mul_one], ?_⟩⟩
    rw [hm, Nat.mul_one]
    exact List.take_of_length_le (by simp)
  · intro k hk
    simp [Value.ownBlock] at hk
    omega
  · intro j u l hu hl'
    obtain ⟨hj, rfl⟩ := List.getElem?_eq_some_iff.1 hu
    obtain ⟨hj', rfl⟩ := List.getElem?_eq_some_iff.1 hl'
    simp only [fillSS, List.getElem_map, List.getElem_replicate, Nat.not_lt_zero, if_false]
    exact ⟨OwnI.nil _ _ _, fun k hk => by simp [Value.ownBlock] at hk⟩
  · intro i j u u' hij hu hu'
    obtain ⟨hj, rfl⟩ := List.getElem?_eq_some_iff.1 hu
    left
    simp [Value.ownBlock]
theorem OwnSS.mono {ti ts : TypeId} {w : World} {B E E' : Nat} {v : Value} {ls : List (List Int)} (h : OwnSS ti ts w B E v ls) (hE : E ≤ E') : OwnSS ti ts w B E' v ls := by
  obtain ⟨us, h1, h2, h3, h4, h5⟩ := h
  exact ⟨us, h1, h2, fun k hk => Nat.lt_of_lt_of_le (h3 k hk) hE, fun j u l hu hl => ⟨(h4 j u l hu hl).1, fun k hk => Nat.lt_of_lt_of_le ((h4 j u l hu hl).2 k hk) hE⟩, h5⟩
end Go.Proofs.Ytclhebpkpmholaa
