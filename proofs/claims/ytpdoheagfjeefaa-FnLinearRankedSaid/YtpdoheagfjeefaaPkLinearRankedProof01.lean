/- Texts Nest, Bval, Cur, Sets, Fun, Poset, one behind the other. -/
import Derived.Deep.RegionHeld3
import Derived.Test.YtpdoheagfjeefaaRows
import Derived.Outline
import Derived.Test.YtpdoheagfjeefaaPkLinearRankedProof00
/- Slices of slices of integers: words for memory, and the laws' helpers over them. -/
namespace Go.Proofs.Ytpdoheagfjeefaa
open Go.RowKit Go.WideShapes Go.ChangeShapes
set_option linter.unusedVariables false

/-- below the heap's old size only blocks in [B, E) have turned -/
structure TurnedIn (B E : Nat) (w w' : World) : Prop where
  os : w'.os = w.os
  tape : w'.tape = w.tape
  output : w'.output = w.output
  size : w.heap.size ≤ w'.heap.size
  block : ∀ k, k < w.heap.size → k < B ∨ E ≤ k → w'.heap[k]? = w.heap[k]?
theorem TurnedIn.refl (B E : Nat) (w : World) : TurnedIn B E w w := ⟨rfl, rfl, rfl, Nat.le_refl _, fun _ _ _ => rfl⟩
theorem TurnedIn.trans {B E : Nat} {a b c : World} (h : TurnedIn B E a b) (k : TurnedIn B E b c) : TurnedIn B E a c :=
  ⟨k.os.trans h.os, k.tape.trans h.tape, k.output.trans h.output, Nat.le_trans h.size k.size, fun i hi ho => (k.block i (Nat.lt_of_lt_of_le hi h.size) ho).trans (h.block i hi ho)⟩
theorem TurnedIn.of_below {B E : Nat} {a b : World} (h : Below a.heap.size a b) : TurnedIn B E a b := ⟨h.os, h.tape, h.output, h.size, fun i hi _ => h.block i hi⟩
theorem TurnedIn.of_grown {B E : Nat} {a b : World} {row : Option Nat} (h : a.grownBy b row) (hr : ∀ k, row = some k → B ≤ k ∧ k < E) : TurnedIn B E a b :=
  ⟨h.os, h.tape, h.output, h.size, fun i hi ho => h.block i hi (fun e => by have := hr i e.symm; omega)⟩
theorem At.turned {w w' : World} {b : Nat} {v : Value} {B E : Nat} (h : At w b v) (hg : TurnedIn B E w w') (hb : b < B ∨ E ≤ b) : At w' b v :=
  ⟨(World.cell?_of_block (a := ⟨b, 0, none⟩) (hg.block b h.2 hb)).trans h.1, Nat.lt_of_lt_of_le h.2 hg.size⟩
theorem below_turned {a w w' : World} {B E : Nat} (h : Below a.heap.size a w) (hg : TurnedIn B E w w') (hB : a.heap.size ≤ B) : Below a.heap.size a w' :=
  h.trans ⟨hg.os, hg.tape, hg.output, hg.size, fun k hk => hg.block k (Nat.lt_of_lt_of_le hk h.size) (.inl (by omega))⟩
theorem OwnI.turned {e : TypeId} {w w' : World} {B B' E E' : Nat} {v : Value} {xs : List Int} (h : OwnI e w B v xs) (hg : TurnedIn B' E' w w') (hv : ∀ k, v.ownBlock = some k → B ≤ k ∧ k < E) (hs : E ≤ B' ∨ E' ≤ B) : OwnI e w' B v xs := by
  obtain ⟨h1, h2⟩ := h
  refine ⟨h1, ?_⟩
  rcases h2 with h2 | ⟨g, cap, cur, rfl, hB, hh, r⟩
  · exact .inl h2
  · refine .inr ⟨g, cap, cur, rfl, hB, ?_, r⟩
    have := hv g rfl
    have hlt : g < w.heap.size := by
      rcases Nat.lt_or_ge g w.heap.size with hlt | hge
      · exact hlt
      · rw [Array.getElem?_eq_none hge] at hh; cases hh
    rw [hg.block g hlt (by omega)]; exact hh

/-- 'v' is a slice of the slices 'ls' -/
def IntsSS (w : World) (v : Value) (ls : List (List Int)) : Prop :=
  ∃ A c, v = .slice A ls.length c ∧ ∀ j, j < ls.length → ∃ b o u, A = some ⟨b, o, none⟩ ∧ b < w.heap.size ∧ w.cell? ⟨b, o + j, none⟩ = some u ∧ Ints w u (ls.getD j [])
theorem IntsSS.below {w w' : World} {v : Value} {ls : List (List Int)} (h : IntsSS w v ls) (hb : Below w.heap.size w w') : IntsSS w' v ls := by
  obtain ⟨A, c, rfl, h⟩ := h
  refine ⟨A, c, rfl, fun j hj => ?_⟩
  obtain ⟨b, o, u, rfl, hlt, hc, hi⟩ := h j hj
  exact ⟨b, o, u, rfl, Nat.lt_of_lt_of_le hlt hb.size, (hb.cell (p := ⟨b, o + j, none⟩) hlt).trans hc, hi.below hb⟩
theorem IntsSS.alloc {w : World} {v : Value} {ls : List (List Int)} (h : IntsSS w v ls) (o : Obj) : IntsSS (w.alloc o) v ls := h.below ((Below.refl _ _).alloc (Nat.le_refl _) o)
/-- 'v' is a slice of slices of the call's own: all blocks lie in [B, E), no two rows share one, and the outer row is none of them -/
def OwnSS (ti ts : TypeId) (w : World) (B E : Nat) (v : Value) (ls : List (List Int)) : Prop :=
  ∃ us : List Value, us.length = ls.length ∧ w.ownsRow B ts 1 v ls.length us ∧ (∀ k, v.ownBlock = some k → k < E) ∧
    (∀ (j : Nat) (u : Value) (l : List Int), us[j]? = some u → ls[j]? = some l → OwnI ti w B u l ∧ ∀ k, u.ownBlock = some k → k < E) ∧
    (∀ (i j : Nat) (u u' : Value), i ≠ j → us[i]? = some u → us[j]? = some u' → u.ownBlock = none ∨ u.ownBlock ≠ u'.ownBlock)
theorem OwnSS.nil (ti ts : TypeId) (w : World) (B E : Nat) : OwnSS ti ts w B E (.slice none 0 0) [] :=
  ⟨[], rfl, World.ownsRow_nil w B ts 1, by simp [Value.ownBlock], by simp, by simp⟩
theorem OwnSS.rows {ti ts : TypeId} {w : World} {B E : Nat} {v : Value} {ls : List (List Int)} (h : OwnSS ti ts w B E v ls) :
    ∃ A c, v = .slice A ls.length c ∧ ∀ j, j < ls.length → ∃ b u, A = some ⟨b, 0, none⟩ ∧ b < w.heap.size ∧ w.cell? ⟨b, j, none⟩ = some u ∧ OwnI ti w B u (ls.getD j []) ∧ (∀ k, u.ownBlock = some k → k < E) := by
  obtain ⟨us, h1, h2, h3, h4, h5⟩ := h
  rcases h2.2 with ⟨rfl, hn⟩ | ⟨b, cap, cur, rfl, hB, hh, _⟩
  · exact ⟨none, 0, by rw [hn], fun j hj => by omega⟩
  · refine ⟨_, cap, rfl, fun j hj => ?_⟩
    have hu : us[j]? = some us[j] := List.getElem?_eq_getElem (by omega)
    have hl : ls[j]? = some ls[j] := List.getElem?_eq_getElem hj
    obtain ⟨hi, hk⟩ := h4 j _ _ hu hl
    have hc := h2.cellAt j (by omega)
    rw [hu] at hc
    have hbl : b < w.heap.size := by
      rcases Nat.lt_or_ge b w.heap.size with hlt | hge
      · exact hlt
      · rw [Array.getElem?_eq_none hge] at hh; cases hh
    have e2 : ls.getD j [] = ls[j] := by simp [List.getD, hl]
    exact ⟨b, us[j], rfl, hbl, hc, by rw [e2]; exact hi, hk⟩
theorem OwnSS.ints {ti ts : TypeId} {w : World} {B E : Nat} {v : Value} {ls : List (List Int)} (h : OwnSS ti ts w B E v ls) : IntsSS w v ls := by
  obtain ⟨A, c, rfl, hr⟩ := h.rows
  refine ⟨A, c, rfl, fun j hj => ?_⟩
  obtain ⟨b, u, rfl, hb, hc, hi, -⟩ := hr j hj
  exact ⟨b, 0, u, rfl, hb, by rw [Nat.zero_add]; exact hc, hi.ints⟩
theorem OwnSS.turned {ti ts : TypeId} {w w' : World} {B E B' E' : Nat} {v : Value} {ls : List (List Int)} (h : OwnSS ti ts w B E v ls) (hg : TurnedIn B' E' w w') (hs : E ≤ B' ∨ E' ≤ B) : OwnSS ti ts w' B E v ls := by
  obtain ⟨us, h1, h2, h3, h4, h5⟩ := h
  refine ⟨us, h1, ?_, h3, ?_, h5⟩
  · obtain ⟨a1, a2⟩ := h2
    refine ⟨a1, ?_⟩
    rcases a2 with a2 | ⟨g, cap, cur, rfl, hB, hh, r⟩
    · exact .inl a2
    · refine .inr ⟨g, cap, cur, rfl, hB, ?_, r⟩
      have := h3 g rfl
      have hlt : g < w.heap.size := by
        rcases Nat.lt_or_ge g w.heap.size with hlt | hge
        · exact hlt
        · rw [Array.getElem?_eq_none hge] at hh; cases hh
      rw [hg.block g hlt (by omega)]; exact hh
  · intro j u l hu hl
    obtain ⟨hi, hk⟩ := h4 j u l hu hl
    exact ⟨hi.turned hg (fun k e => ⟨(hi.blockLt k e).1, hk k e⟩) hs, hk⟩
theorem OwnSS.below {ti ts : TypeId} {w w' : World} {B E : Nat} {v : Value} {ls : List (List Int)} (h : OwnSS ti ts w B E v ls) (hb : Below w.heap.size w w') : OwnSS ti ts w' B E v ls := by
  obtain ⟨us, h1, h2, h3, h4, h5⟩ := h
  refine ⟨us, h1, ?_, h3, fun j u l hu hl => ⟨(h4 j u l hu hl).1.below hb, (h4 j u l hu hl).2⟩, h5⟩
  by_cases hv : v.ownBlock = none
  · exact h2.kept (grown_of_below hb none) (.inl hv)
  · exact h2.kept (grown_of_below hb none) (.inr hv)

theorem OwnSS.alloc {ti ts : TypeId} {w : World} {B E : Nat} {v : Value} {ls : List (List Int)} (h : OwnSS ti ts w B E v ls) (o : Obj) : OwnSS ti ts (w.alloc o) B E v ls := h.below ((Below.refl _ _).alloc (Nat.le_refl _) o)
theorem OwnSS.drew {ti ts : TypeId} {w : World} {B E : Nat} {v : Value} {ls : List (List Int)} (h : OwnSS ti ts w B E v ls) : OwnSS ti ts w.drew B E v ls := h.below (Go.Joins.below_draws _ _ 1)
theorem OwnSS.shape3 {ti ts : TypeId} {w : World} {B E : Nat} {v : Value} {ls : List (List Int)} (h : OwnSS ti ts w B E v ls) : ∃ A n c, v = .slice A n c := by
  obtain ⟨A, c, h, _⟩ := h.rows
  exact ⟨A, _, c, h⟩
/-! ### marks in slices of slices -/
def offL (ls : List (List Int)) : Nat → Nat
  | 0 => 0
  | i + 1 => offL ls i + (ls.getD i []).length
def marksSS (ls : List (List Int)) (k : Int) : List (List Int) := (List.range ls.length).map fun i => marks (ls.getD i []).length (k + (offL ls i : Int))
def markSS (ls : List (List Int)) (k : Int) (j : Nat) : List (List Int) := (List.range ls.length).map fun i => if i < j then marks (ls.getD i []).length (k + (offL ls i : Int)) else ls.getD i []
theorem markSS_length (ls : List (List Int)) (k : Int) (j : Nat) : (markSS ls k j).length = ls.length := by simp [markSS]
theorem marksSS_length (ls : List (List Int)) (k : Int) : (marksSS ls k).length = ls.length := by simp [marksSS]
theorem markSS_zero (ls : List (List Int)) (k : Int) : markSS ls k 0 = ls := by
  apply List.ext_getElem?
  intro i
  simp only [markSS, Nat.not_lt_zero, if_false, List.getElem?_map]
  by_cases hi : i < ls.length <;> simp [hi]
theorem markSS_full (ls : List (List Int)) (k : Int) : markSS ls k ls.length = marksSS ls k := by
  apply List.ext_getElem?
  intro i
  simp only [markSS, marksSS, List.getElem?_map]
  by_cases hi : i < ls.length <;> simp [hi]
theorem markSS_getD (ls : List (List Int)) (k : Int) (j i : Nat) (hi : i < ls.length) : (markSS ls k j).getD i [] = if i < j then marks (ls.getD i []).length (k + (offL ls i : Int)) else ls.getD i [] := by
  simp [markSS, List.getD, hi]
theorem marksSS_getD (ls : List (List Int)) (k : Int) (i : Nat) (hi : i < ls.length) : (marksSS ls k).getD i [] = marks (ls.getD i []).length (k + (offL ls i : Int)) := by
  simp [marksSS, List.getD, hi]
theorem markSS_set (ls : List (List Int)) (k : Int) (j : Nat) (hj : j < ls.length) : (markSS ls k j).set j (marks (ls.getD j []).length (k + (offL ls j : Int))) = markSS ls k (j + 1) := by
  apply List.ext_getElem?
  intro i
  rw [List.getElem?_set, markSS_length]
  simp only [markSS, List.getElem?_map]
  by_cases hi : i < ls.length
  · by_cases h : j = i
    · subst h; simp [hj]
    · simp only [h, if_false]
      by_cases h2 : i < j
      · simp [hi, h2, show i < j + 1 by omega]
      · simp [hi, h2, show ¬ i < j + 1 by omega]
  · simp [hi]
    intro h; omega
/-- all rows together are not long -/
def SSmall (ls : List (List Int)) : Prop := ls.length ≤ 1048576 ∧ (∀ j, j < ls.length → (ls.getD j []).length ≤ 1048576) ∧ offL ls ls.length ≤ 1000000000
theorem offL_mono (ls : List (List Int)) {i j : Nat} (h : i ≤ j) : offL ls i ≤ offL ls j := by
  induction j with
  | zero => have : i = 0 := by omega
            subst this; exact Nat.le_refl _
  | succ j ih =>
    by_cases e : i = j + 1
    · subst e; exact Nat.le_refl _
    · have h1 := ih (by omega)
      have h2 : offL ls (j + 1) = offL ls j + (ls.getD j []).length := rfl
      omega
theorem OwnSS.upd {ti ts : TypeId} {w : World} {B E : Nat} {A : Option Addr} {n c : Nat} {ls : List (List Int)} (h : OwnSS ti ts w B E (.slice A n c) ls) (hne : ti ≠ ts) :
    n = ls.length ∧ ∀ j, j < ls.length → ∃ b u, A = some ⟨b, 0, none⟩ ∧ b < w.heap.size ∧ w.cell? ⟨b, j, none⟩ = some u ∧ OwnI ti w B u (ls.getD j []) ∧ (∀ k, u.ownBlock = some k → k < E) ∧
      ∀ w' l', OwnI ti w' B u l' → w.grownBy w' u.ownBlock → OwnSS ti ts w' B E (.slice A n c) (ls.set j l') := by
  obtain ⟨us, h1, h2, h3, h4, h5⟩ := h
  refine ⟨?_, fun j hj => ?_⟩
  · rcases h2.2 with ⟨e, hn⟩ | ⟨b, cap, cur, e, _⟩
    · injection e with _ e _; omega
    · injection e
  · rcases h2.2 with ⟨e, hn⟩ | ⟨b, cap, cur, e, hB, hh, r1, r2, r3, r4⟩
    · omega
    · injection e with e1 e2 e3
      subst e1; subst e2; subst e3
      have hu : us[j]? = some us[j] := List.getElem?_eq_getElem (by omega)
      have hl : ls[j]? = some ls[j] := List.getElem?_eq_getElem hj
      obtain ⟨hi, hk⟩ := h4 j _ _ hu hl
      have hc := h2.cellAt j (by omega)
      rw [hu] at hc
      have hbl : b < w.heap.size := by
        rcases Nat.lt_or_ge b w.heap.size with hlt | hge
        · exact hlt
        · rw [Array.getElem?_eq_none hge] at hh; cases hh
      have e2 : ls.getD j [] = ls[j] := by simp [List.getD, hl]
      refine ⟨b, us[j], rfl, hbl, hc, by rw [e2]; exact hi, hk, fun w' l' ho hg => ?_⟩
      have hbne : some b ≠ us[j].ownBlock := by
        intro e
        rcases hi.2 with ⟨e', _⟩ | ⟨g, cap', cur', e', _, hh', _⟩
        · rw [e'] at e; simp [Value.ownBlock] at e
        · rw [e'] at e
          simp only [Value.ownBlock, Option.some.injEq] at e
          subst e
          rw [hh] at hh'
          injection hh' with hh'
          injection hh' with _ hh'
          exact hne hh'.symm
      refine ⟨us, by simp [h1], ?_, h3, ?_, h5⟩
      · rw [List.length_set]
        refine ⟨h2.1, .inr ⟨b, c, cur, rfl, hB, ?_, r1, r2, r3, r4⟩⟩
        rw [hg.block b hbl hbne]; exact hh
      · intro i u l hu' hl'
        by_cases e : j = i
        · subst e
          rw [hu] at hu'
          injection hu' with hu'
          subst hu'
          rw [List.getElem?_set_self (by omega)] at hl'
          injection hl' with hl'
          subst hl'
          exact ⟨ho, hk⟩
        · rw [List.getElem?_set_ne e] at hl'
          obtain ⟨hi', hk'⟩ := h4 i u l hu' hl'
          exact ⟨hi'.grown hg (h5 i j u us[j] (fun e' => e e'.symm) hu' hu), hk'⟩

end Go.Proofs.Ytpdoheagfjeefaa

/- Rows of Booleans. -/
namespace Go.Proofs.Ytpdoheagfjeefaa
open Go.RowKit Go.WideShapes Go.ChangeShapes
set_option linter.unusedVariables false

theorem infoBool : (Try.prog.info? 4).map (fun i => (i.zero, i.size, i.bytes)) = some (some (.bool false), 1, 1) := by kernel_rfl
def BVals (l : List Bool) : Array Value := (l.map Value.bool).toArray
theorem BVals_get {l : List Bool} {i : Nat} (h : i < l.length) : (BVals l)[i]? = some (.bool (l.getD i true)) := by
  simp [BVals, h]
theorem BVals_set (l : List Bool) (i : Nat) (y : Bool) : (BVals l).setIfInBounds i (.bool y) = BVals (l.set i y) := by
  unfold BVals
  rw [List.setIfInBounds_toArray, List.map_set]
theorem BVals_made (n : Nat) : madeCells #[.bool false] n = BVals (List.replicate n false) := by
  have := toList_madeCells_one (.bool false) n
  rw [← Array.toList_inj, this]
  simp [BVals]
theorem TurnedIn.set_ {B E : Nat} {a b : World} (h : TurnedIn B E a b) (p : Addr) (hp : B ≤ p.block ∧ p.block < E) (u : Value) : TurnedIn B E a (b.setCell p u) :=
  h.trans (TurnedIn.of_grown (row := some p.block) ⟨rfl, rfl, rfl, by simp [World.setCell], fun k hk hne => Below.heap_setCell b p u k (by rintro rfl; exact hne rfl)⟩ (fun k hk => by simp only [Option.some.injEq] at hk; subst hk; exact hp))
theorem TurnedIn.belowB {B E C : Nat} {a b c : World} (h : TurnedIn B E a b) (hb : Below C b c) (hC : a.heap.size ≤ C) : TurnedIn B E a c :=
  ⟨hb.os.trans h.os, hb.tape.trans h.tape, hb.output.trans h.output, Nat.le_trans h.size hb.size, fun i hi ho => (hb.block i (Nat.lt_of_lt_of_le hi hC)).trans (h.block i hi ho)⟩
end Go.Proofs.Ytpdoheagfjeefaa

/- The model's cursor of draws: next, pick, one, among. What is drawn is not told, only that it is a number of its range. -/
namespace Go.Proofs.Ytpdoheagfjeefaa
open Go.RowKit Go.WideShapes Go.ChangeShapes
set_option linter.unusedVariables false

/-- a slice of bytes in blocks below B -/
def BytesB (w : World) (B : Nat) (v : Value) (xs : List Int) : Prop :=
  ∃ A c, v = .slice A xs.length c ∧ (∀ j, 0 ≤ xs.getD j 0 ∧ xs.getD j 0 < 256) ∧ (xs ≠ [] → ∃ b o, A = some ⟨b, o, none⟩ ∧ b < B ∧ b < w.heap.size ∧ ∀ j, j < xs.length → w.cell? ⟨b, o + j, none⟩ = some (.int .u8 (xs.getD j 0)))
theorem BytesB.turned {w w' : World} {B E : Nat} {v : Value} {xs : List Int} (h : BytesB w B v xs) (ht : TurnedIn B E w w') : BytesB w' B v xs := by
  obtain ⟨A, c, rfl, hr, h⟩ := h
  refine ⟨A, c, rfl, hr, fun hx => ?_⟩
  obtain ⟨b, o, rfl, h1, h2, hc⟩ := h hx
  exact ⟨b, o, rfl, h1, Nat.lt_of_lt_of_le h2 ht.size, fun j hj => (World.cell?_of_block (a := ⟨b, o + j, none⟩) (ht.block b h2 (Or.inl h1))).trans (hc j hj)⟩
/-- the cursor in block g, that has taken at most A bytes -/
def Cur (w : World) (g A : Nat) : Prop :=
  ∃ (v : Value) (xs : List Int) (k : Nat) (z : Int), BytesB w g v xs ∧ xs.length ≤ 1048576 ∧ k ≤ A ∧ 0 ≤ z ∧ z < 18446744073709551616 ∧ Blk w g 79 #[v, .int .i64 k, .int .u64 z]
theorem Cur.le {w : World} {g A B : Nat} (h : Cur w g A) (hb : A ≤ B) : Cur w g B := by
  obtain ⟨v, xs, k, z, h1, h2, h3, h4⟩ := h
  exact ⟨v, xs, k, z, h1, h2, Nat.le_trans h3 hb, h4⟩
theorem Cur.lt {w : World} {g A : Nat} (h : Cur w g A) : g < w.heap.size := by
  obtain ⟨v, xs, k, z, h1, h2, h3, h4, h5, h6⟩ := h
  exact h6.lt
theorem Cur.below {w w' : World} {g A : Nat} (h : Cur w g A) (hb : Below w.heap.size w w') : Cur w' g A := by
  have hl := h.lt
  obtain ⟨v, xs, k, z, h1, h2, h3, h4, h5, h6⟩ := h
  exact ⟨v, xs, k, z, h1.turned (TurnedIn.of_below (E := 0) hb), h2, h3, h4, h5, h6.below hb hl⟩
theorem and255 (x : Int) (h1 : 0 ≤ x) (h2 : x < 18446744073709551616) : ∃ n : Nat, n < 256 ∧ bits .and .u64 x 255 = (n : Int) := by
  refine ⟨x.toNat &&& 255, ?_, u64_and x 255 h1 h2 (by decide) (by decide)⟩
  exact Nat.lt_of_le_of_lt Nat.and_le_right (by decide)
theorem u64_range (x : Int) : 0 ≤ IntKind.u64.wrap x ∧ IntKind.u64.wrap x < 18446744073709551616 := by
  rw [IntKind.wrap_u64]; omega
theorem mid1 {w : World} {g : Nat} {T : TypeId} {v a0 z0 : Value} (h : Blk w g T #[v, a0, z0]) (a z : Value) (n : Nat) :
    Blk (((w.setCell ⟨g, 1, none⟩ a).setCell ⟨g, 2, none⟩ z).drewN n) g T #[v, a, z] ∧ TurnedIn g (g + 1) w (((w.setCell ⟨g, 1, none⟩ a).setCell ⟨g, 2, none⟩ z).drewN n) :=
  ⟨((h.set_ 1 a).set_ 2 z).below (below_drewN (Below.refl _ _) n) (by simpa [World.setCell] using h.lt),
   ((((TurnedIn.refl g (g + 1) w).set_ ⟨g, 1, none⟩ ⟨Nat.le_refl _, Nat.lt_succ_self _⟩ a).set_ ⟨g, 2, none⟩ ⟨Nat.le_refl _, Nat.lt_succ_self _⟩ z).trans (TurnedIn.of_below (below_drewN (Below.refl _ _) n)))⟩
set_option maxHeartbeats 1600000 in
theorem next_any (g A : Nat) (w : World) (h : Cur w g A) (hA : A < 1099511627776) :
    Calls Try.prog 161 #[.pointer (some ⟨g, 0, none⟩)] w fun (r : Ending) w' => ∃ n : Nat, n < 256 ∧ r = .returned (.int .i64 n) ∧ Cur w' g (A + 1) ∧ TurnedIn g (g + 1) w w' := by
  obtain ⟨v, xs, k, z, ⟨B, c, rfl, hr, hc⟩, hx, hk, hz1, hz2, hb⟩ := h
  have hc0 : w.cell? ⟨g, 0, none⟩ = some (.slice B xs.length c) := by rw [hb.cell]; rfl
  have hc1 : w.cell? ⟨g, 1, none⟩ = some (.int .i64 k) := by rw [hb.cell]; rfl
  have hc2 : w.cell? ⟨g, 2, none⟩ = some (.int .u64 z) := by rw [hb.cell]; rfl
  have hf1 := hb.frozen 1
  have hf2 := hb.frozen 2
  have hlt := hb.lt
  have HB := hid hb
  clear hb
  go_enter Try.func161, Try.ntmps161
  by_cases hkl : k < xs.length
  · obtain ⟨b, o, rfl, hbg, hbl, hcell⟩ := hc (by rintro rfl; simp at hkl)
    have hck := hcell k hkl
    obtain ⟨y, hy⟩ : ∃ y, xs.getD k 0 = y := ⟨_, rfl⟩
    have hry := hr k
    rw [hy] at hck hry
    have HR := hid hr
    have HC := hid hcell
    clear hr hc hcell
    go_wp2
    go_region
    go_wp2
    go_region
    go_wp2
    obtain ⟨Z, hZe⟩ : ∃ Z, IntKind.u64.wrap (IntKind.u64.wrap (IntKind.u64.wrap (z * 6364136223846793005) + y) + 1442695040888963407) = Z := ⟨_, rfl⟩
    have hZ := u64_range (IntKind.u64.wrap (IntKind.u64.wrap (z * 6364136223846793005) + y) + 1442695040888963407)
    rw [hZe] at hZ ⊢
    clear hZe
    obtain ⟨HB3, HT⟩ : Blk ((w.setCell ⟨g, 1, none⟩ (.int .i64 ((k : Int) + 1))).setCell ⟨g, 2, none⟩ (.int .u64 Z)).drew.drew g 79 #[.slice (some ⟨b, o, none⟩) xs.length c, .int .i64 ((k : Int) + 1), .int .u64 Z] ∧ TurnedIn g (g + 1) w ((w.setCell ⟨g, 1, none⟩ (.int .i64 ((k : Int) + 1))).setCell ⟨g, 2, none⟩ (.int .u64 Z)).drew.drew := mid1 HB.out _ _ 2
    generalize ((w.setCell ⟨g, 1, none⟩ (.int .i64 ((k : Int) + 1))).setCell ⟨g, 2, none⟩ (.int .u64 Z)).drew.drew = W at HB3 HT ⊢
    have hd0 : W.cell? ⟨g, 0, none⟩ = some (.slice (some ⟨b, o, none⟩) xs.length c) := by rw [HB3.cell]; rfl
    have hd1 : W.cell? ⟨g, 1, none⟩ = some (.int .i64 ((k : Int) + 1)) := by rw [HB3.cell]; rfl
    have HBw := hid HB3
    have HT2 := hid HT
    clear HB3 HT hc0 hc1 hc2 hf1 hf2 hck
    have hle : ((k : Int) + 1) ≤ (xs.length : Int) := by omega
    go_region
    go_wp2
    go_ret
    refine ⟨y.toNat, by omega, ?_, ⟨_, xs, k + 1, Z, BytesB.turned (w := w) (E := g + 1) ⟨some ⟨b, o, none⟩, c, rfl, HR.out, fun _ => ⟨b, o, rfl, hbg, hbl, HC.out⟩⟩ (HT2.out.trans (TurnedIn.of_below (below_drewN (Below.refl _ _) 1))), hx, by omega, hZ.1, hZ.2, ?_⟩, HT2.out.trans (TurnedIn.of_below (below_drewN (Below.refl _ _) 1))⟩
    · rw [Int.toNat_of_nonneg hry.1]; rfl
    · exact HBw.out.below (below_drewN (Below.refl _ _) 1) HBw.out.lt
  · go_wp2
    go_region
    go_wp2
    obtain ⟨Z, hZe⟩ : ∃ Z, IntKind.u64.wrap (IntKind.u64.wrap (IntKind.u64.wrap (z * 6364136223846793005)) + 1442695040888963407) = Z := ⟨_, rfl⟩
    have hZ := u64_range (IntKind.u64.wrap (IntKind.u64.wrap (z * 6364136223846793005)) + 1442695040888963407)
    rw [hZe] at hZ ⊢
    clear hZe
    obtain ⟨HB3, HT⟩ : Blk ((w.setCell ⟨g, 1, none⟩ (.int .i64 ((k : Int) + 1))).setCell ⟨g, 2, none⟩ (.int .u64 Z)).drew g 79 #[.slice B xs.length c, .int .i64 ((k : Int) + 1), .int .u64 Z] ∧ TurnedIn g (g + 1) w ((w.setCell ⟨g, 1, none⟩ (.int .i64 ((k : Int) + 1))).setCell ⟨g, 2, none⟩ (.int .u64 Z)).drew := mid1 HB.out _ _ 1
    generalize ((w.setCell ⟨g, 1, none⟩ (.int .i64 ((k : Int) + 1))).setCell ⟨g, 2, none⟩ (.int .u64 Z)).drew = W at HB3 HT ⊢
    have hd0 : W.cell? ⟨g, 0, none⟩ = some (.slice B xs.length c) := by rw [HB3.cell]; rfl
    have hd1 : W.cell? ⟨g, 1, none⟩ = some (.int .i64 ((k : Int) + 1)) := by rw [HB3.cell]; rfl
    have hd2 : W.cell? ⟨g, 2, none⟩ = some (.int .u64 Z) := by rw [HB3.cell]; rfl
    have HBw := hid HB3
    have HT2 := hid HT
    have HC := hid hc
    have HR := hid hr
    clear HB3 HT hc0 hc1 hc2 hf1 hf2 hc hr
    have hle : ¬ ((k : Int) + 1) ≤ (xs.length : Int) := by omega
    obtain ⟨n, hn, hne⟩ := and255 (Z / 1099511627776) (by omega) (by omega)
    go_region
    go_wp2
    go_ret
    refine ⟨n, by omega, ?_, ⟨_, xs, k + 1, Z, BytesB.turned (w := w) (E := g + 1) ⟨B, c, rfl, HR.out, HC.out⟩ (HT2.out.trans (TurnedIn.of_below (below_drewN (Below.refl _ _) 1))), hx, by omega, hZ.1, hZ.2, ?_⟩, HT2.out.trans (TurnedIn.of_below (below_drewN (Below.refl _ _) 1))⟩
    · rfl
    · exact HBw.out.below (below_drewN (Below.refl _ _) 1) HBw.out.lt
theorem emod_nat (x : Nat) (n : Int) (hn : 1 < n) : ((x : Int)) % n = ((x % n.toNat : Nat) : Int) := by
  obtain ⟨m, rfl⟩ := Int.eq_ofNat_of_zero_le (show 0 ≤ n by omega)
  rw [Int.toNat_natCast, Int.natCast_emod]
/-- pick n: a number below n, or 0 -/
theorem pick_any (g A : Nat) (n : Int) (w : World) (h : Cur w g A) (hA : A < 1000000000000) :
    Calls Try.prog 107 #[.pointer (some ⟨g, 0, none⟩), .int .i64 n] w fun (r : Ending) w' => ∃ m : Nat, (n ≤ 1 ∧ m = 0 ∨ 1 < n ∧ (m : Int) < n) ∧ r = .returned (.int .i64 m) ∧ Cur w' g (A + 2) ∧ TurnedIn g (g + 1) w w' := by
  have HC := hid h
  clear h
  by_cases hn : n ≤ 1
  · skip
    go_enter Try.func107, Try.ntmps107
    go_wp2
    go_ret
    exact ⟨0, Or.inl ⟨hn, rfl⟩, rfl, HC.out.le (by omega), TurnedIn.refl _ _ _⟩
  · have hn1 : 1 < n := by omega
    go_enter Try.func107, Try.ntmps107
    go_wp2_with fail
    refine (next_any g A _ HC.out (by omega)).mono ?_
    rintro e w1 ⟨x, hx, rfl, hc1, ht1⟩
    have HC1 := hid hc1
    have HT1 := hid ht1
    clear hc1 ht1
    by_cases hb : n ≤ 200
    · have hm := emod_nat x n hn1
      have hmax : max n 0 = n := by omega
      have hlt : ((x % n.toNat : Nat) : Int) < n := by have := Nat.mod_lt x (show 0 < n.toNat by omega); omega
      go_wp2
      go_ret
      exact ⟨x % n.toNat, Or.inr ⟨hn1, hlt⟩, by first | exact ret_int hm | (rw [hmax]; exact ret_int hm), HC1.out.le (by omega), HT1.out⟩
    · go_wp2_with fail
      refine (next_any g (A + 1) _ HC1.out (by omega)).mono ?_
      rintro e w2 ⟨y, hy, rfl, hc2, ht2⟩
      have HC2 := hid hc2
      have HT2 := hid (HT1.out.trans ht2)
      clear hc2 ht2
      have hm : ((x : Int) * 256 + (y : Int)) % n = (((x * 256 + y) % n.toNat : Nat) : Int) := by have := emod_nat (x * 256 + y) n hn1; rwa [Int.natCast_add, Int.natCast_mul] at this
      have hlt : (((x * 256 + y) % n.toNat : Nat) : Int) < n := by have := Nat.mod_lt (x * 256 + y) (show 0 < n.toNat by omega); omega
      go_wp2
      go_ret
      exact ⟨(x * 256 + y) % n.toNat, Or.inr ⟨hn1, hlt⟩, ret_int hm, HC2.out, HT2.out⟩
theorem one_any (g A : Nat) (n : Int) (w : World) (h : Cur w g A) (hA : A < 1000000000000) :
    Calls Try.prog 105 #[.pointer (some ⟨g, 0, none⟩), .int .i64 n] w fun (r : Ending) w' => ∃ b : Bool, r = .returned (.bool b) ∧ Cur w' g (A + 2) ∧ TurnedIn g (g + 1) w w' := by
  have HC := hid h
  clear h
  go_enter Try.func105, Try.ntmps105
  go_wp2_with fail
  refine (pick_any g A n _ HC.out hA).mono ?_
  rintro e w1 ⟨m, -, rfl, hc1, ht1⟩
  go_wp2
  go_ret
  exact ⟨_, rfl, hc1, ht1⟩
theorem among_any (g A : Nat) (v : Value) (xs : List Int) (w : World) (h : Cur w g A) (hA : A < 1000000000000) (hv : ∃ b, Blk w b 3 (xs.map (Value.int .i64)).toArray ∧ b ≠ g ∧ v = .slice (some ⟨b, 0, none⟩) xs.length xs.length) (h0 : 1 ≤ xs.length) (hl : xs.length ≤ 1048576) :
    Calls Try.prog 120 #[.pointer (some ⟨g, 0, none⟩), v] w fun (r : Ending) w' => ∃ m : Nat, m < xs.length ∧ r = .returned (.int .i64 (xs.getD m 0)) ∧ Cur w' g (A + 2) ∧ TurnedIn g (g + 1) w w' := by
  have HC := hid h
  clear h
  obtain ⟨b, hb, hbg, rfl⟩ := hv
  have HB := hid hb
  clear hb
  go_enter Try.func120, Try.ntmps120
  go_wp2_with fail
  refine (pick_any g A (xs.length : Int) _ HC.out hA).mono ?_
  rintro e w1 ⟨m, hm, rfl, hc1, ht1⟩
  have hml : m < xs.length := by omega
  have hcell : w1.cell? ⟨b, m, none⟩ = some (.int .i64 (xs.getD m 0)) := by
    rw [World.cell?_of_block (a := ⟨b, m, none⟩) (ht1.block b HB.out.lt (by omega)), HB.out.cell]
    simp [hml]
  have HC1 := hid hc1
  have HT1 := hid ht1
  clear hc1 ht1 hm
  obtain ⟨z, hz⟩ : ∃ z, xs.getD m 0 = z := ⟨_, rfl⟩
  rw [hz] at hcell
  go_wp2
  go_ret
  exact ⟨m, hml, by rw [hz]; rfl, HC1.out, HT1.out⟩
end Go.Proofs.Ytpdoheagfjeefaa

/- Sets of elements as numbers: what the program and the model compute, as plain functions. No program is named here. -/
namespace Go.Proofs.Ytpdoheagfjeefaa

/-- all that the first k elements of s have below them -/
def underN (xs : List Int) (s : Nat) : Nat → Nat
  | 0 => 0
  | k + 1 => if s.testBit k then underN xs s k ||| (xs.getD k 0).toNat else underN xs s k
def under (xs : List Int) (s : Nat) : Nat := underN xs s xs.length
/-- the rows of the elements of s are small numbers -/
def Small (xs : List Int) (s : Nat) : Prop := ∀ e, e < xs.length → s.testBit e = true → 0 ≤ xs.getD e 0 ∧ xs.getD e 0 < 1024
theorem underN_lt (xs : List Int) (s : Nat) (hs : Small xs s) (k : Nat) (hk : k ≤ xs.length) : underN xs s k < 1024 := by
  induction k with
  | zero => simp [underN]
  | succ k ih =>
    have := ih (by omega)
    unfold underN
    split
    · rename_i h
      have h2 := hs k (by omega) h
      exact Nat.or_lt_two_pow (n := 10) this (by omega)
    · exact this
theorem underN_testBit (xs : List Int) (s k j : Nat) : (underN xs s k).testBit j = true ↔ ∃ e, e < k ∧ s.testBit e = true ∧ (xs.getD e 0).toNat.testBit j = true := by
  induction k with
  | zero => simp [underN]
  | succ k ih =>
    unfold underN
    split
    · rename_i h
      rw [Nat.testBit_or, Bool.or_eq_true, ih]
      constructor
      · rintro (⟨e, h1, h2, h3⟩ | h3)
        · exact ⟨e, by omega, h2, h3⟩
        · exact ⟨k, by omega, h, h3⟩
      · rintro ⟨e, h1, h2, h3⟩
        by_cases he : e = k
        · subst he; exact .inr h3
        · exact .inl ⟨e, by omega, h2, h3⟩
    · rename_i h
      rw [ih]
      constructor
      · rintro ⟨e, h1, h2, h3⟩; exact ⟨e, by omega, h2, h3⟩
      · rintro ⟨e, h1, h2, h3⟩
        by_cases he : e = k
        · subst he; exact absurd h2 h
        · exact ⟨e, by omega, h2, h3⟩
/-- is s closed under what lies below? -/
def holdsIdeal (xs : List Int) (s : Nat) : Bool := sub (under xs s) s == 0
def holdsAntichain (xs : List Int) (s : Nat) : Bool := under xs s &&& s == 0
def top (xs : List Int) (s : Nat) : Nat := sub s (under xs s)
def down (xs : List Int) (s : Nat) : Nat := s ||| under xs s
def bottomN (xs : List Int) (s : Nat) : Nat → Nat
  | 0 => 0
  | k + 1 => if s.testBit k && ((xs.getD k 0).toNat &&& s == 0) then bottomN xs s k ||| 2 ^ k else bottomN xs s k
def bottom (xs : List Int) (s : Nat) : Nat := bottomN xs s xs.length
/-- is row i right? -/
def okAt (xs : List Int) (i : Nat) : Bool := decide (0 ≤ xs.getD i 0) && decide (xs.getD i 0 ≤ (2 ^ i - 1 : Nat)) && holdsIdeal xs (xs.getD i 0).toNat
/-- is 'xs' a poset? -/
def good (xs : List Int) : Bool := (decide (1 ≤ xs.length) && decide (xs.length ≤ 10)) && (List.range xs.length).all (okAt xs)
def okSet (xs : List Int) (s : Int) : Bool := good xs && (decide (0 ≤ s) && decide (s ≤ (2 ^ xs.length - 1 : Nat)))

theorem sub_eq_zero (a b : Nat) : sub a b = 0 ↔ ∀ i, a.testBit i = true → b.testBit i = true := by
  constructor
  · intro h i hi
    have := sub_testBit a b i
    rw [h, hi] at this
    revert this
    cases b.testBit i <;> simp
  · intro h
    apply Nat.eq_of_testBit_eq
    intro i
    rw [sub_testBit]
    have := h i
    cases ha : a.testBit i
    · simp
    · simp [this ha]
theorem holdsIdeal_iff (xs : List Int) (s : Nat) : holdsIdeal xs s = true ↔ ∀ e, e < xs.length → s.testBit e = true → sub (xs.getD e 0).toNat s = 0 := by
  unfold holdsIdeal
  rw [beq_iff_eq, sub_eq_zero]
  constructor
  · intro h e he hb
    rw [sub_eq_zero]
    exact fun i hi => h i ((underN_testBit xs s xs.length i).2 ⟨e, he, hb, hi⟩)
  · intro h i hi
    obtain ⟨e, he, hb, h2⟩ := (underN_testBit xs s xs.length i).1 hi
    exact (sub_eq_zero _ _).1 (h e he hb) i h2
theorem testBit_lt {s n e : Nat} (h : s < 2 ^ n) (hb : s.testBit e = true) : e < n := by
  rcases Nat.lt_or_ge e n with h1 | h1
  · exact h1
  · rw [Nat.testBit_lt_two_pow (Nat.lt_of_lt_of_le h (Nat.pow_le_pow_right (by decide) h1))] at hb
    cases hb
theorem okAt_range {xs : List Int} {i : Nat} (h : okAt xs i = true) : 0 ≤ xs.getD i 0 ∧ xs.getD i 0 ≤ (2 ^ i - 1 : Nat) := by
  simp only [okAt, Bool.and_eq_true, decide_eq_true_eq] at h
  exact h.1
theorem okAt_not {xs : List Int} {i : Nat} (h : ¬ (0 ≤ xs.getD i 0 ∧ xs.getD i 0 ≤ (2 ^ i - 1 : Nat))) : okAt xs i = false := by
  cases hc : okAt xs i
  · rfl
  · exact absurd (okAt_range hc) h
theorem okAt_small {xs : List Int} {i : Nat} (h : okAt xs i = true) (hi : i < 10) : 0 ≤ xs.getD i 0 ∧ xs.getD i 0 < 512 := by
  have := okAt_range h
  have hp := Nat.pow_le_pow_right (n := 2) (by decide) (Nat.le_of_lt_succ hi)
  omega
theorem good_length {xs : List Int} (h : good xs = true) : 1 ≤ xs.length ∧ xs.length ≤ 10 := by
  simp only [good, Bool.and_eq_true, decide_eq_true_eq] at h
  exact h.1
theorem good_at {xs : List Int} (h : good xs = true) {i : Nat} (hi : i < xs.length) : okAt xs i = true := by
  simp only [good, Bool.and_eq_true] at h
  exact List.all_eq_true.1 h.2 i (List.mem_range.2 hi)
theorem good_small {xs : List Int} (h : good xs = true) (s : Nat) : Small xs s := fun e he _ => by
  have := okAt_small (good_at h he) (by have := good_length h; omega)
  omega
theorem small_of {xs : List Int} {s k : Nat} (hs : s < 2 ^ k) (hk : k ≤ 10) (h : ∀ j, j < k → okAt xs j = true) : Small xs s := fun e _ hb => by
  have h1 := testBit_lt hs hb
  have := okAt_small (h e h1) (by omega)
  omega
theorem good_of {xs : List Int} (h1 : 1 ≤ xs.length) (h2 : xs.length ≤ 10) (h : ∀ j, j < xs.length → okAt xs j = true) : good xs = true := by
  simp only [good, Bool.and_eq_true, decide_eq_true_eq]
  exact ⟨⟨h1, h2⟩, List.all_eq_true.2 fun j hj => h j (List.mem_range.1 hj)⟩
theorem not_good {xs : List Int} {k : Nat} (hk : k < xs.length) (h : okAt xs k = false) : good xs = false := by
  cases hg : good xs
  · rfl
  · rw [good_at hg hk] at h; cases h
theorem not_good_length {xs : List Int} (h : ¬ (1 ≤ xs.length ∧ xs.length ≤ 10)) : good xs = false := by
  cases hg : good xs
  · rfl
  · exact absurd (good_length hg) h
theorem okSet_good {xs : List Int} {s : Int} (h : okSet xs s = true) : good xs = true ∧ 0 ≤ s ∧ s ≤ (2 ^ xs.length - 1 : Nat) := by
  simp only [okSet, Bool.and_eq_true, decide_eq_true_eq] at h
  exact h
theorem okSet_lt {xs : List Int} {s : Int} (h : okSet xs s = true) : 0 ≤ s ∧ s < 1024 := by
  obtain ⟨h1, h2, h3⟩ := okSet_good h
  have := two_pow_le xs.length (good_length h1).2
  omega
end Go.Proofs.Ytpdoheagfjeefaa

/- The contracts of the small functions that every law of this seat calls. -/
namespace Go.Proofs.Ytpdoheagfjeefaa
open Go.RowKit Go.WideShapes Go.ChangeShapes

theorem hasElement_any (s e : Nat) (hs : s < 9223372036854775808) (he : e < 64) (w : World) : Calls Try.prog 94 #[.int .i64 s, .int .i64 e] w fun r w' => r = .returned (.bool (s.testBit e)) ∧ w = w' := by
  have hb := hid (bit_and s e hs)
  have hm := hid (Nat.min_eq_left (Nat.le_of_lt he))
  clear hs
  go_enter Try.func94, Try.ntmps94
  go_wp2
  go_ret
  exact ⟨ret_bool (by simpa [hm.out] using hb.out), rfl⟩
theorem poIn_any (s e : Nat) (he : e < 64) (w : World) : Calls Try.prog 135 #[.int .i64 s, .int .i64 e] w fun r w' => r = .returned (.bool (s.testBit e)) ∧ w = w' := by
  have hb := hid (bit_tmod s e)
  have hm := hid (Nat.min_eq_left (Nat.le_of_lt he))
  go_enter Try.func135, Try.ntmps135
  go_wp2
  go_ret
  exact ⟨ret_bool (by simpa [hm.out] using hb.out), rfl⟩
theorem wholeSet_any (n : Nat) (h : n ≤ 10) (w : World) : Calls Try.prog 144 #[.int .i64 n] w fun r w' => r = .returned (.int .i64 (2 ^ n - 1 : Nat)) ∧ w = w' := by
  have hp := two_pow_le n h
  go_enter Try.func144, Try.ntmps144
  go_wp2
  go_ret
  refine ⟨ret_int ?_, rfl⟩
  have e : (2 : Int) ^ n = ((2 ^ n : Nat) : Int) := by simp
  simp only [e]
  simp [wrap64]
  omega
theorem isSize_any (s : Int) (w : World) : Calls Try.prog 143 #[.int .i64 s] w fun r w' => r = .returned (.bool (decide (1 ≤ s) && decide (s ≤ 10))) ∧ w = w' := by
  go_enter Try.func143, Try.ntmps143
  go_wp2
  all_goals go_ret
  all_goals exact ⟨ret_bool (by simp <;> omega), rfl⟩
theorem l1In_any (n lo hi : Int) (w : World) : Calls Try.prog 119 #[.int .i64 n, .int .i64 lo, .int .i64 hi] w fun r w' => r = .returned (.bool (decide (lo ≤ n) && decide (n ≤ hi))) ∧ w = w' := by
  go_enter Try.func119, Try.ntmps119
  go_wp2
  all_goals go_ret
  all_goals exact ⟨ret_bool (by simp <;> omega), rfl⟩

theorem under_any (v : Value) (xs : List Int) (s : Nat) (w : World) (hv : Ints w v xs) (hl : xs.length ≤ 10) (hs : s < 1024) (hsm : Small xs s) :
    Calls Try.prog 162 #[.agg #[v], .int .i64 s] w fun r w' => r = .returned (.int .i64 (under xs s : Nat)) ∧ Below w.heap.size w w' := by
  obtain ⟨A, c, rfl, hA⟩ := hv
  have hlt := fun k hk => underN_lt xs s hsm k hk
  have HA := hid hA
  have Hlt := hid hlt
  have Hs := hid hsm
  clear hA hlt hsm
  go_enter Try.func162, Try.ntmps162
  go_wp2
  go_loop [5, 11] (fun f i => ∃ k : Nat, k ≤ xs.length ∧ i = .int .i64 k ∧ f = .int .i64 (underN xs s k : Nat)) (fun _ i => xs.length - (intOf i).toNat)
  case atStart => exact ⟨0, Nat.zero_le _, rfl, rfl⟩
  case round =>
    obtain ⟨k, hk, rfl, rfl⟩ := hrel
    by_cases hlt : k < xs.length
    · obtain ⟨b, o, rfl, hb, hc⟩ := HA.out (by intro h; simp [h] at hlt)
      have hcell := hc k hlt
      clear hc
      cases hbit : s.testBit k
      · have Hbit := hid hbit
        clear hbit
        go_wp2_with (go_at_call 94; refine (hasElement_any s k (by omega) (by omega) _).mono ?_; rw [Hbit.out]; rintro e w' ⟨rfl, rfl⟩)
        go_round
        case rel => exact ⟨k + 1, by omega, by go_num, by simp [underN, Hbit.out]⟩
        case measure => simp [intOf]; omega
      · have h2 := Hs.out k hlt hbit
        have h3 := Hlt.out k hk
        obtain ⟨z, hz⟩ := Int.eq_ofNat_of_zero_le h2.1
        rw [hz] at hcell
        have hor := i64_or_nat (underN xs s k) z (by omega) (by omega)
        have Hz := hid hz
        have Hbit := hid hbit
        clear hz hbit h2 h3
        go_wp2_with (go_at_call 94; refine (hasElement_any s k (by omega) (by omega) _).mono ?_; rw [Hbit.out]; rintro e w' ⟨rfl, rfl⟩)
        go_round
        case rel => exact ⟨k + 1, by omega, by go_num, by rw [underN, if_pos Hbit.out, Hz.out]; rfl⟩
        case measure => simp [intOf]; omega
    · obtain rfl : k = xs.length := by omega
      go_wp2
      go_ret
      exact ⟨rfl, (Below.refl _ _).alloc (Nat.le_refl _) _⟩

theorem top_any (v : Value) (xs : List Int) (s : Nat) (w : World) (hv : Ints w v xs) (hl : xs.length ≤ 10) (hs : s < 1024) (hsm : Small xs s) :
    Calls Try.prog 108 #[.agg #[v], .int .i64 s] w fun r w' => r = .returned (.int .i64 (top xs s : Nat)) ∧ Below w.heap.size w w' := by
  have hu := underN_lt xs s hsm xs.length (Nat.le_refl _)
  have hb := i64_andNot_nat s (under xs s) (by omega) (by unfold under; omega)
  have HV := hid hv
  have HS := hid hsm
  clear hv hsm hu
  go_enter Try.func108, Try.ntmps108
  go_wp2_with (go_at_call 162; refine (under_any v xs s _ (HV.out.alloc _) hl hs HS.out).mono ?_; rintro e w1 ⟨rfl, hb1⟩)
  go_ret
  exact ⟨ret_int rfl, ((Below.refl _ _).alloc (Nat.le_refl _) _).trans (hb1.mono (by simp))⟩
theorem holdsIdeal_any (v : Value) (xs : List Int) (s : Nat) (w : World) (hv : Ints w v xs) (hl : xs.length ≤ 10) (hs : s < 1024) (hsm : Small xs s) :
    Calls Try.prog 145 #[.agg #[v], .int .i64 s] w fun r w' => r = .returned (.bool (holdsIdeal xs s)) ∧ Below w.heap.size w w' := by
  have hu := underN_lt xs s hsm xs.length (Nat.le_refl _)
  have hb := i64_andNot_nat (under xs s) s (by unfold under; omega) (by omega)
  have HV := hid hv
  have HS := hid hsm
  clear hv hsm hu
  go_enter Try.func145, Try.ntmps145
  go_wp2_with (go_at_call 162; refine (under_any v xs s _ (HV.out.alloc _) hl hs HS.out).mono ?_; rintro e w1 ⟨rfl, hb1⟩)
  go_ret
  exact ⟨ret_bool (by rw [holdsIdeal, nat_beq0]), ((Below.refl _ _).alloc (Nat.le_refl _) _).trans (hb1.mono (by simp))⟩
end Go.Proofs.Ytpdoheagfjeefaa

/- IsPoset of the program and of the model. -/
namespace Go.Proofs.Ytpdoheagfjeefaa
open Go.RowKit Go.WideShapes Go.ChangeShapes

theorem box_cell {w wr : World} {cs : Array Value} {T : TypeId} (h : Below (w.heap.size + 1) (w.alloc (.cells cs T)) wr) (i : Nat) : wr.cell? ⟨w.heap.size, i, none⟩ = cs[i]? := by
  rw [h.cell (p := ⟨w.heap.size, i, none⟩) (Nat.lt_succ_self _), (Blk.new w T cs).cell]
theorem Ints.box {w wr : World} {v : Value} {xs : List Int} {cs : Array Value} {T : TypeId} (hv : Ints w v xs) (h : Below (w.heap.size + 1) (w.alloc (.cells cs T)) wr) : Ints wr v xs :=
  (hv.alloc (.cells cs T)).below (h.mono (by simp))
theorem below_box {w wr : World} {cs : Array Value} {T : TypeId} (h : Below (w.heap.size + 1) (w.alloc (.cells cs T)) wr) : Below w.heap.size w wr :=
  ((Below.refl _ _).alloc (Nat.le_refl _) _).trans (h.mono (by omega))

theorem implIsPoset_any (v : Value) (xs : List Int) (w : World) (hv : Ints w v xs) (hl : xs.length ≤ 1048576) :
    Calls Try.prog 89 #[.agg #[v]] w fun r w' => r = .returned (.bool (good xs)) ∧ Below w.heap.size w w' := by
  have HV := hid hv
  obtain ⟨A, c, rfl, hA⟩ := hv
  have HA := hid hA
  clear hA
  by_cases hn : 1 ≤ xs.length ∧ xs.length ≤ 10
  · have hd : (decide ((1 : Int) ≤ (xs.length : Int)) && decide ((xs.length : Int) ≤ 10)) = true := by simp; omega
    have Hd := hid hd
    clear hd
    obtain ⟨hn1, hn2⟩ := hn
    go_enter Try.func89, Try.ntmps89
    go_wp2_with (go_at_call 143; refine (isSize_any _ _).mono ?_; rw [Hd.out]; rintro e w' ⟨rfl, rfl⟩)
    go_loopw [13] (fun i wr => ∃ k : Nat, k ≤ xs.length ∧ i = .int .i64 k ∧ Hid (∀ j, j < k → okAt xs j = true) ∧ Below (w.heap.size + 1) (w.alloc (.cells #[.slice A xs.length c] 26)) wr) (fun i _ => xs.length - (intOf i).toNat)
    case atStart => exact ⟨0, Nat.zero_le _, rfl, hid (fun j hj => absurd hj (Nat.not_lt_zero _)), Below.refl _ _⟩
    case round =>
      obtain ⟨k, hk, rfl, Hok, hb⟩ := hrel
      by_cases hlt : k < xs.length
      · obtain ⟨b, o, rfl, hbl, hc⟩ := HA.out (by intro h; simp [h] at hlt)
        have hcell : wr.cell? ⟨b, o + k, none⟩ = some (.int .i64 (xs.getD k 0)) := by
          rw [(below_box hb).cell (p := ⟨b, o + k, none⟩) hbl]; exact hc k hlt
        have hbox := box_cell hb 0
        have HB := hid hb
        clear hc hb
        obtain ⟨x, hx⟩ : ∃ x, xs.getD k 0 = x := ⟨_, rfl⟩
        rw [hx] at hcell
        have Hx := hid hx
        clear hx
        by_cases hneg : x < 0
        · have hg : good xs = false := not_good hlt (okAt_not (by rw [Hx.out]; omega))
          have Hg := hid hg
          clear hg
          go_wp2
          go_ret
          exact ⟨ret_bool Hg.out.symm, below_box HB.out⟩
        · obtain ⟨z, hz⟩ := Int.eq_ofNat_of_zero_le (by omega : 0 ≤ x)
          have hp := two_pow_le k (by omega)
          subst hz
          by_cases hbig : z < 2 ^ k
          · have hh : okAt xs k = holdsIdeal xs z := by
              simp only [okAt, Hx.out, Int.toNat_natCast]
              rw [decide_eq_true (by omega : (0 : Int) ≤ (z : Int)), decide_eq_true (by omega : (z : Int) ≤ ((2 ^ k - 1 : Nat) : Int))]
              rfl
            have hsm := small_of hbig (by omega) Hok.out
            have Hsm := hid hsm
            clear hsm hneg
            have hle : ¬ ((2 ^ k - 1 : Nat) : Int) < (z : Int) := by omega
            cases hI : holdsIdeal xs z
            · have hg : good xs = false := not_good hlt (hh.trans hI)
              have Hg := hid hg
              have HI := hid hI
              clear hg hI hh
              go_wp2_with (first | (go_at_call 144; refine (wholeSet_any k (by omega) _).mono ?_; rintro e w' ⟨rfl, rfl⟩) | (go_at_call 145; refine (holdsIdeal_any _ xs z _ (Ints.box HV.out HB.out) (by omega) (by omega) Hsm.out).mono ?_; rw [HI.out]; rintro e w1 ⟨rfl, hb1⟩))
              go_ret
              exact ⟨ret_bool Hg.out.symm, (below_box HB.out).trans (hb1.mono (below_box HB.out).size)⟩
            · have HI := hid hI
              have Hk := hid (hh.trans hI)
              clear hI hh
              go_wp2_with (first | (go_at_call 144; refine (wholeSet_any k (by omega) _).mono ?_; rintro e w' ⟨rfl, rfl⟩) | (go_at_call 145; refine (holdsIdeal_any _ xs z _ (Ints.box HV.out HB.out) (by omega) (by omega) Hsm.out).mono ?_; rw [HI.out]; rintro e w1 ⟨rfl, hb1⟩))
              go_roundw
              case rel => exact ⟨k + 1, by omega, by go_num, hid (fun j hj => by
                by_cases h : j = k
                · subst h; exact Hk.out
                · exact Hok.out j (by omega)), HB.out.trans (hb1.mono (by have := HB.out.size; simp at this; omega))⟩
              case measure => simp [intOf]; omega
          · have hg : good xs = false := not_good hlt (okAt_not (by rw [Hx.out]; omega))
            have Hg := hid hg
            have hle : ((2 ^ k - 1 : Nat) : Int) < (z : Int) := by omega
            clear hg hbig
            go_wp2_with (go_at_call 144; refine (wholeSet_any k (by omega) _).mono ?_; rintro e w' ⟨rfl, rfl⟩)
            go_ret
            exact ⟨ret_bool Hg.out.symm, below_box HB.out⟩
      · obtain rfl : k = xs.length := by omega
        have hg := good_of hn1 hn2 Hok.out
        have HB := hid hb
        clear hb
        go_wp2
        go_ret
        exact ⟨ret_bool hg.symm, below_box HB.out⟩
  · have hd : (decide ((1 : Int) ≤ (xs.length : Int)) && decide ((xs.length : Int) ≤ 10)) = false := by
      rw [Bool.eq_false_iff]; simp; omega
    have Hd := hid hd
    have Hg := hid (not_good_length hn)
    clear hd hn
    go_enter Try.func89, Try.ntmps89
    go_wp2_with (go_at_call 143; refine (isSize_any _ _).mono ?_; rw [Hd.out]; rintro e w' ⟨rfl, rfl⟩)
    go_ret
    exact ⟨ret_bool Hg.out.symm, (Below.refl _ _).alloc (Nat.le_refl _) _⟩
end Go.Proofs.Ytpdoheagfjeefaa
