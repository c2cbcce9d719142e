/- Chains beside one more block that may turn. -/
import Derived.Test.YtgepbekdgocnpabChW
namespace Go.Proofs.Ytgepbekdgocnpab
open Go.RowKit Go.WideShapes Go.ChangeShapes
set_option linter.unusedVariables false

/-- all that was there stays, but for the blocks P and g -/
structure Kq (P g : Nat) (w W : World) : Prop where
  size : w.heap.size ≤ W.heap.size
  block : ∀ k, k < w.heap.size → k ≠ P → k ≠ g → W.heap[k]? = w.heap[k]?
theorem Kq.refl (P g : Nat) (w : World) : Kq P g w w := ⟨Nat.le_refl _, fun _ _ _ _ => rfl⟩
theorem Kq.trans {P g : Nat} {a b c : World} (h : Kq P g a b) (k : Kq P g b c) : Kq P g a c :=
  ⟨Nat.le_trans h.size k.size, fun i hi h1 h2 => (k.block i (Nat.lt_of_lt_of_le hi h.size) h1 h2).trans (h.block i hi h1 h2)⟩
theorem Kq.of_kp {P g : Nat} {a b : World} (h : Kp P a b) : Kq P g a b := ⟨h.size, fun k hk h1 _ => h.block k hk h1⟩
theorem Kq.of_below {P g : Nat} {a b : World} (h : Below a.heap.size a b) : Kq P g a b := ⟨h.size, fun i hi _ _ => h.block i hi⟩
theorem Kq.set_ {P g : Nat} {a b : World} (h : Kq P g a b) (i : Nat) (x : Value) : Kq P g a (b.setCell ⟨P, i, none⟩ x) :=
  ⟨by simpa [World.setCell] using h.size, fun k hk h1 h2 => (Below.heap_setCell b ⟨P, i, none⟩ x k h1).trans (h.block k hk h1 h2)⟩
theorem Kq.setg {P g : Nat} {a b : World} (h : Kq P g a b) (i : Nat) (x : Value) : Kq P g a (b.setCell ⟨g, i, none⟩ x) :=
  ⟨by simpa [World.setCell] using h.size, fun k hk h1 h2 => (Below.heap_setCell b ⟨g, i, none⟩ x k h2).trans (h.block k hk h1 h2)⟩
/-- chains: the object P, and what its fields hold, whatever lies in the block g -/
def ChJ (tc : TypeId) (w : World) (P g : Nat) (vi vb fv : Value) (ids : List Int) (bl : List (List Int)) (cs : List Int) : Prop :=
  g < w.heap.size ∧ ∃ vc, Blk w P tc #[vi, vb, vc, fv] ∧ ∀ W, Kq P g w W → Ints W vi ids ∧ IntsSS W vb bl ∧ Ints W vc cs
theorem ChJ.ofI {tc : TypeId} {w : World} {P : Nat} {vi vb fv : Value} {ids : List Int} {bl : List (List Int)} {cs : List Int} (h : ChI tc w P vi vb fv ids bl cs) : ChJ tc w P P vi vb fv ids bl cs := by
  obtain ⟨vc, h1, h2⟩ := h
  exact ⟨h1.lt, vc, h1, fun W hW => h2 W ⟨hW.size, fun k hk hne => hW.block k hk hne hne⟩⟩
theorem ChJ.free {tc : TypeId} {w w' : World} {P g : Nat} {vi vb fv : Value} {ids : List Int} {bl : List (List Int)} {cs : List Int} (h : ChI tc w P vi vb fv ids bl cs) (hb : Below w.heap.size w w') (hg : w.heap.size ≤ g) (hg' : g < w'.heap.size) : ChJ tc w' P g vi vb fv ids bl cs := by
  obtain ⟨vc, h1, h2⟩ := h
  exact ⟨hg', vc, h1.below hb h1.lt, fun W hW => h2 W ⟨Nat.le_trans hb.size hW.size, fun k hk hne => (hW.block k (Nat.lt_of_lt_of_le hk hb.size) hne (by omega)).trans (hb.block k hk)⟩⟩
theorem ChJ.below {tc : TypeId} {w w' : World} {P g : Nat} {vi vb fv : Value} {ids : List Int} {bl : List (List Int)} {cs : List Int} (h : ChJ tc w P g vi vb fv ids bl cs) (hb : Below w.heap.size w w') : ChJ tc w' P g vi vb fv ids bl cs := by
  obtain ⟨hg, vc, h1, h2⟩ := h
  exact ⟨Nat.lt_of_lt_of_le hg hb.size, vc, h1.below hb h1.lt, fun W hW => h2 W ((Kq.of_below hb).trans hW)⟩
theorem ChJ.here {tc : TypeId} {w : World} {P g : Nat} {vi vb fv : Value} {ids : List Int} {bl : List (List Int)} {cs : List Int} (h : ChJ tc w P g vi vb fv ids bl cs) : ∃ vc, Blk w P tc #[vi, vb, vc, fv] ∧ Ints w vi ids ∧ IntsSS w vb bl ∧ Ints w vc cs := by
  obtain ⟨hg, vc, h1, h2⟩ := h
  exact ⟨vc, h1, h2 w (Kq.refl _ _ _)⟩
theorem ChJ.far {tc : TypeId} {w : World} {P g : Nat} {vi vb fv : Value} {ids : List Int} {bl : List (List Int)} {cs : List Int} (h : ChJ tc w P g vi vb fv ids bl cs) (hne : P ≠ g) (i : Nat) (x : Value) : ChJ tc (w.setCell ⟨g, i, none⟩ x) P g vi vb fv ids bl cs := by
  obtain ⟨hg, vc, h1, h2⟩ := h
  exact ⟨by simpa [World.setCell] using hg, vc, h1.far (p := ⟨g, i, none⟩) hne x, fun W hW => h2 W (((Kq.refl _ _ _).setg i x).trans hW)⟩
/-- the counts are put anew -/
theorem ChJ.put {tc : TypeId} {w w' : World} {P g : Nat} {vi vb fv : Value} {ids : List Int} {bl : List (List Int)} {cs cs' : List Int} (h : ChJ tc w P g vi vb fv ids bl cs) (hb : Below w.heap.size w w') {G n c : Nat} {t : TypeId}
    (hG : Blk w' G t (Vals cs')) (hGP : w.heap.size ≤ G) (hn : n = cs'.length) : ChJ tc (w'.setCell ⟨P, 2, none⟩ (.slice (some ⟨G, 0, none⟩) n c)) P g vi vb fv ids bl cs' := by
  obtain ⟨hg, vc, h1, h2⟩ := h
  have hP := h1.lt
  have h3 := (h1.below hb hP).set_ 2 (.slice (some ⟨G, 0, none⟩) n c)
  refine ⟨by have := hb.size; simp [World.setCell]; omega, .slice (some ⟨G, 0, none⟩) n c, h3, fun W hW => ?_⟩
  have hk : Kq P g w W := ((Kq.of_below hb).set_ 2 _).trans hW
  obtain ⟨a, b, -⟩ := h2 W hk
  refine ⟨a, b, ?_⟩
  subst hn
  have hGB : Blk (w'.setCell ⟨P, 2, none⟩ (.slice (some ⟨G, 0, none⟩) cs'.length c)) G t (Vals cs') := hG.far (p := ⟨P, 2, none⟩) (by simp only; omega) _
  have hGW : Blk W G t (Vals cs') := (hW.block G hGB.lt (by omega) (by omega)).trans hGB
  exact hGW.ints
end Go.Proofs.Ytgepbekdgocnpab
