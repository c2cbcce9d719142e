/- Rows of Booleans. -/
import Derived.Test.YtkalpichninncabNest
namespace Go.Proofs.Ytkalpichninncab
open Go.RowKit Go.WideShapes Go.ChangeShapes
set_option linter.unusedVariables false

theorem infoBool : (Try.prog.info? 4).map (fun i => (i.zero, i.size, i.bytes)) = some (some (.bool false), 1, 1) := by kernel_rfl
def BVals (l : List Bool) : Array Value := (l.map Value.bool).toArray
theorem BVals_get {l : List Bool} {i : Nat} (h : i < l.length) : (BVals l)[i]? = some (.bool (l.getD i true)) := by
  simp [BVals, h]
theorem BVals_set (l : List Bool) (i : Nat) (y : Bool) : (BVals l).setIfInBounds i (.bool y) = BVals (l.set i y) := by
  unfold BVals
  rw [List.setIfInBounds_toArray, List.map_set]
theorem BVals_made (n : Nat) : madeCells #[.bool false] n = BVals (List.replicate n false) := by
  have := toList_madeCells_one (.bool false) n
  rw [← Array.toList_inj, this]
  simp [BVals]
theorem TurnedIn.set_ {B E : Nat} {a b : World} (h : TurnedIn B E a b) (p : Addr) (hp : B ≤ p.block ∧ p.block < E) (u : Value) : TurnedIn B E a (b.setCell p u) :=
  h.trans (TurnedIn.of_grown (row := some p.block) ⟨rfl, rfl, rfl, by simp [World.setCell], fun k hk hne => Below.heap_setCell b p u k (by rintro rfl; exact hne rfl)⟩ (fun k hk => by simp only [Option.some.injEq] at hk; subst hk; exact hp))
theorem TurnedIn.belowB {B E C : Nat} {a b c : World} (h : TurnedIn B E a b) (hb : Below C b c) (hC : a.heap.size ≤ C) : TurnedIn B E a c :=
  ⟨hb.os.trans h.os, hb.tape.trans h.tape, hb.output.trans h.output, Nat.le_trans h.size hb.size, fun i hi ho => (hb.block i (Nat.lt_of_lt_of_le hi hC)).trans (h.block i hi ho)⟩
end Go.Proofs.Ytkalpichninncab
