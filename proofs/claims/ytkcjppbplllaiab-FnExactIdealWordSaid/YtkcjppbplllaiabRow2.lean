/- Rowmotion, RowmotionBack, RowmotionTimes. -/
import Derived.Test.YtkcjppbplllaiabUndo
namespace Go.Proofs.Ytkcjppbplllaiab
open Go.RowKit Go.WideShapes Go.ChangeShapes
set_option linter.unusedVariables false

/-! ### what is asked of the number of motions -/
def okK (k : Int) : Bool := decide (-1000 ≤ k) && decide (k ≤ 1000)
def okRT (xs : List Int) (s k : Int) : Bool := okIdeal xs s && okK k
def rowK (xs : List Int) (s : Nat) (k : Int) : Nat := if 0 ≤ k then iter (rowmo xs) k.toNat s else iter (rowba xs) (-k).toNat s
def ansRT (xs : List Int) (s k : Int) : Int := if okRT xs s k then (rowK xs s.toNat k : Int) else 0
theorem okRT_no1 {xs : List Int} {s k : Int} (h : okIdeal xs s = false) : okRT xs s k = false := by simp [okRT, h]
theorem okRT_no2 {xs : List Int} {s k : Int} (h : okK k = false) : okRT xs s k = false := by simp [okRT, h]
theorem okRT_yes {xs : List Int} {s k : Int} (h : okIdeal xs s = true) (g : okK k = true) : okRT xs s k = true := by simp [okRT, h, g]
theorem ansRT_no {xs : List Int} {s k : Int} (h : okRT xs s k = false) : ansRT xs s k = 0 := by simp [ansRT, h]
theorem ansRT_pos {xs : List Int} {z n : Nat} (h : okRT xs z n = true) : ansRT xs z n = (iter (rowmo xs) n z : Int) := by
  simp [ansRT, h, rowK]
theorem ansRT_neg {xs : List Int} {z : Nat} {k : Int} {n : Nat} (h : okRT xs z k = true) (hk : k < 0) (hn : -k = n) : ansRT xs z k = (iter (rowba xs) n z : Int) := by
  have h2 : ¬ 0 ≤ k := by omega
  simp [ansRT, h, rowK, h2, hn]
theorem okK_no {k : Int} (h : ¬ (-1000 ≤ k ∧ k ≤ 1000)) : okK k = false := by
  rw [Bool.eq_false_iff]; simp only [okK, ne_eq, Bool.and_eq_true, decide_eq_true_eq]; exact h
theorem okK_yes {k : Int} (h : -1000 ≤ k ∧ k ≤ 1000) : okK k = true := by
  simp only [okK, Bool.and_eq_true, decide_eq_true_eq]; exact h
theorem okK_of {k : Int} (h : okK k = true) : -1000 ≤ k ∧ k ≤ 1000 := by simpa [okK] using h
/-! ### one motion -/
def ansRow (xs : List Int) (s : Int) (f : List Int → Nat → Nat) : Int := if okIdeal xs s then (f xs s.toNat : Int) else 0
theorem ansRow_no {xs : List Int} {s : Int} {f : List Int → Nat → Nat} (h : okIdeal xs s = false) : ansRow xs s f = 0 := by simp [ansRow, h]
theorem ansRow_yes {xs : List Int} {z : Nat} {f : List Int → Nat → Nat} (h : okIdeal xs z = true) : ansRow xs z f = (f xs z : Int) := by simp [ansRow, h]
theorem ansRT_one (xs : List Int) (s : Int) : ansRT xs s 1 = ansRow xs s rowmo ∧ okRT xs s 1 = okIdeal xs s := by
  have : okRT xs s 1 = okIdeal xs s := by simp [okRT, okK]
  refine ⟨?_, this⟩
  unfold ansRT ansRow
  rw [this]
  rfl
theorem ansRT_mone (xs : List Int) (s : Int) : ansRT xs s (-1) = ansRow xs s rowba ∧ okRT xs s (-1) = okIdeal xs s := by
  have : okRT xs s (-1) = okIdeal xs s := by simp [okRT, okK]
  refine ⟨?_, this⟩
  unfold ansRT ansRow
  rw [this]
  rfl
end Go.Proofs.Ytkcjppbplllaiab
