/- The program's tableaux: rows taken in. -/
import Derived.Test.YtclhebpkpmholaaRepI
import Derived.Test.YtclhebpkpmholaaOrder
namespace Go.Proofs.Ytclhebpkpmholaa
open Go.RowKit Go.WideShapes Go.ChangeShapes
set_option linter.unusedVariables false

/-- have all rows b numbers? -/
def evenB (ls : List (List Int)) (b : Nat) : Bool := (List.range ls.length).all fun r => decide ((ls.getD r []).length = b)
theorem evenB_no {ls : List (List Int)} {b r : Nat} (hr : r < ls.length) (h : decide ((ls.getD r []).length = b) = false) : evenB ls b = false := by
  cases hc : evenB ls b
  · rfl
  · have := List.all_eq_true.1 hc r (List.mem_range.2 hr)
    rw [h] at this; cases this
theorem evenB_yes {ls : List (List Int)} {b : Nat} (h : ∀ r, r < ls.length → decide ((ls.getD r []).length = b) = true) : evenB ls b = true :=
  List.all_eq_true.2 fun r hr => h r (List.mem_range.1 hr)
theorem shapeB_even (ls : List (List Int)) : shapeB ls = (sides ls.length (wid ls) && evenB ls (wid ls)) := rfl
theorem two_set {W : World} {g : Nat} {t : TypeId} {x0 x1 : Value} (h : Blk W g t #[x0, x1]) (y0 y1 : Value) : Blk ((W.setCell ⟨g, 0, none⟩ y0).setCell ⟨g, 1, none⟩ y1) g t #[y0, y1] := by
  have := (h.set_ 0 y0).set_ 1 y1
  simpa using this
theorem tabB_order {ls : List (List Int)} {b n : Nat} (h : shapeB ls = true) (hb : wid ls = b) (hn : ls.length * b = n) (hf : ∀ e, e < n → 0 ≤ celF ls b e ∧ celF ls b e < n) : tabB ls = orderB (rectL ls.length b) (plc (celF ls b) n n) := by
  subst hb
  subst hn
  rw [tabB_yes h, tabF, okF_of hf, Bool.true_and, rectL_yes (shapeB_L h).sid]
theorem wf_nat {n : Nat} (h : n ≤ 1048576) : (Lit.int .i64 (n : Int)).wf = true := by
  simp only [Lit.wf, Bool.and_eq_true, decide_eq_true_eq]
  have h1 : IntKind.i64.min = -9223372036854775808 := by decide
  have h2 : IntKind.i64.max = 9223372036854775807 := by decide
  rw [h1, h2]; omega
end Go.Proofs.Ytclhebpkpmholaa
