/- Cycles of a word on the ideals. -/
import Derived.Test.YtnlehkjfidpdlabCyc
import Derived.Test.YtnlehkjfidpdlabTg2
import Derived.Test.YtnlehkjfidpdlabIdeals
import Derived.Test.YtnlehkjfidpdlabHeights
import Derived.Test.YtnlehkjfidpdlabBval
namespace Go.Proofs.Ytnlehkjfidpdlab
open Go.RowKit Go.WideShapes Go.ChangeShapes
set_option linter.unusedVariables false

theorem setsL_bound {f : Nat → Bool} {N j : Nat} (hj : j < (setsL f N).length) : ∃ s : Nat, (setsL f N).getD j 0 = (s : Int) ∧ s < N ∧ f s = true := by
  have hj' : j < ((List.range N).filter f).length := by simpa [setsL] using hj
  have hmem2 := List.mem_filter.1 (List.getElem_mem hj')
  exact ⟨((List.range N).filter f)[j], by simp [setsL, List.getD, hj'], List.mem_range.1 hmem2.1, hmem2.2⟩
/-- the word's motion on sets -/
def wordF (xs ys : List Int) (s : Nat) : Nat := togW xs s ys

end Go.Proofs.Ytnlehkjfidpdlab
