/- FnExactIdealWord: the law's walk. -/
import Derived.Test.YtkcjppbplllaiabIdealW
import Derived.Test.YtkcjppbplllaiabLaw
namespace Go.Proofs.Ytkcjppbplllaiab.lawIdealWord
open Go.RowKit Go.WideShapes Go.ChangeShapes
set_option linter.unusedVariables false
theorem walk (n0 n1 n2 : Int) (w : World) (wf0 : (Lit.int .i64 n0).wf = true) (wf1 : (Lit.int .i64 n1).wf = true) (wf2 : (Lit.int .i64 n2).wf = true) :
    Calls Try.prog 5 #[.int .i64 n0, .int .i64 n1, .int .i64 n2] w fun e w' => e = .returned (.bool true) ∧ Below w.heap.size w w' := by
  have HS := hid (specIdealWord_any n0 n1 n2 w wf0 wf1 wf2)
  have HI := hid (fun W => implIdealWord_any n0 n1 n2 W wf0 wf1 wf2)
  clear wf0 wf1 wf2
  go_enter Try.func5, Try.ntmps5
  go_wp2_with fail
  refine HS.out.mono ?_
  rintro e w1 ⟨rfl, hb1⟩
  have HB1 := hid hb1
  clear hb1
  go_wp2_with fail
  refine (HI.out _).mono ?_
  rintro e w2 ⟨rfl, hb2⟩
  have HB2 := hid (below_to HB1.out hb2)
  clear hb2
  go_wp2
  go_ret
  exact ⟨rfl, HB2.out⟩
end Go.Proofs.Ytkcjppbplllaiab.lawIdealWord
