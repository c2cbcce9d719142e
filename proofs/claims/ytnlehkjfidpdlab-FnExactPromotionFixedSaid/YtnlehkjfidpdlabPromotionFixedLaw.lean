/- FnExactPromotionFixed: the law's walk (by genlaw.py). -/
import Derived.Test.YtnlehkjfidpdlabSvN
import Derived.Deep.DeepCutAuto
namespace Go.Proofs.Ytnlehkjfidpdlab.lawPromotionFixed
open Go.RowKit Go.WideShapes Go.ChangeShapes
set_option linter.unusedVariables false
set_option maxRecDepth 100000 in
set_option maxHeartbeats 8000000 in
theorem walk (n0 : Int) (n1 : Int) (n2 : Int) (w : World) (wf0 : (Lit.int .i64 n0).wf = true) (wf1 : (Lit.int .i64 n1).wf = true) (wf2 : (Lit.int .i64 n2).wf = true) :
    Calls Try.prog 4 #[.int .i64 n0, .int .i64 n1, .int .i64 n2] w fun e w' => e = .returned (.bool true) ∧ Below w.heap.size w w' := by
  have WF0 := hid wf0
  clear wf0
  have WF1 := hid wf1
  clear wf1
  have WF2 := hid wf2
  clear wf2
  go_enter Try.func4, Try.ntmps4
  go_wp2_with fail
  refine (specPromotionFixed_any n0 n1 n2 _ WF0.out WF1.out WF2.out).mono ?_
  rintro e w_1 ⟨rfl, hb2⟩
  have G3 := hid (below_to (Below.refl _ w) hb2)
  have Z4 := hid (show w.heap.size + 0 ≤ w_1.heap.size by have := hb2.size; first | omega | (simp at this; omega))
  clear hb2
  go_wp2_with fail
  refine (implPromotionFixed_any n0 n1 n2 _ WF0.out WF1.out WF2.out).mono ?_
  rintro e w_5 ⟨rfl, hb6⟩
  have G7 := hid (below_to G3.out hb6)
  have Z8 := hid (show w_1.heap.size + 0 ≤ w_5.heap.size by have := hb6.size; first | omega | (simp at this; omega))
  clear G3 hb6
  go_wp2
  go_ret
  exact ⟨rfl, G7.out⟩

end Go.Proofs.Ytnlehkjfidpdlab.lawPromotionFixed
