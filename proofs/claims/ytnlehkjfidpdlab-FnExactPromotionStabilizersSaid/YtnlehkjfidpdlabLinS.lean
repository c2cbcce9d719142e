/- Linear extensions in the model: is a list one, toggles, promotion, evacuation. -/
import Derived.Test.YtnlehkjfidpdlabLin
import Derived.Test.YtnlehkjfidpdlabLiIs
import Derived.Test.YtnlehkjfidpdlabComC
import Derived.Test.YtnlehkjfidpdlabRev
namespace Go.Proofs.Ytnlehkjfidpdlab
open Go.RowKit Go.WideShapes Go.ChangeShapes
set_option linter.unusedVariables false

theorem hasLinear_any (v u : Value) (xs ys : List Int) (w : World) (hv : Ints w v xs) (hl : xs.length ≤ 1048576) (hu : Ints w u ys) (hm : ys.length ≤ 1048576) :
    Calls Try.prog 158 #[.agg #[v], u] w fun r w' => r = .returned (.bool (okLin xs ys)) ∧ Below w.heap.size w w' := by
  have HV := hid hv
  have HU := hid hu
  clear hv hu
  go_enter Try.func158, Try.ntmps158
  have HB := hid (below_alloc (Below.refl _ w) (.cells #[v] 35))
  have A0 := hid (At.newAt w v 35 w.heap.size (by simp))
  go_wp2_with fail
  refine (implIsPoset_any _ xs _ (HV.out.below HB.out) hl).mono ?_
  rintro e w' ⟨rfl, hb⟩
  replace HB := hid (below_to HB.out hb)
  replace A0 := hid (A0.out.below hb)
  clear hb
  cases hq : good xs
  · have HO : Hid (okLin xs ys = false) := hid (okOrder_no (ys := ys) hq)
    clear hq
    have ebox0 := A0.out.1
    go_wp2
    go_ret
    exact ⟨ret_bool HO.out.symm, HB.out⟩
  · have HQ := hid hq
    have HO : Hid (okLin xs ys = orderB xs ys) := hid (okOrder_yes (ys := ys) hq)
    clear hq
    have ebox0 := A0.out.1
    go_wp2_with fail
    clear ebox0
    refine (hasOrder_any _ _ xs ys _ (HV.out.below HB.out) (HU.out.below HB.out) HQ.out hm).mono ?_
    rintro e w' ⟨rfl, hb⟩
    replace HB := hid (below_to HB.out hb)
    replace A0 := hid (A0.out.below hb)
    clear hb
    have ebox0 := A0.out.1
    go_wp2
    go_ret
    exact ⟨ret_bool HO.out.symm, HB.out⟩
end Go.Proofs.Ytnlehkjfidpdlab
