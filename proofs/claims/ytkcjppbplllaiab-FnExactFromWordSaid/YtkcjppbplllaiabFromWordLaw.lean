/- FnExactFromWord: the law's walk. -/
import Derived.Test.YtkcjppbplllaiabFromW
import Derived.Test.YtkcjppbplllaiabLaw
namespace Go.Proofs.Ytkcjppbplllaiab.lawFromWord
open Go.RowKit Go.WideShapes Go.ChangeShapes
set_option linter.unusedVariables false
theorem walk (n0 : Int) (n1 : Int) (s2 : ByteArray) (w : World) (wf0 : (Lit.int .i64 n0).wf = true) (wf1 : (Lit.int .i64 n1).wf = true) (hs2 : s2.size ≤ maxLen) :
    Calls Try.prog 6 #[.int .i64 n0, .int .i64 n1, .string s2] w fun e w' => e = .returned (.bool true) ∧ Below w.heap.size w w' := by
  unfold maxLen at hs2
  by_cases hbig : 1048576 < s2.size
  · have hbI : (1048576 : Int) < (s2.size : Int) := by omega
    clear wf0 wf1
    go_enter Try.func6, Try.ntmps6
    go_wp2
    go_ret
    exact ⟨rfl, Below.refl _ _⟩
  · have hbI : ¬ (1048576 : Int) < (s2.size : Int) := by omega
    have HS := hid (specFromWord_any n0 n1 s2 w wf0 wf1 (by omega))
    have HI := hid (fun W => implFromWord_any n0 n1 s2 W wf0 wf1 (by omega))
    clear wf0 wf1
    go_enter Try.func6, Try.ntmps6
    go_wp2_with fail
    refine HS.out.mono ?_
    rintro e w1 ⟨rfl, hb1⟩
    have HB1 := hid hb1
    clear hb1
    go_wp2_with fail
    refine (HI.out _).mono ?_
    rintro e w2 ⟨rfl, hb2⟩
    have HB2 := hid (below_to HB1.out hb2)
    clear hb2
    go_wp2
    go_ret
    exact ⟨rfl, HB2.out⟩
end Go.Proofs.Ytkcjppbplllaiab.lawFromWord
