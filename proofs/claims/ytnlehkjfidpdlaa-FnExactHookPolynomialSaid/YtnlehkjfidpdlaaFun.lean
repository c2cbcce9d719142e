/- The contracts of the small functions that every law of this seat calls. -/
import Derived.Test.YtnlehkjfidpdlaaRows
import Derived.Test.YtnlehkjfidpdlaaSets
import Derived.Outline
namespace Go.Proofs.Ytnlehkjfidpdlaa
open Go.RowKit Go.WideShapes Go.ChangeShapes

theorem l1In_any (n lo hi : Int) (w : World) : Calls Try.prog 34 #[.int .i64 n, .int .i64 lo, .int .i64 hi] w fun r w' => r = .returned (.bool (decide (lo ≤ n) && decide (n ≤ hi))) ∧ w = w' := by
  go_enter Try.func34, Try.ntmps34
  go_wp2
  all_goals go_ret
  all_goals exact ⟨ret_bool (by simp <;> omega), rfl⟩

end Go.Proofs.Ytnlehkjfidpdlaa
