/- The library's sort of no list at all. -/
import Derived.Test.YtkalpichninncabSort
namespace Go.Proofs.Ytkalpichninncab
open Go.RowKit Go.WideShapes Go.ChangeShapes
set_option linter.unusedVariables false

set_option maxRecDepth 100000 in
theorem len64_0 (w : World) : Calls Try.prog 95 #[.int .u64 0] w fun r w' => r = .returned (.int .i64 0) ∧ w = w' := by
  have h0 : wrap64 (wrap64 (Lib.len8 0)) = 0 := by first | decide | kernel_rfl
  go_enter Try.func95, Try.ntmps95
  go_wp2
  go_ret
  exact ⟨ret_int h0, rfl⟩
set_option maxRecDepth 100000 in
theorem len_0 (w : World) : Calls Try.prog 71 #[.int .u64 0] w fun r w' => r = .returned (.int .i64 0) ∧ w = w' := by
  go_enter Try.func71, Try.ntmps71
  go_wp2_with (go_at_call 95; refine (len64_0 _).mono ?_; rintro e w' ⟨rfl, rfl⟩)
  go_ret
  exact ⟨rfl, rfl⟩
theorem ins_0 (A : Option Addr) (c : Nat) (w : World) : Calls Try.prog 85 #[.slice A 0 c, .int .i64 0, .int .i64 0] w fun (r : Ending) w' => r = .returned (.tuple #[]) ∧ w = w' := by
  go_enter Try.func85, Try.ntmps85
  go_wp2
  go_loop [6] (fun i => i = .int .i64 1) (fun _ => 0)
  case atStart => rfl
  case round =>
    subst hrel
    go_wp2
    go_end0
    exact ⟨rfl, rfl⟩
theorem pdq_0 (A : Option Addr) (c : Nat) (k : Int) (w : World) : Calls Try.prog 70 #[.slice A 0 c, .int .i64 0, .int .i64 0, .int .i64 k] w fun (r : Ending) w' => r = .returned (.tuple #[]) ∧ w = w' := by
  go_enter Try.func70, Try.ntmps70
  go_wp2
  go_loop [1, 2] (fun a b => a = .int .i64 0 ∧ b = .int .i64 0) (fun _ _ => 0)
  case atStart => exact ⟨rfl, rfl⟩
  case round =>
    obtain ⟨rfl, rfl⟩ := hrel
    go_wp2_with (go_at_call 85; refine (ins_0 A c _).mono ?_; rintro e w' ⟨rfl, rfl⟩)
    exact bodyPost_ret (results_none rfl _ _ _) rfl ⟨rfl, rfl⟩
theorem sortNil_any (A : Option Addr) (c : Nat) (w : World) : Calls Try.prog 46 #[.slice A 0 c] w fun (r : Ending) w' => r = .returned (.tuple #[]) ∧ w = w' := by
  go_enter Try.func46, Try.ntmps46
  go_wp2_with (first | (go_at_call 71; refine (len_0 _).mono ?_; rintro e w' ⟨rfl, rfl⟩) | (go_at_call 70; refine (pdq_0 A c _ _).mono ?_; rintro e w' ⟨rfl, rfl⟩))
  go_end0
  exact ⟨rfl, rfl⟩
theorem ret_vbS {u : Value} {a b : Bool} (h : a = b) : Ending.returned (.tuple #[u, .bool a]) = .returned (.tuple #[u, .bool b]) := by rw [h]
theorem sortL_nil : sortL [] = [] := by
  have := sortL_length []; exact List.eq_nil_of_length_eq_zero (by simpa using this)
end Go.Proofs.Ytkalpichninncab
