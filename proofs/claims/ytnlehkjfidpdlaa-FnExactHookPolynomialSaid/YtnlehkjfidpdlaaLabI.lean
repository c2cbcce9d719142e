/- IdealsOfLabels and ComplementLabels, both sides. -/
import Derived.Test.YtnlehkjfidpdlaaLabS
import Derived.Test.YtnlehkjfidpdlaaWhere
namespace Go.Proofs.Ytnlehkjfidpdlaa
open Go.RowKit Go.WideShapes Go.ChangeShapes
set_option linter.unusedVariables false

theorem ret_vbL {u : Value} {a b : Bool} (h : a = b) : Ending.returned (.tuple #[u, .bool a]) = .returned (.tuple #[u, .bool b]) := by rw [h]
/-- the set of the first n elements with a label less than k -/
def lowN (f : List Int) (k : Nat) (n : Nat) : Nat := rowN (fun e => decide (f.getD e 0 < (k : Int))) n
theorem lowN_yes {f : List Int} {k n : Nat} (h : f.getD n 0 < (k : Int)) : lowN f k (n + 1) = lowN f k n ||| 2 ^ n := by
  unfold lowN; rw [rowN, decide_eq_true h]; rfl
theorem lowN_no {f : List Int} {k n : Nat} (h : ¬ f.getD n 0 < (k : Int)) : lowN f k (n + 1) = lowN f k n := by
  unfold lowN; rw [rowN, decide_eq_false h]; rfl
theorem lowN_lt (f : List Int) (k n : Nat) (h : n ≤ 10) : lowN f k n < 1024 := Nat.lt_of_lt_of_le (rowN_lt _ n) (two_pow_le n h).2
def lowsL (f : List Int) (m : Nat) : List Int := mkL m fun i => lowN f (i + 1) f.length
def ansIL (xs f : List Int) (m : Int) : List Int := if okLab xs f m 0 then lowsL f m.toNat else []
theorem ansIL_no {xs f : List Int} {m : Int} (h : okLab xs f m 0 = false) : ansIL xs f m = [] := by simp [ansIL, h]
theorem ansIL_yes {xs f : List Int} {m : Int} (h : okLab xs f m 0 = true) : ansIL xs f m = lowsL f m.toNat := by simp [ansIL, h]
theorem ansIL_length (xs f : List Int) (m : Int) : (ansIL xs f m).length ≤ 1048576 := by
  cases h : okLab xs f m 0
  · rw [ansIL_no h]; simp
  · rw [ansIL_yes h, lowsL, mkL_length]; have := okLab_all h; omega
theorem mkL_succ (n : Nat) (g : Nat → Nat) : mkL (n + 1) g = mkL n g ++ [((g n : Nat) : Int)] := by
  unfold mkL; rw [List.range_succ, List.map_append]; rfl
end Go.Proofs.Ytnlehkjfidpdlaa
