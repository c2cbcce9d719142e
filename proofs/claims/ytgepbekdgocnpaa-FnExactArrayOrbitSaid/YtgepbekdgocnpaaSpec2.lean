/- Ideals, tops and bottoms of sets: the model's functions, and what both ask of a set. -/
import Derived.Test.YtgepbekdgocnpaaSpec
namespace Go.Proofs.Ytgepbekdgocnpaa
open Go.RowKit Go.WideShapes Go.ChangeShapes

theorem sub_sub_or (s a z : Nat) : sub (sub s a) z = sub s (a ||| z) := by
  apply Nat.eq_of_testBit_eq
  intro i
  simp only [sub_testBit, Nat.testBit_or]
  cases s.testBit i <;> cases a.testBit i <;> cases z.testBit i <;> rfl
theorem sub_zero_ (s : Nat) : sub s 0 = s := by simp [sub]
theorem bottomN_lt (xs : List Int) (s : Nat) (k : Nat) (hk : k ≤ 10) : bottomN xs s k < 1024 := by
  induction k with
  | zero => simp [bottomN]
  | succ k ih =>
    have h1 := ih (by omega)
    unfold bottomN
    split
    · exact Nat.or_lt_two_pow (n := 10) h1 (Nat.pow_lt_pow_right (by decide) (by omega))
    · exact h1

end Go.Proofs.Ytgepbekdgocnpaa
