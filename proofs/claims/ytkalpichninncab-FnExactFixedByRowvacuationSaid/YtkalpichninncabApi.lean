/- What the exported functions of the model and of the program answer: a poset, and sets in it. -/
import Derived.Test.YtkalpichninncabSpec2
namespace Go.Proofs.Ytkalpichninncab
open Go.RowKit Go.WideShapes Go.ChangeShapes
set_option linter.unusedVariables false
/-- the answers, and 0 or false where the arguments are none -/
def ansB (xs : List Int) (s : Int) (f : List Int → Nat → Bool) : Bool := okSet xs s && f xs s.toNat
def ansI (xs : List Int) (s : Int) (f : List Int → Nat → Nat) : Int := if okSet xs s then (f xs s.toNat : Int) else 0
theorem ret_bb {a b c d : Bool} (h : a = c) (k : b = d) : Ending.returned (.tuple #[.bool a, .bool b]) = .returned (.tuple #[.bool c, .bool d]) := by rw [h, k]
theorem ret_ib {a c : Int} {b d : Bool} (h : a = c) (k : b = d) : Ending.returned (.tuple #[.int .i64 a, .bool b]) = .returned (.tuple #[.int .i64 c, .bool d]) := by rw [h, k]
theorem top_eq (xs : List Int) (z : Nat) : ((top xs z : Int) == (z : Int)) = holdsAntichain xs z := by
  unfold top holdsAntichain
  rw [Bool.eq_iff_iff, beq_iff_eq, beq_iff_eq]
  constructor
  · intro h
    have h : sub z (under xs z) = z := by omega
    apply Nat.eq_of_testBit_eq
    intro i
    have := congrArg (fun n => Nat.testBit n i) h
    simp only [sub_testBit] at this
    rw [Nat.testBit_and, Nat.zero_testBit]
    revert this
    cases z.testBit i <;> cases (under xs z).testBit i <;> simp
  · intro h
    suffices sub z (under xs z) = z by omega
    apply Nat.eq_of_testBit_eq
    intro i
    have := congrArg (fun n => Nat.testBit n i) h
    simp only [Nat.testBit_and, Nat.zero_testBit] at this
    rw [sub_testBit]
    revert this
    cases z.testBit i <;> cases (under xs z).testBit i <;> simp
end Go.Proofs.Ytkalpichninncab
