/- Rowmotion and its way back: the model's and the program's contracts. -/
import Derived.Test.YtiodligebnnodabTg2
import Derived.Test.YtiodligebnnodabLaw
import Derived.Test.YtiodligebnnodabApi
namespace Go.Proofs.Ytiodligebnnodab
open Go.RowKit Go.WideShapes Go.ChangeShapes
set_option linter.unusedVariables false

theorem compl_bits (n s N : Nat) (hn : n ≤ 10) (hs : s < 1024) (hN : 2 ^ n = N) : bits .andNot .i64 ((N : Int) - 1) (s : Int) = ((compl n s : Nat) : Int) := by
  have hp := two_pow_le n hn
  have e : ((N : Int) - 1) = ((N - 1 : Nat) : Int) := by omega
  rw [e, i64_andNot_nat _ _ (by omega) (by omega)]
  unfold compl
  rw [hN]
end Go.Proofs.Ytiodligebnnodab
