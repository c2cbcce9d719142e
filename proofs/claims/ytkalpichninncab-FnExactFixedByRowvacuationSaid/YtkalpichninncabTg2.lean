/- The program's own test of words; the functions that toggle by words. -/
import Derived.Test.YtkalpichninncabTg
import Derived.Test.YtkalpichninncabLaw
import Derived.Test.YtkalpichninncabApi
namespace Go.Proofs.Ytkalpichninncab
open Go.RowKit Go.WideShapes Go.ChangeShapes
set_option linter.unusedVariables false

/-! ### ToggleWord, ToggleAt -/
def okTW (xs ys : List Int) (s : Int) : Bool := okIdeal xs s && okWord xs ys
def ansTW (xs ys : List Int) (s : Int) : Int := if okTW xs ys s then (togW xs s.toNat ys : Int) else 0
theorem okTW_no1 {xs ys : List Int} {s : Int} (h : okIdeal xs s = false) : okTW xs ys s = false := by simp [okTW, h]
theorem okTW_no2 {xs ys : List Int} {s : Int} (h : okWord xs ys = false) : okTW xs ys s = false := by simp [okTW, h]
theorem okTW_yes {xs ys : List Int} {s : Int} (h : okIdeal xs s = true) (k : okWord xs ys = true) : okTW xs ys s = true := by simp [okTW, h, k]
theorem ansTW_no {xs ys : List Int} {s : Int} (h : okTW xs ys s = false) : ansTW xs ys s = 0 := by simp [ansTW, h]
theorem ansTW_yes {xs ys : List Int} {z : Nat} (h : okTW xs ys z = true) : ansTW xs ys z = (togW xs z ys : Int) := by simp [ansTW, h]
end Go.Proofs.Ytkalpichninncab
