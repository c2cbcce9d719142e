/- Two lists alike: the model's l1Same, slices.Equal; DualLinear of both sides. -/
import Derived.Test.YtnlehkjfidpdlabEndS
import Derived.Test.YtnlehkjfidpdlabSam
import Derived.BigQuiet
namespace Go.Proofs.Ytnlehkjfidpdlab
open Go.RowKit Go.WideShapes Go.ChangeShapes
set_option linter.unusedVariables false

/-! ### the linear extension of the dual -/
def duaF (ws : List Int) (j : Nat) : Nat := ws.length - 1 - (ws.getD (ws.length - 1 - j) 0).toNat
def duaL (ws : List Int) : List Int := mkL ws.length (duaF ws)
def ansDL (xs ws : List Int) : List Int := if okLin xs ws then duaL ws else []
theorem ansDL_no {xs ws : List Int} (h : okLin xs ws = false) : ansDL xs ws = [] := by simp [ansDL, h]
theorem ansDL_yes {xs ws : List Int} (h : okLin xs ws = true) : ansDL xs ws = duaL ws := by simp [ansDL, h]
theorem ansDL_length (xs ws : List Int) : (ansDL xs ws).length ≤ 1048576 := by
  cases h : okLin xs ws
  · rw [ansDL_no h]; simp
  · rw [ansDL_yes h, duaL, mkL_length, (okLin_Lw h).len]
    have := (good_length (okLin_all h).1).2
    omega
def duaR (ws : List Int) (i j : Nat) : Nat := if ws.length - i ≤ j then duaF ws j else 0
theorem duaR_succ (ws : List Int) (i : Nat) (hi : i < ws.length) : mkL ws.length (duaR ws (i + 1)) = (mkL ws.length (duaR ws i)).set (ws.length - 1 - i) ((ws.length - 1 - (ws.getD i 0).toNat : Nat) : Int) :=
  mkL_upd _ (by omega) fun j hj => by
    unfold duaR
    by_cases h : j = ws.length - 1 - i
    · subst h
      rw [if_pos (by omega), if_pos rfl]
      unfold duaF
      rw [show ws.length - 1 - (ws.length - 1 - i) = i by omega]
    · rw [if_neg h]
      by_cases h2 : ws.length - i ≤ j
      · rw [if_pos h2, if_pos (by omega)]
      · rw [if_neg h2, if_neg (by omega)]
end Go.Proofs.Ytnlehkjfidpdlab
