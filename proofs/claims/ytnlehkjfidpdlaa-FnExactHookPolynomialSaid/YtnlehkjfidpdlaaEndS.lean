/- The program's table of counts: what goes on behind a set, a linear extension with a rank, a rank. · The program's linear extension with a rank, and the rank of one. · The model's table of counts, a linear extension with a rank, the rank of one. -/
import Derived.Test.YtnlehkjfidpdlaaEnd
import Derived.Test.YtnlehkjfidpdlaaHeights
import Derived.Test.YtnlehkjfidpdlaaLiIs
import Derived.Laws.Tables
import Derived.BigQuiet
namespace Go.Proofs.Ytnlehkjfidpdlaa
open Go.RowKit Go.WideShapes Go.ChangeShapes
set_option linter.unusedVariables false

def nx (xs : List Int) (f : Nat → Nat) (s e : Nat) : Nat := if stepP xs s e = true then f (s ||| 2 ^ e) else 0
theorem nx_yes {xs : List Int} {f : Nat → Nat} {s e : Nat} (h : stepP xs s e = true) : nx xs f s e = f (s ||| 2 ^ e) := if_pos h
theorem nx_no {xs : List Int} {f : Nat → Nat} {s e : Nat} (h : stepP xs s e = false) : nx xs f s e = 0 := by unfold nx; rw [h]; rfl
theorem stepP_no1 {xs : List Int} {s e : Nat} (h : s.testBit e = true) : stepP xs s e = false := by simp [stepP, h]
theorem stepP_no2 {xs : List Int} {s e z : Nat} (hz : row xs e = z) (h : sub z s ≠ 0) : stepP xs s e = false := by simp [stepP, hz, h]
theorem stepP_yes {xs : List Int} {s e z : Nat} (hz : row xs e = z) (h1 : s.testBit e = false) (h : sub z s = 0) : stepP xs s e = true := by simp [stepP, hz, h, h1]
theorem nx_endP {xs : List Int} {s k : Nat} (hs : s < 2 ^ xs.length) (hk : k < xs.length) : nx xs (endP xs s k) s k = nterm xs s k := by
  cases h : stepP xs s k
  · rw [nx_no h, nterm_no h]
  · rw [nx_yes h, nterm_yes h, endP_above (Nat.or_lt_two_pow hs (pow_lt_len hk)) (or_gt (stepP_bit h))]
theorem nx_endG {xs : List Int} {s k : Nat} (hs : s < 2 ^ xs.length) (hk : k < xs.length) : nx xs (endG xs 0) s k = nterm xs s k := by
  cases h : stepP xs s k
  · rw [nx_no h, nterm_no h]
  · rw [nx_yes h, nterm_yes h, endG_at (Nat.or_lt_two_pow hs (pow_lt_len hk))]
end Go.Proofs.Ytnlehkjfidpdlaa
namespace Go.Proofs.Ytnlehkjfidpdlaa
open Go.RowKit Go.WideShapes Go.ChangeShapes
set_option linter.unusedVariables false

def rowW (xs : List Int) (r i j : Nat) : Nat := if j < i then unE xs r j else 0
theorem rowW_zero (xs : List Int) (r : Nat) : mkL xs.length (rowW xs r 0) = List.replicate xs.length 0 := by
  rw [← mkL_zero]; exact mkL_congr fun j _ => by simp [rowW]
theorem rowW_succ (xs : List Int) (r i : Nat) (hi : i < xs.length) : mkL xs.length (rowW xs r (i + 1)) = (mkL xs.length (rowW xs r i)).set i ((unE xs r i : Nat) : Int) :=
  mkL_upd _ hi fun j _ => by
    unfold rowW
    by_cases h : j = i
    · subst h; simp
    · rw [if_neg h]; by_cases h2 : j < i
      · rw [if_pos h2, if_pos (by omega)]
      · rw [if_neg h2, if_neg (by omega)]
theorem rowW_full (xs : List Int) (r : Nat) : mkL xs.length (rowW xs r xs.length) = unrL xs r := mkL_congr fun j hj => by simp [rowW, hj]
theorem unrL_length (xs : List Int) (r : Nat) : (unrL xs r).length = xs.length := mkL_length _ _
theorem sumN_succ (f : Nat → Nat) (k : Nat) : sumN f (k + 1) = sumN f k + f k := rfl
def cntL (xs : List Int) : Nat := ends xs 0
theorem cntL_le {xs : List Int} (hl : xs.length ≤ 10) : cntL xs ≤ 10000000000 := ends_le hl 0
theorem cell_zero {w : World} {g N : Nat} {t : TypeId} {xs : List Int} (h : Blk w g t (Vals (mkL N (endG xs 0)))) (hN : 0 < N) : w.cell? ⟨g, 0, none⟩ = some (.int .i64 (cntL xs : Nat)) := by
  rw [h.cell, Vals_get (by rw [mkL_length]; exact hN), mkL_getD hN, endG_at (Nat.two_pow_pos _)]; rfl
end Go.Proofs.Ytnlehkjfidpdlaa
namespace Go.Proofs.Ytnlehkjfidpdlaa
open Go.RowKit Go.WideShapes Go.ChangeShapes
set_option linter.unusedVariables false

theorem mkL_succ (k : Nat) (f : Nat → Nat) : mkL (k + 1) f = mkL k f ++ [((f k : Nat) : Int)] := by
  unfold mkL; rw [List.range_succ, List.map_append]; rfl
end Go.Proofs.Ytnlehkjfidpdlaa
