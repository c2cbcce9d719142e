/- Heights. -/
import Derived.Test.YtgepbekdgocnpabSpec
import Derived.Test.YtgepbekdgocnpabLaw
import Derived.ChangeAlike
import Derived.RegionTactic
namespace Go.Proofs.Ytgepbekdgocnpab
open Go.RowKit Go.WideShapes Go.ChangeShapes
set_option linter.unusedVariables false

/-- the cells of a list of numbers -/
def Vals (l : List Int) : Array Value := (l.map (Value.int .i64)).toArray
theorem pow_lt10 (n : Nat) (h : n ≤ 9) : 2 ^ n ≤ 512 := by
  have := Nat.pow_le_pow_right (n := 2) (by decide) h
  simpa using this
theorem Vals_get {l : List Int} {i : Nat} (h : i < l.length) : (Vals l)[i]? = some (.int .i64 (l.getD i 0)) := by
  simp [Vals, h]
theorem Vals_set (l : List Int) (i : Nat) (y : Int) : (Vals l).setIfInBounds i (.int .i64 y) = Vals (l.set i y) := by
  unfold Vals
  rw [List.setIfInBounds_toArray, List.map_set]
theorem Vals_made (n : Nat) : madeCells #[.int .i64 0] n = Vals (List.replicate n 0) := by
  have := toList_madeCells_one (.int .i64 0) n
  rw [← Array.toList_inj, this]
  simp [Vals]

/-! ### heights -/
def hstep (xs : List Int) (i : Nat) (out : List Int) (j : Nat) : List Int :=
  if (xs.getD i 0).toNat.testBit j then out.set i (max (out.getD i 0) (out.getD j 0 + 1)) else out
def hin (xs : List Int) (i : Nat) (out : List Int) : Nat → List Int
  | 0 => out
  | j + 1 => hstep xs i (hin xs i out j) j
def hout (xs : List Int) (n : Nat) : Nat → List Int
  | 0 => List.replicate n 0
  | i + 1 => hin xs i (hout xs n i) i
def HB (out : List Int) (n : Nat) : Prop := out.length = n ∧ ∀ e, 0 ≤ out.getD e 0 ∧ out.getD e 0 ≤ e
theorem getD_set (l : List Int) (i e : Nat) (y : Int) (hi : i < l.length) : (l.set i y).getD e 0 = if i = e then y else l.getD e 0 := by
  simp only [List.getD, List.getElem?_set]
  by_cases h : i = e
  · subst h; simp [hi]
  · simp [h]
theorem HB_step {xs : List Int} {out : List Int} {n i j : Nat} (h : HB out n) (hi : i < n) (hj : j < i) : HB (hstep xs i out j) n := by
  unfold hstep
  split
  · refine ⟨by rw [List.length_set]; exact h.1, fun e => ?_⟩
    rw [getD_set _ _ _ _ (by rw [h.1]; exact hi)]
    have h1 := h.2 i
    have h2 := h.2 j
    split
    · rename_i he; subst he; omega
    · exact h.2 e
  · exact h
theorem HB_in {xs : List Int} {out : List Int} {n i : Nat} (h : HB out n) (hi : i < n) (j : Nat) (hj : j ≤ i) : HB (hin xs i out j) n := by
  induction j with
  | zero => exact h
  | succ j ih => exact HB_step (ih (by omega)) hi (by omega)
theorem HB_out (xs : List Int) (n i : Nat) (hi : i ≤ n) : HB (hout xs n i) n := by
  induction i with
  | zero =>
    refine ⟨by simp [hout], fun e => ?_⟩
    by_cases he : e < n
    · simp [hout, List.getD, he]
    · simp [hout, List.getD, he]
  | succ i ih => exact HB_in (ih (by omega)) (by omega) i (Nat.le_refl _)
def heightsL (xs : List Int) : List Int := if good xs then hout xs xs.length xs.length else []
theorem heightsL_yes {xs : List Int} (h : good xs = true) : heightsL xs = hout xs xs.length xs.length := if_pos h
theorem heightsL_no {xs : List Int} (h : good xs = false) : heightsL xs = [] := by simp [heightsL, h]
theorem heightsL_length (xs : List Int) : (heightsL xs).length ≤ 1048576 := by
  unfold heightsL
  split
  · rename_i h
    rw [(HB_out xs xs.length xs.length (Nat.le_refl _)).1]
    have := (good_length h).2
    omega
  · simp

theorem max_if (p q : Int) : (if p < q then q else p) = max p q := by split <;> omega
theorem l1Most_any (a b : Int) (w : World) : Calls Try.prog 70 #[.int .i64 a, .int .i64 b] w fun r w' => r = .returned (.int .i64 (max a b)) ∧ w = w' := by
  by_cases h : b < a
  · have H := hid (Int.max_eq_left (Int.le_of_lt h))
    go_enter Try.func70, Try.ntmps70
    go_wp2
    go_ret
    exact ⟨ret_int H.out.symm, rfl⟩
  · have H := hid (Int.max_eq_right (by omega : a ≤ b))
    go_enter Try.func70, Try.ntmps70
    go_wp2
    go_ret
    exact ⟨ret_int H.out.symm, rfl⟩

end Go.Proofs.Ytgepbekdgocnpab
