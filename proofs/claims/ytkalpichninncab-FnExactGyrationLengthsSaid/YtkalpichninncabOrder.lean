/- Orders: IsOrder. -/
import Derived.Test.YtkalpichninncabTg2
namespace Go.Proofs.Ytkalpichninncab
open Go.RowKit Go.WideShapes Go.ChangeShapes
set_option linter.unusedVariables false

def ordP (xs : List Int) (m : Nat) (y : Int) : Bool := (decide (0 ≤ y) && decide (y < xs.length)) && (!m.testBit y.toNat && (sub (row xs y.toNat) m == 0))
def ordSt (xs ys : List Int) : Nat → Option Nat
  | 0 => some 0
  | k + 1 => (ordSt xs ys k).bind fun m => if ordP xs m (ys.getD k 0) then some (m ||| 2 ^ (ys.getD k 0).toNat) else none
def orderB (xs ys : List Int) : Bool := decide (ys.length = xs.length) && (ordSt xs ys ys.length).isSome
theorem ordSt_yes {xs ys : List Int} {k m : Nat} (h : ordSt xs ys k = some m) (hp : ordP xs m (ys.getD k 0) = true) : ordSt xs ys (k + 1) = some (m ||| 2 ^ (ys.getD k 0).toNat) := by
  simp only [ordSt, h, Option.bind_some, hp, if_true]
theorem ordSt_no {xs ys : List Int} {k m : Nat} (h : ordSt xs ys k = some m) (hp : ordP xs m (ys.getD k 0) = false) : ∀ j, k < j → ordSt xs ys j = none := by
  intro j hj
  induction j with
  | zero => omega
  | succ j ih =>
    by_cases e : k = j
    · subst e; simp only [ordSt, h, Option.bind_some, hp]; rfl
    · simp only [ordSt, ih (by omega)]; rfl
theorem ordSt_lt {xs ys : List Int} (k : Nat) : ∀ m, ordSt xs ys k = some m → m < 2 ^ xs.length ∧ ∀ j, j < k → 0 ≤ ys.getD j 0 ∧ ys.getD j 0 < xs.length := by
  induction k with
  | zero => intro m h; simp only [ordSt, Option.some.injEq] at h; subst h; exact ⟨Nat.two_pow_pos _, fun j hj => by omega⟩
  | succ k ih =>
    intro m h
    cases hq : ordSt xs ys k with
    | none => simp only [ordSt, hq] at h; cases h
    | some q =>
      obtain ⟨h1, h2⟩ := ih q hq
      cases hp : ordP xs q (ys.getD k 0)
      · rw [ordSt_no hq hp (k + 1) (by omega)] at h; cases h
      · rw [ordSt_yes hq hp] at h
        simp only [Option.some.injEq] at h
        subst h
        simp only [ordP, Bool.and_eq_true, decide_eq_true_eq] at hp
        refine ⟨Nat.or_lt_two_pow h1 (pow_lt_len (by omega)), fun j hj => ?_⟩
        by_cases e : j = k
        · subst e; exact hp.1
        · exact h2 j (by omega)
theorem orderB_len {xs ys : List Int} (h : ¬ ys.length = xs.length) : orderB xs ys = false := by simp [orderB, h]
theorem orderB_no {xs ys : List Int} {k m : Nat} (h : ordSt xs ys k = some m) (hk : k < ys.length) (hp : ordP xs m (ys.getD k 0) = false) : orderB xs ys = false := by
  simp [orderB, ordSt_no h hp ys.length hk]
theorem orderB_yes {xs ys : List Int} {m : Nat} (hl : ys.length = xs.length) (h : ordSt xs ys ys.length = some m) : orderB xs ys = true := by
  rw [orderB, h, hl]; simp
theorem orderB_in {xs ys : List Int} (h : inW xs.length ys = false) : orderB xs ys = false := by
  cases hc : orderB xs ys
  · rfl
  · simp only [orderB, Bool.and_eq_true, decide_eq_true_eq] at hc
    obtain ⟨m, hm⟩ := Option.isSome_iff_exists.1 hc.2
    rw [inW_of (ordSt_lt _ m hm).2] at h; cases h
theorem orderB_word {xs ys : List Int} (h : orderB xs ys = true) : ys.length = xs.length ∧ inW xs.length ys = true := by
  simp only [orderB, Bool.and_eq_true, decide_eq_true_eq] at h
  obtain ⟨m, hm⟩ := Option.isSome_iff_exists.1 h.2
  exact ⟨h.1, inW_of (ordSt_lt _ m hm).2⟩
theorem ordP_range {xs : List Int} {m : Nat} {y : Int} (h : (decide (0 ≤ y) && decide (y < xs.length)) = false) : ordP xs m y = false := by simp only [ordP, h]; rfl
theorem ordP_bit {xs : List Int} {m e : Nat} (h : m.testBit e = true) : ordP xs m (e : Int) = false := by simp [ordP, h]
theorem ordP_row {xs : List Int} {m e z : Nat} (hz : row xs e = z) (h : sub z m ≠ 0) : ordP xs m (e : Int) = false := by
  simp [ordP, hz, h]
theorem ordP_yes {xs : List Int} {m e z : Nat} (he : e < xs.length) (hb : m.testBit e = false) (hz : row xs e = z) (h : sub z m = 0) : ordP xs m (e : Int) = true := by
  simp [ordP, hz, h, hb]; omega

def okOrder (xs ys : List Int) : Bool := good xs && orderB xs ys
theorem okOrder_no {xs ys : List Int} (h : good xs = false) : okOrder xs ys = false := by simp [okOrder, h]
theorem okOrder_yes {xs ys : List Int} (h : good xs = true) : okOrder xs ys = orderB xs ys := by simp [okOrder, h]
end Go.Proofs.Ytkalpichninncab
