/- Labels of a poset: what they are, in the program and in the model. -/
import Derived.Test.YtnlehkjfidpdlaaTg
import Derived.Test.YtnlehkjfidpdlaaHeights
namespace Go.Proofs.Ytnlehkjfidpdlaa
open Go.RowKit Go.WideShapes Go.ChangeShapes
set_option linter.unusedVariables false

/-- the least label of e by the first k elements -/
def leN (xs f : List Int) (e : Nat) (g : Int) : Nat → Int
  | 0 => 0
  | k + 1 => if (xs.getD e 0).toNat.testBit k then max (leN xs f e g k) (f.getD k 0 + g) else leN xs f e g k
theorem leN_le {xs f : List Int} {e : Nat} {g : Int} {k : Nat} {x : Int} : leN xs f e g k ≤ x ↔ 0 ≤ x ∧ ∀ j, j < k → (xs.getD e 0).toNat.testBit j = true → f.getD j 0 + g ≤ x := by
  induction k with
  | zero => simp [leN]
  | succ k ih =>
    rw [leN]
    by_cases hb : (xs.getD e 0).toNat.testBit k = true
    · rw [if_pos hb, Int.max_le, ih]
      constructor
      · rintro ⟨⟨h1, h2⟩, h3⟩
        refine ⟨h1, fun j hj hbj => ?_⟩
        by_cases e : j = k
        · subst e; exact h3
        · exact h2 j (by omega) hbj
      · rintro ⟨h1, h2⟩
        exact ⟨⟨h1, fun j hj => h2 j (by omega)⟩, h2 k (by omega) hb⟩
    · rw [if_neg hb, ih]
      constructor
      · rintro ⟨h1, h2⟩
        refine ⟨h1, fun j hj hbj => ?_⟩
        by_cases e : j = k
        · subst e; exact absurd hbj hb
        · exact h2 j (by omega) hbj
      · rintro ⟨h1, h2⟩
        exact ⟨h1, fun j hj => h2 j (by omega)⟩
theorem leN_zero_le (xs f : List Int) (e : Nat) (g : Int) (k : Nat) : 0 ≤ leN xs f e g k := (leN_le.1 (Int.le_refl _)).1
theorem leN_rng {xs f : List Int} {e : Nat} {g : Int} {k : Nat} (hr : ∀ j, j < k → 0 ≤ f.getD j 0 ∧ f.getD j 0 ≤ 12) (g0 : 0 ≤ g) (g1 : g ≤ 1) : 0 ≤ leN xs f e g k ∧ leN xs f e g k ≤ 13 :=
  ⟨leN_zero_le _ _ _ _ _, leN_le.2 ⟨by omega, fun j hj _ => by have := hr j hj; omega⟩⟩
def labAt (xs f : List Int) (m g : Int) (e : Nat) : Bool := decide (f.getD e 0 ≤ m) && decide (leN xs f e g e ≤ f.getD e 0)
/-- are the numbers labels up to m, each by g greater than those of the elements that are less? -/
def labB (xs f : List Int) (m g : Int) : Bool := decide (f.length = xs.length) && (List.range f.length).all (labAt xs f m g)
theorem labAt_iff {xs f : List Int} {m g : Int} {e : Nat} : labAt xs f m g e = true ↔ f.getD e 0 ≤ m ∧ leN xs f e g e ≤ f.getD e 0 := by simp [labAt]
theorem labAt_rng {xs f : List Int} {m g : Int} {e : Nat} (h : labAt xs f m g e = true) (m1 : m ≤ 12) : 0 ≤ f.getD e 0 ∧ f.getD e 0 ≤ 12 := by
  obtain ⟨h1, h2⟩ := labAt_iff.1 h
  have := leN_zero_le xs f e g e
  omega
theorem labB_len {xs f : List Int} {m g : Int} (h : f.length ≠ xs.length) : labB xs f m g = false := by simp [labB, h]
theorem labB_no {xs f : List Int} {m g : Int} {e : Nat} (he : e < f.length) (h : labAt xs f m g e = false) : labB xs f m g = false := by
  cases hc : labB xs f m g
  · rfl
  · simp only [labB, Bool.and_eq_true] at hc
    have := List.all_eq_true.1 hc.2 e (List.mem_range.2 he)
    rw [h] at this; cases this
theorem labB_yes {xs f : List Int} {m g : Int} (hl : f.length = xs.length) (h : ∀ e, e < f.length → labAt xs f m g e = true) : labB xs f m g = true := by
  simp only [labB, Bool.and_eq_true, decide_eq_true_eq]
  exact ⟨hl, List.all_eq_true.2 fun e he => h e (List.mem_range.1 he)⟩
theorem labB_all {xs f : List Int} {m g : Int} (h : labB xs f m g = true) : f.length = xs.length ∧ ∀ e, e < f.length → labAt xs f m g e = true := by
  simp only [labB, Bool.and_eq_true, decide_eq_true_eq] at h
  exact ⟨h.1, fun e he => List.all_eq_true.1 h.2 e (List.mem_range.2 he)⟩
/-- is m a bound of labels? -/
def bdB (m : Int) : Bool := decide (0 ≤ m) && decide (m ≤ 12)
theorem bdB_all {m : Int} (h : bdB m = true) : 0 ≤ m ∧ m ≤ 12 := by simpa [bdB] using h
def okBd (xs : List Int) (m : Int) : Bool := good xs && bdB m
theorem okBd_no1 {xs : List Int} {m : Int} (h : good xs = false) : okBd xs m = false := by simp [okBd, h]
theorem okBd_no2 {xs : List Int} {m : Int} (h : bdB m = false) : okBd xs m = false := by simp [okBd, h]
theorem okBd_yes {xs : List Int} {m : Int} (h : good xs = true) (k : bdB m = true) : okBd xs m = true := by simp [okBd, h, k]
theorem okBd_all {xs : List Int} {m : Int} (h : okBd xs m = true) : good xs = true ∧ 0 ≤ m ∧ m ≤ 12 := by
  simp only [okBd, Bool.and_eq_true] at h
  exact ⟨h.1, bdB_all h.2⟩
/-- is f a list of labels for m? -/
def okLab (xs f : List Int) (m g : Int) : Bool := okBd xs m && labB xs f m g
theorem okLab_no1 {xs f : List Int} {m g : Int} (h : okBd xs m = false) : okLab xs f m g = false := by simp [okLab, h]
theorem okLab_yes {xs f : List Int} {m g : Int} (h : okBd xs m = true) : okLab xs f m g = labB xs f m g := by simp [okLab, h]
theorem okLab_all {xs f : List Int} {m g : Int} (h : okLab xs f m g = true) : good xs = true ∧ 0 ≤ m ∧ m ≤ 12 ∧ f.length = xs.length ∧ ∀ e, e < f.length → labAt xs f m g e = true := by
  simp only [okLab, Bool.and_eq_true] at h
  have h1 := okBd_all h.1
  have h2 := labB_all h.2
  exact ⟨h1.1, h1.2.1, h1.2.2, h2.1, h2.2⟩

end Go.Proofs.Ytnlehkjfidpdlaa
