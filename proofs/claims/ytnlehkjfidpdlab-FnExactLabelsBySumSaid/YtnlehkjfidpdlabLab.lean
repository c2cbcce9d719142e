/- Labels of a poset: what they are, in the program and in the model. -/
import Derived.Test.YtnlehkjfidpdlabTg
import Derived.Test.YtnlehkjfidpdlabHeights
namespace Go.Proofs.Ytnlehkjfidpdlab
open Go.RowKit Go.WideShapes Go.ChangeShapes
set_option linter.unusedVariables false

/-- the least label of e by the first k elements -/
def leN (xs f : List Int) (e : Nat) (g : Int) : Nat → Int
  | 0 => 0
  | k + 1 => if (xs.getD e 0).toNat.testBit k then max (leN xs f e g k) (f.getD k 0 + g) else leN xs f e g k
theorem leN_le {xs f : List Int} {e : Nat} {g : Int} {k : Nat} {x : Int} : leN xs f e g k ≤ x ↔ 0 ≤ x ∧ ∀ j, j < k → (xs.getD e 0).toNat.testBit j = true → f.getD j 0 + g ≤ x := by
  induction k with
  | zero => simp [leN]
  | succ k ih =>
    rw [leN]
    by_cases hb : (xs.getD e 0).toNat.testBit k = true
    · rw [if_pos hb, Int.max_le, ih]
      constructor
      · rintro ⟨⟨h1, h2⟩, h3⟩
        refine ⟨h1, fun j hj hbj => ?_⟩
        by_cases e : j = k
        · subst e; exact h3
        · exact h2 j (by omega) hbj
      · rintro ⟨h1, h2⟩
        exact ⟨⟨h1, fun j hj => h2 j (by omega)⟩, h2 k (by omega) hb⟩
    · rw [if_neg hb, ih]
      constructor
      · rintro ⟨h1, h2⟩
        refine ⟨h1, fun j hj hbj => ?_⟩
        by_cases e : j = k
        · subst e; exact absurd hbj hb
        · exact h2 j (by omega) hbj
      · rintro ⟨h1, h2⟩
        exact ⟨h1, fun j hj => h2 j (by omega)⟩
theorem leN_zero_le (xs f : List Int) (e : Nat) (g : Int) (k : Nat) : 0 ≤ leN xs f e g k := (leN_le.1 (Int.le_refl _)).1
theorem leN_rng {xs f : List Int} {e : Nat} {g : Int} {k : Nat} (hr : ∀ j, j < k → 0 ≤ f.getD j 0 ∧ f.getD j 0 ≤ 12) (g0 : 0 ≤ g) (g1 : g ≤ 1) : 0 ≤ leN xs f e g k ∧ leN xs f e g k ≤ 13 :=
  ⟨leN_zero_le _ _ _ _ _, leN_le.2 ⟨by omega, fun j hj _ => by have := hr j hj; omega⟩⟩
def labAt (xs f : List Int) (m g : Int) (e : Nat) : Bool := decide (f.getD e 0 ≤ m) && decide (leN xs f e g e ≤ f.getD e 0)
/-- are the numbers labels up to m, each by g greater than those of the elements that are less? -/
def labB (xs f : List Int) (m g : Int) : Bool := decide (f.length = xs.length) && (List.range f.length).all (labAt xs f m g)
theorem labAt_iff {xs f : List Int} {m g : Int} {e : Nat} : labAt xs f m g e = true ↔ f.getD e 0 ≤ m ∧ leN xs f e g e ≤ f.getD e 0 := by simp [labAt]
theorem labAt_rng {xs f : List Int} {m g : Int} {e : Nat} (h : labAt xs f m g e = true) (m1 : m ≤ 12) : 0 ≤ f.getD e 0 ∧ f.getD e 0 ≤ 12 := by
  obtain ⟨h1, h2⟩ := labAt_iff.1 h
  have := leN_zero_le xs f e g e
  omega
theorem labB_len {xs f : List Int} {m g : Int} (h : f.length ≠ xs.length) : labB xs f m g = false := by simp [labB, h]
theorem labB_no {xs f : List Int} {m g : Int} {e : Nat} (he : e < f.length) (h : labAt xs f m g e = false) : labB xs f m g = false := by
  cases hc : labB xs f m g
  · rfl
  · simp only [labB, Bool.and_eq_true] at hc
    have := List.all_eq_true.1 hc.2 e (List.mem_range.2 he)
    rw [h] at this; cases this
theorem labB_yes {xs f : List Int} {m g : Int} (hl : f.length = xs.length) (h : ∀ e, e < f.length → labAt xs f m g e = true) : labB xs f m g = true := by
  simp only [labB, Bool.and_eq_true, decide_eq_true_eq]
  exact ⟨hl, List.all_eq_true.2 fun e he => h e (List.mem_range.1 he)⟩
theorem labB_all {xs f : List Int} {m g : Int} (h : labB xs f m g = true) : f.length = xs.length ∧ ∀ e, e < f.length → labAt xs f m g e = true := by
  simp only [labB, Bool.and_eq_true, decide_eq_true_eq] at h
  exact ⟨h.1, fun e he => List.all_eq_true.1 h.2 e (List.mem_range.2 he)⟩
/-- is m a bound of labels? -/
def bdB (m : Int) : Bool := decide (0 ≤ m) && decide (m ≤ 12)
theorem bdB_all {m : Int} (h : bdB m = true) : 0 ≤ m ∧ m ≤ 12 := by simpa [bdB] using h
def okBd (xs : List Int) (m : Int) : Bool := good xs && bdB m
theorem okBd_no1 {xs : List Int} {m : Int} (h : good xs = false) : okBd xs m = false := by simp [okBd, h]
theorem okBd_no2 {xs : List Int} {m : Int} (h : bdB m = false) : okBd xs m = false := by simp [okBd, h]
theorem okBd_yes {xs : List Int} {m : Int} (h : good xs = true) (k : bdB m = true) : okBd xs m = true := by simp [okBd, h, k]
theorem okBd_all {xs : List Int} {m : Int} (h : okBd xs m = true) : good xs = true ∧ 0 ≤ m ∧ m ≤ 12 := by
  simp only [okBd, Bool.and_eq_true] at h
  exact ⟨h.1, bdB_all h.2⟩
/-- is f a list of labels for m? -/
def okLab (xs f : List Int) (m g : Int) : Bool := okBd xs m && labB xs f m g
theorem okLab_no1 {xs f : List Int} {m g : Int} (h : okBd xs m = false) : okLab xs f m g = false := by simp [okLab, h]
theorem okLab_yes {xs f : List Int} {m g : Int} (h : okBd xs m = true) : okLab xs f m g = labB xs f m g := by simp [okLab, h]
theorem okLab_all {xs f : List Int} {m g : Int} (h : okLab xs f m g = true) : good xs = true ∧ 0 ≤ m ∧ m ≤ 12 ∧ f.length = xs.length ∧ ∀ e, e < f.length → labAt xs f m g e = true := by
  simp only [okLab, Bool.and_eq_true] at h
  have h1 := okBd_all h.1
  have h2 := labB_all h.2
  exact ⟨h1.1, h1.2.1, h1.2.2, h2.1, h2.2⟩

theorem isBound_any (m : Int) (w : World) : Calls Try.prog 98 #[.int .i64 m] w fun r w' => r = .returned (.bool (bdB m)) ∧ w = w' := by
  go_enter Try.func98, Try.ntmps98
  go_wp2
  all_goals go_ret
  all_goals exact ⟨ret_bool (by simp [bdB] <;> omega), rfl⟩
theorem laBound_any (m : Int) (w : World) : Calls Try.prog 44 #[.int .i64 m] w fun r w' => r = .returned (.bool (bdB m)) ∧ w = w' := by
  go_enter Try.func44, Try.ntmps44
  go_wp2_with (go_at_call 57; refine (l1In_any _ _ _ _).mono ?_; rintro e w' ⟨rfl, rfl⟩)
  go_ret
  exact ⟨rfl, rfl⟩
theorem hasBound_any (v : Value) (xs : List Int) (m : Int) (w : World) (hv : Ints w v xs) (hl : xs.length ≤ 1048576) :
    Calls Try.prog 78 #[.agg #[v], .int .i64 m] w fun r w' => r = .returned (.bool (okBd xs m)) ∧ Below w.heap.size w w' := by
  have HV := hid hv
  clear hv
  cases hg : good xs
  · have HG := hid hg
    have HO := hid (okBd_no1 (m := m) hg)
    clear hg
    go_enter Try.func78, Try.ntmps78
    have HB := hid (below_alloc (Below.refl _ w) (.cells #[v] 35))
    have A0 := hid (At.newAt w v 35 w.heap.size (by simp))
    go_wp2_with fail
    refine (implIsPoset_any _ xs _ (HV.out.below HB.out) hl).mono ?_
    rw [HG.out]
    rintro e w' ⟨rfl, hb⟩
    replace HB := hid (below_to HB.out hb)
    replace A0 := hid (A0.out.below hb)
    clear hb
    have ebox0 := A0.out.1
    go_wp2
    go_ret
    exact ⟨ret_bool HO.out.symm, HB.out⟩
  · have HG := hid hg
    have HO : Hid (okBd xs m = bdB m) := hid (by simp [okBd, hg])
    clear hg
    go_enter Try.func78, Try.ntmps78
    have HB := hid (below_alloc (Below.refl _ w) (.cells #[v] 35))
    have A0 := hid (At.newAt w v 35 w.heap.size (by simp))
    go_wp2_with fail
    refine (implIsPoset_any _ xs _ (HV.out.below HB.out) hl).mono ?_
    rw [HG.out]
    rintro e w' ⟨rfl, hb⟩
    replace HB := hid (below_to HB.out hb)
    replace A0 := hid (A0.out.below hb)
    clear hb
    go_wp2_with (go_at_call 98; refine (isBound_any m _).mono ?_; rintro e w' ⟨rfl, rfl⟩)
    go_ret
    exact ⟨ret_bool HO.out.symm, HB.out⟩
end Go.Proofs.Ytnlehkjfidpdlab
