/- Slides: the empty place goes right and down, and what is behind it. No program is named here. -/
import Derived.Test.YtbbkoagjplapkaaClo
namespace Go.Proofs.Ytbbkoagjplapkaa
set_option linter.unusedVariables false

/-- does the number below slide up? -/
def slB (a b : Nat) (F : Nat → Nat → Int) (r c : Nat) : Bool := decide (r + 1 < a) && (decide (c + 1 = b) || decide (F (r + 1) c < F r (c + 1)))
structure SlS where
  F : Nat → Nat → Int
  r : Nat
  c : Nat
def slS (a b : Nat) (s : SlS) : SlS := if slB a b s.F s.r s.c then ⟨updF s.F s.r s.c (s.F (s.r + 1) s.c), s.r + 1, s.c⟩ else ⟨updF s.F s.r s.c (s.F s.r (s.c + 1)), s.r, s.c + 1⟩
def slN (a b : Nat) (F : Nat → Nat → Int) : Nat → SlS
  | 0 => ⟨F, 0, 0⟩
  | k + 1 => slS a b (slN a b F k)
theorem slN_succ (a b : Nat) (F : Nat → Nat → Int) (k : Nat) : slN a b F (k + 1) = slS a b (slN a b F k) := rfl
structure SlOk (a b k : Nat) (s : SlS) (P : Int → Prop) : Prop where
  sum : s.r + s.c = k
  r : s.r < a
  c : s.c < b
  rng : ∀ i j, i < a → j < b → P (s.F i j)
theorem slN_ok {a b : Nat} {F : Nat → Nat → Int} {P : Int → Prop} (ha : 1 ≤ a) (hb : 1 ≤ b) (hF : ∀ i j, i < a → j < b → P (F i j)) (k : Nat) (hk : k ≤ a + b - 2) : SlOk a b k (slN a b F k) P := by
  induction k with
  | zero => exact ⟨rfl, ha, hb, hF⟩
  | succ k ih =>
    have h := ih (by omega)
    rw [slN_succ]
    obtain ⟨s, hs⟩ : ∃ s, slN a b F k = s := ⟨_, rfl⟩
    rw [hs] at h ⊢
    obtain ⟨h1, h2, h3, h4⟩ := h
    unfold slS
    cases hq : slB a b s.F s.r s.c
    · rw [if_neg (by decide)]
      have hc : s.c + 1 < b := by
        rcases Nat.lt_or_ge (s.c + 1) b with h | h
        · exact h
        · exfalso
          have e1 : s.c + 1 = b := by omega
          have e2 : s.r + 1 < a := by omega
          simp [slB, e1, e2] at hq
      refine ⟨by show s.r + (s.c + 1) = k + 1; omega, h2, hc, fun i j hi hj => ?_⟩
      show P (updF s.F s.r s.c (s.F s.r (s.c + 1)) i j)
      unfold updF
      split
      · exact h4 _ _ h2 hc
      · exact h4 _ _ hi hj
    · rw [if_pos rfl]
      simp only [slB, Bool.and_eq_true, decide_eq_true_eq] at hq
      refine ⟨by show s.r + 1 + s.c = k + 1; omega, hq.1, h3, fun i j hi hj => ?_⟩
      show P (updF s.F s.r s.c (s.F (s.r + 1) s.c) i j)
      unfold updF
      split
      · exact h4 _ _ hq.1 h3
      · exact h4 _ _ hi hj
theorem slN_last {a b : Nat} {F : Nat → Nat → Int} (ha : 1 ≤ a) (hb : 1 ≤ b) : (slN a b F (a + b - 2)).r = a - 1 ∧ (slN a b F (a + b - 2)).c = b - 1 := by
  have h := slN_ok (P := fun _ => True) ha hb (fun _ _ _ _ => trivial) (F := F) (a + b - 2) (Nat.le_refl _)
  have h1 := h.sum
  have h2 := h.r
  have h3 := h.c
  omega
theorem slB_less {a b : Nat} {F : Nat → Nat → Int} {r c : Nat} : slB a b (fun i j => F i j - 1) r c = slB a b F r c := by
  unfold slB
  congr 2
  by_cases h : F (r + 1) c < F r (c + 1)
  · rw [decide_eq_true h, decide_eq_true (show F (r + 1) c - 1 < F r (c + 1) - 1 by omega)]
  · rw [decide_eq_false h, decide_eq_false (show ¬ F (r + 1) c - 1 < F r (c + 1) - 1 by omega)]
theorem updF_less (F : Nat → Nat → Int) (r c : Nat) (x : Int) : updF (fun i j => F i j - 1) r c (x - 1) = fun i j => updF F r c x i j - 1 := by
  funext i j
  unfold updF
  split <;> rfl
theorem slN_less (a b : Nat) (F : Nat → Nat → Int) (k : Nat) : (slN a b (fun i j => F i j - 1) k).F = (fun i j => (slN a b F k).F i j - 1) ∧ (slN a b (fun i j => F i j - 1) k).r = (slN a b F k).r ∧ (slN a b (fun i j => F i j - 1) k).c = (slN a b F k).c := by
  induction k with
  | zero => exact ⟨rfl, rfl, rfl⟩
  | succ k ih =>
    rw [slN_succ, slN_succ]
    obtain ⟨⟨F1, r1, c1⟩, hs⟩ : ∃ s, slN a b (fun i j => F i j - 1) k = s := ⟨_, rfl⟩
    obtain ⟨⟨F2, r2, c2⟩, ht⟩ : ∃ s, slN a b F k = s := ⟨_, rfl⟩
    rw [hs, ht] at ih
    rw [hs, ht]
    obtain ⟨h1, h2, h3⟩ := ih
    simp only at h1 h2 h3
    subst h1; subst h2; subst h3
    unfold slS
    simp only
    rw [slB_less]
    cases hq : slB a b F2 r1 c1
    · rw [if_neg (by decide), if_neg (by decide)]
      exact ⟨updF_less _ _ _ _, rfl, rfl⟩
    · rw [if_pos rfl, if_pos rfl]
      exact ⟨updF_less _ _ _ _, rfl, rfl⟩
/-- the tableau behind promotion -/
def proT (a b : Nat) (F : Nat → Nat → Int) : List (List Int) := gridL a b (updF (fun i j => (slN a b F (a + b - 2)).F i j - 1) (a - 1) (b - 1) (((a * b : Nat) : Int) - 1))
def ansPT (ls : List (List Int)) : List (List Int) := if tabB ls then proT ls.length (wid ls) (cel ls) else []
theorem ansPT_no {ls : List (List Int)} (h : tabB ls = false) : ansPT ls = [] := by simp [ansPT, h]
theorem ansPT_yes {ls : List (List Int)} (h : tabB ls = true) : ansPT ls = proT ls.length (wid ls) (cel ls) := by simp [ansPT, h]
theorem ansPT_small (ls : List (List Int)) : SSmall (ansPT ls) := by
  cases h : tabB ls
  · rw [ansPT_no h]; exact nil_small
  · rw [ansPT_yes h]; have := (tabB_all h).1; exact gridL_small _ this.a2 this.b2
end Go.Proofs.Ytbbkoagjplapkaa
