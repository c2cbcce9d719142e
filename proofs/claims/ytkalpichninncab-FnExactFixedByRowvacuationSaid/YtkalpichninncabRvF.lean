/- Ideals that rowvacuation leaves: the mathematics. -/
import Derived.Test.YtkalpichninncabRvG
import Derived.Test.YtkalpichninncabIdeals
namespace Go.Proofs.Ytkalpichninncab
open Go.RowKit Go.WideShapes Go.ChangeShapes
set_option linter.unusedVariables false

theorem tog_far (xs : List Int) (s e f : Nat) (h : f ≠ e) : (tog xs s e).testBit f = s.testBit f := by
  unfold tog
  split
  · rw [xor_bit, if_neg h]
  · rfl
theorem togW_far (xs : List Int) (f : Nat) : ∀ (ys : List Int) (s : Nat), (∀ y ∈ ys, y.toNat ≠ f) → (togW xs s ys).testBit f = s.testBit f
  | [], s, _ => rfl
  | y :: t, s, h => by
    show (togW xs (tog xs s y.toNat) t).testBit f = _
    rw [togW_far xs f t _ fun z hz => h z (List.mem_cons_of_mem _ hz)]
    exact tog_far xs s _ f fun e => h y (by simp) e.symm
/-- the ideal behind the first k sweeps of rowvacuation -/
def vcK (xs : List Int) (h s k : Nat) : Nat := togW xs s (rkW (rankL xs) (swL (fVac h) k))
theorem vcK_zero (xs : List Int) (h s : Nat) : vcK xs h s 0 = s := rfl
theorem vcK_succ (xs : List Int) (h s k : Nat) : vcK xs h s (k + 1) = togW xs (vcK xs h s k) (rkW (rankL xs) (fVac h k)) := by
  unfold vcK
  rw [swL_succ, rkW_append, togW_app]
theorem vcK_lt {xs : List Int} (hg : good xs = true) {h s k : Nat} (hh : rkN xs = h + 1) (hs : s < 2 ^ xs.length) : vcK xs h s k < 2 ^ xs.length :=
  togW_lt hs (inW_rkW hg (inW_flat fun k _ => inW_fsL (by omega)))
theorem fsL_mem {a b : Nat} (y : Int) : y ∈ fsL a b ↔ ∃ i : Nat, y = i ∧ b ≤ i ∧ i ≤ a := by
  unfold fsL
  rw [List.mem_map]
  constructor
  · rintro ⟨j, hj, rfl⟩
    rw [List.mem_range] at hj
    exact ⟨a - j, rfl, by omega, by omega⟩
  · rintro ⟨i, rfl, h1, h2⟩
    exact ⟨a - i, List.mem_range.2 (by omega), by congr 1; omega⟩
/-- an element of rank j stays as it is in the sweeps behind the sweep j -/
theorem vcK_stay {xs : List Int} {h s k f : Nat} (hh : rkN xs = h + 1) (hk : ((heightsL xs).getD f 0).toNat < k) : (vcK xs h s (k + 1)).testBit f = (vcK xs h s k).testBit f := by
  rw [vcK_succ]
  refine togW_far xs f _ _ fun y hy e => ?_
  obtain ⟨g, rfl, _, _, h4⟩ := (rkW_mem (inW_fsL (by omega)) y).1 hy
  obtain ⟨i, h5, h6, _⟩ := (fsL_mem _).1 h4
  rw [Int.toNat_natCast] at e
  subst e
  omega
theorem vcK_stays {xs : List Int} {h s f : Nat} (hh : rkN xs = h + 1) : ∀ d k, ((heightsL xs).getD f 0).toNat < k → (vcK xs h s (k + d)).testBit f = (vcK xs h s k).testBit f
  | 0, k, _ => rfl
  | d + 1, k, hk => by rw [← Nat.add_assoc, vcK_stay hh (by omega), vcK_stays hh d k hk]
/-- what is wrong in the rank k behind the sweep k -/
def wrK (xs : List Int) (h s k : Nat) : Nat := (vcK xs h s (k + 1) ^^^ s) &&& rkE (heightsL xs) xs.length k
/-- is the ideal left? (the model's test) -/
def vFix (xs : List Int) (h s : Nat) : Bool := vcK xs h s (h + 1) == s
theorem vFix_yes {xs : List Int} (hg : good xs = true) {h s : Nat} (hh : rkN xs = h + 1) (hs : s < 2 ^ xs.length) (hw : ∀ k, k < h + 1 → wrK xs h s k = 0) : vFix xs h s = true := by
  unfold vFix
  rw [beq_iff_eq]
  apply Nat.eq_of_testBit_eq
  intro f
  by_cases hf : f < xs.length
  · have hr : ((heightsL xs).getD f 0).toNat < h + 1 := by rw [← hh]; exact rkM_lt _ hf
    obtain ⟨i, hi⟩ : ∃ i, ((heightsL xs).getD f 0).toNat = i := ⟨_, rfl⟩
    rw [hi] at hr
    have h1 := vcK_stays (xs := xs) (h := h) (s := s) (f := f) hh (h - i) (i + 1) (by omega)
    rw [show i + 1 + (h - i) = h + 1 by omega] at h1
    rw [h1]
    have h2 := congrArg (fun x => x.testBit f) (hw i hr)
    have h3 : (rkE (heightsL xs) xs.length i).testBit f = true := (rkE_bit _ _ _ _).2 ⟨hf, hi⟩
    simp only [wrK, Nat.testBit_and, Nat.testBit_xor, Nat.zero_testBit, h3, Bool.and_true] at h2
    cases ha : (vcK xs h s (i + 1)).testBit f <;> cases hb : s.testBit f <;> simp [ha, hb] at h2 ⊢
  · have h1 : (vcK xs h s (h + 1)).testBit f = false := by
      rw [Bool.eq_false_iff]; intro hb; exact hf (testBit_lt (vcK_lt hg hh hs) hb)
    have h2 : s.testBit f = false := by
      rw [Bool.eq_false_iff]; intro hb; exact hf (testBit_lt hs hb)
    rw [h1, h2]
theorem vFix_no {xs : List Int} {h s k : Nat} (hh : rkN xs = h + 1) (hk : k < h + 1) (hw : wrK xs h s k ≠ 0) : vFix xs h s = false := by
  rw [Bool.eq_false_iff]
  intro hc
  unfold vFix at hc
  rw [beq_iff_eq] at hc
  apply hw
  apply Nat.eq_of_testBit_eq
  intro f
  rw [Nat.zero_testBit]
  unfold wrK
  rw [Nat.testBit_and, Nat.testBit_xor]
  cases hb : (rkE (heightsL xs) xs.length k).testBit f
  · rw [Bool.and_false]
  · obtain ⟨h1, h2⟩ := (rkE_bit _ _ _ _).1 hb
    have h3 := vcK_stays (xs := xs) (h := h) (s := s) (f := f) hh (h - k) (k + 1) (by omega)
    rw [show k + 1 + (h - k) = h + 1 by omega, hc] at h3
    rw [← h3]
    simp
/-- the ideals that are left, of a list's first ones -/
def fxL (xs : List Int) (h : Nat) (is : List Int) : List Int := is.filter fun s => vFix xs h s.toNat
theorem fxL_yes {xs : List Int} {h : Nat} {is : List Int} {k s : Nat} (hk : k < is.length) (e : is.getD k 0 = (s : Int)) (hf : vFix xs h s = true) : fxL xs h (is.take (k + 1)) = fxL xs h (is.take k) ++ [(s : Int)] := by
  have : is.take (k + 1) = is.take k ++ [(s : Int)] := by rw [List.take_succ_eq_append_getElem hk, ← e]; simp [List.getD, hk]
  unfold fxL
  rw [this, List.filter_append]
  simp [hf]
theorem fxL_no {xs : List Int} {h : Nat} {is : List Int} {k s : Nat} (hk : k < is.length) (e : is.getD k 0 = (s : Int)) (hf : vFix xs h s = false) : fxL xs h (is.take (k + 1)) = fxL xs h (is.take k) := by
  have : is.take (k + 1) = is.take k ++ [(s : Int)] := by rw [List.take_succ_eq_append_getElem hk, ← e]; simp [List.getD, hk]
  unfold fxL
  rw [this, List.filter_append]
  simp [hf]
theorem fxL_length (xs : List Int) (h : Nat) (is : List Int) (k : Nat) : (fxL xs h (is.take k)).length ≤ k := by
  unfold fxL
  exact Nat.le_trans (List.length_filter_le _ _) (by rw [List.length_take]; exact Nat.min_le_left _ _)
end Go.Proofs.Ytkalpichninncab
