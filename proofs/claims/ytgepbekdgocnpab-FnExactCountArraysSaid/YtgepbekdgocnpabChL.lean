/- Chains of ideals, counted along the list of all ideals. No program is named here. -/
import Derived.Test.YtgepbekdgocnpabChn
import Derived.Test.YtgepbekdgocnpabIdeals
import Derived.Test.YtgepbekdgocnpabWhere
namespace Go.Proofs.Ytgepbekdgocnpab
set_option linter.unusedVariables false

theorem sumR_list (G : Nat → Nat) (l : List Nat) : sumR (fun j => G (l.getD j 0)) l.length = (l.map G).sum := by
  induction l with
  | nil => rfl
  | cons a l ih => rw [List.length_cons, sumR_front]; simp only [List.getD_cons_zero, List.getD_cons_succ, List.map_cons, List.sum_cons]; rw [ih]
theorem sum_filter (G : Nat → Nat) (p : Nat → Bool) (n : Nat) : (((List.range n).filter p).map G).sum = sumR (fun s => if p s then G s else 0) n := by
  induction n with
  | zero => rfl
  | succ n ih =>
    rw [List.range_succ, List.filter_append, List.map_append, List.sum_append, ih, sumR]
    congr 1
    cases h : p n <;> simp [h]
/-- the ideals as numbers, in order -/
def idN (xs : List Int) : List Nat := (List.range (2 ^ xs.length)).filter (holdsIdeal xs)
def idA (xs : List Int) (i : Nat) : Nat := (idN xs).getD i 0
theorem idN_sets (xs : List Int) : setsL (holdsIdeal xs) (2 ^ xs.length) = (idN xs).map (fun s : Nat => (s : Int)) := rfl
theorem idN_len (xs : List Int) : (setsL (holdsIdeal xs) (2 ^ xs.length)).length = (idN xs).length := by rw [idN_sets, List.length_map]
theorem idN_getD {xs : List Int} {i : Nat} (h : i < (idN xs).length) : (setsL (holdsIdeal xs) (2 ^ xs.length)).getD i 0 = (idA xs i : Int) := by
  rw [idN_sets]; simp [idA, List.getD, h]
theorem idA_mem {xs : List Int} {i : Nat} (h : i < (idN xs).length) : idA xs i < 2 ^ xs.length ∧ holdsIdeal xs (idA xs i) = true := by
  have e : idA xs i = (idN xs)[i] := by simp [idA, List.getD, h]
  have := List.mem_filter.1 (List.getElem_mem h : (idN xs)[i] ∈ idN xs)
  rw [e]
  exact ⟨List.mem_range.1 this.1, this.2⟩
theorem idA_lt {xs : List Int} {i j : Nat} (hij : i < j) (hj : j < (idN xs).length) : idA xs i < idA xs j := by
  have hp : (idN xs).Pairwise (· < ·) := List.Pairwise.filter _ List.pairwise_lt_range
  have := List.pairwise_iff_getElem.1 hp i j (by omega) hj hij
  simpa [idA, List.getD, hj, show i < (idN xs).length by omega] using this
theorem idA_le {xs : List Int} {i j : Nat} (hij : i ≤ j) (hj : j < (idN xs).length) : idA xs i ≤ idA xs j := by
  rcases Nat.lt_or_eq_of_le hij with h | h
  · exact Nat.le_of_lt (idA_lt h hj)
  · subst h; exact Nat.le_refl _
theorem idA_has {xs : List Int} {s : Nat} (h1 : s < 2 ^ xs.length) (h2 : holdsIdeal xs s = true) : ∃ i, i < (idN xs).length ∧ idA xs i = s := by
  have hm : s ∈ idN xs := List.mem_filter.2 ⟨List.mem_range.2 h1, h2⟩
  obtain ⟨i, hi, e⟩ := List.mem_iff_getElem.1 hm
  exact ⟨i, hi, by simp [idA, List.getD, hi, e]⟩
theorem ideal_zero (xs : List Int) : holdsIdeal xs 0 = true := by
  rw [holdsIdeal_iff]; intro e _ h; simp at h
theorem full_testBit (n i : Nat) : (2 ^ n - 1).testBit i = decide (i < n) := Nat.testBit_two_pow_sub_one n i
theorem ideal_full {xs : List Int} (hg : good xs = true) : holdsIdeal xs (2 ^ xs.length - 1) = true := by
  rw [holdsIdeal_iff]
  intro e he _
  rw [sub_eq_zero]
  intro i hi
  rw [full_testBit, decide_eq_true_iff]
  have h1 := okAt_range (good_at hg he)
  have h2 : (xs.getD e 0).toNat < 2 ^ e := by have := Nat.one_le_two_pow (n := e); omega
  have := testBit_lt h2 hi
  omega
theorem idN_pos (xs : List Int) : 0 < (idN xs).length := by
  obtain ⟨i, hi, -⟩ := idA_has (xs := xs) (s := 0) (Nat.two_pow_pos _) (ideal_zero xs)
  omega
theorem idA_zero (xs : List Int) : idA xs 0 = 0 := by
  obtain ⟨i, hi, e⟩ := idA_has (xs := xs) (s := 0) (Nat.two_pow_pos _) (ideal_zero xs)
  have := idA_le (xs := xs) (Nat.zero_le i) hi
  omega
theorem idA_last {xs : List Int} (hg : good xs = true) : idA xs ((idN xs).length - 1) = 2 ^ xs.length - 1 := by
  have hp := Nat.two_pow_pos xs.length
  obtain ⟨i, hi, e⟩ := idA_has (xs := xs) (s := 2 ^ xs.length - 1) (by omega) (ideal_full hg)
  have h1 := idA_le (xs := xs) (show i ≤ (idN xs).length - 1 by omega) (by omega)
  have h2 := (idA_mem (xs := xs) (i := (idN xs).length - 1) (by omega)).1
  omega
theorem idN_le {xs : List Int} (hg : good xs = true) : (idN xs).length ≤ 1024 := by
  rw [← idN_len]
  exact Nat.le_trans (setsL_length _ _) (two_pow_le _ (good_length hg).2).2
/-- a step from an ideal to an ideal -/
def onId (xs : List Int) (st : Nat → Nat → Bool) (s t : Nat) : Bool := holdsIdeal xs s && holdsIdeal xs t && st s t
/-- sums along the list of the ideals -/
theorem sum_ideals (xs : List Int) (G : Nat → Nat) : sumR (fun i => G (idA xs i)) (idN xs).length = sumR (fun s => if holdsIdeal xs s then G s else 0) (2 ^ xs.length) := by
  show sumR (fun i => G ((idN xs).getD i 0)) (idN xs).length = _
  rw [sumR_list, idN, sum_filter]
theorem sumR_more {f : Nat → Nat} {a b : Nat} (hab : a ≤ b) (h : ∀ i, a ≤ i → i < b → f i = 0) : sumR f b = sumR f a := by
  induction b with
  | zero => have : a = 0 := by omega
            subst this; rfl
  | succ b ih =>
    rcases Nat.lt_or_eq_of_le hab with h1 | h1
    · rw [sumR, ih (by omega) (fun i h2 h3 => h i h2 (by omega)), h b (by omega) (by omega)]; omega
    · subst h1; rfl
/-- one more step, along the list -/
theorem chN_list {xs : List Int} {st : Nat → Nat → Bool} (hle : ∀ s t, st s t = true → s ≤ t) (k : Nat) {i : Nat} (hi : i < (idN xs).length) :
    chN (onId xs st) (2 ^ xs.length) (k + 1) (idA xs i) = sumR (fun j => if st (idA xs j) (idA xs i) then chN (onId xs st) (2 ^ xs.length) k (idA xs j) else 0) (i + 1) := by
  have h1 := idA_mem hi
  rw [← sumR_more (a := i + 1) (b := (idN xs).length) (by omega) (fun j h2 h3 => by
    cases hc : st (idA xs j) (idA xs i)
    · rfl
    · have := hle _ _ hc
      have := idA_lt (xs := xs) (show i < j by omega) h3
      omega)]
  show sumR (fun s => if onId xs st s (idA xs i) then chN (onId xs st) (2 ^ xs.length) k s else 0) (2 ^ xs.length) = _
  rw [sum_ideals xs (fun s => if st s (idA xs i) then chN (onId xs st) (2 ^ xs.length) k s else 0)]
  refine sumR_congr fun s _ => ?_
  unfold onId
  rw [h1.2]
  cases holdsIdeal xs s <;> simp
theorem chN_all {xs : List Int} {st : Nat → Nat → Bool} (k t : Nat) (h : holdsIdeal xs t = true) :
    chN (onId xs st) (2 ^ xs.length) (k + 1) t = sumR (fun j => if st (idA xs j) t then chN (onId xs st) (2 ^ xs.length) k (idA xs j) else 0) (idN xs).length := by
  show sumR (fun s => if onId xs st s t then chN (onId xs st) (2 ^ xs.length) k s else 0) (2 ^ xs.length) = _
  rw [sum_ideals xs (fun s => if st s t then chN (onId xs st) (2 ^ xs.length) k s else 0)]
  refine sumR_congr fun s _ => ?_
  unfold onId
  rw [h]
  cases holdsIdeal xs s <;> simp
theorem chN_out {xs : List Int} {st : Nat → Nat → Bool} (k t : Nat) (h : holdsIdeal xs t = false) : chN (onId xs st) (2 ^ xs.length) k t = 0 := by
  cases k with
  | zero =>
    unfold chN
    rw [if_neg]
    intro e; subst e; rw [ideal_zero] at h; cases h
  | succ k =>
    show sumR _ _ = 0
    rw [sumR_congr (g := fun _ => 0) (fun s _ => by unfold onId; rw [h]; simp), sumR_zero]
/-! ### the two kinds of steps -/
def wk (s t : Nat) : Bool := sub s t == 0
def stk (xs : List Int) (s t : Nat) : Bool := sub s t == 0 && holdsAntichain xs (sub t s)
def prop (xs : List Int) (s t : Nat) : Bool := decide (s ≠ t) && stk xs s t
theorem part_le {s t : Nat} (h : sub s t = 0) : s ≤ t := by
  apply Nat.le_of_testBit
  exact (sub_eq_zero s t).1 h
theorem wk_le (s t : Nat) (h : wk s t = true) : s ≤ t := part_le (by simpa [wk] using h)
theorem stk_le (xs : List Int) (s t : Nat) (h : stk xs s t = true) : s ≤ t := part_le (by simp only [stk, Bool.and_eq_true, beq_iff_eq] at h; exact h.1)
theorem prop_le (xs : List Int) (s t : Nat) (h : prop xs s t = true) : s ≤ t := by
  simp only [prop, Bool.and_eq_true] at h; exact stk_le xs s t h.2
theorem sub_self_ (s : Nat) : sub s s = 0 := by simp [sub]
theorem anti_zero (xs : List Int) : holdsAntichain xs 0 = true := by simp [holdsAntichain]
theorem stk_self (xs : List Int) (s : Nat) : stk xs s s = true := by unfold stk; rw [sub_self_, anti_zero]; rfl
def stpB (xs : List Int) (strict : Bool) (s t : Nat) : Bool := if strict then stk xs s t else wk s t
theorem stpB_part {xs : List Int} {b : Bool} {s t : Nat} (h : stpB xs b s t = true) : sub s t = 0 := by
  unfold stpB at h
  cases b
  · simpa [wk] using h
  · simp only [if_true, stk, Bool.and_eq_true, beq_iff_eq] at h; exact h.1
def cnt (xs : List Int) (b : Bool) (k t : Nat) : Nat := chN (onId xs (stpB xs b)) (2 ^ xs.length) k t
theorem cnt_small {xs : List Int} (hg : good xs = true) {b : Bool} {k t : Nat} (hk : k ≤ 13) (ht : t < 2 ^ xs.length) : cnt xs b k t ≤ 137858491849 :=
  chN_small (good_length hg).2 (fun s t h => by unfold onId at h; simp only [Bool.and_eq_true] at h; exact stpB_part h.2) hk ht
/-- chains that never stand still -/
def prp (xs : List Int) (k t : Nat) : Nat := chN (onId xs (prop xs)) (2 ^ xs.length) k t
theorem prp_small {xs : List Int} (hg : good xs = true) {k t : Nat} (hk : k ≤ 13) (ht : t < 2 ^ xs.length) : prp xs k t ≤ 137858491849 :=
  chN_small (good_length hg).2 (fun s t h => by unfold onId at h; simp only [Bool.and_eq_true] at h; have h2 := h.2; simp only [prop, stk, Bool.and_eq_true, beq_iff_eq] at h2; exact h2.2.1) hk ht
theorem onOk_prop (xs : List Int) : onOk (onId xs (stpB xs true)) = onId xs (prop xs) := by
  funext s t
  unfold onOk onId prop stpB
  simp only [if_true]
  cases decide (s ≠ t) <;> cases holdsIdeal xs s <;> cases holdsIdeal xs t <;> rfl
/-- strict labels by the proper steps -/
theorem cnt_bin {xs : List Int} (hg : good xs = true) (k : Nat) {t : Nat} (ht : t < 2 ^ xs.length) (hi : holdsIdeal xs t = true) : cnt xs true k t = sumR (fun j => binN k j * prp xs j t) (k + 1) := by
  have h := chN_bin (ok := onId xs (stpB xs true)) (N := 2 ^ xs.length) (fun u hu ⟨s, hs, h⟩ => by
    unfold onId at h ⊢
    simp only [Bool.and_eq_true] at h ⊢
    exact ⟨⟨h.1.2, h.1.2⟩, by show (if true then stk xs u u else wk u u) = true; rw [if_pos rfl]; exact stk_self xs u⟩) (.inr (by
    unfold onId; rw [ideal_zero]; show (if true then stk xs 0 0 else wk 0 0) = true; rw [if_pos rfl]; exact stk_self xs 0)) k t ht (.inr (by
    unfold onId; rw [hi]; show (if true then stk xs t t else wk t t) = true; rw [if_pos rfl]; exact stk_self xs t))
  rw [onOk_prop] at h
  exact h
end Go.Proofs.Ytgepbekdgocnpab
