/- Labels by their sums, along chains of ideals: what the program's lists tell. No walk. -/
import Derived.Test.YtnlehkjfidpdlabLbM
import Derived.Test.YtnlehkjfidpdlabLsT
import Derived.Test.YtnlehkjfidpdlabLsS
namespace Go.Proofs.Ytnlehkjfidpdlab
open Go.RowKit Go.WideShapes Go.ChangeShapes
set_option linter.unusedVariables false

theorem addL_getD (a b : List Int) (v : Nat) : (addL a b).getD v 0 = a.getD v 0 + b.getD v 0 := by
  unfold addL
  by_cases h : v < max a.length b.length
  · rw [mixA_getD h]
    by_cases q : v < b.length
    · rw [if_pos q]
    · rw [if_neg q, getD_out (a := b) (by omega)]
  · rw [getD_out (by rw [mixA_length]; omega), getD_out (a := a) (by omega), getD_out (a := b) (by omega)]; rfl
theorem totL_fold (F : Nat → List Int) (g : Nat → Nat) (v : Nat) (l : List Nat) (h : ∀ j, j ∈ l → (F j).getD v 0 = (g j : Int)) (acc : List Int) (a : Nat) (ha : acc.getD v 0 = (a : Int)) :
    ((l.map F).foldl addL acc).getD v 0 = ((a + (l.map g).sum : Nat) : Int) := by
  induction l generalizing acc a with
  | nil => simpa using ha
  | cons x l ih =>
    rw [List.map_cons, List.foldl_cons, List.map_cons, List.sum_cons]
    rw [ih (fun j hj => h j (List.mem_cons_of_mem _ hj)) (addL acc (F x)) (a + g x) (by rw [addL_getD, ha, h x (List.mem_cons_self)]; push_cast; rfl)]
    congr 1; omega
theorem totL_getD (F : Nat → List Int) (g : Nat → Nat) (v : Nat) (l : List Nat) (h : ∀ j, j ∈ l → (F j).getD v 0 = (g j : Int)) : (totL (l.map F)).getD v 0 = (((l.map g).sum : Nat) : Int) := by
  have := totL_fold F g v l h [] 0 (by simp)
  rw [Nat.zero_add] at this
  exact this
theorem fold_len_le (l : List (List Int)) (acc : List Int) (z : Nat) (ha : acc.length ≤ z) (h : ∀ x, x ∈ l → x.length ≤ z) : (l.foldl addL acc).length ≤ z := by
  induction l generalizing acc with
  | nil => exact ha
  | cons x l ih =>
    rw [List.foldl_cons]
    refine ih _ ?_ (fun y hy => h y (List.mem_cons_of_mem _ hy))
    rw [addL, mixA_length]
    have := h x (List.mem_cons_self)
    omega
theorem fold_len_acc (l : List (List Int)) (acc : List Int) : acc.length ≤ (l.foldl addL acc).length := by
  induction l generalizing acc with
  | nil => exact Nat.le_refl _
  | cons x l ih =>
    rw [List.foldl_cons]
    refine Nat.le_trans ?_ (ih _)
    rw [addL, mixA_length]; omega
theorem fold_len_ge (l : List (List Int)) (acc : List Int) (x : List Int) (hx : x ∈ l) : x.length ≤ (l.foldl addL acc).length := by
  induction l generalizing acc with
  | nil => cases hx
  | cons y l ih =>
    rw [List.foldl_cons]
    rcases List.mem_cons.1 hx with e | e
    · subst e
      refine Nat.le_trans ?_ (fold_len_acc l _)
      rw [addL, mixA_length]; omega
    · exact ih _ e
/-! ### what the shift is -/
/-- how many of the first n elements are outside -/
def outN (n t : Nat) : Nat := (List.range n).countP fun e => !t.testBit e
theorem outN_succ (n t : Nat) : outN (n + 1) t = outN n t + if t.testBit n then 0 else 1 := by
  unfold outN
  rw [List.range_succ, List.countP_append, List.countP_singleton]
  cases t.testBit n <;> simp
theorem outN_le (n t : Nat) : outN n t ≤ n := by
  unfold outN
  have := List.countP_le_length (p := fun e => !t.testBit e) (l := List.range n)
  rwa [List.length_range] at this
theorem outN_zero (n : Nat) : outN n 0 = n := by
  induction n with
  | zero => rfl
  | succ n ih => rw [outN_succ, ih]; simp
theorem outN_full (n : Nat) : ∀ k, k ≤ n → outN k (2 ^ n - 1) = 0 := by
  intro k
  induction k with
  | zero => intro _; rfl
  | succ k ih => intro hk; rw [outN_succ, ih (by omega), if_pos (by rw [Nat.testBit_two_pow_sub_one]; exact decide_eq_true (by omega))]
theorem range_sum (f : List Int) (n : Nat) (hn : n ≤ f.length) : ((List.range n).map fun e => f.getD e 0).sum = (f.take n).sum := by
  induction n with
  | zero => rfl
  | succ n ih =>
    rw [List.range_succ, List.map_append, List.sum_append, ih (by omega), takeSum_succ (by omega)]
    simp
theorem addO_part (f : List Int) (n t : Nat) : ((List.range n).map fun e => f.getD e 0 + (if t.testBit e then (0 : Int) else 1)).sum = ((List.range n).map fun e => f.getD e 0).sum + (outN n t : Int) := by
  induction n with
  | zero => rfl
  | succ n ih =>
    rw [List.range_succ, List.map_append, List.sum_append, ih, List.map_append, List.sum_append, outN_succ]
    simp only [List.map_cons, List.map_nil, List.sum_cons, List.sum_nil]
    generalize f.getD n 0 = y
    generalize (List.map (fun e => f.getD e 0) (List.range n)).sum = S
    cases t.testBit n
    · simp only [Bool.false_eq_true, if_false]; omega
    · simp only [if_true]; omega
theorem addO_sum {f : List Int} {n t : Nat} (hf : f.length = n) : (addO n t f).sum = f.sum + (outN n t : Int) := by
  unfold addO
  rw [addO_part, range_sum f n (by omega), ← hf, List.take_length]
/-! ### the lists -/
/-- how many labels that end with t have v as their sum -/
def cV (xs : List Int) (k t v : Nat) : Nat := (lc xs k t).countP fun f => decide (f.sum = (v : Int))
theorem lc_nonneg {xs : List Int} (hg : good xs = true) {k t : Nat} (ht : t < 2 ^ xs.length) {f : List Int} (h : f ∈ lc xs k t) : f.length = xs.length ∧ 0 ≤ f.sum := by
  obtain ⟨h1, -, h3, -, -⟩ := (lc_mem hg k t ht f).1 h
  refine ⟨h1, ?_⟩
  have := takeSum_rng (f := f) (m := k) (fun j hj => h3 j (by omega)) f.length (Nat.le_refl _)
  rw [List.take_length] at this
  exact this.1
theorem cV_zero (xs : List Int) (t v : Nat) : cV xs 0 t v = if t = 0 ∧ v = 0 then 1 else 0 := by
  unfold cV lc
  by_cases h : t = 0
  · rw [if_pos h]
    have e : (List.replicate xs.length (0 : Int)).sum = 0 := by
      generalize xs.length = n
      induction n with
      | zero => rfl
      | succ n ih => rw [List.replicate_succ, List.sum_cons, ih]; rfl
    rw [List.countP_singleton, e]
    by_cases q : v = 0
    · subst q; rw [if_pos (by simp), if_pos ⟨h, rfl⟩]
    · rw [if_neg (by simp; omega), if_neg (by omega)]
  · rw [if_neg h, if_neg (by omega)]; rfl
theorem cV_step {xs : List Int} (hg : good xs = true) {k s t v : Nat} (hs : s < 2 ^ xs.length) :
    ((lc xs k s).map (addO xs.length t)).countP (fun f => decide (f.sum = (v : Int))) = if v < outN xs.length t then 0 else cV xs k s (v - outN xs.length t) := by
  rw [List.countP_map]
  by_cases q : v < outN xs.length t
  · rw [if_pos q]
    apply List.countP_eq_zero.2
    intro f hf
    obtain ⟨h1, h2⟩ := lc_nonneg hg hs hf
    simp only [Function.comp, addO_sum h1, decide_eq_true_eq]
    omega
  · rw [if_neg q]
    unfold cV
    refine List.countP_congr fun f hf => ?_
    obtain ⟨h1, h2⟩ := lc_nonneg hg hs hf
    simp only [Function.comp, addO_sum h1, decide_eq_true_eq]
    omega
theorem cV_succ {xs : List Int} (hg : good xs = true) (k t v : Nat) :
    cV xs (k + 1) t v = if v < outN xs.length t then 0 else sumR (fun s => if onId xs wk s t then cV xs k s (v - outN xs.length t) else 0) (2 ^ xs.length) := by
  rw [← sum_filter]
  show List.countP _ (lc xs (k + 1) t) = _
  rw [lc, List.countP_flatMap]
  have e : ∀ s, s ∈ (List.range (2 ^ xs.length)).filter (fun s => onId xs wk s t) → ((List.countP fun f => decide (f.sum = (v : Int))) ∘ fun s => (lc xs k s).map (addO xs.length t)) s = if v < outN xs.length t then 0 else cV xs k s (v - outN xs.length t) := fun s hs =>
    cV_step hg (List.mem_range.1 (List.mem_filter.1 hs).1)
  rw [List.map_congr_left e]
  by_cases q : v < outN xs.length t
  · simp only [if_pos q]
    induction (List.range (2 ^ xs.length)).filter (fun s => onId xs wk s t) with
    | nil => rfl
    | cons a l ih => rw [List.map_cons, List.sum_cons, ih]
  · simp only [if_neg q]
theorem sum_on {xs : List Int} {st : Nat → Nat → Bool} (hle : ∀ s t, st s t = true → s ≤ t) (G : Nat → Nat) {i : Nat} (hi : i < (idN xs).length) :
    sumR (fun s => if onId xs st s (idA xs i) then G s else 0) (2 ^ xs.length) = sumR (fun j => if st (idA xs j) (idA xs i) then G (idA xs j) else 0) (i + 1) := by
  have h1 := idA_mem hi
  rw [← sumR_more (a := i + 1) (b := (idN xs).length) (by omega) (fun j h2 h3 => by
    cases hc : st (idA xs j) (idA xs i)
    · rfl
    · have := hle _ _ hc
      have := idA_lt (xs := xs) (show i < j by omega) h3
      omega)]
  rw [sum_ideals xs (fun s => if st s (idA xs i) then G s else 0)]
  refine sumR_congr fun s _ => ?_
  unfold onId
  rw [h1.2]
  cases holdsIdeal xs s <;> simp
/-- the places of the ideals below the i-th one -/
def plW (xs : List Int) (i : Nat) : List Nat := (List.range (i + 1)).filter fun j => wk (idA xs j) (idA xs i)
/-- the program's lists -/
def pL (xs : List Int) : Nat → Nat → List Int
  | 0, i => if i = 0 then [1] else []
  | k + 1, i => List.replicate (outN xs.length (idA xs i)) 0 ++ totL ((plW xs i).map (pL xs k))
theorem pL_getD {xs : List Int} (hg : good xs = true) (k i : Nat) (hi : i < (idN xs).length) (v : Nat) : (pL xs k i).getD v 0 = (cV xs k (idA xs i) v : Int) := by
  induction k generalizing i v with
  | zero =>
    rw [cV_zero, pL]
    have e : idA xs i = 0 ↔ i = 0 := ⟨fun h => by
      rcases Nat.eq_zero_or_pos i with q | q
      · exact q
      · have := idA_lt (xs := xs) q hi; omega, fun h => by rw [h, idA_zero]⟩
    by_cases h : i = 0
    · rw [if_pos h]
      by_cases q : v = 0
      · subst q; rw [if_pos ⟨e.2 h, rfl⟩]; rfl
      · rw [if_neg (by omega), getD_out (by simp; omega)]; rfl
    · rw [if_neg h, if_neg (by rw [e]; omega)]; simp
  | succ k ih =>
    rw [pL, cV_succ hg]
    obtain ⟨z, hz⟩ : ∃ z, outN xs.length (idA xs i) = z := ⟨_, rfl⟩
    rw [hz]
    by_cases q : v < z
    · rw [if_pos q]
      simp [List.getD, List.getElem?_append_left, q]
    · rw [if_neg q, sum_on (fun s t h => part_le (by simpa [wk] using h)) (fun s => cV xs k s (v - z)) hi]
      have h1 : (List.replicate z (0 : Int) ++ totL ((plW xs i).map (pL xs k))).getD v 0 = (totL ((plW xs i).map (pL xs k))).getD (v - z) 0 := by
        simp [List.getD, List.getElem?_append_right, show z ≤ v by omega]
      rw [h1, totL_getD (pL xs k) (fun j => cV xs k (idA xs j) (v - z)) (v - z) (plW xs i) (fun j hj => ih j (by
        have := List.mem_range.1 (List.mem_filter.1 hj).1
        omega) (v - z))]
      unfold plW
      rw [sum_filter]
theorem zero_plW {xs : List Int} (i : Nat) : 0 ∈ plW xs i := by
  unfold plW
  refine List.mem_filter.2 ⟨List.mem_range.2 (by omega), ?_⟩
  rw [idA_zero]
  simp only [wk, beq_iff_eq]
  exact (sub_eq_zero _ _).2 fun j hj => by simp at hj
theorem pL_length {xs : List Int} (k i : Nat) : (pL xs (k + 1) i).length = outN xs.length (idA xs i) + (k * xs.length + 1) := by
  induction k generalizing i with
  | zero =>
    rw [pL, List.length_append, List.length_replicate]
    congr 1
    apply Nat.le_antisymm
    · refine fold_len_le _ _ _ (by simp) fun x hx => ?_
      obtain ⟨j, -, rfl⟩ := List.mem_map.1 hx
      rw [pL]; split <;> simp
    · have := fold_len_ge ((plW xs i).map (pL xs 0)) [] (pL xs 0 0) (List.mem_map.2 ⟨0, zero_plW i, rfl⟩)
      rw [pL, if_pos rfl] at this
      unfold totL
      simpa using this
  | succ k ih =>
    rw [pL, List.length_append, List.length_replicate]
    congr 1
    rw [Nat.succ_mul]
    apply Nat.le_antisymm
    · refine fold_len_le _ _ _ (by simp) fun x hx => ?_
      obtain ⟨j, -, rfl⟩ := List.mem_map.1 hx
      rw [ih]
      have := outN_le xs.length (idA xs j)
      omega
    · have := fold_len_ge ((plW xs i).map (pL xs (k + 1))) [] (pL xs (k + 1) 0) (List.mem_map.2 ⟨0, zero_plW i, rfl⟩)
      rw [ih, idA_zero, outN_zero] at this
      unfold totL
      omega
/-- the list of the last ideal is the answer -/
theorem pL_whole {xs : List Int} (hg : good xs = true) (m : Nat) : pL xs (m + 1) ((idN xs).length - 1) = histL (allF xs m) (m * xs.length + 1) := by
  have hp := idN_pos xs
  have hl := pL_length (xs := xs) m ((idN xs).length - 1)
  rw [idA_last hg, outN_full _ _ (Nat.le_refl _), Nat.zero_add] at hl
  refine list_ext0 (by rw [hl, histL_length]) fun v hv => ?_
  rw [hl] at hv
  rw [pL_getD hg _ _ (by omega), histL_getD hv, idA_last hg]
  congr 1
  unfold cV
  exact ((all_perm hg m).countP_eq _).symm
end Go.Proofs.Ytnlehkjfidpdlab
