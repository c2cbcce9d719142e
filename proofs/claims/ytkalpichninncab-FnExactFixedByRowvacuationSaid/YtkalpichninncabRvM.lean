/- Ranks: the mathematics of ranks, of words of ranks, and of toggles that don't meet. -/
import Derived.Test.YtkalpichninncabRank
import Derived.Test.YtkalpichninncabComm
import Derived.Test.YtkalpichninncabOrb
namespace Go.Proofs.Ytkalpichninncab
open Go.RowKit Go.WideShapes Go.ChangeShapes
set_option linter.unusedVariables false

/-- how many ranks the first k elements have -/
def rkM (hs : List Int) : Nat → Nat
  | 0 => 0
  | k + 1 => max (rkM hs k) ((hs.getD k 0).toNat + 1)
/-- the rank i of the first k elements -/
def rkE (hs : List Int) (k i : Nat) : Nat := orN (fun e => (hs.getD e 0).toNat == i) (fun e => 2 ^ e) k
def rkS (hs : List Int) (k m : Nat) : List Int := (List.range m).map fun i => ((rkE hs k i : Nat) : Int)
theorem rkS_length (hs : List Int) (k m : Nat) : (rkS hs k m).length = m := by simp [rkS]
theorem rkS_get (hs : List Int) (k : Nat) {m i : Nat} (h : i < m) : (rkS hs k m).getD i 0 = ((rkE hs k i : Nat) : Int) := by simp [rkS, List.getD, h]
theorem rkE_lt (hs : List Int) {k n : Nat} (h : k ≤ n) (i : Nat) : rkE hs k i < 2 ^ n := orN_lt fun e he _ => pow_lt_len (by omega)
theorem rkE_bit (hs : List Int) (k i e : Nat) : (rkE hs k i).testBit e = true ↔ e < k ∧ (hs.getD e 0).toNat = i := by
  unfold rkE
  rw [orN_testBit]
  constructor
  · rintro ⟨f, hf, hp, hb⟩
    rw [Nat.testBit_two_pow] at hb
    have hfe : f = e := by simpa using hb
    subst hfe
    exact ⟨hf, by simpa using hp⟩
  · rintro ⟨h1, h2⟩
    exact ⟨e, h1, by simpa using h2, by simp⟩
theorem rkM_lt (hs : List Int) {k e : Nat} (h : e < k) : (hs.getD e 0).toNat < rkM hs k := by
  induction k with
  | zero => omega
  | succ k ih =>
    show _ < max (rkM hs k) ((hs.getD k 0).toNat + 1)
    by_cases he : e = k
    · subst he; omega
    · have := ih (by omega); omega
theorem rkE_none (hs : List Int) {k i : Nat} (h : rkM hs k ≤ i) : rkE hs k i = 0 := by
  apply Nat.eq_of_testBit_eq
  intro e
  rw [Nat.zero_testBit, Bool.eq_false_iff]
  intro hb
  obtain ⟨h1, h2⟩ := (rkE_bit hs k i e).1 hb
  have := rkM_lt hs h1
  omega
theorem rkM_le {hs : List Int} (h : ∀ e, (hs.getD e 0).toNat ≤ e) (k : Nat) : rkM hs k ≤ k := by
  induction k with
  | zero => exact Nat.le_refl _
  | succ k ih =>
    show max (rkM hs k) ((hs.getD k 0).toNat + 1) ≤ k + 1
    have := h k; omega
theorem rkM_mono (hs : List Int) (k : Nat) : rkM hs k ≤ rkM hs (k + 1) := Nat.le_max_left _ _
theorem rkM_mono2 (hs : List Int) {j k : Nat} (h : j ≤ k) : rkM hs j ≤ rkM hs k := by
  induction k with
  | zero => have : j = 0 := by omega
            subst this; exact Nat.le_refl _
  | succ k ih =>
    by_cases hj : j = k + 1
    · subst hj; exact Nat.le_refl _
    · exact Nat.le_trans (ih (by omega)) (rkM_mono hs k)
theorem rkM_pos (hs : List Int) {k : Nat} (h : 1 ≤ k) : 1 ≤ rkM hs k := by
  have := rkM_lt hs (show 0 < k by omega); omega
theorem rkS_grow (hs : List Int) {k m : Nat} (h : rkM hs k ≤ m) : rkS hs k m ++ [0] = rkS hs k (m + 1) := by
  unfold rkS
  rw [List.range_succ, List.map_append, List.map_singleton, rkE_none hs h]; rfl
theorem rkE_step (hs : List Int) (k i : Nat) : rkE hs (k + 1) i = if (hs.getD k 0).toNat = i then rkE hs k i ||| 2 ^ k else rkE hs k i := by
  unfold rkE
  by_cases h : (hs.getD k 0).toNat = i
  · rw [if_pos h]; exact orN_yes (p := fun e => (hs.getD e 0).toNat == i) (by simpa using h)
  · rw [if_neg h]; exact orN_no (p := fun e => (hs.getD e 0).toNat == i) (by simpa using h)
theorem rkS_set (hs : List Int) {k m i : Nat} (h : (hs.getD k 0).toNat = i) (hi : i < m) : (rkS hs k m).set i ((rkE hs k i ||| 2 ^ k : Nat) : Int) = rkS hs (k + 1) m := by
  apply List.ext_getElem
  · simp [rkS]
  · intro j h1 h2
    rw [List.getElem_set]
    have hj : j < m := by simpa [rkS] using h2
    simp only [rkS, List.getElem_map, List.getElem_range]
    rw [rkE_step]
    by_cases hji : i = j
    · subst hji; rw [if_pos rfl, if_pos h]
    · rw [if_neg hji, if_neg (by omega)]
theorem rkS_zero (hs : List Int) (m : Nat) : rkS hs 0 m = List.replicate m 0 := by
  apply List.ext_getElem <;> simp [rkS, rkE, orN]
/-- how many ranks there are, and the ranks -/
def rkN (xs : List Int) : Nat := rkM (heightsL xs) xs.length
def rankL (xs : List Int) : List Int := rkS (heightsL xs) xs.length (rkN xs)
theorem rankL_length (xs : List Int) : (rankL xs).length = rkN xs := rkS_length _ _ _
theorem heights_nat {xs : List Int} (hg : good xs = true) (e : Nat) : (heightsL xs).getD e 0 = (((heightsL xs).getD e 0).toNat : Int) ∧ ((heightsL xs).getD e 0).toNat ≤ e := by
  have := heights_bound hg e; omega
theorem rkN_bounds {xs : List Int} (hg : good xs = true) : 1 ≤ rkN xs ∧ rkN xs ≤ xs.length :=
  ⟨rkM_pos _ (good_length hg).1, rkM_le (fun e => (heights_nat hg e).2) _⟩
theorem rankL_get {xs : List Int} {i : Nat} (hi : i < rkN xs) : (rankL xs).getD i 0 = ((rkE (heightsL xs) xs.length i : Nat) : Int) := rkS_get _ _ hi
/-- the elements of a set, of n -/
def elN (n r : Nat) : List Nat := (List.range n).filter fun e => r.testBit e
def elL (n r : Nat) : List Int := (elN n r).map fun e : Nat => (e : Int)
theorem elL_zero (r : Nat) : elL 0 r = [] := rfl
theorem elL_yes {n r : Nat} (h : r.testBit n = true) : elL (n + 1) r = elL n r ++ [(n : Int)] := by simp [elL, elN, List.range_succ, List.filter_append, h]
theorem elL_no {n r : Nat} (h : r.testBit n = false) : elL (n + 1) r = elL n r := by simp [elL, elN, List.range_succ, List.filter_append, h]
theorem elL_length (n r : Nat) : (elL n r).length ≤ n := by
  unfold elL elN
  rw [List.length_map]
  exact Nat.le_trans (List.length_filter_le _ _) (by simp)
theorem elN_mem {n r e : Nat} : e ∈ elN n r ↔ e < n ∧ r.testBit e = true := by simp [elN]
theorem elL_more {n r : Nat} (h : r < 2 ^ n) (d : Nat) : elL (n + d) r = elL n r := by
  induction d with
  | zero => rfl
  | succ d ih =>
    rw [← Nat.add_assoc, elL_no, ih]
    rw [Bool.eq_false_iff]; intro hb; have := testBit_lt h hb; omega
theorem elL_ten {n r : Nat} (h : r < 2 ^ n) (hn : n ≤ 10) : elL 10 r = elL n r := by
  have := elL_more h (10 - n); rwa [show n + (10 - n) = 10 by omega] at this
theorem elN_nodup (n r : Nat) : (elN n r).Nodup := List.Nodup.sublist List.filter_sublist List.nodup_range
/-- all elements of the ranks of a word -/
def rkW (rs ws : List Int) : List Int := ws.flatMap fun i => elL 10 (rs.getD i.toNat 0).toNat
theorem rkW_append (rs a b : List Int) : rkW rs (a ++ b) = rkW rs a ++ rkW rs b := by simp [rkW]
theorem rkW_one (rs : List Int) (i : Int) : rkW rs [i] = elL 10 (rs.getD i.toNat 0).toNat := by simp [rkW]
theorem rkW_take (rs ws : List Int) {k : Nat} (hk : k < ws.length) : rkW rs (ws.take (k + 1)) = rkW rs (ws.take k) ++ elL 10 (rs.getD (ws.getD k 0).toNat 0).toNat := by
  rw [List.take_succ_eq_append_getElem hk, rkW_append, rkW_one]; simp [List.getD, hk]
theorem rkW_length (rs ws : List Int) : (rkW rs ws).length ≤ 10 * ws.length := by
  induction ws with
  | nil => simp [rkW]
  | cons a t ih =>
    show (elL 10 _ ++ rkW rs t).length ≤ _
    rw [List.length_append, List.length_cons]
    have := elL_length 10 (rs.getD a.toNat 0).toNat
    omega
theorem togW_app (xs : List Int) (s : Nat) (a b : List Int) : togW xs s (a ++ b) = togW xs (togW xs s a) b := by simp [togW, List.foldl_append]
theorem rank_mem {xs : List Int} {i : Nat} (hi : i < rkN xs) (e : Int) : e ∈ elL 10 ((rankL xs).getD i 0).toNat ↔ ∃ f : Nat, e = f ∧ f < xs.length ∧ f < 10 ∧ ((heightsL xs).getD f 0).toNat = i := by
  rw [rankL_get hi]
  unfold elL
  rw [List.mem_map]
  constructor
  · rintro ⟨f, hf, rfl⟩
    rw [elN_mem, Int.toNat_natCast, rkE_bit] at hf
    exact ⟨f, rfl, hf.2.1, hf.1, hf.2.2⟩
  · rintro ⟨f, rfl, h1, h2, h3⟩
    exact ⟨f, by rw [elN_mem, Int.toNat_natCast, rkE_bit]; exact ⟨h2, h1, h3⟩, rfl⟩
theorem inW_rkW {xs : List Int} (hg : good xs = true) {ws : List Int} (hw : inW (rkN xs) ws = true) : inW xs.length (rkW (rankL xs) ws) = true := by
  rw [inW, List.all_eq_true]
  intro e he
  rw [rkW, List.mem_flatMap] at he
  obtain ⟨i, hi, he⟩ := he
  have hi2 := List.all_eq_true.1 hw i hi
  simp only [Bool.and_eq_true, decide_eq_true_eq] at hi2
  obtain ⟨f, rfl, h1, h2, h3⟩ := (rank_mem (show i.toNat < rkN xs by omega) e).1 he
  simp; omega
/-! ### toggles in another order -/
theorem togW_perm {xs : List Int} (hg : good xs = true) {a b : List Int} (hp : a.Perm b) (hin : inW xs.length a = true) (hap : ∀ d ∈ a, ∀ e ∈ a, Apart xs d.toNat e.toNat) :
    ∀ s, holdsIdeal xs s = true → togW xs s a = togW xs s b := by
  induction hp with
  | nil => exact fun _ _ => rfl
  | cons x _ ih =>
    intro s hs
    have h1 := List.all_eq_true.1 hin
    exact ih (List.all_eq_true.2 fun y hy => h1 y (List.mem_cons_of_mem _ hy)) (fun d hd e he => hap d (List.mem_cons_of_mem _ hd) e (List.mem_cons_of_mem _ he)) _ (tog_ideal hs)
  | swap x y l =>
    intro s hs
    have h1 := List.all_eq_true.1 hin
    have hy := h1 y (by simp)
    have hx := h1 x (by simp)
    simp only [Bool.and_eq_true, decide_eq_true_eq] at hx hy
    have := tog_swap hg hs (d := y.toNat) (e := x.toNat) (by omega) (by omega) (hap y (by simp) x (by simp))
    show togW xs (tog xs (tog xs s y.toNat) x.toNat) l = togW xs (tog xs (tog xs s x.toNat) y.toNat) l
    rw [this]
  | trans p1 _ ih1 ih2 =>
    intro s hs
    rw [ih1 hin hap s hs]
    refine ih2 ?_ (fun d hd e he => hap d (p1.mem_iff.2 hd) e (p1.mem_iff.2 he)) s hs
    exact List.all_eq_true.2 fun y hy => List.all_eq_true.1 hin y (p1.mem_iff.2 hy)
theorem covIn_mem {xs : List Int} {j k : Nat} (n : Nat) (hk : k < n) (h : coverB xs j k = true) : (j, k) ∈ covIn xs j n := by
  induction n with
  | zero => omega
  | succ n ih =>
    unfold covIn
    by_cases hkn : k = n
    · subst hkn; rw [if_pos h]; simp
    · have := ih (by omega)
      split
      · exact List.mem_append_left _ this
      · exact this
theorem covPS_mem {xs : List Int} {j k n : Nat} (m : Nat) (hj : j < m) (hk : k < n) (h : coverB xs j k = true) : (j, k) ∈ covPS xs n m := by
  induction m with
  | zero => omega
  | succ m ih =>
    unfold covPS
    by_cases hjm : j = m
    · subst hjm; exact List.mem_append_right _ (covIn_mem n hk h)
    · exact List.mem_append_left _ (ih (by omega))
theorem cover_rank {xs : List Int} (hg : good xs = true) (hr : rankedB xs = true) {j k : Nat} (hk : k < xs.length) (hb : (row xs k).testBit j = true)
    (hn : ∀ m, m < xs.length → (row xs k).testBit m = true → (row xs m).testBit j = false) : ((heightsL xs).getD k 0).toNat = ((heightsL xs).getD j 0).toNat + 1 := by
  have hjk : j < k := testBit_lt (row_lt hg hk).2 hb
  have hc : coverB xs j k = true := coverB_true hb fun m _ hm => by
    cases h1 : bitAt xs k m
    · rfl
    · exact hn m (by omega) h1
  have hm : (j, k) ∈ coversP xs := by rw [coversP_yes hg]; exact covPS_mem _ (by omega) hk hc
  unfold rankedB rankedN at hr
  rw [List.take_length] at hr
  have := List.all_eq_true.1 hr _ hm
  unfold rankP at this
  rw [beq_iff_eq] at this
  have h1 := heights_nat hg k
  have h2 := heights_nat hg j
  simp only at this
  omega
theorem apart_rank {xs : List Int} (hg : good xs = true) (hr : rankedB xs = true) {d e : Nat} (hd : d < xs.length) (he : e < xs.length)
    (h : ((heightsL xs).getD d 0).toNat % 2 = ((heightsL xs).getD e 0).toNat % 2) : Apart xs d e := by
  refine covered_no hg hd he ?_
  rw [Bool.eq_false_iff]
  intro hc
  unfold covered at hc
  obtain ⟨h1, h2⟩ := top_row.1 hc
  by_cases hde : d ≤ e
  · rw [Nat.max_eq_right hde, Nat.min_eq_left hde] at h1 h2
    have := cover_rank hg hr he h1 h2
    omega
  · rw [Nat.max_eq_left (by omega), Nat.min_eq_right (by omega)] at h1 h2
    have := cover_rank hg hr hd h1 h2
    omega
end Go.Proofs.Ytkalpichninncab
