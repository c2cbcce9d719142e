/- Texts RvM, RvW, RvG, RkA, FixO, one behind the other. -/
import Derived.Test.YtdemikjaghegnaaGreatPkRowvacuationProof09
import Derived.Test.YtdemikjaghegnaaGreatPkRowvacuationProof10
import Derived.Test.YtdemikjaghegnaaGreatPkRowvacuationProof11
/- Ranks: the mathematics of ranks, of words of ranks, and of toggles that don't meet. -/
namespace Go.Proofs.YtdemikjaghegnaaGreat
open Go.RowKit Go.WideShapes Go.ChangeShapes
set_option linter.unusedVariables false

/-- how many ranks the first k elements have -/
def rkM (hs : List Int) : Nat → Nat
  | 0 => 0
  | k + 1 => max (rkM hs k) ((hs.getD k 0).toNat + 1)
/-- the rank i of the first k elements -/
def rkE (hs : List Int) (k i : Nat) : Nat := orN (fun e => (hs.getD e 0).toNat == i) (fun e => 2 ^ e) k
def rkQ (hs : List Int) (k m : Nat) : List Int := (List.range m).map fun i => ((rkE hs k i : Nat) : Int)
theorem rkQ_length (hs : List Int) (k m : Nat) : (rkQ hs k m).length = m := by simp [rkQ]
theorem rkQ_get (hs : List Int) (k : Nat) {m i : Nat} (h : i < m) : (rkQ hs k m).getD i 0 = ((rkE hs k i : Nat) : Int) := by simp [rkQ, List.getD, h]
theorem rkE_lt (hs : List Int) {k n : Nat} (h : k ≤ n) (i : Nat) : rkE hs k i < 2 ^ n := orN_lt fun e he _ => pow_lt_len (by omega)
theorem rkE_bit (hs : List Int) (k i e : Nat) : (rkE hs k i).testBit e = true ↔ e < k ∧ (hs.getD e 0).toNat = i := by
  unfold rkE
  rw [orN_testBit]
  constructor
  · rintro ⟨f, hf, hp, hb⟩
    rw [Nat.testBit_two_pow] at hb
    have hfe : f = e := by simpa using hb
    subst hfe
    exact ⟨hf, by simpa using hp⟩
  · rintro ⟨h1, h2⟩
    exact ⟨e, h1, by simpa using h2, by simp⟩
theorem rkM_lt (hs : List Int) {k e : Nat} (h : e < k) : (hs.getD e 0).toNat < rkM hs k := by
  induction k with
  | zero => omega
  | succ k ih =>
    show _ < max (rkM hs k) ((hs.getD k 0).toNat + 1)
    by_cases he : e = k
    · subst he; omega
    · have := ih (by omega); omega
theorem rkE_none (hs : List Int) {k i : Nat} (h : rkM hs k ≤ i) : rkE hs k i = 0 := by
  apply Nat.eq_of_testBit_eq
  intro e
  rw [Nat.zero_testBit, Bool.eq_false_iff]
  intro hb
  obtain ⟨h1, h2⟩ := (rkE_bit hs k i e).1 hb
  have := rkM_lt hs h1
  omega
theorem rkM_le {hs : List Int} (h : ∀ e, (hs.getD e 0).toNat ≤ e) (k : Nat) : rkM hs k ≤ k := by
  induction k with
  | zero => exact Nat.le_refl _
  | succ k ih =>
    show max (rkM hs k) ((hs.getD k 0).toNat + 1) ≤ k + 1
    have := h k; omega
theorem rkM_mono (hs : List Int) (k : Nat) : rkM hs k ≤ rkM hs (k + 1) := Nat.le_max_left _ _
theorem rkM_mono2 (hs : List Int) {j k : Nat} (h : j ≤ k) : rkM hs j ≤ rkM hs k := by
  induction k with
  | zero => have : j = 0 := by omega
            subst this; exact Nat.le_refl _
  | succ k ih =>
    by_cases hj : j = k + 1
    · subst hj; exact Nat.le_refl _
    · exact Nat.le_trans (ih (by omega)) (rkM_mono hs k)
theorem rkM_pos (hs : List Int) {k : Nat} (h : 1 ≤ k) : 1 ≤ rkM hs k := by
  have := rkM_lt hs (show 0 < k by omega); omega
theorem rkQ_grow (hs : List Int) {k m : Nat} (h : rkM hs k ≤ m) : rkQ hs k m ++ [0] = rkQ hs k (m + 1) := by
  unfold rkQ
  rw [List.range_succ, List.map_append, List.map_singleton, rkE_none hs h]; rfl
theorem rkE_step (hs : List Int) (k i : Nat) : rkE hs (k + 1) i = if (hs.getD k 0).toNat = i then rkE hs k i ||| 2 ^ k else rkE hs k i := by
  unfold rkE
  by_cases h : (hs.getD k 0).toNat = i
  · rw [if_pos h]; exact orN_yes (p := fun e => (hs.getD e 0).toNat == i) (by simpa using h)
  · rw [if_neg h]; exact orN_no (p := fun e => (hs.getD e 0).toNat == i) (by simpa using h)
theorem rkQ_set (hs : List Int) {k m i : Nat} (h : (hs.getD k 0).toNat = i) (hi : i < m) : (rkQ hs k m).set i ((rkE hs k i ||| 2 ^ k : Nat) : Int) = rkQ hs (k + 1) m := by
  apply List.ext_getElem
  · simp [rkQ]
  · intro j h1 h2
    rw [List.getElem_set]
    have hj : j < m := by simpa [rkQ] using h2
    simp only [rkQ, List.getElem_map, List.getElem_range]
    rw [rkE_step]
    by_cases hji : i = j
    · subst hji; rw [if_pos rfl, if_pos h]
    · rw [if_neg hji, if_neg (by omega)]
theorem rkQ_zero (hs : List Int) (m : Nat) : rkQ hs 0 m = List.replicate m 0 := by
  apply List.ext_getElem <;> simp [rkQ, rkE, orN]
/-- how many ranks there are, and the ranks -/
def rkN (xs : List Int) : Nat := rkM (heightsL xs) xs.length
def rankL (xs : List Int) : List Int := rkQ (heightsL xs) xs.length (rkN xs)
theorem rankL_length (xs : List Int) : (rankL xs).length = rkN xs := rkQ_length _ _ _
theorem heights_nat {xs : List Int} (hg : good xs = true) (e : Nat) : (heightsL xs).getD e 0 = (((heightsL xs).getD e 0).toNat : Int) ∧ ((heightsL xs).getD e 0).toNat ≤ e := by
  have := heights_bound hg e; omega
theorem rkN_bounds {xs : List Int} (hg : good xs = true) : 1 ≤ rkN xs ∧ rkN xs ≤ xs.length :=
  ⟨rkM_pos _ (good_length hg).1, rkM_le (fun e => (heights_nat hg e).2) _⟩
theorem rankL_get {xs : List Int} {i : Nat} (hi : i < rkN xs) : (rankL xs).getD i 0 = ((rkE (heightsL xs) xs.length i : Nat) : Int) := rkQ_get _ _ hi
/-- the elements of a set, of n -/
def elN (n r : Nat) : List Nat := (List.range n).filter fun e => r.testBit e
def elL (n r : Nat) : List Int := (elN n r).map fun e : Nat => (e : Int)
theorem elL_zero (r : Nat) : elL 0 r = [] := rfl
theorem elL_yes {n r : Nat} (h : r.testBit n = true) : elL (n + 1) r = elL n r ++ [(n : Int)] := by simp [elL, elN, List.range_succ, List.filter_append, h]
theorem elL_no {n r : Nat} (h : r.testBit n = false) : elL (n + 1) r = elL n r := by simp [elL, elN, List.range_succ, List.filter_append, h]
theorem elL_length (n r : Nat) : (elL n r).length ≤ n := by
  unfold elL elN
  rw [List.length_map]
  exact Nat.le_trans (List.length_filter_le _ _) (by simp)
theorem elN_mem {n r e : Nat} : e ∈ elN n r ↔ e < n ∧ r.testBit e = true := by simp [elN]
theorem elL_more {n r : Nat} (h : r < 2 ^ n) (d : Nat) : elL (n + d) r = elL n r := by
  induction d with
  | zero => rfl
  | succ d ih =>
    rw [← Nat.add_assoc, elL_no, ih]
    rw [Bool.eq_false_iff]; intro hb; have := testBit_lt h hb; omega
theorem elL_ten {n r : Nat} (h : r < 2 ^ n) (hn : n ≤ 10) : elL 10 r = elL n r := by
  have := elL_more h (10 - n); rwa [show n + (10 - n) = 10 by omega] at this
theorem elN_nodup (n r : Nat) : (elN n r).Nodup := List.Nodup.sublist List.filter_sublist List.nodup_range
/-- all elements of the ranks of a word -/
def rkW (rs ws : List Int) : List Int := ws.flatMap fun i => elL 10 (rs.getD i.toNat 0).toNat
theorem rkW_append (rs a b : List Int) : rkW rs (a ++ b) = rkW rs a ++ rkW rs b := by simp [rkW]
theorem rkW_one (rs : List Int) (i : Int) : rkW rs [i] = elL 10 (rs.getD i.toNat 0).toNat := by simp [rkW]
theorem rkW_take (rs ws : List Int) {k : Nat} (hk : k < ws.length) : rkW rs (ws.take (k + 1)) = rkW rs (ws.take k) ++ elL 10 (rs.getD (ws.getD k 0).toNat 0).toNat := by
  rw [List.take_succ_eq_append_getElem hk, rkW_append, rkW_one]; simp [List.getD, hk]
theorem rkW_length (rs ws : List Int) : (rkW rs ws).length ≤ 10 * ws.length := by
  induction ws with
  | nil => simp [rkW]
  | cons a t ih =>
    show (elL 10 _ ++ rkW rs t).length ≤ _
    rw [List.length_append, List.length_cons]
    have := elL_length 10 (rs.getD a.toNat 0).toNat
    omega
theorem togW_app (xs : List Int) (s : Nat) (a b : List Int) : togW xs s (a ++ b) = togW xs (togW xs s a) b := by simp [togW, List.foldl_append]
theorem rank_mem {xs : List Int} {i : Nat} (hi : i < rkN xs) (e : Int) : e ∈ elL 10 ((rankL xs).getD i 0).toNat ↔ ∃ f : Nat, e = f ∧ f < xs.length ∧ f < 10 ∧ ((heightsL xs).getD f 0).toNat = i := by
  rw [rankL_get hi]
  unfold elL
  rw [List.mem_map]
  constructor
  · rintro ⟨f, hf, rfl⟩
    rw [elN_mem, Int.toNat_natCast, rkE_bit] at hf
    exact ⟨f, rfl, hf.2.1, hf.1, hf.2.2⟩
  · rintro ⟨f, rfl, h1, h2, h3⟩
    exact ⟨f, by rw [elN_mem, Int.toNat_natCast, rkE_bit]; exact ⟨h2, h1, h3⟩, rfl⟩
theorem inW_rkW {xs : List Int} (hg : good xs = true) {ws : List Int} (hw : inW (rkN xs) ws = true) : inW xs.length (rkW (rankL xs) ws) = true := by
  rw [inW, List.all_eq_true]
  intro e he
  rw [rkW, List.mem_flatMap] at he
  obtain ⟨i, hi, he⟩ := he
  have hi2 := List.all_eq_true.1 hw i hi
  simp only [Bool.and_eq_true, decide_eq_true_eq] at hi2
  obtain ⟨f, rfl, h1, h2, h3⟩ := (rank_mem (show i.toNat < rkN xs by omega) e).1 he
  simp; omega
/-! ### toggles in another order -/
theorem togW_perm {xs : List Int} (hg : good xs = true) {a b : List Int} (hp : a.Perm b) (hin : inW xs.length a = true) (hap : ∀ d ∈ a, ∀ e ∈ a, Apart xs d.toNat e.toNat) :
    ∀ s, holdsIdeal xs s = true → togW xs s a = togW xs s b := by
  induction hp with
  | nil => exact fun _ _ => rfl
  | cons x _ ih =>
    intro s hs
    have h1 := List.all_eq_true.1 hin
    exact ih (List.all_eq_true.2 fun y hy => h1 y (List.mem_cons_of_mem _ hy)) (fun d hd e he => hap d (List.mem_cons_of_mem _ hd) e (List.mem_cons_of_mem _ he)) _ (tog_ideal hs)
  | swap x y l =>
    intro s hs
    have h1 := List.all_eq_true.1 hin
    have hy := h1 y (by simp)
    have hx := h1 x (by simp)
    simp only [Bool.and_eq_true, decide_eq_true_eq] at hx hy
    have := tog_swap hg hs (d := y.toNat) (e := x.toNat) (by omega) (by omega) (hap y (by simp) x (by simp))
    show togW xs (tog xs (tog xs s y.toNat) x.toNat) l = togW xs (tog xs (tog xs s x.toNat) y.toNat) l
    rw [this]
  | trans p1 _ ih1 ih2 =>
    intro s hs
    rw [ih1 hin hap s hs]
    refine ih2 ?_ (fun d hd e he => hap d (p1.mem_iff.2 hd) e (p1.mem_iff.2 he)) s hs
    exact List.all_eq_true.2 fun y hy => List.all_eq_true.1 hin y (p1.mem_iff.2 hy)
theorem covIn_mem {xs : List Int} {j k : Nat} (n : Nat) (hk : k < n) (h : coverB xs j k = true) : (j, k) ∈ covIn xs j n := by
  induction n with
  | zero => omega
  | succ n ih =>
    unfold covIn
    by_cases hkn : k = n
    · subst hkn; rw [if_pos h]; simp
    · have := ih (by omega)
      split
      · exact List.mem_append_left _ this
      · exact this
theorem covPS_mem {xs : List Int} {j k n : Nat} (m : Nat) (hj : j < m) (hk : k < n) (h : coverB xs j k = true) : (j, k) ∈ covPS xs n m := by
  induction m with
  | zero => omega
  | succ m ih =>
    unfold covPS
    by_cases hjm : j = m
    · subst hjm; exact List.mem_append_right _ (covIn_mem n hk h)
    · exact List.mem_append_left _ (ih (by omega))
theorem cover_rank {xs : List Int} (hg : good xs = true) (hr : rankedB xs = true) {j k : Nat} (hk : k < xs.length) (hb : (row xs k).testBit j = true)
    (hn : ∀ m, m < xs.length → (row xs k).testBit m = true → (row xs m).testBit j = false) : ((heightsL xs).getD k 0).toNat = ((heightsL xs).getD j 0).toNat + 1 := by
  have hjk : j < k := testBit_lt (row_lt hg hk).2 hb
  have hc : coverB xs j k = true := coverB_true hb fun m _ hm => by
    cases h1 : bitAt xs k m
    · rfl
    · exact hn m (by omega) h1
  have hm : (j, k) ∈ coversP xs := by rw [coversP_yes hg]; exact covPS_mem _ (by omega) hk hc
  unfold rankedB rankedN at hr
  rw [List.take_length] at hr
  have := List.all_eq_true.1 hr _ hm
  unfold rankP at this
  rw [beq_iff_eq] at this
  have h1 := heights_nat hg k
  have h2 := heights_nat hg j
  simp only at this
  omega
theorem apart_rank {xs : List Int} (hg : good xs = true) (hr : rankedB xs = true) {d e : Nat} (hd : d < xs.length) (he : e < xs.length)
    (h : ((heightsL xs).getD d 0).toNat % 2 = ((heightsL xs).getD e 0).toNat % 2) : Apart xs d e := by
  refine covered_no hg hd he ?_
  rw [Bool.eq_false_iff]
  intro hc
  unfold covered at hc
  obtain ⟨h1, h2⟩ := top_row.1 hc
  by_cases hde : d ≤ e
  · rw [Nat.max_eq_right hde, Nat.min_eq_left hde] at h1 h2
    have := cover_rank hg hr he h1 h2
    omega
  · rw [Nat.max_eq_left (by omega), Nat.min_eq_right (by omega)] at h1 h2
    have := cover_rank hg hr hd h1 h2
    omega
end Go.Proofs.YtdemikjaghegnaaGreat

/- Words of ranks: the lists. -/
namespace Go.Proofs.YtdemikjaghegnaaGreat
open Go.RowKit Go.WideShapes Go.ChangeShapes
set_option linter.unusedVariables false

/-- a, a + 1, .., b -/
def rnL (a b : Nat) : List Int := (List.range (b + 1 - a)).map fun j => ((a + j : Nat) : Int)
/-- a, a + 2, .., up to b -/
def rs2 (a b : Nat) : List Int := (List.range ((b + 2 - a) / 2)).map fun j => ((a + 2 * j : Nat) : Int)
/-- a, a - 1, .., b -/
def fsL (a b : Nat) : List Int := (List.range (a + 1 - b)).map fun j => ((a - j : Nat) : Int)
theorem rnL_length (a b : Nat) : (rnL a b).length = b + 1 - a := by simp [rnL]
theorem rs2_length (a b : Nat) : (rs2 a b).length = (b + 2 - a) / 2 := by simp [rs2]
theorem fsL_length (a b : Nat) : (fsL a b).length = a + 1 - b := by simp [fsL]
theorem rnL_rev (a b : Nat) : (rnL a b).reverse = fsL b a := by
  apply List.ext_getElem
  · simp [rnL, fsL]
  · intro i h1 h2
    have hi : i < b + 1 - a := by simpa [fsL] using h2
    rw [List.getElem_reverse]
    simp only [rnL, fsL, List.getElem_map, List.getElem_range, List.length_map, List.length_range]
    omega
def mapT (f : Nat → Int) (k : Nat) : List Int := (List.range k).map f
theorem mapT_succ (f : Nat → Int) (k : Nat) : mapT f (k + 1) = mapT f k ++ [f k] := by simp [mapT, List.range_succ]
theorem mapT_length (f : Nat → Int) (k : Nat) : (mapT f k).length = k := by simp [mapT]
theorem rnL_map (a b : Nat) : rnL a b = mapT (fun j => ((a + j : Nat) : Int)) (b + 1 - a) := rfl
theorem rs2_map (a b : Nat) : rs2 a b = mapT (fun j => ((a + 2 * j : Nat) : Int)) ((b + 2 - a) / 2) := rfl
theorem fsL_map (a b : Nat) : fsL a b = mapT (fun j => ((a - j : Nat) : Int)) (a + 1 - b) := rfl
/-- sweeps, one behind the other -/
def swL (f : Nat → List Int) (n : Nat) : List Int := (List.range n).flatMap f
theorem swL_zero (f : Nat → List Int) : swL f 0 = [] := rfl
theorem swL_succ (f : Nat → List Int) (n : Nat) : swL f (n + 1) = swL f n ++ f n := by simp [swL, List.range_succ]
theorem swL_length (f : Nat → List Int) (n c : Nat) (h : ∀ k, k < n → (f k).length ≤ c) : (swL f n).length ≤ c * n := by
  induction n with
  | zero => simp [swL]
  | succ n ih =>
    rw [swL_succ, List.length_append]
    have h1 := ih fun k hk => h k (by omega)
    have h2 := h n (by omega)
    rw [Nat.mul_add, Nat.mul_one]; omega
/-- the sweeps of rowmotion, of rowvacuation, of the dual one, of gyration: how many, and which ranks -/
def cRow (h : Nat) : Nat := 1
def fRow (h k : Nat) : List Int := fsL h 0
def cVac (h : Nat) : Nat := h + 1
def fVac (h k : Nat) : List Int := fsL h k
def cDual (h : Nat) : Nat := h + 1
def fDual (h k : Nat) : List Int := rnL 0 (h - k)
def cGyr (h : Nat) : Nat := 2
def fGyr (h k : Nat) : List Int := rs2 k h
def wRow (h : Nat) : List Int := swL (fRow h) (cRow h)
def wVac (h : Nat) : List Int := swL (fVac h) (cVac h)
def wDual (h : Nat) : List Int := swL (fDual h) (cDual h)
def wGyr (h : Nat) : List Int := swL (fGyr h) (cGyr h)
theorem wRow_eq (h : Nat) : wRow h = fsL h 0 := by simp [wRow, swL, cRow, fRow]
theorem wGyr_eq (h : Nat) : wGyr h = rs2 0 h ++ rs2 1 h := by simp [wGyr, swL, cGyr, fGyr, List.range_succ]
theorem inW_flat {n m : Nat} {f : Nat → List Int} (h : ∀ k, k < m → inW n (f k) = true) : inW n (swL f m) = true := by
  rw [inW, List.all_eq_true]
  intro y hy
  rw [swL, List.mem_flatMap] at hy
  obtain ⟨k, hk, hy⟩ := hy
  exact List.all_eq_true.1 (h k (List.mem_range.1 hk)) y hy
theorem inW_rnL {n a b : Nat} (h : b < n) : inW n (rnL a b) = true := List.all_eq_true.2 fun y hy => by
  obtain ⟨j, hj, rfl⟩ := List.mem_map.1 hy
  rw [List.mem_range] at hj; simp; omega
theorem inW_rs2 {n a b : Nat} (h : b < n) : inW n (rs2 a b) = true := List.all_eq_true.2 fun y hy => by
  obtain ⟨j, hj, rfl⟩ := List.mem_map.1 hy
  rw [List.mem_range] at hj; simp; omega
theorem inW_fsL {n a b : Nat} (h : a < n) : inW n (fsL a b) = true := List.all_eq_true.2 fun y hy => by
  obtain ⟨j, hj, rfl⟩ := List.mem_map.1 hy
  rw [List.mem_range] at hj; simp; omega
theorem inW_wRow {n h : Nat} (hn : h < n) : inW n (wRow h) = true := inW_flat fun k _ => inW_fsL hn
theorem inW_wVac {n h : Nat} (hn : h < n) : inW n (wVac h) = true := inW_flat fun k _ => inW_fsL hn
theorem inW_wDual {n h : Nat} (hn : h < n) : inW n (wDual h) = true := inW_flat fun k _ => inW_rnL (by omega)
theorem inW_wGyr {n h : Nat} (hn : h < n) : inW n (wGyr h) = true := inW_flat fun k _ => inW_rs2 hn
theorem fRow_length {h : Nat} (k : Nat) (hh : h ≤ 9) : (fRow h k).length ≤ 10 := by rw [fRow, fsL_length]; omega
theorem fVac_length {h : Nat} (k : Nat) (hh : h ≤ 9) : (fVac h k).length ≤ 10 := by rw [fVac, fsL_length]; omega
theorem fDual_length {h : Nat} (k : Nat) (hh : h ≤ 9) : (fDual h k).length ≤ 10 := by rw [fDual, rnL_length]; omega
theorem fGyr_length {h : Nat} (k : Nat) (hh : h ≤ 9) : (fGyr h k).length ≤ 10 := by rw [fGyr, rs2_length]; omega
theorem sw_length (f : Nat → List Int) {n : Nat} (h : ∀ k, (f k).length ≤ 10) (hn : n ≤ 10) : (swL f n).length ≤ 100 := by
  have := swL_length f n 10 fun k _ => h k; omega
theorem wRow_length {h : Nat} (hh : h ≤ 9) : (wRow h).length ≤ 100 := sw_length _ (fun k => fRow_length k hh) (by unfold cRow; omega)
theorem wVac_length {h : Nat} (hh : h ≤ 9) : (wVac h).length ≤ 100 := sw_length _ (fun k => fVac_length k hh) (by unfold cVac; omega)
theorem wDual_length {h : Nat} (hh : h ≤ 9) : (wDual h).length ≤ 100 := sw_length _ (fun k => fDual_length k hh) (by unfold cDual; omega)
theorem wGyr_length {h : Nat} (hh : h ≤ 9) : (wGyr h).length ≤ 100 := sw_length _ (fun k => fGyr_length k hh) (by unfold cGyr; omega)
end Go.Proofs.YtdemikjaghegnaaGreat

/- Gyration: the mathematics. -/
namespace Go.Proofs.YtdemikjaghegnaaGreat
open Go.RowKit Go.WideShapes Go.ChangeShapes
set_option linter.unusedVariables false

/-- all elements of the first k ranks that are even (p = 0) or odd (p = 1) -/
def evK (xs : List Int) (p k : Nat) : Nat := orN (fun i => i % 2 == p) (fun i => rkE (heightsL xs) xs.length i) k
def evN (xs : List Int) (p : Nat) : Nat := evK xs p (rkN xs)
theorem evK_lt (xs : List Int) (p k : Nat) : evK xs p k < 2 ^ xs.length := orN_lt fun i _ _ => rkE_lt _ (Nat.le_refl _) i
theorem evK_yes {xs : List Int} {p k : Nat} (h : k % 2 = p) : evK xs p (k + 1) = evK xs p k ||| rkE (heightsL xs) xs.length k := orN_yes (p := fun i => i % 2 == p) (by simpa using h)
theorem evK_no {xs : List Int} {p k : Nat} (h : ¬ k % 2 = p) : evK xs p (k + 1) = evK xs p k := orN_no (p := fun i => i % 2 == p) (by simpa using h)
theorem evN_mem {xs : List Int} {p : Nat} (e : Int) : e ∈ elL xs.length (evN xs p) ↔ ∃ f : Nat, e = f ∧ f < xs.length ∧ ((heightsL xs).getD f 0).toNat % 2 = p := by
  unfold elL
  rw [List.mem_map]
  constructor
  · rintro ⟨f, hf, rfl⟩
    rw [elN_mem] at hf
    unfold evN evK at hf
    rw [orN_testBit] at hf
    obtain ⟨h1, i, h2, h3, h4⟩ := hf
    rw [rkE_bit] at h4
    exact ⟨f, rfl, h1, by rw [h4.2]; simpa using h3⟩
  · rintro ⟨f, rfl, h1, h2⟩
    refine ⟨f, ?_, rfl⟩
    rw [elN_mem]
    unfold evN evK
    rw [orN_testBit]
    exact ⟨h1, _, rkM_lt _ h1, by simpa using h2, by rw [rkE_bit]; exact ⟨h1, rfl⟩⟩
theorem rkW_mem {xs : List Int} {ws : List Int} (hw : inW (rkN xs) ws = true) (e : Int) : e ∈ rkW (rankL xs) ws ↔ ∃ f : Nat, e = f ∧ f < xs.length ∧ f < 10 ∧ (((heightsL xs).getD f 0).toNat : Int) ∈ ws := by
  rw [rkW, List.mem_flatMap]
  constructor
  · rintro ⟨i, hi, he⟩
    have hi2 := List.all_eq_true.1 hw i hi
    simp only [Bool.and_eq_true, decide_eq_true_eq] at hi2
    obtain ⟨f, h1, h2, h3, h4⟩ := (rank_mem (show i.toNat < rkN xs by omega) e).1 he
    exact ⟨f, h1, h2, h3, by rw [h4, Int.toNat_of_nonneg hi2.1]; exact hi⟩
  · rintro ⟨f, h1, h2, h3, h4⟩
    exact ⟨_, h4, by rw [Int.toNat_natCast]; exact (rank_mem (rkM_lt _ h2) e).2 ⟨f, h1, h2, h3, rfl⟩⟩
theorem elL_nodup (n r : Nat) : (elL n r).Nodup := by
  unfold elL
  refine List.Pairwise.map _ (fun a b h hab => h (Int.ofNat.inj hab)) (elN_nodup n r)
theorem rkW_nodup {xs : List Int} : ∀ ws : List Int, inW (rkN xs) ws = true → ws.Nodup → (rkW (rankL xs) ws).Nodup
  | [], _, _ => List.nodup_nil
  | a :: t, hw, hn => by
    have h1 : inW (rkN xs) t = true := List.all_eq_true.2 fun y hy => List.all_eq_true.1 hw y (List.mem_cons_of_mem _ hy)
    have h2 := List.all_eq_true.1 hw a (by simp)
    simp only [Bool.and_eq_true, decide_eq_true_eq] at h2
    rw [List.nodup_cons] at hn
    show (elL 10 _ ++ rkW (rankL xs) t).Nodup
    rw [List.nodup_append]
    refine ⟨elL_nodup _ _, rkW_nodup t h1 hn.2, fun x hx y hy hxy => ?_⟩
    subst hxy
    obtain ⟨f, e1, _, _, e4⟩ := (rank_mem (show a.toNat < rkN xs by omega) x).1 hx
    obtain ⟨g, d1, _, _, d4⟩ := (rkW_mem h1 x).1 hy
    have : f = g := by omega
    subst this
    rw [e4, Int.toNat_of_nonneg h2.1] at d4
    exact hn.1 d4
theorem rs2_mem {a b : Nat} (y : Int) : y ∈ rs2 a b ↔ ∃ i : Nat, y = i ∧ a ≤ i ∧ i ≤ b ∧ i % 2 = a % 2 := by
  unfold rs2
  rw [List.mem_map]
  constructor
  · rintro ⟨j, hj, rfl⟩
    rw [List.mem_range] at hj
    exact ⟨a + 2 * j, rfl, by omega, by omega, by omega⟩
  · rintro ⟨i, rfl, h1, h2, h3⟩
    exact ⟨(i - a) / 2, List.mem_range.2 (by omega), by congr 1; omega⟩
theorem rs2_nodup (a b : Nat) : (rs2 a b).Nodup := by
  unfold rs2
  refine List.Pairwise.map _ (fun x y h hab => h (by omega)) List.nodup_range
theorem height_lt {xs : List Int} {f : Nat} (h : f < xs.length) : ((heightsL xs).getD f 0).toNat < rkN xs := rkM_lt _ h
theorem gyr_perm {xs : List Int} (hg : good xs = true) {p h : Nat} (hp : p ≤ 1) (hh : rkN xs = h + 1) : (elL xs.length (evN xs p)).Perm (rkW (rankL xs) (rs2 p h)) := by
  have hl := (good_length hg).2
  refine (List.perm_ext_iff_of_nodup (elL_nodup _ _) (rkW_nodup _ (inW_rs2 (by omega)) (rs2_nodup _ _))).2 fun e => ?_
  rw [evN_mem, rkW_mem (inW_rs2 (by omega))]
  constructor
  · rintro ⟨f, h1, h2, h3⟩
    have := height_lt h2
    exact ⟨f, h1, h2, by omega, (rs2_mem _).2 ⟨_, rfl, by omega, by omega, by omega⟩⟩
  · rintro ⟨f, h1, h2, _, h3⟩
    obtain ⟨i, e1, e2, e3, e4⟩ := (rs2_mem _).1 h3
    exact ⟨f, h1, h2, by omega⟩
theorem ev_in {xs : List Int} (p : Nat) : inW xs.length (elL xs.length (evN xs p)) = true := List.all_eq_true.2 fun y hy => by
  obtain ⟨f, rfl, h, _⟩ := (evN_mem y).1 hy
  simp; omega
theorem ev_apart {xs : List Int} (hg : good xs = true) (hr : rankedB xs = true) (p : Nat) : ∀ d ∈ elL xs.length (evN xs p), ∀ e ∈ elL xs.length (evN xs p), Apart xs d.toNat e.toNat := by
  intro d hd e he
  obtain ⟨f, rfl, h1, h2⟩ := (evN_mem d).1 hd
  obtain ⟨g, rfl, h3, h4⟩ := (evN_mem e).1 he
  rw [Int.toNat_natCast, Int.toNat_natCast]
  exact apart_rank hg hr h1 h3 (by omega)
/-- gyration, and back -/
def gyF (xs : List Int) (s : Nat) : Nat := togW xs (togW xs s (elL xs.length (evN xs 0))) (elL xs.length (evN xs 1))
def gyB (xs : List Int) (s : Nat) : Nat := togW xs (togW xs s (elL xs.length (evN xs 1))) (elL xs.length (evN xs 0))
theorem gyF_word {xs : List Int} (hg : good xs = true) (hr : rankedB xs = true) {h : Nat} (hh : rkN xs = h + 1) {s : Nat} (hs : holdsIdeal xs s = true) :
    gyF xs s = togW xs s (rkW (rankL xs) (wGyr h)) := by
  unfold gyF
  rw [wGyr_eq, rkW_append, togW_app, togW_perm hg (gyr_perm hg (p := 0) (by omega) hh) (ev_in 0) (ev_apart hg hr 0) s hs,
    togW_perm hg (gyr_perm hg (p := 1) (by omega) hh) (ev_in 1) (ev_apart hg hr 1) _ (togW_ideal hs)]
theorem gyB_word {xs : List Int} (hg : good xs = true) (hr : rankedB xs = true) {h : Nat} (hh : rkN xs = h + 1) {s : Nat} (hs : holdsIdeal xs s = true) :
    gyB xs s = togW xs s (rkW (rankL xs) (wGyr h)).reverse := by
  unfold gyB
  rw [wGyr_eq, rkW_append, List.reverse_append, togW_app,
    togW_perm hg ((gyr_perm hg (p := 1) (by omega) hh).trans (List.reverse_perm _).symm) (ev_in 1) (ev_apart hg hr 1) s hs,
    togW_perm hg ((gyr_perm hg (p := 0) (by omega) hh).trans (List.reverse_perm _).symm) (ev_in 0) (ev_apart hg hr 0) _ (togW_ideal hs)]
end Go.Proofs.YtdemikjaghegnaaGreat

/- Rowmotion by ranks is rowmotion; heights rise. -/
namespace Go.Proofs.YtdemikjaghegnaaGreat
open Go.RowKit Go.WideShapes Go.ChangeShapes
set_option linter.unusedVariables false

theorem rowmo_bitR (xs : List Int) (s e : Nat) : (rowmo xs s).testBit e = true ↔ ∃ f, f < xs.length ∧ rowP xs s f = true ∧ (f = e ∨ (row xs f).testBit e = true) := by
  rw [rowmo, orN_testBit]
  constructor
  · rintro ⟨f, hf, hp, hb⟩
    rw [rowG, Nat.testBit_or, Bool.or_eq_true, Nat.testBit_two_pow] at hb
    exact ⟨f, hf, hp, hb.imp (fun h => by simpa using h) id⟩
  · rintro ⟨f, hf, hp, hb⟩
    refine ⟨f, hf, hp, ?_⟩
    rw [rowG, Nat.testBit_or, Bool.or_eq_true, Nat.testBit_two_pow]
    exact hb.imp (fun h => by simpa using h) id
theorem tog_stepR {xs : List Int} (hg : good xs = true) {s t e : Nat} (ht : holdsIdeal xs t = true) (he : e < xs.length)
    (hlow : ∀ j, (row xs e).testBit j = true → t.testBit j = s.testBit j)
    (hup : ∀ f, f < xs.length → (row xs f).testBit e = true → t.testBit f = (rowmo xs s).testBit f)
    (hte : t.testBit e = s.testBit e) (i : Nat) : (tog xs t e).testBit i = if i = e then (rowmo xs s).testBit e else t.testBit i := by
  have hx : ∀ i, (t ^^^ 2 ^ e).testBit i = if i = e then !t.testBit e else t.testBit i := xor_bit t e
  cases hse : s.testBit e
  · rw [hse] at hte
    cases hp : rowP xs s e
    · have hR : (rowmo xs s).testBit e = false := by
        rw [Bool.eq_false_iff]
        intro h
        obtain ⟨f, hf, hpf, h1 | h1⟩ := (rowmo_bitR xs s e).1 h
        · subst h1; rw [hp] at hpf; cases hpf
        · have := (rowP_iff.1 hpf).2 e h1; rw [hse] at this; cases this
      have hn : holdsIdeal xs (t ^^^ 2 ^ e) = false := by
        rw [Bool.eq_false_iff]
        intro h
        have h2 := holdsIdeal_row.1 h e he (by rw [hx, if_pos rfl, hte]; rfl)
        have h4 : rowP xs s e = true := rowP_iff.2 ⟨hse, fun j hj => by
          have h3 := h2 j hj
          have hlt := row_less hg he hj
          rw [hx, if_neg (by omega)] at h3
          rw [← hlow j hj]; exact h3⟩
        rw [hp] at h4; cases h4
      rw [tog_no hn]
      by_cases h : i = e
      · subst h; rw [if_pos rfl, hte, hR]
      · rw [if_neg h]
    · have hR : (rowmo xs s).testBit e = true := (rowmo_bitR xs s e).2 ⟨e, he, hp, .inl rfl⟩
      have hy : holdsIdeal xs (t ^^^ 2 ^ e) = true := by
        refine holdsIdeal_row.2 fun f hf hb j hj => ?_
        rw [hx] at hb ⊢
        by_cases hje : j = e
        · rw [if_pos hje, hte]; rfl
        · rw [if_neg hje]
          by_cases hfe : f = e
          · subst hfe; rw [hlow j hj]; exact (rowP_iff.1 hp).2 j hj
          · rw [if_neg hfe] at hb
            exact holdsIdeal_row.1 ht f hf hb j hj
      rw [tog_yes hy, hx]
      by_cases h : i = e
      · rw [if_pos h, if_pos h, hte, hR]; rfl
      · rw [if_neg h, if_neg h]
  · rw [hse] at hte
    by_cases hc : ∃ f, f < xs.length ∧ (row xs f).testBit e = true ∧ (rowmo xs s).testBit f = true
    · obtain ⟨f, hf, hfe, hRf⟩ := hc
      have hR : (rowmo xs s).testBit e = true := holdsIdeal_row.1 (rowmo_ideal hg s) f hf hRf e hfe
      have hn : holdsIdeal xs (t ^^^ 2 ^ e) = false := by
        rw [Bool.eq_false_iff]
        intro h
        have hlt := row_less hg hf hfe
        have h2 := holdsIdeal_row.1 h f hf (by rw [hx, if_neg (by omega), hup f hf hfe]; exact hRf) e hfe
        rw [hx, if_pos rfl, hte] at h2
        cases h2
      rw [tog_no hn]
      by_cases h : i = e
      · subst h; rw [if_pos rfl, hte, hR]
      · rw [if_neg h]
    · have hR : (rowmo xs s).testBit e = false := by
        rw [Bool.eq_false_iff]
        intro h
        obtain ⟨f, hf, hpf, h1 | h1⟩ := (rowmo_bitR xs s e).1 h
        · subst h1; rw [(rowP_iff.1 hpf).1] at hse; cases hse
        · exact hc ⟨f, hf, h1, (rowmo_bitR xs s f).2 ⟨f, hf, hpf, .inl rfl⟩⟩
      have hy : holdsIdeal xs (t ^^^ 2 ^ e) = true := by
        refine holdsIdeal_row.2 fun f hf hb j hj => ?_
        rw [hx] at hb ⊢
        by_cases hfe : f = e
        · rw [if_pos hfe, hte] at hb; cases hb
        · rw [if_neg hfe] at hb
          by_cases hje : j = e
          · subst hje
            exact absurd ⟨f, hf, hj, by rw [← hup f hf hj]; exact hb⟩ hc
          · rw [if_neg hje]
            exact holdsIdeal_row.1 ht f hf hb j hj
      rw [tog_yes hy, hx]
      by_cases h : i = e
      · rw [if_pos h, if_pos h, hte, hR]; rfl
      · rw [if_neg h, if_neg h]
/-! ### heights rise -/
theorem hin_far (xs : List Int) (i : Nat) (out : List Int) (hi : i < out.length) (e : Nat) (he : e ≠ i) : ∀ j, (hin xs i out j).getD e 0 = out.getD e 0 ∧ (hin xs i out j).length = out.length
  | 0 => ⟨rfl, rfl⟩
  | j + 1 => by
    obtain ⟨h1, h2⟩ := hin_far xs i out hi e he j
    unfold hin hstep
    split
    · rw [getD_set _ _ _ _ (by rw [h2]; exact hi), if_neg (by omega), List.length_set]; exact ⟨h1, h2⟩
    · exact ⟨h1, h2⟩
theorem hin_ge (xs : List Int) (i : Nat) (out : List Int) (hi : i < out.length) {j : Nat} : ∀ k, j < k → k ≤ i → (xs.getD i 0).toNat.testBit j = true → out.getD j 0 + 1 ≤ (hin xs i out k).getD i 0
  | 0, h, _, _ => by omega
  | k + 1, h, hk, hb => by
    have h2 := (hin_far xs i out hi j (by omega) k)
    have hl : (hin xs i out k).length = out.length := h2.2
    by_cases hjk : j = k
    · subst hjk
      unfold hin hstep
      rw [if_pos hb, getD_set _ _ _ _ (by rw [hl]; exact hi), if_pos rfl, h2.1]
      omega
    · have ih := hin_ge xs i out hi k (by omega) (by omega) hb
      unfold hin hstep
      split
      · rw [getD_set _ _ _ _ (by rw [hl]; exact hi), if_pos rfl]; omega
      · exact ih
theorem hout_far (xs : List Int) (n e : Nat) : ∀ d i, e < i → i + d ≤ n → (hout xs n (i + d)).getD e 0 = (hout xs n i).getD e 0
  | 0, i, _, _ => rfl
  | d + 1, i, he, hn => by
    show (hin xs (i + d) (hout xs n (i + d)) (i + d)).getD e 0 = _
    rw [(hin_far xs (i + d) _ (by rw [(HB_out xs n (i + d) (by omega)).1]; omega) e (by omega) (i + d)).1]
    exact hout_far xs n e d i he (by omega)
theorem height_rise {xs : List Int} (hg : good xs = true) {e j : Nat} (he : e < xs.length) (hj : (row xs e).testBit j = true) : ((heightsL xs).getD j 0).toNat < ((heightsL xs).getD e 0).toNat := by
  have hje := row_less hg he hj
  have h1 : (heightsL xs).getD e 0 = (hout xs xs.length (e + 1)).getD e 0 := by
    rw [heightsL_yes hg]
    have := hout_far xs xs.length e (xs.length - (e + 1)) (e + 1) (by omega) (by omega)
    rwa [show e + 1 + (xs.length - (e + 1)) = xs.length by omega] at this
  have h2 : (heightsL xs).getD j 0 = (hout xs xs.length e).getD j 0 := by
    rw [heightsL_yes hg]
    have := hout_far xs xs.length j (xs.length - e) e hje (by omega)
    rwa [show e + (xs.length - e) = xs.length by omega] at this
  have h3 := hin_ge xs e (hout xs xs.length e) (by rw [(HB_out xs xs.length e (by omega)).1]; exact he) (j := j) e hje (Nat.le_refl _) hj
  have h4 : (hout xs xs.length (e + 1)).getD e 0 = (hin xs e (hout xs xs.length e) e).getD e 0 := rfl
  have h5 := heights_bound hg j
  omega
/-! ### rowmotion by ranks -/
/-- what t is, where the elements of which A tells have got rowmotion's bits and the others have s's -/
def Half (xs : List Int) (s : Nat) (A : Nat → Prop) (t : Nat) : Prop :=
  holdsIdeal xs t = true ∧ ∀ e, e < xs.length → (A e → t.testBit e = (rowmo xs s).testBit e) ∧ (¬ A e → t.testBit e = s.testBit e)
theorem half_step {xs : List Int} (hg : good xs = true) {s t a i : Nat} {A : Nat → Prop} (h : Half xs s A t) (ha : a < xs.length) (hi : ((heightsL xs).getD a 0).toNat = i) (hA1 : ∀ e, e < xs.length → i < ((heightsL xs).getD e 0).toNat → A e)
    (hA2 : ∀ e, e < xs.length → ((heightsL xs).getD e 0).toNat < i → ¬ A e) (hna : ¬ A a) : Half xs s (fun e => A e ∨ e = a) (tog xs t a) := by
  have hst := tog_stepR hg h.1 ha (s := s)
    (fun j hj => by
      have hjl := row_less hg ha hj
      have hr := height_rise hg ha hj
      exact (h.2 j (by omega)).2 (hA2 j (by omega) (by omega)))
    (fun f hf hfa => by
      have hr := height_rise hg hf hfa
      exact (h.2 f hf).1 (hA1 f hf (by omega)))
    ((h.2 a ha).2 hna)
  refine ⟨tog_ideal h.1, fun e he => ⟨fun hh => ?_, fun hh => ?_⟩⟩
  · rw [hst e]
    by_cases hea : e = a
    · rw [if_pos hea, hea]
    · rw [if_neg hea]
      exact (h.2 e he).1 (hh.elim id fun h' => absurd h' hea)
  · rw [hst e, if_neg fun h' => hh (Or.inr h')]
    exact (h.2 e he).2 fun h' => hh (Or.inl h')
theorem half_block {xs : List Int} (hg : good xs = true) {s i : Nat} : ∀ (es : List Nat) (A : Nat → Prop) (t : Nat), Half xs s A t → (∀ e ∈ es, e < xs.length ∧ ((heightsL xs).getD e 0).toNat = i) → es.Nodup →
    (∀ e, e < xs.length → i < ((heightsL xs).getD e 0).toNat → A e) → (∀ e, e < xs.length → ((heightsL xs).getD e 0).toNat < i → ¬ A e) → (∀ e ∈ es, ¬ A e) → Half xs s (fun e => A e ∨ e ∈ es) (togW xs t (es.map fun e : Nat => (e : Int)))
  | [], A, t, h, _, _, _, _, _ => by
    have : (fun e => A e ∨ e ∈ ([] : List Nat)) = A := by funext e; simp
    rw [this]; exact h
  | a :: es, A, t, h, hes, hn, hA1, hA2, hA3 => by
    obtain ⟨ha1, ha2⟩ := hes a (by simp)
    rw [List.nodup_cons] at hn
    have h1 := half_step hg h ha1 ha2 hA1 hA2 (hA3 a (by simp))
    have h2 := half_block hg es (fun e => A e ∨ e = a) (tog xs t a) h1 (fun e he => hes e (List.mem_cons_of_mem _ he)) hn.2
      (fun e he hi => Or.inl (hA1 e he hi)) (fun e he hi hh => hh.elim (hA2 e he hi) fun h' => by subst h'; omega)
      (fun e he hh => hh.elim (hA3 e (List.mem_cons_of_mem _ he)) fun h' => hn.1 (h' ▸ he))
    have : (fun e => A e ∨ e ∈ a :: es) = (fun e => (A e ∨ e = a) ∨ e ∈ es) := by
      funext e
      simp only [List.mem_cons, or_assoc]
    rw [this]
    exact h2
theorem rank_row {xs : List Int} (hg : good xs = true) {h : Nat} (hh : rkN xs = h + 1) {s : Nat} (hs : s < 2 ^ xs.length) (hi : holdsIdeal xs s = true) : togW xs s (rkW (rankL xs) (wRow h)) = rowmo xs s := by
  have hl := (good_length hg).2
  have main : ∀ d, d ≤ h + 1 → Half xs s (fun e => h + 1 ≤ ((heightsL xs).getD e 0).toNat + d) (togW xs s (rkW (rankL xs) (mapT (fun j => ((h - j : Nat) : Int)) d))) := by
    intro d
    induction d with
    | zero =>
      intro _
      refine ⟨hi, fun e he => ⟨fun hh2 => ?_, fun _ => rfl⟩⟩
      have := height_lt he; omega
    | succ d ih =>
      intro hd
      have ih := ih (by omega)
      rw [mapT_succ, rkW_append, togW_app, rkW_one, Int.toNat_natCast]
      have hr : h - d < rkN xs := by omega
      obtain ⟨r, e1, e2, e3, e4⟩ : ∃ r : Nat, (rankL xs).getD (h - d) 0 = (r : Int) ∧ r < 2 ^ xs.length ∧ True ∧ elL 10 ((rankL xs).getD (h - d) 0).toNat = elL xs.length r := by
        have h1 := rkE_lt (heightsL xs) (Nat.le_refl xs.length) (h - d)
        refine ⟨_, rankL_get hr, h1, trivial, ?_⟩
        rw [rankL_get hr, Int.toNat_natCast]
        exact elL_ten h1 hl
      have hm : ∀ e ∈ elN xs.length r, e < xs.length ∧ ((heightsL xs).getD e 0).toNat = h - d := by
        intro e he
        have he2 : (e : Int) ∈ elL 10 ((rankL xs).getD (h - d) 0).toNat := by rw [e4]; exact List.mem_map.2 ⟨e, he, rfl⟩
        obtain ⟨f, g1, g2, _, g4⟩ := (rank_mem hr (e : Int)).1 he2
        have : f = e := by omega
        subst this; exact ⟨g2, g4⟩
      rw [e4]
      have h2 := half_block hg (elN xs.length r) _ _ ih hm (elN_nodup _ _) (fun e he hi2 => by omega) (fun e he hi2 => by omega) (fun e he => by have := (hm e he).2; omega)
      refine ⟨h2.1, fun e he => ⟨fun hA => (h2.2 e he).1 ?_, fun hA => (h2.2 e he).2 ?_⟩⟩
      · by_cases h3 : h + 1 ≤ ((heightsL xs).getD e 0).toNat + d
        · exact Or.inl h3
        · refine Or.inr ?_
          have he2 : (e : Int) ∈ elL 10 ((rankL xs).getD (h - d) 0).toNat := (rank_mem hr (e : Int)).2 ⟨e, rfl, he, by omega, by omega⟩
          rw [e4] at he2
          obtain ⟨f, g1, g2⟩ := List.mem_map.1 he2
          have : f = e := by omega
          subst this; exact g1
      · rintro (h3 | h3)
        · omega
        · have := (hm e h3).2; omega
  have hf := main (h + 1) (Nat.le_refl _)
  have hw : mapT (fun j => ((h - j : Nat) : Int)) (h + 1) = wRow h := by rw [wRow_eq]; rfl
  rw [hw] at hf
  apply Nat.eq_of_testBit_eq
  intro i
  by_cases hil : i < xs.length
  · exact (hf.2 i hil).1 (by omega)
  · have h1 : togW xs s (rkW (rankL xs) (wRow h)) < 2 ^ xs.length := togW_lt hs (inW_rkW hg (inW_wRow (by omega)))
    have h2 := rowmo_lt hg s
    rw [Bool.eq_iff_iff]
    constructor <;> intro hb
    · exact absurd (testBit_lt h1 hb) hil
    · exact absurd (testBit_lt h2 hb) hil
end Go.Proofs.YtdemikjaghegnaaGreat

/- The orbits of a motion make up all. No program is named here. -/
namespace Go.Proofs.YtdemikjaghegnaaGreat
set_option linter.unusedVariables false

theorem per_orbC {f : Nat → Nat} {D : Nat → Bool} {N : Nat} (h : Mov f D N) {s t : Nat} (hs : D s = true) (ht : t ∈ orbN f N s) : per f N t = per f N s := by
  have hd := mem_orbN_D h hs ht
  have key : ∀ a b, D a = true → b ∈ orbN f N a → per f N b ≤ per f N a := by
    intro a b ha hb
    have hbd := mem_orbN_D h ha hb
    obtain ⟨k, rfl⟩ := (mem_orbN h ha b).1 hb
    obtain ⟨h1, h2, -, -⟩ := h.perS ha
    obtain ⟨-, -, -, h4⟩ := h.perS hbd
    rcases Nat.lt_or_ge (per f N a) (per f N (iter f k a)) with hlt | hge
    · exfalso
      refine h4 _ h2 hlt ?_
      rw [← iter_add, Nat.add_comm, iter_add, h1]
    · exact hge
  exact Nat.le_antisymm (key s t hs ht) (key t s hd (mem_orbN_symm h hs ht))
theorem fix_iff {f : Nat → Nat} {D : Nat → Bool} {N : Nat} (h : Mov f D N) {s : Nat} (hs : D s = true) (d : Nat) : iter f d s = s ↔ d % per f N s = 0 := by
  obtain ⟨h1, h2, h3, h4⟩ := h.perS hs
  have hlt := Nat.mod_lt d (show 0 < per f N s by omega)
  constructor
  · intro e
    rw [h.md hs d] at e
    rcases Nat.eq_zero_or_pos (d % per f N s) with h0 | h0
    · exact h0
    · exact absurd e (h4 _ h0 hlt)
  · intro e
    rw [h.md hs d, e]; rfl
theorem orbN_nodup {f : Nat → Nat} {D : Nat → Bool} {N : Nat} (h : Mov f D N) {s : Nat} (hs : D s = true) : (orbN f N s).Nodup :=
  nodup_map_range _ fun i j h1 h2 => h.orb_ne hs h1 h2
def flatO (f : Nat → Nat) (N : Nat) (st : List Nat) : List Nat := st.flatMap (orbN f N)
theorem flatO_mem (f : Nat → Nat) (N : Nat) (st : List Nat) (t : Nat) : t ∈ flatO f N st ↔ seenB f N st t = true := by
  unfold flatO seenB
  rw [List.mem_flatMap, List.any_eq_true]
  constructor
  · rintro ⟨s, h1, h2⟩; exact ⟨s, h1, List.contains_iff_mem.2 h2⟩
  · rintro ⟨s, h1, h2⟩; exact ⟨s, h1, List.contains_iff_mem.1 h2⟩
theorem flatO_nodup {f : Nat → Nat} {D : Nat → Bool} {N : Nat} (h : Mov f D N) {ids : List Int} (hD : ∀ j, j < ids.length → D (ids.getD j 0).toNat = true) (k : Nat) (hk : k ≤ ids.length) : (flatO f N (startsN f N ids k)).Nodup := by
  induction k with
  | zero => simp [flatO, startsN]
  | succ k ih =>
    have hDk := hD k (by omega)
    cases hq : seenB f N (startsN f N ids k) (ids.getD k 0).toNat
    · rw [startsN_no hq]
      unfold flatO
      rw [List.flatMap_append, List.nodup_append]
      refine ⟨ih (by omega), by simpa using orbN_nodup h hDk, fun a ha b hb e => ?_⟩
      subst e
      have h1 := (flatO_mem f N _ a).1 ha
      have h2 : a ∈ orbN f N (ids.getD k 0).toNat := by simpa using hb
      rw [seenB_orb h (fun s hs => startsN_D hD (show k ≤ ids.length by omega) hs) hDk hq h2] at h1
      cases h1
    · rw [startsN_yes hq]; exact ih (by omega)
theorem flatO_all {f : Nat → Nat} {D : Nat → Bool} {N : Nat} (h : Mov f D N) {ids : List Int} (hD : ∀ j, j < ids.length → D (ids.getD j 0).toNat = true) (hall : ∀ t, D t = true → ∃ j, j < ids.length ∧ (ids.getD j 0).toNat = t) (t : Nat) : t ∈ flatO f N (starts f N ids) ↔ D t = true := by
  rw [flatO_mem]
  constructor
  · intro hs
    unfold seenB at hs
    rw [List.any_eq_true] at hs
    obtain ⟨s, h1, h2⟩ := hs
    exact mem_orbN_D h (startsN_D hD (Nat.le_refl _) h1) (List.contains_iff_mem.1 h2)
  · intro ht
    obtain ⟨j, hj, rfl⟩ := hall t ht
    exact startsN_seen h hD (Nat.le_refl _) hj
theorem flatO_perm {f : Nat → Nat} {D : Nat → Bool} {N : Nat} (h : Mov f D N) {ids : List Int} (hD : ∀ j, j < ids.length → D (ids.getD j 0).toNat = true) (hall : ∀ t, D t = true → ∃ j, j < ids.length ∧ (ids.getD j 0).toNat = t) {L : List Nat} (hn : L.Nodup) (hL : ∀ t, t ∈ L ↔ D t = true) : L.Perm (flatO f N (starts f N ids)) := by
  refine (List.perm_ext_iff_of_nodup hn (flatO_nodup h hD _ (Nat.le_refl _))).2 fun t => ?_
  rw [hL, ← flatO_all h hD hall]; rfl
end Go.Proofs.YtdemikjaghegnaaGreat
