/- Texts Orb, RvM, RvW, one behind the other. -/
import Derived.Test.YtdemikjaghegnaaGreatPkRanksMakeRowmotionProof09
import Derived.Test.YtdemikjaghegnaaGreatPkRanksMakeRowmotionProof11
/- Orbits of a motion, which ideals begin them, cycles told by these; rowmotion and toggles move ideals. No program is named here. -/
namespace Go.Proofs.YtdemikjaghegnaaGreat
set_option linter.unusedVariables false

/-- 'f' moves the numbers of kind D, all below N, into one another, no two to the same -/
structure Mov (f : Nat → Nat) (D : Nat → Bool) (N : Nat) : Prop where
  lt : ∀ s, D s = true → s < N
  ins : ∀ s, D s = true → D (f s) = true
  inj : ∀ s t, D s = true → D t = true → f s = f t → s = t
theorem Mov.it {f : Nat → Nat} {D : Nat → Bool} {N : Nat} (h : Mov f D N) {s : Nat} (hs : D s = true) (k : Nat) : D (iter f k s) = true := by
  induction k with
  | zero => exact hs
  | succ k ih => exact h.ins _ ih
theorem iter_add (f : Nat → Nat) (j k s : Nat) : iter f (j + k) s = iter f j (iter f k s) := by
  induction j with
  | zero => rw [Nat.zero_add]; rfl
  | succ j ih => rw [Nat.succ_add]; simp only [iter]; rw [ih]
theorem Mov.back {f : Nat → Nat} {D : Nat → Bool} {N : Nat} (h : Mov f D N) {s t : Nat} (hs : D s = true) (ht : D t = true) (k : Nat) (e : iter f k s = iter f k t) : s = t := by
  induction k with
  | zero => exact e
  | succ k ih => exact ih (h.inj _ _ (h.it hs k) (h.it ht k) e)
theorem nodup_map_range {g : Nat → Nat} (n : Nat) (h : ∀ i j, i < j → j < n → g i ≠ g j) : ((List.range n).map g).Nodup := by
  rw [List.nodup_iff_pairwise_ne, List.pairwise_map]
  refine List.Pairwise.imp_of_mem ?_ (List.pairwise_lt_range (n := n))
  intro a b ha hb hab
  exact h a b hab (List.mem_range.1 hb)
theorem Mov.some_back {f : Nat → Nat} {D : Nat → Bool} {N : Nat} (h : Mov f D N) {s : Nat} (hs : D s = true) : ∃ n, 1 ≤ n ∧ n ≤ N ∧ iter f n s = s := by
  by_cases hc : ∃ i j, i < j ∧ j < N + 1 ∧ iter f i s = iter f j s
  · obtain ⟨i, j, h1, h2, h3⟩ := hc
    refine ⟨j - i, by omega, by omega, ?_⟩
    have e : i + (j - i) = j := by omega
    have h4 : iter f i s = iter f i (iter f (j - i) s) := by rw [← iter_add, e]; exact h3
    exact (h.back hs (h.it hs _) i h4).symm
  · exfalso
    have hn : ((List.range (N + 1)).map fun k => iter f k s).Nodup :=
      nodup_map_range (N + 1) fun i j h1 h2 h3 => hc ⟨i, j, h1, h2, h3⟩
    have hsub : ((List.range (N + 1)).map fun k => iter f k s) ⊆ List.range N := by
      intro x hx
      rw [List.mem_map] at hx
      obtain ⟨k, _, rfl⟩ := hx
      exact List.mem_range.2 (h.lt _ (h.it hs k))
    have := hn.length_le_of_subset hsub
    simp at this
    omega
/-- the least n from 'n0' on, within 'c' tries, with f^n s = s -/
def perF (f : Nat → Nat) (s : Nat) : Nat → Nat → Nat
  | 0, n => n
  | c + 1, n => if iter f n s = s then n else perF f s c (n + 1)
def per (f : Nat → Nat) (N s : Nat) : Nat := perF f s N 1
theorem perF_spec (f : Nat → Nat) (s : Nat) (c n m : Nat) (hm : n ≤ m) (hc : m ≤ n + c) (h : iter f m s = s) :
    iter f (perF f s c n) s = s ∧ n ≤ perF f s c n ∧ perF f s c n ≤ m ∧ ∀ k, n ≤ k → k < perF f s c n → iter f k s ≠ s := by
  induction c generalizing n with
  | zero =>
    have : m = n := by omega
    subst this
    exact ⟨h, Nat.le_refl _, Nat.le_refl _, fun k h1 h2 => by simp only [perF] at h2; omega⟩
  | succ c ih =>
    unfold perF
    split
    · rename_i hq
      exact ⟨hq, Nat.le_refl _, hm, fun k h1 h2 => by omega⟩
    · rename_i hq
      have hne : n ≠ m := by rintro rfl; exact hq h
      obtain ⟨h1, h2, h3, h4⟩ := ih (n + 1) (by omega) (by omega)
      refine ⟨h1, by omega, h3, fun k h5 h6 => ?_⟩
      by_cases e : k = n
      · subst e; exact hq
      · exact h4 k (by omega) h6
theorem Mov.perS {f : Nat → Nat} {D : Nat → Bool} {N : Nat} (h : Mov f D N) {s : Nat} (hs : D s = true) :
    iter f (per f N s) s = s ∧ 1 ≤ per f N s ∧ per f N s ≤ N ∧ ∀ k, 1 ≤ k → k < per f N s → iter f k s ≠ s := by
  obtain ⟨m, h1, h2, h3⟩ := h.some_back hs
  obtain ⟨a, b, c, d⟩ := perF_spec f s N 1 m h1 (by omega) h3
  exact ⟨a, b, by unfold per; omega, d⟩
/-- the orbit, as far as k -/
def orbT (f : Nat → Nat) (s k : Nat) : List Nat := (List.range k).map fun j => iter f j s
def orbN (f : Nat → Nat) (N s : Nat) : List Nat := orbT f s (per f N s)
theorem orbT_length (f : Nat → Nat) (s k : Nat) : (orbT f s k).length = k := by simp [orbT]
theorem orbN_length (f : Nat → Nat) (N s : Nat) : (orbN f N s).length = per f N s := orbT_length _ _ _
theorem orbT_succ (f : Nat → Nat) (s k : Nat) : orbT f s (k + 1) = orbT f s k ++ [iter f k s] := by simp [orbT, List.range_succ]
theorem orbT_get (f : Nat → Nat) (s : Nat) {k j : Nat} (hj : j < k) : (orbT f s k).getD j 0 = iter f j s := by simp [orbT, List.getD, hj]
theorem iter_mul {f : Nat → Nat} {s n : Nat} (h : iter f n s = s) (q : Nat) : iter f (n * q) s = s := by
  induction q with
  | zero => rfl
  | succ q ih => rw [Nat.mul_succ, Nat.add_comm, iter_add, ih, h]
theorem Mov.md {f : Nat → Nat} {D : Nat → Bool} {N : Nat} (h : Mov f D N) {s : Nat} (hs : D s = true) (k : Nat) : iter f k s = iter f (k % per f N s) s := by
  obtain ⟨h1, -, -, -⟩ := h.perS hs
  have e : k = k % per f N s + per f N s * (k / per f N s) := (Nat.mod_add_div k _).symm
  rw [e, iter_add, iter_mul h1]
  rw [← e]
theorem mem_orbN {f : Nat → Nat} {D : Nat → Bool} {N : Nat} (h : Mov f D N) {s : Nat} (hs : D s = true) (t : Nat) : t ∈ orbN f N s ↔ ∃ k, iter f k s = t := by
  unfold orbN orbT
  rw [List.mem_map]
  constructor
  · rintro ⟨k, -, hk⟩; exact ⟨k, hk⟩
  · rintro ⟨k, hk⟩
    obtain ⟨-, h2, -, -⟩ := h.perS hs
    exact ⟨k % per f N s, List.mem_range.2 (Nat.mod_lt _ (by omega)), by rw [← h.md hs k]; exact hk⟩
theorem Mov.reach_symm {f : Nat → Nat} {D : Nat → Bool} {N : Nat} (h : Mov f D N) {s : Nat} (hs : D s = true) (k : Nat) : ∃ j, iter f j (iter f k s) = s := by
  obtain ⟨h1, h2, h3, h4⟩ := h.perS (h.it hs k)
  obtain ⟨h1, h2, h3, h4⟩ := h.perS hs
  refine ⟨per f N s * k - k, ?_⟩
  rw [← iter_add]
  have : k ≤ per f N s * k := Nat.le_mul_of_pos_left k (by omega)
  rw [show per f N s * k - k + k = per f N s * k by omega]
  exact iter_mul h1 k
theorem mem_orbN_D {f : Nat → Nat} {D : Nat → Bool} {N : Nat} (h : Mov f D N) {s t : Nat} (hs : D s = true) (ht : t ∈ orbN f N s) : D t = true := by
  obtain ⟨k, rfl⟩ := (mem_orbN h hs t).1 ht
  exact h.it hs k
theorem mem_orbN_symm {f : Nat → Nat} {D : Nat → Bool} {N : Nat} (h : Mov f D N) {s t : Nat} (hs : D s = true) (ht : t ∈ orbN f N s) : s ∈ orbN f N t := by
  have hd := mem_orbN_D h hs ht
  obtain ⟨k, rfl⟩ := (mem_orbN h hs t).1 ht
  exact (mem_orbN h hd s).2 (h.reach_symm hs k)
theorem mem_orbN_trans {f : Nat → Nat} {D : Nat → Bool} {N : Nat} (h : Mov f D N) {r s t : Nat} (hr : D r = true) (h1 : s ∈ orbN f N r) (h2 : t ∈ orbN f N s) : t ∈ orbN f N r := by
  have hd := mem_orbN_D h hr h1
  obtain ⟨k, rfl⟩ := (mem_orbN h hr s).1 h1
  obtain ⟨j, rfl⟩ := (mem_orbN h hd t).1 h2
  exact (mem_orbN h hr _).2 ⟨j + k, by rw [iter_add]⟩
theorem self_mem_orbN {f : Nat → Nat} {D : Nat → Bool} {N : Nat} (h : Mov f D N) {s : Nat} (hs : D s = true) : s ∈ orbN f N s := (mem_orbN h hs s).2 ⟨0, rfl⟩
theorem Mov.orb_ne {f : Nat → Nat} {D : Nat → Bool} {N : Nat} (h : Mov f D N) {s : Nat} (hs : D s = true) {i j : Nat} (hij : i < j) (hj : j < per f N s) : iter f i s ≠ iter f j s := by
  intro e
  obtain ⟨h1, h2, h3, h4⟩ := h.perS hs
  have h5 : iter f i s = iter f i (iter f (j - i) s) := by rw [← iter_add, show i + (j - i) = j by omega]; exact e
  exact h4 (j - i) (by omega) (by omega) (h.back hs (h.it hs _) i h5).symm

/-! ### which ideals begin an orbit -/
/-- seen by an orbit that begins with one of the first k -/
def seenB (f : Nat → Nat) (N : Nat) (st : List Nat) (t : Nat) : Bool := st.any fun s => (orbN f N s).contains t
/-- the first ideals of the orbits, among the first k of a list -/
def startsN (f : Nat → Nat) (N : Nat) (ids : List Int) : Nat → List Nat
  | 0 => []
  | k + 1 => if seenB f N (startsN f N ids k) (ids.getD k 0).toNat then startsN f N ids k else startsN f N ids k ++ [(ids.getD k 0).toNat]
theorem startsN_yes {f : Nat → Nat} {N : Nat} {ids : List Int} {k : Nat} (h : seenB f N (startsN f N ids k) (ids.getD k 0).toNat = true) : startsN f N ids (k + 1) = startsN f N ids k := if_pos h
theorem startsN_no {f : Nat → Nat} {N : Nat} {ids : List Int} {k : Nat} (h : seenB f N (startsN f N ids k) (ids.getD k 0).toNat = false) : startsN f N ids (k + 1) = startsN f N ids k ++ [(ids.getD k 0).toNat] := by
  exact if_neg (by rw [h]; decide)
theorem seenB_snoc (f : Nat → Nat) (N : Nat) (st : List Nat) (s t : Nat) : seenB f N (st ++ [s]) t = (seenB f N st t || (orbN f N s).contains t) := by
  simp [seenB, List.any_append]
theorem startsN_length (f : Nat → Nat) (N : Nat) (ids : List Int) (k : Nat) : (startsN f N ids k).length ≤ k := by
  induction k with
  | zero => simp [startsN]
  | succ k ih =>
    unfold startsN
    split
    · omega
    · rw [List.length_append]; simp; omega
theorem startsN_mem {f : Nat → Nat} {N : Nat} {ids : List Int} {k s : Nat} (hk : k ≤ ids.length) (h : s ∈ startsN f N ids k) : ∃ j, j < k ∧ (ids.getD j 0).toNat = s := by
  induction k with
  | zero => simp [startsN] at h
  | succ k ih =>
    unfold startsN at h
    split at h
    · obtain ⟨j, h1, h2⟩ := ih (by omega) h; exact ⟨j, by omega, h2⟩
    · rw [List.mem_append, List.mem_singleton] at h
      rcases h with h | h
      · obtain ⟨j, h1, h2⟩ := ih (by omega) h; exact ⟨j, by omega, h2⟩
      · exact ⟨k, by omega, h.symm⟩
theorem startsN_D {f : Nat → Nat} {D : Nat → Bool} {N : Nat} {ids : List Int} (hD : ∀ j, j < ids.length → D (ids.getD j 0).toNat = true) {k s : Nat} (hk : k ≤ ids.length) (h : s ∈ startsN f N ids k) : D s = true := by
  obtain ⟨j, h1, rfl⟩ := startsN_mem hk h
  exact hD j (by omega)
/-- what is seen is closed under the motion, to and fro -/
theorem seenB_orb {f : Nat → Nat} {D : Nat → Bool} {N : Nat} (h : Mov f D N) {st : List Nat} (hst : ∀ s ∈ st, D s = true) {t : Nat} (ht : D t = true) (hs : seenB f N st t = false) {u : Nat} (hu : u ∈ orbN f N t) : seenB f N st u = false := by
  cases hc : seenB f N st u
  · rfl
  · unfold seenB at hc hs
    rw [List.any_eq_true] at hc
    obtain ⟨s, h1, h2⟩ := hc
    have h2' : u ∈ orbN f N s := by simpa using h2
    have h3 := mem_orbN_symm h ht hu
    have h4 := mem_orbN_trans h (hst s h1) h2' h3
    have : (st.any fun s => (orbN f N s).contains t) = true := List.any_eq_true.2 ⟨s, h1, by simpa using h4⟩
    rw [this] at hs; cases hs
theorem startsN_seen {f : Nat → Nat} {D : Nat → Bool} {N : Nat} (h : Mov f D N) {ids : List Int} (hD : ∀ j, j < ids.length → D (ids.getD j 0).toNat = true) {k : Nat} (hk : k ≤ ids.length) {j : Nat} (hj : j < k) : seenB f N (startsN f N ids k) (ids.getD j 0).toNat = true := by
  induction k with
  | zero => omega
  | succ k ih =>
    by_cases e : j = k
    · subst e
      cases hq : seenB f N (startsN f N ids j) (ids.getD j 0).toNat
      · rw [startsN_no hq, seenB_snoc]
        have := self_mem_orbN h (hD j (by omega))
        rw [Bool.or_eq_true]; exact .inr (List.contains_iff_mem.2 this)
      · rw [startsN_yes hq]; exact hq
    · have h1 := ih (by omega) (by omega)
      cases hq : seenB f N (startsN f N ids k) (ids.getD k 0).toNat
      · rw [startsN_no hq, seenB_snoc, h1]; rfl
      · rw [startsN_yes hq]; exact h1
def starts (f : Nat → Nat) (N : Nat) (ids : List Int) : List Nat := startsN f N ids ids.length
/-- a list of marks -/
def marksB (g : Nat → Bool) (N : Nat) : List Bool := (List.range N).map g
theorem marksB_length (g : Nat → Bool) (N : Nat) : (marksB g N).length = N := by simp [marksB]
theorem marksB_get (g : Nat → Bool) {N t : Nat} (h : t < N) : (marksB g N).getD t true = g t := by simp [marksB, List.getD, h]
theorem marksB_set (g : Nat → Bool) (N t : Nat) : (marksB g N).set t true = marksB (fun x => g x || x == t) N := by
  apply List.ext_getElem?
  intro i
  rw [List.getElem?_set, marksB_length]
  by_cases hi : i < N
  · by_cases e : t = i
    · subst e; simp [marksB, hi]
    · simp [marksB, hi, e, show ¬ i = t from fun h => e h.symm]
  · have h1 : (marksB g N)[i]? = none := List.getElem?_eq_none (by rw [marksB_length]; omega)
    have h2 : (marksB (fun x => g x || x == t) N)[i]? = none := List.getElem?_eq_none (by rw [marksB_length]; omega)
    rw [h1, h2]
    by_cases e : t = i
    · subst e; simp [hi]
    · simp [e]
theorem marksB_congr {g h : Nat → Bool} {N : Nat} (e : ∀ t, t < N → g t = h t) : marksB g N = marksB h N := by
  unfold marksB
  exact List.map_congr_left fun t ht => e t (List.mem_range.1 ht)
theorem marksB_none (N : Nat) : marksB (fun _ => false) N = List.replicate N false := by
  apply List.ext_getElem?
  intro i
  by_cases hi : i < N <;> simp [marksB, hi]

/-! ### the cycles, told by where they begin -/
theorem orbT_contains_succ (f : Nat → Nat) (s k x : Nat) : (orbT f s (k + 1)).contains x = ((orbT f s k).contains x || x == iter f k s) := by
  rw [orbT_succ, List.contains_eq_any_beq, List.contains_eq_any_beq, List.any_append]; simp
theorem not_orbT {f : Nat → Nat} {D : Nat → Bool} {N : Nat} (h : Mov f D N) {s : Nat} (hs : D s = true) {k : Nat} (hk : k < per f N s) : (orbT f s k).contains (iter f k s) = false := by
  rw [Bool.eq_false_iff]
  intro hc
  have hm : iter f k s ∈ orbT f s k := List.contains_iff_mem.1 hc
  unfold orbT at hm
  rw [List.mem_map] at hm
  obtain ⟨i, hi, he⟩ := hm
  exact h.orb_ne hs (List.mem_range.1 hi) hk he
/-! ### cycles as the program counts them -/
theorem cyc1_orb {f : Nat → Nat} {D : Nat → Bool} {N : Nat} (h : Mov f D N) {s : Nat} (hs : D s = true) {g : Nat → Bool} (hg : ∀ t, t ∈ orbN f N s → g t = false) (c j : Nat) (hj : j + c = per f N s) :
    cyc1 f (marksB (fun x => g x || (orbT f s j).contains x) N) (iter f j s) j = (marksB (fun x => g x || (orbN f N s).contains x) N, per f N s) := by
  obtain ⟨h1, h2, h3, h4⟩ := h.perS hs
  induction c generalizing j with
  | zero =>
    have : j = per f N s := by omega
    subst this
    have hm : (orbT f s (per f N s)).contains s = true := List.contains_iff_mem.2 (self_mem_orbN h hs)
    rw [h1, cyc1_stop (by rw [marksB_get _ (h.lt s hs), hm, Bool.or_true])]
    rfl
  | succ c ih =>
    have hlt := h.lt _ (h.it hs j)
    have hmem : iter f j s ∈ orbN f N s := (mem_orbN h hs _).2 ⟨j, rfl⟩
    have hno := not_orbT h hs (show j < per f N s by omega)
    rw [cyc1_go (by rw [marksB_length]; exact hlt) (by rw [marksB_get _ hlt, hg _ hmem, hno]; rfl), marksB_set]
    rw [← ih (j + 1) (by omega)]
    rw [marksB_congr (g := fun x => (g x || (orbT f s j).contains x) || x == iter f j s) (h := fun x => g x || (orbT f s (j + 1)).contains x) (fun t _ => by rw [orbT_contains_succ, Bool.or_assoc])]
    rfl
theorem cycSt_starts {f : Nat → Nat} {D : Nat → Bool} {N : Nat} (h : Mov f D N) {ids : List Int} (hD : ∀ j, j < ids.length → D (ids.getD j 0).toNat = true) (k : Nat) (hk : k ≤ ids.length) :
    cycSt f N ids k = (marksB (seenB f N (startsN f N ids k)) N, (startsN f N ids k).map fun s => ((per f N s : Nat) : Int)) := by
  induction k with
  | zero =>
    simp only [cycSt, startsN, List.map_nil]
    rw [← marksB_none]; rfl
  | succ k ih =>
    have hd := hD k (by omega)
    have hst : ∀ s ∈ startsN f N ids k, D s = true := fun s hs => startsN_D hD (by omega) hs
    simp only [cycSt, ih (by omega)]
    obtain ⟨s, hs⟩ : ∃ s, (ids.getD k 0).toNat = s := ⟨_, rfl⟩
    rw [hs] at hd ⊢
    cases hq : seenB f N (startsN f N ids k) s
    · have hc := cyc1_orb h hd (g := seenB f N (startsN f N ids k)) (fun t ht => seenB_orb h hst hd hq ht) (per f N s) 0 (by omega)
      have e0 : marksB (fun x => seenB f N (startsN f N ids k) x || (orbT f s 0).contains x) N = marksB (seenB f N (startsN f N ids k)) N := marksB_congr fun t _ => by simp [orbT]
      rw [e0] at hc
      simp only [iter] at hc
      rw [hc, startsN_no (by rw [hs]; exact hq), hs]
      have hp := (h.perS hd).2.1
      simp only [show 0 < per f N s by omega, if_true]
      rw [List.map_append]
      refine Prod.ext ?_ rfl
      exact marksB_congr fun t _ => (seenB_snoc _ _ _ _ _).symm
    · rw [cyc1_stop (by rw [marksB_get _ (h.lt s hd)]; exact hq), startsN_yes (by rw [hs]; exact hq)]
      rfl
theorem cyclesL_starts {f : Nat → Nat} {D : Nat → Bool} {N : Nat} (h : Mov f D N) {ids : List Int} (hD : ∀ j, j < ids.length → D (ids.getD j 0).toNat = true) :
    cyclesL f N ids = (starts f N ids).map fun s => ((per f N s : Nat) : Int) := by
  unfold cyclesL starts
  rw [cycSt_starts h hD ids.length (Nat.le_refl _)]

/-! ### rowmotion and toggles move ideals -/
def idB (xs : List Int) (s : Nat) : Bool := decide (s < 2 ^ xs.length) && holdsIdeal xs s
theorem idB_iff {xs : List Int} {s : Nat} : idB xs s = true ↔ s < 2 ^ xs.length ∧ holdsIdeal xs s = true := by simp [idB]
theorem rowP_iff {xs : List Int} {s e : Nat} : rowP xs s e = true ↔ s.testBit e = false ∧ ∀ j, (row xs e).testBit j = true → s.testBit j = true := by
  simp only [rowP, Bool.and_eq_true, Bool.not_eq_true', beq_iff_eq, sub_eq_zero]
/-- the elements of what rowmotion makes that lie in no row of it are the least ones outside -/
theorem rowmo_top {xs : List Int} (hg : good xs = true) {s : Nat} (hs : holdsIdeal xs s = true) {e : Nat} (he : e < xs.length) :
    rowP xs s e = true ↔ (rowmo xs s).testBit e = true ∧ ∀ i, i < xs.length → (rowmo xs s).testBit i = true → (row xs i).testBit e = false := by
  have hid := holdsIdeal_row.1 hs
  have hm : ∀ i, (rowmo xs s).testBit i = true ↔ ∃ m, m < xs.length ∧ rowP xs s m = true ∧ (m = i ∨ (row xs m).testBit i = true) := by
    intro i
    unfold rowmo
    rw [orN_testBit]
    constructor
    · rintro ⟨m, h1, h2, h3⟩
      refine ⟨m, h1, h2, ?_⟩
      unfold rowG at h3
      rw [Nat.testBit_or, Bool.or_eq_true, Nat.testBit_two_pow] at h3
      rcases h3 with h3 | h3
      · exact .inl (by simpa using h3)
      · exact .inr h3
    · rintro ⟨m, h1, h2, h3⟩
      refine ⟨m, h1, h2, ?_⟩
      unfold rowG
      rw [Nat.testBit_or, Bool.or_eq_true, Nat.testBit_two_pow]
      rcases h3 with h3 | h3
      · exact .inl (by simpa using h3)
      · exact .inr h3
  constructor
  · intro hp
    refine ⟨(hm e).2 ⟨e, he, hp, .inl rfl⟩, fun i hi hb => ?_⟩
    rw [Bool.eq_false_iff]
    intro hr
    obtain ⟨h1, h2⟩ := rowP_iff.1 hp
    obtain ⟨m, hm1, hm2, hm3⟩ := (hm i).1 hb
    obtain ⟨h3, h4⟩ := rowP_iff.1 hm2
    rcases hm3 with rfl | hm3
    · rw [h4 e hr] at h1; cases h1
    · have := hid i hi (h4 i hm3) e hr
      rw [this] at h1; cases h1
  · rintro ⟨hb, hno⟩
    obtain ⟨m, hm1, hm2, hm3⟩ := (hm e).1 hb
    rcases hm3 with rfl | hm3
    · exact hm2
    · have := hno m hm1 ((hm m).2 ⟨m, hm1, hm2, .inl rfl⟩)
      rw [this] at hm3; cases hm3
/-- an ideal is told by the least ones outside -/
theorem out_iff {xs : List Int} (hg : good xs = true) {s : Nat} (hs : holdsIdeal xs s = true) : ∀ n e, e < n → e < xs.length → (s.testBit e = false ↔ rowP xs s e = true ∨ ∃ j, (row xs e).testBit j = true ∧ rowP xs s j = true) := by
  have hid := holdsIdeal_row.1 hs
  intro n
  induction n with
  | zero => intro e h; omega
  | succ n ih =>
    intro e hn he
    constructor
    · intro hb
      by_cases hall : ∀ j, (row xs e).testBit j = true → s.testBit j = true
      · exact .inl (rowP_iff.2 ⟨hb, hall⟩)
      · have ⟨j, hj⟩ := Classical.not_forall.1 hall
        have ⟨hj1, hj2⟩ := Classical.not_imp.1 hj
        have hj3 : s.testBit j = false := by simpa using hj2
        have hlt : j < e := testBit_lt (row_lt hg he).2 hj1
        rcases (ih j (by omega) (by omega)).1 hj3 with h | ⟨i, h1, h2⟩
        · exact .inr ⟨j, hj1, h⟩
        · exact .inr ⟨i, row_closed hg he hj1 h1, h2⟩
    · rintro (h | ⟨j, h1, h2⟩)
      · exact (rowP_iff.1 h).1
      · rw [Bool.eq_false_iff]
        intro hb
        have h3 := hid e he hb j h1
        rw [(rowP_iff.1 h2).1] at h3; cases h3
theorem rowmo_inj {xs : List Int} (hg : good xs = true) {s t : Nat} (hs : holdsIdeal xs s = true) (ht : holdsIdeal xs t = true) (hsl : s < 2 ^ xs.length) (htl : t < 2 ^ xs.length) (h : rowmo xs s = rowmo xs t) : s = t := by
  have hP : ∀ e, e < xs.length → rowP xs s e = rowP xs t e := by
    intro e he
    rw [Bool.eq_iff_iff, rowmo_top hg hs he, rowmo_top hg ht he, h]
  have hq : ∀ e, e < xs.length → (s.testBit e = false ↔ t.testBit e = false) := by
    intro e he
    rw [out_iff hg hs (e + 1) e (by omega) he, out_iff hg ht (e + 1) e (by omega) he, hP e he]
    constructor
    · rintro (h1 | ⟨j, h1, h2⟩)
      · exact .inl h1
      · have hlt : j < e := testBit_lt (row_lt hg he).2 h1
        exact .inr ⟨j, h1, by rw [← hP j (by omega)]; exact h2⟩
    · rintro (h1 | ⟨j, h1, h2⟩)
      · exact .inl h1
      · have hlt : j < e := testBit_lt (row_lt hg he).2 h1
        exact .inr ⟨j, h1, by rw [hP j (by omega)]; exact h2⟩
  apply Nat.eq_of_testBit_eq
  intro i
  by_cases hi : i < xs.length
  · have := hq i hi
    cases h1 : s.testBit i <;> cases h2 : t.testBit i <;> simp_all
  · have hz : ∀ z, z < 2 ^ xs.length → z.testBit i = false := fun z hz => by
      rw [Bool.eq_false_iff]; intro hb; exact hi (testBit_lt hz hb)
    rw [hz s hsl, hz t htl]
theorem rowMov {xs : List Int} (hg : good xs = true) : Mov (rowmo xs) (idB xs) (2 ^ xs.length) where
  lt s h := (idB_iff.1 h).1
  ins s h := idB_iff.2 ⟨rowmo_lt hg s, rowmo_ideal hg s⟩
  inj s t h k e := rowmo_inj hg (idB_iff.1 h).2 (idB_iff.1 k).2 (idB_iff.1 h).1 (idB_iff.1 k).1 e
theorem tog_tog {xs : List Int} {s e : Nat} (hs : holdsIdeal xs s = true) : tog xs (tog xs s e) e = s := by
  cases h : holdsIdeal xs (s ^^^ 2 ^ e)
  · rw [tog_no h, tog_no h]
  · have h2 : s ^^^ 2 ^ e ^^^ 2 ^ e = s := by rw [Nat.xor_assoc, Nat.xor_self, Nat.xor_zero]
    rw [tog_yes h, tog_yes (by rw [h2]; exact hs), h2]
theorem togW_inj {xs : List Int} {ys : List Int} {s t : Nat} (hs : holdsIdeal xs s = true) (ht : holdsIdeal xs t = true) (h : togW xs s ys = togW xs t ys) : s = t := by
  induction ys generalizing s t with
  | nil => exact h
  | cons y ys ih =>
    have h1 := ih (tog_ideal hs) (tog_ideal ht) h
    rw [← tog_tog (e := y.toNat) hs, h1, tog_tog ht]
theorem togMov {xs ys : List Int} (hy : inW xs.length ys = true) : Mov (fun s => togW xs s ys) (idB xs) (2 ^ xs.length) where
  lt s h := (idB_iff.1 h).1
  ins s h := idB_iff.2 ⟨togW_lt (idB_iff.1 h).1 hy, togW_ideal (idB_iff.1 h).2⟩
  inj s t h k e := togW_inj (idB_iff.1 h).2 (idB_iff.1 k).2 e

/-- an orbit as a list of integers -/
def orbTL (f : Nat → Nat) (s k : Nat) : List Int := (orbT f s k).map fun (x : Nat) => (x : Int)
def orbL (f : Nat → Nat) (N s : Nat) : List Int := orbTL f s (per f N s)
theorem orbTL_length (f : Nat → Nat) (s k : Nat) : (orbTL f s k).length = k := by simp [orbTL, orbT_length]
theorem orbL_length (f : Nat → Nat) (N s : Nat) : (orbL f N s).length = per f N s := orbTL_length _ _ _
theorem orbTL_succ (f : Nat → Nat) (s k : Nat) : orbTL f s (k + 1) = orbTL f s k ++ [((iter f k s : Nat) : Int)] := by simp [orbTL, orbT_succ]
theorem orbTL_get (f : Nat → Nat) (s : Nat) {k j : Nat} (hj : j < k) : (orbTL f s k).getD j 0 = ((iter f j s : Nat) : Int) := by simp [orbTL, orbT, List.getD, hj]
end Go.Proofs.YtdemikjaghegnaaGreat

/- Ranks: the mathematics of ranks, of words of ranks, and of toggles that don't meet. -/
namespace Go.Proofs.YtdemikjaghegnaaGreat
open Go.RowKit Go.WideShapes Go.ChangeShapes
set_option linter.unusedVariables false

/-- how many ranks the first k elements have -/
def rkM (hs : List Int) : Nat → Nat
  | 0 => 0
  | k + 1 => max (rkM hs k) ((hs.getD k 0).toNat + 1)
/-- the rank i of the first k elements -/
def rkE (hs : List Int) (k i : Nat) : Nat := orN (fun e => (hs.getD e 0).toNat == i) (fun e => 2 ^ e) k
def rkQ (hs : List Int) (k m : Nat) : List Int := (List.range m).map fun i => ((rkE hs k i : Nat) : Int)
theorem rkQ_length (hs : List Int) (k m : Nat) : (rkQ hs k m).length = m := by simp [rkQ]
theorem rkQ_get (hs : List Int) (k : Nat) {m i : Nat} (h : i < m) : (rkQ hs k m).getD i 0 = ((rkE hs k i : Nat) : Int) := by simp [rkQ, List.getD, h]
theorem rkE_lt (hs : List Int) {k n : Nat} (h : k ≤ n) (i : Nat) : rkE hs k i < 2 ^ n := orN_lt fun e he _ => pow_lt_len (by omega)
theorem rkE_bit (hs : List Int) (k i e : Nat) : (rkE hs k i).testBit e = true ↔ e < k ∧ (hs.getD e 0).toNat = i := by
  unfold rkE
  rw [orN_testBit]
  constructor
  · rintro ⟨f, hf, hp, hb⟩
    rw [Nat.testBit_two_pow] at hb
    have hfe : f = e := by simpa using hb
    subst hfe
    exact ⟨hf, by simpa using hp⟩
  · rintro ⟨h1, h2⟩
    exact ⟨e, h1, by simpa using h2, by simp⟩
theorem rkM_lt (hs : List Int) {k e : Nat} (h : e < k) : (hs.getD e 0).toNat < rkM hs k := by
  induction k with
  | zero => omega
  | succ k ih =>
    show _ < max (rkM hs k) ((hs.getD k 0).toNat + 1)
    by_cases he : e = k
    · subst he; omega
    · have := ih (by omega); omega
theorem rkE_none (hs : List Int) {k i : Nat} (h : rkM hs k ≤ i) : rkE hs k i = 0 := by
  apply Nat.eq_of_testBit_eq
  intro e
  rw [Nat.zero_testBit, Bool.eq_false_iff]
  intro hb
  obtain ⟨h1, h2⟩ := (rkE_bit hs k i e).1 hb
  have := rkM_lt hs h1
  omega
theorem rkM_le {hs : List Int} (h : ∀ e, (hs.getD e 0).toNat ≤ e) (k : Nat) : rkM hs k ≤ k := by
  induction k with
  | zero => exact Nat.le_refl _
  | succ k ih =>
    show max (rkM hs k) ((hs.getD k 0).toNat + 1) ≤ k + 1
    have := h k; omega
theorem rkM_mono (hs : List Int) (k : Nat) : rkM hs k ≤ rkM hs (k + 1) := Nat.le_max_left _ _
theorem rkM_mono2 (hs : List Int) {j k : Nat} (h : j ≤ k) : rkM hs j ≤ rkM hs k := by
  induction k with
  | zero => have : j = 0 := by omega
            subst this; exact Nat.le_refl _
  | succ k ih =>
    by_cases hj : j = k + 1
    · subst hj; exact Nat.le_refl _
    · exact Nat.le_trans (ih (by omega)) (rkM_mono hs k)
theorem rkM_pos (hs : List Int) {k : Nat} (h : 1 ≤ k) : 1 ≤ rkM hs k := by
  have := rkM_lt hs (show 0 < k by omega); omega
theorem rkQ_grow (hs : List Int) {k m : Nat} (h : rkM hs k ≤ m) : rkQ hs k m ++ [0] = rkQ hs k (m + 1) := by
  unfold rkQ
  rw [List.range_succ, List.map_append, List.map_singleton, rkE_none hs h]; rfl
theorem rkE_step (hs : List Int) (k i : Nat) : rkE hs (k + 1) i = if (hs.getD k 0).toNat = i then rkE hs k i ||| 2 ^ k else rkE hs k i := by
  unfold rkE
  by_cases h : (hs.getD k 0).toNat = i
  · rw [if_pos h]; exact orN_yes (p := fun e => (hs.getD e 0).toNat == i) (by simpa using h)
  · rw [if_neg h]; exact orN_no (p := fun e => (hs.getD e 0).toNat == i) (by simpa using h)
theorem rkQ_set (hs : List Int) {k m i : Nat} (h : (hs.getD k 0).toNat = i) (hi : i < m) : (rkQ hs k m).set i ((rkE hs k i ||| 2 ^ k : Nat) : Int) = rkQ hs (k + 1) m := by
  apply List.ext_getElem
  · simp [rkQ]
  · intro j h1 h2
    rw [List.getElem_set]
    have hj : j < m := by simpa [rkQ] using h2
    simp only [rkQ, List.getElem_map, List.getElem_range]
    rw [rkE_step]
    by_cases hji : i = j
    · subst hji; rw [if_pos rfl, if_pos h]
    · rw [if_neg hji, if_neg (by omega)]
theorem rkQ_zero (hs : List Int) (m : Nat) : rkQ hs 0 m = List.replicate m 0 := by
  apply List.ext_getElem <;> simp [rkQ, rkE, orN]
/-- how many ranks there are, and the ranks -/
def rkN (xs : List Int) : Nat := rkM (heightsL xs) xs.length
def rankL (xs : List Int) : List Int := rkQ (heightsL xs) xs.length (rkN xs)
theorem rankL_length (xs : List Int) : (rankL xs).length = rkN xs := rkQ_length _ _ _
theorem heights_nat {xs : List Int} (hg : good xs = true) (e : Nat) : (heightsL xs).getD e 0 = (((heightsL xs).getD e 0).toNat : Int) ∧ ((heightsL xs).getD e 0).toNat ≤ e := by
  have := heights_bound hg e; omega
theorem rkN_bounds {xs : List Int} (hg : good xs = true) : 1 ≤ rkN xs ∧ rkN xs ≤ xs.length :=
  ⟨rkM_pos _ (good_length hg).1, rkM_le (fun e => (heights_nat hg e).2) _⟩
theorem rankL_get {xs : List Int} {i : Nat} (hi : i < rkN xs) : (rankL xs).getD i 0 = ((rkE (heightsL xs) xs.length i : Nat) : Int) := rkQ_get _ _ hi
/-- the elements of a set, of n -/
def elN (n r : Nat) : List Nat := (List.range n).filter fun e => r.testBit e
def elL (n r : Nat) : List Int := (elN n r).map fun e : Nat => (e : Int)
theorem elL_zero (r : Nat) : elL 0 r = [] := rfl
theorem elL_yes {n r : Nat} (h : r.testBit n = true) : elL (n + 1) r = elL n r ++ [(n : Int)] := by simp [elL, elN, List.range_succ, List.filter_append, h]
theorem elL_no {n r : Nat} (h : r.testBit n = false) : elL (n + 1) r = elL n r := by simp [elL, elN, List.range_succ, List.filter_append, h]
theorem elL_length (n r : Nat) : (elL n r).length ≤ n := by
  unfold elL elN
  rw [List.length_map]
  exact Nat.le_trans (List.length_filter_le _ _) (by simp)
theorem elN_mem {n r e : Nat} : e ∈ elN n r ↔ e < n ∧ r.testBit e = true := by simp [elN]
theorem elL_more {n r : Nat} (h : r < 2 ^ n) (d : Nat) : elL (n + d) r = elL n r := by
  induction d with
  | zero => rfl
  | succ d ih =>
    rw [← Nat.add_assoc, elL_no, ih]
    rw [Bool.eq_false_iff]; intro hb; have := testBit_lt h hb; omega
theorem elL_ten {n r : Nat} (h : r < 2 ^ n) (hn : n ≤ 10) : elL 10 r = elL n r := by
  have := elL_more h (10 - n); rwa [show n + (10 - n) = 10 by omega] at this
theorem elN_nodup (n r : Nat) : (elN n r).Nodup := List.Nodup.sublist List.filter_sublist List.nodup_range
/-- all elements of the ranks of a word -/
def rkW (rs ws : List Int) : List Int := ws.flatMap fun i => elL 10 (rs.getD i.toNat 0).toNat
theorem rkW_append (rs a b : List Int) : rkW rs (a ++ b) = rkW rs a ++ rkW rs b := by simp [rkW]
theorem rkW_one (rs : List Int) (i : Int) : rkW rs [i] = elL 10 (rs.getD i.toNat 0).toNat := by simp [rkW]
theorem rkW_take (rs ws : List Int) {k : Nat} (hk : k < ws.length) : rkW rs (ws.take (k + 1)) = rkW rs (ws.take k) ++ elL 10 (rs.getD (ws.getD k 0).toNat 0).toNat := by
  rw [List.take_succ_eq_append_getElem hk, rkW_append, rkW_one]; simp [List.getD, hk]
theorem rkW_length (rs ws : List Int) : (rkW rs ws).length ≤ 10 * ws.length := by
  induction ws with
  | nil => simp [rkW]
  | cons a t ih =>
    show (elL 10 _ ++ rkW rs t).length ≤ _
    rw [List.length_append, List.length_cons]
    have := elL_length 10 (rs.getD a.toNat 0).toNat
    omega
theorem togW_app (xs : List Int) (s : Nat) (a b : List Int) : togW xs s (a ++ b) = togW xs (togW xs s a) b := by simp [togW, List.foldl_append]
theorem rank_mem {xs : List Int} {i : Nat} (hi : i < rkN xs) (e : Int) : e ∈ elL 10 ((rankL xs).getD i 0).toNat ↔ ∃ f : Nat, e = f ∧ f < xs.length ∧ f < 10 ∧ ((heightsL xs).getD f 0).toNat = i := by
  rw [rankL_get hi]
  unfold elL
  rw [List.mem_map]
  constructor
  · rintro ⟨f, hf, rfl⟩
    rw [elN_mem, Int.toNat_natCast, rkE_bit] at hf
    exact ⟨f, rfl, hf.2.1, hf.1, hf.2.2⟩
  · rintro ⟨f, rfl, h1, h2, h3⟩
    exact ⟨f, by rw [elN_mem, Int.toNat_natCast, rkE_bit]; exact ⟨h2, h1, h3⟩, rfl⟩
theorem inW_rkW {xs : List Int} (hg : good xs = true) {ws : List Int} (hw : inW (rkN xs) ws = true) : inW xs.length (rkW (rankL xs) ws) = true := by
  rw [inW, List.all_eq_true]
  intro e he
  rw [rkW, List.mem_flatMap] at he
  obtain ⟨i, hi, he⟩ := he
  have hi2 := List.all_eq_true.1 hw i hi
  simp only [Bool.and_eq_true, decide_eq_true_eq] at hi2
  obtain ⟨f, rfl, h1, h2, h3⟩ := (rank_mem (show i.toNat < rkN xs by omega) e).1 he
  simp; omega
/-! ### toggles in another order -/
theorem togW_perm {xs : List Int} (hg : good xs = true) {a b : List Int} (hp : a.Perm b) (hin : inW xs.length a = true) (hap : ∀ d ∈ a, ∀ e ∈ a, Apart xs d.toNat e.toNat) :
    ∀ s, holdsIdeal xs s = true → togW xs s a = togW xs s b := by
  induction hp with
  | nil => exact fun _ _ => rfl
  | cons x _ ih =>
    intro s hs
    have h1 := List.all_eq_true.1 hin
    exact ih (List.all_eq_true.2 fun y hy => h1 y (List.mem_cons_of_mem _ hy)) (fun d hd e he => hap d (List.mem_cons_of_mem _ hd) e (List.mem_cons_of_mem _ he)) _ (tog_ideal hs)
  | swap x y l =>
    intro s hs
    have h1 := List.all_eq_true.1 hin
    have hy := h1 y (by simp)
    have hx := h1 x (by simp)
    simp only [Bool.and_eq_true, decide_eq_true_eq] at hx hy
    have := tog_swap hg hs (d := y.toNat) (e := x.toNat) (by omega) (by omega) (hap y (by simp) x (by simp))
    show togW xs (tog xs (tog xs s y.toNat) x.toNat) l = togW xs (tog xs (tog xs s x.toNat) y.toNat) l
    rw [this]
  | trans p1 _ ih1 ih2 =>
    intro s hs
    rw [ih1 hin hap s hs]
    refine ih2 ?_ (fun d hd e he => hap d (p1.mem_iff.2 hd) e (p1.mem_iff.2 he)) s hs
    exact List.all_eq_true.2 fun y hy => List.all_eq_true.1 hin y (p1.mem_iff.2 hy)
theorem covIn_mem {xs : List Int} {j k : Nat} (n : Nat) (hk : k < n) (h : coverB xs j k = true) : (j, k) ∈ covIn xs j n := by
  induction n with
  | zero => omega
  | succ n ih =>
    unfold covIn
    by_cases hkn : k = n
    · subst hkn; rw [if_pos h]; simp
    · have := ih (by omega)
      split
      · exact List.mem_append_left _ this
      · exact this
theorem covPS_mem {xs : List Int} {j k n : Nat} (m : Nat) (hj : j < m) (hk : k < n) (h : coverB xs j k = true) : (j, k) ∈ covPS xs n m := by
  induction m with
  | zero => omega
  | succ m ih =>
    unfold covPS
    by_cases hjm : j = m
    · subst hjm; exact List.mem_append_right _ (covIn_mem n hk h)
    · exact List.mem_append_left _ (ih (by omega))
theorem cover_rank {xs : List Int} (hg : good xs = true) (hr : rankedB xs = true) {j k : Nat} (hk : k < xs.length) (hb : (row xs k).testBit j = true)
    (hn : ∀ m, m < xs.length → (row xs k).testBit m = true → (row xs m).testBit j = false) : ((heightsL xs).getD k 0).toNat = ((heightsL xs).getD j 0).toNat + 1 := by
  have hjk : j < k := testBit_lt (row_lt hg hk).2 hb
  have hc : coverB xs j k = true := coverB_true hb fun m _ hm => by
    cases h1 : bitAt xs k m
    · rfl
    · exact hn m (by omega) h1
  have hm : (j, k) ∈ coversP xs := by rw [coversP_yes hg]; exact covPS_mem _ (by omega) hk hc
  unfold rankedB rankedN at hr
  rw [List.take_length] at hr
  have := List.all_eq_true.1 hr _ hm
  unfold rankP at this
  rw [beq_iff_eq] at this
  have h1 := heights_nat hg k
  have h2 := heights_nat hg j
  simp only at this
  omega
theorem apart_rank {xs : List Int} (hg : good xs = true) (hr : rankedB xs = true) {d e : Nat} (hd : d < xs.length) (he : e < xs.length)
    (h : ((heightsL xs).getD d 0).toNat % 2 = ((heightsL xs).getD e 0).toNat % 2) : Apart xs d e := by
  refine covered_no hg hd he ?_
  rw [Bool.eq_false_iff]
  intro hc
  unfold covered at hc
  obtain ⟨h1, h2⟩ := top_row.1 hc
  by_cases hde : d ≤ e
  · rw [Nat.max_eq_right hde, Nat.min_eq_left hde] at h1 h2
    have := cover_rank hg hr he h1 h2
    omega
  · rw [Nat.max_eq_left (by omega), Nat.min_eq_right (by omega)] at h1 h2
    have := cover_rank hg hr hd h1 h2
    omega
end Go.Proofs.YtdemikjaghegnaaGreat

/- Words of ranks: the lists. -/
namespace Go.Proofs.YtdemikjaghegnaaGreat
open Go.RowKit Go.WideShapes Go.ChangeShapes
set_option linter.unusedVariables false

/-- a, a + 1, .., b -/
def rnL (a b : Nat) : List Int := (List.range (b + 1 - a)).map fun j => ((a + j : Nat) : Int)
/-- a, a + 2, .., up to b -/
def rs2 (a b : Nat) : List Int := (List.range ((b + 2 - a) / 2)).map fun j => ((a + 2 * j : Nat) : Int)
/-- a, a - 1, .., b -/
def fsL (a b : Nat) : List Int := (List.range (a + 1 - b)).map fun j => ((a - j : Nat) : Int)
theorem rnL_length (a b : Nat) : (rnL a b).length = b + 1 - a := by simp [rnL]
theorem rs2_length (a b : Nat) : (rs2 a b).length = (b + 2 - a) / 2 := by simp [rs2]
theorem fsL_length (a b : Nat) : (fsL a b).length = a + 1 - b := by simp [fsL]
theorem rnL_rev (a b : Nat) : (rnL a b).reverse = fsL b a := by
  apply List.ext_getElem
  · simp [rnL, fsL]
  · intro i h1 h2
    have hi : i < b + 1 - a := by simpa [fsL] using h2
    rw [List.getElem_reverse]
    simp only [rnL, fsL, List.getElem_map, List.getElem_range, List.length_map, List.length_range]
    omega
def mapT (f : Nat → Int) (k : Nat) : List Int := (List.range k).map f
theorem mapT_succ (f : Nat → Int) (k : Nat) : mapT f (k + 1) = mapT f k ++ [f k] := by simp [mapT, List.range_succ]
theorem mapT_length (f : Nat → Int) (k : Nat) : (mapT f k).length = k := by simp [mapT]
theorem rnL_map (a b : Nat) : rnL a b = mapT (fun j => ((a + j : Nat) : Int)) (b + 1 - a) := rfl
theorem rs2_map (a b : Nat) : rs2 a b = mapT (fun j => ((a + 2 * j : Nat) : Int)) ((b + 2 - a) / 2) := rfl
theorem fsL_map (a b : Nat) : fsL a b = mapT (fun j => ((a - j : Nat) : Int)) (a + 1 - b) := rfl
/-- sweeps, one behind the other -/
def swL (f : Nat → List Int) (n : Nat) : List Int := (List.range n).flatMap f
theorem swL_zero (f : Nat → List Int) : swL f 0 = [] := rfl
theorem swL_succ (f : Nat → List Int) (n : Nat) : swL f (n + 1) = swL f n ++ f n := by simp [swL, List.range_succ]
theorem swL_length (f : Nat → List Int) (n c : Nat) (h : ∀ k, k < n → (f k).length ≤ c) : (swL f n).length ≤ c * n := by
  induction n with
  | zero => simp [swL]
  | succ n ih =>
    rw [swL_succ, List.length_append]
    have h1 := ih fun k hk => h k (by omega)
    have h2 := h n (by omega)
    rw [Nat.mul_add, Nat.mul_one]; omega
/-- the sweeps of rowmotion, of rowvacuation, of the dual one, of gyration: how many, and which ranks -/
def cRow (h : Nat) : Nat := 1
def fRow (h k : Nat) : List Int := fsL h 0
def cVac (h : Nat) : Nat := h + 1
def fVac (h k : Nat) : List Int := fsL h k
def cDual (h : Nat) : Nat := h + 1
def fDual (h k : Nat) : List Int := rnL 0 (h - k)
def cGyr (h : Nat) : Nat := 2
def fGyr (h k : Nat) : List Int := rs2 k h
def wRow (h : Nat) : List Int := swL (fRow h) (cRow h)
def wVac (h : Nat) : List Int := swL (fVac h) (cVac h)
def wDual (h : Nat) : List Int := swL (fDual h) (cDual h)
def wGyr (h : Nat) : List Int := swL (fGyr h) (cGyr h)
theorem wRow_eq (h : Nat) : wRow h = fsL h 0 := by simp [wRow, swL, cRow, fRow]
theorem wGyr_eq (h : Nat) : wGyr h = rs2 0 h ++ rs2 1 h := by simp [wGyr, swL, cGyr, fGyr, List.range_succ]
theorem inW_flat {n m : Nat} {f : Nat → List Int} (h : ∀ k, k < m → inW n (f k) = true) : inW n (swL f m) = true := by
  rw [inW, List.all_eq_true]
  intro y hy
  rw [swL, List.mem_flatMap] at hy
  obtain ⟨k, hk, hy⟩ := hy
  exact List.all_eq_true.1 (h k (List.mem_range.1 hk)) y hy
theorem inW_rnL {n a b : Nat} (h : b < n) : inW n (rnL a b) = true := List.all_eq_true.2 fun y hy => by
  obtain ⟨j, hj, rfl⟩ := List.mem_map.1 hy
  rw [List.mem_range] at hj; simp; omega
theorem inW_rs2 {n a b : Nat} (h : b < n) : inW n (rs2 a b) = true := List.all_eq_true.2 fun y hy => by
  obtain ⟨j, hj, rfl⟩ := List.mem_map.1 hy
  rw [List.mem_range] at hj; simp; omega
theorem inW_fsL {n a b : Nat} (h : a < n) : inW n (fsL a b) = true := List.all_eq_true.2 fun y hy => by
  obtain ⟨j, hj, rfl⟩ := List.mem_map.1 hy
  rw [List.mem_range] at hj; simp; omega
theorem inW_wRow {n h : Nat} (hn : h < n) : inW n (wRow h) = true := inW_flat fun k _ => inW_fsL hn
theorem inW_wVac {n h : Nat} (hn : h < n) : inW n (wVac h) = true := inW_flat fun k _ => inW_fsL hn
theorem inW_wDual {n h : Nat} (hn : h < n) : inW n (wDual h) = true := inW_flat fun k _ => inW_rnL (by omega)
theorem inW_wGyr {n h : Nat} (hn : h < n) : inW n (wGyr h) = true := inW_flat fun k _ => inW_rs2 hn
theorem fRow_length {h : Nat} (k : Nat) (hh : h ≤ 9) : (fRow h k).length ≤ 10 := by rw [fRow, fsL_length]; omega
theorem fVac_length {h : Nat} (k : Nat) (hh : h ≤ 9) : (fVac h k).length ≤ 10 := by rw [fVac, fsL_length]; omega
theorem fDual_length {h : Nat} (k : Nat) (hh : h ≤ 9) : (fDual h k).length ≤ 10 := by rw [fDual, rnL_length]; omega
theorem fGyr_length {h : Nat} (k : Nat) (hh : h ≤ 9) : (fGyr h k).length ≤ 10 := by rw [fGyr, rs2_length]; omega
theorem sw_length (f : Nat → List Int) {n : Nat} (h : ∀ k, (f k).length ≤ 10) (hn : n ≤ 10) : (swL f n).length ≤ 100 := by
  have := swL_length f n 10 fun k _ => h k; omega
theorem wRow_length {h : Nat} (hh : h ≤ 9) : (wRow h).length ≤ 100 := sw_length _ (fun k => fRow_length k hh) (by unfold cRow; omega)
theorem wVac_length {h : Nat} (hh : h ≤ 9) : (wVac h).length ≤ 100 := sw_length _ (fun k => fVac_length k hh) (by unfold cVac; omega)
theorem wDual_length {h : Nat} (hh : h ≤ 9) : (wDual h).length ≤ 100 := sw_length _ (fun k => fDual_length k hh) (by unfold cDual; omega)
theorem wGyr_length {h : Nat} (hh : h ≤ 9) : (wGyr h).length ≤ 100 := sw_length _ (fun k => fGyr_length k hh) (by unfold cGyr; omega)
end Go.Proofs.YtdemikjaghegnaaGreat
