/- Texts Orb, Order, one behind the other. -/
import Derived.Test.YtdemikjaghegnaaPkRowmotionByTogglesProof05
import Derived.Test.YtdemikjaghegnaaPkRowmotionByTogglesProof10
/- Orbits of a motion, which ideals begin them, cycles told by these; rowmotion and toggles move ideals. No program is named here. -/
namespace Go.Proofs.Ytdemikjaghegnaa
set_option linter.unusedVariables false

/-- 'f' moves the numbers of kind D, all below N, into one another, no two to the same -/
structure Mov (f : Nat → Nat) (D : Nat → Bool) (N : Nat) : Prop where
  lt : ∀ s, D s = true → s < N
  ins : ∀ s, D s = true → D (f s) = true
  inj : ∀ s t, D s = true → D t = true → f s = f t → s = t
theorem Mov.it {f : Nat → Nat} {D : Nat → Bool} {N : Nat} (h : Mov f D N) {s : Nat} (hs : D s = true) (k : Nat) : D (iter f k s) = true := by
  induction k with
  | zero => exact hs
  | succ k ih => exact h.ins _ ih
theorem iter_add (f : Nat → Nat) (j k s : Nat) : iter f (j + k) s = iter f j (iter f k s) := by
  induction j with
  | zero => rw [Nat.zero_add]; rfl
  | succ j ih => rw [Nat.succ_add]; simp only [iter]; rw [ih]
theorem Mov.back {f : Nat → Nat} {D : Nat → Bool} {N : Nat} (h : Mov f D N) {s t : Nat} (hs : D s = true) (ht : D t = true) (k : Nat) (e : iter f k s = iter f k t) : s = t := by
  induction k with
  | zero => exact e
  | succ k ih => exact ih (h.inj _ _ (h.it hs k) (h.it ht k) e)
theorem nodup_map_range {g : Nat → Nat} (n : Nat) (h : ∀ i j, i < j → j < n → g i ≠ g j) : ((List.range n).map g).Nodup := by
  rw [List.nodup_iff_pairwise_ne, List.pairwise_map]
  refine List.Pairwise.imp_of_mem ?_ (List.pairwise_lt_range (n := n))
  intro a b ha hb hab
  exact h a b hab (List.mem_range.1 hb)
theorem Mov.some_back {f : Nat → Nat} {D : Nat → Bool} {N : Nat} (h : Mov f D N) {s : Nat} (hs : D s = true) : ∃ n, 1 ≤ n ∧ n ≤ N ∧ iter f n s = s := by
  by_cases hc : ∃ i j, i < j ∧ j < N + 1 ∧ iter f i s = iter f j s
  · obtain ⟨i, j, h1, h2, h3⟩ := hc
    refine ⟨j - i, by omega, by omega, ?_⟩
    have e : i + (j - i) = j := by omega
    have h4 : iter f i s = iter f i (iter f (j - i) s) := by rw [← iter_add, e]; exact h3
    exact (h.back hs (h.it hs _) i h4).symm
  · exfalso
    have hn : ((List.range (N + 1)).map fun k => iter f k s).Nodup :=
      nodup_map_range (N + 1) fun i j h1 h2 h3 => hc ⟨i, j, h1, h2, h3⟩
    have hsub : ((List.range (N + 1)).map fun k => iter f k s) ⊆ List.range N := by
      intro x hx
      rw [List.mem_map] at hx
      obtain ⟨k, _, rfl⟩ := hx
      exact List.mem_range.2 (h.lt _ (h.it hs k))
    have := hn.length_le_of_subset hsub
    simp at this
    omega
/-- the least n from 'n0' on, within 'c' tries, with f^n s = s -/
def perF (f : Nat → Nat) (s : Nat) : Nat → Nat → Nat
  | 0, n => n
  | c + 1, n => if iter f n s = s then n else perF f s c (n + 1)
def per (f : Nat → Nat) (N s : Nat) : Nat := perF f s N 1
theorem perF_spec (f : Nat → Nat) (s : Nat) (c n m : Nat) (hm : n ≤ m) (hc : m ≤ n + c) (h : iter f m s = s) :
    iter f (perF f s c n) s = s ∧ n ≤ perF f s c n ∧ perF f s c n ≤ m ∧ ∀ k, n ≤ k → k < perF f s c n → iter f k s ≠ s := by
  induction c generalizing n with
  | zero =>
    have : m = n := by omega
    subst this
    exact ⟨h, Nat.le_refl _, Nat.le_refl _, fun k h1 h2 => by simp only [perF] at h2; omega⟩
  | succ c ih =>
    unfold perF
    split
    · rename_i hq
      exact ⟨hq, Nat.le_refl _, hm, fun k h1 h2 => by omega⟩
    · rename_i hq
      have hne : n ≠ m := by rintro rfl; exact hq h
      obtain ⟨h1, h2, h3, h4⟩ := ih (n + 1) (by omega) (by omega)
      refine ⟨h1, by omega, h3, fun k h5 h6 => ?_⟩
      by_cases e : k = n
      · subst e; exact hq
      · exact h4 k (by omega) h6
theorem Mov.perS {f : Nat → Nat} {D : Nat → Bool} {N : Nat} (h : Mov f D N) {s : Nat} (hs : D s = true) :
    iter f (per f N s) s = s ∧ 1 ≤ per f N s ∧ per f N s ≤ N ∧ ∀ k, 1 ≤ k → k < per f N s → iter f k s ≠ s := by
  obtain ⟨m, h1, h2, h3⟩ := h.some_back hs
  obtain ⟨a, b, c, d⟩ := perF_spec f s N 1 m h1 (by omega) h3
  exact ⟨a, b, by unfold per; omega, d⟩
/-- the orbit, as far as k -/
def orbT (f : Nat → Nat) (s k : Nat) : List Nat := (List.range k).map fun j => iter f j s
def orbN (f : Nat → Nat) (N s : Nat) : List Nat := orbT f s (per f N s)
theorem orbT_length (f : Nat → Nat) (s k : Nat) : (orbT f s k).length = k := by simp [orbT]
theorem orbN_length (f : Nat → Nat) (N s : Nat) : (orbN f N s).length = per f N s := orbT_length _ _ _
theorem orbT_succ (f : Nat → Nat) (s k : Nat) : orbT f s (k + 1) = orbT f s k ++ [iter f k s] := by simp [orbT, List.range_succ]
theorem orbT_get (f : Nat → Nat) (s : Nat) {k j : Nat} (hj : j < k) : (orbT f s k).getD j 0 = iter f j s := by simp [orbT, List.getD, hj]
theorem iter_mul {f : Nat → Nat} {s n : Nat} (h : iter f n s = s) (q : Nat) : iter f (n * q) s = s := by
  induction q with
  | zero => rfl
  | succ q ih => rw [Nat.mul_succ, Nat.add_comm, iter_add, ih, h]
theorem Mov.md {f : Nat → Nat} {D : Nat → Bool} {N : Nat} (h : Mov f D N) {s : Nat} (hs : D s = true) (k : Nat) : iter f k s = iter f (k % per f N s) s := by
  obtain ⟨h1, -, -, -⟩ := h.perS hs
  have e : k = k % per f N s + per f N s * (k / per f N s) := (Nat.mod_add_div k _).symm
  rw [e, iter_add, iter_mul h1]
  rw [← e]
theorem mem_orbN {f : Nat → Nat} {D : Nat → Bool} {N : Nat} (h : Mov f D N) {s : Nat} (hs : D s = true) (t : Nat) : t ∈ orbN f N s ↔ ∃ k, iter f k s = t := by
  unfold orbN orbT
  rw [List.mem_map]
  constructor
  · rintro ⟨k, -, hk⟩; exact ⟨k, hk⟩
  · rintro ⟨k, hk⟩
    obtain ⟨-, h2, -, -⟩ := h.perS hs
    exact ⟨k % per f N s, List.mem_range.2 (Nat.mod_lt _ (by omega)), by rw [← h.md hs k]; exact hk⟩
theorem Mov.reach_symm {f : Nat → Nat} {D : Nat → Bool} {N : Nat} (h : Mov f D N) {s : Nat} (hs : D s = true) (k : Nat) : ∃ j, iter f j (iter f k s) = s := by
  obtain ⟨h1, h2, h3, h4⟩ := h.perS (h.it hs k)
  obtain ⟨h1, h2, h3, h4⟩ := h.perS hs
  refine ⟨per f N s * k - k, ?_⟩
  rw [← iter_add]
  have : k ≤ per f N s * k := Nat.le_mul_of_pos_left k (by omega)
  rw [show per f N s * k - k + k = per f N s * k by omega]
  exact iter_mul h1 k
theorem mem_orbN_D {f : Nat → Nat} {D : Nat → Bool} {N : Nat} (h : Mov f D N) {s t : Nat} (hs : D s = true) (ht : t ∈ orbN f N s) : D t = true := by
  obtain ⟨k, rfl⟩ := (mem_orbN h hs t).1 ht
  exact h.it hs k
theorem mem_orbN_symm {f : Nat → Nat} {D : Nat → Bool} {N : Nat} (h : Mov f D N) {s t : Nat} (hs : D s = true) (ht : t ∈ orbN f N s) : s ∈ orbN f N t := by
  have hd := mem_orbN_D h hs ht
  obtain ⟨k, rfl⟩ := (mem_orbN h hs t).1 ht
  exact (mem_orbN h hd s).2 (h.reach_symm hs k)
theorem mem_orbN_trans {f : Nat → Nat} {D : Nat → Bool} {N : Nat} (h : Mov f D N) {r s t : Nat} (hr : D r = true) (h1 : s ∈ orbN f N r) (h2 : t ∈ orbN f N s) : t ∈ orbN f N r := by
  have hd := mem_orbN_D h hr h1
  obtain ⟨k, rfl⟩ := (mem_orbN h hr s).1 h1
  obtain ⟨j, rfl⟩ := (mem_orbN h hd t).1 h2
  exact (mem_orbN h hr _).2 ⟨j + k, by rw [iter_add]⟩
theorem self_mem_orbN {f : Nat → Nat} {D : Nat → Bool} {N : Nat} (h : Mov f D N) {s : Nat} (hs : D s = true) : s ∈ orbN f N s := (mem_orbN h hs s).2 ⟨0, rfl⟩
theorem Mov.orb_ne {f : Nat → Nat} {D : Nat → Bool} {N : Nat} (h : Mov f D N) {s : Nat} (hs : D s = true) {i j : Nat} (hij : i < j) (hj : j < per f N s) : iter f i s ≠ iter f j s := by
  intro e
  obtain ⟨h1, h2, h3, h4⟩ := h.perS hs
  have h5 : iter f i s = iter f i (iter f (j - i) s) := by rw [← iter_add, show i + (j - i) = j by omega]; exact e
  exact h4 (j - i) (by omega) (by omega) (h.back hs (h.it hs _) i h5).symm

/-! ### which ideals begin an orbit -/
/-- seen by an orbit that begins with one of the first k -/
def seenB (f : Nat → Nat) (N : Nat) (st : List Nat) (t : Nat) : Bool := st.any fun s => (orbN f N s).contains t
/-- the first ideals of the orbits, among the first k of a list -/
def startsN (f : Nat → Nat) (N : Nat) (ids : List Int) : Nat → List Nat
  | 0 => []
  | k + 1 => if seenB f N (startsN f N ids k) (ids.getD k 0).toNat then startsN f N ids k else startsN f N ids k ++ [(ids.getD k 0).toNat]
theorem startsN_yes {f : Nat → Nat} {N : Nat} {ids : List Int} {k : Nat} (h : seenB f N (startsN f N ids k) (ids.getD k 0).toNat = true) : startsN f N ids (k + 1) = startsN f N ids k := if_pos h
theorem startsN_no {f : Nat → Nat} {N : Nat} {ids : List Int} {k : Nat} (h : seenB f N (startsN f N ids k) (ids.getD k 0).toNat = false) : startsN f N ids (k + 1) = startsN f N ids k ++ [(ids.getD k 0).toNat] := by
  exact if_neg (by rw [h]; decide)
theorem seenB_snoc (f : Nat → Nat) (N : Nat) (st : List Nat) (s t : Nat) : seenB f N (st ++ [s]) t = (seenB f N st t || (orbN f N s).contains t) := by
  simp [seenB, List.any_append]
theorem startsN_length (f : Nat → Nat) (N : Nat) (ids : List Int) (k : Nat) : (startsN f N ids k).length ≤ k := by
  induction k with
  | zero => simp [startsN]
  | succ k ih =>
    unfold startsN
    split
    · omega
    · rw [List.length_append]; simp; omega
theorem startsN_mem {f : Nat → Nat} {N : Nat} {ids : List Int} {k s : Nat} (hk : k ≤ ids.length) (h : s ∈ startsN f N ids k) : ∃ j, j < k ∧ (ids.getD j 0).toNat = s := by
  induction k with
  | zero => simp [startsN] at h
  | succ k ih =>
    unfold startsN at h
    split at h
    · obtain ⟨j, h1, h2⟩ := ih (by omega) h; exact ⟨j, by omega, h2⟩
    · rw [List.mem_append, List.mem_singleton] at h
      rcases h with h | h
      · obtain ⟨j, h1, h2⟩ := ih (by omega) h; exact ⟨j, by omega, h2⟩
      · exact ⟨k, by omega, h.symm⟩
theorem startsN_D {f : Nat → Nat} {D : Nat → Bool} {N : Nat} {ids : List Int} (hD : ∀ j, j < ids.length → D (ids.getD j 0).toNat = true) {k s : Nat} (hk : k ≤ ids.length) (h : s ∈ startsN f N ids k) : D s = true := by
  obtain ⟨j, h1, rfl⟩ := startsN_mem hk h
  exact hD j (by omega)
/-- what is seen is closed under the motion, to and fro -/
theorem seenB_orb {f : Nat → Nat} {D : Nat → Bool} {N : Nat} (h : Mov f D N) {st : List Nat} (hst : ∀ s ∈ st, D s = true) {t : Nat} (ht : D t = true) (hs : seenB f N st t = false) {u : Nat} (hu : u ∈ orbN f N t) : seenB f N st u = false := by
  cases hc : seenB f N st u
  · rfl
  · unfold seenB at hc hs
    rw [List.any_eq_true] at hc
    obtain ⟨s, h1, h2⟩ := hc
    have h2' : u ∈ orbN f N s := by simpa using h2
    have h3 := mem_orbN_symm h ht hu
    have h4 := mem_orbN_trans h (hst s h1) h2' h3
    have : (st.any fun s => (orbN f N s).contains t) = true := List.any_eq_true.2 ⟨s, h1, by simpa using h4⟩
    rw [this] at hs; cases hs
theorem startsN_seen {f : Nat → Nat} {D : Nat → Bool} {N : Nat} (h : Mov f D N) {ids : List Int} (hD : ∀ j, j < ids.length → D (ids.getD j 0).toNat = true) {k : Nat} (hk : k ≤ ids.length) {j : Nat} (hj : j < k) : seenB f N (startsN f N ids k) (ids.getD j 0).toNat = true := by
  induction k with
  | zero => omega
  | succ k ih =>
    by_cases e : j = k
    · subst e
      cases hq : seenB f N (startsN f N ids j) (ids.getD j 0).toNat
      · rw [startsN_no hq, seenB_snoc]
        have := self_mem_orbN h (hD j (by omega))
        rw [Bool.or_eq_true]; exact .inr (List.contains_iff_mem.2 this)
      · rw [startsN_yes hq]; exact hq
    · have h1 := ih (by omega) (by omega)
      cases hq : seenB f N (startsN f N ids k) (ids.getD k 0).toNat
      · rw [startsN_no hq, seenB_snoc, h1]; rfl
      · rw [startsN_yes hq]; exact h1
def starts (f : Nat → Nat) (N : Nat) (ids : List Int) : List Nat := startsN f N ids ids.length
/-- a list of marks -/
def marksB (g : Nat → Bool) (N : Nat) : List Bool := (List.range N).map g
theorem marksB_length (g : Nat → Bool) (N : Nat) : (marksB g N).length = N := by simp [marksB]
theorem marksB_get (g : Nat → Bool) {N t : Nat} (h : t < N) : (marksB g N).getD t true = g t := by simp [marksB, List.getD, h]
theorem marksB_set (g : Nat → Bool) (N t : Nat) : (marksB g N).set t true = marksB (fun x => g x || x == t) N := by
  apply List.ext_getElem?
  intro i
  rw [List.getElem?_set, marksB_length]
  by_cases hi : i < N
  · by_cases e : t = i
    · subst e; simp [marksB, hi]
    · simp [marksB, hi, e, show ¬ i = t from fun h => e h.symm]
  · have h1 : (marksB g N)[i]? = none := List.getElem?_eq_none (by rw [marksB_length]; omega)
    have h2 : (marksB (fun x => g x || x == t) N)[i]? = none := List.getElem?_eq_none (by rw [marksB_length]; omega)
    rw [h1, h2]
    by_cases e : t = i
    · subst e; simp [hi]
    · simp [e]
theorem marksB_congr {g h : Nat → Bool} {N : Nat} (e : ∀ t, t < N → g t = h t) : marksB g N = marksB h N := by
  unfold marksB
  exact List.map_congr_left fun t ht => e t (List.mem_range.1 ht)
theorem marksB_none (N : Nat) : marksB (fun _ => false) N = List.replicate N false := by
  apply List.ext_getElem?
  intro i
  by_cases hi : i < N <;> simp [marksB, hi]

/-! ### the cycles, told by where they begin -/
theorem orbT_contains_succ (f : Nat → Nat) (s k x : Nat) : (orbT f s (k + 1)).contains x = ((orbT f s k).contains x || x == iter f k s) := by
  rw [orbT_succ, List.contains_eq_any_beq, List.contains_eq_any_beq, List.any_append]; simp
theorem not_orbT {f : Nat → Nat} {D : Nat → Bool} {N : Nat} (h : Mov f D N) {s : Nat} (hs : D s = true) {k : Nat} (hk : k < per f N s) : (orbT f s k).contains (iter f k s) = false := by
  rw [Bool.eq_false_iff]
  intro hc
  have hm : iter f k s ∈ orbT f s k := List.contains_iff_mem.1 hc
  unfold orbT at hm
  rw [List.mem_map] at hm
  obtain ⟨i, hi, he⟩ := hm
  exact h.orb_ne hs (List.mem_range.1 hi) hk he
/-! ### cycles as the program counts them -/
theorem cyc1_orb {f : Nat → Nat} {D : Nat → Bool} {N : Nat} (h : Mov f D N) {s : Nat} (hs : D s = true) {g : Nat → Bool} (hg : ∀ t, t ∈ orbN f N s → g t = false) (c j : Nat) (hj : j + c = per f N s) :
    cyc1 f (marksB (fun x => g x || (orbT f s j).contains x) N) (iter f j s) j = (marksB (fun x => g x || (orbN f N s).contains x) N, per f N s) := by
  obtain ⟨h1, h2, h3, h4⟩ := h.perS hs
  induction c generalizing j with
  | zero =>
    have : j = per f N s := by omega
    subst this
    have hm : (orbT f s (per f N s)).contains s = true := List.contains_iff_mem.2 (self_mem_orbN h hs)
    rw [h1, cyc1_stop (by rw [marksB_get _ (h.lt s hs), hm, Bool.or_true])]
    rfl
  | succ c ih =>
    have hlt := h.lt _ (h.it hs j)
    have hmem : iter f j s ∈ orbN f N s := (mem_orbN h hs _).2 ⟨j, rfl⟩
    have hno := not_orbT h hs (show j < per f N s by omega)
    rw [cyc1_go (by rw [marksB_length]; exact hlt) (by rw [marksB_get _ hlt, hg _ hmem, hno]; rfl), marksB_set]
    rw [← ih (j + 1) (by omega)]
    rw [marksB_congr (g := fun x => (g x || (orbT f s j).contains x) || x == iter f j s) (h := fun x => g x || (orbT f s (j + 1)).contains x) (fun t _ => by rw [orbT_contains_succ, Bool.or_assoc])]
    rfl
theorem cycSt_starts {f : Nat → Nat} {D : Nat → Bool} {N : Nat} (h : Mov f D N) {ids : List Int} (hD : ∀ j, j < ids.length → D (ids.getD j 0).toNat = true) (k : Nat) (hk : k ≤ ids.length) :
    cycSt f N ids k = (marksB (seenB f N (startsN f N ids k)) N, (startsN f N ids k).map fun s => ((per f N s : Nat) : Int)) := by
  induction k with
  | zero =>
    simp only [cycSt, startsN, List.map_nil]
    rw [← marksB_none]; rfl
  | succ k ih =>
    have hd := hD k (by omega)
    have hst : ∀ s ∈ startsN f N ids k, D s = true := fun s hs => startsN_D hD (by omega) hs
    simp only [cycSt, ih (by omega)]
    obtain ⟨s, hs⟩ : ∃ s, (ids.getD k 0).toNat = s := ⟨_, rfl⟩
    rw [hs] at hd ⊢
    cases hq : seenB f N (startsN f N ids k) s
    · have hc := cyc1_orb h hd (g := seenB f N (startsN f N ids k)) (fun t ht => seenB_orb h hst hd hq ht) (per f N s) 0 (by omega)
      have e0 : marksB (fun x => seenB f N (startsN f N ids k) x || (orbT f s 0).contains x) N = marksB (seenB f N (startsN f N ids k)) N := marksB_congr fun t _ => by simp [orbT]
      rw [e0] at hc
      simp only [iter] at hc
      rw [hc, startsN_no (by rw [hs]; exact hq), hs]
      have hp := (h.perS hd).2.1
      simp only [show 0 < per f N s by omega, if_true]
      rw [List.map_append]
      refine Prod.ext ?_ rfl
      exact marksB_congr fun t _ => (seenB_snoc _ _ _ _ _).symm
    · rw [cyc1_stop (by rw [marksB_get _ (h.lt s hd)]; exact hq), startsN_yes (by rw [hs]; exact hq)]
      rfl
theorem cyclesL_starts {f : Nat → Nat} {D : Nat → Bool} {N : Nat} (h : Mov f D N) {ids : List Int} (hD : ∀ j, j < ids.length → D (ids.getD j 0).toNat = true) :
    cyclesL f N ids = (starts f N ids).map fun s => ((per f N s : Nat) : Int) := by
  unfold cyclesL starts
  rw [cycSt_starts h hD ids.length (Nat.le_refl _)]

/-! ### rowmotion and toggles move ideals -/
def idB (xs : List Int) (s : Nat) : Bool := decide (s < 2 ^ xs.length) && holdsIdeal xs s
theorem idB_iff {xs : List Int} {s : Nat} : idB xs s = true ↔ s < 2 ^ xs.length ∧ holdsIdeal xs s = true := by simp [idB]
theorem rowP_iff {xs : List Int} {s e : Nat} : rowP xs s e = true ↔ s.testBit e = false ∧ ∀ j, (row xs e).testBit j = true → s.testBit j = true := by
  simp only [rowP, Bool.and_eq_true, Bool.not_eq_true', beq_iff_eq, sub_eq_zero]
/-- the elements of what rowmotion makes that lie in no row of it are the least ones outside -/
theorem rowmo_top {xs : List Int} (hg : good xs = true) {s : Nat} (hs : holdsIdeal xs s = true) {e : Nat} (he : e < xs.length) :
    rowP xs s e = true ↔ (rowmo xs s).testBit e = true ∧ ∀ i, i < xs.length → (rowmo xs s).testBit i = true → (row xs i).testBit e = false := by
  have hid := holdsIdeal_row.1 hs
  have hm : ∀ i, (rowmo xs s).testBit i = true ↔ ∃ m, m < xs.length ∧ rowP xs s m = true ∧ (m = i ∨ (row xs m).testBit i = true) := by
    intro i
    unfold rowmo
    rw [orN_testBit]
    constructor
    · rintro ⟨m, h1, h2, h3⟩
      refine ⟨m, h1, h2, ?_⟩
      unfold rowG at h3
      rw [Nat.testBit_or, Bool.or_eq_true, Nat.testBit_two_pow] at h3
      rcases h3 with h3 | h3
      · exact .inl (by simpa using h3)
      · exact .inr h3
    · rintro ⟨m, h1, h2, h3⟩
      refine ⟨m, h1, h2, ?_⟩
      unfold rowG
      rw [Nat.testBit_or, Bool.or_eq_true, Nat.testBit_two_pow]
      rcases h3 with h3 | h3
      · exact .inl (by simpa using h3)
      · exact .inr h3
  constructor
  · intro hp
    refine ⟨(hm e).2 ⟨e, he, hp, .inl rfl⟩, fun i hi hb => ?_⟩
    rw [Bool.eq_false_iff]
    intro hr
    obtain ⟨h1, h2⟩ := rowP_iff.1 hp
    obtain ⟨m, hm1, hm2, hm3⟩ := (hm i).1 hb
    obtain ⟨h3, h4⟩ := rowP_iff.1 hm2
    rcases hm3 with rfl | hm3
    · rw [h4 e hr] at h1; cases h1
    · have := hid i hi (h4 i hm3) e hr
      rw [this] at h1; cases h1
  · rintro ⟨hb, hno⟩
    obtain ⟨m, hm1, hm2, hm3⟩ := (hm e).1 hb
    rcases hm3 with rfl | hm3
    · exact hm2
    · have := hno m hm1 ((hm m).2 ⟨m, hm1, hm2, .inl rfl⟩)
      rw [this] at hm3; cases hm3
/-- an ideal is told by the least ones outside -/
theorem out_iff {xs : List Int} (hg : good xs = true) {s : Nat} (hs : holdsIdeal xs s = true) : ∀ n e, e < n → e < xs.length → (s.testBit e = false ↔ rowP xs s e = true ∨ ∃ j, (row xs e).testBit j = true ∧ rowP xs s j = true) := by
  have hid := holdsIdeal_row.1 hs
  intro n
  induction n with
  | zero => intro e h; omega
  | succ n ih =>
    intro e hn he
    constructor
    · intro hb
      by_cases hall : ∀ j, (row xs e).testBit j = true → s.testBit j = true
      · exact .inl (rowP_iff.2 ⟨hb, hall⟩)
      · have ⟨j, hj⟩ := Classical.not_forall.1 hall
        have ⟨hj1, hj2⟩ := Classical.not_imp.1 hj
        have hj3 : s.testBit j = false := by simpa using hj2
        have hlt : j < e := testBit_lt (row_lt hg he).2 hj1
        rcases (ih j (by omega) (by omega)).1 hj3 with h | ⟨i, h1, h2⟩
        · exact .inr ⟨j, hj1, h⟩
        · exact .inr ⟨i, row_closed hg he hj1 h1, h2⟩
    · rintro (h | ⟨j, h1, h2⟩)
      · exact (rowP_iff.1 h).1
      · rw [Bool.eq_false_iff]
        intro hb
        have h3 := hid e he hb j h1
        rw [(rowP_iff.1 h2).1] at h3; cases h3
theorem rowmo_inj {xs : List Int} (hg : good xs = true) {s t : Nat} (hs : holdsIdeal xs s = true) (ht : holdsIdeal xs t = true) (hsl : s < 2 ^ xs.length) (htl : t < 2 ^ xs.length) (h : rowmo xs s = rowmo xs t) : s = t := by
  have hP : ∀ e, e < xs.length → rowP xs s e = rowP xs t e := by
    intro e he
    rw [Bool.eq_iff_iff, rowmo_top hg hs he, rowmo_top hg ht he, h]
  have hq : ∀ e, e < xs.length → (s.testBit e = false ↔ t.testBit e = false) := by
    intro e he
    rw [out_iff hg hs (e + 1) e (by omega) he, out_iff hg ht (e + 1) e (by omega) he, hP e he]
    constructor
    · rintro (h1 | ⟨j, h1, h2⟩)
      · exact .inl h1
      · have hlt : j < e := testBit_lt (row_lt hg he).2 h1
        exact .inr ⟨j, h1, by rw [← hP j (by omega)]; exact h2⟩
    · rintro (h1 | ⟨j, h1, h2⟩)
      · exact .inl h1
      · have hlt : j < e := testBit_lt (row_lt hg he).2 h1
        exact .inr ⟨j, h1, by rw [hP j (by omega)]; exact h2⟩
  apply Nat.eq_of_testBit_eq
  intro i
  by_cases hi : i < xs.length
  · have := hq i hi
    cases h1 : s.testBit i <;> cases h2 : t.testBit i <;> simp_all
  · have hz : ∀ z, z < 2 ^ xs.length → z.testBit i = false := fun z hz => by
      rw [Bool.eq_false_iff]; intro hb; exact hi (testBit_lt hz hb)
    rw [hz s hsl, hz t htl]
theorem rowMov {xs : List Int} (hg : good xs = true) : Mov (rowmo xs) (idB xs) (2 ^ xs.length) where
  lt s h := (idB_iff.1 h).1
  ins s h := idB_iff.2 ⟨rowmo_lt hg s, rowmo_ideal hg s⟩
  inj s t h k e := rowmo_inj hg (idB_iff.1 h).2 (idB_iff.1 k).2 (idB_iff.1 h).1 (idB_iff.1 k).1 e
theorem tog_tog {xs : List Int} {s e : Nat} (hs : holdsIdeal xs s = true) : tog xs (tog xs s e) e = s := by
  cases h : holdsIdeal xs (s ^^^ 2 ^ e)
  · rw [tog_no h, tog_no h]
  · have h2 : s ^^^ 2 ^ e ^^^ 2 ^ e = s := by rw [Nat.xor_assoc, Nat.xor_self, Nat.xor_zero]
    rw [tog_yes h, tog_yes (by rw [h2]; exact hs), h2]
theorem togW_inj {xs : List Int} {ys : List Int} {s t : Nat} (hs : holdsIdeal xs s = true) (ht : holdsIdeal xs t = true) (h : togW xs s ys = togW xs t ys) : s = t := by
  induction ys generalizing s t with
  | nil => exact h
  | cons y ys ih =>
    have h1 := ih (tog_ideal hs) (tog_ideal ht) h
    rw [← tog_tog (e := y.toNat) hs, h1, tog_tog ht]
theorem togMov {xs ys : List Int} (hy : inW xs.length ys = true) : Mov (fun s => togW xs s ys) (idB xs) (2 ^ xs.length) where
  lt s h := (idB_iff.1 h).1
  ins s h := idB_iff.2 ⟨togW_lt (idB_iff.1 h).1 hy, togW_ideal (idB_iff.1 h).2⟩
  inj s t h k e := togW_inj (idB_iff.1 h).2 (idB_iff.1 k).2 e

/-- an orbit as a list of integers -/
def orbTL (f : Nat → Nat) (s k : Nat) : List Int := (orbT f s k).map fun (x : Nat) => (x : Int)
def orbL (f : Nat → Nat) (N s : Nat) : List Int := orbTL f s (per f N s)
theorem orbTL_length (f : Nat → Nat) (s k : Nat) : (orbTL f s k).length = k := by simp [orbTL, orbT_length]
theorem orbL_length (f : Nat → Nat) (N s : Nat) : (orbL f N s).length = per f N s := orbTL_length _ _ _
theorem orbTL_succ (f : Nat → Nat) (s k : Nat) : orbTL f s (k + 1) = orbTL f s k ++ [((iter f k s : Nat) : Int)] := by simp [orbTL, orbT_succ]
theorem orbTL_get (f : Nat → Nat) (s : Nat) {k j : Nat} (hj : j < k) : (orbTL f s k).getD j 0 = ((iter f j s : Nat) : Int) := by simp [orbTL, orbT, List.getD, hj]
end Go.Proofs.Ytdemikjaghegnaa

/- Orders: IsOrder. -/
namespace Go.Proofs.Ytdemikjaghegnaa
open Go.RowKit Go.WideShapes Go.ChangeShapes
set_option linter.unusedVariables false

def ordP (xs : List Int) (m : Nat) (y : Int) : Bool := (decide (0 ≤ y) && decide (y < xs.length)) && (!m.testBit y.toNat && (sub (row xs y.toNat) m == 0))
def ordSt (xs ys : List Int) : Nat → Option Nat
  | 0 => some 0
  | k + 1 => (ordSt xs ys k).bind fun m => if ordP xs m (ys.getD k 0) then some (m ||| 2 ^ (ys.getD k 0).toNat) else none
def orderB (xs ys : List Int) : Bool := decide (ys.length = xs.length) && (ordSt xs ys ys.length).isSome
theorem ordSt_yes {xs ys : List Int} {k m : Nat} (h : ordSt xs ys k = some m) (hp : ordP xs m (ys.getD k 0) = true) : ordSt xs ys (k + 1) = some (m ||| 2 ^ (ys.getD k 0).toNat) := by
  simp only [ordSt, h, Option.bind_some, hp, if_true]
theorem ordSt_no {xs ys : List Int} {k m : Nat} (h : ordSt xs ys k = some m) (hp : ordP xs m (ys.getD k 0) = false) : ∀ j, k < j → ordSt xs ys j = none := by
  intro j hj
  induction j with
  | zero => omega
  | succ j ih =>
    by_cases e : k = j
    · subst e; simp only [ordSt, h, Option.bind_some, hp]; rfl
    · simp only [ordSt, ih (by omega)]; rfl
theorem ordSt_lt {xs ys : List Int} (k : Nat) : ∀ m, ordSt xs ys k = some m → m < 2 ^ xs.length ∧ ∀ j, j < k → 0 ≤ ys.getD j 0 ∧ ys.getD j 0 < xs.length := by
  induction k with
  | zero => intro m h; simp only [ordSt, Option.some.injEq] at h; subst h; exact ⟨Nat.two_pow_pos _, fun j hj => by omega⟩
  | succ k ih =>
    intro m h
    cases hq : ordSt xs ys k with
    | none => simp only [ordSt, hq] at h; cases h
    | some q =>
      obtain ⟨h1, h2⟩ := ih q hq
      cases hp : ordP xs q (ys.getD k 0)
      · rw [ordSt_no hq hp (k + 1) (by omega)] at h; cases h
      · rw [ordSt_yes hq hp] at h
        simp only [Option.some.injEq] at h
        subst h
        simp only [ordP, Bool.and_eq_true, decide_eq_true_eq] at hp
        refine ⟨Nat.or_lt_two_pow h1 (pow_lt_len (by omega)), fun j hj => ?_⟩
        by_cases e : j = k
        · subst e; exact hp.1
        · exact h2 j (by omega)
theorem orderB_len {xs ys : List Int} (h : ¬ ys.length = xs.length) : orderB xs ys = false := by simp [orderB, h]
theorem orderB_no {xs ys : List Int} {k m : Nat} (h : ordSt xs ys k = some m) (hk : k < ys.length) (hp : ordP xs m (ys.getD k 0) = false) : orderB xs ys = false := by
  simp [orderB, ordSt_no h hp ys.length hk]
theorem orderB_yes {xs ys : List Int} {m : Nat} (hl : ys.length = xs.length) (h : ordSt xs ys ys.length = some m) : orderB xs ys = true := by
  rw [orderB, h, hl]; simp
theorem orderB_in {xs ys : List Int} (h : inW xs.length ys = false) : orderB xs ys = false := by
  cases hc : orderB xs ys
  · rfl
  · simp only [orderB, Bool.and_eq_true, decide_eq_true_eq] at hc
    obtain ⟨m, hm⟩ := Option.isSome_iff_exists.1 hc.2
    rw [inW_of (ordSt_lt _ m hm).2] at h; cases h
theorem orderB_word {xs ys : List Int} (h : orderB xs ys = true) : ys.length = xs.length ∧ inW xs.length ys = true := by
  simp only [orderB, Bool.and_eq_true, decide_eq_true_eq] at h
  obtain ⟨m, hm⟩ := Option.isSome_iff_exists.1 h.2
  exact ⟨h.1, inW_of (ordSt_lt _ m hm).2⟩
theorem ordP_range {xs : List Int} {m : Nat} {y : Int} (h : (decide (0 ≤ y) && decide (y < xs.length)) = false) : ordP xs m y = false := by simp only [ordP, h]; rfl
theorem ordP_bit {xs : List Int} {m e : Nat} (h : m.testBit e = true) : ordP xs m (e : Int) = false := by simp [ordP, h]
theorem ordP_row {xs : List Int} {m e z : Nat} (hz : row xs e = z) (h : sub z m ≠ 0) : ordP xs m (e : Int) = false := by
  simp [ordP, hz, h]
theorem ordP_yes {xs : List Int} {m e z : Nat} (he : e < xs.length) (hb : m.testBit e = false) (hz : row xs e = z) (h : sub z m = 0) : ordP xs m (e : Int) = true := by
  simp [ordP, hz, h, hb]; omega

theorem tgOrder_any (v u : Value) (xs ys : List Int) (w : World) (hv : Ints w v xs) (hu : Ints w u ys) (hg : good xs = true) (hm : ys.length ≤ 1048576) :
    Calls Try.prog 56 #[.agg #[v], u] w fun r w' => r = .returned (.bool (orderB xs ys)) ∧ Below w.heap.size w w' := by
  have HU := hid hu
  have HG := hid hg
  have hl10 := (good_length hg).2
  obtain ⟨A, c, rfl, hA⟩ := hv
  have HA := hid hA
  obtain ⟨A2, c2, rfl, hA2⟩ := hu
  have HA2 := hid hA2
  clear hA hA2 hg
  by_cases hlen : ys.length = xs.length
  · have HL := hid hlen
    have hne : ((ys.length : Int) != (xs.length : Int)) = false := by rw [bne_eq_false_iff_eq, hlen]
    clear hlen
    go_enter Try.func56, Try.ntmps56
    have HB := hid (below_alloc (Below.refl _ w) (.cells #[(.slice A xs.length c)] 26))
    have A0 := hid (At.newAt w (.slice A xs.length c) 26 w.heap.size (by simp))
    go_wp2_with fail
    refine (l1All_any _ ys xs.length _ (HU.out.below HB.out) hm (by omega)).mono ?_
    rintro e w' ⟨rfl, hb⟩
    replace HB := hid (below_to HB.out hb)
    replace A0 := hid (A0.out.below hb)
    clear hb
    cases hq : inW xs.length ys
    · have HO := hid (orderB_in hq)
      clear hq
      have ebox0 := A0.out.1
      go_wp2
      go_ret
      exact ⟨ret_bool HO.out.symm, HB.out⟩
    · have HQ := hid hq
      clear hq hne
      have ebox0 := A0.out.1
      go_wp2
      go_loop [5, 25] (fun q i => ∃ k m : Nat, k ≤ ys.length ∧ i = .int .i64 k ∧ q = .int .i64 m ∧ Hid (ordSt xs ys k = some m)) (fun _ i => ys.length - (intOf i).toNat)
      case atStart => exact ⟨0, 0, Nat.zero_le _, rfl, rfl, hid rfl⟩
      case round =>
        obtain ⟨k, m, hk, rfl, rfl, HS⟩ := hrel
        by_cases hlt : k < ys.length
        · obtain ⟨b2, o2, rfl, hbl2, hc2⟩ := HA2.out (by intro h; simp [h] at hlt)
          have hc2' : w'.cell? ⟨b2, o2 + k, none⟩ = some (.int .i64 (ys.getD k 0)) := (HB.out.cell (p := ⟨b2, o2 + k, none⟩) hbl2).trans (hc2 k hlt)
          have hin := inW_at HQ.out hlt
          have hm2 := (ordSt_lt k m HS.out).1
          obtain ⟨y, hy⟩ : ∃ y, ys.getD k 0 = y := ⟨_, rfl⟩
          rw [hy] at hc2' hin
          obtain ⟨e, rfl⟩ := Int.eq_ofNat_of_zero_le hin.1
          have he : e < xs.length := by omega
          have HY := hid hy
          have hm10 := lt1024 hm2 hl10
          clear hc2 hy hm2
          cases hbit : m.testBit e
          · have HBit := hid hbit
            obtain ⟨b, o, rfl, hbl, hc⟩ := HA.out (by intro h; simp [h] at he)
            have hc' : w'.cell? ⟨b, o + e, none⟩ = some (.int .i64 (xs.getD e 0)) := (HB.out.cell (p := ⟨b, o + e, none⟩) hbl).trans (hc e he)
            have hr := row_lt HG.out he
            have hr10 := row_lt10 HG.out he
            obtain ⟨z, hz⟩ : ∃ z, row xs e = z := ⟨_, rfl⟩
            rw [hz] at hr hr10
            rw [hr.1] at hc'
            have HZ := hid hz
            have han := i64_andNot_nat z m (by omega) (by omega)
            have wp := wrap_pow' e (by omega)
            have hor := or_pow m e hm10 (by omega)
            have hbox := A0.out.1
            clear hc hz hr hbit
            by_cases h0 : sub z m = 0
            · have hs' : (((sub z m : Nat) : Int) != 0) = false := by rw [h0]; rfl
              have HP := hid (ordSt_yes HS.out (by rw [HY.out]; exact ordP_yes he HBit.out HZ.out h0))
              clear h0
              go_wp2_with (go_at_call 96; refine (poIn_any m e (by omega) _).mono ?_; rw [HBit.out]; rintro e' w2 ⟨rfl, rfl⟩)
              go_round
              case rel => exact ⟨k + 1, _, by omega, by go_num, rfl, hid (by rw [HP.out, HY.out]; rfl)⟩
              case measure => simp [intOf]; omega
            · have hs' : (((sub z m : Nat) : Int) != 0) = true := by rw [bne_iff_ne]; omega
              have HP := hid (orderB_no HS.out hlt (by rw [HY.out]; exact ordP_row HZ.out h0))
              clear h0
              go_wp2_with (go_at_call 96; refine (poIn_any m e (by omega) _).mono ?_; rw [HBit.out]; rintro e' w2 ⟨rfl, rfl⟩)
              go_ret
              exact ⟨ret_bool HP.out.symm, HB.out⟩
          · have HBit := hid hbit
            have HP := hid (orderB_no HS.out hlt (by rw [HY.out]; exact ordP_bit hbit))
            clear hbit
            go_wp2_with (go_at_call 96; refine (poIn_any m e (by omega) _).mono ?_; rw [HBit.out]; rintro e' w2 ⟨rfl, rfl⟩)
            go_ret
            exact ⟨ret_bool HP.out.symm, HB.out⟩
        · obtain rfl : k = ys.length := by omega
          have HP := hid (orderB_yes HL.out HS.out)
          go_wp2
          go_ret
          exact ⟨ret_bool HP.out.symm, HB.out⟩
  · have HO := hid (orderB_len hlen)
    have hne : ((ys.length : Int) != (xs.length : Int)) = true := by rw [bne_iff_ne]; omega
    clear hlen
    go_enter Try.func56, Try.ntmps56
    have HB := hid (below_alloc (Below.refl _ w) (.cells #[(.slice A xs.length c)] 26))
    have A0 := hid (At.newAt w (.slice A xs.length c) 26 w.heap.size (by simp))
    go_wp2
    go_ret
    exact ⟨ret_bool HO.out.symm, HB.out⟩
theorem hasOrder_any (v u : Value) (xs ys : List Int) (w : World) (hv : Ints w v xs) (hu : Ints w u ys) (hg : good xs = true) (hm : ys.length ≤ 1048576) :
    Calls Try.prog 53 #[.agg #[v], u] w fun r w' => r = .returned (.bool (orderB xs ys)) ∧ Below w.heap.size w w' := by
  have HV := hid hv
  have HG := hid hg
  have hl10 := (good_length hg).2
  obtain ⟨A, c, rfl, hA⟩ := hv
  have HA := hid hA
  obtain ⟨A2, c2, rfl, hA2⟩ := hu
  have HA2 := hid hA2
  clear hA hA2 hg
  by_cases hlen : ys.length = xs.length
  · have HL := hid hlen
    have hne : ((ys.length : Int) != (xs.length : Int)) = false := by rw [bne_eq_false_iff_eq, hlen]
    clear hlen
    go_enter Try.func53, Try.ntmps53
    have HB := hid (below_alloc (Below.refl _ w) (.cells #[(.slice A xs.length c)] 26))
    have A0 := hid (At.newAt w (.slice A xs.length c) 26 w.heap.size (by simp))
    go_wp2
    clear hne
    go_loopw [5, 16] (fun q i wr => ∃ k m : Nat, k ≤ ys.length ∧ i = .int .i64 k ∧ q = .int .i64 m ∧ Hid (ordSt xs ys k = some m) ∧ Below w.heap.size w wr ∧ At wr w.heap.size (.slice A xs.length c)) (fun _ i _ => ys.length - (intOf i).toNat)
    case atStart => exact ⟨0, 0, Nat.zero_le _, rfl, rfl, hid rfl, HB.out, A0.out⟩
    case round =>
      obtain ⟨k, m, hk, rfl, rfl, HS, hb, ha⟩ := hrel
      have hbox := ha.1
      by_cases hlt : k < ys.length
      · obtain ⟨b2, o2, rfl, hbl2, hc2⟩ := HA2.out (by intro h; simp [h] at hlt)
        have hc2' : wr.cell? ⟨b2, o2 + k, none⟩ = some (.int .i64 (ys.getD k 0)) := (hb.cell (p := ⟨b2, o2 + k, none⟩) hbl2).trans (hc2 k hlt)
        have hm2 := (ordSt_lt k m HS.out).1
        obtain ⟨y, hy⟩ : ∃ y, ys.getD k 0 = y := ⟨_, rfl⟩
        rw [hy] at hc2'
        have HY := hid hy
        have hm10 := lt1024 hm2 hl10
        have HB1 := hid hb
        have HA1 := hid ha
        clear hc2 hy hm2 hb ha
        go_wp2_with fail
        clear hbox hc2'
        refine (hasIndex_any _ xs y _ (HV.out.below HB1.out) (by omega)).mono ?_
        rintro e' w2 ⟨rfl, hb⟩
        have HB2 := hid (below_to HB1.out hb)
        have HA3 := hid (HA1.out.below hb)
        have hbox := HA3.out.1
        clear hb
        cases hq : (decide (0 ≤ y) && decide (y < (xs.length : Int)))
        · have HP := hid (orderB_no HS.out hlt (by rw [HY.out]; exact ordP_range hq))
          clear hq
          go_wp2
          go_ret
          exact ⟨ret_bool HP.out.symm, HB2.out⟩
        · have hq2 : 0 ≤ y ∧ y < xs.length := by simpa using hq
          clear hq
          obtain ⟨e, rfl⟩ := Int.eq_ofNat_of_zero_le hq2.1
          have he : e < xs.length := by omega
          cases hbit : m.testBit e
          · have HBit := hid hbit
            obtain ⟨b, o, rfl, hbl, hc⟩ := HA.out (by intro h; simp [h] at he)
            have hc' : w2.cell? ⟨b, o + e, none⟩ = some (.int .i64 (xs.getD e 0)) := (HB2.out.cell (p := ⟨b, o + e, none⟩) hbl).trans (hc e he)
            have hr := row_lt HG.out he
            have hr10 := row_lt10 HG.out he
            obtain ⟨z, hz⟩ : ∃ z, row xs e = z := ⟨_, rfl⟩
            rw [hz] at hr hr10
            rw [hr.1] at hc'
            have HZ := hid hz
            have han := i64_andNot_nat z m (by omega) (by omega)
            have wp := wrap_pow' e (by omega)
            have hor := or_pow m e hm10 (by omega)
            clear hc hz hr hbit
            by_cases h0 : sub z m = 0
            · have hs' : (((sub z m : Nat) : Int) != 0) = false := by rw [h0]; rfl
              have HP := hid (ordSt_yes HS.out (by rw [HY.out]; exact ordP_yes he HBit.out HZ.out h0))
              clear h0
              go_wp2_with (go_at_call 62; refine (hasElement_any m e (by omega) (by omega) _).mono ?_; rw [HBit.out]; rintro e' w3 ⟨rfl, rfl⟩)
              go_roundw
              case rel => exact ⟨k + 1, _, by omega, by go_num, rfl, hid (by rw [HP.out, HY.out]; rfl), HB2.out, HA3.out⟩
              case measure => simp [intOf]; omega
            · have hs' : (((sub z m : Nat) : Int) != 0) = true := by rw [bne_iff_ne]; omega
              have HP := hid (orderB_no HS.out hlt (by rw [HY.out]; exact ordP_row HZ.out h0))
              clear h0
              go_wp2_with (go_at_call 62; refine (hasElement_any m e (by omega) (by omega) _).mono ?_; rw [HBit.out]; rintro e' w3 ⟨rfl, rfl⟩)
              go_ret
              exact ⟨ret_bool HP.out.symm, HB2.out⟩
          · have HBit := hid hbit
            have HP := hid (orderB_no HS.out hlt (by rw [HY.out]; exact ordP_bit hbit))
            clear hbit
            go_wp2_with (go_at_call 62; refine (hasElement_any m e (by omega) (by omega) _).mono ?_; rw [HBit.out]; rintro e' w3 ⟨rfl, rfl⟩)
            go_ret
            exact ⟨ret_bool HP.out.symm, HB2.out⟩
      · obtain rfl : k = ys.length := by omega
        have HP := hid (orderB_yes HL.out HS.out)
        have HB1 := hid hb
        clear hb ha
        go_wp2
        go_ret
        exact ⟨ret_bool HP.out.symm, HB1.out⟩
  · have HO := hid (orderB_len hlen)
    have hne : ((ys.length : Int) != (xs.length : Int)) = true := by rw [bne_iff_ne]; omega
    clear hlen
    go_enter Try.func53, Try.ntmps53
    have HB := hid (below_alloc (Below.refl _ w) (.cells #[(.slice A xs.length c)] 26))
    have A0 := hid (At.newAt w (.slice A xs.length c) 26 w.heap.size (by simp))
    go_wp2
    go_ret
    exact ⟨ret_bool HO.out.symm, HB.out⟩
def okOrder (xs ys : List Int) : Bool := good xs && orderB xs ys
theorem okOrder_no {xs ys : List Int} (h : good xs = false) : okOrder xs ys = false := by simp [okOrder, h]
theorem okOrder_yes {xs ys : List Int} (h : good xs = true) : okOrder xs ys = orderB xs ys := by simp [okOrder, h]
theorem specIsOrder_any (v : Value) (xs : List Int) (u : Value) (ys : List Int) (w : World) (hv : Ints w v xs) (hl : xs.length ≤ 1048576) (hu : Ints w u ys) (hm : ys.length ≤ 1048576) :
    Calls Try.prog 23 #[.agg #[v], u] w fun r w' => r = .returned (.tuple #[.bool (okOrder xs ys), .bool (good xs)]) ∧ Below w.heap.size w w' := by
  have HV := hid hv
  have HU := hid hu
  clear hv hu
  go_enter Try.func23, Try.ntmps23
  have HB := hid (below_alloc (Below.refl _ w) (.cells #[v] 26))
  have A0 := hid (At.newAt w v 26 w.heap.size (by simp))
  go_wp2_with fail
  refine (poGood_any _ xs _ (HV.out.below HB.out) hl).mono ?_
  rintro e w' ⟨rfl, hb⟩
  replace HB := hid (below_to HB.out hb)
  replace A0 := hid (A0.out.below hb)
  clear hb
  cases hq : good xs
  · have HO := hid (okOrder_no (ys := ys) hq)
    have HQ := hid hq
    clear hq
    have ebox0 := A0.out.1
    go_wp2
    go_ret2
    exact ⟨ret_bb HO.out.symm HQ.out.symm, HB.out⟩
  · have HQ := hid hq
    have HO := hid (okOrder_yes (ys := ys) hq)
    clear hq
    have ebox0 := A0.out.1
    go_wp2_with fail
    clear ebox0
    refine (tgOrder_any _ _ xs ys _ (HV.out.below HB.out) (HU.out.below HB.out) HQ.out hm).mono ?_
    rintro e w' ⟨rfl, hb⟩
    replace HB := hid (below_to HB.out hb)
    replace A0 := hid (A0.out.below hb)
    clear hb
    have ebox0 := A0.out.1
    go_wp2
    go_ret2
    exact ⟨ret_bb HO.out.symm HQ.out.symm, HB.out⟩
theorem implIsOrder_any (v : Value) (xs : List Int) (u : Value) (ys : List Int) (w : World) (hv : Ints w v xs) (hl : xs.length ≤ 1048576) (hu : Ints w u ys) (hm : ys.length ≤ 1048576) :
    Calls Try.prog 22 #[.agg #[v], u] w fun r w' => r = .returned (.tuple #[.bool (okOrder xs ys), .bool (good xs)]) ∧ Below w.heap.size w w' := by
  have HV := hid hv
  have HU := hid hu
  clear hv hu
  go_enter Try.func22, Try.ntmps22
  have HB := hid (below_alloc (Below.refl _ w) (.cells #[v] 26))
  have A0 := hid (At.newAt w v 26 w.heap.size (by simp))
  go_wp2_with fail
  refine (implIsPoset_any _ xs _ (HV.out.below HB.out) hl).mono ?_
  rintro e w' ⟨rfl, hb⟩
  replace HB := hid (below_to HB.out hb)
  replace A0 := hid (A0.out.below hb)
  clear hb
  cases hq : good xs
  · have HO := hid (okOrder_no (ys := ys) hq)
    have HQ := hid hq
    clear hq
    have ebox0 := A0.out.1
    go_wp2
    go_ret2
    exact ⟨ret_bb HO.out.symm HQ.out.symm, HB.out⟩
  · have HQ := hid hq
    have HO := hid (okOrder_yes (ys := ys) hq)
    clear hq
    have ebox0 := A0.out.1
    go_wp2_with fail
    clear ebox0
    refine (hasOrder_any _ _ xs ys _ (HV.out.below HB.out) (HU.out.below HB.out) HQ.out hm).mono ?_
    rintro e w' ⟨rfl, hb⟩
    replace HB := hid (below_to HB.out hb)
    replace A0 := hid (A0.out.below hb)
    clear hb
    have ebox0 := A0.out.1
    go_wp2
    go_ret2
    exact ⟨ret_bb HO.out.symm HQ.out.symm, HB.out⟩
end Go.Proofs.Ytdemikjaghegnaa
