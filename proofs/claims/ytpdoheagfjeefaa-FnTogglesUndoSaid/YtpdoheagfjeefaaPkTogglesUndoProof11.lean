/- Texts Orb, TgF, FixO, one behind the other. -/
import Derived.Test.YtpdoheagfjeefaaPkTogglesUndoProof08
import Derived.Test.YtpdoheagfjeefaaPkTogglesUndoProof10
/- Orbits of a motion, which ideals begin them, cycles told by these; rowmotion and toggles move ideals. No program is named here. -/
namespace Go.Proofs.Ytpdoheagfjeefaa
set_option linter.unusedVariables false

/-- 'f' moves the numbers of kind D, all below N, into one another, no two to the same -/
structure Mov (f : Nat → Nat) (D : Nat → Bool) (N : Nat) : Prop where
  lt : ∀ s, D s = true → s < N
  ins : ∀ s, D s = true → D (f s) = true
  inj : ∀ s t, D s = true → D t = true → f s = f t → s = t
theorem Mov.it {f : Nat → Nat} {D : Nat → Bool} {N : Nat} (h : Mov f D N) {s : Nat} (hs : D s = true) (k : Nat) : D (iter f k s) = true := by
  induction k with
  | zero => exact hs
  | succ k ih => exact h.ins _ ih
theorem iter_add (f : Nat → Nat) (j k s : Nat) : iter f (j + k) s = iter f j (iter f k s) := by
  induction j with
  | zero => rw [Nat.zero_add]; rfl
  | succ j ih => rw [Nat.succ_add]; simp only [iter]; rw [ih]
theorem Mov.back {f : Nat → Nat} {D : Nat → Bool} {N : Nat} (h : Mov f D N) {s t : Nat} (hs : D s = true) (ht : D t = true) (k : Nat) (e : iter f k s = iter f k t) : s = t := by
  induction k with
  | zero => exact e
  | succ k ih => exact ih (h.inj _ _ (h.it hs k) (h.it ht k) e)
theorem nodup_map_range {g : Nat → Nat} (n : Nat) (h : ∀ i j, i < j → j < n → g i ≠ g j) : ((List.range n).map g).Nodup := by
  rw [List.nodup_iff_pairwise_ne, List.pairwise_map]
  refine List.Pairwise.imp_of_mem ?_ (List.pairwise_lt_range (n := n))
  intro a b ha hb hab
  exact h a b hab (List.mem_range.1 hb)
theorem Mov.some_back {f : Nat → Nat} {D : Nat → Bool} {N : Nat} (h : Mov f D N) {s : Nat} (hs : D s = true) : ∃ n, 1 ≤ n ∧ n ≤ N ∧ iter f n s = s := by
  by_cases hc : ∃ i j, i < j ∧ j < N + 1 ∧ iter f i s = iter f j s
  · obtain ⟨i, j, h1, h2, h3⟩ := hc
    refine ⟨j - i, by omega, by omega, ?_⟩
    have e : i + (j - i) = j := by omega
    have h4 : iter f i s = iter f i (iter f (j - i) s) := by rw [← iter_add, e]; exact h3
    exact (h.back hs (h.it hs _) i h4).symm
  · exfalso
    have hn : ((List.range (N + 1)).map fun k => iter f k s).Nodup :=
      nodup_map_range (N + 1) fun i j h1 h2 h3 => hc ⟨i, j, h1, h2, h3⟩
    have hsub : ((List.range (N + 1)).map fun k => iter f k s) ⊆ List.range N := by
      intro x hx
      rw [List.mem_map] at hx
      obtain ⟨k, _, rfl⟩ := hx
      exact List.mem_range.2 (h.lt _ (h.it hs k))
    have := hn.length_le_of_subset hsub
    simp at this
    omega
/-- the least n from 'n0' on, within 'c' tries, with f^n s = s -/
def perF (f : Nat → Nat) (s : Nat) : Nat → Nat → Nat
  | 0, n => n
  | c + 1, n => if iter f n s = s then n else perF f s c (n + 1)
def per (f : Nat → Nat) (N s : Nat) : Nat := perF f s N 1
theorem perF_spec (f : Nat → Nat) (s : Nat) (c n m : Nat) (hm : n ≤ m) (hc : m ≤ n + c) (h : iter f m s = s) :
    iter f (perF f s c n) s = s ∧ n ≤ perF f s c n ∧ perF f s c n ≤ m ∧ ∀ k, n ≤ k → k < perF f s c n → iter f k s ≠ s := by
  induction c generalizing n with
  | zero =>
    have : m = n := by omega
    subst this
    exact ⟨h, Nat.le_refl _, Nat.le_refl _, fun k h1 h2 => by simp only [perF] at h2; omega⟩
  | succ c ih =>
    unfold perF
    split
    · rename_i hq
      exact ⟨hq, Nat.le_refl _, hm, fun k h1 h2 => by omega⟩
    · rename_i hq
      have hne : n ≠ m := by rintro rfl; exact hq h
      obtain ⟨h1, h2, h3, h4⟩ := ih (n + 1) (by omega) (by omega)
      refine ⟨h1, by omega, h3, fun k h5 h6 => ?_⟩
      by_cases e : k = n
      · subst e; exact hq
      · exact h4 k (by omega) h6
theorem Mov.perS {f : Nat → Nat} {D : Nat → Bool} {N : Nat} (h : Mov f D N) {s : Nat} (hs : D s = true) :
    iter f (per f N s) s = s ∧ 1 ≤ per f N s ∧ per f N s ≤ N ∧ ∀ k, 1 ≤ k → k < per f N s → iter f k s ≠ s := by
  obtain ⟨m, h1, h2, h3⟩ := h.some_back hs
  obtain ⟨a, b, c, d⟩ := perF_spec f s N 1 m h1 (by omega) h3
  exact ⟨a, b, by unfold per; omega, d⟩
/-- the orbit, as far as k -/
def orbT (f : Nat → Nat) (s k : Nat) : List Nat := (List.range k).map fun j => iter f j s
def orbN (f : Nat → Nat) (N s : Nat) : List Nat := orbT f s (per f N s)
theorem orbT_length (f : Nat → Nat) (s k : Nat) : (orbT f s k).length = k := by simp [orbT]
theorem orbN_length (f : Nat → Nat) (N s : Nat) : (orbN f N s).length = per f N s := orbT_length _ _ _
theorem orbT_succ (f : Nat → Nat) (s k : Nat) : orbT f s (k + 1) = orbT f s k ++ [iter f k s] := by simp [orbT, List.range_succ]
theorem orbT_get (f : Nat → Nat) (s : Nat) {k j : Nat} (hj : j < k) : (orbT f s k).getD j 0 = iter f j s := by simp [orbT, List.getD, hj]
theorem iter_mul {f : Nat → Nat} {s n : Nat} (h : iter f n s = s) (q : Nat) : iter f (n * q) s = s := by
  induction q with
  | zero => rfl
  | succ q ih => rw [Nat.mul_succ, Nat.add_comm, iter_add, ih, h]
theorem Mov.md {f : Nat → Nat} {D : Nat → Bool} {N : Nat} (h : Mov f D N) {s : Nat} (hs : D s = true) (k : Nat) : iter f k s = iter f (k % per f N s) s := by
  obtain ⟨h1, -, -, -⟩ := h.perS hs
  have e : k = k % per f N s + per f N s * (k / per f N s) := (Nat.mod_add_div k _).symm
  rw [e, iter_add, iter_mul h1]
  rw [← e]
theorem mem_orbN {f : Nat → Nat} {D : Nat → Bool} {N : Nat} (h : Mov f D N) {s : Nat} (hs : D s = true) (t : Nat) : t ∈ orbN f N s ↔ ∃ k, iter f k s = t := by
  unfold orbN orbT
  rw [List.mem_map]
  constructor
  · rintro ⟨k, -, hk⟩; exact ⟨k, hk⟩
  · rintro ⟨k, hk⟩
    obtain ⟨-, h2, -, -⟩ := h.perS hs
    exact ⟨k % per f N s, List.mem_range.2 (Nat.mod_lt _ (by omega)), by rw [← h.md hs k]; exact hk⟩
theorem Mov.reach_symm {f : Nat → Nat} {D : Nat → Bool} {N : Nat} (h : Mov f D N) {s : Nat} (hs : D s = true) (k : Nat) : ∃ j, iter f j (iter f k s) = s := by
  obtain ⟨h1, h2, h3, h4⟩ := h.perS (h.it hs k)
  obtain ⟨h1, h2, h3, h4⟩ := h.perS hs
  refine ⟨per f N s * k - k, ?_⟩
  rw [← iter_add]
  have : k ≤ per f N s * k := Nat.le_mul_of_pos_left k (by omega)
  rw [show per f N s * k - k + k = per f N s * k by omega]
  exact iter_mul h1 k
theorem mem_orbN_D {f : Nat → Nat} {D : Nat → Bool} {N : Nat} (h : Mov f D N) {s t : Nat} (hs : D s = true) (ht : t ∈ orbN f N s) : D t = true := by
  obtain ⟨k, rfl⟩ := (mem_orbN h hs t).1 ht
  exact h.it hs k
theorem mem_orbN_symm {f : Nat → Nat} {D : Nat → Bool} {N : Nat} (h : Mov f D N) {s t : Nat} (hs : D s = true) (ht : t ∈ orbN f N s) : s ∈ orbN f N t := by
  have hd := mem_orbN_D h hs ht
  obtain ⟨k, rfl⟩ := (mem_orbN h hs t).1 ht
  exact (mem_orbN h hd s).2 (h.reach_symm hs k)
theorem mem_orbN_trans {f : Nat → Nat} {D : Nat → Bool} {N : Nat} (h : Mov f D N) {r s t : Nat} (hr : D r = true) (h1 : s ∈ orbN f N r) (h2 : t ∈ orbN f N s) : t ∈ orbN f N r := by
  have hd := mem_orbN_D h hr h1
  obtain ⟨k, rfl⟩ := (mem_orbN h hr s).1 h1
  obtain ⟨j, rfl⟩ := (mem_orbN h hd t).1 h2
  exact (mem_orbN h hr _).2 ⟨j + k, by rw [iter_add]⟩
theorem self_mem_orbN {f : Nat → Nat} {D : Nat → Bool} {N : Nat} (h : Mov f D N) {s : Nat} (hs : D s = true) : s ∈ orbN f N s := (mem_orbN h hs s).2 ⟨0, rfl⟩
theorem Mov.orb_ne {f : Nat → Nat} {D : Nat → Bool} {N : Nat} (h : Mov f D N) {s : Nat} (hs : D s = true) {i j : Nat} (hij : i < j) (hj : j < per f N s) : iter f i s ≠ iter f j s := by
  intro e
  obtain ⟨h1, h2, h3, h4⟩ := h.perS hs
  have h5 : iter f i s = iter f i (iter f (j - i) s) := by rw [← iter_add, show i + (j - i) = j by omega]; exact e
  exact h4 (j - i) (by omega) (by omega) (h.back hs (h.it hs _) i h5).symm

/-! ### which ideals begin an orbit -/
/-- seen by an orbit that begins with one of the first k -/
def seenB (f : Nat → Nat) (N : Nat) (st : List Nat) (t : Nat) : Bool := st.any fun s => (orbN f N s).contains t
/-- the first ideals of the orbits, among the first k of a list -/
def startsN (f : Nat → Nat) (N : Nat) (ids : List Int) : Nat → List Nat
  | 0 => []
  | k + 1 => if seenB f N (startsN f N ids k) (ids.getD k 0).toNat then startsN f N ids k else startsN f N ids k ++ [(ids.getD k 0).toNat]
theorem startsN_yes {f : Nat → Nat} {N : Nat} {ids : List Int} {k : Nat} (h : seenB f N (startsN f N ids k) (ids.getD k 0).toNat = true) : startsN f N ids (k + 1) = startsN f N ids k := if_pos h
theorem startsN_no {f : Nat → Nat} {N : Nat} {ids : List Int} {k : Nat} (h : seenB f N (startsN f N ids k) (ids.getD k 0).toNat = false) : startsN f N ids (k + 1) = startsN f N ids k ++ [(ids.getD k 0).toNat] := by
  exact if_neg (by rw [h]; decide)
theorem seenB_snoc (f : Nat → Nat) (N : Nat) (st : List Nat) (s t : Nat) : seenB f N (st ++ [s]) t = (seenB f N st t || (orbN f N s).contains t) := by
  simp [seenB, List.any_append]
theorem startsN_length (f : Nat → Nat) (N : Nat) (ids : List Int) (k : Nat) : (startsN f N ids k).length ≤ k := by
  induction k with
  | zero => simp [startsN]
  | succ k ih =>
    unfold startsN
    split
    · omega
    · rw [List.length_append]; simp; omega
theorem startsN_mem {f : Nat → Nat} {N : Nat} {ids : List Int} {k s : Nat} (hk : k ≤ ids.length) (h : s ∈ startsN f N ids k) : ∃ j, j < k ∧ (ids.getD j 0).toNat = s := by
  induction k with
  | zero => simp [startsN] at h
  | succ k ih =>
    unfold startsN at h
    split at h
    · obtain ⟨j, h1, h2⟩ := ih (by omega) h; exact ⟨j, by omega, h2⟩
    · rw [List.mem_append, List.mem_singleton] at h
      rcases h with h | h
      · obtain ⟨j, h1, h2⟩ := ih (by omega) h; exact ⟨j, by omega, h2⟩
      · exact ⟨k, by omega, h.symm⟩
theorem startsN_D {f : Nat → Nat} {D : Nat → Bool} {N : Nat} {ids : List Int} (hD : ∀ j, j < ids.length → D (ids.getD j 0).toNat = true) {k s : Nat} (hk : k ≤ ids.length) (h : s ∈ startsN f N ids k) : D s = true := by
  obtain ⟨j, h1, rfl⟩ := startsN_mem hk h
  exact hD j (by omega)
/-- what is seen is closed under the motion, to and fro -/
theorem seenB_orb {f : Nat → Nat} {D : Nat → Bool} {N : Nat} (h : Mov f D N) {st : List Nat} (hst : ∀ s ∈ st, D s = true) {t : Nat} (ht : D t = true) (hs : seenB f N st t = false) {u : Nat} (hu : u ∈ orbN f N t) : seenB f N st u = false := by
  cases hc : seenB f N st u
  · rfl
  · unfold seenB at hc hs
    rw [List.any_eq_true] at hc
    obtain ⟨s, h1, h2⟩ := hc
    have h2' : u ∈ orbN f N s := by simpa using h2
    have h3 := mem_orbN_symm h ht hu
    have h4 := mem_orbN_trans h (hst s h1) h2' h3
    have : (st.any fun s => (orbN f N s).contains t) = true := List.any_eq_true.2 ⟨s, h1, by simpa using h4⟩
    rw [this] at hs; cases hs
theorem startsN_seen {f : Nat → Nat} {D : Nat → Bool} {N : Nat} (h : Mov f D N) {ids : List Int} (hD : ∀ j, j < ids.length → D (ids.getD j 0).toNat = true) {k : Nat} (hk : k ≤ ids.length) {j : Nat} (hj : j < k) : seenB f N (startsN f N ids k) (ids.getD j 0).toNat = true := by
  induction k with
  | zero => omega
  | succ k ih =>
    by_cases e : j = k
    · subst e
      cases hq : seenB f N (startsN f N ids j) (ids.getD j 0).toNat
      · rw [startsN_no hq, seenB_snoc]
        have := self_mem_orbN h (hD j (by omega))
        rw [Bool.or_eq_true]; exact .inr (List.contains_iff_mem.2 this)
      · rw [startsN_yes hq]; exact hq
    · have h1 := ih (by omega) (by omega)
      cases hq : seenB f N (startsN f N ids k) (ids.getD k 0).toNat
      · rw [startsN_no hq, seenB_snoc, h1]; rfl
      · rw [startsN_yes hq]; exact h1
def starts (f : Nat → Nat) (N : Nat) (ids : List Int) : List Nat := startsN f N ids ids.length
/-- a list of marks -/
def marksB (g : Nat → Bool) (N : Nat) : List Bool := (List.range N).map g
theorem marksB_length (g : Nat → Bool) (N : Nat) : (marksB g N).length = N := by simp [marksB]
theorem marksB_get (g : Nat → Bool) {N t : Nat} (h : t < N) : (marksB g N).getD t true = g t := by simp [marksB, List.getD, h]
theorem marksB_set (g : Nat → Bool) (N t : Nat) : (marksB g N).set t true = marksB (fun x => g x || x == t) N := by
  apply List.ext_getElem?
  intro i
  rw [List.getElem?_set, marksB_length]
  by_cases hi : i < N
  · by_cases e : t = i
    · subst e; simp [marksB, hi]
    · simp [marksB, hi, e, show ¬ i = t from fun h => e h.symm]
  · have h1 : (marksB g N)[i]? = none := List.getElem?_eq_none (by rw [marksB_length]; omega)
    have h2 : (marksB (fun x => g x || x == t) N)[i]? = none := List.getElem?_eq_none (by rw [marksB_length]; omega)
    rw [h1, h2]
    by_cases e : t = i
    · subst e; simp [hi]
    · simp [e]
theorem marksB_congr {g h : Nat → Bool} {N : Nat} (e : ∀ t, t < N → g t = h t) : marksB g N = marksB h N := by
  unfold marksB
  exact List.map_congr_left fun t ht => e t (List.mem_range.1 ht)
theorem marksB_none (N : Nat) : marksB (fun _ => false) N = List.replicate N false := by
  apply List.ext_getElem?
  intro i
  by_cases hi : i < N <;> simp [marksB, hi]

/-! ### the cycles, told by where they begin -/
theorem orbT_contains_succ (f : Nat → Nat) (s k x : Nat) : (orbT f s (k + 1)).contains x = ((orbT f s k).contains x || x == iter f k s) := by
  rw [orbT_succ, List.contains_eq_any_beq, List.contains_eq_any_beq, List.any_append]; simp
theorem not_orbT {f : Nat → Nat} {D : Nat → Bool} {N : Nat} (h : Mov f D N) {s : Nat} (hs : D s = true) {k : Nat} (hk : k < per f N s) : (orbT f s k).contains (iter f k s) = false := by
  rw [Bool.eq_false_iff]
  intro hc
  have hm : iter f k s ∈ orbT f s k := List.contains_iff_mem.1 hc
  unfold orbT at hm
  rw [List.mem_map] at hm
  obtain ⟨i, hi, he⟩ := hm
  exact h.orb_ne hs (List.mem_range.1 hi) hk he
/-! ### cycles as the program counts them -/
theorem cyc1_orb {f : Nat → Nat} {D : Nat → Bool} {N : Nat} (h : Mov f D N) {s : Nat} (hs : D s = true) {g : Nat → Bool} (hg : ∀ t, t ∈ orbN f N s → g t = false) (c j : Nat) (hj : j + c = per f N s) :
    cyc1 f (marksB (fun x => g x || (orbT f s j).contains x) N) (iter f j s) j = (marksB (fun x => g x || (orbN f N s).contains x) N, per f N s) := by
  obtain ⟨h1, h2, h3, h4⟩ := h.perS hs
  induction c generalizing j with
  | zero =>
    have : j = per f N s := by omega
    subst this
    have hm : (orbT f s (per f N s)).contains s = true := List.contains_iff_mem.2 (self_mem_orbN h hs)
    rw [h1, cyc1_stop (by rw [marksB_get _ (h.lt s hs), hm, Bool.or_true])]
    rfl
  | succ c ih =>
    have hlt := h.lt _ (h.it hs j)
    have hmem : iter f j s ∈ orbN f N s := (mem_orbN h hs _).2 ⟨j, rfl⟩
    have hno := not_orbT h hs (show j < per f N s by omega)
    rw [cyc1_go (by rw [marksB_length]; exact hlt) (by rw [marksB_get _ hlt, hg _ hmem, hno]; rfl), marksB_set]
    rw [← ih (j + 1) (by omega)]
    rw [marksB_congr (g := fun x => (g x || (orbT f s j).contains x) || x == iter f j s) (h := fun x => g x || (orbT f s (j + 1)).contains x) (fun t _ => by rw [orbT_contains_succ, Bool.or_assoc])]
    rfl
theorem cycSt_starts {f : Nat → Nat} {D : Nat → Bool} {N : Nat} (h : Mov f D N) {ids : List Int} (hD : ∀ j, j < ids.length → D (ids.getD j 0).toNat = true) (k : Nat) (hk : k ≤ ids.length) :
    cycSt f N ids k = (marksB (seenB f N (startsN f N ids k)) N, (startsN f N ids k).map fun s => ((per f N s : Nat) : Int)) := by
  induction k with
  | zero =>
    simp only [cycSt, startsN, List.map_nil]
    rw [← marksB_none]; rfl
  | succ k ih =>
    have hd := hD k (by omega)
    have hst : ∀ s ∈ startsN f N ids k, D s = true := fun s hs => startsN_D hD (by omega) hs
    simp only [cycSt, ih (by omega)]
    obtain ⟨s, hs⟩ : ∃ s, (ids.getD k 0).toNat = s := ⟨_, rfl⟩
    rw [hs] at hd ⊢
    cases hq : seenB f N (startsN f N ids k) s
    · have hc := cyc1_orb h hd (g := seenB f N (startsN f N ids k)) (fun t ht => seenB_orb h hst hd hq ht) (per f N s) 0 (by omega)
      have e0 : marksB (fun x => seenB f N (startsN f N ids k) x || (orbT f s 0).contains x) N = marksB (seenB f N (startsN f N ids k)) N := marksB_congr fun t _ => by simp [orbT]
      rw [e0] at hc
      simp only [iter] at hc
      rw [hc, startsN_no (by rw [hs]; exact hq), hs]
      have hp := (h.perS hd).2.1
      simp only [show 0 < per f N s by omega, if_true]
      rw [List.map_append]
      refine Prod.ext ?_ rfl
      exact marksB_congr fun t _ => (seenB_snoc _ _ _ _ _).symm
    · rw [cyc1_stop (by rw [marksB_get _ (h.lt s hd)]; exact hq), startsN_yes (by rw [hs]; exact hq)]
      rfl
theorem cyclesL_starts {f : Nat → Nat} {D : Nat → Bool} {N : Nat} (h : Mov f D N) {ids : List Int} (hD : ∀ j, j < ids.length → D (ids.getD j 0).toNat = true) :
    cyclesL f N ids = (starts f N ids).map fun s => ((per f N s : Nat) : Int) := by
  unfold cyclesL starts
  rw [cycSt_starts h hD ids.length (Nat.le_refl _)]

/-! ### rowmotion and toggles move ideals -/
def idB (xs : List Int) (s : Nat) : Bool := decide (s < 2 ^ xs.length) && holdsIdeal xs s
theorem idB_iff {xs : List Int} {s : Nat} : idB xs s = true ↔ s < 2 ^ xs.length ∧ holdsIdeal xs s = true := by simp [idB]
theorem rowP_iff {xs : List Int} {s e : Nat} : rowP xs s e = true ↔ s.testBit e = false ∧ ∀ j, (row xs e).testBit j = true → s.testBit j = true := by
  simp only [rowP, Bool.and_eq_true, Bool.not_eq_true', beq_iff_eq, sub_eq_zero]
/-- the elements of what rowmotion makes that lie in no row of it are the least ones outside -/
theorem rowmo_top {xs : List Int} (hg : good xs = true) {s : Nat} (hs : holdsIdeal xs s = true) {e : Nat} (he : e < xs.length) :
    rowP xs s e = true ↔ (rowmo xs s).testBit e = true ∧ ∀ i, i < xs.length → (rowmo xs s).testBit i = true → (row xs i).testBit e = false := by
  have hid := holdsIdeal_row.1 hs
  have hm : ∀ i, (rowmo xs s).testBit i = true ↔ ∃ m, m < xs.length ∧ rowP xs s m = true ∧ (m = i ∨ (row xs m).testBit i = true) := by
    intro i
    unfold rowmo
    rw [orN_testBit]
    constructor
    · rintro ⟨m, h1, h2, h3⟩
      refine ⟨m, h1, h2, ?_⟩
      unfold rowG at h3
      rw [Nat.testBit_or, Bool.or_eq_true, Nat.testBit_two_pow] at h3
      rcases h3 with h3 | h3
      · exact .inl (by simpa using h3)
      · exact .inr h3
    · rintro ⟨m, h1, h2, h3⟩
      refine ⟨m, h1, h2, ?_⟩
      unfold rowG
      rw [Nat.testBit_or, Bool.or_eq_true, Nat.testBit_two_pow]
      rcases h3 with h3 | h3
      · exact .inl (by simpa using h3)
      · exact .inr h3
  constructor
  · intro hp
    refine ⟨(hm e).2 ⟨e, he, hp, .inl rfl⟩, fun i hi hb => ?_⟩
    rw [Bool.eq_false_iff]
    intro hr
    obtain ⟨h1, h2⟩ := rowP_iff.1 hp
    obtain ⟨m, hm1, hm2, hm3⟩ := (hm i).1 hb
    obtain ⟨h3, h4⟩ := rowP_iff.1 hm2
    rcases hm3 with rfl | hm3
    · rw [h4 e hr] at h1; cases h1
    · have := hid i hi (h4 i hm3) e hr
      rw [this] at h1; cases h1
  · rintro ⟨hb, hno⟩
    obtain ⟨m, hm1, hm2, hm3⟩ := (hm e).1 hb
    rcases hm3 with rfl | hm3
    · exact hm2
    · have := hno m hm1 ((hm m).2 ⟨m, hm1, hm2, .inl rfl⟩)
      rw [this] at hm3; cases hm3
/-- an ideal is told by the least ones outside -/
theorem out_iff {xs : List Int} (hg : good xs = true) {s : Nat} (hs : holdsIdeal xs s = true) : ∀ n e, e < n → e < xs.length → (s.testBit e = false ↔ rowP xs s e = true ∨ ∃ j, (row xs e).testBit j = true ∧ rowP xs s j = true) := by
  have hid := holdsIdeal_row.1 hs
  intro n
  induction n with
  | zero => intro e h; omega
  | succ n ih =>
    intro e hn he
    constructor
    · intro hb
      by_cases hall : ∀ j, (row xs e).testBit j = true → s.testBit j = true
      · exact .inl (rowP_iff.2 ⟨hb, hall⟩)
      · have ⟨j, hj⟩ := Classical.not_forall.1 hall
        have ⟨hj1, hj2⟩ := Classical.not_imp.1 hj
        have hj3 : s.testBit j = false := by simpa using hj2
        have hlt : j < e := testBit_lt (row_lt hg he).2 hj1
        rcases (ih j (by omega) (by omega)).1 hj3 with h | ⟨i, h1, h2⟩
        · exact .inr ⟨j, hj1, h⟩
        · exact .inr ⟨i, row_closed hg he hj1 h1, h2⟩
    · rintro (h | ⟨j, h1, h2⟩)
      · exact (rowP_iff.1 h).1
      · rw [Bool.eq_false_iff]
        intro hb
        have h3 := hid e he hb j h1
        rw [(rowP_iff.1 h2).1] at h3; cases h3
theorem rowmo_inj {xs : List Int} (hg : good xs = true) {s t : Nat} (hs : holdsIdeal xs s = true) (ht : holdsIdeal xs t = true) (hsl : s < 2 ^ xs.length) (htl : t < 2 ^ xs.length) (h : rowmo xs s = rowmo xs t) : s = t := by
  have hP : ∀ e, e < xs.length → rowP xs s e = rowP xs t e := by
    intro e he
    rw [Bool.eq_iff_iff, rowmo_top hg hs he, rowmo_top hg ht he, h]
  have hq : ∀ e, e < xs.length → (s.testBit e = false ↔ t.testBit e = false) := by
    intro e he
    rw [out_iff hg hs (e + 1) e (by omega) he, out_iff hg ht (e + 1) e (by omega) he, hP e he]
    constructor
    · rintro (h1 | ⟨j, h1, h2⟩)
      · exact .inl h1
      · have hlt : j < e := testBit_lt (row_lt hg he).2 h1
        exact .inr ⟨j, h1, by rw [← hP j (by omega)]; exact h2⟩
    · rintro (h1 | ⟨j, h1, h2⟩)
      · exact .inl h1
      · have hlt : j < e := testBit_lt (row_lt hg he).2 h1
        exact .inr ⟨j, h1, by rw [hP j (by omega)]; exact h2⟩
  apply Nat.eq_of_testBit_eq
  intro i
  by_cases hi : i < xs.length
  · have := hq i hi
    cases h1 : s.testBit i <;> cases h2 : t.testBit i <;> simp_all
  · have hz : ∀ z, z < 2 ^ xs.length → z.testBit i = false := fun z hz => by
      rw [Bool.eq_false_iff]; intro hb; exact hi (testBit_lt hz hb)
    rw [hz s hsl, hz t htl]
theorem rowMov {xs : List Int} (hg : good xs = true) : Mov (rowmo xs) (idB xs) (2 ^ xs.length) where
  lt s h := (idB_iff.1 h).1
  ins s h := idB_iff.2 ⟨rowmo_lt hg s, rowmo_ideal hg s⟩
  inj s t h k e := rowmo_inj hg (idB_iff.1 h).2 (idB_iff.1 k).2 (idB_iff.1 h).1 (idB_iff.1 k).1 e
theorem tog_tog {xs : List Int} {s e : Nat} (hs : holdsIdeal xs s = true) : tog xs (tog xs s e) e = s := by
  cases h : holdsIdeal xs (s ^^^ 2 ^ e)
  · rw [tog_no h, tog_no h]
  · have h2 : s ^^^ 2 ^ e ^^^ 2 ^ e = s := by rw [Nat.xor_assoc, Nat.xor_self, Nat.xor_zero]
    rw [tog_yes h, tog_yes (by rw [h2]; exact hs), h2]
theorem togW_inj {xs : List Int} {ys : List Int} {s t : Nat} (hs : holdsIdeal xs s = true) (ht : holdsIdeal xs t = true) (h : togW xs s ys = togW xs t ys) : s = t := by
  induction ys generalizing s t with
  | nil => exact h
  | cons y ys ih =>
    have h1 := ih (tog_ideal hs) (tog_ideal ht) h
    rw [← tog_tog (e := y.toNat) hs, h1, tog_tog ht]
theorem togMov {xs ys : List Int} (hy : inW xs.length ys = true) : Mov (fun s => togW xs s ys) (idB xs) (2 ^ xs.length) where
  lt s h := (idB_iff.1 h).1
  ins s h := idB_iff.2 ⟨togW_lt (idB_iff.1 h).1 hy, togW_ideal (idB_iff.1 h).2⟩
  inj s t h k e := togW_inj (idB_iff.1 h).2 (idB_iff.1 k).2 e

/-- an orbit as a list of integers -/
def orbTL (f : Nat → Nat) (s k : Nat) : List Int := (orbT f s k).map fun (x : Nat) => (x : Int)
def orbL (f : Nat → Nat) (N s : Nat) : List Int := orbTL f s (per f N s)
theorem orbTL_length (f : Nat → Nat) (s k : Nat) : (orbTL f s k).length = k := by simp [orbTL, orbT_length]
theorem orbL_length (f : Nat → Nat) (N s : Nat) : (orbL f N s).length = per f N s := orbTL_length _ _ _
theorem orbTL_succ (f : Nat → Nat) (s k : Nat) : orbTL f s (k + 1) = orbTL f s k ++ [((iter f k s : Nat) : Int)] := by simp [orbTL, orbT_succ]
theorem orbTL_get (f : Nat → Nat) (s : Nat) {k j : Nat} (hj : j < k) : (orbTL f s k).getD j 0 = ((iter f j s : Nat) : Int) := by simp [orbTL, orbT, List.getD, hj]
end Go.Proofs.Ytpdoheagfjeefaa

/- The facts that the law on toggles asks for: a word undone by its reverse, one step of a word. -/
namespace Go.Proofs.Ytpdoheagfjeefaa
open Go.RowKit Go.WideShapes Go.ChangeShapes
set_option linter.unusedVariables false

theorem togW_cat (xs : List Int) (s : Nat) (a b : List Int) : togW xs s (a ++ b) = togW xs (togW xs s a) b := by simp [togW, List.foldl_append]
theorem togW_undo {xs : List Int} : ∀ (L : List Int) (s : Nat), holdsIdeal xs s = true → togW xs (togW xs s L) L.reverse = s
  | [], s, _ => rfl
  | x :: L, s, hs => by
    rw [List.reverse_cons, togW_cat]
    show tog xs (togW xs (togW xs (tog xs s x.toNat) L) L.reverse) x.toNat = s
    rw [togW_undo L _ (tog_ideal hs)]
    exact tog_tog hs
theorem okWord_reverse {xs ys : List Int} (h : okWord xs ys = true) : okWord xs ys.reverse = true := by
  unfold okWord inW at h ⊢
  rw [List.length_reverse, List.all_reverse]
  exact h
theorem okId_natF {xs : List Int} {z : Nat} (hg : good xs = true) (hz : z < 2 ^ xs.length) (hi : holdsIdeal xs z = true) : okIdeal xs (z : Int) = true := by
  rw [okIdeal, okSet_nat hg hz, Int.toNat_natCast, hi]; rfl
theorem okTW_parts {xs ys : List Int} {s : Int} (h : okTW xs ys s = true) : okIdeal xs s = true ∧ okWord xs ys = true := by simpa [okTW] using h
theorem twFacts {xs ys : List Int} {s : Int} (h : okTW xs ys s = true) : ∃ z T : Nat, s = (z : Int) ∧ good xs = true ∧ z < 2 ^ xs.length ∧ holdsIdeal xs z = true ∧ okWord xs ys = true ∧ togW xs z ys = T ∧
    ansTW xs ys (z : Int) = (T : Int) ∧ okTW xs ys.reverse (T : Int) = true ∧ ansTW xs ys.reverse (T : Int) = (z : Int) ∧ ansB xs (T : Int) holdsIdeal = true ∧ T < 1024 := by
  obtain ⟨h1, h2⟩ := okTW_parts h
  obtain ⟨z, rfl, hg, hz, hi⟩ := okIdeal_all h1
  have hw : inW xs.length ys = true := by have := h2; rw [okWord, Bool.and_eq_true] at this; exact this.2
  have hT : togW xs z ys < 2 ^ xs.length := togW_lt hz hw
  have hTi : holdsIdeal xs (togW xs z ys) = true := togW_ideal hi
  have o2 := okTW_yes (okId_natF hg hT hTi) (okWord_reverse h2)
  refine ⟨z, togW xs z ys, rfl, hg, hz, hi, h2, rfl, ansTW_yes h, o2, ?_, ?_, lt1024 hT (good_length hg).2⟩
  · rw [ansTW_yes o2, togW_undo ys z hi]
  · rw [ansB, okSet_nat hg hT, Int.toNat_natCast, hTi]; rfl
theorem stepFacts {xs ys : List Int} {z k : Nat} (hg : good xs = true) (hz : z < 2 ^ xs.length) (hi : holdsIdeal xs z = true) (hw : okWord xs ys = true) (hk : k < ys.length) :
    ∃ e N M C : Nat, ys.getD k 0 = (e : Int) ∧ e < 10 ∧ togW xs z (ys.take k) = N ∧ togW xs z (ys.take (k + 1)) = M ∧ okTW xs [(e : Int)] (N : Int) = true ∧ ansTW xs [(e : Int)] (N : Int) = (M : Int) ∧ okIdeal xs (N : Int) = true ∧
      ansCT xs (N : Int) = (C : Int) ∧ (((C : Int) / 2 ^ e).tmod 2 == 1) = (M != N) ∧ (M = N ∨ M = N ^^^ 2 ^ e) ∧ N < 1024 ∧ M < 1024 ∧ C < 1024 := by
  have hin : inW xs.length ys = true := by have := hw; rw [okWord, Bool.and_eq_true] at this; exact this.2
  obtain ⟨b1, b2⟩ := inW_at hin hk
  obtain ⟨e, he⟩ := Int.eq_ofNat_of_zero_le b1
  have hel : e < xs.length := by omega
  have hl := (good_length hg).2
  have htk : inW xs.length (ys.take k) = true := by
    unfold inW at hin ⊢
    exact List.all_eq_true.2 fun y hy => List.all_eq_true.1 hin y (List.mem_of_mem_take hy)
  have hN : togW xs z (ys.take k) < 2 ^ xs.length := togW_lt hz htk
  have hNi : holdsIdeal xs (togW xs z (ys.take k)) = true := togW_ideal hi
  have hM : togW xs z (ys.take (k + 1)) = tog xs (togW xs z (ys.take k)) e := by
    rw [List.take_add_one, togW_cat, List.getElem?_eq_getElem hk]
    have e2 : ys[k] = (e : Int) := by rw [← he]; simp [List.getD, hk]
    rw [e2]; rfl
  have ow : okWord xs [(e : Int)] = true := by simp [okWord, inW]; omega
  have o1 := okId_natF hg hN hNi
  have o2 := okTW_yes o1 ow
  refine ⟨e, togW xs z (ys.take k), togW xs z (ys.take (k + 1)), canT xs (togW xs z (ys.take k)) xs.length, he, by omega, rfl, rfl, o2, ?_, o1, ansCT_yes o1, ?_, ?_, lt1024 hN hl, ?_, ?_⟩
  · rw [ansTW_yes o2, hM]; rfl
  · rw [bit_tmod, hM, Bool.eq_iff_iff]
    unfold canT
    rw [orN_testBit]
    constructor
    · rintro ⟨f, hf, hp, hb⟩
      rw [Nat.testBit_two_pow] at hb
      have hfe : f = e := by simpa using hb
      subst hfe
      exact hp
    · intro hp
      exact ⟨e, hel, hp, by simp⟩
  · rw [hM]
    unfold tog
    split
    · exact Or.inr rfl
    · exact Or.inl rfl
  · rw [hM]; exact lt1024 (tog_lt hN hel) hl
  · exact lt1024 (orN_lt fun f hf _ => pow_lt_len hf) hl
end Go.Proofs.Ytpdoheagfjeefaa

/- The orbits of a motion make up all. No program is named here. -/
namespace Go.Proofs.Ytpdoheagfjeefaa
set_option linter.unusedVariables false

theorem per_orbC {f : Nat → Nat} {D : Nat → Bool} {N : Nat} (h : Mov f D N) {s t : Nat} (hs : D s = true) (ht : t ∈ orbN f N s) : per f N t = per f N s := by
  have hd := mem_orbN_D h hs ht
  have key : ∀ a b, D a = true → b ∈ orbN f N a → per f N b ≤ per f N a := by
    intro a b ha hb
    have hbd := mem_orbN_D h ha hb
    obtain ⟨k, rfl⟩ := (mem_orbN h ha b).1 hb
    obtain ⟨h1, h2, -, -⟩ := h.perS ha
    obtain ⟨-, -, -, h4⟩ := h.perS hbd
    rcases Nat.lt_or_ge (per f N a) (per f N (iter f k a)) with hlt | hge
    · exfalso
      refine h4 _ h2 hlt ?_
      rw [← iter_add, Nat.add_comm, iter_add, h1]
    · exact hge
  exact Nat.le_antisymm (key s t hs ht) (key t s hd (mem_orbN_symm h hs ht))
theorem fix_iff {f : Nat → Nat} {D : Nat → Bool} {N : Nat} (h : Mov f D N) {s : Nat} (hs : D s = true) (d : Nat) : iter f d s = s ↔ d % per f N s = 0 := by
  obtain ⟨h1, h2, h3, h4⟩ := h.perS hs
  have hlt := Nat.mod_lt d (show 0 < per f N s by omega)
  constructor
  · intro e
    rw [h.md hs d] at e
    rcases Nat.eq_zero_or_pos (d % per f N s) with h0 | h0
    · exact h0
    · exact absurd e (h4 _ h0 hlt)
  · intro e
    rw [h.md hs d, e]; rfl
theorem orbN_nodup {f : Nat → Nat} {D : Nat → Bool} {N : Nat} (h : Mov f D N) {s : Nat} (hs : D s = true) : (orbN f N s).Nodup :=
  nodup_map_range _ fun i j h1 h2 => h.orb_ne hs h1 h2
def flatO (f : Nat → Nat) (N : Nat) (st : List Nat) : List Nat := st.flatMap (orbN f N)
theorem flatO_mem (f : Nat → Nat) (N : Nat) (st : List Nat) (t : Nat) : t ∈ flatO f N st ↔ seenB f N st t = true := by
  unfold flatO seenB
  rw [List.mem_flatMap, List.any_eq_true]
  constructor
  · rintro ⟨s, h1, h2⟩; exact ⟨s, h1, List.contains_iff_mem.2 h2⟩
  · rintro ⟨s, h1, h2⟩; exact ⟨s, h1, List.contains_iff_mem.1 h2⟩
theorem flatO_nodup {f : Nat → Nat} {D : Nat → Bool} {N : Nat} (h : Mov f D N) {ids : List Int} (hD : ∀ j, j < ids.length → D (ids.getD j 0).toNat = true) (k : Nat) (hk : k ≤ ids.length) : (flatO f N (startsN f N ids k)).Nodup := by
  induction k with
  | zero => simp [flatO, startsN]
  | succ k ih =>
    have hDk := hD k (by omega)
    cases hq : seenB f N (startsN f N ids k) (ids.getD k 0).toNat
    · rw [startsN_no hq]
      unfold flatO
      rw [List.flatMap_append, List.nodup_append]
      refine ⟨ih (by omega), by simpa using orbN_nodup h hDk, fun a ha b hb e => ?_⟩
      subst e
      have h1 := (flatO_mem f N _ a).1 ha
      have h2 : a ∈ orbN f N (ids.getD k 0).toNat := by simpa using hb
      rw [seenB_orb h (fun s hs => startsN_D hD (show k ≤ ids.length by omega) hs) hDk hq h2] at h1
      cases h1
    · rw [startsN_yes hq]; exact ih (by omega)
theorem flatO_all {f : Nat → Nat} {D : Nat → Bool} {N : Nat} (h : Mov f D N) {ids : List Int} (hD : ∀ j, j < ids.length → D (ids.getD j 0).toNat = true) (hall : ∀ t, D t = true → ∃ j, j < ids.length ∧ (ids.getD j 0).toNat = t) (t : Nat) : t ∈ flatO f N (starts f N ids) ↔ D t = true := by
  rw [flatO_mem]
  constructor
  · intro hs
    unfold seenB at hs
    rw [List.any_eq_true] at hs
    obtain ⟨s, h1, h2⟩ := hs
    exact mem_orbN_D h (startsN_D hD (Nat.le_refl _) h1) (List.contains_iff_mem.1 h2)
  · intro ht
    obtain ⟨j, hj, rfl⟩ := hall t ht
    exact startsN_seen h hD (Nat.le_refl _) hj
theorem flatO_perm {f : Nat → Nat} {D : Nat → Bool} {N : Nat} (h : Mov f D N) {ids : List Int} (hD : ∀ j, j < ids.length → D (ids.getD j 0).toNat = true) (hall : ∀ t, D t = true → ∃ j, j < ids.length ∧ (ids.getD j 0).toNat = t) {L : List Nat} (hn : L.Nodup) (hL : ∀ t, t ∈ L ↔ D t = true) : L.Perm (flatO f N (starts f N ids)) := by
  refine (List.perm_ext_iff_of_nodup hn (flatO_nodup h hD _ (Nat.le_refl _))).2 fun t => ?_
  rw [hL, ← flatO_all h hD hall]; rfl
end Go.Proofs.Ytpdoheagfjeefaa
