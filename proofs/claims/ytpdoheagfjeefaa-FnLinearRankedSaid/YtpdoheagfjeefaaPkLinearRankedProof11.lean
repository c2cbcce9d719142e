/- Texts LinX, Cyc, Orb, one behind the other. -/
import Derived.Test.YtpdoheagfjeefaaPkLinearRankedProof04
import Derived.Test.YtpdoheagfjeefaaPkLinearRankedProof09
/- What a linear extension is. No program is named here. -/
namespace Go.Proofs.Ytpdoheagfjeefaa
set_option linter.unusedVariables false

def wN (ws : List Int) (k : Nat) : Nat := (ws.getD k 0).toNat
def stL (ws : List Int) : Nat → Nat
  | 0 => 0
  | k + 1 => stL ws k ||| 2 ^ wN ws k
structure LinX (xs ws : List Int) : Prop where
  len : ws.length = xs.length
  rng : ∀ k, k < xs.length → ws.getD k 0 = (wN ws k : Int) ∧ wN ws k < xs.length
  stp : ∀ k, k < xs.length → stepP xs (stL ws k) (wN ws k) = true
theorem ordP_split {xs : List Int} {m : Nat} {y : Int} (h : ordP xs m y = true) : (0 ≤ y ∧ y < xs.length) ∧ stepP xs m y.toNat = true := by
  simp only [ordP, Bool.and_eq_true, decide_eq_true_eq] at h
  exact ⟨h.1, by simp only [stepP, Bool.and_eq_true]; exact h.2⟩
theorem ordSt_stL {xs ws : List Int} (k : Nat) : ∀ m, ordSt xs ws k = some m → m = stL ws k ∧ ∀ j, j < k → ordP xs (stL ws j) (ws.getD j 0) = true := by
  induction k with
  | zero => intro m h; simp only [ordSt, Option.some.injEq] at h; exact ⟨h.symm, fun j hj => by omega⟩
  | succ k ih =>
    intro m h
    cases hq : ordSt xs ws k with
    | none => simp only [ordSt, hq] at h; cases h
    | some q =>
      obtain ⟨h1, h2⟩ := ih q hq
      cases hp : ordP xs q (ws.getD k 0)
      · rw [ordSt_no hq hp (k + 1) (by omega)] at h; cases h
      · rw [ordSt_yes hq hp] at h
        simp only [Option.some.injEq] at h
        subst h1
        refine ⟨h.symm, fun j hj => ?_⟩
        by_cases e : j = k
        · subst e; exact hp
        · exact h2 j (by omega)
theorem orderB_LinX {xs ws : List Int} (h : orderB xs ws = true) : LinX xs ws := by
  simp only [orderB, Bool.and_eq_true, decide_eq_true_eq] at h
  obtain ⟨hl, h2⟩ := h
  obtain ⟨m, hm⟩ := Option.isSome_iff_exists.1 h2
  obtain ⟨-, h3⟩ := ordSt_stL _ m hm
  have h4 : ∀ k, k < xs.length → ((0 ≤ ws.getD k 0 ∧ ws.getD k 0 < xs.length) ∧ stepP xs (stL ws k) (ws.getD k 0).toNat = true) := fun k hk => ordP_split (h3 k (by omega))
  exact ⟨hl, fun k hk => by obtain ⟨⟨a, b⟩, c⟩ := h4 k hk; unfold wN; omega, fun k hk => (h4 k hk).2⟩
theorem LinX.st {xs ws : List Int} (h : LinX xs ws) (k : Nat) (hk : k ≤ xs.length) : ordSt xs ws k = some (stL ws k) := by
  induction k with
  | zero => rfl
  | succ k ih =>
    have h1 := h.rng k (by omega)
    have h2 := h.stp k (by omega)
    rw [ordSt_yes (ih (by omega)) ?_]
    · rfl
    · simp only [stepP, Bool.and_eq_true] at h2
      simp only [ordP, Bool.and_eq_true, decide_eq_true_eq]
      exact ⟨by omega, h2⟩
theorem LinX.order {xs ws : List Int} (h : LinX xs ws) : orderB xs ws = true := orderB_yes h.len (h.st ws.length (by rw [h.len]; exact Nat.le_refl _))
theorem stL_bit (ws : List Int) (k e : Nat) : (stL ws k).testBit e = true ↔ ∃ j, j < k ∧ wN ws j = e := by
  induction k with
  | zero => simp [stL]
  | succ k ih =>
    rw [stL, Nat.testBit_or, Bool.or_eq_true, ih, Nat.testBit_two_pow]
    constructor
    · rintro (⟨j, h1, h2⟩ | h)
      · exact ⟨j, by omega, h2⟩
      · exact ⟨k, by omega, by simpa using h⟩
    · rintro ⟨j, h1, h2⟩
      by_cases e : j = k
      · subst e; exact .inr (by simpa using h2)
      · exact .inl ⟨j, by omega, h2⟩
theorem LinX.lt {xs ws : List Int} (h : LinX xs ws) (k : Nat) (hk : k ≤ xs.length) : stL ws k < 2 ^ xs.length := by
  induction k with
  | zero => exact Nat.two_pow_pos _
  | succ k ih => exact Nat.or_lt_two_pow (ih (by omega)) (pow_lt_len (h.rng k (by omega)).2)
theorem LinX.cnt {xs ws : List Int} (h : LinX xs ws) (k : Nat) (hk : k ≤ xs.length) : cntB (stL ws k) xs.length = k := by
  induction k with
  | zero => exact cntB_zero _
  | succ k ih => rw [stL, cntB_or (h.rng k (by omega)).2 (stepP_bit (h.stp k (by omega))), ih (by omega)]
theorem cntB_all {s n : Nat} (h : s < 2 ^ n) (c : cntB s n = n) : s = 2 ^ n - 1 := by
  apply Nat.eq_of_testBit_eq
  intro i
  rw [Nat.testBit_two_pow_sub_one]
  by_cases hi : i < n
  · cases hb : s.testBit i
    · have h1 := cntB_or hi hb
      have h2 := cntB_le (s ||| 2 ^ i) n
      omega
    · simp [hi]
  · cases hb : s.testBit i
    · simp; omega
    · exact absurd (testBit_lt h hb) hi
theorem LinX.full {xs ws : List Int} (h : LinX xs ws) : stL ws xs.length = 2 ^ xs.length - 1 := cntB_all (h.lt _ (Nat.le_refl _)) (h.cnt _ (Nat.le_refl _))
theorem LinX.surj {xs ws : List Int} (h : LinX xs ws) {e : Nat} (he : e < xs.length) : ∃ j, j < xs.length ∧ wN ws j = e := by
  rw [← stL_bit, h.full, Nat.testBit_two_pow_sub_one]
  simpa using he
theorem LinX.ne {xs ws : List Int} (h : LinX xs ws) {j k : Nat} (hjk : j < k) (hk : k < xs.length) : wN ws j ≠ wN ws k := by
  intro e
  have h1 := stepP_bit (h.stp k hk)
  have h2 := (stL_bit ws k (wN ws k)).2 ⟨j, hjk, e⟩
  rw [h1] at h2; cases h2
theorem stepP_sub {xs : List Int} {s e : Nat} (h : stepP xs s e = true) {j : Nat} (hj : (row xs e).testBit j = true) : s.testBit j = true := by
  simp only [stepP, Bool.and_eq_true, beq_iff_eq] at h
  exact (sub_eq_zero _ _).1 h.2 j hj
theorem LinX.before {xs ws : List Int} (h : LinX xs ws) {k j : Nat} (hk : k < xs.length) (hj : (row xs (wN ws k)).testBit j = true) : ∃ i, i < k ∧ wN ws i = j :=
  (stL_bit ws k j).1 (stepP_sub (h.stp k hk) hj)
theorem LinX.ext {xs ws vs : List Int} (h : LinX xs ws) (k : LinX xs vs) (e : ∀ j, j < xs.length → wN ws j = wN vs j) : ws = vs := by
  refine List.ext_getElem (by rw [h.len, k.len]) fun j h1 h2 => ?_
  have hj : j < xs.length := by rw [← h.len]; exact h1
  have a := (h.rng j hj).1
  have b := (k.rng j hj).1
  rw [e j hj, ← b] at a
  simpa [List.getD, h1, h2] using a
end Go.Proofs.Ytpdoheagfjeefaa

/- Cycles of a motion on the ideals; common multiples. No program is named here. -/
namespace Go.Proofs.Ytpdoheagfjeefaa
set_option linter.unusedVariables false

def cntF (seen : List Bool) : Nat := seen.count false
theorem cntF_set {seen : List Bool} {s : Nat} (hs : s < seen.length) (h : seen.getD s true = false) : cntF (seen.set s true) + 1 = cntF seen := by
  unfold cntF
  induction seen generalizing s with
  | nil => simp at hs
  | cons b l ih =>
    match s with
    | 0 =>
      simp [List.getD] at h
      subst h
      simp
    | s + 1 =>
      have h1 : s < l.length := by simpa using hs
      have h2 : l.getD s true = false := by simpa [List.getD] using h
      have := ih h1 h2
      rw [List.set_cons_succ, List.count_cons, List.count_cons]
      omega
theorem cntF_le (seen : List Bool) : cntF seen ≤ seen.length := List.count_le_length
/-- one cycle, from s on: what has been seen behind it, and its length -/
def cycIn (f : Nat → Nat) : Nat → List Bool → Nat → Nat → List Bool × Nat
  | 0, seen, _, n => (seen, n)
  | c + 1, seen, s, n => if seen.getD s true = true then (seen, n) else cycIn f c (seen.set s true) (f s) (n + 1)
def cyc1 (f : Nat → Nat) (seen : List Bool) (s n : Nat) : List Bool × Nat := cycIn f (cntF seen) seen s n
theorem cyc1_stop {f : Nat → Nat} {seen : List Bool} {s n : Nat} (h : seen.getD s true = true) : cyc1 f seen s n = (seen, n) := by
  unfold cyc1
  cases hc : cntF seen
  · rfl
  · unfold cycIn; rw [if_pos h]
theorem cyc1_go {f : Nat → Nat} {seen : List Bool} {s n : Nat} (hs : s < seen.length) (h : seen.getD s true = false) : cyc1 f seen s n = cyc1 f (seen.set s true) (f s) (n + 1) := by
  unfold cyc1
  have := cntF_set hs h
  rw [← this, cycIn, if_neg (by rw [h]; decide)]
theorem cyc1_length (f : Nat → Nat) (seen : List Bool) (s n : Nat) : (cyc1 f seen s n).1.length = seen.length := by
  unfold cyc1
  generalize cntF seen = c
  induction c generalizing seen s n with
  | zero => rfl
  | succ c ih =>
    unfold cycIn
    split
    · rfl
    · rw [ih, List.length_set]
theorem cyc1_le (f : Nat → Nat) (seen : List Bool) (s n : Nat) : (cyc1 f seen s n).2 ≤ n + seen.length := by
  have key : ∀ c (seen : List Bool) (s n : Nat), (cycIn f c seen s n).2 ≤ n + c := by
    intro c
    induction c with
    | zero => intro seen s n; exact Nat.le_refl _
    | succ c ih =>
      intro seen s n
      unfold cycIn
      split
      · exact Nat.le_add_right _ _
      · have := ih (seen.set s true) (f s) (n + 1)
        omega
  have h1 := key (cntF seen) seen s n
  have h2 := cntF_le seen
  unfold cyc1
  omega
/-- the cycles from the first k ideals on -/
def cycSt (f : Nat → Nat) (N : Nat) (ids : List Int) : Nat → List Bool × List Int
  | 0 => (List.replicate N false, [])
  | k + 1 =>
    let st := cycSt f N ids k
    let r := cyc1 f st.1 (ids.getD k 0).toNat 0
    (r.1, if 0 < r.2 then st.2 ++ [(r.2 : Int)] else st.2)
theorem cycSt_length (f : Nat → Nat) (N : Nat) (ids : List Int) (k : Nat) : (cycSt f N ids k).1.length = N ∧ (cycSt f N ids k).2.length ≤ k := by
  induction k with
  | zero => simp [cycSt]
  | succ k ih =>
    simp only [cycSt]
    rw [cyc1_length]
    refine ⟨ih.1, ?_⟩
    split
    · rw [List.length_append]; simp only [List.length_singleton]; omega
    · omega
theorem cycSt_pos (f : Nat → Nat) (N : Nat) (ids : List Int) (k : Nat) : ∀ x ∈ (cycSt f N ids k).2, 1 ≤ x ∧ x ≤ N := by
  induction k with
  | zero => simp [cycSt]
  | succ k ih =>
    simp only [cycSt]
    split
    · rename_i h
      intro x hx
      rw [List.mem_append] at hx
      rcases hx with hx | hx
      · exact ih x hx
      · rw [List.mem_singleton] at hx
        subst hx
        have := cyc1_le f (cycSt f N ids k).1 (ids.getD k 0).toNat 0
        rw [(cycSt_length f N ids k).1] at this
        omega
    · exact ih
def cyclesL (f : Nat → Nat) (N : Nat) (ids : List Int) : List Int := (cycSt f N ids ids.length).2

/-! ### greatest common divisors, least common multiples -/
theorem tmod_nat (m n : Nat) : ((m : Int).tmod (n : Int)) = ((m % n : Nat) : Int) := by
  rw [Int.tmod_eq_emod_of_nonneg (Int.natCast_nonneg _)]; simp
theorem tdiv_nat (m n : Nat) : ((m : Int).tdiv (n : Int)) = ((m / n : Nat) : Int) := by
  rw [Int.tdiv_eq_ediv_of_nonneg (Int.natCast_nonneg _)]; simp
/-- the common multiple of the first k, none once it is too great -/
def lcmN (ls : List Int) : Nat → Option Nat
  | 0 => some 1
  | k + 1 => (lcmN ls k).bind fun m => if 1000000000000000 < m / Nat.gcd m (ls.getD k 0).toNat * (ls.getD k 0).toNat then none else some (m / Nat.gcd m (ls.getD k 0).toNat * (ls.getD k 0).toNat)
theorem lcmN_le {ls : List Int} (hp : ∀ x ∈ ls, 1 ≤ x) (k : Nat) (hk : k ≤ ls.length) : ∀ m, lcmN ls k = some m → 1 ≤ m ∧ m ≤ 1000000000000000 := by
  induction k with
  | zero => intro m h; simp only [lcmN, Option.some.injEq] at h; omega
  | succ k ih =>
    intro m h
    simp only [lcmN] at h
    cases hq : lcmN ls k with
    | none => rw [hq] at h; simp at h
    | some q =>
      rw [hq, Option.bind_some] at h
      split at h
      · cases h
      · rename_i hn
        simp only [Option.some.injEq] at h
        have h1 := ih (by omega) q hq
        have hx := hp (ls.getD k 0) (by simp [List.getD, show k < ls.length by omega])
        have hg := Nat.le_of_dvd (by omega) (Nat.gcd_dvd_left q (ls.getD k 0).toNat)
        have hg0 : 0 < Nat.gcd q (ls.getD k 0).toNat := Nat.gcd_pos_of_pos_left _ (by omega)
        have h3 : 0 < q / Nat.gcd q (ls.getD k 0).toNat := Nat.div_pos hg hg0
        have h4 : 0 < q / Nat.gcd q (ls.getD k 0).toNat * (ls.getD k 0).toNat := Nat.mul_pos h3 (by omega)
        omega
def lcmAll (ls : List Int) : Option Nat := lcmN ls ls.length
theorem lcmN_none {ls : List Int} {k : Nat} (h : lcmN ls k = none) (j : Nat) (hj : k ≤ j) : lcmN ls j = none := by
  induction j with
  | zero => have : k = 0 := by omega
            subst this; exact h
  | succ j ih =>
    by_cases e : k = j + 1
    · subst e; exact h
    · simp only [lcmN, ih (by omega)]; rfl
/-- a quotient too great for the bound: the product is -/
theorem div_bound {a n M : Nat} (hn : 1 ≤ n) : M / n < a ↔ M < a * n := by
  rw [Nat.div_lt_iff_lt_mul (by omega)]
theorem mul_gcd_swap (m n : Nat) (hn : 1 ≤ n) : m / Nat.gcd m n * n = m * (n / Nat.gcd m n) := by
  obtain ⟨a, ha⟩ := Nat.gcd_dvd_left m n
  obtain ⟨b, hb⟩ := Nat.gcd_dvd_right m n
  have hg0 : 0 < Nat.gcd m n := Nat.gcd_pos_of_pos_right _ (by omega)
  obtain ⟨g, hg⟩ : ∃ g, Nat.gcd m n = g := ⟨_, rfl⟩
  rw [hg] at ha hb hg0 ⊢
  rw [ha, hb, Nat.mul_div_cancel_left _ hg0, Nat.mul_div_cancel_left _ hg0]
  rw [← Nat.mul_assoc, Nat.mul_comm a g]
end Go.Proofs.Ytpdoheagfjeefaa

/- Orbits of a motion, which ideals begin them, cycles told by these; rowmotion and toggles move ideals. No program is named here. -/
namespace Go.Proofs.Ytpdoheagfjeefaa
set_option linter.unusedVariables false

/-- 'f' moves the numbers of kind D, all below N, into one another, no two to the same -/
structure Mov (f : Nat → Nat) (D : Nat → Bool) (N : Nat) : Prop where
  lt : ∀ s, D s = true → s < N
  ins : ∀ s, D s = true → D (f s) = true
  inj : ∀ s t, D s = true → D t = true → f s = f t → s = t
theorem Mov.it {f : Nat → Nat} {D : Nat → Bool} {N : Nat} (h : Mov f D N) {s : Nat} (hs : D s = true) (k : Nat) : D (iter f k s) = true := by
  induction k with
  | zero => exact hs
  | succ k ih => exact h.ins _ ih
theorem iter_add (f : Nat → Nat) (j k s : Nat) : iter f (j + k) s = iter f j (iter f k s) := by
  induction j with
  | zero => rw [Nat.zero_add]; rfl
  | succ j ih => rw [Nat.succ_add]; simp only [iter]; rw [ih]
theorem Mov.back {f : Nat → Nat} {D : Nat → Bool} {N : Nat} (h : Mov f D N) {s t : Nat} (hs : D s = true) (ht : D t = true) (k : Nat) (e : iter f k s = iter f k t) : s = t := by
  induction k with
  | zero => exact e
  | succ k ih => exact ih (h.inj _ _ (h.it hs k) (h.it ht k) e)
theorem nodup_map_range {g : Nat → Nat} (n : Nat) (h : ∀ i j, i < j → j < n → g i ≠ g j) : ((List.range n).map g).Nodup := by
  rw [List.nodup_iff_pairwise_ne, List.pairwise_map]
  refine List.Pairwise.imp_of_mem ?_ (List.pairwise_lt_range (n := n))
  intro a b ha hb hab
  exact h a b hab (List.mem_range.1 hb)
theorem Mov.some_back {f : Nat → Nat} {D : Nat → Bool} {N : Nat} (h : Mov f D N) {s : Nat} (hs : D s = true) : ∃ n, 1 ≤ n ∧ n ≤ N ∧ iter f n s = s := by
  by_cases hc : ∃ i j, i < j ∧ j < N + 1 ∧ iter f i s = iter f j s
  · obtain ⟨i, j, h1, h2, h3⟩ := hc
    refine ⟨j - i, by omega, by omega, ?_⟩
    have e : i + (j - i) = j := by omega
    have h4 : iter f i s = iter f i (iter f (j - i) s) := by rw [← iter_add, e]; exact h3
    exact (h.back hs (h.it hs _) i h4).symm
  · exfalso
    have hn : ((List.range (N + 1)).map fun k => iter f k s).Nodup :=
      nodup_map_range (N + 1) fun i j h1 h2 h3 => hc ⟨i, j, h1, h2, h3⟩
    have hsub : ((List.range (N + 1)).map fun k => iter f k s) ⊆ List.range N := by
      intro x hx
      rw [List.mem_map] at hx
      obtain ⟨k, _, rfl⟩ := hx
      exact List.mem_range.2 (h.lt _ (h.it hs k))
    have := hn.length_le_of_subset hsub
    simp at this
    omega
/-- the least n from 'n0' on, within 'c' tries, with f^n s = s -/
def perF (f : Nat → Nat) (s : Nat) : Nat → Nat → Nat
  | 0, n => n
  | c + 1, n => if iter f n s = s then n else perF f s c (n + 1)
def per (f : Nat → Nat) (N s : Nat) : Nat := perF f s N 1
theorem perF_spec (f : Nat → Nat) (s : Nat) (c n m : Nat) (hm : n ≤ m) (hc : m ≤ n + c) (h : iter f m s = s) :
    iter f (perF f s c n) s = s ∧ n ≤ perF f s c n ∧ perF f s c n ≤ m ∧ ∀ k, n ≤ k → k < perF f s c n → iter f k s ≠ s := by
  induction c generalizing n with
  | zero =>
    have : m = n := by omega
    subst this
    exact ⟨h, Nat.le_refl _, Nat.le_refl _, fun k h1 h2 => by simp only [perF] at h2; omega⟩
  | succ c ih =>
    unfold perF
    split
    · rename_i hq
      exact ⟨hq, Nat.le_refl _, hm, fun k h1 h2 => by omega⟩
    · rename_i hq
      have hne : n ≠ m := by rintro rfl; exact hq h
      obtain ⟨h1, h2, h3, h4⟩ := ih (n + 1) (by omega) (by omega)
      refine ⟨h1, by omega, h3, fun k h5 h6 => ?_⟩
      by_cases e : k = n
      · subst e; exact hq
      · exact h4 k (by omega) h6
theorem Mov.perS {f : Nat → Nat} {D : Nat → Bool} {N : Nat} (h : Mov f D N) {s : Nat} (hs : D s = true) :
    iter f (per f N s) s = s ∧ 1 ≤ per f N s ∧ per f N s ≤ N ∧ ∀ k, 1 ≤ k → k < per f N s → iter f k s ≠ s := by
  obtain ⟨m, h1, h2, h3⟩ := h.some_back hs
  obtain ⟨a, b, c, d⟩ := perF_spec f s N 1 m h1 (by omega) h3
  exact ⟨a, b, by unfold per; omega, d⟩
/-- the orbit, as far as k -/
def orbT (f : Nat → Nat) (s k : Nat) : List Nat := (List.range k).map fun j => iter f j s
def orbN (f : Nat → Nat) (N s : Nat) : List Nat := orbT f s (per f N s)
theorem orbT_length (f : Nat → Nat) (s k : Nat) : (orbT f s k).length = k := by simp [orbT]
theorem orbN_length (f : Nat → Nat) (N s : Nat) : (orbN f N s).length = per f N s := orbT_length _ _ _
theorem orbT_succ (f : Nat → Nat) (s k : Nat) : orbT f s (k + 1) = orbT f s k ++ [iter f k s] := by simp [orbT, List.range_succ]
theorem orbT_get (f : Nat → Nat) (s : Nat) {k j : Nat} (hj : j < k) : (orbT f s k).getD j 0 = iter f j s := by simp [orbT, List.getD, hj]
theorem iter_mul {f : Nat → Nat} {s n : Nat} (h : iter f n s = s) (q : Nat) : iter f (n * q) s = s := by
  induction q with
  | zero => rfl
  | succ q ih => rw [Nat.mul_succ, Nat.add_comm, iter_add, ih, h]
theorem Mov.md {f : Nat → Nat} {D : Nat → Bool} {N : Nat} (h : Mov f D N) {s : Nat} (hs : D s = true) (k : Nat) : iter f k s = iter f (k % per f N s) s := by
  obtain ⟨h1, -, -, -⟩ := h.perS hs
  have e : k = k % per f N s + per f N s * (k / per f N s) := (Nat.mod_add_div k _).symm
  rw [e, iter_add, iter_mul h1]
  rw [← e]
theorem mem_orbN {f : Nat → Nat} {D : Nat → Bool} {N : Nat} (h : Mov f D N) {s : Nat} (hs : D s = true) (t : Nat) : t ∈ orbN f N s ↔ ∃ k, iter f k s = t := by
  unfold orbN orbT
  rw [List.mem_map]
  constructor
  · rintro ⟨k, -, hk⟩; exact ⟨k, hk⟩
  · rintro ⟨k, hk⟩
    obtain ⟨-, h2, -, -⟩ := h.perS hs
    exact ⟨k % per f N s, List.mem_range.2 (Nat.mod_lt _ (by omega)), by rw [← h.md hs k]; exact hk⟩
theorem Mov.reach_symm {f : Nat → Nat} {D : Nat → Bool} {N : Nat} (h : Mov f D N) {s : Nat} (hs : D s = true) (k : Nat) : ∃ j, iter f j (iter f k s) = s := by
  obtain ⟨h1, h2, h3, h4⟩ := h.perS (h.it hs k)
  obtain ⟨h1, h2, h3, h4⟩ := h.perS hs
  refine ⟨per f N s * k - k, ?_⟩
  rw [← iter_add]
  have : k ≤ per f N s * k := Nat.le_mul_of_pos_left k (by omega)
  rw [show per f N s * k - k + k = per f N s * k by omega]
  exact iter_mul h1 k
theorem mem_orbN_D {f : Nat → Nat} {D : Nat → Bool} {N : Nat} (h : Mov f D N) {s t : Nat} (hs : D s = true) (ht : t ∈ orbN f N s) : D t = true := by
  obtain ⟨k, rfl⟩ := (mem_orbN h hs t).1 ht
  exact h.it hs k
theorem mem_orbN_symm {f : Nat → Nat} {D : Nat → Bool} {N : Nat} (h : Mov f D N) {s t : Nat} (hs : D s = true) (ht : t ∈ orbN f N s) : s ∈ orbN f N t := by
  have hd := mem_orbN_D h hs ht
  obtain ⟨k, rfl⟩ := (mem_orbN h hs t).1 ht
  exact (mem_orbN h hd s).2 (h.reach_symm hs k)
theorem mem_orbN_trans {f : Nat → Nat} {D : Nat → Bool} {N : Nat} (h : Mov f D N) {r s t : Nat} (hr : D r = true) (h1 : s ∈ orbN f N r) (h2 : t ∈ orbN f N s) : t ∈ orbN f N r := by
  have hd := mem_orbN_D h hr h1
  obtain ⟨k, rfl⟩ := (mem_orbN h hr s).1 h1
  obtain ⟨j, rfl⟩ := (mem_orbN h hd t).1 h2
  exact (mem_orbN h hr _).2 ⟨j + k, by rw [iter_add]⟩
theorem self_mem_orbN {f : Nat → Nat} {D : Nat → Bool} {N : Nat} (h : Mov f D N) {s : Nat} (hs : D s = true) : s ∈ orbN f N s := (mem_orbN h hs s).2 ⟨0, rfl⟩
theorem Mov.orb_ne {f : Nat → Nat} {D : Nat → Bool} {N : Nat} (h : Mov f D N) {s : Nat} (hs : D s = true) {i j : Nat} (hij : i < j) (hj : j < per f N s) : iter f i s ≠ iter f j s := by
  intro e
  obtain ⟨h1, h2, h3, h4⟩ := h.perS hs
  have h5 : iter f i s = iter f i (iter f (j - i) s) := by rw [← iter_add, show i + (j - i) = j by omega]; exact e
  exact h4 (j - i) (by omega) (by omega) (h.back hs (h.it hs _) i h5).symm

/-! ### which ideals begin an orbit -/
/-- seen by an orbit that begins with one of the first k -/
def seenB (f : Nat → Nat) (N : Nat) (st : List Nat) (t : Nat) : Bool := st.any fun s => (orbN f N s).contains t
/-- the first ideals of the orbits, among the first k of a list -/
def startsN (f : Nat → Nat) (N : Nat) (ids : List Int) : Nat → List Nat
  | 0 => []
  | k + 1 => if seenB f N (startsN f N ids k) (ids.getD k 0).toNat then startsN f N ids k else startsN f N ids k ++ [(ids.getD k 0).toNat]
theorem startsN_yes {f : Nat → Nat} {N : Nat} {ids : List Int} {k : Nat} (h : seenB f N (startsN f N ids k) (ids.getD k 0).toNat = true) : startsN f N ids (k + 1) = startsN f N ids k := if_pos h
theorem startsN_no {f : Nat → Nat} {N : Nat} {ids : List Int} {k : Nat} (h : seenB f N (startsN f N ids k) (ids.getD k 0).toNat = false) : startsN f N ids (k + 1) = startsN f N ids k ++ [(ids.getD k 0).toNat] := by
  exact if_neg (by rw [h]; decide)
theorem seenB_snoc (f : Nat → Nat) (N : Nat) (st : List Nat) (s t : Nat) : seenB f N (st ++ [s]) t = (seenB f N st t || (orbN f N s).contains t) := by
  simp [seenB, List.any_append]
theorem startsN_length (f : Nat → Nat) (N : Nat) (ids : List Int) (k : Nat) : (startsN f N ids k).length ≤ k := by
  induction k with
  | zero => simp [startsN]
  | succ k ih =>
    unfold startsN
    split
    · omega
    · rw [List.length_append]; simp; omega
theorem startsN_mem {f : Nat → Nat} {N : Nat} {ids : List Int} {k s : Nat} (hk : k ≤ ids.length) (h : s ∈ startsN f N ids k) : ∃ j, j < k ∧ (ids.getD j 0).toNat = s := by
  induction k with
  | zero => simp [startsN] at h
  | succ k ih =>
    unfold startsN at h
    split at h
    · obtain ⟨j, h1, h2⟩ := ih (by omega) h; exact ⟨j, by omega, h2⟩
    · rw [List.mem_append, List.mem_singleton] at h
      rcases h with h | h
      · obtain ⟨j, h1, h2⟩ := ih (by omega) h; exact ⟨j, by omega, h2⟩
      · exact ⟨k, by omega, h.symm⟩
theorem startsN_D {f : Nat → Nat} {D : Nat → Bool} {N : Nat} {ids : List Int} (hD : ∀ j, j < ids.length → D (ids.getD j 0).toNat = true) {k s : Nat} (hk : k ≤ ids.length) (h : s ∈ startsN f N ids k) : D s = true := by
  obtain ⟨j, h1, rfl⟩ := startsN_mem hk h
  exact hD j (by omega)
/-- what is seen is closed under the motion, to and fro -/
theorem seenB_orb {f : Nat → Nat} {D : Nat → Bool} {N : Nat} (h : Mov f D N) {st : List Nat} (hst : ∀ s ∈ st, D s = true) {t : Nat} (ht : D t = true) (hs : seenB f N st t = false) {u : Nat} (hu : u ∈ orbN f N t) : seenB f N st u = false := by
  cases hc : seenB f N st u
  · rfl
  · unfold seenB at hc hs
    rw [List.any_eq_true] at hc
    obtain ⟨s, h1, h2⟩ := hc
    have h2' : u ∈ orbN f N s := by simpa using h2
    have h3 := mem_orbN_symm h ht hu
    have h4 := mem_orbN_trans h (hst s h1) h2' h3
    have : (st.any fun s => (orbN f N s).contains t) = true := List.any_eq_true.2 ⟨s, h1, by simpa using h4⟩
    rw [this] at hs; cases hs
theorem startsN_seen {f : Nat → Nat} {D : Nat → Bool} {N : Nat} (h : Mov f D N) {ids : List Int} (hD : ∀ j, j < ids.length → D (ids.getD j 0).toNat = true) {k : Nat} (hk : k ≤ ids.length) {j : Nat} (hj : j < k) : seenB f N (startsN f N ids k) (ids.getD j 0).toNat = true := by
  induction k with
  | zero => omega
  | succ k ih =>
    by_cases e : j = k
    · subst e
      cases hq : seenB f N (startsN f N ids j) (ids.getD j 0).toNat
      · rw [startsN_no hq, seenB_snoc]
        have := self_mem_orbN h (hD j (by omega))
        rw [Bool.or_eq_true]; exact .inr (List.contains_iff_mem.2 this)
      · rw [startsN_yes hq]; exact hq
    · have h1 := ih (by omega) (by omega)
      cases hq : seenB f N (startsN f N ids k) (ids.getD k 0).toNat
      · rw [startsN_no hq, seenB_snoc, h1]; rfl
      · rw [startsN_yes hq]; exact h1
def starts (f : Nat → Nat) (N : Nat) (ids : List Int) : List Nat := startsN f N ids ids.length
/-- a list of marks -/
def marksB (g : Nat → Bool) (N : Nat) : List Bool := (List.range N).map g
theorem marksB_length (g : Nat → Bool) (N : Nat) : (marksB g N).length = N := by simp [marksB]
theorem marksB_get (g : Nat → Bool) {N t : Nat} (h : t < N) : (marksB g N).getD t true = g t := by simp [marksB, List.getD, h]
theorem marksB_set (g : Nat → Bool) (N t : Nat) : (marksB g N).set t true = marksB (fun x => g x || x == t) N := by
  apply List.ext_getElem?
  intro i
  rw [List.getElem?_set, marksB_length]
  by_cases hi : i < N
  · by_cases e : t = i
    · subst e; simp [marksB, hi]
    · simp [marksB, hi, e, show ¬ i = t from fun h => e h.symm]
  · have h1 : (marksB g N)[i]? = none := List.getElem?_eq_none (by rw [marksB_length]; omega)
    have h2 : (marksB (fun x => g x || x == t) N)[i]? = none := List.getElem?_eq_none (by rw [marksB_length]; omega)
    rw [h1, h2]
    by_cases e : t = i
    · subst e; simp [hi]
    · simp [e]
theorem marksB_congr {g h : Nat → Bool} {N : Nat} (e : ∀ t, t < N → g t = h t) : marksB g N = marksB h N := by
  unfold marksB
  exact List.map_congr_left fun t ht => e t (List.mem_range.1 ht)
theorem marksB_none (N : Nat) : marksB (fun _ => false) N = List.replicate N false := by
  apply List.ext_getElem?
  intro i
  by_cases hi : i < N <;> simp [marksB, hi]

/-! ### the cycles, told by where they begin -/
theorem orbT_contains_succ (f : Nat → Nat) (s k x : Nat) : (orbT f s (k + 1)).contains x = ((orbT f s k).contains x || x == iter f k s) := by
  rw [orbT_succ, List.contains_eq_any_beq, List.contains_eq_any_beq, List.any_append]; simp
theorem not_orbT {f : Nat → Nat} {D : Nat → Bool} {N : Nat} (h : Mov f D N) {s : Nat} (hs : D s = true) {k : Nat} (hk : k < per f N s) : (orbT f s k).contains (iter f k s) = false := by
  rw [Bool.eq_false_iff]
  intro hc
  have hm : iter f k s ∈ orbT f s k := List.contains_iff_mem.1 hc
  unfold orbT at hm
  rw [List.mem_map] at hm
  obtain ⟨i, hi, he⟩ := hm
  exact h.orb_ne hs (List.mem_range.1 hi) hk he
/-! ### cycles as the program counts them -/
theorem cyc1_orb {f : Nat → Nat} {D : Nat → Bool} {N : Nat} (h : Mov f D N) {s : Nat} (hs : D s = true) {g : Nat → Bool} (hg : ∀ t, t ∈ orbN f N s → g t = false) (c j : Nat) (hj : j + c = per f N s) :
    cyc1 f (marksB (fun x => g x || (orbT f s j).contains x) N) (iter f j s) j = (marksB (fun x => g x || (orbN f N s).contains x) N, per f N s) := by
  obtain ⟨h1, h2, h3, h4⟩ := h.perS hs
  induction c generalizing j with
  | zero =>
    have : j = per f N s := by omega
    subst this
    have hm : (orbT f s (per f N s)).contains s = true := List.contains_iff_mem.2 (self_mem_orbN h hs)
    rw [h1, cyc1_stop (by rw [marksB_get _ (h.lt s hs), hm, Bool.or_true])]
    rfl
  | succ c ih =>
    have hlt := h.lt _ (h.it hs j)
    have hmem : iter f j s ∈ orbN f N s := (mem_orbN h hs _).2 ⟨j, rfl⟩
    have hno := not_orbT h hs (show j < per f N s by omega)
    rw [cyc1_go (by rw [marksB_length]; exact hlt) (by rw [marksB_get _ hlt, hg _ hmem, hno]; rfl), marksB_set]
    rw [← ih (j + 1) (by omega)]
    rw [marksB_congr (g := fun x => (g x || (orbT f s j).contains x) || x == iter f j s) (h := fun x => g x || (orbT f s (j + 1)).contains x) (fun t _ => by rw [orbT_contains_succ, Bool.or_assoc])]
    rfl
theorem cycSt_starts {f : Nat → Nat} {D : Nat → Bool} {N : Nat} (h : Mov f D N) {ids : List Int} (hD : ∀ j, j < ids.length → D (ids.getD j 0).toNat = true) (k : Nat) (hk : k ≤ ids.length) :
    cycSt f N ids k = (marksB (seenB f N (startsN f N ids k)) N, (startsN f N ids k).map fun s => ((per f N s : Nat) : Int)) := by
  induction k with
  | zero =>
    simp only [cycSt, startsN, List.map_nil]
    rw [← marksB_none]; rfl
  | succ k ih =>
    have hd := hD k (by omega)
    have hst : ∀ s ∈ startsN f N ids k, D s = true := fun s hs => startsN_D hD (by omega) hs
    simp only [cycSt, ih (by omega)]
    obtain ⟨s, hs⟩ : ∃ s, (ids.getD k 0).toNat = s := ⟨_, rfl⟩
    rw [hs] at hd ⊢
    cases hq : seenB f N (startsN f N ids k) s
    · have hc := cyc1_orb h hd (g := seenB f N (startsN f N ids k)) (fun t ht => seenB_orb h hst hd hq ht) (per f N s) 0 (by omega)
      have e0 : marksB (fun x => seenB f N (startsN f N ids k) x || (orbT f s 0).contains x) N = marksB (seenB f N (startsN f N ids k)) N := marksB_congr fun t _ => by simp [orbT]
      rw [e0] at hc
      simp only [iter] at hc
      rw [hc, startsN_no (by rw [hs]; exact hq), hs]
      have hp := (h.perS hd).2.1
      simp only [show 0 < per f N s by omega, if_true]
      rw [List.map_append]
      refine Prod.ext ?_ rfl
      exact marksB_congr fun t _ => (seenB_snoc _ _ _ _ _).symm
    · rw [cyc1_stop (by rw [marksB_get _ (h.lt s hd)]; exact hq), startsN_yes (by rw [hs]; exact hq)]
      rfl
theorem cyclesL_starts {f : Nat → Nat} {D : Nat → Bool} {N : Nat} (h : Mov f D N) {ids : List Int} (hD : ∀ j, j < ids.length → D (ids.getD j 0).toNat = true) :
    cyclesL f N ids = (starts f N ids).map fun s => ((per f N s : Nat) : Int) := by
  unfold cyclesL starts
  rw [cycSt_starts h hD ids.length (Nat.le_refl _)]

/-! ### rowmotion and toggles move ideals -/
def idB (xs : List Int) (s : Nat) : Bool := decide (s < 2 ^ xs.length) && holdsIdeal xs s
theorem idB_iff {xs : List Int} {s : Nat} : idB xs s = true ↔ s < 2 ^ xs.length ∧ holdsIdeal xs s = true := by simp [idB]
theorem rowP_iff {xs : List Int} {s e : Nat} : rowP xs s e = true ↔ s.testBit e = false ∧ ∀ j, (row xs e).testBit j = true → s.testBit j = true := by
  simp only [rowP, Bool.and_eq_true, Bool.not_eq_true', beq_iff_eq, sub_eq_zero]
/-- the elements of what rowmotion makes that lie in no row of it are the least ones outside -/
theorem rowmo_top {xs : List Int} (hg : good xs = true) {s : Nat} (hs : holdsIdeal xs s = true) {e : Nat} (he : e < xs.length) :
    rowP xs s e = true ↔ (rowmo xs s).testBit e = true ∧ ∀ i, i < xs.length → (rowmo xs s).testBit i = true → (row xs i).testBit e = false := by
  have hid := holdsIdeal_row.1 hs
  have hm : ∀ i, (rowmo xs s).testBit i = true ↔ ∃ m, m < xs.length ∧ rowP xs s m = true ∧ (m = i ∨ (row xs m).testBit i = true) := by
    intro i
    unfold rowmo
    rw [orN_testBit]
    constructor
    · rintro ⟨m, h1, h2, h3⟩
      refine ⟨m, h1, h2, ?_⟩
      unfold rowG at h3
      rw [Nat.testBit_or, Bool.or_eq_true, Nat.testBit_two_pow] at h3
      rcases h3 with h3 | h3
      · exact .inl (by simpa using h3)
      · exact .inr h3
    · rintro ⟨m, h1, h2, h3⟩
      refine ⟨m, h1, h2, ?_⟩
      unfold rowG
      rw [Nat.testBit_or, Bool.or_eq_true, Nat.testBit_two_pow]
      rcases h3 with h3 | h3
      · exact .inl (by simpa using h3)
      · exact .inr h3
  constructor
  · intro hp
    refine ⟨(hm e).2 ⟨e, he, hp, .inl rfl⟩, fun i hi hb => ?_⟩
    rw [Bool.eq_false_iff]
    intro hr
    obtain ⟨h1, h2⟩ := rowP_iff.1 hp
    obtain ⟨m, hm1, hm2, hm3⟩ := (hm i).1 hb
    obtain ⟨h3, h4⟩ := rowP_iff.1 hm2
    rcases hm3 with rfl | hm3
    · rw [h4 e hr] at h1; cases h1
    · have := hid i hi (h4 i hm3) e hr
      rw [this] at h1; cases h1
  · rintro ⟨hb, hno⟩
    obtain ⟨m, hm1, hm2, hm3⟩ := (hm e).1 hb
    rcases hm3 with rfl | hm3
    · exact hm2
    · have := hno m hm1 ((hm m).2 ⟨m, hm1, hm2, .inl rfl⟩)
      rw [this] at hm3; cases hm3
/-- an ideal is told by the least ones outside -/
theorem out_iff {xs : List Int} (hg : good xs = true) {s : Nat} (hs : holdsIdeal xs s = true) : ∀ n e, e < n → e < xs.length → (s.testBit e = false ↔ rowP xs s e = true ∨ ∃ j, (row xs e).testBit j = true ∧ rowP xs s j = true) := by
  have hid := holdsIdeal_row.1 hs
  intro n
  induction n with
  | zero => intro e h; omega
  | succ n ih =>
    intro e hn he
    constructor
    · intro hb
      by_cases hall : ∀ j, (row xs e).testBit j = true → s.testBit j = true
      · exact .inl (rowP_iff.2 ⟨hb, hall⟩)
      · have ⟨j, hj⟩ := Classical.not_forall.1 hall
        have ⟨hj1, hj2⟩ := Classical.not_imp.1 hj
        have hj3 : s.testBit j = false := by simpa using hj2
        have hlt : j < e := testBit_lt (row_lt hg he).2 hj1
        rcases (ih j (by omega) (by omega)).1 hj3 with h | ⟨i, h1, h2⟩
        · exact .inr ⟨j, hj1, h⟩
        · exact .inr ⟨i, row_closed hg he hj1 h1, h2⟩
    · rintro (h | ⟨j, h1, h2⟩)
      · exact (rowP_iff.1 h).1
      · rw [Bool.eq_false_iff]
        intro hb
        have h3 := hid e he hb j h1
        rw [(rowP_iff.1 h2).1] at h3; cases h3
theorem rowmo_inj {xs : List Int} (hg : good xs = true) {s t : Nat} (hs : holdsIdeal xs s = true) (ht : holdsIdeal xs t = true) (hsl : s < 2 ^ xs.length) (htl : t < 2 ^ xs.length) (h : rowmo xs s = rowmo xs t) : s = t := by
  have hP : ∀ e, e < xs.length → rowP xs s e = rowP xs t e := by
    intro e he
    rw [Bool.eq_iff_iff, rowmo_top hg hs he, rowmo_top hg ht he, h]
  have hq : ∀ e, e < xs.length → (s.testBit e = false ↔ t.testBit e = false) := by
    intro e he
    rw [out_iff hg hs (e + 1) e (by omega) he, out_iff hg ht (e + 1) e (by omega) he, hP e he]
    constructor
    · rintro (h1 | ⟨j, h1, h2⟩)
      · exact .inl h1
      · have hlt : j < e := testBit_lt (row_lt hg he).2 h1
        exact .inr ⟨j, h1, by rw [← hP j (by omega)]; exact h2⟩
    · rintro (h1 | ⟨j, h1, h2⟩)
      · exact .inl h1
      · have hlt : j < e := testBit_lt (row_lt hg he).2 h1
        exact .inr ⟨j, h1, by rw [hP j (by omega)]; exact h2⟩
  apply Nat.eq_of_testBit_eq
  intro i
  by_cases hi : i < xs.length
  · have := hq i hi
    cases h1 : s.testBit i <;> cases h2 : t.testBit i <;> simp_all
  · have hz : ∀ z, z < 2 ^ xs.length → z.testBit i = false := fun z hz => by
      rw [Bool.eq_false_iff]; intro hb; exact hi (testBit_lt hz hb)
    rw [hz s hsl, hz t htl]
theorem rowMov {xs : List Int} (hg : good xs = true) : Mov (rowmo xs) (idB xs) (2 ^ xs.length) where
  lt s h := (idB_iff.1 h).1
  ins s h := idB_iff.2 ⟨rowmo_lt hg s, rowmo_ideal hg s⟩
  inj s t h k e := rowmo_inj hg (idB_iff.1 h).2 (idB_iff.1 k).2 (idB_iff.1 h).1 (idB_iff.1 k).1 e
theorem tog_tog {xs : List Int} {s e : Nat} (hs : holdsIdeal xs s = true) : tog xs (tog xs s e) e = s := by
  cases h : holdsIdeal xs (s ^^^ 2 ^ e)
  · rw [tog_no h, tog_no h]
  · have h2 : s ^^^ 2 ^ e ^^^ 2 ^ e = s := by rw [Nat.xor_assoc, Nat.xor_self, Nat.xor_zero]
    rw [tog_yes h, tog_yes (by rw [h2]; exact hs), h2]
theorem togW_inj {xs : List Int} {ys : List Int} {s t : Nat} (hs : holdsIdeal xs s = true) (ht : holdsIdeal xs t = true) (h : togW xs s ys = togW xs t ys) : s = t := by
  induction ys generalizing s t with
  | nil => exact h
  | cons y ys ih =>
    have h1 := ih (tog_ideal hs) (tog_ideal ht) h
    rw [← tog_tog (e := y.toNat) hs, h1, tog_tog ht]
theorem togMov {xs ys : List Int} (hy : inW xs.length ys = true) : Mov (fun s => togW xs s ys) (idB xs) (2 ^ xs.length) where
  lt s h := (idB_iff.1 h).1
  ins s h := idB_iff.2 ⟨togW_lt (idB_iff.1 h).1 hy, togW_ideal (idB_iff.1 h).2⟩
  inj s t h k e := togW_inj (idB_iff.1 h).2 (idB_iff.1 k).2 e

/-- an orbit as a list of integers -/
def orbTL (f : Nat → Nat) (s k : Nat) : List Int := (orbT f s k).map fun (x : Nat) => (x : Int)
def orbL (f : Nat → Nat) (N s : Nat) : List Int := orbTL f s (per f N s)
theorem orbTL_length (f : Nat → Nat) (s k : Nat) : (orbTL f s k).length = k := by simp [orbTL, orbT_length]
theorem orbL_length (f : Nat → Nat) (N s : Nat) : (orbL f N s).length = per f N s := orbTL_length _ _ _
theorem orbTL_succ (f : Nat → Nat) (s k : Nat) : orbTL f s (k + 1) = orbTL f s k ++ [((iter f k s : Nat) : Int)] := by simp [orbTL, orbT_succ]
theorem orbTL_get (f : Nat → Nat) (s : Nat) {k j : Nat} (hj : j < k) : (orbTL f s k).getD j 0 = ((iter f j s : Nat) : Int) := by simp [orbTL, orbT, List.getD, hj]
end Go.Proofs.Ytpdoheagfjeefaa
