/- Cycles of a motion on the ideals; common multiples. No program is named here. -/
import Derived.Test.YtkalpichninncabTog
namespace Go.Proofs.Ytkalpichninncab
set_option linter.unusedVariables false

def cntF (seen : List Bool) : Nat := seen.count false
theorem cntF_set {seen : List Bool} {s : Nat} (hs : s < seen.length) (h : seen.getD s true = false) : cntF (seen.set s true) + 1 = cntF seen := by
  unfold cntF
  induction seen generalizing s with
  | nil => simp at hs
  | cons b l ih =>
    match s with
    | 0 =>
      simp [List.getD] at h
      subst h
      simp
    | s + 1 =>
      have h1 : s < l.length := by simpa using hs
      have h2 : l.getD s true = false := by simpa [List.getD] using h
      have := ih h1 h2
      rw [List.set_cons_succ, List.count_cons, List.count_cons]
      omega
theorem cntF_le (seen : List Bool) : cntF seen ≤ seen.length := List.count_le_length
/-- one cycle, from s on: what has been seen behind it, and its length -/
def cycIn (f : Nat → Nat) : Nat → List Bool → Nat → Nat → List Bool × Nat
  | 0, seen, _, n => (seen, n)
  | c + 1, seen, s, n => if seen.getD s true = true then (seen, n) else cycIn f c (seen.set s true) (f s) (n + 1)
def cyc1 (f : Nat → Nat) (seen : List Bool) (s n : Nat) : List Bool × Nat := cycIn f (cntF seen) seen s n
theorem cyc1_stop {f : Nat → Nat} {seen : List Bool} {s n : Nat} (h : seen.getD s true = true) : cyc1 f seen s n = (seen, n) := by
  unfold cyc1
  cases hc : cntF seen
  · rfl
  · unfold cycIn; rw [if_pos h]
theorem cyc1_go {f : Nat → Nat} {seen : List Bool} {s n : Nat} (hs : s < seen.length) (h : seen.getD s true = false) : cyc1 f seen s n = cyc1 f (seen.set s true) (f s) (n + 1) := by
  unfold cyc1
  have := cntF_set hs h
  rw [← this, cycIn, if_neg (by rw [h]; decide)]
theorem cyc1_length (f : Nat → Nat) (seen : List Bool) (s n : Nat) : (cyc1 f seen s n).1.length = seen.length := by
  unfold cyc1
  generalize cntF seen = c
  induction c generalizing seen s n with
  | zero => rfl
  | succ c ih =>
    unfold cycIn
    split
    · rfl
    · rw [ih, List.length_set]
theorem cyc1_le (f : Nat → Nat) (seen : List Bool) (s n : Nat) : (cyc1 f seen s n).2 ≤ n + seen.length := by
  have key : ∀ c (seen : List Bool) (s n : Nat), (cycIn f c seen s n).2 ≤ n + c := by
    intro c
    induction c with
    | zero => intro seen s n; exact Nat.le_refl _
    | succ c ih =>
      intro seen s n
      unfold cycIn
      split
      · exact Nat.le_add_right _ _
      · have := ih (seen.set s true) (f s) (n + 1)
        omega
  have h1 := key (cntF seen) seen s n
  have h2 := cntF_le seen
  unfold cyc1
  omega
/-- the cycles from the first k ideals on -/
def cycSt (f : Nat → Nat) (N : Nat) (ids : List Int) : Nat → List Bool × List Int
  | 0 => (List.replicate N false, [])
  | k + 1 =>
    let st := cycSt f N ids k
    let r := cyc1 f st.1 (ids.getD k 0).toNat 0
    (r.1, if 0 < r.2 then st.2 ++ [(r.2 : Int)] else st.2)
theorem cycSt_length (f : Nat → Nat) (N : Nat) (ids : List Int) (k : Nat) : (cycSt f N ids k).1.length = N ∧ (cycSt f N ids k).2.length ≤ k := by
  induction k with
  | zero => simp [cycSt]
  | succ k ih =>
    simp only [cycSt]
    rw [cyc1_length]
    refine ⟨ih.1, ?_⟩
    split
    · rw [List.length_append]; simp only [List.length_singleton]; omega
    · omega
theorem cycSt_pos (f : Nat → Nat) (N : Nat) (ids : List Int) (k : Nat) : ∀ x ∈ (cycSt f N ids k).2, 1 ≤ x ∧ x ≤ N := by
  induction k with
  | zero => simp [cycSt]
  | succ k ih =>
    simp only [cycSt]
    split
    · rename_i h
      intro x hx
      rw [List.mem_append] at hx
      rcases hx with hx | hx
      · exact ih x hx
      · rw [List.mem_singleton] at hx
        subst hx
        have := cyc1_le f (cycSt f N ids k).1 (ids.getD k 0).toNat 0
        rw [(cycSt_length f N ids k).1] at this
        omega
    · exact ih
def cyclesL (f : Nat → Nat) (N : Nat) (ids : List Int) : List Int := (cycSt f N ids ids.length).2

/-! ### greatest common divisors, least common multiples -/
theorem tmod_nat (m n : Nat) : ((m : Int).tmod (n : Int)) = ((m % n : Nat) : Int) := by
  rw [Int.tmod_eq_emod_of_nonneg (Int.natCast_nonneg _)]; simp
theorem tdiv_nat (m n : Nat) : ((m : Int).tdiv (n : Int)) = ((m / n : Nat) : Int) := by
  rw [Int.tdiv_eq_ediv_of_nonneg (Int.natCast_nonneg _)]; simp
/-- the common multiple of the first k, none once it is too great -/
def lcmN (ls : List Int) : Nat → Option Nat
  | 0 => some 1
  | k + 1 => (lcmN ls k).bind fun m => if 1000000000000000 < m / Nat.gcd m (ls.getD k 0).toNat * (ls.getD k 0).toNat then none else some (m / Nat.gcd m (ls.getD k 0).toNat * (ls.getD k 0).toNat)
theorem lcmN_le {ls : List Int} (hp : ∀ x ∈ ls, 1 ≤ x) (k : Nat) (hk : k ≤ ls.length) : ∀ m, lcmN ls k = some m → 1 ≤ m ∧ m ≤ 1000000000000000 := by
  induction k with
  | zero => intro m h; simp only [lcmN, Option.some.injEq] at h; omega
  | succ k ih =>
    intro m h
    simp only [lcmN] at h
    cases hq : lcmN ls k with
    | none => rw [hq] at h; simp at h
    | some q =>
      rw [hq, Option.bind_some] at h
      split at h
      · cases h
      · rename_i hn
        simp only [Option.some.injEq] at h
        have h1 := ih (by omega) q hq
        have hx := hp (ls.getD k 0) (by simp [List.getD, show k < ls.length by omega])
        have hg := Nat.le_of_dvd (by omega) (Nat.gcd_dvd_left q (ls.getD k 0).toNat)
        have hg0 : 0 < Nat.gcd q (ls.getD k 0).toNat := Nat.gcd_pos_of_pos_left _ (by omega)
        have h3 : 0 < q / Nat.gcd q (ls.getD k 0).toNat := Nat.div_pos hg hg0
        have h4 : 0 < q / Nat.gcd q (ls.getD k 0).toNat * (ls.getD k 0).toNat := Nat.mul_pos h3 (by omega)
        omega
def lcmAll (ls : List Int) : Option Nat := lcmN ls ls.length
theorem lcmN_none {ls : List Int} {k : Nat} (h : lcmN ls k = none) (j : Nat) (hj : k ≤ j) : lcmN ls j = none := by
  induction j with
  | zero => have : k = 0 := by omega
            subst this; exact h
  | succ j ih =>
    by_cases e : k = j + 1
    · subst e; exact h
    · simp only [lcmN, ih (by omega)]; rfl
/-- a quotient too great for the bound: the product is -/
theorem div_bound {a n M : Nat} (hn : 1 ≤ n) : M / n < a ↔ M < a * n := by
  rw [Nat.div_lt_iff_lt_mul (by omega)]
theorem mul_gcd_swap (m n : Nat) (hn : 1 ≤ n) : m / Nat.gcd m n * n = m * (n / Nat.gcd m n) := by
  obtain ⟨a, ha⟩ := Nat.gcd_dvd_left m n
  obtain ⟨b, hb⟩ := Nat.gcd_dvd_right m n
  have hg0 : 0 < Nat.gcd m n := Nat.gcd_pos_of_pos_right _ (by omega)
  obtain ⟨g, hg⟩ : ∃ g, Nat.gcd m n = g := ⟨_, rfl⟩
  rw [hg] at ha hb hg0 ⊢
  rw [ha, hb, Nat.mul_div_cancel_left _ hg0, Nat.mul_div_cancel_left _ hg0]
  rw [← Nat.mul_assoc, Nat.mul_comm a g]
end Go.Proofs.Ytkalpichninncab
