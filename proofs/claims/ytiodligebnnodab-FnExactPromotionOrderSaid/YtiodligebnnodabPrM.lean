/- The order of promotion: least common multiples of the lengths of orbits, of all and of those that begin them. No program is named here. -/
import Derived.Test.YtiodligebnnodabLinP
import Derived.Test.YtiodligebnnodabCycE
namespace Go.Proofs.Ytiodligebnnodab
set_option linter.unusedVariables false

/-- the least common multiple of the first k numbers, none above B -/
def bl (B : Nat) (p : Nat → Nat) : Nat → Option Nat
  | 0 => some 1
  | k + 1 => (bl B p k).bind fun m => if B < m / Nat.gcd m (p k) * p k then none else some (m / Nat.gcd m (p k) * p k)
def LC (p : Nat → Nat) : Nat → Nat
  | 0 => 1
  | k + 1 => Nat.lcm (LC p k) (p k)
theorem div_gcd_lcm (m x : Nat) : m / Nat.gcd m x * x = Nat.lcm m x := by
  unfold Nat.lcm
  rw [Nat.mul_comm, ← Nat.mul_div_assoc x (Nat.gcd_dvd_left m x), Nat.mul_comm x m]
theorem LC_pos {p : Nat → Nat} {k : Nat} (h : ∀ j, j < k → 1 ≤ p j) : 1 ≤ LC p k := by
  induction k with
  | zero => exact Nat.le_refl _
  | succ k ih => exact Nat.lcm_pos (ih fun j hj => h j (by omega)) (h k (by omega))
theorem bl_eq {B : Nat} {p : Nat → Nat} (hB : 1 ≤ B) (k : Nat) (h : ∀ j, j < k → 1 ≤ p j) : bl B p k = if LC p k ≤ B then some (LC p k) else none := by
  induction k with
  | zero => show some 1 = if 1 ≤ B then some 1 else none; rw [if_pos hB]
  | succ k ih =>
    rw [bl, ih (fun j hj => h j (by omega))]
    have h1 := LC_pos (p := p) (k := k) (fun j hj => h j (by omega))
    have h2 : LC p k ≤ LC p (k + 1) := Nat.le_of_dvd (LC_pos h) (Nat.dvd_lcm_left _ _)
    by_cases hc : LC p k ≤ B
    · rw [if_pos hc, Option.bind_some, div_gcd_lcm]
      by_cases hd : LC p (k + 1) ≤ B
      · rw [if_pos hd, if_neg (show ¬ B < Nat.lcm (LC p k) (p k) from Nat.not_lt.2 hd)]; rfl
      · rw [if_neg hd, if_pos (show B < Nat.lcm (LC p k) (p k) from Nat.lt_of_not_le hd)]
    · rw [if_neg hc, if_neg (by omega)]; rfl
theorem bl_none {B : Nat} {p : Nat → Nat} {k : Nat} (h : bl B p k = none) (j : Nat) (hj : k ≤ j) : bl B p j = none := by
  induction j with
  | zero => have : k = 0 := by omega
            subst this; exact h
  | succ j ih =>
    by_cases e : k = j + 1
    · subst e; exact h
    · rw [bl, ih (by omega)]; rfl
theorem bl_step {B : Nat} {p : Nat → Nat} {k m : Nat} (h : bl B p k = some m) : bl B p (k + 1) = if B < m / Nat.gcd m (p k) * p k then none else some (m / Nat.gcd m (p k) * p k) := by
  rw [bl, h]; rfl
theorem bl_range {B : Nat} {p : Nat → Nat} (hB : 1 ≤ B) {k m : Nat} (hp : ∀ j, j < k → 1 ≤ p j) (h : bl B p k = some m) : 1 ≤ m ∧ m ≤ B := by
  rw [bl_eq hB k hp] at h
  split at h
  · simp only [Option.some.injEq] at h
    have := LC_pos hp
    omega
  · cases h
theorem LC_dvd {p : Nat → Nat} {k M : Nat} (h : ∀ j, j < k → p j ∣ M) : LC p k ∣ M := by
  induction k with
  | zero => exact Nat.one_dvd _
  | succ k ih => exact Nat.lcm_dvd (ih fun j hj => h j (by omega)) (h k (by omega))
theorem dvd_LC (p : Nat → Nat) {k j : Nat} (hj : j < k) : p j ∣ LC p k := by
  induction k with
  | zero => omega
  | succ k ih =>
    by_cases e : j = k
    · subst e; exact Nat.dvd_lcm_right _ _
    · exact Nat.dvd_trans (ih (by omega)) (Nat.dvd_lcm_left _ _)
theorem lcmN_bl (ls : List Int) (k : Nat) : lcmN ls k = bl 1000000000000000 (fun j => (ls.getD j 0).toNat) k := by
  induction k with
  | zero => rfl
  | succ k ih => rw [lcmN, bl, ih]
theorem per_orb {f : Nat → Nat} {D : Nat → Bool} {N : Nat} (h : Mov f D N) {s t : Nat} (hs : D s = true) (ht : t ∈ orbN f N s) : per f N t = per f N s := by
  have le : ∀ {s t : Nat}, D s = true → t ∈ orbN f N s → per f N t ≤ per f N s := by
    intro s t hs ht
    have hd := mem_orbN_D h hs ht
    obtain ⟨a1, a2, a3, a4⟩ := h.perS hs
    obtain ⟨b1, b2, b3, b4⟩ := h.perS hd
    obtain ⟨k, rfl⟩ := (mem_orbN h hs t).1 ht
    rcases Nat.lt_or_ge (per f N s) (per f N (iter f k s)) with h1 | h1
    · exfalso
      refine b4 (per f N s) a2 h1 ?_
      rw [← iter_add, Nat.add_comm, iter_add, a1]
    · exact h1
  exact Nat.le_antisymm (le hs ht) (le (mem_orbN_D h hs ht) (mem_orbN_symm h hs ht))
def idsN (N : Nat) : List Int := (List.range N).map fun (i : Nat) => (i : Int)
theorem idsN_length (N : Nat) : (idsN N).length = N := by simp [idsN]
theorem idsN_get {N j : Nat} (h : j < N) : ((idsN N).getD j 0).toNat = j := by simp [idsN, List.getD, h]
def perR (xs : List Int) (r : Nat) : Nat := per (proR xs) (ends xs 0) r
def lensP (xs : List Int) : List Int := (starts (proR xs) (ends xs 0) (idsN (ends xs 0))).map fun s => ((perR xs s : Nat) : Int)
theorem idsD {xs : List Int} (j : Nat) (hj : j < (idsN (ends xs 0)).length) : ltB (ends xs 0) ((idsN (ends xs 0)).getD j 0).toNat = true := by
  rw [idsN_length] at hj
  rw [idsN_get hj]
  exact decide_eq_true hj
theorem ltB_of {N r : Nat} (h : r < N) : ltB N r = true := decide_eq_true h
theorem perR_range {xs : List Int} (h1 : 1 ≤ xs.length) {r : Nat} (hr : r < ends xs 0) : 1 ≤ perR xs r ∧ perR xs r ≤ ends xs 0 := by
  obtain ⟨-, b, c, -⟩ := (proMov h1).perS (ltB_of hr)
  exact ⟨b, c⟩
theorem starts_lt {xs : List Int} {s : Nat} (hs : s ∈ starts (proR xs) (ends xs 0) (idsN (ends xs 0))) : s < ends xs 0 := by
  have := startsN_D (D := ltB (ends xs 0)) idsD (Nat.le_refl _) hs
  simpa [ltB] using this
theorem lens_LC {xs : List Int} (h1 : 1 ≤ xs.length) : LC (fun j => ((lensP xs).getD j 0).toNat) (lensP xs).length = LC (perR xs) (ends xs 0) := by
  have hget : ∀ j, j < (lensP xs).length → ∃ s, s ∈ starts (proR xs) (ends xs 0) (idsN (ends xs 0)) ∧ ((lensP xs).getD j 0).toNat = perR xs s := by
    intro j hj
    have hj' : j < (starts (proR xs) (ends xs 0) (idsN (ends xs 0))).length := by simpa [lensP] using hj
    refine ⟨(starts (proR xs) (ends xs 0) (idsN (ends xs 0)))[j], List.getElem_mem hj', ?_⟩
    simp [lensP, List.getD, hj']
  refine Nat.dvd_antisymm (LC_dvd fun j hj => ?_) (LC_dvd fun r hr => ?_)
  · obtain ⟨s, hs, e⟩ := hget j hj
    show ((lensP xs).getD j 0).toNat ∣ _
    rw [e]
    exact dvd_LC (perR xs) (starts_lt hs)
  · have hseen := startsN_seen (proMov h1) (ids := idsN (ends xs 0)) idsD (Nat.le_refl _) (j := r) (by rw [idsN_length]; exact hr)
    rw [idsN_get hr] at hseen
    unfold seenB at hseen
    rw [List.any_eq_true] at hseen
    obtain ⟨s, hs, hm⟩ := hseen
    have hm' : r ∈ orbN (proR xs) (ends xs 0) s := by simpa using hm
    have hsl := starts_lt (xs := xs) hs
    have he : perR xs r = perR xs s := per_orb (proMov h1) (ltB_of hsl) hm'
    rw [he]
    obtain ⟨j, hj, e⟩ := List.mem_iff_getElem.1 hs
    have hj2 : j < (lensP xs).length := by simpa [lensP, starts] using hj
    have := dvd_LC (fun j => ((lensP xs).getD j 0).toNat) hj2
    have e2 : ((lensP xs).getD j 0).toNat = perR xs s := by
      have hj3 : j < (starts (proR xs) (ends xs 0) (idsN (ends xs 0))).length := hj
      have e3 : (starts (proR xs) (ends xs 0) (idsN (ends xs 0)))[j] = s := e
      simp [lensP, List.getD, hj3, e3]
    simp only [e2] at this
    exact this
theorem lens_range {xs : List Int} (h1 : 1 ≤ xs.length) (y : Int) (hy : y ∈ lensP xs) : 1 ≤ y ∧ y ≤ ends xs 0 := by
  unfold lensP at hy
  rw [List.mem_map] at hy
  obtain ⟨s, hs, rfl⟩ := hy
  have := perR_range h1 (starts_lt hs)
  omega
theorem lens_all {xs : List Int} (h1 : 1 ≤ xs.length) : lcmAll (lensP xs) = if LC (perR xs) (ends xs 0) ≤ 1000000000000000 then some (LC (perR xs) (ends xs 0)) else none := by
  unfold lcmAll
  rw [lcmN_bl, bl_eq (by decide), lens_LC h1]
  intro j hj
  have := lens_range h1 ((lensP xs).getD j 0) (by simp [List.getD, hj])
  show 1 ≤ ((lensP xs).getD j 0).toNat
  omega
theorem lens_length (xs : List Int) : (lensP xs).length ≤ ends xs 0 := by
  unfold lensP starts
  rw [List.length_map]
  have := startsN_length (proR xs) (ends xs 0) (idsN (ends xs 0)) (idsN (ends xs 0)).length
  rw [idsN_length] at this ⊢
  exact this
/-! ### one orbit -/
theorem it_back {xs : List Int} (h1 : 1 ≤ xs.length) {r : Nat} (hr : r < ends xs 0) (j : Nat) : (turnN (fun _ => pro1 xs) j (unrL xs r) = unrL xs r) ↔ iter (proR xs) j r = r := by
  obtain ⟨a, b⟩ := it_unr h1 hr j
  rw [a]
  exact ⟨fun e => unr_inj b hr e, fun e => by rw [e]⟩
theorem it_per {xs : List Int} (h1 : 1 ≤ xs.length) {r : Nat} (hr : r < ends xs 0) : turnN (fun _ => pro1 xs) (perR xs r) (unrL xs r) = unrL xs r := (it_back h1 hr _).2 ((proMov h1).perS (ltB_of hr)).1
theorem it_ne {xs : List Int} (h1 : 1 ≤ xs.length) {r : Nat} (hr : r < ends xs 0) {j : Nat} (hj : 1 ≤ j) (hjp : j < perR xs r) : turnN (fun _ => pro1 xs) j (unrL xs r) ≠ unrL xs r := fun e => ((proMov h1).perS (ltB_of hr)).2.2.2 j hj hjp ((it_back h1 hr _).1 e)
end Go.Proofs.Ytiodligebnnodab
