/- Lengths of the orbits of promotion. No program is named here. -/
import Derived.Test.YtnlehkjfidpdlabLinP
namespace Go.Proofs.Ytnlehkjfidpdlab
set_option linter.unusedVariables false

def idsN (N : Nat) : List Int := (List.range N).map fun (i : Nat) => (i : Int)
theorem idsN_length (N : Nat) : (idsN N).length = N := by simp [idsN]
theorem idsN_get {N j : Nat} (h : j < N) : ((idsN N).getD j 0).toNat = j := by simp [idsN, List.getD, h]
def perR (xs : List Int) (r : Nat) : Nat := per (proR xs) (ends xs 0) r
def lensP (xs : List Int) : List Int := (starts (proR xs) (ends xs 0) (idsN (ends xs 0))).map fun s => ((perR xs s : Nat) : Int)
theorem idsD {xs : List Int} (j : Nat) (hj : j < (idsN (ends xs 0)).length) : ltB (ends xs 0) ((idsN (ends xs 0)).getD j 0).toNat = true := by
  rw [idsN_length] at hj
  rw [idsN_get hj]
  exact decide_eq_true hj
theorem ltB_of {N r : Nat} (h : r < N) : ltB N r = true := decide_eq_true h
theorem perR_range {xs : List Int} (h1 : 1 ≤ xs.length) {r : Nat} (hr : r < ends xs 0) : 1 ≤ perR xs r ∧ perR xs r ≤ ends xs 0 := by
  obtain ⟨-, b, c, -⟩ := (proMov h1).perS (ltB_of hr)
  exact ⟨b, c⟩
theorem starts_lt {xs : List Int} {s : Nat} (hs : s ∈ starts (proR xs) (ends xs 0) (idsN (ends xs 0))) : s < ends xs 0 := by
  have := startsN_D (D := ltB (ends xs 0)) idsD (Nat.le_refl _) hs
  simpa [ltB] using this
theorem lens_range {xs : List Int} (h1 : 1 ≤ xs.length) (y : Int) (hy : y ∈ lensP xs) : 1 ≤ y ∧ y ≤ ends xs 0 := by
  unfold lensP at hy
  rw [List.mem_map] at hy
  obtain ⟨s, hs, rfl⟩ := hy
  have := perR_range h1 (starts_lt hs)
  omega
theorem lens_length (xs : List Int) : (lensP xs).length ≤ ends xs 0 := by
  unfold lensP starts
  rw [List.length_map]
  have := startsN_length (proR xs) (ends xs 0) (idsN (ends xs 0)) (idsN (ends xs 0)).length
  rw [idsN_length] at this ⊢
  exact this
/-! ### one orbit -/
theorem it_back {xs : List Int} (h1 : 1 ≤ xs.length) {r : Nat} (hr : r < ends xs 0) (j : Nat) : (turnN (fun _ => pro1 xs) j (unrL xs r) = unrL xs r) ↔ iter (proR xs) j r = r := by
  obtain ⟨a, b⟩ := it_unr h1 hr j
  rw [a]
  exact ⟨fun e => unr_inj b hr e, fun e => by rw [e]⟩
theorem it_per {xs : List Int} (h1 : 1 ≤ xs.length) {r : Nat} (hr : r < ends xs 0) : turnN (fun _ => pro1 xs) (perR xs r) (unrL xs r) = unrL xs r := (it_back h1 hr _).2 ((proMov h1).perS (ltB_of hr)).1
theorem it_ne {xs : List Int} (h1 : 1 ≤ xs.length) {r : Nat} (hr : r < ends xs 0) {j : Nat} (hj : 1 ≤ j) (hjp : j < perR xs r) : turnN (fun _ => pro1 xs) j (unrL xs r) ≠ unrL xs r := fun e => ((proMov h1).perS (ltB_of hr)).2.2.2 j hj hjp ((it_back h1 hr _).1 e)
end Go.Proofs.Ytnlehkjfidpdlab
