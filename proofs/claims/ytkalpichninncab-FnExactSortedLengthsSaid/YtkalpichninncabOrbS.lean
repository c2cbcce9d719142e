/- OrbitOf, SizeOf, OrbitSum, AntichainSum: contracts. -/
import Derived.Test.YtkalpichninncabOrbC
import Derived.Test.YtkalpichninncabSize
import Derived.Test.YtkalpichninncabTg2
namespace Go.Proofs.Ytkalpichninncab
open Go.RowKit Go.WideShapes Go.ChangeShapes
set_option linter.unusedVariables false

theorem ret_vb' {u : Value} {a b : Bool} (h : a = b) : Ending.returned (.tuple #[u, .bool a]) = .returned (.tuple #[u, .bool b]) := by rw [h]
def orbXs (xs : List Int) (s : Nat) : List Int := orbL (rowmo xs) (2 ^ xs.length) s
def ansOO (xs : List Int) (s : Int) : List Int := if okIdeal xs s then orbXs xs s.toNat else []
theorem ansOO_no {xs : List Int} {s : Int} (h : okIdeal xs s = false) : ansOO xs s = [] := by simp [ansOO, h]
theorem ansOO_yes {xs : List Int} {z : Nat} (h : okIdeal xs z = true) : ansOO xs z = orbXs xs z := by simp [ansOO, h]
theorem okIdeal_idB {xs : List Int} {s : Int} (h : okIdeal xs s = true) : ∃ z : Nat, s = (z : Int) ∧ good xs = true ∧ idB xs z = true := by
  obtain ⟨z, rfl, h1, h2, h3⟩ := okIdeal_all h
  exact ⟨z, rfl, h1, idB_iff.2 ⟨h2, h3⟩⟩
theorem orbXs_length {xs : List Int} {z : Nat} (hg : good xs = true) (hz : idB xs z = true) : 1 ≤ (orbXs xs z).length ∧ (orbXs xs z).length ≤ 1024 := by
  obtain ⟨h1, h2, h3, h4⟩ := (rowMov hg).perS hz
  have := (two_pow_le _ (good_length hg).2).2
  unfold orbXs
  rw [orbL_length]
  omega
theorem orbXs_at {xs : List Int} {z : Nat} (hg : good xs = true) (hz : idB xs z = true) (j : Nat) (hj : j < (orbXs xs z).length) : ∃ s : Nat, (orbXs xs z).getD j 0 = (s : Int) ∧ s < 1024 := by
  have := (two_pow_le _ (good_length hg).2).2
  unfold orbXs at hj ⊢
  rw [orbL_length] at hj
  have h1 := (idB_iff.1 ((rowMov hg).it hz j)).1
  exact ⟨_, orbTL_get _ _ hj, by omega⟩
theorem ansOO_length (xs : List Int) (s : Int) : (ansOO xs s).length ≤ 1024 := by
  cases h : okIdeal xs s
  · rw [ansOO_no h]; simp
  · obtain ⟨z, rfl, h1, h2⟩ := okIdeal_idB h
    rw [ansOO_yes h]; exact (orbXs_length h1 h2).2
theorem ansOO_at (xs : List Int) (s : Int) (j : Nat) (hj : j < (ansOO xs s).length) : ∃ t : Nat, (ansOO xs s).getD j 0 = (t : Int) ∧ t < 1024 := by
  cases h : okIdeal xs s
  · rw [ansOO_no h] at hj; simp at hj
  · obtain ⟨z, rfl, h1, h2⟩ := okIdeal_idB h
    rw [ansOO_yes h] at hj ⊢; exact orbXs_at h1 h2 j hj
/-! ### sizes -/
def ansSz (xs : List Int) (s : Int) : Int := if okSet xs s then (pc s.toNat : Int) else 0
theorem ansSz_no {xs : List Int} {s : Int} (h : okSet xs s = false) : ansSz xs s = 0 := by simp [ansSz, h]
theorem ansSz_yes {xs : List Int} {z : Nat} (h : okSet xs z = true) : ansSz xs z = (pc z : Int) := by simp [ansSz, h]
end Go.Proofs.Ytkalpichninncab
