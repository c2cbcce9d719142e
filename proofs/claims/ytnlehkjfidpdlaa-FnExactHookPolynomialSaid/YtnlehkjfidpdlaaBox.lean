/- Boxes of labels: products over the levels of a rectangle's elements. -/
import Derived.Test.YtnlehkjfidpdlaaGcd
import Derived.Test.YtnlehkjfidpdlaaLab
import Derived.Test.YtnlehkjfidpdlaaTabS
import Derived.Test.YtnlehkjfidpdlaaFac
namespace Go.Proofs.Ytnlehkjfidpdlaa
open Go.RowKit Go.WideShapes Go.ChangeShapes
set_option linter.unusedVariables false

def lvN (y e : Nat) : Nat := e / y + e % y + 1
def prodN (g : Nat → Nat) : Nat → Nat
  | 0 => 1
  | e + 1 => prodN g e * g e
theorem prodN_pos {g : Nat → Nat} (h : ∀ e, 1 ≤ g e) (e : Nat) : 1 ≤ prodN g e := by
  induction e with
  | zero => exact Nat.le_refl _
  | succ e ih => rw [prodN]; exact Nat.mul_le_mul ih (h e)
theorem prodN_le {g : Nat → Nat} {c n : Nat} (h : ∀ e, e < n → g e ≤ c) (e : Nat) (he : e ≤ n) : prodN g e ≤ c ^ e := by
  induction e with
  | zero => exact Nat.le_refl _
  | succ e ih => rw [prodN, Nat.pow_succ]; exact Nat.mul_le_mul (ih (by omega)) (h e (by omega))
theorem lvN_le (y e : Nat) (hy : 1 ≤ y) : 1 ≤ lvN y e ∧ lvN y e ≤ e + 1 := by
  unfold lvN
  have h1 := Nat.div_add_mod e y
  have h2 : e / y ≤ y * (e / y) := Nat.le_mul_of_pos_left _ hy
  generalize e / y = q at *
  generalize e % y = r at *
  generalize y * q = t at *
  omega
theorem lvN_at {y r c : Nat} (hc : c < y) : lvN y (y * r + c) = r + c + 1 := by
  unfold lvN
  rw [Nat.mul_add_div (by omega), Nat.div_eq_of_lt hc, Nat.mul_add_mod, Nat.mod_eq_of_lt hc]
  rfl
def upN (y m e : Nat) : Nat := prodN (fun e => lvN y e + m) e
def dnN (y e : Nat) : Nat := prodN (lvN y) e
theorem up_le {y m e : Nat} (hy : 1 ≤ y) (hm : m ≤ 12) (he : e ≤ 10) : upN y m e ≤ 22 ^ e :=
  prodN_le (n := 10) (fun i hi => by have := lvN_le y i hy; omega) e he
theorem dn_le {y e : Nat} (hy : 1 ≤ y) (he : e ≤ 10) : dnN y e ≤ 22 ^ e :=
  prodN_le (n := 10) (fun i hi => by have := lvN_le y i hy; omega) e he
theorem pow22 {e : Nat} (h : e ≤ 10) : 22 ^ e ≤ 26559922791424 := Nat.le_trans (Nat.pow_le_pow_right (by decide) h) (by decide)
theorem dn_pos {y : Nat} (hy : 1 ≤ y) (e : Nat) : 1 ≤ dnN y e := prodN_pos (fun i => (lvN_le y i hy).1) e
def boxB (a b m : Int) : Bool := sides a b && bdB m
def boxT (a b m : Int) : Int := if boxB a b m then ((upN b.toNat m.toNat (a.toNat * b.toNat) / dnN b.toNat (a.toNat * b.toNat) : Nat) : Int) else 0
theorem boxB_no1 {a b m : Int} (h : sides a b = false) : boxB a b m = false := by simp [boxB, h]
theorem boxB_no2 {a b m : Int} (h : bdB m = false) : boxB a b m = false := by simp [boxB, h]
theorem boxB_yes {a b m : Int} (h : sides a b = true) (k : bdB m = true) : boxB a b m = true := by simp [boxB, h, k]
theorem boxB_all {a b m : Int} (h : boxB a b m = true) : sides a b = true ∧ bdB m = true := by simpa [boxB] using h
theorem boxT_no {a b m : Int} (h : boxB a b m = false) : boxT a b m = 0 := by simp [boxT, h]
theorem boxT_yes {x y m : Nat} (h : boxB x y m = true) : boxT x y m = ((upN y m (x * y) / dnN y (x * y) : Nat) : Int) := by
  unfold boxT; rw [if_pos h]; simp
/-- one step of the model's fraction: by the levels, then by the common divisor -/
theorem frac_step {num den U D p q g : Nat} (h : num * D = U * den) (hg : g = Nat.gcd (num * p) (den * q)) (hd : 1 ≤ den) (hq : 1 ≤ q) (hU : num ≤ U) (hD : den ≤ D) :
    num * p / g * (D * q) = U * p * (den * q / g) ∧ 1 ≤ den * q / g ∧ num * p / g ≤ U * p ∧ den * q / g ≤ D * q ∧ 1 ≤ g := by
  have hpos : 0 < den * q := Nat.mul_pos hd hq
  have hgp : 0 < g := by rw [hg]; exact Nat.gcd_pos_of_pos_right _ hpos
  obtain ⟨s, hs⟩ : g ∣ num * p := by rw [hg]; exact Nat.gcd_dvd_left _ _
  obtain ⟨t, ht⟩ : g ∣ den * q := by rw [hg]; exact Nat.gcd_dvd_right _ _
  have e1 : num * p / g = s := by rw [hs]; exact Nat.mul_div_cancel_left s hgp
  have e2 : den * q / g = t := by rw [ht]; exact Nat.mul_div_cancel_left t hgp
  have hs1 : s ≤ num * p := by rw [hs]; exact Nat.le_mul_of_pos_left s hgp
  have ht1 : t ≤ den * q := by rw [ht]; exact Nat.le_mul_of_pos_left t hgp
  have ht0 : 1 ≤ t := by
    rcases Nat.eq_zero_or_pos t with h0 | h0
    · subst h0; rw [Nat.mul_zero] at ht; omega
    · exact h0
  rw [e1, e2]
  refine ⟨?_, ht0, Nat.le_trans hs1 (Nat.mul_le_mul_right p hU), Nat.le_trans ht1 (Nat.mul_le_mul_right q hD), hgp⟩
  apply Nat.eq_of_mul_eq_mul_left hgp
  calc g * (s * (D * q)) = (g * s) * (D * q) := by rw [Nat.mul_assoc]
    _ = (num * p) * (D * q) := by rw [hs]
    _ = (num * D) * (p * q) := by simp only [Nat.mul_left_comm, Nat.mul_comm]
    _ = (U * den) * (p * q) := by rw [h]
    _ = (U * p) * (den * q) := by simp only [Nat.mul_left_comm, Nat.mul_comm]
    _ = (U * p) * (g * t) := by rw [ht]
    _ = g * (U * p * t) := by simp only [Nat.mul_left_comm, Nat.mul_comm]
theorem frac_end {num den U D : Nat} (h : num * D = U * den) (hd : 1 ≤ den) (hD : 1 ≤ D) : num / den = U / D := by
  have h1 : num / den = num * D / (den * D) := (Nat.mul_div_mul_right _ _ hD).symm
  have h2 : U / D = U * den / (D * den) := (Nat.mul_div_mul_right _ _ hd).symm
  rw [h1, h2, h, Nat.mul_comm D den]
end Go.Proofs.Ytnlehkjfidpdlaa
