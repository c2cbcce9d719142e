/- OrderOfWord. -/
import Derived.Test.YtkalpichninncabCycD
import Derived.Test.YtkalpichninncabOrdC
namespace Go.Proofs.Ytkalpichninncab
open Go.RowKit Go.WideShapes Go.ChangeShapes
set_option linter.unusedVariables false

def okOW (xs ys : List Int) : Bool := okGW xs ys && (lcmAll (cycW xs ys)).isSome
def ansOW (xs ys : List Int) : Int := if okOW xs ys then (((lcmAll (cycW xs ys)).getD 0 : Nat) : Int) else 0
theorem okOW_no1 {xs ys : List Int} (h : okGW xs ys = false) : okOW xs ys = false := by simp [okOW, h]
theorem okOW_no2 {xs ys : List Int} (h : lcmAll (cycW xs ys) = none) : okOW xs ys = false := by simp [okOW, h]
theorem okOW_yes {xs ys : List Int} {m : Nat} (h : okGW xs ys = true) (k : lcmAll (cycW xs ys) = some m) : okOW xs ys = true := by simp [okOW, h, k]
theorem ansOW_no {xs ys : List Int} (h : okOW xs ys = false) : ansOW xs ys = 0 := by simp [ansOW, h]
theorem ansOW_yes {xs ys : List Int} {m : Nat} (h : okOW xs ys = true) (k : lcmAll (cycW xs ys) = some m) : ansOW xs ys = (m : Int) := by simp [ansOW, h, k]
/-- what lcmAll tells, as the program's pair -/
def lcmV (o : Option Nat) : Int := ((o.getD 0 : Nat) : Int)
theorem lcm_step {ls : List Int} {k m x : Nat} (h : lcmN ls k = some m) (hx : ls.getD k 0 = (x : Int)) : lcmN ls (k + 1) = if 1000000000000000 < m / Nat.gcd m x * x then none else some (m / Nat.gcd m x * x) := by
  simp only [lcmN, h, Option.bind_some, hx, Int.toNat_natCast]
theorem lcm_facts {ls : List Int} {k m x : Nat} (hp : ∀ y ∈ ls, 1 ≤ y ∧ y ≤ 1024) (hk : k < ls.length) (h : lcmN ls k = some m) (hx : ls.getD k 0 = (x : Int)) :
    1 ≤ m ∧ m ≤ 1000000000000000 ∧ 1 ≤ x ∧ x ≤ 1024 ∧ 1 ≤ Nat.gcd m x ∧ Nat.gcd m x ≤ 1024 ∧ x / Nat.gcd m x ≤ 1024 ∧ m / Nat.gcd m x ≤ 1000000000000000 ∧ m / Nat.gcd m x * x ≤ 1024000000000000000 := by
  have h1 := lcmN_le (fun y hy => (hp y hy).1) k (by omega) m h
  have h2 := hp (ls.getD k 0) (by simp [List.getD, hk])
  rw [hx] at h2
  have h3 := Nat.gcd_le_right m (show 0 < x by omega)
  have h4 : 0 < Nat.gcd m x := Nat.gcd_pos_of_pos_left _ (by omega)
  have h5 := Nat.div_le_self x (Nat.gcd m x)
  have h6 := Nat.div_le_self m (Nat.gcd m x)
  have h7 : m / Nat.gcd m x * x ≤ 1000000000000000 * 1024 := Nat.mul_le_mul (by omega) (by omega)
  exact ⟨h1.1, h1.2, by omega, by omega, h4, by omega, by omega, by omega, by omega⟩
end Go.Proofs.Ytkalpichninncab
