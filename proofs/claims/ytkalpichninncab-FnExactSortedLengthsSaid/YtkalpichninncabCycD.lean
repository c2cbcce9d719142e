/- ToggleCycles, OrderOfWord. -/
import Derived.Test.YtkalpichninncabCycC
namespace Go.Proofs.Ytkalpichninncab
open Go.RowKit Go.WideShapes Go.ChangeShapes
set_option linter.unusedVariables false

theorem ret_vb {u : Value} {a b : Bool} (h : a = b) : Ending.returned (.tuple #[u, .bool a]) = .returned (.tuple #[u, .bool b]) := by rw [h]
def okGW (xs ys : List Int) : Bool := good xs && okWord xs ys
def cycW (xs ys : List Int) : List Int := cyclesL (wordF xs ys) (2 ^ xs.length) (setsL (holdsIdeal xs) (2 ^ xs.length))
def tcL (xs ys : List Int) : List Int := if okGW xs ys then cycW xs ys else []
theorem okGW_no1 {xs ys : List Int} (h : good xs = false) : okGW xs ys = false := by simp [okGW, h]
theorem okGW_no2 {xs ys : List Int} (h : okWord xs ys = false) : okGW xs ys = false := by simp [okGW, h]
theorem okGW_yes {xs ys : List Int} (h : good xs = true) (k : okWord xs ys = true) : okGW xs ys = true := by simp [okGW, h, k]
theorem tcL_no {xs ys : List Int} (h : okGW xs ys = false) : tcL xs ys = [] := by simp [tcL, h]
theorem tcL_yes {xs ys : List Int} (h : okGW xs ys = true) : tcL xs ys = cycW xs ys := by simp [tcL, h]
theorem okGW_good {xs ys : List Int} (h : okGW xs ys = true) : good xs = true ∧ okWord xs ys = true := by simpa [okGW] using h
theorem cycW_length {xs ys : List Int} (h : good xs = true) : (cycW xs ys).length ≤ 1024 := by
  have h1 := (cycSt_length (wordF xs ys) (2 ^ xs.length) (setsL (holdsIdeal xs) (2 ^ xs.length)) (setsL (holdsIdeal xs) (2 ^ xs.length)).length).2
  have h2 := setsL_length (holdsIdeal xs) (2 ^ xs.length)
  have h3 := pow10 (good_length h).2
  unfold cycW cyclesL
  omega
theorem cycW_pos {xs ys : List Int} (h : good xs = true) : ∀ x ∈ cycW xs ys, 1 ≤ x ∧ x ≤ 1024 := by
  intro x hx
  have h3 := pow10 (good_length h).2
  unfold cycW at hx
  obtain ⟨N, hN⟩ : ∃ N, 2 ^ xs.length = N := ⟨_, rfl⟩
  rw [hN] at hx h3
  have h1 := cycSt_pos (wordF xs ys) N (setsL (holdsIdeal xs) N) _ x hx
  omega
theorem tcL_length (xs ys : List Int) : (tcL xs ys).length ≤ 1048576 := by
  unfold tcL
  split
  · rename_i h
    have := cycW_length (ys := ys) (okGW_good h).1
    omega
  · simp
/-! ### common multiples -/
end Go.Proofs.Ytkalpichninncab
