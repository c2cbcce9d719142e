/- Words of ranks: the lists. -/
import Derived.Test.YtkalpichninncabRvM
namespace Go.Proofs.Ytkalpichninncab
open Go.RowKit Go.WideShapes Go.ChangeShapes
set_option linter.unusedVariables false

/-- a, a + 1, .., b -/
def rnL (a b : Nat) : List Int := (List.range (b + 1 - a)).map fun j => ((a + j : Nat) : Int)
/-- a, a + 2, .., up to b -/
def rs2 (a b : Nat) : List Int := (List.range ((b + 2 - a) / 2)).map fun j => ((a + 2 * j : Nat) : Int)
/-- a, a - 1, .., b -/
def fsL (a b : Nat) : List Int := (List.range (a + 1 - b)).map fun j => ((a - j : Nat) : Int)
theorem rnL_length (a b : Nat) : (rnL a b).length = b + 1 - a := by simp [rnL]
theorem rs2_length (a b : Nat) : (rs2 a b).length = (b + 2 - a) / 2 := by simp [rs2]
theorem fsL_length (a b : Nat) : (fsL a b).length = a + 1 - b := by simp [fsL]
theorem rnL_rev (a b : Nat) : (rnL a b).reverse = fsL b a := by
  apply List.ext_getElem
  · simp [rnL, fsL]
  · intro i h1 h2
    have hi : i < b + 1 - a := by simpa [fsL] using h2
    rw [List.getElem_reverse]
    simp only [rnL, fsL, List.getElem_map, List.getElem_range, List.length_map, List.length_range]
    omega
def mapT (f : Nat → Int) (k : Nat) : List Int := (List.range k).map f
theorem mapT_succ (f : Nat → Int) (k : Nat) : mapT f (k + 1) = mapT f k ++ [f k] := by simp [mapT, List.range_succ]
theorem mapT_length (f : Nat → Int) (k : Nat) : (mapT f k).length = k := by simp [mapT]
theorem rnL_map (a b : Nat) : rnL a b = mapT (fun j => ((a + j : Nat) : Int)) (b + 1 - a) := rfl
theorem rs2_map (a b : Nat) : rs2 a b = mapT (fun j => ((a + 2 * j : Nat) : Int)) ((b + 2 - a) / 2) := rfl
theorem fsL_map (a b : Nat) : fsL a b = mapT (fun j => ((a - j : Nat) : Int)) (a + 1 - b) := rfl
/-- sweeps, one behind the other -/
def swL (f : Nat → List Int) (n : Nat) : List Int := (List.range n).flatMap f
theorem swL_zero (f : Nat → List Int) : swL f 0 = [] := rfl
theorem swL_succ (f : Nat → List Int) (n : Nat) : swL f (n + 1) = swL f n ++ f n := by simp [swL, List.range_succ]
theorem swL_length (f : Nat → List Int) (n c : Nat) (h : ∀ k, k < n → (f k).length ≤ c) : (swL f n).length ≤ c * n := by
  induction n with
  | zero => simp [swL]
  | succ n ih =>
    rw [swL_succ, List.length_append]
    have h1 := ih fun k hk => h k (by omega)
    have h2 := h n (by omega)
    rw [Nat.mul_add, Nat.mul_one]; omega
/-- the sweeps of rowmotion, of rowvacuation, of the dual one, of gyration: how many, and which ranks -/
def cRow (h : Nat) : Nat := 1
def fRow (h k : Nat) : List Int := fsL h 0
def cVac (h : Nat) : Nat := h + 1
def fVac (h k : Nat) : List Int := fsL h k
def cDual (h : Nat) : Nat := h + 1
def fDual (h k : Nat) : List Int := rnL 0 (h - k)
def cGyr (h : Nat) : Nat := 2
def fGyr (h k : Nat) : List Int := rs2 k h
def wRow (h : Nat) : List Int := swL (fRow h) (cRow h)
def wVac (h : Nat) : List Int := swL (fVac h) (cVac h)
def wDual (h : Nat) : List Int := swL (fDual h) (cDual h)
def wGyr (h : Nat) : List Int := swL (fGyr h) (cGyr h)
theorem wRow_eq (h : Nat) : wRow h = fsL h 0 := by simp [wRow, swL, cRow, fRow]
theorem wGyr_eq (h : Nat) : wGyr h = rs2 0 h ++ rs2 1 h := by simp [wGyr, swL, cGyr, fGyr, List.range_succ]
theorem inW_flat {n m : Nat} {f : Nat → List Int} (h : ∀ k, k < m → inW n (f k) = true) : inW n (swL f m) = true := by
  rw [inW, List.all_eq_true]
  intro y hy
  rw [swL, List.mem_flatMap] at hy
  obtain ⟨k, hk, hy⟩ := hy
  exact List.all_eq_true.1 (h k (List.mem_range.1 hk)) y hy
theorem inW_rnL {n a b : Nat} (h : b < n) : inW n (rnL a b) = true := List.all_eq_true.2 fun y hy => by
  obtain ⟨j, hj, rfl⟩ := List.mem_map.1 hy
  rw [List.mem_range] at hj; simp; omega
theorem inW_rs2 {n a b : Nat} (h : b < n) : inW n (rs2 a b) = true := List.all_eq_true.2 fun y hy => by
  obtain ⟨j, hj, rfl⟩ := List.mem_map.1 hy
  rw [List.mem_range] at hj; simp; omega
theorem inW_fsL {n a b : Nat} (h : a < n) : inW n (fsL a b) = true := List.all_eq_true.2 fun y hy => by
  obtain ⟨j, hj, rfl⟩ := List.mem_map.1 hy
  rw [List.mem_range] at hj; simp; omega
theorem inW_wRow {n h : Nat} (hn : h < n) : inW n (wRow h) = true := inW_flat fun k _ => inW_fsL hn
theorem inW_wVac {n h : Nat} (hn : h < n) : inW n (wVac h) = true := inW_flat fun k _ => inW_fsL hn
theorem inW_wDual {n h : Nat} (hn : h < n) : inW n (wDual h) = true := inW_flat fun k _ => inW_rnL (by omega)
theorem inW_wGyr {n h : Nat} (hn : h < n) : inW n (wGyr h) = true := inW_flat fun k _ => inW_rs2 hn
theorem fRow_length {h : Nat} (k : Nat) (hh : h ≤ 9) : (fRow h k).length ≤ 10 := by rw [fRow, fsL_length]; omega
theorem fVac_length {h : Nat} (k : Nat) (hh : h ≤ 9) : (fVac h k).length ≤ 10 := by rw [fVac, fsL_length]; omega
theorem fDual_length {h : Nat} (k : Nat) (hh : h ≤ 9) : (fDual h k).length ≤ 10 := by rw [fDual, rnL_length]; omega
theorem fGyr_length {h : Nat} (k : Nat) (hh : h ≤ 9) : (fGyr h k).length ≤ 10 := by rw [fGyr, rs2_length]; omega
theorem sw_length (f : Nat → List Int) {n : Nat} (h : ∀ k, (f k).length ≤ 10) (hn : n ≤ 10) : (swL f n).length ≤ 100 := by
  have := swL_length f n 10 fun k _ => h k; omega
theorem wRow_length {h : Nat} (hh : h ≤ 9) : (wRow h).length ≤ 100 := sw_length _ (fun k => fRow_length k hh) (by unfold cRow; omega)
theorem wVac_length {h : Nat} (hh : h ≤ 9) : (wVac h).length ≤ 100 := sw_length _ (fun k => fVac_length k hh) (by unfold cVac; omega)
theorem wDual_length {h : Nat} (hh : h ≤ 9) : (wDual h).length ≤ 100 := sw_length _ (fun k => fDual_length k hh) (by unfold cDual; omega)
theorem wGyr_length {h : Nat} (hh : h ≤ 9) : (wGyr h).length ≤ 100 := sw_length _ (fun k => fGyr_length k hh) (by unfold cGyr; omega)
end Go.Proofs.Ytkalpichninncab
