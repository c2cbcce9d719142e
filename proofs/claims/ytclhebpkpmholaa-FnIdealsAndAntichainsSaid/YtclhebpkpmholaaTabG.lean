/- A grid that is read; numbers written by their places; the lists that a tableau tells. -/
import Derived.Test.YtclhebpkpmholaaTabS
namespace Go.Proofs.Ytclhebpkpmholaa
open Go.RowKit Go.WideShapes Go.ChangeShapes
set_option linter.unusedVariables false

theorem ret_vbT {u : Value} {a b : Bool} (h : a = b) : Ending.returned (.tuple #[u, .bool a]) = .returned (.tuple #[u, .bool b]) := by rw [h]
theorem ret_ibT {x y : Int} {a b : Bool} (e : x = y) (h : a = b) : Ending.returned (.tuple #[.int .i64 x, .bool a]) = .returned (.tuple #[.int .i64 y, .bool b]) := by rw [e, h]
/-- 'v' is a slice of a rows of b numbers F r c -/
def GridR (w : World) (v : Value) (a b : Nat) (F : Nat → Nat → Int) : Prop :=
  ∃ ab ao cv, v = .slice (some ⟨ab, ao, none⟩) a cv ∧ ab < w.heap.size ∧ ∀ r, r < a → ∃ g o c, w.cell? ⟨ab, ao + r, none⟩ = some (.slice (some ⟨g, o, none⟩) b c) ∧ g < w.heap.size ∧ ∀ j, j < b → w.cell? ⟨g, o + j, none⟩ = some (.int .i64 (F r j))
theorem GridR.below {w w' : World} {v : Value} {a b : Nat} {F : Nat → Nat → Int} (h : GridR w v a b F) (hb : Below w.heap.size w w') : GridR w' v a b F := by
  obtain ⟨ab, ao, cv, rfl, h1, h2⟩ := h
  refine ⟨ab, ao, cv, rfl, Nat.lt_of_lt_of_le h1 hb.size, fun r hr => ?_⟩
  obtain ⟨g, o, c, h3, h4, h5⟩ := h2 r hr
  exact ⟨g, o, c, (hb.cell (p := ⟨ab, ao + r, none⟩) h1).trans h3, Nat.lt_of_lt_of_le h4 hb.size, fun j hj => (hb.cell (p := ⟨g, o + j, none⟩) h4).trans (h5 j hj)⟩
theorem GridR.alloc {w : World} {v : Value} {a b : Nat} {F : Nat → Nat → Int} (h : GridR w v a b F) (o : Obj) : GridR (w.alloc o) v a b F := h.below ((Below.refl _ _).alloc (Nat.le_refl _) o)
theorem GridR.of {w : World} {v : Value} {ls : List (List Int)} (h : IntsSS w v ls) (hL : TabL ls) : GridR w v ls.length (wid ls) (cel ls) := by
  obtain ⟨b, o, c, rfl, h1, h2⟩ := h.row0 hL.a1
  refine ⟨b, o, c, rfl, h1, fun r hr => ?_⟩
  obtain ⟨u, h3, A, c', rfl, h4⟩ := h2 r hr
  have h5 := hL.row r hr
  obtain ⟨g, o', rfl, h6, h7⟩ := h4 (by intro h; have := hL.b1; rw [h] at h5; simp at h5; omega)
  rw [h5] at h3
  exact ⟨g, o', c', h3, h6, fun j hj => h7 j (by omega)⟩

/-- a list of n numbers z, g e written at f e for each e below k -/
def wrt (z : Int) (f g : Nat → Int) (n : Nat) : Nat → List Int
  | 0 => List.replicate n z
  | e + 1 => (wrt z f g n e).set (f e).toNat (g e)
theorem wrt_length (z : Int) (f g : Nat → Int) (n k : Nat) : (wrt z f g n k).length = n := by
  induction k with
  | zero => simp [wrt]
  | succ k ih => simp [wrt, ih]
theorem wrt_plc (f : Nat → Int) (n k : Nat) : wrt (-1) f (fun e => (e : Int)) n k = plc f n k := by
  induction k with
  | zero => rfl
  | succ k ih => rw [wrt, ih]; rfl
theorem wrt_get {z : Int} {f g : Nat → Int} {n : Nat} (k : Nat) (hf : ∀ e, e < k → 0 ≤ f e ∧ f e < n) {y : Nat} (hy : y < n) :
    ((wrt z f g n k).getD y 0 = z ∧ ∀ e, e < k → f e ≠ y) ∨ ∃ e, e < k ∧ f e = y ∧ (wrt z f g n k).getD y 0 = g e := by
  induction k with
  | zero => left; refine ⟨?_, fun e he => by omega⟩; simp [wrt, List.getD, hy]
  | succ k ih =>
    have h1 := hf k (by omega)
    rw [wrt, getD_set_, wrt_length]
    by_cases e1 : (f k).toNat = y
    · right
      exact ⟨k, by omega, by omega, by rw [if_pos ⟨e1, by omega⟩]⟩
    · rw [if_neg (fun h => e1 h.1)]
      rcases ih (fun e he => hf e (by omega)) with ⟨h2, h3⟩ | ⟨e, h2, h3, h4⟩
      · left
        refine ⟨h2, fun e he h => ?_⟩
        by_cases e2 : e = k
        · subst e2; omega
        · exact h3 e (by omega) h
      · exact .inr ⟨e, by omega, h3, h4⟩
theorem TabX.wrt {a b : Nat} {f : Nat → Int} (h : TabX a b f) (z : Int) (g : Nat → Int) : wrt z f g (a * b) (a * b) = (List.range (a * b)).map fun y => g (wN (plc f (a * b) (a * b)) y) := by
  refine List.ext_getElem (by rw [wrt_length]; simp) fun y h1 h2 => ?_
  rw [wrt_length] at h1
  obtain ⟨h3, h4⟩ := h.back h1
  have e1 : (Go.Proofs.Ytclhebpkpmholaa.wrt z f g (a * b) (a * b))[y] = (Go.Proofs.Ytclhebpkpmholaa.wrt z f g (a * b) (a * b)).getD y 0 := by simp [List.getD, wrt_length, h1]
  rw [e1]
  simp only [List.getElem_map, List.getElem_range]
  rcases wrt_get (z := z) (g := g) (a * b) h.rng h1 with ⟨-, h5⟩ | ⟨e, h5, h6, h7⟩
  · exact absurd h4 (h5 _ h3)
  · rw [h7, h.inj h5 h3 (by rw [h6, h4])]
theorem linT_wrt {ls : List (List Int)} (h : tabB ls = true) : wrt 0 (celF ls (wid ls)) (fun e => (e : Int)) (ls.length * wid ls) (ls.length * wid ls) = linT ls := by
  have hX := (tabB_all h).2
  exact (hX.wrt 0 _).trans ((hX.wrt (-1) _).symm.trans (wrt_plc _ _ _))
/-- the row of the number k -/
def rowK (ls : List (List Int)) (k : Nat) : Nat := wN (linT ls) k / wid ls
def wrdL (ls : List (List Int)) : List Int := mkL (ls.length * wid ls) (rowK ls)
theorem wrdL_wrt {ls : List (List Int)} (h : tabB ls = true) : wrt 0 (celF ls (wid ls)) (fun e => ((e / wid ls : Nat) : Int)) (ls.length * wid ls) (ls.length * wid ls) = wrdL ls := (tabB_all h).2.wrt 0 _
theorem linT_at {ls : List (List Int)} (h : tabB ls = true) {k : Nat} (hk : k < ls.length * wid ls) : (linT ls).getD k 0 = (wN (linT ls) k : Int) ∧ wN (linT ls) k < ls.length * wid ls := by
  have h1 := (tabB_all h).2.lin.rng k (by rw [rect_len]; exact hk)
  rw [rect_len] at h1
  exact h1
theorem rowK_lt {ls : List (List Int)} (h : tabB ls = true) {k : Nat} (hk : k < ls.length * wid ls) : rowK ls k < ls.length := by
  have h1 := (linT_at h hk).2
  unfold rowK
  rw [Nat.div_lt_iff_lt_mul (tabB_all h).1.b1]; exact h1
def ansLW (ls : List (List Int)) : List Int := if tabB ls then wrdL ls else []
theorem ansLW_no {ls : List (List Int)} (h : tabB ls = false) : ansLW ls = [] := by simp [ansLW, h]
theorem ansLW_yes {ls : List (List Int)} (h : tabB ls = true) : ansLW ls = wrdL ls := by simp [ansLW, h]
theorem ansLW_length (ls : List (List Int)) : (ansLW ls).length ≤ 1048576 := by
  cases h : tabB ls
  · rw [ansLW_no h]; simp
  · rw [ansLW_yes h]; unfold wrdL; rw [mkL_length]; have := (tabB_all h).1.n; omega
theorem ansLT_length (ls : List (List Int)) : (ansLT ls).length ≤ 1048576 := by
  cases h : tabB ls
  · rw [ansLT_no h]; simp
  · rw [ansLT_yes h, linT_length]; have := (tabB_all h).1.n; omega

/-- the numbers from 1 on at which g rises -/
def desN (g : Nat → Nat) : Nat → List Int
  | 0 => []
  | k + 1 => desN g k ++ (if 1 ≤ k ∧ g (k - 1) < g k then [(k : Int)] else [])
theorem desN_length (g : Nat → Nat) (k : Nat) : (desN g k).length ≤ k := by
  induction k with
  | zero => simp [desN]
  | succ k ih => unfold desN; rw [List.length_append]; split <;> simp <;> omega
theorem desN_yes {g : Nat → Nat} {k : Nat} (h1 : 1 ≤ k) (h : g (k - 1) < g k) : desN g (k + 1) = desN g k ++ [(k : Int)] := by rw [desN, if_pos ⟨h1, h⟩]
theorem desN_no {g : Nat → Nat} {k : Nat} (h : ¬ g (k - 1) < g k) : desN g (k + 1) = desN g k := by rw [desN, if_neg (fun hh => h hh.2), List.append_nil]
theorem desN_one (g : Nat → Nat) : desN g 1 = [] := by simp [desN]
theorem desN_mem {g : Nat → Nat} (k : Nat) : ∀ x ∈ desN g k, 0 ≤ x ∧ x < k := by
  induction k with
  | zero => intro x hx; simp [desN] at hx
  | succ k ih =>
    intro x hx
    unfold desN at hx
    rw [List.mem_append] at hx
    rcases hx with hx | hx
    · have := ih x hx; omega
    · split at hx
      · simp at hx; omega
      · simp at hx
def desL (ls : List (List Int)) : List Int := desN (rowK ls) (ls.length * wid ls)
def ansDE (ls : List (List Int)) : List Int := if tabB ls then desL ls else []
theorem ansDE_no {ls : List (List Int)} (h : tabB ls = false) : ansDE ls = [] := by simp [ansDE, h]
theorem ansDE_yes {ls : List (List Int)} (h : tabB ls = true) : ansDE ls = desL ls := by simp [ansDE, h]
theorem ansDE_length (ls : List (List Int)) : (ansDE ls).length ≤ 10 := by
  cases h : tabB ls
  · rw [ansDE_no h]; simp
  · rw [ansDE_yes h]; have := (tabB_all h).1.n; have := desN_length (rowK ls) (ls.length * wid ls); unfold desL; omega
theorem ansDE_at (ls : List (List Int)) {j : Nat} (hj : j < (ansDE ls).length) : 0 ≤ (ansDE ls).getD j 0 ∧ (ansDE ls).getD j 0 ≤ 10 := by
  cases h : tabB ls
  · rw [ansDE_no h] at hj; simp at hj
  · rw [ansDE_yes h] at hj ⊢
    have h1 := desN_mem (g := rowK ls) (ls.length * wid ls) (desL ls)[j] (List.getElem_mem hj)
    have e : (desL ls).getD j 0 = (desL ls)[j] := by simp [List.getD, hj]
    have := (tabB_all h).1.n
    rw [e]; omega
/-- the sum of the first k numbers of a list -/
def sumK (l : List Int) : Nat → Int
  | 0 => 0
  | k + 1 => sumK l k + l.getD k 0
theorem sumK_le {l : List Int} (h : ∀ j, j < l.length → 0 ≤ l.getD j 0 ∧ l.getD j 0 ≤ 10) (k : Nat) (hk : k ≤ l.length) : 0 ≤ sumK l k ∧ sumK l k ≤ 10 * k := by
  induction k with
  | zero => simp [sumK]
  | succ k ih =>
    have h1 := ih (by omega)
    have h2 := h k (by omega)
    unfold sumK
    omega
def ansMA (ls : List (List Int)) : Int := sumK (ansDE ls) (ansDE ls).length
theorem ansMA_le (ls : List (List Int)) : 0 ≤ ansMA ls ∧ ansMA ls ≤ 100 := by
  have h1 := sumK_le (fun j hj => ansDE_at ls hj) _ (Nat.le_refl _)
  have h2 := ansDE_length ls
  unfold ansMA
  omega
theorem ansMA_no {ls : List (List Int)} (h : tabB ls = false) : ansMA ls = 0 := by unfold ansMA; rw [ansDE_no h]; rfl
end Go.Proofs.Ytclhebpkpmholaa
