/- Lattice words: the rows that a word tells. No program is named here. -/
import Derived.Test.YtbbkoagjplapkaaTabG
namespace Go.Proofs.Ytbbkoagjplapkaa
set_option linter.unusedVariables false

/-- the places below k at which j stands -/
def rowW (ws : List Int) : Nat → Nat → List Int
  | 0, _ => []
  | k + 1, j => if ws.getD k 0 = (j : Int) then rowW ws k j ++ [(k : Int)] else rowW ws k j
theorem rowW_yes {ws : List Int} {k j : Nat} (h : ws.getD k 0 = (j : Int)) : rowW ws (k + 1) j = rowW ws k j ++ [(k : Int)] := if_pos h
theorem rowW_no {ws : List Int} {k j : Nat} (h : ws.getD k 0 ≠ (j : Int)) : rowW ws (k + 1) j = rowW ws k j := if_neg h
theorem rowW_length (ws : List Int) (k j : Nat) : (rowW ws k j).length ≤ k := by
  induction k with
  | zero => simp [rowW]
  | succ k ih =>
    unfold rowW
    split
    · rw [List.length_append]; simp; omega
    · omega
theorem rowW_mem {ws : List Int} {k j : Nat} {x : Int} : x ∈ rowW ws k j ↔ ∃ i : Nat, i < k ∧ x = i ∧ ws.getD i 0 = (j : Int) := by
  induction k with
  | zero => simp [rowW]
  | succ k ih =>
    unfold rowW
    split
    · rename_i h
      rw [List.mem_append, ih]
      constructor
      · rintro (⟨i, h1, h2, h3⟩ | h1)
        · exact ⟨i, by omega, h2, h3⟩
        · exact ⟨k, by omega, by simpa using h1, h⟩
      · rintro ⟨i, h1, h2, h3⟩
        by_cases e : i = k
        · subst e; exact .inr (by simpa using h2)
        · exact .inl ⟨i, by omega, h2, h3⟩
    · rename_i h
      rw [ih]
      constructor
      · rintro ⟨i, h1, h2, h3⟩
        exact ⟨i, by omega, h2, h3⟩
      · rintro ⟨i, h1, h2, h3⟩
        by_cases e : i = k
        · subst e; exact absurd h3 h
        · exact ⟨i, by omega, h2, h3⟩
/-- how many rows the program has behind k numbers -/
def lenW (ws : List Int) : Nat → Nat
  | 0 => 0
  | k + 1 => if ws.getD k 0 = (lenW ws k : Int) then lenW ws k + 1 else lenW ws k
theorem lenW_le (ws : List Int) (k : Nat) : lenW ws k ≤ k := by
  induction k with
  | zero => exact Nat.le_refl _
  | succ k ih => unfold lenW; split <;> omega
theorem lenW_mono (ws : List Int) {i k : Nat} (h : i ≤ k) : lenW ws i ≤ lenW ws k := by
  induction k with
  | zero => obtain rfl : i = 0 := by omega
            exact Nat.le_refl _
  | succ k ih =>
    by_cases e : i = k + 1
    · subst e; exact Nat.le_refl _
    · have h1 := ih (by omega)
      have h2 : lenW ws k ≤ lenW ws (k + 1) := by
        show lenW ws k ≤ (if ws.getD k 0 = (lenW ws k : Int) then lenW ws k + 1 else lenW ws k)
        split <;> omega
      omega
/-- the first k numbers tell rows in order -/
def inOrd (ws : List Int) (k : Nat) : Prop := ∀ i, i < k → 0 ≤ ws.getD i 0 ∧ ws.getD i 0 ≤ lenW ws i
theorem inOrd_lt {ws : List Int} {k i : Nat} (h : inOrd ws k) (hi : i < k) : ws.getD i 0 < lenW ws k := by
  have h1 := h i hi
  have h2 := lenW_mono ws (show i + 1 ≤ k by omega)
  have h3 : lenW ws (i + 1) = if ws.getD i 0 = (lenW ws i : Int) then lenW ws i + 1 else lenW ws i := rfl
  by_cases e : ws.getD i 0 = (lenW ws i : Int)
  · rw [if_pos e] at h3; omega
  · rw [if_neg e] at h3; omega
/-- the greatest of the first k numbers, at least 0 -/
def mstW (ws : List Int) : Nat → Int
  | 0 => 0
  | k + 1 => max (mstW ws k) (ws.getD k 0)
theorem mstW_nonneg (ws : List Int) (k : Nat) : 0 ≤ mstW ws k := by
  induction k with
  | zero => exact Int.le_refl _
  | succ k ih => unfold mstW; omega
theorem mstW_ge {ws : List Int} {k i : Nat} (hi : i < k) : ws.getD i 0 ≤ mstW ws k := by
  induction k with
  | zero => omega
  | succ k ih =>
    unfold mstW
    by_cases e : i = k
    · subst e; omega
    · have := ih (by omega); omega
theorem mstW_lt {ws : List Int} {n k : Nat} (hn : 1 ≤ n) (h : ∀ i, i < k → ws.getD i 0 < n) : mstW ws k < n := by
  induction k with
  | zero => show (0 : Int) < n; omega
  | succ k ih =>
    unfold mstW
    have h1 := ih (fun i hi => h i (by omega))
    have h2 := h k (by omega)
    omega
theorem mstW_len {ws : List Int} {k : Nat} (h : inOrd ws (k + 1)) : mstW ws (k + 1) + 1 = (lenW ws (k + 1) : Int) := by
  induction k with
  | zero =>
    have h1 := h 0 (by omega)
    have h2 : lenW ws 0 = 0 := rfl
    rw [h2] at h1
    have h3 : ws.getD 0 0 = 0 := by omega
    show max (mstW ws 0) (ws.getD 0 0) + 1 = ((if ws.getD 0 0 = ((lenW ws 0 : Nat) : Int) then lenW ws 0 + 1 else lenW ws 0 : Nat) : Int)
    rw [h2, if_pos (by omega), h3]
    rfl
  | succ k ih =>
    have h1 := ih (fun i hi => h i (by omega))
    have h2 := h (k + 1) (by omega)
    show max (mstW ws (k + 1)) (ws.getD (k + 1) 0) + 1 = ((if ws.getD (k + 1) 0 = ((lenW ws (k + 1) : Nat) : Int) then lenW ws (k + 1) + 1 else lenW ws (k + 1) : Nat) : Int)
    by_cases e : ws.getD (k + 1) 0 = (lenW ws (k + 1) : Int)
    · rw [if_pos e]; omega
    · rw [if_neg e]; omega
/-- the rows that a whole word tells -/
def latL (ws : List Int) : List (List Int) := (List.range ((mstW ws ws.length).toNat + 1)).map (rowW ws ws.length)
def okFL (ws : List Int) : Bool := (decide (1 ≤ (ws.length : Int)) && decide ((ws.length : Int) ≤ 10)) && (inW ws.length ws && tabB (latL ws))
def ansFL (ws : List Int) : List (List Int) := if okFL ws then latL ws else []
theorem okFL_no1 {ws : List Int} (h : (decide (1 ≤ (ws.length : Int)) && decide ((ws.length : Int) ≤ 10)) = false) : okFL ws = false := by simp only [okFL, h]; rfl
theorem okFL_no2 {ws : List Int} (h : inW ws.length ws = false) : okFL ws = false := by simp [okFL, h]
theorem okFL_no3 {ws : List Int} (h : tabB (latL ws) = false) : okFL ws = false := by simp [okFL, h]
theorem okFL_yes {ws : List Int} (h : (decide (1 ≤ (ws.length : Int)) && decide ((ws.length : Int) ≤ 10)) = true) (k : inW ws.length ws = true) (l : tabB (latL ws) = true) : okFL ws = true := by simp only [okFL, h, k, l]; rfl
theorem ansFL_no {ws : List Int} (h : okFL ws = false) : ansFL ws = [] := by simp [ansFL, h]
theorem ansFL_yes {ws : List Int} (h : okFL ws = true) : ansFL ws = latL ws := by simp [ansFL, h]
theorem latL_length (ws : List Int) : (latL ws).length = (mstW ws ws.length).toNat + 1 := by simp [latL]
theorem latL_getD {ws : List Int} {j : Nat} (h : j < (mstW ws ws.length).toNat + 1) : (latL ws).getD j [] = rowW ws ws.length j := by simp [latL, List.getD, h]
theorem mem_getD {l : List Int} {x : Int} (h : x ∈ l) : ∃ c, c < l.length ∧ l.getD c 0 = x := by
  obtain ⟨c, hc, rfl⟩ := List.mem_iff_getElem.1 h
  exact ⟨c, hc, by simp [List.getD, hc]⟩
theorem getD_mem {l : List Int} {c : Nat} (h : c < l.length) : l.getD c 0 ∈ l := by
  have e : l.getD c 0 = l[c] := by simp [List.getD, h]
  rw [e]; exact List.getElem_mem h
/-- a word that tells a row too early tells no tableau -/
theorem lat_early {ws : List Int} {k : Nat} (hk : k < ws.length) (h : inOrd ws k) (he : (lenW ws k : Int) < ws.getD k 0) : tabB (latL ws) = false := by
  cases ht : tabB (latL ws)
  · rfl
  · exfalso
    obtain ⟨hL, hX⟩ := tabB_all ht
    obtain ⟨r, hr⟩ : ∃ r : Nat, ws.getD k 0 = (r : Int) := ⟨(ws.getD k 0).toNat, by omega⟩
    have hm := mstW_ge (ws := ws) hk
    have hrl : r < (latL ws).length := by rw [latL_length]; omega
    obtain ⟨q, hq⟩ : ∃ q, lenW ws k = q := ⟨_, rfl⟩
    rw [hq, hr] at he
    have hqr : q < r := by omega
    have hql : q < (latL ws).length := by omega
    have b1 := hL.b1
    have hrowr := hL.row r hrl
    have hrowq := hL.row q hql
    rw [latL_getD (by rw [latL_length] at hrl; exact hrl)] at hrowr
    rw [latL_getD (by rw [latL_length] at hql; exact hql)] at hrowq
    have hcr : ∀ c, cel (latL ws) r c = (rowW ws ws.length r).getD c 0 := fun c => by unfold cel; rw [latL_getD (by rw [latL_length] at hrl; exact hrl)]
    have hcq : ∀ c, cel (latL ws) q c = (rowW ws ws.length q).getD c 0 := fun c => by unfold cel; rw [latL_getD (by rw [latL_length] at hql; exact hql)]
    obtain ⟨c, hc, hck⟩ := mem_getD (rowW_mem.2 ⟨k, hk, rfl, hr⟩)
    rw [hrowr] at hc
    obtain ⟨i, hi, hi2, hi3⟩ := rowW_mem.1 (getD_mem (show 0 < (rowW ws ws.length q).length by omega))
    have hik : k < i := by
      rcases Nat.lt_trichotomy i k with h1 | h1 | h1
      · have := inOrd_lt h h1; omega
      · subst h1; omega
      · exact h1
    have hb : 0 < wid (latL ws) := by omega
    have h1 : celF (latL ws) (wid (latL ws)) (wid (latL ws) * r + 0) ≤ celF (latL ws) (wid (latL ws)) (wid (latL ws) * r + c) := by
      by_cases e : c = 0
      · subst e; exact Int.le_refl _
      · refine Int.le_of_lt (hX.mono (cell_lt hrl hc) (by omega) ?_)
        simp only [rectF, Bool.and_eq_true, decide_eq_true_eq]
        rw [Nat.mul_add_div hb, Nat.mul_add_div hb, Nat.mul_add_mod, Nat.mul_add_mod, Nat.div_eq_of_lt hc, Nat.div_eq_of_lt hb, Nat.mod_eq_of_lt hc, Nat.mod_eq_of_lt hb]
        omega
    have h2 : celF (latL ws) (wid (latL ws)) (wid (latL ws) * q + 0) < celF (latL ws) (wid (latL ws)) (wid (latL ws) * r + 0) := by
      have hlt : wid (latL ws) * q < wid (latL ws) * r := Nat.mul_lt_mul_of_pos_left hqr hb
      refine hX.mono (cell_lt hrl hb) (by omega) ?_
      simp only [rectF, Bool.and_eq_true, decide_eq_true_eq]
      rw [Nat.mul_add_div hb, Nat.mul_add_div hb, Nat.mul_add_mod, Nat.mul_add_mod, Nat.div_eq_of_lt hb]
      omega
    rw [celF_at _ hb, celF_at _ hc, hcr, hcr, hck] at h1
    rw [celF_at _ hb, celF_at _ hb, hcr, hcq, hi2] at h2
    omega
theorem lat_full {ws : List Int} (h1 : 1 ≤ ws.length) (h : inOrd ws ws.length) : latL ws = (List.range (lenW ws ws.length)).map (rowW ws ws.length) ∧ inW ws.length ws = true := by
  obtain ⟨k, hk⟩ : ∃ k, ws.length = k + 1 := ⟨ws.length - 1, by omega⟩
  refine ⟨?_, inW_of fun j hj => ?_⟩
  · have h2 := mstW_len (ws := ws) (k := k) (by rw [← hk]; exact h)
    rw [← hk] at h2
    unfold latL
    rw [show (mstW ws ws.length).toNat + 1 = lenW ws ws.length by have := mstW_nonneg ws ws.length; omega]
  · have h2 := h j hj
    have h3 := lenW_le ws j
    omega
end Go.Proofs.Ytbbkoagjplapkaa
