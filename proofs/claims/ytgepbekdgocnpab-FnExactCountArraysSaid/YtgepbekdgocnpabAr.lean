/- Arrays of a poset: ranges, toggles, words of toggles, layers, orbits. No program is named here. -/
import Derived.Test.YtgepbekdgocnpabLab
import Derived.Test.YtgepbekdgocnpabWhere
namespace Go.Proofs.Ytgepbekdgocnpab
set_option linter.unusedVariables false

def hiB (b : Int) : Bool := decide (0 ≤ b) && decide (b ≤ 20)
theorem hiB_all {b : Int} (h : hiB b = true) : 0 ≤ b ∧ b ≤ 20 := by simpa [hiB] using h
/-- may a list be asked whether it is an array? -/
def okIA (xs f : List Int) (b : Int) : Bool := good xs && (hiB b && decide (f.length = xs.length))
/-- is f an array for b? -/
def okAr (xs f : List Int) (b : Int) : Bool := okIA xs f b && labB xs f b 0
theorem okIA_no1 {xs f : List Int} {b : Int} (h : good xs = false) : okIA xs f b = false := by simp [okIA, h]
theorem okIA_no2 {xs f : List Int} {b : Int} (h : hiB b = false) : okIA xs f b = false := by simp [okIA, h]
theorem okIA_no3 {xs f : List Int} {b : Int} (h : f.length ≠ xs.length) : okIA xs f b = false := by simp [okIA, h]
theorem okIA_yes {xs f : List Int} {b : Int} (h : good xs = true) (k : hiB b = true) (l : f.length = xs.length) : okIA xs f b = true := by simp [okIA, h, k, l]
theorem okAr_no {xs f : List Int} {b : Int} (h : okIA xs f b = false) : okAr xs f b = false := by simp [okAr, h]
theorem okAr_lab {xs f : List Int} {b : Int} (h : okIA xs f b = true) : okAr xs f b = labB xs f b 0 := by simp [okAr, h]
theorem good_bit {xs : List Int} (hg : good xs = true) {i j : Nat} (hi : i < xs.length) (h : (xs.getD i 0).toNat.testBit j = true) : j < i := by
  have h1 := okAt_range (good_at hg hi)
  have h2 : (xs.getD i 0).toNat < 2 ^ i := by have := Nat.one_le_two_pow (n := i); omega
  exact testBit_lt h2 h
/-- numbers that rise -/
structure Rise (xs f : List Int) (b : Int) : Prop where
  len : f.length = xs.length
  rng : ∀ j, j < xs.length → 0 ≤ f.getD j 0 ∧ f.getD j 0 ≤ b
  up : ∀ i j, i < xs.length → j < xs.length → (xs.getD i 0).toNat.testBit j = true → f.getD j 0 ≤ f.getD i 0
theorem lab_rise {xs f : List Int} {b : Int} (hg : good xs = true) (h : labB xs f b 0 = true) : Rise xs f b := by
  obtain ⟨hl, ha⟩ := labB_all h
  refine ⟨hl, fun j hj => ?_, fun i j hi hj hb => ?_⟩
  · obtain ⟨h1, h2⟩ := labAt_iff.1 (ha j (by omega))
    have := leN_zero_le xs f j 0 j
    omega
  · obtain ⟨h1, h2⟩ := labAt_iff.1 (ha i (by omega))
    have := (leN_le.1 h2).2 j (good_bit hg hi hb) hb
    omega
theorem rise_lab {xs f : List Int} {b : Int} (hg : good xs = true) (h : Rise xs f b) : labB xs f b 0 = true :=
  labB_yes h.len fun e he => labAt_iff.2 ⟨(h.rng e (by have := h.len; omega)).2, leN_le.2 ⟨(h.rng e (by have := h.len; omega)).1, fun j hj hb => by
    have := h.up e j (by have := h.len; omega) (by have := h.len; omega) hb
    omega⟩⟩
theorem okAr_all {xs f : List Int} {b : Int} (h : okAr xs f b = true) : good xs = true ∧ 0 ≤ b ∧ b ≤ 20 ∧ Rise xs f b := by
  simp only [okAr, okIA, Bool.and_eq_true] at h
  obtain ⟨⟨h1, h2, -⟩, h3⟩ := h
  have := hiB_all h2
  exact ⟨h1, this.1, this.2, lab_rise h1 h3⟩
/-! ### ranges -/
def loN (xs f : List Int) (e : Nat) : Nat → Int
  | 0 => 0
  | k + 1 => if (xs.getD e 0).toNat.testBit k then max (loN xs f e k) (f.getD k 0) else loN xs f e k
def hiN (xs f : List Int) (b : Int) (e : Nat) : Nat → Int
  | 0 => b
  | k + 1 => if (xs.getD k 0).toNat.testBit e then min (hiN xs f b e k) (f.getD k 0) else hiN xs f b e k
theorem loN_le {xs f : List Int} {e k : Nat} {x : Int} : loN xs f e k ≤ x ↔ 0 ≤ x ∧ ∀ j, j < k → (xs.getD e 0).toNat.testBit j = true → f.getD j 0 ≤ x := by
  induction k with
  | zero => simp [loN]
  | succ k ih =>
    rw [loN]
    by_cases hb : (xs.getD e 0).toNat.testBit k = true
    · rw [if_pos hb, Int.max_le, ih]
      constructor
      · rintro ⟨⟨h1, h2⟩, h3⟩
        refine ⟨h1, fun j hj hbj => ?_⟩
        by_cases e : j = k
        · subst e; exact h3
        · exact h2 j (by omega) hbj
      · rintro ⟨h1, h2⟩
        exact ⟨⟨h1, fun j hj => h2 j (by omega)⟩, h2 k (by omega) hb⟩
    · rw [if_neg hb, ih]
      constructor
      · rintro ⟨h1, h2⟩
        refine ⟨h1, fun j hj hbj => ?_⟩
        by_cases e : j = k
        · subst e; exact absurd hbj hb
        · exact h2 j (by omega) hbj
      · rintro ⟨h1, h2⟩
        exact ⟨h1, fun j hj => h2 j (by omega)⟩
theorem le_hiN {xs f : List Int} {b : Int} {e k : Nat} {x : Int} : x ≤ hiN xs f b e k ↔ x ≤ b ∧ ∀ j, j < k → (xs.getD j 0).toNat.testBit e = true → x ≤ f.getD j 0 := by
  induction k with
  | zero => simp [hiN]
  | succ k ih =>
    rw [hiN]
    by_cases hb : (xs.getD k 0).toNat.testBit e = true
    · rw [if_pos hb, Int.le_min, ih]
      constructor
      · rintro ⟨⟨h1, h2⟩, h3⟩
        refine ⟨h1, fun j hj hbj => ?_⟩
        by_cases e : j = k
        · subst e; exact h3
        · exact h2 j (by omega) hbj
      · rintro ⟨h1, h2⟩
        exact ⟨⟨h1, fun j hj => h2 j (by omega)⟩, h2 k (by omega) hb⟩
    · rw [if_neg hb, ih]
      constructor
      · rintro ⟨h1, h2⟩
        refine ⟨h1, fun j hj hbj => ?_⟩
        by_cases e : j = k
        · subst e; exact absurd hbj hb
        · exact h2 j (by omega) hbj
      · rintro ⟨h1, h2⟩
        exact ⟨h1, fun j hj => h2 j (by omega)⟩
theorem loN_zero_le (xs f : List Int) (e k : Nat) : 0 ≤ loN xs f e k := (loN_le.1 (Int.le_refl _)).1
theorem hiN_le (xs f : List Int) (b : Int) (e k : Nat) : hiN xs f b e k ≤ b := (le_hiN.1 (Int.le_refl _)).1
theorem Rise.lo {xs f : List Int} {b : Int} (h : Rise xs f b) {e k : Nat} (he : e < xs.length) (hk : k ≤ xs.length) : 0 ≤ loN xs f e k ∧ loN xs f e k ≤ f.getD e 0 :=
  ⟨loN_zero_le _ _ _ _, loN_le.2 ⟨(h.rng e he).1, fun j hj hb => h.up e j he (by omega) hb⟩⟩
theorem Rise.hi {xs f : List Int} {b : Int} (h : Rise xs f b) {e k : Nat} (he : e < xs.length) (hk : k ≤ xs.length) : f.getD e 0 ≤ hiN xs f b e k ∧ hiN xs f b e k ≤ b :=
  ⟨le_hiN.2 ⟨(h.rng e he).2, fun j hj hb => h.up j e (by omega) he hb⟩, hiN_le _ _ _ _ _⟩
/-- the number at e, toggled -/
def yT (xs : List Int) (b : Int) (f : List Int) (e : Nat) : Int := loN xs f e xs.length + hiN xs f b e xs.length - f.getD e 0
def pT (xs : List Int) (b : Int) (f : List Int) (e : Nat) : List Int := f.set e (yT xs b f e)
theorem pT_len (xs : List Int) (b : Int) (f : List Int) (e : Nat) : (pT xs b f e).length = f.length := List.length_set
theorem getD_setA (f : List Int) {e : Nat} (he : e < f.length) (y : Int) (j : Nat) : (f.set e y).getD j 0 = if j = e then y else f.getD j 0 := by
  simp only [List.getD, List.getElem?_set]
  by_cases h : j = e
  · subst h; simp [he]
  · rw [if_neg h, if_neg (fun k => h k.symm)]
theorem Rise.yr {xs f : List Int} {b : Int} (h : Rise xs f b) {e : Nat} (he : e < xs.length) : 0 ≤ yT xs b f e ∧ yT xs b f e ≤ b ∧ loN xs f e xs.length ≤ yT xs b f e ∧ yT xs b f e ≤ hiN xs f b e xs.length := by
  have h1 := h.lo he (Nat.le_refl _)
  have h2 := h.hi he (Nat.le_refl _)
  unfold yT
  omega
theorem Rise.tog {xs f : List Int} {b : Int} (hg : good xs = true) (h : Rise xs f b) {e : Nat} (he : e < xs.length) : Rise xs (pT xs b f e) b := by
  have hl := h.len
  have hy := h.yr he
  refine ⟨by rw [pT_len, hl], fun j hj => ?_, fun i j hi hj hb => ?_⟩
  · unfold pT; rw [getD_setA f (by omega)]
    by_cases e1 : j = e
    · rw [if_pos e1]; omega
    · rw [if_neg e1]; exact h.rng j hj
  · have hji := good_bit hg hi hb
    unfold pT; rw [getD_setA f (by omega), getD_setA f (by omega)]
    by_cases e1 : i = e
    · subst e1
      rw [if_pos rfl, if_neg (by omega)]
      have := (loN_le.1 hy.2.2.1).2 j hj hb
      omega
    · rw [if_neg e1]
      by_cases e2 : j = e
      · subst e2
        rw [if_pos rfl]
        have := (le_hiN.1 hy.2.2.2).2 i hi hb
        omega
      · rw [if_neg e2]; exact h.up i j hi hj hb
/-! ### words -/
def wdK (xs : List Int) (b : Int) (f wd : List Int) : Nat → List Int
  | 0 => f
  | t + 1 => pT xs b (wdK xs b f wd t) (wd.getD t 0).toNat
theorem wdK_rise {xs f wd : List Int} {b : Int} (hg : good xs = true) (h : Rise xs f b) {t : Nat} (hw : ∀ j, j < t → 0 ≤ wd.getD j 0 ∧ wd.getD j 0 < xs.length) : Rise xs (wdK xs b f wd t) b := by
  induction t with
  | zero => exact h
  | succ t ih => exact (ih fun j hj => hw j (by omega)).tog hg (by have := hw t (by omega); omega)
def dnW (n : Nat) : List Int := mkL n fun i => n - 1 - i
def upW (n : Nat) : List Int := mkL n fun i => i
theorem dnW_len (n : Nat) : (dnW n).length = n := mkL_length _ _
theorem upW_len (n : Nat) : (upW n).length = n := mkL_length _ _
theorem dnW_at {n i : Nat} (h : i < n) : (dnW n).getD i 0 = ((n - 1 - i : Nat) : Int) := mkL_getD h
theorem upW_at {n i : Nat} (h : i < n) : (upW n).getD i 0 = (i : Int) := mkL_getD h
theorem dnW_rng {n i : Nat} (h : i < n) : 0 ≤ (dnW n).getD i 0 ∧ (dnW n).getD i 0 < n := by rw [dnW_at h]; omega
theorem upW_rng {n i : Nat} (h : i < n) : 0 ≤ (upW n).getD i 0 ∧ (upW n).getD i 0 < n := by rw [upW_at h]; omega
theorem dnW_rev (n : Nat) : (dnW n).reverse = upW n := by
  apply List.ext_getElem
  · rw [List.length_reverse, dnW_len, upW_len]
  · intro i h1 h2
    rw [upW_len] at h2
    simp [dnW, upW, mkL]
    omega
/-- k times the whole word -/
def tmK (xs : List Int) (b : Int) (wd f : List Int) : Nat → List Int
  | 0 => f
  | k + 1 => wdK xs b (tmK xs b wd f k) wd wd.length
theorem tmK_rise {xs f wd : List Int} {b : Int} (hg : good xs = true) (h : Rise xs f b) (hw : ∀ j, j < wd.length → 0 ≤ wd.getD j 0 ∧ wd.getD j 0 < xs.length) (k : Nat) : Rise xs (tmK xs b wd f k) b := by
  induction k with
  | zero => exact h
  | succ k ih => exact wdK_rise hg ih hw
/-- the word that k stands for: that of rowmotion, or its reverse -/
def wdOf (n : Nat) (k : Int) : List Int := if k < 0 then upW n else dnW n
theorem wdOf_len (n : Nat) (k : Int) : (wdOf n k).length = n := by unfold wdOf; split <;> simp [dnW_len, upW_len]
theorem wdOf_rng {n i : Nat} {k : Int} (h : i < n) : 0 ≤ (wdOf n k).getD i 0 ∧ (wdOf n k).getD i 0 < n := by
  unfold wdOf; split
  · exact upW_rng h
  · exact dnW_rng h
/-! ### answers -/
def ansTN (xs f : List Int) (b : Int) (wd : List Int) : List Int := if okAr xs f b && okWord xs wd then wdK xs b f wd wd.length else []
def okTN (xs f : List Int) (b : Int) (wd : List Int) : Bool := okAr xs f b && okWord xs wd
theorem okTN_no1 {xs f wd : List Int} {b : Int} (h : okAr xs f b = false) : okTN xs f b wd = false := by simp [okTN, h]
theorem okTN_no2 {xs f wd : List Int} {b : Int} (h : okWord xs wd = false) : okTN xs f b wd = false := by simp [okTN, h]
theorem okTN_yes {xs f wd : List Int} {b : Int} (h : okAr xs f b = true) (k : okWord xs wd = true) : okTN xs f b wd = true := by simp [okTN, h, k]
theorem ansTN_no {xs f wd : List Int} {b : Int} (h : okTN xs f b wd = false) : ansTN xs f b wd = [] := by unfold okTN at h; simp [ansTN, h]
theorem ansTN_yes {xs f wd : List Int} {b : Int} (h : okTN xs f b wd = true) : ansTN xs f b wd = wdK xs b f wd wd.length := by unfold okTN at h; simp [ansTN, h]
def okKR (k : Int) : Bool := decide (-1000 ≤ k) && decide (k ≤ 1000)
theorem okKR_all {k : Int} (h : okKR k = true) : -1000 ≤ k ∧ k ≤ 1000 := by simpa [okKR] using h
def okRA (xs f : List Int) (b k : Int) : Bool := okAr xs f b && okKR k
def ansRA (xs f : List Int) (b k : Int) : List Int := if okRA xs f b k then tmK xs b (wdOf xs.length k) f k.natAbs else []
theorem okRA_no1 {xs f : List Int} {b k : Int} (h : okAr xs f b = false) : okRA xs f b k = false := by simp [okRA, h]
theorem okRA_no2 {xs f : List Int} {b k : Int} (h : okKR k = false) : okRA xs f b k = false := by simp [okRA, h]
theorem okRA_yes {xs f : List Int} {b k : Int} (h : okAr xs f b = true) (l : okKR k = true) : okRA xs f b k = true := by simp [okRA, h, l]
theorem ansRA_no {xs f : List Int} {b k : Int} (h : okRA xs f b k = false) : ansRA xs f b k = [] := by simp [ansRA, h]
theorem ansRA_yes {xs f : List Int} {b k : Int} (h : okRA xs f b k = true) : ansRA xs f b k = tmK xs b (wdOf xs.length k) f k.natAbs := by simp [ansRA, h]
/-- the elements with numbers up to j -/
def layN (f : List Int) (j : Int) (n : Nat) : Nat := rowN (fun e => decide (f.getD e 0 ≤ j)) n
def layL (f : List Int) (n b : Nat) : List Int := mkL b fun j => layN f (j : Int) n
/-- an orbit, by its next array -/
def obG (nx : List Int → List Int) (f y : List Int) (acc : List (List Int)) : Nat → Option (List (List Int))
  | 0 => if y = f then some acc else none
  | k + 1 => if y = f then some acc else obG nx f (nx y) (acc ++ [y]) k
end Go.Proofs.Ytgepbekdgocnpab
