/- Tableaux: numbers in the cells of a rectangle, told by a function of the cell's number, and the list of their places. No program is named here. -/
import Derived.Test.YtclhebpkpmholaaLinX
import Derived.Test.YtclhebpkpmholaaRect
namespace Go.Proofs.Ytclhebpkpmholaa
set_option linter.unusedVariables false

theorem getD_setZ (ws : List Int) (i j : Nat) (x : Int) : (ws.set i x).getD j 0 = if i = j ∧ i < ws.length then x else ws.getD j 0 := getD_set_ ws i j x
theorem rectRow {a b e : Nat} (he : e < a * b) : row (whereL (rectF b) (a * b)) e = rowN (fun j => rectF b j e) e := by
  unfold row whereL; rw [mkL_getD he, Int.toNat_natCast]
theorem rect_len (a b : Nat) : (whereL (rectF b) (a * b)).length = a * b := mkL_length _ _
theorem rect_bit {a b e j : Nat} (he : e < a * b) : (row (whereL (rectF b) (a * b)) e).testBit j = (decide (j < e) && rectF b j e) := by
  rw [rectRow he, rowN_testBit]

/-- the list of places: at y the last e below k with f e = y, -1 if there is none -/
def plc (f : Nat → Int) (n : Nat) : Nat → List Int
  | 0 => List.replicate n (-1)
  | e + 1 => (plc f n e).set (f e).toNat (e : Int)
theorem plc_length (f : Nat → Int) (n k : Nat) : (plc f n k).length = n := by
  induction k with
  | zero => simp [plc]
  | succ k ih => simp [plc, ih]
theorem plc_get {f : Nat → Int} {n : Nat} (k : Nat) (hf : ∀ e, e < k → 0 ≤ f e ∧ f e < n) {y : Nat} (hy : y < n) :
    ((plc f n k).getD y 0 = -1 ∧ ∀ e, e < k → f e ≠ y) ∨ ∃ e, e < k ∧ f e = y ∧ (plc f n k).getD y 0 = e := by
  induction k with
  | zero => left; refine ⟨?_, fun e he => by omega⟩; simp [plc, List.getD, hy]
  | succ k ih =>
    have h1 := hf k (by omega)
    rw [plc, getD_set_, plc_length]
    by_cases e1 : (f k).toNat = y
    · right
      exact ⟨k, by omega, by omega, by rw [if_pos ⟨e1, by omega⟩]⟩
    · rw [if_neg (fun h => e1 h.1)]
      rcases ih (fun e he => hf e (by omega)) with ⟨h2, h3⟩ | ⟨e, h2, h3, h4⟩
      · left
        refine ⟨h2, fun e he h => ?_⟩
        by_cases e2 : e = k
        · subst e2; omega
        · exact h3 e (by omega) h
      · exact .inr ⟨e, by omega, h3, h4⟩
def okF (f : Nat → Int) (n : Nat) : Bool := (List.range n).all fun e => decide (0 ≤ f e) && decide (f e < n)
theorem okF_at {f : Nat → Int} {n : Nat} (h : okF f n = true) {e : Nat} (he : e < n) : 0 ≤ f e ∧ f e < n := by
  have := List.all_eq_true.1 h e (List.mem_range.2 he)
  simpa using this
theorem okF_of {f : Nat → Int} {n : Nat} (h : ∀ e, e < n → 0 ≤ f e ∧ f e < n) : okF f n = true :=
  List.all_eq_true.2 fun e he => by simpa using h e (List.mem_range.1 he)
/-- do the numbers f make a tableau of a rows and b columns? -/
def tabF (a b : Nat) (f : Nat → Int) : Bool := okF f (a * b) && orderB (whereL (rectF b) (a * b)) (plc f (a * b) (a * b))
theorem tabF_no1 {a b : Nat} {f : Nat → Int} {e : Nat} (he : e < a * b) (h : ¬ (0 ≤ f e ∧ f e < (a * b : Nat))) : tabF a b f = false := by
  cases hc : tabF a b f
  · rfl
  · simp only [tabF, Bool.and_eq_true] at hc
    exact absurd (okF_at hc.1 he) h
structure TabX (a b : Nat) (f : Nat → Int) : Prop where
  rng : ∀ e, e < a * b → 0 ≤ f e ∧ f e < (a * b : Nat)
  lin : LinX (whereL (rectF b) (a * b)) (plc f (a * b) (a * b))
theorem tabF_X {a b : Nat} {f : Nat → Int} (h : tabF a b f = true) : TabX a b f := by
  simp only [tabF, Bool.and_eq_true] at h
  exact ⟨fun e he => okF_at h.1 he, orderB_LinX h.2⟩
theorem TabX.back {a b : Nat} {f : Nat → Int} (h : TabX a b f) {y : Nat} (hy : y < a * b) : wN (plc f (a * b) (a * b)) y < a * b ∧ f (wN (plc f (a * b) (a * b)) y) = y := by
  have h1 := h.lin.rng y (by rw [rect_len]; exact hy)
  rw [rect_len] at h1
  refine ⟨h1.2, ?_⟩
  rcases plc_get (a * b) h.rng hy with ⟨h2, -⟩ | ⟨e, h2, h3, h4⟩
  · omega
  · have : wN (plc f (a * b) (a * b)) y = e := by unfold wN; rw [h4, Int.toNat_natCast]
    rw [this]; exact h3
theorem TabX.inj {a b : Nat} {f : Nat → Int} (h : TabX a b f) {e e' : Nat} (he : e < a * b) (he' : e' < a * b) (hf : f e = f e') : e = e' := by
  obtain ⟨y, hy, hy2⟩ := h.lin.surj (e := e) (by rw [rect_len]; exact he)
  obtain ⟨y', hy', hy2'⟩ := h.lin.surj (e := e') (by rw [rect_len]; exact he')
  rw [rect_len] at hy hy'
  have h1 := (h.back hy).2
  have h2 := (h.back hy').2
  rw [hy2] at h1
  rw [hy2'] at h2
  have : y = y' := by omega
  subst this
  rw [← hy2, hy2']
theorem TabX.at {a b : Nat} {f : Nat → Int} (h : TabX a b f) {e : Nat} (he : e < a * b) : wN (plc f (a * b) (a * b)) (f e).toNat = e := by
  have h1 := h.rng e he
  have h2 := h.back (y := (f e).toNat) (by omega)
  exact h.inj h2.1 he (by rw [h2.2]; omega)
theorem TabX.mono {a b : Nat} {f : Nat → Int} (h : TabX a b f) {j e : Nat} (he : e < a * b) (hj : j < e) (hr : rectF b j e = true) : f j < f e := by
  have h1 := h.rng e he
  have h3 := h.at he
  obtain ⟨i, hi, hi2⟩ := h.lin.before (k := (f e).toNat) (j := j) (by rw [rect_len]; omega) (by rw [h3, rect_bit he, hr]; simp [hj])
  have h4 := (h.back (y := i) (by omega)).2
  rw [hi2] at h4
  omega
theorem rectF_left {b e : Nat} (hb : 0 < b) (h : e % b ≠ 0) : rectF b (e - 1) e = true := by
  have h1 := Nat.div_add_mod e b
  have h2 := Nat.mod_lt e hb
  obtain ⟨q, hq⟩ : ∃ q, e / b = q := ⟨_, rfl⟩
  obtain ⟨m, hm⟩ : ∃ m, e % b = m := ⟨_, rfl⟩
  rw [hq, hm] at h1
  rw [hm] at h h2
  have e1 : e - 1 = b * q + (m - 1) := by omega
  unfold rectF
  rw [e1, Nat.mul_add_div hb, Nat.mul_add_mod, hq, hm, Nat.div_eq_of_lt (by omega), Nat.mod_eq_of_lt (by omega)]
  simp
theorem rectF_up {b e : Nat} (hb : 0 < b) (h : b ≤ e) : rectF b (e - b) e = true := by
  have h1 : e = (e - b) + b := by omega
  have e1 : e / b = (e - b) / b + 1 := by conv => lhs; rw [h1, Nat.add_div_right _ hb]
  have e2 : e % b = (e - b) % b := by conv => lhs; rw [h1, Nat.add_mod_right]
  unfold rectF
  rw [e1, e2]
  simp

/-- the set of the first k numbers -/
def seeN (f : Nat → Int) : Nat → Nat
  | 0 => 0
  | k + 1 => seeN f k ||| 2 ^ (f k).toNat
theorem seeN_bit (f : Nat → Int) (k y : Nat) : (seeN f k).testBit y = true ↔ ∃ j, j < k ∧ (f j).toNat = y := by
  induction k with
  | zero => simp [seeN]
  | succ k ih =>
    rw [seeN, Nat.testBit_or, Bool.or_eq_true, ih, Nat.testBit_two_pow]
    constructor
    · rintro (⟨j, h1, h2⟩ | h)
      · exact ⟨j, by omega, h2⟩
      · exact ⟨k, by omega, by simpa using h⟩
    · rintro ⟨j, h1, h2⟩
      by_cases e : j = k
      · subst e; exact .inr (by simpa using h2)
      · exact .inl ⟨j, by omega, h2⟩
theorem seeN_lt {f : Nat → Int} {n : Nat} (k : Nat) (hf : ∀ e, e < k → 0 ≤ f e ∧ f e < n) : seeN f k < 2 ^ n := by
  induction k with
  | zero => exact Nat.two_pow_pos _
  | succ k ih =>
    have h1 := hf k (by omega)
    exact Nat.or_lt_two_pow (ih fun e he => hf e (by omega)) (Nat.pow_lt_pow_right (by decide) (by omega))
/-- is the number at e new, and not less than those left of it and above? -/
def chkF (b : Nat) (f : Nat → Int) (e : Nat) : Bool := !(seeN f e).testBit (f e).toNat && ((decide (e % b = 0) || decide (f (e - 1) ≤ f e)) && (decide (e < b) || decide (f (e - b) ≤ f e)))
theorem tabF_no2 {a b : Nat} {f : Nat → Int} {e : Nat} (hb : 0 < b) (he : e < a * b) (h : chkF b f e = false) : tabF a b f = false := by
  cases hc : tabF a b f
  · rfl
  · exfalso
    have hX := tabF_X hc
    have h1 : (seeN f e).testBit (f e).toNat = false := by
      cases hs : (seeN f e).testBit (f e).toNat
      · rfl
      · obtain ⟨j, hj, hj2⟩ := (seeN_bit f e _).1 hs
        have h2 := hX.rng e he
        have h3 := hX.rng j (by omega)
        have := hX.inj (e := j) (e' := e) (by omega) he (by omega)
        omega
    have h2 : e % b = 0 ∨ f (e - 1) ≤ f e := by
      by_cases h0 : e % b = 0
      · exact .inl h0
      · right
        have hp : 0 < e := by
          rcases Nat.eq_zero_or_pos e with h00 | h00
          · subst h00; simp at h0
          · exact h00
        have := hX.mono (j := e - 1) (e := e) he (by omega) (rectF_left hb h0)
        omega
    have h3 : e < b ∨ f (e - b) ≤ f e := by
      by_cases h0 : e < b
      · exact .inl h0
      · right
        have := hX.mono (j := e - b) (e := e) he (by omega) (rectF_up hb (by omega))
        omega
    unfold chkF at h
    rw [h1] at h
    simp only [Bool.not_false, Bool.true_and, Bool.and_eq_false_iff, Bool.or_eq_false_iff, decide_eq_false_iff_not] at h
    rcases h with h | h
    · rcases h2 with h2 | h2
      · exact h.1 h2
      · exact h.2 h2
    · rcases h3 with h3 | h3
      · exact h.1 h3
      · exact h.2 h3
theorem seeN_cnt {f : Nat → Int} {n : Nat} (k : Nat) (hf : ∀ e, e < k → 0 ≤ f e ∧ f e < n) (h : ∀ e, e < k → (seeN f e).testBit (f e).toNat = false) : cntB (seeN f k) n = k := by
  induction k with
  | zero => exact cntB_zero _
  | succ k ih =>
    have h1 := hf k (by omega)
    rw [seeN, cntB_or (by omega) (h k (by omega)), ih (fun e he => hf e (by omega)) (fun e he => h e (by omega))]
/-- numbers that are all there once and rise along rows and columns make a tableau -/
theorem tabX_of {a b : Nat} {f : Nat → Int} (hb : 0 < b) (hf : ∀ e, e < a * b → 0 ≤ f e ∧ f e < (a * b : Nat)) (hn : ∀ e, e < a * b → (seeN f e).testBit (f e).toNat = false)
    (hl : ∀ e, e < a * b → e % b ≠ 0 → f (e - 1) < f e) (hu : ∀ e, e < a * b → b ≤ e → f (e - b) < f e) : TabX a b f := by
  have hfull := cntB_all (seeN_lt (a * b) hf) (seeN_cnt (a * b) hf hn)
  have hsur : ∀ y, y < a * b → ∃ j, j < a * b ∧ (f j).toNat = y := fun y hy => by
    rw [← seeN_bit, hfull, Nat.testBit_two_pow_sub_one]; simpa using hy
  have hinj : ∀ e e', e < e' → e' < a * b → f e ≠ f e' := fun e e' h1 h2 h3 => by
    have h4 := hn e' h2
    have h5 := (seeN_bit f e' (f e').toNat).2 ⟨e, h1, by rw [h3]⟩
    rw [h4] at h5; cases h5
  have hat : ∀ y, y < a * b → ∃ e, e < a * b ∧ f e = y ∧ (plc f (a * b) (a * b)).getD y 0 = e := fun y hy => by
    rcases plc_get (a * b) hf hy with ⟨h1, h2⟩ | h
    · obtain ⟨j, hj, hj2⟩ := hsur y hy
      have := hf j hj
      exact absurd (by omega) (h2 j hj)
    · exact h
  have hw : ∀ y, y < a * b → wN (plc f (a * b) (a * b)) y < a * b ∧ f (wN (plc f (a * b) (a * b)) y) = y := fun y hy => by
    obtain ⟨e, h1, h2, h3⟩ := hat y hy
    have : wN (plc f (a * b) (a * b)) y = e := by unfold wN; rw [h3, Int.toNat_natCast]
    rw [this]; exact ⟨h1, h2⟩
  have hrow : ∀ (d r c : Nat), b * r + c + d < a * b → c + d < b → f (b * r + c) ≤ f (b * r + c + d) := by
    intro d
    induction d with
    | zero => intro r c _ _; exact Int.le_refl _
    | succ d ih =>
      intro r c h1 h2
      have h3 := ih r c (by omega) (by omega)
      have h4 := hl (b * r + c + (d + 1)) h1 (by rw [Nat.add_assoc, Nat.mul_add_mod, Nat.mod_eq_of_lt h2]; omega)
      have e : b * r + c + (d + 1) - 1 = b * r + c + d := by omega
      rw [e] at h4; omega
  have hcol : ∀ (d e : Nat), e + b * d < a * b → f e ≤ f (e + b * d) := by
    intro d
    induction d with
    | zero => intro e _; simp
    | succ d ih =>
      intro e h1
      rw [Nat.mul_succ] at h1
      have h3 := ih e (by omega)
      have h4 := hu (e + b * (d + 1)) (by rw [Nat.mul_succ]; omega) (by rw [Nat.mul_succ]; omega)
      have e' : e + b * (d + 1) - b = e + b * d := by rw [Nat.mul_succ]; omega
      rw [e'] at h4; omega
  have hmono : ∀ j e, e < a * b → j < e → rectF b j e = true → f j < f e := by
    intro j e he hj hr
    simp only [rectF, Bool.and_eq_true, decide_eq_true_eq] at hr
    have hj1 := Nat.div_add_mod j b
    have he1 := Nat.div_add_mod e b
    have hm := Nat.mod_lt e hb
    obtain ⟨q, hq⟩ : ∃ q, j / b = q := ⟨_, rfl⟩
    obtain ⟨m, hm1⟩ : ∃ m, j % b = m := ⟨_, rfl⟩
    obtain ⟨q', hq'⟩ : ∃ q, e / b = q := ⟨_, rfl⟩
    obtain ⟨m', hm1'⟩ : ∃ m, e % b = m := ⟨_, rfl⟩
    rw [hq, hm1] at hj1
    rw [hq', hm1'] at he1
    rw [hq, hq', hm1, hm1'] at hr
    rw [hm1'] at hm
    obtain ⟨d, rfl⟩ : ∃ d, q' = q + d := ⟨q' - q, by omega⟩
    obtain ⟨t, rfl⟩ : ∃ t, m' = m + t := ⟨m' - m, by omega⟩
    have h6 : b * (q + d) = b * q + b * d := Nat.mul_add b q d
    have h1 := hrow t q m (by omega) (by omega)
    have h2 := hcol d (b * q + m + t) (by omega)
    have e2 : j + t + b * d = e := by omega
    rw [hj1, e2] at h2
    rw [hj1] at h1
    have h3 := hinj j e hj he
    omega
  refine ⟨hf, ⟨by rw [plc_length, rect_len], fun k hk => ?_, fun k hk => ?_⟩⟩
  · rw [rect_len] at hk ⊢
    obtain ⟨e, h1, h2, h3⟩ := hat k hk
    refine ⟨?_, (hw k hk).1⟩
    unfold wN; rw [h3, Int.toNat_natCast]
  · rw [rect_len] at hk
    obtain ⟨h1, h2⟩ := hw k hk
    simp only [stepP, Bool.and_eq_true, Bool.not_eq_true', beq_iff_eq]
    refine ⟨?_, ?_⟩
    · cases hs : (stL (plc f (a * b) (a * b)) k).testBit (wN (plc f (a * b) (a * b)) k)
      · rfl
      · obtain ⟨j, hj, hj2⟩ := (stL_bit _ _ _).1 hs
        have h3 := (hw j (by omega)).2
        rw [hj2, h2] at h3
        omega
    · rw [sub_eq_zero]
      intro j hj
      rw [rect_bit h1] at hj
      simp only [Bool.and_eq_true, decide_eq_true_eq] at hj
      have h3 := hmono j _ h1 hj.1 hj.2
      rw [h2] at h3
      have h4 := hf j (by omega)
      refine (stL_bit _ _ _).2 ⟨(f j).toNat, by omega, ?_⟩
      obtain ⟨h5, h6⟩ := hw (f j).toNat (by omega)
      rcases Nat.lt_trichotomy (wN (plc f (a * b) (a * b)) (f j).toNat) j with h7 | h7 | h7
      · exact absurd (by rw [h6]; omega) (hinj _ _ h7 (by omega))
      · exact h7
      · exact absurd (by rw [h6]; omega) (hinj _ _ h7 h5)
theorem TabX.yes {a b : Nat} {f : Nat → Int} (h : TabX a b f) : tabF a b f = true := by
  simp only [tabF, Bool.and_eq_true]
  exact ⟨okF_of h.rng, h.lin.order⟩
theorem tabF_yes {a b : Nat} {f : Nat → Int} (hb : 0 < b) (hf : ∀ e, e < a * b → 0 ≤ f e ∧ f e < (a * b : Nat)) (h : ∀ e, e < a * b → chkF b f e = true) : tabF a b f = true := by
  have h0 : ∀ e, e < a * b → (seeN f e).testBit (f e).toNat = false ∧ (e % b = 0 ∨ f (e - 1) ≤ f e) ∧ (e < b ∨ f (e - b) ≤ f e) := fun e he => by
    have := h e he
    simpa [chkF] using this
  have hinj : ∀ e e', e < e' → e' < a * b → f e ≠ f e' := fun e e' h1 h2 h3 => by
    have h4 := (h0 e' h2).1
    have h5 := (seeN_bit f e' (f e').toNat).2 ⟨e, h1, by rw [h3]⟩
    rw [h4] at h5; cases h5
  refine (tabX_of hb hf (fun e he => (h0 e he).1) (fun e he h1 => ?_) (fun e he h1 => ?_)).yes
  · have hp : 0 < e := by
      rcases Nat.eq_zero_or_pos e with h00 | h00
      · subst h00; simp at h1
      · exact h00
    have h2 := hinj (e - 1) e (by omega) he
    rcases (h0 e he).2.1 with h3 | h3
    · exact absurd h3 h1
    · omega
  · have h2 := hinj (e - b) e (by omega) he
    rcases (h0 e he).2.2 with h3 | h3
    · omega
    · omega

/-! ### rows -/
def cel (ls : List (List Int)) (r c : Nat) : Int := (ls.getD r []).getD c 0
def wid (ls : List (List Int)) : Nat := (ls.getD 0 []).length
def celF (ls : List (List Int)) (b e : Nat) : Int := cel ls (e / b) (e % b)
theorem celF_at (ls : List (List Int)) {b r c : Nat} (hc : c < b) : celF ls b (b * r + c) = cel ls r c := by
  unfold celF
  rw [Nat.mul_add_div (by omega), Nat.mul_add_mod, Nat.div_eq_of_lt hc, Nat.mod_eq_of_lt hc, Nat.add_zero]
def shapeB (ls : List (List Int)) : Bool := sides ls.length (wid ls) && (List.range ls.length).all fun r => decide ((ls.getD r []).length = wid ls)
/-- are the rows a tableau? -/
def tabB (ls : List (List Int)) : Bool := shapeB ls && tabF ls.length (wid ls) (celF ls (wid ls))
/-- the linear extension for which rows stand -/
def linT (ls : List (List Int)) : List Int := plc (celF ls (wid ls)) (ls.length * wid ls) (ls.length * wid ls)
def ansLT (ls : List (List Int)) : List Int := if tabB ls then linT ls else []
theorem ansLT_no {ls : List (List Int)} (h : tabB ls = false) : ansLT ls = [] := by simp [ansLT, h]
theorem ansLT_yes {ls : List (List Int)} (h : tabB ls = true) : ansLT ls = linT ls := by simp [ansLT, h]
theorem shapeB_no1 {ls : List (List Int)} (h : sides ls.length (wid ls) = false) : shapeB ls = false := by simp [shapeB, h]
theorem shapeB_no2 {ls : List (List Int)} {r : Nat} (hr : r < ls.length) (h : (ls.getD r []).length ≠ wid ls) : shapeB ls = false := by
  cases hc : shapeB ls
  · rfl
  · simp only [shapeB, Bool.and_eq_true] at hc
    have := List.all_eq_true.1 hc.2 r (List.mem_range.2 hr)
    simp only [decide_eq_true_eq] at this
    exact absurd this h
theorem shapeB_yes {ls : List (List Int)} (h : sides ls.length (wid ls) = true) (k : ∀ r, r < ls.length → (ls.getD r []).length = wid ls) : shapeB ls = true := by
  simp only [shapeB, Bool.and_eq_true]
  exact ⟨h, List.all_eq_true.2 fun r hr => by simpa using k r (List.mem_range.1 hr)⟩
theorem tabB_no1 {ls : List (List Int)} (h : shapeB ls = false) : tabB ls = false := by simp [tabB, h]
theorem tabB_yes {ls : List (List Int)} (h : shapeB ls = true) : tabB ls = tabF ls.length (wid ls) (celF ls (wid ls)) := by simp [tabB, h]
structure TabL (ls : List (List Int)) : Prop where
  sid : sides ls.length (wid ls) = true
  a1 : 1 ≤ ls.length
  a2 : ls.length ≤ 10
  b1 : 1 ≤ wid ls
  b2 : wid ls ≤ 10
  n : ls.length * wid ls ≤ 10
  row : ∀ r, r < ls.length → (ls.getD r []).length = wid ls
theorem shapeB_L {ls : List (List Int)} (h : shapeB ls = true) : TabL ls := by
  simp only [shapeB, Bool.and_eq_true] at h
  obtain ⟨x, y, hx, hy, h1, h2, h3, h4, h5⟩ := sides_nat h.1
  have ex : x = ls.length := by omega
  have ey : y = wid ls := by omega
  subst ex; subst ey
  exact ⟨h.1, h1, h2, h3, h4, h5, fun r hr => by simpa using List.all_eq_true.1 h.2 r (List.mem_range.2 hr)⟩
theorem tabB_all {ls : List (List Int)} (h : tabB ls = true) : TabL ls ∧ TabX ls.length (wid ls) (celF ls (wid ls)) := by
  simp only [tabB, Bool.and_eq_true] at h
  exact ⟨shapeB_L h.1, tabF_X h.2⟩
theorem linT_length (ls : List (List Int)) : (linT ls).length = ls.length * wid ls := plc_length _ _ _
end Go.Proofs.Ytclhebpkpmholaa
