/- Texts Lin, End, LinX, Tr, one behind the other. -/
import Derived.Test.YtdemikjaghegnaaPkRowmotionByTogglesProof02
import Derived.Test.YtdemikjaghegnaaPkRowmotionByTogglesProof07
import Derived.Test.YtdemikjaghegnaaPkRowmotionByTogglesProof09
import Derived.Test.YtdemikjaghegnaaPkRowmotionByTogglesProof11
/- Lists with one toggle after the other: toggles at places, promotion, evacuation, as maps of lists. No program is named here. -/
namespace Go.Proofs.Ytdemikjaghegnaa
set_option linter.unusedVariables false

def swapL (ws : List Int) (i : Nat) : List Int := (ws.set i (ws.getD (i + 1) 0)).set (i + 1) (ws.getD i 0)
def togL (xs ws : List Int) (i : Nat) : List Int := if (row xs (ws.getD (i + 1) 0).toNat).testBit (ws.getD i 0).toNat = true then ws else swapL ws i
theorem getD_set_ (ws : List Int) (i j : Nat) (x : Int) : (ws.set i x).getD j 0 = if i = j ∧ i < ws.length then x else ws.getD j 0 := by
  rw [List.getD_eq_getElem?_getD, List.getElem?_set, List.getD_eq_getElem?_getD]
  by_cases h : i = j
  · subst h
    by_cases h2 : i < ws.length
    · simp [h2]
    · simp [h2]
  · simp [h]
/-- a list of n numbers from 0 to n - 1 -/
structure Lw (n : Nat) (ws : List Int) : Prop where
  len : ws.length = n
  ins : inW n ws = true
theorem Lw.at {n : Nat} {ws : List Int} (h : Lw n ws) {j : Nat} (hj : j < n) : 0 ≤ ws.getD j 0 ∧ ws.getD j 0 < n := inW_at h.ins (by rw [h.len]; exact hj)
theorem swapL_length (ws : List Int) (i : Nat) : (swapL ws i).length = ws.length := by simp [swapL]
theorem swapL_getD (ws : List Int) (i j : Nat) (hi : i + 1 < ws.length) : (swapL ws i).getD j 0 = if j = i then ws.getD (i + 1) 0 else if j = i + 1 then ws.getD i 0 else ws.getD j 0 := by
  unfold swapL
  rw [getD_set_, getD_set_, List.length_set]
  by_cases h1 : j = i
  · subst h1
    rw [if_neg (by omega), if_pos ⟨rfl, by omega⟩, if_pos rfl]
  · rw [if_neg h1]
    by_cases h2 : j = i + 1
    · subst h2; rw [if_pos ⟨rfl, by omega⟩, if_pos rfl]
    · rw [if_neg (by omega), if_neg (by omega), if_neg h2]
theorem Lw.swap {n : Nat} {ws : List Int} (h : Lw n ws) {i : Nat} (hi : i + 1 < n) : Lw n (swapL ws i) := by
  refine ⟨by rw [swapL_length]; exact h.len, inW_of fun j hj => ?_⟩
  rw [swapL_length, h.len] at hj
  rw [swapL_getD ws i j (by rw [h.len]; exact hi)]
  split
  · exact h.at hi
  · split
    · exact h.at (by omega)
    · exact h.at hj
theorem Lw.tog {n : Nat} {xs ws : List Int} (h : Lw n ws) {i : Nat} (hi : i + 1 < n) : Lw n (togL xs ws i) := by
  unfold togL
  split
  · exact h
  · exact h.swap hi
theorem togL_yes {xs ws : List Int} {i : Nat} (h : (row xs (ws.getD (i + 1) 0).toNat).testBit (ws.getD i 0).toNat = true) : togL xs ws i = ws := if_pos h
theorem togL_no {xs ws : List Int} {i : Nat} (h : (row xs (ws.getD (i + 1) 0).toNat).testBit (ws.getD i 0).toNat = false) : togL xs ws i = swapL ws i := by unfold togL; rw [if_neg (by rw [h]; decide)]
theorem togL_length (xs ws : List Int) (i : Nat) : (togL xs ws i).length = ws.length := by
  unfold togL; split
  · rfl
  · exact swapL_length ws i

def turnN (F : Nat → List Int → List Int) : Nat → List Int → List Int
  | 0, ws => ws
  | k + 1, ws => F k (turnN F k ws)
theorem turnN_congr {F G : Nat → List Int → List Int} {m : Nat} (h : ∀ k, k < m → F k = G k) (ws : List Int) : turnN F m ws = turnN G m ws := by
  induction m with
  | zero => rfl
  | succ m ih => simp only [turnN]; rw [ih (fun k hk => h k (by omega)), h m (by omega)]
theorem Lw.turn {n : Nat} {F : Nat → List Int → List Int} {m : Nat} (hF : ∀ k, k < m → ∀ ws, Lw n ws → Lw n (F k ws)) {ws : List Int} (h : Lw n ws) : Lw n (turnN F m ws) := by
  induction m with
  | zero => exact h
  | succ m ih => exact hF m (by omega) _ (ih fun k hk => hF k (by omega))
/-- toggles at 0, 1, .., k - 1 -/
def upL (xs : List Int) (k : Nat) (ws : List Int) : List Int := turnN (fun i a => togL xs a i) k ws
/-- toggles at t - 1, t - 2, .., t - k -/
def downL (xs : List Int) (t k : Nat) (ws : List Int) : List Int := turnN (fun i a => togL xs a (t - 1 - i)) k ws
theorem upL_succ (xs : List Int) (k : Nat) (ws : List Int) : upL xs (k + 1) ws = togL xs (upL xs k ws) k := rfl
theorem downL_succ (xs : List Int) (t k : Nat) (ws : List Int) : downL xs t (k + 1) ws = togL xs (downL xs t k ws) (t - 1 - k) := rfl
theorem Lw.up {n : Nat} {xs : List Int} {k : Nat} (hk : k + 1 ≤ n) {ws : List Int} (h : Lw n ws) : Lw n (upL xs k ws) := h.turn fun i hi a ha => ha.tog (by omega)
theorem Lw.down {n : Nat} {xs : List Int} {t k : Nat} (ht : t + 1 ≤ n) (hk : k ≤ t) {ws : List Int} (h : Lw n ws) : Lw n (downL xs t k ws) := h.turn fun i hi a ha => ha.tog (by omega)
/-- one promotion, and one backwards -/
def pro1 (xs ws : List Int) : List Int := upL xs (xs.length - 1) ws
def orp1 (xs ws : List Int) : List Int := downL xs (xs.length - 1) (xs.length - 1) ws
def proL (xs : List Int) (t : Int) (ws : List Int) : List Int := if t < 0 then turnN (fun _ => orp1 xs) (-t).toNat ws else turnN (fun _ => pro1 xs) t.toNat ws
theorem proL_neg {xs : List Int} {t : Int} (h : t < 0) (ws : List Int) : proL xs t ws = turnN (fun _ => orp1 xs) (-t).toNat ws := if_pos h
theorem proL_nat (xs : List Int) (t : Nat) (ws : List Int) : proL xs t ws = turnN (fun _ => pro1 xs) t ws := by unfold proL; rw [if_neg (by omega)]; rfl
theorem proL_one (xs ws : List Int) : proL xs 1 ws = pro1 xs ws := proL_nat xs 1 ws
def evaL (xs ws : List Int) : List Int := turnN (fun k => upL xs (xs.length - 1 - k)) (xs.length - 1) ws
def coeL (xs ws : List Int) : List Int := turnN (fun k => downL xs (xs.length - 1) (xs.length - 1 - k)) (xs.length - 1) ws
theorem Lw.pro1 {xs : List Int} (h1 : 1 ≤ xs.length) {ws : List Int} (h : Lw xs.length ws) : Lw xs.length (pro1 xs ws) := h.up (by omega)
theorem Lw.orp1 {xs : List Int} (h1 : 1 ≤ xs.length) {ws : List Int} (h : Lw xs.length ws) : Lw xs.length (orp1 xs ws) := h.down (by omega) (Nat.le_refl _)
theorem Lw.pro {xs : List Int} (h1 : 1 ≤ xs.length) {ws : List Int} (t : Int) (h : Lw xs.length ws) : Lw xs.length (proL xs t ws) := by
  unfold proL
  split
  · exact h.turn fun _ _ a ha => ha.orp1 h1
  · exact h.turn fun _ _ a ha => ha.pro1 h1
theorem Lw.eva {xs : List Int} (h1 : 1 ≤ xs.length) {ws : List Int} (h : Lw xs.length ws) : Lw xs.length (evaL xs ws) := h.turn fun k hk a ha => ha.up (by omega)
theorem Lw.coe {xs : List Int} (h1 : 1 ≤ xs.length) {ws : List Int} (h : Lw xs.length ws) : Lw xs.length (coeL xs ws) := h.turn fun k hk a ha => ha.down (by omega) (by omega)
theorem orderB_Lw {xs ys : List Int} (h : orderB xs ys = true) : Lw xs.length ys := ⟨(orderB_word h).1, (orderB_word h).2⟩

/-- a list that is one of a poset's linear extensions -/
def okLin (xs ws : List Int) : Bool := okOrder xs ws
theorem okLin_all {xs ws : List Int} (h : okLin xs ws = true) : good xs = true ∧ orderB xs ws = true := by
  simpa [okLin, okOrder] using h
theorem okLin_Lw {xs ws : List Int} (h : okLin xs ws = true) : Lw xs.length ws := orderB_Lw (okLin_all h).2
end Go.Proofs.Ytdemikjaghegnaa

/- Counts of what can follow a set in a linear extension; ranks. No program is named here. -/
namespace Go.Proofs.Ytdemikjaghegnaa
set_option linter.unusedVariables false

theorem or_gt {s e : Nat} (h : s.testBit e = false) : s < s ||| 2 ^ e := by
  have h1 : s ≤ s ||| 2 ^ e := Nat.left_le_or
  rcases Nat.lt_or_ge s (s ||| 2 ^ e) with h2 | h2
  · exact h2
  · have h3 : s ||| 2 ^ e = s := by omega
    have h4 : (s ||| 2 ^ e).testBit e = true := by rw [Nat.testBit_or, Nat.testBit_two_pow_self]; simp
    rw [h3, h] at h4; cases h4
theorem stepP_bit {xs : List Int} {s e : Nat} (h : stepP xs s e = true) : s.testBit e = false := by
  simp only [stepP, Bool.and_eq_true, Bool.not_eq_true'] at h; exact h.1
/-- in how many ways the elements outside of s can follow -/
def ends (xs : List Int) (s : Nat) : Nat :=
  if 2 ^ xs.length - 1 ≤ s then 1 else sumN (fun e => if h : stepP xs s e = true then ends xs (s ||| 2 ^ e) else 0) xs.length
termination_by 2 ^ xs.length - s
decreasing_by have := or_gt (stepP_bit h); omega
def nterm (xs : List Int) (s e : Nat) : Nat := if stepP xs s e = true then ends xs (s ||| 2 ^ e) else 0
theorem ends_top {xs : List Int} {s : Nat} (h : 2 ^ xs.length - 1 ≤ s) : ends xs s = 1 := by rw [ends, if_pos h]
theorem ends_low {xs : List Int} {s : Nat} (h : s < 2 ^ xs.length - 1) : ends xs s = sumN (nterm xs s) xs.length := by
  rw [ends, if_neg (by omega)]; rfl
theorem nterm_no {xs : List Int} {s e : Nat} (h : stepP xs s e = false) : nterm xs s e = 0 := by simp [nterm, h]
theorem nterm_yes {xs : List Int} {s e : Nat} (h : stepP xs s e = true) : nterm xs s e = ends xs (s ||| 2 ^ e) := by simp [nterm, h]
theorem cntB_or {s e n : Nat} (he : e < n) (h : s.testBit e = false) : cntB (s ||| 2 ^ e) n = cntB s n + 1 := by
  have h1 : (s ||| 2 ^ e).testBit e = true := by rw [Nat.testBit_or, Nat.testBit_two_pow_self]; simp
  have h2 := cntB_xor he h1
  have h3 : (s ||| 2 ^ e) ^^^ 2 ^ e = s := by
    rw [or_eq_xor h, Nat.xor_assoc, Nat.xor_self, Nat.xor_zero]
  rw [h3] at h2
  omega
theorem sumN_mono (f : Nat → Nat) {i j : Nat} (h : i ≤ j) : sumN f i ≤ sumN f j := by
  induction j with
  | zero => have : i = 0 := by omega
            subst this; exact Nat.le_refl _
  | succ j ih =>
    by_cases e : i = j + 1
    · subst e; exact Nat.le_refl _
    · simp only [sumN]; have := ih (by omega); omega
theorem ends_pow {xs : List Int} (hl : xs.length ≤ 10) (d : Nat) : ∀ s, 2 ^ xs.length - s ≤ d → ends xs s ≤ 10 ^ (xs.length - cntB s xs.length) := by
  induction d with
  | zero =>
    intro s hd
    rw [ends_top (by omega)]
    exact Nat.one_le_pow _ _ (by decide)
  | succ d ih =>
    intro s hd
    by_cases h : 2 ^ xs.length - 1 ≤ s
    · rw [ends_top h]; exact Nat.one_le_pow _ _ (by decide)
    · rw [ends_low (by omega)]
      by_cases hc : ∃ e, e < xs.length ∧ stepP xs s e = true
      · obtain ⟨e0, he0, hs0⟩ := hc
        have hlt : cntB s xs.length < xs.length := by
          have h1 := cntB_or he0 (stepP_bit hs0)
          have h2 := cntB_le (s ||| 2 ^ e0) xs.length
          omega
        refine Nat.le_trans (sumN_const (c := 10 ^ (xs.length - cntB s xs.length - 1)) ?_) ?_
        · intro e he
          cases hs : stepP xs s e
          · rw [nterm_no hs]; exact Nat.zero_le _
          · rw [nterm_yes hs]
            have h1 := ih (s ||| 2 ^ e) (by have := or_gt (stepP_bit hs); omega)
            rw [cntB_or he (stepP_bit hs)] at h1
            have h2 : xs.length - (cntB s xs.length + 1) = xs.length - cntB s xs.length - 1 := by omega
            rw [h2] at h1
            exact h1
        · have h4 : 10 ^ (xs.length - cntB s xs.length) = 10 ^ (xs.length - cntB s xs.length - 1) * 10 := by rw [← Nat.pow_succ]; congr 1; omega
          rw [h4, Nat.mul_comm]
          exact Nat.mul_le_mul_left _ hl
      · rw [sumN_zero]
        · exact Nat.zero_le _
        · intro e he
          refine nterm_no ?_
          cases hs : stepP xs s e
          · rfl
          · exact absurd ⟨e, he, hs⟩ hc
theorem ends_le {xs : List Int} (hl : xs.length ≤ 10) (s : Nat) : ends xs s ≤ 10000000000 := by
  have h1 := ends_pow hl _ s (Nat.le_refl _)
  have h2 : 10 ^ (xs.length - cntB s xs.length) ≤ 10 ^ 10 := Nat.pow_le_pow_right (by decide) (by omega)
  omega
theorem nterm_le {xs : List Int} (hl : xs.length ≤ 10) (s e : Nat) : nterm xs s e ≤ 10000000000 := by
  unfold nterm; split
  · exact ends_le hl _
  · omega
theorem sumN_nterm_le {xs : List Int} (hl : xs.length ≤ 10) (s : Nat) {k : Nat} (hk : k ≤ xs.length) : sumN (nterm xs s) k ≤ 100000000000 := by
  have h := sumN_const (f := nterm xs s) (k := k) (c := 10000000000) fun e _ => nterm_le hl s e
  have : k * 10000000000 ≤ 10 * 10000000000 := Nat.mul_le_mul_right _ (by omega)
  omega

/-! ### the table while it is filled from above -/
def endG (xs : List Int) (S t : Nat) : Nat := if t < 2 ^ xs.length ∧ S ≤ t then ends xs t else 0
def endP (xs : List Int) (s k t : Nat) : Nat := if t < 2 ^ xs.length ∧ s < t then ends xs t else if t = s then sumN (nterm xs s) k else 0
theorem endP_zero (xs : List Int) (s t : Nat) : endP xs s 0 t = endG xs (s + 1) t := by
  unfold endP endG
  by_cases h : t < 2 ^ xs.length ∧ s < t
  · rw [if_pos h, if_pos (show t < 2 ^ xs.length ∧ s + 1 ≤ t from ⟨h.1, h.2⟩)]
  · rw [if_neg h, if_neg (show ¬(t < 2 ^ xs.length ∧ s + 1 ≤ t) from fun k => h ⟨k.1, k.2⟩)]
    split <;> rfl
theorem endP_full {xs : List Int} {s : Nat} (hs : s < 2 ^ xs.length - 1) (t : Nat) : endP xs s xs.length t = endG xs s t := by
  unfold endP endG
  by_cases h : t < 2 ^ xs.length ∧ s < t
  · rw [if_pos h, if_pos (show t < 2 ^ xs.length ∧ s ≤ t from ⟨h.1, by omega⟩)]
  · rw [if_neg h]
    by_cases e : t = s
    · subst e; rw [if_pos rfl, if_pos (show t < 2 ^ xs.length ∧ t ≤ t from ⟨by omega, Nat.le_refl _⟩), ends_low hs]
    · rw [if_neg e, if_neg (show ¬(t < 2 ^ xs.length ∧ s ≤ t) from fun k => h ⟨k.1, by omega⟩)]
theorem endG_top {xs : List Int} (t : Nat) : endG xs (2 ^ xs.length - 1) t = if t = 2 ^ xs.length - 1 then 1 else 0 := by
  have h1 : 1 ≤ 2 ^ xs.length := Nat.one_le_two_pow
  unfold endG
  by_cases e : t = 2 ^ xs.length - 1
  · rw [if_pos (show t < 2 ^ xs.length ∧ 2 ^ xs.length - 1 ≤ t by omega), if_pos e, ends_top (by omega)]
  · rw [if_neg (show ¬(t < 2 ^ xs.length ∧ 2 ^ xs.length - 1 ≤ t) by omega), if_neg e]
theorem endP_self (xs : List Int) (s k : Nat) : endP xs s k s = sumN (nterm xs s) k := by
  unfold endP; rw [if_neg (by omega), if_pos rfl]
theorem endP_succ (xs : List Int) (s k t : Nat) : endP xs s (k + 1) t = if t = s then endP xs s k s + nterm xs s k else endP xs s k t := by
  by_cases e : t = s
  · subst e; rw [if_pos rfl, endP_self, endP_self]; rfl
  · rw [if_neg e]; unfold endP; rw [if_neg e, if_neg e]
theorem endP_above {xs : List Int} {s k t : Nat} (h1 : t < 2 ^ xs.length) (h2 : s < t) : endP xs s k t = ends xs t := by
  unfold endP; rw [if_pos ⟨h1, h2⟩]
theorem endG_at {xs : List Int} {t : Nat} (h1 : t < 2 ^ xs.length) : endG xs 0 t = ends xs t := by
  unfold endG; rw [if_pos ⟨h1, Nat.zero_le _⟩]

/-! ### the element that a rank picks -/
def pick (f : Nat → Nat) (r : Nat) : Nat → Nat
  | 0 => 0
  | k + 1 => if sumN f k ≤ r then k else pick f r k
theorem pick_eq {f : Nat → Nat} {r e : Nat} (h1 : sumN f e ≤ r) (h2 : r < sumN f (e + 1)) (n : Nat) (he : e < n) : pick f r n = e := by
  induction n with
  | zero => omega
  | succ n ih =>
    unfold pick
    by_cases h : e = n
    · subst h; rw [if_pos h1]
    · rw [if_neg (by have := sumN_mono f (show e + 1 ≤ n by omega); omega)]
      exact ih (by omega)
theorem pick_spec {f : Nat → Nat} {r : Nat} (n : Nat) (h : r < sumN f n) : pick f r n < n ∧ sumN f (pick f r n) ≤ r ∧ r < sumN f (pick f r n + 1) := by
  induction n with
  | zero => simp [sumN] at h
  | succ n ih =>
    unfold pick
    by_cases h1 : sumN f n ≤ r
    · rw [if_pos h1]; exact ⟨by omega, h1, h⟩
    · rw [if_neg h1]
      obtain ⟨a, b, c⟩ := ih (by omega)
      exact ⟨by omega, b, c⟩
/-- the set and what is left of the rank, behind i elements -/
def unS (xs : List Int) (r : Nat) : Nat → Nat × Nat
  | 0 => (0, r)
  | i + 1 =>
    ((unS xs r i).1 ||| 2 ^ pick (nterm xs (unS xs r i).1) (unS xs r i).2 xs.length,
     (unS xs r i).2 - sumN (nterm xs (unS xs r i).1) (pick (nterm xs (unS xs r i).1) (unS xs r i).2 xs.length))
def unE (xs : List Int) (r i : Nat) : Nat := pick (nterm xs (unS xs r i).1) (unS xs r i).2 xs.length
theorem unS_succ (xs : List Int) (r i : Nat) : unS xs r (i + 1) = ((unS xs r i).1 ||| 2 ^ unE xs r i, (unS xs r i).2 - sumN (nterm xs (unS xs r i).1) (unE xs r i)) := rfl
def unrL (xs : List Int) (r : Nat) : List Int := mkL xs.length (unE xs r)
theorem cntB_full {s n : Nat} (h : 2 ^ n - 1 = s) : cntB s n = n := by
  subst h
  unfold cntB
  have : ∀ k, k ≤ n → sumN (fun e => if (2 ^ n - 1).testBit e = true then 1 else 0) k = k := by
    intro k hk
    induction k with
    | zero => rfl
    | succ k ih =>
      simp only [sumN]
      rw [ih (by omega)]
      have : (2 ^ n - 1).testBit k = true := by rw [Nat.testBit_two_pow_sub_one]; simp; omega
      rw [this]; simp
  exact this n (Nat.le_refl _)
/-- what is known of the state behind i elements -/
structure UnOk (xs : List Int) (s q i : Nat) : Prop where
  set : s < 2 ^ xs.length
  cnt : cntB s xs.length = i
  rank : q < ends xs s
theorem UnOk.low {xs : List Int} {s q i : Nat} (h : UnOk xs s q i) (hi : i < xs.length) : s < 2 ^ xs.length - 1 := by
  rcases Nat.lt_or_ge s (2 ^ xs.length - 1) with h1 | h1
  · exact h1
  · have := cntB_full (show 2 ^ xs.length - 1 = s by have := h.set; omega)
    have := h.cnt
    omega
theorem UnOk.step {xs : List Int} {s q i e : Nat} (h : UnOk xs s q i) (hi : i < xs.length) (he : e < xs.length) (h1 : sumN (nterm xs s) e ≤ q) (h2 : q < sumN (nterm xs s) (e + 1)) :
    stepP xs s e = true ∧ UnOk xs (s ||| 2 ^ e) (q - sumN (nterm xs s) e) (i + 1) := by
  simp only [sumN] at h2
  have hp : stepP xs s e = true := by
    cases hs : stepP xs s e
    · rw [nterm_no hs] at h2; omega
    · rfl
  rw [nterm_yes hp] at h2
  exact ⟨hp, Nat.or_lt_two_pow h.set (pow_lt_len he), by rw [cntB_or he (stepP_bit hp), h.cnt], by omega⟩
theorem UnOk.pick {xs : List Int} {s q i : Nat} (h : UnOk xs s q i) (hi : i < xs.length) : pick (nterm xs s) q xs.length < xs.length ∧ sumN (nterm xs s) (pick (nterm xs s) q xs.length) ≤ q ∧ q < sumN (nterm xs s) (pick (nterm xs s) q xs.length + 1) := by
  refine pick_spec _ ?_
  rw [← ends_low (h.low hi)]
  exact h.rank
theorem cntB_zero (n : Nat) : cntB 0 n = 0 := sumN_zero fun e _ => by simp
theorem unS_ok {xs : List Int} {r : Nat} (hr : r < ends xs 0) (i : Nat) (hi : i ≤ xs.length) : UnOk xs (unS xs r i).1 (unS xs r i).2 i := by
  induction i with
  | zero => exact ⟨Nat.two_pow_pos _, cntB_zero _, hr⟩
  | succ i ih =>
    have h := ih (by omega)
    obtain ⟨a, b, c⟩ := h.pick (by omega)
    rw [unS_succ]
    exact (h.step (by omega) a b c).2
theorem unE_lt {xs : List Int} {r : Nat} (hr : r < ends xs 0) {i : Nat} (hi : i < xs.length) : unE xs r i < xs.length := ((unS_ok hr i (by omega)).pick hi).1

/-! ### the rank of a list -/
def rkS (xs ws : List Int) : Nat → Nat × Nat
  | 0 => (0, 0)
  | i + 1 => ((rkS xs ws i).1 + sumN (nterm xs (rkS xs ws i).2) (ws.getD i 0).toNat, (rkS xs ws i).2 ||| 2 ^ (ws.getD i 0).toNat)
def rankN (xs ws : List Int) : Nat := (rkS xs ws ws.length).1
theorem rkS_le {xs ws : List Int} (hl : xs.length ≤ 10) (h : Lw xs.length ws) (i : Nat) (hi : i ≤ ws.length) : (rkS xs ws i).1 ≤ 100000000000 * i ∧ (rkS xs ws i).2 < 2 ^ xs.length := by
  induction i with
  | zero => exact ⟨Nat.zero_le _, Nat.two_pow_pos _⟩
  | succ i ih =>
    obtain ⟨h1, h2⟩ := ih (by omega)
    have h3 := h.at (j := i) (by rw [← h.len]; omega)
    have h4 : (ws.getD i 0).toNat < xs.length := by omega
    have h5 := sumN_nterm_le hl (rkS xs ws i).2 (Nat.le_of_lt h4)
    simp only [rkS]
    exact ⟨by omega, Nat.or_lt_two_pow h2 (pow_lt_len h4)⟩
end Go.Proofs.Ytdemikjaghegnaa

/- What a linear extension is. No program is named here. -/
namespace Go.Proofs.Ytdemikjaghegnaa
set_option linter.unusedVariables false

def wN (ws : List Int) (k : Nat) : Nat := (ws.getD k 0).toNat
def stL (ws : List Int) : Nat → Nat
  | 0 => 0
  | k + 1 => stL ws k ||| 2 ^ wN ws k
structure LinX (xs ws : List Int) : Prop where
  len : ws.length = xs.length
  rng : ∀ k, k < xs.length → ws.getD k 0 = (wN ws k : Int) ∧ wN ws k < xs.length
  stp : ∀ k, k < xs.length → stepP xs (stL ws k) (wN ws k) = true
theorem ordP_split {xs : List Int} {m : Nat} {y : Int} (h : ordP xs m y = true) : (0 ≤ y ∧ y < xs.length) ∧ stepP xs m y.toNat = true := by
  simp only [ordP, Bool.and_eq_true, decide_eq_true_eq] at h
  exact ⟨h.1, by simp only [stepP, Bool.and_eq_true]; exact h.2⟩
theorem ordSt_stL {xs ws : List Int} (k : Nat) : ∀ m, ordSt xs ws k = some m → m = stL ws k ∧ ∀ j, j < k → ordP xs (stL ws j) (ws.getD j 0) = true := by
  induction k with
  | zero => intro m h; simp only [ordSt, Option.some.injEq] at h; exact ⟨h.symm, fun j hj => by omega⟩
  | succ k ih =>
    intro m h
    cases hq : ordSt xs ws k with
    | none => simp only [ordSt, hq] at h; cases h
    | some q =>
      obtain ⟨h1, h2⟩ := ih q hq
      cases hp : ordP xs q (ws.getD k 0)
      · rw [ordSt_no hq hp (k + 1) (by omega)] at h; cases h
      · rw [ordSt_yes hq hp] at h
        simp only [Option.some.injEq] at h
        subst h1
        refine ⟨h.symm, fun j hj => ?_⟩
        by_cases e : j = k
        · subst e; exact hp
        · exact h2 j (by omega)
theorem orderB_LinX {xs ws : List Int} (h : orderB xs ws = true) : LinX xs ws := by
  simp only [orderB, Bool.and_eq_true, decide_eq_true_eq] at h
  obtain ⟨hl, h2⟩ := h
  obtain ⟨m, hm⟩ := Option.isSome_iff_exists.1 h2
  obtain ⟨-, h3⟩ := ordSt_stL _ m hm
  have h4 : ∀ k, k < xs.length → ((0 ≤ ws.getD k 0 ∧ ws.getD k 0 < xs.length) ∧ stepP xs (stL ws k) (ws.getD k 0).toNat = true) := fun k hk => ordP_split (h3 k (by omega))
  exact ⟨hl, fun k hk => by obtain ⟨⟨a, b⟩, c⟩ := h4 k hk; unfold wN; omega, fun k hk => (h4 k hk).2⟩
theorem LinX.st {xs ws : List Int} (h : LinX xs ws) (k : Nat) (hk : k ≤ xs.length) : ordSt xs ws k = some (stL ws k) := by
  induction k with
  | zero => rfl
  | succ k ih =>
    have h1 := h.rng k (by omega)
    have h2 := h.stp k (by omega)
    rw [ordSt_yes (ih (by omega)) ?_]
    · rfl
    · simp only [stepP, Bool.and_eq_true] at h2
      simp only [ordP, Bool.and_eq_true, decide_eq_true_eq]
      exact ⟨by omega, h2⟩
theorem LinX.order {xs ws : List Int} (h : LinX xs ws) : orderB xs ws = true := orderB_yes h.len (h.st ws.length (by rw [h.len]; exact Nat.le_refl _))
theorem stL_bit (ws : List Int) (k e : Nat) : (stL ws k).testBit e = true ↔ ∃ j, j < k ∧ wN ws j = e := by
  induction k with
  | zero => simp [stL]
  | succ k ih =>
    rw [stL, Nat.testBit_or, Bool.or_eq_true, ih, Nat.testBit_two_pow]
    constructor
    · rintro (⟨j, h1, h2⟩ | h)
      · exact ⟨j, by omega, h2⟩
      · exact ⟨k, by omega, by simpa using h⟩
    · rintro ⟨j, h1, h2⟩
      by_cases e : j = k
      · subst e; exact .inr (by simpa using h2)
      · exact .inl ⟨j, by omega, h2⟩
theorem LinX.lt {xs ws : List Int} (h : LinX xs ws) (k : Nat) (hk : k ≤ xs.length) : stL ws k < 2 ^ xs.length := by
  induction k with
  | zero => exact Nat.two_pow_pos _
  | succ k ih => exact Nat.or_lt_two_pow (ih (by omega)) (pow_lt_len (h.rng k (by omega)).2)
theorem LinX.cnt {xs ws : List Int} (h : LinX xs ws) (k : Nat) (hk : k ≤ xs.length) : cntB (stL ws k) xs.length = k := by
  induction k with
  | zero => exact cntB_zero _
  | succ k ih => rw [stL, cntB_or (h.rng k (by omega)).2 (stepP_bit (h.stp k (by omega))), ih (by omega)]
theorem cntB_all {s n : Nat} (h : s < 2 ^ n) (c : cntB s n = n) : s = 2 ^ n - 1 := by
  apply Nat.eq_of_testBit_eq
  intro i
  rw [Nat.testBit_two_pow_sub_one]
  by_cases hi : i < n
  · cases hb : s.testBit i
    · have h1 := cntB_or hi hb
      have h2 := cntB_le (s ||| 2 ^ i) n
      omega
    · simp [hi]
  · cases hb : s.testBit i
    · simp; omega
    · exact absurd (testBit_lt h hb) hi
theorem LinX.full {xs ws : List Int} (h : LinX xs ws) : stL ws xs.length = 2 ^ xs.length - 1 := cntB_all (h.lt _ (Nat.le_refl _)) (h.cnt _ (Nat.le_refl _))
theorem LinX.surj {xs ws : List Int} (h : LinX xs ws) {e : Nat} (he : e < xs.length) : ∃ j, j < xs.length ∧ wN ws j = e := by
  rw [← stL_bit, h.full, Nat.testBit_two_pow_sub_one]
  simpa using he
theorem LinX.ne {xs ws : List Int} (h : LinX xs ws) {j k : Nat} (hjk : j < k) (hk : k < xs.length) : wN ws j ≠ wN ws k := by
  intro e
  have h1 := stepP_bit (h.stp k hk)
  have h2 := (stL_bit ws k (wN ws k)).2 ⟨j, hjk, e⟩
  rw [h1] at h2; cases h2
theorem stepP_sub {xs : List Int} {s e : Nat} (h : stepP xs s e = true) {j : Nat} (hj : (row xs e).testBit j = true) : s.testBit j = true := by
  simp only [stepP, Bool.and_eq_true, beq_iff_eq] at h
  exact (sub_eq_zero _ _).1 h.2 j hj
theorem LinX.before {xs ws : List Int} (h : LinX xs ws) {k j : Nat} (hk : k < xs.length) (hj : (row xs (wN ws k)).testBit j = true) : ∃ i, i < k ∧ wN ws i = j :=
  (stL_bit ws k j).1 (stepP_sub (h.stp k hk) hj)
theorem LinX.ext {xs ws vs : List Int} (h : LinX xs ws) (k : LinX xs vs) (e : ∀ j, j < xs.length → wN ws j = wN vs j) : ws = vs := by
  refine List.ext_getElem (by rw [h.len, k.len]) fun j h1 h2 => ?_
  have hj : j < xs.length := by rw [← h.len]; exact h1
  have a := (h.rng j hj).1
  have b := (k.rng j hj).1
  rw [e j hj, ← b] at a
  simpa [List.getD, h1, h2] using a
end Go.Proofs.Ytdemikjaghegnaa

/- Rowmotion by toggles from above, in any order; antichains carried. No program is named here. · Rowmotion undone; orders there are; complements as differences. No program is named here. -/
namespace Go.Proofs.Ytdemikjaghegnaa
set_option linter.unusedVariables false

theorem rowmo_bit (xs : List Int) (s e : Nat) : (rowmo xs s).testBit e = true ↔ ∃ f, f < xs.length ∧ rowP xs s f = true ∧ (f = e ∨ (row xs f).testBit e = true) := by
  rw [rowmo, orN_testBit]
  constructor
  · rintro ⟨f, hf, hp, hb⟩
    rw [rowG, Nat.testBit_or, Bool.or_eq_true, Nat.testBit_two_pow] at hb
    exact ⟨f, hf, hp, hb.imp (fun h => by simpa using h) id⟩
  · rintro ⟨f, hf, hp, hb⟩
    refine ⟨f, hf, hp, ?_⟩
    rw [rowG, Nat.testBit_or, Bool.or_eq_true, Nat.testBit_two_pow]
    exact hb.imp (fun h => by simpa using h) id
theorem tog_step {xs : List Int} (hg : good xs = true) {s t e : Nat} (ht : holdsIdeal xs t = true) (he : e < xs.length)
    (hlow : ∀ j, (row xs e).testBit j = true → t.testBit j = s.testBit j)
    (hup : ∀ f, f < xs.length → (row xs f).testBit e = true → t.testBit f = (rowmo xs s).testBit f)
    (hte : t.testBit e = s.testBit e) (i : Nat) : (tog xs t e).testBit i = if i = e then (rowmo xs s).testBit e else t.testBit i := by
  have hx : ∀ i, (t ^^^ 2 ^ e).testBit i = if i = e then !t.testBit e else t.testBit i := xor_bit t e
  cases hse : s.testBit e
  · rw [hse] at hte
    cases hp : rowP xs s e
    · have hR : (rowmo xs s).testBit e = false := by
        rw [Bool.eq_false_iff]
        intro h
        obtain ⟨f, hf, hpf, h1 | h1⟩ := (rowmo_bit xs s e).1 h
        · subst h1; rw [hp] at hpf; cases hpf
        · have := (rowP_iff.1 hpf).2 e h1; rw [hse] at this; cases this
      have hn : holdsIdeal xs (t ^^^ 2 ^ e) = false := by
        rw [Bool.eq_false_iff]
        intro h
        have h2 := holdsIdeal_row.1 h e he (by rw [hx, if_pos rfl, hte]; rfl)
        have h4 : rowP xs s e = true := rowP_iff.2 ⟨hse, fun j hj => by
          have h3 := h2 j hj
          have hlt := row_less hg he hj
          rw [hx, if_neg (by omega)] at h3
          rw [← hlow j hj]; exact h3⟩
        rw [hp] at h4; cases h4
      rw [tog_no hn]
      by_cases h : i = e
      · subst h; rw [if_pos rfl, hte, hR]
      · rw [if_neg h]
    · have hR : (rowmo xs s).testBit e = true := (rowmo_bit xs s e).2 ⟨e, he, hp, .inl rfl⟩
      have hy : holdsIdeal xs (t ^^^ 2 ^ e) = true := by
        refine holdsIdeal_row.2 fun f hf hb j hj => ?_
        rw [hx] at hb ⊢
        by_cases hje : j = e
        · rw [if_pos hje, hte]; rfl
        · rw [if_neg hje]
          by_cases hfe : f = e
          · subst hfe; rw [hlow j hj]; exact (rowP_iff.1 hp).2 j hj
          · rw [if_neg hfe] at hb
            exact holdsIdeal_row.1 ht f hf hb j hj
      rw [tog_yes hy, hx]
      by_cases h : i = e
      · rw [if_pos h, if_pos h, hte, hR]; rfl
      · rw [if_neg h, if_neg h]
  · rw [hse] at hte
    by_cases hc : ∃ f, f < xs.length ∧ (row xs f).testBit e = true ∧ (rowmo xs s).testBit f = true
    · obtain ⟨f, hf, hfe, hRf⟩ := hc
      have hR : (rowmo xs s).testBit e = true := holdsIdeal_row.1 (rowmo_ideal hg s) f hf hRf e hfe
      have hn : holdsIdeal xs (t ^^^ 2 ^ e) = false := by
        rw [Bool.eq_false_iff]
        intro h
        have hlt := row_less hg hf hfe
        have h2 := holdsIdeal_row.1 h f hf (by rw [hx, if_neg (by omega), hup f hf hfe]; exact hRf) e hfe
        rw [hx, if_pos rfl, hte] at h2
        cases h2
      rw [tog_no hn]
      by_cases h : i = e
      · subst h; rw [if_pos rfl, hte, hR]
      · rw [if_neg h]
    · have hR : (rowmo xs s).testBit e = false := by
        rw [Bool.eq_false_iff]
        intro h
        obtain ⟨f, hf, hpf, h1 | h1⟩ := (rowmo_bit xs s e).1 h
        · subst h1; rw [(rowP_iff.1 hpf).1] at hse; cases hse
        · exact hc ⟨f, hf, h1, (rowmo_bit xs s f).2 ⟨f, hf, hpf, .inl rfl⟩⟩
      have hy : holdsIdeal xs (t ^^^ 2 ^ e) = true := by
        refine holdsIdeal_row.2 fun f hf hb j hj => ?_
        rw [hx] at hb ⊢
        by_cases hfe : f = e
        · rw [if_pos hfe, hte] at hb; cases hb
        · rw [if_neg hfe] at hb
          by_cases hje : j = e
          · subst hje
            exact absurd ⟨f, hf, hj, by rw [← hup f hf hj]; exact hb⟩ hc
          · rw [if_neg hje]
            exact holdsIdeal_row.1 ht f hf hb j hj
      rw [tog_yes hy, hx]
      by_cases h : i = e
      · rw [if_pos h, if_pos h, hte, hR]; rfl
      · rw [if_neg h, if_neg h]
def revT (xs ys : List Int) (s k : Nat) : Nat := togW xs s (ys.drop k).reverse
theorem revT_step {xs ys : List Int} {s k : Nat} (hk : k < ys.length) : revT xs ys s k = tog xs (revT xs ys s (k + 1)) (wN ys k) := by
  unfold revT
  rw [List.drop_eq_getElem_cons hk, List.reverse_cons, togW, List.foldl_append]
  simp only [List.foldl_cons, List.foldl_nil, togW, wN]
  rw [show ys.getD k 0 = ys[k] from by simp [List.getD, hk]]
theorem revT_bits {xs ys : List Int} (hg : good xs = true) {s : Nat} (hs : s < 2 ^ xs.length) (hi : holdsIdeal xs s = true) (h : LinX xs ys) : ∀ d k, d + k = xs.length → holdsIdeal xs (revT xs ys s k) = true ∧ ∀ e, e < xs.length → (revT xs ys s k).testBit e = if (stL ys k).testBit e = true then s.testBit e else (rowmo xs s).testBit e := by
  intro d
  induction d with
  | zero =>
    intro k hk
    obtain rfl : k = xs.length := by omega
    have e0 : revT xs ys s xs.length = s := by
      unfold revT
      rw [← h.len, List.drop_length]; rfl
    rw [e0]
    refine ⟨hi, fun e he => ?_⟩
    rw [h.full, Nat.testBit_two_pow_sub_one]
    simp [he]
  | succ d ih =>
    intro k hk
    obtain ⟨h1, h2⟩ := ih (k + 1) (by omega)
    have hkl : k < xs.length := by omega
    obtain ⟨hr1, hr2⟩ := h.rng k hkl
    have hst : ∀ i, (stL ys (k + 1)).testBit i = true ↔ (stL ys k).testBit i = true ∨ i = wN ys k := by
      intro i
      rw [stL, Nat.testBit_or, Bool.or_eq_true, Nat.testBit_two_pow]
      constructor
      · exact fun hh => hh.imp id fun h3 => by simp at h3; exact h3.symm
      · exact fun hh => hh.imp id fun h3 => by simp [h3]
    have hnk : (stL ys k).testBit (wN ys k) = false := by
      rw [Bool.eq_false_iff]
      intro hb
      obtain ⟨j, hj, e⟩ := (stL_bit ys k _).1 hb
      exact h.ne hj hkl e
    rw [revT_step (by rw [h.len]; exact hkl)]
    refine ⟨tog_ideal h1, fun e he => ?_⟩
    rw [tog_step hg h1 hr2 (s := s) ?_ ?_ ?_ e]
    · by_cases hee : e = wN ys k
      · rw [if_pos hee, hee, hnk]; simp
      · rw [if_neg hee, h2 e he]
        by_cases hb : (stL ys k).testBit e = true
        · rw [if_pos ((hst e).2 (Or.inl hb)), if_pos hb]
        · rw [if_neg (fun hh => ((hst e).1 hh).elim hb hee), if_neg hb]
    · intro j hj
      obtain ⟨i, hik, hie⟩ := h.before hkl hj
      have hjl : j < xs.length := by have := row_less hg hr2 hj; omega
      rw [h2 j hjl, if_pos ((hst j).2 (Or.inl ((stL_bit ys k j).2 ⟨i, hik, hie⟩)))]
    · intro f hf hfe
      rw [h2 f hf, if_neg ?_]
      intro hb
      rcases (hst f).1 hb with hb | hb
      · obtain ⟨j, hj, e1⟩ := (stL_bit ys k f).1 hb
        obtain ⟨i, hij, hie⟩ := h.before (k := j) (j := wN ys k) (by omega) (by rw [e1]; exact hfe)
        exact h.ne (show i < k by omega) hkl hie
      · have := row_less hg hf hfe; omega
    · rw [h2 _ hr2, if_pos ((hst _).2 (Or.inr rfl))]
theorem togW_order {xs ys : List Int} (hg : good xs = true) {s : Nat} (hs : s < 2 ^ xs.length) (hi : holdsIdeal xs s = true) (h : orderB xs ys = true) : togW xs s ys.reverse = rowmo xs s := by
  have hb := (revT_bits hg hs hi (orderB_LinX h) xs.length 0 (by omega)).2
  have e0 : revT xs ys s 0 = togW xs s ys.reverse := rfl
  rw [e0] at hb
  apply Nat.eq_of_testBit_eq
  intro i
  by_cases hil : i < xs.length
  · rw [hb i hil]; simp [stL]
  · have hz : ∀ z, z < 2 ^ xs.length → z.testBit i = false := fun z hz => by
      rw [Bool.eq_false_iff]; intro hb2; exact hil (testBit_lt hz hb2)
    rw [hz _ (rowmo_lt hg s), hz _ (togW_lt hs ?_)]
    have := (orderB_word h).2
    unfold inW at this ⊢
    rw [List.all_eq_true] at this ⊢
    exact fun y hy => this y (List.mem_reverse.1 hy)
/-- what the next ideal's greatest elements are -/
theorem top_rowmo {xs : List Int} (hg : good xs = true) (s : Nat) : top xs (rowmo xs s) = bottom xs (compl xs.length s) := by
  rw [← rowmo_spec hg s, top_down_eq hg (bottom_anti xs _)]
/-- rowmotion of antichains is that of their ideals -/
theorem acRow_top {xs : List Int} (hg : good xs = true) {s : Nat} (hs : s < 2 ^ xs.length) (hi : holdsIdeal xs s = true) : top xs (rowmo xs (down xs (top xs s))) = top xs (rowmo xs s) := by
  rw [down_top hg hs hi]
end Go.Proofs.Ytdemikjaghegnaa
namespace Go.Proofs.Ytdemikjaghegnaa
set_option linter.unusedVariables false

theorem rowmo_topB {xs : List Int} (hg : good xs = true) {s : Nat} (hs : holdsIdeal xs s = true) {e : Nat} (he : e < xs.length) : rowP xs s e = (top xs (rowmo xs s)).testBit e := by
  rw [Bool.eq_iff_iff, rowmo_top hg hs he, top_bit]
  refine and_congr_right fun h => ⟨fun hh => ?_, fun hh i hi hr => ?_⟩
  · rintro ⟨i, hi, h1, h2⟩
    rw [hh i hi h1] at h2; cases h2
  · rw [Bool.eq_false_iff]
    intro h2
    exact hh ⟨i, hi, hr, h2⟩
theorem rowba_bit (xs : List Int) (s e : Nat) : (rowba xs s).testBit e = true ↔ e < xs.length ∧ backP xs (top xs s) e = true := by
  rw [rowba, orN_testBit]
  constructor
  · rintro ⟨f, hf, hp, hb⟩
    rw [Nat.testBit_two_pow] at hb
    obtain rfl : f = e := by simpa using hb
    exact ⟨hf, hp⟩
  · rintro ⟨he, hp⟩
    exact ⟨e, he, hp, by rw [Nat.testBit_two_pow]; simp⟩
theorem backP_iff {xs : List Int} {t e : Nat} : backP xs t e = true ↔ t.testBit e = false ∧ ∀ j, (row xs e).testBit j = true → t.testBit j = false := by
  simp only [backP, Bool.and_eq_true, Bool.not_eq_true', beq_iff_eq]
  refine and_congr_right fun _ => ⟨fun h j hj => and_zero_bit h hj, fun h => ?_⟩
  apply Nat.eq_of_testBit_eq
  intro j
  rw [Nat.testBit_and, Nat.zero_testBit]
  cases hj : (row xs e).testBit j
  · rfl
  · rw [h j hj]; rfl
theorem rowba_rowmo {xs : List Int} (hg : good xs = true) {s : Nat} (hs : s < 2 ^ xs.length) (hi : holdsIdeal xs s = true) : rowba xs (rowmo xs s) = s := by
  apply Nat.eq_of_testBit_eq
  intro e
  by_cases he : e < xs.length
  · have hrow : ∀ j, (row xs e).testBit j = true → j < xs.length := fun j hj => by have := row_less hg he hj; omega
    have hkey := out_iff hg hi (e + 1) e (by omega) he
    have hb : (rowba xs (rowmo xs s)).testBit e = true ↔ ¬ (rowP xs s e = true ∨ ∃ j, (row xs e).testBit j = true ∧ rowP xs s j = true) := by
      rw [rowba_bit, backP_iff]
      constructor
      · rintro ⟨-, h1, h2⟩ (h3 | ⟨j, hj, h3⟩)
        · rw [rowmo_topB hg hi he, h1] at h3; cases h3
        · rw [rowmo_topB hg hi (hrow j hj), h2 j hj] at h3; cases h3
      · intro h
        refine ⟨he, ?_, fun j hj => ?_⟩
        · rw [← rowmo_topB hg hi he, Bool.eq_false_iff]; exact fun h3 => h (Or.inl h3)
        · rw [← rowmo_topB hg hi (hrow j hj), Bool.eq_false_iff]; exact fun h3 => h (Or.inr ⟨j, hj, h3⟩)
    rw [← hkey] at hb
    rw [Bool.eq_iff_iff, hb]
    simp
  · have hz : ∀ z, z < 2 ^ xs.length → z.testBit e = false := fun z hz => by
      rw [Bool.eq_false_iff]; intro hb2; exact he (testBit_lt hz hb2)
    rw [hz _ (rowba_lt xs _), hz _ hs]
theorem rowmo_rowba {xs : List Int} (hg : good xs = true) {s : Nat} (hs : s < 2 ^ xs.length) (hi : holdsIdeal xs s = true) : rowmo xs (rowba xs s) = s := by
  have hm := rowMov hg
  have hD := idB_iff.2 ⟨hs, hi⟩
  obtain ⟨h1, h2, -, -⟩ := hm.perS hD
  obtain ⟨p, hp⟩ : ∃ p, per (rowmo xs) (2 ^ xs.length) s = p + 1 := ⟨per (rowmo xs) (2 ^ xs.length) s - 1, by omega⟩
  rw [hp] at h1
  have h3 : rowmo xs (iter (rowmo xs) p s) = s := h1
  have h4 := idB_iff.1 (hm.it hD p)
  have h5 := rowba_rowmo hg h4.1 h4.2
  rw [h3] at h5
  rw [h5, h3]
theorem iter_comm2 (f : Nat → Nat) (k s : Nat) : iter f k (f s) = f (iter f k s) := by
  induction k with
  | zero => rfl
  | succ k ih => exact congrArg f ih
theorem iter_back {f b : Nat → Nat} {D : Nat → Bool} (hf : ∀ s, D s = true → D (f s) = true) (hb : ∀ s, D s = true → b (f s) = s) {s : Nat} (hs : D s = true) (k : Nat) : D (iter f k s) = true ∧ iter b k (iter f k s) = s := by
  induction k with
  | zero => exact ⟨hs, rfl⟩
  | succ k ih =>
    refine ⟨hf _ ih.1, ?_⟩
    show b (iter b k (f (iter f k s))) = s
    rw [← iter_comm2 b k, hb _ ih.1, ih.2]
/-- rowmotion n times, and back -/
theorem rowmo_back {xs : List Int} (hg : good xs = true) {s : Nat} (hs : s < 2 ^ xs.length) (hi : holdsIdeal xs s = true) (k : Nat) :
    (iter (rowmo xs) k s < 2 ^ xs.length ∧ holdsIdeal xs (iter (rowmo xs) k s) = true ∧ iter (rowba xs) k (iter (rowmo xs) k s) = s) ∧
    (iter (rowba xs) k s < 2 ^ xs.length ∧ holdsIdeal xs (iter (rowba xs) k s) = true ∧ iter (rowmo xs) k (iter (rowba xs) k s) = s) := by
  have h1 := iter_back (f := rowmo xs) (b := rowba xs) (D := idB xs) (fun s h => idB_iff.2 ⟨rowmo_lt hg s, rowmo_ideal hg s⟩) (fun s h => rowba_rowmo hg (idB_iff.1 h).1 (idB_iff.1 h).2) (idB_iff.2 ⟨hs, hi⟩) k
  have h2 := iter_back (f := rowba xs) (b := rowmo xs) (D := idB xs) (fun s h => idB_iff.2 ⟨rowba_lt xs s, rowba_ideal hg s⟩) (fun s h => rowmo_rowba hg (idB_iff.1 h).1 (idB_iff.1 h).2) (idB_iff.2 ⟨hs, hi⟩) k
  exact ⟨⟨(idB_iff.1 h1.1).1, (idB_iff.1 h1.1).2, h1.2⟩, ⟨(idB_iff.1 h2.1).1, (idB_iff.1 h2.1).2, h2.2⟩⟩
/-- a complement as a difference -/
theorem compl_sub {n s : Nat} (hs : s < 2 ^ n) : compl n s = 2 ^ n - 1 - s := by
  apply Nat.eq_of_testBit_eq
  intro i
  rw [compl_testBit, show 2 ^ n - 1 - s = 2 ^ n - (s + 1) from by omega, Nat.testBit_two_pow_sub_succ hs]
/-- each ideal has an order -/
theorem ways_some {xs : List Int} (hg : good xs = true) : ∀ (m t : Nat), t ≤ m → t < 2 ^ xs.length → holdsIdeal xs t = true → 1 ≤ ways xs t := by
  intro m
  induction m with
  | zero =>
    intro t ht _ _
    obtain rfl : t = 0 := by omega
    rw [ways_zero]; exact Nat.le_refl _
  | succ m ih =>
    intro t ht hl hi
    by_cases h0 : t = 0
    · subst h0; rw [ways_zero]; exact Nat.le_refl _
    · obtain ⟨e, he⟩ := some_bit (top_some hg hl h0)
      have hbt := ((top_bit xs t e).1 he).1
      have hel := testBit_lt hl hbt
      obtain ⟨h1, h2⟩ := top_down hg hi hel he
      have hlt := xor_lt_self hbt
      have h3 := ih (t ^^^ 2 ^ e) (by omega) (by omega) h1
      rw [ways_pos h0]
      have hp : predP xs t e = true := by
        rw [predP, hbt, Bool.true_and, beq_iff_eq, sub_eq_zero]
        intro j hj
        have hne := row_less hg hel hj
        rw [xor_bit, if_neg (by omega)]
        exact holdsIdeal_row.1 hi e hel hbt j hj
      have hw : wterm xs t e = ways xs (t ^^^ 2 ^ e) := by rw [wterm, if_pos hp]
      have hmono : ∀ k, e < k → wterm xs t e ≤ sumN (wterm xs t) k := by
        intro k hk
        induction k with
        | zero => omega
        | succ k ihk =>
          rw [sumN]
          by_cases hek : e = k
          · subst hek; omega
          · have := ihk (by omega); omega
      have := hmono xs.length hel
      omega
theorem orders_some {xs : List Int} (hg : good xs = true) : 1 ≤ ordersN xs := by
  have hp := Nat.two_pow_pos xs.length
  exact ways_some hg _ _ (Nat.le_refl _) (by omega) (full_ideal hg)
end Go.Proofs.Ytdemikjaghegnaa
