/- Linear extensions as what they are: places, ranks and lists tell each other, toggles undo themselves, promotion moves the ranks. No program is named here. -/
import Derived.Test.YtnlehkjfidpdlabLinX
import Derived.Test.YtnlehkjfidpdlabOrb
namespace Go.Proofs.Ytnlehkjfidpdlab
set_option linter.unusedVariables false

/-! ### ranks -/
theorem unrL_wN {xs : List Int} {r k : Nat} (hk : k < xs.length) : wN (unrL xs r) k = unE xs r k := by
  unfold wN unrL; rw [mkL_getD hk, Int.toNat_natCast]
theorem unrL_st {xs : List Int} {r : Nat} (k : Nat) (hk : k ≤ xs.length) : stL (unrL xs r) k = (unS xs r k).1 := by
  induction k with
  | zero => rfl
  | succ k ih => rw [stL, ih (by omega), unrL_wN (by omega), unS_succ]
theorem unr_lin {xs : List Int} {r : Nat} (hr : r < ends xs 0) : LinX xs (unrL xs r) := by
  refine ⟨mkL_length _ _, fun k hk => ?_, fun k hk => ?_⟩
  · rw [unrL_wN hk]
    refine ⟨?_, unE_lt hr hk⟩
    unfold unrL; rw [mkL_getD hk]
  · rw [unrL_st k (by omega), unrL_wN hk]
    have h := unS_ok hr k (by omega)
    obtain ⟨a, b, c⟩ := h.pick hk
    exact (h.step hk a b c).1
theorem rkS_st (xs ws : List Int) (k : Nat) : (rkS xs ws k).2 = stL ws k := by
  induction k with
  | zero => rfl
  | succ k ih => show (rkS xs ws k).2 ||| _ = _; rw [ih]; rfl
theorem rkS_fst (xs ws : List Int) (k : Nat) : (rkS xs ws (k + 1)).1 = (rkS xs ws k).1 + sumN (nterm xs (stL ws k)) (wN ws k) := by
  show (rkS xs ws k).1 + sumN (nterm xs (rkS xs ws k).2) _ = _
  rw [rkS_st]; rfl
theorem rank_part {xs : List Int} {r : Nat} (hr : r < ends xs 0) (k : Nat) (hk : k ≤ xs.length) : (rkS xs (unrL xs r) k).1 + (unS xs r k).2 = r := by
  induction k with
  | zero => show 0 + r = r; omega
  | succ k ih =>
    have h := unS_ok hr k (by omega)
    obtain ⟨a, b, c⟩ := h.pick (by omega)
    rw [rkS_fst, unrL_st k (by omega), unrL_wN (by omega), unS_succ]
    have := ih (by omega)
    simp only
    unfold unE
    omega
theorem ends_full {xs : List Int} {s : Nat} (h : s = 2 ^ xs.length - 1) : ends xs s = 1 := ends_top (by omega)
theorem rank_unr {xs : List Int} {r : Nat} (hr : r < ends xs 0) : rankN xs (unrL xs r) = r := by
  have h := unS_ok hr xs.length (Nat.le_refl _)
  have h1 := h.rank
  rw [ends_full (cntB_all h.set h.cnt)] at h1
  have h2 := rank_part hr xs.length (Nat.le_refl _)
  unfold rankN
  rw [show (unrL xs r).length = xs.length from mkL_length _ _]
  omega
/-- the rank that the last d places make -/
def tlN (xs ws : List Int) : Nat → Nat
  | 0 => 0
  | d + 1 => sumN (nterm xs (stL ws (xs.length - (d + 1)))) (wN ws (xs.length - (d + 1))) + tlN xs ws d
theorem LinX.tail {xs ws : List Int} (h : LinX xs ws) (d : Nat) (hd : d ≤ xs.length) : tlN xs ws d < ends xs (stL ws (xs.length - d)) ∧ (rkS xs ws (xs.length - d)).1 + tlN xs ws d = rankN xs ws := by
  induction d with
  | zero =>
    refine ⟨?_, ?_⟩
    · rw [Nat.sub_zero, h.full, ends_full rfl]; exact Nat.zero_lt_one
    · rw [Nat.sub_zero]; unfold rankN; rw [h.len]; rfl
  | succ d ih =>
    obtain ⟨h1, h2⟩ := ih (by omega)
    obtain ⟨k, hk⟩ : ∃ k, xs.length - (d + 1) = k := ⟨_, rfl⟩
    have hk1 : xs.length - d = k + 1 := by omega
    have hkl : k < xs.length := by omega
    rw [hk1] at h1 h2
    rw [tlN, hk]
    rw [rkS_fst] at h2
    have hs := h.stp k hkl
    rw [stL, ← nterm_yes hs] at h1
    have hlow : stL ws k < 2 ^ xs.length - 1 := by
      rcases Nat.lt_or_ge (stL ws k) (2 ^ xs.length - 1) with h3 | h3
      · exact h3
      · have h4 := h.lt k (by omega)
        have h5 := cntB_full (show 2 ^ xs.length - 1 = stL ws k by omega)
        have h6 := h.cnt k (by omega)
        omega
    refine ⟨?_, by omega⟩
    rw [ends_low hlow]
    have h3 := sumN_mono (nterm xs (stL ws k)) (show wN ws k + 1 ≤ xs.length from (h.rng k hkl).2)
    simp only [sumN] at h3
    omega
theorem LinX.rank_lt {xs ws : List Int} (h : LinX xs ws) : rankN xs ws < ends xs 0 := by
  obtain ⟨h1, h2⟩ := h.tail xs.length (Nat.le_refl _)
  rw [Nat.sub_self] at h1 h2
  have h3 : (rkS xs ws 0).1 = 0 := rfl
  have h4 : stL ws 0 = 0 := rfl
  rw [h4] at h1
  omega
theorem LinX.un {xs ws : List Int} (h : LinX xs ws) (k : Nat) (hk : k ≤ xs.length) : unS xs (rankN xs ws) k = (stL ws k, tlN xs ws (xs.length - k)) ∧ ∀ j, j < k → unE xs (rankN xs ws) j = wN ws j := by
  induction k with
  | zero =>
    refine ⟨?_, fun j hj => by omega⟩
    have h2 := (h.tail xs.length (Nat.le_refl _)).2
    rw [Nat.sub_self] at h2
    have h3 : (rkS xs ws 0).1 = 0 := rfl
    rw [Nat.sub_zero]
    refine Prod.ext rfl ?_
    show rankN xs ws = tlN xs ws xs.length
    omega
  | succ k ih =>
    obtain ⟨h1, h2⟩ := ih (by omega)
    have hkl : k < xs.length := by omega
    have hT : tlN xs ws (xs.length - k) = sumN (nterm xs (stL ws k)) (wN ws k) + tlN xs ws (xs.length - (k + 1)) := by
      rw [show xs.length - k = (xs.length - (k + 1)) + 1 by omega, tlN, show xs.length - (xs.length - (k + 1) + 1) = k by omega]
    have h3 := (h.tail (xs.length - (k + 1)) (by omega)).1
    rw [show xs.length - (xs.length - (k + 1)) = k + 1 by omega, stL, ← nterm_yes (h.stp k hkl)] at h3
    have hE : unE xs (rankN xs ws) k = wN ws k := by
      unfold unE
      rw [h1]
      refine pick_eq ?_ ?_ _ (h.rng k hkl).2
      · show sumN (nterm xs (stL ws k)) (wN ws k) ≤ tlN xs ws (xs.length - k)
        rw [hT]; omega
      · show tlN xs ws (xs.length - k) < sumN (nterm xs (stL ws k)) (wN ws k) + nterm xs (stL ws k) (wN ws k)
        rw [hT]; omega
    refine ⟨?_, fun j hj => ?_⟩
    · rw [unS_succ, hE, h1]
      refine Prod.ext rfl ?_
      show tlN xs ws (xs.length - k) - sumN (nterm xs (stL ws k)) (wN ws k) = tlN xs ws (xs.length - (k + 1))
      rw [hT]; omega
    · by_cases e : j = k
      · subst e; exact hE
      · exact h2 j (by omega)
theorem LinX.unr {xs ws : List Int} (h : LinX xs ws) : unrL xs (rankN xs ws) = ws :=
  (unr_lin h.rank_lt).ext h fun j hj => by rw [unrL_wN hj]; exact (h.un xs.length (Nat.le_refl _)).2 j hj

/-! ### toggles -/
theorem swap_wN {ws : List Int} {i : Nat} (hi : i + 1 < ws.length) (j : Nat) : wN (swapL ws i) j = if j = i then wN ws (i + 1) else if j = i + 1 then wN ws i else wN ws j := by
  unfold wN; rw [swapL_getD ws i j hi]
  split
  · rfl
  · split <;> rfl
theorem swap_st_lo {ws : List Int} {i : Nat} (hi : i + 1 < ws.length) (k : Nat) (hk : k ≤ i) : stL (swapL ws i) k = stL ws k := by
  induction k with
  | zero => rfl
  | succ k ih => rw [stL, stL, ih (by omega), swap_wN hi, if_neg (by omega), if_neg (by omega)]
theorem swap_st_mid {ws : List Int} {i : Nat} (hi : i + 1 < ws.length) : stL (swapL ws i) (i + 1) = stL ws i ||| 2 ^ wN ws (i + 1) := by
  rw [stL, swap_st_lo hi i (Nat.le_refl _), swap_wN hi, if_pos rfl]
theorem swap_st_hi {ws : List Int} {i : Nat} (hi : i + 1 < ws.length) (k : Nat) : stL (swapL ws i) (i + 2 + k) = stL ws (i + 2 + k) := by
  induction k with
  | zero =>
    show stL (swapL ws i) (i + 1 + 1) = stL ws (i + 1 + 1)
    rw [stL, swap_st_mid hi, swap_wN hi, if_neg (by omega), if_pos rfl]
    show _ = stL ws i ||| 2 ^ wN ws i ||| 2 ^ wN ws (i + 1)
    rw [Nat.or_assoc, Nat.or_assoc, Nat.or_comm (2 ^ wN ws (i + 1))]
  | succ k ih =>
    show stL (swapL ws i) (i + 2 + k + 1) = stL ws (i + 2 + k + 1)
    rw [stL, stL, ih, swap_wN hi, if_neg (by omega), if_neg (by omega)]
theorem LinX.swap {xs ws : List Int} (h : LinX xs ws) {i : Nat} (hi : i + 1 < xs.length) (hn : (row xs (wN ws (i + 1))).testBit (wN ws i) = false) : LinX xs (swapL ws i) := by
  have hw : i + 1 < ws.length := by rw [h.len]; exact hi
  have hrng : ∀ k, k < xs.length → (swapL ws i).getD k 0 = (wN (swapL ws i) k : Int) ∧ wN (swapL ws i) k < xs.length := by
    intro k hk
    rw [swap_wN hw, swapL_getD ws i k hw]
    split
    · exact h.rng _ hi
    · split
      · exact h.rng i (by omega)
      · exact h.rng k hk
  refine ⟨by rw [swapL_length]; exact h.len, hrng, fun k hk => ?_⟩
  have hs1 := h.stp (i + 1) hi
  have hs0 := h.stp i (by omega)
  rcases (by omega : k < i ∨ k = i ∨ k = i + 1 ∨ i + 2 ≤ k) with hk1 | hk1 | hk1 | hk1
  · rw [swap_st_lo hw k (by omega), swap_wN hw, if_neg (by omega), if_neg (by omega)]
    exact h.stp k hk
  · subst hk1
    rw [swap_st_lo hw k (Nat.le_refl _), swap_wN hw, if_pos rfl]
    have hb := stepP_bit hs1
    simp only [stepP, Bool.and_eq_true, Bool.not_eq_true', beq_iff_eq]
    refine ⟨?_, (sub_eq_zero _ _).2 fun j hj => ?_⟩
    · rw [stL, Nat.testBit_or, Bool.or_eq_false_iff] at hb; exact hb.1
    · have := stepP_sub hs1 hj
      rw [stL, Nat.testBit_or, Bool.or_eq_true, Nat.testBit_two_pow] at this
      rcases this with h1 | h1
      · exact h1
      · have : wN ws k = j := by simpa using h1
        subst this
        rw [hn] at hj; cases hj
  · subst hk1
    rw [swap_st_mid hw, swap_wN hw, if_neg (by omega), if_pos rfl]
    have hb := stepP_bit hs0
    simp only [stepP, Bool.and_eq_true, Bool.not_eq_true', beq_iff_eq]
    refine ⟨?_, (sub_eq_zero _ _).2 fun j hj => ?_⟩
    · rw [Nat.testBit_or, hb, Nat.testBit_two_pow]
      have := h.ne (Nat.lt_succ_self i) hi
      simp [Ne.symm this]
    · rw [Nat.testBit_or, stepP_sub hs0 hj]; rfl
  · obtain ⟨d, rfl⟩ : ∃ d, k = i + 2 + d := ⟨k - i - 2, by omega⟩
    rw [swap_st_hi hw, swap_wN hw, if_neg (by omega), if_neg (by omega)]
    exact h.stp _ hk
theorem togL_wN (xs ws : List Int) (i : Nat) : togL xs ws i = if (row xs (wN ws (i + 1))).testBit (wN ws i) = true then ws else swapL ws i := rfl
theorem LinX.tog {xs ws : List Int} (h : LinX xs ws) {i : Nat} (hi : i + 1 < xs.length) : LinX xs (togL xs ws i) := by
  rw [togL_wN]
  cases hb : (row xs (wN ws (i + 1))).testBit (wN ws i)
  · rw [if_neg (by decide)]; exact h.swap hi hb
  · rw [if_pos rfl]; exact h
theorem LinX.tog_tog {xs ws : List Int} (h : LinX xs ws) {i : Nat} (hi : i + 1 < xs.length) : togL xs (togL xs ws i) i = ws := by
  have hw : i + 1 < ws.length := by rw [h.len]; exact hi
  rw [togL_wN xs ws i]
  cases hb : (row xs (wN ws (i + 1))).testBit (wN ws i)
  · have e1 : wN (swapL ws i) i = wN ws (i + 1) := by rw [swap_wN hw, if_pos rfl]
    have e2 : wN (swapL ws i) (i + 1) = wN ws i := by rw [swap_wN hw, if_neg (by omega), if_pos rfl]
    rw [if_neg (by decide), togL_wN, e1, e2]
    have h2 := h.swap hi hb
    cases hb2 : (row xs (wN ws i)).testBit (wN ws (i + 1))
    · rw [if_neg (by decide)]
      have hw2 : i + 1 < (swapL ws i).length := by rw [swapL_length]; exact hw
      refine LinX.ext (xs := xs) (h2.swap hi ?_) h fun j hj => ?_
      · rw [e1, e2]; exact hb2
      · rw [swap_wN hw2, e1, e2, swap_wN hw]
        split
        · rename_i e; rw [e]
        · split
          · rename_i e; rw [e]
          · rfl
    · exfalso
      obtain ⟨j, h3, h4⟩ := h.before (k := i) (by omega) hb2
      exact h.ne (show j < i + 1 by omega) hi h4
  · rw [if_pos rfl, togL_wN, if_pos hb]
theorem LinX.up {xs ws : List Int} (h : LinX xs ws) (k : Nat) (hk : k + 1 ≤ xs.length) : LinX xs (upL xs k ws) := by
  induction k with
  | zero => exact h
  | succ k ih => rw [upL_succ]; exact (ih (by omega)).tog (by omega)
theorem LinX.pro {xs ws : List Int} (h : LinX xs ws) (h1 : 1 ≤ xs.length) : LinX xs (pro1 xs ws) := h.up _ (by omega)
theorem LinX.down_up {xs ws : List Int} (h : LinX xs ws) {t : Nat} (ht : t + 1 ≤ xs.length) (k : Nat) (hk : k ≤ t) : downL xs t k (upL xs t ws) = upL xs (t - k) ws := by
  induction k with
  | zero => rfl
  | succ k ih =>
    rw [downL_succ, ih (by omega), show t - k = (t - 1 - k) + 1 by omega, upL_succ, (h.up (t - 1 - k) (by omega)).tog_tog (by omega), show t - (k + 1) = t - 1 - k by omega]
theorem LinX.orp_pro {xs ws : List Int} (h : LinX xs ws) (h1 : 1 ≤ xs.length) : orp1 xs (pro1 xs ws) = ws := by
  unfold orp1 pro1
  rw [h.down_up (by omega) _ (Nat.le_refl _), Nat.sub_self]; rfl
/-- promotion, on ranks -/
def proR (xs : List Int) (r : Nat) : Nat := rankN xs (pro1 xs (unrL xs r))
def ltB (N r : Nat) : Bool := decide (r < N)
theorem proMov {xs : List Int} (h1 : 1 ≤ xs.length) : Mov (proR xs) (ltB (ends xs 0)) (ends xs 0) where
  lt s h := by simpa [ltB] using h
  ins s h := by
    have hs : s < ends xs 0 := by simpa [ltB] using h
    have := ((unr_lin hs).pro h1).rank_lt
    exact decide_eq_true this
  inj s t h k e := by
    have hs : s < ends xs 0 := by simpa [ltB] using h
    have ht : t < ends xs 0 := by simpa [ltB] using k
    have a := ((unr_lin hs).pro h1).unr
    have b := ((unr_lin ht).pro h1).unr
    unfold proR at e
    rw [e, b] at a
    have c := congrArg (orp1 xs) a
    rw [(unr_lin hs).orp_pro h1, (unr_lin ht).orp_pro h1] at c
    have d := congrArg (rankN xs) c
    rw [rank_unr hs, rank_unr ht] at d
    exact d.symm
theorem it_unr {xs : List Int} (h1 : 1 ≤ xs.length) {r : Nat} (hr : r < ends xs 0) (k : Nat) : turnN (fun _ => pro1 xs) k (unrL xs r) = unrL xs (iter (proR xs) k r) ∧ iter (proR xs) k r < ends xs 0 := by
  have hlt : ∀ k, iter (proR xs) k r < ends xs 0 := fun k => by
    have := (proMov h1).it (s := r) (by simpa [ltB] using hr) k
    simpa [ltB] using this
  refine ⟨?_, hlt k⟩
  induction k with
  | zero => rfl
  | succ k ih =>
    rw [turnN, ih]
    show pro1 xs (unrL xs (iter (proR xs) k r)) = unrL xs (proR xs (iter (proR xs) k r))
    unfold proR
    exact ((unr_lin (hlt k)).pro h1).unr.symm
theorem unr_inj {xs : List Int} {r s : Nat} (hr : r < ends xs 0) (hs : s < ends xs 0) (e : unrL xs r = unrL xs s) : r = s := by
  have := congrArg (rankN xs) e
  rwa [rank_unr hr, rank_unr hs] at this
end Go.Proofs.Ytnlehkjfidpdlab
