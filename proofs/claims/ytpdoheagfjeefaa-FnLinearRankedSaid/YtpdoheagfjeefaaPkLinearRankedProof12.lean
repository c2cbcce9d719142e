/- Texts LinP, DrL, DrM, one behind the other. -/
import Derived.Test.YtpdoheagfjeefaaPkLinearRankedProof06
import Derived.Test.YtpdoheagfjeefaaPkLinearRankedProof08
import Derived.Test.YtpdoheagfjeefaaPkLinearRankedProof10
import Derived.Test.YtpdoheagfjeefaaPkLinearRankedProof11
/- Linear extensions as what they are: places, ranks and lists tell each other, toggles undo themselves, promotion moves the ranks. No program is named here. -/
namespace Go.Proofs.Ytpdoheagfjeefaa
set_option linter.unusedVariables false

/-! ### ranks -/
theorem unrL_wN {xs : List Int} {r k : Nat} (hk : k < xs.length) : wN (unrL xs r) k = unE xs r k := by
  unfold wN unrL; rw [mkL_getD hk, Int.toNat_natCast]
theorem unrL_st {xs : List Int} {r : Nat} (k : Nat) (hk : k ≤ xs.length) : stL (unrL xs r) k = (unS xs r k).1 := by
  induction k with
  | zero => rfl
  | succ k ih => rw [stL, ih (by omega), unrL_wN (by omega), unS_succ]
theorem unr_lin {xs : List Int} {r : Nat} (hr : r < ends xs 0) : LinX xs (unrL xs r) := by
  refine ⟨mkL_length _ _, fun k hk => ?_, fun k hk => ?_⟩
  · rw [unrL_wN hk]
    refine ⟨?_, unE_lt hr hk⟩
    unfold unrL; rw [mkL_getD hk]
  · rw [unrL_st k (by omega), unrL_wN hk]
    have h := unS_ok hr k (by omega)
    obtain ⟨a, b, c⟩ := h.pick hk
    exact (h.step hk a b c).1
theorem rkS_st (xs ws : List Int) (k : Nat) : (rkS xs ws k).2 = stL ws k := by
  induction k with
  | zero => rfl
  | succ k ih => show (rkS xs ws k).2 ||| _ = _; rw [ih]; rfl
theorem rkS_fst (xs ws : List Int) (k : Nat) : (rkS xs ws (k + 1)).1 = (rkS xs ws k).1 + sumN (nterm xs (stL ws k)) (wN ws k) := by
  show (rkS xs ws k).1 + sumN (nterm xs (rkS xs ws k).2) _ = _
  rw [rkS_st]; rfl
theorem rank_part {xs : List Int} {r : Nat} (hr : r < ends xs 0) (k : Nat) (hk : k ≤ xs.length) : (rkS xs (unrL xs r) k).1 + (unS xs r k).2 = r := by
  induction k with
  | zero => show 0 + r = r; omega
  | succ k ih =>
    have h := unS_ok hr k (by omega)
    obtain ⟨a, b, c⟩ := h.pick (by omega)
    rw [rkS_fst, unrL_st k (by omega), unrL_wN (by omega), unS_succ]
    have := ih (by omega)
    simp only
    unfold unE
    omega
theorem ends_full {xs : List Int} {s : Nat} (h : s = 2 ^ xs.length - 1) : ends xs s = 1 := ends_top (by omega)
theorem rank_unr {xs : List Int} {r : Nat} (hr : r < ends xs 0) : rankN xs (unrL xs r) = r := by
  have h := unS_ok hr xs.length (Nat.le_refl _)
  have h1 := h.rank
  rw [ends_full (cntB_all h.set h.cnt)] at h1
  have h2 := rank_part hr xs.length (Nat.le_refl _)
  unfold rankN
  rw [show (unrL xs r).length = xs.length from mkL_length _ _]
  omega
/-- the rank that the last d places make -/
def tlN (xs ws : List Int) : Nat → Nat
  | 0 => 0
  | d + 1 => sumN (nterm xs (stL ws (xs.length - (d + 1)))) (wN ws (xs.length - (d + 1))) + tlN xs ws d
theorem LinX.tail {xs ws : List Int} (h : LinX xs ws) (d : Nat) (hd : d ≤ xs.length) : tlN xs ws d < ends xs (stL ws (xs.length - d)) ∧ (rkS xs ws (xs.length - d)).1 + tlN xs ws d = rankN xs ws := by
  induction d with
  | zero =>
    refine ⟨?_, ?_⟩
    · rw [Nat.sub_zero, h.full, ends_full rfl]; exact Nat.zero_lt_one
    · rw [Nat.sub_zero]; unfold rankN; rw [h.len]; rfl
  | succ d ih =>
    obtain ⟨h1, h2⟩ := ih (by omega)
    obtain ⟨k, hk⟩ : ∃ k, xs.length - (d + 1) = k := ⟨_, rfl⟩
    have hk1 : xs.length - d = k + 1 := by omega
    have hkl : k < xs.length := by omega
    rw [hk1] at h1 h2
    rw [tlN, hk]
    rw [rkS_fst] at h2
    have hs := h.stp k hkl
    rw [stL, ← nterm_yes hs] at h1
    have hlow : stL ws k < 2 ^ xs.length - 1 := by
      rcases Nat.lt_or_ge (stL ws k) (2 ^ xs.length - 1) with h3 | h3
      · exact h3
      · have h4 := h.lt k (by omega)
        have h5 := cntB_full (show 2 ^ xs.length - 1 = stL ws k by omega)
        have h6 := h.cnt k (by omega)
        omega
    refine ⟨?_, by omega⟩
    rw [ends_low hlow]
    have h3 := sumN_mono (nterm xs (stL ws k)) (show wN ws k + 1 ≤ xs.length from (h.rng k hkl).2)
    simp only [sumN] at h3
    omega
theorem LinX.rank_lt {xs ws : List Int} (h : LinX xs ws) : rankN xs ws < ends xs 0 := by
  obtain ⟨h1, h2⟩ := h.tail xs.length (Nat.le_refl _)
  rw [Nat.sub_self] at h1 h2
  have h3 : (rkS xs ws 0).1 = 0 := rfl
  have h4 : stL ws 0 = 0 := rfl
  rw [h4] at h1
  omega
theorem LinX.un {xs ws : List Int} (h : LinX xs ws) (k : Nat) (hk : k ≤ xs.length) : unS xs (rankN xs ws) k = (stL ws k, tlN xs ws (xs.length - k)) ∧ ∀ j, j < k → unE xs (rankN xs ws) j = wN ws j := by
  induction k with
  | zero =>
    refine ⟨?_, fun j hj => by omega⟩
    have h2 := (h.tail xs.length (Nat.le_refl _)).2
    rw [Nat.sub_self] at h2
    have h3 : (rkS xs ws 0).1 = 0 := rfl
    rw [Nat.sub_zero]
    refine Prod.ext rfl ?_
    show rankN xs ws = tlN xs ws xs.length
    omega
  | succ k ih =>
    obtain ⟨h1, h2⟩ := ih (by omega)
    have hkl : k < xs.length := by omega
    have hT : tlN xs ws (xs.length - k) = sumN (nterm xs (stL ws k)) (wN ws k) + tlN xs ws (xs.length - (k + 1)) := by
      rw [show xs.length - k = (xs.length - (k + 1)) + 1 by omega, tlN, show xs.length - (xs.length - (k + 1) + 1) = k by omega]
    have h3 := (h.tail (xs.length - (k + 1)) (by omega)).1
    rw [show xs.length - (xs.length - (k + 1)) = k + 1 by omega, stL, ← nterm_yes (h.stp k hkl)] at h3
    have hE : unE xs (rankN xs ws) k = wN ws k := by
      unfold unE
      rw [h1]
      refine pick_eq ?_ ?_ _ (h.rng k hkl).2
      · show sumN (nterm xs (stL ws k)) (wN ws k) ≤ tlN xs ws (xs.length - k)
        rw [hT]; omega
      · show tlN xs ws (xs.length - k) < sumN (nterm xs (stL ws k)) (wN ws k) + nterm xs (stL ws k) (wN ws k)
        rw [hT]; omega
    refine ⟨?_, fun j hj => ?_⟩
    · rw [unS_succ, hE, h1]
      refine Prod.ext rfl ?_
      show tlN xs ws (xs.length - k) - sumN (nterm xs (stL ws k)) (wN ws k) = tlN xs ws (xs.length - (k + 1))
      rw [hT]; omega
    · by_cases e : j = k
      · subst e; exact hE
      · exact h2 j (by omega)
theorem LinX.unr {xs ws : List Int} (h : LinX xs ws) : unrL xs (rankN xs ws) = ws :=
  (unr_lin h.rank_lt).ext h fun j hj => by rw [unrL_wN hj]; exact (h.un xs.length (Nat.le_refl _)).2 j hj

/-! ### toggles -/
theorem swap_wN {ws : List Int} {i : Nat} (hi : i + 1 < ws.length) (j : Nat) : wN (swapL ws i) j = if j = i then wN ws (i + 1) else if j = i + 1 then wN ws i else wN ws j := by
  unfold wN; rw [swapL_getD ws i j hi]
  split
  · rfl
  · split <;> rfl
theorem swap_st_lo {ws : List Int} {i : Nat} (hi : i + 1 < ws.length) (k : Nat) (hk : k ≤ i) : stL (swapL ws i) k = stL ws k := by
  induction k with
  | zero => rfl
  | succ k ih => rw [stL, stL, ih (by omega), swap_wN hi, if_neg (by omega), if_neg (by omega)]
theorem swap_st_mid {ws : List Int} {i : Nat} (hi : i + 1 < ws.length) : stL (swapL ws i) (i + 1) = stL ws i ||| 2 ^ wN ws (i + 1) := by
  rw [stL, swap_st_lo hi i (Nat.le_refl _), swap_wN hi, if_pos rfl]
theorem swap_st_hi {ws : List Int} {i : Nat} (hi : i + 1 < ws.length) (k : Nat) : stL (swapL ws i) (i + 2 + k) = stL ws (i + 2 + k) := by
  induction k with
  | zero =>
    show stL (swapL ws i) (i + 1 + 1) = stL ws (i + 1 + 1)
    rw [stL, swap_st_mid hi, swap_wN hi, if_neg (by omega), if_pos rfl]
    show _ = stL ws i ||| 2 ^ wN ws i ||| 2 ^ wN ws (i + 1)
    rw [Nat.or_assoc, Nat.or_assoc, Nat.or_comm (2 ^ wN ws (i + 1))]
  | succ k ih =>
    show stL (swapL ws i) (i + 2 + k + 1) = stL ws (i + 2 + k + 1)
    rw [stL, stL, ih, swap_wN hi, if_neg (by omega), if_neg (by omega)]
theorem LinX.swap {xs ws : List Int} (h : LinX xs ws) {i : Nat} (hi : i + 1 < xs.length) (hn : (row xs (wN ws (i + 1))).testBit (wN ws i) = false) : LinX xs (swapL ws i) := by
  have hw : i + 1 < ws.length := by rw [h.len]; exact hi
  have hrng : ∀ k, k < xs.length → (swapL ws i).getD k 0 = (wN (swapL ws i) k : Int) ∧ wN (swapL ws i) k < xs.length := by
    intro k hk
    rw [swap_wN hw, swapL_getD ws i k hw]
    split
    · exact h.rng _ hi
    · split
      · exact h.rng i (by omega)
      · exact h.rng k hk
  refine ⟨by rw [swapL_length]; exact h.len, hrng, fun k hk => ?_⟩
  have hs1 := h.stp (i + 1) hi
  have hs0 := h.stp i (by omega)
  rcases (by omega : k < i ∨ k = i ∨ k = i + 1 ∨ i + 2 ≤ k) with hk1 | hk1 | hk1 | hk1
  · rw [swap_st_lo hw k (by omega), swap_wN hw, if_neg (by omega), if_neg (by omega)]
    exact h.stp k hk
  · subst hk1
    rw [swap_st_lo hw k (Nat.le_refl _), swap_wN hw, if_pos rfl]
    have hb := stepP_bit hs1
    simp only [stepP, Bool.and_eq_true, Bool.not_eq_true', beq_iff_eq]
    refine ⟨?_, (sub_eq_zero _ _).2 fun j hj => ?_⟩
    · rw [stL, Nat.testBit_or, Bool.or_eq_false_iff] at hb; exact hb.1
    · have := stepP_sub hs1 hj
      rw [stL, Nat.testBit_or, Bool.or_eq_true, Nat.testBit_two_pow] at this
      rcases this with h1 | h1
      · exact h1
      · have : wN ws k = j := by simpa using h1
        subst this
        rw [hn] at hj; cases hj
  · subst hk1
    rw [swap_st_mid hw, swap_wN hw, if_neg (by omega), if_pos rfl]
    have hb := stepP_bit hs0
    simp only [stepP, Bool.and_eq_true, Bool.not_eq_true', beq_iff_eq]
    refine ⟨?_, (sub_eq_zero _ _).2 fun j hj => ?_⟩
    · rw [Nat.testBit_or, hb, Nat.testBit_two_pow]
      have := h.ne (Nat.lt_succ_self i) hi
      simp [Ne.symm this]
    · rw [Nat.testBit_or, stepP_sub hs0 hj]; rfl
  · obtain ⟨d, rfl⟩ : ∃ d, k = i + 2 + d := ⟨k - i - 2, by omega⟩
    rw [swap_st_hi hw, swap_wN hw, if_neg (by omega), if_neg (by omega)]
    exact h.stp _ hk
theorem togL_wN (xs ws : List Int) (i : Nat) : togL xs ws i = if (row xs (wN ws (i + 1))).testBit (wN ws i) = true then ws else swapL ws i := rfl
theorem LinX.tog {xs ws : List Int} (h : LinX xs ws) {i : Nat} (hi : i + 1 < xs.length) : LinX xs (togL xs ws i) := by
  rw [togL_wN]
  cases hb : (row xs (wN ws (i + 1))).testBit (wN ws i)
  · rw [if_neg (by decide)]; exact h.swap hi hb
  · rw [if_pos rfl]; exact h
theorem LinX.tog_tog {xs ws : List Int} (h : LinX xs ws) {i : Nat} (hi : i + 1 < xs.length) : togL xs (togL xs ws i) i = ws := by
  have hw : i + 1 < ws.length := by rw [h.len]; exact hi
  rw [togL_wN xs ws i]
  cases hb : (row xs (wN ws (i + 1))).testBit (wN ws i)
  · have e1 : wN (swapL ws i) i = wN ws (i + 1) := by rw [swap_wN hw, if_pos rfl]
    have e2 : wN (swapL ws i) (i + 1) = wN ws i := by rw [swap_wN hw, if_neg (by omega), if_pos rfl]
    rw [if_neg (by decide), togL_wN, e1, e2]
    have h2 := h.swap hi hb
    cases hb2 : (row xs (wN ws i)).testBit (wN ws (i + 1))
    · rw [if_neg (by decide)]
      have hw2 : i + 1 < (swapL ws i).length := by rw [swapL_length]; exact hw
      refine LinX.ext (xs := xs) (h2.swap hi ?_) h fun j hj => ?_
      · rw [e1, e2]; exact hb2
      · rw [swap_wN hw2, e1, e2, swap_wN hw]
        split
        · rename_i e; rw [e]
        · split
          · rename_i e; rw [e]
          · rfl
    · exfalso
      obtain ⟨j, h3, h4⟩ := h.before (k := i) (by omega) hb2
      exact h.ne (show j < i + 1 by omega) hi h4
  · rw [if_pos rfl, togL_wN, if_pos hb]
theorem LinX.up {xs ws : List Int} (h : LinX xs ws) (k : Nat) (hk : k + 1 ≤ xs.length) : LinX xs (upL xs k ws) := by
  induction k with
  | zero => exact h
  | succ k ih => rw [upL_succ]; exact (ih (by omega)).tog (by omega)
theorem LinX.pro {xs ws : List Int} (h : LinX xs ws) (h1 : 1 ≤ xs.length) : LinX xs (pro1 xs ws) := h.up _ (by omega)
theorem LinX.down_up {xs ws : List Int} (h : LinX xs ws) {t : Nat} (ht : t + 1 ≤ xs.length) (k : Nat) (hk : k ≤ t) : downL xs t k (upL xs t ws) = upL xs (t - k) ws := by
  induction k with
  | zero => rfl
  | succ k ih =>
    rw [downL_succ, ih (by omega), show t - k = (t - 1 - k) + 1 by omega, upL_succ, (h.up (t - 1 - k) (by omega)).tog_tog (by omega), show t - (k + 1) = t - 1 - k by omega]
theorem LinX.orp_pro {xs ws : List Int} (h : LinX xs ws) (h1 : 1 ≤ xs.length) : orp1 xs (pro1 xs ws) = ws := by
  unfold orp1 pro1
  rw [h.down_up (by omega) _ (Nat.le_refl _), Nat.sub_self]; rfl
/-- promotion, on ranks -/
def proR (xs : List Int) (r : Nat) : Nat := rankN xs (pro1 xs (unrL xs r))
def ltB (N r : Nat) : Bool := decide (r < N)
theorem proMov {xs : List Int} (h1 : 1 ≤ xs.length) : Mov (proR xs) (ltB (ends xs 0)) (ends xs 0) where
  lt s h := by simpa [ltB] using h
  ins s h := by
    have hs : s < ends xs 0 := by simpa [ltB] using h
    have := ((unr_lin hs).pro h1).rank_lt
    exact decide_eq_true this
  inj s t h k e := by
    have hs : s < ends xs 0 := by simpa [ltB] using h
    have ht : t < ends xs 0 := by simpa [ltB] using k
    have a := ((unr_lin hs).pro h1).unr
    have b := ((unr_lin ht).pro h1).unr
    unfold proR at e
    rw [e, b] at a
    have c := congrArg (orp1 xs) a
    rw [(unr_lin hs).orp_pro h1, (unr_lin ht).orp_pro h1] at c
    have d := congrArg (rankN xs) c
    rw [rank_unr hs, rank_unr ht] at d
    exact d.symm
theorem it_unr {xs : List Int} (h1 : 1 ≤ xs.length) {r : Nat} (hr : r < ends xs 0) (k : Nat) : turnN (fun _ => pro1 xs) k (unrL xs r) = unrL xs (iter (proR xs) k r) ∧ iter (proR xs) k r < ends xs 0 := by
  have hlt : ∀ k, iter (proR xs) k r < ends xs 0 := fun k => by
    have := (proMov h1).it (s := r) (by simpa [ltB] using hr) k
    simpa [ltB] using this
  refine ⟨?_, hlt k⟩
  induction k with
  | zero => rfl
  | succ k ih =>
    rw [turnN, ih]
    show pro1 xs (unrL xs (iter (proR xs) k r)) = unrL xs (proR xs (iter (proR xs) k r))
    unfold proR
    exact ((unr_lin (hlt k)).pro h1).unr.symm
theorem unr_inj {xs : List Int} {r s : Nat} (hr : r < ends xs 0) (hs : s < ends xs 0) (e : unrL xs r = unrL xs s) : r = s := by
  have := congrArg (rankN xs) e
  rwa [rank_unr hr, rank_unr hs] at this
end Go.Proofs.Ytpdoheagfjeefaa

/- Draws of the model: linear extensions, and posets with few of them. -/
namespace Go.Proofs.Ytpdoheagfjeefaa
open Go.RowKit Go.WideShapes Go.ChangeShapes
set_option linter.unusedVariables false

theorem stepP_id {xs : List Int} (hg : good xs = true) {k : Nat} (hk : k < xs.length) : stepP xs (2 ^ k - 1) k = true := by
  simp only [stepP, Bool.and_eq_true, Bool.not_eq_true', beq_iff_eq]
  refine ⟨by rw [Nat.testBit_two_pow_sub_one]; simp, (sub_eq_zero _ _).2 fun j hj => ?_⟩
  rw [Nat.testBit_two_pow_sub_one]
  have := row_less hg hk hj
  simp [this]
theorem or_id (k : Nat) : (2 ^ k - 1) ||| 2 ^ k = 2 ^ (k + 1) - 1 := by
  apply Nat.eq_of_testBit_eq
  intro j
  rw [Nat.testBit_or, Nat.testBit_two_pow_sub_one, Nat.testBit_two_pow_sub_one, Nat.testBit_two_pow]
  rcases (by omega : j < k ∨ j = k ∨ k < j) with h | h | h
  · simp [h, show j < k + 1 by omega]
  · simp [h]
  · simp [show ¬ j < k by omega, show ¬ j < k + 1 by omega, show ¬ k = j by omega]
theorem le_sumN (f : Nat → Nat) {k i : Nat} (hi : i < k) : f i ≤ sumN f k := by
  have := sumN_mono f (show i + 1 ≤ k by omega)
  have h2 : sumN f (i + 1) = sumN f i + f i := rfl
  omega
/-- each poset has a linear extension: its elements in order -/
theorem ends_some {xs : List Int} (hg : good xs = true) (d : Nat) : ∀ k, k ≤ xs.length → xs.length - k ≤ d → 1 ≤ ends xs (2 ^ k - 1) := by
  induction d with
  | zero =>
    intro k hk hd
    rw [show k = xs.length by omega, ends_full rfl]
    exact Nat.le_refl _
  | succ d ih =>
    intro k hk hd
    rcases Nat.lt_or_ge k xs.length with h | h
    · have h2 : 2 ^ k - 1 < 2 ^ xs.length - 1 := by
        have h3 := Nat.pow_lt_pow_right (a := 2) (by decide) h
        have h4 := Nat.two_pow_pos k
        omega
      rw [ends_low h2]
      refine Nat.le_trans ?_ (le_sumN _ h)
      rw [nterm_yes (stepP_id hg h), or_id]
      exact ih (k + 1) (by omega) (by omega)
    · rw [show k = xs.length by omega, ends_full rfl]
      exact Nat.le_refl _
theorem cnt_some {xs : List Int} (hg : good xs = true) : 1 ≤ ends xs 0 := ends_some hg xs.length 0 (Nat.zero_le _) (by omega)
structure LiS (w : World) (g A B5 gC N : Nat) (v : Value) (xs : List Int) (W : World) : Prop where
  own : OwnI 3 W (w.heap.size + 1) v xs
  dr : Drawn w g A W
  res : Blk W w.heap.size 26 #[.slice none 0 0]
  box : Blk W B5 26 #[v]
  tab : Blk W gC 3 (Vals (mkL N (endG xs 0)))
theorem LiS.below {w W W' : World} {g A B5 gC N : Nat} {v : Value} {xs : List Int} (h : LiS w g A B5 gC N v xs W) (hb : Below W.heap.size W W') : LiS w g A B5 gC N v xs W' :=
  ⟨h.own.below hb, h.dr.below hb, h.res.below hb h.res.lt, h.box.below hb h.box.lt, h.tab.below hb h.tab.lt⟩
theorem LiS.turned {w W W' : World} {g A A' B5 gC N : Nat} {v : Value} {xs : List Int} (h : LiS w g A B5 gC N v xs W) (hg : g < w.heap.size) (hc : Cur W' g A') (ht : TurnedIn g (g + 1) W W') (hB : w.heap.size ≤ B5) (hC : w.heap.size ≤ gC) : LiS w g A' B5 gC N v xs W' :=
  ⟨h.own.turnedLow ht (by omega), ⟨hc, h.dr.turned.trans ht⟩, h.res.turned ht (Or.inr (by omega)), h.box.turned ht (Or.inr (by omega)), h.tab.turned ht (Or.inr (by omega))⟩
theorem LiS.c0 {w W : World} {g A B5 gC N c : Nat} {v : Value} {xs : List Int} (h : LiS w g A B5 gC N v xs W) (hN : 0 < N) (hc : ends xs 0 = c) : W.cell? ⟨gC, 0, none⟩ = some (.int .i64 (c : Nat)) := by
  rw [cell_zero h.tab hN, show cntL xs = c from hc]
structure LiT (w : World) (g A B5 : Nat) (v : Value) (xs : List Int) (W : World) : Prop where
  own : OwnI 3 W (w.heap.size + 1) v xs
  dr : Drawn w g A W
  res : Blk W w.heap.size 26 #[.slice none 0 0]
  box : Blk W B5 26 #[v]
  vb : ∀ k, v.ownBlock = some k → k < B5
theorem LiT.turned {w W W' : World} {g A A' B5 : Nat} {v : Value} {xs : List Int} (h : LiT w g A B5 v xs W) (hg : g < w.heap.size) (hc : Cur W' g A') (ht : TurnedIn g (g + 1) W W') (hB : w.heap.size ≤ B5) : LiT w g A' B5 v xs W' :=
  ⟨h.own.turnedLow ht (by omega), ⟨hc, h.dr.turned.trans ht⟩, h.res.turned ht (Or.inr (by omega)), h.box.turned ht (Or.inr (by omega)), h.vb⟩
theorem OwnI.belowC {e : TypeId} {a b : World} {B C : Nat} {v : Value} {xs : List Int} (h : OwnI e a B v xs) (hb : Below C a b) (hv : ∀ k, v.ownBlock = some k → k < C) : OwnI e b B v xs := by
  obtain ⟨h1, h2⟩ := h
  refine ⟨h1, ?_⟩
  rcases h2 with h2 | ⟨g, cap, cur, rfl, hB, hh, r⟩
  · exact .inl h2
  · exact .inr ⟨g, cap, cur, rfl, hB, (hb.block g (hv g rfl)).trans hh, r⟩
theorem LiT.belowC {w W W' : World} {g A B5 : Nat} {v : Value} {xs : List Int} (h : LiT w g A B5 v xs W) (hb : Below (B5 + 1) W W') (hg : g < w.heap.size) (hB : w.heap.size + 1 ≤ B5) : LiT w g A B5 v xs W' :=
  ⟨h.own.belowC hb (fun k hk => Nat.lt_succ_of_lt (h.vb k hk)), h.dr.belowB hb (by omega) (by omega), h.res.below hb (by omega), h.box.below hb (Nat.lt_succ_self _), h.vb⟩
theorem LiT.put {w W : World} {g A B5 : Nat} {v : Value} {xs : List Int} (h : LiT w g A B5 v xs W) (hg : g < w.heap.size) (hB : w.heap.size + 1 ≤ B5) {q : Nat} (hq : B5 + 1 ≤ q) (i : Nat) (y : Value) : LiT w g A B5 v xs (W.setCell ⟨q, i, none⟩ y) :=
  ⟨OwnI.turned h.own ((TurnedIn.refl q (q + 1) W).set_ ⟨q, i, none⟩ ⟨Nat.le_refl _, Nat.lt_succ_self _⟩ y) (fun k hk => ⟨(OwnI.blockLt h.own k hk).1, h.vb k hk⟩) (Or.inl (by omega)), h.dr.box hg ⟨q, i, none⟩ (by show w.heap.size ≤ q; omega) y, h.res.far (p := ⟨q, i, none⟩) (by show w.heap.size ≠ q; omega) y, h.box.far (p := ⟨q, i, none⟩) (by show B5 ≠ q; omega) y, h.vb⟩
theorem LiT.fin {w W : World} {g A B5 : Nat} {v : Value} {xs : List Int} (h : LiT w g A B5 v xs W) (hg : g < w.heap.size) (y : Value) : OwnI 3 (W.setCell ⟨w.heap.size, 0, none⟩ y) w.heap.size v xs ∧ Drawn w g A (W.setCell ⟨w.heap.size, 0, none⟩ y) := ⟨h.own.box (Nat.le_refl _) _, h.dr.box hg _ (Nat.le_refl _) _⟩
set_option maxHeartbeats 3200000 in
theorem linear_any (g A most : Nat) (w : World) (h : Cur w g A) (hA : A < 700000000000) (hm1 : 1 ≤ most) (hm : most ≤ 10) :
    Calls Try.prog 117 #[.pointer (some ⟨g, 0, none⟩), .int .i64 most] w fun (r : Ending) w' => ∃ u xs q ws, r = .returned (.tuple #[.agg #[u], q]) ∧ OwnI 3 w' w.heap.size u xs ∧ xs.length ≤ 21 ∧ OwnI 3 w' w.heap.size q ws ∧ ws.length ≤ 22 ∧ Drawn w g (A + 230) w' := by
  have HC := hid h
  have hgl := h.lt
  clear h
  go_enter Try.func117, Try.ntmps117
  go_wp2_with fail
  have HD0 := hid ((Drawn.mk HC.out (TurnedIn.refl _ _ _)).below (below_alloc (Below.refl _ w) (.cells #[.slice none 0 0] 26)))
  have HA0 := hid (Blk.new w 26 #[.slice none 0 0])
  refine (poset_any g A most _ HD0.out.cur (by omega) hm1 hm).mono ?_
  rintro e w1 ⟨u1, xs, rfl, ho, hl2, hd1⟩
  have HD1 := hid (Drawn.mk hd1.cur (HD0.out.turned.trans hd1.turned))
  have HA1 := hid (HA0.out.turned hd1.turned (Or.inr (by omega)))
  have HO1 := hid (ho.mono (show w.heap.size + 1 ≤ _ by simp))
  have hvb := fun k hk => (OwnI.blockLt ho k hk).2
  have hz1 : w.heap.size + 1 ≤ w1.heap.size := by have := hd1.turned.size; simpa using this
  clear ho hd1 HD0 HA0
  obtain ⟨B5, hB5⟩ : ∃ B5, w1.heap.size = B5 := ⟨_, rfl⟩
  obtain ⟨vA, vc, rfl, hv⟩ := HO1.out.shape
  rw [hB5] at hvb
  have HVb := hid hvb
  clear hv hvb
  have HD2 := hid (HD1.out.below (below_alloc (Below.refl _ w1) (.cells #[.slice vA xs.length vc] 26)))
  have HA2 := hid (HA1.out.alloc (.cells #[.slice vA xs.length vc] 26))
  have HB2 := hid (Blk.new w1 26 #[.slice vA xs.length vc])
  have HO2 := hid (HO1.out.alloc (.cells #[.slice vA xs.length vc] 26))
  rw [hB5] at HB2
  have hbox := (Blk.new w1 26 #[.slice vA xs.length vc]).cell 0
  clear HD1 HA1 HO1
  go_wp2_with fail
  clear hbox
  refine (poGood_any _ xs _ HO2.out.ints (by omega)).mono ?_
  rintro e w3 ⟨rfl, hb3⟩
  have HO3 := hid (HO2.out.below hb3)
  have HD3 := hid (HD2.out.below hb3)
  have HA3 := hid (HA2.out.below hb3 HA2.out.lt)
  have HB3 := hid (HB2.out.below hb3 HB2.out.lt)
  clear hb3 HO2 HD2 HA2 HB2
  have hz3 : w.heap.size + 1 ≤ w3.heap.size := HA3.out.lt
  cases hg : good xs
  · clear hg
    have HD4 := hid (HD3.out.below (below_alloc (Below.refl _ w3) (.cells #[.int .i64 0] 3)))
    have HA4 := hid (HA3.out.alloc (.cells #[.int .i64 0] 3))
    have HB4 := hid (HB3.out.alloc (.cells #[.int .i64 0] 3))
    have HO4 := hid (HO3.out.alloc (.cells #[.int .i64 0] 3))
    have HQ4 := hid (Blk.own (xs := [0]) (Blk.new w3 3 #[.int .i64 0]) hz3 (by decide))
    have t4 := HB4.out.cell 0
    have a4 := HA4.out.cell 0
    have f4 := HA4.out.frozen 0
    have t3 := HB3.out.cell 0
    have a3 := HA3.out.cell 0
    have f3 := HA3.out.frozen 0
    go_wp2
    refine bodyPost_ret (v := .tuple #[.agg #[.slice vA xs.length vc], .slice (some ⟨w3.heap.size, 0, none⟩) 1 1]) (by simp [results, Try.results117, go_sem, a4]) rfl ⟨_, xs, _, [0], rfl, HO4.out.box (Nat.le_refl _) _, hl2, HQ4.out.box (Nat.le_refl _) _, by simp, (HD4.out.box hgl _ (Nat.le_refl _) _).le (by omega)⟩
  · have HG := hid hg
    have h1 := cnt_some hg
    obtain ⟨N, hN⟩ : ∃ N, 2 ^ xs.length = N := ⟨_, rfl⟩
    have hN0 : 0 < N := by rw [← hN]; exact Nat.two_pow_pos _
    obtain ⟨c, hc⟩ : ∃ c, ends xs 0 = c := ⟨_, rfl⟩
    have HCn := hid hc
    rw [hc] at h1
    have HN := hid hN
    have hc10 : c ≤ 10000000000 := by rw [← hc]; exact ends_le (good_length hg).2 0
    have hl10 := (good_length hg).2
    clear hg hc hN
    have t3 := HB3.out.cell 0
    go_wp2_with fail
    clear t3
    refine (liCounts_any _ xs N _ HO3.out.ints HG.out HN.out).mono ?_
    rintro e w4 ⟨gC, rfl, hT, hgC, hb4⟩
    have HT := hid hT
    have HO4 := hid (HO3.out.below hb4)
    have HD4 := hid (HD3.out.below hb4)
    have HA4 := hid (HA3.out.below hb4 HA3.out.lt)
    have HB4 := hid (HB3.out.below hb4 HB3.out.lt)
    have hgC2 : B5 + 1 ≤ gC := by have := HB3.out.lt; omega
    clear hb4 hT HO3 HD3 HA3 HB3 hgC
    have k4 := cell_zero HT.out hN0
    rw [show cntL xs = c from HCn.out] at k4
    have t4 := HB4.out.cell 0
    have hl4 := HT.out.lt
    have HL4 : Hid (LiS w g (A + 210) B5 gC N (.slice vA xs.length vc) xs w4) := hid ⟨HO4.out, HD4.out, HA4.out, HB4.out, HT.out⟩
    have HLa := hid (HL4.out.below (below_drewN (Below.refl _ _) 1))
    have hA2 : A + 210 < 1000000000000 := by omega
    clear HO4 HD4 HA4 HB4 HT
    go_wp2
    go_region_held3 (fun W => W.cell? ⟨B5, 0, none⟩ = some (.slice vA xs.length vc) ∧ W.cell? ⟨gC, 0, none⟩ = some (.int .i64 (c : Nat))) (first | exact ⟨HLc.out.box.cell 0, HLc.out.c0 hN0 HCn.out⟩ | exact ⟨HLb.out.box.cell 0, HLb.out.c0 hN0 HCn.out⟩ | exact ⟨HLa.out.box.cell 0, HLa.out.c0 hN0 HCn.out⟩) (first | (go_at_call 130; refine (l1Least_any (c : Int) 100000 _).mono ?_; rintro e w5 ⟨rfl, rfl⟩) | (go_at_call 107; refine (pick_any g (A + 210) _ _ HLa.out.dr.cur hA2).mono ?_; rintro e w6 ⟨m, hm, rfl, hc6, ht6⟩; have HLb := hid (HLa.out.turned hgl hc6 ht6 (by omega) (by omega)); have hmc : m < c := (by have := Int.min_le_left (c : Int) 100000; omega); clear hm hc6 ht6) | (go_at_call 132; refine (liWith_any gC N _ xs m _ HLb.out.own.ints HLb.out.tab HN.out HG.out (by rw [HCn.out]; exact hmc)).mono ?_; rintro e w7 ⟨q, rfl, hq, hb7⟩; have HLc := hid (HLb.out.below hb7); have HQ := hid (hq.mono (show B5 + 1 ≤ _ from HLb.out.box.lt)); clear hb7 hq))
    have HLd : Hid (LiT w g (A + 212) B5 (.slice vA xs.length vc) xs w7) := hid ⟨HLc.out.own, HLc.out.dr, HLc.out.res, HLc.out.box, HVb.out⟩
    obtain ⟨qs, hqs⟩ : ∃ l, unrL xs m = l := ⟨_, rfl⟩
    have hql : qs.length = xs.length := by rw [← hqs, unrL_length]
    rw [hqs] at HQ
    have h1x : 1 ≤ xs.length := (good_length HG.out).1
    clear hqs HLa HLb HLc HL4 HCn HN k4 t4 hmc hc10 hN0 h1
    go_wp2_with fail
    refine (pick_any g (A + 212) 14 _ HLd.out.dr.cur (by omega)).mono ?_
    rintro e w8 ⟨m2, hm2, rfl, hc8, ht8⟩
    have HL8 := hid (HLd.out.turned hgl hc8 ht8 (by omega))
    have HQ8 := hid (HQ.out.turnedLow ht8 (by omega))
    clear hm2 hc8 ht8 HLd HQ
    rcases (by omega : m2 = 0 ∨ m2 = 1 ∨ 2 ≤ m2) with rfl | rfl | hm2
    · obtain ⟨qA, qc, rfl, hv⟩ := HQ8.out.shape
      obtain ⟨gq, rfl, hq1, hq2⟩ := hv (by rintro rfl; simp at hql; omega)
      obtain ⟨n, hn⟩ : ∃ n, qs.length = n := ⟨_, rfl⟩
      have HN := hid hn
      rw [hn] at HQ8 hql ⊢
      have hn1 : 1 ≤ n := by omega
      have hn2 : n ≤ 10 := by omega
      clear hv hn hql
      go_wp2_with fail
      refine (pick_any g (A + 214) _ _ HL8.out.dr.cur (by omega)).mono ?_
      rintro e w9 ⟨i, hi, rfl, hc9, ht9⟩
      have HL9 := hid (HL8.out.turned hgl hc9 ht9 (by omega))
      have HQ9 := hid (HQ8.out.turnedLow ht9 (by omega))
      have hil : i < n := by omega
      clear hi hc9 ht9 HL8 HQ8 hq1
      go_wp2_with fail
      refine (pick_any g (A + 216) _ _ HL9.out.dr.cur (by omega)).mono ?_
      rintro e w10 ⟨j, hj, rfl, hc10, ht10⟩
      have HL10 := hid (HL9.out.turned hgl hc10 ht10 (by omega))
      have HQ10 := hid (HQ9.out.turnedLow ht10 (by omega))
      have hjl : (j : Int) ≤ 100 := by omega
      clear hj hc10 ht10 HL9 HQ9
      obtain ⟨gq', e1, -, hq3, -, hcq, hfq, hsq⟩ := HQ10.out.cellC (j := i) (by rw [HN.out]; exact hil)
      obtain rfl : gq = gq' := by simpa using e1
      have HS := hid hsq
      obtain ⟨y, hy⟩ : ∃ y, qs.getD i 0 = y := ⟨_, rfl⟩
      rw [hy] at hcq
      have HLp := hid (HL10.out.put hgl (by omega) hq3 i (.int .i64 ((j : Int) - 1)))
      have t11 := HLp.out.box.cell 0
      have a11 := HLp.out.res.cell 0
      have f11 := HLp.out.res.frozen 0
      clear hsq hy e1 HL10 HQ10
      go_wp2
      refine bodyPost_ret (v := .tuple #[.agg #[.slice vA xs.length vc], .slice (some ⟨gq, 0, none⟩) n qc]) (by simp [results, Try.results117, go_sem, a11]) rfl ⟨_, xs, _, qs.set i ((j : Int) - 1), rfl, (HLp.out.fin hgl _).1, hl2, (HS.out _).box (by omega) _, by rw [List.length_set, HN.out]; omega, (HLp.out.fin hgl _).2.le (by omega)⟩
    · obtain ⟨qA, qn, qc, rfl⟩ := HQ8.out.shape3
      have hz8 : B5 + 1 ≤ w8.heap.size := HL8.out.box.lt
      go_wp2_with (at_builtin; refine wpList_append_int rfl _ _ 24 3 rfl Try.underlying24 Try.info3 (B5 + 1) _ qs 0 rfl HQ8.out rfl rfl (by omega) hz8 ?_; rintro v2 w9 ho9 hb9; have HL9 := hid (HL8.out.belowC hb9 hgl (by omega)); have HO9 := hid ho9; obtain ⟨rA, rn, rc, rfl⟩ := ho9.shape3; have t11 := HL9.out.box.cell 0; have a11 := HL9.out.res.cell 0; have f11 := HL9.out.res.frozen 0; clear ho9 hb9)
      refine bodyPost_ret (v := .tuple #[.agg #[.slice vA xs.length vc], .slice rA rn rc]) (by simp [results, Try.results117, go_sem, a11]) rfl ⟨_, xs, _, qs ++ [0], rfl, (HL9.out.fin hgl _).1, hl2, HO9.out.box (by omega) _, by simp; omega, (HL9.out.fin hgl _).2.le (by omega)⟩
    · obtain ⟨qA, qn, qc, rfl⟩ := HQ8.out.shape3
      have t8 := HL8.out.box.cell 0
      have a8 := HL8.out.res.cell 0
      have f8 := HL8.out.res.frozen 0
      have n0 : ¬ (m2 : Int) = 0 := by omega
      have n1 : ¬ (m2 : Int) = 1 := by omega
      go_wp2
      refine bodyPost_ret (v := .tuple #[.agg #[.slice vA xs.length vc], .slice qA qn qc]) (by simp [results, Try.results117, go_sem, a8]) rfl ⟨_, xs, _, qs, rfl, (HL8.out.fin hgl _).1, hl2, HQ8.out.box (by omega) _, by omega, (HL8.out.fin hgl _).2.le (by omega)⟩
theorem small_any (g A : Nat) (w : World) (h : Cur w g A) (hA : A < 700000000000) :
    Calls Try.prog 128 #[.pointer (some ⟨g, 0, none⟩)] w fun (r : Ending) w' => ∃ u xs, r = .returned (.agg #[u]) ∧ OwnI 3 w' w.heap.size u xs ∧ xs.length ≤ 21 ∧ Drawn w g (A + 230) w' := by
  have HC := hid h
  have hgl := h.lt
  clear h
  go_enter Try.func128, Try.ntmps128
  go_wp2_with fail
  have HD0 := hid ((Drawn.mk HC.out (TurnedIn.refl _ _ _)).below (below_alloc (Below.refl _ w) (.cells #[.slice none 0 0] 26)))
  have HA0 := hid (Blk.new w 26 #[.slice none 0 0])
  refine (one_any g A 10 _ HD0.out.cur (by omega)).mono ?_
  rintro e w1 ⟨b, rfl, hc1, ht1⟩
  have HD1 := hid (Drawn.mk hc1 (HD0.out.turned.trans ht1))
  have HA1 := hid (HA0.out.turned ht1 (Or.inr (by omega)))
  clear hc1 ht1 HD0 HA0
  cases b
  all_goals
    go_wp2_with fail
    refine (poset_any g (A + 2) _ _ HD1.out.cur (by omega) (by decide) (by decide)).mono ?_
    rintro e w2 ⟨u, xs, rfl, ho, hl2, hd⟩
    have HD2 := hid (Drawn.mk hd.cur (HD1.out.turned.trans hd.turned))
    have HA2 := hid (HA1.out.turned hd.turned (Or.inr (by omega)))
    have HO2 := hid (ho.mono (show w.heap.size + 1 ≤ _ from HA1.out.lt))
    obtain ⟨uA, un, uc, rfl⟩ := ho.shape3
    clear ho hd
    have a2 := HA2.out.cell 0
    have f2 := HA2.out.frozen 0
    go_wp2
    refine bodyPost_ret (v := .agg #[.slice uA un uc]) (by simp [results, Try.results128, go_sem, a2]) rfl ⟨_, xs, rfl, HO2.out.box (Nat.le_refl _) _, hl2, (HD2.out.box hgl _ (Nat.le_refl _) _).le (by omega)⟩
theorem drawIsLinear_any (v : Value) (bs : List Int) (w : World) (hb : BytesB w w.heap.size v bs) (hl : bs.length ≤ 1048576) :
    Calls Try.prog 75 #[v] w fun (r : Ending) w' => ∃ u xs q ws, r = .returned (.tuple #[.agg #[u], q]) ∧ OwnI 3 w' w.heap.size u xs ∧ xs.length ≤ 21 ∧ OwnI 3 w' w.heap.size q ws ∧ ws.length ≤ 22 ∧ Below w.heap.size w w' := by
  have HBy := hid hb
  obtain ⟨vA, vc, rfl, -⟩ := hb
  have HA0 := hid (Blk.new w 26 #[.slice none 0 0])
  have HB0 := hid (below_alloc (Below.refl _ w) (.cells #[.slice none 0 0] 26))
  go_enter Try.func75, Try.ntmps75
  go_wp2_with fail
  have HC := hid (Cur.new (w.alloc (.cells #[.slice none 0 0] 26)) _ bs (w.heap.size + 1) (by simp) ((HBy.out.below HB0.out).up (by simp)) hl)
  have HB1 := hid (below_alloc HB0.out (.cells #[.slice vA bs.length vc, .int .i64 0, .int .u64 0] 79))
  have HA1 := hid (HA0.out.alloc (.cells #[.slice vA bs.length vc, .int .i64 0, .int .u64 0] 79))
  refine (linear_any (w.heap.size + 1) 0 8 _ HC.out (by decide) (by decide) (by decide)).mono ?_
  rintro e w2 ⟨u, xs, q, ws, rfl, ho, hl2, hoq, hm2, hd⟩
  have HB2 := hid (hd.belowAll HB1.out (by omega))
  have HA2 := hid (HA1.out.turned hd.turned (Or.inl (by omega)))
  have HO := hid (ho.mono (show w.heap.size + 1 ≤ _ by simp))
  have HQ := hid (hoq.mono (show w.heap.size + 1 ≤ _ by simp))
  obtain ⟨uA, un, uc, rfl⟩ := ho.shape3
  obtain ⟨qA, qn, qc, rfl⟩ := hoq.shape3
  clear ho hoq hd HA0 HA1 HB0 HB1 HC
  have a1 := HA2.out.cell 0
  have a2 := HA2.out.frozen 0
  go_wp2
  refine bodyPost_ret (v := .tuple #[.agg #[.slice uA un uc], .slice qA qn qc]) (by simp [results, Try.results75, go_sem, a1]) rfl ⟨_, xs, _, ws, rfl, HO.out.box (Nat.le_refl _) _, hl2, HQ.out.box (Nat.le_refl _) _, hm2, HB2.out.setCell (p := ⟨w.heap.size, 0, none⟩) (Nat.le_refl _) _⟩
theorem drawAllLinear_any (v : Value) (bs : List Int) (w : World) (hb : BytesB w w.heap.size v bs) (hl : bs.length ≤ 1048576) :
    Calls Try.prog 67 #[v] w fun (r : Ending) w' => ∃ u xs, r = .returned (.agg #[u]) ∧ OwnI 3 w' w.heap.size u xs ∧ xs.length ≤ 21 ∧ Below w.heap.size w w' := by
  have HBy := hid hb
  obtain ⟨vA, vc, rfl, -⟩ := hb
  have HA0 := hid (Blk.new w 26 #[.slice none 0 0])
  have HB0 := hid (below_alloc (Below.refl _ w) (.cells #[.slice none 0 0] 26))
  go_enter Try.func67, Try.ntmps67
  go_wp2_with fail
  have HC := hid (Cur.new (w.alloc (.cells #[.slice none 0 0] 26)) _ bs (w.heap.size + 1) (by simp) ((HBy.out.below HB0.out).up (by simp)) hl)
  have HB1 := hid (below_alloc HB0.out (.cells #[.slice vA bs.length vc, .int .i64 0, .int .u64 0] 79))
  have HA1 := hid (HA0.out.alloc (.cells #[.slice vA bs.length vc, .int .i64 0, .int .u64 0] 79))
  refine (small_any (w.heap.size + 1) 0 _ HC.out (by decide)).mono ?_
  rintro e w2 ⟨u, xs, rfl, ho, hl2, hd⟩
  have HB2 := hid (hd.belowAll HB1.out (by omega))
  have HA2 := hid (HA1.out.turned hd.turned (Or.inl (by omega)))
  have HO := hid (ho.mono (show w.heap.size + 1 ≤ _ by simp))
  obtain ⟨uA, un, uc, rfl⟩ := ho.shape3
  clear ho hd HA0 HA1 HB0 HB1 HC
  have a1 := HA2.out.cell 0
  have a2 := HA2.out.frozen 0
  go_wp2
  refine bodyPost_ret (v := .agg #[.slice uA un uc]) (by simp [results, Try.results67, go_sem, a1]) rfl ⟨_, xs, rfl, HO.out.box (Nat.le_refl _) _, hl2, HB2.out.setCell (p := ⟨w.heap.size, 0, none⟩) (Nat.le_refl _) _⟩
end Go.Proofs.Ytpdoheagfjeefaa

/- Draws of the model, chapter 4: those that hand on to another one. (by gendrm.py) -/
namespace Go.Proofs.Ytpdoheagfjeefaa
open Go.RowKit Go.WideShapes Go.ChangeShapes
set_option linter.unusedVariables false

theorem drawEvacuateLinear_any (v : Value) (bs : List Int) (w : World) (hb : BytesB w w.heap.size v bs) (hl : bs.length ≤ 1048576) :
    Calls Try.prog 9 #[v] w fun (r : Ending) w' => ∃ u xs q ws, r = .returned (.tuple #[.agg #[u], q]) ∧ OwnI 3 w' w.heap.size u xs ∧ xs.length ≤ 21 ∧ OwnI 3 w' w.heap.size q ws ∧ ws.length ≤ 22 ∧ Below w.heap.size w w' := by
  have HBy := hid hb
  obtain ⟨vA, vc, rfl, -⟩ := hb
  have HA0 := hid (Blk.new w 26 #[.slice none 0 0])
  have HB0 := hid (below_alloc (Below.refl _ w) (.cells #[.slice none 0 0] 26))
  go_enter Try.func9, Try.ntmps9
  go_wp2_with fail
  refine (drawIsLinear_any _ bs _ ((HBy.out.below HB0.out).up (by simp)) hl).mono ?_
  rintro e w2 ⟨u, xs, q, ws, rfl, ho, hl2, hoq, hm2, hb2⟩
  have HB2 := hid (below_to HB0.out hb2)
  have HA2 := hid (HA0.out.below hb2 HA0.out.lt)
  have HO := hid (ho.mono (show w.heap.size + 1 ≤ _ by simp))
  have HQ := hid (hoq.mono (show w.heap.size + 1 ≤ _ by simp))
  obtain ⟨uA, un, uc, rfl⟩ := ho.shape3
  obtain ⟨qA, qn, qc, rfl⟩ := hoq.shape3
  clear ho hoq hb2 HA0 HB0
  have a1 := HA2.out.cell 0
  have a2 := HA2.out.frozen 0
  go_wp2
  refine bodyPost_ret (v := .tuple #[.agg #[.slice uA un uc], .slice qA qn qc]) (by simp [results, Try.results9, go_sem, a1]) rfl ⟨_, xs, _, ws, rfl, HO.out.box (Nat.le_refl _) _, hl2, HQ.out.box (Nat.le_refl _) _, hm2, HB2.out.setCell (p := ⟨w.heap.size, 0, none⟩) (Nat.le_refl _) _⟩
theorem drawSlideOf_any (v : Value) (bs : List Int) (w : World) (hb : BytesB w w.heap.size v bs) (hl : bs.length ≤ 1048576) :
    Calls Try.prog 51 #[v] w fun (r : Ending) w' => ∃ u xs q ws, r = .returned (.tuple #[.agg #[u], q]) ∧ OwnI 3 w' w.heap.size u xs ∧ xs.length ≤ 21 ∧ OwnI 3 w' w.heap.size q ws ∧ ws.length ≤ 22 ∧ Below w.heap.size w w' := by
  have HBy := hid hb
  obtain ⟨vA, vc, rfl, -⟩ := hb
  have HA0 := hid (Blk.new w 26 #[.slice none 0 0])
  have HB0 := hid (below_alloc (Below.refl _ w) (.cells #[.slice none 0 0] 26))
  go_enter Try.func51, Try.ntmps51
  go_wp2_with fail
  refine (drawIsLinear_any _ bs _ ((HBy.out.below HB0.out).up (by simp)) hl).mono ?_
  rintro e w2 ⟨u, xs, q, ws, rfl, ho, hl2, hoq, hm2, hb2⟩
  have HB2 := hid (below_to HB0.out hb2)
  have HA2 := hid (HA0.out.below hb2 HA0.out.lt)
  have HO := hid (ho.mono (show w.heap.size + 1 ≤ _ by simp))
  have HQ := hid (hoq.mono (show w.heap.size + 1 ≤ _ by simp))
  obtain ⟨uA, un, uc, rfl⟩ := ho.shape3
  obtain ⟨qA, qn, qc, rfl⟩ := hoq.shape3
  clear ho hoq hb2 HA0 HB0
  have a1 := HA2.out.cell 0
  have a2 := HA2.out.frozen 0
  go_wp2
  refine bodyPost_ret (v := .tuple #[.agg #[.slice uA un uc], .slice qA qn qc]) (by simp [results, Try.results51, go_sem, a1]) rfl ⟨_, xs, _, ws, rfl, HO.out.box (Nat.le_refl _) _, hl2, HQ.out.box (Nat.le_refl _) _, hm2, HB2.out.setCell (p := ⟨w.heap.size, 0, none⟩) (Nat.le_refl _) _⟩
theorem drawRankLinear_any (v : Value) (bs : List Int) (w : World) (hb : BytesB w w.heap.size v bs) (hl : bs.length ≤ 1048576) :
    Calls Try.prog 72 #[v] w fun (r : Ending) w' => ∃ u xs q ws, r = .returned (.tuple #[.agg #[u], q]) ∧ OwnI 3 w' w.heap.size u xs ∧ xs.length ≤ 21 ∧ OwnI 3 w' w.heap.size q ws ∧ ws.length ≤ 22 ∧ Below w.heap.size w w' := by
  have HBy := hid hb
  obtain ⟨vA, vc, rfl, -⟩ := hb
  have HA0 := hid (Blk.new w 26 #[.slice none 0 0])
  have HB0 := hid (below_alloc (Below.refl _ w) (.cells #[.slice none 0 0] 26))
  go_enter Try.func72, Try.ntmps72
  go_wp2_with fail
  refine (drawIsLinear_any _ bs _ ((HBy.out.below HB0.out).up (by simp)) hl).mono ?_
  rintro e w2 ⟨u, xs, q, ws, rfl, ho, hl2, hoq, hm2, hb2⟩
  have HB2 := hid (below_to HB0.out hb2)
  have HA2 := hid (HA0.out.below hb2 HA0.out.lt)
  have HO := hid (ho.mono (show w.heap.size + 1 ≤ _ by simp))
  have HQ := hid (hoq.mono (show w.heap.size + 1 ≤ _ by simp))
  obtain ⟨uA, un, uc, rfl⟩ := ho.shape3
  obtain ⟨qA, qn, qc, rfl⟩ := hoq.shape3
  clear ho hoq hb2 HA0 HB0
  have a1 := HA2.out.cell 0
  have a2 := HA2.out.frozen 0
  go_wp2
  refine bodyPost_ret (v := .tuple #[.agg #[.slice uA un uc], .slice qA qn qc]) (by simp [results, Try.results72, go_sem, a1]) rfl ⟨_, xs, _, ws, rfl, HO.out.box (Nat.le_refl _) _, hl2, HQ.out.box (Nat.le_refl _) _, hm2, HB2.out.setCell (p := ⟨w.heap.size, 0, none⟩) (Nat.le_refl _) _⟩
theorem drawSelfEvacuated_any (v : Value) (bs : List Int) (w : World) (hb : BytesB w w.heap.size v bs) (hl : bs.length ≤ 1048576) :
    Calls Try.prog 18 #[v] w fun (r : Ending) w' => ∃ u xs, r = .returned (.agg #[u]) ∧ OwnI 3 w' w.heap.size u xs ∧ xs.length ≤ 21 ∧ Below w.heap.size w w' := by
  have HBy := hid hb
  obtain ⟨vA, vc, rfl, -⟩ := hb
  have HA0 := hid (Blk.new w 26 #[.slice none 0 0])
  have HB0 := hid (below_alloc (Below.refl _ w) (.cells #[.slice none 0 0] 26))
  go_enter Try.func18, Try.ntmps18
  go_wp2_with fail
  refine (drawAllLinear_any _ bs _ ((HBy.out.below HB0.out).up (by simp)) hl).mono ?_
  rintro e w2 ⟨u, xs, rfl, ho, hl2, hb2⟩
  have HB2 := hid (below_to HB0.out hb2)
  have HA2 := hid (HA0.out.below hb2 HA0.out.lt)
  have HO := hid (ho.mono (show w.heap.size + 1 ≤ _ by simp))
  obtain ⟨uA, un, uc, rfl⟩ := ho.shape3
  clear ho hb2 HA0 HB0
  have a1 := HA2.out.cell 0
  have a2 := HA2.out.frozen 0
  go_wp2
  refine bodyPost_ret (v := .agg #[.slice uA un uc]) (by simp [results, Try.results18, go_sem, a1]) rfl ⟨_, xs, rfl, HO.out.box (Nat.le_refl _) _, hl2, HB2.out.setCell (p := ⟨w.heap.size, 0, none⟩) (Nat.le_refl _) _⟩
theorem drawPromotionOrder_any (v : Value) (bs : List Int) (w : World) (hb : BytesB w w.heap.size v bs) (hl : bs.length ≤ 1048576) :
    Calls Try.prog 58 #[v] w fun (r : Ending) w' => ∃ u xs, r = .returned (.agg #[u]) ∧ OwnI 3 w' w.heap.size u xs ∧ xs.length ≤ 21 ∧ Below w.heap.size w w' := by
  have HBy := hid hb
  obtain ⟨vA, vc, rfl, -⟩ := hb
  have HA0 := hid (Blk.new w 26 #[.slice none 0 0])
  have HB0 := hid (below_alloc (Below.refl _ w) (.cells #[.slice none 0 0] 26))
  go_enter Try.func58, Try.ntmps58
  go_wp2_with fail
  refine (drawAllLinear_any _ bs _ ((HBy.out.below HB0.out).up (by simp)) hl).mono ?_
  rintro e w2 ⟨u, xs, rfl, ho, hl2, hb2⟩
  have HB2 := hid (below_to HB0.out hb2)
  have HA2 := hid (HA0.out.below hb2 HA0.out.lt)
  have HO := hid (ho.mono (show w.heap.size + 1 ≤ _ by simp))
  obtain ⟨uA, un, uc, rfl⟩ := ho.shape3
  clear ho hb2 HA0 HB0
  have a1 := HA2.out.cell 0
  have a2 := HA2.out.frozen 0
  go_wp2
  refine bodyPost_ret (v := .agg #[.slice uA un uc]) (by simp [results, Try.results58, go_sem, a1]) rfl ⟨_, xs, rfl, HO.out.box (Nat.le_refl _) _, hl2, HB2.out.setCell (p := ⟨w.heap.size, 0, none⟩) (Nat.le_refl _) _⟩
end Go.Proofs.Ytpdoheagfjeefaa
