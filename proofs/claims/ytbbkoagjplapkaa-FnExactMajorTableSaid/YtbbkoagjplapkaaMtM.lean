/- Tables of major numbers: how many tableaux there are, and the table while it is filled. No program is named here. -/
import Derived.Test.YtbbkoagjplapkaaTof
namespace Go.Proofs.Ytbbkoagjplapkaa
set_option linter.unusedVariables false

/-- ways to go on, by plain recursion -/
def endF (xs : List Int) : Nat → Nat → Nat
  | 0, _ => 1
  | f + 1, s => if 2 ^ xs.length - 1 ≤ s then 1 else sumN (fun e => if stepP xs s e = true then endF xs f (s ||| 2 ^ e) else 0) xs.length
theorem endF_eq {xs : List Int} (f : Nat) : ∀ s, s < 2 ^ xs.length → xs.length - cntB s xs.length ≤ f → endF xs f s = ends xs s := by
  induction f with
  | zero =>
    intro s hs hc
    have h1 := cntB_le s xs.length
    have h2 := cntB_all hs (by omega)
    rw [ends_top (by omega)]; rfl
  | succ f ih =>
    intro s hs hc
    by_cases h : 2 ^ xs.length - 1 ≤ s
    · rw [ends_top h]; unfold endF; rw [if_pos h]
    · rw [ends_low (by omega)]
      unfold endF
      rw [if_neg h]
      refine sumN_congr fun e he => ?_
      unfold nterm
      cases hst : stepP xs s e
      · rfl
      · rw [if_pos rfl, if_pos rfl]
        refine ih _ (Nat.or_lt_two_pow hs (pow_lt_len he)) ?_
        rw [cntB_or he (stepP_bit hst)]
        omega
theorem endF_all (xs : List Int) : endF xs xs.length 0 = ends xs 0 :=
  endF_eq xs.length 0 (Nat.two_pow_pos _) (by omega)
def cntChk (a b : Nat) : Bool := decide (endF (whereL (rectF b) (a * b)) (a * b) 0 ≤ 500)
theorem cnt_chk : ((List.range 11).all fun a => (List.range 11).all fun b => decide (a * b = 0) || decide (10 < a * b) || cntChk a b) = true := by decide +kernel
theorem rect_cnt {a b : Nat} (h1 : 1 ≤ a) (h2 : a ≤ 10) (h3 : 1 ≤ b) (h4 : b ≤ 10) (h5 : a * b ≤ 10) : ends (whereL (rectF b) (a * b)) 0 ≤ 500 := by
  have h := List.all_eq_true.1 (List.all_eq_true.1 cnt_chk a (List.mem_range.2 (by omega))) b (List.mem_range.2 (by omega))
  simp only [Bool.or_eq_true, decide_eq_true_eq] at h
  have h0 : 0 < a * b := Nat.mul_pos (by omega) (by omega)
  rcases h with (h | h) | h
  · omega
  · omega
  · simp only [cntChk, decide_eq_true_eq] at h
    have e := endF_all (whereL (rectF b) (a * b))
    rw [rect_len] at e
    rw [← e]; exact h

/-! ### the table -/
def padL (t : List Int) (m : Nat) : List Int := t ++ List.replicate (m - t.length) 0
theorem padL_length (t : List Int) (m : Nat) : (padL t m).length = max t.length m := by simp [padL]; omega
def bumpL (t : List Int) (m : Nat) : List Int := (padL t (m + 1)).set m ((padL t (m + 1)).getD m 0 + 1)
def tblS (f : Nat → Nat) : Nat → List Int
  | 0 => []
  | k + 1 => bumpL (tblS f k) (f k)
theorem tblS_succ (f : Nat → Nat) (k : Nat) : tblS f (k + 1) = bumpL (tblS f k) (f k) := rfl
theorem tblS_ok {f : Nat → Nat} (k : Nat) (hf : ∀ j, j < k → f j ≤ 100) : (tblS f k).length ≤ 101 ∧ ∀ i, 0 ≤ (tblS f k).getD i 0 ∧ (tblS f k).getD i 0 ≤ k := by
  induction k with
  | zero => exact ⟨by simp [tblS], fun i => by simp [tblS]⟩
  | succ k ih =>
    obtain ⟨h1, h2⟩ := ih (fun j hj => hf j (by omega))
    have h3 := hf k (by omega)
    have hp : ∀ i, 0 ≤ (padL (tblS f k) (f k + 1)).getD i 0 ∧ (padL (tblS f k) (f k + 1)).getD i 0 ≤ k := fun i => by
      unfold padL
      rw [List.getD_eq_getElem?_getD, List.getElem?_append]
      split
      · rw [← List.getD_eq_getElem?_getD]; exact h2 i
      · rw [List.getElem?_replicate]; split <;> simp
    refine ⟨?_, fun i => ?_⟩
    · rw [tblS_succ, bumpL, List.length_set, padL_length]; omega
    · rw [tblS_succ, bumpL, getD_set_]
      have h4 := hp (f k)
      have h5 := hp i
      split <;> omega
theorem padL_grow {t : List Int} {m : Nat} (h : t.length ≤ m) : padL t m ++ [0] = padL t (m + 1) := by
  unfold padL
  rw [List.append_assoc, show m + 1 - t.length = (m - t.length) + 1 by omega, List.replicate_succ']
theorem padL_id {t : List Int} {m : Nat} (h : m ≤ t.length) : padL t m = t := by
  unfold padL; rw [show m - t.length = 0 by omega]; simp
/-- the major number of the tableau with a rank -/
def majK (b : Nat) (xs : List Int) (a k : Nat) : Nat := (ansMA (gridL a b (tofF b (unrL xs k)))).toNat
theorem majK_eq (b : Nat) (xs : List Int) (a k : Nat) : ((majK b xs a k : Nat) : Int) = ansMA (gridL a b (tofF b (unrL xs k))) := by
  have := ansMA_le (gridL a b (tofF b (unrL xs k)))
  unfold majK; omega
theorem majK_le (b : Nat) (xs : List Int) (a k : Nat) : majK b xs a k ≤ 100 := by
  have := ansMA_le (gridL a b (tofF b (unrL xs k)))
  unfold majK; omega
def majT (a b : Nat) : List Int := tblS (majK b (whereL (rectF b) (a * b)) a) (ends (whereL (rectF b) (a * b)) 0)
def ansMT (a b : Int) : List Int := if sides a b then majT a.toNat b.toNat else []
theorem ansMT_no {a b : Int} (h : sides a b = false) : ansMT a b = [] := by simp [ansMT, h]
theorem ansMT_yes {x y : Nat} (h : sides x y = true) : ansMT x y = majT x y := by simp [ansMT, h]
theorem ansMT_length (a b : Int) : (ansMT a b).length ≤ 1048576 := by
  unfold ansMT
  split
  · have := (tblS_ok (f := majK b.toNat (whereL (rectF b.toNat) (a.toNat * b.toNat)) a.toNat) (ends (whereL (rectF b.toNat) (a.toNat * b.toNat)) 0) (fun j _ => majK_le _ _ _ _)).1
    unfold majT; omega
  · simp
/-! ### linear extensions with a rank are some (as in LinP) -/
theorem unr_wT {xs : List Int} {r k : Nat} (hk : k < xs.length) : wN (unrL xs r) k = unE xs r k := by
  unfold wN unrL; rw [mkL_getD hk, Int.toNat_natCast]
theorem unr_sT {xs : List Int} {r : Nat} (k : Nat) (hk : k ≤ xs.length) : stL (unrL xs r) k = (unS xs r k).1 := by
  induction k with
  | zero => rfl
  | succ k ih => rw [stL, ih (by omega), unr_wT (by omega), unS_succ]
theorem unr_orderT {xs : List Int} {r : Nat} (hr : r < ends xs 0) : orderB xs (unrL xs r) = true := by
  refine LinX.order ⟨mkL_length _ _, fun k hk => ?_, fun k hk => ?_⟩
  · rw [unr_wT hk]
    refine ⟨?_, unE_lt hr hk⟩
    unfold unrL; rw [mkL_getD hk]
  · rw [unr_sT k (by omega), unr_wT hk]
    have h := unS_ok hr k (by omega)
    obtain ⟨a, b, c⟩ := h.pick hk
    exact (h.step hk a b c).1
theorem lin_okTO {x y k : Nat} (hs : sides x y = true) (hk : k < ends (whereL (rectF y) (x * y)) 0) : okTO x y (unrL (whereL (rectF y) (x * y)) k) = true :=
  okTO_yes hs (by rw [rectL_yes hs]; exact unr_orderT hk)
end Go.Proofs.Ytbbkoagjplapkaa
