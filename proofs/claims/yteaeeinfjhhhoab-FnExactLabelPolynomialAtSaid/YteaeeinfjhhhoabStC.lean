/- Values of binomial polynomials; the steps of a poset out of the strict labels. -/
import Derived.Test.YteaeeinfjhhhoabChL
import Derived.Test.YteaeeinfjhhhoabFacI
namespace Go.Proofs.Yteaeeinfjhhhoab
open Go.RowKit Go.WideShapes Go.ChangeShapes
set_option linter.unusedVariables false

def chI (x : Int) : Nat → Int
  | 0 => 1
  | k + 1 => (chI x k * (x - k)).tdiv ((k : Int) + 1)
/-- x (x - 1) .. (x - k + 1) -/
def falI (x : Int) : Nat → Int
  | 0 => 1
  | k + 1 => falI x k * (x - k)
def chChk (a k : Nat) : Bool :=
  let x : Int := (a : Int) - 13
  decide (-2000000 ≤ chI x k) && decide (chI x k ≤ 2000000) && decide (-100000000 ≤ chI x k * (x - k)) && decide (chI x k * (x - k) ≤ 100000000) &&
    decide (-10000000000000000 ≤ falI x k) && decide (falI x k ≤ 10000000000000000) && decide ((falI x k).tdiv (facN k : Nat) = chI x k)
theorem ch_chk : ((List.range 27).all fun a => (List.range 12).all fun k => chChk a k) = true := by decide +kernel
theorem ch_all {x : Int} {k : Nat} (h0 : -13 ≤ x) (h1 : x ≤ 13) (hk : k ≤ 11) :
    (-2000000 ≤ chI x k ∧ chI x k ≤ 2000000) ∧ (-100000000 ≤ chI x k * (x - k) ∧ chI x k * (x - k) ≤ 100000000) ∧ (-10000000000000000 ≤ falI x k ∧ falI x k ≤ 10000000000000000) ∧ (falI x k).tdiv (facN k : Nat) = chI x k := by
  have h := List.all_eq_true.1 (List.all_eq_true.1 ch_chk (x + 13).toNat (List.mem_range.2 (by omega))) k (List.mem_range.2 (by omega))
  have e : (((x + 13).toNat : Nat) : Int) - 13 = x := by omega
  simp only [chChk, e, Bool.and_eq_true, decide_eq_true_eq] at h
  exact ⟨h.1.1.1.1.1, ⟨h.1.1.1.1.2, h.1.1.1.2⟩, ⟨h.1.1.2, h.1.2⟩, h.2⟩
theorem bin_chk : ((List.range 11).all fun n => (List.range 11).all fun k => decide (chI (n : Int) k = ((binN n k : Nat) : Int))) = true := by decide +kernel
theorem bin_all {n k : Nat} (hn : n ≤ 10) (hk : k ≤ 10) : chI (n : Int) k = ((binN n k : Nat) : Int) := by
  have h := List.all_eq_true.1 (List.all_eq_true.1 bin_chk n (List.mem_range.2 (by omega))) k (List.mem_range.2 (by omega))
  simpa using h
set_option maxHeartbeats 800000 in
theorem laChoose_any (x : Int) (k : Nat) (w : World) (h0 : -13 ≤ x) (h1 : x ≤ 13) (hk : k ≤ 10) :
    Calls Try.prog 48 #[.int .i64 x, .int .i64 k] w fun r w' => r = .returned (.int .i64 (chI x k)) ∧ w = w' := by
  have HA := hid (fun j (hj : j ≤ 11) => ch_all (x := x) (k := j) h0 h1 hj)
  go_enter Try.func48, Try.ntmps48
  go_wp2
  go_loop [5, 6] (fun p i => ∃ (j : Nat) (t : Int), j ≤ k ∧ p = .int .i64 t ∧ i = .int .i64 ((j : Int) + 1) ∧ Hid (chI x j = t)) (fun _ i => k + 1 - (intOf i).toNat)
  case atStart => exact ⟨0, 1, Nat.zero_le _, rfl, rfl, hid rfl⟩
  case round =>
    obtain ⟨j, t, hj, rfl, rfl, HT⟩ := hrel
    by_cases hlt : j < k
    · have hki : (j : Int) + 1 ≤ (k : Int) := by omega
      have hb := HA.out j (by omega)
      have hb1 := (HA.out (j + 1) (by omega)).1
      have HS : Hid (chI x (j + 1) = (t * (x - j)).tdiv ((j : Int) + 1)) := hid (by rw [chI, HT.out])
      rw [HT.out] at hb
      rw [HS.out] at hb1
      obtain ⟨m, hm⟩ : ∃ m, t * (x - j) = m := ⟨_, rfl⟩
      obtain ⟨z, hz⟩ : ∃ z, m.tdiv ((j : Int) + 1) = z := ⟨_, rfl⟩
      rw [hm] at HS hb hb1
      rw [hz] at HS hb1
      have hx1 : IntKind.i64.wrap (x - ((j : Int) + 1)) = x - ((j : Int) + 1) := IntWalk.i64_in _ (by omega)
      have hx2 : x - ((j : Int) + 1) + 1 = x - j := by omega
      have hx3 : IntKind.i64.wrap (x - j) = x - j := IntWalk.i64_in _ (by omega)
      have hwm : IntKind.i64.wrap m = m := IntWalk.i64_in _ (by omega)
      have hwz : IntKind.i64.wrap z = z := IntWalk.i64_in _ (by omega)
      have hj0 : (((j : Int) + 1) == 0) = false := by rw [beq_eq_false_iff_ne]; omega
      have hj1 : ¬ ((j : Int) + 1) = 0 := by omega
      clear hb hb1
      go_wp2
      go_round
      case rel => exact ⟨j + 1, z, by omega, rfl, by go_num, HS⟩
      case measure => simp [intOf]; omega
    · have HK := hid (show j = k by omega)
      have hge : ¬ ((j : Int) + 1 ≤ (k : Int)) := by omega
      go_wp2
      go_ret
      exact ⟨ret_int (by rw [← HK.out, HT.out]), rfl⟩

/-! ### the steps -/
def full (xs : List Int) : Nat := 2 ^ xs.length - 1
def stpN (xs : List Int) (k : Nat) : Nat := prp xs (k + 1) (full xs)
/-- what is taken away from the k-th count by the first j steps -/
def tkN (xs : List Int) (k j : Nat) : Nat := sumR (fun i => binN k (i + 1) * stpN xs i) j
theorem full_ideal {xs : List Int} (hg : good xs = true) : full xs < 2 ^ xs.length ∧ holdsIdeal xs (full xs) = true := by
  have := Nat.two_pow_pos xs.length
  exact ⟨by unfold full; omega, ideal_full hg⟩
theorem full_pos {xs : List Int} (hg : good xs = true) : 1 ≤ full xs := by
  have h1 := (good_length hg).1
  have := Nat.pow_le_pow_right (n := 2) (by decide) h1
  unfold full; omega
theorem cnt_tk {xs : List Int} (hg : good xs = true) (k : Nat) : cnt xs true k (full xs) = tkN xs k k := by
  rw [cnt_bin hg k (full_ideal hg).1 (full_ideal hg).2, sumR_front]
  have e : prp xs 0 (full xs) = 0 := by
    unfold prp chN; rw [if_neg]; have := full_pos hg; omega
  rw [e, Nat.mul_zero, Nat.zero_add]; rfl
theorem tk_last (xs : List Int) (k : Nat) : tkN xs (k + 1) (k + 1) = tkN xs (k + 1) k + stpN xs k := by
  show tkN xs (k + 1) k + binN (k + 1) (k + 1) * stpN xs k = _
  rw [binN_self, Nat.one_mul]
theorem tk_le (xs : List Int) (k : Nat) {i j : Nat} (h : i ≤ j) : tkN xs k i ≤ tkN xs k j := by
  unfold tkN
  induction j with
  | zero => have : i = 0 := by omega
            subst this; exact Nat.le_refl _
  | succ j ih =>
    rcases Nat.lt_or_eq_of_le h with h1 | h1
    · have := ih (by omega); rw [sumR]; omega
    · subst h1; exact Nat.le_refl _
theorem prp_pow {xs : List Int} (hg : good xs = true) {k t : Nat} (hk : k ≤ 10) (ht : t < 2 ^ xs.length) : prp xs k t ≤ 10000000000 := by
  refine Nat.le_trans (chN_le (c := xs.length) (fun s t h => by unfold onId at h; simp only [Bool.and_eq_true] at h; have h2 := h.2; simp only [prop, stk, Bool.and_eq_true, beq_iff_eq] at h2; exact h2.2.1) k t ht) ?_
  rcases Nat.eq_zero_or_pos k with h | h
  · subst h
    rcases Nat.eq_zero_or_pos (bitsF xs.length t) with e | e
    · rw [e]; decide
    · rw [Nat.zero_pow e]; exact Nat.zero_le _
  · refine Nat.le_trans (Nat.pow_le_pow_left hk _) (Nat.le_trans (Nat.pow_le_pow_right (by decide) (Nat.le_trans (bitsF_le xs.length t) (good_length hg).2)) ?_)
    decide
def ansSC (xs : List Int) : List Int := if good xs then mkL xs.length (stpN xs) else []
theorem ansSC_no {xs : List Int} (h : good xs = false) : ansSC xs = [] := by simp [ansSC, h]
theorem ansSC_yes {xs : List Int} (h : good xs = true) : ansSC xs = mkL xs.length (stpN xs) := by simp [ansSC, h]
theorem ansSC_length (xs : List Int) : (ansSC xs).length ≤ 1048576 := by
  cases h : good xs
  · rw [ansSC_no h]; simp
  · rw [ansSC_yes h, mkL_length]; have := good_length h; omega
/-- the polynomial's value by its first k terms -/
def polN (xs : List Int) (x : Int) : Nat → Int
  | 0 => 0
  | k + 1 => polN xs x k + (stpN xs k : Int) * chI x (k + 1)
def okLP (xs : List Int) (x : Int) : Bool := good xs && (decide (-13 ≤ x) && decide (x ≤ 13))
def ansLP (xs : List Int) (x : Int) : Int := if okLP xs x then polN xs x xs.length else 0
theorem okLP_no1 {xs : List Int} {x : Int} (h : good xs = false) : okLP xs x = false := by simp [okLP, h]
theorem okLP_no2 {xs : List Int} {x : Int} (h : (decide (-13 ≤ x) && decide (x ≤ 13)) = false) : okLP xs x = false := by unfold okLP; rw [h, Bool.and_false]
theorem okLP_yes {xs : List Int} {x : Int} (h : good xs = true) (k : (decide (-13 ≤ x) && decide (x ≤ 13)) = true) : okLP xs x = true := by unfold okLP; rw [h, k]; rfl
theorem ansLP_no {xs : List Int} {x : Int} (h : okLP xs x = false) : ansLP xs x = 0 := by simp [ansLP, h]
theorem ansLP_yes {xs : List Int} {x : Int} (h : okLP xs x = true) : ansLP xs x = polN xs x xs.length := by simp [ansLP, h]
theorem term_small {xs : List Int} (hg : good xs = true) {x : Int} (h0 : -13 ≤ x) (h1 : x ≤ 13) {k : Nat} (hk : k < xs.length) : -20000000000000000 ≤ (stpN xs k : Int) * chI x (k + 1) ∧ (stpN xs k : Int) * chI x (k + 1) ≤ 20000000000000000 := by
  have hx := (good_length hg).2
  have h2 := (ch_all h0 h1 (show k + 1 ≤ 11 by omega)).1
  have h3 := prp_pow hg (k := k + 1) (show k + 1 ≤ 10 by omega) (full_ideal hg).1
  have h3' : (stpN xs k : Int) ≤ 10000000000 := by unfold stpN; omega
  have h4 : (0 : Int) ≤ (stpN xs k : Int) := Int.natCast_nonneg _
  generalize (stpN xs k : Int) = a at *
  generalize chI x (k + 1) = b at *
  constructor
  · have e1 : a * (-2000000) ≤ a * b := Int.mul_le_mul_of_nonneg_left h2.1 h4
    omega
  · have e1 : a * b ≤ a * 2000000 := Int.mul_le_mul_of_nonneg_left h2.2 h4
    omega
theorem pol_small {xs : List Int} (hg : good xs = true) {x : Int} (h0 : -13 ≤ x) (h1 : x ≤ 13) (k : Nat) (hk : k ≤ xs.length) : -20000000000000000 * (k : Int) ≤ polN xs x k ∧ polN xs x k ≤ 20000000000000000 * (k : Int) := by
  induction k with
  | zero => simp [polN]
  | succ k ih =>
    have h2 := ih (by omega)
    have h3 := term_small hg h0 h1 (show k < xs.length by omega)
    rw [polN]
    omega
end Go.Proofs.Yteaeeinfjhhhoab
