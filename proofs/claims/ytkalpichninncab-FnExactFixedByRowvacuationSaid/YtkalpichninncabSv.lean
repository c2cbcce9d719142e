/- Sieving: divisors, signs, sums of powers of roots of unity, values by remainders. No program is named here. -/
import Derived.Test.YtkalpichninncabBase
namespace Go.Proofs.Ytkalpichninncab
set_option linter.unusedVariables false

def tnB (n : Int) : Bool := decide (1 ≤ n) && decide (n ≤ 60)
def stB (d : Int) : Bool := decide (0 ≤ d) && decide (d ≤ 60)
theorem tnB_nat {n : Int} (h : tnB n = true) : ∃ k : Nat, n = (k : Int) ∧ 1 ≤ k ∧ k ≤ 60 := by
  unfold tnB at h
  simp only [Bool.and_eq_true, decide_eq_true_eq] at h
  exact ⟨n.toNat, by omega, by omega, by omega⟩
theorem stB_nat {d : Int} (h : stB d = true) : ∃ k : Nat, d = (k : Int) ∧ k ≤ 60 := by
  unfold stB at h
  simp only [Bool.and_eq_true, decide_eq_true_eq] at h
  exact ⟨d.toNat, by omega, by omega⟩
theorem tnB_of {k : Nat} (h1 : 1 ≤ k) (h2 : k ≤ 60) : tnB k = true := by
  unfold tnB; simp only [Bool.and_eq_true, decide_eq_true_eq]; omega
theorem stB_of {k : Nat} (h2 : k ≤ 60) : stB k = true := by
  unfold stB; simp only [Bool.and_eq_true, decide_eq_true_eq]; omega

/-! ### divisors -/
def upT (j : Nat) : List Nat := (List.range j).map fun i => i + 1
theorem upT_succ (j : Nat) : upT (j + 1) = upT j ++ [j + 1] := by simp [upT, List.range_succ]
theorem upT_mem {j k : Nat} (h : k ∈ upT j) : 1 ≤ k ∧ k ≤ j := by
  unfold upT at h
  rw [List.mem_map] at h
  obtain ⟨i, hi, rfl⟩ := h
  have := List.mem_range.1 hi
  omega
def dvT (n j : Nat) : List Nat := (upT j).filter fun k => n % k == 0
def dvN (n : Nat) : List Nat := dvT n n
theorem dvT_yes {n j : Nat} (h : n % (j + 1) = 0) : dvT n (j + 1) = dvT n j ++ [j + 1] := by
  unfold dvT; rw [upT_succ, List.filter_append]; simp [h]
theorem dvT_no {n j : Nat} (h : ¬ n % (j + 1) = 0) : dvT n (j + 1) = dvT n j := by
  unfold dvT; rw [upT_succ, List.filter_append]; simp [h]
theorem dvT_mem {n j k : Nat} (h : k ∈ dvT n j) : 1 ≤ k ∧ k ≤ j ∧ n % k = 0 := by
  unfold dvT at h
  rw [List.mem_filter] at h
  obtain ⟨h1, h2⟩ := upT_mem h.1
  exact ⟨h1, h2, by simpa using h.2⟩
theorem dvT_length (n j : Nat) : (dvT n j).length ≤ j := by
  unfold dvT
  refine Nat.le_trans (List.length_filter_le _ _) ?_
  simp [upT]
theorem dvT_get {n j i : Nat} (h : i < (dvT n j).length) : (dvT n j).getD i 0 ∈ dvT n j := by
  rw [List.getD_eq_getElem?_getD, List.getElem?_eq_getElem h]; exact List.getElem_mem h
def intsN (l : List Nat) : List Int := l.map fun x : Nat => (x : Int)
theorem intsN_length (l : List Nat) : (intsN l).length = l.length := by simp [intsN]
theorem intsN_get {l : List Nat} {i : Nat} (h : i < l.length) : (intsN l).getD i 0 = ((l.getD i 0 : Nat) : Int) := by simp [intsN, List.getD, h]
theorem intsN_snoc (l : List Nat) (x : Nat) : intsN (l ++ [x]) = intsN l ++ [(x : Int)] := by simp [intsN]

/-! ### signs -/
/-- by ever greater numbers -/
def sgS : Nat → Nat → Nat → Int → Int
  | 0, _, _, s => s
  | f + 1, p, n, s => if n ≤ 1 then s else if n % p = 0 then (if n / p % p = 0 then 0 else sgS f (p + 1) (n / p) (-s)) else sgS f (p + 1) n s
def sgN (n : Nat) : Int := sgS 60 2 n 1
/-- by the divisors in a list -/
def sgF : List Nat → Nat → Int → Int
  | [], _, s => s
  | k :: ks, n, s => if k = 1 ∨ ¬ n % k = 0 then sgF ks n s else if n / k % k = 0 then 0 else sgF ks (n / k) (-s)
theorem sg_chk : ((List.range 61).all fun n => decide (sgF (dvN n) n 1 = sgN n)) = true := by decide +kernel
theorem sgF_eq {n : Nat} (h : n ≤ 60) : sgF (dvN n) n 1 = sgN n := by
  have := List.all_eq_true.1 sg_chk n (List.mem_range.2 (by omega))
  exact of_decide_eq_true this
theorem sgS_le (f p n : Nat) (s : Int) (h : -1 ≤ s ∧ s ≤ 1) : -1 ≤ sgS f p n s ∧ sgS f p n s ≤ 1 := by
  induction f generalizing p n s with
  | zero => exact h
  | succ f ih =>
    rw [sgS]
    split
    · exact h
    · split
      · split
        · decide
        · exact ih _ _ _ (by omega)
      · exact ih _ _ _ h
theorem sgN_le (n : Nat) : -1 ≤ sgN n ∧ sgN n ≤ 1 := sgS_le _ _ _ _ (by decide)
theorem sgS_stop (f p : Nat) {n : Nat} (s : Int) (h : n ≤ 1) : sgS f p n s = s := by
  cases f with
  | zero => rfl
  | succ f => rw [sgS, if_pos h]
theorem sgS_no {f p n : Nat} (s : Int) (h : ¬ n ≤ 1) (k : ¬ n % p = 0) : sgS (f + 1) p n s = sgS f (p + 1) n s := by rw [sgS, if_neg h, if_neg k]
theorem sgS_sq {f p n : Nat} (s : Int) (h : ¬ n ≤ 1) (k : n % p = 0) (m : n / p % p = 0) : sgS (f + 1) p n s = 0 := by rw [sgS, if_neg h, if_pos k, if_pos m]
theorem sgS_yes {f p n : Nat} (s : Int) (h : ¬ n ≤ 1) (k : n % p = 0) (m : ¬ n / p % p = 0) : sgS (f + 1) p n s = sgS f (p + 1) (n / p) (-s) := by rw [sgS, if_neg h, if_pos k, if_neg m]
/-- no number from 2 below p divides n -/
def NoDv (p n : Nat) : Prop := ∀ q, 2 ≤ q → q < p → ¬ n % q = 0
theorem NoDv.le {p n : Nat} (h : NoDv p n) (hn : ¬ n ≤ 1) : p ≤ n := by
  rcases Nat.lt_or_ge n p with hlt | hge
  · exact absurd (Nat.mod_self n) (h n (by omega) hlt)
  · exact hge
theorem NoDv.no {p n : Nat} (h : NoDv p n) (k : ¬ n % p = 0) : NoDv (p + 1) n := fun q h1 h2 => by
  by_cases e : q = p
  · subst e; exact k
  · exact h q h1 (by omega)
theorem NoDv.yes {p n : Nat} (h : NoDv p n) (k : n % p = 0) (m : ¬ n / p % p = 0) : NoDv (p + 1) (n / p) := fun q h1 h2 hq => by
  by_cases e : q = p
  · subst e; exact m hq
  · have hd : q ∣ n := Nat.dvd_trans (Nat.dvd_of_mod_eq_zero hq) (Nat.div_dvd_of_dvd (Nat.dvd_of_mod_eq_zero k))
    exact h q h1 (by omega) (Nat.mod_eq_zero_of_dvd hd)
theorem sgF_one {ks : List Nat} {k n : Nat} (s : Int) (h : k = 1 ∨ ¬ n % k = 0) : sgF (k :: ks) n s = sgF ks n s := by rw [sgF, if_pos h]
theorem sgF_sq {ks : List Nat} {k n : Nat} (s : Int) (h : ¬ k = 1) (h2 : n % k = 0) (m : n / k % k = 0) : sgF (k :: ks) n s = 0 := by rw [sgF, if_neg (by simp [h, h2]), if_pos m]
theorem sgF_yes {ks : List Nat} {k n : Nat} (s : Int) (h : ¬ k = 1) (h2 : n % k = 0) (m : ¬ n / k % k = 0) : sgF (k :: ks) n s = sgF ks (n / k) (-s) := by rw [sgF, if_neg (by simp [h, h2]), if_neg m]
theorem drop_cons {l : List Nat} {j : Nat} (h : j < l.length) : l.drop j = l.getD j 0 :: l.drop (j + 1) := by
  rw [List.drop_eq_getElem_cons h, List.getD_eq_getElem?_getD, List.getElem?_eq_getElem h]; rfl

/-! ### sums of powers of roots of unity -/
def rsT (m d : Nat) : Nat → Int
  | 0 => 0
  | j + 1 => if m % (j + 1) = 0 ∧ d % (j + 1) = 0 then rsT m d j + ((j + 1 : Nat) : Int) * sgN (m / (j + 1)) else rsT m d j
def rsN (m d : Nat) : Int := rsT m d m
theorem rsT_yes {m d j : Nat} (h : m % (j + 1) = 0) (k : d % (j + 1) = 0) : rsT m d (j + 1) = rsT m d j + ((j + 1 : Nat) : Int) * sgN (m / (j + 1)) := by rw [rsT, if_pos ⟨h, k⟩]
theorem rsT_no {m d j : Nat} (h : ¬ (m % (j + 1) = 0 ∧ d % (j + 1) = 0)) : rsT m d (j + 1) = rsT m d j := by rw [rsT, if_neg h]
theorem mul_sg {k : Nat} {s : Int} (hs : -1 ≤ s ∧ s ≤ 1) : -(k : Int) ≤ (k : Int) * s ∧ (k : Int) * s ≤ k := by
  have : s = -1 ∨ s = 0 ∨ s = 1 := by omega
  rcases this with rfl | rfl | rfl <;> simp <;> omega
theorem rsT_le (m d j : Nat) (hj : j ≤ 60) : -(60 * (j : Int)) ≤ rsT m d j ∧ rsT m d j ≤ 60 * (j : Int) := by
  induction j with
  | zero => simp [rsT]
  | succ j ih =>
    have h1 := ih (by omega)
    have h2 := mul_sg (k := j + 1) (sgN_le (m / (j + 1)))
    rw [rsT]
    obtain ⟨z, hz⟩ : ∃ z, ((j + 1 : Nat) : Int) * sgN (m / (j + 1)) = z := ⟨_, rfl⟩
    rw [hz] at h2 ⊢
    split <;> omega
theorem rsN_le (m d : Nat) (hm : m ≤ 60) : -3600 ≤ rsN m d ∧ rsN m d ≤ 3600 := by
  have := rsT_le m d m hm
  unfold rsN; omega
/-- over a list, as far as j -/
def rsL (m : Nat) (ks : List Nat) : Nat → Int
  | 0 => 0
  | j + 1 => rsL m ks j + ((ks.getD j 0 : Nat) : Int) * sgN (m / ks.getD j 0)
def rsA (m : Nat) (ks : List Nat) : Int := (ks.map fun k => ((k : Nat) : Int) * sgN (m / k)).sum
theorem rsL_take (m : Nat) (ks : List Nat) (j : Nat) (hj : j ≤ ks.length) : rsL m ks j = rsA m (ks.take j) := by
  induction j with
  | zero => simp [rsL, rsA]
  | succ j ih =>
    rw [rsL, ih (by omega), List.take_add_one]
    have e : ks[j]? = some (ks.getD j 0) := by rw [List.getD_eq_getElem?_getD, List.getElem?_eq_getElem (show j < ks.length by omega)]; rfl
    rw [e]
    simp [rsA]
theorem rsL_full (m : Nat) (ks : List Nat) : rsL m ks ks.length = rsA m ks := by rw [rsL_take m ks _ (Nat.le_refl _), List.take_length]
theorem rsT_list (m d j : Nat) : rsT m d j = rsA m ((upT j).filter fun k => m % k == 0 && d % k == 0) := by
  induction j with
  | zero => simp [rsT, rsA, upT]
  | succ j ih =>
    rw [rsT, upT_succ, List.filter_append]
    by_cases h : m % (j + 1) = 0 ∧ d % (j + 1) = 0
    · rw [if_pos h, ih]
      simp [rsA, h.1, h.2]
    · rw [if_neg h, ih]
      have : (m % (j + 1) == 0 && d % (j + 1) == 0) = false := by
        rw [Bool.eq_false_iff]; intro h2; apply h; simpa using h2
      simp [rsA, this]
theorem dv_chk : ((List.range 61).all fun m => (List.range 61).all fun d => m == 0 || ((upT m).filter fun k => m % k == 0 && d % k == 0) == dvN (Nat.gcd m d)) = true := by decide +kernel
theorem rs_gcd {m d : Nat} (h1 : 1 ≤ m) (hm : m ≤ 60) (hd : d ≤ 60) : rsL m (dvN (Nat.gcd m d)) (dvN (Nat.gcd m d)).length = rsN m d := by
  have a := List.all_eq_true.1 dv_chk m (List.mem_range.2 (by omega))
  have b := List.all_eq_true.1 a d (List.mem_range.2 (by omega))
  have e : (m == 0) = false := by rw [beq_eq_false_iff_ne]; omega
  rw [e, Bool.false_or] at b
  rw [rsL_full, ← eq_of_beq b, ← rsT_list]; rfl
theorem rsL_le (m : Nat) {ks : List Nat} (hk : ∀ k ∈ ks, k ≤ 60) (j : Nat) (hj : j ≤ ks.length) : -(60 * (j : Int)) ≤ rsL m ks j ∧ rsL m ks j ≤ 60 * (j : Int) := by
  induction j with
  | zero => simp [rsL]
  | succ j ih =>
    have h1 := ih (by omega)
    have hg : ks.getD j 0 ≤ 60 := hk _ (by rw [List.getD_eq_getElem?_getD, List.getElem?_eq_getElem (show j < ks.length by omega)]; exact List.getElem_mem _)
    have h2 := mul_sg (k := ks.getD j 0) (sgN_le (m / ks.getD j 0))
    rw [rsL]
    obtain ⟨z, hz⟩ : ∃ z, ((ks.getD j 0 : Nat) : Int) * sgN (m / ks.getD j 0) = z := ⟨_, rfl⟩
    rw [hz] at h2 ⊢
    omega

/-! ### values by remainders -/
def restB (rs : List Int) : Bool := tnB (rs.length : Int) && rs.all fun x => decide (0 ≤ x) && decide (x ≤ 100000000)
theorem restB_all {rs : List Int} (h : restB rs = true) : 1 ≤ rs.length ∧ rs.length ≤ 60 ∧ ∀ j, j < rs.length → 0 ≤ rs.getD j 0 ∧ rs.getD j 0 ≤ 100000000 := by
  unfold restB tnB at h
  simp only [Bool.and_eq_true, decide_eq_true_eq, List.all_eq_true] at h
  refine ⟨by omega, by omega, fun j hj => ?_⟩
  rw [List.getD_eq_getElem?_getD, List.getElem?_eq_getElem hj]
  exact h.2 _ (List.getElem_mem hj)
def eqB (rs : List Int) : Bool := (List.range rs.length).all fun r => rs.getD r 0 == rs.getD (Nat.gcd rs.length r % rs.length) 0
theorem eqB_no {rs : List Int} {r : Nat} (hr : r < rs.length) (h : ¬ rs.getD r 0 = rs.getD (Nat.gcd rs.length r % rs.length) 0) : eqB rs = false := by
  rw [Bool.eq_false_iff]
  intro hc
  exact h (eq_of_beq (List.all_eq_true.1 hc r (List.mem_range.2 hr)))
theorem eqB_yes {rs : List Int} (h : ∀ r, r < rs.length → rs.getD r 0 = rs.getD (Nat.gcd rs.length r % rs.length) 0) : eqB rs = true := by
  unfold eqB
  rw [List.all_eq_true]
  intro r hr
  exact beq_iff_eq.2 (h r (List.mem_range.1 hr))
def vt (rs : List Int) (d g : Nat) : Int := rs.getD (g % rs.length) 0 * rsN (rs.length / g) d
def vlT (rs : List Int) (d : Nat) : Nat → Int
  | 0 => 0
  | j + 1 => if rs.length % (j + 1) = 0 then vlT rs d j + vt rs d (j + 1) else vlT rs d j
theorem vlT_yes {rs : List Int} {d j : Nat} (h : rs.length % (j + 1) = 0) : vlT rs d (j + 1) = vlT rs d j + vt rs d (j + 1) := by rw [vlT, if_pos h]
theorem vlT_no {rs : List Int} {d j : Nat} (h : ¬ rs.length % (j + 1) = 0) : vlT rs d (j + 1) = vlT rs d j := by rw [vlT, if_neg h]
def vlN (rs : List Int) (d : Nat) : Int := vlT rs d rs.length
def vlL (rs : List Int) (d : Nat) (ks : List Nat) : Nat → Int
  | 0 => 0
  | j + 1 => vlL rs d ks j + vt rs d (ks.getD j 0)
def vlA (rs : List Int) (d : Nat) (ks : List Nat) : Int := (ks.map fun k => vt rs d k).sum
theorem vlL_take (rs : List Int) (d : Nat) (ks : List Nat) (j : Nat) (hj : j ≤ ks.length) : vlL rs d ks j = vlA rs d (ks.take j) := by
  induction j with
  | zero => simp [vlL, vlA]
  | succ j ih =>
    rw [vlL, ih (by omega), List.take_add_one]
    have e : ks[j]? = some (ks.getD j 0) := by rw [List.getD_eq_getElem?_getD, List.getElem?_eq_getElem (show j < ks.length by omega)]; rfl
    rw [e]
    simp [vlA]
theorem vlT_list (rs : List Int) (d j : Nat) : vlT rs d j = vlA rs d (dvT rs.length j) := by
  induction j with
  | zero => simp [vlT, vlA, dvT, upT]
  | succ j ih =>
    by_cases h : rs.length % (j + 1) = 0
    · rw [vlT_yes h, dvT_yes h, ih]; simp [vlA]
    · rw [vlT_no h, dvT_no h, ih]
theorem vlL_full (rs : List Int) (d : Nat) : vlL rs d (dvN rs.length) (dvN rs.length).length = vlN rs d := by
  rw [vlL_take rs d _ _ (Nat.le_refl _), List.take_length]
  exact (vlT_list rs d rs.length).symm
theorem vt_le {rs : List Int} (h : restB rs = true) (d g : Nat) : -360000000000 ≤ vt rs d g ∧ vt rs d g ≤ 360000000000 := by
  obtain ⟨h1, h2, h3⟩ := restB_all h
  have hr := h3 (g % rs.length) (Nat.mod_lt _ (by omega))
  have hs := rsN_le (rs.length / g) d (Nat.le_trans (Nat.div_le_self _ _) h2)
  unfold vt
  obtain ⟨x, hx⟩ := Int.eq_ofNat_of_zero_le hr.1
  rw [hx] at hr ⊢
  obtain ⟨y, hy⟩ : ∃ y, rsN (rs.length / g) d = y := ⟨_, rfl⟩
  rw [hy] at hs ⊢
  have a1 : (x : Int) * y ≤ (x : Int) * 3600 := Int.mul_le_mul_of_nonneg_left hs.2 (by omega)
  have a2 : (x : Int) * (-3600) ≤ (x : Int) * y := Int.mul_le_mul_of_nonneg_left hs.1 (by omega)
  omega
theorem vlT_le {rs : List Int} (h : restB rs = true) (d j : Nat) : -(360000000000 * (j : Int)) ≤ vlT rs d j ∧ vlT rs d j ≤ 360000000000 * (j : Int) := by
  induction j with
  | zero => simp [vlT]
  | succ j ih =>
    have := vt_le h d (j + 1)
    rw [vlT]
    obtain ⟨z, hz⟩ : ∃ z, vt rs d (j + 1) = z := ⟨_, rfl⟩
    rw [hz] at this ⊢
    split <;> omega
theorem vlL_le {rs : List Int} (h : restB rs = true) (d : Nat) (ks : List Nat) (j : Nat) : -(360000000000 * (j : Int)) ≤ vlL rs d ks j ∧ vlL rs d ks j ≤ 360000000000 * (j : Int) := by
  induction j with
  | zero => simp [vlL]
  | succ j ih =>
    have := vt_le h d (ks.getD j 0)
    rw [vlL]
    obtain ⟨z, hz⟩ : ∃ z, vt rs d (ks.getD j 0) = z := ⟨_, rfl⟩
    rw [hz] at this ⊢
    omega
end Go.Proofs.Ytkalpichninncab
