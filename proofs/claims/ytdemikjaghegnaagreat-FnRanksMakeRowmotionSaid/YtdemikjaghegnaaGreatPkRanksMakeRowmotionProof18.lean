/- Texts Sv, SvM, SvW, one behind the other. -/
import Derived.Test.YtdemikjaghegnaaGreatPkRanksMakeRowmotionProof00
import Derived.Test.YtdemikjaghegnaaGreatPkRanksMakeRowmotionProof01
/- Sieving: divisors, signs, sums of powers of roots of unity, values by remainders. No program is named here. -/
namespace Go.Proofs.YtdemikjaghegnaaGreat
set_option linter.unusedVariables false

def tnB (n : Int) : Bool := decide (1 ≤ n) && decide (n ≤ 60)
def stB (d : Int) : Bool := decide (0 ≤ d) && decide (d ≤ 60)
theorem tnB_nat {n : Int} (h : tnB n = true) : ∃ k : Nat, n = (k : Int) ∧ 1 ≤ k ∧ k ≤ 60 := by
  unfold tnB at h
  simp only [Bool.and_eq_true, decide_eq_true_eq] at h
  exact ⟨n.toNat, by omega, by omega, by omega⟩
theorem stB_nat {d : Int} (h : stB d = true) : ∃ k : Nat, d = (k : Int) ∧ k ≤ 60 := by
  unfold stB at h
  simp only [Bool.and_eq_true, decide_eq_true_eq] at h
  exact ⟨d.toNat, by omega, by omega⟩
theorem tnB_of {k : Nat} (h1 : 1 ≤ k) (h2 : k ≤ 60) : tnB k = true := by
  unfold tnB; simp only [Bool.and_eq_true, decide_eq_true_eq]; omega
theorem stB_of {k : Nat} (h2 : k ≤ 60) : stB k = true := by
  unfold stB; simp only [Bool.and_eq_true, decide_eq_true_eq]; omega

/-! ### divisors -/
def upT (j : Nat) : List Nat := (List.range j).map fun i => i + 1
theorem upT_succ (j : Nat) : upT (j + 1) = upT j ++ [j + 1] := by simp [upT, List.range_succ]
theorem upT_mem {j k : Nat} (h : k ∈ upT j) : 1 ≤ k ∧ k ≤ j := by
  unfold upT at h
  rw [List.mem_map] at h
  obtain ⟨i, hi, rfl⟩ := h
  have := List.mem_range.1 hi
  omega
def dvT (n j : Nat) : List Nat := (upT j).filter fun k => n % k == 0
def dvN (n : Nat) : List Nat := dvT n n
theorem dvT_yes {n j : Nat} (h : n % (j + 1) = 0) : dvT n (j + 1) = dvT n j ++ [j + 1] := by
  unfold dvT; rw [upT_succ, List.filter_append]; simp [h]
theorem dvT_no {n j : Nat} (h : ¬ n % (j + 1) = 0) : dvT n (j + 1) = dvT n j := by
  unfold dvT; rw [upT_succ, List.filter_append]; simp [h]
theorem dvT_mem {n j k : Nat} (h : k ∈ dvT n j) : 1 ≤ k ∧ k ≤ j ∧ n % k = 0 := by
  unfold dvT at h
  rw [List.mem_filter] at h
  obtain ⟨h1, h2⟩ := upT_mem h.1
  exact ⟨h1, h2, by simpa using h.2⟩
theorem dvT_length (n j : Nat) : (dvT n j).length ≤ j := by
  unfold dvT
  refine Nat.le_trans (List.length_filter_le _ _) ?_
  simp [upT]
theorem dvT_get {n j i : Nat} (h : i < (dvT n j).length) : (dvT n j).getD i 0 ∈ dvT n j := by
  rw [List.getD_eq_getElem?_getD, List.getElem?_eq_getElem h]; exact List.getElem_mem h
def intsN (l : List Nat) : List Int := l.map fun x : Nat => (x : Int)
theorem intsN_length (l : List Nat) : (intsN l).length = l.length := by simp [intsN]
theorem intsN_get {l : List Nat} {i : Nat} (h : i < l.length) : (intsN l).getD i 0 = ((l.getD i 0 : Nat) : Int) := by simp [intsN, List.getD, h]
theorem intsN_snoc (l : List Nat) (x : Nat) : intsN (l ++ [x]) = intsN l ++ [(x : Int)] := by simp [intsN]

/-! ### signs -/
/-- by ever greater numbers -/
def sgS : Nat → Nat → Nat → Int → Int
  | 0, _, _, s => s
  | f + 1, p, n, s => if n ≤ 1 then s else if n % p = 0 then (if n / p % p = 0 then 0 else sgS f (p + 1) (n / p) (-s)) else sgS f (p + 1) n s
def sgN (n : Nat) : Int := sgS 60 2 n 1
/-- by the divisors in a list -/
def sgF : List Nat → Nat → Int → Int
  | [], _, s => s
  | k :: ks, n, s => if k = 1 ∨ ¬ n % k = 0 then sgF ks n s else if n / k % k = 0 then 0 else sgF ks (n / k) (-s)
theorem sg_chk : ((List.range 61).all fun n => decide (sgF (dvN n) n 1 = sgN n)) = true := by decide +kernel
theorem sgF_eq {n : Nat} (h : n ≤ 60) : sgF (dvN n) n 1 = sgN n := by
  have := List.all_eq_true.1 sg_chk n (List.mem_range.2 (by omega))
  exact of_decide_eq_true this
theorem sgS_le (f p n : Nat) (s : Int) (h : -1 ≤ s ∧ s ≤ 1) : -1 ≤ sgS f p n s ∧ sgS f p n s ≤ 1 := by
  induction f generalizing p n s with
  | zero => exact h
  | succ f ih =>
    rw [sgS]
    split
    · exact h
    · split
      · split
        · decide
        · exact ih _ _ _ (by omega)
      · exact ih _ _ _ h
theorem sgN_le (n : Nat) : -1 ≤ sgN n ∧ sgN n ≤ 1 := sgS_le _ _ _ _ (by decide)
theorem sgS_stop (f p : Nat) {n : Nat} (s : Int) (h : n ≤ 1) : sgS f p n s = s := by
  cases f with
  | zero => rfl
  | succ f => rw [sgS, if_pos h]
theorem sgS_no {f p n : Nat} (s : Int) (h : ¬ n ≤ 1) (k : ¬ n % p = 0) : sgS (f + 1) p n s = sgS f (p + 1) n s := by rw [sgS, if_neg h, if_neg k]
theorem sgS_sq {f p n : Nat} (s : Int) (h : ¬ n ≤ 1) (k : n % p = 0) (m : n / p % p = 0) : sgS (f + 1) p n s = 0 := by rw [sgS, if_neg h, if_pos k, if_pos m]
theorem sgS_yes {f p n : Nat} (s : Int) (h : ¬ n ≤ 1) (k : n % p = 0) (m : ¬ n / p % p = 0) : sgS (f + 1) p n s = sgS f (p + 1) (n / p) (-s) := by rw [sgS, if_neg h, if_pos k, if_neg m]
/-- no number from 2 below p divides n -/
def NoDv (p n : Nat) : Prop := ∀ q, 2 ≤ q → q < p → ¬ n % q = 0
theorem NoDv.le {p n : Nat} (h : NoDv p n) (hn : ¬ n ≤ 1) : p ≤ n := by
  rcases Nat.lt_or_ge n p with hlt | hge
  · exact absurd (Nat.mod_self n) (h n (by omega) hlt)
  · exact hge
theorem NoDv.no {p n : Nat} (h : NoDv p n) (k : ¬ n % p = 0) : NoDv (p + 1) n := fun q h1 h2 => by
  by_cases e : q = p
  · subst e; exact k
  · exact h q h1 (by omega)
theorem NoDv.yes {p n : Nat} (h : NoDv p n) (k : n % p = 0) (m : ¬ n / p % p = 0) : NoDv (p + 1) (n / p) := fun q h1 h2 hq => by
  by_cases e : q = p
  · subst e; exact m hq
  · have hd : q ∣ n := Nat.dvd_trans (Nat.dvd_of_mod_eq_zero hq) (Nat.div_dvd_of_dvd (Nat.dvd_of_mod_eq_zero k))
    exact h q h1 (by omega) (Nat.mod_eq_zero_of_dvd hd)
theorem sgF_one {ks : List Nat} {k n : Nat} (s : Int) (h : k = 1 ∨ ¬ n % k = 0) : sgF (k :: ks) n s = sgF ks n s := by rw [sgF, if_pos h]
theorem sgF_sq {ks : List Nat} {k n : Nat} (s : Int) (h : ¬ k = 1) (h2 : n % k = 0) (m : n / k % k = 0) : sgF (k :: ks) n s = 0 := by rw [sgF, if_neg (by simp [h, h2]), if_pos m]
theorem sgF_yes {ks : List Nat} {k n : Nat} (s : Int) (h : ¬ k = 1) (h2 : n % k = 0) (m : ¬ n / k % k = 0) : sgF (k :: ks) n s = sgF ks (n / k) (-s) := by rw [sgF, if_neg (by simp [h, h2]), if_neg m]
theorem drop_cons {l : List Nat} {j : Nat} (h : j < l.length) : l.drop j = l.getD j 0 :: l.drop (j + 1) := by
  rw [List.drop_eq_getElem_cons h, List.getD_eq_getElem?_getD, List.getElem?_eq_getElem h]; rfl

/-! ### sums of powers of roots of unity -/
def rsT (m d : Nat) : Nat → Int
  | 0 => 0
  | j + 1 => if m % (j + 1) = 0 ∧ d % (j + 1) = 0 then rsT m d j + ((j + 1 : Nat) : Int) * sgN (m / (j + 1)) else rsT m d j
def rsN (m d : Nat) : Int := rsT m d m
theorem rsT_yes {m d j : Nat} (h : m % (j + 1) = 0) (k : d % (j + 1) = 0) : rsT m d (j + 1) = rsT m d j + ((j + 1 : Nat) : Int) * sgN (m / (j + 1)) := by rw [rsT, if_pos ⟨h, k⟩]
theorem rsT_no {m d j : Nat} (h : ¬ (m % (j + 1) = 0 ∧ d % (j + 1) = 0)) : rsT m d (j + 1) = rsT m d j := by rw [rsT, if_neg h]
theorem mul_sg {k : Nat} {s : Int} (hs : -1 ≤ s ∧ s ≤ 1) : -(k : Int) ≤ (k : Int) * s ∧ (k : Int) * s ≤ k := by
  have : s = -1 ∨ s = 0 ∨ s = 1 := by omega
  rcases this with rfl | rfl | rfl <;> simp <;> omega
theorem rsT_le (m d j : Nat) (hj : j ≤ 60) : -(60 * (j : Int)) ≤ rsT m d j ∧ rsT m d j ≤ 60 * (j : Int) := by
  induction j with
  | zero => simp [rsT]
  | succ j ih =>
    have h1 := ih (by omega)
    have h2 := mul_sg (k := j + 1) (sgN_le (m / (j + 1)))
    rw [rsT]
    obtain ⟨z, hz⟩ : ∃ z, ((j + 1 : Nat) : Int) * sgN (m / (j + 1)) = z := ⟨_, rfl⟩
    rw [hz] at h2 ⊢
    split <;> omega
theorem rsN_le (m d : Nat) (hm : m ≤ 60) : -3600 ≤ rsN m d ∧ rsN m d ≤ 3600 := by
  have := rsT_le m d m hm
  unfold rsN; omega
/-- over a list, as far as j -/
def rsL (m : Nat) (ks : List Nat) : Nat → Int
  | 0 => 0
  | j + 1 => rsL m ks j + ((ks.getD j 0 : Nat) : Int) * sgN (m / ks.getD j 0)
def rsA (m : Nat) (ks : List Nat) : Int := (ks.map fun k => ((k : Nat) : Int) * sgN (m / k)).sum
theorem rsL_take (m : Nat) (ks : List Nat) (j : Nat) (hj : j ≤ ks.length) : rsL m ks j = rsA m (ks.take j) := by
  induction j with
  | zero => simp [rsL, rsA]
  | succ j ih =>
    rw [rsL, ih (by omega), List.take_add_one]
    have e : ks[j]? = some (ks.getD j 0) := by rw [List.getD_eq_getElem?_getD, List.getElem?_eq_getElem (show j < ks.length by omega)]; rfl
    rw [e]
    simp [rsA]
theorem rsL_full (m : Nat) (ks : List Nat) : rsL m ks ks.length = rsA m ks := by rw [rsL_take m ks _ (Nat.le_refl _), List.take_length]
theorem rsT_list (m d j : Nat) : rsT m d j = rsA m ((upT j).filter fun k => m % k == 0 && d % k == 0) := by
  induction j with
  | zero => simp [rsT, rsA, upT]
  | succ j ih =>
    rw [rsT, upT_succ, List.filter_append]
    by_cases h : m % (j + 1) = 0 ∧ d % (j + 1) = 0
    · rw [if_pos h, ih]
      simp [rsA, h.1, h.2]
    · rw [if_neg h, ih]
      have : (m % (j + 1) == 0 && d % (j + 1) == 0) = false := by
        rw [Bool.eq_false_iff]; intro h2; apply h; simpa using h2
      simp [rsA, this]
theorem dv_chk : ((List.range 61).all fun m => (List.range 61).all fun d => m == 0 || ((upT m).filter fun k => m % k == 0 && d % k == 0) == dvN (Nat.gcd m d)) = true := by decide +kernel
theorem rs_gcd {m d : Nat} (h1 : 1 ≤ m) (hm : m ≤ 60) (hd : d ≤ 60) : rsL m (dvN (Nat.gcd m d)) (dvN (Nat.gcd m d)).length = rsN m d := by
  have a := List.all_eq_true.1 dv_chk m (List.mem_range.2 (by omega))
  have b := List.all_eq_true.1 a d (List.mem_range.2 (by omega))
  have e : (m == 0) = false := by rw [beq_eq_false_iff_ne]; omega
  rw [e, Bool.false_or] at b
  rw [rsL_full, ← eq_of_beq b, ← rsT_list]; rfl
theorem rsL_le (m : Nat) {ks : List Nat} (hk : ∀ k ∈ ks, k ≤ 60) (j : Nat) (hj : j ≤ ks.length) : -(60 * (j : Int)) ≤ rsL m ks j ∧ rsL m ks j ≤ 60 * (j : Int) := by
  induction j with
  | zero => simp [rsL]
  | succ j ih =>
    have h1 := ih (by omega)
    have hg : ks.getD j 0 ≤ 60 := hk _ (by rw [List.getD_eq_getElem?_getD, List.getElem?_eq_getElem (show j < ks.length by omega)]; exact List.getElem_mem _)
    have h2 := mul_sg (k := ks.getD j 0) (sgN_le (m / ks.getD j 0))
    rw [rsL]
    obtain ⟨z, hz⟩ : ∃ z, ((ks.getD j 0 : Nat) : Int) * sgN (m / ks.getD j 0) = z := ⟨_, rfl⟩
    rw [hz] at h2 ⊢
    omega

/-! ### values by remainders -/
def restB (rs : List Int) : Bool := tnB (rs.length : Int) && rs.all fun x => decide (0 ≤ x) && decide (x ≤ 100000000)
theorem restB_all {rs : List Int} (h : restB rs = true) : 1 ≤ rs.length ∧ rs.length ≤ 60 ∧ ∀ j, j < rs.length → 0 ≤ rs.getD j 0 ∧ rs.getD j 0 ≤ 100000000 := by
  unfold restB tnB at h
  simp only [Bool.and_eq_true, decide_eq_true_eq, List.all_eq_true] at h
  refine ⟨by omega, by omega, fun j hj => ?_⟩
  rw [List.getD_eq_getElem?_getD, List.getElem?_eq_getElem hj]
  exact h.2 _ (List.getElem_mem hj)
def eqB (rs : List Int) : Bool := (List.range rs.length).all fun r => rs.getD r 0 == rs.getD (Nat.gcd rs.length r % rs.length) 0
theorem eqB_no {rs : List Int} {r : Nat} (hr : r < rs.length) (h : ¬ rs.getD r 0 = rs.getD (Nat.gcd rs.length r % rs.length) 0) : eqB rs = false := by
  rw [Bool.eq_false_iff]
  intro hc
  exact h (eq_of_beq (List.all_eq_true.1 hc r (List.mem_range.2 hr)))
theorem eqB_yes {rs : List Int} (h : ∀ r, r < rs.length → rs.getD r 0 = rs.getD (Nat.gcd rs.length r % rs.length) 0) : eqB rs = true := by
  unfold eqB
  rw [List.all_eq_true]
  intro r hr
  exact beq_iff_eq.2 (h r (List.mem_range.1 hr))
def vt (rs : List Int) (d g : Nat) : Int := rs.getD (g % rs.length) 0 * rsN (rs.length / g) d
def vlT (rs : List Int) (d : Nat) : Nat → Int
  | 0 => 0
  | j + 1 => if rs.length % (j + 1) = 0 then vlT rs d j + vt rs d (j + 1) else vlT rs d j
theorem vlT_yes {rs : List Int} {d j : Nat} (h : rs.length % (j + 1) = 0) : vlT rs d (j + 1) = vlT rs d j + vt rs d (j + 1) := by rw [vlT, if_pos h]
theorem vlT_no {rs : List Int} {d j : Nat} (h : ¬ rs.length % (j + 1) = 0) : vlT rs d (j + 1) = vlT rs d j := by rw [vlT, if_neg h]
def vlN (rs : List Int) (d : Nat) : Int := vlT rs d rs.length
def vlL (rs : List Int) (d : Nat) (ks : List Nat) : Nat → Int
  | 0 => 0
  | j + 1 => vlL rs d ks j + vt rs d (ks.getD j 0)
def vlA (rs : List Int) (d : Nat) (ks : List Nat) : Int := (ks.map fun k => vt rs d k).sum
theorem vlL_take (rs : List Int) (d : Nat) (ks : List Nat) (j : Nat) (hj : j ≤ ks.length) : vlL rs d ks j = vlA rs d (ks.take j) := by
  induction j with
  | zero => simp [vlL, vlA]
  | succ j ih =>
    rw [vlL, ih (by omega), List.take_add_one]
    have e : ks[j]? = some (ks.getD j 0) := by rw [List.getD_eq_getElem?_getD, List.getElem?_eq_getElem (show j < ks.length by omega)]; rfl
    rw [e]
    simp [vlA]
theorem vlT_list (rs : List Int) (d j : Nat) : vlT rs d j = vlA rs d (dvT rs.length j) := by
  induction j with
  | zero => simp [vlT, vlA, dvT, upT]
  | succ j ih =>
    by_cases h : rs.length % (j + 1) = 0
    · rw [vlT_yes h, dvT_yes h, ih]; simp [vlA]
    · rw [vlT_no h, dvT_no h, ih]
theorem vlL_full (rs : List Int) (d : Nat) : vlL rs d (dvN rs.length) (dvN rs.length).length = vlN rs d := by
  rw [vlL_take rs d _ _ (Nat.le_refl _), List.take_length]
  exact (vlT_list rs d rs.length).symm
theorem vt_le {rs : List Int} (h : restB rs = true) (d g : Nat) : -360000000000 ≤ vt rs d g ∧ vt rs d g ≤ 360000000000 := by
  obtain ⟨h1, h2, h3⟩ := restB_all h
  have hr := h3 (g % rs.length) (Nat.mod_lt _ (by omega))
  have hs := rsN_le (rs.length / g) d (Nat.le_trans (Nat.div_le_self _ _) h2)
  unfold vt
  obtain ⟨x, hx⟩ := Int.eq_ofNat_of_zero_le hr.1
  rw [hx] at hr ⊢
  obtain ⟨y, hy⟩ : ∃ y, rsN (rs.length / g) d = y := ⟨_, rfl⟩
  rw [hy] at hs ⊢
  have a1 : (x : Int) * y ≤ (x : Int) * 3600 := Int.mul_le_mul_of_nonneg_left hs.2 (by omega)
  have a2 : (x : Int) * (-3600) ≤ (x : Int) * y := Int.mul_le_mul_of_nonneg_left hs.1 (by omega)
  omega
theorem vlT_le {rs : List Int} (h : restB rs = true) (d j : Nat) : -(360000000000 * (j : Int)) ≤ vlT rs d j ∧ vlT rs d j ≤ 360000000000 * (j : Int) := by
  induction j with
  | zero => simp [vlT]
  | succ j ih =>
    have := vt_le h d (j + 1)
    rw [vlT]
    obtain ⟨z, hz⟩ : ∃ z, vt rs d (j + 1) = z := ⟨_, rfl⟩
    rw [hz] at this ⊢
    split <;> omega
theorem vlL_le {rs : List Int} (h : restB rs = true) (d : Nat) (ks : List Nat) (j : Nat) : -(360000000000 * (j : Int)) ≤ vlL rs d ks j ∧ vlL rs d ks j ≤ 360000000000 * (j : Int) := by
  induction j with
  | zero => simp [vlL]
  | succ j ih =>
    have := vt_le h d (ks.getD j 0)
    rw [vlL]
    obtain ⟨z, hz⟩ : ∃ z, vt rs d (ks.getD j 0) = z := ⟨_, rfl⟩
    rw [hz] at this ⊢
    omega
end Go.Proofs.YtdemikjaghegnaaGreat

/- Remainders of coefficients, orbits by remainders, sieves. No program is named here. -/
namespace Go.Proofs.YtdemikjaghegnaaGreat
set_option linter.unusedVariables false

def allB (lo hi : Int) (l : List Int) : Bool := l.all fun x => decide (lo ≤ x) && decide (x ≤ hi)
theorem allB_of {lo hi : Int} {l : List Int} (h : ∀ j, j < l.length → (decide (lo ≤ l.getD j 0) && decide (l.getD j 0 ≤ hi)) = true) : allB lo hi l = true := by
  unfold allB
  rw [List.all_eq_true]
  intro x hx
  obtain ⟨j, hj, rfl⟩ := List.getElem_of_mem hx
  have := h j hj
  rwa [List.getD_eq_getElem?_getD, List.getElem?_eq_getElem hj] at this
theorem allB_at {lo hi : Int} {l : List Int} (h : allB lo hi l = true) {j : Nat} (hj : j < l.length) : lo ≤ l.getD j 0 ∧ l.getD j 0 ≤ hi := by
  have := List.all_eq_true.1 h _ (List.getElem_mem hj)
  rw [List.getD_eq_getElem?_getD, List.getElem?_eq_getElem hj]
  simpa using this
theorem allB_not {lo hi : Int} {l : List Int} {j : Nat} (hj : j < l.length) (h : (decide (lo ≤ l.getD j 0) && decide (l.getD j 0 ≤ hi)) = false) : allB lo hi l = false := by
  rw [Bool.eq_false_iff] at h ⊢
  intro hc
  apply h
  have := allB_at hc hj
  simp only [Bool.and_eq_true, decide_eq_true_eq]
  exact this
theorem restB_eq (rs : List Int) : restB rs = (tnB (rs.length : Int) && allB 0 100000000 rs) := rfl

/-! ### remainders of coefficients -/
def remT (cs : List Int) (n : Nat) : Nat → List Int
  | 0 => List.replicate n 0
  | k + 1 => (remT cs n k).set (k % n) ((remT cs n k).getD (k % n) 0 + cs.getD k 0)
theorem remT_length (cs : List Int) (n k : Nat) : (remT cs n k).length = n := by
  induction k with
  | zero => simp [remT]
  | succ k ih => rw [remT, List.length_set, ih]
theorem getD_setSv (l : List Int) (i j : Nat) (x : Int) : (l.set i x).getD j 0 = if i = j ∧ i < l.length then x else l.getD j 0 := by
  rw [List.getD_eq_getElem?_getD, List.getElem?_set, List.getD_eq_getElem?_getD]
  by_cases h : i = j
  · subst h
    by_cases h2 : i < l.length
    · simp [h2]
    · simp [h2]
  · simp [h]
theorem remT_le {cs : List Int} {n : Nat} (h : ∀ j, j < cs.length → 0 ≤ cs.getD j 0 ∧ cs.getD j 0 ≤ 1000000) (k : Nat) (hk : k ≤ cs.length) (j : Nat) : 0 ≤ (remT cs n k).getD j 0 ∧ (remT cs n k).getD j 0 ≤ 1000000 * (k : Int) := by
  induction k generalizing j with
  | zero =>
    rw [remT, List.getD_eq_getElem?_getD, List.getElem?_replicate]
    split <;> simp
  | succ k ih =>
    have h1 := h k (by omega)
    have h2 := ih (by omega) (k % n)
    have h3 := ih (by omega) j
    rw [remT, getD_setSv]
    split <;> omega
def okRM (cs : List Int) (n : Int) : Bool := (decide (1 ≤ (cs.length : Int)) && decide ((cs.length : Int) ≤ 100)) && allB 0 1000000 cs && tnB n
def ansRM (cs : List Int) (n : Int) : List Int := if okRM cs n then remT cs n.toNat cs.length else []
theorem ansRM_no {cs : List Int} {n : Int} (h : okRM cs n = false) : ansRM cs n = [] := by simp [ansRM, h]
theorem ansRM_yes {cs : List Int} {n : Nat} (h : okRM cs n = true) : ansRM cs n = remT cs n cs.length := by simp [ansRM, h]
theorem okRM_no1 {cs : List Int} {n : Int} (h : (decide (1 ≤ (cs.length : Int)) && decide ((cs.length : Int) ≤ 100)) = false) : okRM cs n = false := by unfold okRM; rw [h]; rfl
theorem okRM_no2 {cs : List Int} {n : Int} (h : allB 0 1000000 cs = false) : okRM cs n = false := by unfold okRM; rw [h, Bool.and_false]; rfl
theorem okRM_no3 {cs : List Int} {n : Int} (h : tnB n = false) : okRM cs n = false := by unfold okRM; rw [h, Bool.and_false]
theorem okRM_yes {cs : List Int} {n : Int} (h1 : (decide (1 ≤ (cs.length : Int)) && decide ((cs.length : Int) ≤ 100)) = true) (h2 : allB 0 1000000 cs = true) (h3 : tnB n = true) : okRM cs n = true := by unfold okRM; rw [h1, h2, h3]; rfl
theorem ansRM_length (cs : List Int) (n : Int) : (ansRM cs n).length ≤ 1048576 := by
  cases h : okRM cs n
  · rw [ansRM_no h]; simp
  · have h2 : tnB n = true := by cases h3 : tnB n; rw [okRM_no3 h3] at h; cases h; rfl
    obtain ⟨k, rfl, h4, h5⟩ := tnB_nat h2
    rw [ansRM_yes h, remT_length]; omega

/-! ### orbits by remainders -/
def obC (rs : List Int) (g : Nat) (ks : List Nat) (o : List Int) : Nat → Int
  | 0 => rs.getD (g % rs.length) 0
  | j + 1 => if g % ks.getD j 0 = 0 then obC rs g ks o j - o.getD j 0 else obC rs g ks o j
theorem obC_yes {rs : List Int} {g : Nat} {ks : List Nat} {o : List Int} {j : Nat} (h : g % ks.getD j 0 = 0) : obC rs g ks o (j + 1) = obC rs g ks o j - o.getD j 0 := by rw [obC, if_pos h]
theorem obC_no {rs : List Int} {g : Nat} {ks : List Nat} {o : List Int} {j : Nat} (h : ¬ g % ks.getD j 0 = 0) : obC rs g ks o (j + 1) = obC rs g ks o j := by rw [obC, if_neg h]
def obL (rs : List Int) (ks : List Nat) : Nat → Option (List Int)
  | 0 => some []
  | i + 1 => (obL rs ks i).bind fun o => if obC rs (ks.getD i 0) ks o i < 0 then none else some (o ++ [obC rs (ks.getD i 0) ks o i])
theorem obL_none {rs : List Int} {ks : List Nat} {i : Nat} (h : obL rs ks i = none) (j : Nat) (hj : i ≤ j) : obL rs ks j = none := by
  induction j with
  | zero => have : i = 0 := by omega
            subst this; exact h
  | succ j ih =>
    by_cases e : i = j + 1
    · subst e; exact h
    · rw [obL, ih (by omega)]; rfl
theorem obL_neg {rs : List Int} {ks : List Nat} {i : Nat} {o : List Int} (h : obL rs ks i = some o) (k : obC rs (ks.getD i 0) ks o i < 0) : obL rs ks (i + 1) = none := by rw [obL, h, Option.bind_some, if_pos k]
theorem obL_pos {rs : List Int} {ks : List Nat} {i : Nat} {o : List Int} (h : obL rs ks i = some o) (k : ¬ obC rs (ks.getD i 0) ks o i < 0) : obL rs ks (i + 1) = some (o ++ [obC rs (ks.getD i 0) ks o i]) := by rw [obL, h, Option.bind_some, if_neg k]
theorem obC_congr {rs : List Int} {g : Nat} {ks ks' : List Nat} {o : List Int} {j : Nat} (h : ∀ i, i < j → ks.getD i 0 = ks'.getD i 0) : obC rs g ks o j = obC rs g ks' o j := by
  induction j with
  | zero => rfl
  | succ j ih =>
    rw [obC, obC, ih (fun i hi => h i (by omega)), h j (by omega)]
theorem obL_congr {rs : List Int} {ks ks' : List Nat} {i : Nat} (h : ∀ j, j < i → ks.getD j 0 = ks'.getD j 0) : obL rs ks i = obL rs ks' i := by
  induction i with
  | zero => rfl
  | succ i ih =>
    rw [obL, obL, ih (fun j hj => h j (by omega)), h i (by omega)]
    congr 1
    funext o
    rw [obC_congr (ks := ks) (ks' := ks') fun j hj => h j (by omega)]
theorem obL_length {rs : List Int} {ks : List Nat} {i : Nat} {o : List Int} (h : obL rs ks i = some o) : o.length = i := by
  induction i generalizing o with
  | zero => rw [obL] at h; injection h with h; subst h; rfl
  | succ i ih =>
    cases hq : obL rs ks i with
    | none => rw [obL, hq] at h; cases h
    | some o' =>
      rw [obL, hq, Option.bind_some] at h
      split at h
      · cases h
      · injection h with h; subst h; simp [ih hq]
theorem obC_le {rs : List Int} (hr : restB rs = true) {g : Nat} {ks : List Nat} {o : List Int} (ho : ∀ j, 0 ≤ o.getD j 0 ∧ o.getD j 0 ≤ 100000000) (j : Nat) : -(100000000 * (j : Int)) ≤ obC rs g ks o j ∧ obC rs g ks o j ≤ 100000000 := by
  obtain ⟨h1, h2, h3⟩ := restB_all hr
  induction j with
  | zero =>
    rw [obC]
    have := h3 (g % rs.length) (Nat.mod_lt _ (by omega))
    omega
  | succ j ih =>
    have := ho j
    rw [obC]
    split <;> omega
theorem obL_le {rs : List Int} (hr : restB rs = true) {ks : List Nat} {i : Nat} {o : List Int} (h : obL rs ks i = some o) (j : Nat) : 0 ≤ o.getD j 0 ∧ o.getD j 0 ≤ 100000000 := by
  induction i generalizing o j with
  | zero => rw [obL] at h; injection h with h; subst h; simp
  | succ i ih =>
    cases hq : obL rs ks i with
    | none => rw [obL, hq] at h; cases h
    | some o' =>
      by_cases hc : obC rs (ks.getD i 0) ks o' i < 0
      · rw [obL_neg hq hc] at h; cases h
      · rw [obL_pos hq hc] at h
        injection h with h
        have hb := obC_le hr (g := ks.getD i 0) (ks := ks) (fun j => ih hq j) i
        subst h
        rw [List.getD_eq_getElem?_getD, List.getElem?_append]
        split
        · have := ih hq j
          rwa [List.getD_eq_getElem?_getD] at this
        · rw [List.getElem?_singleton]
          split
          · simp only [Option.getD_some]; omega
          · simp
/-- along all numbers up to j -/
def obT (rs : List Int) (j : Nat) : Option (List Int) := obL rs (dvT rs.length j) (dvT rs.length j).length
theorem getD_snocN {l : List Nat} {x : Nat} {j : Nat} (h : j < l.length) : (l ++ [x]).getD j 0 = l.getD j 0 := by
  rw [List.getD_eq_getElem?_getD, List.getElem?_append_left h, ← List.getD_eq_getElem?_getD]
theorem getD_snocN' {l : List Nat} {x : Nat} : (l ++ [x]).getD l.length 0 = x := by
  rw [List.getD_eq_getElem?_getD, List.getElem?_append_right (Nat.le_refl _)]; simp
theorem obT_no {rs : List Int} {j : Nat} (h : ¬ rs.length % (j + 1) = 0) : obT rs (j + 1) = obT rs j := by unfold obT; rw [dvT_no h]
theorem obT_yes {rs : List Int} {j : Nat} (h : rs.length % (j + 1) = 0) : obT rs (j + 1) = (obT rs j).bind fun o => if obC rs (j + 1) (dvT rs.length j) o (dvT rs.length j).length < 0 then none else some (o ++ [obC rs (j + 1) (dvT rs.length j) o (dvT rs.length j).length]) := by
  unfold obT
  rw [dvT_yes h, List.length_append]
  show obL rs (dvT rs.length j ++ [j + 1]) ((dvT rs.length j).length + 1) = _
  rw [obL, obL_congr (ks := dvT rs.length j ++ [j + 1]) (ks' := dvT rs.length j) (fun i hi => getD_snocN hi), getD_snocN']
  congr 1
  funext o
  rw [obC_congr (ks := dvT rs.length j ++ [j + 1]) (ks' := dvT rs.length j) (fun i hi => getD_snocN hi)]
theorem obT_neg {rs : List Int} {j : Nat} {o : List Int} (h : rs.length % (j + 1) = 0) (ho : obT rs j = some o) (k : obC rs (j + 1) (dvT rs.length j) o (dvT rs.length j).length < 0) : obT rs (j + 1) = none := by rw [obT_yes h, ho, Option.bind_some, if_pos k]
theorem obT_pos {rs : List Int} {j : Nat} {o : List Int} (h : rs.length % (j + 1) = 0) (ho : obT rs j = some o) (k : ¬ obC rs (j + 1) (dvT rs.length j) o (dvT rs.length j).length < 0) : obT rs (j + 1) = some (o ++ [obC rs (j + 1) (dvT rs.length j) o (dvT rs.length j).length]) := by rw [obT_yes h, ho, Option.bind_some, if_neg k]
theorem obT_none {rs : List Int} {i : Nat} (h : obT rs i = none) (j : Nat) (hj : i ≤ j) : obT rs j = none := by
  induction j with
  | zero => have : i = 0 := by omega
            subst this; exact h
  | succ j ih =>
    by_cases e : i = j + 1
    · subst e; exact h
    · by_cases hd : rs.length % (j + 1) = 0
      · rw [obT_yes hd, ih (by omega)]; rfl
      · rw [obT_no hd, ih (by omega)]
def obR (rs : List Int) : Option (List Int) := obT rs rs.length
def okOB (rs : List Int) : Bool := restB rs && (obR rs).isSome
def ansOB (rs : List Int) : List Int := if okOB rs then (obR rs).getD [] else []
theorem okOB_no1 {rs : List Int} (h : restB rs = false) : okOB rs = false := by unfold okOB; rw [h]; rfl
theorem okOB_no2 {rs : List Int} (h : obR rs = none) : okOB rs = false := by unfold okOB; rw [h]; simp
theorem okOB_yes {rs o : List Int} (h1 : restB rs = true) (h : obR rs = some o) : okOB rs = true := by unfold okOB; rw [h, h1]; rfl
theorem ansOB_no {rs : List Int} (h : okOB rs = false) : ansOB rs = [] := by simp [ansOB, h]
theorem ansOB_yes {rs o : List Int} (h1 : restB rs = true) (h : obR rs = some o) : ansOB rs = o := by unfold ansOB; rw [if_pos (okOB_yes h1 h), h]; rfl
theorem ansOB_length (rs : List Int) : (ansOB rs).length ≤ 1048576 := by
  cases h : okOB rs
  · rw [ansOB_no h]; simp
  · unfold okOB at h
    rw [Bool.and_eq_true] at h
    obtain ⟨o, ho⟩ := Option.isSome_iff_exists.1 h.2
    rw [ansOB_yes h.1 ho, obL_length ho]
    have := dvT_length rs.length rs.length
    have := (restB_all h.1).2.1
    omega

/-! ### sieves -/
def cdT (ss : List Int) (r : Nat) : Nat → Nat
  | 0 => 0
  | j + 1 => if r % (ss.getD j 0).toNat = 0 then cdT ss r j + 1 else cdT ss r j
theorem cdT_yes {ss : List Int} {r j k : Nat} (e : ss.getD j 0 = (k : Int)) (h : r % k = 0) : cdT ss r (j + 1) = cdT ss r j + 1 := by rw [cdT, e, Int.toNat_natCast, if_pos h]
theorem cdT_no {ss : List Int} {r j k : Nat} (e : ss.getD j 0 = (k : Int)) (h : ¬ r % k = 0) : cdT ss r (j + 1) = cdT ss r j := by rw [cdT, e, Int.toNat_natCast, if_neg h]
theorem cdT_le (ss : List Int) (r j : Nat) : cdT ss r j ≤ j := by
  induction j with
  | zero => exact Nat.le_refl _
  | succ j ih => rw [cdT]; split <;> omega
def cdN (ss : List Int) (r : Nat) : Nat := cdT ss r ss.length
def okSV (rs ss : List Int) : Bool := restB rs && (decide ((ss.length : Int) ≤ 1000) && allB 1 60 ss)
def svB (rs ss : List Int) : Bool := (List.range rs.length).all fun r => rs.getD r 0 == (cdN ss r : Int)
def ansSV (rs ss : List Int) : Bool := okSV rs ss && svB rs ss
theorem svB_no {rs ss : List Int} {r : Nat} (hr : r < rs.length) (h : ¬ rs.getD r 0 = (cdN ss r : Int)) : svB rs ss = false := by
  rw [Bool.eq_false_iff]
  intro hc
  exact h (eq_of_beq (List.all_eq_true.1 hc r (List.mem_range.2 hr)))
theorem svB_yes {rs ss : List Int} (h : ∀ r, r < rs.length → rs.getD r 0 = (cdN ss r : Int)) : svB rs ss = true := by
  unfold svB
  rw [List.all_eq_true]
  intro r hr
  exact beq_iff_eq.2 (h r (List.mem_range.1 hr))
end Go.Proofs.YtdemikjaghegnaaGreat

/- Lists within bounds, turns and steps: both sides. -/
namespace Go.Proofs.YtdemikjaghegnaaGreat
open Go.RowKit Go.WideShapes Go.ChangeShapes
set_option linter.unusedVariables false

theorem l1AllB_any (v : Value) (ys : List Int) (lo hi : Int) (w : World) (hv : Ints w v ys) (hl : ys.length ≤ 1048576) :
    Calls Tryz.prog 67 #[v, .int .i64 lo, .int .i64 hi] w fun r w' => r = .returned (.bool (allB lo hi ys)) ∧ w = w' := by
  obtain ⟨A, c, rfl, hA⟩ := hv
  have HA := hid hA
  clear hA
  go_enter Tryz.func67, Tryz.ntmps67
  go_wp2
  go_loop [11] (fun i => ∃ k : Nat, k ≤ ys.length ∧ i = .int .i64 k ∧ Hid (∀ j, j < k → (decide (lo ≤ ys.getD j 0) && decide (ys.getD j 0 ≤ hi)) = true)) (fun i => ys.length - (intOf i).toNat)
  case atStart => exact ⟨0, Nat.zero_le _, rfl, hid (fun j hj => absurd hj (Nat.not_lt_zero _))⟩
  case round =>
    obtain ⟨k, hk, rfl, Hk⟩ := hrel
    by_cases hlt : k < ys.length
    · obtain ⟨b, o, rfl, hb, hc⟩ := HA.out (by intro h; simp [h] at hlt)
      have hcell := hc k hlt
      clear hc
      obtain ⟨x, hx⟩ : ∃ x, ys.getD k 0 = x := ⟨_, rfl⟩
      rw [hx] at hcell
      have Hx := hid hx
      clear hx
      cases hq : (decide (lo ≤ x) && decide (x ≤ hi))
      · have HQ := hid hq
        have HN := hid (allB_not (lo := lo) (hi := hi) hlt (by rw [Hx.out]; exact hq))
        clear hq
        go_wp2_with (go_at_call 60; refine (l1In_any _ _ _ _).mono ?_; rw [HQ.out]; rintro e w' ⟨rfl, rfl⟩)
        go_ret
        exact ⟨ret_bool HN.out.symm, rfl⟩
      · have HQ := hid hq
        clear hq
        go_wp2_with (go_at_call 60; refine (l1In_any _ _ _ _).mono ?_; rw [HQ.out]; rintro e w' ⟨rfl, rfl⟩)
        go_round
        case rel => exact ⟨k + 1, by omega, by go_num, hid (fun j hj => by
          by_cases h : j = k
          · subst h; rw [Hx.out]; exact HQ.out
          · exact Hk.out j (by omega))⟩
        case measure => simp [intOf]; omega
    · obtain rfl : k = ys.length := by omega
      have HN := hid (allB_of (lo := lo) (hi := hi) Hk.out)
      go_wp2
      go_ret
      exact ⟨ret_bool HN.out.symm, rfl⟩
/-! ### the program's own -/
theorem withinClosure_any (y lo hi : Int) (a b : Nat) (w : World) (h1 : At w a (.int .i64 lo)) (h2 : At w b (.int .i64 hi)) :
    Calls Tryz.prog 111 #[.int .i64 y, .pointer (some ⟨a, 0, none⟩), .pointer (some ⟨b, 0, none⟩)] w fun r w' => r = .returned (.bool (!(decide (lo ≤ y) && decide (y ≤ hi)))) ∧ w = w' := by
  have hb1 := h1.1
  have hb2 := h2.1
  clear h1 h2
  by_cases c1 : y < lo
  · skip
    go_enter Tryz.func111, Tryz.ntmps111
    go_wp2
    go_ret
    exact ⟨ret_bool (by simp <;> omega), rfl⟩
  · by_cases c2 : hi < y
    · have e2 : ¬ lo > y := by omega
      go_enter Tryz.func111, Tryz.ntmps111
      go_wp2
      go_ret
      exact ⟨ret_bool (by simp <;> omega), rfl⟩
    · skip
      go_enter Tryz.func111, Tryz.ntmps111
      go_wp2
      go_ret
      exact ⟨ret_bool (by simp <;> omega), rfl⟩
theorem indexFuncW_any (u : Value) (ys : List Int) (lo hi : Int) (a b : Nat) (w : World) (hu : Ints w u ys) (hm : ys.length ≤ 1048576) (h1 : At w a (.int .i64 lo)) (h2 : At w b (.int .i64 hi)) :
    Calls Tryz.prog 133 #[u, .func (.func 111) #[] #[.pointer (some ⟨a, 0, none⟩), .pointer (some ⟨b, 0, none⟩)]] w fun (r : Ending) w' => ∃ i : Int, r = Ending.returned (.int .i64 i) ∧ Hid (decide (0 ≤ i) = !allB lo hi ys) ∧ -1 ≤ i ∧ i ≤ 1048576 ∧ w = w' := by
  have H1 := hid h1
  have H2 := hid h2
  obtain ⟨A, c, rfl, hA⟩ := hu
  have HA := hid hA
  clear hA h1 h2
  go_enter Tryz.func133, Tryz.ntmps133
  go_wp2
  go_loop [8] (fun i => ∃ k : Nat, k ≤ ys.length ∧ i = .int .i64 k ∧ Hid (∀ j, j < k → (decide (lo ≤ ys.getD j 0) && decide (ys.getD j 0 ≤ hi)) = true)) (fun i => ys.length - (intOf i).toNat)
  case atStart => exact ⟨0, Nat.zero_le _, rfl, hid (fun j hj => absurd hj (Nat.not_lt_zero _))⟩
  case round =>
    obtain ⟨k, hk, rfl, Hk⟩ := hrel
    by_cases hlt : k < ys.length
    · obtain ⟨g, o, rfl, hbl, hc⟩ := HA.out (by intro h; simp [h] at hlt)
      have hcell := hc k hlt
      obtain ⟨x, hx⟩ : ∃ x, ys.getD k 0 = x := ⟨_, rfl⟩
      rw [hx] at hcell
      have HX := hid hx
      clear hc hx
      go_wp2_with fail
      refine (withinClosure_any x lo hi a b _ H1.out H2.out).mono ?_
      rintro e w' ⟨rfl, rfl⟩
      clear hcell
      cases hq : (decide (lo ≤ x) && decide (x ≤ hi))
      · have HN := hid (allB_not (lo := lo) (hi := hi) hlt (by rw [HX.out]; exact hq))
        clear hq
        go_wp2
        go_ret
        exact ⟨_, rfl, hid (by rw [HN.out]; simp), by omega, by omega, rfl⟩
      · have HQ := hid hq
        clear hq
        go_wp2
        go_round
        case rel => exact ⟨k + 1, by omega, by go_num, hid (fun j hj => by
          by_cases h : j = k
          · subst h; rw [HX.out]; exact HQ.out
          · exact Hk.out j (by omega))⟩
        case measure => simp [intOf]; omega
    · obtain rfl : k = ys.length := by omega
      have HN := hid (allB_of (lo := lo) (hi := hi) Hk.out)
      go_wp2
      go_ret
      exact ⟨_, rfl, hid (by rw [HN.out]; rfl), by omega, by omega, rfl⟩
theorem containsFuncW_any (u : Value) (ys : List Int) (lo hi : Int) (a b : Nat) (w : World) (hu : Ints w u ys) (hm : ys.length ≤ 1048576) (h1 : At w a (.int .i64 lo)) (h2 : At w b (.int .i64 hi)) :
    Calls Tryz.prog 110 #[u, .func (.func 111) #[] #[.pointer (some ⟨a, 0, none⟩), .pointer (some ⟨b, 0, none⟩)]] w fun r w' => r = .returned (.bool (!allB lo hi ys)) ∧ w = w' := by
  have HU := hid hu
  have H1 := hid h1
  have H2 := hid h2
  clear hu h1 h2
  go_enter Tryz.func110, Tryz.ntmps110
  go_wp2_with fail
  refine (indexFuncW_any u ys lo hi a b _ HU.out hm H1.out H2.out).mono ?_
  rintro e w' ⟨i, rfl, HI, h1, h2, rfl⟩
  go_wp2
  go_ret
  exact ⟨ret_bool (by rw [← HI.out]), rfl⟩
theorem areWithin_any (u : Value) (ys : List Int) (lo hi : Int) (w : World) (hu : Ints w u ys) (hm : ys.length ≤ 1048576) :
    Calls Tryz.prog 64 #[u, .int .i64 lo, .int .i64 hi] w fun r w' => r = .returned (.bool (allB lo hi ys)) ∧ Below w.heap.size w w' := by
  have HU := hid hu
  obtain ⟨A2, c2, rfl, -⟩ := hu
  have H1 := hid ((At.newAt w (.int .i64 lo) 3 w.heap.size rfl).alloc (.cells #[.int .i64 hi] 3))
  have H2 := hid (At.newAt (w.alloc (.cells #[.int .i64 lo] 3)) (.int .i64 hi) 3 (w.heap.size + 1) (by simp))
  have HB := hid (below_alloc (below_alloc (Below.refl _ w) (.cells #[.int .i64 lo] 3)) (.cells #[.int .i64 hi] 3))
  go_enter Tryz.func64, Tryz.ntmps64
  go_wp2_with fail
  refine (containsFuncW_any _ ys lo hi _ _ _ ((HU.out.alloc _).alloc _) hm H1.out H2.out).mono ?_
  rintro e w' ⟨rfl, rfl⟩
  cases hq : allB lo hi ys
  · have HQ := hid hq
    clear hq
    go_wp2
    go_ret
    exact ⟨ret_bool HQ.out.symm, HB.out⟩
  · have HQ := hid hq
    clear hq
    go_wp2
    go_ret
    exact ⟨ret_bool HQ.out.symm, HB.out⟩
end Go.Proofs.YtdemikjaghegnaaGreat
