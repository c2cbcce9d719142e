/- Remainders of coefficients, orbits by remainders, sieves. No program is named here. -/
import Derived.Test.YtkalpichninncabSv
namespace Go.Proofs.Ytkalpichninncab
set_option linter.unusedVariables false

def allB (lo hi : Int) (l : List Int) : Bool := l.all fun x => decide (lo ≤ x) && decide (x ≤ hi)
theorem allB_of {lo hi : Int} {l : List Int} (h : ∀ j, j < l.length → (decide (lo ≤ l.getD j 0) && decide (l.getD j 0 ≤ hi)) = true) : allB lo hi l = true := by
  unfold allB
  rw [List.all_eq_true]
  intro x hx
  obtain ⟨j, hj, rfl⟩ := List.getElem_of_mem hx
  have := h j hj
  rwa [List.getD_eq_getElem?_getD, List.getElem?_eq_getElem hj] at this
theorem allB_at {lo hi : Int} {l : List Int} (h : allB lo hi l = true) {j : Nat} (hj : j < l.length) : lo ≤ l.getD j 0 ∧ l.getD j 0 ≤ hi := by
  have := List.all_eq_true.1 h _ (List.getElem_mem hj)
  rw [List.getD_eq_getElem?_getD, List.getElem?_eq_getElem hj]
  simpa using this
theorem allB_not {lo hi : Int} {l : List Int} {j : Nat} (hj : j < l.length) (h : (decide (lo ≤ l.getD j 0) && decide (l.getD j 0 ≤ hi)) = false) : allB lo hi l = false := by
  rw [Bool.eq_false_iff] at h ⊢
  intro hc
  apply h
  have := allB_at hc hj
  simp only [Bool.and_eq_true, decide_eq_true_eq]
  exact this
theorem restB_eq (rs : List Int) : restB rs = (tnB (rs.length : Int) && allB 0 100000000 rs) := rfl

/-! ### remainders of coefficients -/
def remT (cs : List Int) (n : Nat) : Nat → List Int
  | 0 => List.replicate n 0
  | k + 1 => (remT cs n k).set (k % n) ((remT cs n k).getD (k % n) 0 + cs.getD k 0)
theorem remT_length (cs : List Int) (n k : Nat) : (remT cs n k).length = n := by
  induction k with
  | zero => simp [remT]
  | succ k ih => rw [remT, List.length_set, ih]
theorem getD_setSv (l : List Int) (i j : Nat) (x : Int) : (l.set i x).getD j 0 = if i = j ∧ i < l.length then x else l.getD j 0 := by
  rw [List.getD_eq_getElem?_getD, List.getElem?_set, List.getD_eq_getElem?_getD]
  by_cases h : i = j
  · subst h
    by_cases h2 : i < l.length
    · simp [h2]
    · simp [h2]
  · simp [h]
theorem remT_le {cs : List Int} {n : Nat} (h : ∀ j, j < cs.length → 0 ≤ cs.getD j 0 ∧ cs.getD j 0 ≤ 1000000) (k : Nat) (hk : k ≤ cs.length) (j : Nat) : 0 ≤ (remT cs n k).getD j 0 ∧ (remT cs n k).getD j 0 ≤ 1000000 * (k : Int) := by
  induction k generalizing j with
  | zero =>
    rw [remT, List.getD_eq_getElem?_getD, List.getElem?_replicate]
    split <;> simp
  | succ k ih =>
    have h1 := h k (by omega)
    have h2 := ih (by omega) (k % n)
    have h3 := ih (by omega) j
    rw [remT, getD_setSv]
    split <;> omega
def okRM (cs : List Int) (n : Int) : Bool := (decide (1 ≤ (cs.length : Int)) && decide ((cs.length : Int) ≤ 100)) && allB 0 1000000 cs && tnB n
def ansRM (cs : List Int) (n : Int) : List Int := if okRM cs n then remT cs n.toNat cs.length else []
theorem ansRM_no {cs : List Int} {n : Int} (h : okRM cs n = false) : ansRM cs n = [] := by simp [ansRM, h]
theorem ansRM_yes {cs : List Int} {n : Nat} (h : okRM cs n = true) : ansRM cs n = remT cs n cs.length := by simp [ansRM, h]
theorem okRM_no1 {cs : List Int} {n : Int} (h : (decide (1 ≤ (cs.length : Int)) && decide ((cs.length : Int) ≤ 100)) = false) : okRM cs n = false := by unfold okRM; rw [h]; rfl
theorem okRM_no2 {cs : List Int} {n : Int} (h : allB 0 1000000 cs = false) : okRM cs n = false := by unfold okRM; rw [h, Bool.and_false]; rfl
theorem okRM_no3 {cs : List Int} {n : Int} (h : tnB n = false) : okRM cs n = false := by unfold okRM; rw [h, Bool.and_false]
theorem okRM_yes {cs : List Int} {n : Int} (h1 : (decide (1 ≤ (cs.length : Int)) && decide ((cs.length : Int) ≤ 100)) = true) (h2 : allB 0 1000000 cs = true) (h3 : tnB n = true) : okRM cs n = true := by unfold okRM; rw [h1, h2, h3]; rfl
theorem ansRM_length (cs : List Int) (n : Int) : (ansRM cs n).length ≤ 1048576 := by
  cases h : okRM cs n
  · rw [ansRM_no h]; simp
  · have h2 : tnB n = true := by cases h3 : tnB n; rw [okRM_no3 h3] at h; cases h; rfl
    obtain ⟨k, rfl, h4, h5⟩ := tnB_nat h2
    rw [ansRM_yes h, remT_length]; omega

/-! ### orbits by remainders -/
def obC (rs : List Int) (g : Nat) (ks : List Nat) (o : List Int) : Nat → Int
  | 0 => rs.getD (g % rs.length) 0
  | j + 1 => if g % ks.getD j 0 = 0 then obC rs g ks o j - o.getD j 0 else obC rs g ks o j
theorem obC_yes {rs : List Int} {g : Nat} {ks : List Nat} {o : List Int} {j : Nat} (h : g % ks.getD j 0 = 0) : obC rs g ks o (j + 1) = obC rs g ks o j - o.getD j 0 := by rw [obC, if_pos h]
theorem obC_no {rs : List Int} {g : Nat} {ks : List Nat} {o : List Int} {j : Nat} (h : ¬ g % ks.getD j 0 = 0) : obC rs g ks o (j + 1) = obC rs g ks o j := by rw [obC, if_neg h]
def obL (rs : List Int) (ks : List Nat) : Nat → Option (List Int)
  | 0 => some []
  | i + 1 => (obL rs ks i).bind fun o => if obC rs (ks.getD i 0) ks o i < 0 then none else some (o ++ [obC rs (ks.getD i 0) ks o i])
theorem obL_none {rs : List Int} {ks : List Nat} {i : Nat} (h : obL rs ks i = none) (j : Nat) (hj : i ≤ j) : obL rs ks j = none := by
  induction j with
  | zero => have : i = 0 := by omega
            subst this; exact h
  | succ j ih =>
    by_cases e : i = j + 1
    · subst e; exact h
    · rw [obL, ih (by omega)]; rfl
theorem obL_neg {rs : List Int} {ks : List Nat} {i : Nat} {o : List Int} (h : obL rs ks i = some o) (k : obC rs (ks.getD i 0) ks o i < 0) : obL rs ks (i + 1) = none := by rw [obL, h, Option.bind_some, if_pos k]
theorem obL_pos {rs : List Int} {ks : List Nat} {i : Nat} {o : List Int} (h : obL rs ks i = some o) (k : ¬ obC rs (ks.getD i 0) ks o i < 0) : obL rs ks (i + 1) = some (o ++ [obC rs (ks.getD i 0) ks o i]) := by rw [obL, h, Option.bind_some, if_neg k]
theorem obC_congr {rs : List Int} {g : Nat} {ks ks' : List Nat} {o : List Int} {j : Nat} (h : ∀ i, i < j → ks.getD i 0 = ks'.getD i 0) : obC rs g ks o j = obC rs g ks' o j := by
  induction j with
  | zero => rfl
  | succ j ih =>
    rw [obC, obC, ih (fun i hi => h i (by omega)), h j (by omega)]
theorem obL_congr {rs : List Int} {ks ks' : List Nat} {i : Nat} (h : ∀ j, j < i → ks.getD j 0 = ks'.getD j 0) : obL rs ks i = obL rs ks' i := by
  induction i with
  | zero => rfl
  | succ i ih =>
    rw [obL, obL, ih (fun j hj => h j (by omega)), h i (by omega)]
    congr 1
    funext o
    rw [obC_congr (ks := ks) (ks' := ks') fun j hj => h j (by omega)]
theorem obL_length {rs : List Int} {ks : List Nat} {i : Nat} {o : List Int} (h : obL rs ks i = some o) : o.length = i := by
  induction i generalizing o with
  | zero => rw [obL] at h; injection h with h; subst h; rfl
  | succ i ih =>
    cases hq : obL rs ks i with
    | none => rw [obL, hq] at h; cases h
    | some o' =>
      rw [obL, hq, Option.bind_some] at h
      split at h
      · cases h
      · injection h with h; subst h; simp [ih hq]
theorem obC_le {rs : List Int} (hr : restB rs = true) {g : Nat} {ks : List Nat} {o : List Int} (ho : ∀ j, 0 ≤ o.getD j 0 ∧ o.getD j 0 ≤ 100000000) (j : Nat) : -(100000000 * (j : Int)) ≤ obC rs g ks o j ∧ obC rs g ks o j ≤ 100000000 := by
  obtain ⟨h1, h2, h3⟩ := restB_all hr
  induction j with
  | zero =>
    rw [obC]
    have := h3 (g % rs.length) (Nat.mod_lt _ (by omega))
    omega
  | succ j ih =>
    have := ho j
    rw [obC]
    split <;> omega
theorem obL_le {rs : List Int} (hr : restB rs = true) {ks : List Nat} {i : Nat} {o : List Int} (h : obL rs ks i = some o) (j : Nat) : 0 ≤ o.getD j 0 ∧ o.getD j 0 ≤ 100000000 := by
  induction i generalizing o j with
  | zero => rw [obL] at h; injection h with h; subst h; simp
  | succ i ih =>
    cases hq : obL rs ks i with
    | none => rw [obL, hq] at h; cases h
    | some o' =>
      by_cases hc : obC rs (ks.getD i 0) ks o' i < 0
      · rw [obL_neg hq hc] at h; cases h
      · rw [obL_pos hq hc] at h
        injection h with h
        have hb := obC_le hr (g := ks.getD i 0) (ks := ks) (fun j => ih hq j) i
        subst h
        rw [List.getD_eq_getElem?_getD, List.getElem?_append]
        split
        · have := ih hq j
          rwa [List.getD_eq_getElem?_getD] at this
        · rw [List.getElem?_singleton]
          split
          · simp only [Option.getD_some]; omega
          · simp
/-- along all numbers up to j -/
def obT (rs : List Int) (j : Nat) : Option (List Int) := obL rs (dvT rs.length j) (dvT rs.length j).length
theorem getD_snocN {l : List Nat} {x : Nat} {j : Nat} (h : j < l.length) : (l ++ [x]).getD j 0 = l.getD j 0 := by
  rw [List.getD_eq_getElem?_getD, List.getElem?_append_left h, ← List.getD_eq_getElem?_getD]
theorem getD_snocN' {l : List Nat} {x : Nat} : (l ++ [x]).getD l.length 0 = x := by
  rw [List.getD_eq_getElem?_getD, List.getElem?_append_right (Nat.le_refl _)]; simp
theorem obT_no {rs : List Int} {j : Nat} (h : ¬ rs.length % (j + 1) = 0) : obT rs (j + 1) = obT rs j := by unfold obT; rw [dvT_no h]
theorem obT_yes {rs : List Int} {j : Nat} (h : rs.length % (j + 1) = 0) : obT rs (j + 1) = (obT rs j).bind fun o => if obC rs (j + 1) (dvT rs.length j) o (dvT rs.length j).length < 0 then none else some (o ++ [obC rs (j + 1) (dvT rs.length j) o (dvT rs.length j).length]) := by
  unfold obT
  rw [dvT_yes h, List.length_append]
  show obL rs (dvT rs.length j ++ [j + 1]) ((dvT rs.length j).length + 1) = _
  rw [obL, obL_congr (ks := dvT rs.length j ++ [j + 1]) (ks' := dvT rs.length j) (fun i hi => getD_snocN hi), getD_snocN']
  congr 1
  funext o
  rw [obC_congr (ks := dvT rs.length j ++ [j + 1]) (ks' := dvT rs.length j) (fun i hi => getD_snocN hi)]
theorem obT_neg {rs : List Int} {j : Nat} {o : List Int} (h : rs.length % (j + 1) = 0) (ho : obT rs j = some o) (k : obC rs (j + 1) (dvT rs.length j) o (dvT rs.length j).length < 0) : obT rs (j + 1) = none := by rw [obT_yes h, ho, Option.bind_some, if_pos k]
theorem obT_pos {rs : List Int} {j : Nat} {o : List Int} (h : rs.length % (j + 1) = 0) (ho : obT rs j = some o) (k : ¬ obC rs (j + 1) (dvT rs.length j) o (dvT rs.length j).length < 0) : obT rs (j + 1) = some (o ++ [obC rs (j + 1) (dvT rs.length j) o (dvT rs.length j).length]) := by rw [obT_yes h, ho, Option.bind_some, if_neg k]
theorem obT_none {rs : List Int} {i : Nat} (h : obT rs i = none) (j : Nat) (hj : i ≤ j) : obT rs j = none := by
  induction j with
  | zero => have : i = 0 := by omega
            subst this; exact h
  | succ j ih =>
    by_cases e : i = j + 1
    · subst e; exact h
    · by_cases hd : rs.length % (j + 1) = 0
      · rw [obT_yes hd, ih (by omega)]; rfl
      · rw [obT_no hd, ih (by omega)]
def obR (rs : List Int) : Option (List Int) := obT rs rs.length
def okOB (rs : List Int) : Bool := restB rs && (obR rs).isSome
def ansOB (rs : List Int) : List Int := if okOB rs then (obR rs).getD [] else []
theorem okOB_no1 {rs : List Int} (h : restB rs = false) : okOB rs = false := by unfold okOB; rw [h]; rfl
theorem okOB_no2 {rs : List Int} (h : obR rs = none) : okOB rs = false := by unfold okOB; rw [h]; simp
theorem okOB_yes {rs o : List Int} (h1 : restB rs = true) (h : obR rs = some o) : okOB rs = true := by unfold okOB; rw [h, h1]; rfl
theorem ansOB_no {rs : List Int} (h : okOB rs = false) : ansOB rs = [] := by simp [ansOB, h]
theorem ansOB_yes {rs o : List Int} (h1 : restB rs = true) (h : obR rs = some o) : ansOB rs = o := by unfold ansOB; rw [if_pos (okOB_yes h1 h), h]; rfl
theorem ansOB_length (rs : List Int) : (ansOB rs).length ≤ 1048576 := by
  cases h : okOB rs
  · rw [ansOB_no h]; simp
  · unfold okOB at h
    rw [Bool.and_eq_true] at h
    obtain ⟨o, ho⟩ := Option.isSome_iff_exists.1 h.2
    rw [ansOB_yes h.1 ho, obL_length ho]
    have := dvT_length rs.length rs.length
    have := (restB_all h.1).2.1
    omega

/-! ### sieves -/
def cdT (ss : List Int) (r : Nat) : Nat → Nat
  | 0 => 0
  | j + 1 => if r % (ss.getD j 0).toNat = 0 then cdT ss r j + 1 else cdT ss r j
theorem cdT_yes {ss : List Int} {r j k : Nat} (e : ss.getD j 0 = (k : Int)) (h : r % k = 0) : cdT ss r (j + 1) = cdT ss r j + 1 := by rw [cdT, e, Int.toNat_natCast, if_pos h]
theorem cdT_no {ss : List Int} {r j k : Nat} (e : ss.getD j 0 = (k : Int)) (h : ¬ r % k = 0) : cdT ss r (j + 1) = cdT ss r j := by rw [cdT, e, Int.toNat_natCast, if_neg h]
theorem cdT_le (ss : List Int) (r j : Nat) : cdT ss r j ≤ j := by
  induction j with
  | zero => exact Nat.le_refl _
  | succ j ih => rw [cdT]; split <;> omega
def cdN (ss : List Int) (r : Nat) : Nat := cdT ss r ss.length
def okSV (rs ss : List Int) : Bool := restB rs && (decide ((ss.length : Int) ≤ 1000) && allB 1 60 ss)
def svB (rs ss : List Int) : Bool := (List.range rs.length).all fun r => rs.getD r 0 == (cdN ss r : Int)
def ansSV (rs ss : List Int) : Bool := okSV rs ss && svB rs ss
theorem svB_no {rs ss : List Int} {r : Nat} (hr : r < rs.length) (h : ¬ rs.getD r 0 = (cdN ss r : Int)) : svB rs ss = false := by
  rw [Bool.eq_false_iff]
  intro hc
  exact h (eq_of_beq (List.all_eq_true.1 hc r (List.mem_range.2 hr)))
theorem svB_yes {rs ss : List Int} (h : ∀ r, r < rs.length → rs.getD r 0 = (cdN ss r : Int)) : svB rs ss = true := by
  unfold svB
  rw [List.all_eq_true]
  intro r hr
  exact beq_iff_eq.2 (h r (List.mem_range.1 hr))
end Go.Proofs.Ytkalpichninncab
