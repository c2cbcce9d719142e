/- All labels: by elements in order, and by chains of ideals: the same lists. No walk. -/
import Derived.Test.YtgepbekdgocnpabChL
import Derived.Test.YtgepbekdgocnpabLab
namespace Go.Proofs.Ytgepbekdgocnpab
open Go.RowKit Go.WideShapes Go.ChangeShapes
set_option linter.unusedVariables false

/-! ### by elements -/
/-- the least next label -/
def lstN (xs f : List Int) : Nat := (leN xs f f.length 0 f.length).toNat
def lbF (xs : List Int) (m : Nat) : Nat → List Int → List (List Int)
  | 0, f => [f]
  | r + 1, f => (List.range (m + 1 - lstN xs f)).flatMap fun x => lbF xs m r (f ++ [((lstN xs f + x : Nat) : Int)])
theorem leN_congr {xs f g : List Int} {e k : Nat} {d : Int} (h : ∀ j, j < k → f.getD j 0 = g.getD j 0) : leN xs f e d k = leN xs g e d k := by
  induction k with
  | zero => rfl
  | succ k ih => rw [leN, leN, ih (fun j hj => h j (by omega)), h k (by omega)]
theorem lstN_int {xs f : List Int} : ((lstN xs f : Nat) : Int) = leN xs f f.length 0 f.length := by
  unfold lstN; have := leN_zero_le xs f f.length 0 f.length; omega
theorem getD_snoc_lt {f : List Int} {x : Int} {j : Nat} (h : j < f.length) : (f ++ [x]).getD j 0 = f.getD j 0 := by
  unfold List.getD; rw [List.getElem?_append_left h]
theorem getD_get {l : List Int} {i : Nat} (h : i < l.length) : l.getD i 0 = l[i] := by simp [List.getD, h]
theorem getD_snoc_eq {f : List Int} {x : Int} : (f ++ [x]).getD f.length 0 = x := by simp [List.getD]
theorem lbF_mem {xs : List Int} {m : Nat} (r : Nat) (f g : List Int) : g ∈ lbF xs m r f ↔ g.length = f.length + r ∧ (∀ j, j < f.length → g.getD j 0 = f.getD j 0) ∧ ∀ e, f.length ≤ e → e < f.length + r → leN xs g e 0 e ≤ g.getD e 0 ∧ g.getD e 0 ≤ m := by
  induction r generalizing f with
  | zero =>
    rw [lbF, List.mem_singleton]
    constructor
    · rintro rfl; exact ⟨rfl, fun _ _ => rfl, fun e h1 h2 => by omega⟩
    · rintro ⟨h1, h2, -⟩
      refine List.ext_getElem (by omega) fun i h3 h4 => ?_
      have := h2 i h4
      simpa [List.getD, h3, h4] using this
  | succ r ih =>
    rw [lbF, List.mem_flatMap]
    constructor
    · rintro ⟨x, hx, hg⟩
      rw [List.mem_range] at hx
      obtain ⟨h1, h2, h3⟩ := (ih _).1 hg
      rw [List.length_append, List.length_singleton] at h1 h2 h3
      have hf : ∀ j, j < f.length → g.getD j 0 = f.getD j 0 := fun j hj => by rw [h2 j (by omega), getD_snoc_lt hj]
      have hx2 : g.getD f.length 0 = ((lstN xs f + x : Nat) : Int) := by rw [h2 f.length (by omega), getD_snoc_eq]
      refine ⟨by omega, hf, fun e h4 h5 => ?_⟩
      by_cases e1 : e = f.length
      · subst e1
        rw [leN_congr hf, hx2, ← lstN_int]
        omega
      · exact h3 e (by omega) (by omega)
    · rintro ⟨h1, h2, h3⟩
      obtain ⟨h4, h5⟩ := h3 f.length (Nat.le_refl _) (by omega)
      rw [leN_congr h2, ← lstN_int] at h4
      have h6 : g.getD f.length 0 = ((lstN xs f + ((g.getD f.length 0).toNat - lstN xs f) : Nat) : Int) := by omega
      refine ⟨(g.getD f.length 0).toNat - lstN xs f, List.mem_range.2 (by omega), (ih _).2 ⟨?_, fun j hj => ?_, fun e h7 h8 => ?_⟩⟩
      · rw [List.length_append, List.length_singleton]; omega
      · rw [List.length_append, List.length_singleton] at hj
        by_cases e1 : j = f.length
        · subst e1; rw [getD_snoc_eq]; exact h6
        · rw [getD_snoc_lt (by omega)]; exact h2 j (by omega)
      · rw [List.length_append, List.length_singleton] at h7 h8
        exact h3 e (by omega) (by omega)
theorem lbF_nodup {xs : List Int} {m : Nat} (r : Nat) (f : List Int) : (lbF xs m r f).Nodup := by
  induction r generalizing f with
  | zero => rw [lbF]; simp
  | succ r ih =>
    rw [lbF]
    refine List.pairwise_flatMap.2 ⟨fun x _ => ih _, ?_⟩
    refine List.pairwise_lt_range.imp ?_
    intro a b hab g hg g' hg' e
    subst e
    have h1 := ((lbF_mem r _ _).1 hg).2.1 f.length (by simp)
    have h2 := ((lbF_mem r _ _).1 hg').2.1 f.length (by simp)
    rw [getD_snoc_eq] at h1 h2
    omega
/-! ### by chains of ideals -/
def addO (n t : Nat) (f : List Int) : List Int := (List.range n).map fun e => f.getD e 0 + (if t.testBit e then 0 else 1)
def lc (xs : List Int) : Nat → Nat → List (List Int)
  | 0, t => if t = 0 then [List.replicate xs.length 0] else []
  | k + 1, t => ((List.range (2 ^ xs.length)).filter fun s => onId xs wk s t).flatMap fun s => (lc xs k s).map (addO xs.length t)
theorem lc_length (xs : List Int) (k t : Nat) : (lc xs k t).length = chN (onId xs wk) (2 ^ xs.length) k t := by
  induction k generalizing t with
  | zero => unfold lc chN; split <;> rfl
  | succ k ih =>
    rw [lc, List.length_flatMap]
    have e : (fun s => ((lc xs k s).map (addO xs.length t)).length) = chN (onId xs wk) (2 ^ xs.length) k := by funext s; rw [List.length_map, ih]
    rw [e, sum_filter]; rfl
/-- labels up to k of which those less than k are the set t -/
def MLab (xs : List Int) (k t : Nat) (g : List Int) : Prop :=
  g.length = xs.length ∧ t < 2 ^ xs.length ∧ (∀ e, e < xs.length → 0 ≤ g.getD e 0 ∧ g.getD e 0 ≤ k) ∧ (∀ e, e < xs.length → ∀ j, j < e → (xs.getD e 0).toNat.testBit j = true → g.getD j 0 ≤ g.getD e 0) ∧
    (∀ e, e < xs.length → t.testBit e = decide (g.getD e 0 < k))
theorem addO_length (n t : Nat) (f : List Int) : (addO n t f).length = n := by simp [addO]
theorem addO_getD {n t : Nat} {f : List Int} {e : Nat} (h : e < n) : (addO n t f).getD e 0 = f.getD e 0 + (if t.testBit e then 0 else 1) := by simp [addO, List.getD, h]
theorem rowb_lt {xs : List Int} (hg : good xs = true) {e j : Nat} (he : e < xs.length) (hb : (xs.getD e 0).toNat.testBit j = true) : j < e := by
  have h1 := okAt_range (good_at hg he)
  have h2 : (xs.getD e 0).toNat < 2 ^ e := by have := Nat.one_le_two_pow (n := e); omega
  exact testBit_lt h2 hb
theorem ideal_iff {xs : List Int} (hg : good xs = true) {t : Nat} : holdsIdeal xs t = true ↔ ∀ e, e < xs.length → t.testBit e = true → ∀ j, j < e → (xs.getD e 0).toNat.testBit j = true → t.testBit j = true := by
  rw [holdsIdeal_iff]
  constructor
  · intro h e he hb j _ hj
    exact (sub_eq_zero _ _).1 (h e he hb) j hj
  · intro h e he hb
    exact (sub_eq_zero _ _).2 fun j hj => h e he hb j (rowb_lt hg he hj) hj
theorem set_eq {n s t : Nat} (hs : s < 2 ^ n) (ht : t < 2 ^ n) (h : ∀ e, e < n → s.testBit e = t.testBit e) : s = t := by
  apply Nat.eq_of_testBit_eq
  intro i
  by_cases hi : i < n
  · exact h i hi
  · rw [Nat.testBit_lt_two_pow (Nat.lt_of_lt_of_le hs (Nat.pow_le_pow_right (by decide) (by omega))), Nat.testBit_lt_two_pow (Nat.lt_of_lt_of_le ht (Nat.pow_le_pow_right (by decide) (by omega)))]
theorem lc_mem {xs : List Int} (hg : good xs = true) (k t : Nat) (ht : t < 2 ^ xs.length) (g : List Int) : g ∈ lc xs k t ↔ MLab xs k t g := by
  induction k generalizing t g with
  | zero =>
    unfold lc MLab
    by_cases h0 : t = 0
    · subst h0
      rw [if_pos rfl, List.mem_singleton]
      constructor
      · rintro rfl
        refine ⟨by simp, ht, fun e he => by simp [List.getD, he], fun e he j hj _ => ?_, fun e he => by simp [List.getD, he]⟩
        have : j < xs.length := by omega
        simp [List.getD, he, this]
      · rintro ⟨h1, -, h2, -⟩
        refine List.ext_getElem (by simp [h1]) fun i h3 h4 => ?_
        have := h2 i (by omega)
        simp only [List.getD, List.getElem?_eq_getElem h3, Option.getD_some] at this
        simp; omega
    · rw [if_neg h0]
      constructor
      · intro h; simp at h
      · rintro ⟨-, -, h2, -, h4⟩
        exfalso
        apply h0
        refine set_eq ht (Nat.two_pow_pos _) fun e he => ?_
        rw [h4 e he, Nat.zero_testBit, decide_eq_false_iff_not]
        have := h2 e he
        omega
  | succ k ih =>
    rw [lc, List.mem_flatMap]
    constructor
    · rintro ⟨s, hs, hgm⟩
      obtain ⟨hs1, hs2⟩ := List.mem_filter.1 hs
      rw [List.mem_range] at hs1
      obtain ⟨f, hf, rfl⟩ := List.mem_map.1 hgm
      obtain ⟨f1, f2, f3, f4, f5⟩ := (ih s hs1 f).1 hf
      simp only [onId, wk, Bool.and_eq_true, beq_iff_eq] at hs2
      have hti := (ideal_iff hg).1 hs2.1.2
      have hst := (sub_eq_zero s t).1 hs2.2
      refine ⟨addO_length _ _ _, ht, fun e he => ?_, fun e he j hj hb => ?_, fun e he => ?_⟩
      · rw [addO_getD he]; have := f3 e he; split <;> omega
      · rw [addO_getD he, addO_getD (by omega)]
        have h1 := f4 e he j hj hb
        by_cases hte : t.testBit e = true
        · rw [if_pos hte, if_pos (hti e he hte j hj hb)]; omega
        · rw [if_neg hte]; split <;> omega
      · rw [addO_getD he]
        have h1 := f3 e he
        have h2 := f5 e he
        cases hte : t.testBit e
        · have hse : s.testBit e = false := by
            cases hc : s.testBit e
            · rfl
            · rw [hst e hc] at hte; cases hte
          rw [hse] at h2
          have h3 := of_decide_eq_false h2.symm
          symm; rw [decide_eq_false_iff_not]
          simp only [Bool.false_eq_true, if_false]
          omega
        · symm; rw [decide_eq_true_iff]
          simp only [if_true]
          omega
    · rintro ⟨g1, -, g3, g4, g5⟩
      have hS := rowN_testBit (fun e => decide (g.getD e 0 < (k : Int))) xs.length
      have hSl := rowN_lt (fun e => decide (g.getD e 0 < (k : Int))) xs.length
      generalize hs : rowN (fun e => decide (g.getD e 0 < (k : Int))) xs.length = s at hS hSl
      have hs5 : ∀ e, e < xs.length → s.testBit e = decide (g.getD e 0 < (k : Int)) := fun e he => by rw [hS, decide_eq_true he]; rfl
      have hF : ∀ e, e < xs.length → ((List.range xs.length).map fun e => min (g.getD e 0) (k : Int)).getD e 0 = min (g.getD e 0) (k : Int) := fun e he => by simp [List.getD, he]
      have hsI : holdsIdeal xs s = true := (ideal_iff hg).2 fun e he hb j hj hr => by
        rw [hs5 e he, decide_eq_true_iff] at hb
        rw [hs5 j (by omega), decide_eq_true_iff]
        have := g4 e he j hj hr
        omega
      have htI : holdsIdeal xs t = true := (ideal_iff hg).2 fun e he hb j hj hr => by
        rw [g5 e he, decide_eq_true_iff] at hb
        rw [g5 j (by omega), decide_eq_true_iff]
        have := g4 e he j hj hr
        omega
      have hst : wk s t = true := by
        unfold wk
        rw [beq_iff_eq, sub_eq_zero]
        intro i hi
        have hi2 := testBit_lt hSl hi
        rw [hs5 i hi2, decide_eq_true_iff] at hi
        rw [g5 i hi2, decide_eq_true_iff]
        omega
      refine ⟨s, List.mem_filter.2 ⟨List.mem_range.2 hSl, by simp only [onId, hsI, htI, hst]; rfl⟩, List.mem_map.2 ⟨(List.range xs.length).map fun e => min (g.getD e 0) (k : Int), (ih s hSl _).2 ⟨by simp, hSl, fun e he => ?_, fun e he j hj hr => ?_, fun e he => ?_⟩, ?_⟩⟩
      · rw [hF e he]; have := g3 e he; omega
      · rw [hF e he, hF j (by omega)]; have := g4 e he j hj hr; omega
      · rw [hs5 e he, hF e he]
        rw [decide_eq_decide]; omega
      · refine List.ext_getElem (by rw [addO_length, g1]) fun i h1 h2 => ?_
        have hi : i < xs.length := by omega
        have e1 : (addO xs.length t ((List.range xs.length).map fun e => min (g.getD e 0) (k : Int)))[i] = (addO xs.length t ((List.range xs.length).map fun e => min (g.getD e 0) (k : Int))).getD i 0 := (getD_get h1).symm
        have e2 : g[i] = g.getD i 0 := by simp [List.getD, h2]
        rw [e1, e2, addO_getD hi, hF i hi]
        have h3 := g5 i hi
        have h4 := g3 i hi
        cases hte : t.testBit i
        · rw [hte] at h3
          have h5 := of_decide_eq_false h3.symm
          simp only [Bool.false_eq_true, if_false]
          omega
        · rw [hte] at h3
          have h5 := of_decide_eq_true h3.symm
          simp only [if_true]
          omega
theorem lc_nodup {xs : List Int} (hg : good xs = true) (k t : Nat) (ht : t < 2 ^ xs.length) : (lc xs k t).Nodup := by
  induction k generalizing t with
  | zero => unfold lc; split <;> simp
  | succ k ih =>
    rw [lc]
    have inj : ∀ f f', f.length = xs.length → f'.length = xs.length → addO xs.length t f = addO xs.length t f' → f = f' := fun f f' h1 h2 h => by
      refine List.ext_getElem (by omega) fun i h3 h4 => ?_
      have hi : i < xs.length := by omega
      have e := congrArg (fun l => l.getD i 0) h
      simp only [addO_getD hi] at e
      have e1 : f.getD i 0 = f[i] := by simp [List.getD, h3]
      have e2 : f'.getD i 0 = f'[i] := by simp [List.getD, h4]
      omega
    have hlt : ∀ s, s ∈ (List.range (2 ^ xs.length)).filter (fun s => onId xs wk s t) → s < 2 ^ xs.length := fun s hs => List.mem_range.1 (List.mem_filter.1 hs).1
    refine List.pairwise_flatMap.2 ⟨fun s hs => ?_, ?_⟩
    · have hnd := ih s (hlt s hs)
      refine List.pairwise_map.2 ?_
      refine (List.Pairwise.and_mem.1 hnd).imp ?_
      rintro f f' ⟨hf, hf', hne⟩ e
      exact hne (inj f f' ((lc_mem hg k s (hlt s hs) f).1 hf).1 ((lc_mem hg k s (hlt s hs) f').1 hf').1 e)
    · have hnd : ((List.range (2 ^ xs.length)).filter fun s => onId xs wk s t).Pairwise (· < ·) := List.Pairwise.filter _ List.pairwise_lt_range
      refine (List.Pairwise.and_mem.1 hnd).imp ?_
      rintro s s' ⟨hs, hs', hlt'⟩ g hgm g' hgm' e
      subst e
      obtain ⟨f, hf, rfl⟩ := List.mem_map.1 hgm
      obtain ⟨f', hf', e'⟩ := List.mem_map.1 hgm'
      have m1 := (lc_mem hg k s (hlt s hs) f).1 hf
      have m2 := (lc_mem hg k s' (hlt s' hs') f').1 hf'
      have := inj f' f m2.1 m1.1 e'
      subst this
      have : s = s' := set_eq (hlt s hs) (hlt s' hs') fun i hi => by rw [m1.2.2.2.2 i hi, m2.2.2.2.2 i hi]
      omega
/-! ### the same -/
/-- all labels for m, in order -/
def allF (xs : List Int) (m : Nat) : List (List Int) := lbF xs m xs.length []
theorem perm_of_mem {l l' : List (List Int)} (h1 : l.Nodup) (h2 : l'.Nodup) (h : ∀ a, a ∈ l ↔ a ∈ l') : l.Perm l' :=
  List.perm_iff_count.2 fun a => by
    rw [h1.count, h2.count]
    by_cases ha : a ∈ l
    · rw [if_pos ha, if_pos ((h a).1 ha)]
    · rw [if_neg ha, if_neg (fun hb => ha ((h a).2 hb))]
theorem all_perm {xs : List Int} (hg : good xs = true) (m : Nat) : (allF xs m).Perm (lc xs (m + 1) (2 ^ xs.length - 1)) := by
  have hp := Nat.two_pow_pos xs.length
  have hN : 2 ^ xs.length - 1 < 2 ^ xs.length := by omega
  refine perm_of_mem (lbF_nodup _ _) (lc_nodup hg _ _ hN) fun g => ?_
  unfold allF
  rw [lbF_mem, lc_mem hg _ _ hN]
  unfold MLab
  simp only [List.length_nil, Nat.zero_add]
  constructor
  · rintro ⟨h1, -, h3⟩
    refine ⟨h1, hN, fun e he => ?_, fun e he j hj hb => ?_, fun e he => ?_⟩
    · have := h3 e (Nat.zero_le _) he; have := leN_zero_le xs g e 0 e; omega
    · have := (leN_le.1 (h3 e (Nat.zero_le _) he).1).2 j hj hb; omega
    · rw [full_testBit, decide_eq_true he]
      have := h3 e (Nat.zero_le _) he
      symm; rw [decide_eq_true_iff]; omega
  · rintro ⟨h1, -, h3, h4, h5⟩
    refine ⟨h1, fun j hj => by omega, fun e _ he => ⟨leN_le.2 ⟨(h3 e he).1, fun j hj hb => by have := h4 e he j hj hb; omega⟩, ?_⟩⟩
    have h6 := h5 e he
    rw [full_testBit, decide_eq_true he] at h6
    have := of_decide_eq_true h6.symm
    omega
theorem all_count {xs : List Int} (hg : good xs = true) (m : Nat) : (allF xs m).length = cnt xs false (m + 1) (2 ^ xs.length - 1) := by
  rw [(all_perm hg m).length_eq, lc_length]; rfl
end Go.Proofs.Ytgepbekdgocnpab
