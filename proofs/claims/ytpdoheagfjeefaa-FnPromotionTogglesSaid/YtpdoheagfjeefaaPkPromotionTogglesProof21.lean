/- Texts CovRow, TgC, LwO, one behind the other. -/
import Derived.Test.YtpdoheagfjeefaaPkPromotionTogglesProof00
import Derived.Test.YtpdoheagfjeefaaPkPromotionTogglesProof01
import Derived.Test.YtpdoheagfjeefaaPkPromotionTogglesProof08
import Derived.Test.YtpdoheagfjeefaaPkPromotionTogglesProof11
import Derived.Test.YtpdoheagfjeefaaPkPromotionTogglesProof13
import Derived.Test.YtpdoheagfjeefaaPkPromotionTogglesProof14
import Derived.Test.YtpdoheagfjeefaaPkPromotionTogglesProof19
import Derived.Test.YtpdoheagfjeefaaPkPromotionTogglesProof20
/- The relations that follow from the covers of a poset are the poset's own (mathematics: for ParsePoset). -/
namespace Go.Proofs.Ytpdoheagfjeefaa
open Go.RowKit Go.WideShapes Go.ChangeShapes
set_option linter.unusedVariables false

theorem good_trans {xs : List Int} (hg : good xs = true) {i k j : Nat} (hi : i < xs.length) (h1 : bitAt xs i k = true) (h2 : bitAt xs k j = true) : bitAt xs i j = true := by
  have hk := good_bit hg hi h1
  have ho := good_at hg hi
  simp only [okAt, Bool.and_eq_true] at ho
  exact (sub_eq_zero _ _).1 ((holdsIdeal_iff xs _).1 ho.2 k (by omega) h1) j h2
theorem coverB_bit {xs : List Int} {j i : Nat} (h : coverB xs j i = true) : bitAt xs i j = true := by
  unfold coverB at h
  simp only [Bool.and_eq_true] at h
  exact h.1
theorem covIn_cov {xs : List Int} {j : Nat} (m : Nat) {p : Nat × Nat} (h : p ∈ covIn xs j m) : p.1 = j ∧ p.2 < m ∧ coverB xs j p.2 = true := by
  induction m with
  | zero => simp [covIn] at h
  | succ m ih =>
    unfold covIn at h
    split at h
    · rename_i hc
      rw [List.mem_append] at h
      rcases h with h | h
      · obtain ⟨a, b, c⟩ := ih h
        exact ⟨a, by omega, c⟩
      · simp at h; subst h; exact ⟨rfl, by simp, hc⟩
    · obtain ⟨a, b, c⟩ := ih h
      exact ⟨a, by omega, c⟩
theorem covPS_cov {xs : List Int} {n : Nat} (m : Nat) {p : Nat × Nat} (h : p ∈ covPS xs n m) : p.1 < m ∧ p.2 < n ∧ coverB xs p.1 p.2 = true := by
  induction m with
  | zero => simp [covPS] at h
  | succ m ih =>
    unfold covPS at h
    rw [List.mem_append] at h
    rcases h with h | h
    · obtain ⟨a, b, c⟩ := ih h
      exact ⟨by omega, b, c⟩
    · obtain ⟨a, b, c⟩ := covIn_cov n h
      exact ⟨by omega, b, by rw [a]; exact c⟩
theorem covIn_has {xs : List Int} {j i : Nat} (m : Nat) (hi : i < m) (h : coverB xs j i = true) : (j, i) ∈ covIn xs j m := by
  induction m with
  | zero => omega
  | succ m ih =>
    unfold covIn
    by_cases e : i = m
    · subst e
      rw [if_pos h]
      exact List.mem_append_right _ (by simp)
    · have := ih (by omega)
      split
      · exact List.mem_append_left _ this
      · exact this
theorem covPS_has {xs : List Int} {n j i : Nat} (m : Nat) (hj : j < m) (hi : i < n) (h : coverB xs j i = true) : (j, i) ∈ covPS xs n m := by
  induction m with
  | zero => omega
  | succ m ih =>
    unfold covPS
    by_cases e : j = m
    · subst e
      exact List.mem_append_right _ (covIn_has n hi h)
    · exact List.mem_append_left _ (ih (by omega))
theorem cover_up {xs : List Int} (hg : good xs = true) : UpPairs xs.length (covPS xs xs.length xs.length) := by
  intro k hk
  have e : (covPS xs xs.length xs.length).getD k (0, 0) = (covPS xs xs.length xs.length)[k] := by simp [List.getD, hk]
  rw [e]
  obtain ⟨a, b, c⟩ := covPS_cov _ (List.getElem_mem hk)
  exact ⟨good_bit hg b (coverB_bit c), b⟩
/-- between b and r lies a cover of r -/
theorem cover_between {xs : List Int} (hg : good xs = true) {r b : Nat} (hr : r < xs.length) : ∀ (d c : Nat), r - c = d → bitAt xs r c = true → (c = b ∨ bitAt xs c b = true) → ∃ j, coverB xs j r = true ∧ (j = b ∨ bitAt xs j b = true) := by
  intro d
  induction d using Nat.strongRecOn with
  | _ d ih =>
    intro c hd h1 h2
    cases hc : coverB xs c r
    · have hcr := good_bit hg hr h1
      have ha : ((List.range r).any fun k => decide (c < k) && (bitAt xs r k && bitAt xs k c)) = true := by
        unfold coverB at hc
        rw [h1, Bool.true_and] at hc
        simpa using hc
      obtain ⟨k, hk, hk2⟩ := List.any_eq_true.1 ha
      rw [List.mem_range] at hk
      simp only [Bool.and_eq_true, decide_eq_true_eq] at hk2
      obtain ⟨k1, k2, k3⟩ := hk2
      refine ih (r - k) (by omega) k rfl k2 (.inr ?_)
      rcases h2 with h2 | h2
      · subst h2; exact k3
      · exact good_trans hg (by omega) k3 h2
    · exact ⟨c, hc, h2⟩
theorem fout_cov {xs : List Int} (hg : good xs = true) (r : Nat) : r < xs.length → ∀ b, (fout (covPS xs xs.length xs.length) xs.length r).testBit b = bitAt xs r b := by
  induction r using Nat.strongRecOn with
  | _ r ih =>
    intro hr b
    rw [Bool.eq_iff_iff, fout_bit (cover_up hg) hr]
    constructor
    · rintro ⟨t, ht, h1, h2⟩
      have e : (covPS xs xs.length xs.length).getD t (0, 0) = (covPS xs xs.length xs.length)[t] := by simp [List.getD, ht]
      rw [e] at h1 h2
      obtain ⟨a, b', c⟩ := covPS_cov _ (List.getElem_mem ht)
      have hbit := coverB_bit c
      rw [h1] at hbit
      rcases h2 with h2 | h2
      · rw [h2]; exact hbit
      · rw [ih _ (good_bit hg hr hbit) a] at h2
        exact good_trans hg hr hbit h2
    · intro h
      obtain ⟨j, hj, hjb⟩ := cover_between hg hr (r - b) b rfl h (.inl rfl)
      have hjr := good_bit hg hr (coverB_bit hj)
      have hm := covPS_has (n := xs.length) xs.length (show j < xs.length by omega) hr hj
      obtain ⟨t, ht, he⟩ := List.mem_iff_getElem.1 hm
      have e : (covPS xs xs.length xs.length).getD t (0, 0) = (j, r) := by rw [← he]; simp [List.getD, ht]
      refine ⟨t, ht, by rw [e], ?_⟩
      rw [e]
      rcases hjb with h3 | h3
      · exact .inl h3.symm
      · exact .inr (by rw [ih j hjr (by omega)]; exact h3)
/-- a poset is what follows from its covers -/
theorem fromL_cov {xs : List Int} (hg : good xs = true) : fromL xs.length (covPS xs xs.length xs.length) = xs := by
  apply List.ext_getElem?
  intro i
  by_cases hi : i < xs.length
  · have h0 := okAt_range (good_at hg hi)
    have e : fout (covPS xs xs.length xs.length) xs.length i = (xs.getD i 0).toNat := Nat.eq_of_testBit_eq fun b => fout_cov hg i hi b
    unfold fromL mkL
    rw [List.getElem?_map, List.getElem?_range hi, Option.map_some, e]
    have hx : xs[i]? = some (xs.getD i 0) := by simp [List.getD, hi]
    rw [hx]
    congr 1
    omega
  · rw [List.getElem?_eq_none (by unfold fromL; rw [mkL_length]; omega), List.getElem?_eq_none (by omega)]
end Go.Proofs.Ytpdoheagfjeefaa

/- The facts that the law on toggles asks for: two elements that a cover joins. -/
namespace Go.Proofs.Ytpdoheagfjeefaa
open Go.RowKit Go.WideShapes Go.ChangeShapes
set_option linter.unusedVariables false

/-- the pair joins d and e -/
def joinB (d e : Nat) (p : Nat × Nat) : Bool := (p.1 == d && p.2 == e) || (p.1 == e && p.2 == d)
/-- one of the first k pairs joins d and e -/
def joinN (ps : List (Nat × Nat)) (d e : Nat) : Nat → Bool
  | 0 => false
  | k + 1 => joinN ps d e k || joinB d e (ps.getD k (0, 0))
theorem joinN_iff (ps : List (Nat × Nat)) (d e k : Nat) : joinN ps d e k = true ↔ ∃ j, j < k ∧ joinB d e (ps.getD j (0, 0)) = true := by
  induction k with
  | zero => simp [joinN]
  | succ k ih =>
    rw [joinN, Bool.or_eq_true, ih]
    constructor
    · rintro (⟨j, hj, h⟩ | h)
      · exact ⟨j, by omega, h⟩
      · exact ⟨k, by omega, h⟩
    · rintro ⟨j, hj, h⟩
      rcases Nat.lt_or_ge j k with h1 | h1
      · exact .inl ⟨j, h1, h⟩
      · obtain rfl : j = k := by omega
        exact .inr h
theorem cover_less {xs : List Int} (hg : good xs = true) {j i : Nat} (hi : i < xs.length) (h : coverB xs j i = true) : j < i := by
  unfold coverB at h
  rw [Bool.and_eq_true] at h
  exact row_less hg hi h.1
theorem cover_topJ {xs : List Int} (hg : good xs = true) {j i : Nat} (hi : i < xs.length) : coverB xs j i = (top xs (row xs i)).testBit j := by
  rw [Bool.eq_iff_iff, top_row]
  unfold coverB
  rw [Bool.and_eq_true, Bool.not_eq_true', List.any_eq_false]
  constructor
  · rintro ⟨h1, h2⟩
    refine ⟨h1, fun m hm h3 => ?_⟩
    have hmi := row_less hg hi h3
    have := h2 m (List.mem_range.2 hmi)
    cases h4 : (row xs m).testBit j
    · rfl
    · exfalso
      have hjm := row_less hg hm h4
      apply this
      have e1 : bitAt xs i m = true := h3
      have e2 : bitAt xs m j = true := h4
      simp [e1, e2, hjm]
  · rintro ⟨h1, h2⟩
    refine ⟨h1, fun m hm => ?_⟩
    rw [List.mem_range] at hm
    intro h3
    simp only [Bool.and_eq_true, decide_eq_true_eq] at h3
    have e1 : (row xs i).testBit m = true := h3.2.1
    have e2 : (row xs m).testBit j = true := h3.2.2
    rw [h2 m (by omega) e1] at e2
    cases e2
theorem joinFacts {xs : List Int} {d e : Nat} (hg : good xs = true) (hd : d < xs.length) (he : e < xs.length) : joinN (coversP xs) d e (coversP xs).length = covered xs d e := by
  have hmm : covered xs d e = coverB xs (min d e) (max d e) := by rw [cover_topJ hg (by omega)]; rfl
  rw [hmm, Bool.eq_iff_iff, joinN_iff, coversP_yes hg]
  constructor
  · rintro ⟨j, hj, h⟩
    have hm : (covPS xs xs.length xs.length).getD j (0, 0) ∈ covPS xs xs.length xs.length := by
      rw [show (covPS xs xs.length xs.length).getD j (0, 0) = (covPS xs xs.length xs.length)[j] from by simp [List.getD, hj]]
      exact List.getElem_mem hj
    obtain ⟨c1, c2, c3⟩ := covPS_cov _ hm
    have hlt := cover_less hg c2 c3
    unfold joinB at h
    simp only [Bool.or_eq_true, Bool.and_eq_true, beq_iff_eq] at h
    rcases h with ⟨h1, h2⟩ | ⟨h1, h2⟩
    · rw [h1, h2] at c3 hlt
      rw [show min d e = d by omega, show max d e = e by omega]; exact c3
    · rw [h1, h2] at c3 hlt
      rw [show min d e = e by omega, show max d e = d by omega]; exact c3
  · intro h
    have hm := covPS_has (n := xs.length) xs.length (show min d e < xs.length by omega) (show max d e < xs.length by omega) h
    obtain ⟨j, hj, e1⟩ := List.mem_iff_getElem.1 hm
    refine ⟨j, hj, ?_⟩
    rw [show (covPS xs xs.length xs.length).getD j (0, 0) = (covPS xs xs.length xs.length)[j] from by simp [List.getD, hj], e1]
    unfold joinB
    rcases Nat.le_total d e with h1 | h1
    · rw [show min d e = d by omega, show max d e = e by omega]; simp
    · rw [show min d e = e by omega, show max d e = d by omega]; simp
end Go.Proofs.Ytpdoheagfjeefaa

/- The general laws' own helpers: oSame, oLinear. -/
namespace Go.Proofs.Ytpdoheagfjeefaa
open Go.RowKit Go.WideShapes Go.ChangeShapes
set_option linter.unusedVariables false

theorem oSame_any (v u : Value) (xs : List Int) (w : World) (hv : Ints w v xs) (hu : Ints w u xs) (hl : xs.length ≤ 1048576) :
    Calls Try.prog 16 #[v, u] w fun r w' => r = .returned (.bool true) ∧ Below w.heap.size w w' := by
  obtain ⟨A, c, rfl, hA⟩ := hv
  obtain ⟨B, d, rfl, hB⟩ := hu
  have HA := hid hA
  have HB := hid hB
  clear hA hB
  go_enter Try.func16, Try.ntmps16
  go_wp2
  go_loopw [13] (fun i wr => ∃ k : Nat, k ≤ xs.length ∧ i = .int .i64 k ∧ Below w.heap.size w wr) (fun i _ => xs.length - (intOf i).toNat)
  case atStart => exact ⟨0, Nat.zero_le _, rfl, Below.refl _ _⟩
  case round =>
    obtain ⟨k, hk, rfl, hb⟩ := hrel
    by_cases hlt : k < xs.length
    · obtain ⟨b, o, rfl, hbl, hc⟩ := HA.out (by intro h; simp [h] at hlt)
      obtain ⟨b2, o2, rfl, hbl2, hc2⟩ := HB.out (by intro h; simp [h] at hlt)
      have hcell : wr.cell? ⟨b, o + k, none⟩ = some (.int .i64 (xs.getD k 0)) := by
        rw [hb.cell (p := ⟨b, o + k, none⟩) hbl]; exact hc k hlt
      have hcell2 : wr.cell? ⟨b2, o2 + k, none⟩ = some (.int .i64 (xs.getD k 0)) := by
        rw [hb.cell (p := ⟨b2, o2 + k, none⟩) hbl2]; exact hc2 k hlt
      obtain ⟨x, hx⟩ : ∃ x, xs.getD k 0 = x := ⟨_, rfl⟩
      rw [hx] at hcell hcell2
      have Hb := hid hb
      have hlt' : (k : Int) < xs.length := by omega
      clear hc hb hc2 hx
      go_wp2
      go_quiet (fail)
      go_wp2
      go_roundw
      case rel => exact ⟨k + 1, by omega, by go_num, below_drewN Hb.out _⟩
      case measure => simp [intOf]; omega
    · obtain rfl : k = xs.length := by omega
      have Hb := hid hb
      clear hb
      go_wp2
      go_ret
      exact ⟨rfl, Hb.out⟩
theorem oLinear_any (v : Value) (xs : List Int) (u : Value) (ys : List Int) (w : World) (hv : Ints w v xs) (hl : xs.length ≤ 1048576) (hu : Ints w u ys) (hm : ys.length ≤ 1048576) :
    Calls Try.prog 17 #[.agg #[v], u] w fun r w' => r = .returned (.bool (okLin xs ys)) ∧ Below w.heap.size w w' := by
  obtain ⟨A, c, rfl, -⟩ := id hv
  obtain ⟨B, d, rfl, -⟩ := id hu
  have HV := hid hv
  have HU := hid hu
  clear hv hu
  go_enter Try.func17, Try.ntmps17
  go_wp2_with fail
  have HB0 := hid (below_alloc (Below.refl _ w) (.cells #[.slice A xs.length c] 26))
  refine (implIsLinear_any _ xs _ ys _ (HV.out.alloc _) hl (HU.out.alloc _) hm).mono ?_
  rintro e w1 ⟨rfl, hb1⟩
  have HB1 := hid (below_to HB0.out hb1)
  clear hb1 HB0
  cases hg : good xs
  · have HO : Hid (okLin xs ys = false) := hid (okOrder_no hg)
    rw [show okOrder xs ys = false from HO.out]
    clear hg
    go_wp2
    go_ret
    exact ⟨ret_bool HO.out.symm, HB1.out⟩
  · clear hg
    cases ho : okOrder xs ys
    · have HO : Hid (okLin xs ys = false) := hid ho
      clear ho
      go_wp2
      go_ret
      exact ⟨ret_bool HO.out.symm, HB1.out⟩
    · have HO : Hid (okLin xs ys = true) := hid ho
      clear ho
      go_wp2
      go_ret
      exact ⟨ret_bool HO.out.symm, HB1.out⟩
end Go.Proofs.Ytpdoheagfjeefaa
