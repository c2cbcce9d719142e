/- SlideOf of both sides. -/
import Derived.Test.YtiodligebnnodaaEndS
import Derived.Test.YtiodligebnnodaaLinP
import Derived.Test.YtiodligebnnodaaCovers
import Derived.Deep.RegionHeld3
import Derived.Deep.RegionWith
namespace Go.Proofs.Ytiodligebnnodaa
open Go.RowKit Go.WideShapes Go.ChangeShapes
set_option linter.unusedVariables false

/-- the chain behind k places, and its last element -/
def slS (xs ws : List Int) : Nat → List Int × Nat
  | 0 => ([(wN ws 0 : Int)], wN ws 0)
  | k + 1 => if coverB xs (slS xs ws k).2 (wN ws (k + 1)) = true then ((slS xs ws k).1 ++ [(wN ws (k + 1) : Int)], wN ws (k + 1)) else slS xs ws k
theorem slS_yes {xs ws : List Int} {k : Nat} (h : coverB xs (slS xs ws k).2 (wN ws (k + 1)) = true) : slS xs ws (k + 1) = ((slS xs ws k).1 ++ [(wN ws (k + 1) : Int)], wN ws (k + 1)) := if_pos h
theorem slS_no {xs ws : List Int} {k : Nat} (h : coverB xs (slS xs ws k).2 (wN ws (k + 1)) = false) : slS xs ws (k + 1) = slS xs ws k := if_neg (by rw [h]; decide)
theorem slS_last (xs ws : List Int) (k : Nat) : 1 ≤ (slS xs ws k).1.length ∧ (slS xs ws k).1.length ≤ k + 1 ∧ (slS xs ws k).1.getD ((slS xs ws k).1.length - 1) 0 = ((slS xs ws k).2 : Int) := by
  induction k with
  | zero => simp [slS]
  | succ k ih =>
    cases h : coverB xs (slS xs ws k).2 (wN ws (k + 1))
    · rw [slS_no h]; omega
    · rw [slS_yes h]
      refine ⟨by simp, by simp; omega, ?_⟩
      simp [List.getD]
theorem slS_stay {xs ws : List Int} {k : Nat} (m : Nat) (hm : k ≤ m) (h : ∀ i, k < i → i ≤ m → coverB xs (slS xs ws k).2 (wN ws i) = false) : slS xs ws m = slS xs ws k := by
  induction m with
  | zero => have : k = 0 := by omega
            subst this; rfl
  | succ m ih =>
    by_cases e : k = m + 1
    · subst e; rfl
    · have h1 := ih (by omega) (fun i a b => h i a (by omega))
      rw [slS_no (by rw [h1]; exact h (m + 1) (by omega) (Nat.le_refl _)), h1]
def sliL (xs ws : List Int) : List Int := (slS xs ws (xs.length - 1)).1
theorem coverB_row {xs : List Int} {j i : Nat} (h : coverB xs j i = true) : (row xs i).testBit j = true := by
  unfold coverB at h
  rw [Bool.and_eq_true] at h
  exact h.1
theorem LinX.inj {xs ws : List Int} (h : LinX xs ws) {j k : Nat} (hj : j < xs.length) (hk : k < xs.length) (e : wN ws j = wN ws k) : j = k := by
  rcases Nat.lt_trichotomy j k with h1 | h1 | h1
  · exact absurd e (h.ne h1 hk)
  · exact h1
  · exact absurd e.symm (h.ne h1 hj)
theorem LinX.later {xs ws : List Int} (h : LinX xs ws) {k i : Nat} (hk : k < xs.length) (hi : i < xs.length) (hc : coverB xs (wN ws k) (wN ws i) = true) : k < i := by
  obtain ⟨j, h1, h2⟩ := h.before hi (coverB_row hc)
  have := h.inj (show j < xs.length by omega) hk h2
  omega
/-- the first place that covers the last element -/
theorem LinX.slide {xs ws : List Int} (h : LinX xs ws) {k t : Nat} (hk : k < xs.length) (ht : t < xs.length) (hl : (slS xs ws k).2 = wN ws k) (h1 : ∀ j, j < t → coverB xs (wN ws k) (wN ws j) = false) (h2 : coverB xs (wN ws k) (wN ws t) = true) :
    k < t ∧ slS xs ws t = ((slS xs ws k).1 ++ [(wN ws t : Int)], wN ws t) := by
  have hkt := h.later hk ht h2
  refine ⟨hkt, ?_⟩
  obtain ⟨m, rfl⟩ : ∃ m, t = m + 1 := ⟨t - 1, by omega⟩
  have h3 := slS_stay (xs := xs) (ws := ws) (k := k) m (by omega) (fun i a b => by rw [hl]; exact h1 i (by omega))
  rw [slS_yes (by rw [h3, hl]; exact h2), h3]
theorem LinX.slide_end {xs ws : List Int} (h : LinX xs ws) {k : Nat} (hk : k < xs.length) (hl : (slS xs ws k).2 = wN ws k) (h1 : ∀ e, e < xs.length → coverB xs (wN ws k) e = false) : sliL xs ws = (slS xs ws k).1 := by
  unfold sliL
  rw [slS_stay (xs := xs) (ws := ws) (k := k) (xs.length - 1) (by omega) (fun i a b => by rw [hl]; exact h1 _ (h.rng i (by omega)).2)]
theorem LinX.slide_has {xs ws : List Int} (h : LinX xs ws) {k : Nat} (hall : ∀ j, j < xs.length → coverB xs (wN ws k) (wN ws j) = false) {e : Nat} (he : e < xs.length) : coverB xs (wN ws k) e = false := by
  obtain ⟨j, h1, rfl⟩ := h.surj he
  exact hall j h1
def abvK (xs : List Int) (j k : Nat) : List Int := ((List.range k).filter (coverB xs j)).map fun (e : Nat) => (e : Int)
theorem abvK_succ (xs : List Int) (j k : Nat) : abvK xs j (k + 1) = if coverB xs j k = true then abvK xs j k ++ [(k : Int)] else abvK xs j k := by
  unfold abvK
  rw [List.range_succ, List.filter_append, List.map_append]
  cases h : coverB xs j k <;> simp [h]
theorem abvK_length (xs : List Int) (j k : Nat) : (abvK xs j k).length ≤ k := by
  unfold abvK
  rw [List.length_map]
  exact Nat.le_trans (List.length_filter_le _ _) (by simp)
theorem abvK_mem (xs : List Int) (j k e : Nat) (he : e < k) : ((e : Int) ∈ abvK xs j k) ↔ coverB xs j e = true := by
  unfold abvK
  rw [List.mem_map]
  constructor
  · rintro ⟨a, h1, h2⟩
    have : a = e := by omega
    subst this
    exact (List.mem_filter.1 h1).2
  · intro h
    exact ⟨e, List.mem_filter.2 ⟨List.mem_range.2 he, h⟩, rfl⟩
theorem abvK_nil {xs : List Int} {j k : Nat} (h : (abvK xs j k).length = 0) (e : Nat) (he : e < k) : coverB xs j e = false := by
  cases hc : coverB xs j e
  · rfl
  · have := (abvK_mem xs j k e he).2 hc
    rw [List.length_eq_zero_iff] at h
    rw [h] at this; cases this
def hasL (xs : List Int) (n : Int) : Bool := decide (n ∈ xs)
theorem l1HasL_any (v : Value) (xs : List Int) (n : Int) (w : World) (hv : Ints w v xs) (hl : xs.length ≤ 1048576) :
    Calls Try.prog 72 #[v, .int .i64 n] w fun r w' => r = .returned (.bool (hasL xs n)) ∧ w = w' := by
  obtain ⟨A, c, rfl, hA⟩ := hv
  have HA := hid hA
  clear hA
  go_enter Try.func72, Try.ntmps72
  go_wp2
  go_loopw [9] (fun i wr => ∃ k : Nat, k ≤ xs.length ∧ i = .int .i64 k ∧ Hid (∀ j, j < k → xs.getD j 0 ≠ n) ∧ wr = w) (fun i _ => xs.length - (intOf i).toNat)
  case atStart => exact ⟨0, Nat.zero_le _, rfl, hid (fun j hj => absurd hj (Nat.not_lt_zero _)), rfl⟩
  case round =>
    obtain ⟨k, hk, rfl, HJ, rfl⟩ := hrel
    by_cases hlt : k < xs.length
    · obtain ⟨b, o, rfl, hbl, hc⟩ := HA.out (by intro h; simp [h] at hlt)
      have hcell := hc k hlt
      obtain ⟨x, hx⟩ : ∃ x, xs.getD k 0 = x := ⟨_, rfl⟩
      rw [hx] at hcell
      have HX := hid hx
      clear hc hx
      by_cases hxn : x = n
      · subst hxn
        have HT : Hid (hasL xs x = true) := hid (by
          unfold hasL; rw [decide_eq_true_iff, ← HX.out]
          rw [List.getD_eq_getElem?_getD, List.getElem?_eq_getElem hlt]
          exact List.getElem_mem hlt)
        have hbe : (x == x) = true := by simp
        go_wp2
        go_ret
        exact ⟨ret_bool HT.out.symm, rfl⟩
      · have hbe : (x == n) = false := by rw [beq_eq_false_iff_ne]; exact hxn
        have HJ2 : Hid (∀ j, j < k + 1 → xs.getD j 0 ≠ n) := hid (fun j hj => by
          by_cases e : j = k
          · subst e; rw [HX.out]; exact hxn
          · exact HJ.out j (by omega))
        clear hxn
        go_wp2
        go_roundw
        case rel => exact ⟨k + 1, by omega, by go_num, HJ2, by first | trivial | rfl⟩
        case measure => simp [intOf]; omega
    · obtain rfl : k = xs.length := by omega
      have HT : Hid (hasL xs n = false) := hid (by
        unfold hasL; rw [decide_eq_false_iff_not]
        intro hm
        obtain ⟨j, hj, e⟩ := List.mem_iff_getElem.1 hm
        refine HJ.out j hj ?_
        simp [List.getD, hj, e])
      go_wp2
      go_ret
      exact ⟨ret_bool HT.out.symm, rfl⟩
theorem liCovers_any (v : Value) (xs : List Int) (j : Nat) (w : World) (hv : Ints w v xs) (hg : good xs = true) (hj : j < xs.length) :
    Calls Try.prog 71 #[.agg #[v], .int .i64 j] w fun (r : Ending) w' => ∃ u, r = Ending.returned u ∧ OwnI 3 w' w.heap.size u (abvK xs j xs.length) ∧ Below w.heap.size w w' := by
  have HV := hid hv
  have HG := hid hg
  have hl10 := (good_length hg).2
  obtain ⟨A, c, rfl, -⟩ := hv
  clear hg
  go_enter Try.func71, Try.ntmps71
  have HB := hid (below_alloc (Below.refl _ w) (.cells #[(.slice A xs.length c)] 28))
  have A0 := hid (At.newAt w (.slice A xs.length c) 28 w.heap.size (by simp))
  go_wp2
  go_loopw [5, 10] (fun q i wr => ∃ k : Nat, k ≤ xs.length ∧ i = .int .i64 k ∧ OwnI 3 wr (w.heap.size + 1) q (abvK xs j k) ∧ At wr w.heap.size (.slice A xs.length c) ∧ Below w.heap.size w wr) (fun _ i _ => xs.length - (intOf i).toNat)
  case atStart => exact ⟨0, Nat.zero_le _, rfl, OwnI.nil _ _ _, A0.out, HB.out⟩
  case round =>
    obtain ⟨k, hk, rfl, ho, ha, hb⟩ := hrel
    have HO := hid ho
    have HA1 := hid ha
    have Hb := hid hb
    obtain ⟨qA, qn, qc, rfl⟩ := ho.shape3
    have hbx := ha.1
    clear ho ha hb
    by_cases hlt : k < xs.length
    · have hal := abvK_length xs j k
      have HS := hid (abvK_succ xs j k)
      go_wp2_with fail
      clear hbx
      refine (poCovers_any _ xs j k _ (HV.out.below Hb.out) HG.out hj hlt).mono ?_
      rintro e w2 ⟨rfl, hb2⟩
      have HO2 := hid (HO.out.below hb2)
      have HA2 := hid (HA1.out.below hb2)
      have Hb2 := hid (below_to Hb.out hb2)
      have hz2 : w.heap.size + 1 ≤ w2.heap.size := HA2.out.2
      clear hb2
      cases hc : coverB xs j k
      · have HE : Hid (abvK xs j (k + 1) = abvK xs j k) := hid (by rw [HS.out, hc]; rfl)
        clear hc
        go_wp2
        go_roundw
        case rel => exact ⟨k + 1, by omega, by go_num, by rw [HE.out]; exact HO2.out, HA2.out, Hb2.out⟩
        case measure => simp [intOf]; omega
      · have HE : Hid (abvK xs j (k + 1) = abvK xs j k ++ [(k : Int)]) := hid (by rw [HS.out, hc]; rfl)
        clear hc
        go_wp2_with (at_builtin; refine wpList_append_int rfl _ _ 22 3 rfl Try.underlying22 Try.info3 (w.heap.size + 1) _ (abvK xs j k) (k : Int) rfl HO2.out rfl rfl (by omega) hz2 ?_; rintro u3 w3 ho3 hb3)
        go_roundw
        case rel => exact ⟨k + 1, by omega, by go_num, by rw [HE.out]; exact ho3, ⟨(hb3.cell (p := ⟨w.heap.size, 0, none⟩) (by show w.heap.size < w.heap.size + 1; omega)).trans HA2.out.1, Nat.lt_of_lt_of_le HA2.out.2 hb3.size⟩, Hb2.out.trans (hb3.mono (by omega))⟩
        case measure => simp [intOf]; omega
    · obtain rfl : k = xs.length := by omega
      clear hbx
      go_wp2
      go_ret
      exact ⟨_, rfl, HO.out.mono (by omega), Hb.out⟩
end Go.Proofs.Ytiodligebnnodaa
