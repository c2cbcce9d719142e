/- Lists of sets: all ideals, all antichains. -/
import Derived.Test.YtkalpichninncabApi
import Derived.Test.YtkalpichninncabLaw
namespace Go.Proofs.Ytkalpichninncab
open Go.RowKit Go.WideShapes Go.ChangeShapes
set_option linter.unusedVariables false

/-- all sets below k of a kind, in order -/
def setsL (f : Nat → Bool) (k : Nat) : List Int := ((List.range k).filter f).map fun (s : Nat) => (s : Int)
theorem setsL_zero (f : Nat → Bool) : setsL f 0 = [] := rfl
theorem setsL_yes {f : Nat → Bool} {k : Nat} (h : f k = true) : setsL f (k + 1) = setsL f k ++ [(k : Int)] := by
  simp [setsL, List.range_succ, List.filter_append, h]
theorem setsL_no {f : Nat → Bool} {k : Nat} (h : f k = false) : setsL f (k + 1) = setsL f k := by
  simp [setsL, List.range_succ, List.filter_append, h]
theorem setsL_length (f : Nat → Bool) (k : Nat) : (setsL f k).length ≤ k := by
  have := List.length_filter_le f (List.range k)
  simpa [setsL] using this
theorem pow10 {n : Nat} (h : n ≤ 10) : 2 ^ n ≤ 1024 := (two_pow_le n h).2

theorem poIdeals_any (v : Value) (xs : List Int) (w : World) (hv : Ints w v xs) (hg : good xs = true) :
    Calls Try.prog 35 #[.agg #[v]] w fun (r : Ending) w' => ∃ u, r = Ending.returned u ∧ OwnI 3 w' w.heap.size u (setsL (holdsIdeal xs) (2 ^ xs.length)) ∧ Below w.heap.size w w' := by
  have hl10 := (good_length hg).2
  have HV := hid hv
  have HS := hid (good_small hg)
  obtain ⟨A, c, rfl, hA⟩ := hv
  obtain ⟨N, hN⟩ : ∃ N, 2 ^ xs.length = N := ⟨_, rfl⟩
  have wp : wrap64 ((2 : Int) ^ xs.length) = (N : Int) := by rw [wrap_pow xs.length hl10, hN]
  have hN10 : N ≤ 1024 := by rw [← hN]; exact pow10 hl10
  rw [hN]
  clear hA hg hN
  go_enter Try.func35, Try.ntmps35
  go_wp2
  go_loopw [3, 4] (fun q i wr => ∃ s : Nat, s ≤ N ∧ i = .int .i64 s ∧ OwnI 3 wr (w.heap.size + 1) q (setsL (holdsIdeal xs) s) ∧ Below (w.heap.size + 1) (w.alloc (.cells #[.slice A xs.length c] 28)) wr) (fun _ i _ => N - (intOf i).toNat)
  case atStart => exact ⟨0, Nat.zero_le _, rfl, OwnI.nil _ _ _, Below.refl _ _⟩
  case round =>
    obtain ⟨s, hs, rfl, ho, hb⟩ := hrel
    have hbox := box_cell hb 0
    have hbz : w.heap.size < wr.heap.size := by have := hb.size; simp at this; omega
    have HO := hid ho
    have HB := hid hb
    clear ho hb
    by_cases hlt : s < N
    · cases hI : holdsIdeal xs s
      · have HI := hid hI
        clear hI
        go_wp2_with (go_at_call 63; refine (poIdeal_any _ xs s _ (Ints.box HV.out HB.out) hl10 (by omega) (HS.out s)).mono ?_; rw [HI.out]; rintro e w1 ⟨rfl, hb1⟩)
        go_roundw
        case rel => exact ⟨s + 1, by omega, by go_num, by rw [setsL_no HI.out]; exact HO.out.below hb1, HB.out.trans (hb1.mono (by omega))⟩
        case measure => simp [intOf]; omega
      · have HI := hid hI
        clear hI
        go_wp2_with fail
        refine (poIdeal_any _ xs s _ (Ints.box HV.out HB.out) hl10 (by omega) (HS.out s)).mono ?_
        rw [HI.out]
        rintro e w1 ⟨rfl, hb1⟩
        have HO1 := hid (HO.out.below hb1)
        have HB1 := hid (HB.out.trans (hb1.mono (by omega)))
        have hz1 : w.heap.size + 1 ≤ w1.heap.size := by have := hb1.size; omega
        have hlen := setsL_length (holdsIdeal xs) s
        clear hb1 hbox
        go_wp2_with (at_builtin; refine wpList_append_int rfl _ _ 22 3 rfl Try.underlying22 Try.info3 (w.heap.size + 1) _ _ s rfl HO1.out rfl rfl (by omega) (by omega) ?_; rintro q2 w2 ho2 hb2)
        go_roundw
        case rel => exact ⟨s + 1, by omega, by go_num, by rw [setsL_yes HI.out]; exact ho2, HB1.out.trans hb2⟩
        case measure => simp [intOf]; omega
    · obtain rfl : s = N := by omega
      go_wp2
      go_ret
      exact ⟨_, rfl, HO.out.mono (by omega), below_box HB.out⟩
theorem setsI_any (v : Value) (xs : List Int) (w : World) (hv : Ints w v xs) (hg : good xs = true) :
    Calls Try.prog 37 #[.agg #[v], .func (.func 38) #[] #[]] w fun (r : Ending) w' => ∃ u, r = Ending.returned u ∧ OwnI 3 w' w.heap.size u (setsL (holdsIdeal xs) (2 ^ xs.length)) ∧ Below w.heap.size w w' := by
  have hl10 := (good_length hg).2
  have HV := hid hv
  have HS := hid (good_small hg)
  obtain ⟨A, c, rfl, hA⟩ := hv
  obtain ⟨N, hN⟩ : ∃ N, 2 ^ xs.length = N := ⟨_, rfl⟩
  have hN10 : 1 ≤ N ∧ N ≤ 1024 := by rw [← hN]; exact two_pow_le _ hl10
  have HW := hid (wholeSet_any xs.length hl10)
  rw [hN] at HW ⊢
  obtain ⟨hN1, hN2⟩ := hN10
  have e1 : ((N - 1 : Nat) : Int) + 1 = (N : Int) := by omega
  clear hA hg hN
  go_enter Try.func37, Try.ntmps37
  go_wp2_with (go_at_call 65; refine (HW.out _).mono ?_; rintro e w' ⟨rfl, rfl⟩)
  clear e1
  go_loopw [5, 12] (fun q i wr => ∃ s : Nat, s ≤ N ∧ i = .int .i64 s ∧ OwnI 3 wr (w.heap.size + 1) q (setsL (holdsIdeal xs) s) ∧ Below (w.heap.size + 1) (w.alloc (.cells #[.slice A xs.length c] 28)) wr) (fun _ i _ => N - (intOf i).toNat)
  case atStart => exact ⟨0, Nat.zero_le _, rfl, OwnI.nil _ _ _, Below.refl _ _⟩
  case round =>
    obtain ⟨s, hs, rfl, ho, hb⟩ := hrel
    have hbox := box_cell hb 0
    have hbz : w.heap.size < wr.heap.size := by have := hb.size; simp at this; omega
    have HO := hid ho
    have HB := hid hb
    clear ho hb
    by_cases hlt : s < N
    · cases hI : holdsIdeal xs s
      · have HI := hid hI
        clear hI
        go_wp2_with (go_at_call 38; refine (holdsIdeal_any _ xs s _ (Ints.box HV.out HB.out) hl10 (by omega) (HS.out s)).mono ?_; rw [HI.out]; rintro e w1 ⟨rfl, hb1⟩)
        go_roundw
        case rel => exact ⟨s + 1, by omega, by go_num, by rw [setsL_no HI.out]; exact HO.out.below hb1, HB.out.trans (hb1.mono (by omega))⟩
        case measure => simp [intOf]; omega
      · have HI := hid hI
        clear hI
        go_wp2_with fail
        refine (holdsIdeal_any _ xs s _ (Ints.box HV.out HB.out) hl10 (by omega) (HS.out s)).mono ?_
        rw [HI.out]
        rintro e w1 ⟨rfl, hb1⟩
        have HO1 := hid (HO.out.below hb1)
        have HB1 := hid (HB.out.trans (hb1.mono (by omega)))
        have hz1 : w.heap.size + 1 ≤ w1.heap.size := by have := hb1.size; omega
        have hlen := setsL_length (holdsIdeal xs) s
        clear hb1 hbox
        go_wp2_with (at_builtin; refine wpList_append_int rfl _ _ 22 3 rfl Try.underlying22 Try.info3 (w.heap.size + 1) _ _ s rfl HO1.out rfl rfl (by omega) (by omega) ?_; rintro q2 w2 ho2 hb2)
        go_roundw
        case rel => exact ⟨s + 1, by omega, by go_num, by rw [setsL_yes HI.out]; exact ho2, HB1.out.trans hb2⟩
        case measure => simp [intOf]; omega
    · obtain rfl : s = N := by omega
      go_wp2
      go_ret
      exact ⟨_, rfl, HO.out.mono (by omega), below_box HB.out⟩
/-- all ideals, all antichains; none where there is no poset -/
def idealsL (xs : List Int) : List Int := if good xs then setsL (holdsIdeal xs) (2 ^ xs.length) else []
def antichainsL (xs : List Int) : List Int := if good xs then setsL (holdsAntichain xs) (2 ^ xs.length) else []
theorem idealsL_length (xs : List Int) : (idealsL xs).length ≤ 1048576 := by
  unfold idealsL
  split
  · rename_i h
    have h1 := setsL_length (holdsIdeal xs) (2 ^ xs.length)
    have h2 := (two_pow_le _ (good_length h).2).2
    omega
  · simp
theorem antichainsL_length (xs : List Int) : (antichainsL xs).length ≤ 1048576 := by
  unfold antichainsL
  split
  · rename_i h
    have h1 := setsL_length (holdsAntichain xs) (2 ^ xs.length)
    have h2 := (two_pow_le _ (good_length h).2).2
    omega
  · simp
theorem idealsL_yes {xs : List Int} (h : good xs = true) : idealsL xs = setsL (holdsIdeal xs) (2 ^ xs.length) := if_pos h
theorem idealsL_no {xs : List Int} (h : good xs = false) : idealsL xs = [] := by simp [idealsL, h]
theorem antichainsL_yes {xs : List Int} (h : good xs = true) : antichainsL xs = setsL (holdsAntichain xs) (2 ^ xs.length) := if_pos h
theorem antichainsL_no {xs : List Int} (h : good xs = false) : antichainsL xs = [] := by simp [antichainsL, h]
end Go.Proofs.Ytkalpichninncab
