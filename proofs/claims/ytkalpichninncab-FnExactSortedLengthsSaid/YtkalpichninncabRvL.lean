/- The lengths of all orbits of rowmotion, in order: the model's and the program's contracts. -/
import Derived.Test.YtkalpichninncabRvP
import Derived.Test.YtkalpichninncabRvN
import Derived.Test.YtkalpichninncabLens
namespace Go.Proofs.Ytkalpichninncab
open Go.RowKit Go.WideShapes Go.ChangeShapes
set_option linter.unusedVariables false

theorem take_snocR {ls : List Int} {j : Nat} (hj : j < ls.length) : ls.take (j + 1) = ls.take j ++ [ls.getD j 0] := by
  rw [List.take_add_one]; congr 1; rw [List.getD_eq_getElem?_getD, List.getElem?_eq_getElem hj]; rfl
theorem lensXs_neR {xs : List Int} (hg : good xs = true) : lensXs xs ≠ [] := by
  rw [lensXs_starts]
  intro h
  have h0 : 0 < (idsXs xs).length := (idsXs_length hg).1
  have hs := startsN_seen (rowMov hg) (idsXs_D xs) (Nat.le_refl _) h0
  have he : startsN (rowmo xs) (2 ^ xs.length) (idsXs xs) (idsXs xs).length = [] := by
    have := List.map_eq_nil_iff.1 h
    exact this
  rw [he] at hs
  cases hs
def ansSL (xs : List Int) : List Int := if good xs then sortL (lensXs xs) else []
theorem ansSL_no {xs : List Int} (h : good xs = false) : ansSL xs = [] := by simp [ansSL, h]
theorem ansSL_yes {xs : List Int} (h : good xs = true) : ansSL xs = sortL (lensXs xs) := by simp [ansSL, h]
theorem ansSL_length (xs : List Int) : (ansSL xs).length ≤ 1048576 := by
  cases h : good xs
  · rw [ansSL_no h]; simp
  · rw [ansSL_yes h, sortL_length]; have := lensXs_length h; omega
theorem implSortedLengths_any (v : Value) (xs : List Int) (w : World) (hv : Ints w v xs) (hl : xs.length ≤ 1048576) :
    Calls Try.prog 27 #[.agg #[v]] w fun (r : Ending) w' => ∃ q, r = Ending.returned (.tuple #[q, .bool (good xs)]) ∧ OwnI 3 w' w.heap.size q (ansSL xs) ∧ (ansSL xs).length ≤ 1048576 ∧ Below w.heap.size w w' := by
  have HV := hid hv
  have HL := hid (ansSL_length xs)
  clear hv
  go_enter Try.func27, Try.ntmps27
  have HB := hid (below_alloc (Below.refl _ w) (.cells #[v] 28))
  have A0 := hid (At.newAt w v 28 w.heap.size (by simp))
  have hz0 := HB.out.size
  go_wp2_with fail
  refine (implOrbitLengths_any _ xs _ (HV.out.below HB.out) hl).mono ?_
  rintro e w' ⟨q, rfl, ho, hlo, hb⟩
  replace HB := hid (below_to HB.out hb)
  replace A0 := hid (A0.out.below hb)
  clear hb
  have hz1 := HB.out.size
  cases hq : good xs
  · have HQ := hid hq
    rw [ansOL_no hq] at ho
    have ho0 := ho.mono (B' := w.heap.size) (by simp)
    obtain ⟨qA, qc, rfl, -⟩ := ho.shape
    rw [List.length_nil] at ho0 ⊢
    have HO0 := hid ho0
    clear ho hq ho0
    go_wp2_with (go_at_call 46; refine (sortNil_any _ _ _).mono ?_; rintro e w' ⟨rfl, rfl⟩)
    go_ret2
    exact ⟨_, ret_vbS HQ.out.symm, by rw [ansSL_no HQ.out]; exact HO0.out, HL.out, HB.out⟩
  · have HQ := hid hq
    have HNe := hid (lensXs_neR hq)
    have HLl : Hid ((lensXs xs).length ≤ 1048576) := hid (by have := lensXs_length hq; omega)
    rw [ansOL_yes hq] at ho
    have HO := hid (ho.mono (B' := w.heap.size) (by simp))
    obtain ⟨qA, qn, qc, rfl⟩ := ho.shape3
    clear ho hq
    go_wp2_with fail
    refine (sort_any _ (lensXs xs) _ _ HO.out HNe.out HLl.out).mono ?_
    rintro e w3 ⟨rfl, ho3, hb3⟩
    have HO3 := hid ho3
    have HB3 := hid (HB.out.trans hb3)
    clear ho3 hb3
    go_wp2
    go_ret2
    exact ⟨_, ret_vbS HQ.out.symm, by rw [ansSL_yes HQ.out]; exact HO3.out, HL.out, HB3.out⟩
set_option maxHeartbeats 800000 in
theorem specSortedLengths_any (v : Value) (xs : List Int) (w : World) (hv : Ints w v xs) (hl : xs.length ≤ 1048576) :
    Calls Try.prog 26 #[.agg #[v]] w fun (r : Ending) w' => ∃ q, r = Ending.returned (.tuple #[q, .bool (good xs)]) ∧ OwnI 3 w' w.heap.size q (ansSL xs) ∧ (ansSL xs).length ≤ 1048576 ∧ Below w.heap.size w w' := by
  have HV := hid hv
  have HL := hid (ansSL_length xs)
  clear hv
  go_enter Try.func26, Try.ntmps26
  have HB := hid (below_alloc (Below.refl _ w) (.cells #[v] 28))
  have A0 := hid (At.newAt w v 28 w.heap.size (by simp))
  go_wp2_with fail
  refine (poGood_any _ xs _ (HV.out.below HB.out) hl).mono ?_
  rintro e w' ⟨rfl, hb⟩
  replace HB := hid (below_to HB.out hb)
  replace A0 := hid (A0.out.below hb)
  clear hb
  cases hq : good xs
  · have HQ := hid hq
    clear hq
    have ebox0 := A0.out.1
    go_wp2
    go_ret2
    exact ⟨_, ret_vbS HQ.out.symm, by rw [ansSL_no HQ.out]; exact OwnI.nil _ _ _, HL.out, HB.out⟩
  · have HQ := hid hq
    have hl10 := lensXs_length hq
    have HEnd := hid (ansSL_yes hq)
    clear hq
    have ebox0 := A0.out.1
    go_wp2_with fail
    clear ebox0
    refine (obLengths_any _ xs _ (HV.out.below HB.out) HQ.out).mono ?_
    rintro e w' ⟨q, rfl, ho, hb⟩
    replace HB := hid (below_to HB.out hb)
    replace A0 := hid (A0.out.below hb)
    clear hb
    have hz := HB.out.size
    have HI := hid ho.ints
    obtain ⟨ls, hls⟩ : ∃ ls, lensXs xs = ls := ⟨_, rfl⟩
    rw [hls] at HI hl10 HEnd
    obtain ⟨A, c, rfl, hA⟩ := HI.out
    have HA := hid hA
    clear ho HI hA hls
    go_wp2
    go_loopw [4, 13] (fun q i wr => ∃ (k : Nat), k ≤ ls.length ∧ i = .int .i64 k ∧ OwnI 3 wr w'.heap.size q (sortL (ls.take k)) ∧ Below w'.heap.size w' wr) (fun _ i _ => ls.length - (intOf i).toNat)
    case atStart => exact ⟨0, Nat.zero_le _, rfl, by rw [List.take_zero, sortL_nil]; exact OwnI.nil _ _ _, Below.refl _ _⟩
    case round =>
      obtain ⟨k, hk, rfl, ho, hb⟩ := hrel
      have HO := hid ho
      have HB1 := hid hb
      have hz1 := hb.size
      by_cases hlt : k < ls.length
      · obtain ⟨b, o, rfl, hbl, hc⟩ := HA.out (by intro h; simp [h] at hlt)
        have hcell : wr.cell? ⟨b, o + k, none⟩ = some (.int .i64 (ls.getD k 0)) := (hb.cell (p := ⟨b, o + k, none⟩) hbl).trans (hc k hlt)
        have HSn := hid (take_snocR hlt)
        obtain ⟨n, hn⟩ : ∃ n, ls.getD k 0 = n := ⟨_, rfl⟩
        rw [hn] at hcell HSn
        have hl48 : (ls.take k).length ≤ 10000 := by rw [List.length_take]; omega
        clear ho hb hc hn
        go_wp2_with fail
        clear hcell
        refine (rvPut_any _ (ls.take k) n _ _ HO.out hl48).mono ?_
        rintro e w6 ⟨u6, rfl, ho6, hb6⟩
        have HO6 := hid (ho6.mono hz1)
        have HB6 := hid (below_to HB1.out hb6)
        clear ho6 hb6
        go_wp2
        go_roundw
        case rel => exact ⟨k + 1, by omega, by go_num, (by rw [HSn.out]; exact HO6.out), HB6.out⟩
        case measure => simp [intOf]; omega
      · obtain rfl : k = ls.length := by omega
        rw [List.take_length] at HO
        clear ho hb
        go_wp2
        go_ret2
        exact ⟨_, ret_vbS HQ.out.symm, by rw [HEnd.out]; exact HO.out.mono hz, HL.out, below_to HB.out HB1.out⟩
end Go.Proofs.Ytkalpichninncab
