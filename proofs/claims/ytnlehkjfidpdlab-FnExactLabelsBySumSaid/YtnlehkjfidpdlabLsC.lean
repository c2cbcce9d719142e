/- slices.Grow of nil, slices.Concat of lists of ints. -/
import Derived.Test.YtnlehkjfidpdlabLsM
import Derived.Lib.AppendZeros
namespace Go.Proofs.Ytnlehkjfidpdlab
open Go.RowKit Go.WideShapes Go.ChangeShapes
set_option linter.unusedVariables false

set_option maxRecDepth 100000 in
theorem growNil_any (n : Nat) (w : World) (h1 : 1 ≤ n) (hn : n ≤ 1024) :
    Calls Try.prog 82 #[.slice none 0 0, .int .i64 n] w fun (e : Ending) w' => ∃ u, e = Ending.returned u ∧ OwnI 3 w' w.heap.size u [] ∧ Below w.heap.size w w' := by
  have hpos : 0 < (n : Int) := by omega
  have hnn : ¬ (n : Int) < 0 := by omega
  have hnw : IntKind.i64.wrap ((n : Int) - 0) = (n : Int) := by rw [IntWalk.i64_in _ (by omega)]; omega
  have hn2 : IntKind.i64.wrap (n : Int) = (n : Int) := IntWalk.i64_in _ (by omega)
  obtain ⟨i0, hi, hz0, hz1, hz2⟩ := info_parts Try.info3
  have hr := Go.Lib.run_append_nil_zeros (P := Try.prog) w 25 3 25 3 i0 (.int .i64 0) .i64 .i64 Try.underlying25 Try.underlying3 hi hz0 n h1 (by omega) (by omega) (by rw [hz2]; omega)
  have hcge := grownCap_ge w n 0 3
  have hcle := grownCap_le_maxLen w n 0 3 (by unfold maxLen; omega)
  obtain ⟨cap, hcap⟩ : ∃ cap, grownCap w n 0 3 = cap := ⟨_, rfl⟩
  rw [hcap] at hr hcge hcle
  have Hr := hid hr
  clear hr hcap hi hz0 hz1 hz2
  have hb : Below w.heap.size w (w.drew.alloc (.cells (Builtin.zeroCells (Value.int .i64 0).cells n ++ Builtin.zeroCells (Value.int .i64 0).cells (cap - n)) 3)) := (below_drewN (Below.refl _ w) 1).alloc (Nat.le_refl _) _
  have HB := hid hb
  have HO : Hid (OwnI 3 (w.drew.alloc (.cells (Builtin.zeroCells (Value.int .i64 0).cells n ++ Builtin.zeroCells (Value.int .i64 0).cells (cap - n)) 3)) w.heap.size (.slice (some ⟨w.heap.size, 0, none⟩) 0 cap) []) := hid
    ⟨rfl, .inr ⟨w.heap.size, cap, _, rfl, Nat.le_refl _, Blk.newAt w.drew 3 _ w.heap.size rfl, Nat.zero_le _, hcle, by rw [Array.size_append, size_zeroCells, size_zeroCells]; show n * 1 + (cap - n) * 1 = cap * 1; omega, by simp⟩⟩
  obtain ⟨W1, hW1⟩ : ∃ W1, w.drew.alloc (.cells (Builtin.zeroCells (Value.int .i64 0).cells n ++ Builtin.zeroCells (Value.int .i64 0).cells (cap - n)) 3) = W1 := ⟨_, rfl⟩
  rw [hW1] at Hr HB HO
  clear hW1 hb
  go_enter Try.func82, Try.ntmps82
  go_wp2_with (at_builtin; refine Go.Lib.wpList_append_run w rfl _ _ 25 3 rfl (.slice none 0 0) (.int .i64 n) rfl rfl _ _ Hr.out ?_)
  go_ret
  exact ⟨_, rfl, HO.out, HB.out⟩
theorem take_snocR {ls : List (List Int)} {k : Nat} (hk : k < ls.length) : ls.take (k + 1) = ls.take k ++ [ls.getD k []] := by
  rw [List.take_add_one]; congr 1; simp [List.getD, hk]
theorem flat_succ {ls : List (List Int)} {k : Nat} (hk : k < ls.length) : (ls.take (k + 1)).flatten = (ls.take k).flatten ++ ls.getD k [] := by
  rw [take_snocR hk, List.flatten_append]; simp
theorem flat_le (ls : List (List Int)) (k : Nat) : (ls.take k).flatten.length ≤ ls.flatten.length := by
  conv => rhs; rw [← List.take_append_drop k ls, List.flatten_append, List.length_append]
  omega
set_option maxRecDepth 100000 in
set_option maxHeartbeats 800000 in
theorem concatI_any (v : Value) (ls : List (List Int)) (w : World) (hv : IntsSS w v ls) (hl : ls.length ≤ 1024) (h1 : 1 ≤ ls.flatten.length) (h2 : ls.flatten.length ≤ 1024) :
    Calls Try.prog 54 #[v] w fun (e : Ending) w' => ∃ u, e = Ending.returned u ∧ OwnI 3 w' w.heap.size u ls.flatten ∧ Below w.heap.size w w' := by
  obtain ⟨A, c, rfl, hA⟩ := hv
  have HA := hid hA
  have HFs := hid (fun k (hk : k < ls.length) => flat_succ hk)
  have HFl := hid (fun k => flat_le ls k)
  have HTk : Hid (ls.take ls.length = ls) := hid (List.take_length)
  obtain ⟨N, hN⟩ : ∃ N, ls.length = N := ⟨_, rfl⟩
  rw [hN] at HA hl HFs HTk ⊢
  clear hA hN
  go_enter Try.func54, Try.ntmps54
  go_wp2
  go_loop [3, 11] (fun q i => ∃ k : Nat, k ≤ N ∧ i = .int .i64 k ∧ q = .int .i64 ((ls.take k).flatten.length : Nat)) (fun _ i => N - (intOf i).toNat)
  case atStart => exact ⟨0, Nat.zero_le _, rfl, by simp⟩
  case round =>
    obtain ⟨k, hk, rfl, rfl⟩ := hrel
    obtain ⟨t, ht⟩ : ∃ t, (ls.take k).flatten.length = t := ⟨_, rfl⟩
    by_cases hlt : k < N
    · obtain ⟨bb, o, y, rfl, hbl, hc, hi⟩ := HA.out k hlt
      obtain ⟨yA, yc, rfl, -⟩ := hi
      have h3 := HFl.out (k + 1)
      have h4 := HFs.out k hlt
      rw [h4, List.length_append, ht] at h3
      have HNx : Hid ((ls.take (k + 1)).flatten.length = t + (ls.getD k []).length) := hid (by rw [h4, List.length_append, ht])
      rw [ht]
      obtain ⟨z, hz⟩ : ∃ z, (ls.getD k []).length = z := ⟨_, rfl⟩
      rw [hz] at h3 hc HNx
      have hw : IntKind.i64.wrap ((t : Int) + (z : Int)) = ((t + z : Nat) : Int) := by rw [IntWalk.i64_in _ (by omega)]; omega
      have hge : ¬ ((t + z : Nat) : Int) < 0 := by omega
      clear h4 ht hz
      go_wp2
      clear hw
      go_round
      case rel => exact ⟨k + 1, by omega, by go_num, by rw [HNx.out]; go_num⟩
      case measure => simp [intOf]; omega
    · have hkN : k = N := by omega
      have hT : (ls.take k).flatten = ls.flatten := by rw [hkN, HTk.out]
      have htS : t = ls.flatten.length := by rw [← ht, hT]
      have HtS := hid htS
      have ht1 : 1 ≤ t ∧ t ≤ 1024 := by omega
      rw [ht]
      clear hT htS ht hkN
      go_wp2_with fail
      refine (growNil_any t w ht1.1 ht1.2).mono ?_
      rintro e w1 ⟨u, rfl, ho, hb⟩
      obtain ⟨uA, un, uc, rfl⟩ := ho.shape3
      have HO := hid ho
      have HB := hid hb
      clear ho hb
      go_wp2
      go_loopw [6, 27] (fun q i wr => ∃ k : Nat, k ≤ N ∧ i = .int .i64 k ∧ OwnI 3 wr w.heap.size q ((ls.take k).flatten) ∧ Below w.heap.size w wr) (fun _ i _ => N - (intOf i).toNat)
      case atStart => exact ⟨0, Nat.zero_le _, rfl, by simpa using HO.out, HB.out⟩
      case round =>
        obtain ⟨k2, hk2, rfl, ho, hb⟩ := hrel
        have HO2 := hid ho
        have HB2 := hid hb
        obtain ⟨qA, qn, qc, rfl⟩ := ho.shape3
        clear ho hb
        by_cases hlt2 : k2 < N
        · obtain ⟨bb, o, y, rfl, hbl, hc, hi⟩ := HA.out k2 hlt2
          have hcell := (HB2.out.cell (p := ⟨bb, o + k2, none⟩) hbl).trans hc
          have HI := hid (hi.below HB2.out)
          obtain ⟨yA, yn, yc, hyy⟩ : ∃ yA yn yc, y = .slice yA yn yc := by obtain ⟨a, b, e, -⟩ := hi; exact ⟨_, _, _, e⟩
          subst hyy
          have h3 := HFl.out (k2 + 1)
          have h4 := HFs.out k2 hlt2
          have HNx := hid h4
          rw [h4, List.length_append] at h3
          have HLn : Hid ((ls.take k2).flatten.length + (ls.getD k2 []).length ≤ 1048576) := hid (by omega)
          have hz2 : w.heap.size ≤ wr.heap.size := HB2.out.size
          clear hc hi h4
          go_wp2_with (at_builtin; refine wpList_append_ints rfl _ _ 25 3 rfl Try.underlying25 Try.info3 w.heap.size _ ((ls.take k2).flatten) rfl HO2.out _ (ls.getD k2 []) rfl HI.out HLn.out hz2 ?_; intro u5 w5 ho5 hb5; rw [← HNx.out] at ho5; obtain ⟨sA, sn, sc, rfl⟩ := ho5.shape3; have HO5 := hid ho5; have HB5 := hid hb5; clear ho5 hb5)
          go_roundw
          case rel => exact ⟨k2 + 1, by omega, by go_num, HO5.out, HB2.out.trans HB5.out⟩
          case measure => simp [intOf]; omega
        · have HE : Hid ((ls.take k2).flatten = ls.flatten) := hid (by rw [show k2 = N by omega, HTk.out])
          rw [HE.out] at HO2
          go_wp2
          go_ret
          exact ⟨_, rfl, HO2.out, HB2.out⟩
end Go.Proofs.Ytnlehkjfidpdlab
