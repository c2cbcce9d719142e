/- Rev RvI Swd -/
import Derived.Lib.SliceRun
import Derived.RegionTactic
import Derived.Test.YtbmhaamenjhjfaaGreatDoorPkD10
namespace Go.Proofs.YtbmhaamenjhjfaaGreatDoor
open Go.RowKit Go.WideShapes Go.ChangeShapes
set_option linter.unusedVariables false
theorem rowStep_any (v : Value) (xs : List Int) (s : Nat) (w : World) (hv : Ints w v xs) (hg : good xs = true) (hs : s < 2 ^ xs.length) :
    Calls Tryz.prog 292 #[.agg #[], .agg #[v], .int .i64 s] w fun r w' => r = .returned (.int .i64 (rowmo xs s : Nat)) ∧ Below w.heap.size w w' := by
  have hl10 := (good_length hg).2
  have hs10 := lt1024 hs hl10
  have HG := hid hg
  obtain ⟨A, c, rfl, hA⟩ := hv
  have HA := hid hA
  clear hA hg hs
  go_enter Tryz.func292, Tryz.ntmps292
  go_wp2
  go_loop [7, 13] (fun q i => ∃ k t : Nat, k ≤ xs.length ∧ i = .int .i64 k ∧ q = .int .i64 t ∧ Hid (orN (rowP xs s) (rowG xs) k = t)) (fun _ i => xs.length - (intOf i).toNat)
  case atStart => exact ⟨0, 0, Nat.zero_le _, rfl, rfl, hid rfl⟩
  case round =>
    obtain ⟨k, t, hk, rfl, rfl, HT⟩ := hrel
    by_cases hlt : k < xs.length
    · obtain ⟨b, o, rfl, hb, hc⟩ := HA.out (by intro h; simp [h] at hlt)
      have hcell := hc k hlt
      have hr := row_lt HG.out hlt
      have hr10 := row_lt10 HG.out hlt
      obtain ⟨z, hz⟩ : ∃ z, row xs k = z := ⟨_, rfl⟩
      rw [hz] at hr hr10
      rw [hr.1] at hcell
      have HZ := hid hz
      clear hc hr hz
      cases hbit : s.testBit k
      · have HBit := hid hbit
        have han := i64_andNot_nat z s (by omega) (by omega)
        clear hbit
        by_cases h0 : sub z s = 0
        · have h0' : (((sub z s : Nat) : Int) == 0) = true := by rw [h0]; rfl
          have HP : Hid (rowP xs s k = true) := hid (by simp [rowP, HBit.out, HZ.out, h0])
          have ht10 := lt1024 (Nat.lt_of_le_of_lt (Nat.le_of_eq HT.out.symm) (rowmoN_lt HG.out s hk)) hl10
          have HN : Hid (orN (rowP xs s) (rowG xs) (k + 1) = t ||| (2 ^ k ||| z)) := hid (by rw [orN_yes HP.out, HT.out, rowG, HZ.out])
          have wp := wrap_pow' k (by omega)
          have hp1 := Nat.pow_lt_pow_right (a := 2) (by decide) (show k < 10 by omega)
          have hg10 : 2 ^ k ||| z < 1024 := Nat.or_lt_two_pow (n := 10) hp1 hr10
          have hor := pow_or z k hr10 (by omega)
          have hor2 := i64_or_nat t (2 ^ k ||| z) (by omega) (by omega)
          clear h0 hp1
          go_wp2_with (go_at_call 165; refine (hasElement_any s k (by omega) (by omega) _).mono ?_; rw [HBit.out]; rintro e w' ⟨rfl, rfl⟩)
          go_round
          case rel => exact ⟨k + 1, _, by omega, by go_num, rfl, hid (by rw [HN.out])⟩
          case measure => simp [intOf]; omega
        · have h0' : (((sub z s : Nat) : Int) == 0) = false := by rw [beq_eq_false_iff_ne]; omega
          have HP : Hid (rowP xs s k = false) := hid (by simp [rowP, HBit.out, HZ.out, h0])
          clear h0
          go_wp2_with (go_at_call 165; refine (hasElement_any s k (by omega) (by omega) _).mono ?_; rw [HBit.out]; rintro e w' ⟨rfl, rfl⟩)
          go_round
          case rel => exact ⟨k + 1, t, by omega, by go_num, rfl, hid (by rw [orN_no HP.out, HT.out])⟩
          case measure => simp [intOf]; omega
      · have HBit := hid hbit
        have HP : Hid (rowP xs s k = false) := hid (by simp [rowP, hbit])
        clear hbit
        go_wp2_with (go_at_call 165; refine (hasElement_any s k (by omega) (by omega) _).mono ?_; rw [HBit.out]; rintro e w' ⟨rfl, rfl⟩)
        go_round
        case rel => exact ⟨k + 1, t, by omega, by go_num, rfl, hid (by rw [orN_no HP.out, HT.out])⟩
        case measure => simp [intOf]; omega
    · obtain rfl : k = xs.length := by omega
      go_wp2
      go_ret
      exact ⟨ret_int (by rw [← HT.out]; rfl), ((Below.refl _ _).alloc (Nat.le_refl _) _).alloc (by simp) _⟩
theorem backStep_any (v : Value) (xs : List Int) (s : Nat) (w : World) (hv : Ints w v xs) (hg : good xs = true) (hs : s < 2 ^ xs.length) :
    Calls Tryz.prog 294 #[.agg #[], .agg #[v], .int .i64 s] w fun r w' => r = .returned (.int .i64 (rowba xs s : Nat)) ∧ Below w.heap.size w w' := by
  have hl10 := (good_length hg).2
  have hs10 := lt1024 hs hl10
  have HG := hid hg
  have HS := hid (good_small hg s)
  have HV := hid hv
  obtain ⟨A, c, rfl, hA⟩ := hv
  have HA := hid hA
  have hT10 : top xs s < 1024 := Nat.lt_of_le_of_lt (sub_le _ _) hs10
  clear hA hg hs
  go_enter Tryz.func294, Tryz.ntmps294
  go_wp2_with fail
  refine (top_any _ xs s _ ((HV.out.alloc _).alloc _) hl10 hs10 HS.out).mono ?_
  rintro e w1 ⟨rfl, hb1⟩
  have HB := hid (below_to (below_alloc (below_alloc (Below.refl _ w) _) _) hb1)
  have hbox : w1.cell? ⟨w.heap.size + 1, 0, none⟩ = some (.slice A xs.length c) := ((At.newAt (w.alloc (.cells #[] 217)) (.slice A xs.length c) 28 (w.heap.size + 1) (by simp)).below hb1).1
  clear hb1
  obtain ⟨T, hT⟩ : ∃ T, top xs s = T := ⟨_, rfl⟩
  rw [hT] at hT10 ⊢
  have HTop := hid hT
  clear hT
  go_wp2
  go_loop [8, 17] (fun q i => ∃ k t : Nat, k ≤ xs.length ∧ i = .int .i64 k ∧ q = .int .i64 t ∧ Hid (orN (backP xs T) (fun e => 2 ^ e) k = t)) (fun _ i => xs.length - (intOf i).toNat)
  case atStart => exact ⟨0, 0, Nat.zero_le _, rfl, rfl, hid rfl⟩
  case round =>
    obtain ⟨k, t, hk, rfl, rfl, HT⟩ := hrel
    by_cases hlt : k < xs.length
    · obtain ⟨b, o, rfl, hb, hc⟩ := HA.out (by intro h; simp [h] at hlt)
      have hcell : w1.cell? ⟨b, o + k, none⟩ = some (.int .i64 (xs.getD k 0)) := (HB.out.cell (p := ⟨b, o + k, none⟩) hb).trans (hc k hlt)
      have hr := row_lt HG.out hlt
      have hr10 := row_lt10 HG.out hlt
      obtain ⟨z, hz⟩ : ∃ z, row xs k = z := ⟨_, rfl⟩
      rw [hz] at hr hr10
      rw [hr.1] at hcell
      have HZ := hid hz
      clear hc hr hz
      cases hbit : T.testBit k
      · have HBit := hid hbit
        have han := i64_and_nat z T (by omega) (by omega)
        clear hbit
        by_cases h0 : z &&& T = 0
        · have h0' : (((z &&& T : Nat) : Int) == 0) = true := by rw [h0]; rfl
          have HP : Hid (backP xs T k = true) := hid (by simp [backP, HBit.out, HZ.out, h0])
          have ht10 := lt1024 (Nat.lt_of_le_of_lt (Nat.le_of_eq HT.out.symm) (rowbaN_lt xs T hk)) hl10
          have HN : Hid (orN (backP xs T) (fun e => 2 ^ e) (k + 1) = t ||| 2 ^ k) := hid (by rw [orN_yes HP.out, HT.out])
          have wp := wrap_pow' k (by omega)
          have hor := or_pow t k ht10 (by omega)
          clear h0
          go_wp2_with (go_at_call 165; refine (hasElement_any T k (by omega) (by omega) _).mono ?_; rw [HBit.out]; rintro e w' ⟨rfl, rfl⟩)
          go_round
          case rel => exact ⟨k + 1, _, by omega, by go_num, rfl, hid (by rw [HN.out])⟩
          case measure => simp [intOf]; omega
        · have h0' : (((z &&& T : Nat) : Int) == 0) = false := by rw [beq_eq_false_iff_ne]; omega
          have HP : Hid (backP xs T k = false) := hid (by simp [backP, HBit.out, HZ.out, h0])
          clear h0
          go_wp2_with (go_at_call 165; refine (hasElement_any T k (by omega) (by omega) _).mono ?_; rw [HBit.out]; rintro e w' ⟨rfl, rfl⟩)
          go_round
          case rel => exact ⟨k + 1, t, by omega, by go_num, rfl, hid (by rw [orN_no HP.out, HT.out])⟩
          case measure => simp [intOf]; omega
      · have HBit := hid hbit
        have HP : Hid (backP xs T k = false) := hid (by simp [backP, hbit])
        clear hbit
        go_wp2_with (go_at_call 165; refine (hasElement_any T k (by omega) (by omega) _).mono ?_; rw [HBit.out]; rintro e w' ⟨rfl, rfl⟩)
        go_round
        case rel => exact ⟨k + 1, t, by omega, by go_num, rfl, hid (by rw [orN_no HP.out, HT.out])⟩
        case measure => simp [intOf]; omega
    · obtain rfl : k = xs.length := by omega
      go_wp2
      go_ret
      exact ⟨ret_int (by rw [← HT.out, ← HTop.out]; rfl), HB.out⟩
set_option maxHeartbeats 400000 in
theorem repeatedRow_any (v : Value) (xs : List Int) (s n : Nat) (w : World) (hv : Ints w v xs) (hg : good xs = true) (hs : s < 2 ^ xs.length) (hn : n ≤ 1000) :
    Calls Tryz.prog 169 #[.agg #[v], .int .i64 s, .iface 195 (.agg #[]), .int .i64 n] w fun r w' => r = .returned (.int .i64 (iter (rowmo xs) n s : Nat)) ∧ Below w.heap.size w w' := by
  have HV := hid hv
  have HG := hid hg
  have HS := hid hs
  have HL := hid (fun k => iter_lt (f := rowmo xs) (m := 2 ^ xs.length) (fun s _ => rowmo_lt hg s) hs k)
  clear hv hg hs
  go_enter Tryz.func169, Tryz.ntmps169
  have HB := hid (below_alloc (Below.refl _ w) (.cells #[v] 28))
  have A0 := hid (At.newAt w v 28 w.heap.size (by simp))
  go_wp2
  go_loopw [1, 10] (fun q i wr => ∃ k t : Nat, k ≤ n ∧ i = .int .i64 k ∧ q = .int .i64 t ∧ Hid (iter (rowmo xs) k s = t) ∧ Below w.heap.size w wr ∧ At wr w.heap.size v) (fun _ i _ => n - (intOf i).toNat)
  case atStart => exact ⟨0, s, Nat.zero_le _, rfl, rfl, hid rfl, HB.out, A0.out⟩
  case round =>
    obtain ⟨k, t, hk, rfl, rfl, HT, hb, ha⟩ := hrel
    have hbox := ha.1
    have HB1 := hid hb
    have HA1 := hid ha
    clear hb ha
    by_cases hlt : k < n
    · have ht : t < 2 ^ xs.length := by rw [← HT.out]; exact HL.out k
      have HT2 := hid ht
      clear ht
      go_wp2_with fail
      clear hbox
      refine (rowStep_any _ xs t _ (HV.out.below HB1.out) HG.out HT2.out).mono ?_
      rintro e' w' ⟨rfl, hb⟩
      have HB2 := hid (below_to HB1.out hb)
      have HA2 := hid (HA1.out.below hb)
      clear hb
      go_wp2
      go_roundw
      case rel => exact ⟨k + 1, _, by omega, by go_num, rfl, hid (by rw [iter, HT.out]), HB2.out, HA2.out⟩
      case measure => simp [intOf]; omega
    · obtain rfl : k = n := by omega
      go_wp2
      go_ret
      exact ⟨ret_int (by rw [← HT.out]), HB1.out⟩
set_option maxHeartbeats 400000 in
theorem repeatedBack_any (v : Value) (xs : List Int) (s n : Nat) (w : World) (hv : Ints w v xs) (hg : good xs = true) (hs : s < 2 ^ xs.length) (hn : n ≤ 1000) :
    Calls Tryz.prog 169 #[.agg #[v], .int .i64 s, .iface 217 (.agg #[]), .int .i64 n] w fun r w' => r = .returned (.int .i64 (iter (rowba xs) n s : Nat)) ∧ Below w.heap.size w w' := by
  have HV := hid hv
  have HG := hid hg
  have HS := hid hs
  have HL := hid (fun k => iter_lt (f := rowba xs) (m := 2 ^ xs.length) (fun s _ => rowba_lt xs s) hs k)
  clear hv hg hs
  go_enter Tryz.func169, Tryz.ntmps169
  have HB := hid (below_alloc (Below.refl _ w) (.cells #[v] 28))
  have A0 := hid (At.newAt w v 28 w.heap.size (by simp))
  go_wp2
  go_loopw [1, 10] (fun q i wr => ∃ k t : Nat, k ≤ n ∧ i = .int .i64 k ∧ q = .int .i64 t ∧ Hid (iter (rowba xs) k s = t) ∧ Below w.heap.size w wr ∧ At wr w.heap.size v) (fun _ i _ => n - (intOf i).toNat)
  case atStart => exact ⟨0, s, Nat.zero_le _, rfl, rfl, hid rfl, HB.out, A0.out⟩
  case round =>
    obtain ⟨k, t, hk, rfl, rfl, HT, hb, ha⟩ := hrel
    have hbox := ha.1
    have HB1 := hid hb
    have HA1 := hid ha
    clear hb ha
    by_cases hlt : k < n
    · have ht : t < 2 ^ xs.length := by rw [← HT.out]; exact HL.out k
      have HT2 := hid ht
      clear ht
      go_wp2_with fail
      clear hbox
      refine (backStep_any _ xs t _ (HV.out.below HB1.out) HG.out HT2.out).mono ?_
      rintro e' w' ⟨rfl, hb⟩
      have HB2 := hid (below_to HB1.out hb)
      have HA2 := hid (HA1.out.below hb)
      clear hb
      go_wp2
      go_roundw
      case rel => exact ⟨k + 1, _, by omega, by go_num, rfl, hid (by rw [iter, HT.out]), HB2.out, HA2.out⟩
      case measure => simp [intOf]; omega
    · obtain rfl : k = n := by omega
      go_wp2
      go_ret
      exact ⟨ret_int (by rw [← HT.out]), HB1.out⟩
theorem compl_bits (n s N : Nat) (hn : n ≤ 10) (hs : s < 1024) (hN : 2 ^ n = N) : bits .andNot .i64 ((N : Int) - 1) (s : Int) = ((compl n s : Nat) : Int) := by
  have hp := two_pow_le n hn
  have e : ((N : Int) - 1) = ((N - 1 : Nat) : Int) := by omega
  rw [e, i64_andNot_nat _ _ (by omega) (by omega)]
  unfold compl
  rw [hN]
theorem tgRow_any (v : Value) (xs : List Int) (s : Nat) (w : World) (hv : Ints w v xs) (hg : good xs = true) (hs : s < 2 ^ xs.length) :
    Calls Tryz.prog 80 #[.agg #[v], .int .i64 s] w fun r w' => r = .returned (.int .i64 (rowmo xs s : Nat)) ∧ Below w.heap.size w w' := by
  have hl10 := (good_length hg).2
  have hs10 := lt1024 hs hl10
  have HV := hid hv
  have HR := hid (rowmo_spec hg s)
  have HS := hid (good_small hg)
  have hc10 := lt1024 (compl_lt xs.length s) hl10
  obtain ⟨A, c, rfl, -⟩ := hv
  obtain ⟨N, hN⟩ : ∃ N, 2 ^ xs.length = N := ⟨_, rfl⟩
  have wp : wrap64 ((2 : Int) ^ xs.length) = (N : Int) := by rw [wrap_pow xs.length hl10, hN]
  have hN1 := two_pow_le xs.length hl10
  rw [hN] at hN1
  have han := compl_bits xs.length s N hl10 hs10 hN
  obtain ⟨z, hz⟩ : ∃ z, compl xs.length s = z := ⟨_, rfl⟩
  rw [hz] at han hc10
  have HZ := hid hz
  have hbl : bottom xs z < 1024 := bottomN_lt xs z xs.length hl10
  clear hg hs hN hz
  go_enter Tryz.func80, Tryz.ntmps80
  have HB := hid (below_alloc (Below.refl _ w) (.cells #[(.slice A xs.length c)] 28))
  have A0 := hid (At.newAt w (.slice A xs.length c) 28 w.heap.size (by simp))
  go_wp2
  clear wp
  have hbx0 := A0.out.1
  go_region_with (first | (go_at_call 138; refine (poBottom_any _ xs z _ (HV.out.below HB.out).drew hl10 hc10 (HS.out z)).mono ?_; rintro e w1 ⟨rfl, hb1⟩; have H1 := hid (below_to HB.out.drew hb1); have hbx := (A0.out.drew.below hb1).1; clear hb1) | (go_at_call 137; refine (poDown_any _ xs (bottom xs z) _ (HV.out.below H1.out) hl10 hbl (HS.out _)).mono ?_; rintro e w2 ⟨rfl, hb2⟩; have H2 := hid (below_to H1.out hb2); clear hb2))
  all_goals go_wp2
  all_goals go_ret
  all_goals exact ⟨ret_int (by rw [← HR.out, HZ.out]), H2.out⟩
end Go.Proofs.YtbmhaamenjhjfaaGreatDoor
namespace Go.Proofs.YtbmhaamenjhjfaaGreatDoor
open Go.RowKit Go.WideShapes Go.ChangeShapes
set_option linter.unusedVariables false
theorem ta1 (w : World) : (Instr.typeAssert (.iface 195 (.agg #[])) 192 195 true).run Tryz.prog w = .ok (.tuple #[.agg #[], .bool true]) w := by kernel_rfl
theorem undoneRow_any (w : World) : Calls Tryz.prog 170 #[.iface 195 (.agg #[])] w fun r w' => r = .returned (.iface 217 (.agg #[])) ∧ Below w.heap.size w w' := by
  have h1 := ta1
  go_enter Tryz.func170, Tryz.ntmps170
  go_wp2
  go_ret
  exact ⟨rfl, by first | exact Below.refl _ _ | exact (Below.refl _ _).alloc (Nat.le_refl _) _ | exact ((Below.refl _ _).alloc (Nat.le_refl _) _).setCell (by simp) _⟩
end Go.Proofs.YtbmhaamenjhjfaaGreatDoor
namespace Go.Proofs.YtbmhaamenjhjfaaGreatDoor
open Go.RowKit Go.WideShapes Go.ChangeShapes
set_option linter.unusedVariables false
def revK (xs : List Int) (k : Nat) : List Int := (List.range xs.length).map fun t => if t < k ∨ xs.length - 1 - t < k then xs.getD (xs.length - 1 - t) 0 else xs.getD t 0
theorem grown_drew {a w : World} {row : Option Nat} (h : a.grownBy w row) : a.grownBy w.drew row := ⟨h.os, h.tape, h.output, h.size, h.block⟩
theorem revK_length (xs : List Int) (k : Nat) : (revK xs k).length = xs.length := by simp [revK]
theorem revK_at (xs : List Int) (k t : Nat) (ht : t < xs.length) : (revK xs k)[t]? = some (if t < k ∨ xs.length - 1 - t < k then xs.getD (xs.length - 1 - t) 0 else xs.getD t 0) := by
  simp [revK, ht]
theorem getD_eq (xs : List Int) (t : Nat) (ht : t < xs.length) : xs[t]? = some (xs.getD t 0) := by simp [List.getD, ht]
theorem revK_zero (xs : List Int) : revK xs 0 = xs := by
  apply List.ext_getElem?
  intro t
  by_cases ht : t < xs.length
  · rw [revK_at xs 0 t ht, if_neg (by omega), getD_eq xs t ht]
  · rw [List.getElem?_eq_none (by rw [revK_length]; omega), List.getElem?_eq_none (by omega)]
theorem revK_mid (xs : List Int) (k : Nat) (hk : k < xs.length - 1 - k) : (revK xs k).getD k 0 = xs.getD k 0 ∧ (revK xs k).getD (xs.length - 1 - k) 0 = xs.getD (xs.length - 1 - k) 0 := by
  constructor
  · rw [List.getD_eq_getElem?_getD, revK_at xs k k (by omega), if_neg (by omega)]; rfl
  · rw [List.getD_eq_getElem?_getD, revK_at xs k _ (by omega), if_neg (by omega)]; rfl
theorem revK_step (xs : List Int) (k : Nat) (hk : k < xs.length - 1 - k) : ((revK xs k).set k (xs.getD (xs.length - 1 - k) 0)).set (xs.length - 1 - k) (xs.getD k 0) = revK xs (k + 1) := by
  apply List.ext_getElem?
  intro t
  by_cases ht : t < xs.length
  · rw [revK_at xs (k + 1) t ht, List.getElem?_set, List.getElem?_set, List.length_set, revK_length, revK_at xs k t ht]
    by_cases h1 : xs.length - 1 - k = t
    · rw [if_pos h1, if_pos (by omega), if_pos (by omega)]
      have : xs.length - 1 - t = k := by omega
      rw [this]
    · rw [if_neg h1]
      by_cases h2 : k = t
      · subst h2
        rw [if_pos rfl, if_pos (by omega), if_pos (by omega)]
      · rw [if_neg h2]
        by_cases h3 : t < k ∨ xs.length - 1 - t < k
        · rw [if_pos h3, if_pos (by omega)]
        · rw [if_neg h3, if_neg (by omega)]
  · rw [List.getElem?_eq_none (by simp [revK_length]; omega), List.getElem?_eq_none (by rw [revK_length]; omega)]
theorem revK_full (xs : List Int) (k : Nat) (hk : ¬ k < xs.length - 1 - k) : revK xs k = xs.reverse := by
  apply List.ext_getElem?
  intro t
  by_cases ht : t < xs.length
  · rw [revK_at xs k t ht, List.getElem?_reverse ht, getD_eq xs _ (by omega)]
    by_cases h : t < k ∨ xs.length - 1 - t < k
    · rw [if_pos h]
    · rw [if_neg h]
      have : xs.length - 1 - t = t := by omega
      rw [this]
  · rw [List.getElem?_eq_none (by rw [revK_length]; omega), List.getElem?_eq_none (by simp; omega)]
end Go.Proofs.YtbmhaamenjhjfaaGreatDoor
namespace Go.Proofs.YtbmhaamenjhjfaaGreatDoor
open Go.RowKit Go.WideShapes Go.ChangeShapes
set_option linter.unusedVariables false
theorem sliceMax_any (u : Value) (ls : List Int) (w : World) (hu : Ints w u ls) (h0 : 1 ≤ ls.length) (h10 : ls.length ≤ 10) (hn : ∀ e, ls.getD e 0 = ((ls.getD e 0).toNat : Int) ∧ (ls.getD e 0).toNat ≤ e) :
    Calls Tryz.prog 232 #[u] w fun r w' => ∃ h : Nat, r = .returned (.int .i64 h) ∧ h + 1 = rkM ls ls.length ∧ h ≤ 9 ∧ w = w' := by
  have HN := hid hn
  have HML := hid (fun k => rkM_le (fun e => (hn e).2) k)
  obtain ⟨A, c, rfl, hA⟩ := hu
  obtain ⟨b, o, rfl, hbl, hc⟩ := hA (by intro h; simp [h] at h0)
  have HC := hid hc
  have hc0 : w.cell? ⟨b, o, none⟩ = some (.int .i64 (ls.getD 0 0)) := by have := hc 0 (by omega); simpa using this
  obtain ⟨hn0, hn1⟩ := hn 0
  obtain ⟨x, hx⟩ : ∃ x, (ls.getD 0 0).toNat = x := ⟨_, rfl⟩
  rw [hx] at hn0 hn1
  rw [hn0] at hc0
  have HX := hid hx
  clear hn hA hc hn0 hx
  go_enter Tryz.func232, Tryz.ntmps232
  go_wp2
  go_loop [3, 4] (fun q i => ∃ k m : Nat, 1 ≤ k ∧ k ≤ ls.length ∧ i = .int .i64 k ∧ q = .int .i64 m ∧ Hid (m + 1 = rkM ls k)) (fun _ i => ls.length - (intOf i).toNat)
  case atStart => exact ⟨1, x, Nat.le_refl _, h0, rfl, rfl, hid (by show x + 1 = max (rkM ls 0) ((ls.getD 0 0).toNat + 1); rw [HX.out]; show _ = max 0 (x + 1); omega)⟩
  case round =>
    obtain ⟨k, m, hk1, hk, rfl, rfl, HM⟩ := hrel
    by_cases hlt : k < ls.length
    · have hcell := HC.out k hlt
      obtain ⟨hn1, hn2⟩ := HN.out k
      have HMd : Hid (rkM ls (k + 1) = max (rkM ls k) ((ls.getD k 0).toNat + 1)) := hid rfl
      obtain ⟨y, hy⟩ : ∃ y, (ls.getD k 0).toNat = y := ⟨_, rfl⟩
      rw [hy] at hn1 hn2 HMd
      rw [hn1] at hcell
      clear hy hn1
      by_cases hmy : (m : Int) < (y : Int)
      · have HNx : Hid (y + 1 = rkM ls (k + 1)) := hid (by rw [HMd.out, ← HM.out]; omega)
        go_wp2
        go_round
        case rel => exact ⟨k + 1, y, by omega, by omega, by go_num, by simp, HNx⟩
        case measure => simp [intOf]; omega
      · have HNx : Hid (m + 1 = rkM ls (k + 1)) := hid (by rw [HMd.out, ← HM.out]; omega)
        go_wp2
        go_round
        case rel => exact ⟨k + 1, m, by omega, by omega, by go_num, by simp, HNx⟩
        case measure => simp [intOf]; omega
    · obtain rfl : k = ls.length := by omega
      have hb := HML.out ls.length
      have he := HM.out
      have h9 : m ≤ 9 := by omega
      clear hb he
      go_wp2
      go_ret
      exact ⟨m, rfl, HM.out, h9, rfl⟩
def ansRO (xs : List Int) : List Int := if okRk xs then rankL xs else []
theorem ansRO_no {xs : List Int} (h : okRk xs = false) : ansRO xs = [] := by simp [ansRO, h]
theorem ansRO_yes {xs : List Int} (h : okRk xs = true) : ansRO xs = rankL xs := by simp [ansRO, h]
theorem ansRO_length (xs : List Int) : (ansRO xs).length ≤ 10 := by
  cases h : okRk xs
  · rw [ansRO_no h]; simp
  · have h1 := rkN_bounds (okRk_good h).1
    have h2 := good_length (okRk_good h).1
    rw [ansRO_yes h, rankL_length]; omega
theorem ret_vbR {u : Value} {a b : Bool} (h : a = b) : Ending.returned (.tuple #[u, .bool a]) = .returned (.tuple #[u, .bool b]) := by rw [h]
set_option maxHeartbeats 1600000 in
theorem implRanksOf_any (v : Value) (xs : List Int) (w : World) (hv : Ints w v xs) (hl : xs.length ≤ 1048576) :
    Calls Tryz.prog 204 #[.agg #[v]] w fun (r : Ending) w' => ∃ q, r = Ending.returned (.tuple #[q, .bool (okRk xs)]) ∧ OwnI 3 w' w.heap.size q (ansRO xs) ∧ (ansRO xs).length ≤ 1048576 ∧ Below w.heap.size w w' := by
  have HV := hid hv
  have HL : Hid ((ansRO xs).length ≤ 1048576) := hid (by have := ansRO_length xs; omega)
  clear hv
  go_enter Tryz.func204, Tryz.ntmps204
  have HB := hid (below_alloc (Below.refl _ w) (.cells #[v] 28))
  have A0 := hid (At.newAt w v 28 w.heap.size (by simp))
  go_wp2_with fail
  refine (implIsRanked_any _ xs _ (HV.out.below HB.out) hl).mono ?_
  rintro e w' ⟨rfl, hb⟩
  replace HB := hid (below_to HB.out hb)
  replace A0 := hid (A0.out.below hb)
  clear hb
  have HAn : Hid (ansIR xs = okRk xs) := hid rfl
  rw [HAn.out]
  cases hq : okRk xs
  · have HQ := hid hq
    clear hq
    have ebox0 := A0.out.1
    go_wp2
    go_ret2
    exact ⟨_, ret_vbR HQ.out.symm, by rw [ansRO_no HQ.out]; exact OwnI.nil _ _ _, HL.out, HB.out⟩
  · have HQ := hid hq
    have HG := hid (okRk_good hq).1
    have hln := good_length HG.out
    clear hq
    have ebox0 := A0.out.1
    go_wp2_with fail
    clear ebox0
    refine (implHeightsOf_any _ xs _ (HV.out.below HB.out) hl).mono ?_
    rintro e w' ⟨u, rfl, ho, hlh, hb⟩
    replace HB := hid (below_to HB.out hb)
    replace A0 := hid (A0.out.below hb)
    clear hb
    have hz := HB.out.size
    have HI := hid ho.ints
    have hlen := heights_len HG.out
    have HN := hid (heights_nat HG.out)
    have HEnd : Hid (rankL xs = rkQ (heightsL xs) xs.length (rkM (heightsL xs) xs.length)) := hid rfl
    obtain ⟨ls, hls⟩ : ∃ ls, heightsL xs = ls := ⟨_, rfl⟩
    rw [hls] at HI HN HEnd hlen
    obtain ⟨A, c, rfl, hA⟩ := HI.out
    have HA := hid hA
    rw [← hlen] at HEnd hln
    clear ho hA hls hlen hlh
    rw [HG.out]
    go_wp2_with fail
    refine (sliceMax_any _ ls _ HI.out hln.1 hln.2 HN.out).mono ?_
    rintro e w2 ⟨h, rfl, hM, h9, rfl⟩
    have HM := hid hM
    have hmk := run_make_row' (P := Tryz.prog) 22 3 (.int .i64 0) 8 Tryz.underlying22 Tryz.info3 rfl .i64 .i64 (h + 1) (by omega) (by omega)
    rw [Int.natCast_add] at hmk
    simp only [Int.cast_ofNat_Int] at hmk
    clear hM HI
    go_wp2
    clear hmk
    rw [Vals_made]
    go_loopw [29] (fun i wr => ∃ k : Nat, k ≤ ls.length ∧ i = .int .i64 k ∧ Blk wr w'.heap.size 3 (Vals (rkQ ls k (h + 1))) ∧ Below w'.heap.size w' wr) (fun i _ => ls.length - (intOf i).toNat)
    case atStart => exact ⟨0, Nat.zero_le _, rfl, by rw [rkQ_zero]; exact Blk.new _ _ _, (Below.refl _ _).alloc (Nat.le_refl _) _⟩
    case round =>
      obtain ⟨k, hk, rfl, hB, hb⟩ := hrel
      have HBk := hid hB
      have HBb := hid hb
      by_cases hlt : k < ls.length
      · obtain ⟨b, o, rfl, hbl, hc⟩ := HA.out (by intro h; simp [h] at hlt)
        have hcell : wr.cell? ⟨b, o + k, none⟩ = some (.int .i64 (ls.getD k 0)) := (hb.cell (p := ⟨b, o + k, none⟩) hbl).trans (hc k hlt)
        obtain ⟨hn1, hn2⟩ := HN.out k
        have hMl := rkM_lt ls hlt
        obtain ⟨x, hx⟩ : ∃ x, (ls.getD k 0).toNat = x := ⟨_, rfl⟩
        rw [hx] at hn1 hn2 hMl
        rw [hn1] at hcell
        rw [← HM.out] at hMl
        have HSet := hid (rkQ_set ls (k := k) (m := h + 1) (i := x) hx hMl)
        have t1 : wr.cell? ⟨w'.heap.size, x, none⟩ = some (.int .i64 (rkE ls k x : Nat)) := by rw [HBk.out.cell, Vals_get (by rw [rkQ_length]; exact hMl), rkQ_get ls k hMl]
        have t2 := HBk.out.frozen x
        have hE := rkE_lt ls (Nat.le_refl k) x
        have hp9 := pow_lt10 k (by omega)
        obtain ⟨E, hEq⟩ : ∃ E, rkE ls k x = E := ⟨_, rfl⟩
        rw [hEq] at t1 hE HSet
        have wp := wrap_pow' k (by omega)
        have hor := or_pow E k (by omega) (by omega)
        have hhm : (x : Int) < (h : Int) + 1 := by omega
        clear hEq hE hp9 hc hx hn1 hB hb hMl
        go_wp2
        go_region
        go_wp2
        go_roundw
        case rel => exact ⟨k + 1, by omega, by go_num, (by rw [← HSet.out, ← Vals_set]; exact HBk.out.set_ x _), (HBb.out.setCell (p := ⟨w'.heap.size, x, none⟩) (Nat.le_refl _) _).drew⟩
        case measure => simp [intOf]; omega
      · obtain rfl : k = ls.length := by omega
        have HOw := hid (HBk.out.own (xs := rkQ ls ls.length (h + 1)) (B := w.heap.size) hz (by rw [rkQ_length]; omega))
        rw [rkQ_length] at HOw
        clear hB hb
        go_wp2
        go_ret2
        exact ⟨_, ret_vbR HQ.out.symm, (by rw [ansRO_yes HQ.out, HEnd.out, ← HM.out]; exact HOw.out), HL.out, below_to HB.out HBb.out⟩
set_option maxHeartbeats 1600000 in
theorem togglesAt_any (v u : Value) (rs ws : List Int) (w : World) (hv : Ints w v rs) (hu : Ints w u ws) (hw : inW rs.length ws = true) (hm : ws.length ≤ 100) (hr10 : rs.length ≤ 10) (hr : ∀ i, i < rs.length → ∃ r : Nat, rs.getD i 0 = (r : Int) ∧ r < 1024) :
    Calls Tryz.prog 233 #[v, u] w fun (r : Ending) w' => ∃ q, r = Ending.returned q ∧ OwnI 3 w' w.heap.size q (rkW rs ws) ∧ Below w.heap.size w w' := by
  have HW := hid hw
  have HR := hid hr
  have HRl := hid (fun k => rkW_length rs (ws.take k))
  obtain ⟨A, c, rfl, hA⟩ := hv
  obtain ⟨A2, c2, rfl, hA2⟩ := hu
  have HA := hid hA
  have HA2 := hid hA2
  clear hw hr hA hA2
  go_enter Tryz.func233, Tryz.ntmps233
  go_wp2
  go_loopw [5, 11] (fun q i wr => ∃ k : Nat, k ≤ ws.length ∧ i = .int .i64 k ∧ OwnI 3 wr w.heap.size q (rkW rs (ws.take k)) ∧ Below w.heap.size w wr) (fun _ i _ => ws.length - (intOf i).toNat)
  case atStart => exact ⟨0, Nat.zero_le _, rfl, OwnI.nil _ _ _, Below.refl _ _⟩
  case round =>
    obtain ⟨k, hk, rfl, ho, hb⟩ := hrel
    have HO := hid ho
    have HB1 := hid hb
    by_cases hlt : k < ws.length
    · obtain ⟨b, o, rfl, hbl, hc⟩ := HA2.out (by intro h; simp [h] at hlt)
      have hcell : wr.cell? ⟨b, o + k, none⟩ = some (.int .i64 (ws.getD k 0)) := (hb.cell (p := ⟨b, o + k, none⟩) hbl).trans (hc k hlt)
      have hin := inW_at HW.out hlt
      have HTk := hid (rkW_take rs ws hlt)
      have hlk := HRl.out k
      rw [List.length_take] at hlk
      obtain ⟨x, hx⟩ : ∃ x, ws.getD k 0 = x := ⟨_, rfl⟩
      rw [hx] at hcell hin HTk
      obtain ⟨i, rfl⟩ := Int.eq_ofNat_of_zero_le hin.1
      have hi1 : i < rs.length := by omega
      obtain ⟨r, hr1, hr2⟩ := HR.out i hi1
      rw [Int.toNat_natCast, hr1, Int.toNat_natCast] at HTk
      obtain ⟨b2, o2, rfl, hbl2, hc2⟩ := HA.out (by intro h; simp [h] at hi1)
      have hcr : w.cell? ⟨b2, o2 + i, none⟩ = some (.int .i64 r) := by rw [hc2 i hi1, hr1]
      have HCr := hid hcr
      have hix : (i : Int) < rs.length := by omega
      obtain ⟨P, hP⟩ : ∃ P, rkW rs (ws.take k) = P := ⟨_, rfl⟩
      rw [hP] at HO HTk hlk
      have hP2 : P.length ≤ 1000 := by omega
      clear hc hc2 hx ho hb hin hr1 hP hcr hlk
      go_wp2
      go_loopw [5, 15] (fun q j wi => ∃ t : Nat, t ≤ 10 ∧ j = .int .i64 t ∧ OwnI 3 wi w.heap.size q (P ++ elL t r) ∧ Below w.heap.size w wi) (fun _ j _ => 10 - (intOf j).toNat)
      case atStart => exact ⟨0, Nat.zero_le _, rfl, (by rw [elL_zero, List.append_nil]; exact HO.out), HB1.out⟩
      case round =>
        obtain ⟨t, ht, rfl, ho, hb⟩ := hrel
        have HO2 := hid ho
        have HB2 := hid hb
        have hz2 := hb.size
        have hcr : wr.cell? ⟨b2, o2 + i, none⟩ = some (.int .i64 r) := (hb.cell (p := ⟨b2, o2 + i, none⟩) hbl2).trans HCr.out
        clear ho hb
        by_cases ht10 : t < 10
        · cases hbit : r.testBit t
          · have HBit := hid hbit
            clear hbit
            go_wp2_with (go_at_call 165; refine (hasElement_any r t (by omega) (by omega) _).mono ?_; rw [HBit.out]; rintro e w' ⟨rfl, rfl⟩)
            go_roundw
            case rel => exact ⟨t + 1, by omega, by go_num, (by rw [elL_no HBit.out]; exact HO2.out), HB2.out⟩
            case measure => simp [intOf]; omega
          · have HBit := hid hbit
            have hl48 : (P ++ elL t r).length < 1048576 := by rw [List.length_append]; have := elL_length t r; omega
            clear hbit
            go_wp2_with (first
              | (go_at_call 165; refine (hasElement_any r t (by omega) (by omega) _).mono ?_; rw [HBit.out]; rintro e w' ⟨rfl, rfl⟩)
              | (at_builtin; refine wpList_append_int rfl _ _ 216 3 rfl Tryz.underlying216 Tryz.info3 w.heap.size _ _ t rfl HO2.out rfl rfl hl48 hz2 ?_; rintro q2 w6 ho6 hb6))
            go_roundw
            case rel => exact ⟨t + 1, by omega, by go_num, (by rw [elL_yes HBit.out, ← List.append_assoc]; exact ho6), HB2.out.trans hb6⟩
            case measure => simp [intOf]; omega
        · obtain rfl : t = 10 := by omega
          go_wp2
          go_roundw
          case rel => exact ⟨k + 1, by omega, by go_num, (by rw [HTk.out]; exact HO2.out), HB2.out⟩
          case measure => simp [intOf]; omega
    · obtain rfl : k = ws.length := by omega
      clear ho hb
      rw [List.take_length] at HO
      go_wp2
      go_ret
      exact ⟨_, rfl, HO.out, HB1.out⟩
end Go.Proofs.YtbmhaamenjhjfaaGreatDoor
namespace Go.Proofs.YtbmhaamenjhjfaaGreatDoor
open Go.RowKit Go.WideShapes Go.ChangeShapes
set_option linter.unusedVariables false
set_option maxHeartbeats 1600000 in
theorem reverseI_any (v : Value) (xs : List Int) (B : Nat) (w : World) (hv : OwnI 3 w B v xs) (hl : xs.length ≤ 1048576) :
    Calls Tryz.prog 235 #[v] w fun r w' => r = .returned (.tuple #[]) ∧ OwnI 3 w' B v xs.reverse ∧ w.grownBy w' v.ownBlock := by
  have HO := hid hv
  obtain ⟨A, c, rfl, hA⟩ := hv.shape
  have HA := hid hA
  clear hA hv
  go_enter Tryz.func235, Tryz.ntmps235
  go_wp2
  go_loopw [2, 3] (fun i j wr => ∃ (k : Nat) (x : Int), i = .int .i64 k ∧ j = .int .i64 x ∧ k ≤ xs.length ∧ x + k + 1 = xs.length ∧ wr.ownsRow B 3 1 (.slice A xs.length c) xs.length ((revK xs k).map (Value.int .i64)) ∧ w.grownBy wr (Value.slice A xs.length c).ownBlock) (fun i _ _ => xs.length - (intOf i).toNat)
  case atStart => exact ⟨0, (xs.length : Int) - 1, rfl, rfl, Nat.zero_le _, by omega, by rw [revK_zero]; exact HO.out, World.grownBy.refl _ _⟩
  case round =>
    obtain ⟨k, x, rfl, rfl, hk, hx, ho, hg⟩ := hrel
    by_cases hlt : (k : Int) < x
    · obtain ⟨m, rfl⟩ := Int.eq_ofNat_of_zero_le (show 0 ≤ x by omega)
      obtain ⟨g, rfl, hgl, hgB⟩ := HA.out (by intro h; simp [h] at hx; omega)
      have hm : xs.length - 1 - k = m := by omega
      obtain ⟨h1, h2⟩ := revK_mid xs k (by omega)
      have h3 := revK_step xs k (by omega)
      rw [hm] at h2 h3
      have hck : wr.cell? ⟨g, k, none⟩ = some (.int .i64 (xs.getD k 0)) := by
        rw [ho.cellAt k (by omega), List.getElem?_map, getD_eq (revK xs k) k (by rw [revK_length]; omega), h1]; rfl
      have hcm : wr.cell? ⟨g, m, none⟩ = some (.int .i64 (xs.getD m 0)) := by
        rw [ho.cellAt m (by omega), List.getElem?_map, getD_eq (revK xs k) m (by rw [revK_length]; omega), h2]; rfl
      have hfk := ho.frozenAt k
      have hfm := ho.frozenAt m
      obtain ⟨p, hp⟩ : ∃ p, xs.getD k 0 = p := ⟨_, rfl⟩
      obtain ⟨q, hq⟩ : ∃ q, xs.getD m 0 = q := ⟨_, rfl⟩
      rw [hp, hq] at h3
      rw [hp] at hck
      rw [hq] at hcm
      have H3 := hid h3
      have Ho := hid ho
      have Hg := hid hg
      have hm1 : m < xs.length := by omega
      have hk1 : k < xs.length := by omega
      have hkm : k < m := by omega
      have HX := hid hx
      clear hp hq h1 h2 h3 ho hg hm hx
      go_wp2_with fail
      go_region
      go_wp2
      go_roundw
      case rel => exact ⟨k + 1, (m : Int) - 1, by go_num, rfl, by omega, by have := HX.out; omega, (by rw [← H3.out, List.map_set, List.map_set]; exact ((Ho.out.stored k (.int .i64 q)).1.stored m (.int .i64 p)).1), grown_drew (grown_setCell (grown_setCell Hg.out k _) m _)⟩
      case measure => simp [intOf]; omega
    · have hr := hid (revK_full xs k (by omega))
      have Ho := hid ho
      have Hg := hid hg
      clear ho hg
      go_wp2
      go_end0
      refine ⟨rfl, ?_, Hg.out⟩
      unfold OwnI
      rw [List.length_reverse, ← hr.out]
      exact Ho.out
end Go.Proofs.YtbmhaamenjhjfaaGreatDoor
