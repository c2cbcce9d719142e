/- Rowmotion and its way back: the model's and the program's contracts. · The motion that leads back. · Words backwards: slices.Clone and slices.Reverse at the words of toggles; the motion that leads back. -/
import Derived.Test.YtkalpichninncabTg2
import Derived.Test.YtkalpichninncabLaw
import Derived.Test.YtkalpichninncabApi
import Derived.Lib.SliceRun
import Derived.RegionTactic
namespace Go.Proofs.Ytkalpichninncab
open Go.RowKit Go.WideShapes Go.ChangeShapes
set_option linter.unusedVariables false

theorem rowStep_any (v : Value) (xs : List Int) (s : Nat) (w : World) (hv : Ints w v xs) (hg : good xs = true) (hs : s < 2 ^ xs.length) :
    Calls Try.prog 131 #[.agg #[], .agg #[v], .int .i64 s] w fun r w' => r = .returned (.int .i64 (rowmo xs s : Nat)) ∧ Below w.heap.size w w' := by
  have hl10 := (good_length hg).2
  have hs10 := lt1024 hs hl10
  have HG := hid hg
  obtain ⟨A, c, rfl, hA⟩ := hv
  have HA := hid hA
  clear hA hg hs
  go_enter Try.func131, Try.ntmps131
  go_wp2
  go_loop [7, 13] (fun q i => ∃ k t : Nat, k ≤ xs.length ∧ i = .int .i64 k ∧ q = .int .i64 t ∧ Hid (orN (rowP xs s) (rowG xs) k = t)) (fun _ i => xs.length - (intOf i).toNat)
  case atStart => exact ⟨0, 0, Nat.zero_le _, rfl, rfl, hid rfl⟩
  case round =>
    obtain ⟨k, t, hk, rfl, rfl, HT⟩ := hrel
    by_cases hlt : k < xs.length
    · obtain ⟨b, o, rfl, hb, hc⟩ := HA.out (by intro h; simp [h] at hlt)
      have hcell := hc k hlt
      have hr := row_lt HG.out hlt
      have hr10 := row_lt10 HG.out hlt
      obtain ⟨z, hz⟩ : ∃ z, row xs k = z := ⟨_, rfl⟩
      rw [hz] at hr hr10
      rw [hr.1] at hcell
      have HZ := hid hz
      clear hc hr hz
      cases hbit : s.testBit k
      · have HBit := hid hbit
        have han := i64_andNot_nat z s (by omega) (by omega)
        clear hbit
        by_cases h0 : sub z s = 0
        · have h0' : (((sub z s : Nat) : Int) == 0) = true := by rw [h0]; rfl
          have HP : Hid (rowP xs s k = true) := hid (by simp [rowP, HBit.out, HZ.out, h0])
          have ht10 := lt1024 (Nat.lt_of_le_of_lt (Nat.le_of_eq HT.out.symm) (rowmoN_lt HG.out s hk)) hl10
          have HN : Hid (orN (rowP xs s) (rowG xs) (k + 1) = t ||| (2 ^ k ||| z)) := hid (by rw [orN_yes HP.out, HT.out, rowG, HZ.out])
          have wp := wrap_pow' k (by omega)
          have hp1 := Nat.pow_lt_pow_right (a := 2) (by decide) (show k < 10 by omega)
          have hg10 : 2 ^ k ||| z < 1024 := Nat.or_lt_two_pow (n := 10) hp1 hr10
          have hor := pow_or z k hr10 (by omega)
          have hor2 := i64_or_nat t (2 ^ k ||| z) (by omega) (by omega)
          clear h0 hp1
          go_wp2_with (go_at_call 50; refine (hasElement_any s k (by omega) (by omega) _).mono ?_; rw [HBit.out]; rintro e w' ⟨rfl, rfl⟩)
          go_round
          case rel => exact ⟨k + 1, _, by omega, by go_num, rfl, hid (by rw [HN.out])⟩
          case measure => simp [intOf]; omega
        · have h0' : (((sub z s : Nat) : Int) == 0) = false := by rw [beq_eq_false_iff_ne]; omega
          have HP : Hid (rowP xs s k = false) := hid (by simp [rowP, HBit.out, HZ.out, h0])
          clear h0
          go_wp2_with (go_at_call 50; refine (hasElement_any s k (by omega) (by omega) _).mono ?_; rw [HBit.out]; rintro e w' ⟨rfl, rfl⟩)
          go_round
          case rel => exact ⟨k + 1, t, by omega, by go_num, rfl, hid (by rw [orN_no HP.out, HT.out])⟩
          case measure => simp [intOf]; omega
      · have HBit := hid hbit
        have HP : Hid (rowP xs s k = false) := hid (by simp [rowP, hbit])
        clear hbit
        go_wp2_with (go_at_call 50; refine (hasElement_any s k (by omega) (by omega) _).mono ?_; rw [HBit.out]; rintro e w' ⟨rfl, rfl⟩)
        go_round
        case rel => exact ⟨k + 1, t, by omega, by go_num, rfl, hid (by rw [orN_no HP.out, HT.out])⟩
        case measure => simp [intOf]; omega
    · obtain rfl : k = xs.length := by omega
      go_wp2
      go_ret
      exact ⟨ret_int (by rw [← HT.out]; rfl), ((Below.refl _ _).alloc (Nat.le_refl _) _).alloc (by simp) _⟩
theorem backStep_any (v : Value) (xs : List Int) (s : Nat) (w : World) (hv : Ints w v xs) (hg : good xs = true) (hs : s < 2 ^ xs.length) :
    Calls Try.prog 132 #[.agg #[], .agg #[v], .int .i64 s] w fun r w' => r = .returned (.int .i64 (rowba xs s : Nat)) ∧ Below w.heap.size w w' := by
  have hl10 := (good_length hg).2
  have hs10 := lt1024 hs hl10
  have HG := hid hg
  have HS := hid (good_small hg s)
  have HV := hid hv
  obtain ⟨A, c, rfl, hA⟩ := hv
  have HA := hid hA
  have hT10 : top xs s < 1024 := Nat.lt_of_le_of_lt (sub_le _ _) hs10
  clear hA hg hs
  go_enter Try.func132, Try.ntmps132
  go_wp2_with fail
  refine (top_any _ xs s _ ((HV.out.alloc _).alloc _) hl10 hs10 HS.out).mono ?_
  rintro e w1 ⟨rfl, hb1⟩
  have HB := hid (below_to (below_alloc (below_alloc (Below.refl _ w) _) _) hb1)
  have hbox : w1.cell? ⟨w.heap.size + 1, 0, none⟩ = some (.slice A xs.length c) := ((At.newAt (w.alloc (.cells #[] 101)) (.slice A xs.length c) 28 (w.heap.size + 1) (by simp)).below hb1).1
  clear hb1
  obtain ⟨T, hT⟩ : ∃ T, top xs s = T := ⟨_, rfl⟩
  rw [hT] at hT10 ⊢
  have HTop := hid hT
  clear hT
  go_wp2
  go_loop [8, 17] (fun q i => ∃ k t : Nat, k ≤ xs.length ∧ i = .int .i64 k ∧ q = .int .i64 t ∧ Hid (orN (backP xs T) (fun e => 2 ^ e) k = t)) (fun _ i => xs.length - (intOf i).toNat)
  case atStart => exact ⟨0, 0, Nat.zero_le _, rfl, rfl, hid rfl⟩
  case round =>
    obtain ⟨k, t, hk, rfl, rfl, HT⟩ := hrel
    by_cases hlt : k < xs.length
    · obtain ⟨b, o, rfl, hb, hc⟩ := HA.out (by intro h; simp [h] at hlt)
      have hcell : w1.cell? ⟨b, o + k, none⟩ = some (.int .i64 (xs.getD k 0)) := (HB.out.cell (p := ⟨b, o + k, none⟩) hb).trans (hc k hlt)
      have hr := row_lt HG.out hlt
      have hr10 := row_lt10 HG.out hlt
      obtain ⟨z, hz⟩ : ∃ z, row xs k = z := ⟨_, rfl⟩
      rw [hz] at hr hr10
      rw [hr.1] at hcell
      have HZ := hid hz
      clear hc hr hz
      cases hbit : T.testBit k
      · have HBit := hid hbit
        have han := i64_and_nat z T (by omega) (by omega)
        clear hbit
        by_cases h0 : z &&& T = 0
        · have h0' : (((z &&& T : Nat) : Int) == 0) = true := by rw [h0]; rfl
          have HP : Hid (backP xs T k = true) := hid (by simp [backP, HBit.out, HZ.out, h0])
          have ht10 := lt1024 (Nat.lt_of_le_of_lt (Nat.le_of_eq HT.out.symm) (rowbaN_lt xs T hk)) hl10
          have HN : Hid (orN (backP xs T) (fun e => 2 ^ e) (k + 1) = t ||| 2 ^ k) := hid (by rw [orN_yes HP.out, HT.out])
          have wp := wrap_pow' k (by omega)
          have hor := or_pow t k ht10 (by omega)
          clear h0
          go_wp2_with (go_at_call 50; refine (hasElement_any T k (by omega) (by omega) _).mono ?_; rw [HBit.out]; rintro e w' ⟨rfl, rfl⟩)
          go_round
          case rel => exact ⟨k + 1, _, by omega, by go_num, rfl, hid (by rw [HN.out])⟩
          case measure => simp [intOf]; omega
        · have h0' : (((z &&& T : Nat) : Int) == 0) = false := by rw [beq_eq_false_iff_ne]; omega
          have HP : Hid (backP xs T k = false) := hid (by simp [backP, HBit.out, HZ.out, h0])
          clear h0
          go_wp2_with (go_at_call 50; refine (hasElement_any T k (by omega) (by omega) _).mono ?_; rw [HBit.out]; rintro e w' ⟨rfl, rfl⟩)
          go_round
          case rel => exact ⟨k + 1, t, by omega, by go_num, rfl, hid (by rw [orN_no HP.out, HT.out])⟩
          case measure => simp [intOf]; omega
      · have HBit := hid hbit
        have HP : Hid (backP xs T k = false) := hid (by simp [backP, hbit])
        clear hbit
        go_wp2_with (go_at_call 50; refine (hasElement_any T k (by omega) (by omega) _).mono ?_; rw [HBit.out]; rintro e w' ⟨rfl, rfl⟩)
        go_round
        case rel => exact ⟨k + 1, t, by omega, by go_num, rfl, hid (by rw [orN_no HP.out, HT.out])⟩
        case measure => simp [intOf]; omega
    · obtain rfl : k = xs.length := by omega
      go_wp2
      go_ret
      exact ⟨ret_int (by rw [← HT.out, ← HTop.out]; rfl), HB.out⟩
set_option maxHeartbeats 400000 in
theorem repeatedRow_any (v : Value) (xs : List Int) (s n : Nat) (w : World) (hv : Ints w v xs) (hg : good xs = true) (hs : s < 2 ^ xs.length) (hn : n ≤ 1000) :
    Calls Try.prog 96 #[.agg #[v], .int .i64 s, .iface 76 (.agg #[]), .int .i64 n] w fun r w' => r = .returned (.int .i64 (iter (rowmo xs) n s : Nat)) ∧ Below w.heap.size w w' := by
  have HV := hid hv
  have HG := hid hg
  have HS := hid hs
  have HL := hid (fun k => iter_lt (f := rowmo xs) (m := 2 ^ xs.length) (fun s _ => rowmo_lt hg s) hs k)
  clear hv hg hs
  go_enter Try.func96, Try.ntmps96
  have HB := hid (below_alloc (Below.refl _ w) (.cells #[v] 28))
  have A0 := hid (At.newAt w v 28 w.heap.size (by simp))
  go_wp2
  go_loopw [1, 10] (fun q i wr => ∃ k t : Nat, k ≤ n ∧ i = .int .i64 k ∧ q = .int .i64 t ∧ Hid (iter (rowmo xs) k s = t) ∧ Below w.heap.size w wr ∧ At wr w.heap.size v) (fun _ i _ => n - (intOf i).toNat)
  case atStart => exact ⟨0, s, Nat.zero_le _, rfl, rfl, hid rfl, HB.out, A0.out⟩
  case round =>
    obtain ⟨k, t, hk, rfl, rfl, HT, hb, ha⟩ := hrel
    have hbox := ha.1
    have HB1 := hid hb
    have HA1 := hid ha
    clear hb ha
    by_cases hlt : k < n
    · have ht : t < 2 ^ xs.length := by rw [← HT.out]; exact HL.out k
      have HT2 := hid ht
      clear ht
      go_wp2_with fail
      clear hbox
      refine (rowStep_any _ xs t _ (HV.out.below HB1.out) HG.out HT2.out).mono ?_
      rintro e' w' ⟨rfl, hb⟩
      have HB2 := hid (below_to HB1.out hb)
      have HA2 := hid (HA1.out.below hb)
      clear hb
      go_wp2
      go_roundw
      case rel => exact ⟨k + 1, _, by omega, by go_num, rfl, hid (by rw [iter, HT.out]), HB2.out, HA2.out⟩
      case measure => simp [intOf]; omega
    · obtain rfl : k = n := by omega
      go_wp2
      go_ret
      exact ⟨ret_int (by rw [← HT.out]), HB1.out⟩
set_option maxHeartbeats 400000 in
theorem repeatedBack_any (v : Value) (xs : List Int) (s n : Nat) (w : World) (hv : Ints w v xs) (hg : good xs = true) (hs : s < 2 ^ xs.length) (hn : n ≤ 1000) :
    Calls Try.prog 96 #[.agg #[v], .int .i64 s, .iface 101 (.agg #[]), .int .i64 n] w fun r w' => r = .returned (.int .i64 (iter (rowba xs) n s : Nat)) ∧ Below w.heap.size w w' := by
  have HV := hid hv
  have HG := hid hg
  have HS := hid hs
  have HL := hid (fun k => iter_lt (f := rowba xs) (m := 2 ^ xs.length) (fun s _ => rowba_lt xs s) hs k)
  clear hv hg hs
  go_enter Try.func96, Try.ntmps96
  have HB := hid (below_alloc (Below.refl _ w) (.cells #[v] 28))
  have A0 := hid (At.newAt w v 28 w.heap.size (by simp))
  go_wp2
  go_loopw [1, 10] (fun q i wr => ∃ k t : Nat, k ≤ n ∧ i = .int .i64 k ∧ q = .int .i64 t ∧ Hid (iter (rowba xs) k s = t) ∧ Below w.heap.size w wr ∧ At wr w.heap.size v) (fun _ i _ => n - (intOf i).toNat)
  case atStart => exact ⟨0, s, Nat.zero_le _, rfl, rfl, hid rfl, HB.out, A0.out⟩
  case round =>
    obtain ⟨k, t, hk, rfl, rfl, HT, hb, ha⟩ := hrel
    have hbox := ha.1
    have HB1 := hid hb
    have HA1 := hid ha
    clear hb ha
    by_cases hlt : k < n
    · have ht : t < 2 ^ xs.length := by rw [← HT.out]; exact HL.out k
      have HT2 := hid ht
      clear ht
      go_wp2_with fail
      clear hbox
      refine (backStep_any _ xs t _ (HV.out.below HB1.out) HG.out HT2.out).mono ?_
      rintro e' w' ⟨rfl, hb⟩
      have HB2 := hid (below_to HB1.out hb)
      have HA2 := hid (HA1.out.below hb)
      clear hb
      go_wp2
      go_roundw
      case rel => exact ⟨k + 1, _, by omega, by go_num, rfl, hid (by rw [iter, HT.out]), HB2.out, HA2.out⟩
      case measure => simp [intOf]; omega
    · obtain rfl : k = n := by omega
      go_wp2
      go_ret
      exact ⟨ret_int (by rw [← HT.out]), HB1.out⟩
set_option maxHeartbeats 400000 in
theorem repeatedWord_any (v : Value) (xs : List Int) (u : Value) (ys : List Int) (s n : Nat) (w : World) (hv : Ints w v xs) (hg : good xs = true) (hs : s < 2 ^ xs.length) (hn : n ≤ 1000) (hu : Ints w u ys) (hy : inW xs.length ys = true) (hm : ys.length ≤ 1048576) :
    Calls Try.prog 96 #[.agg #[v], .int .i64 s, .iface 50 u, .int .i64 n] w fun r w' => r = .returned (.int .i64 (iter (fun s => togW xs s ys) n s : Nat)) ∧ Below w.heap.size w w' := by
  have HV := hid hv
  have HG := hid hg
  have HS := hid hs
  have HL := hid (fun k => iter_lt (f := fun s => togW xs s ys) (m := 2 ^ xs.length) (fun s h => togW_lt h hy) hs k)
  have HU := hid hu
  have HY := hid hy
  clear hu hy hv hg hs
  go_enter Try.func96, Try.ntmps96
  have HB := hid (below_alloc (Below.refl _ w) (.cells #[v] 28))
  have A0 := hid (At.newAt w v 28 w.heap.size (by simp))
  go_wp2
  go_loopw [1, 10] (fun q i wr => ∃ k t : Nat, k ≤ n ∧ i = .int .i64 k ∧ q = .int .i64 t ∧ Hid (iter (fun s => togW xs s ys) k s = t) ∧ Below w.heap.size w wr ∧ At wr w.heap.size v) (fun _ i _ => n - (intOf i).toNat)
  case atStart => exact ⟨0, s, Nat.zero_le _, rfl, rfl, hid rfl, HB.out, A0.out⟩
  case round =>
    obtain ⟨k, t, hk, rfl, rfl, HT, hb, ha⟩ := hrel
    have hbox := ha.1
    have HB1 := hid hb
    have HA1 := hid ha
    clear hb ha
    by_cases hlt : k < n
    · have ht : t < 2 ^ xs.length := by rw [← HT.out]; exact HL.out k
      have HT2 := hid ht
      clear ht
      go_wp2_with fail
      clear hbox
      refine (step_any _ _ xs ys t _ (HV.out.below HB1.out) (HU.out.below HB1.out) HG.out HT2.out HY.out hm).mono ?_
      rintro e' w' ⟨rfl, hb⟩
      have HB2 := hid (below_to HB1.out hb)
      have HA2 := hid (HA1.out.below hb)
      clear hb
      go_wp2
      go_roundw
      case rel => exact ⟨k + 1, _, by omega, by go_num, rfl, hid (by rw [iter, HT.out]), HB2.out, HA2.out⟩
      case measure => simp [intOf]; omega
    · obtain rfl : k = n := by omega
      go_wp2
      go_ret
      exact ⟨ret_int (by rw [← HT.out]), HB1.out⟩

theorem compl_bits (n s N : Nat) (hn : n ≤ 10) (hs : s < 1024) (hN : 2 ^ n = N) : bits .andNot .i64 ((N : Int) - 1) (s : Int) = ((compl n s : Nat) : Int) := by
  have hp := two_pow_le n hn
  have e : ((N : Int) - 1) = ((N - 1 : Nat) : Int) := by omega
  rw [e, i64_andNot_nat _ _ (by omega) (by omega)]
  unfold compl
  rw [hN]
theorem tgRow_any (v : Value) (xs : List Int) (s : Nat) (w : World) (hv : Ints w v xs) (hg : good xs = true) (hs : s < 2 ^ xs.length) :
    Calls Try.prog 111 #[.agg #[v], .int .i64 s] w fun r w' => r = .returned (.int .i64 (rowmo xs s : Nat)) ∧ Below w.heap.size w w' := by
  have hl10 := (good_length hg).2
  have hs10 := lt1024 hs hl10
  have HV := hid hv
  have HR := hid (rowmo_spec hg s)
  have HS := hid (good_small hg)
  have hc10 := lt1024 (compl_lt xs.length s) hl10
  obtain ⟨A, c, rfl, -⟩ := hv
  obtain ⟨N, hN⟩ : ∃ N, 2 ^ xs.length = N := ⟨_, rfl⟩
  have wp : wrap64 ((2 : Int) ^ xs.length) = (N : Int) := by rw [wrap_pow xs.length hl10, hN]
  have hN1 := two_pow_le xs.length hl10
  rw [hN] at hN1
  have han := compl_bits xs.length s N hl10 hs10 hN
  obtain ⟨z, hz⟩ : ∃ z, compl xs.length s = z := ⟨_, rfl⟩
  rw [hz] at han hc10
  have HZ := hid hz
  have hbl : bottom xs z < 1024 := bottomN_lt xs z xs.length hl10
  clear hg hs hN hz
  go_enter Try.func111, Try.ntmps111
  have HB := hid (below_alloc (Below.refl _ w) (.cells #[(.slice A xs.length c)] 28))
  have A0 := hid (At.newAt w (.slice A xs.length c) 28 w.heap.size (by simp))
  go_wp2
  clear wp
  have hbx0 := A0.out.1
  go_region_with (first | (go_at_call 114; refine (poBottom_any _ xs z _ (HV.out.below HB.out).drew hl10 hc10 (HS.out z)).mono ?_; rintro e w1 ⟨rfl, hb1⟩; have H1 := hid (below_to HB.out.drew hb1); have hbx := (A0.out.drew.below hb1).1; clear hb1) | (go_at_call 113; refine (poDown_any _ xs (bottom xs z) _ (HV.out.below H1.out) hl10 hbl (HS.out _)).mono ?_; rintro e w2 ⟨rfl, hb2⟩; have H2 := hid (below_to H1.out hb2); clear hb2))
  all_goals go_wp2
  all_goals go_ret
  all_goals exact ⟨ret_int (by rw [← HR.out, HZ.out]), H2.out⟩
end Go.Proofs.Ytkalpichninncab
namespace Go.Proofs.Ytkalpichninncab
open Go.RowKit Go.WideShapes Go.ChangeShapes
set_option linter.unusedVariables false

theorem ta1 (w : World) : (Instr.typeAssert (.iface 76 (.agg #[])) 66 76 true).run Try.prog w = .ok (.tuple #[.agg #[], .bool true]) w := by kernel_rfl
theorem ta2 (A : Option Addr) (n c : Nat) (w : World) : (Instr.typeAssert (.iface 50 (.slice A n c)) 66 76 true).run Try.prog w = .ok (.tuple #[.agg #[], .bool false]) w := by kernel_rfl
theorem ta3 (A : Option Addr) (n c : Nat) (w : World) : (Instr.typeAssert (.iface 50 (.slice A n c)) 66 50 true).run Try.prog w = .ok (.tuple #[.slice A n c, .bool true]) w := by kernel_rfl
theorem undoneRow_any (w : World) : Calls Try.prog 97 #[.iface 76 (.agg #[])] w fun r w' => r = .returned (.iface 101 (.agg #[])) ∧ Below w.heap.size w w' := by
  have h1 := ta1
  go_enter Try.func97, Try.ntmps97
  go_wp2
  go_ret
  exact ⟨rfl, by first | exact Below.refl _ _ | exact (Below.refl _ _).alloc (Nat.le_refl _) _ | exact ((Below.refl _ _).alloc (Nat.le_refl _) _).setCell (by simp) _⟩
end Go.Proofs.Ytkalpichninncab
namespace Go.Proofs.Ytkalpichninncab
open Go.RowKit Go.WideShapes Go.ChangeShapes
set_option linter.unusedVariables false

theorem cloneWord_any (v : Value) (xs : List Int) (w : World) (hv : Ints w v xs) (hl : xs.length ≤ 1048576) :
    Calls Try.prog 109 #[v] w fun (r : Ending) w' => ∃ u, r = Ending.returned u ∧ OwnI 3 w' w.heap.size u xs ∧ Below w.heap.size w w' := by
  have HV := hid hv
  obtain ⟨A, c, rfl, hA⟩ := hv
  have HA := hid hA
  clear hA
  have qT : ∀ (w : World) (a : Option Addr) (n c n' c' : Nat), (binOp .eql 50 (.slice a n c) (.slice none n' c')).run Try.prog w = .ok (.bool a.isNone) w := fun w a n c n' c' => Lib.run_eql_slice_nil w _ _ a n c n' c' Try.underlying50
  rcases A with _ | ⟨b, o, pt⟩
  · by_cases hx : xs = []
    · subst hx
      go_enter Try.func109, Try.ntmps109
      go_wp2
      go_ret
      exact ⟨_, rfl, OwnI.nil _ _ _, Below.refl _ _⟩
    · obtain ⟨b, o, h, -⟩ := HA.out hx
      cases h
  · skip
    go_enter Try.func109, Try.ntmps109
    go_wp2_with (at_builtin; refine wpList_append_ints rfl _ _ 50 3 rfl Try.underlying50 Try.info3 w.heap.size _ [] rfl (OwnI.empty 3 w) _ xs rfl (HV.out.alloc _) (by simpa using hl) (by simp) ?_; rintro u w1 ho hb)
    go_ret
    exact ⟨_, rfl, by simpa using ho, (below_alloc (Below.refl _ w) _).trans hb⟩

/-! ### the first k pairs exchanged -/
def revK (xs : List Int) (k : Nat) : List Int := (List.range xs.length).map fun t => if t < k ∨ xs.length - 1 - t < k then xs.getD (xs.length - 1 - t) 0 else xs.getD t 0
theorem grown_drew {a w : World} {row : Option Nat} (h : a.grownBy w row) : a.grownBy w.drew row := ⟨h.os, h.tape, h.output, h.size, h.block⟩
theorem revK_length (xs : List Int) (k : Nat) : (revK xs k).length = xs.length := by simp [revK]
theorem revK_at (xs : List Int) (k t : Nat) (ht : t < xs.length) : (revK xs k)[t]? = some (if t < k ∨ xs.length - 1 - t < k then xs.getD (xs.length - 1 - t) 0 else xs.getD t 0) := by
  simp [revK, ht]
theorem getD_eq (xs : List Int) (t : Nat) (ht : t < xs.length) : xs[t]? = some (xs.getD t 0) := by simp [List.getD, ht]
theorem revK_zero (xs : List Int) : revK xs 0 = xs := by
  apply List.ext_getElem?
  intro t
  by_cases ht : t < xs.length
  · rw [revK_at xs 0 t ht, if_neg (by omega), getD_eq xs t ht]
  · rw [List.getElem?_eq_none (by rw [revK_length]; omega), List.getElem?_eq_none (by omega)]
theorem revK_mid (xs : List Int) (k : Nat) (hk : k < xs.length - 1 - k) : (revK xs k).getD k 0 = xs.getD k 0 ∧ (revK xs k).getD (xs.length - 1 - k) 0 = xs.getD (xs.length - 1 - k) 0 := by
  constructor
  · rw [List.getD_eq_getElem?_getD, revK_at xs k k (by omega), if_neg (by omega)]; rfl
  · rw [List.getD_eq_getElem?_getD, revK_at xs k _ (by omega), if_neg (by omega)]; rfl
theorem revK_step (xs : List Int) (k : Nat) (hk : k < xs.length - 1 - k) : ((revK xs k).set k (xs.getD (xs.length - 1 - k) 0)).set (xs.length - 1 - k) (xs.getD k 0) = revK xs (k + 1) := by
  apply List.ext_getElem?
  intro t
  by_cases ht : t < xs.length
  · rw [revK_at xs (k + 1) t ht, List.getElem?_set, List.getElem?_set, List.length_set, revK_length, revK_at xs k t ht]
    by_cases h1 : xs.length - 1 - k = t
    · rw [if_pos h1, if_pos (by omega), if_pos (by omega)]
      have : xs.length - 1 - t = k := by omega
      rw [this]
    · rw [if_neg h1]
      by_cases h2 : k = t
      · subst h2
        rw [if_pos rfl, if_pos (by omega), if_pos (by omega)]
      · rw [if_neg h2]
        by_cases h3 : t < k ∨ xs.length - 1 - t < k
        · rw [if_pos h3, if_pos (by omega)]
        · rw [if_neg h3, if_neg (by omega)]
  · rw [List.getElem?_eq_none (by simp [revK_length]; omega), List.getElem?_eq_none (by rw [revK_length]; omega)]
theorem revK_full (xs : List Int) (k : Nat) (hk : ¬ k < xs.length - 1 - k) : revK xs k = xs.reverse := by
  apply List.ext_getElem?
  intro t
  by_cases ht : t < xs.length
  · rw [revK_at xs k t ht, List.getElem?_reverse ht, getD_eq xs _ (by omega)]
    by_cases h : t < k ∨ xs.length - 1 - t < k
    · rw [if_pos h]
    · rw [if_neg h]
      have : xs.length - 1 - t = t := by omega
      rw [this]
  · rw [List.getElem?_eq_none (by rw [revK_length]; omega), List.getElem?_eq_none (by simp; omega)]
set_option maxHeartbeats 1600000 in
theorem reverseWord_any (v : Value) (xs : List Int) (B : Nat) (w : World) (hv : OwnI 3 w B v xs) (hl : xs.length ≤ 1048576) :
    Calls Try.prog 110 #[v] w fun r w' => r = .returned (.tuple #[]) ∧ OwnI 3 w' B v xs.reverse ∧ w.grownBy w' v.ownBlock := by
  have HO := hid hv
  obtain ⟨A, c, rfl, hA⟩ := hv.shape
  have HA := hid hA
  clear hA hv
  go_enter Try.func110, Try.ntmps110
  go_wp2
  go_loopw [2, 3] (fun i j wr => ∃ (k : Nat) (x : Int), i = .int .i64 k ∧ j = .int .i64 x ∧ k ≤ xs.length ∧ x + k + 1 = xs.length ∧ wr.ownsRow B 3 1 (.slice A xs.length c) xs.length ((revK xs k).map (Value.int .i64)) ∧ w.grownBy wr (Value.slice A xs.length c).ownBlock) (fun i _ _ => xs.length - (intOf i).toNat)
  case atStart => exact ⟨0, (xs.length : Int) - 1, rfl, rfl, Nat.zero_le _, by omega, by rw [revK_zero]; exact HO.out, World.grownBy.refl _ _⟩
  case round =>
    obtain ⟨k, x, rfl, rfl, hk, hx, ho, hg⟩ := hrel
    by_cases hlt : (k : Int) < x
    · obtain ⟨m, rfl⟩ := Int.eq_ofNat_of_zero_le (show 0 ≤ x by omega)
      obtain ⟨g, rfl, hgl, hgB⟩ := HA.out (by intro h; simp [h] at hx; omega)
      have hm : xs.length - 1 - k = m := by omega
      obtain ⟨h1, h2⟩ := revK_mid xs k (by omega)
      have h3 := revK_step xs k (by omega)
      rw [hm] at h2 h3
      have hck : wr.cell? ⟨g, k, none⟩ = some (.int .i64 (xs.getD k 0)) := by
        rw [ho.cellAt k (by omega), List.getElem?_map, getD_eq (revK xs k) k (by rw [revK_length]; omega), h1]; rfl
      have hcm : wr.cell? ⟨g, m, none⟩ = some (.int .i64 (xs.getD m 0)) := by
        rw [ho.cellAt m (by omega), List.getElem?_map, getD_eq (revK xs k) m (by rw [revK_length]; omega), h2]; rfl
      have hfk := ho.frozenAt k
      have hfm := ho.frozenAt m
      obtain ⟨p, hp⟩ : ∃ p, xs.getD k 0 = p := ⟨_, rfl⟩
      obtain ⟨q, hq⟩ : ∃ q, xs.getD m 0 = q := ⟨_, rfl⟩
      rw [hp, hq] at h3
      rw [hp] at hck
      rw [hq] at hcm
      have H3 := hid h3
      have Ho := hid ho
      have Hg := hid hg
      have hm1 : m < xs.length := by omega
      have hk1 : k < xs.length := by omega
      have hkm : k < m := by omega
      have HX := hid hx
      clear hp hq h1 h2 h3 ho hg hm hx
      go_wp2_with fail
      go_region
      go_wp2
      go_roundw
      case rel => exact ⟨k + 1, (m : Int) - 1, by go_num, rfl, by omega, by have := HX.out; omega, (by rw [← H3.out, List.map_set, List.map_set]; exact ((Ho.out.stored k (.int .i64 q)).1.stored m (.int .i64 p)).1), grown_drew (grown_setCell (grown_setCell Hg.out k _) m _)⟩
      case measure => simp [intOf]; omega
    · have hr := hid (revK_full xs k (by omega))
      have Ho := hid ho
      have Hg := hid hg
      clear ho hg
      go_wp2
      go_end0
      refine ⟨rfl, ?_, Hg.out⟩
      unfold OwnI
      rw [List.length_reverse, ← hr.out]
      exact Ho.out
theorem undoneWord_any (v : Value) (xs : List Int) (w : World) (hv : Ints w v xs) (hl : xs.length ≤ 1048576) :
    Calls Try.prog 97 #[.iface 50 v] w fun (r : Ending) w' => ∃ u, r = Ending.returned (.iface 50 u) ∧ Ints w' u xs.reverse ∧ Below w.heap.size w w' := by
  have HV := hid hv
  obtain ⟨A, c, rfl, hA⟩ := hv
  have h2 := ta2 A xs.length c
  have h3 := ta3 A xs.length c
  clear hA
  go_enter Try.func97, Try.ntmps97
  go_wp2_with fail
  refine (cloneWord_any _ xs _ HV.out hl).mono ?_
  rintro e w1 ⟨u, rfl, ho, hb⟩
  have HO := hid ho
  have HB := hid hb
  have HU := hid ho.blockLt
  obtain ⟨uA, un, uc, rfl⟩ := ho.shape3
  clear hb ho
  go_wp2_with fail
  refine (reverseWord_any _ xs _ _ HO.out hl).mono ?_
  rintro e w2 ⟨rfl, ho, hg⟩
  have HO2 := hid ho
  have HG2 := hid hg
  clear ho hg
  go_wp2
  go_ret
  exact ⟨_, rfl, HO2.out.ints, below_grown HB.out HG2.out (fun k hk => (HU.out k hk).1)⟩
end Go.Proofs.Ytkalpichninncab
