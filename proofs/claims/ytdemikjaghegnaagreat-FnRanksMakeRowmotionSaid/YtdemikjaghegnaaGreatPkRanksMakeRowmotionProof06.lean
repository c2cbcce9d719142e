/- Texts Rev, Join, CurP, OwnC, one behind the other. -/
import Derived.Lib.SliceRun
import Derived.RegionTactic
import Derived.Deep.AppendLies
import Derived.BigRegion
import Derived.Deep.RegionLaw
import Derived.Test.YtdemikjaghegnaaGreatPkRanksMakeRowmotionProof00
import Derived.Test.YtdemikjaghegnaaGreatPkRanksMakeRowmotionProof01
import Derived.Test.YtdemikjaghegnaaGreatPkRanksMakeRowmotionProof02
import Derived.Test.YtdemikjaghegnaaGreatPkRanksMakeRowmotionProof03
import Derived.Test.YtdemikjaghegnaaGreatPkRanksMakeRowmotionProof04
import Derived.Test.YtdemikjaghegnaaGreatPkRanksMakeRowmotionProof05
/- Rowmotion and its way back: the model's and the program's contracts. · The motion that leads back. · Words backwards: slices.Clone and slices.Reverse at the words of toggles; the motion that leads back. -/
namespace Go.Proofs.YtdemikjaghegnaaGreat
open Go.RowKit Go.WideShapes Go.ChangeShapes
set_option linter.unusedVariables false

theorem rowStep_any (v : Value) (xs : List Int) (s : Nat) (w : World) (hv : Ints w v xs) (hg : good xs = true) (hs : s < 2 ^ xs.length) :
    Calls Tryz.prog 173 #[.agg #[], .agg #[v], .int .i64 s] w fun r w' => r = .returned (.int .i64 (rowmo xs s : Nat)) ∧ Below w.heap.size w w' := by
  have hl10 := (good_length hg).2
  have hs10 := lt1024 hs hl10
  have HG := hid hg
  obtain ⟨A, c, rfl, hA⟩ := hv
  have HA := hid hA
  clear hA hg hs
  go_enter Tryz.func173, Tryz.ntmps173
  go_wp2
  go_loop [7, 13] (fun q i => ∃ k t : Nat, k ≤ xs.length ∧ i = .int .i64 k ∧ q = .int .i64 t ∧ Hid (orN (rowP xs s) (rowG xs) k = t)) (fun _ i => xs.length - (intOf i).toNat)
  case atStart => exact ⟨0, 0, Nat.zero_le _, rfl, rfl, hid rfl⟩
  case round =>
    obtain ⟨k, t, hk, rfl, rfl, HT⟩ := hrel
    by_cases hlt : k < xs.length
    · obtain ⟨b, o, rfl, hb, hc⟩ := HA.out (by intro h; simp [h] at hlt)
      have hcell := hc k hlt
      have hr := row_lt HG.out hlt
      have hr10 := row_lt10 HG.out hlt
      obtain ⟨z, hz⟩ : ∃ z, row xs k = z := ⟨_, rfl⟩
      rw [hz] at hr hr10
      rw [hr.1] at hcell
      have HZ := hid hz
      clear hc hr hz
      cases hbit : s.testBit k
      · have HBit := hid hbit
        have han := i64_andNot_nat z s (by omega) (by omega)
        clear hbit
        by_cases h0 : sub z s = 0
        · have h0' : (((sub z s : Nat) : Int) == 0) = true := by rw [h0]; rfl
          have HP : Hid (rowP xs s k = true) := hid (by simp [rowP, HBit.out, HZ.out, h0])
          have ht10 := lt1024 (Nat.lt_of_le_of_lt (Nat.le_of_eq HT.out.symm) (rowmoN_lt HG.out s hk)) hl10
          have HN : Hid (orN (rowP xs s) (rowG xs) (k + 1) = t ||| (2 ^ k ||| z)) := hid (by rw [orN_yes HP.out, HT.out, rowG, HZ.out])
          have wp := wrap_pow' k (by omega)
          have hp1 := Nat.pow_lt_pow_right (a := 2) (by decide) (show k < 10 by omega)
          have hg10 : 2 ^ k ||| z < 1024 := Nat.or_lt_two_pow (n := 10) hp1 hr10
          have hor := pow_or z k hr10 (by omega)
          have hor2 := i64_or_nat t (2 ^ k ||| z) (by omega) (by omega)
          clear h0 hp1
          go_wp2_with (go_at_call 58; refine (hasElement_any s k (by omega) (by omega) _).mono ?_; rw [HBit.out]; rintro e w' ⟨rfl, rfl⟩)
          go_round
          case rel => exact ⟨k + 1, _, by omega, by go_num, rfl, hid (by rw [HN.out])⟩
          case measure => simp [intOf]; omega
        · have h0' : (((sub z s : Nat) : Int) == 0) = false := by rw [beq_eq_false_iff_ne]; omega
          have HP : Hid (rowP xs s k = false) := hid (by simp [rowP, HBit.out, HZ.out, h0])
          clear h0
          go_wp2_with (go_at_call 58; refine (hasElement_any s k (by omega) (by omega) _).mono ?_; rw [HBit.out]; rintro e w' ⟨rfl, rfl⟩)
          go_round
          case rel => exact ⟨k + 1, t, by omega, by go_num, rfl, hid (by rw [orN_no HP.out, HT.out])⟩
          case measure => simp [intOf]; omega
      · have HBit := hid hbit
        have HP : Hid (rowP xs s k = false) := hid (by simp [rowP, hbit])
        clear hbit
        go_wp2_with (go_at_call 58; refine (hasElement_any s k (by omega) (by omega) _).mono ?_; rw [HBit.out]; rintro e w' ⟨rfl, rfl⟩)
        go_round
        case rel => exact ⟨k + 1, t, by omega, by go_num, rfl, hid (by rw [orN_no HP.out, HT.out])⟩
        case measure => simp [intOf]; omega
    · obtain rfl : k = xs.length := by omega
      go_wp2
      go_ret
      exact ⟨ret_int (by rw [← HT.out]; rfl), ((Below.refl _ _).alloc (Nat.le_refl _) _).alloc (by simp) _⟩
theorem backStep_any (v : Value) (xs : List Int) (s : Nat) (w : World) (hv : Ints w v xs) (hg : good xs = true) (hs : s < 2 ^ xs.length) :
    Calls Tryz.prog 174 #[.agg #[], .agg #[v], .int .i64 s] w fun r w' => r = .returned (.int .i64 (rowba xs s : Nat)) ∧ Below w.heap.size w w' := by
  have hl10 := (good_length hg).2
  have hs10 := lt1024 hs hl10
  have HG := hid hg
  have HS := hid (good_small hg s)
  have HV := hid hv
  obtain ⟨A, c, rfl, hA⟩ := hv
  have HA := hid hA
  have hT10 : top xs s < 1024 := Nat.lt_of_le_of_lt (sub_le _ _) hs10
  clear hA hg hs
  go_enter Tryz.func174, Tryz.ntmps174
  go_wp2_with fail
  refine (top_any _ xs s _ ((HV.out.alloc _).alloc _) hl10 hs10 HS.out).mono ?_
  rintro e w1 ⟨rfl, hb1⟩
  have HB := hid (below_to (below_alloc (below_alloc (Below.refl _ w) _) _) hb1)
  have hbox : w1.cell? ⟨w.heap.size + 1, 0, none⟩ = some (.slice A xs.length c) := ((At.newAt (w.alloc (.cells #[] 96)) (.slice A xs.length c) 26 (w.heap.size + 1) (by simp)).below hb1).1
  clear hb1
  obtain ⟨T, hT⟩ : ∃ T, top xs s = T := ⟨_, rfl⟩
  rw [hT] at hT10 ⊢
  have HTop := hid hT
  clear hT
  go_wp2
  go_loop [8, 17] (fun q i => ∃ k t : Nat, k ≤ xs.length ∧ i = .int .i64 k ∧ q = .int .i64 t ∧ Hid (orN (backP xs T) (fun e => 2 ^ e) k = t)) (fun _ i => xs.length - (intOf i).toNat)
  case atStart => exact ⟨0, 0, Nat.zero_le _, rfl, rfl, hid rfl⟩
  case round =>
    obtain ⟨k, t, hk, rfl, rfl, HT⟩ := hrel
    by_cases hlt : k < xs.length
    · obtain ⟨b, o, rfl, hb, hc⟩ := HA.out (by intro h; simp [h] at hlt)
      have hcell : w1.cell? ⟨b, o + k, none⟩ = some (.int .i64 (xs.getD k 0)) := (HB.out.cell (p := ⟨b, o + k, none⟩) hb).trans (hc k hlt)
      have hr := row_lt HG.out hlt
      have hr10 := row_lt10 HG.out hlt
      obtain ⟨z, hz⟩ : ∃ z, row xs k = z := ⟨_, rfl⟩
      rw [hz] at hr hr10
      rw [hr.1] at hcell
      have HZ := hid hz
      clear hc hr hz
      cases hbit : T.testBit k
      · have HBit := hid hbit
        have han := i64_and_nat z T (by omega) (by omega)
        clear hbit
        by_cases h0 : z &&& T = 0
        · have h0' : (((z &&& T : Nat) : Int) == 0) = true := by rw [h0]; rfl
          have HP : Hid (backP xs T k = true) := hid (by simp [backP, HBit.out, HZ.out, h0])
          have ht10 := lt1024 (Nat.lt_of_le_of_lt (Nat.le_of_eq HT.out.symm) (rowbaN_lt xs T hk)) hl10
          have HN : Hid (orN (backP xs T) (fun e => 2 ^ e) (k + 1) = t ||| 2 ^ k) := hid (by rw [orN_yes HP.out, HT.out])
          have wp := wrap_pow' k (by omega)
          have hor := or_pow t k ht10 (by omega)
          clear h0
          go_wp2_with (go_at_call 58; refine (hasElement_any T k (by omega) (by omega) _).mono ?_; rw [HBit.out]; rintro e w' ⟨rfl, rfl⟩)
          go_round
          case rel => exact ⟨k + 1, _, by omega, by go_num, rfl, hid (by rw [HN.out])⟩
          case measure => simp [intOf]; omega
        · have h0' : (((z &&& T : Nat) : Int) == 0) = false := by rw [beq_eq_false_iff_ne]; omega
          have HP : Hid (backP xs T k = false) := hid (by simp [backP, HBit.out, HZ.out, h0])
          clear h0
          go_wp2_with (go_at_call 58; refine (hasElement_any T k (by omega) (by omega) _).mono ?_; rw [HBit.out]; rintro e w' ⟨rfl, rfl⟩)
          go_round
          case rel => exact ⟨k + 1, t, by omega, by go_num, rfl, hid (by rw [orN_no HP.out, HT.out])⟩
          case measure => simp [intOf]; omega
      · have HBit := hid hbit
        have HP : Hid (backP xs T k = false) := hid (by simp [backP, hbit])
        clear hbit
        go_wp2_with (go_at_call 58; refine (hasElement_any T k (by omega) (by omega) _).mono ?_; rw [HBit.out]; rintro e w' ⟨rfl, rfl⟩)
        go_round
        case rel => exact ⟨k + 1, t, by omega, by go_num, rfl, hid (by rw [orN_no HP.out, HT.out])⟩
        case measure => simp [intOf]; omega
    · obtain rfl : k = xs.length := by omega
      go_wp2
      go_ret
      exact ⟨ret_int (by rw [← HT.out, ← HTop.out]; rfl), HB.out⟩
set_option maxHeartbeats 400000 in
theorem repeatedRow_any (v : Value) (xs : List Int) (s n : Nat) (w : World) (hv : Ints w v xs) (hg : good xs = true) (hs : s < 2 ^ xs.length) (hn : n ≤ 1000) :
    Calls Tryz.prog 82 #[.agg #[v], .int .i64 s, .iface 77 (.agg #[]), .int .i64 n] w fun r w' => r = .returned (.int .i64 (iter (rowmo xs) n s : Nat)) ∧ Below w.heap.size w w' := by
  have HV := hid hv
  have HG := hid hg
  have HS := hid hs
  have HL := hid (fun k => iter_lt (f := rowmo xs) (m := 2 ^ xs.length) (fun s _ => rowmo_lt hg s) hs k)
  clear hv hg hs
  go_enter Tryz.func82, Tryz.ntmps82
  have HB := hid (below_alloc (Below.refl _ w) (.cells #[v] 26))
  have A0 := hid (At.newAt w v 26 w.heap.size (by simp))
  go_wp2
  go_loopw [1, 10] (fun q i wr => ∃ k t : Nat, k ≤ n ∧ i = .int .i64 k ∧ q = .int .i64 t ∧ Hid (iter (rowmo xs) k s = t) ∧ Below w.heap.size w wr ∧ At wr w.heap.size v) (fun _ i _ => n - (intOf i).toNat)
  case atStart => exact ⟨0, s, Nat.zero_le _, rfl, rfl, hid rfl, HB.out, A0.out⟩
  case round =>
    obtain ⟨k, t, hk, rfl, rfl, HT, hb, ha⟩ := hrel
    have hbox := ha.1
    have HB1 := hid hb
    have HA1 := hid ha
    clear hb ha
    by_cases hlt : k < n
    · have ht : t < 2 ^ xs.length := by rw [← HT.out]; exact HL.out k
      have HT2 := hid ht
      clear ht
      go_wp2_with fail
      clear hbox
      refine (rowStep_any _ xs t _ (HV.out.below HB1.out) HG.out HT2.out).mono ?_
      rintro e' w' ⟨rfl, hb⟩
      have HB2 := hid (below_to HB1.out hb)
      have HA2 := hid (HA1.out.below hb)
      clear hb
      go_wp2
      go_roundw
      case rel => exact ⟨k + 1, _, by omega, by go_num, rfl, hid (by rw [iter, HT.out]), HB2.out, HA2.out⟩
      case measure => simp [intOf]; omega
    · obtain rfl : k = n := by omega
      go_wp2
      go_ret
      exact ⟨ret_int (by rw [← HT.out]), HB1.out⟩
set_option maxHeartbeats 400000 in
theorem repeatedBack_any (v : Value) (xs : List Int) (s n : Nat) (w : World) (hv : Ints w v xs) (hg : good xs = true) (hs : s < 2 ^ xs.length) (hn : n ≤ 1000) :
    Calls Tryz.prog 82 #[.agg #[v], .int .i64 s, .iface 96 (.agg #[]), .int .i64 n] w fun r w' => r = .returned (.int .i64 (iter (rowba xs) n s : Nat)) ∧ Below w.heap.size w w' := by
  have HV := hid hv
  have HG := hid hg
  have HS := hid hs
  have HL := hid (fun k => iter_lt (f := rowba xs) (m := 2 ^ xs.length) (fun s _ => rowba_lt xs s) hs k)
  clear hv hg hs
  go_enter Tryz.func82, Tryz.ntmps82
  have HB := hid (below_alloc (Below.refl _ w) (.cells #[v] 26))
  have A0 := hid (At.newAt w v 26 w.heap.size (by simp))
  go_wp2
  go_loopw [1, 10] (fun q i wr => ∃ k t : Nat, k ≤ n ∧ i = .int .i64 k ∧ q = .int .i64 t ∧ Hid (iter (rowba xs) k s = t) ∧ Below w.heap.size w wr ∧ At wr w.heap.size v) (fun _ i _ => n - (intOf i).toNat)
  case atStart => exact ⟨0, s, Nat.zero_le _, rfl, rfl, hid rfl, HB.out, A0.out⟩
  case round =>
    obtain ⟨k, t, hk, rfl, rfl, HT, hb, ha⟩ := hrel
    have hbox := ha.1
    have HB1 := hid hb
    have HA1 := hid ha
    clear hb ha
    by_cases hlt : k < n
    · have ht : t < 2 ^ xs.length := by rw [← HT.out]; exact HL.out k
      have HT2 := hid ht
      clear ht
      go_wp2_with fail
      clear hbox
      refine (backStep_any _ xs t _ (HV.out.below HB1.out) HG.out HT2.out).mono ?_
      rintro e' w' ⟨rfl, hb⟩
      have HB2 := hid (below_to HB1.out hb)
      have HA2 := hid (HA1.out.below hb)
      clear hb
      go_wp2
      go_roundw
      case rel => exact ⟨k + 1, _, by omega, by go_num, rfl, hid (by rw [iter, HT.out]), HB2.out, HA2.out⟩
      case measure => simp [intOf]; omega
    · obtain rfl : k = n := by omega
      go_wp2
      go_ret
      exact ⟨ret_int (by rw [← HT.out]), HB1.out⟩
set_option maxHeartbeats 400000 in
theorem repeatedWord_any (v : Value) (xs : List Int) (u : Value) (ys : List Int) (s n : Nat) (w : World) (hv : Ints w v xs) (hg : good xs = true) (hs : s < 2 ^ xs.length) (hn : n ≤ 1000) (hu : Ints w u ys) (hy : inW xs.length ys = true) (hm : ys.length ≤ 1048576) :
    Calls Tryz.prog 82 #[.agg #[v], .int .i64 s, .iface 62 u, .int .i64 n] w fun r w' => r = .returned (.int .i64 (iter (fun s => togW xs s ys) n s : Nat)) ∧ Below w.heap.size w w' := by
  have HV := hid hv
  have HG := hid hg
  have HS := hid hs
  have HL := hid (fun k => iter_lt (f := fun s => togW xs s ys) (m := 2 ^ xs.length) (fun s h => togW_lt h hy) hs k)
  have HU := hid hu
  have HY := hid hy
  clear hu hy hv hg hs
  go_enter Tryz.func82, Tryz.ntmps82
  have HB := hid (below_alloc (Below.refl _ w) (.cells #[v] 26))
  have A0 := hid (At.newAt w v 26 w.heap.size (by simp))
  go_wp2
  go_loopw [1, 10] (fun q i wr => ∃ k t : Nat, k ≤ n ∧ i = .int .i64 k ∧ q = .int .i64 t ∧ Hid (iter (fun s => togW xs s ys) k s = t) ∧ Below w.heap.size w wr ∧ At wr w.heap.size v) (fun _ i _ => n - (intOf i).toNat)
  case atStart => exact ⟨0, s, Nat.zero_le _, rfl, rfl, hid rfl, HB.out, A0.out⟩
  case round =>
    obtain ⟨k, t, hk, rfl, rfl, HT, hb, ha⟩ := hrel
    have hbox := ha.1
    have HB1 := hid hb
    have HA1 := hid ha
    clear hb ha
    by_cases hlt : k < n
    · have ht : t < 2 ^ xs.length := by rw [← HT.out]; exact HL.out k
      have HT2 := hid ht
      clear ht
      go_wp2_with fail
      clear hbox
      refine (step_any _ _ xs ys t _ (HV.out.below HB1.out) (HU.out.below HB1.out) HG.out HT2.out HY.out hm).mono ?_
      rintro e' w' ⟨rfl, hb⟩
      have HB2 := hid (below_to HB1.out hb)
      have HA2 := hid (HA1.out.below hb)
      clear hb
      go_wp2
      go_roundw
      case rel => exact ⟨k + 1, _, by omega, by go_num, rfl, hid (by rw [iter, HT.out]), HB2.out, HA2.out⟩
      case measure => simp [intOf]; omega
    · obtain rfl : k = n := by omega
      go_wp2
      go_ret
      exact ⟨ret_int (by rw [← HT.out]), HB1.out⟩

theorem compl_bits (n s N : Nat) (hn : n ≤ 10) (hs : s < 1024) (hN : 2 ^ n = N) : bits .andNot .i64 ((N : Int) - 1) (s : Int) = ((compl n s : Nat) : Int) := by
  have hp := two_pow_le n hn
  have e : ((N : Int) - 1) = ((N - 1 : Nat) : Int) := by omega
  rw [e, i64_andNot_nat _ _ (by omega) (by omega)]
  unfold compl
  rw [hN]
end Go.Proofs.YtdemikjaghegnaaGreat
namespace Go.Proofs.YtdemikjaghegnaaGreat
open Go.RowKit Go.WideShapes Go.ChangeShapes
set_option linter.unusedVariables false

theorem ta1 (w : World) : (Instr.typeAssert (.iface 77 (.agg #[])) 68 77 true).run Tryz.prog w = .ok (.tuple #[.agg #[], .bool true]) w := by kernel_rfl
theorem ta2 (A : Option Addr) (n c : Nat) (w : World) : (Instr.typeAssert (.iface 62 (.slice A n c)) 68 77 true).run Tryz.prog w = .ok (.tuple #[.agg #[], .bool false]) w := by kernel_rfl
theorem ta3 (A : Option Addr) (n c : Nat) (w : World) : (Instr.typeAssert (.iface 62 (.slice A n c)) 68 62 true).run Tryz.prog w = .ok (.tuple #[.slice A n c, .bool true]) w := by kernel_rfl
theorem undoneRow_any (w : World) : Calls Tryz.prog 72 #[.iface 77 (.agg #[])] w fun r w' => r = .returned (.iface 96 (.agg #[])) ∧ Below w.heap.size w w' := by
  have h1 := ta1
  go_enter Tryz.func72, Tryz.ntmps72
  go_wp2
  go_ret
  exact ⟨rfl, by first | exact Below.refl _ _ | exact (Below.refl _ _).alloc (Nat.le_refl _) _ | exact ((Below.refl _ _).alloc (Nat.le_refl _) _).setCell (by simp) _⟩
end Go.Proofs.YtdemikjaghegnaaGreat
namespace Go.Proofs.YtdemikjaghegnaaGreat
open Go.RowKit Go.WideShapes Go.ChangeShapes
set_option linter.unusedVariables false

theorem cloneWord_any (v : Value) (xs : List Int) (w : World) (hv : Ints w v xs) (hl : xs.length ≤ 1048576) :
    Calls Tryz.prog 118 #[v] w fun (r : Ending) w' => ∃ u, r = Ending.returned u ∧ OwnI 3 w' w.heap.size u xs ∧ Below w.heap.size w w' := by
  have HV := hid hv
  obtain ⟨A, c, rfl, hA⟩ := hv
  have HA := hid hA
  clear hA
  have qT : ∀ (w : World) (a : Option Addr) (n c n' c' : Nat), (binOp .eql 62 (.slice a n c) (.slice none n' c')).run Tryz.prog w = .ok (.bool a.isNone) w := fun w a n c n' c' => Lib.run_eql_slice_nil w _ _ a n c n' c' Tryz.underlying62
  rcases A with _ | ⟨b, o, pt⟩
  · by_cases hx : xs = []
    · subst hx
      go_enter Tryz.func118, Tryz.ntmps118
      go_wp2
      go_ret
      exact ⟨_, rfl, OwnI.nil _ _ _, Below.refl _ _⟩
    · obtain ⟨b, o, h, -⟩ := HA.out hx
      cases h
  · skip
    go_enter Tryz.func118, Tryz.ntmps118
    go_wp2_with (at_builtin; refine wpList_append_ints rfl _ _ 62 3 rfl Tryz.underlying62 Tryz.info3 w.heap.size _ [] rfl (OwnI.empty 3 w) _ xs rfl (HV.out.alloc _) (by simpa using hl) (by simp) ?_; rintro u w1 ho hb)
    go_ret
    exact ⟨_, rfl, by simpa using ho, (below_alloc (Below.refl _ w) _).trans hb⟩

/-! ### the first k pairs exchanged -/
def revK (xs : List Int) (k : Nat) : List Int := (List.range xs.length).map fun t => if t < k ∨ xs.length - 1 - t < k then xs.getD (xs.length - 1 - t) 0 else xs.getD t 0
theorem grown_drew {a w : World} {row : Option Nat} (h : a.grownBy w row) : a.grownBy w.drew row := ⟨h.os, h.tape, h.output, h.size, h.block⟩
theorem revK_length (xs : List Int) (k : Nat) : (revK xs k).length = xs.length := by simp [revK]
theorem revK_at (xs : List Int) (k t : Nat) (ht : t < xs.length) : (revK xs k)[t]? = some (if t < k ∨ xs.length - 1 - t < k then xs.getD (xs.length - 1 - t) 0 else xs.getD t 0) := by
  simp [revK, ht]
theorem getD_eq (xs : List Int) (t : Nat) (ht : t < xs.length) : xs[t]? = some (xs.getD t 0) := by simp [List.getD, ht]
theorem revK_zero (xs : List Int) : revK xs 0 = xs := by
  apply List.ext_getElem?
  intro t
  by_cases ht : t < xs.length
  · rw [revK_at xs 0 t ht, if_neg (by omega), getD_eq xs t ht]
  · rw [List.getElem?_eq_none (by rw [revK_length]; omega), List.getElem?_eq_none (by omega)]
theorem revK_mid (xs : List Int) (k : Nat) (hk : k < xs.length - 1 - k) : (revK xs k).getD k 0 = xs.getD k 0 ∧ (revK xs k).getD (xs.length - 1 - k) 0 = xs.getD (xs.length - 1 - k) 0 := by
  constructor
  · rw [List.getD_eq_getElem?_getD, revK_at xs k k (by omega), if_neg (by omega)]; rfl
  · rw [List.getD_eq_getElem?_getD, revK_at xs k _ (by omega), if_neg (by omega)]; rfl
theorem revK_step (xs : List Int) (k : Nat) (hk : k < xs.length - 1 - k) : ((revK xs k).set k (xs.getD (xs.length - 1 - k) 0)).set (xs.length - 1 - k) (xs.getD k 0) = revK xs (k + 1) := by
  apply List.ext_getElem?
  intro t
  by_cases ht : t < xs.length
  · rw [revK_at xs (k + 1) t ht, List.getElem?_set, List.getElem?_set, List.length_set, revK_length, revK_at xs k t ht]
    by_cases h1 : xs.length - 1 - k = t
    · rw [if_pos h1, if_pos (by omega), if_pos (by omega)]
      have : xs.length - 1 - t = k := by omega
      rw [this]
    · rw [if_neg h1]
      by_cases h2 : k = t
      · subst h2
        rw [if_pos rfl, if_pos (by omega), if_pos (by omega)]
      · rw [if_neg h2]
        by_cases h3 : t < k ∨ xs.length - 1 - t < k
        · rw [if_pos h3, if_pos (by omega)]
        · rw [if_neg h3, if_neg (by omega)]
  · rw [List.getElem?_eq_none (by simp [revK_length]; omega), List.getElem?_eq_none (by rw [revK_length]; omega)]
theorem revK_full (xs : List Int) (k : Nat) (hk : ¬ k < xs.length - 1 - k) : revK xs k = xs.reverse := by
  apply List.ext_getElem?
  intro t
  by_cases ht : t < xs.length
  · rw [revK_at xs k t ht, List.getElem?_reverse ht, getD_eq xs _ (by omega)]
    by_cases h : t < k ∨ xs.length - 1 - t < k
    · rw [if_pos h]
    · rw [if_neg h]
      have : xs.length - 1 - t = t := by omega
      rw [this]
  · rw [List.getElem?_eq_none (by rw [revK_length]; omega), List.getElem?_eq_none (by simp; omega)]
set_option maxHeartbeats 1600000 in
theorem reverseWord_any (v : Value) (xs : List Int) (B : Nat) (w : World) (hv : OwnI 3 w B v xs) (hl : xs.length ≤ 1048576) :
    Calls Tryz.prog 119 #[v] w fun r w' => r = .returned (.tuple #[]) ∧ OwnI 3 w' B v xs.reverse ∧ w.grownBy w' v.ownBlock := by
  have HO := hid hv
  obtain ⟨A, c, rfl, hA⟩ := hv.shape
  have HA := hid hA
  clear hA hv
  go_enter Tryz.func119, Tryz.ntmps119
  go_wp2
  go_loopw [2, 3] (fun i j wr => ∃ (k : Nat) (x : Int), i = .int .i64 k ∧ j = .int .i64 x ∧ k ≤ xs.length ∧ x + k + 1 = xs.length ∧ wr.ownsRow B 3 1 (.slice A xs.length c) xs.length ((revK xs k).map (Value.int .i64)) ∧ w.grownBy wr (Value.slice A xs.length c).ownBlock) (fun i _ _ => xs.length - (intOf i).toNat)
  case atStart => exact ⟨0, (xs.length : Int) - 1, rfl, rfl, Nat.zero_le _, by omega, by rw [revK_zero]; exact HO.out, World.grownBy.refl _ _⟩
  case round =>
    obtain ⟨k, x, rfl, rfl, hk, hx, ho, hg⟩ := hrel
    by_cases hlt : (k : Int) < x
    · obtain ⟨m, rfl⟩ := Int.eq_ofNat_of_zero_le (show 0 ≤ x by omega)
      obtain ⟨g, rfl, hgl, hgB⟩ := HA.out (by intro h; simp [h] at hx; omega)
      have hm : xs.length - 1 - k = m := by omega
      obtain ⟨h1, h2⟩ := revK_mid xs k (by omega)
      have h3 := revK_step xs k (by omega)
      rw [hm] at h2 h3
      have hck : wr.cell? ⟨g, k, none⟩ = some (.int .i64 (xs.getD k 0)) := by
        rw [ho.cellAt k (by omega), List.getElem?_map, getD_eq (revK xs k) k (by rw [revK_length]; omega), h1]; rfl
      have hcm : wr.cell? ⟨g, m, none⟩ = some (.int .i64 (xs.getD m 0)) := by
        rw [ho.cellAt m (by omega), List.getElem?_map, getD_eq (revK xs k) m (by rw [revK_length]; omega), h2]; rfl
      have hfk := ho.frozenAt k
      have hfm := ho.frozenAt m
      obtain ⟨p, hp⟩ : ∃ p, xs.getD k 0 = p := ⟨_, rfl⟩
      obtain ⟨q, hq⟩ : ∃ q, xs.getD m 0 = q := ⟨_, rfl⟩
      rw [hp, hq] at h3
      rw [hp] at hck
      rw [hq] at hcm
      have H3 := hid h3
      have Ho := hid ho
      have Hg := hid hg
      have hm1 : m < xs.length := by omega
      have hk1 : k < xs.length := by omega
      have hkm : k < m := by omega
      have HX := hid hx
      clear hp hq h1 h2 h3 ho hg hm hx
      go_wp2_with fail
      go_region
      go_wp2
      go_roundw
      case rel => exact ⟨k + 1, (m : Int) - 1, by go_num, rfl, by omega, by have := HX.out; omega, (by rw [← H3.out, List.map_set, List.map_set]; exact ((Ho.out.stored k (.int .i64 q)).1.stored m (.int .i64 p)).1), grown_drew (grown_setCell (grown_setCell Hg.out k _) m _)⟩
      case measure => simp [intOf]; omega
    · have hr := hid (revK_full xs k (by omega))
      have Ho := hid ho
      have Hg := hid hg
      clear ho hg
      go_wp2
      go_end0
      refine ⟨rfl, ?_, Hg.out⟩
      unfold OwnI
      rw [List.length_reverse, ← hr.out]
      exact Ho.out
theorem undoneWord_any (v : Value) (xs : List Int) (w : World) (hv : Ints w v xs) (hl : xs.length ≤ 1048576) :
    Calls Tryz.prog 72 #[.iface 62 v] w fun (r : Ending) w' => ∃ u, r = Ending.returned (.iface 62 u) ∧ Ints w' u xs.reverse ∧ Below w.heap.size w w' := by
  have HV := hid hv
  obtain ⟨A, c, rfl, hA⟩ := hv
  have h2 := ta2 A xs.length c
  have h3 := ta3 A xs.length c
  clear hA
  go_enter Tryz.func72, Tryz.ntmps72
  go_wp2_with fail
  refine (cloneWord_any _ xs _ HV.out hl).mono ?_
  rintro e w1 ⟨u, rfl, ho, hb⟩
  have HO := hid ho
  have HB := hid hb
  have HU := hid ho.blockLt
  obtain ⟨uA, un, uc, rfl⟩ := ho.shape3
  clear hb ho
  go_wp2_with fail
  refine (reverseWord_any _ xs _ _ HO.out hl).mono ?_
  rintro e w2 ⟨rfl, ho, hg⟩
  have HO2 := hid ho
  have HG2 := hid hg
  clear ho hg
  go_wp2
  go_ret
  exact ⟨_, rfl, HO2.out.ints, below_grown HB.out HG2.out (fun k hk => (HU.out k hk).1)⟩
end Go.Proofs.YtdemikjaghegnaaGreat

/- Sums and stacks of posets. -/
namespace Go.Proofs.YtdemikjaghegnaaGreat
open Go.RowKit Go.WideShapes Go.ChangeShapes
set_option linter.unusedVariables false

/-- 'append(out, y)' onto a slice of the call's own, as one step of a region that draws its order -/
theorem step_append_int {P : Program} {ops : Array Oper} {o : Oper} {a : Act} {w : World} {K : Act → World → Prop} {Q : Exit → Act → World → Prop} {E : Prop} (hgd : o.guard = none) (s x : Operand) (t e : TypeId)
    (ho : o.op = .call { callee := .builtin .append, args := #[s, x], argTypes := #[t, t] }) (ht : P.underlying t = some (.slice e)) (hinfo : (P.info? e).map (fun i => (i.zero, i.size, i.bytes)) = some (some (.int .i64 0), 1, 8))
    (B : Nat) (v : Value) (xs : List Int) (y : Int) (hs : a.eval s = v) (hown : OwnI e w B v xs) (g : Nat) (hx : a.eval x = .slice (some ⟨g, 0, none⟩) 1 1) (hg : Blk w g e #[.int .i64 y]) (hlen : xs.length < 1048576) (hB : B ≤ w.heap.size)
    (h : ∀ g' cap w', OwnI e w' B (.slice (some ⟨g', 0, none⟩) (xs.length + 1) cap) (xs ++ [y]) → w.grownBy w' v.ownBlock → (v.ownBlock = some g' ∨ g' = w.heap.size) → g' < w'.heap.size → K (a.put o.dst (.slice (some ⟨g', 0, none⟩) (xs.length + 1) cap)) w') :
    if Region.wanted o (yielded ops a.tmps) = true then Oper.wp P o a w K Q else E := by
  obtain ⟨i0, hi, hz0, hz1, hz2⟩ := info_parts hinfo
  refine step_append_lies w hgd s x t ho B e i0 (.int .i64 0) 1 8 ht hi hz0 hz1 hz2 rfl (by decide) v xs.length (xs.map (Value.int .i64)) hs hown ⟨g, 0, none⟩ 1 1 [.int .i64 y] hx rfl (World.news_of_block (cs := #[.int .i64 y]) hg) (by intro u hu; simp only [List.mem_singleton] at hu; subst hu; rfl) (by decide) (by unfold maxLen; omega) (by omega) hB _ rfl ?_
  intro g' cap w' h1 h2 h3 h4
  exact h g' cap w' (by unfold OwnI; simpa using h1) h2 h3 h4

/-- y moved up by n places, with all of 'below' -/
def shl (n below : Nat) (y : Int) : Int := ((y.toNat * 2 ^ n ||| below : Nat) : Int)
def joinL (xs ys : List Int) (below : Nat) : List Int := xs ++ ys.map (shl xs.length below)
def fits (xs ys : List Int) : Bool := (good xs && good ys) && decide (xs.length + ys.length ≤ 10)
theorem fits_good {xs ys : List Int} (h : fits xs ys = true) : good xs = true ∧ good ys = true ∧ xs.length + ys.length ≤ 10 := by
  simpa [fits, and_assoc] using h
def sumL (xs ys : List Int) : List Int := if fits xs ys then joinL xs ys 0 else []
def stackL (xs ys : List Int) : List Int := if fits xs ys then joinL xs ys (2 ^ xs.length - 1) else []
theorem joinL_take (xs ys : List Int) (below : Nat) {k : Nat} (hk : k < ys.length) : joinL xs (ys.take (k + 1)) below = joinL xs (ys.take k) below ++ [shl xs.length below (ys.getD k 0)] := by
  have e : ys.take (k + 1) = ys.take k ++ [ys.getD k 0] := by
    rw [List.take_succ_eq_append_getElem hk]; simp [List.getD, hk]
  unfold joinL
  rw [e, List.map_append, List.append_assoc]; rfl
theorem joinL_length (xs ys : List Int) (below : Nat) : (joinL xs ys below).length = xs.length + ys.length := by simp [joinL]
theorem l1Own_any (v : Value) (xs : List Int) (w : World) (hv : Ints w v xs) (hl : xs.length ≤ 1048576) :
    Calls Tryz.prog 122 #[v] w fun (r : Ending) w' => ∃ u, r = Ending.returned u ∧ OwnI 3 w' w.heap.size u xs ∧ Below w.heap.size w w' := by
  have HV := hid hv
  clear hv
  go_enter Tryz.func122, Tryz.ntmps122
  go_wp2_with (at_builtin; refine wpList_append_ints rfl _ _ 24 3 rfl Tryz.underlying24 Tryz.info3 w.heap.size _ [] rfl (OwnI.empty 3 w) _ xs rfl (HV.out.alloc _) (by simpa using hl) (by simp) ?_; rintro u w1 ho hb)
  go_ret
  exact ⟨_, rfl, by simpa using ho, (below_alloc (Below.refl _ w) _).trans hb⟩
end Go.Proofs.YtdemikjaghegnaaGreat

/- The model's cursor of draws: posets. -/
namespace Go.Proofs.YtdemikjaghegnaaGreat
open Go.RowKit Go.WideShapes Go.ChangeShapes
set_option linter.unusedVariables false

theorem Blk.turned {w w' : World} {g B E : Nat} {t : TypeId} {cs : Array Value} (h : Blk w g t cs) (ht : TurnedIn B E w w') (hg : g < B ∨ E ≤ g) : Blk w' g t cs := (ht.block g h.lt hg).trans h
theorem ownsRow_turned {w w' : World} {B B' E' s : Nat} {ts : TypeId} {v : Value} {n : Nat} {us : List Value} (h : w.ownsRow B ts s v n us) (hg : TurnedIn B' E' w w') (hs : E' ≤ B) : w'.ownsRow B ts s v n us := by
  obtain ⟨h1, h2⟩ := h
  refine ⟨h1, ?_⟩
  rcases h2 with h2 | ⟨g, cap, cur, rfl, hB, hh, r⟩
  · exact .inl h2
  · refine .inr ⟨g, cap, cur, rfl, hB, ?_, r⟩
    have hlt : g < w.heap.size := by
      rcases Nat.lt_or_ge g w.heap.size with hlt | hge
      · exact hlt
      · rw [Array.getElem?_eq_none hge] at hh; cases hh
    rw [hg.block g hlt (by omega)]; exact hh
theorem Pairs.turned {ti ts : TypeId} {w w' : World} {B B' E' : Nat} {v : Value} {ps : List (Nat × Nat)} (h : Pairs ti ts w B v ps) (hg : TurnedIn B' E' w w') (hs : E' ≤ B) : Pairs ti ts w' B v ps := by
  obtain ⟨us, h1, h2, h3, h4⟩ := h
  refine ⟨us, h1, ownsRow_turned h2 hg hs, fun j u p hu hp => ?_, h4⟩
  obtain ⟨g, e, hB, hk⟩ := h3 j u p hu hp
  exact ⟨g, e, hB, (hg.block g hk.lt (by omega)).trans hk⟩
theorem wf_i64 (n : Int) (h1 : -9223372036854775808 ≤ n) (h2 : n ≤ 9223372036854775807) : (Lit.int .i64 n).wf = true := by
  show (decide (IntKind.i64.min ≤ n) && decide (n ≤ IntKind.i64.max)) = true
  rw [show IntKind.i64.min = -9223372036854775808 from by decide, show IntKind.i64.max = 9223372036854775807 from by decide]
  simp [h1, h2]
/-- what a draw leaves: the cursor's block g alone has turned -/
structure Drawn (w : World) (g A : Nat) (w' : World) : Prop where
  cur : Cur w' g A
  turned : TurnedIn g (g + 1) w w'
theorem Drawn.below {w w1 w2 : World} {g A : Nat} (h : Drawn w g A w1) (hb : Below w1.heap.size w1 w2) : Drawn w g A w2 :=
  ⟨h.cur.below hb, h.turned.trans (TurnedIn.of_below hb)⟩
theorem Drawn.le {w w1 : World} {g A B : Nat} (h : Drawn w g A w1) (hb : A ≤ B) : Drawn w g B w1 := ⟨h.cur.le hb, h.turned⟩
theorem Drawn.belowB {w w1 w2 : World} {g A B : Nat} (h : Drawn w g A w1) (hb : Below B w1 w2) (h1 : w.heap.size ≤ B) (h2 : g < B) : Drawn w g A w2 := by
  refine ⟨?_, h.turned.belowB hb h1⟩
  obtain ⟨v, xs, k, z, ⟨A', c, rfl, hr, hx⟩, h4, h5, h6, h7, h8⟩ := h.cur
  refine ⟨_, xs, k, z, ⟨A', c, rfl, hr, fun hne => ?_⟩, h4, h5, h6, h7, h8.below hb h2⟩
  obtain ⟨b, o, rfl, hbg, hbl, hc⟩ := hx hne
  exact ⟨b, o, rfl, hbg, Nat.lt_of_lt_of_le hbl hb.size, fun j hj => (hb.cell (p := ⟨b, o + j, none⟩) (by show b < B; omega)).trans (hc j hj)⟩
theorem OwnI.turnedLow {ti : TypeId} {w w' : World} {B B' E' : Nat} {v : Value} {xs : List Int} (h : OwnI ti w B v xs) (hg : TurnedIn B' E' w w') (hs : E' ≤ B) : OwnI ti w' B v xs := ownsRow_turned h hg hs
theorem Drawn.box {w W : World} {g A : Nat} (h : Drawn w g A W) (hg : g < w.heap.size) (p : Addr) (hp : w.heap.size ≤ p.block) (y : Value) : Drawn w g A (W.setCell p y) :=
  h.belowB ((Below.refl w.heap.size W).setCell (p := p) hp y) (Nat.le_refl _) hg
theorem OwnI.box {ti : TypeId} {w W : World} {B : Nat} {u : Value} {xs : List Int} (h : OwnI ti W B u xs) (hB : w.heap.size + 1 ≤ B) (y : Value) : OwnI ti (W.setCell ⟨w.heap.size, 0, none⟩ y) w.heap.size u xs :=
  (h.turnedLow ((TurnedIn.refl w.heap.size (w.heap.size + 1) W).set_ ⟨w.heap.size, 0, none⟩ ⟨Nat.le_refl _, Nat.lt_succ_self _⟩ y) hB).mono (by omega)
set_option maxHeartbeats 3200000 in
theorem surePoset_any (g A most : Nat) (w : World) (h : Cur w g A) (hA : A < 900000000000) (hm1 : 1 ≤ most) (hm : most ≤ 10) :
    Calls Tryz.prog 114 #[.pointer (some ⟨g, 0, none⟩), .int .i64 most] w fun (r : Ending) w' => ∃ u xs, r = .returned (.agg #[u]) ∧ OwnI 3 w' w.heap.size u xs ∧ 1 ≤ xs.length ∧ xs.length ≤ 10 ∧ Drawn w g (A + 200) w' := by
  have HC := hid h
  have hgl := h.lt
  clear h
  go_enter Tryz.func114, Tryz.ntmps114
  go_wp2_with fail
  have HD0 := hid ((Drawn.mk HC.out (TurnedIn.refl _ _ _)).below (below_alloc (Below.refl _ w) (.cells #[.slice none 0 0] 26)))
  have HA0 := hid (Blk.new w 26 #[.slice none 0 0])
  refine (pick_any g A 5 _ HD0.out.cur (by omega)).mono ?_
  rintro e w1 ⟨m, hm5, rfl, hc1, ht1⟩
  have HD1 := hid (Drawn.mk hc1 (HD0.out.turned.trans ht1))
  have HA1 := hid (HA0.out.turned ht1 (Or.inr (by omega)))
  have hz1 : w.heap.size + 1 ≤ w1.heap.size := by have := ht1.size; simpa using this
  clear hc1 ht1 HD0 HA0
  rcases (by omega : m = 0 ∨ m = 1 ∨ m = 2 ∨ 3 ≤ m) with rfl | rfl | rfl | hm3
  · clear hm5
    obtain ⟨H, hH⟩ : ∃ H : Nat, (most : Int) / 2 = H := ⟨most / 2, by omega⟩
    have hH5 : H ≤ 5 := by omega
    go_wp2_with fail
    refine (pick_any g (A + 2) 2 _ HD1.out.cur (by omega)).mono ?_
    rintro e w2 ⟨p, hp, rfl, hc2, ht2⟩
    have HD2 := hid (Drawn.mk hc2 (HD1.out.turned.trans ht2))
    have HA2 := hid (HA1.out.turned ht2 (Or.inr (by omega)))
    have hz2 : w.heap.size + 1 ≤ w2.heap.size := by have := ht2.size; omega
    clear hc2 ht2 HD1 HA1
    go_wp2_with fail
    try rw [hH]
    refine (l1Most_any 1 (H : Int) _).mono ?_
    rintro e w3 ⟨rfl, rfl⟩
    go_wp2_with fail
    refine (pick_any g (A + 4) _ _ HD2.out.cur (by omega)).mono ?_
    rintro e w4 ⟨q, hq, rfl, hc4, ht4⟩
    have HD4 := hid (Drawn.mk hc4 (HD2.out.turned.trans ht4))
    have HA4 := hid (HA2.out.turned ht4 (Or.inr (by omega)))
    have hz4 : w.heap.size + 1 ≤ w4.heap.size := by have := ht4.size; omega
    clear hc4 ht4 HD2 HA2
    obtain ⟨a, ha⟩ : ∃ a : Nat, (1 : Int) + (p : Int) = a := ⟨1 + p, by omega⟩
    obtain ⟨b, hb⟩ : ∃ b : Nat, (1 : Int) + (q : Int) = b := ⟨1 + q, by omega⟩
    have ha1 : 1 ≤ a := by omega
    have ha2 : a ≤ 2 := by omega
    have hb1 : 1 ≤ b := by omega
    have hb2 : b ≤ 5 := by omega
    have hab : a * b ≤ 2 * 5 := Nat.mul_le_mul ha2 hb2
    have hab1 : 1 * 1 ≤ a * b := Nat.mul_le_mul ha1 hb1
    go_wp2_with fail
    try rw [ha, hb]
    refine (poRectangle_any a b _ ha1 (by omega) hb1 (by omega) hab).mono ?_
    rintro e w5 ⟨u, rfl, ho, hb5⟩
    have HD5 := hid (HD4.out.below hb5)
    have HA5 := hid (HA4.out.below hb5 (by omega))
    have HO := hid ho
    have t1 := HA5.out.cell 0
    have t2 := HA5.out.frozen 0
    obtain ⟨uA, un, uc, rfl⟩ := ho.shape3
    clear ho hb5 HD4 HA4
    go_wp2
    refine bodyPost_ret (v := .agg #[.slice uA un uc]) (by simp [results, Tryz.results114, go_sem, t1]) rfl ⟨_, _, rfl, HO.out.box hz4 _, by rw [whereL, mkL_length]; omega, by rw [whereL, mkL_length]; omega, (HD5.out.box hgl _ (Nat.le_refl _) _).le (by omega)⟩
  · clear hm5
    go_wp2_with fail
    refine (pick_any g (A + 2) 2 _ HD1.out.cur (by omega)).mono ?_
    rintro e w2 ⟨p, hp, rfl, hc2, ht2⟩
    have HD2 := hid (Drawn.mk hc2 (HD1.out.turned.trans ht2))
    have HA2 := hid (HA1.out.turned ht2 (Or.inr (by omega)))
    have hz2 : w.heap.size + 1 ≤ w2.heap.size := by have := ht2.size; omega
    clear hc2 ht2 HD1 HA1
    obtain ⟨a, ha⟩ : ∃ a : Nat, (1 : Int) + (p : Int) = a := ⟨1 + p, by omega⟩
    have ha1 : 1 ≤ a := by omega
    have ha2 : a ≤ 2 := by omega
    have HLa : Hid (1 ≤ (stcL a).length ∧ (stcL a).length ≤ 10) := hid (by rcases (by omega : a = 1 ∨ a = 2) with h | h <;> (rw [h]; decide))
    go_wp2_with fail
    try rw [ha]
    refine (specStaircase_any a _ (wf_i64 _ (by omega) (by omega))).mono ?_
    rintro e w5 ⟨u, rfl, ho, -, hb5⟩
    have HD5 := hid (HD2.out.below hb5)
    have HA5 := hid (HA2.out.below hb5 (by omega))
    have HO := hid ho
    have hz5 : w.heap.size + 1 ≤ w5.heap.size := by have := hb5.size; omega
    obtain ⟨uA, un, uc, rfl⟩ := ho.shape3
    clear ho hb5 HD2 HA2
    have HD6 := hid (HD5.out.below (below_alloc (Below.refl _ w5) (.cells #[.slice uA un uc] 26)))
    have HO6 := hid (HO.out.alloc (.cells #[.slice uA un uc] 26))
    have HA6 := HA5.out.alloc (.cells #[.slice uA un uc] 26)
    have t1 := HA6.cell 0
    have t2 := HA6.frozen 0
    clear HA6
    go_wp2
    refine bodyPost_ret (v := .agg #[.slice uA un uc]) (by simp [results, Tryz.results114, go_sem, t1]) rfl ⟨_, _, rfl, HO6.out.box hz2 _, HLa.out.1, HLa.out.2, (HD6.out.box hgl _ (Nat.le_refl _) _).le (by omega)⟩
  · clear hm5
    go_wp2_with fail
    refine (pick_any g (A + 2) most _ HD1.out.cur (by omega)).mono ?_
    rintro e w2 ⟨p, hp, rfl, hc2, ht2⟩
    have HD2 := hid (Drawn.mk hc2 (HD1.out.turned.trans ht2))
    have HA2 := hid (HA1.out.turned ht2 (Or.inr (by omega)))
    have hz2 : w.heap.size + 1 ≤ w2.heap.size := by have := ht2.size; omega
    clear hc2 ht2 HD1 HA1
    obtain ⟨a, ha⟩ : ∃ a : Nat, (1 : Int) + (p : Int) = a := ⟨1 + p, by omega⟩
    have ha1 : 1 ≤ a := by omega
    have ha2 : a ≤ 10 := by omega
    have HLa : Hid (1 ≤ (fenceL a).length ∧ (fenceL a).length ≤ 10) := hid (by rw [fenceL_yes ha1 ha2, whereL, mkL_length]; omega)
    go_wp2_with fail
    try rw [ha]
    refine (specFence_any a _ (wf_i64 _ (by omega) (by omega))).mono ?_
    rintro e w5 ⟨u, rfl, ho, -, hb5⟩
    have HD5 := hid (HD2.out.below hb5)
    have HA5 := hid (HA2.out.below hb5 (by omega))
    have HO := hid ho
    have hz5 : w.heap.size + 1 ≤ w5.heap.size := by have := hb5.size; omega
    obtain ⟨uA, un, uc, rfl⟩ := ho.shape3
    clear ho hb5 HD2 HA2
    have HD6 := hid (HD5.out.below (below_alloc (Below.refl _ w5) (.cells #[.slice uA un uc] 26)))
    have HO6 := hid (HO.out.alloc (.cells #[.slice uA un uc] 26))
    have HA6 := HA5.out.alloc (.cells #[.slice uA un uc] 26)
    have t1 := HA6.cell 0
    have t2 := HA6.frozen 0
    clear HA6
    go_wp2
    refine bodyPost_ret (v := .agg #[.slice uA un uc]) (by simp [results, Tryz.results114, go_sem, t1]) rfl ⟨_, _, rfl, HO6.out.box hz2 _, HLa.out.1, HLa.out.2, (HD6.out.box hgl _ (Nat.le_refl _) _).le (by omega)⟩
  · clear hm5
    go_wp2_with fail
    refine (pick_any g (A + 2) most _ HD1.out.cur (by omega)).mono ?_
    rintro e w2 ⟨p, hp, rfl, hc2, ht2⟩
    have HD2 := hid (Drawn.mk hc2 (HD1.out.turned.trans ht2))
    have HA2 := hid (HA1.out.turned ht2 (Or.inr (by omega)))
    have hz2 : w.heap.size + 1 ≤ w2.heap.size := by have := ht2.size; omega
    clear hc2 ht2 HD1 HA1
    obtain ⟨n, hn⟩ : ∃ n : Nat, (1 : Int) + (p : Int) = n := ⟨1 + p, by omega⟩
    have hn1 : 1 ≤ n := by omega
    have hn2 : n ≤ 10 := by omega
    go_wp2_with fail
    clear hn hp
    refine (pick_any g (A + 4) (2 * (n : Int)) _ HD2.out.cur (by omega)).mono ?_
    rintro e w3 ⟨k, hk, rfl, hc3, ht3⟩
    have HD3 := hid (Drawn.mk hc3 (HD2.out.turned.trans ht3))
    have HA3 := hid (HA2.out.turned ht3 (Or.inr (by omega)))
    have hz3 : w.heap.size + 1 ≤ w3.heap.size := by have := ht3.size; omega
    have hk20 : k ≤ 20 := by omega
    clear hc3 ht3 HD2 HA2 hk
    go_wp2
    go_loopw [10, 11] (fun q i wr => ∃ (t : Nat) (ps : List (Nat × Nat)), t ≤ 20 ∧ i = .int .i64 t ∧ Pairs 3 24 wr (w.heap.size + 1) q ps ∧ PairsOk n ps ∧ ps.length + t ≤ 20 ∧ Drawn w g (A + 6 + 4 * (20 - t)) wr ∧ Blk wr w.heap.size 26 #[.slice none 0 0]) (fun _ i _ => (intOf i).toNat)
    case atStart => exact ⟨k, [], hk20, rfl, Pairs.nil _ _ _ _, fun k hk => by simp at hk, by simpa using hk20, HD3.out.le (by omega), HA3.out⟩
    case round =>
      obtain ⟨t, ps, ht20, rfl, hP, hok, hlen, hD, hA9⟩ := hrel
      have HP := hid hP
      have HOk := hid hok
      have HD := hid hD
      have HA9 := hid hA9
      have hzr : w.heap.size + 1 ≤ wr.heap.size := hA9.lt
      clear hP hok hD hA9
      by_cases hgo : 0 < t ∧ 1 < n
      · obtain ⟨h0, h1⟩ := hgo
        go_wp2_with fail
        refine (pick_any g (A + 6 + 4 * (20 - t)) _ _ HD.out.cur (by omega)).mono ?_
        rintro e w4 ⟨j, hj, rfl, hc4, ht4⟩
        have HD4 := hid (Drawn.mk hc4 (HD.out.turned.trans ht4))
        have HA4 := hid (HA9.out.turned ht4 (Or.inr (by omega)))
        have HP4 := hid (HP.out.turned ht4 (by omega))
        have hz4 : w.heap.size + 1 ≤ w4.heap.size := by have := ht4.size; omega
        have hjn : j + 1 < n := by omega
        clear hc4 ht4 HD HA9 HP hj
        go_wp2_with fail
        refine (pick_any g (A + 6 + 4 * (20 - t) + 2) _ _ HD4.out.cur (by omega)).mono ?_
        rintro e w5 ⟨d, hd, rfl, hc5, ht5⟩
        have HD5 := hid (Drawn.mk hc5 (HD4.out.turned.trans ht5))
        have HA5 := hid (HA4.out.turned ht5 (Or.inr (by omega)))
        have HP5 := hid (HP4.out.turned ht5 (by omega))
        have hz5 : w.heap.size + 1 ≤ w5.heap.size := by have := ht5.size; omega
        have hdn : j + 1 + d < n := by omega
        clear hc5 ht5 HD4 HA4 HP4 hd
        go_wp2_with (at_builtin; refine wpList_append_pair rfl _ _ 78 24 3 rfl Tryz.underlying78 Tryz.info24 (by decide) (w.heap.size + 1) _ _ j (j + 1 + d) rfl HP5.out rfl rfl (by omega) (by omega) ?_; intro q2 w6 hp2 hb6)
        go_roundw
        case rel => exact ⟨t - 1, ps ++ [(j, j + 1 + d)], by omega, by go_num, hp2, fun k hk => by (
            rw [List.length_append, List.length_singleton] at hk
            by_cases e : k < ps.length
            · have := HOk.out k e
              rw [show (ps ++ [(j, j + 1 + d)]).getD k (0, 0) = ps.getD k (0, 0) from by simp [List.getD, List.getElem?_append, e]]; exact this
            · obtain rfl : k = ps.length := by omega
              simp [List.getD]; omega), by (rw [List.length_append, List.length_singleton]; omega), (HD5.out.belowB hb6 (by omega) (by omega)).le (by omega), HA5.out.below hb6 (Nat.lt_succ_self _)⟩
        case measure => simp [intOf]; omega
      · have hlen2 : ps.length ≤ 20 := by omega
        rcases (by omega : t = 0 ∨ 0 < t ∧ n = 1) with rfl | ⟨h0, rfl⟩
        · go_wp2_with fail
          refine (poFrom_any _ ps n _ _ HP.out (by omega) HOk.out (by omega)).mono ?_
          rintro e w7 ⟨u, rfl, ho, hb7⟩
          have HD7 := hid (HD.out.below hb7)
          have HA7 := hid (HA9.out.below hb7 HA9.out.lt)
          have HO := hid ho
          have t1 := HA7.out.cell 0
          have t2 := HA7.out.frozen 0
          obtain ⟨uA, un, uc, rfl⟩ := ho.shape3
          clear ho hb7 HD HA9 HP
          go_wp2
          refine bodyPost_ret (v := .agg #[.slice uA un uc]) (by simp [results, Tryz.results114, go_sem, t1]) rfl ⟨_, _, rfl, HO.out.box hzr _, by rw [fromL, mkL_length]; omega, by rw [fromL, mkL_length]; omega, (HD7.out.box hgl _ (Nat.le_refl _) _).le (by omega)⟩
        · go_wp2_with fail
          refine (poFrom_any _ ps 1 _ _ HP.out (by omega) HOk.out (by omega)).mono ?_
          rintro e w7 ⟨u, rfl, ho, hb7⟩
          have HD7 := hid (HD.out.below hb7)
          have HA7 := hid (HA9.out.below hb7 HA9.out.lt)
          have HO := hid ho
          have t1 := HA7.out.cell 0
          have t2 := HA7.out.frozen 0
          obtain ⟨uA, un, uc, rfl⟩ := ho.shape3
          clear ho hb7 HD HA9 HP
          go_wp2
          refine bodyPost_ret (v := .agg #[.slice uA un uc]) (by simp [results, Tryz.results114, go_sem, t1]) rfl ⟨_, _, rfl, HO.out.box hzr _, by rw [fromL, mkL_length]; omega, by rw [fromL, mkL_length]; omega, (HD7.out.box hgl _ (Nat.le_refl _) _).le (by omega)⟩
end Go.Proofs.YtdemikjaghegnaaGreat

/- One number of a list of the call's own is turned. -/
namespace Go.Proofs.YtdemikjaghegnaaGreat
open Go.RowKit Go.WideShapes Go.ChangeShapes
set_option linter.unusedVariables false

/-- one number of a list of the call's own is turned -/
theorem OwnI.cellC {e : TypeId} {w : World} {B : Nat} {A : Option Addr} {n c : Nat} {l : List Int} (h : OwnI e w B (.slice A n c) l) {j : Nat} (hj : j < l.length) :
    ∃ g, A = some ⟨g, 0, none⟩ ∧ n = l.length ∧ B ≤ g ∧ g < w.heap.size ∧ w.cell? ⟨g, j, none⟩ = some (.int .i64 (l.getD j 0)) ∧ w.frozen? ⟨g, j, none⟩ = false ∧ ∀ y, OwnI e (w.setCell ⟨g, j, none⟩ (.int .i64 y)) B (.slice A n c) (l.set j y) := by
  have h' : w.ownsRow B e 1 (.slice A n c) l.length (l.map (Value.int .i64)) := h
  obtain ⟨g, cap, hv, hB, hg⟩ := h'.form (by omega)
  injection hv with h1 h2 h3
  subst h1; subst h2; subst h3
  refine ⟨g, rfl, rfl, hB, hg, ?_, h'.frozenAt j, fun y => ?_⟩
  · rw [h'.cellAt j (by omega)]; simp [List.getD, hj]
  · have h2 := (h'.stored j (.int .i64 y)).1
    unfold OwnI
    rw [List.length_set]
    have e2 : (l.set j y).map (Value.int .i64) = (l.map (Value.int .i64)).set j (.int .i64 y) := by rw [List.map_set]
    rw [e2]; exact h2
end Go.Proofs.YtdemikjaghegnaaGreat
