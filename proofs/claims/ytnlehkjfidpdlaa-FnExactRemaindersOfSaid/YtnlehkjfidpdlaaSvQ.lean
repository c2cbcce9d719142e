/- RemaindersOf: both sides. -/
import Derived.Test.YtnlehkjfidpdlaaSvW
import Derived.Test.YtnlehkjfidpdlaaFac
import Derived.Test.YtnlehkjfidpdlaaBoxM
import Derived.Test.YtnlehkjfidpdlaaApi
namespace Go.Proofs.Ytnlehkjfidpdlaa
open Go.RowKit Go.WideShapes Go.ChangeShapes
set_option linter.unusedVariables false

theorem ret_vbQ {u : Value} {a b : Bool} (h : a = b) : Ending.returned (.tuple #[u, .bool a]) = .returned (.tuple #[u, .bool b]) := by rw [h]
theorem remT_step {cs : List Int} {n k r : Nat} {x y z : Int} (hr : k % n = r) (hx : (remT cs n k).getD r 0 = x) (hy : cs.getD k 0 = y) (hz : x + y = z) : remT cs n (k + 1) = (remT cs n k).set r z := by
  rw [remT, hr, hx, hy, hz]
set_option maxHeartbeats 1600000 in
theorem implRemaindersOf_any (v : Value) (cs : List Int) (n : Int) (w : World) (hv : Ints w v cs) (hl : cs.length ≤ 1048576) (wn : (Lit.int .i64 n).wf = true) :
    Calls Try.prog 19 #[v, .int .i64 n] w fun (r : Ending) w' => ∃ u, r = Ending.returned (.tuple #[u, .bool (okRM cs n)]) ∧ OwnI 3 w' w.heap.size u (ansRM cs n) ∧ (ansRM cs n).length ≤ 1048576 ∧ Below w.heap.size w w' := by
  have HL := hid (ansRM_length cs n)
  have HI1 := hid (fun W (hW : Ints W v cs) => areCoefficients_any v cs W hW hl)
  have HI2 := hid (fun W => isTurn_any n W)
  have HV := hid hv
  obtain ⟨A, c, rfl, hA⟩ := hv
  have HA := hid hA
  clear wn hA
  cases hc : ((decide (1 ≤ (cs.length : Int)) && decide ((cs.length : Int) ≤ 100)) && allB 0 1000000 cs)
  · have HO : Hid (okRM cs n = false) := hid (by unfold okRM; rw [hc]; rfl)
    have HN := hid (ansRM_no HO.out)
    rw [hc] at HI1
    clear hc
    go_enter Try.func19, Try.ntmps19
    go_wp2_with fail
    refine (HI1.out _ HV.out).mono ?_
    rintro e w1 ⟨rfl, hb⟩
    have HB := hid hb
    clear hb
    go_wp2
    go_ret2
    exact ⟨_, ret_vbQ HO.out.symm, by rw [HN.out]; exact OwnI.nil _ _ _, HL.out, HB.out⟩
  cases ht : tnB n
  · have HO := hid (okRM_no3 (cs := cs) ht)
    have HN := hid (ansRM_no HO.out)
    rw [hc] at HI1
    rw [ht] at HI2
    clear hc ht
    go_enter Try.func19, Try.ntmps19
    go_wp2_with fail
    refine (HI1.out _ HV.out).mono ?_
    rintro e w1 ⟨rfl, hb⟩
    have HB := hid hb
    clear hb
    go_wp2_with fail
    refine (HI2.out _).mono ?_
    rintro e w1 ⟨rfl, rfl⟩
    go_wp2
    go_ret2
    exact ⟨_, ret_vbQ HO.out.symm, by rw [HN.out]; exact OwnI.nil _ _ _, HL.out, HB.out⟩
  obtain ⟨N, rfl, hn1, hn2⟩ := tnB_nat ht
  have HO : Hid (okRM cs N = true) := hid (by unfold okRM; rw [hc, ht]; rfl)
  have HAn := hid (ansRM_yes HO.out)
  rw [hc] at HI1
  rw [ht] at HI2
  simp only [Bool.and_eq_true, decide_eq_true_eq] at hc
  obtain ⟨⟨hc1, hc2⟩, hall⟩ := hc
  have HAt : ∀ j, j < cs.length → 0 ≤ cs.getD j 0 ∧ cs.getD j 0 ≤ 1000000 := fun j hj => allB_at hall hj
  have HRl := hid (fun k hk j => remT_le (n := N) HAt k hk j)
  have HAt := hid HAt
  have hmk := run_make_row' (P := Try.prog) 22 3 (.int .i64 0) 8 Try.underlying22 Try.info3 rfl .i64 .i64 N (by omega) (by omega)
  have Hmk := hid hmk
  have HZ0 : Hid (madeCells #[.int .i64 0] N = Vals (remT cs N 0)) := hid (by rw [Vals_made]; rfl)
  clear ht hall hmk
  go_enter Try.func19, Try.ntmps19
  go_wp2_with fail
  refine (HI1.out _ HV.out).mono ?_
  rintro e w1 ⟨rfl, hb⟩
  have HB := hid hb
  clear hb
  go_wp2_with fail
  refine (HI2.out _).mono ?_
  rintro e w1' ⟨rfl, rfl⟩
  have hmk := Hmk.out
  go_wp2
  clear hmk
  rw [HZ0.out]
  have HK0 := hid (Blk.newAt w1 3 (Vals (remT cs N 0)) w1.heap.size rfl)
  have HB0 := hid (below_alloc HB.out (.cells (Vals (remT cs N 0)) 3))
  have HB1 := hid (below_alloc (Below.refl _ w1) (.cells (Vals (remT cs N 0)) 3))
  have hwg : w.heap.size ≤ w1.heap.size := HB.out.size
  obtain ⟨W0, hW0⟩ : ∃ W0, w1.alloc (.cells (Vals (remT cs N 0)) 3) = W0 := ⟨_, rfl⟩
  obtain ⟨G, hG⟩ : ∃ G, w1.heap.size = G := ⟨_, rfl⟩
  rw [hW0] at HK0 HB0 HB1 ⊢
  rw [hG] at HK0 HB1 hwg ⊢
  have HG := hid hG
  clear hW0 hG
  go_loopw [21] (fun i wr => ∃ k : Nat, k ≤ cs.length ∧ i = .int .i64 (k : Int) ∧ Blk wr G 3 (Vals (remT cs N k)) ∧ Below G W0 wr) (fun i _ => cs.length - (intOf i).toNat)
  case atStart => exact ⟨0, Nat.zero_le _, rfl, HK0.out, Below.refl _ _⟩
  case round =>
    obtain ⟨k, hk, rfl, hB, hb⟩ := hrel
    have HK := hid hB
    have Hb := hid hb
    clear hB hb
    by_cases hlt : k < cs.length
    · obtain ⟨b, o, rfl, hbl, hc⟩ := HA.out (by intro h; simp [h] at hlt)
      have hcell := (((HB.out.mono (Nat.le_refl _)).trans ((HB1.out.trans Hb.out).mono hwg)).cell (p := ⟨b, o + k, none⟩) hbl).trans (hc k hlt)
      have ha := HAt.out k hlt
      have hrl : k % N < N := Nat.mod_lt _ (by omega)
      have hm1 := tmod_natC k N
      have hm2 : ((k : Int) % (N : Int)) = ((k % N : Nat) : Int) := by simp
      have HSt := hid (fun r x y z => remT_step (cs := cs) (n := N) (k := k) (r := r) (x := x) (y := y) (z := z))
      obtain ⟨r, hr⟩ : ∃ r, k % N = r := ⟨_, rfl⟩
      rw [hr] at hrl hm1 hm2
      have hxb := HRl.out k hk r
      have hx : wr.cell? ⟨G, r, none⟩ = some (.int .i64 ((remT cs N k).getD r 0)) := by rw [HK.out.cell, Vals_get (by rw [remT_length]; exact hrl)]
      have hfz := HK.out.frozen r
      obtain ⟨x, hxe⟩ : ∃ x, (remT cs N k).getD r 0 = x := ⟨_, rfl⟩
      obtain ⟨y, hye⟩ : ∃ y, cs.getD k 0 = y := ⟨_, rfl⟩
      rw [hxe] at hx hxb
      rw [hye] at hcell ha
      have HS := hid (HSt.out r x y (x + y) hr hxe hye rfl)
      have hz3 : ¬ (N : Int) = 0 := by omega
      have hz4 : ((N : Int) == 0) = false := by rw [beq_eq_false_iff_ne]; omega
      have hz5 : (0 : Int) < (N : Int) := by omega
      have hxy : IntKind.i64.wrap (x + y) = x + y := IntWalk.i64_in _ (by omega)
      have hrI : (r : Int) < (N : Int) := by omega
      have hk1 : k + 1 ≤ cs.length := hlt
      clear hc hxe hye hr HSt hxb ha
      go_wp2
      clear hm1 hm2 hz3 hz4 hxy hcell hx
      go_roundw
      case rel => exact ⟨k + 1, hk1, by go_num, (by rw [HS.out, ← Vals_set]; exact HK.out.set_ r (.int .i64 (x + y))), Hb.out.setCell (p := ⟨G, r, none⟩) (Nat.le_refl _) _⟩
      case measure => simp [intOf]; omega
    · have hE := hid (show k = cs.length by omega)
      have HOw := hid (HK.out.own (xs := remT cs N k) (B := w.heap.size) hwg (by rw [remT_length]; omega))
      rw [remT_length, hE.out] at HOw
      go_wp2
      go_ret2
      exact ⟨_, ret_vbQ HO.out.symm, (by rw [HAn.out]; exact HOw.out), HL.out, HB0.out.trans (Hb.out.mono hwg)⟩
set_option maxHeartbeats 1600000 in
theorem specRemaindersOf_any (v : Value) (cs : List Int) (n : Int) (w : World) (hv : Ints w v cs) (hl : cs.length ≤ 1048576) (wn : (Lit.int .i64 n).wf = true) :
    Calls Try.prog 17 #[v, .int .i64 n] w fun (r : Ending) w' => ∃ u, r = Ending.returned (.tuple #[u, .bool (okRM cs n)]) ∧ OwnI 3 w' w.heap.size u (ansRM cs n) ∧ (ansRM cs n).length ≤ 1048576 ∧ Below w.heap.size w w' := by
  have HL := hid (ansRM_length cs n)
  have HI1 := hid (fun W => l1In_any (cs.length : Int) 1 100 W)
  have HI2 := hid (fun W (hW : Ints W v cs) => l1AllB_any v cs 0 1000000 W hW hl)
  have HI3 : Hid (∀ W, Calls Try.prog 34 #[.int .i64 n, .int .i64 1, .int .i64 60] W fun r w' => r = .returned (.bool (tnB n)) ∧ W = w') := hid (fun W => l1In_any n 1 60 W)
  have HV := hid hv
  obtain ⟨A, c, rfl, hA⟩ := hv
  have HA := hid hA
  clear wn hA
  cases hc : (decide (1 ≤ (cs.length : Int)) && decide ((cs.length : Int) ≤ 100))
  · have HO := hid (okRM_no1 (n := n) hc)
    have HN := hid (ansRM_no HO.out)
    rw [hc] at HI1
    clear hc
    go_enter Try.func17, Try.ntmps17
    go_wp2_with fail
    refine (HI1.out _).mono ?_
    rintro e w1 ⟨rfl, rfl⟩
    go_wp2
    go_ret2
    exact ⟨_, ret_vbQ HO.out.symm, by rw [HN.out]; exact OwnI.nil _ _ _, HL.out, Below.refl _ _⟩
  cases ha : allB 0 1000000 cs
  · have HO := hid (okRM_no2 (n := n) ha)
    have HN := hid (ansRM_no HO.out)
    rw [hc] at HI1
    rw [ha] at HI2
    clear hc ha
    go_enter Try.func17, Try.ntmps17
    go_wp2_with fail
    refine (HI1.out _).mono ?_
    rintro e w1 ⟨rfl, rfl⟩
    go_wp2_with fail
    refine (HI2.out _ HV.out).mono ?_
    rintro e w1 ⟨rfl, rfl⟩
    go_wp2
    go_ret2
    exact ⟨_, ret_vbQ HO.out.symm, by rw [HN.out]; exact OwnI.nil _ _ _, HL.out, Below.refl _ _⟩
  cases ht : tnB n
  · have HO := hid (okRM_no3 (cs := cs) ht)
    have HN := hid (ansRM_no HO.out)
    rw [hc] at HI1
    rw [ha] at HI2
    rw [ht] at HI3
    clear hc ha ht
    go_enter Try.func17, Try.ntmps17
    go_wp2_with fail
    refine (HI1.out _).mono ?_
    rintro e w1 ⟨rfl, rfl⟩
    go_wp2_with fail
    refine (HI2.out _ HV.out).mono ?_
    rintro e w1 ⟨rfl, rfl⟩
    go_wp2_with fail
    refine (HI3.out _).mono ?_
    rintro e w1 ⟨rfl, rfl⟩
    go_wp2
    go_ret2
    exact ⟨_, ret_vbQ HO.out.symm, by rw [HN.out]; exact OwnI.nil _ _ _, HL.out, Below.refl _ _⟩
  obtain ⟨N, rfl, hn1, hn2⟩ := tnB_nat ht
  have HO := hid (okRM_yes hc ha ht)
  have HAn := hid (ansRM_yes HO.out)
  rw [hc] at HI1
  rw [ha] at HI2
  rw [ht] at HI3
  simp only [Bool.and_eq_true, decide_eq_true_eq] at hc
  obtain ⟨hc1, hc2⟩ := hc
  have HAt : ∀ j, j < cs.length → 0 ≤ cs.getD j 0 ∧ cs.getD j 0 ≤ 1000000 := fun j hj => allB_at ha hj
  have HRl := hid (fun k hk j => remT_le (n := N) HAt k hk j)
  have HAt := hid HAt
  have hmk := run_make_row' (P := Try.prog) 22 3 (.int .i64 0) 8 Try.underlying22 Try.info3 rfl .i64 .i64 N (by omega) (by omega)
  have Hmk := hid hmk
  have HZ0 : Hid (madeCells #[.int .i64 0] N = Vals (remT cs N 0)) := hid (by rw [Vals_made]; rfl)
  clear ht ha hmk
  go_enter Try.func17, Try.ntmps17
  go_wp2_with fail
  refine (HI1.out _).mono ?_
  rintro e w1 ⟨rfl, rfl⟩
  go_wp2_with fail
  refine (HI2.out _ HV.out).mono ?_
  rintro e w1 ⟨rfl, rfl⟩
  go_wp2_with fail
  refine (HI3.out _).mono ?_
  rintro e w1 ⟨rfl, rfl⟩
  have hmk := Hmk.out
  go_wp2
  clear hmk
  rw [HZ0.out]
  have HK0 := hid (Blk.newAt w 3 (Vals (remT cs N 0)) w.heap.size rfl)
  have HB1 := hid (below_alloc (Below.refl _ w) (.cells (Vals (remT cs N 0)) 3))
  obtain ⟨W0, hW0⟩ : ∃ W0, w.alloc (.cells (Vals (remT cs N 0)) 3) = W0 := ⟨_, rfl⟩
  rw [hW0] at HK0 HB1 ⊢
  obtain ⟨G, hG⟩ : ∃ G, w.heap.size = G := ⟨_, rfl⟩
  rw [hG] at HK0 HB1 ⊢
  have HGe := hid hG
  clear hW0 hG
  go_loopw [27] (fun i wr => ∃ k : Nat, k ≤ cs.length ∧ i = .int .i64 (k : Int) ∧ Blk wr G 3 (Vals (remT cs N k)) ∧ Below G W0 wr) (fun i _ => cs.length - (intOf i).toNat)
  case atStart => exact ⟨0, Nat.zero_le _, rfl, HK0.out, Below.refl _ _⟩
  case round =>
    obtain ⟨k, hk, rfl, hB, hb⟩ := hrel
    have HK := hid hB
    have Hb := hid hb
    clear hB hb
    by_cases hlt : k < cs.length
    · obtain ⟨b, o, rfl, hbl, hc⟩ := HA.out (by intro h; simp [h] at hlt)
      have hcell := ((HB1.out.trans Hb.out).cell (p := ⟨b, o + k, none⟩) (by rw [← HGe.out]; exact hbl)).trans (hc k hlt)
      have ha := HAt.out k hlt
      have hrl : k % N < N := Nat.mod_lt _ (by omega)
      have hm1 := tmod_natC k N
      have hm2 : ((k : Int) % (N : Int)) = ((k % N : Nat) : Int) := by simp
      have HSt := hid (fun r x y z => remT_step (cs := cs) (n := N) (k := k) (r := r) (x := x) (y := y) (z := z))
      obtain ⟨r, hr⟩ : ∃ r, k % N = r := ⟨_, rfl⟩
      rw [hr] at hrl hm1 hm2
      have hxb := HRl.out k hk r
      have hx : wr.cell? ⟨G, r, none⟩ = some (.int .i64 ((remT cs N k).getD r 0)) := by rw [HK.out.cell, Vals_get (by rw [remT_length]; exact hrl)]
      have hfz := HK.out.frozen r
      obtain ⟨x, hxe⟩ : ∃ x, (remT cs N k).getD r 0 = x := ⟨_, rfl⟩
      obtain ⟨y, hye⟩ : ∃ y, cs.getD k 0 = y := ⟨_, rfl⟩
      rw [hxe] at hx hxb
      rw [hye] at hcell ha
      have HS := hid (HSt.out r x y (x + y) hr hxe hye rfl)
      have hz3 : ¬ (N : Int) = 0 := by omega
      have hz4 : ((N : Int) == 0) = false := by rw [beq_eq_false_iff_ne]; omega
      have hz5 : (0 : Int) < (N : Int) := by omega
      have hxy : IntKind.i64.wrap (x + y) = x + y := IntWalk.i64_in _ (by omega)
      have hrI : (r : Int) < (N : Int) := by omega
      have hk1 : k + 1 ≤ cs.length := hlt
      clear hc hxe hye hr HSt hxb ha
      go_wp2
      clear hm1 hm2 hz3 hz4 hxy hcell hx
      go_roundw
      case rel => exact ⟨k + 1, hk1, by go_num, (by rw [HS.out, ← Vals_set]; exact HK.out.set_ r (.int .i64 (x + y))), Hb.out.setCell (p := ⟨G, r, none⟩) (Nat.le_refl _) _⟩
      case measure => simp [intOf]; omega
    · have hE := hid (show k = cs.length by omega)
      have HOw := hid (HK.out.own (xs := remT cs N k) (B := G) (Nat.le_refl _) (by rw [remT_length]; omega))
      rw [remT_length, hE.out] at HOw
      go_wp2
      go_ret2
      exact ⟨_, ret_vbQ HO.out.symm, (by rw [HGe.out, HAn.out]; exact HOw.out), HL.out, (by rw [HGe.out]; exact HB1.out.trans Hb.out)⟩
end Go.Proofs.Ytnlehkjfidpdlaa
