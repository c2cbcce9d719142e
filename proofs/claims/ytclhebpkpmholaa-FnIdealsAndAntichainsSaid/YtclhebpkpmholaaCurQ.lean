/- The model's cursor of draws: posets that may be spoilt. -/
import Derived.Test.YtclhebpkpmholaaCurP
import Derived.Test.YtclhebpkpmholaaOwnF
namespace Go.Proofs.Ytclhebpkpmholaa
open Go.RowKit Go.WideShapes Go.ChangeShapes
set_option linter.unusedVariables false

theorem Blk.newDrew (w : World) (t : TypeId) (cs : Array Value) : Blk (w.alloc (.cells cs t)).drew w.heap.size t cs := Blk.new w t cs
set_option maxHeartbeats 3200000 in
theorem poset_any (g A most : Nat) (w : World) (h : Cur w g A) (hA : A < 800000000000) (hm1 : 1 ≤ most) (hm : most ≤ 10) :
    Calls Try.prog 113 #[.pointer (some ⟨g, 0, none⟩), .int .i64 most] w fun (r : Ending) w' => ∃ u xs, r = .returned (.agg #[u]) ∧ OwnI 3 w' w.heap.size u xs ∧ xs.length ≤ 21 ∧ Drawn w g (A + 210) w' := by
  have HC := hid h
  have hgl := h.lt
  clear h
  go_enter Try.func113, Try.ntmps113
  go_wp2_with fail
  have HD0 := hid ((Drawn.mk HC.out (TurnedIn.refl _ _ _)).below (below_alloc (Below.refl _ w) (.cells #[.slice none 0 0] 26)))
  have HA0 := hid (Blk.new w 26 #[.slice none 0 0])
  refine (surePoset_any g A most _ HD0.out.cur (by omega) hm1 hm).mono ?_
  rintro e w1 ⟨u1, xs, rfl, ho, hl1, hl2, hd1⟩
  have HD1 := hid (Drawn.mk hd1.cur (HD0.out.turned.trans hd1.turned))
  have HA1 := hid (HA0.out.turned hd1.turned (Or.inr (by omega)))
  have HO1 := hid ho
  have hz1 : w.heap.size + 1 ≤ w1.heap.size := by have := hd1.turned.size; simpa using this
  clear ho hd1 HD0 HA0
  obtain ⟨B5, hB5⟩ : ∃ B5, w1.heap.size = B5 := ⟨_, rfl⟩
  obtain ⟨uA, un, uc, rfl⟩ := HO1.out.shape3
  have hbox := (Blk.new w1 26 #[.slice uA un uc]).cell 0
  go_wp2_with fail
  have HD2 := hid (HD1.out.below (below_alloc (Below.refl _ w1) (.cells #[.slice uA un uc] 26)))
  have HA2 := hid (HA1.out.alloc (.cells #[.slice uA un uc] 26))
  have HB2 := hid (Blk.new w1 26 #[.slice uA un uc])
  have HO2 := hid (HO1.out.alloc (.cells #[.slice uA un uc] 26))
  clear hbox HD1 HA1
  refine (l1Own_any _ xs _ HO2.out.ints (by omega)).mono ?_
  rintro e w3 ⟨u3, rfl, ho3, hb3⟩
  rw [hB5] at HB2
  have HD3 := hid (HD2.out.below hb3)
  have HA3 := hid (HA2.out.below hb3 HA2.out.lt)
  have HB3 := hid (HB2.out.below hb3 HB2.out.lt)
  have HO3 := hid (ho3.mono (show B5 + 1 ≤ _ by simp; omega))
  clear ho3 hb3 HD2 HA2 HB2 HO2 HO1
  obtain ⟨vA, vc, rfl, hv⟩ := HO3.out.shape
  obtain ⟨q, rfl, hq1, hq2⟩ := hv (by rintro rfl; simp at hl1)
  have t1 := HB3.out.cell 0
  have t2 := HB3.out.frozen 0
  go_wp2_with fail
  have HD4 := hid (HD3.out.box hgl ⟨B5, 0, none⟩ (by show w.heap.size ≤ B5; omega) (.slice (some ⟨q, 0, none⟩) xs.length vc))
  have HA4 := hid (HA3.out.far (p := ⟨B5, 0, none⟩) (by show w.heap.size ≠ B5; omega) (.slice (some ⟨q, 0, none⟩) xs.length vc))
  have HB4 : Hid (Blk (w3.setCell ⟨B5, 0, none⟩ (.slice (some ⟨q, 0, none⟩) xs.length vc)) B5 26 #[.slice (some ⟨q, 0, none⟩) xs.length vc]) := hid (HB3.out.set_ 0 (.slice (some ⟨q, 0, none⟩) xs.length vc))
  have HO4 := hid (HO3.out.turnedLow ((TurnedIn.refl B5 (B5 + 1) w3).set_ ⟨B5, 0, none⟩ ⟨Nat.le_refl _, Nat.lt_succ_self _⟩ (.slice (some ⟨q, 0, none⟩) xs.length vc)) (Nat.le_refl _))
  generalize w3.setCell ⟨B5, 0, none⟩ (.slice (some ⟨q, 0, none⟩) xs.length vc) = w4 at HD4 HA4 HB4 HO4 ⊢
  clear t1 t2 HD3 HA3 HB3 HO3
  refine (pick_any g (A + 200) 20 _ HD4.out.cur (by omega)).mono ?_
  rintro e w5 ⟨m, hm20, rfl, hc5, ht5⟩
  have HD5 := hid (Drawn.mk hc5 (HD4.out.turned.trans ht5))
  have HA5 := hid (HA4.out.turned ht5 (Or.inr (by omega)))
  have HB5 := hid (HB4.out.turned ht5 (Or.inr (by omega)))
  have HO5 := hid (HO4.out.turnedLow ht5 (by omega))
  clear hc5 ht5 HD4 HA4 HB4 HO4
  rcases (by omega : m = 0 ∨ m = 1 ∨ m = 2 ∨ 3 ≤ m) with rfl | rfl | rfl | hm3
  · clear hm20
    have t1 := HB5.out.cell 0
    go_wp2_with fail
    refine (pick_any g (A + 202) _ _ HD5.out.cur (by omega)).mono ?_
    rintro e w6 ⟨i, hi, rfl, hc6, ht6⟩
    have HD6 := hid (Drawn.mk hc6 (HD5.out.turned.trans ht6))
    have HA6 := hid (HA5.out.turned ht6 (Or.inr (by omega)))
    have HB6 := hid (HB5.out.turned ht6 (Or.inr (by omega)))
    have HO6 := hid (HO5.out.turnedLow ht6 (by omega))
    have hil : i < xs.length := by omega
    clear hc6 ht6 HD5 HA5 HB5 HO5 t1 hi
    have t1 := HB6.out.cell 0
    have hgw := HD6.out.cur.lt
    have hB5w := HB6.out.lt
    have t4 : (w6.alloc (.cells #[.int .i64 (-1), .int .i64 1, .int .i64 3, .int .i64 (IntKind.i64.wrap ((2 : Int) ^ i)), .int .i64 4611686018427387904] 3)).cell? ⟨B5, 0, none⟩ = some (.slice (some ⟨q, 0, none⟩) xs.length vc) := (HB6.out.alloc _).cell 0
    obtain ⟨z, hz⟩ : ∃ z : Int, IntKind.i64.wrap ((2 : Int) ^ i) = z := ⟨_, rfl⟩
    go_wp2
    go_region_with (go_at_call 129; refine (among_any g (A + 204) _ [-1, 1, 3, z, 4611686018427387904] _ (HD6.out.cur.below (below_drewN (below_alloc (Below.refl _ _) _) 1)) (by omega) ⟨_, Blk.newDrew w6 _ _, by omega, rfl⟩ (by simp) (by simp)).mono ?_; rintro e w8 ⟨m2, hm2, rfl, hc8, ht8⟩; have HD8 := hid (Drawn.mk hc8 ((HD6.out.below (below_drewN (below_alloc (Below.refl _ _) _) 1)).turned.trans ht8)); have HA8 := hid ((HA6.out.below (below_drewN (below_alloc (Below.refl _ _) _) 1) HA6.out.lt).turned ht8 (Or.inr (by omega))); have HB8 := hid ((HB6.out.below (below_drewN (below_alloc (Below.refl _ _) _) 1) HB6.out.lt).turned ht8 (Or.inr (by omega))); have HO8 := hid ((HO6.out.below (below_drewN (below_alloc (Below.refl _ _) _) 1)).turnedLow ht8 (by omega)); have t3 := HB8.out.cell 0; obtain ⟨y, hy⟩ : ∃ y, [-1, 1, 3, z, 4611686018427387904].getD m2 0 = y := ⟨_, rfl⟩; rw [hy]; obtain ⟨q', e1, -, -, -, hc9, hf9, hs9⟩ := HO8.out.cellF hil; obtain rfl : q = q' := (by simpa using e1); have HS9 := hid hs9; clear hc8 ht8 hm2 hy e1 hs9)
    all_goals
      have a1 := HA8.out.cell 0
      have a2 := HA8.out.frozen 0
      have a3 : w.heap.size ≠ q := by omega
      have a4 : B5 ≠ q := by omega
      have b1 : (w8.setCell ⟨q, i, none⟩ (.int .i64 y)).cell? ⟨w.heap.size, 0, none⟩ = some (.slice none 0 0) := (HA8.out.far (p := ⟨q, i, none⟩) a3 _).cell 0
      go_wp2
    all_goals
      refine bodyPost_ret (v := .agg #[.slice (some ⟨q, 0, none⟩) xs.length vc]) (by simp [results, Try.results113, go_sem, b1]) rfl ⟨_, xs.set i y, rfl, (HS9.out y).box (by omega) _, by simp; omega, ((HD8.out.box hgl ⟨q, i, none⟩ (by show w.heap.size ≤ q; omega) _).box hgl _ (Nat.le_refl _) _).le (by omega)⟩
  · clear hm20
    have t1 := HB5.out.cell 0
    have t2 := HB5.out.frozen 0
    have a1 := HA5.out.cell 0
    have a2 := HA5.out.frozen 0
    have a3 : w.heap.size ≠ B5 := by omega
    have b1 : (w5.setCell ⟨B5, 0, none⟩ (.slice none 0 0)).cell? ⟨w.heap.size, 0, none⟩ = some (.slice none 0 0) := (HA5.out.far (p := ⟨B5, 0, none⟩) a3 _).cell 0
    go_wp2
    refine bodyPost_ret (v := .agg #[.slice none 0 0]) (by simp [results, Try.results113, go_sem, b1]) rfl ⟨_, [], rfl, OwnI.nil _ _ _, by simp, ((HD5.out.box hgl ⟨B5, 0, none⟩ (by show w.heap.size ≤ B5; omega) _).box hgl _ (Nat.le_refl _) _).le (by omega)⟩
  · clear hm20
    have t1 := HB5.out.cell 0
    go_wp2
    clear t1
    go_loopw [7] (fun i wr => ∃ (t : Nat) (ys : List Int) (v : Value), t ≤ 11 ∧ i = .int .i64 t ∧ ys.length + 11 ≤ 21 + t ∧ OwnI 3 wr (B5 + 1) v ys ∧ Drawn w g (A + 202) wr ∧ Blk wr w.heap.size 26 #[.slice none 0 0] ∧ Blk wr B5 26 #[v]) (fun i _ => 11 - (intOf i).toNat)
    case atStart => exact ⟨0, xs, _, by omega, rfl, by omega, HO5.out, HD5.out, HA5.out, HB5.out⟩
    case round =>
      obtain ⟨t, ys, v, ht, rfl, hys, ho, hd, ha, hb⟩ := hrel
      have HO := hid ho
      have HD := hid hd
      have HA := hid ha
      have HB := hid hb
      obtain ⟨yA, yn, yc, rfl⟩ := ho.shape3
      have hBl := hb.lt
      clear ho hd ha hb
      have t1 := HB.out.cell 0
      have t2 := HB.out.frozen 0
      by_cases hlt : t < 11
      · go_wp2_with (at_builtin; refine wpList_append_int rfl _ _ 24 3 rfl Try.underlying24 Try.info3 (B5 + 1) _ ys 0 rfl HO.out rfl rfl (by omega) (by omega) ?_; intro v2 w7 ho7 hb7; obtain ⟨y2A, y2n, y2c, rfl⟩ := ho7.shape3; have HB7 := hid (HB.out.below hb7 (Nat.lt_succ_self _)); have c1 := HB7.out.cell 0; have c2 := HB7.out.frozen 0; have HO7 := hid ho7; have HA7 := hid (HA.out.below hb7 (by omega)); have HD7 := hid (HD.out.belowB hb7 (by omega) (by omega)); clear ho7 hb7 t1 t2)
        go_roundw
        case rel => exact ⟨t + 1, ys ++ [0], _, by omega, by go_num, by (rw [List.length_append, List.length_singleton]; omega), HO7.out.turnedLow ((TurnedIn.refl B5 (B5 + 1) w7).set_ ⟨B5, 0, none⟩ ⟨Nat.le_refl _, Nat.lt_succ_self _⟩ _) (Nat.le_refl _), HD7.out.box hgl ⟨B5, 0, none⟩ (by show w.heap.size ≤ B5; omega) _, HA7.out.far (p := ⟨B5, 0, none⟩) (by show w.heap.size ≠ B5; omega) _, HB7.out.set_ 0 _⟩
        case measure => simp [intOf]; omega
      · have a1 := HA.out.cell 0
        have a2 := HA.out.frozen 0
        go_wp2
        refine bodyPost_ret (v := .agg #[.slice yA yn yc]) (by simp [results, Try.results113, go_sem, a1]) rfl ⟨_, ys, rfl, HO.out.box (by omega) _, by omega, (HD.out.box hgl _ (Nat.le_refl _) _).le (by omega)⟩
  · have t1 := HB5.out.cell 0
    have a1 := HA5.out.cell 0
    have a2 := HA5.out.frozen 0
    go_wp2
    refine bodyPost_ret (v := .agg #[.slice (some ⟨q, 0, none⟩) xs.length vc]) (by simp [results, Try.results113, go_sem, a1]) rfl ⟨_, xs, rfl, HO5.out.box (by omega) _, by omega, (HD5.out.box hgl _ (Nat.le_refl _) _).le (by omega)⟩
end Go.Proofs.Ytclhebpkpmholaa
