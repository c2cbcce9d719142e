/- KnownPosets: the walk of the law (made by tools/genkn.py). -/
import Derived.Test.YtclhebpkpmholaaByt
import Derived.Test.YtclhebpkpmholaaKn
import Derived.Test.YtclhebpkpmholaaLwN
namespace Go.Proofs.Ytclhebpkpmholaa
open Go.RowKit Go.WideShapes Go.ChangeShapes
set_option linter.unusedVariables false
theorem bytes_at {w W : World} {v : Value} {bs : List Int} (h : BytesB w w.heap.size v bs) (hb : Below w.heap.size w W) : BytesB W W.heap.size v bs := (h.below hb).up hb.size
end Go.Proofs.Ytclhebpkpmholaa
namespace Go.Proofs.Ytclhebpkpmholaa.lawKnownPosets
open Go.RowKit Go.WideShapes Go.ChangeShapes
set_option linter.unusedVariables false
set_option maxRecDepth 100000 in
set_option maxHeartbeats 6400000 in
theorem walk (v0 : Value) (xs0 : List Int) (v1 : Value) (xs1 : List Int) (w : World) (hb0 : BytesB w w.heap.size v0 xs0) (hl0 : xs0.length ≤ maxLen) (hb1 : BytesB w w.heap.size v1 xs1) (hl1 : xs1.length ≤ maxLen) :
    Calls Try.prog 6 #[v0, v1] w fun (r : Ending) w' => r = .returned (.bool true) ∧ Below w.heap.size w w' := by
  have HY0 := hid hb0
  have HY1 := hid hb1
  obtain ⟨A0, c0, rfl, -⟩ := hb0
  obtain ⟨A1, c1, rfl, -⟩ := hb1
  have HL0 := hid hl0
  have HL1 := hid hl1
  unfold maxLen at hl0 hl1
  go_enter Try.func6, Try.ntmps6
  by_cases hbig : 1048576 < xs0.length + xs1.length
  · go_wp2_with fail
    refine (big_any _ _ xs0 xs1 _ HY0.out HY1.out HL0.out HL1.out).mono ?_
    rintro e w1 ⟨rfl, rfl⟩
    rw [decide_eq_true hbig]
    go_wp2
    go_ret
    exact ⟨rfl, Below.refl _ _⟩
  · go_wp2_with fail
    refine (big_any _ _ xs0 xs1 _ HY0.out HY1.out HL0.out HL1.out).mono ?_
    rintro e w1 ⟨rfl, rfl⟩
    rw [decide_eq_false hbig]
    have HS := hid (show xs0.length ≤ 1048576 ∧ xs1.length ≤ 1048576 by omega)
    clear hbig hl0 hl1
    go_wp2_with fail
    refine (drawRectangle_any _ xs0 _ HY0.out HS.out.1).mono ?_
    rintro e w1 ⟨a, b, rfl, wa, wb, hb1⟩
    have HB := hid hb1
    clear hb1
    cases hs : sides a b
    · skip
      go_wp2_with fail
      refine (implRectangle_any a b _ wa wb).mono ?_
      rintro e w2 ⟨u, rfl, ho, hl, hb2⟩
      rw [hs]
      have HB2 := hid (below_to HB.out hb2)
      have HO2 := hid ho.ints
      obtain ⟨uA, uc, rfl, -⟩ := ho.ints
      obtain ⟨un, hun⟩ : ∃ un, (rectL a b).length = un := ⟨_, rfl⟩
      rw [hun] at HO2 ⊢
      have HUn := hid hun
      clear hun
      obtain ⟨B7, hB7⟩ : ∃ B7, w2.heap.size = B7 := ⟨_, rfl⟩
      clear ho hb2 HB
      go_wp2_with fail
      have HK3 : Hid (Blk (w2.alloc (.cells #[.slice uA un uc] 26)) B7 26 #[.slice uA un uc]) := hid (by rw [← hB7]; exact Blk.new w2 _ _)
      have HB3 := hid (below_alloc HB2.out (.cells #[.slice uA un uc] 26))
      have HO3 := hid (HO2.out.alloc (.cells #[.slice uA un uc] 26))
      clear HB2 HO2
      refine (specRectangle_any a b _ wa wb).mono ?_
      rintro e w4 ⟨x4, rfl, ho4, -, hb4⟩
      rw [hs]
      have HB4 := hid (below_to HB3.out hb4)
      have HO4 := hid (HO3.out.below hb4)
      have HK4 := hid (HK3.out.below hb4 HK3.out.lt)
      have HX4 := hid ho4.ints
      obtain ⟨xA, xn, xc, rfl⟩ := ho4.shape3
      obtain ⟨B9, hB9⟩ : ∃ B9, w4.heap.size = B9 := ⟨_, rfl⟩
      clear ho4 hb4 HB3 HO3 HK3 hB7
      have HK5 : Hid (Blk (w4.alloc (.cells #[.slice xA xn xc] 26)) B9 26 #[.slice xA xn xc]) := hid (by rw [← hB9]; exact Blk.new w4 _ _)
      have HJ5 := hid (HK4.out.alloc (.cells #[.slice xA xn xc] 26))
      have HB5 := hid (below_alloc HB4.out (.cells #[.slice xA xn xc] 26))
      have HO5 := hid (HO4.out.alloc (.cells #[.slice xA xn xc] 26))
      have HX5 := hid (HX4.out.alloc (.cells #[.slice xA xn xc] 26))
      have t1 := HK5.out.cell 0
      have t2 := HJ5.out.cell 0
      clear HB4 HO4 HK4 HX4 hB9
      go_wp2_with (go_at_call 74; refine (nPoset_any _ _ (rectL a b) _ HO5.out HX5.out hl).mono ?_; rintro e w6 ⟨rfl, hb6⟩; have HB := hid (below_to HB5.out hb6); have HO := hid (HO5.out.below hb6); have HK := hid (HJ5.out.below hb6 HJ5.out.lt); clear hb6 t1 t2 HB5 HO5 HJ5 HX5 HK5; have t0 := HK.out.cell 0)
      clear hl t0
      go_wp2_with fail
      refine (drawStaircase_any _ xs1 _ (bytes_at HY1.out HB.out) HS.out.2).mono ?_
      rintro e w20 ⟨n, rfl, hn1, hn2, hb20⟩
      replace HB := hid (below_to HB.out hb20)
      clear hb20
      by_cases hok : 1 ≤ n ∧ n ≤ 4
      · obtain ⟨m, rfl⟩ := Int.eq_ofNat_of_zero_le (by omega : 0 ≤ n)
        have hm1 : 1 ≤ m := by omega
        have hm4 : m ≤ 4 := by omega
        have hs : (decide (1 ≤ (m : Int)) && decide ((m : Int) ≤ 4)) = true := by simp; omega
        have HG := hid (kn_st m hm1 hm4)
        go_wp2_with fail
        refine (implStaircase_any (m : Int) _ (wf_i64 m (by omega) (by omega))).mono ?_
        rintro e w2 ⟨u, rfl, ho, hl, hb2⟩
        rw [hs]
        have HB2 := hid (below_to HB.out hb2)
        have HO2 := hid ho.ints
        obtain ⟨uA, uc, rfl, -⟩ := ho.ints
        obtain ⟨un, hun⟩ : ∃ un, (stcL (m : Int)).length = un := ⟨_, rfl⟩
        rw [hun] at HO2 ⊢
        have HUn := hid hun
        clear hun
        obtain ⟨B7, hB7⟩ : ∃ B7, w2.heap.size = B7 := ⟨_, rfl⟩
        clear ho hb2 HB
        go_wp2_with fail
        have HK3 : Hid (Blk (w2.alloc (.cells #[.slice uA un uc] 26)) B7 26 #[.slice uA un uc]) := hid (by rw [← hB7]; exact Blk.new w2 _ _)
        have HB3 := hid (below_alloc HB2.out (.cells #[.slice uA un uc] 26))
        have HO3 := hid (HO2.out.alloc (.cells #[.slice uA un uc] 26))
        clear HB2 HO2
        refine (specStaircase_any (m : Int) _ (wf_i64 m (by omega) (by omega))).mono ?_
        rintro e w4 ⟨x4, rfl, ho4, -, hb4⟩
        rw [hs]
        have HB4 := hid (below_to HB3.out hb4)
        have HO4 := hid (HO3.out.below hb4)
        have HK4 := hid (HK3.out.below hb4 HK3.out.lt)
        have HX4 := hid ho4.ints
        obtain ⟨xA, xn, xc, rfl⟩ := ho4.shape3
        obtain ⟨B9, hB9⟩ : ∃ B9, w4.heap.size = B9 := ⟨_, rfl⟩
        clear ho4 hb4 HB3 HO3 HK3 hB7
        have HK5 : Hid (Blk (w4.alloc (.cells #[.slice xA xn xc] 26)) B9 26 #[.slice xA xn xc]) := hid (by rw [← hB9]; exact Blk.new w4 _ _)
        have HJ5 := hid (HK4.out.alloc (.cells #[.slice xA xn xc] 26))
        have HB5 := hid (below_alloc HB4.out (.cells #[.slice xA xn xc] 26))
        have HO5 := hid (HO4.out.alloc (.cells #[.slice xA xn xc] 26))
        have HX5 := hid (HX4.out.alloc (.cells #[.slice xA xn xc] 26))
        have t1 := HK5.out.cell 0
        have t2 := HJ5.out.cell 0
        clear HB4 HO4 HK4 HX4 hB9
        go_wp2_with (go_at_call 74; refine (nPoset_any _ _ (stcL (m : Int)) _ HO5.out HX5.out hl).mono ?_; rintro e w6 ⟨rfl, hb6⟩; have HB := hid (below_to HB5.out hb6); have HO := hid (HO5.out.below hb6); have HK := hid (HJ5.out.below hb6 HJ5.out.lt); clear hb6 t1 t2 HB5 HO5 HJ5 HX5 HK5; have t0 := HK.out.cell 0)
        refine (implCountIdeals_any _ (stcL (m : Int)) _ HO.out hl).mono ?_
        rintro e w8 ⟨rfl, hb8⟩
        have HB8 := hid (below_to HB.out hb8)
        have HO8 := hid (HO.out.below hb8)
        have HK8 := hid (HK.out.below hb8 HK.out.lt)
        clear hb8 HB HO HK t0
        have t8 := HK8.out.cell 0
        rw [show ((idealsL (stcL (m : Int))).length) = syN (m + 1) from HG.out.1, HG.out.2.2]
        obtain ⟨P, hP⟩ : ∃ P, m * (m + 1) = P := ⟨_, rfl⟩
        have hP2 : P = 2 * un := by have h := HG.out.2.1; rw [HUn.out, hP] at h; omega
        have hP20 : P ≤ 4 * 5 := by rw [← hP]; exact Nat.mul_le_mul hm4 (by omega)
        have HP : Hid ((m : Int) * ((m : Int) + 1) = (P : Int)) := hid (by rw [← hP, Int.natCast_mul, Int.natCast_add]; rfl)
        have HP2 : Hid ((P : Int) / 2 = (un : Int)) := hid (by omega)
        clear hP hP2 hs hok hl
        go_wp2
        go_loop [28, 29] (fun q i => ∃ k : Nat, k ≤ m + 1 ∧ i = .int .i64 (k : Int) ∧ q = .int .i64 (syN k)) (fun _ i => m + 1 - (intOf i).toNat)
        case atStart => exact ⟨0, Nat.zero_le _, rfl, rfl⟩
        case round =>
          obtain ⟨k, hk, rfl, rfl⟩ := hrel
          have hX := kn_sy k (by omega)
          by_cases hlt : k ≤ m
          · have hY := kn_sy (k + 1) (by omega)
            have hst : syN (k + 1) = syN k * 2 * (2 * k + 1) / (k + 2) := rfl
            obtain ⟨X, hXe⟩ : ∃ X, syN k = X := ⟨_, rfl⟩
            obtain ⟨Y, hYe⟩ : ∃ Y, syN (k + 1) = Y := ⟨_, rfl⟩
            rw [hXe] at hX hst ⊢
            rw [hYe] at hY hst
            obtain ⟨Z, hZ⟩ : ∃ Z, X * 2 * (2 * k + 1) = Z := ⟨_, rfl⟩
            have hZ2 : Z ≤ 2000 * 11 := by rw [← hZ]; exact Nat.mul_le_mul (by omega) (by omega)
            have e1 : (X : Int) * 2 * (2 * (k : Int) + 1) = (Z : Int) := by rw [← hZ, Int.natCast_mul, Int.natCast_mul, Int.natCast_add, Int.natCast_mul]; rfl
            have e2 : (Z : Int) / ((k : Int) + 2) = (Y : Int) := by rw [hst, hZ, Int.natCast_ediv, Int.natCast_add]; rfl
            have HYe := hid hYe
            clear hXe hYe hZ hst
            go_wp2
            go_round
            case rel => exact ⟨k + 1, by omega, by go_num, by rw [HYe.out]⟩
            case measure => simp [intOf]; omega
          · obtain rfl : k = m + 1 := by omega
            have eP := HP.out
            have eP2 := HP2.out
            obtain ⟨X, hXe⟩ : ∃ X, syN (m + 1) = X := ⟨_, rfl⟩
            rw [hXe] at hX ⊢
            clear hXe
            have HB := HB8
            clear HB8
            go_wp2_with fail
            refine (drawFence_any _ xs1 _ (bytes_at HY1.out HB.out) HS.out.2).mono ?_
            rintro e w30 ⟨z, rfl, hz1, hz2, hb30⟩
            replace HB := hid (below_to HB.out hb30)
            clear hb30
            by_cases hok : 1 ≤ z ∧ z ≤ 10
            · obtain ⟨f, rfl⟩ := Int.eq_ofNat_of_zero_le (by omega : 0 ≤ z)
              have hf1 : 1 ≤ f := by omega
              have hf10 : f ≤ 10 := by omega
              have hs : (decide (1 ≤ (f : Int)) && decide ((f : Int) ≤ 10)) = true := by simp; omega
              have HG := hid (kn_fe f hf1 hf10)
              go_wp2_with fail
              refine (implFence_any (f : Int) _ (wf_i64 f (by omega) (by omega))).mono ?_
              rintro e w2 ⟨u, rfl, ho, hl, hb2⟩
              rw [hs]
              have HB2 := hid (below_to HB.out hb2)
              have HO2 := hid ho.ints
              obtain ⟨uA, uc, rfl, -⟩ := ho.ints
              obtain ⟨un, hun⟩ : ∃ un, (fenceL (f : Int)).length = un := ⟨_, rfl⟩
              rw [hun] at HO2 ⊢
              have HUn := hid hun
              clear hun
              obtain ⟨B7, hB7⟩ : ∃ B7, w2.heap.size = B7 := ⟨_, rfl⟩
              clear ho hb2 HB
              go_wp2_with fail
              have HK3 : Hid (Blk (w2.alloc (.cells #[.slice uA un uc] 26)) B7 26 #[.slice uA un uc]) := hid (by rw [← hB7]; exact Blk.new w2 _ _)
              have HB3 := hid (below_alloc HB2.out (.cells #[.slice uA un uc] 26))
              have HO3 := hid (HO2.out.alloc (.cells #[.slice uA un uc] 26))
              clear HB2 HO2
              refine (specFence_any (f : Int) _ (wf_i64 f (by omega) (by omega))).mono ?_
              rintro e w4 ⟨x4, rfl, ho4, -, hb4⟩
              rw [hs]
              have HB4 := hid (below_to HB3.out hb4)
              have HO4 := hid (HO3.out.below hb4)
              have HK4 := hid (HK3.out.below hb4 HK3.out.lt)
              have HX4 := hid ho4.ints
              obtain ⟨xA, xn, xc, rfl⟩ := ho4.shape3
              obtain ⟨B9, hB9⟩ : ∃ B9, w4.heap.size = B9 := ⟨_, rfl⟩
              clear ho4 hb4 HB3 HO3 HK3 hB7
              have HK5 : Hid (Blk (w4.alloc (.cells #[.slice xA xn xc] 26)) B9 26 #[.slice xA xn xc]) := hid (by rw [← hB9]; exact Blk.new w4 _ _)
              have HJ5 := hid (HK4.out.alloc (.cells #[.slice xA xn xc] 26))
              have HB5 := hid (below_alloc HB4.out (.cells #[.slice xA xn xc] 26))
              have HO5 := hid (HO4.out.alloc (.cells #[.slice xA xn xc] 26))
              have HX5 := hid (HX4.out.alloc (.cells #[.slice xA xn xc] 26))
              have t1 := HK5.out.cell 0
              have t2 := HJ5.out.cell 0
              clear HB4 HO4 HK4 HX4 hB9
              go_wp2_with (go_at_call 74; refine (nPoset_any _ _ (fenceL (f : Int)) _ HO5.out HX5.out hl).mono ?_; rintro e w6 ⟨rfl, hb6⟩; have HB := hid (below_to HB5.out hb6); have HO := hid (HO5.out.below hb6); have HK := hid (HJ5.out.below hb6 HJ5.out.lt); clear hb6 t1 t2 HB5 HO5 HJ5 HX5 HK5; have t0 := HK.out.cell 0)
              refine (implCountIdeals_any _ (fenceL (f : Int)) _ HO.out hl).mono ?_
              rintro e w8 ⟨rfl, hb8⟩
              have HB8 := hid (below_to HB.out hb8)
              have HO8 := hid (HO.out.below hb8)
              have HK8 := hid (HK.out.below hb8 HK.out.lt)
              clear hb8 HB HO HK t0
              have t8 := HK8.out.cell 0
              rw [show ((idealsL (fenceL (f : Int))).length) = (fbN (f - 1)).2 from HG.out.1, HG.out.2]
              clear hs hok hl
              go_wp2
              go_loop [37, 38, 39] (fun p q i => ∃ k : Nat, k + 1 ≤ f ∧ i = .int .i64 ((k : Int) + 1) ∧ p = .int .i64 (fbN k).1 ∧ q = .int .i64 (fbN k).2) (fun _ _ i => f + 1 - (intOf i).toNat)
              case atStart => exact ⟨0, hf1, rfl, rfl, rfl⟩
              case round =>
                obtain ⟨k, hk, rfl, rfl, rfl⟩ := hrel
                have hX := kn_fb k (by omega)
                by_cases hlt : k + 1 < f
                · have hst1 : (fbN (k + 1)).1 = (fbN k).2 := rfl
                  have hst2 : (fbN (k + 1)).2 = (fbN k).1 + (fbN k).2 := rfl
                  obtain ⟨X, hXe⟩ : ∃ X, (fbN k).1 = X := ⟨_, rfl⟩
                  obtain ⟨Y, hYe⟩ : ∃ Y, (fbN k).2 = Y := ⟨_, rfl⟩
                  rw [hXe, hYe] at hX ⊢
                  rw [hXe, hYe] at hst2
                  rw [hYe] at hst1
                  have H1 := hid hst1
                  have H2 := hid hst2
                  clear hXe hYe hst1 hst2
                  go_wp2
                  go_round
                  case rel => exact ⟨k + 1, hlt, by go_num, by rw [H1.out], by rw [H2.out, Int.natCast_add]⟩
                  case measure => simp [intOf]; omega
                · obtain rfl : k = f - 1 := by omega
                  obtain ⟨X, hXe⟩ : ∃ X, (fbN (f - 1)).2 = X := ⟨_, rfl⟩
                  rw [hXe] at hX ⊢
                  clear hXe
                  have HB := HB8
                  clear HB8
                  go_wp2_with fail
                  refine (drawHeightsOf_any _ xs1 _ (bytes_at HY1.out HB.out) HS.out.2).mono ?_
                  rintro e w40 ⟨u, ys, rfl, ho, hly, hb40⟩
                  have HB0 := hid (below_to HB.out hb40)
                  have HO0 := hid ho.ints
                  obtain ⟨uA, un, uc, rfl⟩ := ho.shape3
                  obtain ⟨B7, hB7⟩ : ∃ B7, w40.heap.size = B7 := ⟨_, rfl⟩
                  have hl : ys.length ≤ 1048576 := by omega
                  clear ho hb40 HB
                  have HK1 : Hid (Blk (w40.alloc (.cells #[.slice uA un uc] 26)) B7 26 #[.slice uA un uc]) := hid (by rw [← hB7]; exact Blk.new w40 _ _)
                  have HB1 := hid (below_alloc HB0.out (.cells #[.slice uA un uc] 26))
                  have HO1 := hid (HO0.out.alloc (.cells #[.slice uA un uc] 26))
                  have t1 := HK1.out.cell 0
                  clear HB0 HO0
                  go_wp2_with fail
                  refine (implHeightsOf_any _ ys _ HO1.out hl).mono ?_
                  rintro e w41 ⟨h, rfl, ho, hh, hb41⟩
                  have HB2 := hid (below_to HB1.out hb41)
                  have HO2 := hid (HO1.out.below hb41)
                  have HK2 := hid (HK1.out.below hb41 HK1.out.lt)
                  have HH2 := hid ho.ints
                  obtain ⟨hA, hn, hc, rfl⟩ := ho.shape3
                  have t2 := HK2.out.cell 0
                  clear ho hb41 HB1 HO1 HK1 t1 hB7
                  go_wp2_with fail
                  refine (specHeightsOf_any _ ys _ HO2.out hl).mono ?_
                  rintro e w42 ⟨h2, rfl, ho, -, hb42⟩
                  have HB3 := hid (below_to HB2.out hb42)
                  have HO3 := hid (HO2.out.below hb42)
                  have HK3 := hid (HK2.out.below hb42 HK2.out.lt)
                  have HH3 := hid (HH2.out.below hb42)
                  have HX3 := hid ho.ints
                  obtain ⟨xA, xn, xc, rfl⟩ := ho.shape3
                  have t3 := HK3.out.cell 0
                  clear ho hb42 HB2 HO2 HK2 HH2 t2
                  go_wp2_with fail
                  refine (implIsRanked_any _ ys _ HO3.out hl).mono ?_
                  rintro e w43 ⟨rfl, hb43⟩
                  have HB4 := hid (below_to HB3.out hb43)
                  have HO4 := hid (HO3.out.below hb43)
                  have HK4 := hid (HK3.out.below hb43 HK3.out.lt)
                  have HH4 := hid (HH3.out.below hb43)
                  have HX4 := hid (HX3.out.below hb43)
                  have t4 := HK4.out.cell 0
                  clear hb43 HB3 HO3 HK3 HH3 HX3 t3
                  go_wp2_with fail
                  refine (specIsRanked_any _ ys _ HO4.out hl).mono ?_
                  rintro e w44 ⟨rfl, hb44⟩
                  have HB5 := hid (below_to HB4.out hb44)
                  have HH5 := hid (HH4.out.below hb44)
                  have HX5 := hid (HX4.out.below hb44)
                  clear hb44 HB4 HO4 HK4 HH4 HX4 t4
                  obtain ⟨g, hg⟩ : ∃ g, good ys = g := ⟨_, rfl⟩
                  obtain ⟨rk, hrk⟩ : ∃ g, ansIR ys = g := ⟨_, rfl⟩
                  rw [hg, hrk]
                  clear hg hrk
                  go_wp2_with (go_at_call 14; refine (nSame_any _ _ (heightsL ys) _ HH5.out HX5.out hh).mono ?_; rintro e w45 ⟨rfl, hb45⟩; have HB6 := hid (below_to HB5.out hb45); clear hb45)
                  go_ret
                  exact ⟨ret_bool (by simp), HB6.out⟩
            · have hs : (decide (1 ≤ z) && decide (z ≤ 10)) = false := by simp; omega
              go_wp2_with fail
              refine (implFence_any z _ (wf_i64 z (by omega) (by omega))).mono ?_
              rintro e w2 ⟨u, rfl, ho, hl, hb2⟩
              rw [hs]
              have HB2 := hid (below_to HB.out hb2)
              have HO2 := hid ho.ints
              obtain ⟨uA, uc, rfl, -⟩ := ho.ints
              obtain ⟨un, hun⟩ : ∃ un, (fenceL z).length = un := ⟨_, rfl⟩
              rw [hun] at HO2 ⊢
              have HUn := hid hun
              clear hun
              obtain ⟨B7, hB7⟩ : ∃ B7, w2.heap.size = B7 := ⟨_, rfl⟩
              clear ho hb2 HB
              go_wp2_with fail
              have HK3 : Hid (Blk (w2.alloc (.cells #[.slice uA un uc] 26)) B7 26 #[.slice uA un uc]) := hid (by rw [← hB7]; exact Blk.new w2 _ _)
              have HB3 := hid (below_alloc HB2.out (.cells #[.slice uA un uc] 26))
              have HO3 := hid (HO2.out.alloc (.cells #[.slice uA un uc] 26))
              clear HB2 HO2
              refine (specFence_any z _ (wf_i64 z (by omega) (by omega))).mono ?_
              rintro e w4 ⟨x4, rfl, ho4, -, hb4⟩
              rw [hs]
              have HB4 := hid (below_to HB3.out hb4)
              have HO4 := hid (HO3.out.below hb4)
              have HK4 := hid (HK3.out.below hb4 HK3.out.lt)
              have HX4 := hid ho4.ints
              obtain ⟨xA, xn, xc, rfl⟩ := ho4.shape3
              obtain ⟨B9, hB9⟩ : ∃ B9, w4.heap.size = B9 := ⟨_, rfl⟩
              clear ho4 hb4 HB3 HO3 HK3 hB7
              have HK5 : Hid (Blk (w4.alloc (.cells #[.slice xA xn xc] 26)) B9 26 #[.slice xA xn xc]) := hid (by rw [← hB9]; exact Blk.new w4 _ _)
              have HJ5 := hid (HK4.out.alloc (.cells #[.slice xA xn xc] 26))
              have HB5 := hid (below_alloc HB4.out (.cells #[.slice xA xn xc] 26))
              have HO5 := hid (HO4.out.alloc (.cells #[.slice xA xn xc] 26))
              have HX5 := hid (HX4.out.alloc (.cells #[.slice xA xn xc] 26))
              have t1 := HK5.out.cell 0
              have t2 := HJ5.out.cell 0
              clear HB4 HO4 HK4 HX4 hB9
              go_wp2_with (go_at_call 74; refine (nPoset_any _ _ (fenceL z) _ HO5.out HX5.out hl).mono ?_; rintro e w6 ⟨rfl, hb6⟩; have HB := hid (below_to HB5.out hb6); have HO := hid (HO5.out.below hb6); have HK := hid (HJ5.out.below hb6 HJ5.out.lt); clear hb6 t1 t2 HB5 HO5 HJ5 HX5 HK5; have t0 := HK.out.cell 0)
              clear hl t0 hs hok hz1 hz2 HO HK HUn
              go_wp2_with fail
              refine (drawHeightsOf_any _ xs1 _ (bytes_at HY1.out HB.out) HS.out.2).mono ?_
              rintro e w40 ⟨u, ys, rfl, ho, hly, hb40⟩
              have HB0 := hid (below_to HB.out hb40)
              have HO0 := hid ho.ints
              obtain ⟨uA, un, uc, rfl⟩ := ho.shape3
              obtain ⟨B7, hB7⟩ : ∃ B7, w40.heap.size = B7 := ⟨_, rfl⟩
              have hl : ys.length ≤ 1048576 := by omega
              clear ho hb40 HB
              have HK1 : Hid (Blk (w40.alloc (.cells #[.slice uA un uc] 26)) B7 26 #[.slice uA un uc]) := hid (by rw [← hB7]; exact Blk.new w40 _ _)
              have HB1 := hid (below_alloc HB0.out (.cells #[.slice uA un uc] 26))
              have HO1 := hid (HO0.out.alloc (.cells #[.slice uA un uc] 26))
              have t1 := HK1.out.cell 0
              clear HB0 HO0
              go_wp2_with fail
              refine (implHeightsOf_any _ ys _ HO1.out hl).mono ?_
              rintro e w41 ⟨h, rfl, ho, hh, hb41⟩
              have HB2 := hid (below_to HB1.out hb41)
              have HO2 := hid (HO1.out.below hb41)
              have HK2 := hid (HK1.out.below hb41 HK1.out.lt)
              have HH2 := hid ho.ints
              obtain ⟨hA, hn, hc, rfl⟩ := ho.shape3
              have t2 := HK2.out.cell 0
              clear ho hb41 HB1 HO1 HK1 t1 hB7
              go_wp2_with fail
              refine (specHeightsOf_any _ ys _ HO2.out hl).mono ?_
              rintro e w42 ⟨h2, rfl, ho, -, hb42⟩
              have HB3 := hid (below_to HB2.out hb42)
              have HO3 := hid (HO2.out.below hb42)
              have HK3 := hid (HK2.out.below hb42 HK2.out.lt)
              have HH3 := hid (HH2.out.below hb42)
              have HX3 := hid ho.ints
              obtain ⟨xA, xn, xc, rfl⟩ := ho.shape3
              have t3 := HK3.out.cell 0
              clear ho hb42 HB2 HO2 HK2 HH2 t2
              go_wp2_with fail
              refine (implIsRanked_any _ ys _ HO3.out hl).mono ?_
              rintro e w43 ⟨rfl, hb43⟩
              have HB4 := hid (below_to HB3.out hb43)
              have HO4 := hid (HO3.out.below hb43)
              have HK4 := hid (HK3.out.below hb43 HK3.out.lt)
              have HH4 := hid (HH3.out.below hb43)
              have HX4 := hid (HX3.out.below hb43)
              have t4 := HK4.out.cell 0
              clear hb43 HB3 HO3 HK3 HH3 HX3 t3
              go_wp2_with fail
              refine (specIsRanked_any _ ys _ HO4.out hl).mono ?_
              rintro e w44 ⟨rfl, hb44⟩
              have HB5 := hid (below_to HB4.out hb44)
              have HH5 := hid (HH4.out.below hb44)
              have HX5 := hid (HX4.out.below hb44)
              clear hb44 HB4 HO4 HK4 HH4 HX4 t4
              obtain ⟨g, hg⟩ : ∃ g, good ys = g := ⟨_, rfl⟩
              obtain ⟨rk, hrk⟩ : ∃ g, ansIR ys = g := ⟨_, rfl⟩
              rw [hg, hrk]
              clear hg hrk
              go_wp2_with (go_at_call 14; refine (nSame_any _ _ (heightsL ys) _ HH5.out HX5.out hh).mono ?_; rintro e w45 ⟨rfl, hb45⟩; have HB6 := hid (below_to HB5.out hb45); clear hb45)
              go_ret
              exact ⟨ret_bool (by simp), HB6.out⟩
      · have hs : (decide (1 ≤ n) && decide (n ≤ 4)) = false := by simp; omega
        go_wp2_with fail
        refine (implStaircase_any n _ (wf_i64 n (by omega) (by omega))).mono ?_
        rintro e w2 ⟨u, rfl, ho, hl, hb2⟩
        rw [hs]
        have HB2 := hid (below_to HB.out hb2)
        have HO2 := hid ho.ints
        obtain ⟨uA, uc, rfl, -⟩ := ho.ints
        obtain ⟨un, hun⟩ : ∃ un, (stcL n).length = un := ⟨_, rfl⟩
        rw [hun] at HO2 ⊢
        have HUn := hid hun
        clear hun
        obtain ⟨B7, hB7⟩ : ∃ B7, w2.heap.size = B7 := ⟨_, rfl⟩
        clear ho hb2 HB
        go_wp2_with fail
        have HK3 : Hid (Blk (w2.alloc (.cells #[.slice uA un uc] 26)) B7 26 #[.slice uA un uc]) := hid (by rw [← hB7]; exact Blk.new w2 _ _)
        have HB3 := hid (below_alloc HB2.out (.cells #[.slice uA un uc] 26))
        have HO3 := hid (HO2.out.alloc (.cells #[.slice uA un uc] 26))
        clear HB2 HO2
        refine (specStaircase_any n _ (wf_i64 n (by omega) (by omega))).mono ?_
        rintro e w4 ⟨x4, rfl, ho4, -, hb4⟩
        rw [hs]
        have HB4 := hid (below_to HB3.out hb4)
        have HO4 := hid (HO3.out.below hb4)
        have HK4 := hid (HK3.out.below hb4 HK3.out.lt)
        have HX4 := hid ho4.ints
        obtain ⟨xA, xn, xc, rfl⟩ := ho4.shape3
        obtain ⟨B9, hB9⟩ : ∃ B9, w4.heap.size = B9 := ⟨_, rfl⟩
        clear ho4 hb4 HB3 HO3 HK3 hB7
        have HK5 : Hid (Blk (w4.alloc (.cells #[.slice xA xn xc] 26)) B9 26 #[.slice xA xn xc]) := hid (by rw [← hB9]; exact Blk.new w4 _ _)
        have HJ5 := hid (HK4.out.alloc (.cells #[.slice xA xn xc] 26))
        have HB5 := hid (below_alloc HB4.out (.cells #[.slice xA xn xc] 26))
        have HO5 := hid (HO4.out.alloc (.cells #[.slice xA xn xc] 26))
        have HX5 := hid (HX4.out.alloc (.cells #[.slice xA xn xc] 26))
        have t1 := HK5.out.cell 0
        have t2 := HJ5.out.cell 0
        clear HB4 HO4 HK4 HX4 hB9
        go_wp2_with (go_at_call 74; refine (nPoset_any _ _ (stcL n) _ HO5.out HX5.out hl).mono ?_; rintro e w6 ⟨rfl, hb6⟩; have HB := hid (below_to HB5.out hb6); have HO := hid (HO5.out.below hb6); have HK := hid (HJ5.out.below hb6 HJ5.out.lt); clear hb6 t1 t2 HB5 HO5 HJ5 HX5 HK5; have t0 := HK.out.cell 0)
        clear hl t0 hs hok hn1 hn2 HO HK HUn
        go_wp2_with fail
        refine (drawFence_any _ xs1 _ (bytes_at HY1.out HB.out) HS.out.2).mono ?_
        rintro e w30 ⟨z, rfl, hz1, hz2, hb30⟩
        replace HB := hid (below_to HB.out hb30)
        clear hb30
        by_cases hok : 1 ≤ z ∧ z ≤ 10
        · obtain ⟨f, rfl⟩ := Int.eq_ofNat_of_zero_le (by omega : 0 ≤ z)
          have hf1 : 1 ≤ f := by omega
          have hf10 : f ≤ 10 := by omega
          have hs : (decide (1 ≤ (f : Int)) && decide ((f : Int) ≤ 10)) = true := by simp; omega
          have HG := hid (kn_fe f hf1 hf10)
          go_wp2_with fail
          refine (implFence_any (f : Int) _ (wf_i64 f (by omega) (by omega))).mono ?_
          rintro e w2 ⟨u, rfl, ho, hl, hb2⟩
          rw [hs]
          have HB2 := hid (below_to HB.out hb2)
          have HO2 := hid ho.ints
          obtain ⟨uA, uc, rfl, -⟩ := ho.ints
          obtain ⟨un, hun⟩ : ∃ un, (fenceL (f : Int)).length = un := ⟨_, rfl⟩
          rw [hun] at HO2 ⊢
          have HUn := hid hun
          clear hun
          obtain ⟨B7, hB7⟩ : ∃ B7, w2.heap.size = B7 := ⟨_, rfl⟩
          clear ho hb2 HB
          go_wp2_with fail
          have HK3 : Hid (Blk (w2.alloc (.cells #[.slice uA un uc] 26)) B7 26 #[.slice uA un uc]) := hid (by rw [← hB7]; exact Blk.new w2 _ _)
          have HB3 := hid (below_alloc HB2.out (.cells #[.slice uA un uc] 26))
          have HO3 := hid (HO2.out.alloc (.cells #[.slice uA un uc] 26))
          clear HB2 HO2
          refine (specFence_any (f : Int) _ (wf_i64 f (by omega) (by omega))).mono ?_
          rintro e w4 ⟨x4, rfl, ho4, -, hb4⟩
          rw [hs]
          have HB4 := hid (below_to HB3.out hb4)
          have HO4 := hid (HO3.out.below hb4)
          have HK4 := hid (HK3.out.below hb4 HK3.out.lt)
          have HX4 := hid ho4.ints
          obtain ⟨xA, xn, xc, rfl⟩ := ho4.shape3
          obtain ⟨B9, hB9⟩ : ∃ B9, w4.heap.size = B9 := ⟨_, rfl⟩
          clear ho4 hb4 HB3 HO3 HK3 hB7
          have HK5 : Hid (Blk (w4.alloc (.cells #[.slice xA xn xc] 26)) B9 26 #[.slice xA xn xc]) := hid (by rw [← hB9]; exact Blk.new w4 _ _)
          have HJ5 := hid (HK4.out.alloc (.cells #[.slice xA xn xc] 26))
          have HB5 := hid (below_alloc HB4.out (.cells #[.slice xA xn xc] 26))
          have HO5 := hid (HO4.out.alloc (.cells #[.slice xA xn xc] 26))
          have HX5 := hid (HX4.out.alloc (.cells #[.slice xA xn xc] 26))
          have t1 := HK5.out.cell 0
          have t2 := HJ5.out.cell 0
          clear HB4 HO4 HK4 HX4 hB9
          go_wp2_with (go_at_call 74; refine (nPoset_any _ _ (fenceL (f : Int)) _ HO5.out HX5.out hl).mono ?_; rintro e w6 ⟨rfl, hb6⟩; have HB := hid (below_to HB5.out hb6); have HO := hid (HO5.out.below hb6); have HK := hid (HJ5.out.below hb6 HJ5.out.lt); clear hb6 t1 t2 HB5 HO5 HJ5 HX5 HK5; have t0 := HK.out.cell 0)
          refine (implCountIdeals_any _ (fenceL (f : Int)) _ HO.out hl).mono ?_
          rintro e w8 ⟨rfl, hb8⟩
          have HB8 := hid (below_to HB.out hb8)
          have HO8 := hid (HO.out.below hb8)
          have HK8 := hid (HK.out.below hb8 HK.out.lt)
          clear hb8 HB HO HK t0
          have t8 := HK8.out.cell 0
          rw [show ((idealsL (fenceL (f : Int))).length) = (fbN (f - 1)).2 from HG.out.1, HG.out.2]
          clear hs hok hl
          go_wp2
          go_loop [37, 38, 39] (fun p q i => ∃ k : Nat, k + 1 ≤ f ∧ i = .int .i64 ((k : Int) + 1) ∧ p = .int .i64 (fbN k).1 ∧ q = .int .i64 (fbN k).2) (fun _ _ i => f + 1 - (intOf i).toNat)
          case atStart => exact ⟨0, hf1, rfl, rfl, rfl⟩
          case round =>
            obtain ⟨k, hk, rfl, rfl, rfl⟩ := hrel
            have hX := kn_fb k (by omega)
            by_cases hlt : k + 1 < f
            · have hst1 : (fbN (k + 1)).1 = (fbN k).2 := rfl
              have hst2 : (fbN (k + 1)).2 = (fbN k).1 + (fbN k).2 := rfl
              obtain ⟨X, hXe⟩ : ∃ X, (fbN k).1 = X := ⟨_, rfl⟩
              obtain ⟨Y, hYe⟩ : ∃ Y, (fbN k).2 = Y := ⟨_, rfl⟩
              rw [hXe, hYe] at hX ⊢
              rw [hXe, hYe] at hst2
              rw [hYe] at hst1
              have H1 := hid hst1
              have H2 := hid hst2
              clear hXe hYe hst1 hst2
              go_wp2
              go_round
              case rel => exact ⟨k + 1, hlt, by go_num, by rw [H1.out], by rw [H2.out, Int.natCast_add]⟩
              case measure => simp [intOf]; omega
            · obtain rfl : k = f - 1 := by omega
              obtain ⟨X, hXe⟩ : ∃ X, (fbN (f - 1)).2 = X := ⟨_, rfl⟩
              rw [hXe] at hX ⊢
              clear hXe
              have HB := HB8
              clear HB8
              go_wp2_with fail
              refine (drawHeightsOf_any _ xs1 _ (bytes_at HY1.out HB.out) HS.out.2).mono ?_
              rintro e w40 ⟨u, ys, rfl, ho, hly, hb40⟩
              have HB0 := hid (below_to HB.out hb40)
              have HO0 := hid ho.ints
              obtain ⟨uA, un, uc, rfl⟩ := ho.shape3
              obtain ⟨B7, hB7⟩ : ∃ B7, w40.heap.size = B7 := ⟨_, rfl⟩
              have hl : ys.length ≤ 1048576 := by omega
              clear ho hb40 HB
              have HK1 : Hid (Blk (w40.alloc (.cells #[.slice uA un uc] 26)) B7 26 #[.slice uA un uc]) := hid (by rw [← hB7]; exact Blk.new w40 _ _)
              have HB1 := hid (below_alloc HB0.out (.cells #[.slice uA un uc] 26))
              have HO1 := hid (HO0.out.alloc (.cells #[.slice uA un uc] 26))
              have t1 := HK1.out.cell 0
              clear HB0 HO0
              go_wp2_with fail
              refine (implHeightsOf_any _ ys _ HO1.out hl).mono ?_
              rintro e w41 ⟨h, rfl, ho, hh, hb41⟩
              have HB2 := hid (below_to HB1.out hb41)
              have HO2 := hid (HO1.out.below hb41)
              have HK2 := hid (HK1.out.below hb41 HK1.out.lt)
              have HH2 := hid ho.ints
              obtain ⟨hA, hn, hc, rfl⟩ := ho.shape3
              have t2 := HK2.out.cell 0
              clear ho hb41 HB1 HO1 HK1 t1 hB7
              go_wp2_with fail
              refine (specHeightsOf_any _ ys _ HO2.out hl).mono ?_
              rintro e w42 ⟨h2, rfl, ho, -, hb42⟩
              have HB3 := hid (below_to HB2.out hb42)
              have HO3 := hid (HO2.out.below hb42)
              have HK3 := hid (HK2.out.below hb42 HK2.out.lt)
              have HH3 := hid (HH2.out.below hb42)
              have HX3 := hid ho.ints
              obtain ⟨xA, xn, xc, rfl⟩ := ho.shape3
              have t3 := HK3.out.cell 0
              clear ho hb42 HB2 HO2 HK2 HH2 t2
              go_wp2_with fail
              refine (implIsRanked_any _ ys _ HO3.out hl).mono ?_
              rintro e w43 ⟨rfl, hb43⟩
              have HB4 := hid (below_to HB3.out hb43)
              have HO4 := hid (HO3.out.below hb43)
              have HK4 := hid (HK3.out.below hb43 HK3.out.lt)
              have HH4 := hid (HH3.out.below hb43)
              have HX4 := hid (HX3.out.below hb43)
              have t4 := HK4.out.cell 0
              clear hb43 HB3 HO3 HK3 HH3 HX3 t3
              go_wp2_with fail
              refine (specIsRanked_any _ ys _ HO4.out hl).mono ?_
              rintro e w44 ⟨rfl, hb44⟩
              have HB5 := hid (below_to HB4.out hb44)
              have HH5 := hid (HH4.out.below hb44)
              have HX5 := hid (HX4.out.below hb44)
              clear hb44 HB4 HO4 HK4 HH4 HX4 t4
              obtain ⟨g, hg⟩ : ∃ g, good ys = g := ⟨_, rfl⟩
              obtain ⟨rk, hrk⟩ : ∃ g, ansIR ys = g := ⟨_, rfl⟩
              rw [hg, hrk]
              clear hg hrk
              go_wp2_with (go_at_call 14; refine (nSame_any _ _ (heightsL ys) _ HH5.out HX5.out hh).mono ?_; rintro e w45 ⟨rfl, hb45⟩; have HB6 := hid (below_to HB5.out hb45); clear hb45)
              go_ret
              exact ⟨ret_bool (by simp), HB6.out⟩
        · have hs : (decide (1 ≤ z) && decide (z ≤ 10)) = false := by simp; omega
          go_wp2_with fail
          refine (implFence_any z _ (wf_i64 z (by omega) (by omega))).mono ?_
          rintro e w2 ⟨u, rfl, ho, hl, hb2⟩
          rw [hs]
          have HB2 := hid (below_to HB.out hb2)
          have HO2 := hid ho.ints
          obtain ⟨uA, uc, rfl, -⟩ := ho.ints
          obtain ⟨un, hun⟩ : ∃ un, (fenceL z).length = un := ⟨_, rfl⟩
          rw [hun] at HO2 ⊢
          have HUn := hid hun
          clear hun
          obtain ⟨B7, hB7⟩ : ∃ B7, w2.heap.size = B7 := ⟨_, rfl⟩
          clear ho hb2 HB
          go_wp2_with fail
          have HK3 : Hid (Blk (w2.alloc (.cells #[.slice uA un uc] 26)) B7 26 #[.slice uA un uc]) := hid (by rw [← hB7]; exact Blk.new w2 _ _)
          have HB3 := hid (below_alloc HB2.out (.cells #[.slice uA un uc] 26))
          have HO3 := hid (HO2.out.alloc (.cells #[.slice uA un uc] 26))
          clear HB2 HO2
          refine (specFence_any z _ (wf_i64 z (by omega) (by omega))).mono ?_
          rintro e w4 ⟨x4, rfl, ho4, -, hb4⟩
          rw [hs]
          have HB4 := hid (below_to HB3.out hb4)
          have HO4 := hid (HO3.out.below hb4)
          have HK4 := hid (HK3.out.below hb4 HK3.out.lt)
          have HX4 := hid ho4.ints
          obtain ⟨xA, xn, xc, rfl⟩ := ho4.shape3
          obtain ⟨B9, hB9⟩ : ∃ B9, w4.heap.size = B9 := ⟨_, rfl⟩
          clear ho4 hb4 HB3 HO3 HK3 hB7
          have HK5 : Hid (Blk (w4.alloc (.cells #[.slice xA xn xc] 26)) B9 26 #[.slice xA xn xc]) := hid (by rw [← hB9]; exact Blk.new w4 _ _)
          have HJ5 := hid (HK4.out.alloc (.cells #[.slice xA xn xc] 26))
          have HB5 := hid (below_alloc HB4.out (.cells #[.slice xA xn xc] 26))
          have HO5 := hid (HO4.out.alloc (.cells #[.slice xA xn xc] 26))
          have HX5 := hid (HX4.out.alloc (.cells #[.slice xA xn xc] 26))
          have t1 := HK5.out.cell 0
          have t2 := HJ5.out.cell 0
          clear HB4 HO4 HK4 HX4 hB9
          go_wp2_with (go_at_call 74; refine (nPoset_any _ _ (fenceL z) _ HO5.out HX5.out hl).mono ?_; rintro e w6 ⟨rfl, hb6⟩; have HB := hid (below_to HB5.out hb6); have HO := hid (HO5.out.below hb6); have HK := hid (HJ5.out.below hb6 HJ5.out.lt); clear hb6 t1 t2 HB5 HO5 HJ5 HX5 HK5; have t0 := HK.out.cell 0)
          clear hl t0 hs hok hz1 hz2 HO HK HUn
          go_wp2_with fail
          refine (drawHeightsOf_any _ xs1 _ (bytes_at HY1.out HB.out) HS.out.2).mono ?_
          rintro e w40 ⟨u, ys, rfl, ho, hly, hb40⟩
          have HB0 := hid (below_to HB.out hb40)
          have HO0 := hid ho.ints
          obtain ⟨uA, un, uc, rfl⟩ := ho.shape3
          obtain ⟨B7, hB7⟩ : ∃ B7, w40.heap.size = B7 := ⟨_, rfl⟩
          have hl : ys.length ≤ 1048576 := by omega
          clear ho hb40 HB
          have HK1 : Hid (Blk (w40.alloc (.cells #[.slice uA un uc] 26)) B7 26 #[.slice uA un uc]) := hid (by rw [← hB7]; exact Blk.new w40 _ _)
          have HB1 := hid (below_alloc HB0.out (.cells #[.slice uA un uc] 26))
          have HO1 := hid (HO0.out.alloc (.cells #[.slice uA un uc] 26))
          have t1 := HK1.out.cell 0
          clear HB0 HO0
          go_wp2_with fail
          refine (implHeightsOf_any _ ys _ HO1.out hl).mono ?_
          rintro e w41 ⟨h, rfl, ho, hh, hb41⟩
          have HB2 := hid (below_to HB1.out hb41)
          have HO2 := hid (HO1.out.below hb41)
          have HK2 := hid (HK1.out.below hb41 HK1.out.lt)
          have HH2 := hid ho.ints
          obtain ⟨hA, hn, hc, rfl⟩ := ho.shape3
          have t2 := HK2.out.cell 0
          clear ho hb41 HB1 HO1 HK1 t1 hB7
          go_wp2_with fail
          refine (specHeightsOf_any _ ys _ HO2.out hl).mono ?_
          rintro e w42 ⟨h2, rfl, ho, -, hb42⟩
          have HB3 := hid (below_to HB2.out hb42)
          have HO3 := hid (HO2.out.below hb42)
          have HK3 := hid (HK2.out.below hb42 HK2.out.lt)
          have HH3 := hid (HH2.out.below hb42)
          have HX3 := hid ho.ints
          obtain ⟨xA, xn, xc, rfl⟩ := ho.shape3
          have t3 := HK3.out.cell 0
          clear ho hb42 HB2 HO2 HK2 HH2 t2
          go_wp2_with fail
          refine (implIsRanked_any _ ys _ HO3.out hl).mono ?_
          rintro e w43 ⟨rfl, hb43⟩
          have HB4 := hid (below_to HB3.out hb43)
          have HO4 := hid (HO3.out.below hb43)
          have HK4 := hid (HK3.out.below hb43 HK3.out.lt)
          have HH4 := hid (HH3.out.below hb43)
          have HX4 := hid (HX3.out.below hb43)
          have t4 := HK4.out.cell 0
          clear hb43 HB3 HO3 HK3 HH3 HX3 t3
          go_wp2_with fail
          refine (specIsRanked_any _ ys _ HO4.out hl).mono ?_
          rintro e w44 ⟨rfl, hb44⟩
          have HB5 := hid (below_to HB4.out hb44)
          have HH5 := hid (HH4.out.below hb44)
          have HX5 := hid (HX4.out.below hb44)
          clear hb44 HB4 HO4 HK4 HH4 HX4 t4
          obtain ⟨g, hg⟩ : ∃ g, good ys = g := ⟨_, rfl⟩
          obtain ⟨rk, hrk⟩ : ∃ g, ansIR ys = g := ⟨_, rfl⟩
          rw [hg, hrk]
          clear hg hrk
          go_wp2_with (go_at_call 14; refine (nSame_any _ _ (heightsL ys) _ HH5.out HX5.out hh).mono ?_; rintro e w45 ⟨rfl, hb45⟩; have HB6 := hid (below_to HB5.out hb45); clear hb45)
          go_ret
          exact ⟨ret_bool (by simp), HB6.out⟩
    · obtain ⟨x, y, rfl, rfl, hx1, hx2, hy1, hy2, hxy, hL⟩ := kn_sides hs
      have HG := hid (kn_at hx1 hx2 hy1 hy2 hxy)
      have HGd : Hid (good (rectL x y) = true) := hid (by rw [hL]; exact rectGood hx1 hx2 hy1 hy2 hxy)
      rw [← hL] at HG
      clear hL
      go_wp2_with fail
      refine (implRectangle_any (x : Int) (y : Int) _ wa wb).mono ?_
      rintro e w2 ⟨u, rfl, ho, hl, hb2⟩
      rw [hs]
      have HB2 := hid (below_to HB.out hb2)
      have HO2 := hid ho.ints
      obtain ⟨uA, uc, rfl, -⟩ := ho.ints
      obtain ⟨un, hun⟩ : ∃ un, (rectL x y).length = un := ⟨_, rfl⟩
      rw [hun] at HO2 ⊢
      have HUn := hid hun
      clear hun
      obtain ⟨B7, hB7⟩ : ∃ B7, w2.heap.size = B7 := ⟨_, rfl⟩
      clear ho hb2 HB
      go_wp2_with fail
      have HK3 : Hid (Blk (w2.alloc (.cells #[.slice uA un uc] 26)) B7 26 #[.slice uA un uc]) := hid (by rw [← hB7]; exact Blk.new w2 _ _)
      have HB3 := hid (below_alloc HB2.out (.cells #[.slice uA un uc] 26))
      have HO3 := hid (HO2.out.alloc (.cells #[.slice uA un uc] 26))
      clear HB2 HO2
      refine (specRectangle_any (x : Int) (y : Int) _ wa wb).mono ?_
      rintro e w4 ⟨x4, rfl, ho4, -, hb4⟩
      rw [hs]
      have HB4 := hid (below_to HB3.out hb4)
      have HO4 := hid (HO3.out.below hb4)
      have HK4 := hid (HK3.out.below hb4 HK3.out.lt)
      have HX4 := hid ho4.ints
      obtain ⟨xA, xn, xc, rfl⟩ := ho4.shape3
      obtain ⟨B9, hB9⟩ : ∃ B9, w4.heap.size = B9 := ⟨_, rfl⟩
      clear ho4 hb4 HB3 HO3 HK3 hB7
      have HK5 : Hid (Blk (w4.alloc (.cells #[.slice xA xn xc] 26)) B9 26 #[.slice xA xn xc]) := hid (by rw [← hB9]; exact Blk.new w4 _ _)
      have HJ5 := hid (HK4.out.alloc (.cells #[.slice xA xn xc] 26))
      have HB5 := hid (below_alloc HB4.out (.cells #[.slice xA xn xc] 26))
      have HO5 := hid (HO4.out.alloc (.cells #[.slice xA xn xc] 26))
      have HX5 := hid (HX4.out.alloc (.cells #[.slice xA xn xc] 26))
      have t1 := HK5.out.cell 0
      have t2 := HJ5.out.cell 0
      clear HB4 HO4 HK4 HX4 hB9
      go_wp2_with (go_at_call 74; refine (nPoset_any _ _ (rectL x y) _ HO5.out HX5.out hl).mono ?_; rintro e w6 ⟨rfl, hb6⟩; have HB := hid (below_to HB5.out hb6); have HO := hid (HO5.out.below hb6); have HK := hid (HJ5.out.below hb6 HJ5.out.lt); clear hb6 t1 t2 HB5 HO5 HJ5 HX5 HK5; have t0 := HK.out.cell 0)
      obtain ⟨L, hL⟩ : ∃ L, rectL (x : Int) (y : Int) = L := ⟨_, rfl⟩
      rw [hL] at HG HGd HO hl
      clear hL hs HUn
      refine (implCountIdeals_any _ (L) _ HO.out hl).mono ?_
      rintro e w8 ⟨rfl, hb8⟩
      have HB8 := hid (below_to HB.out hb8)
      have HO8 := hid (HO.out.below hb8)
      have HK8 := hid (HK.out.below hb8 HK.out.lt)
      clear hb8 HB HO HK t0
      have t8 := HK8.out.cell 0
      rw [show ((idealsL L).length) = wyN y x from HG.out.1, HGd.out]
      obtain ⟨N, hN⟩ : ∃ N, wyN y x = N := ⟨_, rfl⟩
      rw [hN]
      have HN := hid hN
      clear hN
      go_wp2_with fail
      refine (implIsRanked_any _ L _ HO8.out hl).mono ?_
      rintro e w9 ⟨rfl, hb9⟩
      rw [HG.out.2.1, HGd.out]
      have HB9 := hid (below_to HB8.out hb9)
      have HO9 := hid (HO8.out.below hb9)
      have HK9 := hid (HK8.out.below hb9 HK8.out.lt)
      clear hb9 HB8 HO8 HK8 t8
      have t9 := HK9.out.cell 0
      go_wp2_with fail
      refine (implHeightsOf_any _ L _ HO9.out hl).mono ?_
      rintro e w10 ⟨h, rfl, ho, -, hb10⟩
      rw [HGd.out]
      rw [HG.out.2.2.1] at ho
      have HB10 := hid (below_to HB9.out hb10)
      obtain ⟨hA, hc, rfl, hcell⟩ := ho.ints
      have hlen : (hgL y (x * y)).length = x * y := mkL_length _ _
      rw [hlen] at hcell
      have HC := hid hcell
      have hxy1 : 1 ≤ x * y := Nat.mul_le_mul hx1 hy1
      obtain ⟨n, hn⟩ : ∃ n, x * y = n := ⟨_, rfl⟩
      rw [hn] at HC hxy hxy1 hlen
      have HLn := hid hlen
      clear ho hb10 HB9 HO9 HK9 t9 hcell hlen
      rw [show (hgL y (x * y)).length = n from by rw [hgL, mkL_length, hn]]
      rw [hn] at HG
      clear hn
      go_wp2
      go_loop [17, 18] (fun q i => ∃ k : Nat, k ≤ x ∧ i = .int .i64 ((k : Int) + 1) ∧ q = .int .i64 (wyN y k)) (fun _ i => x + 1 - (intOf i).toNat)
      case atStart => exact ⟨0, Nat.zero_le _, rfl, rfl⟩
      case round =>
        obtain ⟨k, hk, rfl, rfl⟩ := hrel
        have hX := HG.out.2.2.2 k hk
        by_cases hlt : k < x
        · have hY := HG.out.2.2.2 (k + 1) hlt
          have hst : wyN y (k + 1) = wyN y k * (y + (k + 1)) / (k + 1) := rfl
          obtain ⟨X, hXe⟩ : ∃ X, wyN y k = X := ⟨_, rfl⟩
          obtain ⟨Y, hYe⟩ : ∃ Y, wyN y (k + 1) = Y := ⟨_, rfl⟩
          rw [hXe] at hX hst ⊢
          rw [hYe] at hY hst
          obtain ⟨Z, hZ⟩ : ∃ Z, X * (y + (k + 1)) = Z := ⟨_, rfl⟩
          have hZ2 : Z ≤ 1000 * 30 := by rw [← hZ]; exact Nat.mul_le_mul hX (by omega)
          have e1 : (X : Int) * ((y : Int) + ((k : Int) + 1)) = (Z : Int) := by rw [← hZ, Int.natCast_mul, Int.natCast_add, Int.natCast_add]; rfl
          have e2 : (Z : Int) / ((k : Int) + 1) = (Y : Int) := by rw [hst, hZ, Int.natCast_ediv, Int.natCast_add]; rfl
          have HYe := hid hYe
          clear hXe hYe hZ hst
          go_wp2
          go_round
          case rel => exact ⟨k + 1, hlt, by go_num, by rw [HYe.out]⟩
          case measure => simp [intOf]; omega
        · obtain rfl : k = x := by omega
          rw [HN.out]
          clear hX
          go_wp2
          go_loopw [128] (fun i wr => ∃ j : Nat, j ≤ n ∧ i = .int .i64 j ∧ Below w10.heap.size w10 wr) (fun i _ => n - (intOf i).toNat)
          case atStart => exact ⟨0, Nat.zero_le _, rfl, Below.refl _ _⟩
          case round =>
            obtain ⟨j, hj, rfl, hb⟩ := hrel
            by_cases hjl : j < n
            · obtain ⟨B, O, rfl, hBl, hce⟩ := HC.out (by intro h; have := congrArg List.length h; rw [HLn.out] at this; simp at this; omega)
              have hcj := hce j hjl
              rw [hgL, mkL_getD (by omega)] at hcj
              obtain ⟨p, hp⟩ : ∃ p, j / y = p := ⟨_, rfl⟩
              obtain ⟨q, hq⟩ : ∃ q, j % y = q := ⟨_, rfl⟩
              have hp10 : p ≤ 10 := by have := Nat.div_le_self j y; omega
              have hq10 : q ≤ 10 := by have := Nat.mod_le j y; omega
              rw [hp, hq] at hcj
              have e1 : (j : Int) / (y : Int) = (p : Int) := by rw [← hp, Int.natCast_ediv]
              have e2 : (j : Int) % (y : Int) = (q : Int) := by rw [← hq, Int.natCast_emod]
              have hcell : wr.cell? ⟨B, O + j, none⟩ = some (.int .i64 ((p : Int) + (q : Int))) := by
                rw [hb.cell (p := ⟨B, O + j, none⟩) hBl, hcj, Int.natCast_add]
              have Hb := hid hb
              clear hb hce hcj hp hq
              go_wp2
              go_quiet (fail)
              go_wp2
              go_roundw
              case rel => exact ⟨j + 1, by omega, by go_num, below_drewN Hb.out _⟩
              case measure => simp [intOf]; omega
            · have HB := hid (below_to HB10.out hb)
              clear hb
              clear hx1 hx2 hy1 hy2 hxy hxy1 hl HG HGd HN HC HLn HB10 wa wb
              go_wp2_with fail
              refine (drawStaircase_any _ xs1 _ (bytes_at HY1.out HB.out) HS.out.2).mono ?_
              rintro e w20 ⟨n, rfl, hn1, hn2, hb20⟩
              replace HB := hid (below_to HB.out hb20)
              clear hb20
              by_cases hok : 1 ≤ n ∧ n ≤ 4
              · obtain ⟨m, rfl⟩ := Int.eq_ofNat_of_zero_le (by omega : 0 ≤ n)
                have hm1 : 1 ≤ m := by omega
                have hm4 : m ≤ 4 := by omega
                have hs : (decide (1 ≤ (m : Int)) && decide ((m : Int) ≤ 4)) = true := by simp; omega
                have HG := hid (kn_st m hm1 hm4)
                go_wp2_with fail
                refine (implStaircase_any (m : Int) _ (wf_i64 m (by omega) (by omega))).mono ?_
                rintro e w2 ⟨u, rfl, ho, hl, hb2⟩
                rw [hs]
                have HB2 := hid (below_to HB.out hb2)
                have HO2 := hid ho.ints
                obtain ⟨uA, uc, rfl, -⟩ := ho.ints
                obtain ⟨un, hun⟩ : ∃ un, (stcL (m : Int)).length = un := ⟨_, rfl⟩
                rw [hun] at HO2 ⊢
                have HUn := hid hun
                clear hun
                obtain ⟨B7, hB7⟩ : ∃ B7, w2.heap.size = B7 := ⟨_, rfl⟩
                clear ho hb2 HB
                go_wp2_with fail
                have HK3 : Hid (Blk (w2.alloc (.cells #[.slice uA un uc] 26)) B7 26 #[.slice uA un uc]) := hid (by rw [← hB7]; exact Blk.new w2 _ _)
                have HB3 := hid (below_alloc HB2.out (.cells #[.slice uA un uc] 26))
                have HO3 := hid (HO2.out.alloc (.cells #[.slice uA un uc] 26))
                clear HB2 HO2
                refine (specStaircase_any (m : Int) _ (wf_i64 m (by omega) (by omega))).mono ?_
                rintro e w4 ⟨x4, rfl, ho4, -, hb4⟩
                rw [hs]
                have HB4 := hid (below_to HB3.out hb4)
                have HO4 := hid (HO3.out.below hb4)
                have HK4 := hid (HK3.out.below hb4 HK3.out.lt)
                have HX4 := hid ho4.ints
                obtain ⟨xA, xn, xc, rfl⟩ := ho4.shape3
                obtain ⟨B9, hB9⟩ : ∃ B9, w4.heap.size = B9 := ⟨_, rfl⟩
                clear ho4 hb4 HB3 HO3 HK3 hB7
                have HK5 : Hid (Blk (w4.alloc (.cells #[.slice xA xn xc] 26)) B9 26 #[.slice xA xn xc]) := hid (by rw [← hB9]; exact Blk.new w4 _ _)
                have HJ5 := hid (HK4.out.alloc (.cells #[.slice xA xn xc] 26))
                have HB5 := hid (below_alloc HB4.out (.cells #[.slice xA xn xc] 26))
                have HO5 := hid (HO4.out.alloc (.cells #[.slice xA xn xc] 26))
                have HX5 := hid (HX4.out.alloc (.cells #[.slice xA xn xc] 26))
                have t1 := HK5.out.cell 0
                have t2 := HJ5.out.cell 0
                clear HB4 HO4 HK4 HX4 hB9
                go_wp2_with (go_at_call 74; refine (nPoset_any _ _ (stcL (m : Int)) _ HO5.out HX5.out hl).mono ?_; rintro e w6 ⟨rfl, hb6⟩; have HB := hid (below_to HB5.out hb6); have HO := hid (HO5.out.below hb6); have HK := hid (HJ5.out.below hb6 HJ5.out.lt); clear hb6 t1 t2 HB5 HO5 HJ5 HX5 HK5; have t0 := HK.out.cell 0)
                refine (implCountIdeals_any _ (stcL (m : Int)) _ HO.out hl).mono ?_
                rintro e w8 ⟨rfl, hb8⟩
                have HB8 := hid (below_to HB.out hb8)
                have HO8 := hid (HO.out.below hb8)
                have HK8 := hid (HK.out.below hb8 HK.out.lt)
                clear hb8 HB HO HK t0
                have t8 := HK8.out.cell 0
                rw [show ((idealsL (stcL (m : Int))).length) = syN (m + 1) from HG.out.1, HG.out.2.2]
                obtain ⟨P, hP⟩ : ∃ P, m * (m + 1) = P := ⟨_, rfl⟩
                have hP2 : P = 2 * un := by have h := HG.out.2.1; rw [HUn.out, hP] at h; omega
                have hP20 : P ≤ 4 * 5 := by rw [← hP]; exact Nat.mul_le_mul hm4 (by omega)
                have HP : Hid ((m : Int) * ((m : Int) + 1) = (P : Int)) := hid (by rw [← hP, Int.natCast_mul, Int.natCast_add]; rfl)
                have HP2 : Hid ((P : Int) / 2 = (un : Int)) := hid (by omega)
                clear hP hP2 hs hok hl
                go_wp2
                go_loop [28, 29] (fun q i => ∃ k : Nat, k ≤ m + 1 ∧ i = .int .i64 (k : Int) ∧ q = .int .i64 (syN k)) (fun _ i => m + 1 - (intOf i).toNat)
                case atStart => exact ⟨0, Nat.zero_le _, rfl, rfl⟩
                case round =>
                  obtain ⟨k, hk, rfl, rfl⟩ := hrel
                  have hX := kn_sy k (by omega)
                  by_cases hlt : k ≤ m
                  · have hY := kn_sy (k + 1) (by omega)
                    have hst : syN (k + 1) = syN k * 2 * (2 * k + 1) / (k + 2) := rfl
                    obtain ⟨X, hXe⟩ : ∃ X, syN k = X := ⟨_, rfl⟩
                    obtain ⟨Y, hYe⟩ : ∃ Y, syN (k + 1) = Y := ⟨_, rfl⟩
                    rw [hXe] at hX hst ⊢
                    rw [hYe] at hY hst
                    obtain ⟨Z, hZ⟩ : ∃ Z, X * 2 * (2 * k + 1) = Z := ⟨_, rfl⟩
                    have hZ2 : Z ≤ 2000 * 11 := by rw [← hZ]; exact Nat.mul_le_mul (by omega) (by omega)
                    have e1 : (X : Int) * 2 * (2 * (k : Int) + 1) = (Z : Int) := by rw [← hZ, Int.natCast_mul, Int.natCast_mul, Int.natCast_add, Int.natCast_mul]; rfl
                    have e2 : (Z : Int) / ((k : Int) + 2) = (Y : Int) := by rw [hst, hZ, Int.natCast_ediv, Int.natCast_add]; rfl
                    have HYe := hid hYe
                    clear hXe hYe hZ hst
                    go_wp2
                    go_round
                    case rel => exact ⟨k + 1, by omega, by go_num, by rw [HYe.out]⟩
                    case measure => simp [intOf]; omega
                  · obtain rfl : k = m + 1 := by omega
                    have eP := HP.out
                    have eP2 := HP2.out
                    obtain ⟨X, hXe⟩ : ∃ X, syN (m + 1) = X := ⟨_, rfl⟩
                    rw [hXe] at hX ⊢
                    clear hXe
                    have HB := HB8
                    clear HB8
                    go_wp2_with fail
                    refine (drawFence_any _ xs1 _ (bytes_at HY1.out HB.out) HS.out.2).mono ?_
                    rintro e w30 ⟨z, rfl, hz1, hz2, hb30⟩
                    replace HB := hid (below_to HB.out hb30)
                    clear hb30
                    by_cases hok : 1 ≤ z ∧ z ≤ 10
                    · obtain ⟨f, rfl⟩ := Int.eq_ofNat_of_zero_le (by omega : 0 ≤ z)
                      have hf1 : 1 ≤ f := by omega
                      have hf10 : f ≤ 10 := by omega
                      have hs : (decide (1 ≤ (f : Int)) && decide ((f : Int) ≤ 10)) = true := by simp; omega
                      have HG := hid (kn_fe f hf1 hf10)
                      go_wp2_with fail
                      refine (implFence_any (f : Int) _ (wf_i64 f (by omega) (by omega))).mono ?_
                      rintro e w2 ⟨u, rfl, ho, hl, hb2⟩
                      rw [hs]
                      have HB2 := hid (below_to HB.out hb2)
                      have HO2 := hid ho.ints
                      obtain ⟨uA, uc, rfl, -⟩ := ho.ints
                      obtain ⟨un, hun⟩ : ∃ un, (fenceL (f : Int)).length = un := ⟨_, rfl⟩
                      rw [hun] at HO2 ⊢
                      have HUn := hid hun
                      clear hun
                      obtain ⟨B7, hB7⟩ : ∃ B7, w2.heap.size = B7 := ⟨_, rfl⟩
                      clear ho hb2 HB
                      go_wp2_with fail
                      have HK3 : Hid (Blk (w2.alloc (.cells #[.slice uA un uc] 26)) B7 26 #[.slice uA un uc]) := hid (by rw [← hB7]; exact Blk.new w2 _ _)
                      have HB3 := hid (below_alloc HB2.out (.cells #[.slice uA un uc] 26))
                      have HO3 := hid (HO2.out.alloc (.cells #[.slice uA un uc] 26))
                      clear HB2 HO2
                      refine (specFence_any (f : Int) _ (wf_i64 f (by omega) (by omega))).mono ?_
                      rintro e w4 ⟨x4, rfl, ho4, -, hb4⟩
                      rw [hs]
                      have HB4 := hid (below_to HB3.out hb4)
                      have HO4 := hid (HO3.out.below hb4)
                      have HK4 := hid (HK3.out.below hb4 HK3.out.lt)
                      have HX4 := hid ho4.ints
                      obtain ⟨xA, xn, xc, rfl⟩ := ho4.shape3
                      obtain ⟨B9, hB9⟩ : ∃ B9, w4.heap.size = B9 := ⟨_, rfl⟩
                      clear ho4 hb4 HB3 HO3 HK3 hB7
                      have HK5 : Hid (Blk (w4.alloc (.cells #[.slice xA xn xc] 26)) B9 26 #[.slice xA xn xc]) := hid (by rw [← hB9]; exact Blk.new w4 _ _)
                      have HJ5 := hid (HK4.out.alloc (.cells #[.slice xA xn xc] 26))
                      have HB5 := hid (below_alloc HB4.out (.cells #[.slice xA xn xc] 26))
                      have HO5 := hid (HO4.out.alloc (.cells #[.slice xA xn xc] 26))
                      have HX5 := hid (HX4.out.alloc (.cells #[.slice xA xn xc] 26))
                      have t1 := HK5.out.cell 0
                      have t2 := HJ5.out.cell 0
                      clear HB4 HO4 HK4 HX4 hB9
                      go_wp2_with (go_at_call 74; refine (nPoset_any _ _ (fenceL (f : Int)) _ HO5.out HX5.out hl).mono ?_; rintro e w6 ⟨rfl, hb6⟩; have HB := hid (below_to HB5.out hb6); have HO := hid (HO5.out.below hb6); have HK := hid (HJ5.out.below hb6 HJ5.out.lt); clear hb6 t1 t2 HB5 HO5 HJ5 HX5 HK5; have t0 := HK.out.cell 0)
                      refine (implCountIdeals_any _ (fenceL (f : Int)) _ HO.out hl).mono ?_
                      rintro e w8 ⟨rfl, hb8⟩
                      have HB8 := hid (below_to HB.out hb8)
                      have HO8 := hid (HO.out.below hb8)
                      have HK8 := hid (HK.out.below hb8 HK.out.lt)
                      clear hb8 HB HO HK t0
                      have t8 := HK8.out.cell 0
                      rw [show ((idealsL (fenceL (f : Int))).length) = (fbN (f - 1)).2 from HG.out.1, HG.out.2]
                      clear hs hok hl
                      go_wp2
                      go_loop [37, 38, 39] (fun p q i => ∃ k : Nat, k + 1 ≤ f ∧ i = .int .i64 ((k : Int) + 1) ∧ p = .int .i64 (fbN k).1 ∧ q = .int .i64 (fbN k).2) (fun _ _ i => f + 1 - (intOf i).toNat)
                      case atStart => exact ⟨0, hf1, rfl, rfl, rfl⟩
                      case round =>
                        obtain ⟨k, hk, rfl, rfl, rfl⟩ := hrel
                        have hX := kn_fb k (by omega)
                        by_cases hlt : k + 1 < f
                        · have hst1 : (fbN (k + 1)).1 = (fbN k).2 := rfl
                          have hst2 : (fbN (k + 1)).2 = (fbN k).1 + (fbN k).2 := rfl
                          obtain ⟨X, hXe⟩ : ∃ X, (fbN k).1 = X := ⟨_, rfl⟩
                          obtain ⟨Y, hYe⟩ : ∃ Y, (fbN k).2 = Y := ⟨_, rfl⟩
                          rw [hXe, hYe] at hX ⊢
                          rw [hXe, hYe] at hst2
                          rw [hYe] at hst1
                          have H1 := hid hst1
                          have H2 := hid hst2
                          clear hXe hYe hst1 hst2
                          go_wp2
                          go_round
                          case rel => exact ⟨k + 1, hlt, by go_num, by rw [H1.out], by rw [H2.out, Int.natCast_add]⟩
                          case measure => simp [intOf]; omega
                        · obtain rfl : k = f - 1 := by omega
                          obtain ⟨X, hXe⟩ : ∃ X, (fbN (f - 1)).2 = X := ⟨_, rfl⟩
                          rw [hXe] at hX ⊢
                          clear hXe
                          have HB := HB8
                          clear HB8
                          go_wp2_with fail
                          refine (drawHeightsOf_any _ xs1 _ (bytes_at HY1.out HB.out) HS.out.2).mono ?_
                          rintro e w40 ⟨u, ys, rfl, ho, hly, hb40⟩
                          have HB0 := hid (below_to HB.out hb40)
                          have HO0 := hid ho.ints
                          obtain ⟨uA, un, uc, rfl⟩ := ho.shape3
                          obtain ⟨B7, hB7⟩ : ∃ B7, w40.heap.size = B7 := ⟨_, rfl⟩
                          have hl : ys.length ≤ 1048576 := by omega
                          clear ho hb40 HB
                          have HK1 : Hid (Blk (w40.alloc (.cells #[.slice uA un uc] 26)) B7 26 #[.slice uA un uc]) := hid (by rw [← hB7]; exact Blk.new w40 _ _)
                          have HB1 := hid (below_alloc HB0.out (.cells #[.slice uA un uc] 26))
                          have HO1 := hid (HO0.out.alloc (.cells #[.slice uA un uc] 26))
                          have t1 := HK1.out.cell 0
                          clear HB0 HO0
                          go_wp2_with fail
                          refine (implHeightsOf_any _ ys _ HO1.out hl).mono ?_
                          rintro e w41 ⟨h, rfl, ho, hh, hb41⟩
                          have HB2 := hid (below_to HB1.out hb41)
                          have HO2 := hid (HO1.out.below hb41)
                          have HK2 := hid (HK1.out.below hb41 HK1.out.lt)
                          have HH2 := hid ho.ints
                          obtain ⟨hA, hn, hc, rfl⟩ := ho.shape3
                          have t2 := HK2.out.cell 0
                          clear ho hb41 HB1 HO1 HK1 t1 hB7
                          go_wp2_with fail
                          refine (specHeightsOf_any _ ys _ HO2.out hl).mono ?_
                          rintro e w42 ⟨h2, rfl, ho, -, hb42⟩
                          have HB3 := hid (below_to HB2.out hb42)
                          have HO3 := hid (HO2.out.below hb42)
                          have HK3 := hid (HK2.out.below hb42 HK2.out.lt)
                          have HH3 := hid (HH2.out.below hb42)
                          have HX3 := hid ho.ints
                          obtain ⟨xA, xn, xc, rfl⟩ := ho.shape3
                          have t3 := HK3.out.cell 0
                          clear ho hb42 HB2 HO2 HK2 HH2 t2
                          go_wp2_with fail
                          refine (implIsRanked_any _ ys _ HO3.out hl).mono ?_
                          rintro e w43 ⟨rfl, hb43⟩
                          have HB4 := hid (below_to HB3.out hb43)
                          have HO4 := hid (HO3.out.below hb43)
                          have HK4 := hid (HK3.out.below hb43 HK3.out.lt)
                          have HH4 := hid (HH3.out.below hb43)
                          have HX4 := hid (HX3.out.below hb43)
                          have t4 := HK4.out.cell 0
                          clear hb43 HB3 HO3 HK3 HH3 HX3 t3
                          go_wp2_with fail
                          refine (specIsRanked_any _ ys _ HO4.out hl).mono ?_
                          rintro e w44 ⟨rfl, hb44⟩
                          have HB5 := hid (below_to HB4.out hb44)
                          have HH5 := hid (HH4.out.below hb44)
                          have HX5 := hid (HX4.out.below hb44)
                          clear hb44 HB4 HO4 HK4 HH4 HX4 t4
                          obtain ⟨g, hg⟩ : ∃ g, good ys = g := ⟨_, rfl⟩
                          obtain ⟨rk, hrk⟩ : ∃ g, ansIR ys = g := ⟨_, rfl⟩
                          rw [hg, hrk]
                          clear hg hrk
                          go_wp2_with (go_at_call 14; refine (nSame_any _ _ (heightsL ys) _ HH5.out HX5.out hh).mono ?_; rintro e w45 ⟨rfl, hb45⟩; have HB6 := hid (below_to HB5.out hb45); clear hb45)
                          go_ret
                          exact ⟨ret_bool (by simp), HB6.out⟩
                    · have hs : (decide (1 ≤ z) && decide (z ≤ 10)) = false := by simp; omega
                      go_wp2_with fail
                      refine (implFence_any z _ (wf_i64 z (by omega) (by omega))).mono ?_
                      rintro e w2 ⟨u, rfl, ho, hl, hb2⟩
                      rw [hs]
                      have HB2 := hid (below_to HB.out hb2)
                      have HO2 := hid ho.ints
                      obtain ⟨uA, uc, rfl, -⟩ := ho.ints
                      obtain ⟨un, hun⟩ : ∃ un, (fenceL z).length = un := ⟨_, rfl⟩
                      rw [hun] at HO2 ⊢
                      have HUn := hid hun
                      clear hun
                      obtain ⟨B7, hB7⟩ : ∃ B7, w2.heap.size = B7 := ⟨_, rfl⟩
                      clear ho hb2 HB
                      go_wp2_with fail
                      have HK3 : Hid (Blk (w2.alloc (.cells #[.slice uA un uc] 26)) B7 26 #[.slice uA un uc]) := hid (by rw [← hB7]; exact Blk.new w2 _ _)
                      have HB3 := hid (below_alloc HB2.out (.cells #[.slice uA un uc] 26))
                      have HO3 := hid (HO2.out.alloc (.cells #[.slice uA un uc] 26))
                      clear HB2 HO2
                      refine (specFence_any z _ (wf_i64 z (by omega) (by omega))).mono ?_
                      rintro e w4 ⟨x4, rfl, ho4, -, hb4⟩
                      rw [hs]
                      have HB4 := hid (below_to HB3.out hb4)
                      have HO4 := hid (HO3.out.below hb4)
                      have HK4 := hid (HK3.out.below hb4 HK3.out.lt)
                      have HX4 := hid ho4.ints
                      obtain ⟨xA, xn, xc, rfl⟩ := ho4.shape3
                      obtain ⟨B9, hB9⟩ : ∃ B9, w4.heap.size = B9 := ⟨_, rfl⟩
                      clear ho4 hb4 HB3 HO3 HK3 hB7
                      have HK5 : Hid (Blk (w4.alloc (.cells #[.slice xA xn xc] 26)) B9 26 #[.slice xA xn xc]) := hid (by rw [← hB9]; exact Blk.new w4 _ _)
                      have HJ5 := hid (HK4.out.alloc (.cells #[.slice xA xn xc] 26))
                      have HB5 := hid (below_alloc HB4.out (.cells #[.slice xA xn xc] 26))
                      have HO5 := hid (HO4.out.alloc (.cells #[.slice xA xn xc] 26))
                      have HX5 := hid (HX4.out.alloc (.cells #[.slice xA xn xc] 26))
                      have t1 := HK5.out.cell 0
                      have t2 := HJ5.out.cell 0
                      clear HB4 HO4 HK4 HX4 hB9
                      go_wp2_with (go_at_call 74; refine (nPoset_any _ _ (fenceL z) _ HO5.out HX5.out hl).mono ?_; rintro e w6 ⟨rfl, hb6⟩; have HB := hid (below_to HB5.out hb6); have HO := hid (HO5.out.below hb6); have HK := hid (HJ5.out.below hb6 HJ5.out.lt); clear hb6 t1 t2 HB5 HO5 HJ5 HX5 HK5; have t0 := HK.out.cell 0)
                      clear hl t0 hs hok hz1 hz2 HO HK HUn
                      go_wp2_with fail
                      refine (drawHeightsOf_any _ xs1 _ (bytes_at HY1.out HB.out) HS.out.2).mono ?_
                      rintro e w40 ⟨u, ys, rfl, ho, hly, hb40⟩
                      have HB0 := hid (below_to HB.out hb40)
                      have HO0 := hid ho.ints
                      obtain ⟨uA, un, uc, rfl⟩ := ho.shape3
                      obtain ⟨B7, hB7⟩ : ∃ B7, w40.heap.size = B7 := ⟨_, rfl⟩
                      have hl : ys.length ≤ 1048576 := by omega
                      clear ho hb40 HB
                      have HK1 : Hid (Blk (w40.alloc (.cells #[.slice uA un uc] 26)) B7 26 #[.slice uA un uc]) := hid (by rw [← hB7]; exact Blk.new w40 _ _)
                      have HB1 := hid (below_alloc HB0.out (.cells #[.slice uA un uc] 26))
                      have HO1 := hid (HO0.out.alloc (.cells #[.slice uA un uc] 26))
                      have t1 := HK1.out.cell 0
                      clear HB0 HO0
                      go_wp2_with fail
                      refine (implHeightsOf_any _ ys _ HO1.out hl).mono ?_
                      rintro e w41 ⟨h, rfl, ho, hh, hb41⟩
                      have HB2 := hid (below_to HB1.out hb41)
                      have HO2 := hid (HO1.out.below hb41)
                      have HK2 := hid (HK1.out.below hb41 HK1.out.lt)
                      have HH2 := hid ho.ints
                      obtain ⟨hA, hn, hc, rfl⟩ := ho.shape3
                      have t2 := HK2.out.cell 0
                      clear ho hb41 HB1 HO1 HK1 t1 hB7
                      go_wp2_with fail
                      refine (specHeightsOf_any _ ys _ HO2.out hl).mono ?_
                      rintro e w42 ⟨h2, rfl, ho, -, hb42⟩
                      have HB3 := hid (below_to HB2.out hb42)
                      have HO3 := hid (HO2.out.below hb42)
                      have HK3 := hid (HK2.out.below hb42 HK2.out.lt)
                      have HH3 := hid (HH2.out.below hb42)
                      have HX3 := hid ho.ints
                      obtain ⟨xA, xn, xc, rfl⟩ := ho.shape3
                      have t3 := HK3.out.cell 0
                      clear ho hb42 HB2 HO2 HK2 HH2 t2
                      go_wp2_with fail
                      refine (implIsRanked_any _ ys _ HO3.out hl).mono ?_
                      rintro e w43 ⟨rfl, hb43⟩
                      have HB4 := hid (below_to HB3.out hb43)
                      have HO4 := hid (HO3.out.below hb43)
                      have HK4 := hid (HK3.out.below hb43 HK3.out.lt)
                      have HH4 := hid (HH3.out.below hb43)
                      have HX4 := hid (HX3.out.below hb43)
                      have t4 := HK4.out.cell 0
                      clear hb43 HB3 HO3 HK3 HH3 HX3 t3
                      go_wp2_with fail
                      refine (specIsRanked_any _ ys _ HO4.out hl).mono ?_
                      rintro e w44 ⟨rfl, hb44⟩
                      have HB5 := hid (below_to HB4.out hb44)
                      have HH5 := hid (HH4.out.below hb44)
                      have HX5 := hid (HX4.out.below hb44)
                      clear hb44 HB4 HO4 HK4 HH4 HX4 t4
                      obtain ⟨g, hg⟩ : ∃ g, good ys = g := ⟨_, rfl⟩
                      obtain ⟨rk, hrk⟩ : ∃ g, ansIR ys = g := ⟨_, rfl⟩
                      rw [hg, hrk]
                      clear hg hrk
                      go_wp2_with (go_at_call 14; refine (nSame_any _ _ (heightsL ys) _ HH5.out HX5.out hh).mono ?_; rintro e w45 ⟨rfl, hb45⟩; have HB6 := hid (below_to HB5.out hb45); clear hb45)
                      go_ret
                      exact ⟨ret_bool (by simp), HB6.out⟩
              · have hs : (decide (1 ≤ n) && decide (n ≤ 4)) = false := by simp; omega
                go_wp2_with fail
                refine (implStaircase_any n _ (wf_i64 n (by omega) (by omega))).mono ?_
                rintro e w2 ⟨u, rfl, ho, hl, hb2⟩
                rw [hs]
                have HB2 := hid (below_to HB.out hb2)
                have HO2 := hid ho.ints
                obtain ⟨uA, uc, rfl, -⟩ := ho.ints
                obtain ⟨un, hun⟩ : ∃ un, (stcL n).length = un := ⟨_, rfl⟩
                rw [hun] at HO2 ⊢
                have HUn := hid hun
                clear hun
                obtain ⟨B7, hB7⟩ : ∃ B7, w2.heap.size = B7 := ⟨_, rfl⟩
                clear ho hb2 HB
                go_wp2_with fail
                have HK3 : Hid (Blk (w2.alloc (.cells #[.slice uA un uc] 26)) B7 26 #[.slice uA un uc]) := hid (by rw [← hB7]; exact Blk.new w2 _ _)
                have HB3 := hid (below_alloc HB2.out (.cells #[.slice uA un uc] 26))
                have HO3 := hid (HO2.out.alloc (.cells #[.slice uA un uc] 26))
                clear HB2 HO2
                refine (specStaircase_any n _ (wf_i64 n (by omega) (by omega))).mono ?_
                rintro e w4 ⟨x4, rfl, ho4, -, hb4⟩
                rw [hs]
                have HB4 := hid (below_to HB3.out hb4)
                have HO4 := hid (HO3.out.below hb4)
                have HK4 := hid (HK3.out.below hb4 HK3.out.lt)
                have HX4 := hid ho4.ints
                obtain ⟨xA, xn, xc, rfl⟩ := ho4.shape3
                obtain ⟨B9, hB9⟩ : ∃ B9, w4.heap.size = B9 := ⟨_, rfl⟩
                clear ho4 hb4 HB3 HO3 HK3 hB7
                have HK5 : Hid (Blk (w4.alloc (.cells #[.slice xA xn xc] 26)) B9 26 #[.slice xA xn xc]) := hid (by rw [← hB9]; exact Blk.new w4 _ _)
                have HJ5 := hid (HK4.out.alloc (.cells #[.slice xA xn xc] 26))
                have HB5 := hid (below_alloc HB4.out (.cells #[.slice xA xn xc] 26))
                have HO5 := hid (HO4.out.alloc (.cells #[.slice xA xn xc] 26))
                have HX5 := hid (HX4.out.alloc (.cells #[.slice xA xn xc] 26))
                have t1 := HK5.out.cell 0
                have t2 := HJ5.out.cell 0
                clear HB4 HO4 HK4 HX4 hB9
                go_wp2_with (go_at_call 74; refine (nPoset_any _ _ (stcL n) _ HO5.out HX5.out hl).mono ?_; rintro e w6 ⟨rfl, hb6⟩; have HB := hid (below_to HB5.out hb6); have HO := hid (HO5.out.below hb6); have HK := hid (HJ5.out.below hb6 HJ5.out.lt); clear hb6 t1 t2 HB5 HO5 HJ5 HX5 HK5; have t0 := HK.out.cell 0)
                clear hl t0 hs hok hn1 hn2 HO HK HUn
                go_wp2_with fail
                refine (drawFence_any _ xs1 _ (bytes_at HY1.out HB.out) HS.out.2).mono ?_
                rintro e w30 ⟨z, rfl, hz1, hz2, hb30⟩
                replace HB := hid (below_to HB.out hb30)
                clear hb30
                by_cases hok : 1 ≤ z ∧ z ≤ 10
                · obtain ⟨f, rfl⟩ := Int.eq_ofNat_of_zero_le (by omega : 0 ≤ z)
                  have hf1 : 1 ≤ f := by omega
                  have hf10 : f ≤ 10 := by omega
                  have hs : (decide (1 ≤ (f : Int)) && decide ((f : Int) ≤ 10)) = true := by simp; omega
                  have HG := hid (kn_fe f hf1 hf10)
                  go_wp2_with fail
                  refine (implFence_any (f : Int) _ (wf_i64 f (by omega) (by omega))).mono ?_
                  rintro e w2 ⟨u, rfl, ho, hl, hb2⟩
                  rw [hs]
                  have HB2 := hid (below_to HB.out hb2)
                  have HO2 := hid ho.ints
                  obtain ⟨uA, uc, rfl, -⟩ := ho.ints
                  obtain ⟨un, hun⟩ : ∃ un, (fenceL (f : Int)).length = un := ⟨_, rfl⟩
                  rw [hun] at HO2 ⊢
                  have HUn := hid hun
                  clear hun
                  obtain ⟨B7, hB7⟩ : ∃ B7, w2.heap.size = B7 := ⟨_, rfl⟩
                  clear ho hb2 HB
                  go_wp2_with fail
                  have HK3 : Hid (Blk (w2.alloc (.cells #[.slice uA un uc] 26)) B7 26 #[.slice uA un uc]) := hid (by rw [← hB7]; exact Blk.new w2 _ _)
                  have HB3 := hid (below_alloc HB2.out (.cells #[.slice uA un uc] 26))
                  have HO3 := hid (HO2.out.alloc (.cells #[.slice uA un uc] 26))
                  clear HB2 HO2
                  refine (specFence_any (f : Int) _ (wf_i64 f (by omega) (by omega))).mono ?_
                  rintro e w4 ⟨x4, rfl, ho4, -, hb4⟩
                  rw [hs]
                  have HB4 := hid (below_to HB3.out hb4)
                  have HO4 := hid (HO3.out.below hb4)
                  have HK4 := hid (HK3.out.below hb4 HK3.out.lt)
                  have HX4 := hid ho4.ints
                  obtain ⟨xA, xn, xc, rfl⟩ := ho4.shape3
                  obtain ⟨B9, hB9⟩ : ∃ B9, w4.heap.size = B9 := ⟨_, rfl⟩
                  clear ho4 hb4 HB3 HO3 HK3 hB7
                  have HK5 : Hid (Blk (w4.alloc (.cells #[.slice xA xn xc] 26)) B9 26 #[.slice xA xn xc]) := hid (by rw [← hB9]; exact Blk.new w4 _ _)
                  have HJ5 := hid (HK4.out.alloc (.cells #[.slice xA xn xc] 26))
                  have HB5 := hid (below_alloc HB4.out (.cells #[.slice xA xn xc] 26))
                  have HO5 := hid (HO4.out.alloc (.cells #[.slice xA xn xc] 26))
                  have HX5 := hid (HX4.out.alloc (.cells #[.slice xA xn xc] 26))
                  have t1 := HK5.out.cell 0
                  have t2 := HJ5.out.cell 0
                  clear HB4 HO4 HK4 HX4 hB9
                  go_wp2_with (go_at_call 74; refine (nPoset_any _ _ (fenceL (f : Int)) _ HO5.out HX5.out hl).mono ?_; rintro e w6 ⟨rfl, hb6⟩; have HB := hid (below_to HB5.out hb6); have HO := hid (HO5.out.below hb6); have HK := hid (HJ5.out.below hb6 HJ5.out.lt); clear hb6 t1 t2 HB5 HO5 HJ5 HX5 HK5; have t0 := HK.out.cell 0)
                  refine (implCountIdeals_any _ (fenceL (f : Int)) _ HO.out hl).mono ?_
                  rintro e w8 ⟨rfl, hb8⟩
                  have HB8 := hid (below_to HB.out hb8)
                  have HO8 := hid (HO.out.below hb8)
                  have HK8 := hid (HK.out.below hb8 HK.out.lt)
                  clear hb8 HB HO HK t0
                  have t8 := HK8.out.cell 0
                  rw [show ((idealsL (fenceL (f : Int))).length) = (fbN (f - 1)).2 from HG.out.1, HG.out.2]
                  clear hs hok hl
                  go_wp2
                  go_loop [37, 38, 39] (fun p q i => ∃ k : Nat, k + 1 ≤ f ∧ i = .int .i64 ((k : Int) + 1) ∧ p = .int .i64 (fbN k).1 ∧ q = .int .i64 (fbN k).2) (fun _ _ i => f + 1 - (intOf i).toNat)
                  case atStart => exact ⟨0, hf1, rfl, rfl, rfl⟩
                  case round =>
                    obtain ⟨k, hk, rfl, rfl, rfl⟩ := hrel
                    have hX := kn_fb k (by omega)
                    by_cases hlt : k + 1 < f
                    · have hst1 : (fbN (k + 1)).1 = (fbN k).2 := rfl
                      have hst2 : (fbN (k + 1)).2 = (fbN k).1 + (fbN k).2 := rfl
                      obtain ⟨X, hXe⟩ : ∃ X, (fbN k).1 = X := ⟨_, rfl⟩
                      obtain ⟨Y, hYe⟩ : ∃ Y, (fbN k).2 = Y := ⟨_, rfl⟩
                      rw [hXe, hYe] at hX ⊢
                      rw [hXe, hYe] at hst2
                      rw [hYe] at hst1
                      have H1 := hid hst1
                      have H2 := hid hst2
                      clear hXe hYe hst1 hst2
                      go_wp2
                      go_round
                      case rel => exact ⟨k + 1, hlt, by go_num, by rw [H1.out], by rw [H2.out, Int.natCast_add]⟩
                      case measure => simp [intOf]; omega
                    · obtain rfl : k = f - 1 := by omega
                      obtain ⟨X, hXe⟩ : ∃ X, (fbN (f - 1)).2 = X := ⟨_, rfl⟩
                      rw [hXe] at hX ⊢
                      clear hXe
                      have HB := HB8
                      clear HB8
                      go_wp2_with fail
                      refine (drawHeightsOf_any _ xs1 _ (bytes_at HY1.out HB.out) HS.out.2).mono ?_
                      rintro e w40 ⟨u, ys, rfl, ho, hly, hb40⟩
                      have HB0 := hid (below_to HB.out hb40)
                      have HO0 := hid ho.ints
                      obtain ⟨uA, un, uc, rfl⟩ := ho.shape3
                      obtain ⟨B7, hB7⟩ : ∃ B7, w40.heap.size = B7 := ⟨_, rfl⟩
                      have hl : ys.length ≤ 1048576 := by omega
                      clear ho hb40 HB
                      have HK1 : Hid (Blk (w40.alloc (.cells #[.slice uA un uc] 26)) B7 26 #[.slice uA un uc]) := hid (by rw [← hB7]; exact Blk.new w40 _ _)
                      have HB1 := hid (below_alloc HB0.out (.cells #[.slice uA un uc] 26))
                      have HO1 := hid (HO0.out.alloc (.cells #[.slice uA un uc] 26))
                      have t1 := HK1.out.cell 0
                      clear HB0 HO0
                      go_wp2_with fail
                      refine (implHeightsOf_any _ ys _ HO1.out hl).mono ?_
                      rintro e w41 ⟨h, rfl, ho, hh, hb41⟩
                      have HB2 := hid (below_to HB1.out hb41)
                      have HO2 := hid (HO1.out.below hb41)
                      have HK2 := hid (HK1.out.below hb41 HK1.out.lt)
                      have HH2 := hid ho.ints
                      obtain ⟨hA, hn, hc, rfl⟩ := ho.shape3
                      have t2 := HK2.out.cell 0
                      clear ho hb41 HB1 HO1 HK1 t1 hB7
                      go_wp2_with fail
                      refine (specHeightsOf_any _ ys _ HO2.out hl).mono ?_
                      rintro e w42 ⟨h2, rfl, ho, -, hb42⟩
                      have HB3 := hid (below_to HB2.out hb42)
                      have HO3 := hid (HO2.out.below hb42)
                      have HK3 := hid (HK2.out.below hb42 HK2.out.lt)
                      have HH3 := hid (HH2.out.below hb42)
                      have HX3 := hid ho.ints
                      obtain ⟨xA, xn, xc, rfl⟩ := ho.shape3
                      have t3 := HK3.out.cell 0
                      clear ho hb42 HB2 HO2 HK2 HH2 t2
                      go_wp2_with fail
                      refine (implIsRanked_any _ ys _ HO3.out hl).mono ?_
                      rintro e w43 ⟨rfl, hb43⟩
                      have HB4 := hid (below_to HB3.out hb43)
                      have HO4 := hid (HO3.out.below hb43)
                      have HK4 := hid (HK3.out.below hb43 HK3.out.lt)
                      have HH4 := hid (HH3.out.below hb43)
                      have HX4 := hid (HX3.out.below hb43)
                      have t4 := HK4.out.cell 0
                      clear hb43 HB3 HO3 HK3 HH3 HX3 t3
                      go_wp2_with fail
                      refine (specIsRanked_any _ ys _ HO4.out hl).mono ?_
                      rintro e w44 ⟨rfl, hb44⟩
                      have HB5 := hid (below_to HB4.out hb44)
                      have HH5 := hid (HH4.out.below hb44)
                      have HX5 := hid (HX4.out.below hb44)
                      clear hb44 HB4 HO4 HK4 HH4 HX4 t4
                      obtain ⟨g, hg⟩ : ∃ g, good ys = g := ⟨_, rfl⟩
                      obtain ⟨rk, hrk⟩ : ∃ g, ansIR ys = g := ⟨_, rfl⟩
                      rw [hg, hrk]
                      clear hg hrk
                      go_wp2_with (go_at_call 14; refine (nSame_any _ _ (heightsL ys) _ HH5.out HX5.out hh).mono ?_; rintro e w45 ⟨rfl, hb45⟩; have HB6 := hid (below_to HB5.out hb45); clear hb45)
                      go_ret
                      exact ⟨ret_bool (by simp), HB6.out⟩
                · have hs : (decide (1 ≤ z) && decide (z ≤ 10)) = false := by simp; omega
                  go_wp2_with fail
                  refine (implFence_any z _ (wf_i64 z (by omega) (by omega))).mono ?_
                  rintro e w2 ⟨u, rfl, ho, hl, hb2⟩
                  rw [hs]
                  have HB2 := hid (below_to HB.out hb2)
                  have HO2 := hid ho.ints
                  obtain ⟨uA, uc, rfl, -⟩ := ho.ints
                  obtain ⟨un, hun⟩ : ∃ un, (fenceL z).length = un := ⟨_, rfl⟩
                  rw [hun] at HO2 ⊢
                  have HUn := hid hun
                  clear hun
                  obtain ⟨B7, hB7⟩ : ∃ B7, w2.heap.size = B7 := ⟨_, rfl⟩
                  clear ho hb2 HB
                  go_wp2_with fail
                  have HK3 : Hid (Blk (w2.alloc (.cells #[.slice uA un uc] 26)) B7 26 #[.slice uA un uc]) := hid (by rw [← hB7]; exact Blk.new w2 _ _)
                  have HB3 := hid (below_alloc HB2.out (.cells #[.slice uA un uc] 26))
                  have HO3 := hid (HO2.out.alloc (.cells #[.slice uA un uc] 26))
                  clear HB2 HO2
                  refine (specFence_any z _ (wf_i64 z (by omega) (by omega))).mono ?_
                  rintro e w4 ⟨x4, rfl, ho4, -, hb4⟩
                  rw [hs]
                  have HB4 := hid (below_to HB3.out hb4)
                  have HO4 := hid (HO3.out.below hb4)
                  have HK4 := hid (HK3.out.below hb4 HK3.out.lt)
                  have HX4 := hid ho4.ints
                  obtain ⟨xA, xn, xc, rfl⟩ := ho4.shape3
                  obtain ⟨B9, hB9⟩ : ∃ B9, w4.heap.size = B9 := ⟨_, rfl⟩
                  clear ho4 hb4 HB3 HO3 HK3 hB7
                  have HK5 : Hid (Blk (w4.alloc (.cells #[.slice xA xn xc] 26)) B9 26 #[.slice xA xn xc]) := hid (by rw [← hB9]; exact Blk.new w4 _ _)
                  have HJ5 := hid (HK4.out.alloc (.cells #[.slice xA xn xc] 26))
                  have HB5 := hid (below_alloc HB4.out (.cells #[.slice xA xn xc] 26))
                  have HO5 := hid (HO4.out.alloc (.cells #[.slice xA xn xc] 26))
                  have HX5 := hid (HX4.out.alloc (.cells #[.slice xA xn xc] 26))
                  have t1 := HK5.out.cell 0
                  have t2 := HJ5.out.cell 0
                  clear HB4 HO4 HK4 HX4 hB9
                  go_wp2_with (go_at_call 74; refine (nPoset_any _ _ (fenceL z) _ HO5.out HX5.out hl).mono ?_; rintro e w6 ⟨rfl, hb6⟩; have HB := hid (below_to HB5.out hb6); have HO := hid (HO5.out.below hb6); have HK := hid (HJ5.out.below hb6 HJ5.out.lt); clear hb6 t1 t2 HB5 HO5 HJ5 HX5 HK5; have t0 := HK.out.cell 0)
                  clear hl t0 hs hok hz1 hz2 HO HK HUn
                  go_wp2_with fail
                  refine (drawHeightsOf_any _ xs1 _ (bytes_at HY1.out HB.out) HS.out.2).mono ?_
                  rintro e w40 ⟨u, ys, rfl, ho, hly, hb40⟩
                  have HB0 := hid (below_to HB.out hb40)
                  have HO0 := hid ho.ints
                  obtain ⟨uA, un, uc, rfl⟩ := ho.shape3
                  obtain ⟨B7, hB7⟩ : ∃ B7, w40.heap.size = B7 := ⟨_, rfl⟩
                  have hl : ys.length ≤ 1048576 := by omega
                  clear ho hb40 HB
                  have HK1 : Hid (Blk (w40.alloc (.cells #[.slice uA un uc] 26)) B7 26 #[.slice uA un uc]) := hid (by rw [← hB7]; exact Blk.new w40 _ _)
                  have HB1 := hid (below_alloc HB0.out (.cells #[.slice uA un uc] 26))
                  have HO1 := hid (HO0.out.alloc (.cells #[.slice uA un uc] 26))
                  have t1 := HK1.out.cell 0
                  clear HB0 HO0
                  go_wp2_with fail
                  refine (implHeightsOf_any _ ys _ HO1.out hl).mono ?_
                  rintro e w41 ⟨h, rfl, ho, hh, hb41⟩
                  have HB2 := hid (below_to HB1.out hb41)
                  have HO2 := hid (HO1.out.below hb41)
                  have HK2 := hid (HK1.out.below hb41 HK1.out.lt)
                  have HH2 := hid ho.ints
                  obtain ⟨hA, hn, hc, rfl⟩ := ho.shape3
                  have t2 := HK2.out.cell 0
                  clear ho hb41 HB1 HO1 HK1 t1 hB7
                  go_wp2_with fail
                  refine (specHeightsOf_any _ ys _ HO2.out hl).mono ?_
                  rintro e w42 ⟨h2, rfl, ho, -, hb42⟩
                  have HB3 := hid (below_to HB2.out hb42)
                  have HO3 := hid (HO2.out.below hb42)
                  have HK3 := hid (HK2.out.below hb42 HK2.out.lt)
                  have HH3 := hid (HH2.out.below hb42)
                  have HX3 := hid ho.ints
                  obtain ⟨xA, xn, xc, rfl⟩ := ho.shape3
                  have t3 := HK3.out.cell 0
                  clear ho hb42 HB2 HO2 HK2 HH2 t2
                  go_wp2_with fail
                  refine (implIsRanked_any _ ys _ HO3.out hl).mono ?_
                  rintro e w43 ⟨rfl, hb43⟩
                  have HB4 := hid (below_to HB3.out hb43)
                  have HO4 := hid (HO3.out.below hb43)
                  have HK4 := hid (HK3.out.below hb43 HK3.out.lt)
                  have HH4 := hid (HH3.out.below hb43)
                  have HX4 := hid (HX3.out.below hb43)
                  have t4 := HK4.out.cell 0
                  clear hb43 HB3 HO3 HK3 HH3 HX3 t3
                  go_wp2_with fail
                  refine (specIsRanked_any _ ys _ HO4.out hl).mono ?_
                  rintro e w44 ⟨rfl, hb44⟩
                  have HB5 := hid (below_to HB4.out hb44)
                  have HH5 := hid (HH4.out.below hb44)
                  have HX5 := hid (HX4.out.below hb44)
                  clear hb44 HB4 HO4 HK4 HH4 HX4 t4
                  obtain ⟨g, hg⟩ : ∃ g, good ys = g := ⟨_, rfl⟩
                  obtain ⟨rk, hrk⟩ : ∃ g, ansIR ys = g := ⟨_, rfl⟩
                  rw [hg, hrk]
                  clear hg hrk
                  go_wp2_with (go_at_call 14; refine (nSame_any _ _ (heightsL ys) _ HH5.out HX5.out hh).mono ?_; rintro e w45 ⟨rfl, hb45⟩; have HB6 := hid (below_to HB5.out hb45); clear hb45)
                  go_ret
                  exact ⟨ret_bool (by simp), HB6.out⟩
end Go.Proofs.Ytclhebpkpmholaa.lawKnownPosets
