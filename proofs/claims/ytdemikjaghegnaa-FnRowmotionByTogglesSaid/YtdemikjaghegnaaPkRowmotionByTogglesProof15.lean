/- Texts RowmotionByTogglesLaw, one behind the other. -/
import Derived.BigQuiet
import Derived.Test.YtdemikjaghegnaaPkRowmotionByTogglesProof08
import Derived.Test.YtdemikjaghegnaaPkRowmotionByTogglesProof10
import Derived.Test.YtdemikjaghegnaaPkRowmotionByTogglesProof14
/- RowmotionByToggles: the walk of the law (made by tools/genrt.py). -/
namespace Go.Proofs.Ytdemikjaghegnaa
open Go.RowKit Go.WideShapes Go.ChangeShapes
set_option linter.unusedVariables false
theorem bytes_at {w W : World} {v : Value} {bs : List Int} (h : BytesB w w.heap.size v bs) (hb : Below w.heap.size w W) : BytesB W W.heap.size v bs := (h.below hb).up hb.size
end Go.Proofs.Ytdemikjaghegnaa
namespace Go.Proofs.Ytdemikjaghegnaa.lawRowmotionByToggles
open Go.RowKit Go.WideShapes Go.ChangeShapes
set_option linter.unusedVariables false
set_option maxRecDepth 100000 in
set_option maxHeartbeats 6400000 in
theorem walk (v0 : Value) (xs0 : List Int) (v1 : Value) (xs1 : List Int) (w : World) (hb0 : BytesB w w.heap.size v0 xs0) (hl0 : xs0.length ≤ maxLen) (hb1 : BytesB w w.heap.size v1 xs1) (hl1 : xs1.length ≤ maxLen) :
    Calls Try.prog 3 #[v0, v1] w fun (r : Ending) w' => r = .returned (.bool true) ∧ Below w.heap.size w w' := by
  have HY0 := hid hb0
  have HY1 := hid hb1
  obtain ⟨A0, c0, rfl, -⟩ := hb0
  obtain ⟨A1, c1, rfl, -⟩ := hb1
  have HL0 := hid hl0
  have HL1 := hid hl1
  unfold maxLen at hl0 hl1
  go_enter Try.func3, Try.ntmps3
  by_cases hbig : 1048576 < xs0.length + xs1.length
  · go_wp2_with fail
    refine (big_any _ _ xs0 xs1 _ HY0.out HY1.out HL0.out HL1.out).mono ?_
    rintro e w1 ⟨rfl, rfl⟩
    rw [decide_eq_true hbig]
    go_wp2
    go_ret
    exact ⟨rfl, Below.refl _ _⟩
  · go_wp2_with fail
    refine (big_any _ _ xs0 xs1 _ HY0.out HY1.out HL0.out HL1.out).mono ?_
    rintro e w1 ⟨rfl, rfl⟩
    rw [decide_eq_false hbig]
    have HS := hid (show xs0.length ≤ 1048576 ∧ xs1.length ≤ 1048576 by omega)
    clear hbig hl0 hl1
    have HB0 : Hid (Below w.heap.size w w) := hid (Below.refl _ _)
    go_wp2_with fail
    refine (drawRowByToggles_any _ xs0 _ (bytes_at HY0.out HB0.out) HS.out.1).mono ?_
    rintro e w1 ⟨u, xs, s, q, ys, rfl, hwf, ho, hl21, hoq, hy12, hb⟩
    have HB := hid (below_to HB0.out hb)
    have HIp := hid ho.ints
    obtain ⟨pA, pc, rfl, -⟩ := ho.ints
    have HIq := hid hoq.ints
    clear ho hb hoq HB0
    have HWs := hid hwf
    have hl : xs.length ≤ 1048576 := by omega
    have hm : ys.length ≤ 1048576 := by omega
    obtain ⟨qA, qc, rfl, -⟩ := HIq.out
    clear hwf
    obtain ⟨B5, hB5⟩ : ∃ B5, w1.heap.size = B5 := ⟨_, rfl⟩
    go_wp2_with fail
    have HB2 := hid (below_alloc HB.out (.cells #[.slice pA xs.length pc] 26))
    have HIp2 := hid (HIp.out.alloc (.cells #[.slice pA xs.length pc] 26))
    have HIq2 := hid (HIq.out.alloc (.cells #[.slice pA xs.length pc] 26))
    have HKp2 : Hid (Blk (w1.alloc (.cells #[.slice pA xs.length pc] 26)) B5 26 #[.slice pA xs.length pc]) := hid (by rw [← hB5]; exact Blk.new w1 _ _)
    clear hB5 HB HIp HIq
    have tKp3 := HKp2.out.cell 0
    cases hrb : okRB xs ys s
    · as_aux_lemma =>
        obtain ⟨R, hR⟩ : ∃ R, ansRB xs ys s = R := ⟨_, rfl⟩
        obtain ⟨T, hT⟩ : ∃ R, ansRow xs s rowmo = R := ⟨_, rfl⟩
        obtain ⟨b1, hb1⟩ : ∃ b, okIdeal xs s = b := ⟨_, rfl⟩
        have HR := hid hR
        have HT := hid hT
        have Hb1 := hid hb1
        have Hrb := hid hrb
        clear hR hT hb1 hrb
        go_wp2_with fail
        refine (implRowByToggles_any _ xs s _ ys _ HIp2.out hl HWs.out HIq2.out hm).mono ?_
        rintro e w4 ⟨rfl, hb⟩
        rw [HR.out, Hrb.out]
        have HB5 := hid (below_to HB2.out hb)
        have HIp5 := hid (HIp2.out.below hb)
        have HIq5 := hid (HIq2.out.below hb)
        have HKp5 := hid (HKp2.out.below hb HKp2.out.lt)
        clear tKp3
        clear hb HB2 HIp2 HIq2 HKp2
        have tKp6 := HKp5.out.cell 0
        go_wp2_with fail
        refine (specRowByToggles_any _ xs s _ ys _ HIp5.out hl HWs.out HIq5.out hm).mono ?_
        rintro e w7 ⟨rfl, hb⟩
        rw [HR.out, Hrb.out]
        have HB8 := hid (below_to HB5.out hb)
        have HIp8 := hid (HIp5.out.below hb)
        have HIq8 := hid (HIq5.out.below hb)
        have HKp8 := hid (HKp5.out.below hb HKp5.out.lt)
        clear tKp6
        clear hb HB5 HIp5 HIq5 HKp5
        have tKp9 := HKp8.out.cell 0
        go_wp2_with fail
        refine (implRowmotion_any _ xs s _ HIp8.out hl HWs.out).mono ?_
        rintro e w10 ⟨rfl, hb⟩
        rw [HT.out, Hb1.out]
        have HB11 := hid (below_to HB8.out hb)
        have HIp11 := hid (HIp8.out.below hb)
        have HIq11 := hid (HIq8.out.below hb)
        have HKp11 := hid (HKp8.out.below hb HKp8.out.lt)
        clear tKp9
        clear hb HB8 HIp8 HIq8 HKp8
        have tKp12 := HKp11.out.cell 0
        clear HR HT Hb1 Hrb HWs hl hm hl21 hy12 tKp12 HIp11 HIq11 HKp11
        as_aux_lemma =>
          go_wp2_with fail
          refine (drawRowmotion_any _ xs1 _ (bytes_at HY1.out HB11.out) HS.out.2).mono ?_
          rintro e w13 ⟨u, us, s2, rfl, hwf, ho, hl21, hb⟩
          have HB := hid (below_to HB11.out hb)
          have HIp := hid ho.ints
          obtain ⟨pA, pc, rfl, -⟩ := ho.ints
          clear ho hb  HB11
          have HWs := hid hwf
          have hl : us.length ≤ 1048576 := by omega
          clear hwf
          obtain ⟨B6, hB6⟩ : ∃ B6, w13.heap.size = B6 := ⟨_, rfl⟩
          go_wp2_with fail
          have HB14 := hid (below_alloc HB.out (.cells #[.slice pA us.length pc] 26))
          have HIp14 := hid (HIp.out.alloc (.cells #[.slice pA us.length pc] 26))
          have HKp14 : Hid (Blk (w13.alloc (.cells #[.slice pA us.length pc] 26)) B6 26 #[.slice pA us.length pc]) := hid (by rw [← hB6]; exact Blk.new w13 _ _)
          clear hB6 HB HIp
          have tKp15 := HKp14.out.cell 0
          cases hoi : okIdeal us s2
          · as_aux_lemma =>
              have HE : Hid (∀ f, ansRow us s2 f = 0) := hid (fun f => ansRow_no hoi)
              have HOi := hid hoi
              clear hoi
              go_wp2_with fail
              refine (implRowmotion_any _ us s2 _ HIp14.out hl HWs.out).mono ?_
              rintro e w16 ⟨rfl, hb⟩
              rw [HE.out, HOi.out]
              have HB17 := hid (below_to HB14.out hb)
              have HIp17 := hid (HIp14.out.below hb)
              have HKp17 := hid (HKp14.out.below hb HKp14.out.lt)
              clear tKp15
              clear hb HB14 HIp14 HKp14
              have tKp18 := HKp17.out.cell 0
              go_wp2_with fail
              refine (specRowmotion_any _ us s2 _ HIp17.out hl HWs.out).mono ?_
              rintro e w19 ⟨rfl, hb⟩
              rw [HE.out, HOi.out]
              have HB20 := hid (below_to HB17.out hb)
              have HIp20 := hid (HIp17.out.below hb)
              have HKp20 := hid (HKp17.out.below hb HKp17.out.lt)
              clear tKp18
              clear hb HB17 HIp17 HKp17
              have tKp21 := HKp20.out.cell 0
              go_wp2_with fail
              refine (implRowmotionBack_any _ us s2 _ HIp20.out hl HWs.out).mono ?_
              rintro e w22 ⟨rfl, hb⟩
              rw [HE.out, HOi.out]
              have HB23 := hid (below_to HB20.out hb)
              have HIp23 := hid (HIp20.out.below hb)
              have HKp23 := hid (HKp20.out.below hb HKp20.out.lt)
              clear tKp21
              clear hb HB20 HIp20 HKp20
              have tKp24 := HKp23.out.cell 0
              go_wp2_with fail
              refine (specRowmotionBack_any _ us s2 _ HIp23.out hl HWs.out).mono ?_
              rintro e w25 ⟨rfl, hb⟩
              rw [HE.out, HOi.out]
              have HB26 := hid (below_to HB23.out hb)
              have HIp26 := hid (HIp23.out.below hb)
              have HKp26 := hid (HKp23.out.below hb HKp23.out.lt)
              clear tKp24
              clear hb HB23 HIp23 HKp23
              have tKp27 := HKp26.out.cell 0
              clear HWs hl hl21 tKp27 HIp26 HKp26 HE HOi
              as_aux_lemma =>
                go_wp2_with fail
                refine (drawRowmotionTimes_any _ xs1 _ (bytes_at HY1.out HB26.out) HS.out.2).mono ?_
                rintro e w28 ⟨u, us, y, k, rfl, hwf, ho, hl21, hk1, hk2, hb⟩
                have HB := hid (below_to HB26.out hb)
                have HIp := hid ho.ints
                obtain ⟨pA, pc, rfl, -⟩ := ho.ints
                clear ho hb  HB26
                have HWs := hid hwf
                have HWk := hid (wf_i64 k (by omega) (by omega))
                have hl : us.length ≤ 1048576 := by omega
                clear hwf
                obtain ⟨B6, hB6⟩ : ∃ B6, w28.heap.size = B6 := ⟨_, rfl⟩
                go_wp2_with fail
                have HB29 := hid (below_alloc HB.out (.cells #[.slice pA us.length pc] 26))
                have HIp29 := hid (HIp.out.alloc (.cells #[.slice pA us.length pc] 26))
                have HKp29 : Hid (Blk (w28.alloc (.cells #[.slice pA us.length pc] 26)) B6 26 #[.slice pA us.length pc]) := hid (by rw [← hB6]; exact Blk.new w28 _ _)
                clear hB6 HB HIp
                have tKp30 := HKp29.out.cell 0
                cases hok : okRT us y k
                · as_aux_lemma =>
                    have HE : Hid (ansRT us y k = 0) := hid (ansRT_no hok)
                    have HOk := hid hok
                    clear hok
                    go_wp2_with fail
                    refine (implRowmotionTimes_any _ us y k _ HIp29.out hl HWs.out HWk.out).mono ?_
                    rintro e w31 ⟨rfl, hb⟩
                    rw [HE.out, HOk.out]
                    have HB32 := hid (below_to HB29.out hb)
                    have HIp32 := hid (HIp29.out.below hb)
                    have HKp32 := hid (HKp29.out.below hb HKp29.out.lt)
                    clear tKp30
                    clear hb HB29 HIp29 HKp29
                    have tKp33 := HKp32.out.cell 0
                    go_wp2_with fail
                    refine (specRowmotionTimes_any _ us y k _ HIp32.out hl HWs.out HWk.out).mono ?_
                    rintro e w34 ⟨rfl, hb⟩
                    rw [HE.out, HOk.out]
                    have HB35 := hid (below_to HB32.out hb)
                    have HIp35 := hid (HIp32.out.below hb)
                    have HKp35 := hid (HKp32.out.below hb HKp32.out.lt)
                    clear tKp33
                    clear hb HB32 HIp32 HKp32
                    have tKp36 := HKp35.out.cell 0
                    clear HE HOk HWs HWk hl hl21 hk1 hk2 tKp36 HIp35 HKp35
                    as_aux_lemma =>
                      go_wp2_with fail
                      refine (drawIsOrder_any _ xs1 _ (bytes_at HY1.out HB35.out) HS.out.2).mono ?_
                      rintro e w37 ⟨u, us, q, ys, rfl, ho, hl21, hoq, hy12, hb⟩
                      have HB := hid (below_to HB35.out hb)
                      have HIp := hid ho.ints
                      obtain ⟨pA, pc, rfl, -⟩ := ho.ints
                      have HIq := hid hoq.ints
                      clear ho hb hoq HB35
                      have hl : us.length ≤ 1048576 := by omega
                      have hm : ys.length ≤ 1048576 := by omega
                      obtain ⟨qA, qc, rfl, -⟩ := HIq.out
                      obtain ⟨o1, ho1⟩ : ∃ b, okOrder us ys = b := ⟨_, rfl⟩
                      obtain ⟨o2, ho2⟩ : ∃ b, good us = b := ⟨_, rfl⟩
                      have HO1 := hid ho1
                      have HO2 := hid ho2
                      clear ho1 ho2
                      obtain ⟨B6, hB6⟩ : ∃ B6, w37.heap.size = B6 := ⟨_, rfl⟩
                      go_wp2_with fail
                      have HB38 := hid (below_alloc HB.out (.cells #[.slice pA us.length pc] 26))
                      have HIp38 := hid (HIp.out.alloc (.cells #[.slice pA us.length pc] 26))
                      have HIq38 := hid (HIq.out.alloc (.cells #[.slice pA us.length pc] 26))
                      have HKp38 : Hid (Blk (w37.alloc (.cells #[.slice pA us.length pc] 26)) B6 26 #[.slice pA us.length pc]) := hid (by rw [← hB6]; exact Blk.new w37 _ _)
                      clear hB6 HB HIp HIq
                      have tKp39 := HKp38.out.cell 0
                      go_wp2_with fail
                      refine (implIsOrder_any _ us _ ys _ HIp38.out hl HIq38.out hm).mono ?_
                      rintro e w40 ⟨rfl, hb⟩
                      rw [HO1.out, HO2.out]
                      have HB41 := hid (below_to HB38.out hb)
                      have HIp41 := hid (HIp38.out.below hb)
                      have HIq41 := hid (HIq38.out.below hb)
                      have HKp41 := hid (HKp38.out.below hb HKp38.out.lt)
                      clear tKp39
                      clear hb HB38 HIp38 HIq38 HKp38
                      have tKp42 := HKp41.out.cell 0
                      go_wp2_with fail
                      refine (specIsOrder_any _ us _ ys _ HIp41.out hl HIq41.out hm).mono ?_
                      rintro e w43 ⟨rfl, hb⟩
                      rw [HO1.out, HO2.out]
                      have HB44 := hid (below_to HB41.out hb)
                      have HIp44 := hid (HIp41.out.below hb)
                      have HIq44 := hid (HIq41.out.below hb)
                      have HKp44 := hid (HKp41.out.below hb HKp41.out.lt)
                      clear tKp42
                      clear hb HB41 HIp41 HIq41 HKp41
                      have tKp45 := HKp44.out.cell 0
                      clear HO1 HO2 hl hm hl21 hy12 tKp45 HIp44 HIq44 HKp44
                      go_wp2_with fail
                      refine (drawCountOrders_any _ xs1 _ (bytes_at HY1.out HB44.out) HS.out.2).mono ?_
                      rintro e w46 ⟨u, us, rfl, ho, hl21, hb⟩
                      have HB := hid (below_to HB44.out hb)
                      have HIp := hid ho.ints
                      obtain ⟨pA, pc, rfl, -⟩ := ho.ints
                      clear ho hb  HB44
                      have hl : us.length ≤ 1048576 := by omega
                      obtain ⟨o3, ho3⟩ : ∃ b, good us = b := ⟨_, rfl⟩
                      obtain ⟨N, hN⟩ : ∃ N, ansN us ordersN = N := ⟨_, rfl⟩
                      have hN1 : o3 = true → 1 ≤ N := by rw [← ho3, ← hN]; exact ansN_some
                      have HO3 := hid ho3
                      have HN := hid hN
                      have HN1 := hid hN1
                      clear ho3 hN hN1
                      obtain ⟨B6, hB6⟩ : ∃ B6, w46.heap.size = B6 := ⟨_, rfl⟩
                      go_wp2_with fail
                      have HB47 := hid (below_alloc HB.out (.cells #[.slice pA us.length pc] 26))
                      have HIp47 := hid (HIp.out.alloc (.cells #[.slice pA us.length pc] 26))
                      have HKp47 : Hid (Blk (w46.alloc (.cells #[.slice pA us.length pc] 26)) B6 26 #[.slice pA us.length pc]) := hid (by rw [← hB6]; exact Blk.new w46 _ _)
                      clear hB6 HB HIp
                      have tKp48 := HKp47.out.cell 0
                      go_wp2_with fail
                      refine (implCountOrders_any _ us _ HIp47.out hl).mono ?_
                      rintro e w49 ⟨rfl, hb⟩
                      rw [HN.out, HO3.out]
                      have HB50 := hid (below_to HB47.out hb)
                      have HIp50 := hid (HIp47.out.below hb)
                      have HKp50 := hid (HKp47.out.below hb HKp47.out.lt)
                      clear tKp48
                      clear hb HB47 HIp47 HKp47
                      have tKp51 := HKp50.out.cell 0
                      go_wp2_with fail
                      refine (specCountOrders_any _ us _ HIp50.out hl).mono ?_
                      rintro e w52 ⟨rfl, hb⟩
                      rw [HN.out, HO3.out]
                      have HB53 := hid (below_to HB50.out hb)
                      have HIp53 := hid (HIp50.out.below hb)
                      have HKp53 := hid (HKp50.out.below hb HKp50.out.lt)
                      clear tKp51
                      clear hb HB50 HIp50 HKp50
                      have tKp54 := HKp53.out.cell 0
                      clear HO3 HN hl hl21 tKp54 HIp53 HKp53
                      go_wp2_with fail
                      refine (drawAntichainRow_any _ xs1 _ (bytes_at HY1.out HB53.out) HS.out.2).mono ?_
                      rintro e w55 ⟨u, us, s, rfl, hwf, ho, hl21, hb⟩
                      have HB := hid (below_to HB53.out hb)
                      have HIp := hid ho.ints
                      obtain ⟨pA, pc, rfl, -⟩ := ho.ints
                      clear ho hb  HB53
                      have HWs := hid hwf
                      have hl : us.length ≤ 1048576 := by omega
                      obtain ⟨o4, ho4⟩ : ∃ b, okAC us s = b := ⟨_, rfl⟩
                      obtain ⟨V, hV⟩ : ∃ N, ansAC us s = N := ⟨_, rfl⟩
                      have HO4 := hid ho4
                      have HV := hid hV
                      clear ho4 hV hwf
                      obtain ⟨B6, hB6⟩ : ∃ B6, w55.heap.size = B6 := ⟨_, rfl⟩
                      go_wp2_with fail
                      have HB56 := hid (below_alloc HB.out (.cells #[.slice pA us.length pc] 26))
                      have HIp56 := hid (HIp.out.alloc (.cells #[.slice pA us.length pc] 26))
                      have HKp56 : Hid (Blk (w55.alloc (.cells #[.slice pA us.length pc] 26)) B6 26 #[.slice pA us.length pc]) := hid (by rw [← hB6]; exact Blk.new w55 _ _)
                      clear hB6 HB HIp
                      have tKp57 := HKp56.out.cell 0
                      go_wp2_with fail
                      refine (implAntichainRow_any _ us s _ HIp56.out hl HWs.out).mono ?_
                      rintro e w58 ⟨rfl, hb⟩
                      rw [HV.out, HO4.out]
                      have HB59 := hid (below_to HB56.out hb)
                      have HIp59 := hid (HIp56.out.below hb)
                      have HKp59 := hid (HKp56.out.below hb HKp56.out.lt)
                      clear tKp57
                      clear hb HB56 HIp56 HKp56
                      have tKp60 := HKp59.out.cell 0
                      go_wp2_with fail
                      refine (specAntichainRow_any _ us s _ HIp59.out hl HWs.out).mono ?_
                      rintro e w61 ⟨rfl, hb⟩
                      rw [HV.out, HO4.out]
                      have HB62 := hid (below_to HB59.out hb)
                      have HIp62 := hid (HIp59.out.below hb)
                      have HKp62 := hid (HKp59.out.below hb HKp59.out.lt)
                      clear tKp60
                      clear hb HB59 HIp59 HKp59
                      have tKp63 := HKp62.out.cell 0
                      clear HO4 HV hl hl21 HWs tKp63 HIp62 HKp62
                      cases o3
                      · go_wp2
                        go_ret
                        exact ⟨ret_bool (by simp), HB62.out⟩
                      · have hN1 := HN1.out rfl
                        go_wp2
                        go_ret
                        exact ⟨ret_bool (by first | (simp; done) | (simp; omega)), HB62.out⟩
                · as_aux_lemma =>
                    obtain ⟨M, hM10, hM1, hM2, hM3⟩ := rt_back hok
                    have HE := hid hM1
                    have HE2 := hid hM2
                    have HO2 := hid hM3
                    have HOk := hid hok
                    have HWm := hid (wf_i64 (M : Int) (by omega) (by omega))
                    have HWn := hid (wf_i64 (-k) (by omega) (by omega))
                    clear hM1 hM2 hM3 hok
                    go_wp2_with fail
                    refine (implRowmotionTimes_any _ us y k _ HIp29.out hl HWs.out HWk.out).mono ?_
                    rintro e w64 ⟨rfl, hb⟩
                    rw [HE.out, HOk.out]
                    have HB65 := hid (below_to HB29.out hb)
                    have HIp65 := hid (HIp29.out.below hb)
                    have HKp65 := hid (HKp29.out.below hb HKp29.out.lt)
                    clear tKp30
                    clear hb HB29 HIp29 HKp29
                    have tKp66 := HKp65.out.cell 0
                    go_wp2_with fail
                    refine (specRowmotionTimes_any _ us y k _ HIp65.out hl HWs.out HWk.out).mono ?_
                    rintro e w67 ⟨rfl, hb⟩
                    rw [HE.out, HOk.out]
                    have HB68 := hid (below_to HB65.out hb)
                    have HIp68 := hid (HIp65.out.below hb)
                    have HKp68 := hid (HKp65.out.below hb HKp65.out.lt)
                    clear tKp66
                    clear hb HB65 HIp65 HKp65
                    have tKp69 := HKp68.out.cell 0
                    go_wp2_with fail
                    refine (implRowmotionTimes_any _ us (M : Int) (-k) _ HIp68.out hl HWm.out HWn.out).mono ?_
                    rintro e w70 ⟨rfl, hb⟩
                    rw [HE2.out, HO2.out]
                    have HB71 := hid (below_to HB68.out hb)
                    have HIp71 := hid (HIp68.out.below hb)
                    have HKp71 := hid (HKp68.out.below hb HKp68.out.lt)
                    clear tKp69
                    clear hb HB68 HIp68 HKp68
                    have tKp72 := HKp71.out.cell 0
                    clear HE2 HO2 HWm HWn hM10
                    clear HE HOk HWs HWk hl hl21 hk1 hk2 tKp72 HIp71 HKp71
                    as_aux_lemma =>
                      go_wp2_with fail
                      refine (drawIsOrder_any _ xs1 _ (bytes_at HY1.out HB71.out) HS.out.2).mono ?_
                      rintro e w73 ⟨u, us, q, ys, rfl, ho, hl21, hoq, hy12, hb⟩
                      have HB := hid (below_to HB71.out hb)
                      have HIp := hid ho.ints
                      obtain ⟨pA, pc, rfl, -⟩ := ho.ints
                      have HIq := hid hoq.ints
                      clear ho hb hoq HB71
                      have hl : us.length ≤ 1048576 := by omega
                      have hm : ys.length ≤ 1048576 := by omega
                      obtain ⟨qA, qc, rfl, -⟩ := HIq.out
                      obtain ⟨o1, ho1⟩ : ∃ b, okOrder us ys = b := ⟨_, rfl⟩
                      obtain ⟨o2, ho2⟩ : ∃ b, good us = b := ⟨_, rfl⟩
                      have HO1 := hid ho1
                      have HO2 := hid ho2
                      clear ho1 ho2
                      obtain ⟨B6, hB6⟩ : ∃ B6, w73.heap.size = B6 := ⟨_, rfl⟩
                      go_wp2_with fail
                      have HB74 := hid (below_alloc HB.out (.cells #[.slice pA us.length pc] 26))
                      have HIp74 := hid (HIp.out.alloc (.cells #[.slice pA us.length pc] 26))
                      have HIq74 := hid (HIq.out.alloc (.cells #[.slice pA us.length pc] 26))
                      have HKp74 : Hid (Blk (w73.alloc (.cells #[.slice pA us.length pc] 26)) B6 26 #[.slice pA us.length pc]) := hid (by rw [← hB6]; exact Blk.new w73 _ _)
                      clear hB6 HB HIp HIq
                      have tKp75 := HKp74.out.cell 0
                      go_wp2_with fail
                      refine (implIsOrder_any _ us _ ys _ HIp74.out hl HIq74.out hm).mono ?_
                      rintro e w76 ⟨rfl, hb⟩
                      rw [HO1.out, HO2.out]
                      have HB77 := hid (below_to HB74.out hb)
                      have HIp77 := hid (HIp74.out.below hb)
                      have HIq77 := hid (HIq74.out.below hb)
                      have HKp77 := hid (HKp74.out.below hb HKp74.out.lt)
                      clear tKp75
                      clear hb HB74 HIp74 HIq74 HKp74
                      have tKp78 := HKp77.out.cell 0
                      go_wp2_with fail
                      refine (specIsOrder_any _ us _ ys _ HIp77.out hl HIq77.out hm).mono ?_
                      rintro e w79 ⟨rfl, hb⟩
                      rw [HO1.out, HO2.out]
                      have HB80 := hid (below_to HB77.out hb)
                      have HIp80 := hid (HIp77.out.below hb)
                      have HIq80 := hid (HIq77.out.below hb)
                      have HKp80 := hid (HKp77.out.below hb HKp77.out.lt)
                      clear tKp78
                      clear hb HB77 HIp77 HIq77 HKp77
                      have tKp81 := HKp80.out.cell 0
                      clear HO1 HO2 hl hm hl21 hy12 tKp81 HIp80 HIq80 HKp80
                      go_wp2_with fail
                      refine (drawCountOrders_any _ xs1 _ (bytes_at HY1.out HB80.out) HS.out.2).mono ?_
                      rintro e w82 ⟨u, us, rfl, ho, hl21, hb⟩
                      have HB := hid (below_to HB80.out hb)
                      have HIp := hid ho.ints
                      obtain ⟨pA, pc, rfl, -⟩ := ho.ints
                      clear ho hb  HB80
                      have hl : us.length ≤ 1048576 := by omega
                      obtain ⟨o3, ho3⟩ : ∃ b, good us = b := ⟨_, rfl⟩
                      obtain ⟨N, hN⟩ : ∃ N, ansN us ordersN = N := ⟨_, rfl⟩
                      have hN1 : o3 = true → 1 ≤ N := by rw [← ho3, ← hN]; exact ansN_some
                      have HO3 := hid ho3
                      have HN := hid hN
                      have HN1 := hid hN1
                      clear ho3 hN hN1
                      obtain ⟨B6, hB6⟩ : ∃ B6, w82.heap.size = B6 := ⟨_, rfl⟩
                      go_wp2_with fail
                      have HB83 := hid (below_alloc HB.out (.cells #[.slice pA us.length pc] 26))
                      have HIp83 := hid (HIp.out.alloc (.cells #[.slice pA us.length pc] 26))
                      have HKp83 : Hid (Blk (w82.alloc (.cells #[.slice pA us.length pc] 26)) B6 26 #[.slice pA us.length pc]) := hid (by rw [← hB6]; exact Blk.new w82 _ _)
                      clear hB6 HB HIp
                      have tKp84 := HKp83.out.cell 0
                      go_wp2_with fail
                      refine (implCountOrders_any _ us _ HIp83.out hl).mono ?_
                      rintro e w85 ⟨rfl, hb⟩
                      rw [HN.out, HO3.out]
                      have HB86 := hid (below_to HB83.out hb)
                      have HIp86 := hid (HIp83.out.below hb)
                      have HKp86 := hid (HKp83.out.below hb HKp83.out.lt)
                      clear tKp84
                      clear hb HB83 HIp83 HKp83
                      have tKp87 := HKp86.out.cell 0
                      go_wp2_with fail
                      refine (specCountOrders_any _ us _ HIp86.out hl).mono ?_
                      rintro e w88 ⟨rfl, hb⟩
                      rw [HN.out, HO3.out]
                      have HB89 := hid (below_to HB86.out hb)
                      have HIp89 := hid (HIp86.out.below hb)
                      have HKp89 := hid (HKp86.out.below hb HKp86.out.lt)
                      clear tKp87
                      clear hb HB86 HIp86 HKp86
                      have tKp90 := HKp89.out.cell 0
                      clear HO3 HN hl hl21 tKp90 HIp89 HKp89
                      go_wp2_with fail
                      refine (drawAntichainRow_any _ xs1 _ (bytes_at HY1.out HB89.out) HS.out.2).mono ?_
                      rintro e w91 ⟨u, us, s, rfl, hwf, ho, hl21, hb⟩
                      have HB := hid (below_to HB89.out hb)
                      have HIp := hid ho.ints
                      obtain ⟨pA, pc, rfl, -⟩ := ho.ints
                      clear ho hb  HB89
                      have HWs := hid hwf
                      have hl : us.length ≤ 1048576 := by omega
                      obtain ⟨o4, ho4⟩ : ∃ b, okAC us s = b := ⟨_, rfl⟩
                      obtain ⟨V, hV⟩ : ∃ N, ansAC us s = N := ⟨_, rfl⟩
                      have HO4 := hid ho4
                      have HV := hid hV
                      clear ho4 hV hwf
                      obtain ⟨B6, hB6⟩ : ∃ B6, w91.heap.size = B6 := ⟨_, rfl⟩
                      go_wp2_with fail
                      have HB92 := hid (below_alloc HB.out (.cells #[.slice pA us.length pc] 26))
                      have HIp92 := hid (HIp.out.alloc (.cells #[.slice pA us.length pc] 26))
                      have HKp92 : Hid (Blk (w91.alloc (.cells #[.slice pA us.length pc] 26)) B6 26 #[.slice pA us.length pc]) := hid (by rw [← hB6]; exact Blk.new w91 _ _)
                      clear hB6 HB HIp
                      have tKp93 := HKp92.out.cell 0
                      go_wp2_with fail
                      refine (implAntichainRow_any _ us s _ HIp92.out hl HWs.out).mono ?_
                      rintro e w94 ⟨rfl, hb⟩
                      rw [HV.out, HO4.out]
                      have HB95 := hid (below_to HB92.out hb)
                      have HIp95 := hid (HIp92.out.below hb)
                      have HKp95 := hid (HKp92.out.below hb HKp92.out.lt)
                      clear tKp93
                      clear hb HB92 HIp92 HKp92
                      have tKp96 := HKp95.out.cell 0
                      go_wp2_with fail
                      refine (specAntichainRow_any _ us s _ HIp95.out hl HWs.out).mono ?_
                      rintro e w97 ⟨rfl, hb⟩
                      rw [HV.out, HO4.out]
                      have HB98 := hid (below_to HB95.out hb)
                      have HIp98 := hid (HIp95.out.below hb)
                      have HKp98 := hid (HKp95.out.below hb HKp95.out.lt)
                      clear tKp96
                      clear hb HB95 HIp95 HKp95
                      have tKp99 := HKp98.out.cell 0
                      clear HO4 HV hl hl21 HWs tKp99 HIp98 HKp98
                      cases o3
                      · go_wp2
                        go_ret
                        exact ⟨ret_bool (by simp), HB98.out⟩
                      · have hN1 := HN1.out rfl
                        go_wp2
                        go_ret
                        exact ⟨ret_bool (by first | (simp; done) | (simp; omega)), HB98.out⟩
          · as_aux_lemma =>
              obtain ⟨z, rfl, hg, hz, hi⟩ := okIdeal_all hoi
              have hz10 := lt1024 hz (good_length hg).2
              obtain ⟨N, hN⟩ : ∃ N, rowmo us z = N := ⟨_, rfl⟩
              obtain ⟨K, hK⟩ : ∃ N, rowba us z = N := ⟨_, rfl⟩
              obtain ⟨T, hT⟩ : ∃ T, top us (rowmo us z) = T := ⟨_, rfl⟩
              obtain ⟨C, hC⟩ : ∃ C, top us z = C := ⟨_, rfl⟩
              obtain ⟨P, hP⟩ : ∃ P, compl us.length z = P := ⟨_, rfl⟩
              obtain ⟨M, hM⟩ : ∃ M, 2 ^ us.length = M := ⟨_, rfl⟩
              have hF := row_facts hg hz hi
              rw [hN, hK, hC, hP] at hF
              rw [← hN, hT] at hF
              rw [hN] at hF
              obtain ⟨f1, f2, f3, f4, f5, f6, f7, f8, f9, f10, f11, f12, f13, f14, f15, f16, f17, f18, f19⟩ := hF
              have HE1 := hid f1
              have HE2 := hid f2
              have HE3 := hid f3
              have HE4 := hid f4
              have HE5 := hid f5
              have HE6 := hid f6
              have HE7 := hid f7
              have HE8 := hid f8
              have HO1 := hid f9
              have HO2 := hid f10
              have HO3 := hid f11
              have HO4 := hid f12
              have HO5 := hid f13
              have HO6 := hid f14
              have HO7 := hid f15
              have HAD := hid f16
              have hN10 : N < 1024 := f17
              have hK10 : K < 1024 := f18
              have hC10 : C < 1024 := f19
              have hMs : P = M - 1 - z := by rw [← hP, ← hM]; exact compl_sub hz
              have hM2 : M ≤ 1024 := by rw [← hM]; exact Nat.pow_le_pow_right (n := 2) (by decide) (good_length hg).2
              have hMi : (2 : Int) ^ us.length = (M : Int) := by rw [← hM, Int.natCast_pow]; rfl
              have hzM : z < M := by rw [← hM]; exact hz
              have HMs : Hid (IntKind.i64.wrap ((2 : Int) ^ us.length) = (M : Int) ∧ IntKind.i64.wrap ((M : Int) - 1) = (M : Int) - 1 ∧ IntKind.i64.wrap ((M : Int) - 1 - (z : Int)) = (P : Int)) := hid (by
                rw [hMi, IntKind.wrap_i64, IntKind.wrap_i64, IntKind.wrap_i64]; omega)
              have HM5 : Hid (IntKind.i64.wrap (IntKind.i64.wrap (IntKind.i64.wrap (M : Int) - 1) - (z : Int)) = (P : Int)) := hid (by
                rw [show IntKind.i64.wrap (M : Int) = (M : Int) from by rw [IntKind.wrap_i64]; omega, HMs.out.2.1, HMs.out.2.2])
              have hP10 : P < 1024 := by omega
              have hPe : (M : Int) - 1 - (z : Int) = (P : Int) := by omega
              have HPe := hid hPe
              have HMi := hid hMi
              have HOi := hid hoi
              clear f1 f2 f3 f4 f5 f6 f7 f8 f9 f10 f11 f12 f13 f14 f15 f16 f17 f18 f19 hN hK hT hC hP hM hMs hz hi hg hoi hPe hMi
              go_wp2_with fail
              refine (implRowmotion_any _ us (z : Int) _ HIp14.out hl HWs.out).mono ?_
              rintro e w100 ⟨rfl, hb⟩
              rw [HE1.out, HOi.out]
              have HB101 := hid (below_to HB14.out hb)
              have HIp101 := hid (HIp14.out.below hb)
              have HKp101 := hid (HKp14.out.below hb HKp14.out.lt)
              clear tKp15
              clear hb HB14 HIp14 HKp14
              have tKp102 := HKp101.out.cell 0
              go_wp2_with fail
              refine (specRowmotion_any _ us (z : Int) _ HIp101.out hl HWs.out).mono ?_
              rintro e w103 ⟨rfl, hb⟩
              rw [HE1.out, HOi.out]
              have HB104 := hid (below_to HB101.out hb)
              have HIp104 := hid (HIp101.out.below hb)
              have HKp104 := hid (HKp101.out.below hb HKp101.out.lt)
              clear tKp102
              clear hb HB101 HIp101 HKp101
              have tKp105 := HKp104.out.cell 0
              go_wp2_with fail
              refine (implRowmotionBack_any _ us (z : Int) _ HIp104.out hl HWs.out).mono ?_
              rintro e w106 ⟨rfl, hb⟩
              rw [HE2.out, HOi.out]
              have HB107 := hid (below_to HB104.out hb)
              have HIp107 := hid (HIp104.out.below hb)
              have HKp107 := hid (HKp104.out.below hb HKp104.out.lt)
              clear tKp105
              clear hb HB104 HIp104 HKp104
              have tKp108 := HKp107.out.cell 0
              go_wp2_with fail
              refine (specRowmotionBack_any _ us (z : Int) _ HIp107.out hl HWs.out).mono ?_
              rintro e w109 ⟨rfl, hb⟩
              rw [HE2.out, HOi.out]
              have HB110 := hid (below_to HB107.out hb)
              have HIp110 := hid (HIp107.out.below hb)
              have HKp110 := hid (HKp107.out.below hb HKp107.out.lt)
              clear tKp108
              clear hb HB107 HIp107 HKp107
              have tKp111 := HKp110.out.cell 0
              go_wp2_with fail
              refine (implRowmotionBack_any _ us (N : Int) _ HIp110.out hl (wf_i64 _ (by omega) (by omega))).mono ?_
              rintro e w112 ⟨rfl, hb⟩
              rw [HE3.out, HO1.out]
              have HB113 := hid (below_to HB110.out hb)
              have HIp113 := hid (HIp110.out.below hb)
              have HKp113 := hid (HKp110.out.below hb HKp110.out.lt)
              clear tKp111
              clear hb HB110 HIp110 HKp110
              have tKp114 := HKp113.out.cell 0
              go_wp2_with fail
              refine (implRowmotion_any _ us (K : Int) _ HIp113.out hl (wf_i64 _ (by omega) (by omega))).mono ?_
              rintro e w115 ⟨rfl, hb⟩
              rw [HE4.out, HO2.out]
              have HB116 := hid (below_to HB113.out hb)
              have HIp116 := hid (HIp113.out.below hb)
              have HKp116 := hid (HKp113.out.below hb HKp113.out.lt)
              clear tKp114
              clear hb HB113 HIp113 HKp113
              have tKp117 := HKp116.out.cell 0
              go_wp2_with fail
              refine (implTopOf_any _ us (N : Int) _ HIp116.out hl (wf_i64 _ (by omega) (by omega))).mono ?_
              rintro e w118 ⟨rfl, hb⟩
              rw [HE5.out, HO3.out]
              have HB119 := hid (below_to HB116.out hb)
              have HIp119 := hid (HIp116.out.below hb)
              have HKp119 := hid (HKp116.out.below hb HKp116.out.lt)
              clear tKp117
              clear hb HB116 HIp116 HKp116
              have tKp120 := HKp119.out.cell 0
              obtain ⟨m1, m2, m3⟩ := HMs.out
              have hPe := HPe.out
              have hMi := HMi.out
              go_wp2
              have HSb121 := hid (show SB w118 B6 (.slice pA us.length pc) w118 from ⟨⟨HKp119.out.cell 0, HKp119.out.lt⟩, Below.refl _ _⟩)
              go_region_held3 (fun W => W.cell? ⟨B6, 0, none⟩ = some (.slice pA us.length pc) ∧ Hid (SB w118 B6 (.slice pA us.length pc) W)) (first | exact ⟨HSc121.out.at_.1, HSc121⟩ | exact ⟨HSb121.out.drew.at_.1, hid HSb121.out.drew⟩) (first | (go_at_call 15; rw [HM5.out]; refine (bot_SB (.slice pA us.length pc) us (P : Int) w118 B6 _ HIp119.out hl (wf_i64 _ (by omega) (by omega)) (Hid.out (by first | assumption | exact hid HSb121.out.drew))).mono ?_; rintro e w121 ⟨rfl, hsb⟩; rw [HE6.out, HO4.out]; have HSc121 := hid hsb; clear hsb))
              have HB122 := hid (below_to HB119.out HSc121.out.below)
              have HIp122 := hid (HIp119.out.below HSc121.out.below)
              have HKp122 := hid (HKp119.out.below HSc121.out.below HKp119.out.lt)
              clear m1 m2 m3 hPe hMi HM5 HSb121 HSc121 HB119 HIp119 HKp119 tKp120
              have tKp123 := HKp122.out.cell 0
              go_wp2_with fail
              refine (implTopOf_any _ us (z : Int) _ HIp122.out hl (wf_i64 _ (by omega) (by omega))).mono ?_
              rintro e w124 ⟨rfl, hb⟩
              rw [HE7.out, HO5.out]
              have HB125 := hid (below_to HB122.out hb)
              have HIp125 := hid (HIp122.out.below hb)
              have HKp125 := hid (HKp122.out.below hb HKp122.out.lt)
              clear tKp123
              clear hb HB122 HIp122 HKp122
              have tKp126 := HKp125.out.cell 0
              go_wp2_with fail
              refine (implAntichainRow_any _ us (C : Int) _ HIp125.out hl (wf_i64 _ (by omega) (by omega))).mono ?_
              rintro e w127 ⟨rfl, hb⟩
              rw [HE8.out, HO6.out]
              have HB128 := hid (below_to HB125.out hb)
              have HIp128 := hid (HIp125.out.below hb)
              have HKp128 := hid (HKp125.out.below hb HKp125.out.lt)
              clear tKp126
              clear hb HB125 HIp125 HKp125
              have tKp129 := HKp128.out.cell 0
              go_wp2_with fail
              refine (nIdeal_any _ us (N : Int) _ HIp128.out hl (wf_i64 _ (by omega) (by omega))).mono ?_
              rintro e w130 ⟨rfl, hb⟩
              rw [HAD.out]
              have HB131 := hid (below_to HB128.out hb)
              have HIp131 := hid (HIp128.out.below hb)
              have HKp131 := hid (HKp128.out.below hb HKp128.out.lt)
              clear tKp129
              clear hb HB128 HIp128 HKp128
              have tKp132 := HKp131.out.cell 0
              clear HE1 HE2 HE3 HE4 HE5 HE6 HE7 HE8 HO1 HO2 HO3 HO4 HO5 HO6 HO7 HAD HMs HPe HMi HOi hzM hM2 hP10 hN10 hK10 hC10 hz10
              clear HWs hl hl21 tKp132 HIp131 HKp131
              as_aux_lemma =>
                go_wp2_with fail
                refine (drawRowmotionTimes_any _ xs1 _ (bytes_at HY1.out HB131.out) HS.out.2).mono ?_
                rintro e w133 ⟨u, us, y, k, rfl, hwf, ho, hl21, hk1, hk2, hb⟩
                have HB := hid (below_to HB131.out hb)
                have HIp := hid ho.ints
                obtain ⟨pA, pc, rfl, -⟩ := ho.ints
                clear ho hb  HB131
                have HWs := hid hwf
                have HWk := hid (wf_i64 k (by omega) (by omega))
                have hl : us.length ≤ 1048576 := by omega
                clear hwf
                obtain ⟨B6, hB6⟩ : ∃ B6, w133.heap.size = B6 := ⟨_, rfl⟩
                go_wp2_with fail
                have HB134 := hid (below_alloc HB.out (.cells #[.slice pA us.length pc] 26))
                have HIp134 := hid (HIp.out.alloc (.cells #[.slice pA us.length pc] 26))
                have HKp134 : Hid (Blk (w133.alloc (.cells #[.slice pA us.length pc] 26)) B6 26 #[.slice pA us.length pc]) := hid (by rw [← hB6]; exact Blk.new w133 _ _)
                clear hB6 HB HIp
                have tKp135 := HKp134.out.cell 0
                cases hok : okRT us y k
                · as_aux_lemma =>
                    have HE : Hid (ansRT us y k = 0) := hid (ansRT_no hok)
                    have HOk := hid hok
                    clear hok
                    go_wp2_with fail
                    refine (implRowmotionTimes_any _ us y k _ HIp134.out hl HWs.out HWk.out).mono ?_
                    rintro e w136 ⟨rfl, hb⟩
                    rw [HE.out, HOk.out]
                    have HB137 := hid (below_to HB134.out hb)
                    have HIp137 := hid (HIp134.out.below hb)
                    have HKp137 := hid (HKp134.out.below hb HKp134.out.lt)
                    clear tKp135
                    clear hb HB134 HIp134 HKp134
                    have tKp138 := HKp137.out.cell 0
                    go_wp2_with fail
                    refine (specRowmotionTimes_any _ us y k _ HIp137.out hl HWs.out HWk.out).mono ?_
                    rintro e w139 ⟨rfl, hb⟩
                    rw [HE.out, HOk.out]
                    have HB140 := hid (below_to HB137.out hb)
                    have HIp140 := hid (HIp137.out.below hb)
                    have HKp140 := hid (HKp137.out.below hb HKp137.out.lt)
                    clear tKp138
                    clear hb HB137 HIp137 HKp137
                    have tKp141 := HKp140.out.cell 0
                    clear HE HOk HWs HWk hl hl21 hk1 hk2 tKp141 HIp140 HKp140
                    as_aux_lemma =>
                      go_wp2_with fail
                      refine (drawIsOrder_any _ xs1 _ (bytes_at HY1.out HB140.out) HS.out.2).mono ?_
                      rintro e w142 ⟨u, us, q, ys, rfl, ho, hl21, hoq, hy12, hb⟩
                      have HB := hid (below_to HB140.out hb)
                      have HIp := hid ho.ints
                      obtain ⟨pA, pc, rfl, -⟩ := ho.ints
                      have HIq := hid hoq.ints
                      clear ho hb hoq HB140
                      have hl : us.length ≤ 1048576 := by omega
                      have hm : ys.length ≤ 1048576 := by omega
                      obtain ⟨qA, qc, rfl, -⟩ := HIq.out
                      obtain ⟨o1, ho1⟩ : ∃ b, okOrder us ys = b := ⟨_, rfl⟩
                      obtain ⟨o2, ho2⟩ : ∃ b, good us = b := ⟨_, rfl⟩
                      have HO1 := hid ho1
                      have HO2 := hid ho2
                      clear ho1 ho2
                      obtain ⟨B6, hB6⟩ : ∃ B6, w142.heap.size = B6 := ⟨_, rfl⟩
                      go_wp2_with fail
                      have HB143 := hid (below_alloc HB.out (.cells #[.slice pA us.length pc] 26))
                      have HIp143 := hid (HIp.out.alloc (.cells #[.slice pA us.length pc] 26))
                      have HIq143 := hid (HIq.out.alloc (.cells #[.slice pA us.length pc] 26))
                      have HKp143 : Hid (Blk (w142.alloc (.cells #[.slice pA us.length pc] 26)) B6 26 #[.slice pA us.length pc]) := hid (by rw [← hB6]; exact Blk.new w142 _ _)
                      clear hB6 HB HIp HIq
                      have tKp144 := HKp143.out.cell 0
                      go_wp2_with fail
                      refine (implIsOrder_any _ us _ ys _ HIp143.out hl HIq143.out hm).mono ?_
                      rintro e w145 ⟨rfl, hb⟩
                      rw [HO1.out, HO2.out]
                      have HB146 := hid (below_to HB143.out hb)
                      have HIp146 := hid (HIp143.out.below hb)
                      have HIq146 := hid (HIq143.out.below hb)
                      have HKp146 := hid (HKp143.out.below hb HKp143.out.lt)
                      clear tKp144
                      clear hb HB143 HIp143 HIq143 HKp143
                      have tKp147 := HKp146.out.cell 0
                      go_wp2_with fail
                      refine (specIsOrder_any _ us _ ys _ HIp146.out hl HIq146.out hm).mono ?_
                      rintro e w148 ⟨rfl, hb⟩
                      rw [HO1.out, HO2.out]
                      have HB149 := hid (below_to HB146.out hb)
                      have HIp149 := hid (HIp146.out.below hb)
                      have HIq149 := hid (HIq146.out.below hb)
                      have HKp149 := hid (HKp146.out.below hb HKp146.out.lt)
                      clear tKp147
                      clear hb HB146 HIp146 HIq146 HKp146
                      have tKp150 := HKp149.out.cell 0
                      clear HO1 HO2 hl hm hl21 hy12 tKp150 HIp149 HIq149 HKp149
                      go_wp2_with fail
                      refine (drawCountOrders_any _ xs1 _ (bytes_at HY1.out HB149.out) HS.out.2).mono ?_
                      rintro e w151 ⟨u, us, rfl, ho, hl21, hb⟩
                      have HB := hid (below_to HB149.out hb)
                      have HIp := hid ho.ints
                      obtain ⟨pA, pc, rfl, -⟩ := ho.ints
                      clear ho hb  HB149
                      have hl : us.length ≤ 1048576 := by omega
                      obtain ⟨o3, ho3⟩ : ∃ b, good us = b := ⟨_, rfl⟩
                      obtain ⟨N, hN⟩ : ∃ N, ansN us ordersN = N := ⟨_, rfl⟩
                      have hN1 : o3 = true → 1 ≤ N := by rw [← ho3, ← hN]; exact ansN_some
                      have HO3 := hid ho3
                      have HN := hid hN
                      have HN1 := hid hN1
                      clear ho3 hN hN1
                      obtain ⟨B6, hB6⟩ : ∃ B6, w151.heap.size = B6 := ⟨_, rfl⟩
                      go_wp2_with fail
                      have HB152 := hid (below_alloc HB.out (.cells #[.slice pA us.length pc] 26))
                      have HIp152 := hid (HIp.out.alloc (.cells #[.slice pA us.length pc] 26))
                      have HKp152 : Hid (Blk (w151.alloc (.cells #[.slice pA us.length pc] 26)) B6 26 #[.slice pA us.length pc]) := hid (by rw [← hB6]; exact Blk.new w151 _ _)
                      clear hB6 HB HIp
                      have tKp153 := HKp152.out.cell 0
                      go_wp2_with fail
                      refine (implCountOrders_any _ us _ HIp152.out hl).mono ?_
                      rintro e w154 ⟨rfl, hb⟩
                      rw [HN.out, HO3.out]
                      have HB155 := hid (below_to HB152.out hb)
                      have HIp155 := hid (HIp152.out.below hb)
                      have HKp155 := hid (HKp152.out.below hb HKp152.out.lt)
                      clear tKp153
                      clear hb HB152 HIp152 HKp152
                      have tKp156 := HKp155.out.cell 0
                      go_wp2_with fail
                      refine (specCountOrders_any _ us _ HIp155.out hl).mono ?_
                      rintro e w157 ⟨rfl, hb⟩
                      rw [HN.out, HO3.out]
                      have HB158 := hid (below_to HB155.out hb)
                      have HIp158 := hid (HIp155.out.below hb)
                      have HKp158 := hid (HKp155.out.below hb HKp155.out.lt)
                      clear tKp156
                      clear hb HB155 HIp155 HKp155
                      have tKp159 := HKp158.out.cell 0
                      clear HO3 HN hl hl21 tKp159 HIp158 HKp158
                      go_wp2_with fail
                      refine (drawAntichainRow_any _ xs1 _ (bytes_at HY1.out HB158.out) HS.out.2).mono ?_
                      rintro e w160 ⟨u, us, s, rfl, hwf, ho, hl21, hb⟩
                      have HB := hid (below_to HB158.out hb)
                      have HIp := hid ho.ints
                      obtain ⟨pA, pc, rfl, -⟩ := ho.ints
                      clear ho hb  HB158
                      have HWs := hid hwf
                      have hl : us.length ≤ 1048576 := by omega
                      obtain ⟨o4, ho4⟩ : ∃ b, okAC us s = b := ⟨_, rfl⟩
                      obtain ⟨V, hV⟩ : ∃ N, ansAC us s = N := ⟨_, rfl⟩
                      have HO4 := hid ho4
                      have HV := hid hV
                      clear ho4 hV hwf
                      obtain ⟨B6, hB6⟩ : ∃ B6, w160.heap.size = B6 := ⟨_, rfl⟩
                      go_wp2_with fail
                      have HB161 := hid (below_alloc HB.out (.cells #[.slice pA us.length pc] 26))
                      have HIp161 := hid (HIp.out.alloc (.cells #[.slice pA us.length pc] 26))
                      have HKp161 : Hid (Blk (w160.alloc (.cells #[.slice pA us.length pc] 26)) B6 26 #[.slice pA us.length pc]) := hid (by rw [← hB6]; exact Blk.new w160 _ _)
                      clear hB6 HB HIp
                      have tKp162 := HKp161.out.cell 0
                      go_wp2_with fail
                      refine (implAntichainRow_any _ us s _ HIp161.out hl HWs.out).mono ?_
                      rintro e w163 ⟨rfl, hb⟩
                      rw [HV.out, HO4.out]
                      have HB164 := hid (below_to HB161.out hb)
                      have HIp164 := hid (HIp161.out.below hb)
                      have HKp164 := hid (HKp161.out.below hb HKp161.out.lt)
                      clear tKp162
                      clear hb HB161 HIp161 HKp161
                      have tKp165 := HKp164.out.cell 0
                      go_wp2_with fail
                      refine (specAntichainRow_any _ us s _ HIp164.out hl HWs.out).mono ?_
                      rintro e w166 ⟨rfl, hb⟩
                      rw [HV.out, HO4.out]
                      have HB167 := hid (below_to HB164.out hb)
                      have HIp167 := hid (HIp164.out.below hb)
                      have HKp167 := hid (HKp164.out.below hb HKp164.out.lt)
                      clear tKp165
                      clear hb HB164 HIp164 HKp164
                      have tKp168 := HKp167.out.cell 0
                      clear HO4 HV hl hl21 HWs tKp168 HIp167 HKp167
                      cases o3
                      · go_wp2
                        go_ret
                        exact ⟨ret_bool (by simp), HB167.out⟩
                      · have hN1 := HN1.out rfl
                        go_wp2
                        go_ret
                        exact ⟨ret_bool (by first | (simp; done) | (simp; omega)), HB167.out⟩
                · as_aux_lemma =>
                    obtain ⟨M, hM10, hM1, hM2, hM3⟩ := rt_back hok
                    have HE := hid hM1
                    have HE2 := hid hM2
                    have HO2 := hid hM3
                    have HOk := hid hok
                    have HWm := hid (wf_i64 (M : Int) (by omega) (by omega))
                    have HWn := hid (wf_i64 (-k) (by omega) (by omega))
                    clear hM1 hM2 hM3 hok
                    go_wp2_with fail
                    refine (implRowmotionTimes_any _ us y k _ HIp134.out hl HWs.out HWk.out).mono ?_
                    rintro e w169 ⟨rfl, hb⟩
                    rw [HE.out, HOk.out]
                    have HB170 := hid (below_to HB134.out hb)
                    have HIp170 := hid (HIp134.out.below hb)
                    have HKp170 := hid (HKp134.out.below hb HKp134.out.lt)
                    clear tKp135
                    clear hb HB134 HIp134 HKp134
                    have tKp171 := HKp170.out.cell 0
                    go_wp2_with fail
                    refine (specRowmotionTimes_any _ us y k _ HIp170.out hl HWs.out HWk.out).mono ?_
                    rintro e w172 ⟨rfl, hb⟩
                    rw [HE.out, HOk.out]
                    have HB173 := hid (below_to HB170.out hb)
                    have HIp173 := hid (HIp170.out.below hb)
                    have HKp173 := hid (HKp170.out.below hb HKp170.out.lt)
                    clear tKp171
                    clear hb HB170 HIp170 HKp170
                    have tKp174 := HKp173.out.cell 0
                    go_wp2_with fail
                    refine (implRowmotionTimes_any _ us (M : Int) (-k) _ HIp173.out hl HWm.out HWn.out).mono ?_
                    rintro e w175 ⟨rfl, hb⟩
                    rw [HE2.out, HO2.out]
                    have HB176 := hid (below_to HB173.out hb)
                    have HIp176 := hid (HIp173.out.below hb)
                    have HKp176 := hid (HKp173.out.below hb HKp173.out.lt)
                    clear tKp174
                    clear hb HB173 HIp173 HKp173
                    have tKp177 := HKp176.out.cell 0
                    clear HE2 HO2 HWm HWn hM10
                    clear HE HOk HWs HWk hl hl21 hk1 hk2 tKp177 HIp176 HKp176
                    as_aux_lemma =>
                      go_wp2_with fail
                      refine (drawIsOrder_any _ xs1 _ (bytes_at HY1.out HB176.out) HS.out.2).mono ?_
                      rintro e w178 ⟨u, us, q, ys, rfl, ho, hl21, hoq, hy12, hb⟩
                      have HB := hid (below_to HB176.out hb)
                      have HIp := hid ho.ints
                      obtain ⟨pA, pc, rfl, -⟩ := ho.ints
                      have HIq := hid hoq.ints
                      clear ho hb hoq HB176
                      have hl : us.length ≤ 1048576 := by omega
                      have hm : ys.length ≤ 1048576 := by omega
                      obtain ⟨qA, qc, rfl, -⟩ := HIq.out
                      obtain ⟨o1, ho1⟩ : ∃ b, okOrder us ys = b := ⟨_, rfl⟩
                      obtain ⟨o2, ho2⟩ : ∃ b, good us = b := ⟨_, rfl⟩
                      have HO1 := hid ho1
                      have HO2 := hid ho2
                      clear ho1 ho2
                      obtain ⟨B6, hB6⟩ : ∃ B6, w178.heap.size = B6 := ⟨_, rfl⟩
                      go_wp2_with fail
                      have HB179 := hid (below_alloc HB.out (.cells #[.slice pA us.length pc] 26))
                      have HIp179 := hid (HIp.out.alloc (.cells #[.slice pA us.length pc] 26))
                      have HIq179 := hid (HIq.out.alloc (.cells #[.slice pA us.length pc] 26))
                      have HKp179 : Hid (Blk (w178.alloc (.cells #[.slice pA us.length pc] 26)) B6 26 #[.slice pA us.length pc]) := hid (by rw [← hB6]; exact Blk.new w178 _ _)
                      clear hB6 HB HIp HIq
                      have tKp180 := HKp179.out.cell 0
                      go_wp2_with fail
                      refine (implIsOrder_any _ us _ ys _ HIp179.out hl HIq179.out hm).mono ?_
                      rintro e w181 ⟨rfl, hb⟩
                      rw [HO1.out, HO2.out]
                      have HB182 := hid (below_to HB179.out hb)
                      have HIp182 := hid (HIp179.out.below hb)
                      have HIq182 := hid (HIq179.out.below hb)
                      have HKp182 := hid (HKp179.out.below hb HKp179.out.lt)
                      clear tKp180
                      clear hb HB179 HIp179 HIq179 HKp179
                      have tKp183 := HKp182.out.cell 0
                      go_wp2_with fail
                      refine (specIsOrder_any _ us _ ys _ HIp182.out hl HIq182.out hm).mono ?_
                      rintro e w184 ⟨rfl, hb⟩
                      rw [HO1.out, HO2.out]
                      have HB185 := hid (below_to HB182.out hb)
                      have HIp185 := hid (HIp182.out.below hb)
                      have HIq185 := hid (HIq182.out.below hb)
                      have HKp185 := hid (HKp182.out.below hb HKp182.out.lt)
                      clear tKp183
                      clear hb HB182 HIp182 HIq182 HKp182
                      have tKp186 := HKp185.out.cell 0
                      clear HO1 HO2 hl hm hl21 hy12 tKp186 HIp185 HIq185 HKp185
                      go_wp2_with fail
                      refine (drawCountOrders_any _ xs1 _ (bytes_at HY1.out HB185.out) HS.out.2).mono ?_
                      rintro e w187 ⟨u, us, rfl, ho, hl21, hb⟩
                      have HB := hid (below_to HB185.out hb)
                      have HIp := hid ho.ints
                      obtain ⟨pA, pc, rfl, -⟩ := ho.ints
                      clear ho hb  HB185
                      have hl : us.length ≤ 1048576 := by omega
                      obtain ⟨o3, ho3⟩ : ∃ b, good us = b := ⟨_, rfl⟩
                      obtain ⟨N, hN⟩ : ∃ N, ansN us ordersN = N := ⟨_, rfl⟩
                      have hN1 : o3 = true → 1 ≤ N := by rw [← ho3, ← hN]; exact ansN_some
                      have HO3 := hid ho3
                      have HN := hid hN
                      have HN1 := hid hN1
                      clear ho3 hN hN1
                      obtain ⟨B6, hB6⟩ : ∃ B6, w187.heap.size = B6 := ⟨_, rfl⟩
                      go_wp2_with fail
                      have HB188 := hid (below_alloc HB.out (.cells #[.slice pA us.length pc] 26))
                      have HIp188 := hid (HIp.out.alloc (.cells #[.slice pA us.length pc] 26))
                      have HKp188 : Hid (Blk (w187.alloc (.cells #[.slice pA us.length pc] 26)) B6 26 #[.slice pA us.length pc]) := hid (by rw [← hB6]; exact Blk.new w187 _ _)
                      clear hB6 HB HIp
                      have tKp189 := HKp188.out.cell 0
                      go_wp2_with fail
                      refine (implCountOrders_any _ us _ HIp188.out hl).mono ?_
                      rintro e w190 ⟨rfl, hb⟩
                      rw [HN.out, HO3.out]
                      have HB191 := hid (below_to HB188.out hb)
                      have HIp191 := hid (HIp188.out.below hb)
                      have HKp191 := hid (HKp188.out.below hb HKp188.out.lt)
                      clear tKp189
                      clear hb HB188 HIp188 HKp188
                      have tKp192 := HKp191.out.cell 0
                      go_wp2_with fail
                      refine (specCountOrders_any _ us _ HIp191.out hl).mono ?_
                      rintro e w193 ⟨rfl, hb⟩
                      rw [HN.out, HO3.out]
                      have HB194 := hid (below_to HB191.out hb)
                      have HIp194 := hid (HIp191.out.below hb)
                      have HKp194 := hid (HKp191.out.below hb HKp191.out.lt)
                      clear tKp192
                      clear hb HB191 HIp191 HKp191
                      have tKp195 := HKp194.out.cell 0
                      clear HO3 HN hl hl21 tKp195 HIp194 HKp194
                      go_wp2_with fail
                      refine (drawAntichainRow_any _ xs1 _ (bytes_at HY1.out HB194.out) HS.out.2).mono ?_
                      rintro e w196 ⟨u, us, s, rfl, hwf, ho, hl21, hb⟩
                      have HB := hid (below_to HB194.out hb)
                      have HIp := hid ho.ints
                      obtain ⟨pA, pc, rfl, -⟩ := ho.ints
                      clear ho hb  HB194
                      have HWs := hid hwf
                      have hl : us.length ≤ 1048576 := by omega
                      obtain ⟨o4, ho4⟩ : ∃ b, okAC us s = b := ⟨_, rfl⟩
                      obtain ⟨V, hV⟩ : ∃ N, ansAC us s = N := ⟨_, rfl⟩
                      have HO4 := hid ho4
                      have HV := hid hV
                      clear ho4 hV hwf
                      obtain ⟨B6, hB6⟩ : ∃ B6, w196.heap.size = B6 := ⟨_, rfl⟩
                      go_wp2_with fail
                      have HB197 := hid (below_alloc HB.out (.cells #[.slice pA us.length pc] 26))
                      have HIp197 := hid (HIp.out.alloc (.cells #[.slice pA us.length pc] 26))
                      have HKp197 : Hid (Blk (w196.alloc (.cells #[.slice pA us.length pc] 26)) B6 26 #[.slice pA us.length pc]) := hid (by rw [← hB6]; exact Blk.new w196 _ _)
                      clear hB6 HB HIp
                      have tKp198 := HKp197.out.cell 0
                      go_wp2_with fail
                      refine (implAntichainRow_any _ us s _ HIp197.out hl HWs.out).mono ?_
                      rintro e w199 ⟨rfl, hb⟩
                      rw [HV.out, HO4.out]
                      have HB200 := hid (below_to HB197.out hb)
                      have HIp200 := hid (HIp197.out.below hb)
                      have HKp200 := hid (HKp197.out.below hb HKp197.out.lt)
                      clear tKp198
                      clear hb HB197 HIp197 HKp197
                      have tKp201 := HKp200.out.cell 0
                      go_wp2_with fail
                      refine (specAntichainRow_any _ us s _ HIp200.out hl HWs.out).mono ?_
                      rintro e w202 ⟨rfl, hb⟩
                      rw [HV.out, HO4.out]
                      have HB203 := hid (below_to HB200.out hb)
                      have HIp203 := hid (HIp200.out.below hb)
                      have HKp203 := hid (HKp200.out.below hb HKp200.out.lt)
                      clear tKp201
                      clear hb HB200 HIp200 HKp200
                      have tKp204 := HKp203.out.cell 0
                      clear HO4 HV hl hl21 HWs tKp204 HIp203 HKp203
                      cases o3
                      · go_wp2
                        go_ret
                        exact ⟨ret_bool (by simp), HB203.out⟩
                      · have hN1 := HN1.out rfl
                        go_wp2
                        go_ret
                        exact ⟨ret_bool (by first | (simp; done) | (simp; omega)), HB203.out⟩
    · as_aux_lemma =>
        obtain ⟨R, hR⟩ : ∃ R, ansRB xs ys s = R := ⟨_, rfl⟩
        obtain ⟨T, hT⟩ : ∃ R, ansRow xs s rowmo = R := ⟨_, rfl⟩
        obtain ⟨b1, hb1⟩ : ∃ b, okIdeal xs s = b := ⟨_, rfl⟩
        obtain ⟨rfl, rfl⟩ : T = R ∧ b1 = true := by
          have h := rb_row hrb
          exact ⟨by rw [← hT, ← hR, h.1], by rw [← hb1, h.2]⟩
        have HR := hid hR
        have HT := hid hT
        have Hb1 := hid hb1
        have Hrb := hid hrb
        clear hR hT hb1 hrb
        go_wp2_with fail
        refine (implRowByToggles_any _ xs s _ ys _ HIp2.out hl HWs.out HIq2.out hm).mono ?_
        rintro e w205 ⟨rfl, hb⟩
        rw [HR.out, Hrb.out]
        have HB206 := hid (below_to HB2.out hb)
        have HIp206 := hid (HIp2.out.below hb)
        have HIq206 := hid (HIq2.out.below hb)
        have HKp206 := hid (HKp2.out.below hb HKp2.out.lt)
        clear tKp3
        clear hb HB2 HIp2 HIq2 HKp2
        have tKp207 := HKp206.out.cell 0
        go_wp2_with fail
        refine (specRowByToggles_any _ xs s _ ys _ HIp206.out hl HWs.out HIq206.out hm).mono ?_
        rintro e w208 ⟨rfl, hb⟩
        rw [HR.out, Hrb.out]
        have HB209 := hid (below_to HB206.out hb)
        have HIp209 := hid (HIp206.out.below hb)
        have HIq209 := hid (HIq206.out.below hb)
        have HKp209 := hid (HKp206.out.below hb HKp206.out.lt)
        clear tKp207
        clear hb HB206 HIp206 HIq206 HKp206
        have tKp210 := HKp209.out.cell 0
        go_wp2_with fail
        refine (implRowmotion_any _ xs s _ HIp209.out hl HWs.out).mono ?_
        rintro e w211 ⟨rfl, hb⟩
        rw [HT.out, Hb1.out]
        have HB212 := hid (below_to HB209.out hb)
        have HIp212 := hid (HIp209.out.below hb)
        have HIq212 := hid (HIq209.out.below hb)
        have HKp212 := hid (HKp209.out.below hb HKp209.out.lt)
        clear tKp210
        clear hb HB209 HIp209 HIq209 HKp209
        have tKp213 := HKp212.out.cell 0
        clear HR HT Hb1 Hrb HWs hl hm hl21 hy12 tKp213 HIp212 HIq212 HKp212
        as_aux_lemma =>
          go_wp2_with fail
          refine (drawRowmotion_any _ xs1 _ (bytes_at HY1.out HB212.out) HS.out.2).mono ?_
          rintro e w214 ⟨u, us, s2, rfl, hwf, ho, hl21, hb⟩
          have HB := hid (below_to HB212.out hb)
          have HIp := hid ho.ints
          obtain ⟨pA, pc, rfl, -⟩ := ho.ints
          clear ho hb  HB212
          have HWs := hid hwf
          have hl : us.length ≤ 1048576 := by omega
          clear hwf
          obtain ⟨B6, hB6⟩ : ∃ B6, w214.heap.size = B6 := ⟨_, rfl⟩
          go_wp2_with fail
          have HB215 := hid (below_alloc HB.out (.cells #[.slice pA us.length pc] 26))
          have HIp215 := hid (HIp.out.alloc (.cells #[.slice pA us.length pc] 26))
          have HKp215 : Hid (Blk (w214.alloc (.cells #[.slice pA us.length pc] 26)) B6 26 #[.slice pA us.length pc]) := hid (by rw [← hB6]; exact Blk.new w214 _ _)
          clear hB6 HB HIp
          have tKp216 := HKp215.out.cell 0
          cases hoi : okIdeal us s2
          · as_aux_lemma =>
              have HE : Hid (∀ f, ansRow us s2 f = 0) := hid (fun f => ansRow_no hoi)
              have HOi := hid hoi
              clear hoi
              go_wp2_with fail
              refine (implRowmotion_any _ us s2 _ HIp215.out hl HWs.out).mono ?_
              rintro e w217 ⟨rfl, hb⟩
              rw [HE.out, HOi.out]
              have HB218 := hid (below_to HB215.out hb)
              have HIp218 := hid (HIp215.out.below hb)
              have HKp218 := hid (HKp215.out.below hb HKp215.out.lt)
              clear tKp216
              clear hb HB215 HIp215 HKp215
              have tKp219 := HKp218.out.cell 0
              go_wp2_with fail
              refine (specRowmotion_any _ us s2 _ HIp218.out hl HWs.out).mono ?_
              rintro e w220 ⟨rfl, hb⟩
              rw [HE.out, HOi.out]
              have HB221 := hid (below_to HB218.out hb)
              have HIp221 := hid (HIp218.out.below hb)
              have HKp221 := hid (HKp218.out.below hb HKp218.out.lt)
              clear tKp219
              clear hb HB218 HIp218 HKp218
              have tKp222 := HKp221.out.cell 0
              go_wp2_with fail
              refine (implRowmotionBack_any _ us s2 _ HIp221.out hl HWs.out).mono ?_
              rintro e w223 ⟨rfl, hb⟩
              rw [HE.out, HOi.out]
              have HB224 := hid (below_to HB221.out hb)
              have HIp224 := hid (HIp221.out.below hb)
              have HKp224 := hid (HKp221.out.below hb HKp221.out.lt)
              clear tKp222
              clear hb HB221 HIp221 HKp221
              have tKp225 := HKp224.out.cell 0
              go_wp2_with fail
              refine (specRowmotionBack_any _ us s2 _ HIp224.out hl HWs.out).mono ?_
              rintro e w226 ⟨rfl, hb⟩
              rw [HE.out, HOi.out]
              have HB227 := hid (below_to HB224.out hb)
              have HIp227 := hid (HIp224.out.below hb)
              have HKp227 := hid (HKp224.out.below hb HKp224.out.lt)
              clear tKp225
              clear hb HB224 HIp224 HKp224
              have tKp228 := HKp227.out.cell 0
              clear HWs hl hl21 tKp228 HIp227 HKp227 HE HOi
              as_aux_lemma =>
                go_wp2_with fail
                refine (drawRowmotionTimes_any _ xs1 _ (bytes_at HY1.out HB227.out) HS.out.2).mono ?_
                rintro e w229 ⟨u, us, y, k, rfl, hwf, ho, hl21, hk1, hk2, hb⟩
                have HB := hid (below_to HB227.out hb)
                have HIp := hid ho.ints
                obtain ⟨pA, pc, rfl, -⟩ := ho.ints
                clear ho hb  HB227
                have HWs := hid hwf
                have HWk := hid (wf_i64 k (by omega) (by omega))
                have hl : us.length ≤ 1048576 := by omega
                clear hwf
                obtain ⟨B6, hB6⟩ : ∃ B6, w229.heap.size = B6 := ⟨_, rfl⟩
                go_wp2_with fail
                have HB230 := hid (below_alloc HB.out (.cells #[.slice pA us.length pc] 26))
                have HIp230 := hid (HIp.out.alloc (.cells #[.slice pA us.length pc] 26))
                have HKp230 : Hid (Blk (w229.alloc (.cells #[.slice pA us.length pc] 26)) B6 26 #[.slice pA us.length pc]) := hid (by rw [← hB6]; exact Blk.new w229 _ _)
                clear hB6 HB HIp
                have tKp231 := HKp230.out.cell 0
                cases hok : okRT us y k
                · as_aux_lemma =>
                    have HE : Hid (ansRT us y k = 0) := hid (ansRT_no hok)
                    have HOk := hid hok
                    clear hok
                    go_wp2_with fail
                    refine (implRowmotionTimes_any _ us y k _ HIp230.out hl HWs.out HWk.out).mono ?_
                    rintro e w232 ⟨rfl, hb⟩
                    rw [HE.out, HOk.out]
                    have HB233 := hid (below_to HB230.out hb)
                    have HIp233 := hid (HIp230.out.below hb)
                    have HKp233 := hid (HKp230.out.below hb HKp230.out.lt)
                    clear tKp231
                    clear hb HB230 HIp230 HKp230
                    have tKp234 := HKp233.out.cell 0
                    go_wp2_with fail
                    refine (specRowmotionTimes_any _ us y k _ HIp233.out hl HWs.out HWk.out).mono ?_
                    rintro e w235 ⟨rfl, hb⟩
                    rw [HE.out, HOk.out]
                    have HB236 := hid (below_to HB233.out hb)
                    have HIp236 := hid (HIp233.out.below hb)
                    have HKp236 := hid (HKp233.out.below hb HKp233.out.lt)
                    clear tKp234
                    clear hb HB233 HIp233 HKp233
                    have tKp237 := HKp236.out.cell 0
                    clear HE HOk HWs HWk hl hl21 hk1 hk2 tKp237 HIp236 HKp236
                    as_aux_lemma =>
                      go_wp2_with fail
                      refine (drawIsOrder_any _ xs1 _ (bytes_at HY1.out HB236.out) HS.out.2).mono ?_
                      rintro e w238 ⟨u, us, q, ys, rfl, ho, hl21, hoq, hy12, hb⟩
                      have HB := hid (below_to HB236.out hb)
                      have HIp := hid ho.ints
                      obtain ⟨pA, pc, rfl, -⟩ := ho.ints
                      have HIq := hid hoq.ints
                      clear ho hb hoq HB236
                      have hl : us.length ≤ 1048576 := by omega
                      have hm : ys.length ≤ 1048576 := by omega
                      obtain ⟨qA, qc, rfl, -⟩ := HIq.out
                      obtain ⟨o1, ho1⟩ : ∃ b, okOrder us ys = b := ⟨_, rfl⟩
                      obtain ⟨o2, ho2⟩ : ∃ b, good us = b := ⟨_, rfl⟩
                      have HO1 := hid ho1
                      have HO2 := hid ho2
                      clear ho1 ho2
                      obtain ⟨B6, hB6⟩ : ∃ B6, w238.heap.size = B6 := ⟨_, rfl⟩
                      go_wp2_with fail
                      have HB239 := hid (below_alloc HB.out (.cells #[.slice pA us.length pc] 26))
                      have HIp239 := hid (HIp.out.alloc (.cells #[.slice pA us.length pc] 26))
                      have HIq239 := hid (HIq.out.alloc (.cells #[.slice pA us.length pc] 26))
                      have HKp239 : Hid (Blk (w238.alloc (.cells #[.slice pA us.length pc] 26)) B6 26 #[.slice pA us.length pc]) := hid (by rw [← hB6]; exact Blk.new w238 _ _)
                      clear hB6 HB HIp HIq
                      have tKp240 := HKp239.out.cell 0
                      go_wp2_with fail
                      refine (implIsOrder_any _ us _ ys _ HIp239.out hl HIq239.out hm).mono ?_
                      rintro e w241 ⟨rfl, hb⟩
                      rw [HO1.out, HO2.out]
                      have HB242 := hid (below_to HB239.out hb)
                      have HIp242 := hid (HIp239.out.below hb)
                      have HIq242 := hid (HIq239.out.below hb)
                      have HKp242 := hid (HKp239.out.below hb HKp239.out.lt)
                      clear tKp240
                      clear hb HB239 HIp239 HIq239 HKp239
                      have tKp243 := HKp242.out.cell 0
                      go_wp2_with fail
                      refine (specIsOrder_any _ us _ ys _ HIp242.out hl HIq242.out hm).mono ?_
                      rintro e w244 ⟨rfl, hb⟩
                      rw [HO1.out, HO2.out]
                      have HB245 := hid (below_to HB242.out hb)
                      have HIp245 := hid (HIp242.out.below hb)
                      have HIq245 := hid (HIq242.out.below hb)
                      have HKp245 := hid (HKp242.out.below hb HKp242.out.lt)
                      clear tKp243
                      clear hb HB242 HIp242 HIq242 HKp242
                      have tKp246 := HKp245.out.cell 0
                      clear HO1 HO2 hl hm hl21 hy12 tKp246 HIp245 HIq245 HKp245
                      go_wp2_with fail
                      refine (drawCountOrders_any _ xs1 _ (bytes_at HY1.out HB245.out) HS.out.2).mono ?_
                      rintro e w247 ⟨u, us, rfl, ho, hl21, hb⟩
                      have HB := hid (below_to HB245.out hb)
                      have HIp := hid ho.ints
                      obtain ⟨pA, pc, rfl, -⟩ := ho.ints
                      clear ho hb  HB245
                      have hl : us.length ≤ 1048576 := by omega
                      obtain ⟨o3, ho3⟩ : ∃ b, good us = b := ⟨_, rfl⟩
                      obtain ⟨N, hN⟩ : ∃ N, ansN us ordersN = N := ⟨_, rfl⟩
                      have hN1 : o3 = true → 1 ≤ N := by rw [← ho3, ← hN]; exact ansN_some
                      have HO3 := hid ho3
                      have HN := hid hN
                      have HN1 := hid hN1
                      clear ho3 hN hN1
                      obtain ⟨B6, hB6⟩ : ∃ B6, w247.heap.size = B6 := ⟨_, rfl⟩
                      go_wp2_with fail
                      have HB248 := hid (below_alloc HB.out (.cells #[.slice pA us.length pc] 26))
                      have HIp248 := hid (HIp.out.alloc (.cells #[.slice pA us.length pc] 26))
                      have HKp248 : Hid (Blk (w247.alloc (.cells #[.slice pA us.length pc] 26)) B6 26 #[.slice pA us.length pc]) := hid (by rw [← hB6]; exact Blk.new w247 _ _)
                      clear hB6 HB HIp
                      have tKp249 := HKp248.out.cell 0
                      go_wp2_with fail
                      refine (implCountOrders_any _ us _ HIp248.out hl).mono ?_
                      rintro e w250 ⟨rfl, hb⟩
                      rw [HN.out, HO3.out]
                      have HB251 := hid (below_to HB248.out hb)
                      have HIp251 := hid (HIp248.out.below hb)
                      have HKp251 := hid (HKp248.out.below hb HKp248.out.lt)
                      clear tKp249
                      clear hb HB248 HIp248 HKp248
                      have tKp252 := HKp251.out.cell 0
                      go_wp2_with fail
                      refine (specCountOrders_any _ us _ HIp251.out hl).mono ?_
                      rintro e w253 ⟨rfl, hb⟩
                      rw [HN.out, HO3.out]
                      have HB254 := hid (below_to HB251.out hb)
                      have HIp254 := hid (HIp251.out.below hb)
                      have HKp254 := hid (HKp251.out.below hb HKp251.out.lt)
                      clear tKp252
                      clear hb HB251 HIp251 HKp251
                      have tKp255 := HKp254.out.cell 0
                      clear HO3 HN hl hl21 tKp255 HIp254 HKp254
                      go_wp2_with fail
                      refine (drawAntichainRow_any _ xs1 _ (bytes_at HY1.out HB254.out) HS.out.2).mono ?_
                      rintro e w256 ⟨u, us, s, rfl, hwf, ho, hl21, hb⟩
                      have HB := hid (below_to HB254.out hb)
                      have HIp := hid ho.ints
                      obtain ⟨pA, pc, rfl, -⟩ := ho.ints
                      clear ho hb  HB254
                      have HWs := hid hwf
                      have hl : us.length ≤ 1048576 := by omega
                      obtain ⟨o4, ho4⟩ : ∃ b, okAC us s = b := ⟨_, rfl⟩
                      obtain ⟨V, hV⟩ : ∃ N, ansAC us s = N := ⟨_, rfl⟩
                      have HO4 := hid ho4
                      have HV := hid hV
                      clear ho4 hV hwf
                      obtain ⟨B6, hB6⟩ : ∃ B6, w256.heap.size = B6 := ⟨_, rfl⟩
                      go_wp2_with fail
                      have HB257 := hid (below_alloc HB.out (.cells #[.slice pA us.length pc] 26))
                      have HIp257 := hid (HIp.out.alloc (.cells #[.slice pA us.length pc] 26))
                      have HKp257 : Hid (Blk (w256.alloc (.cells #[.slice pA us.length pc] 26)) B6 26 #[.slice pA us.length pc]) := hid (by rw [← hB6]; exact Blk.new w256 _ _)
                      clear hB6 HB HIp
                      have tKp258 := HKp257.out.cell 0
                      go_wp2_with fail
                      refine (implAntichainRow_any _ us s _ HIp257.out hl HWs.out).mono ?_
                      rintro e w259 ⟨rfl, hb⟩
                      rw [HV.out, HO4.out]
                      have HB260 := hid (below_to HB257.out hb)
                      have HIp260 := hid (HIp257.out.below hb)
                      have HKp260 := hid (HKp257.out.below hb HKp257.out.lt)
                      clear tKp258
                      clear hb HB257 HIp257 HKp257
                      have tKp261 := HKp260.out.cell 0
                      go_wp2_with fail
                      refine (specAntichainRow_any _ us s _ HIp260.out hl HWs.out).mono ?_
                      rintro e w262 ⟨rfl, hb⟩
                      rw [HV.out, HO4.out]
                      have HB263 := hid (below_to HB260.out hb)
                      have HIp263 := hid (HIp260.out.below hb)
                      have HKp263 := hid (HKp260.out.below hb HKp260.out.lt)
                      clear tKp261
                      clear hb HB260 HIp260 HKp260
                      have tKp264 := HKp263.out.cell 0
                      clear HO4 HV hl hl21 HWs tKp264 HIp263 HKp263
                      cases o3
                      · go_wp2
                        go_ret
                        exact ⟨ret_bool (by simp), HB263.out⟩
                      · have hN1 := HN1.out rfl
                        go_wp2
                        go_ret
                        exact ⟨ret_bool (by first | (simp; done) | (simp; omega)), HB263.out⟩
                · as_aux_lemma =>
                    obtain ⟨M, hM10, hM1, hM2, hM3⟩ := rt_back hok
                    have HE := hid hM1
                    have HE2 := hid hM2
                    have HO2 := hid hM3
                    have HOk := hid hok
                    have HWm := hid (wf_i64 (M : Int) (by omega) (by omega))
                    have HWn := hid (wf_i64 (-k) (by omega) (by omega))
                    clear hM1 hM2 hM3 hok
                    go_wp2_with fail
                    refine (implRowmotionTimes_any _ us y k _ HIp230.out hl HWs.out HWk.out).mono ?_
                    rintro e w265 ⟨rfl, hb⟩
                    rw [HE.out, HOk.out]
                    have HB266 := hid (below_to HB230.out hb)
                    have HIp266 := hid (HIp230.out.below hb)
                    have HKp266 := hid (HKp230.out.below hb HKp230.out.lt)
                    clear tKp231
                    clear hb HB230 HIp230 HKp230
                    have tKp267 := HKp266.out.cell 0
                    go_wp2_with fail
                    refine (specRowmotionTimes_any _ us y k _ HIp266.out hl HWs.out HWk.out).mono ?_
                    rintro e w268 ⟨rfl, hb⟩
                    rw [HE.out, HOk.out]
                    have HB269 := hid (below_to HB266.out hb)
                    have HIp269 := hid (HIp266.out.below hb)
                    have HKp269 := hid (HKp266.out.below hb HKp266.out.lt)
                    clear tKp267
                    clear hb HB266 HIp266 HKp266
                    have tKp270 := HKp269.out.cell 0
                    go_wp2_with fail
                    refine (implRowmotionTimes_any _ us (M : Int) (-k) _ HIp269.out hl HWm.out HWn.out).mono ?_
                    rintro e w271 ⟨rfl, hb⟩
                    rw [HE2.out, HO2.out]
                    have HB272 := hid (below_to HB269.out hb)
                    have HIp272 := hid (HIp269.out.below hb)
                    have HKp272 := hid (HKp269.out.below hb HKp269.out.lt)
                    clear tKp270
                    clear hb HB269 HIp269 HKp269
                    have tKp273 := HKp272.out.cell 0
                    clear HE2 HO2 HWm HWn hM10
                    clear HE HOk HWs HWk hl hl21 hk1 hk2 tKp273 HIp272 HKp272
                    as_aux_lemma =>
                      go_wp2_with fail
                      refine (drawIsOrder_any _ xs1 _ (bytes_at HY1.out HB272.out) HS.out.2).mono ?_
                      rintro e w274 ⟨u, us, q, ys, rfl, ho, hl21, hoq, hy12, hb⟩
                      have HB := hid (below_to HB272.out hb)
                      have HIp := hid ho.ints
                      obtain ⟨pA, pc, rfl, -⟩ := ho.ints
                      have HIq := hid hoq.ints
                      clear ho hb hoq HB272
                      have hl : us.length ≤ 1048576 := by omega
                      have hm : ys.length ≤ 1048576 := by omega
                      obtain ⟨qA, qc, rfl, -⟩ := HIq.out
                      obtain ⟨o1, ho1⟩ : ∃ b, okOrder us ys = b := ⟨_, rfl⟩
                      obtain ⟨o2, ho2⟩ : ∃ b, good us = b := ⟨_, rfl⟩
                      have HO1 := hid ho1
                      have HO2 := hid ho2
                      clear ho1 ho2
                      obtain ⟨B6, hB6⟩ : ∃ B6, w274.heap.size = B6 := ⟨_, rfl⟩
                      go_wp2_with fail
                      have HB275 := hid (below_alloc HB.out (.cells #[.slice pA us.length pc] 26))
                      have HIp275 := hid (HIp.out.alloc (.cells #[.slice pA us.length pc] 26))
                      have HIq275 := hid (HIq.out.alloc (.cells #[.slice pA us.length pc] 26))
                      have HKp275 : Hid (Blk (w274.alloc (.cells #[.slice pA us.length pc] 26)) B6 26 #[.slice pA us.length pc]) := hid (by rw [← hB6]; exact Blk.new w274 _ _)
                      clear hB6 HB HIp HIq
                      have tKp276 := HKp275.out.cell 0
                      go_wp2_with fail
                      refine (implIsOrder_any _ us _ ys _ HIp275.out hl HIq275.out hm).mono ?_
                      rintro e w277 ⟨rfl, hb⟩
                      rw [HO1.out, HO2.out]
                      have HB278 := hid (below_to HB275.out hb)
                      have HIp278 := hid (HIp275.out.below hb)
                      have HIq278 := hid (HIq275.out.below hb)
                      have HKp278 := hid (HKp275.out.below hb HKp275.out.lt)
                      clear tKp276
                      clear hb HB275 HIp275 HIq275 HKp275
                      have tKp279 := HKp278.out.cell 0
                      go_wp2_with fail
                      refine (specIsOrder_any _ us _ ys _ HIp278.out hl HIq278.out hm).mono ?_
                      rintro e w280 ⟨rfl, hb⟩
                      rw [HO1.out, HO2.out]
                      have HB281 := hid (below_to HB278.out hb)
                      have HIp281 := hid (HIp278.out.below hb)
                      have HIq281 := hid (HIq278.out.below hb)
                      have HKp281 := hid (HKp278.out.below hb HKp278.out.lt)
                      clear tKp279
                      clear hb HB278 HIp278 HIq278 HKp278
                      have tKp282 := HKp281.out.cell 0
                      clear HO1 HO2 hl hm hl21 hy12 tKp282 HIp281 HIq281 HKp281
                      go_wp2_with fail
                      refine (drawCountOrders_any _ xs1 _ (bytes_at HY1.out HB281.out) HS.out.2).mono ?_
                      rintro e w283 ⟨u, us, rfl, ho, hl21, hb⟩
                      have HB := hid (below_to HB281.out hb)
                      have HIp := hid ho.ints
                      obtain ⟨pA, pc, rfl, -⟩ := ho.ints
                      clear ho hb  HB281
                      have hl : us.length ≤ 1048576 := by omega
                      obtain ⟨o3, ho3⟩ : ∃ b, good us = b := ⟨_, rfl⟩
                      obtain ⟨N, hN⟩ : ∃ N, ansN us ordersN = N := ⟨_, rfl⟩
                      have hN1 : o3 = true → 1 ≤ N := by rw [← ho3, ← hN]; exact ansN_some
                      have HO3 := hid ho3
                      have HN := hid hN
                      have HN1 := hid hN1
                      clear ho3 hN hN1
                      obtain ⟨B6, hB6⟩ : ∃ B6, w283.heap.size = B6 := ⟨_, rfl⟩
                      go_wp2_with fail
                      have HB284 := hid (below_alloc HB.out (.cells #[.slice pA us.length pc] 26))
                      have HIp284 := hid (HIp.out.alloc (.cells #[.slice pA us.length pc] 26))
                      have HKp284 : Hid (Blk (w283.alloc (.cells #[.slice pA us.length pc] 26)) B6 26 #[.slice pA us.length pc]) := hid (by rw [← hB6]; exact Blk.new w283 _ _)
                      clear hB6 HB HIp
                      have tKp285 := HKp284.out.cell 0
                      go_wp2_with fail
                      refine (implCountOrders_any _ us _ HIp284.out hl).mono ?_
                      rintro e w286 ⟨rfl, hb⟩
                      rw [HN.out, HO3.out]
                      have HB287 := hid (below_to HB284.out hb)
                      have HIp287 := hid (HIp284.out.below hb)
                      have HKp287 := hid (HKp284.out.below hb HKp284.out.lt)
                      clear tKp285
                      clear hb HB284 HIp284 HKp284
                      have tKp288 := HKp287.out.cell 0
                      go_wp2_with fail
                      refine (specCountOrders_any _ us _ HIp287.out hl).mono ?_
                      rintro e w289 ⟨rfl, hb⟩
                      rw [HN.out, HO3.out]
                      have HB290 := hid (below_to HB287.out hb)
                      have HIp290 := hid (HIp287.out.below hb)
                      have HKp290 := hid (HKp287.out.below hb HKp287.out.lt)
                      clear tKp288
                      clear hb HB287 HIp287 HKp287
                      have tKp291 := HKp290.out.cell 0
                      clear HO3 HN hl hl21 tKp291 HIp290 HKp290
                      go_wp2_with fail
                      refine (drawAntichainRow_any _ xs1 _ (bytes_at HY1.out HB290.out) HS.out.2).mono ?_
                      rintro e w292 ⟨u, us, s, rfl, hwf, ho, hl21, hb⟩
                      have HB := hid (below_to HB290.out hb)
                      have HIp := hid ho.ints
                      obtain ⟨pA, pc, rfl, -⟩ := ho.ints
                      clear ho hb  HB290
                      have HWs := hid hwf
                      have hl : us.length ≤ 1048576 := by omega
                      obtain ⟨o4, ho4⟩ : ∃ b, okAC us s = b := ⟨_, rfl⟩
                      obtain ⟨V, hV⟩ : ∃ N, ansAC us s = N := ⟨_, rfl⟩
                      have HO4 := hid ho4
                      have HV := hid hV
                      clear ho4 hV hwf
                      obtain ⟨B6, hB6⟩ : ∃ B6, w292.heap.size = B6 := ⟨_, rfl⟩
                      go_wp2_with fail
                      have HB293 := hid (below_alloc HB.out (.cells #[.slice pA us.length pc] 26))
                      have HIp293 := hid (HIp.out.alloc (.cells #[.slice pA us.length pc] 26))
                      have HKp293 : Hid (Blk (w292.alloc (.cells #[.slice pA us.length pc] 26)) B6 26 #[.slice pA us.length pc]) := hid (by rw [← hB6]; exact Blk.new w292 _ _)
                      clear hB6 HB HIp
                      have tKp294 := HKp293.out.cell 0
                      go_wp2_with fail
                      refine (implAntichainRow_any _ us s _ HIp293.out hl HWs.out).mono ?_
                      rintro e w295 ⟨rfl, hb⟩
                      rw [HV.out, HO4.out]
                      have HB296 := hid (below_to HB293.out hb)
                      have HIp296 := hid (HIp293.out.below hb)
                      have HKp296 := hid (HKp293.out.below hb HKp293.out.lt)
                      clear tKp294
                      clear hb HB293 HIp293 HKp293
                      have tKp297 := HKp296.out.cell 0
                      go_wp2_with fail
                      refine (specAntichainRow_any _ us s _ HIp296.out hl HWs.out).mono ?_
                      rintro e w298 ⟨rfl, hb⟩
                      rw [HV.out, HO4.out]
                      have HB299 := hid (below_to HB296.out hb)
                      have HIp299 := hid (HIp296.out.below hb)
                      have HKp299 := hid (HKp296.out.below hb HKp296.out.lt)
                      clear tKp297
                      clear hb HB296 HIp296 HKp296
                      have tKp300 := HKp299.out.cell 0
                      clear HO4 HV hl hl21 HWs tKp300 HIp299 HKp299
                      cases o3
                      · go_wp2
                        go_ret
                        exact ⟨ret_bool (by simp), HB299.out⟩
                      · have hN1 := HN1.out rfl
                        go_wp2
                        go_ret
                        exact ⟨ret_bool (by first | (simp; done) | (simp; omega)), HB299.out⟩
          · as_aux_lemma =>
              obtain ⟨z, rfl, hg, hz, hi⟩ := okIdeal_all hoi
              have hz10 := lt1024 hz (good_length hg).2
              obtain ⟨N, hN⟩ : ∃ N, rowmo us z = N := ⟨_, rfl⟩
              obtain ⟨K, hK⟩ : ∃ N, rowba us z = N := ⟨_, rfl⟩
              obtain ⟨T, hT⟩ : ∃ T, top us (rowmo us z) = T := ⟨_, rfl⟩
              obtain ⟨C, hC⟩ : ∃ C, top us z = C := ⟨_, rfl⟩
              obtain ⟨P, hP⟩ : ∃ P, compl us.length z = P := ⟨_, rfl⟩
              obtain ⟨M, hM⟩ : ∃ M, 2 ^ us.length = M := ⟨_, rfl⟩
              have hF := row_facts hg hz hi
              rw [hN, hK, hC, hP] at hF
              rw [← hN, hT] at hF
              rw [hN] at hF
              obtain ⟨f1, f2, f3, f4, f5, f6, f7, f8, f9, f10, f11, f12, f13, f14, f15, f16, f17, f18, f19⟩ := hF
              have HE1 := hid f1
              have HE2 := hid f2
              have HE3 := hid f3
              have HE4 := hid f4
              have HE5 := hid f5
              have HE6 := hid f6
              have HE7 := hid f7
              have HE8 := hid f8
              have HO1 := hid f9
              have HO2 := hid f10
              have HO3 := hid f11
              have HO4 := hid f12
              have HO5 := hid f13
              have HO6 := hid f14
              have HO7 := hid f15
              have HAD := hid f16
              have hN10 : N < 1024 := f17
              have hK10 : K < 1024 := f18
              have hC10 : C < 1024 := f19
              have hMs : P = M - 1 - z := by rw [← hP, ← hM]; exact compl_sub hz
              have hM2 : M ≤ 1024 := by rw [← hM]; exact Nat.pow_le_pow_right (n := 2) (by decide) (good_length hg).2
              have hMi : (2 : Int) ^ us.length = (M : Int) := by rw [← hM, Int.natCast_pow]; rfl
              have hzM : z < M := by rw [← hM]; exact hz
              have HMs : Hid (IntKind.i64.wrap ((2 : Int) ^ us.length) = (M : Int) ∧ IntKind.i64.wrap ((M : Int) - 1) = (M : Int) - 1 ∧ IntKind.i64.wrap ((M : Int) - 1 - (z : Int)) = (P : Int)) := hid (by
                rw [hMi, IntKind.wrap_i64, IntKind.wrap_i64, IntKind.wrap_i64]; omega)
              have HM5 : Hid (IntKind.i64.wrap (IntKind.i64.wrap (IntKind.i64.wrap (M : Int) - 1) - (z : Int)) = (P : Int)) := hid (by
                rw [show IntKind.i64.wrap (M : Int) = (M : Int) from by rw [IntKind.wrap_i64]; omega, HMs.out.2.1, HMs.out.2.2])
              have hP10 : P < 1024 := by omega
              have hPe : (M : Int) - 1 - (z : Int) = (P : Int) := by omega
              have HPe := hid hPe
              have HMi := hid hMi
              have HOi := hid hoi
              clear f1 f2 f3 f4 f5 f6 f7 f8 f9 f10 f11 f12 f13 f14 f15 f16 f17 f18 f19 hN hK hT hC hP hM hMs hz hi hg hoi hPe hMi
              go_wp2_with fail
              refine (implRowmotion_any _ us (z : Int) _ HIp215.out hl HWs.out).mono ?_
              rintro e w301 ⟨rfl, hb⟩
              rw [HE1.out, HOi.out]
              have HB302 := hid (below_to HB215.out hb)
              have HIp302 := hid (HIp215.out.below hb)
              have HKp302 := hid (HKp215.out.below hb HKp215.out.lt)
              clear tKp216
              clear hb HB215 HIp215 HKp215
              have tKp303 := HKp302.out.cell 0
              go_wp2_with fail
              refine (specRowmotion_any _ us (z : Int) _ HIp302.out hl HWs.out).mono ?_
              rintro e w304 ⟨rfl, hb⟩
              rw [HE1.out, HOi.out]
              have HB305 := hid (below_to HB302.out hb)
              have HIp305 := hid (HIp302.out.below hb)
              have HKp305 := hid (HKp302.out.below hb HKp302.out.lt)
              clear tKp303
              clear hb HB302 HIp302 HKp302
              have tKp306 := HKp305.out.cell 0
              go_wp2_with fail
              refine (implRowmotionBack_any _ us (z : Int) _ HIp305.out hl HWs.out).mono ?_
              rintro e w307 ⟨rfl, hb⟩
              rw [HE2.out, HOi.out]
              have HB308 := hid (below_to HB305.out hb)
              have HIp308 := hid (HIp305.out.below hb)
              have HKp308 := hid (HKp305.out.below hb HKp305.out.lt)
              clear tKp306
              clear hb HB305 HIp305 HKp305
              have tKp309 := HKp308.out.cell 0
              go_wp2_with fail
              refine (specRowmotionBack_any _ us (z : Int) _ HIp308.out hl HWs.out).mono ?_
              rintro e w310 ⟨rfl, hb⟩
              rw [HE2.out, HOi.out]
              have HB311 := hid (below_to HB308.out hb)
              have HIp311 := hid (HIp308.out.below hb)
              have HKp311 := hid (HKp308.out.below hb HKp308.out.lt)
              clear tKp309
              clear hb HB308 HIp308 HKp308
              have tKp312 := HKp311.out.cell 0
              go_wp2_with fail
              refine (implRowmotionBack_any _ us (N : Int) _ HIp311.out hl (wf_i64 _ (by omega) (by omega))).mono ?_
              rintro e w313 ⟨rfl, hb⟩
              rw [HE3.out, HO1.out]
              have HB314 := hid (below_to HB311.out hb)
              have HIp314 := hid (HIp311.out.below hb)
              have HKp314 := hid (HKp311.out.below hb HKp311.out.lt)
              clear tKp312
              clear hb HB311 HIp311 HKp311
              have tKp315 := HKp314.out.cell 0
              go_wp2_with fail
              refine (implRowmotion_any _ us (K : Int) _ HIp314.out hl (wf_i64 _ (by omega) (by omega))).mono ?_
              rintro e w316 ⟨rfl, hb⟩
              rw [HE4.out, HO2.out]
              have HB317 := hid (below_to HB314.out hb)
              have HIp317 := hid (HIp314.out.below hb)
              have HKp317 := hid (HKp314.out.below hb HKp314.out.lt)
              clear tKp315
              clear hb HB314 HIp314 HKp314
              have tKp318 := HKp317.out.cell 0
              go_wp2_with fail
              refine (implTopOf_any _ us (N : Int) _ HIp317.out hl (wf_i64 _ (by omega) (by omega))).mono ?_
              rintro e w319 ⟨rfl, hb⟩
              rw [HE5.out, HO3.out]
              have HB320 := hid (below_to HB317.out hb)
              have HIp320 := hid (HIp317.out.below hb)
              have HKp320 := hid (HKp317.out.below hb HKp317.out.lt)
              clear tKp318
              clear hb HB317 HIp317 HKp317
              have tKp321 := HKp320.out.cell 0
              obtain ⟨m1, m2, m3⟩ := HMs.out
              have hPe := HPe.out
              have hMi := HMi.out
              go_wp2
              have HSb322 := hid (show SB w319 B6 (.slice pA us.length pc) w319 from ⟨⟨HKp320.out.cell 0, HKp320.out.lt⟩, Below.refl _ _⟩)
              go_region_held3 (fun W => W.cell? ⟨B6, 0, none⟩ = some (.slice pA us.length pc) ∧ Hid (SB w319 B6 (.slice pA us.length pc) W)) (first | exact ⟨HSc322.out.at_.1, HSc322⟩ | exact ⟨HSb322.out.drew.at_.1, hid HSb322.out.drew⟩) (first | (go_at_call 15; rw [HM5.out]; refine (bot_SB (.slice pA us.length pc) us (P : Int) w319 B6 _ HIp320.out hl (wf_i64 _ (by omega) (by omega)) (Hid.out (by first | assumption | exact hid HSb322.out.drew))).mono ?_; rintro e w322 ⟨rfl, hsb⟩; rw [HE6.out, HO4.out]; have HSc322 := hid hsb; clear hsb))
              have HB323 := hid (below_to HB320.out HSc322.out.below)
              have HIp323 := hid (HIp320.out.below HSc322.out.below)
              have HKp323 := hid (HKp320.out.below HSc322.out.below HKp320.out.lt)
              clear m1 m2 m3 hPe hMi HM5 HSb322 HSc322 HB320 HIp320 HKp320 tKp321
              have tKp324 := HKp323.out.cell 0
              go_wp2_with fail
              refine (implTopOf_any _ us (z : Int) _ HIp323.out hl (wf_i64 _ (by omega) (by omega))).mono ?_
              rintro e w325 ⟨rfl, hb⟩
              rw [HE7.out, HO5.out]
              have HB326 := hid (below_to HB323.out hb)
              have HIp326 := hid (HIp323.out.below hb)
              have HKp326 := hid (HKp323.out.below hb HKp323.out.lt)
              clear tKp324
              clear hb HB323 HIp323 HKp323
              have tKp327 := HKp326.out.cell 0
              go_wp2_with fail
              refine (implAntichainRow_any _ us (C : Int) _ HIp326.out hl (wf_i64 _ (by omega) (by omega))).mono ?_
              rintro e w328 ⟨rfl, hb⟩
              rw [HE8.out, HO6.out]
              have HB329 := hid (below_to HB326.out hb)
              have HIp329 := hid (HIp326.out.below hb)
              have HKp329 := hid (HKp326.out.below hb HKp326.out.lt)
              clear tKp327
              clear hb HB326 HIp326 HKp326
              have tKp330 := HKp329.out.cell 0
              go_wp2_with fail
              refine (nIdeal_any _ us (N : Int) _ HIp329.out hl (wf_i64 _ (by omega) (by omega))).mono ?_
              rintro e w331 ⟨rfl, hb⟩
              rw [HAD.out]
              have HB332 := hid (below_to HB329.out hb)
              have HIp332 := hid (HIp329.out.below hb)
              have HKp332 := hid (HKp329.out.below hb HKp329.out.lt)
              clear tKp330
              clear hb HB329 HIp329 HKp329
              have tKp333 := HKp332.out.cell 0
              clear HE1 HE2 HE3 HE4 HE5 HE6 HE7 HE8 HO1 HO2 HO3 HO4 HO5 HO6 HO7 HAD HMs HPe HMi HOi hzM hM2 hP10 hN10 hK10 hC10 hz10
              clear HWs hl hl21 tKp333 HIp332 HKp332
              as_aux_lemma =>
                go_wp2_with fail
                refine (drawRowmotionTimes_any _ xs1 _ (bytes_at HY1.out HB332.out) HS.out.2).mono ?_
                rintro e w334 ⟨u, us, y, k, rfl, hwf, ho, hl21, hk1, hk2, hb⟩
                have HB := hid (below_to HB332.out hb)
                have HIp := hid ho.ints
                obtain ⟨pA, pc, rfl, -⟩ := ho.ints
                clear ho hb  HB332
                have HWs := hid hwf
                have HWk := hid (wf_i64 k (by omega) (by omega))
                have hl : us.length ≤ 1048576 := by omega
                clear hwf
                obtain ⟨B6, hB6⟩ : ∃ B6, w334.heap.size = B6 := ⟨_, rfl⟩
                go_wp2_with fail
                have HB335 := hid (below_alloc HB.out (.cells #[.slice pA us.length pc] 26))
                have HIp335 := hid (HIp.out.alloc (.cells #[.slice pA us.length pc] 26))
                have HKp335 : Hid (Blk (w334.alloc (.cells #[.slice pA us.length pc] 26)) B6 26 #[.slice pA us.length pc]) := hid (by rw [← hB6]; exact Blk.new w334 _ _)
                clear hB6 HB HIp
                have tKp336 := HKp335.out.cell 0
                cases hok : okRT us y k
                · as_aux_lemma =>
                    have HE : Hid (ansRT us y k = 0) := hid (ansRT_no hok)
                    have HOk := hid hok
                    clear hok
                    go_wp2_with fail
                    refine (implRowmotionTimes_any _ us y k _ HIp335.out hl HWs.out HWk.out).mono ?_
                    rintro e w337 ⟨rfl, hb⟩
                    rw [HE.out, HOk.out]
                    have HB338 := hid (below_to HB335.out hb)
                    have HIp338 := hid (HIp335.out.below hb)
                    have HKp338 := hid (HKp335.out.below hb HKp335.out.lt)
                    clear tKp336
                    clear hb HB335 HIp335 HKp335
                    have tKp339 := HKp338.out.cell 0
                    go_wp2_with fail
                    refine (specRowmotionTimes_any _ us y k _ HIp338.out hl HWs.out HWk.out).mono ?_
                    rintro e w340 ⟨rfl, hb⟩
                    rw [HE.out, HOk.out]
                    have HB341 := hid (below_to HB338.out hb)
                    have HIp341 := hid (HIp338.out.below hb)
                    have HKp341 := hid (HKp338.out.below hb HKp338.out.lt)
                    clear tKp339
                    clear hb HB338 HIp338 HKp338
                    have tKp342 := HKp341.out.cell 0
                    clear HE HOk HWs HWk hl hl21 hk1 hk2 tKp342 HIp341 HKp341
                    as_aux_lemma =>
                      go_wp2_with fail
                      refine (drawIsOrder_any _ xs1 _ (bytes_at HY1.out HB341.out) HS.out.2).mono ?_
                      rintro e w343 ⟨u, us, q, ys, rfl, ho, hl21, hoq, hy12, hb⟩
                      have HB := hid (below_to HB341.out hb)
                      have HIp := hid ho.ints
                      obtain ⟨pA, pc, rfl, -⟩ := ho.ints
                      have HIq := hid hoq.ints
                      clear ho hb hoq HB341
                      have hl : us.length ≤ 1048576 := by omega
                      have hm : ys.length ≤ 1048576 := by omega
                      obtain ⟨qA, qc, rfl, -⟩ := HIq.out
                      obtain ⟨o1, ho1⟩ : ∃ b, okOrder us ys = b := ⟨_, rfl⟩
                      obtain ⟨o2, ho2⟩ : ∃ b, good us = b := ⟨_, rfl⟩
                      have HO1 := hid ho1
                      have HO2 := hid ho2
                      clear ho1 ho2
                      obtain ⟨B6, hB6⟩ : ∃ B6, w343.heap.size = B6 := ⟨_, rfl⟩
                      go_wp2_with fail
                      have HB344 := hid (below_alloc HB.out (.cells #[.slice pA us.length pc] 26))
                      have HIp344 := hid (HIp.out.alloc (.cells #[.slice pA us.length pc] 26))
                      have HIq344 := hid (HIq.out.alloc (.cells #[.slice pA us.length pc] 26))
                      have HKp344 : Hid (Blk (w343.alloc (.cells #[.slice pA us.length pc] 26)) B6 26 #[.slice pA us.length pc]) := hid (by rw [← hB6]; exact Blk.new w343 _ _)
                      clear hB6 HB HIp HIq
                      have tKp345 := HKp344.out.cell 0
                      go_wp2_with fail
                      refine (implIsOrder_any _ us _ ys _ HIp344.out hl HIq344.out hm).mono ?_
                      rintro e w346 ⟨rfl, hb⟩
                      rw [HO1.out, HO2.out]
                      have HB347 := hid (below_to HB344.out hb)
                      have HIp347 := hid (HIp344.out.below hb)
                      have HIq347 := hid (HIq344.out.below hb)
                      have HKp347 := hid (HKp344.out.below hb HKp344.out.lt)
                      clear tKp345
                      clear hb HB344 HIp344 HIq344 HKp344
                      have tKp348 := HKp347.out.cell 0
                      go_wp2_with fail
                      refine (specIsOrder_any _ us _ ys _ HIp347.out hl HIq347.out hm).mono ?_
                      rintro e w349 ⟨rfl, hb⟩
                      rw [HO1.out, HO2.out]
                      have HB350 := hid (below_to HB347.out hb)
                      have HIp350 := hid (HIp347.out.below hb)
                      have HIq350 := hid (HIq347.out.below hb)
                      have HKp350 := hid (HKp347.out.below hb HKp347.out.lt)
                      clear tKp348
                      clear hb HB347 HIp347 HIq347 HKp347
                      have tKp351 := HKp350.out.cell 0
                      clear HO1 HO2 hl hm hl21 hy12 tKp351 HIp350 HIq350 HKp350
                      go_wp2_with fail
                      refine (drawCountOrders_any _ xs1 _ (bytes_at HY1.out HB350.out) HS.out.2).mono ?_
                      rintro e w352 ⟨u, us, rfl, ho, hl21, hb⟩
                      have HB := hid (below_to HB350.out hb)
                      have HIp := hid ho.ints
                      obtain ⟨pA, pc, rfl, -⟩ := ho.ints
                      clear ho hb  HB350
                      have hl : us.length ≤ 1048576 := by omega
                      obtain ⟨o3, ho3⟩ : ∃ b, good us = b := ⟨_, rfl⟩
                      obtain ⟨N, hN⟩ : ∃ N, ansN us ordersN = N := ⟨_, rfl⟩
                      have hN1 : o3 = true → 1 ≤ N := by rw [← ho3, ← hN]; exact ansN_some
                      have HO3 := hid ho3
                      have HN := hid hN
                      have HN1 := hid hN1
                      clear ho3 hN hN1
                      obtain ⟨B6, hB6⟩ : ∃ B6, w352.heap.size = B6 := ⟨_, rfl⟩
                      go_wp2_with fail
                      have HB353 := hid (below_alloc HB.out (.cells #[.slice pA us.length pc] 26))
                      have HIp353 := hid (HIp.out.alloc (.cells #[.slice pA us.length pc] 26))
                      have HKp353 : Hid (Blk (w352.alloc (.cells #[.slice pA us.length pc] 26)) B6 26 #[.slice pA us.length pc]) := hid (by rw [← hB6]; exact Blk.new w352 _ _)
                      clear hB6 HB HIp
                      have tKp354 := HKp353.out.cell 0
                      go_wp2_with fail
                      refine (implCountOrders_any _ us _ HIp353.out hl).mono ?_
                      rintro e w355 ⟨rfl, hb⟩
                      rw [HN.out, HO3.out]
                      have HB356 := hid (below_to HB353.out hb)
                      have HIp356 := hid (HIp353.out.below hb)
                      have HKp356 := hid (HKp353.out.below hb HKp353.out.lt)
                      clear tKp354
                      clear hb HB353 HIp353 HKp353
                      have tKp357 := HKp356.out.cell 0
                      go_wp2_with fail
                      refine (specCountOrders_any _ us _ HIp356.out hl).mono ?_
                      rintro e w358 ⟨rfl, hb⟩
                      rw [HN.out, HO3.out]
                      have HB359 := hid (below_to HB356.out hb)
                      have HIp359 := hid (HIp356.out.below hb)
                      have HKp359 := hid (HKp356.out.below hb HKp356.out.lt)
                      clear tKp357
                      clear hb HB356 HIp356 HKp356
                      have tKp360 := HKp359.out.cell 0
                      clear HO3 HN hl hl21 tKp360 HIp359 HKp359
                      go_wp2_with fail
                      refine (drawAntichainRow_any _ xs1 _ (bytes_at HY1.out HB359.out) HS.out.2).mono ?_
                      rintro e w361 ⟨u, us, s, rfl, hwf, ho, hl21, hb⟩
                      have HB := hid (below_to HB359.out hb)
                      have HIp := hid ho.ints
                      obtain ⟨pA, pc, rfl, -⟩ := ho.ints
                      clear ho hb  HB359
                      have HWs := hid hwf
                      have hl : us.length ≤ 1048576 := by omega
                      obtain ⟨o4, ho4⟩ : ∃ b, okAC us s = b := ⟨_, rfl⟩
                      obtain ⟨V, hV⟩ : ∃ N, ansAC us s = N := ⟨_, rfl⟩
                      have HO4 := hid ho4
                      have HV := hid hV
                      clear ho4 hV hwf
                      obtain ⟨B6, hB6⟩ : ∃ B6, w361.heap.size = B6 := ⟨_, rfl⟩
                      go_wp2_with fail
                      have HB362 := hid (below_alloc HB.out (.cells #[.slice pA us.length pc] 26))
                      have HIp362 := hid (HIp.out.alloc (.cells #[.slice pA us.length pc] 26))
                      have HKp362 : Hid (Blk (w361.alloc (.cells #[.slice pA us.length pc] 26)) B6 26 #[.slice pA us.length pc]) := hid (by rw [← hB6]; exact Blk.new w361 _ _)
                      clear hB6 HB HIp
                      have tKp363 := HKp362.out.cell 0
                      go_wp2_with fail
                      refine (implAntichainRow_any _ us s _ HIp362.out hl HWs.out).mono ?_
                      rintro e w364 ⟨rfl, hb⟩
                      rw [HV.out, HO4.out]
                      have HB365 := hid (below_to HB362.out hb)
                      have HIp365 := hid (HIp362.out.below hb)
                      have HKp365 := hid (HKp362.out.below hb HKp362.out.lt)
                      clear tKp363
                      clear hb HB362 HIp362 HKp362
                      have tKp366 := HKp365.out.cell 0
                      go_wp2_with fail
                      refine (specAntichainRow_any _ us s _ HIp365.out hl HWs.out).mono ?_
                      rintro e w367 ⟨rfl, hb⟩
                      rw [HV.out, HO4.out]
                      have HB368 := hid (below_to HB365.out hb)
                      have HIp368 := hid (HIp365.out.below hb)
                      have HKp368 := hid (HKp365.out.below hb HKp365.out.lt)
                      clear tKp366
                      clear hb HB365 HIp365 HKp365
                      have tKp369 := HKp368.out.cell 0
                      clear HO4 HV hl hl21 HWs tKp369 HIp368 HKp368
                      cases o3
                      · go_wp2
                        go_ret
                        exact ⟨ret_bool (by simp), HB368.out⟩
                      · have hN1 := HN1.out rfl
                        go_wp2
                        go_ret
                        exact ⟨ret_bool (by first | (simp; done) | (simp; omega)), HB368.out⟩
                · as_aux_lemma =>
                    obtain ⟨M, hM10, hM1, hM2, hM3⟩ := rt_back hok
                    have HE := hid hM1
                    have HE2 := hid hM2
                    have HO2 := hid hM3
                    have HOk := hid hok
                    have HWm := hid (wf_i64 (M : Int) (by omega) (by omega))
                    have HWn := hid (wf_i64 (-k) (by omega) (by omega))
                    clear hM1 hM2 hM3 hok
                    go_wp2_with fail
                    refine (implRowmotionTimes_any _ us y k _ HIp335.out hl HWs.out HWk.out).mono ?_
                    rintro e w370 ⟨rfl, hb⟩
                    rw [HE.out, HOk.out]
                    have HB371 := hid (below_to HB335.out hb)
                    have HIp371 := hid (HIp335.out.below hb)
                    have HKp371 := hid (HKp335.out.below hb HKp335.out.lt)
                    clear tKp336
                    clear hb HB335 HIp335 HKp335
                    have tKp372 := HKp371.out.cell 0
                    go_wp2_with fail
                    refine (specRowmotionTimes_any _ us y k _ HIp371.out hl HWs.out HWk.out).mono ?_
                    rintro e w373 ⟨rfl, hb⟩
                    rw [HE.out, HOk.out]
                    have HB374 := hid (below_to HB371.out hb)
                    have HIp374 := hid (HIp371.out.below hb)
                    have HKp374 := hid (HKp371.out.below hb HKp371.out.lt)
                    clear tKp372
                    clear hb HB371 HIp371 HKp371
                    have tKp375 := HKp374.out.cell 0
                    go_wp2_with fail
                    refine (implRowmotionTimes_any _ us (M : Int) (-k) _ HIp374.out hl HWm.out HWn.out).mono ?_
                    rintro e w376 ⟨rfl, hb⟩
                    rw [HE2.out, HO2.out]
                    have HB377 := hid (below_to HB374.out hb)
                    have HIp377 := hid (HIp374.out.below hb)
                    have HKp377 := hid (HKp374.out.below hb HKp374.out.lt)
                    clear tKp375
                    clear hb HB374 HIp374 HKp374
                    have tKp378 := HKp377.out.cell 0
                    clear HE2 HO2 HWm HWn hM10
                    clear HE HOk HWs HWk hl hl21 hk1 hk2 tKp378 HIp377 HKp377
                    as_aux_lemma =>
                      go_wp2_with fail
                      refine (drawIsOrder_any _ xs1 _ (bytes_at HY1.out HB377.out) HS.out.2).mono ?_
                      rintro e w379 ⟨u, us, q, ys, rfl, ho, hl21, hoq, hy12, hb⟩
                      have HB := hid (below_to HB377.out hb)
                      have HIp := hid ho.ints
                      obtain ⟨pA, pc, rfl, -⟩ := ho.ints
                      have HIq := hid hoq.ints
                      clear ho hb hoq HB377
                      have hl : us.length ≤ 1048576 := by omega
                      have hm : ys.length ≤ 1048576 := by omega
                      obtain ⟨qA, qc, rfl, -⟩ := HIq.out
                      obtain ⟨o1, ho1⟩ : ∃ b, okOrder us ys = b := ⟨_, rfl⟩
                      obtain ⟨o2, ho2⟩ : ∃ b, good us = b := ⟨_, rfl⟩
                      have HO1 := hid ho1
                      have HO2 := hid ho2
                      clear ho1 ho2
                      obtain ⟨B6, hB6⟩ : ∃ B6, w379.heap.size = B6 := ⟨_, rfl⟩
                      go_wp2_with fail
                      have HB380 := hid (below_alloc HB.out (.cells #[.slice pA us.length pc] 26))
                      have HIp380 := hid (HIp.out.alloc (.cells #[.slice pA us.length pc] 26))
                      have HIq380 := hid (HIq.out.alloc (.cells #[.slice pA us.length pc] 26))
                      have HKp380 : Hid (Blk (w379.alloc (.cells #[.slice pA us.length pc] 26)) B6 26 #[.slice pA us.length pc]) := hid (by rw [← hB6]; exact Blk.new w379 _ _)
                      clear hB6 HB HIp HIq
                      have tKp381 := HKp380.out.cell 0
                      go_wp2_with fail
                      refine (implIsOrder_any _ us _ ys _ HIp380.out hl HIq380.out hm).mono ?_
                      rintro e w382 ⟨rfl, hb⟩
                      rw [HO1.out, HO2.out]
                      have HB383 := hid (below_to HB380.out hb)
                      have HIp383 := hid (HIp380.out.below hb)
                      have HIq383 := hid (HIq380.out.below hb)
                      have HKp383 := hid (HKp380.out.below hb HKp380.out.lt)
                      clear tKp381
                      clear hb HB380 HIp380 HIq380 HKp380
                      have tKp384 := HKp383.out.cell 0
                      go_wp2_with fail
                      refine (specIsOrder_any _ us _ ys _ HIp383.out hl HIq383.out hm).mono ?_
                      rintro e w385 ⟨rfl, hb⟩
                      rw [HO1.out, HO2.out]
                      have HB386 := hid (below_to HB383.out hb)
                      have HIp386 := hid (HIp383.out.below hb)
                      have HIq386 := hid (HIq383.out.below hb)
                      have HKp386 := hid (HKp383.out.below hb HKp383.out.lt)
                      clear tKp384
                      clear hb HB383 HIp383 HIq383 HKp383
                      have tKp387 := HKp386.out.cell 0
                      clear HO1 HO2 hl hm hl21 hy12 tKp387 HIp386 HIq386 HKp386
                      go_wp2_with fail
                      refine (drawCountOrders_any _ xs1 _ (bytes_at HY1.out HB386.out) HS.out.2).mono ?_
                      rintro e w388 ⟨u, us, rfl, ho, hl21, hb⟩
                      have HB := hid (below_to HB386.out hb)
                      have HIp := hid ho.ints
                      obtain ⟨pA, pc, rfl, -⟩ := ho.ints
                      clear ho hb  HB386
                      have hl : us.length ≤ 1048576 := by omega
                      obtain ⟨o3, ho3⟩ : ∃ b, good us = b := ⟨_, rfl⟩
                      obtain ⟨N, hN⟩ : ∃ N, ansN us ordersN = N := ⟨_, rfl⟩
                      have hN1 : o3 = true → 1 ≤ N := by rw [← ho3, ← hN]; exact ansN_some
                      have HO3 := hid ho3
                      have HN := hid hN
                      have HN1 := hid hN1
                      clear ho3 hN hN1
                      obtain ⟨B6, hB6⟩ : ∃ B6, w388.heap.size = B6 := ⟨_, rfl⟩
                      go_wp2_with fail
                      have HB389 := hid (below_alloc HB.out (.cells #[.slice pA us.length pc] 26))
                      have HIp389 := hid (HIp.out.alloc (.cells #[.slice pA us.length pc] 26))
                      have HKp389 : Hid (Blk (w388.alloc (.cells #[.slice pA us.length pc] 26)) B6 26 #[.slice pA us.length pc]) := hid (by rw [← hB6]; exact Blk.new w388 _ _)
                      clear hB6 HB HIp
                      have tKp390 := HKp389.out.cell 0
                      go_wp2_with fail
                      refine (implCountOrders_any _ us _ HIp389.out hl).mono ?_
                      rintro e w391 ⟨rfl, hb⟩
                      rw [HN.out, HO3.out]
                      have HB392 := hid (below_to HB389.out hb)
                      have HIp392 := hid (HIp389.out.below hb)
                      have HKp392 := hid (HKp389.out.below hb HKp389.out.lt)
                      clear tKp390
                      clear hb HB389 HIp389 HKp389
                      have tKp393 := HKp392.out.cell 0
                      go_wp2_with fail
                      refine (specCountOrders_any _ us _ HIp392.out hl).mono ?_
                      rintro e w394 ⟨rfl, hb⟩
                      rw [HN.out, HO3.out]
                      have HB395 := hid (below_to HB392.out hb)
                      have HIp395 := hid (HIp392.out.below hb)
                      have HKp395 := hid (HKp392.out.below hb HKp392.out.lt)
                      clear tKp393
                      clear hb HB392 HIp392 HKp392
                      have tKp396 := HKp395.out.cell 0
                      clear HO3 HN hl hl21 tKp396 HIp395 HKp395
                      go_wp2_with fail
                      refine (drawAntichainRow_any _ xs1 _ (bytes_at HY1.out HB395.out) HS.out.2).mono ?_
                      rintro e w397 ⟨u, us, s, rfl, hwf, ho, hl21, hb⟩
                      have HB := hid (below_to HB395.out hb)
                      have HIp := hid ho.ints
                      obtain ⟨pA, pc, rfl, -⟩ := ho.ints
                      clear ho hb  HB395
                      have HWs := hid hwf
                      have hl : us.length ≤ 1048576 := by omega
                      obtain ⟨o4, ho4⟩ : ∃ b, okAC us s = b := ⟨_, rfl⟩
                      obtain ⟨V, hV⟩ : ∃ N, ansAC us s = N := ⟨_, rfl⟩
                      have HO4 := hid ho4
                      have HV := hid hV
                      clear ho4 hV hwf
                      obtain ⟨B6, hB6⟩ : ∃ B6, w397.heap.size = B6 := ⟨_, rfl⟩
                      go_wp2_with fail
                      have HB398 := hid (below_alloc HB.out (.cells #[.slice pA us.length pc] 26))
                      have HIp398 := hid (HIp.out.alloc (.cells #[.slice pA us.length pc] 26))
                      have HKp398 : Hid (Blk (w397.alloc (.cells #[.slice pA us.length pc] 26)) B6 26 #[.slice pA us.length pc]) := hid (by rw [← hB6]; exact Blk.new w397 _ _)
                      clear hB6 HB HIp
                      have tKp399 := HKp398.out.cell 0
                      go_wp2_with fail
                      refine (implAntichainRow_any _ us s _ HIp398.out hl HWs.out).mono ?_
                      rintro e w400 ⟨rfl, hb⟩
                      rw [HV.out, HO4.out]
                      have HB401 := hid (below_to HB398.out hb)
                      have HIp401 := hid (HIp398.out.below hb)
                      have HKp401 := hid (HKp398.out.below hb HKp398.out.lt)
                      clear tKp399
                      clear hb HB398 HIp398 HKp398
                      have tKp402 := HKp401.out.cell 0
                      go_wp2_with fail
                      refine (specAntichainRow_any _ us s _ HIp401.out hl HWs.out).mono ?_
                      rintro e w403 ⟨rfl, hb⟩
                      rw [HV.out, HO4.out]
                      have HB404 := hid (below_to HB401.out hb)
                      have HIp404 := hid (HIp401.out.below hb)
                      have HKp404 := hid (HKp401.out.below hb HKp401.out.lt)
                      clear tKp402
                      clear hb HB401 HIp401 HKp401
                      have tKp405 := HKp404.out.cell 0
                      clear HO4 HV hl hl21 HWs tKp405 HIp404 HKp404
                      cases o3
                      · go_wp2
                        go_ret
                        exact ⟨ret_bool (by simp), HB404.out⟩
                      · have hN1 := HN1.out rfl
                        go_wp2
                        go_ret
                        exact ⟨ret_bool (by first | (simp; done) | (simp; omega)), HB404.out⟩
end Go.Proofs.Ytdemikjaghegnaa.lawRowmotionByToggles
