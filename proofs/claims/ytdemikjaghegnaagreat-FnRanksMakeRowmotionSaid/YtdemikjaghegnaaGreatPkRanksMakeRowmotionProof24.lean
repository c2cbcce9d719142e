/- Texts RanksMakeRowmotionLaw, one behind the other. -/
import Derived.BigQuiet
import Derived.Test.YtdemikjaghegnaaGreatPkRanksMakeRowmotionProof08
import Derived.Test.YtdemikjaghegnaaGreatPkRanksMakeRowmotionProof11
import Derived.Test.YtdemikjaghegnaaGreatPkRanksMakeRowmotionProof23
/- RanksMakeRowmotion: the walk of the law (made by tools/genrr.py). -/
namespace Go.Proofs.YtdemikjaghegnaaGreat
open Go.RowKit Go.WideShapes Go.ChangeShapes
set_option linter.unusedVariables false
theorem bytes_at {w W : World} {v : Value} {bs : List Int} (h : BytesB w w.heap.size v bs) (hb : Below w.heap.size w W) : BytesB W W.heap.size v bs := (h.below hb).up hb.size
theorem ints_cell {w : World} {b o n c : Nat} {L : List Int} (h : Ints w (.slice (some ⟨b, o, none⟩) n c) L) {j : Nat} (hj : j < L.length) : w.cell? ⟨b, o + j, none⟩ = some (.int .i64 (L.getD j 0)) := by
  obtain ⟨A, c2, e, hA⟩ := h
  injection e with e1 e2 e3
  subst e1
  obtain ⟨b2, o2, e4, -, hc⟩ := hA (by intro h; simp [h] at hj)
  cases e4
  exact hc j hj
theorem ints_addr {w : World} {A : Option Addr} {n c : Nat} {L : List Int} (h : Ints w (.slice A n c) L) (h0 : L ≠ []) : ∃ b o, A = some ⟨b, o, none⟩ := by
  obtain ⟨A2, c2, e, hA⟩ := h
  injection e with e1 e2 e3
  obtain ⟨b, o, e4, -, -⟩ := hA h0
  exact ⟨b, o, by rw [e1, e4]⟩
end Go.Proofs.YtdemikjaghegnaaGreat
namespace Go.Proofs.YtdemikjaghegnaaGreat.lawRanksMakeRowmotion
open Go.RowKit Go.WideShapes Go.ChangeShapes
set_option linter.unusedVariables false
set_option maxRecDepth 100000 in
set_option maxHeartbeats 6400000 in
theorem walk (v0 : Value) (xs0 : List Int) (v1 : Value) (xs1 : List Int) (w : World) (hb0 : BytesB w w.heap.size v0 xs0) (hl0 : xs0.length ≤ maxLen) (hb1 : BytesB w w.heap.size v1 xs1) (hl1 : xs1.length ≤ maxLen) :
    Calls Tryz.prog 3 #[v0, v1] w fun (r : Ending) w' => r = .returned (.bool true) ∧ Below w.heap.size w w' := by
  have HY0 := hid hb0
  have HY1 := hid hb1
  obtain ⟨A0, c0, rfl, -⟩ := hb0
  obtain ⟨A1, c1, rfl, -⟩ := hb1
  have HL0 := hid hl0
  have HL1 := hid hl1
  unfold maxLen at hl0 hl1
  go_enter Tryz.func3, Tryz.ntmps3
  by_cases hbig : 1048576 < xs0.length + xs1.length
  · go_wp2_with fail
    refine (big_any _ _ xs0 xs1 _ HY0.out HY1.out HL0.out HL1.out).mono ?_
    rintro e w1 ⟨rfl, rfl⟩
    rw [decide_eq_true hbig]
    go_wp2
    go_ret
    exact ⟨rfl, Below.refl _ _⟩
  · go_wp2_with fail
    refine (big_any _ _ xs0 xs1 _ HY0.out HY1.out HL0.out HL1.out).mono ?_
    rintro e w1 ⟨rfl, rfl⟩
    rw [decide_eq_false hbig]
    have HS := hid (show xs0.length ≤ 1048576 ∧ xs1.length ≤ 1048576 by omega)
    clear hbig hl0 hl1
    have HB0 : Hid (Below w.heap.size w w) := hid (Below.refl _ _)
    go_wp2_with fail
    refine (drawRowByRanks_any _ xs0 _ (bytes_at HY0.out HB0.out) HS.out.1).mono ?_
    rintro e w1 ⟨u, us, s, rfl, hwf, ho, hl21, hb⟩
    have HB := hid (below_to HB0.out hb)
    have HIp := hid ho.ints
    obtain ⟨pA, pc, rfl, -⟩ := ho.ints
    clear ho hb  HB0
    have HWs := hid hwf
    have hl : us.length ≤ 1048576 := by omega
    clear hwf
    obtain ⟨B5, hB5⟩ : ∃ B5, w1.heap.size = B5 := ⟨_, rfl⟩
    go_wp2_with fail
    have HB2 := hid (below_alloc HB.out (.cells #[.slice pA us.length pc] 26))
    have HIp2 := hid (HIp.out.alloc (.cells #[.slice pA us.length pc] 26))
    have HKp2 : Hid (Blk (w1.alloc (.cells #[.slice pA us.length pc] 26)) B5 26 #[.slice pA us.length pc]) := hid (by rw [← hB5]; exact Blk.new w1 _ _)
    clear hB5 HB HIp
    have tKp3 := HKp2.out.cell 0
    cases hok : okRI us s
    · as_aux_lemma =>
        have HE : Hid (∀ f, ansSW f us s = 0) := hid (fun f => ansSW_no hok)
        have HO1 := hid hok
        clear hok
        go_wp2_with fail
        refine (implRowByRanks_any _ us s _ HIp2.out hl HWs.out).mono ?_
        rintro e w4 ⟨rfl, hb⟩
        rw [HE.out, HO1.out]
        have HB5 := hid (below_to HB2.out hb)
        have HIp5 := hid (HIp2.out.below hb)
        have HKp5 := hid (HKp2.out.below hb HKp2.out.lt)
        clear tKp3
        clear hb HB2 HIp2 HKp2
        have tKp6 := HKp5.out.cell 0
        go_wp2_with fail
        refine (specRowByRanks_any _ us s _ HIp5.out hl HWs.out).mono ?_
        rintro e w7 ⟨rfl, hb⟩
        rw [HE.out, HO1.out]
        have HB8 := hid (below_to HB5.out hb)
        have HIp8 := hid (HIp5.out.below hb)
        have HKp8 := hid (HKp5.out.below hb HKp5.out.lt)
        clear tKp6
        clear hb HB5 HIp5 HKp5
        have tKp9 := HKp8.out.cell 0
        clear HO1 HWs hl hl21 HE tKp9 HIp8 HKp8
        as_aux_lemma =>
          go_wp2_with fail
          refine (drawToggleRank_any _ xs1 _ (bytes_at HY1.out HB8.out) HS.out.2).mono ?_
          rintro e w10 ⟨u, us, s, d, rfl, hwf, ho, hl21, hd1, hd2, hb⟩
          have HB := hid (below_to HB8.out hb)
          have HIp := hid ho.ints
          obtain ⟨pA, pc, rfl, -⟩ := ho.ints
          clear ho hb  HB8
          have HWs := hid hwf
          have hl : us.length ≤ 1048576 := by omega
          have HWd := hid (wf_i64 d (by omega) (by omega))
          clear hwf
          obtain ⟨o1, ho1⟩ : ∃ x, okTR us [d] s = x := ⟨_, rfl⟩
          have Ho1 := hid ho1
          clear ho1
          obtain ⟨v1, hv1⟩ : ∃ x, ansTR us [d] s = x := ⟨_, rfl⟩
          have Hv1 := hid hv1
          clear hv1
          obtain ⟨B6, hB6⟩ : ∃ B6, w10.heap.size = B6 := ⟨_, rfl⟩
          go_wp2_with fail
          have HB11 := hid (below_alloc HB.out (.cells #[.slice pA us.length pc] 26))
          have HIp11 := hid (HIp.out.alloc (.cells #[.slice pA us.length pc] 26))
          have HKp11 : Hid (Blk (w10.alloc (.cells #[.slice pA us.length pc] 26)) B6 26 #[.slice pA us.length pc]) := hid (by rw [← hB6]; exact Blk.new w10 _ _)
          clear hB6 HB HIp
          have tKp12 := HKp11.out.cell 0
          go_wp2_with fail
          refine (implToggleRank_any _ us s d _ HIp11.out hl HWs.out HWd.out).mono ?_
          rintro e w13 ⟨rfl, hb⟩
          rw [Hv1.out, Ho1.out]
          have HB14 := hid (below_to HB11.out hb)
          have HIp14 := hid (HIp11.out.below hb)
          have HKp14 := hid (HKp11.out.below hb HKp11.out.lt)
          clear tKp12
          clear hb HB11 HIp11 HKp11
          have tKp15 := HKp14.out.cell 0
          go_wp2_with fail
          refine (specToggleRank_any _ us s d _ HIp14.out hl HWs.out HWd.out).mono ?_
          rintro e w16 ⟨rfl, hb⟩
          rw [Hv1.out, Ho1.out]
          have HB17 := hid (below_to HB14.out hb)
          have HIp17 := hid (HIp14.out.below hb)
          have HKp17 := hid (HKp14.out.below hb HKp14.out.lt)
          clear tKp15
          clear hb HB14 HIp14 HKp14
          have tKp18 := HKp17.out.cell 0
          clear HWs HWd hl hl21 Ho1 Hv1 hd1 hd2 tKp18 HIp17 HKp17
          go_wp2_with fail
          refine (drawToggleRanks_any _ xs1 _ (bytes_at HY1.out HB17.out) HS.out.2).mono ?_
          rintro e w19 ⟨u, us, s, q, ys, rfl, hwf, ho, hl21, hoq, hy, hb⟩
          have HB := hid (below_to HB17.out hb)
          have HIp := hid ho.ints
          obtain ⟨pA, pc, rfl, -⟩ := ho.ints
          have HIq := hid hoq.ints
          clear ho hb hoq HB17
          have HWs := hid hwf
          have hl : us.length ≤ 1048576 := by omega
          have hm : ys.length ≤ 1048576 := by omega
          obtain ⟨qA, qc, rfl, -⟩ := HIq.out
          clear hwf
          obtain ⟨o2, ho2⟩ : ∃ x, okTR us ys s = x := ⟨_, rfl⟩
          have Ho2 := hid ho2
          clear ho2
          obtain ⟨v2, hv2⟩ : ∃ x, ansTR us ys s = x := ⟨_, rfl⟩
          have Hv2 := hid hv2
          clear hv2
          obtain ⟨B7, hB7⟩ : ∃ B7, w19.heap.size = B7 := ⟨_, rfl⟩
          go_wp2_with fail
          have HB20 := hid (below_alloc HB.out (.cells #[.slice pA us.length pc] 26))
          have HIp20 := hid (HIp.out.alloc (.cells #[.slice pA us.length pc] 26))
          have HIq20 := hid (HIq.out.alloc (.cells #[.slice pA us.length pc] 26))
          have HKp20 : Hid (Blk (w19.alloc (.cells #[.slice pA us.length pc] 26)) B7 26 #[.slice pA us.length pc]) := hid (by rw [← hB7]; exact Blk.new w19 _ _)
          clear hB7 HB HIp HIq
          have tKp21 := HKp20.out.cell 0
          go_wp2_with fail
          refine (implToggleRanks_any _ us s _ ys _ HIp20.out hl HWs.out HIq20.out hm).mono ?_
          rintro e w22 ⟨rfl, hb⟩
          rw [Hv2.out, Ho2.out]
          have HB23 := hid (below_to HB20.out hb)
          have HIp23 := hid (HIp20.out.below hb)
          have HIq23 := hid (HIq20.out.below hb)
          have HKp23 := hid (HKp20.out.below hb HKp20.out.lt)
          clear tKp21
          clear hb HB20 HIp20 HIq20 HKp20
          have tKp24 := HKp23.out.cell 0
          go_wp2_with fail
          refine (specToggleRanks_any _ us s _ ys _ HIp23.out hl HWs.out HIq23.out hm).mono ?_
          rintro e w25 ⟨rfl, hb⟩
          rw [Hv2.out, Ho2.out]
          have HB26 := hid (below_to HB23.out hb)
          have HIp26 := hid (HIp23.out.below hb)
          have HIq26 := hid (HIq23.out.below hb)
          have HKp26 := hid (HKp23.out.below hb HKp23.out.lt)
          clear tKp24
          clear hb HB23 HIp23 HIq23 HKp23
          have tKp27 := HKp26.out.cell 0
          clear HWs hl hm hl21 hy Ho2 Hv2 tKp27 HIp26 HIq26 HKp26
          go_wp2_with fail
          refine (drawRanksOf_any _ xs1 _ (bytes_at HY1.out HB26.out) HS.out.2).mono ?_
          rintro e w28 ⟨u, us, rfl, ho, hl21, hb⟩
          have HB := hid (below_to HB26.out hb)
          have HIp := hid ho.ints
          obtain ⟨pA, pc, rfl, -⟩ := ho.ints
          clear ho hb  HB26
          have hl : us.length ≤ 1048576 := by omega
          obtain ⟨o3, ho3⟩ : ∃ x, okRk us = x := ⟨_, rfl⟩
          have Ho3 := hid ho3
          clear ho3
          obtain ⟨B8, hB8⟩ : ∃ B8, w28.heap.size = B8 := ⟨_, rfl⟩
          go_wp2_with fail
          have HB29 := hid (below_alloc HB.out (.cells #[.slice pA us.length pc] 26))
          have HIp29 := hid (HIp.out.alloc (.cells #[.slice pA us.length pc] 26))
          have HKp29 : Hid (Blk (w28.alloc (.cells #[.slice pA us.length pc] 26)) B8 26 #[.slice pA us.length pc]) := hid (by rw [← hB8]; exact Blk.new w28 _ _)
          clear hB8 HB HIp
          have tKp30 := HKp29.out.cell 0
          go_wp2_with fail
          refine (implRanksOf_any _ us _ HIp29.out hl).mono ?_
          rintro e w31 ⟨ua, rfl, ho, hla, hb⟩
          rw [Ho3.out]
          have HIa := hid ho.ints
          obtain ⟨Aa, ca, rfl, -⟩ := ho.ints
          obtain ⟨na, hna⟩ : ∃ n, (ansRO us).length = n := ⟨_, rfl⟩
          rw [hna] at HIa hla ⊢
          have HNa := hid hna
          clear ho hna
          have HB32 := hid (below_to HB29.out hb)
          have HIp32 := hid (HIp29.out.below hb)
          have HKp32 := hid (HKp29.out.below hb HKp29.out.lt)
          clear tKp30
          clear hb HB29 HIp29 HKp29
          have tKp33 := HKp32.out.cell 0
          go_wp2_with fail
          refine (specRanksOf_any _ us _ HIp32.out hl).mono ?_
          rintro e w34 ⟨ub, rfl, ho, hlb, hb⟩
          rw [Ho3.out]
          have HIb := hid ho.ints
          obtain ⟨Ab, cb, rfl, -⟩ := ho.ints
          obtain ⟨nb, hnb⟩ : ∃ n, (ansRO us).length = n := ⟨_, rfl⟩
          rw [hnb] at HIb hlb ⊢
          have HNb := hid hnb
          clear ho hnb
          have HB35 := hid (below_to HB32.out hb)
          have HIp35 := hid (HIp32.out.below hb)
          have HKp35 := hid (HKp32.out.below hb HKp32.out.lt)
          have HIa35 := hid (HIa.out.below hb)
          clear tKp33
          clear hb HB32 HIp32 HKp32 HIa
          have tKp36 := HKp35.out.cell 0
          go_wp2_with fail
          refine (nSame_any _ _ (ansRO us) _ HIa35.out HIb.out (by rw [HNa.out]; exact hla)).mono ?_
          rintro e w37 ⟨rfl, hb⟩
          have HB38 := hid (below_to HB35.out hb)
          have HIp38 := hid (HIp35.out.below hb)
          have HKp38 := hid (HKp35.out.below hb HKp35.out.lt)
          have HIa38 := hid (HIa35.out.below hb)
          have HIb38 := hid (HIb.out.below hb)
          clear tKp36
          clear hb HB35 HIp35 HKp35 HIa35 HIb
          have tKp39 := HKp38.out.cell 0
          clear HNa HNb hla hlb hl hl21 Ho3 tKp39 HIp38 HKp38 HIa38 HIb38
          as_aux_lemma =>
            go_wp2_with fail
            refine (drawGyrateIdeal_any _ xs1 _ (bytes_at HY1.out HB38.out) HS.out.2).mono ?_
            rintro e w40 ⟨u, us, s, rfl, hwf, ho, hl21, hb⟩
            have HB := hid (below_to HB38.out hb)
            have HIp := hid ho.ints
            obtain ⟨pA, pc, rfl, -⟩ := ho.ints
            clear ho hb  HB38
            have HWs := hid hwf
            have hl : us.length ≤ 1048576 := by omega
            clear hwf
            obtain ⟨B6, hB6⟩ : ∃ B6, w40.heap.size = B6 := ⟨_, rfl⟩
            go_wp2_with fail
            have HB41 := hid (below_alloc HB.out (.cells #[.slice pA us.length pc] 26))
            have HIp41 := hid (HIp.out.alloc (.cells #[.slice pA us.length pc] 26))
            have HKp41 : Hid (Blk (w40.alloc (.cells #[.slice pA us.length pc] 26)) B6 26 #[.slice pA us.length pc]) := hid (by rw [← hB6]; exact Blk.new w40 _ _)
            clear hB6 HB HIp
            have tKp42 := HKp41.out.cell 0
            cases hok : okRI us s
            · as_aux_lemma =>
                have HE1 : Hid (ansSW wGyr us s = 0) := hid (ansSW_no hok)
                have HE2 : Hid (ansGB us s = 0) := hid (ansGB_no hok)
                have HO1 := hid hok
                clear hok
                go_wp2_with fail
                refine (implGyrateIdeal_any _ us s _ HIp41.out hl HWs.out).mono ?_
                rintro e w43 ⟨rfl, hb⟩
                rw [HE1.out, HO1.out]
                have HB44 := hid (below_to HB41.out hb)
                have HIp44 := hid (HIp41.out.below hb)
                have HKp44 := hid (HKp41.out.below hb HKp41.out.lt)
                clear tKp42
                clear hb HB41 HIp41 HKp41
                have tKp45 := HKp44.out.cell 0
                go_wp2_with fail
                refine (specGyrateIdeal_any _ us s _ HIp44.out hl HWs.out).mono ?_
                rintro e w46 ⟨rfl, hb⟩
                rw [HE1.out, HO1.out]
                have HB47 := hid (below_to HB44.out hb)
                have HIp47 := hid (HIp44.out.below hb)
                have HKp47 := hid (HKp44.out.below hb HKp44.out.lt)
                clear tKp45
                clear hb HB44 HIp44 HKp44
                have tKp48 := HKp47.out.cell 0
                go_wp2_with fail
                refine (implGyrateBack_any _ us s _ HIp47.out hl HWs.out).mono ?_
                rintro e w49 ⟨rfl, hb⟩
                rw [HE2.out, HO1.out]
                have HB50 := hid (below_to HB47.out hb)
                have HIp50 := hid (HIp47.out.below hb)
                have HKp50 := hid (HKp47.out.below hb HKp47.out.lt)
                clear tKp48
                clear hb HB47 HIp47 HKp47
                have tKp51 := HKp50.out.cell 0
                go_wp2_with fail
                refine (specGyrateBack_any _ us s _ HIp50.out hl HWs.out).mono ?_
                rintro e w52 ⟨rfl, hb⟩
                rw [HE2.out, HO1.out]
                have HB53 := hid (below_to HB50.out hb)
                have HIp53 := hid (HIp50.out.below hb)
                have HKp53 := hid (HKp50.out.below hb HKp50.out.lt)
                clear tKp51
                clear hb HB50 HIp50 HKp50
                have tKp54 := HKp53.out.cell 0
                clear HO1 HE1 HE2 HWs hl hl21 tKp54 HIp53 HKp53
                as_aux_lemma =>
                  go_wp2_with fail
                  refine (drawGyrationLengths_any _ xs1 _ (bytes_at HY1.out HB53.out) HS.out.2).mono ?_
                  rintro e w55 ⟨u, us, rfl, ho, hl21, hb⟩
                  have HB := hid (below_to HB53.out hb)
                  have HIp := hid ho.ints
                  obtain ⟨pA, pc, rfl, -⟩ := ho.ints
                  clear ho hb  HB53
                  have hl : us.length ≤ 1048576 := by omega
                  obtain ⟨B6, hB6⟩ : ∃ B6, w55.heap.size = B6 := ⟨_, rfl⟩
                  go_wp2_with fail
                  have HB56 := hid (below_alloc HB.out (.cells #[.slice pA us.length pc] 26))
                  have HIp56 := hid (HIp.out.alloc (.cells #[.slice pA us.length pc] 26))
                  have HKp56 : Hid (Blk (w55.alloc (.cells #[.slice pA us.length pc] 26)) B6 26 #[.slice pA us.length pc]) := hid (by rw [← hB6]; exact Blk.new w55 _ _)
                  clear hB6 HB HIp
                  have tKp57 := HKp56.out.cell 0
                  cases hok : okRk us
                  · as_aux_lemma =>
                      have HK := hid hok
                      clear hok
                      go_wp2_with fail
                      refine (implGyrationLengths_any _ us _ HIp56.out hl).mono ?_
                      rintro e w58 ⟨ua, rfl, ho, hla, hb⟩
                      rw [HK.out]
                      have HIa := hid ho.ints
                      obtain ⟨Aa, ca, rfl, -⟩ := ho.ints
                      obtain ⟨na, hna⟩ : ∃ n, (ansGL us).length = n := ⟨_, rfl⟩
                      rw [hna] at HIa hla ⊢
                      have HNa := hid hna
                      clear ho hna
                      have HB59 := hid (below_to HB56.out hb)
                      have HIp59 := hid (HIp56.out.below hb)
                      have HKp59 := hid (HKp56.out.below hb HKp56.out.lt)
                      clear tKp57
                      clear hb HB56 HIp56 HKp56
                      have tKp60 := HKp59.out.cell 0
                      go_wp2_with fail
                      refine (specGyrationLengths_any _ us _ HIp59.out hl).mono ?_
                      rintro e w61 ⟨ub, rfl, ho, hlb, hb⟩
                      rw [HK.out]
                      have HIb := hid ho.ints
                      obtain ⟨Ab, cb, rfl, -⟩ := ho.ints
                      obtain ⟨nb, hnb⟩ : ∃ n, (ansGL us).length = n := ⟨_, rfl⟩
                      rw [hnb] at HIb hlb ⊢
                      have HNb := hid hnb
                      clear ho hnb
                      have HB62 := hid (below_to HB59.out hb)
                      have HIp62 := hid (HIp59.out.below hb)
                      have HKp62 := hid (HKp59.out.below hb HKp59.out.lt)
                      have HIa62 := hid (HIa.out.below hb)
                      clear tKp60
                      clear hb HB59 HIp59 HKp59 HIa
                      have tKp63 := HKp62.out.cell 0
                      go_wp2_with fail
                      refine (nSame_any _ _ (ansGL us) _ HIa62.out HIb.out (by rw [HNa.out]; exact hla)).mono ?_
                      rintro e w64 ⟨rfl, hb⟩
                      have HB65 := hid (below_to HB62.out hb)
                      have HIp65 := hid (HIp62.out.below hb)
                      have HKp65 := hid (HKp62.out.below hb HKp62.out.lt)
                      have HIa65 := hid (HIa62.out.below hb)
                      have HIb65 := hid (HIb.out.below hb)
                      clear tKp63
                      clear hb HB62 HIp62 HKp62 HIa62 HIb
                      have tKp66 := HKp65.out.cell 0
                      clear tKp66
                      go_wp2
                      go_ret
                      exact ⟨ret_bool (by simp), HB65.out⟩
                  · as_aux_lemma =>
                      have HK := hid hok
                      have HL := hid (lenFacts hok)
                      have HG := hid (okRk_good hok).1
                      clear hok
                      go_wp2_with fail
                      refine (implGyrationLengths_any _ us _ HIp56.out hl).mono ?_
                      rintro e w67 ⟨ua, rfl, ho, hla, hb⟩
                      rw [HK.out]
                      have HIa := hid ho.ints
                      obtain ⟨Aa, ca, rfl, -⟩ := ho.ints
                      obtain ⟨na, hna⟩ : ∃ n, (ansGL us).length = n := ⟨_, rfl⟩
                      rw [hna] at HIa hla ⊢
                      have HNa := hid hna
                      clear ho hna
                      have HB68 := hid (below_to HB56.out hb)
                      have HIp68 := hid (HIp56.out.below hb)
                      have HKp68 := hid (HKp56.out.below hb HKp56.out.lt)
                      clear tKp57
                      clear hb HB56 HIp56 HKp56
                      have tKp69 := HKp68.out.cell 0
                      go_wp2_with fail
                      refine (specGyrationLengths_any _ us _ HIp68.out hl).mono ?_
                      rintro e w70 ⟨ub, rfl, ho, hlb, hb⟩
                      rw [HK.out]
                      have HIb := hid ho.ints
                      obtain ⟨Ab, cb, rfl, -⟩ := ho.ints
                      obtain ⟨nb, hnb⟩ : ∃ n, (ansGL us).length = n := ⟨_, rfl⟩
                      rw [hnb] at HIb hlb ⊢
                      have HNb := hid hnb
                      clear ho hnb
                      have HB71 := hid (below_to HB68.out hb)
                      have HIp71 := hid (HIp68.out.below hb)
                      have HKp71 := hid (HKp68.out.below hb HKp68.out.lt)
                      have HIa71 := hid (HIa.out.below hb)
                      clear tKp69
                      clear hb HB68 HIp68 HKp68 HIa
                      have tKp72 := HKp71.out.cell 0
                      go_wp2_with fail
                      refine (nSame_any _ _ (ansGL us) _ HIa71.out HIb.out (by rw [HNa.out]; exact hla)).mono ?_
                      rintro e w73 ⟨rfl, hb⟩
                      have HB74 := hid (below_to HB71.out hb)
                      have HIp74 := hid (HIp71.out.below hb)
                      have HKp74 := hid (HKp71.out.below hb HKp71.out.lt)
                      have HIa74 := hid (HIa71.out.below hb)
                      have HIb74 := hid (HIb.out.below hb)
                      clear tKp72
                      clear hb HB71 HIp71 HKp71 HIa71 HIb
                      have tKp75 := HKp74.out.cell 0
                      go_wp2_with fail
                      refine (implSortedLengths_any _ us _ HIp74.out hl).mono ?_
                      rintro e w76 ⟨uc, rfl, ho, hlc, hb⟩
                      rw [HG.out]
                      have HIc := hid ho.ints
                      obtain ⟨Ac, cc, rfl, -⟩ := ho.ints
                      obtain ⟨nc, hnc⟩ : ∃ n, (ansSL us).length = n := ⟨_, rfl⟩
                      rw [hnc] at HIc hlc ⊢
                      have HNc := hid hnc
                      clear ho hnc
                      have HB77 := hid (below_to HB74.out hb)
                      have HIp77 := hid (HIp74.out.below hb)
                      have HKp77 := hid (HKp74.out.below hb HKp74.out.lt)
                      have HIa77 := hid (HIa74.out.below hb)
                      have HIb77 := hid (HIb74.out.below hb)
                      clear tKp75
                      clear hb HB74 HIp74 HKp74 HIa74 HIb74
                      have tKp78 := HKp77.out.cell 0
                      have HIs := hid (show Ints _ _ (ansGL us) from by rw [HL.out]; exact HIc.out)
                      go_wp2_with fail
                      refine (nSame_any _ _ (ansGL us) _ HIs.out HIa77.out (by rw [HNa.out]; exact hla)).mono ?_
                      rintro e w79 ⟨rfl, hb⟩
                      have HB80 := hid (below_to HB77.out hb)
                      have HIp80 := hid (HIp77.out.below hb)
                      have HKp80 := hid (HKp77.out.below hb HKp77.out.lt)
                      have HIa80 := hid (HIa77.out.below hb)
                      have HIb80 := hid (HIb77.out.below hb)
                      have HIc80 := hid (HIc.out.below hb)
                      have HIs80 := hid (HIs.out.below hb)
                      clear tKp78
                      clear hb HB77 HIp77 HKp77 HIa77 HIb77 HIc HIs
                      have tKp81 := HKp80.out.cell 0
                      clear tKp81
                      go_wp2
                      go_ret
                      exact ⟨ret_bool (by simp), HB80.out⟩
            · as_aux_lemma =>
                obtain ⟨z, rfl, hg, hr, hz, hi⟩ := okRI_all hok
                obtain ⟨h, hh, h9⟩ := rkN_some hg
                obtain ⟨N, K, f1, f2, f3, f4, f5, hN10⟩ := gyrFacts hg hr hh hz hi
                have HO1 := hid f1
                have HE1 := hid f2
                have HE2 := hid f3
                have HO2 := hid f4
                have HE3 := hid f5
                clear hok hg hr hz hi hh h9 f1 f2 f3 f4 f5
                go_wp2_with fail
                refine (implGyrateIdeal_any _ us (z : Int) _ HIp41.out hl HWs.out).mono ?_
                rintro e w82 ⟨rfl, hb⟩
                rw [HE1.out, HO1.out]
                have HB83 := hid (below_to HB41.out hb)
                have HIp83 := hid (HIp41.out.below hb)
                have HKp83 := hid (HKp41.out.below hb HKp41.out.lt)
                clear tKp42
                clear hb HB41 HIp41 HKp41
                have tKp84 := HKp83.out.cell 0
                go_wp2_with fail
                refine (specGyrateIdeal_any _ us (z : Int) _ HIp83.out hl HWs.out).mono ?_
                rintro e w85 ⟨rfl, hb⟩
                rw [HE1.out, HO1.out]
                have HB86 := hid (below_to HB83.out hb)
                have HIp86 := hid (HIp83.out.below hb)
                have HKp86 := hid (HKp83.out.below hb HKp83.out.lt)
                clear tKp84
                clear hb HB83 HIp83 HKp83
                have tKp87 := HKp86.out.cell 0
                go_wp2_with fail
                refine (implGyrateBack_any _ us (z : Int) _ HIp86.out hl HWs.out).mono ?_
                rintro e w88 ⟨rfl, hb⟩
                rw [HE2.out, HO1.out]
                have HB89 := hid (below_to HB86.out hb)
                have HIp89 := hid (HIp86.out.below hb)
                have HKp89 := hid (HKp86.out.below hb HKp86.out.lt)
                clear tKp87
                clear hb HB86 HIp86 HKp86
                have tKp90 := HKp89.out.cell 0
                go_wp2_with fail
                refine (specGyrateBack_any _ us (z : Int) _ HIp89.out hl HWs.out).mono ?_
                rintro e w91 ⟨rfl, hb⟩
                rw [HE2.out, HO1.out]
                have HB92 := hid (below_to HB89.out hb)
                have HIp92 := hid (HIp89.out.below hb)
                have HKp92 := hid (HKp89.out.below hb HKp89.out.lt)
                clear tKp90
                clear hb HB89 HIp89 HKp89
                have tKp93 := HKp92.out.cell 0
                go_wp2_with fail
                refine (implGyrateBack_any _ us (N : Int) _ HIp92.out hl (wf_i64 _ (by omega) (by omega))).mono ?_
                rintro e w94 ⟨rfl, hb⟩
                rw [HE3.out, HO2.out]
                have HB95 := hid (below_to HB92.out hb)
                have HIp95 := hid (HIp92.out.below hb)
                have HKp95 := hid (HKp92.out.below hb HKp92.out.lt)
                clear tKp93
                clear hb HB92 HIp92 HKp92
                have tKp96 := HKp95.out.cell 0
                clear HO2 HE3 hN10
                clear HO1 HE1 HE2 HWs hl hl21 tKp96 HIp95 HKp95
                as_aux_lemma =>
                  go_wp2_with fail
                  refine (drawGyrationLengths_any _ xs1 _ (bytes_at HY1.out HB95.out) HS.out.2).mono ?_
                  rintro e w97 ⟨u, us, rfl, ho, hl21, hb⟩
                  have HB := hid (below_to HB95.out hb)
                  have HIp := hid ho.ints
                  obtain ⟨pA, pc, rfl, -⟩ := ho.ints
                  clear ho hb  HB95
                  have hl : us.length ≤ 1048576 := by omega
                  obtain ⟨B6, hB6⟩ : ∃ B6, w97.heap.size = B6 := ⟨_, rfl⟩
                  go_wp2_with fail
                  have HB98 := hid (below_alloc HB.out (.cells #[.slice pA us.length pc] 26))
                  have HIp98 := hid (HIp.out.alloc (.cells #[.slice pA us.length pc] 26))
                  have HKp98 : Hid (Blk (w97.alloc (.cells #[.slice pA us.length pc] 26)) B6 26 #[.slice pA us.length pc]) := hid (by rw [← hB6]; exact Blk.new w97 _ _)
                  clear hB6 HB HIp
                  have tKp99 := HKp98.out.cell 0
                  cases hok : okRk us
                  · as_aux_lemma =>
                      have HK := hid hok
                      clear hok
                      go_wp2_with fail
                      refine (implGyrationLengths_any _ us _ HIp98.out hl).mono ?_
                      rintro e w100 ⟨ua, rfl, ho, hla, hb⟩
                      rw [HK.out]
                      have HIa := hid ho.ints
                      obtain ⟨Aa, ca, rfl, -⟩ := ho.ints
                      obtain ⟨na, hna⟩ : ∃ n, (ansGL us).length = n := ⟨_, rfl⟩
                      rw [hna] at HIa hla ⊢
                      have HNa := hid hna
                      clear ho hna
                      have HB101 := hid (below_to HB98.out hb)
                      have HIp101 := hid (HIp98.out.below hb)
                      have HKp101 := hid (HKp98.out.below hb HKp98.out.lt)
                      clear tKp99
                      clear hb HB98 HIp98 HKp98
                      have tKp102 := HKp101.out.cell 0
                      go_wp2_with fail
                      refine (specGyrationLengths_any _ us _ HIp101.out hl).mono ?_
                      rintro e w103 ⟨ub, rfl, ho, hlb, hb⟩
                      rw [HK.out]
                      have HIb := hid ho.ints
                      obtain ⟨Ab, cb, rfl, -⟩ := ho.ints
                      obtain ⟨nb, hnb⟩ : ∃ n, (ansGL us).length = n := ⟨_, rfl⟩
                      rw [hnb] at HIb hlb ⊢
                      have HNb := hid hnb
                      clear ho hnb
                      have HB104 := hid (below_to HB101.out hb)
                      have HIp104 := hid (HIp101.out.below hb)
                      have HKp104 := hid (HKp101.out.below hb HKp101.out.lt)
                      have HIa104 := hid (HIa.out.below hb)
                      clear tKp102
                      clear hb HB101 HIp101 HKp101 HIa
                      have tKp105 := HKp104.out.cell 0
                      go_wp2_with fail
                      refine (nSame_any _ _ (ansGL us) _ HIa104.out HIb.out (by rw [HNa.out]; exact hla)).mono ?_
                      rintro e w106 ⟨rfl, hb⟩
                      have HB107 := hid (below_to HB104.out hb)
                      have HIp107 := hid (HIp104.out.below hb)
                      have HKp107 := hid (HKp104.out.below hb HKp104.out.lt)
                      have HIa107 := hid (HIa104.out.below hb)
                      have HIb107 := hid (HIb.out.below hb)
                      clear tKp105
                      clear hb HB104 HIp104 HKp104 HIa104 HIb
                      have tKp108 := HKp107.out.cell 0
                      clear tKp108
                      go_wp2
                      go_ret
                      exact ⟨ret_bool (by simp), HB107.out⟩
                  · as_aux_lemma =>
                      have HK := hid hok
                      have HL := hid (lenFacts hok)
                      have HG := hid (okRk_good hok).1
                      clear hok
                      go_wp2_with fail
                      refine (implGyrationLengths_any _ us _ HIp98.out hl).mono ?_
                      rintro e w109 ⟨ua, rfl, ho, hla, hb⟩
                      rw [HK.out]
                      have HIa := hid ho.ints
                      obtain ⟨Aa, ca, rfl, -⟩ := ho.ints
                      obtain ⟨na, hna⟩ : ∃ n, (ansGL us).length = n := ⟨_, rfl⟩
                      rw [hna] at HIa hla ⊢
                      have HNa := hid hna
                      clear ho hna
                      have HB110 := hid (below_to HB98.out hb)
                      have HIp110 := hid (HIp98.out.below hb)
                      have HKp110 := hid (HKp98.out.below hb HKp98.out.lt)
                      clear tKp99
                      clear hb HB98 HIp98 HKp98
                      have tKp111 := HKp110.out.cell 0
                      go_wp2_with fail
                      refine (specGyrationLengths_any _ us _ HIp110.out hl).mono ?_
                      rintro e w112 ⟨ub, rfl, ho, hlb, hb⟩
                      rw [HK.out]
                      have HIb := hid ho.ints
                      obtain ⟨Ab, cb, rfl, -⟩ := ho.ints
                      obtain ⟨nb, hnb⟩ : ∃ n, (ansGL us).length = n := ⟨_, rfl⟩
                      rw [hnb] at HIb hlb ⊢
                      have HNb := hid hnb
                      clear ho hnb
                      have HB113 := hid (below_to HB110.out hb)
                      have HIp113 := hid (HIp110.out.below hb)
                      have HKp113 := hid (HKp110.out.below hb HKp110.out.lt)
                      have HIa113 := hid (HIa.out.below hb)
                      clear tKp111
                      clear hb HB110 HIp110 HKp110 HIa
                      have tKp114 := HKp113.out.cell 0
                      go_wp2_with fail
                      refine (nSame_any _ _ (ansGL us) _ HIa113.out HIb.out (by rw [HNa.out]; exact hla)).mono ?_
                      rintro e w115 ⟨rfl, hb⟩
                      have HB116 := hid (below_to HB113.out hb)
                      have HIp116 := hid (HIp113.out.below hb)
                      have HKp116 := hid (HKp113.out.below hb HKp113.out.lt)
                      have HIa116 := hid (HIa113.out.below hb)
                      have HIb116 := hid (HIb.out.below hb)
                      clear tKp114
                      clear hb HB113 HIp113 HKp113 HIa113 HIb
                      have tKp117 := HKp116.out.cell 0
                      go_wp2_with fail
                      refine (implSortedLengths_any _ us _ HIp116.out hl).mono ?_
                      rintro e w118 ⟨uc, rfl, ho, hlc, hb⟩
                      rw [HG.out]
                      have HIc := hid ho.ints
                      obtain ⟨Ac, cc, rfl, -⟩ := ho.ints
                      obtain ⟨nc, hnc⟩ : ∃ n, (ansSL us).length = n := ⟨_, rfl⟩
                      rw [hnc] at HIc hlc ⊢
                      have HNc := hid hnc
                      clear ho hnc
                      have HB119 := hid (below_to HB116.out hb)
                      have HIp119 := hid (HIp116.out.below hb)
                      have HKp119 := hid (HKp116.out.below hb HKp116.out.lt)
                      have HIa119 := hid (HIa116.out.below hb)
                      have HIb119 := hid (HIb116.out.below hb)
                      clear tKp117
                      clear hb HB116 HIp116 HKp116 HIa116 HIb116
                      have tKp120 := HKp119.out.cell 0
                      have HIs := hid (show Ints _ _ (ansGL us) from by rw [HL.out]; exact HIc.out)
                      go_wp2_with fail
                      refine (nSame_any _ _ (ansGL us) _ HIs.out HIa119.out (by rw [HNa.out]; exact hla)).mono ?_
                      rintro e w121 ⟨rfl, hb⟩
                      have HB122 := hid (below_to HB119.out hb)
                      have HIp122 := hid (HIp119.out.below hb)
                      have HKp122 := hid (HKp119.out.below hb HKp119.out.lt)
                      have HIa122 := hid (HIa119.out.below hb)
                      have HIb122 := hid (HIb119.out.below hb)
                      have HIc122 := hid (HIc.out.below hb)
                      have HIs122 := hid (HIs.out.below hb)
                      clear tKp120
                      clear hb HB119 HIp119 HKp119 HIa119 HIb119 HIc HIs
                      have tKp123 := HKp122.out.cell 0
                      clear tKp123
                      go_wp2
                      go_ret
                      exact ⟨ret_bool (by simp), HB122.out⟩
    · as_aux_lemma =>
        obtain ⟨z, rfl, hg, hr, hz, hi⟩ := okRI_all hok
        obtain ⟨h, hh, h9⟩ := rkN_some hg
        obtain ⟨N, f1, f2, f3, f4, hN10, f6, f7, f8, f9⟩ := rowFacts hg hr hh hz hi
        have hz10 := lt1024 hz (good_length hg).2
        have HO1 := hid f1
        have HO2 := hid f2
        have HE1 := hid f3
        have HE2 := hid f4
        have HRO := hid f6
        have HRL := hid f7
        have HK := hid f8
        have HG := hid hg
        have HT : Hid (∀ i, i < h + 1 → _) := hid (fun i hi' => onceFacts hg hr hh hz hi (i := i) hi')
        have HA : Hid (∀ i, i < h + 1 → _) := hid (fun i hi' => accFacts hg hh (i := i) hi')
        have HH : Hid (∀ e, e < us.length → _) := hid (fun e he => heightFacts hg hh (e := e) he)
        obtain ⟨M, hM⟩ : ∃ M, 2 ^ us.length = M + 1 := ⟨2 ^ us.length - 1, by have := Nat.two_pow_pos us.length; omega⟩
        have HA0 := hid (acR_zero us)
        have HAM : Hid (acR us (h + 1) = M) := hid (by rw [acR_full hh, hM]; rfl)
        have hw1 : wrap64 ((2 : Int) ^ us.length) = (M : Int) + 1 := by rw [wrap_pow us.length f9, hM]; rfl
        have HW1 := hid hw1
        have HHl : Hid ((heightsL us).length = us.length) := hid (heights_len hg)
        have hM10 : M < 1024 := lt1024 (show M < 2 ^ us.length from by rw [hM]; exact Nat.lt_succ_self _) f9
        clear hok hg hr hz hi hh f1 f2 f3 f4 f6 f7 f8 hM hw1
        go_wp2_with fail
        refine (implRowByRanks_any _ us (z : Int) _ HIp2.out hl HWs.out).mono ?_
        rintro e w124 ⟨rfl, hb⟩
        rw [HE1.out, HO1.out]
        have HB125 := hid (below_to HB2.out hb)
        have HIp125 := hid (HIp2.out.below hb)
        have HKp125 := hid (HKp2.out.below hb HKp2.out.lt)
        clear tKp3
        clear hb HB2 HIp2 HKp2
        have tKp126 := HKp125.out.cell 0
        go_wp2_with fail
        refine (specRowByRanks_any _ us (z : Int) _ HIp125.out hl HWs.out).mono ?_
        rintro e w127 ⟨rfl, hb⟩
        rw [HE1.out, HO1.out]
        have HB128 := hid (below_to HB125.out hb)
        have HIp128 := hid (HIp125.out.below hb)
        have HKp128 := hid (HKp125.out.below hb HKp125.out.lt)
        clear tKp126
        clear hb HB125 HIp125 HKp125
        have tKp129 := HKp128.out.cell 0
        go_wp2_with fail
        refine (implRowmotion_any _ us (z : Int) _ HIp128.out hl (wf_i64 _ (by omega) (by omega))).mono ?_
        rintro e w130 ⟨rfl, hb⟩
        rw [HE2.out, HO2.out]
        have HB131 := hid (below_to HB128.out hb)
        have HIp131 := hid (HIp128.out.below hb)
        have HKp131 := hid (HKp128.out.below hb HKp128.out.lt)
        clear tKp129
        clear hb HB128 HIp128 HKp128
        have tKp132 := HKp131.out.cell 0
        go_wp2_with fail
        refine (implRanksOf_any _ us _ HIp131.out hl).mono ?_
        rintro e w133 ⟨ua, rfl, ho, hla, hb⟩
        rw [HK.out]
        have HIa := hid ho.ints
        obtain ⟨Aa, ca, rfl, -⟩ := ho.ints
        obtain ⟨na, hna⟩ : ∃ n, (ansRO us).length = n := ⟨_, rfl⟩
        rw [hna] at HIa hla ⊢
        have HNa := hid hna
        clear ho hna
        have HB134 := hid (below_to HB131.out hb)
        have HIp134 := hid (HIp131.out.below hb)
        have HKp134 := hid (HKp131.out.below hb HKp131.out.lt)
        clear tKp132
        clear hb HB131 HIp131 HKp131
        have tKp135 := HKp134.out.cell 0
        go_wp2_with fail
        refine (implHeightsOf_any _ us _ HIp134.out hl).mono ?_
        rintro e w136 ⟨ub, rfl, ho, hlb, hb⟩
        rw [HG.out]
        have HIb := hid ho.ints
        obtain ⟨Ab, cb, rfl, -⟩ := ho.ints
        obtain ⟨nb, hnb⟩ : ∃ n, (heightsL us).length = n := ⟨_, rfl⟩
        rw [hnb] at HIb hlb ⊢
        have HNb := hid hnb
        clear ho hnb
        have HB137 := hid (below_to HB134.out hb)
        have HIp137 := hid (HIp134.out.below hb)
        have HKp137 := hid (HKp134.out.below hb HKp134.out.lt)
        have HIa137 := hid (HIa.out.below hb)
        clear tKp135
        clear hb HB134 HIp134 HKp134 HIa
        have tKp138 := HKp137.out.cell 0
        have hna : na = h + 1 := by rw [← HNa.out, HRO.out, HRL.out]
        have hnb : nb = us.length := by rw [← HNb.out, HHl.out]
        go_wp2
        clear tKp138
        go_loopw [17, 111] (fun a i wr => ∃ k : Nat, k ≤ na ∧ i = .int .i64 (k : Int) ∧ a = .int .i64 (acR us k : Int) ∧ Below w136.heap.size w136 wr) (fun _ i _ => na - (intOf i).toNat)
        case atStart => exact ⟨0, Nat.zero_le _, rfl, by rw [HA0.out]; rfl, Below.refl _ _⟩
        case round =>
          obtain ⟨k, hk, rfl, rfl, hb⟩ := hrel
          by_cases hlt : k < na
          · skip
            as_aux_lemma =>
              have HBW0 := hid (Below.refl w136.heap.size w136)
              obtain ⟨bA, oA, rfl⟩ := ints_addr HIa137.out (by intro h0; have := HNa.out; rw [h0] at this; simp at this; omega)
              have HB139 := hid (below_to HB137.out hb)
              have HIp139 := hid (HIp137.out.below hb)
              have HKp139 := hid (HKp137.out.below hb HKp137.out.lt)
              have HIa139 := hid (HIa137.out.below hb)
              have HIb139 := hid (HIb.out.below hb)
              have HBW139 := hid (below_to HBW0.out hb)
              clear hb HB137 HIp137 HKp137 HIa137 HIb HBW0
              have tKp140 := HKp139.out.cell 0
              obtain ⟨R, hR1, hR2, hR3⟩ := HA.out k (by omega)
              obtain ⟨T, hT1, hT2, hT3, hT4, hT10⟩ := HT.out k (by omega)
              have HR3 := hid hR3
              have HR2 := hid hR2
              have HT1 := hid hT1
              have HT2 := hid hT2
              have HT3 := hid hT3
              have HT4 := hid hT4
              have ck := ints_cell HIa139.out (show k < _ by rw [HNa.out]; exact hlt)
              rw [HRO.out, hR1] at ck
              clear hR1 hR2 hR3 hT1 hT2 hT3 hT4
              go_wp2_with fail
              refine (implToggleRank_any _ us (z : Int) (k : Int) _ HIp139.out hl (wf_i64 _ (by omega) (by omega)) (wf_i64 _ (by omega) (by omega))).mono ?_
              rintro e w141 ⟨rfl, hb⟩
              rw [HT2.out, HT1.out]
              have HB142 := hid (below_to HB139.out hb)
              have HIp142 := hid (HIp139.out.below hb)
              have HKp142 := hid (HKp139.out.below hb HKp139.out.lt)
              have HIa142 := hid (HIa139.out.below hb)
              have HIb142 := hid (HIb139.out.below hb)
              have HBW142 := hid (below_to HBW139.out hb)
              clear tKp140 ck
              clear hb HB139 HIp139 HKp139 HIa139 HIb139 HBW139
              have tKp143 := HKp142.out.cell 0
              go_wp2_with fail
              refine (implToggleRank_any _ us (T : Int) (k : Int) _ HIp142.out hl (wf_i64 _ (by omega) (by omega)) (wf_i64 _ (by omega) (by omega))).mono ?_
              rintro e w144 ⟨rfl, hb⟩
              rw [HT4.out, HT3.out]
              have HB145 := hid (below_to HB142.out hb)
              have HIp145 := hid (HIp142.out.below hb)
              have HKp145 := hid (HKp142.out.below hb HKp142.out.lt)
              have HIa145 := hid (HIa142.out.below hb)
              have HIb145 := hid (HIb142.out.below hb)
              have HBW145 := hid (below_to HBW142.out hb)
              clear tKp143
              clear hb HB142 HIp142 HKp142 HIa142 HIb142 HBW142
              have tKp146 := HKp145.out.cell 0
              have hR2 := HR2.out
              have hR3 := HR3.out
              clear HR2 HR3 HT1 HT2 HT3 HT4
              go_wp2
              go_roundw
              case rel => exact ⟨k + 1, by omega, by go_num, rfl, HBW145.out⟩
              case measure => simp [intOf] <;> omega
          · as_aux_lemma =>
              obtain rfl : k = h + 1 := by omega
              clear HT HA
              have HB147 := hid (below_to HB137.out hb)
              have HIp147 := hid (HIp137.out.below hb)
              have HKp147 := hid (HKp137.out.below hb HKp137.out.lt)
              have HIa147 := hid (HIa137.out.below hb)
              have HIb147 := hid (HIb.out.below hb)
              clear hb HB137 HIp137 HKp137 HIa137 HIb
              have tKp148 := HKp147.out.cell 0
              rw [HAM.out]
              rename World => V1
              go_wp2
              clear tKp148
              go_loopw [153] (fun i wr => ∃ k : Nat, k ≤ nb ∧ i = .int .i64 (k : Int) ∧ Below V1.heap.size V1 wr) (fun i _ => nb - (intOf i).toNat)
              case atStart => exact ⟨0, Nat.zero_le _, rfl, Below.refl _ _⟩
              case round =>
                obtain ⟨k, hk, rfl, hb⟩ := hrel
                by_cases hlt : k < nb
                · skip
                  as_aux_lemma =>
                    have HBW0 := hid (Below.refl V1.heap.size V1)
                    obtain ⟨bA, oA, rfl⟩ := ints_addr HIa147.out (by intro h0; have := HNa.out; rw [h0] at this; simp at this; omega)
                    obtain ⟨bH, oH, rfl⟩ := ints_addr HIb147.out (by intro h0; have := HNb.out; rw [h0] at this; simp at this; omega)
                    have HB149 := hid (below_to HB147.out hb)
                    have HIp149 := hid (HIp147.out.below hb)
                    have HKp149 := hid (HKp147.out.below hb HKp147.out.lt)
                    have HIa149 := hid (HIa147.out.below hb)
                    have HIb149 := hid (HIb147.out.below hb)
                    have HBW149 := hid (below_to HBW0.out hb)
                    clear hb HB147 HIp147 HKp147 HIa147 HIb147 HBW0
                    have tKp150 := HKp149.out.cell 0
                    obtain ⟨y, R, hy1, hy2, hy3, hy4, hy5⟩ := HH.out k (by omega)
                    have ck := ints_cell HIb149.out (show k < _ by rw [HNb.out]; exact hlt)
                    have cr := ints_cell HIa149.out (show y < _ by rw [HNa.out]; omega)
                    rw [hy1] at ck
                    rw [HRO.out, hy3] at cr
                    clear hy1 hy3
                    go_wp2
                    go_roundw
                    case rel => exact ⟨k + 1, by omega, by go_num, HBW149.out⟩
                    case measure => simp [intOf] <;> omega
                · as_aux_lemma =>
                    clear HH
                    have HB151 := hid (below_to HB147.out hb)
                    have HIp151 := hid (HIp147.out.below hb)
                    have HKp151 := hid (HKp147.out.below hb HKp147.out.lt)
                    have HIa151 := hid (HIa147.out.below hb)
                    have HIb151 := hid (HIb147.out.below hb)
                    clear hb HB147 HIp147 HKp147 HIa147 HIb147
                    have tKp152 := HKp151.out.cell 0
                    have hw1 := HW1.out
                    go_wp2_with fail
                    clear hw1 HW1 hk hlt HO2 HE1 HE2 HRO HRL HK HG HA0 HAM HHl HNa HNb hla hlb hna hnb h9 hN10 hz10 HIa151 HIb151
                    clear HO1 HWs hl hl21 tKp152 HIp151 HKp151
                    as_aux_lemma =>
                      go_wp2_with fail
                      refine (drawToggleRank_any _ xs1 _ (bytes_at HY1.out HB151.out) HS.out.2).mono ?_
                      rintro e w153 ⟨u, us, s, d, rfl, hwf, ho, hl21, hd1, hd2, hb⟩
                      have HB := hid (below_to HB151.out hb)
                      have HIp := hid ho.ints
                      obtain ⟨pA, pc, rfl, -⟩ := ho.ints
                      clear ho hb  HB151
                      have HWs := hid hwf
                      have hl : us.length ≤ 1048576 := by omega
                      have HWd := hid (wf_i64 d (by omega) (by omega))
                      clear hwf
                      obtain ⟨o1, ho1⟩ : ∃ x, okTR us [d] s = x := ⟨_, rfl⟩
                      have Ho1 := hid ho1
                      clear ho1
                      obtain ⟨v1, hv1⟩ : ∃ x, ansTR us [d] s = x := ⟨_, rfl⟩
                      have Hv1 := hid hv1
                      clear hv1
                      obtain ⟨B6, hB6⟩ : ∃ B6, w153.heap.size = B6 := ⟨_, rfl⟩
                      go_wp2_with fail
                      have HB154 := hid (below_alloc HB.out (.cells #[.slice pA us.length pc] 26))
                      have HIp154 := hid (HIp.out.alloc (.cells #[.slice pA us.length pc] 26))
                      have HKp154 : Hid (Blk (w153.alloc (.cells #[.slice pA us.length pc] 26)) B6 26 #[.slice pA us.length pc]) := hid (by rw [← hB6]; exact Blk.new w153 _ _)
                      clear hB6 HB HIp
                      have tKp155 := HKp154.out.cell 0
                      go_wp2_with fail
                      refine (implToggleRank_any _ us s d _ HIp154.out hl HWs.out HWd.out).mono ?_
                      rintro e w156 ⟨rfl, hb⟩
                      rw [Hv1.out, Ho1.out]
                      have HB157 := hid (below_to HB154.out hb)
                      have HIp157 := hid (HIp154.out.below hb)
                      have HKp157 := hid (HKp154.out.below hb HKp154.out.lt)
                      clear tKp155
                      clear hb HB154 HIp154 HKp154
                      have tKp158 := HKp157.out.cell 0
                      go_wp2_with fail
                      refine (specToggleRank_any _ us s d _ HIp157.out hl HWs.out HWd.out).mono ?_
                      rintro e w159 ⟨rfl, hb⟩
                      rw [Hv1.out, Ho1.out]
                      have HB160 := hid (below_to HB157.out hb)
                      have HIp160 := hid (HIp157.out.below hb)
                      have HKp160 := hid (HKp157.out.below hb HKp157.out.lt)
                      clear tKp158
                      clear hb HB157 HIp157 HKp157
                      have tKp161 := HKp160.out.cell 0
                      clear HWs HWd hl hl21 Ho1 Hv1 hd1 hd2 tKp161 HIp160 HKp160
                      go_wp2_with fail
                      refine (drawToggleRanks_any _ xs1 _ (bytes_at HY1.out HB160.out) HS.out.2).mono ?_
                      rintro e w162 ⟨u, us, s, q, ys, rfl, hwf, ho, hl21, hoq, hy, hb⟩
                      have HB := hid (below_to HB160.out hb)
                      have HIp := hid ho.ints
                      obtain ⟨pA, pc, rfl, -⟩ := ho.ints
                      have HIq := hid hoq.ints
                      clear ho hb hoq HB160
                      have HWs := hid hwf
                      have hl : us.length ≤ 1048576 := by omega
                      have hm : ys.length ≤ 1048576 := by omega
                      obtain ⟨qA, qc, rfl, -⟩ := HIq.out
                      clear hwf
                      obtain ⟨o2, ho2⟩ : ∃ x, okTR us ys s = x := ⟨_, rfl⟩
                      have Ho2 := hid ho2
                      clear ho2
                      obtain ⟨v2, hv2⟩ : ∃ x, ansTR us ys s = x := ⟨_, rfl⟩
                      have Hv2 := hid hv2
                      clear hv2
                      obtain ⟨B7, hB7⟩ : ∃ B7, w162.heap.size = B7 := ⟨_, rfl⟩
                      go_wp2_with fail
                      have HB163 := hid (below_alloc HB.out (.cells #[.slice pA us.length pc] 26))
                      have HIp163 := hid (HIp.out.alloc (.cells #[.slice pA us.length pc] 26))
                      have HIq163 := hid (HIq.out.alloc (.cells #[.slice pA us.length pc] 26))
                      have HKp163 : Hid (Blk (w162.alloc (.cells #[.slice pA us.length pc] 26)) B7 26 #[.slice pA us.length pc]) := hid (by rw [← hB7]; exact Blk.new w162 _ _)
                      clear hB7 HB HIp HIq
                      have tKp164 := HKp163.out.cell 0
                      go_wp2_with fail
                      refine (implToggleRanks_any _ us s _ ys _ HIp163.out hl HWs.out HIq163.out hm).mono ?_
                      rintro e w165 ⟨rfl, hb⟩
                      rw [Hv2.out, Ho2.out]
                      have HB166 := hid (below_to HB163.out hb)
                      have HIp166 := hid (HIp163.out.below hb)
                      have HIq166 := hid (HIq163.out.below hb)
                      have HKp166 := hid (HKp163.out.below hb HKp163.out.lt)
                      clear tKp164
                      clear hb HB163 HIp163 HIq163 HKp163
                      have tKp167 := HKp166.out.cell 0
                      go_wp2_with fail
                      refine (specToggleRanks_any _ us s _ ys _ HIp166.out hl HWs.out HIq166.out hm).mono ?_
                      rintro e w168 ⟨rfl, hb⟩
                      rw [Hv2.out, Ho2.out]
                      have HB169 := hid (below_to HB166.out hb)
                      have HIp169 := hid (HIp166.out.below hb)
                      have HIq169 := hid (HIq166.out.below hb)
                      have HKp169 := hid (HKp166.out.below hb HKp166.out.lt)
                      clear tKp167
                      clear hb HB166 HIp166 HIq166 HKp166
                      have tKp170 := HKp169.out.cell 0
                      clear HWs hl hm hl21 hy Ho2 Hv2 tKp170 HIp169 HIq169 HKp169
                      go_wp2_with fail
                      refine (drawRanksOf_any _ xs1 _ (bytes_at HY1.out HB169.out) HS.out.2).mono ?_
                      rintro e w171 ⟨u, us, rfl, ho, hl21, hb⟩
                      have HB := hid (below_to HB169.out hb)
                      have HIp := hid ho.ints
                      obtain ⟨pA, pc, rfl, -⟩ := ho.ints
                      clear ho hb  HB169
                      have hl : us.length ≤ 1048576 := by omega
                      obtain ⟨o3, ho3⟩ : ∃ x, okRk us = x := ⟨_, rfl⟩
                      have Ho3 := hid ho3
                      clear ho3
                      obtain ⟨B8, hB8⟩ : ∃ B8, w171.heap.size = B8 := ⟨_, rfl⟩
                      go_wp2_with fail
                      have HB172 := hid (below_alloc HB.out (.cells #[.slice pA us.length pc] 26))
                      have HIp172 := hid (HIp.out.alloc (.cells #[.slice pA us.length pc] 26))
                      have HKp172 : Hid (Blk (w171.alloc (.cells #[.slice pA us.length pc] 26)) B8 26 #[.slice pA us.length pc]) := hid (by rw [← hB8]; exact Blk.new w171 _ _)
                      clear hB8 HB HIp
                      have tKp173 := HKp172.out.cell 0
                      go_wp2_with fail
                      refine (implRanksOf_any _ us _ HIp172.out hl).mono ?_
                      rintro e w174 ⟨ua, rfl, ho, hla, hb⟩
                      rw [Ho3.out]
                      have HIa := hid ho.ints
                      obtain ⟨Aa, ca, rfl, -⟩ := ho.ints
                      obtain ⟨na, hna⟩ : ∃ n, (ansRO us).length = n := ⟨_, rfl⟩
                      rw [hna] at HIa hla ⊢
                      have HNa := hid hna
                      clear ho hna
                      have HB175 := hid (below_to HB172.out hb)
                      have HIp175 := hid (HIp172.out.below hb)
                      have HKp175 := hid (HKp172.out.below hb HKp172.out.lt)
                      clear tKp173
                      clear hb HB172 HIp172 HKp172
                      have tKp176 := HKp175.out.cell 0
                      go_wp2_with fail
                      refine (specRanksOf_any _ us _ HIp175.out hl).mono ?_
                      rintro e w177 ⟨ub, rfl, ho, hlb, hb⟩
                      rw [Ho3.out]
                      have HIb := hid ho.ints
                      obtain ⟨Ab, cb, rfl, -⟩ := ho.ints
                      obtain ⟨nb, hnb⟩ : ∃ n, (ansRO us).length = n := ⟨_, rfl⟩
                      rw [hnb] at HIb hlb ⊢
                      have HNb := hid hnb
                      clear ho hnb
                      have HB178 := hid (below_to HB175.out hb)
                      have HIp178 := hid (HIp175.out.below hb)
                      have HKp178 := hid (HKp175.out.below hb HKp175.out.lt)
                      have HIa178 := hid (HIa.out.below hb)
                      clear tKp176
                      clear hb HB175 HIp175 HKp175 HIa
                      have tKp179 := HKp178.out.cell 0
                      go_wp2_with fail
                      refine (nSame_any _ _ (ansRO us) _ HIa178.out HIb.out (by rw [HNa.out]; exact hla)).mono ?_
                      rintro e w180 ⟨rfl, hb⟩
                      have HB181 := hid (below_to HB178.out hb)
                      have HIp181 := hid (HIp178.out.below hb)
                      have HKp181 := hid (HKp178.out.below hb HKp178.out.lt)
                      have HIa181 := hid (HIa178.out.below hb)
                      have HIb181 := hid (HIb.out.below hb)
                      clear tKp179
                      clear hb HB178 HIp178 HKp178 HIa178 HIb
                      have tKp182 := HKp181.out.cell 0
                      clear HNa HNb hla hlb hl hl21 Ho3 tKp182 HIp181 HKp181 HIa181 HIb181
                      as_aux_lemma =>
                        go_wp2_with fail
                        refine (drawGyrateIdeal_any _ xs1 _ (bytes_at HY1.out HB181.out) HS.out.2).mono ?_
                        rintro e w183 ⟨u, us, s, rfl, hwf, ho, hl21, hb⟩
                        have HB := hid (below_to HB181.out hb)
                        have HIp := hid ho.ints
                        obtain ⟨pA, pc, rfl, -⟩ := ho.ints
                        clear ho hb  HB181
                        have HWs := hid hwf
                        have hl : us.length ≤ 1048576 := by omega
                        clear hwf
                        obtain ⟨B6, hB6⟩ : ∃ B6, w183.heap.size = B6 := ⟨_, rfl⟩
                        go_wp2_with fail
                        have HB184 := hid (below_alloc HB.out (.cells #[.slice pA us.length pc] 26))
                        have HIp184 := hid (HIp.out.alloc (.cells #[.slice pA us.length pc] 26))
                        have HKp184 : Hid (Blk (w183.alloc (.cells #[.slice pA us.length pc] 26)) B6 26 #[.slice pA us.length pc]) := hid (by rw [← hB6]; exact Blk.new w183 _ _)
                        clear hB6 HB HIp
                        have tKp185 := HKp184.out.cell 0
                        cases hok : okRI us s
                        · as_aux_lemma =>
                            have HE1 : Hid (ansSW wGyr us s = 0) := hid (ansSW_no hok)
                            have HE2 : Hid (ansGB us s = 0) := hid (ansGB_no hok)
                            have HO1 := hid hok
                            clear hok
                            go_wp2_with fail
                            refine (implGyrateIdeal_any _ us s _ HIp184.out hl HWs.out).mono ?_
                            rintro e w186 ⟨rfl, hb⟩
                            rw [HE1.out, HO1.out]
                            have HB187 := hid (below_to HB184.out hb)
                            have HIp187 := hid (HIp184.out.below hb)
                            have HKp187 := hid (HKp184.out.below hb HKp184.out.lt)
                            clear tKp185
                            clear hb HB184 HIp184 HKp184
                            have tKp188 := HKp187.out.cell 0
                            go_wp2_with fail
                            refine (specGyrateIdeal_any _ us s _ HIp187.out hl HWs.out).mono ?_
                            rintro e w189 ⟨rfl, hb⟩
                            rw [HE1.out, HO1.out]
                            have HB190 := hid (below_to HB187.out hb)
                            have HIp190 := hid (HIp187.out.below hb)
                            have HKp190 := hid (HKp187.out.below hb HKp187.out.lt)
                            clear tKp188
                            clear hb HB187 HIp187 HKp187
                            have tKp191 := HKp190.out.cell 0
                            go_wp2_with fail
                            refine (implGyrateBack_any _ us s _ HIp190.out hl HWs.out).mono ?_
                            rintro e w192 ⟨rfl, hb⟩
                            rw [HE2.out, HO1.out]
                            have HB193 := hid (below_to HB190.out hb)
                            have HIp193 := hid (HIp190.out.below hb)
                            have HKp193 := hid (HKp190.out.below hb HKp190.out.lt)
                            clear tKp191
                            clear hb HB190 HIp190 HKp190
                            have tKp194 := HKp193.out.cell 0
                            go_wp2_with fail
                            refine (specGyrateBack_any _ us s _ HIp193.out hl HWs.out).mono ?_
                            rintro e w195 ⟨rfl, hb⟩
                            rw [HE2.out, HO1.out]
                            have HB196 := hid (below_to HB193.out hb)
                            have HIp196 := hid (HIp193.out.below hb)
                            have HKp196 := hid (HKp193.out.below hb HKp193.out.lt)
                            clear tKp194
                            clear hb HB193 HIp193 HKp193
                            have tKp197 := HKp196.out.cell 0
                            clear HO1 HE1 HE2 HWs hl hl21 tKp197 HIp196 HKp196
                            as_aux_lemma =>
                              go_wp2_with fail
                              refine (drawGyrationLengths_any _ xs1 _ (bytes_at HY1.out HB196.out) HS.out.2).mono ?_
                              rintro e w198 ⟨u, us, rfl, ho, hl21, hb⟩
                              have HB := hid (below_to HB196.out hb)
                              have HIp := hid ho.ints
                              obtain ⟨pA, pc, rfl, -⟩ := ho.ints
                              clear ho hb  HB196
                              have hl : us.length ≤ 1048576 := by omega
                              obtain ⟨B6, hB6⟩ : ∃ B6, w198.heap.size = B6 := ⟨_, rfl⟩
                              go_wp2_with fail
                              have HB199 := hid (below_alloc HB.out (.cells #[.slice pA us.length pc] 26))
                              have HIp199 := hid (HIp.out.alloc (.cells #[.slice pA us.length pc] 26))
                              have HKp199 : Hid (Blk (w198.alloc (.cells #[.slice pA us.length pc] 26)) B6 26 #[.slice pA us.length pc]) := hid (by rw [← hB6]; exact Blk.new w198 _ _)
                              clear hB6 HB HIp
                              have tKp200 := HKp199.out.cell 0
                              cases hok : okRk us
                              · as_aux_lemma =>
                                  have HK := hid hok
                                  clear hok
                                  go_wp2_with fail
                                  refine (implGyrationLengths_any _ us _ HIp199.out hl).mono ?_
                                  rintro e w201 ⟨ua, rfl, ho, hla, hb⟩
                                  rw [HK.out]
                                  have HIa := hid ho.ints
                                  obtain ⟨Aa, ca, rfl, -⟩ := ho.ints
                                  obtain ⟨na, hna⟩ : ∃ n, (ansGL us).length = n := ⟨_, rfl⟩
                                  rw [hna] at HIa hla ⊢
                                  have HNa := hid hna
                                  clear ho hna
                                  have HB202 := hid (below_to HB199.out hb)
                                  have HIp202 := hid (HIp199.out.below hb)
                                  have HKp202 := hid (HKp199.out.below hb HKp199.out.lt)
                                  clear tKp200
                                  clear hb HB199 HIp199 HKp199
                                  have tKp203 := HKp202.out.cell 0
                                  go_wp2_with fail
                                  refine (specGyrationLengths_any _ us _ HIp202.out hl).mono ?_
                                  rintro e w204 ⟨ub, rfl, ho, hlb, hb⟩
                                  rw [HK.out]
                                  have HIb := hid ho.ints
                                  obtain ⟨Ab, cb, rfl, -⟩ := ho.ints
                                  obtain ⟨nb, hnb⟩ : ∃ n, (ansGL us).length = n := ⟨_, rfl⟩
                                  rw [hnb] at HIb hlb ⊢
                                  have HNb := hid hnb
                                  clear ho hnb
                                  have HB205 := hid (below_to HB202.out hb)
                                  have HIp205 := hid (HIp202.out.below hb)
                                  have HKp205 := hid (HKp202.out.below hb HKp202.out.lt)
                                  have HIa205 := hid (HIa.out.below hb)
                                  clear tKp203
                                  clear hb HB202 HIp202 HKp202 HIa
                                  have tKp206 := HKp205.out.cell 0
                                  go_wp2_with fail
                                  refine (nSame_any _ _ (ansGL us) _ HIa205.out HIb.out (by rw [HNa.out]; exact hla)).mono ?_
                                  rintro e w207 ⟨rfl, hb⟩
                                  have HB208 := hid (below_to HB205.out hb)
                                  have HIp208 := hid (HIp205.out.below hb)
                                  have HKp208 := hid (HKp205.out.below hb HKp205.out.lt)
                                  have HIa208 := hid (HIa205.out.below hb)
                                  have HIb208 := hid (HIb.out.below hb)
                                  clear tKp206
                                  clear hb HB205 HIp205 HKp205 HIa205 HIb
                                  have tKp209 := HKp208.out.cell 0
                                  clear tKp209
                                  go_wp2
                                  go_ret
                                  exact ⟨ret_bool (by simp), HB208.out⟩
                              · as_aux_lemma =>
                                  have HK := hid hok
                                  have HL := hid (lenFacts hok)
                                  have HG := hid (okRk_good hok).1
                                  clear hok
                                  go_wp2_with fail
                                  refine (implGyrationLengths_any _ us _ HIp199.out hl).mono ?_
                                  rintro e w210 ⟨ua, rfl, ho, hla, hb⟩
                                  rw [HK.out]
                                  have HIa := hid ho.ints
                                  obtain ⟨Aa, ca, rfl, -⟩ := ho.ints
                                  obtain ⟨na, hna⟩ : ∃ n, (ansGL us).length = n := ⟨_, rfl⟩
                                  rw [hna] at HIa hla ⊢
                                  have HNa := hid hna
                                  clear ho hna
                                  have HB211 := hid (below_to HB199.out hb)
                                  have HIp211 := hid (HIp199.out.below hb)
                                  have HKp211 := hid (HKp199.out.below hb HKp199.out.lt)
                                  clear tKp200
                                  clear hb HB199 HIp199 HKp199
                                  have tKp212 := HKp211.out.cell 0
                                  go_wp2_with fail
                                  refine (specGyrationLengths_any _ us _ HIp211.out hl).mono ?_
                                  rintro e w213 ⟨ub, rfl, ho, hlb, hb⟩
                                  rw [HK.out]
                                  have HIb := hid ho.ints
                                  obtain ⟨Ab, cb, rfl, -⟩ := ho.ints
                                  obtain ⟨nb, hnb⟩ : ∃ n, (ansGL us).length = n := ⟨_, rfl⟩
                                  rw [hnb] at HIb hlb ⊢
                                  have HNb := hid hnb
                                  clear ho hnb
                                  have HB214 := hid (below_to HB211.out hb)
                                  have HIp214 := hid (HIp211.out.below hb)
                                  have HKp214 := hid (HKp211.out.below hb HKp211.out.lt)
                                  have HIa214 := hid (HIa.out.below hb)
                                  clear tKp212
                                  clear hb HB211 HIp211 HKp211 HIa
                                  have tKp215 := HKp214.out.cell 0
                                  go_wp2_with fail
                                  refine (nSame_any _ _ (ansGL us) _ HIa214.out HIb.out (by rw [HNa.out]; exact hla)).mono ?_
                                  rintro e w216 ⟨rfl, hb⟩
                                  have HB217 := hid (below_to HB214.out hb)
                                  have HIp217 := hid (HIp214.out.below hb)
                                  have HKp217 := hid (HKp214.out.below hb HKp214.out.lt)
                                  have HIa217 := hid (HIa214.out.below hb)
                                  have HIb217 := hid (HIb.out.below hb)
                                  clear tKp215
                                  clear hb HB214 HIp214 HKp214 HIa214 HIb
                                  have tKp218 := HKp217.out.cell 0
                                  go_wp2_with fail
                                  refine (implSortedLengths_any _ us _ HIp217.out hl).mono ?_
                                  rintro e w219 ⟨uc, rfl, ho, hlc, hb⟩
                                  rw [HG.out]
                                  have HIc := hid ho.ints
                                  obtain ⟨Ac, cc, rfl, -⟩ := ho.ints
                                  obtain ⟨nc, hnc⟩ : ∃ n, (ansSL us).length = n := ⟨_, rfl⟩
                                  rw [hnc] at HIc hlc ⊢
                                  have HNc := hid hnc
                                  clear ho hnc
                                  have HB220 := hid (below_to HB217.out hb)
                                  have HIp220 := hid (HIp217.out.below hb)
                                  have HKp220 := hid (HKp217.out.below hb HKp217.out.lt)
                                  have HIa220 := hid (HIa217.out.below hb)
                                  have HIb220 := hid (HIb217.out.below hb)
                                  clear tKp218
                                  clear hb HB217 HIp217 HKp217 HIa217 HIb217
                                  have tKp221 := HKp220.out.cell 0
                                  have HIs := hid (show Ints _ _ (ansGL us) from by rw [HL.out]; exact HIc.out)
                                  go_wp2_with fail
                                  refine (nSame_any _ _ (ansGL us) _ HIs.out HIa220.out (by rw [HNa.out]; exact hla)).mono ?_
                                  rintro e w222 ⟨rfl, hb⟩
                                  have HB223 := hid (below_to HB220.out hb)
                                  have HIp223 := hid (HIp220.out.below hb)
                                  have HKp223 := hid (HKp220.out.below hb HKp220.out.lt)
                                  have HIa223 := hid (HIa220.out.below hb)
                                  have HIb223 := hid (HIb220.out.below hb)
                                  have HIc223 := hid (HIc.out.below hb)
                                  have HIs223 := hid (HIs.out.below hb)
                                  clear tKp221
                                  clear hb HB220 HIp220 HKp220 HIa220 HIb220 HIc HIs
                                  have tKp224 := HKp223.out.cell 0
                                  clear tKp224
                                  go_wp2
                                  go_ret
                                  exact ⟨ret_bool (by simp), HB223.out⟩
                        · as_aux_lemma =>
                            obtain ⟨z, rfl, hg, hr, hz, hi⟩ := okRI_all hok
                            obtain ⟨h, hh, h9⟩ := rkN_some hg
                            obtain ⟨N, K, f1, f2, f3, f4, f5, hN10⟩ := gyrFacts hg hr hh hz hi
                            have HO1 := hid f1
                            have HE1 := hid f2
                            have HE2 := hid f3
                            have HO2 := hid f4
                            have HE3 := hid f5
                            clear hok hg hr hz hi hh h9 f1 f2 f3 f4 f5
                            go_wp2_with fail
                            refine (implGyrateIdeal_any _ us (z : Int) _ HIp184.out hl HWs.out).mono ?_
                            rintro e w225 ⟨rfl, hb⟩
                            rw [HE1.out, HO1.out]
                            have HB226 := hid (below_to HB184.out hb)
                            have HIp226 := hid (HIp184.out.below hb)
                            have HKp226 := hid (HKp184.out.below hb HKp184.out.lt)
                            clear tKp185
                            clear hb HB184 HIp184 HKp184
                            have tKp227 := HKp226.out.cell 0
                            go_wp2_with fail
                            refine (specGyrateIdeal_any _ us (z : Int) _ HIp226.out hl HWs.out).mono ?_
                            rintro e w228 ⟨rfl, hb⟩
                            rw [HE1.out, HO1.out]
                            have HB229 := hid (below_to HB226.out hb)
                            have HIp229 := hid (HIp226.out.below hb)
                            have HKp229 := hid (HKp226.out.below hb HKp226.out.lt)
                            clear tKp227
                            clear hb HB226 HIp226 HKp226
                            have tKp230 := HKp229.out.cell 0
                            go_wp2_with fail
                            refine (implGyrateBack_any _ us (z : Int) _ HIp229.out hl HWs.out).mono ?_
                            rintro e w231 ⟨rfl, hb⟩
                            rw [HE2.out, HO1.out]
                            have HB232 := hid (below_to HB229.out hb)
                            have HIp232 := hid (HIp229.out.below hb)
                            have HKp232 := hid (HKp229.out.below hb HKp229.out.lt)
                            clear tKp230
                            clear hb HB229 HIp229 HKp229
                            have tKp233 := HKp232.out.cell 0
                            go_wp2_with fail
                            refine (specGyrateBack_any _ us (z : Int) _ HIp232.out hl HWs.out).mono ?_
                            rintro e w234 ⟨rfl, hb⟩
                            rw [HE2.out, HO1.out]
                            have HB235 := hid (below_to HB232.out hb)
                            have HIp235 := hid (HIp232.out.below hb)
                            have HKp235 := hid (HKp232.out.below hb HKp232.out.lt)
                            clear tKp233
                            clear hb HB232 HIp232 HKp232
                            have tKp236 := HKp235.out.cell 0
                            go_wp2_with fail
                            refine (implGyrateBack_any _ us (N : Int) _ HIp235.out hl (wf_i64 _ (by omega) (by omega))).mono ?_
                            rintro e w237 ⟨rfl, hb⟩
                            rw [HE3.out, HO2.out]
                            have HB238 := hid (below_to HB235.out hb)
                            have HIp238 := hid (HIp235.out.below hb)
                            have HKp238 := hid (HKp235.out.below hb HKp235.out.lt)
                            clear tKp236
                            clear hb HB235 HIp235 HKp235
                            have tKp239 := HKp238.out.cell 0
                            clear HO2 HE3 hN10
                            clear HO1 HE1 HE2 HWs hl hl21 tKp239 HIp238 HKp238
                            as_aux_lemma =>
                              go_wp2_with fail
                              refine (drawGyrationLengths_any _ xs1 _ (bytes_at HY1.out HB238.out) HS.out.2).mono ?_
                              rintro e w240 ⟨u, us, rfl, ho, hl21, hb⟩
                              have HB := hid (below_to HB238.out hb)
                              have HIp := hid ho.ints
                              obtain ⟨pA, pc, rfl, -⟩ := ho.ints
                              clear ho hb  HB238
                              have hl : us.length ≤ 1048576 := by omega
                              obtain ⟨B6, hB6⟩ : ∃ B6, w240.heap.size = B6 := ⟨_, rfl⟩
                              go_wp2_with fail
                              have HB241 := hid (below_alloc HB.out (.cells #[.slice pA us.length pc] 26))
                              have HIp241 := hid (HIp.out.alloc (.cells #[.slice pA us.length pc] 26))
                              have HKp241 : Hid (Blk (w240.alloc (.cells #[.slice pA us.length pc] 26)) B6 26 #[.slice pA us.length pc]) := hid (by rw [← hB6]; exact Blk.new w240 _ _)
                              clear hB6 HB HIp
                              have tKp242 := HKp241.out.cell 0
                              cases hok : okRk us
                              · as_aux_lemma =>
                                  have HK := hid hok
                                  clear hok
                                  go_wp2_with fail
                                  refine (implGyrationLengths_any _ us _ HIp241.out hl).mono ?_
                                  rintro e w243 ⟨ua, rfl, ho, hla, hb⟩
                                  rw [HK.out]
                                  have HIa := hid ho.ints
                                  obtain ⟨Aa, ca, rfl, -⟩ := ho.ints
                                  obtain ⟨na, hna⟩ : ∃ n, (ansGL us).length = n := ⟨_, rfl⟩
                                  rw [hna] at HIa hla ⊢
                                  have HNa := hid hna
                                  clear ho hna
                                  have HB244 := hid (below_to HB241.out hb)
                                  have HIp244 := hid (HIp241.out.below hb)
                                  have HKp244 := hid (HKp241.out.below hb HKp241.out.lt)
                                  clear tKp242
                                  clear hb HB241 HIp241 HKp241
                                  have tKp245 := HKp244.out.cell 0
                                  go_wp2_with fail
                                  refine (specGyrationLengths_any _ us _ HIp244.out hl).mono ?_
                                  rintro e w246 ⟨ub, rfl, ho, hlb, hb⟩
                                  rw [HK.out]
                                  have HIb := hid ho.ints
                                  obtain ⟨Ab, cb, rfl, -⟩ := ho.ints
                                  obtain ⟨nb, hnb⟩ : ∃ n, (ansGL us).length = n := ⟨_, rfl⟩
                                  rw [hnb] at HIb hlb ⊢
                                  have HNb := hid hnb
                                  clear ho hnb
                                  have HB247 := hid (below_to HB244.out hb)
                                  have HIp247 := hid (HIp244.out.below hb)
                                  have HKp247 := hid (HKp244.out.below hb HKp244.out.lt)
                                  have HIa247 := hid (HIa.out.below hb)
                                  clear tKp245
                                  clear hb HB244 HIp244 HKp244 HIa
                                  have tKp248 := HKp247.out.cell 0
                                  go_wp2_with fail
                                  refine (nSame_any _ _ (ansGL us) _ HIa247.out HIb.out (by rw [HNa.out]; exact hla)).mono ?_
                                  rintro e w249 ⟨rfl, hb⟩
                                  have HB250 := hid (below_to HB247.out hb)
                                  have HIp250 := hid (HIp247.out.below hb)
                                  have HKp250 := hid (HKp247.out.below hb HKp247.out.lt)
                                  have HIa250 := hid (HIa247.out.below hb)
                                  have HIb250 := hid (HIb.out.below hb)
                                  clear tKp248
                                  clear hb HB247 HIp247 HKp247 HIa247 HIb
                                  have tKp251 := HKp250.out.cell 0
                                  clear tKp251
                                  go_wp2
                                  go_ret
                                  exact ⟨ret_bool (by simp), HB250.out⟩
                              · as_aux_lemma =>
                                  have HK := hid hok
                                  have HL := hid (lenFacts hok)
                                  have HG := hid (okRk_good hok).1
                                  clear hok
                                  go_wp2_with fail
                                  refine (implGyrationLengths_any _ us _ HIp241.out hl).mono ?_
                                  rintro e w252 ⟨ua, rfl, ho, hla, hb⟩
                                  rw [HK.out]
                                  have HIa := hid ho.ints
                                  obtain ⟨Aa, ca, rfl, -⟩ := ho.ints
                                  obtain ⟨na, hna⟩ : ∃ n, (ansGL us).length = n := ⟨_, rfl⟩
                                  rw [hna] at HIa hla ⊢
                                  have HNa := hid hna
                                  clear ho hna
                                  have HB253 := hid (below_to HB241.out hb)
                                  have HIp253 := hid (HIp241.out.below hb)
                                  have HKp253 := hid (HKp241.out.below hb HKp241.out.lt)
                                  clear tKp242
                                  clear hb HB241 HIp241 HKp241
                                  have tKp254 := HKp253.out.cell 0
                                  go_wp2_with fail
                                  refine (specGyrationLengths_any _ us _ HIp253.out hl).mono ?_
                                  rintro e w255 ⟨ub, rfl, ho, hlb, hb⟩
                                  rw [HK.out]
                                  have HIb := hid ho.ints
                                  obtain ⟨Ab, cb, rfl, -⟩ := ho.ints
                                  obtain ⟨nb, hnb⟩ : ∃ n, (ansGL us).length = n := ⟨_, rfl⟩
                                  rw [hnb] at HIb hlb ⊢
                                  have HNb := hid hnb
                                  clear ho hnb
                                  have HB256 := hid (below_to HB253.out hb)
                                  have HIp256 := hid (HIp253.out.below hb)
                                  have HKp256 := hid (HKp253.out.below hb HKp253.out.lt)
                                  have HIa256 := hid (HIa.out.below hb)
                                  clear tKp254
                                  clear hb HB253 HIp253 HKp253 HIa
                                  have tKp257 := HKp256.out.cell 0
                                  go_wp2_with fail
                                  refine (nSame_any _ _ (ansGL us) _ HIa256.out HIb.out (by rw [HNa.out]; exact hla)).mono ?_
                                  rintro e w258 ⟨rfl, hb⟩
                                  have HB259 := hid (below_to HB256.out hb)
                                  have HIp259 := hid (HIp256.out.below hb)
                                  have HKp259 := hid (HKp256.out.below hb HKp256.out.lt)
                                  have HIa259 := hid (HIa256.out.below hb)
                                  have HIb259 := hid (HIb.out.below hb)
                                  clear tKp257
                                  clear hb HB256 HIp256 HKp256 HIa256 HIb
                                  have tKp260 := HKp259.out.cell 0
                                  go_wp2_with fail
                                  refine (implSortedLengths_any _ us _ HIp259.out hl).mono ?_
                                  rintro e w261 ⟨uc, rfl, ho, hlc, hb⟩
                                  rw [HG.out]
                                  have HIc := hid ho.ints
                                  obtain ⟨Ac, cc, rfl, -⟩ := ho.ints
                                  obtain ⟨nc, hnc⟩ : ∃ n, (ansSL us).length = n := ⟨_, rfl⟩
                                  rw [hnc] at HIc hlc ⊢
                                  have HNc := hid hnc
                                  clear ho hnc
                                  have HB262 := hid (below_to HB259.out hb)
                                  have HIp262 := hid (HIp259.out.below hb)
                                  have HKp262 := hid (HKp259.out.below hb HKp259.out.lt)
                                  have HIa262 := hid (HIa259.out.below hb)
                                  have HIb262 := hid (HIb259.out.below hb)
                                  clear tKp260
                                  clear hb HB259 HIp259 HKp259 HIa259 HIb259
                                  have tKp263 := HKp262.out.cell 0
                                  have HIs := hid (show Ints _ _ (ansGL us) from by rw [HL.out]; exact HIc.out)
                                  go_wp2_with fail
                                  refine (nSame_any _ _ (ansGL us) _ HIs.out HIa262.out (by rw [HNa.out]; exact hla)).mono ?_
                                  rintro e w264 ⟨rfl, hb⟩
                                  have HB265 := hid (below_to HB262.out hb)
                                  have HIp265 := hid (HIp262.out.below hb)
                                  have HKp265 := hid (HKp262.out.below hb HKp262.out.lt)
                                  have HIa265 := hid (HIa262.out.below hb)
                                  have HIb265 := hid (HIb262.out.below hb)
                                  have HIc265 := hid (HIc.out.below hb)
                                  have HIs265 := hid (HIs.out.below hb)
                                  clear tKp263
                                  clear hb HB262 HIp262 HKp262 HIa262 HIb262 HIc HIs
                                  have tKp266 := HKp265.out.cell 0
                                  clear tKp266
                                  go_wp2
                                  go_ret
                                  exact ⟨ret_bool (by simp), HB265.out⟩
end Go.Proofs.YtdemikjaghegnaaGreat.lawRanksMakeRowmotion
