/- Texts RowvacuationLaw, one behind the other. -/
import Derived.BigQuiet
import Derived.Test.YtdemikjaghegnaaGreatPkRowvacuationProof08
import Derived.Test.YtdemikjaghegnaaGreatPkRowvacuationProof10
import Derived.Test.YtdemikjaghegnaaGreatPkRowvacuationProof21
/- Rowvacuation: the walk of the law (made by tools/genrv.py). -/
namespace Go.Proofs.YtdemikjaghegnaaGreat
open Go.RowKit Go.WideShapes Go.ChangeShapes
set_option linter.unusedVariables false
theorem bytes_at {w W : World} {v : Value} {bs : List Int} (h : BytesB w w.heap.size v bs) (hb : Below w.heap.size w W) : BytesB W W.heap.size v bs := (h.below hb).up hb.size
theorem ints_cell {w : World} {b o n c : Nat} {L : List Int} (h : Ints w (.slice (some ⟨b, o, none⟩) n c) L) {j : Nat} (hj : j < L.length) : w.cell? ⟨b, o + j, none⟩ = some (.int .i64 (L.getD j 0)) := by
  obtain ⟨A, c2, e, hA⟩ := h
  injection e with e1 e2 e3
  subst e1
  obtain ⟨b2, o2, e4, -, hc⟩ := hA (by intro h; simp [h] at hj)
  cases e4
  exact hc j hj
end Go.Proofs.YtdemikjaghegnaaGreat
namespace Go.Proofs.YtdemikjaghegnaaGreat.lawRowvacuation
open Go.RowKit Go.WideShapes Go.ChangeShapes
set_option linter.unusedVariables false
set_option maxRecDepth 100000 in
set_option maxHeartbeats 6400000 in
theorem walk (v0 : Value) (xs0 : List Int) (v1 : Value) (xs1 : List Int) (w : World) (hb0 : BytesB w w.heap.size v0 xs0) (hl0 : xs0.length ≤ maxLen) (hb1 : BytesB w w.heap.size v1 xs1) (hl1 : xs1.length ≤ maxLen) :
    Calls Tryz.prog 4 #[v0, v1] w fun (r : Ending) w' => r = .returned (.bool true) ∧ Below w.heap.size w w' := by
  have HY0 := hid hb0
  have HY1 := hid hb1
  obtain ⟨A0, c0, rfl, -⟩ := hb0
  obtain ⟨A1, c1, rfl, -⟩ := hb1
  have HL0 := hid hl0
  have HL1 := hid hl1
  unfold maxLen at hl0 hl1
  go_enter Tryz.func4, Tryz.ntmps4
  by_cases hbig : 1048576 < xs0.length + xs1.length
  · go_wp2_with fail
    refine (big_any _ _ xs0 xs1 _ HY0.out HY1.out HL0.out HL1.out).mono ?_
    rintro e w1 ⟨rfl, rfl⟩
    rw [decide_eq_true hbig]
    go_wp2
    go_ret
    exact ⟨rfl, Below.refl _ _⟩
  · go_wp2_with fail
    refine (big_any _ _ xs0 xs1 _ HY0.out HY1.out HL0.out HL1.out).mono ?_
    rintro e w1 ⟨rfl, rfl⟩
    rw [decide_eq_false hbig]
    have HS := hid (show xs0.length ≤ 1048576 ∧ xs1.length ≤ 1048576 by omega)
    clear hbig hl0 hl1
    have HB0 : Hid (Below w.heap.size w w) := hid (Below.refl _ _)
    go_wp2_with fail
    refine (drawRowvacuation_any _ xs0 _ (bytes_at HY0.out HB0.out) HS.out.1).mono ?_
    rintro e w1 ⟨u, us, s, rfl, hwf, ho, hl21, hb⟩
    have HB := hid (below_to HB0.out hb)
    have HIp := hid ho.ints
    obtain ⟨pA, pc, rfl, -⟩ := ho.ints
    clear ho hb  HB0
    have HWs := hid hwf
    have hl : us.length ≤ 1048576 := by omega
    clear hwf
    obtain ⟨B5, hB5⟩ : ∃ B5, w1.heap.size = B5 := ⟨_, rfl⟩
    go_wp2_with fail
    have HB2 := hid (below_alloc HB.out (.cells #[.slice pA us.length pc] 26))
    have HIp2 := hid (HIp.out.alloc (.cells #[.slice pA us.length pc] 26))
    have HKp2 : Hid (Blk (w1.alloc (.cells #[.slice pA us.length pc] 26)) B5 26 #[.slice pA us.length pc]) := hid (by rw [← hB5]; exact Blk.new w1 _ _)
    clear hB5 HB HIp
    have tKp3 := HKp2.out.cell 0
    cases hok : okRI us s
    · as_aux_lemma =>
        have HE : Hid (∀ f, ansSW f us s = 0) := hid (fun f => ansSW_no hok)
        have HO1 := hid hok
        clear hok
        go_wp2_with fail
        refine (implRowvacuation_any _ us s _ HIp2.out hl HWs.out).mono ?_
        rintro e w4 ⟨rfl, hb⟩
        rw [HE.out, HO1.out]
        have HB5 := hid (below_to HB2.out hb)
        have HIp5 := hid (HIp2.out.below hb)
        have HKp5 := hid (HKp2.out.below hb HKp2.out.lt)
        clear tKp3
        clear hb HB2 HIp2 HKp2
        have tKp6 := HKp5.out.cell 0
        go_wp2_with fail
        refine (specRowvacuation_any _ us s _ HIp5.out hl HWs.out).mono ?_
        rintro e w7 ⟨rfl, hb⟩
        rw [HE.out, HO1.out]
        have HB8 := hid (below_to HB5.out hb)
        have HIp8 := hid (HIp5.out.below hb)
        have HKp8 := hid (HKp5.out.below hb HKp5.out.lt)
        clear tKp6
        clear hb HB5 HIp5 HKp5
        have tKp9 := HKp8.out.cell 0
        go_wp2_with fail
        refine (implDualRowvacuation_any _ us s _ HIp8.out hl HWs.out).mono ?_
        rintro e w10 ⟨rfl, hb⟩
        rw [HE.out, HO1.out]
        have HB11 := hid (below_to HB8.out hb)
        have HIp11 := hid (HIp8.out.below hb)
        have HKp11 := hid (HKp8.out.below hb HKp8.out.lt)
        clear tKp9
        clear hb HB8 HIp8 HKp8
        have tKp12 := HKp11.out.cell 0
        go_wp2_with fail
        refine (specDualRowvacuation_any _ us s _ HIp11.out hl HWs.out).mono ?_
        rintro e w13 ⟨rfl, hb⟩
        rw [HE.out, HO1.out]
        have HB14 := hid (below_to HB11.out hb)
        have HIp14 := hid (HIp11.out.below hb)
        have HKp14 := hid (HKp11.out.below hb HKp11.out.lt)
        clear tKp12
        clear hb HB11 HIp11 HKp11
        have tKp15 := HKp14.out.cell 0
        clear HO1 HWs hl hl21 HE tKp15 HIp14 HKp14
        as_aux_lemma =>
          go_wp2_with fail
          refine (drawRowvacuationWord_any _ xs1 _ (bytes_at HY1.out HB14.out) HS.out.2).mono ?_
          rintro e w16 ⟨u, us, rfl, ho, hl21, hb⟩
          have HB := hid (below_to HB14.out hb)
          have HIp := hid ho.ints
          obtain ⟨pA, pc, rfl, -⟩ := ho.ints
          clear ho hb  HB14
          have hl : us.length ≤ 1048576 := by omega
          obtain ⟨B6, hB6⟩ : ∃ B6, w16.heap.size = B6 := ⟨_, rfl⟩
          go_wp2_with fail
          have HB17 := hid (below_alloc HB.out (.cells #[.slice pA us.length pc] 26))
          have HIp17 := hid (HIp.out.alloc (.cells #[.slice pA us.length pc] 26))
          have HKp17 : Hid (Blk (w16.alloc (.cells #[.slice pA us.length pc] 26)) B6 26 #[.slice pA us.length pc]) := hid (by rw [← hB6]; exact Blk.new w16 _ _)
          clear hB6 HB HIp
          have tKp18 := HKp17.out.cell 0
          cases hrw : okRW us
          · as_aux_lemma =>
              have HRw := hid hrw
              clear hrw
              go_wp2_with fail
              refine (implRowvacuationWord_any _ us _ HIp17.out hl).mono ?_
              rintro e w19 ⟨ua, rfl, ho, hla, hb⟩
              rw [HRw.out]
              have HIa := hid ho.ints
              obtain ⟨Aa, ca, rfl, -⟩ := ho.ints
              obtain ⟨na, hna⟩ : ∃ n, (ansRW us).length = n := ⟨_, rfl⟩
              rw [hna] at HIa hla ⊢
              have HNa := hid hna
              clear ho hna
              have HB20 := hid (below_to HB17.out hb)
              have HIp20 := hid (HIp17.out.below hb)
              have HKp20 := hid (HKp17.out.below hb HKp17.out.lt)
              clear tKp18
              clear hb HB17 HIp17 HKp17
              have tKp21 := HKp20.out.cell 0
              go_wp2_with fail
              refine (specRowvacuationWord_any _ us _ HIp20.out hl).mono ?_
              rintro e w22 ⟨ub, rfl, ho, hlb, hb⟩
              rw [HRw.out]
              have HIb := hid ho.ints
              obtain ⟨Ab, cb, rfl, -⟩ := ho.ints
              obtain ⟨nb, hnb⟩ : ∃ n, (ansRW us).length = n := ⟨_, rfl⟩
              rw [hnb] at HIb hlb ⊢
              have HNb := hid hnb
              clear ho hnb
              have HB23 := hid (below_to HB20.out hb)
              have HIp23 := hid (HIp20.out.below hb)
              have HKp23 := hid (HKp20.out.below hb HKp20.out.lt)
              have HIa23 := hid (HIa.out.below hb)
              clear tKp21
              clear hb HB20 HIp20 HKp20 HIa
              have tKp24 := HKp23.out.cell 0
              go_wp2_with fail
              refine (nSame_any _ _ (ansRW us) _ HIa23.out HIb.out (by rw [HNa.out]; exact hla)).mono ?_
              rintro e w25 ⟨rfl, hb⟩
              have HB26 := hid (below_to HB23.out hb)
              have HIp26 := hid (HIp23.out.below hb)
              have HKp26 := hid (HKp23.out.below hb HKp23.out.lt)
              have HIa26 := hid (HIa23.out.below hb)
              have HIb26 := hid (HIb.out.below hb)
              clear tKp24
              clear hb HB23 HIp23 HKp23 HIa23 HIb
              have tKp27 := HKp26.out.cell 0
              clear HNb hlb HIb26
              clear HRw HNa hla hl hl21 tKp27 HIp26 HKp26 HIa26
              as_aux_lemma =>
                go_wp2_with fail
                refine (drawFixedByRowvacuation_any _ xs1 _ (bytes_at HY1.out HB26.out) HS.out.2).mono ?_
                rintro e w28 ⟨u, us, rfl, ho, hl21, hb⟩
                have HB := hid (below_to HB26.out hb)
                have HIp := hid ho.ints
                obtain ⟨pA, pc, rfl, -⟩ := ho.ints
                clear ho hb  HB26
                have hl : us.length ≤ 1048576 := by omega
                obtain ⟨b1, hb1⟩ : ∃ b, okRk us = b := ⟨_, rfl⟩
                have Hb1 := hid hb1
                clear hb1
                obtain ⟨B6, hB6⟩ : ∃ B6, w28.heap.size = B6 := ⟨_, rfl⟩
                go_wp2_with fail
                have HB29 := hid (below_alloc HB.out (.cells #[.slice pA us.length pc] 26))
                have HIp29 := hid (HIp.out.alloc (.cells #[.slice pA us.length pc] 26))
                have HKp29 : Hid (Blk (w28.alloc (.cells #[.slice pA us.length pc] 26)) B6 26 #[.slice pA us.length pc]) := hid (by rw [← hB6]; exact Blk.new w28 _ _)
                clear hB6 HB HIp
                have tKp30 := HKp29.out.cell 0
                go_wp2_with fail
                refine (implFixedByRowvacuation_any _ us _ HIp29.out hl).mono ?_
                rintro e w31 ⟨ua, rfl, ho, hla, hb⟩
                rw [Hb1.out]
                have HIa := hid ho.ints
                obtain ⟨Aa, ca, rfl, -⟩ := ho.ints
                obtain ⟨na, hna⟩ : ∃ n, (ansFR us).length = n := ⟨_, rfl⟩
                rw [hna] at HIa hla ⊢
                have HNa := hid hna
                clear ho hna
                have HB32 := hid (below_to HB29.out hb)
                have HIp32 := hid (HIp29.out.below hb)
                have HKp32 := hid (HKp29.out.below hb HKp29.out.lt)
                clear tKp30
                clear hb HB29 HIp29 HKp29
                have tKp33 := HKp32.out.cell 0
                go_wp2_with fail
                refine (specFixedByRowvacuation_any _ us _ HIp32.out hl).mono ?_
                rintro e w34 ⟨ub, rfl, ho, hlb, hb⟩
                rw [Hb1.out]
                have HIb := hid ho.ints
                obtain ⟨Ab, cb, rfl, -⟩ := ho.ints
                obtain ⟨nb, hnb⟩ : ∃ n, (ansFR us).length = n := ⟨_, rfl⟩
                rw [hnb] at HIb hlb ⊢
                have HNb := hid hnb
                clear ho hnb
                have HB35 := hid (below_to HB32.out hb)
                have HIp35 := hid (HIp32.out.below hb)
                have HKp35 := hid (HKp32.out.below hb HKp32.out.lt)
                have HIa35 := hid (HIa.out.below hb)
                clear tKp33
                clear hb HB32 HIp32 HKp32 HIa
                have tKp36 := HKp35.out.cell 0
                go_wp2_with fail
                refine (nSame_any _ _ (ansFR us) _ HIa35.out HIb.out (by rw [HNa.out]; exact hla)).mono ?_
                rintro e w37 ⟨rfl, hb⟩
                have HB38 := hid (below_to HB35.out hb)
                have HIp38 := hid (HIp35.out.below hb)
                have HKp38 := hid (HKp35.out.below hb HKp35.out.lt)
                have HIa38 := hid (HIa35.out.below hb)
                have HIb38 := hid (HIb.out.below hb)
                clear tKp36
                clear hb HB35 HIp35 HKp35 HIa35 HIb
                have tKp39 := HKp38.out.cell 0
                clear HNb hlb Hb1 HIb38
                go_wp2
                clear tKp39
                go_loopw [325] (fun i wr => ∃ k : Nat, k ≤ na ∧ i = .int .i64 (k : Int) ∧ Below w37.heap.size w37 wr) (fun i _ => na - (intOf i).toNat)
                case atStart => exact ⟨0, Nat.zero_le _, rfl, Below.refl _ _⟩
                case round =>
                  obtain ⟨k, hk, rfl, hb⟩ := hrel
                  by_cases hlt : k < na
                  · skip
                    as_aux_lemma =>
                      have HBW0 := hid (Below.refl w37.heap.size w37)
                      obtain ⟨bA, oA, ho1⟩ : ∃ bA oA, Aa = some ⟨bA, oA, none⟩ := by
                        obtain ⟨Aa', ca', ea, hca⟩ := HIa38.out
                        obtain ⟨bA, oA, e2, -, -⟩ := hca (by intro h; have := congrArg List.length h; rw [HNa.out] at this; simp at this; omega)
                        injection ea with ea1 ea2 ea3
                        exact ⟨bA, oA, by rw [ea1, e2]⟩
                      subst ho1
                      have HB40 := hid (below_to HB38.out hb)
                      have HIp40 := hid (HIp38.out.below hb)
                      have HKp40 := hid (HKp38.out.below hb HKp38.out.lt)
                      have HIa40 := hid (HIa38.out.below hb)
                      have HBW40 := hid (below_to HBW0.out hb)
                      clear hb HB38 HIp38 HKp38 HIa38 HBW0
                      have tKp41 := HKp40.out.cell 0
                      obtain ⟨z, hz1, hz2, hz3, hz4⟩ := fixFacts k (show k < (ansFR us).length by rw [HNa.out]; exact hlt)
                      have HZ1 := hid hz1
                      have HZ3 := hid hz3
                      have HZ4 := hid hz4
                      clear hz1 hz3 hz4
                      have ck := ints_cell HIa40.out (show k < _ by rw [HNa.out]; exact hlt)
                      rw [HZ1.out] at ck
                      go_wp2_with fail
                      refine (implRowvacuation_any _ us (z : Int) _ HIp40.out hl (wf_i64 _ (by omega) (by omega))).mono ?_
                      rintro e w42 ⟨rfl, hb⟩
                      rw [HZ4.out, HZ3.out]
                      have HB43 := hid (below_to HB40.out hb)
                      have HIp43 := hid (HIp40.out.below hb)
                      have HKp43 := hid (HKp40.out.below hb HKp40.out.lt)
                      have HIa43 := hid (HIa40.out.below hb)
                      have HBW43 := hid (below_to HBW40.out hb)
                      clear tKp41 ck
                      clear hb HB40 HIp40 HKp40 HIa40 HBW40
                      have tKp44 := HKp43.out.cell 0
                      by_cases hk0 : 0 < k
                      · obtain ⟨x, hx1, hx2, -, -⟩ := fixFacts (k - 1) (show k - 1 < (ansFR us).length by rw [HNa.out]; omega)
                        have hxz := fixRise (xs := us) (show k - 1 < k by omega) (show k < (ansFR us).length by rw [HNa.out]; exact hlt)
                        rw [hx1, HZ1.out] at hxz
                        have cx := ints_cell HIa43.out (show k - 1 < _ by rw [HNa.out]; omega)
                        rw [hx1] at cx
                        have hkk : ((k : Int) - 1).toNat = k - 1 := by omega
                        clear hx1 HZ1 HZ3 HZ4
                        go_wp2
                        go_roundw
                        case rel => exact ⟨k + 1, by omega, by go_num, HBW43.out⟩
                        case measure => simp [intOf] <;> omega
                      · clear HZ1 HZ3 HZ4
                        go_wp2
                        go_roundw
                        case rel => exact ⟨k + 1, by omega, by go_num, HBW43.out⟩
                        case measure => simp [intOf] <;> omega
                  · as_aux_lemma =>
                      have HB := hid (below_to HB38.out hb)
                      clear hb HNa hla hl hl21 HB38 HIp38 HKp38 HIa38
                      as_aux_lemma =>
                        go_wp2_with fail
                        refine (drawDualIdeal_any _ xs1 _ (bytes_at HY1.out HB.out) HS.out.2).mono ?_
                        rintro e w45 ⟨u, us, s2, rfl, hwf, ho, hl21, hb⟩
                        have HB := hid (below_to HB.out hb)
                        have HIp := hid ho.ints
                        obtain ⟨pA, pc, rfl, -⟩ := ho.ints
                        clear ho hb 
                        have HWs := hid hwf
                        have hl : us.length ≤ 1048576 := by omega
                        clear hwf
                        obtain ⟨B6, hB6⟩ : ∃ B6, w45.heap.size = B6 := ⟨_, rfl⟩
                        go_wp2_with fail
                        have HB46 := hid (below_alloc HB.out (.cells #[.slice pA us.length pc] 26))
                        have HIp46 := hid (HIp.out.alloc (.cells #[.slice pA us.length pc] 26))
                        have HKp46 : Hid (Blk (w45.alloc (.cells #[.slice pA us.length pc] 26)) B6 26 #[.slice pA us.length pc]) := hid (by rw [← hB6]; exact Blk.new w45 _ _)
                        clear hB6 HB HIp
                        have tKp47 := HKp46.out.cell 0
                        cases hoi : okIdeal us s2
                        · as_aux_lemma =>
                            have HE : Hid (∀ f, ansDU us s2 f = 0) := hid (fun f => ansDU_no hoi)
                            have HO := hid hoi
                            clear hoi
                            go_wp2_with fail
                            refine (implDualIdeal_any _ us s2 _ HIp46.out hl HWs.out).mono ?_
                            rintro e w48 ⟨rfl, hb⟩
                            rw [HE.out, HO.out]
                            have HB49 := hid (below_to HB46.out hb)
                            have HIp49 := hid (HIp46.out.below hb)
                            have HKp49 := hid (HKp46.out.below hb HKp46.out.lt)
                            clear tKp47
                            clear hb HB46 HIp46 HKp46
                            have tKp50 := HKp49.out.cell 0
                            go_wp2_with fail
                            refine (specDualIdeal_any _ us s2 _ HIp49.out hl HWs.out).mono ?_
                            rintro e w51 ⟨rfl, hb⟩
                            rw [HE.out, HO.out]
                            have HB52 := hid (below_to HB49.out hb)
                            have HIp52 := hid (HIp49.out.below hb)
                            have HKp52 := hid (HKp49.out.below hb HKp49.out.lt)
                            clear tKp50
                            clear hb HB49 HIp49 HKp49
                            have tKp53 := HKp52.out.cell 0
                            go_wp2_with fail
                            refine (implRowOnDual_any _ us s2 _ HIp52.out hl HWs.out).mono ?_
                            rintro e w54 ⟨rfl, hb⟩
                            rw [HE.out, HO.out]
                            have HB55 := hid (below_to HB52.out hb)
                            have HIp55 := hid (HIp52.out.below hb)
                            have HKp55 := hid (HKp52.out.below hb HKp52.out.lt)
                            clear tKp53
                            clear hb HB52 HIp52 HKp52
                            have tKp56 := HKp55.out.cell 0
                            go_wp2_with fail
                            refine (specRowOnDual_any _ us s2 _ HIp55.out hl HWs.out).mono ?_
                            rintro e w57 ⟨rfl, hb⟩
                            rw [HE.out, HO.out]
                            have HB58 := hid (below_to HB55.out hb)
                            have HIp58 := hid (HIp55.out.below hb)
                            have HKp58 := hid (HKp55.out.below hb HKp55.out.lt)
                            clear tKp56
                            clear hb HB55 HIp55 HKp55
                            have tKp59 := HKp58.out.cell 0
                            clear HO HE HWs hl hl21 tKp59 HIp58 HKp58
                            go_wp2
                            go_ret
                            exact ⟨ret_bool (by simp), HB58.out⟩
                        · as_aux_lemma =>
                            obtain ⟨z, rfl, hg, hz, hi⟩ := okIdeal_all hoi
                            obtain ⟨D, R, f1, f2, f3, f4, f5, f6, f7, hD10, f8⟩ := dualFacts hg hz hi
                            have hz10 := lt1024 hz (good_length hg).2
                            have HG := hid hg
                            have HO := hid f1
                            have HE1 := hid f2
                            have HE2 := hid f3
                            have HO2 := hid f4
                            have HE3 := hid f5
                            have HE4 := hid f6
                            have HE5 := hid f7
                            have HE6 := hid f8
                            clear hoi hg hz hi f1 f2 f3 f4 f5 f6 f7 f8
                            go_wp2_with fail
                            refine (implDualIdeal_any _ us (z : Int) _ HIp46.out hl HWs.out).mono ?_
                            rintro e w60 ⟨rfl, hb⟩
                            rw [HE1.out, HO.out]
                            have HB61 := hid (below_to HB46.out hb)
                            have HIp61 := hid (HIp46.out.below hb)
                            have HKp61 := hid (HKp46.out.below hb HKp46.out.lt)
                            clear tKp47
                            clear hb HB46 HIp46 HKp46
                            have tKp62 := HKp61.out.cell 0
                            go_wp2_with fail
                            refine (specDualIdeal_any _ us (z : Int) _ HIp61.out hl HWs.out).mono ?_
                            rintro e w63 ⟨rfl, hb⟩
                            rw [HE1.out, HO.out]
                            have HB64 := hid (below_to HB61.out hb)
                            have HIp64 := hid (HIp61.out.below hb)
                            have HKp64 := hid (HKp61.out.below hb HKp61.out.lt)
                            clear tKp62
                            clear hb HB61 HIp61 HKp61
                            have tKp65 := HKp64.out.cell 0
                            go_wp2_with fail
                            refine (implRowOnDual_any _ us (z : Int) _ HIp64.out hl HWs.out).mono ?_
                            rintro e w66 ⟨rfl, hb⟩
                            rw [HE2.out, HO.out]
                            have HB67 := hid (below_to HB64.out hb)
                            have HIp67 := hid (HIp64.out.below hb)
                            have HKp67 := hid (HKp64.out.below hb HKp64.out.lt)
                            clear tKp65
                            clear hb HB64 HIp64 HKp64
                            have tKp68 := HKp67.out.cell 0
                            go_wp2_with fail
                            refine (specRowOnDual_any _ us (z : Int) _ HIp67.out hl HWs.out).mono ?_
                            rintro e w69 ⟨rfl, hb⟩
                            rw [HE2.out, HO.out]
                            have HB70 := hid (below_to HB67.out hb)
                            have HIp70 := hid (HIp67.out.below hb)
                            have HKp70 := hid (HKp67.out.below hb HKp67.out.lt)
                            clear tKp68
                            clear hb HB67 HIp67 HKp67
                            have tKp71 := HKp70.out.cell 0
                            go_wp2_with fail
                            refine (implDualOf_any _ us _ HIp70.out hl).mono ?_
                            rintro e w72 ⟨q, rfl, ho, -, hb⟩
                            rw [HG.out]
                            have HIq := hid ho.ints
                            obtain ⟨qA, qc, rfl, -⟩ := ho.ints
                            clear ho
                            have HB73 := hid (below_to HB70.out hb)
                            have HIp73 := hid (HIp70.out.below hb)
                            have HKp73 := hid (HKp70.out.below hb HKp70.out.lt)
                            clear tKp71
                            clear hb HB70 HIp70 HKp70
                            have tKp74 := HKp73.out.cell 0
                            obtain ⟨ds, hds⟩ : ∃ l, dualL us = l := ⟨_, rfl⟩
                            rw [hds] at HIq HO2 HE3 HE4 HE5 HE6 ⊢
                            have hdl : ds.length ≤ 1048576 := by rw [HE6.out]; exact hl
                            clear hds
                            obtain ⟨B7, hB7⟩ : ∃ B7, w72.heap.size = B7 := ⟨_, rfl⟩
                            go_wp2_with fail
                            have HB75 := hid (below_alloc HB73.out (.cells #[.slice qA ds.length qc] 26))
                            have HIp75 := hid (HIp73.out.alloc (.cells #[.slice qA ds.length qc] 26))
                            have HKp75 := hid (HKp73.out.alloc (.cells #[.slice qA ds.length qc] 26))
                            have HIq75 := hid (HIq.out.alloc (.cells #[.slice qA ds.length qc] 26))
                            have HKq75 : Hid (Blk (w72.alloc (.cells #[.slice qA ds.length qc] 26)) B7 26 #[.slice qA ds.length qc]) := hid (by rw [← hB7]; exact Blk.new w72 _ _)
                            clear tKp74
                            clear hB7 HB73 HIp73 HKp73 HIq
                            have tKp76 := HKp75.out.cell 0
                            have tKq77 := HKq75.out.cell 0
                            go_wp2_with fail
                            refine (implDualIdeal_any _ ds (D : Int) _ HIq75.out hdl (wf_i64 _ (by omega) (by omega))).mono ?_
                            rintro e w78 ⟨rfl, hb⟩
                            rw [HE3.out, HO2.out]
                            have HB79 := hid (below_to HB75.out hb)
                            have HIp79 := hid (HIp75.out.below hb)
                            have HKp79 := hid (HKp75.out.below hb HKp75.out.lt)
                            have HIq79 := hid (HIq75.out.below hb)
                            have HKq79 := hid (HKq75.out.below hb HKq75.out.lt)
                            clear tKp76 tKq77
                            clear hb HB75 HIp75 HKp75 HIq75 HKq75
                            have tKp80 := HKp79.out.cell 0
                            have tKq81 := HKq79.out.cell 0
                            go_wp2_with fail
                            refine (implRowmotion_any _ ds (D : Int) _ HIq79.out hdl (wf_i64 _ (by omega) (by omega))).mono ?_
                            rintro e w82 ⟨rfl, hb⟩
                            rw [HE4.out, HO2.out]
                            have HB83 := hid (below_to HB79.out hb)
                            have HIp83 := hid (HIp79.out.below hb)
                            have HKp83 := hid (HKp79.out.below hb HKp79.out.lt)
                            have HIq83 := hid (HIq79.out.below hb)
                            have HKq83 := hid (HKq79.out.below hb HKq79.out.lt)
                            clear tKp80 tKq81
                            clear hb HB79 HIp79 HKp79 HIq79 HKq79
                            have tKp84 := HKp83.out.cell 0
                            have tKq85 := HKq83.out.cell 0
                            go_wp2_with fail
                            refine (nIdeal_any _ ds (D : Int) _ HIq83.out hdl (wf_i64 _ (by omega) (by omega))).mono ?_
                            rintro e w86 ⟨rfl, hb⟩
                            rw [HE5.out]
                            have HB87 := hid (below_to HB83.out hb)
                            have HIp87 := hid (HIp83.out.below hb)
                            have HKp87 := hid (HKp83.out.below hb HKp83.out.lt)
                            have HIq87 := hid (HIq83.out.below hb)
                            have HKq87 := hid (HKq83.out.below hb HKq83.out.lt)
                            clear tKp84 tKq85
                            clear hb HB83 HIp83 HKp83 HIq83 HKq83
                            have tKp88 := HKp87.out.cell 0
                            have tKq89 := HKq87.out.cell 0
                            clear tKp88 tKq89
                            go_wp2
                            go_ret
                            exact ⟨ret_bool (by simp), HB87.out⟩
          · as_aux_lemma =>
              have HRw := hid hrw
              obtain ⟨M, hM1, hM2, f1, f2, f3, f4⟩ := wholeFacts hrw
              obtain ⟨R, hR⟩ : ∃ R, ansSW wVac us (M : Int) = R := ⟨_, rfl⟩
              rw [hR] at f3
              have HF1 := hid f1
              have HF2 := hid f2
              have HF3 := hid f3
              have HR := hid hR
              have hw1 : wrap64 ((2 : Int) ^ us.length) = (M : Int) + 1 := by rw [wrap_pow us.length f4, hM1]; rfl
              have HW1 := hid hw1
              clear f1 f2 f3 hR hM1 hw1
              clear hrw
              go_wp2_with fail
              refine (implRowvacuationWord_any _ us _ HIp17.out hl).mono ?_
              rintro e w90 ⟨ua, rfl, ho, hla, hb⟩
              rw [HRw.out]
              have HIa := hid ho.ints
              obtain ⟨Aa, ca, rfl, -⟩ := ho.ints
              obtain ⟨na, hna⟩ : ∃ n, (ansRW us).length = n := ⟨_, rfl⟩
              rw [hna] at HIa hla ⊢
              have HNa := hid hna
              clear ho hna
              have HB91 := hid (below_to HB17.out hb)
              have HIp91 := hid (HIp17.out.below hb)
              have HKp91 := hid (HKp17.out.below hb HKp17.out.lt)
              clear tKp18
              clear hb HB17 HIp17 HKp17
              have tKp92 := HKp91.out.cell 0
              go_wp2_with fail
              refine (specRowvacuationWord_any _ us _ HIp91.out hl).mono ?_
              rintro e w93 ⟨ub, rfl, ho, hlb, hb⟩
              rw [HRw.out]
              have HIb := hid ho.ints
              obtain ⟨Ab, cb, rfl, -⟩ := ho.ints
              obtain ⟨nb, hnb⟩ : ∃ n, (ansRW us).length = n := ⟨_, rfl⟩
              rw [hnb] at HIb hlb ⊢
              have HNb := hid hnb
              clear ho hnb
              have HB94 := hid (below_to HB91.out hb)
              have HIp94 := hid (HIp91.out.below hb)
              have HKp94 := hid (HKp91.out.below hb HKp91.out.lt)
              have HIa94 := hid (HIa.out.below hb)
              clear tKp92
              clear hb HB91 HIp91 HKp91 HIa
              have tKp95 := HKp94.out.cell 0
              go_wp2_with fail
              refine (nSame_any _ _ (ansRW us) _ HIa94.out HIb.out (by rw [HNa.out]; exact hla)).mono ?_
              rintro e w96 ⟨rfl, hb⟩
              have HB97 := hid (below_to HB94.out hb)
              have HIp97 := hid (HIp94.out.below hb)
              have HKp97 := hid (HKp94.out.below hb HKp94.out.lt)
              have HIa97 := hid (HIa94.out.below hb)
              have HIb97 := hid (HIb.out.below hb)
              clear tKp95
              clear hb HB94 HIp94 HKp94 HIa94 HIb
              have tKp98 := HKp97.out.cell 0
              clear HNb hlb HIb97
              have hw1 := HW1.out
              go_wp2_with fail
              refine (implToggleRanks_any _ us (M : Int) _ (ansRW us) _ HIp97.out hl (wf_i64 _ (by omega) (by omega)) HIa97.out (by rw [HNa.out]; exact hla)).mono ?_
              rintro e w99 ⟨rfl, hb⟩
              rw [HF3.out, HF1.out]
              have HB100 := hid (below_to HB97.out hb)
              have HIp100 := hid (HIp97.out.below hb)
              have HKp100 := hid (HKp97.out.below hb HKp97.out.lt)
              have HIa100 := hid (HIa97.out.below hb)
              clear tKp98
              clear hb HB97 HIp97 HKp97 HIa97
              have tKp101 := HKp100.out.cell 0
              go_wp2_with fail
              refine (implRowvacuation_any _ us (M : Int) _ HIp100.out hl (wf_i64 _ (by omega) (by omega))).mono ?_
              rintro e w102 ⟨rfl, hb⟩
              rw [HR.out, HF2.out]
              have HB103 := hid (below_to HB100.out hb)
              have HIp103 := hid (HIp100.out.below hb)
              have HKp103 := hid (HKp100.out.below hb HKp100.out.lt)
              have HIa103 := hid (HIa100.out.below hb)
              clear tKp101
              clear hb HB100 HIp100 HKp100 HIa100
              have tKp104 := HKp103.out.cell 0
              clear HF1 HF2 HF3 HR HW1 hw1 hM2 f4
              clear HRw HNa hla hl hl21 tKp104 HIp103 HKp103 HIa103
              as_aux_lemma =>
                go_wp2_with fail
                refine (drawFixedByRowvacuation_any _ xs1 _ (bytes_at HY1.out HB103.out) HS.out.2).mono ?_
                rintro e w105 ⟨u, us, rfl, ho, hl21, hb⟩
                have HB := hid (below_to HB103.out hb)
                have HIp := hid ho.ints
                obtain ⟨pA, pc, rfl, -⟩ := ho.ints
                clear ho hb  HB103
                have hl : us.length ≤ 1048576 := by omega
                obtain ⟨b1, hb1⟩ : ∃ b, okRk us = b := ⟨_, rfl⟩
                have Hb1 := hid hb1
                clear hb1
                obtain ⟨B6, hB6⟩ : ∃ B6, w105.heap.size = B6 := ⟨_, rfl⟩
                go_wp2_with fail
                have HB106 := hid (below_alloc HB.out (.cells #[.slice pA us.length pc] 26))
                have HIp106 := hid (HIp.out.alloc (.cells #[.slice pA us.length pc] 26))
                have HKp106 : Hid (Blk (w105.alloc (.cells #[.slice pA us.length pc] 26)) B6 26 #[.slice pA us.length pc]) := hid (by rw [← hB6]; exact Blk.new w105 _ _)
                clear hB6 HB HIp
                have tKp107 := HKp106.out.cell 0
                go_wp2_with fail
                refine (implFixedByRowvacuation_any _ us _ HIp106.out hl).mono ?_
                rintro e w108 ⟨ua, rfl, ho, hla, hb⟩
                rw [Hb1.out]
                have HIa := hid ho.ints
                obtain ⟨Aa, ca, rfl, -⟩ := ho.ints
                obtain ⟨na, hna⟩ : ∃ n, (ansFR us).length = n := ⟨_, rfl⟩
                rw [hna] at HIa hla ⊢
                have HNa := hid hna
                clear ho hna
                have HB109 := hid (below_to HB106.out hb)
                have HIp109 := hid (HIp106.out.below hb)
                have HKp109 := hid (HKp106.out.below hb HKp106.out.lt)
                clear tKp107
                clear hb HB106 HIp106 HKp106
                have tKp110 := HKp109.out.cell 0
                go_wp2_with fail
                refine (specFixedByRowvacuation_any _ us _ HIp109.out hl).mono ?_
                rintro e w111 ⟨ub, rfl, ho, hlb, hb⟩
                rw [Hb1.out]
                have HIb := hid ho.ints
                obtain ⟨Ab, cb, rfl, -⟩ := ho.ints
                obtain ⟨nb, hnb⟩ : ∃ n, (ansFR us).length = n := ⟨_, rfl⟩
                rw [hnb] at HIb hlb ⊢
                have HNb := hid hnb
                clear ho hnb
                have HB112 := hid (below_to HB109.out hb)
                have HIp112 := hid (HIp109.out.below hb)
                have HKp112 := hid (HKp109.out.below hb HKp109.out.lt)
                have HIa112 := hid (HIa.out.below hb)
                clear tKp110
                clear hb HB109 HIp109 HKp109 HIa
                have tKp113 := HKp112.out.cell 0
                go_wp2_with fail
                refine (nSame_any _ _ (ansFR us) _ HIa112.out HIb.out (by rw [HNa.out]; exact hla)).mono ?_
                rintro e w114 ⟨rfl, hb⟩
                have HB115 := hid (below_to HB112.out hb)
                have HIp115 := hid (HIp112.out.below hb)
                have HKp115 := hid (HKp112.out.below hb HKp112.out.lt)
                have HIa115 := hid (HIa112.out.below hb)
                have HIb115 := hid (HIb.out.below hb)
                clear tKp113
                clear hb HB112 HIp112 HKp112 HIa112 HIb
                have tKp116 := HKp115.out.cell 0
                clear HNb hlb Hb1 HIb115
                go_wp2
                clear tKp116
                go_loopw [325] (fun i wr => ∃ k : Nat, k ≤ na ∧ i = .int .i64 (k : Int) ∧ Below w114.heap.size w114 wr) (fun i _ => na - (intOf i).toNat)
                case atStart => exact ⟨0, Nat.zero_le _, rfl, Below.refl _ _⟩
                case round =>
                  obtain ⟨k, hk, rfl, hb⟩ := hrel
                  by_cases hlt : k < na
                  · skip
                    as_aux_lemma =>
                      have HBW0 := hid (Below.refl w114.heap.size w114)
                      obtain ⟨bA, oA, ho1⟩ : ∃ bA oA, Aa = some ⟨bA, oA, none⟩ := by
                        obtain ⟨Aa', ca', ea, hca⟩ := HIa115.out
                        obtain ⟨bA, oA, e2, -, -⟩ := hca (by intro h; have := congrArg List.length h; rw [HNa.out] at this; simp at this; omega)
                        injection ea with ea1 ea2 ea3
                        exact ⟨bA, oA, by rw [ea1, e2]⟩
                      subst ho1
                      have HB117 := hid (below_to HB115.out hb)
                      have HIp117 := hid (HIp115.out.below hb)
                      have HKp117 := hid (HKp115.out.below hb HKp115.out.lt)
                      have HIa117 := hid (HIa115.out.below hb)
                      have HBW117 := hid (below_to HBW0.out hb)
                      clear hb HB115 HIp115 HKp115 HIa115 HBW0
                      have tKp118 := HKp117.out.cell 0
                      obtain ⟨z, hz1, hz2, hz3, hz4⟩ := fixFacts k (show k < (ansFR us).length by rw [HNa.out]; exact hlt)
                      have HZ1 := hid hz1
                      have HZ3 := hid hz3
                      have HZ4 := hid hz4
                      clear hz1 hz3 hz4
                      have ck := ints_cell HIa117.out (show k < _ by rw [HNa.out]; exact hlt)
                      rw [HZ1.out] at ck
                      go_wp2_with fail
                      refine (implRowvacuation_any _ us (z : Int) _ HIp117.out hl (wf_i64 _ (by omega) (by omega))).mono ?_
                      rintro e w119 ⟨rfl, hb⟩
                      rw [HZ4.out, HZ3.out]
                      have HB120 := hid (below_to HB117.out hb)
                      have HIp120 := hid (HIp117.out.below hb)
                      have HKp120 := hid (HKp117.out.below hb HKp117.out.lt)
                      have HIa120 := hid (HIa117.out.below hb)
                      have HBW120 := hid (below_to HBW117.out hb)
                      clear tKp118 ck
                      clear hb HB117 HIp117 HKp117 HIa117 HBW117
                      have tKp121 := HKp120.out.cell 0
                      by_cases hk0 : 0 < k
                      · obtain ⟨x, hx1, hx2, -, -⟩ := fixFacts (k - 1) (show k - 1 < (ansFR us).length by rw [HNa.out]; omega)
                        have hxz := fixRise (xs := us) (show k - 1 < k by omega) (show k < (ansFR us).length by rw [HNa.out]; exact hlt)
                        rw [hx1, HZ1.out] at hxz
                        have cx := ints_cell HIa120.out (show k - 1 < _ by rw [HNa.out]; omega)
                        rw [hx1] at cx
                        have hkk : ((k : Int) - 1).toNat = k - 1 := by omega
                        clear hx1 HZ1 HZ3 HZ4
                        go_wp2
                        go_roundw
                        case rel => exact ⟨k + 1, by omega, by go_num, HBW120.out⟩
                        case measure => simp [intOf] <;> omega
                      · clear HZ1 HZ3 HZ4
                        go_wp2
                        go_roundw
                        case rel => exact ⟨k + 1, by omega, by go_num, HBW120.out⟩
                        case measure => simp [intOf] <;> omega
                  · as_aux_lemma =>
                      have HB := hid (below_to HB115.out hb)
                      clear hb HNa hla hl hl21 HB115 HIp115 HKp115 HIa115
                      as_aux_lemma =>
                        go_wp2_with fail
                        refine (drawDualIdeal_any _ xs1 _ (bytes_at HY1.out HB.out) HS.out.2).mono ?_
                        rintro e w122 ⟨u, us, s2, rfl, hwf, ho, hl21, hb⟩
                        have HB := hid (below_to HB.out hb)
                        have HIp := hid ho.ints
                        obtain ⟨pA, pc, rfl, -⟩ := ho.ints
                        clear ho hb 
                        have HWs := hid hwf
                        have hl : us.length ≤ 1048576 := by omega
                        clear hwf
                        obtain ⟨B6, hB6⟩ : ∃ B6, w122.heap.size = B6 := ⟨_, rfl⟩
                        go_wp2_with fail
                        have HB123 := hid (below_alloc HB.out (.cells #[.slice pA us.length pc] 26))
                        have HIp123 := hid (HIp.out.alloc (.cells #[.slice pA us.length pc] 26))
                        have HKp123 : Hid (Blk (w122.alloc (.cells #[.slice pA us.length pc] 26)) B6 26 #[.slice pA us.length pc]) := hid (by rw [← hB6]; exact Blk.new w122 _ _)
                        clear hB6 HB HIp
                        have tKp124 := HKp123.out.cell 0
                        cases hoi : okIdeal us s2
                        · as_aux_lemma =>
                            have HE : Hid (∀ f, ansDU us s2 f = 0) := hid (fun f => ansDU_no hoi)
                            have HO := hid hoi
                            clear hoi
                            go_wp2_with fail
                            refine (implDualIdeal_any _ us s2 _ HIp123.out hl HWs.out).mono ?_
                            rintro e w125 ⟨rfl, hb⟩
                            rw [HE.out, HO.out]
                            have HB126 := hid (below_to HB123.out hb)
                            have HIp126 := hid (HIp123.out.below hb)
                            have HKp126 := hid (HKp123.out.below hb HKp123.out.lt)
                            clear tKp124
                            clear hb HB123 HIp123 HKp123
                            have tKp127 := HKp126.out.cell 0
                            go_wp2_with fail
                            refine (specDualIdeal_any _ us s2 _ HIp126.out hl HWs.out).mono ?_
                            rintro e w128 ⟨rfl, hb⟩
                            rw [HE.out, HO.out]
                            have HB129 := hid (below_to HB126.out hb)
                            have HIp129 := hid (HIp126.out.below hb)
                            have HKp129 := hid (HKp126.out.below hb HKp126.out.lt)
                            clear tKp127
                            clear hb HB126 HIp126 HKp126
                            have tKp130 := HKp129.out.cell 0
                            go_wp2_with fail
                            refine (implRowOnDual_any _ us s2 _ HIp129.out hl HWs.out).mono ?_
                            rintro e w131 ⟨rfl, hb⟩
                            rw [HE.out, HO.out]
                            have HB132 := hid (below_to HB129.out hb)
                            have HIp132 := hid (HIp129.out.below hb)
                            have HKp132 := hid (HKp129.out.below hb HKp129.out.lt)
                            clear tKp130
                            clear hb HB129 HIp129 HKp129
                            have tKp133 := HKp132.out.cell 0
                            go_wp2_with fail
                            refine (specRowOnDual_any _ us s2 _ HIp132.out hl HWs.out).mono ?_
                            rintro e w134 ⟨rfl, hb⟩
                            rw [HE.out, HO.out]
                            have HB135 := hid (below_to HB132.out hb)
                            have HIp135 := hid (HIp132.out.below hb)
                            have HKp135 := hid (HKp132.out.below hb HKp132.out.lt)
                            clear tKp133
                            clear hb HB132 HIp132 HKp132
                            have tKp136 := HKp135.out.cell 0
                            clear HO HE HWs hl hl21 tKp136 HIp135 HKp135
                            go_wp2
                            go_ret
                            exact ⟨ret_bool (by simp), HB135.out⟩
                        · as_aux_lemma =>
                            obtain ⟨z, rfl, hg, hz, hi⟩ := okIdeal_all hoi
                            obtain ⟨D, R, f1, f2, f3, f4, f5, f6, f7, hD10, f8⟩ := dualFacts hg hz hi
                            have hz10 := lt1024 hz (good_length hg).2
                            have HG := hid hg
                            have HO := hid f1
                            have HE1 := hid f2
                            have HE2 := hid f3
                            have HO2 := hid f4
                            have HE3 := hid f5
                            have HE4 := hid f6
                            have HE5 := hid f7
                            have HE6 := hid f8
                            clear hoi hg hz hi f1 f2 f3 f4 f5 f6 f7 f8
                            go_wp2_with fail
                            refine (implDualIdeal_any _ us (z : Int) _ HIp123.out hl HWs.out).mono ?_
                            rintro e w137 ⟨rfl, hb⟩
                            rw [HE1.out, HO.out]
                            have HB138 := hid (below_to HB123.out hb)
                            have HIp138 := hid (HIp123.out.below hb)
                            have HKp138 := hid (HKp123.out.below hb HKp123.out.lt)
                            clear tKp124
                            clear hb HB123 HIp123 HKp123
                            have tKp139 := HKp138.out.cell 0
                            go_wp2_with fail
                            refine (specDualIdeal_any _ us (z : Int) _ HIp138.out hl HWs.out).mono ?_
                            rintro e w140 ⟨rfl, hb⟩
                            rw [HE1.out, HO.out]
                            have HB141 := hid (below_to HB138.out hb)
                            have HIp141 := hid (HIp138.out.below hb)
                            have HKp141 := hid (HKp138.out.below hb HKp138.out.lt)
                            clear tKp139
                            clear hb HB138 HIp138 HKp138
                            have tKp142 := HKp141.out.cell 0
                            go_wp2_with fail
                            refine (implRowOnDual_any _ us (z : Int) _ HIp141.out hl HWs.out).mono ?_
                            rintro e w143 ⟨rfl, hb⟩
                            rw [HE2.out, HO.out]
                            have HB144 := hid (below_to HB141.out hb)
                            have HIp144 := hid (HIp141.out.below hb)
                            have HKp144 := hid (HKp141.out.below hb HKp141.out.lt)
                            clear tKp142
                            clear hb HB141 HIp141 HKp141
                            have tKp145 := HKp144.out.cell 0
                            go_wp2_with fail
                            refine (specRowOnDual_any _ us (z : Int) _ HIp144.out hl HWs.out).mono ?_
                            rintro e w146 ⟨rfl, hb⟩
                            rw [HE2.out, HO.out]
                            have HB147 := hid (below_to HB144.out hb)
                            have HIp147 := hid (HIp144.out.below hb)
                            have HKp147 := hid (HKp144.out.below hb HKp144.out.lt)
                            clear tKp145
                            clear hb HB144 HIp144 HKp144
                            have tKp148 := HKp147.out.cell 0
                            go_wp2_with fail
                            refine (implDualOf_any _ us _ HIp147.out hl).mono ?_
                            rintro e w149 ⟨q, rfl, ho, -, hb⟩
                            rw [HG.out]
                            have HIq := hid ho.ints
                            obtain ⟨qA, qc, rfl, -⟩ := ho.ints
                            clear ho
                            have HB150 := hid (below_to HB147.out hb)
                            have HIp150 := hid (HIp147.out.below hb)
                            have HKp150 := hid (HKp147.out.below hb HKp147.out.lt)
                            clear tKp148
                            clear hb HB147 HIp147 HKp147
                            have tKp151 := HKp150.out.cell 0
                            obtain ⟨ds, hds⟩ : ∃ l, dualL us = l := ⟨_, rfl⟩
                            rw [hds] at HIq HO2 HE3 HE4 HE5 HE6 ⊢
                            have hdl : ds.length ≤ 1048576 := by rw [HE6.out]; exact hl
                            clear hds
                            obtain ⟨B7, hB7⟩ : ∃ B7, w149.heap.size = B7 := ⟨_, rfl⟩
                            go_wp2_with fail
                            have HB152 := hid (below_alloc HB150.out (.cells #[.slice qA ds.length qc] 26))
                            have HIp152 := hid (HIp150.out.alloc (.cells #[.slice qA ds.length qc] 26))
                            have HKp152 := hid (HKp150.out.alloc (.cells #[.slice qA ds.length qc] 26))
                            have HIq152 := hid (HIq.out.alloc (.cells #[.slice qA ds.length qc] 26))
                            have HKq152 : Hid (Blk (w149.alloc (.cells #[.slice qA ds.length qc] 26)) B7 26 #[.slice qA ds.length qc]) := hid (by rw [← hB7]; exact Blk.new w149 _ _)
                            clear tKp151
                            clear hB7 HB150 HIp150 HKp150 HIq
                            have tKp153 := HKp152.out.cell 0
                            have tKq154 := HKq152.out.cell 0
                            go_wp2_with fail
                            refine (implDualIdeal_any _ ds (D : Int) _ HIq152.out hdl (wf_i64 _ (by omega) (by omega))).mono ?_
                            rintro e w155 ⟨rfl, hb⟩
                            rw [HE3.out, HO2.out]
                            have HB156 := hid (below_to HB152.out hb)
                            have HIp156 := hid (HIp152.out.below hb)
                            have HKp156 := hid (HKp152.out.below hb HKp152.out.lt)
                            have HIq156 := hid (HIq152.out.below hb)
                            have HKq156 := hid (HKq152.out.below hb HKq152.out.lt)
                            clear tKp153 tKq154
                            clear hb HB152 HIp152 HKp152 HIq152 HKq152
                            have tKp157 := HKp156.out.cell 0
                            have tKq158 := HKq156.out.cell 0
                            go_wp2_with fail
                            refine (implRowmotion_any _ ds (D : Int) _ HIq156.out hdl (wf_i64 _ (by omega) (by omega))).mono ?_
                            rintro e w159 ⟨rfl, hb⟩
                            rw [HE4.out, HO2.out]
                            have HB160 := hid (below_to HB156.out hb)
                            have HIp160 := hid (HIp156.out.below hb)
                            have HKp160 := hid (HKp156.out.below hb HKp156.out.lt)
                            have HIq160 := hid (HIq156.out.below hb)
                            have HKq160 := hid (HKq156.out.below hb HKq156.out.lt)
                            clear tKp157 tKq158
                            clear hb HB156 HIp156 HKp156 HIq156 HKq156
                            have tKp161 := HKp160.out.cell 0
                            have tKq162 := HKq160.out.cell 0
                            go_wp2_with fail
                            refine (nIdeal_any _ ds (D : Int) _ HIq160.out hdl (wf_i64 _ (by omega) (by omega))).mono ?_
                            rintro e w163 ⟨rfl, hb⟩
                            rw [HE5.out]
                            have HB164 := hid (below_to HB160.out hb)
                            have HIp164 := hid (HIp160.out.below hb)
                            have HKp164 := hid (HKp160.out.below hb HKp160.out.lt)
                            have HIq164 := hid (HIq160.out.below hb)
                            have HKq164 := hid (HKq160.out.below hb HKq160.out.lt)
                            clear tKp161 tKq162
                            clear hb HB160 HIp160 HKp160 HIq160 HKq160
                            have tKp165 := HKp164.out.cell 0
                            have tKq166 := HKq164.out.cell 0
                            clear tKp165 tKq166
                            go_wp2
                            go_ret
                            exact ⟨ret_bool (by simp), HB164.out⟩
    · as_aux_lemma =>
        obtain ⟨z, rfl, hg, hr, hz, hi⟩ := okRI_all hok
        obtain ⟨h, hh, h9⟩ := rkN_some hg
        obtain ⟨V, U, N, K, Q, M, f1, f2, f3, f4, f5, f6, f7, f8, f9, f10, f11, f12, f13, f14, f15, f16, f17, f18, f19, b1, b2, b3, b4, b5, f20, f21, f22⟩ := vacFacts hg hr hh hz hi
        have hz10 := lt1024 hz (good_length hg).2
        have HO1 := hid f1
        have HO2 := hid f2
        have HO3 := hid f3
        have HO4 := hid f4
        have HO5 := hid f5
        have HO6 := hid f6
        have HO7 := hid f7
        have HO8 := hid f8
        have HE1 := hid f9
        have HE2 := hid f10
        have HE3 := hid f11
        have HE4 := hid f12
        have HE5 := hid f13
        have HE6 := hid f14
        have HE7 := hid f15
        have HE8 := hid f16
        have HE9 := hid f17
        have HE10 := hid f18
        have HE11 := hid f19
        have HE12 := hid f20
        have HE13 := hid f21
        have HO9 := hid f22
        clear hok hg hr hz hi hh f1 f2 f3 f4 f5 f6 f7 f8 f9 f10 f11 f12 f13 f14 f15 f16 f17 f18 f19 f20 f21 f22
        go_wp2_with fail
        refine (implRowvacuation_any _ us (z : Int) _ HIp2.out hl HWs.out).mono ?_
        rintro e w167 ⟨rfl, hb⟩
        rw [HE1.out, HO1.out]
        have HB168 := hid (below_to HB2.out hb)
        have HIp168 := hid (HIp2.out.below hb)
        have HKp168 := hid (HKp2.out.below hb HKp2.out.lt)
        clear tKp3
        clear hb HB2 HIp2 HKp2
        have tKp169 := HKp168.out.cell 0
        go_wp2_with fail
        refine (specRowvacuation_any _ us (z : Int) _ HIp168.out hl HWs.out).mono ?_
        rintro e w170 ⟨rfl, hb⟩
        rw [HE1.out, HO1.out]
        have HB171 := hid (below_to HB168.out hb)
        have HIp171 := hid (HIp168.out.below hb)
        have HKp171 := hid (HKp168.out.below hb HKp168.out.lt)
        clear tKp169
        clear hb HB168 HIp168 HKp168
        have tKp172 := HKp171.out.cell 0
        go_wp2_with fail
        refine (implDualRowvacuation_any _ us (z : Int) _ HIp171.out hl HWs.out).mono ?_
        rintro e w173 ⟨rfl, hb⟩
        rw [HE2.out, HO1.out]
        have HB174 := hid (below_to HB171.out hb)
        have HIp174 := hid (HIp171.out.below hb)
        have HKp174 := hid (HKp171.out.below hb HKp171.out.lt)
        clear tKp172
        clear hb HB171 HIp171 HKp171
        have tKp175 := HKp174.out.cell 0
        go_wp2_with fail
        refine (specDualRowvacuation_any _ us (z : Int) _ HIp174.out hl HWs.out).mono ?_
        rintro e w176 ⟨rfl, hb⟩
        rw [HE2.out, HO1.out]
        have HB177 := hid (below_to HB174.out hb)
        have HIp177 := hid (HIp174.out.below hb)
        have HKp177 := hid (HKp174.out.below hb HKp174.out.lt)
        clear tKp175
        clear hb HB174 HIp174 HKp174
        have tKp178 := HKp177.out.cell 0
        go_wp2_with fail
        refine (implRowvacuation_any _ us (V : Int) _ HIp177.out hl (wf_i64 _ (by omega) (by omega))).mono ?_
        rintro e w179 ⟨rfl, hb⟩
        rw [HE3.out, HO2.out]
        have HB180 := hid (below_to HB177.out hb)
        have HIp180 := hid (HIp177.out.below hb)
        have HKp180 := hid (HKp177.out.below hb HKp177.out.lt)
        clear tKp178
        clear hb HB177 HIp177 HKp177
        have tKp181 := HKp180.out.cell 0
        go_wp2_with fail
        refine (implDualRowvacuation_any _ us (U : Int) _ HIp180.out hl (wf_i64 _ (by omega) (by omega))).mono ?_
        rintro e w182 ⟨rfl, hb⟩
        rw [HE4.out, HO3.out]
        have HB183 := hid (below_to HB180.out hb)
        have HIp183 := hid (HIp180.out.below hb)
        have HKp183 := hid (HKp180.out.below hb HKp180.out.lt)
        clear tKp181
        clear hb HB180 HIp180 HKp180
        have tKp184 := HKp183.out.cell 0
        go_wp2_with fail
        refine (implRowmotion_any _ us (z : Int) _ HIp183.out hl (wf_i64 _ (by omega) (by omega))).mono ?_
        rintro e w185 ⟨rfl, hb⟩
        rw [HE5.out, HO4.out]
        have HB186 := hid (below_to HB183.out hb)
        have HIp186 := hid (HIp183.out.below hb)
        have HKp186 := hid (HKp183.out.below hb HKp183.out.lt)
        clear tKp184
        clear hb HB183 HIp183 HKp183
        have tKp187 := HKp186.out.cell 0
        go_wp2_with fail
        refine (implRowvacuation_any _ us (N : Int) _ HIp186.out hl (wf_i64 _ (by omega) (by omega))).mono ?_
        rintro e w188 ⟨rfl, hb⟩
        rw [HE6.out, HO5.out]
        have HB189 := hid (below_to HB186.out hb)
        have HIp189 := hid (HIp186.out.below hb)
        have HKp189 := hid (HKp186.out.below hb HKp186.out.lt)
        clear tKp187
        clear hb HB186 HIp186 HKp186
        have tKp190 := HKp189.out.cell 0
        go_wp2_with fail
        refine (implRowmotion_any _ us (K : Int) _ HIp189.out hl (wf_i64 _ (by omega) (by omega))).mono ?_
        rintro e w191 ⟨rfl, hb⟩
        rw [HE7.out, HO6.out]
        have HB192 := hid (below_to HB189.out hb)
        have HIp192 := hid (HIp189.out.below hb)
        have HKp192 := hid (HKp189.out.below hb HKp189.out.lt)
        clear tKp190
        clear hb HB189 HIp189 HKp189
        have tKp193 := HKp192.out.cell 0
        go_wp2_with fail
        refine (implDualRowvacuation_any _ us (N : Int) _ HIp192.out hl (wf_i64 _ (by omega) (by omega))).mono ?_
        rintro e w194 ⟨rfl, hb⟩
        rw [HE8.out, HO5.out]
        have HB195 := hid (below_to HB192.out hb)
        have HIp195 := hid (HIp192.out.below hb)
        have HKp195 := hid (HKp192.out.below hb HKp192.out.lt)
        clear tKp193
        clear hb HB192 HIp192 HKp192
        have tKp196 := HKp195.out.cell 0
        go_wp2_with fail
        refine (implRowmotion_any _ us (Q : Int) _ HIp195.out hl (wf_i64 _ (by omega) (by omega))).mono ?_
        rintro e w197 ⟨rfl, hb⟩
        rw [HE9.out, HO7.out]
        have HB198 := hid (below_to HB195.out hb)
        have HIp198 := hid (HIp195.out.below hb)
        have HKp198 := hid (HKp195.out.below hb HKp195.out.lt)
        clear tKp196
        clear hb HB195 HIp195 HKp195
        have tKp199 := HKp198.out.cell 0
        go_wp2_with fail
        refine (implRanksOf_any _ us _ HIp198.out hl).mono ?_
        rintro e w200 ⟨q, rfl, ho, -, hb⟩
        rw [HO9.out]
        obtain ⟨qA, qc, rfl, -⟩ := ho.shape
        rw [HE12.out, HE13.out]
        clear ho
        have HB201 := hid (below_to HB198.out hb)
        have HIp201 := hid (HIp198.out.below hb)
        have HKp201 := hid (HKp198.out.below hb HKp198.out.lt)
        clear tKp199
        clear hb HB198 HIp198 HKp198
        have tKp202 := HKp201.out.cell 0
        go_wp2_with fail
        refine (implDualRowvacuation_any _ us (V : Int) _ HIp201.out hl (wf_i64 _ (by omega) (by omega))).mono ?_
        rintro e w203 ⟨rfl, hb⟩
        rw [HE10.out, HO2.out]
        have HB204 := hid (below_to HB201.out hb)
        have HIp204 := hid (HIp201.out.below hb)
        have HKp204 := hid (HKp201.out.below hb HKp201.out.lt)
        clear tKp202
        clear hb HB201 HIp201 HKp201
        have tKp205 := HKp204.out.cell 0
        have hk : ((h : Int) + 1 + 1) = ((h + 2 : Nat) : Int) := by omega
        go_wp2_with fail
        refine (implRowmotionTimes_any _ us (z : Int) ((h + 2 : Nat) : Int) _ HIp204.out hl (wf_i64 _ (by omega) (by omega)) (wf_i64 _ (by omega) (by omega))).mono ?_
        rintro e w206 ⟨rfl, hb⟩
        rw [HE11.out, HO8.out]
        have HB207 := hid (below_to HB204.out hb)
        have HIp207 := hid (HIp204.out.below hb)
        have HKp207 := hid (HKp204.out.below hb HKp204.out.lt)
        clear tKp205
        clear hb HB204 HIp204 HKp204
        have tKp208 := HKp207.out.cell 0
        clear HO2 HO3 HO4 HO5 HO6 HO7 HO8 HO9 HE1 HE2 HE3 HE4 HE5 HE6 HE7 HE8 HE9 HE10 HE11 HE12 HE13 b1 b2 b3 b4 b5 hz10 h9 hk
        clear HO1 HWs hl hl21 tKp208 HIp207 HKp207
        as_aux_lemma =>
          go_wp2_with fail
          refine (drawRowvacuationWord_any _ xs1 _ (bytes_at HY1.out HB207.out) HS.out.2).mono ?_
          rintro e w209 ⟨u, us, rfl, ho, hl21, hb⟩
          have HB := hid (below_to HB207.out hb)
          have HIp := hid ho.ints
          obtain ⟨pA, pc, rfl, -⟩ := ho.ints
          clear ho hb  HB207
          have hl : us.length ≤ 1048576 := by omega
          obtain ⟨B6, hB6⟩ : ∃ B6, w209.heap.size = B6 := ⟨_, rfl⟩
          go_wp2_with fail
          have HB210 := hid (below_alloc HB.out (.cells #[.slice pA us.length pc] 26))
          have HIp210 := hid (HIp.out.alloc (.cells #[.slice pA us.length pc] 26))
          have HKp210 : Hid (Blk (w209.alloc (.cells #[.slice pA us.length pc] 26)) B6 26 #[.slice pA us.length pc]) := hid (by rw [← hB6]; exact Blk.new w209 _ _)
          clear hB6 HB HIp
          have tKp211 := HKp210.out.cell 0
          cases hrw : okRW us
          · as_aux_lemma =>
              have HRw := hid hrw
              clear hrw
              go_wp2_with fail
              refine (implRowvacuationWord_any _ us _ HIp210.out hl).mono ?_
              rintro e w212 ⟨ua, rfl, ho, hla, hb⟩
              rw [HRw.out]
              have HIa := hid ho.ints
              obtain ⟨Aa, ca, rfl, -⟩ := ho.ints
              obtain ⟨na, hna⟩ : ∃ n, (ansRW us).length = n := ⟨_, rfl⟩
              rw [hna] at HIa hla ⊢
              have HNa := hid hna
              clear ho hna
              have HB213 := hid (below_to HB210.out hb)
              have HIp213 := hid (HIp210.out.below hb)
              have HKp213 := hid (HKp210.out.below hb HKp210.out.lt)
              clear tKp211
              clear hb HB210 HIp210 HKp210
              have tKp214 := HKp213.out.cell 0
              go_wp2_with fail
              refine (specRowvacuationWord_any _ us _ HIp213.out hl).mono ?_
              rintro e w215 ⟨ub, rfl, ho, hlb, hb⟩
              rw [HRw.out]
              have HIb := hid ho.ints
              obtain ⟨Ab, cb, rfl, -⟩ := ho.ints
              obtain ⟨nb, hnb⟩ : ∃ n, (ansRW us).length = n := ⟨_, rfl⟩
              rw [hnb] at HIb hlb ⊢
              have HNb := hid hnb
              clear ho hnb
              have HB216 := hid (below_to HB213.out hb)
              have HIp216 := hid (HIp213.out.below hb)
              have HKp216 := hid (HKp213.out.below hb HKp213.out.lt)
              have HIa216 := hid (HIa.out.below hb)
              clear tKp214
              clear hb HB213 HIp213 HKp213 HIa
              have tKp217 := HKp216.out.cell 0
              go_wp2_with fail
              refine (nSame_any _ _ (ansRW us) _ HIa216.out HIb.out (by rw [HNa.out]; exact hla)).mono ?_
              rintro e w218 ⟨rfl, hb⟩
              have HB219 := hid (below_to HB216.out hb)
              have HIp219 := hid (HIp216.out.below hb)
              have HKp219 := hid (HKp216.out.below hb HKp216.out.lt)
              have HIa219 := hid (HIa216.out.below hb)
              have HIb219 := hid (HIb.out.below hb)
              clear tKp217
              clear hb HB216 HIp216 HKp216 HIa216 HIb
              have tKp220 := HKp219.out.cell 0
              clear HNb hlb HIb219
              clear HRw HNa hla hl hl21 tKp220 HIp219 HKp219 HIa219
              as_aux_lemma =>
                go_wp2_with fail
                refine (drawFixedByRowvacuation_any _ xs1 _ (bytes_at HY1.out HB219.out) HS.out.2).mono ?_
                rintro e w221 ⟨u, us, rfl, ho, hl21, hb⟩
                have HB := hid (below_to HB219.out hb)
                have HIp := hid ho.ints
                obtain ⟨pA, pc, rfl, -⟩ := ho.ints
                clear ho hb  HB219
                have hl : us.length ≤ 1048576 := by omega
                obtain ⟨b1, hb1⟩ : ∃ b, okRk us = b := ⟨_, rfl⟩
                have Hb1 := hid hb1
                clear hb1
                obtain ⟨B6, hB6⟩ : ∃ B6, w221.heap.size = B6 := ⟨_, rfl⟩
                go_wp2_with fail
                have HB222 := hid (below_alloc HB.out (.cells #[.slice pA us.length pc] 26))
                have HIp222 := hid (HIp.out.alloc (.cells #[.slice pA us.length pc] 26))
                have HKp222 : Hid (Blk (w221.alloc (.cells #[.slice pA us.length pc] 26)) B6 26 #[.slice pA us.length pc]) := hid (by rw [← hB6]; exact Blk.new w221 _ _)
                clear hB6 HB HIp
                have tKp223 := HKp222.out.cell 0
                go_wp2_with fail
                refine (implFixedByRowvacuation_any _ us _ HIp222.out hl).mono ?_
                rintro e w224 ⟨ua, rfl, ho, hla, hb⟩
                rw [Hb1.out]
                have HIa := hid ho.ints
                obtain ⟨Aa, ca, rfl, -⟩ := ho.ints
                obtain ⟨na, hna⟩ : ∃ n, (ansFR us).length = n := ⟨_, rfl⟩
                rw [hna] at HIa hla ⊢
                have HNa := hid hna
                clear ho hna
                have HB225 := hid (below_to HB222.out hb)
                have HIp225 := hid (HIp222.out.below hb)
                have HKp225 := hid (HKp222.out.below hb HKp222.out.lt)
                clear tKp223
                clear hb HB222 HIp222 HKp222
                have tKp226 := HKp225.out.cell 0
                go_wp2_with fail
                refine (specFixedByRowvacuation_any _ us _ HIp225.out hl).mono ?_
                rintro e w227 ⟨ub, rfl, ho, hlb, hb⟩
                rw [Hb1.out]
                have HIb := hid ho.ints
                obtain ⟨Ab, cb, rfl, -⟩ := ho.ints
                obtain ⟨nb, hnb⟩ : ∃ n, (ansFR us).length = n := ⟨_, rfl⟩
                rw [hnb] at HIb hlb ⊢
                have HNb := hid hnb
                clear ho hnb
                have HB228 := hid (below_to HB225.out hb)
                have HIp228 := hid (HIp225.out.below hb)
                have HKp228 := hid (HKp225.out.below hb HKp225.out.lt)
                have HIa228 := hid (HIa.out.below hb)
                clear tKp226
                clear hb HB225 HIp225 HKp225 HIa
                have tKp229 := HKp228.out.cell 0
                go_wp2_with fail
                refine (nSame_any _ _ (ansFR us) _ HIa228.out HIb.out (by rw [HNa.out]; exact hla)).mono ?_
                rintro e w230 ⟨rfl, hb⟩
                have HB231 := hid (below_to HB228.out hb)
                have HIp231 := hid (HIp228.out.below hb)
                have HKp231 := hid (HKp228.out.below hb HKp228.out.lt)
                have HIa231 := hid (HIa228.out.below hb)
                have HIb231 := hid (HIb.out.below hb)
                clear tKp229
                clear hb HB228 HIp228 HKp228 HIa228 HIb
                have tKp232 := HKp231.out.cell 0
                clear HNb hlb Hb1 HIb231
                go_wp2
                clear tKp232
                go_loopw [325] (fun i wr => ∃ k : Nat, k ≤ na ∧ i = .int .i64 (k : Int) ∧ Below w230.heap.size w230 wr) (fun i _ => na - (intOf i).toNat)
                case atStart => exact ⟨0, Nat.zero_le _, rfl, Below.refl _ _⟩
                case round =>
                  obtain ⟨k, hk, rfl, hb⟩ := hrel
                  by_cases hlt : k < na
                  · skip
                    as_aux_lemma =>
                      have HBW0 := hid (Below.refl w230.heap.size w230)
                      obtain ⟨bA, oA, ho1⟩ : ∃ bA oA, Aa = some ⟨bA, oA, none⟩ := by
                        obtain ⟨Aa', ca', ea, hca⟩ := HIa231.out
                        obtain ⟨bA, oA, e2, -, -⟩ := hca (by intro h; have := congrArg List.length h; rw [HNa.out] at this; simp at this; omega)
                        injection ea with ea1 ea2 ea3
                        exact ⟨bA, oA, by rw [ea1, e2]⟩
                      subst ho1
                      have HB233 := hid (below_to HB231.out hb)
                      have HIp233 := hid (HIp231.out.below hb)
                      have HKp233 := hid (HKp231.out.below hb HKp231.out.lt)
                      have HIa233 := hid (HIa231.out.below hb)
                      have HBW233 := hid (below_to HBW0.out hb)
                      clear hb HB231 HIp231 HKp231 HIa231 HBW0
                      have tKp234 := HKp233.out.cell 0
                      obtain ⟨z, hz1, hz2, hz3, hz4⟩ := fixFacts k (show k < (ansFR us).length by rw [HNa.out]; exact hlt)
                      have HZ1 := hid hz1
                      have HZ3 := hid hz3
                      have HZ4 := hid hz4
                      clear hz1 hz3 hz4
                      have ck := ints_cell HIa233.out (show k < _ by rw [HNa.out]; exact hlt)
                      rw [HZ1.out] at ck
                      go_wp2_with fail
                      refine (implRowvacuation_any _ us (z : Int) _ HIp233.out hl (wf_i64 _ (by omega) (by omega))).mono ?_
                      rintro e w235 ⟨rfl, hb⟩
                      rw [HZ4.out, HZ3.out]
                      have HB236 := hid (below_to HB233.out hb)
                      have HIp236 := hid (HIp233.out.below hb)
                      have HKp236 := hid (HKp233.out.below hb HKp233.out.lt)
                      have HIa236 := hid (HIa233.out.below hb)
                      have HBW236 := hid (below_to HBW233.out hb)
                      clear tKp234 ck
                      clear hb HB233 HIp233 HKp233 HIa233 HBW233
                      have tKp237 := HKp236.out.cell 0
                      by_cases hk0 : 0 < k
                      · obtain ⟨x, hx1, hx2, -, -⟩ := fixFacts (k - 1) (show k - 1 < (ansFR us).length by rw [HNa.out]; omega)
                        have hxz := fixRise (xs := us) (show k - 1 < k by omega) (show k < (ansFR us).length by rw [HNa.out]; exact hlt)
                        rw [hx1, HZ1.out] at hxz
                        have cx := ints_cell HIa236.out (show k - 1 < _ by rw [HNa.out]; omega)
                        rw [hx1] at cx
                        have hkk : ((k : Int) - 1).toNat = k - 1 := by omega
                        clear hx1 HZ1 HZ3 HZ4
                        go_wp2
                        go_roundw
                        case rel => exact ⟨k + 1, by omega, by go_num, HBW236.out⟩
                        case measure => simp [intOf] <;> omega
                      · clear HZ1 HZ3 HZ4
                        go_wp2
                        go_roundw
                        case rel => exact ⟨k + 1, by omega, by go_num, HBW236.out⟩
                        case measure => simp [intOf] <;> omega
                  · as_aux_lemma =>
                      have HB := hid (below_to HB231.out hb)
                      clear hb HNa hla hl hl21 HB231 HIp231 HKp231 HIa231
                      as_aux_lemma =>
                        go_wp2_with fail
                        refine (drawDualIdeal_any _ xs1 _ (bytes_at HY1.out HB.out) HS.out.2).mono ?_
                        rintro e w238 ⟨u, us, s2, rfl, hwf, ho, hl21, hb⟩
                        have HB := hid (below_to HB.out hb)
                        have HIp := hid ho.ints
                        obtain ⟨pA, pc, rfl, -⟩ := ho.ints
                        clear ho hb 
                        have HWs := hid hwf
                        have hl : us.length ≤ 1048576 := by omega
                        clear hwf
                        obtain ⟨B6, hB6⟩ : ∃ B6, w238.heap.size = B6 := ⟨_, rfl⟩
                        go_wp2_with fail
                        have HB239 := hid (below_alloc HB.out (.cells #[.slice pA us.length pc] 26))
                        have HIp239 := hid (HIp.out.alloc (.cells #[.slice pA us.length pc] 26))
                        have HKp239 : Hid (Blk (w238.alloc (.cells #[.slice pA us.length pc] 26)) B6 26 #[.slice pA us.length pc]) := hid (by rw [← hB6]; exact Blk.new w238 _ _)
                        clear hB6 HB HIp
                        have tKp240 := HKp239.out.cell 0
                        cases hoi : okIdeal us s2
                        · as_aux_lemma =>
                            have HE : Hid (∀ f, ansDU us s2 f = 0) := hid (fun f => ansDU_no hoi)
                            have HO := hid hoi
                            clear hoi
                            go_wp2_with fail
                            refine (implDualIdeal_any _ us s2 _ HIp239.out hl HWs.out).mono ?_
                            rintro e w241 ⟨rfl, hb⟩
                            rw [HE.out, HO.out]
                            have HB242 := hid (below_to HB239.out hb)
                            have HIp242 := hid (HIp239.out.below hb)
                            have HKp242 := hid (HKp239.out.below hb HKp239.out.lt)
                            clear tKp240
                            clear hb HB239 HIp239 HKp239
                            have tKp243 := HKp242.out.cell 0
                            go_wp2_with fail
                            refine (specDualIdeal_any _ us s2 _ HIp242.out hl HWs.out).mono ?_
                            rintro e w244 ⟨rfl, hb⟩
                            rw [HE.out, HO.out]
                            have HB245 := hid (below_to HB242.out hb)
                            have HIp245 := hid (HIp242.out.below hb)
                            have HKp245 := hid (HKp242.out.below hb HKp242.out.lt)
                            clear tKp243
                            clear hb HB242 HIp242 HKp242
                            have tKp246 := HKp245.out.cell 0
                            go_wp2_with fail
                            refine (implRowOnDual_any _ us s2 _ HIp245.out hl HWs.out).mono ?_
                            rintro e w247 ⟨rfl, hb⟩
                            rw [HE.out, HO.out]
                            have HB248 := hid (below_to HB245.out hb)
                            have HIp248 := hid (HIp245.out.below hb)
                            have HKp248 := hid (HKp245.out.below hb HKp245.out.lt)
                            clear tKp246
                            clear hb HB245 HIp245 HKp245
                            have tKp249 := HKp248.out.cell 0
                            go_wp2_with fail
                            refine (specRowOnDual_any _ us s2 _ HIp248.out hl HWs.out).mono ?_
                            rintro e w250 ⟨rfl, hb⟩
                            rw [HE.out, HO.out]
                            have HB251 := hid (below_to HB248.out hb)
                            have HIp251 := hid (HIp248.out.below hb)
                            have HKp251 := hid (HKp248.out.below hb HKp248.out.lt)
                            clear tKp249
                            clear hb HB248 HIp248 HKp248
                            have tKp252 := HKp251.out.cell 0
                            clear HO HE HWs hl hl21 tKp252 HIp251 HKp251
                            go_wp2
                            go_ret
                            exact ⟨ret_bool (by simp), HB251.out⟩
                        · as_aux_lemma =>
                            obtain ⟨z, rfl, hg, hz, hi⟩ := okIdeal_all hoi
                            obtain ⟨D, R, f1, f2, f3, f4, f5, f6, f7, hD10, f8⟩ := dualFacts hg hz hi
                            have hz10 := lt1024 hz (good_length hg).2
                            have HG := hid hg
                            have HO := hid f1
                            have HE1 := hid f2
                            have HE2 := hid f3
                            have HO2 := hid f4
                            have HE3 := hid f5
                            have HE4 := hid f6
                            have HE5 := hid f7
                            have HE6 := hid f8
                            clear hoi hg hz hi f1 f2 f3 f4 f5 f6 f7 f8
                            go_wp2_with fail
                            refine (implDualIdeal_any _ us (z : Int) _ HIp239.out hl HWs.out).mono ?_
                            rintro e w253 ⟨rfl, hb⟩
                            rw [HE1.out, HO.out]
                            have HB254 := hid (below_to HB239.out hb)
                            have HIp254 := hid (HIp239.out.below hb)
                            have HKp254 := hid (HKp239.out.below hb HKp239.out.lt)
                            clear tKp240
                            clear hb HB239 HIp239 HKp239
                            have tKp255 := HKp254.out.cell 0
                            go_wp2_with fail
                            refine (specDualIdeal_any _ us (z : Int) _ HIp254.out hl HWs.out).mono ?_
                            rintro e w256 ⟨rfl, hb⟩
                            rw [HE1.out, HO.out]
                            have HB257 := hid (below_to HB254.out hb)
                            have HIp257 := hid (HIp254.out.below hb)
                            have HKp257 := hid (HKp254.out.below hb HKp254.out.lt)
                            clear tKp255
                            clear hb HB254 HIp254 HKp254
                            have tKp258 := HKp257.out.cell 0
                            go_wp2_with fail
                            refine (implRowOnDual_any _ us (z : Int) _ HIp257.out hl HWs.out).mono ?_
                            rintro e w259 ⟨rfl, hb⟩
                            rw [HE2.out, HO.out]
                            have HB260 := hid (below_to HB257.out hb)
                            have HIp260 := hid (HIp257.out.below hb)
                            have HKp260 := hid (HKp257.out.below hb HKp257.out.lt)
                            clear tKp258
                            clear hb HB257 HIp257 HKp257
                            have tKp261 := HKp260.out.cell 0
                            go_wp2_with fail
                            refine (specRowOnDual_any _ us (z : Int) _ HIp260.out hl HWs.out).mono ?_
                            rintro e w262 ⟨rfl, hb⟩
                            rw [HE2.out, HO.out]
                            have HB263 := hid (below_to HB260.out hb)
                            have HIp263 := hid (HIp260.out.below hb)
                            have HKp263 := hid (HKp260.out.below hb HKp260.out.lt)
                            clear tKp261
                            clear hb HB260 HIp260 HKp260
                            have tKp264 := HKp263.out.cell 0
                            go_wp2_with fail
                            refine (implDualOf_any _ us _ HIp263.out hl).mono ?_
                            rintro e w265 ⟨q, rfl, ho, -, hb⟩
                            rw [HG.out]
                            have HIq := hid ho.ints
                            obtain ⟨qA, qc, rfl, -⟩ := ho.ints
                            clear ho
                            have HB266 := hid (below_to HB263.out hb)
                            have HIp266 := hid (HIp263.out.below hb)
                            have HKp266 := hid (HKp263.out.below hb HKp263.out.lt)
                            clear tKp264
                            clear hb HB263 HIp263 HKp263
                            have tKp267 := HKp266.out.cell 0
                            obtain ⟨ds, hds⟩ : ∃ l, dualL us = l := ⟨_, rfl⟩
                            rw [hds] at HIq HO2 HE3 HE4 HE5 HE6 ⊢
                            have hdl : ds.length ≤ 1048576 := by rw [HE6.out]; exact hl
                            clear hds
                            obtain ⟨B7, hB7⟩ : ∃ B7, w265.heap.size = B7 := ⟨_, rfl⟩
                            go_wp2_with fail
                            have HB268 := hid (below_alloc HB266.out (.cells #[.slice qA ds.length qc] 26))
                            have HIp268 := hid (HIp266.out.alloc (.cells #[.slice qA ds.length qc] 26))
                            have HKp268 := hid (HKp266.out.alloc (.cells #[.slice qA ds.length qc] 26))
                            have HIq268 := hid (HIq.out.alloc (.cells #[.slice qA ds.length qc] 26))
                            have HKq268 : Hid (Blk (w265.alloc (.cells #[.slice qA ds.length qc] 26)) B7 26 #[.slice qA ds.length qc]) := hid (by rw [← hB7]; exact Blk.new w265 _ _)
                            clear tKp267
                            clear hB7 HB266 HIp266 HKp266 HIq
                            have tKp269 := HKp268.out.cell 0
                            have tKq270 := HKq268.out.cell 0
                            go_wp2_with fail
                            refine (implDualIdeal_any _ ds (D : Int) _ HIq268.out hdl (wf_i64 _ (by omega) (by omega))).mono ?_
                            rintro e w271 ⟨rfl, hb⟩
                            rw [HE3.out, HO2.out]
                            have HB272 := hid (below_to HB268.out hb)
                            have HIp272 := hid (HIp268.out.below hb)
                            have HKp272 := hid (HKp268.out.below hb HKp268.out.lt)
                            have HIq272 := hid (HIq268.out.below hb)
                            have HKq272 := hid (HKq268.out.below hb HKq268.out.lt)
                            clear tKp269 tKq270
                            clear hb HB268 HIp268 HKp268 HIq268 HKq268
                            have tKp273 := HKp272.out.cell 0
                            have tKq274 := HKq272.out.cell 0
                            go_wp2_with fail
                            refine (implRowmotion_any _ ds (D : Int) _ HIq272.out hdl (wf_i64 _ (by omega) (by omega))).mono ?_
                            rintro e w275 ⟨rfl, hb⟩
                            rw [HE4.out, HO2.out]
                            have HB276 := hid (below_to HB272.out hb)
                            have HIp276 := hid (HIp272.out.below hb)
                            have HKp276 := hid (HKp272.out.below hb HKp272.out.lt)
                            have HIq276 := hid (HIq272.out.below hb)
                            have HKq276 := hid (HKq272.out.below hb HKq272.out.lt)
                            clear tKp273 tKq274
                            clear hb HB272 HIp272 HKp272 HIq272 HKq272
                            have tKp277 := HKp276.out.cell 0
                            have tKq278 := HKq276.out.cell 0
                            go_wp2_with fail
                            refine (nIdeal_any _ ds (D : Int) _ HIq276.out hdl (wf_i64 _ (by omega) (by omega))).mono ?_
                            rintro e w279 ⟨rfl, hb⟩
                            rw [HE5.out]
                            have HB280 := hid (below_to HB276.out hb)
                            have HIp280 := hid (HIp276.out.below hb)
                            have HKp280 := hid (HKp276.out.below hb HKp276.out.lt)
                            have HIq280 := hid (HIq276.out.below hb)
                            have HKq280 := hid (HKq276.out.below hb HKq276.out.lt)
                            clear tKp277 tKq278
                            clear hb HB276 HIp276 HKp276 HIq276 HKq276
                            have tKp281 := HKp280.out.cell 0
                            have tKq282 := HKq280.out.cell 0
                            clear tKp281 tKq282
                            go_wp2
                            go_ret
                            exact ⟨ret_bool (by simp), HB280.out⟩
          · as_aux_lemma =>
              have HRw := hid hrw
              obtain ⟨M, hM1, hM2, f1, f2, f3, f4⟩ := wholeFacts hrw
              obtain ⟨R, hR⟩ : ∃ R, ansSW wVac us (M : Int) = R := ⟨_, rfl⟩
              rw [hR] at f3
              have HF1 := hid f1
              have HF2 := hid f2
              have HF3 := hid f3
              have HR := hid hR
              have hw1 : wrap64 ((2 : Int) ^ us.length) = (M : Int) + 1 := by rw [wrap_pow us.length f4, hM1]; rfl
              have HW1 := hid hw1
              clear f1 f2 f3 hR hM1 hw1
              clear hrw
              go_wp2_with fail
              refine (implRowvacuationWord_any _ us _ HIp210.out hl).mono ?_
              rintro e w283 ⟨ua, rfl, ho, hla, hb⟩
              rw [HRw.out]
              have HIa := hid ho.ints
              obtain ⟨Aa, ca, rfl, -⟩ := ho.ints
              obtain ⟨na, hna⟩ : ∃ n, (ansRW us).length = n := ⟨_, rfl⟩
              rw [hna] at HIa hla ⊢
              have HNa := hid hna
              clear ho hna
              have HB284 := hid (below_to HB210.out hb)
              have HIp284 := hid (HIp210.out.below hb)
              have HKp284 := hid (HKp210.out.below hb HKp210.out.lt)
              clear tKp211
              clear hb HB210 HIp210 HKp210
              have tKp285 := HKp284.out.cell 0
              go_wp2_with fail
              refine (specRowvacuationWord_any _ us _ HIp284.out hl).mono ?_
              rintro e w286 ⟨ub, rfl, ho, hlb, hb⟩
              rw [HRw.out]
              have HIb := hid ho.ints
              obtain ⟨Ab, cb, rfl, -⟩ := ho.ints
              obtain ⟨nb, hnb⟩ : ∃ n, (ansRW us).length = n := ⟨_, rfl⟩
              rw [hnb] at HIb hlb ⊢
              have HNb := hid hnb
              clear ho hnb
              have HB287 := hid (below_to HB284.out hb)
              have HIp287 := hid (HIp284.out.below hb)
              have HKp287 := hid (HKp284.out.below hb HKp284.out.lt)
              have HIa287 := hid (HIa.out.below hb)
              clear tKp285
              clear hb HB284 HIp284 HKp284 HIa
              have tKp288 := HKp287.out.cell 0
              go_wp2_with fail
              refine (nSame_any _ _ (ansRW us) _ HIa287.out HIb.out (by rw [HNa.out]; exact hla)).mono ?_
              rintro e w289 ⟨rfl, hb⟩
              have HB290 := hid (below_to HB287.out hb)
              have HIp290 := hid (HIp287.out.below hb)
              have HKp290 := hid (HKp287.out.below hb HKp287.out.lt)
              have HIa290 := hid (HIa287.out.below hb)
              have HIb290 := hid (HIb.out.below hb)
              clear tKp288
              clear hb HB287 HIp287 HKp287 HIa287 HIb
              have tKp291 := HKp290.out.cell 0
              clear HNb hlb HIb290
              have hw1 := HW1.out
              go_wp2_with fail
              refine (implToggleRanks_any _ us (M : Int) _ (ansRW us) _ HIp290.out hl (wf_i64 _ (by omega) (by omega)) HIa290.out (by rw [HNa.out]; exact hla)).mono ?_
              rintro e w292 ⟨rfl, hb⟩
              rw [HF3.out, HF1.out]
              have HB293 := hid (below_to HB290.out hb)
              have HIp293 := hid (HIp290.out.below hb)
              have HKp293 := hid (HKp290.out.below hb HKp290.out.lt)
              have HIa293 := hid (HIa290.out.below hb)
              clear tKp291
              clear hb HB290 HIp290 HKp290 HIa290
              have tKp294 := HKp293.out.cell 0
              go_wp2_with fail
              refine (implRowvacuation_any _ us (M : Int) _ HIp293.out hl (wf_i64 _ (by omega) (by omega))).mono ?_
              rintro e w295 ⟨rfl, hb⟩
              rw [HR.out, HF2.out]
              have HB296 := hid (below_to HB293.out hb)
              have HIp296 := hid (HIp293.out.below hb)
              have HKp296 := hid (HKp293.out.below hb HKp293.out.lt)
              have HIa296 := hid (HIa293.out.below hb)
              clear tKp294
              clear hb HB293 HIp293 HKp293 HIa293
              have tKp297 := HKp296.out.cell 0
              clear HF1 HF2 HF3 HR HW1 hw1 hM2 f4
              clear HRw HNa hla hl hl21 tKp297 HIp296 HKp296 HIa296
              as_aux_lemma =>
                go_wp2_with fail
                refine (drawFixedByRowvacuation_any _ xs1 _ (bytes_at HY1.out HB296.out) HS.out.2).mono ?_
                rintro e w298 ⟨u, us, rfl, ho, hl21, hb⟩
                have HB := hid (below_to HB296.out hb)
                have HIp := hid ho.ints
                obtain ⟨pA, pc, rfl, -⟩ := ho.ints
                clear ho hb  HB296
                have hl : us.length ≤ 1048576 := by omega
                obtain ⟨b1, hb1⟩ : ∃ b, okRk us = b := ⟨_, rfl⟩
                have Hb1 := hid hb1
                clear hb1
                obtain ⟨B6, hB6⟩ : ∃ B6, w298.heap.size = B6 := ⟨_, rfl⟩
                go_wp2_with fail
                have HB299 := hid (below_alloc HB.out (.cells #[.slice pA us.length pc] 26))
                have HIp299 := hid (HIp.out.alloc (.cells #[.slice pA us.length pc] 26))
                have HKp299 : Hid (Blk (w298.alloc (.cells #[.slice pA us.length pc] 26)) B6 26 #[.slice pA us.length pc]) := hid (by rw [← hB6]; exact Blk.new w298 _ _)
                clear hB6 HB HIp
                have tKp300 := HKp299.out.cell 0
                go_wp2_with fail
                refine (implFixedByRowvacuation_any _ us _ HIp299.out hl).mono ?_
                rintro e w301 ⟨ua, rfl, ho, hla, hb⟩
                rw [Hb1.out]
                have HIa := hid ho.ints
                obtain ⟨Aa, ca, rfl, -⟩ := ho.ints
                obtain ⟨na, hna⟩ : ∃ n, (ansFR us).length = n := ⟨_, rfl⟩
                rw [hna] at HIa hla ⊢
                have HNa := hid hna
                clear ho hna
                have HB302 := hid (below_to HB299.out hb)
                have HIp302 := hid (HIp299.out.below hb)
                have HKp302 := hid (HKp299.out.below hb HKp299.out.lt)
                clear tKp300
                clear hb HB299 HIp299 HKp299
                have tKp303 := HKp302.out.cell 0
                go_wp2_with fail
                refine (specFixedByRowvacuation_any _ us _ HIp302.out hl).mono ?_
                rintro e w304 ⟨ub, rfl, ho, hlb, hb⟩
                rw [Hb1.out]
                have HIb := hid ho.ints
                obtain ⟨Ab, cb, rfl, -⟩ := ho.ints
                obtain ⟨nb, hnb⟩ : ∃ n, (ansFR us).length = n := ⟨_, rfl⟩
                rw [hnb] at HIb hlb ⊢
                have HNb := hid hnb
                clear ho hnb
                have HB305 := hid (below_to HB302.out hb)
                have HIp305 := hid (HIp302.out.below hb)
                have HKp305 := hid (HKp302.out.below hb HKp302.out.lt)
                have HIa305 := hid (HIa.out.below hb)
                clear tKp303
                clear hb HB302 HIp302 HKp302 HIa
                have tKp306 := HKp305.out.cell 0
                go_wp2_with fail
                refine (nSame_any _ _ (ansFR us) _ HIa305.out HIb.out (by rw [HNa.out]; exact hla)).mono ?_
                rintro e w307 ⟨rfl, hb⟩
                have HB308 := hid (below_to HB305.out hb)
                have HIp308 := hid (HIp305.out.below hb)
                have HKp308 := hid (HKp305.out.below hb HKp305.out.lt)
                have HIa308 := hid (HIa305.out.below hb)
                have HIb308 := hid (HIb.out.below hb)
                clear tKp306
                clear hb HB305 HIp305 HKp305 HIa305 HIb
                have tKp309 := HKp308.out.cell 0
                clear HNb hlb Hb1 HIb308
                go_wp2
                clear tKp309
                go_loopw [325] (fun i wr => ∃ k : Nat, k ≤ na ∧ i = .int .i64 (k : Int) ∧ Below w307.heap.size w307 wr) (fun i _ => na - (intOf i).toNat)
                case atStart => exact ⟨0, Nat.zero_le _, rfl, Below.refl _ _⟩
                case round =>
                  obtain ⟨k, hk, rfl, hb⟩ := hrel
                  by_cases hlt : k < na
                  · skip
                    as_aux_lemma =>
                      have HBW0 := hid (Below.refl w307.heap.size w307)
                      obtain ⟨bA, oA, ho1⟩ : ∃ bA oA, Aa = some ⟨bA, oA, none⟩ := by
                        obtain ⟨Aa', ca', ea, hca⟩ := HIa308.out
                        obtain ⟨bA, oA, e2, -, -⟩ := hca (by intro h; have := congrArg List.length h; rw [HNa.out] at this; simp at this; omega)
                        injection ea with ea1 ea2 ea3
                        exact ⟨bA, oA, by rw [ea1, e2]⟩
                      subst ho1
                      have HB310 := hid (below_to HB308.out hb)
                      have HIp310 := hid (HIp308.out.below hb)
                      have HKp310 := hid (HKp308.out.below hb HKp308.out.lt)
                      have HIa310 := hid (HIa308.out.below hb)
                      have HBW310 := hid (below_to HBW0.out hb)
                      clear hb HB308 HIp308 HKp308 HIa308 HBW0
                      have tKp311 := HKp310.out.cell 0
                      obtain ⟨z, hz1, hz2, hz3, hz4⟩ := fixFacts k (show k < (ansFR us).length by rw [HNa.out]; exact hlt)
                      have HZ1 := hid hz1
                      have HZ3 := hid hz3
                      have HZ4 := hid hz4
                      clear hz1 hz3 hz4
                      have ck := ints_cell HIa310.out (show k < _ by rw [HNa.out]; exact hlt)
                      rw [HZ1.out] at ck
                      go_wp2_with fail
                      refine (implRowvacuation_any _ us (z : Int) _ HIp310.out hl (wf_i64 _ (by omega) (by omega))).mono ?_
                      rintro e w312 ⟨rfl, hb⟩
                      rw [HZ4.out, HZ3.out]
                      have HB313 := hid (below_to HB310.out hb)
                      have HIp313 := hid (HIp310.out.below hb)
                      have HKp313 := hid (HKp310.out.below hb HKp310.out.lt)
                      have HIa313 := hid (HIa310.out.below hb)
                      have HBW313 := hid (below_to HBW310.out hb)
                      clear tKp311 ck
                      clear hb HB310 HIp310 HKp310 HIa310 HBW310
                      have tKp314 := HKp313.out.cell 0
                      by_cases hk0 : 0 < k
                      · obtain ⟨x, hx1, hx2, -, -⟩ := fixFacts (k - 1) (show k - 1 < (ansFR us).length by rw [HNa.out]; omega)
                        have hxz := fixRise (xs := us) (show k - 1 < k by omega) (show k < (ansFR us).length by rw [HNa.out]; exact hlt)
                        rw [hx1, HZ1.out] at hxz
                        have cx := ints_cell HIa313.out (show k - 1 < _ by rw [HNa.out]; omega)
                        rw [hx1] at cx
                        have hkk : ((k : Int) - 1).toNat = k - 1 := by omega
                        clear hx1 HZ1 HZ3 HZ4
                        go_wp2
                        go_roundw
                        case rel => exact ⟨k + 1, by omega, by go_num, HBW313.out⟩
                        case measure => simp [intOf] <;> omega
                      · clear HZ1 HZ3 HZ4
                        go_wp2
                        go_roundw
                        case rel => exact ⟨k + 1, by omega, by go_num, HBW313.out⟩
                        case measure => simp [intOf] <;> omega
                  · as_aux_lemma =>
                      have HB := hid (below_to HB308.out hb)
                      clear hb HNa hla hl hl21 HB308 HIp308 HKp308 HIa308
                      as_aux_lemma =>
                        go_wp2_with fail
                        refine (drawDualIdeal_any _ xs1 _ (bytes_at HY1.out HB.out) HS.out.2).mono ?_
                        rintro e w315 ⟨u, us, s2, rfl, hwf, ho, hl21, hb⟩
                        have HB := hid (below_to HB.out hb)
                        have HIp := hid ho.ints
                        obtain ⟨pA, pc, rfl, -⟩ := ho.ints
                        clear ho hb 
                        have HWs := hid hwf
                        have hl : us.length ≤ 1048576 := by omega
                        clear hwf
                        obtain ⟨B6, hB6⟩ : ∃ B6, w315.heap.size = B6 := ⟨_, rfl⟩
                        go_wp2_with fail
                        have HB316 := hid (below_alloc HB.out (.cells #[.slice pA us.length pc] 26))
                        have HIp316 := hid (HIp.out.alloc (.cells #[.slice pA us.length pc] 26))
                        have HKp316 : Hid (Blk (w315.alloc (.cells #[.slice pA us.length pc] 26)) B6 26 #[.slice pA us.length pc]) := hid (by rw [← hB6]; exact Blk.new w315 _ _)
                        clear hB6 HB HIp
                        have tKp317 := HKp316.out.cell 0
                        cases hoi : okIdeal us s2
                        · as_aux_lemma =>
                            have HE : Hid (∀ f, ansDU us s2 f = 0) := hid (fun f => ansDU_no hoi)
                            have HO := hid hoi
                            clear hoi
                            go_wp2_with fail
                            refine (implDualIdeal_any _ us s2 _ HIp316.out hl HWs.out).mono ?_
                            rintro e w318 ⟨rfl, hb⟩
                            rw [HE.out, HO.out]
                            have HB319 := hid (below_to HB316.out hb)
                            have HIp319 := hid (HIp316.out.below hb)
                            have HKp319 := hid (HKp316.out.below hb HKp316.out.lt)
                            clear tKp317
                            clear hb HB316 HIp316 HKp316
                            have tKp320 := HKp319.out.cell 0
                            go_wp2_with fail
                            refine (specDualIdeal_any _ us s2 _ HIp319.out hl HWs.out).mono ?_
                            rintro e w321 ⟨rfl, hb⟩
                            rw [HE.out, HO.out]
                            have HB322 := hid (below_to HB319.out hb)
                            have HIp322 := hid (HIp319.out.below hb)
                            have HKp322 := hid (HKp319.out.below hb HKp319.out.lt)
                            clear tKp320
                            clear hb HB319 HIp319 HKp319
                            have tKp323 := HKp322.out.cell 0
                            go_wp2_with fail
                            refine (implRowOnDual_any _ us s2 _ HIp322.out hl HWs.out).mono ?_
                            rintro e w324 ⟨rfl, hb⟩
                            rw [HE.out, HO.out]
                            have HB325 := hid (below_to HB322.out hb)
                            have HIp325 := hid (HIp322.out.below hb)
                            have HKp325 := hid (HKp322.out.below hb HKp322.out.lt)
                            clear tKp323
                            clear hb HB322 HIp322 HKp322
                            have tKp326 := HKp325.out.cell 0
                            go_wp2_with fail
                            refine (specRowOnDual_any _ us s2 _ HIp325.out hl HWs.out).mono ?_
                            rintro e w327 ⟨rfl, hb⟩
                            rw [HE.out, HO.out]
                            have HB328 := hid (below_to HB325.out hb)
                            have HIp328 := hid (HIp325.out.below hb)
                            have HKp328 := hid (HKp325.out.below hb HKp325.out.lt)
                            clear tKp326
                            clear hb HB325 HIp325 HKp325
                            have tKp329 := HKp328.out.cell 0
                            clear HO HE HWs hl hl21 tKp329 HIp328 HKp328
                            go_wp2
                            go_ret
                            exact ⟨ret_bool (by simp), HB328.out⟩
                        · as_aux_lemma =>
                            obtain ⟨z, rfl, hg, hz, hi⟩ := okIdeal_all hoi
                            obtain ⟨D, R, f1, f2, f3, f4, f5, f6, f7, hD10, f8⟩ := dualFacts hg hz hi
                            have hz10 := lt1024 hz (good_length hg).2
                            have HG := hid hg
                            have HO := hid f1
                            have HE1 := hid f2
                            have HE2 := hid f3
                            have HO2 := hid f4
                            have HE3 := hid f5
                            have HE4 := hid f6
                            have HE5 := hid f7
                            have HE6 := hid f8
                            clear hoi hg hz hi f1 f2 f3 f4 f5 f6 f7 f8
                            go_wp2_with fail
                            refine (implDualIdeal_any _ us (z : Int) _ HIp316.out hl HWs.out).mono ?_
                            rintro e w330 ⟨rfl, hb⟩
                            rw [HE1.out, HO.out]
                            have HB331 := hid (below_to HB316.out hb)
                            have HIp331 := hid (HIp316.out.below hb)
                            have HKp331 := hid (HKp316.out.below hb HKp316.out.lt)
                            clear tKp317
                            clear hb HB316 HIp316 HKp316
                            have tKp332 := HKp331.out.cell 0
                            go_wp2_with fail
                            refine (specDualIdeal_any _ us (z : Int) _ HIp331.out hl HWs.out).mono ?_
                            rintro e w333 ⟨rfl, hb⟩
                            rw [HE1.out, HO.out]
                            have HB334 := hid (below_to HB331.out hb)
                            have HIp334 := hid (HIp331.out.below hb)
                            have HKp334 := hid (HKp331.out.below hb HKp331.out.lt)
                            clear tKp332
                            clear hb HB331 HIp331 HKp331
                            have tKp335 := HKp334.out.cell 0
                            go_wp2_with fail
                            refine (implRowOnDual_any _ us (z : Int) _ HIp334.out hl HWs.out).mono ?_
                            rintro e w336 ⟨rfl, hb⟩
                            rw [HE2.out, HO.out]
                            have HB337 := hid (below_to HB334.out hb)
                            have HIp337 := hid (HIp334.out.below hb)
                            have HKp337 := hid (HKp334.out.below hb HKp334.out.lt)
                            clear tKp335
                            clear hb HB334 HIp334 HKp334
                            have tKp338 := HKp337.out.cell 0
                            go_wp2_with fail
                            refine (specRowOnDual_any _ us (z : Int) _ HIp337.out hl HWs.out).mono ?_
                            rintro e w339 ⟨rfl, hb⟩
                            rw [HE2.out, HO.out]
                            have HB340 := hid (below_to HB337.out hb)
                            have HIp340 := hid (HIp337.out.below hb)
                            have HKp340 := hid (HKp337.out.below hb HKp337.out.lt)
                            clear tKp338
                            clear hb HB337 HIp337 HKp337
                            have tKp341 := HKp340.out.cell 0
                            go_wp2_with fail
                            refine (implDualOf_any _ us _ HIp340.out hl).mono ?_
                            rintro e w342 ⟨q, rfl, ho, -, hb⟩
                            rw [HG.out]
                            have HIq := hid ho.ints
                            obtain ⟨qA, qc, rfl, -⟩ := ho.ints
                            clear ho
                            have HB343 := hid (below_to HB340.out hb)
                            have HIp343 := hid (HIp340.out.below hb)
                            have HKp343 := hid (HKp340.out.below hb HKp340.out.lt)
                            clear tKp341
                            clear hb HB340 HIp340 HKp340
                            have tKp344 := HKp343.out.cell 0
                            obtain ⟨ds, hds⟩ : ∃ l, dualL us = l := ⟨_, rfl⟩
                            rw [hds] at HIq HO2 HE3 HE4 HE5 HE6 ⊢
                            have hdl : ds.length ≤ 1048576 := by rw [HE6.out]; exact hl
                            clear hds
                            obtain ⟨B7, hB7⟩ : ∃ B7, w342.heap.size = B7 := ⟨_, rfl⟩
                            go_wp2_with fail
                            have HB345 := hid (below_alloc HB343.out (.cells #[.slice qA ds.length qc] 26))
                            have HIp345 := hid (HIp343.out.alloc (.cells #[.slice qA ds.length qc] 26))
                            have HKp345 := hid (HKp343.out.alloc (.cells #[.slice qA ds.length qc] 26))
                            have HIq345 := hid (HIq.out.alloc (.cells #[.slice qA ds.length qc] 26))
                            have HKq345 : Hid (Blk (w342.alloc (.cells #[.slice qA ds.length qc] 26)) B7 26 #[.slice qA ds.length qc]) := hid (by rw [← hB7]; exact Blk.new w342 _ _)
                            clear tKp344
                            clear hB7 HB343 HIp343 HKp343 HIq
                            have tKp346 := HKp345.out.cell 0
                            have tKq347 := HKq345.out.cell 0
                            go_wp2_with fail
                            refine (implDualIdeal_any _ ds (D : Int) _ HIq345.out hdl (wf_i64 _ (by omega) (by omega))).mono ?_
                            rintro e w348 ⟨rfl, hb⟩
                            rw [HE3.out, HO2.out]
                            have HB349 := hid (below_to HB345.out hb)
                            have HIp349 := hid (HIp345.out.below hb)
                            have HKp349 := hid (HKp345.out.below hb HKp345.out.lt)
                            have HIq349 := hid (HIq345.out.below hb)
                            have HKq349 := hid (HKq345.out.below hb HKq345.out.lt)
                            clear tKp346 tKq347
                            clear hb HB345 HIp345 HKp345 HIq345 HKq345
                            have tKp350 := HKp349.out.cell 0
                            have tKq351 := HKq349.out.cell 0
                            go_wp2_with fail
                            refine (implRowmotion_any _ ds (D : Int) _ HIq349.out hdl (wf_i64 _ (by omega) (by omega))).mono ?_
                            rintro e w352 ⟨rfl, hb⟩
                            rw [HE4.out, HO2.out]
                            have HB353 := hid (below_to HB349.out hb)
                            have HIp353 := hid (HIp349.out.below hb)
                            have HKp353 := hid (HKp349.out.below hb HKp349.out.lt)
                            have HIq353 := hid (HIq349.out.below hb)
                            have HKq353 := hid (HKq349.out.below hb HKq349.out.lt)
                            clear tKp350 tKq351
                            clear hb HB349 HIp349 HKp349 HIq349 HKq349
                            have tKp354 := HKp353.out.cell 0
                            have tKq355 := HKq353.out.cell 0
                            go_wp2_with fail
                            refine (nIdeal_any _ ds (D : Int) _ HIq353.out hdl (wf_i64 _ (by omega) (by omega))).mono ?_
                            rintro e w356 ⟨rfl, hb⟩
                            rw [HE5.out]
                            have HB357 := hid (below_to HB353.out hb)
                            have HIp357 := hid (HIp353.out.below hb)
                            have HKp357 := hid (HKp353.out.below hb HKp353.out.lt)
                            have HIq357 := hid (HIq353.out.below hb)
                            have HKq357 := hid (HKq353.out.below hb HKq353.out.lt)
                            clear tKp354 tKq355
                            clear hb HB353 HIp353 HKp353 HIq353 HKq353
                            have tKp358 := HKp357.out.cell 0
                            have tKq359 := HKq357.out.cell 0
                            clear tKp358 tKq359
                            go_wp2
                            go_ret
                            exact ⟨ret_bool (by simp), HB357.out⟩
end Go.Proofs.YtdemikjaghegnaaGreat.lawRowvacuation
