/- Texts EvacuationLaw, one behind the other. -/
import Derived.BigQuiet
import Derived.Test.YtpdoheagfjeefaaPkEvacuationProof08
import Derived.Test.YtpdoheagfjeefaaPkEvacuationProof12
import Derived.Test.YtpdoheagfjeefaaPkEvacuationProof20
import Derived.Test.YtpdoheagfjeefaaPkEvacuationProof23
/- Evacuation: the walk of the law (made by tools/genev.py). -/
namespace Go.Proofs.Ytpdoheagfjeefaa
open Go.RowKit Go.WideShapes Go.ChangeShapes
set_option linter.unusedVariables false
theorem bytes_at {w W : World} {v : Value} {bs : List Int} (h : BytesB w w.heap.size v bs) (hb : Below w.heap.size w W) : BytesB W W.heap.size v bs := (h.below hb).up hb.size
end Go.Proofs.Ytpdoheagfjeefaa
namespace Go.Proofs.Ytpdoheagfjeefaa.lawEvacuation
open Go.RowKit Go.WideShapes Go.ChangeShapes
set_option linter.unusedVariables false
set_option maxRecDepth 100000 in
set_option maxHeartbeats 6400000 in
theorem walk (v0 : Value) (xs0 : List Int) (v1 : Value) (xs1 : List Int) (w : World) (hb0 : BytesB w w.heap.size v0 xs0) (hl0 : xs0.length ≤ maxLen) (hb1 : BytesB w w.heap.size v1 xs1) (hl1 : xs1.length ≤ maxLen) :
    Calls Try.prog 3 #[v0, v1] w fun (r : Ending) w' => r = .returned (.bool true) ∧ Below w.heap.size w w' := by
  have HY0 := hid hb0
  have HY1 := hid hb1
  obtain ⟨A0, c0, rfl, -⟩ := hb0
  obtain ⟨A1, c1, rfl, -⟩ := hb1
  have HL0 := hid hl0
  have HL1 := hid hl1
  unfold maxLen at hl0 hl1
  go_enter Try.func3, Try.ntmps3
  by_cases hbig : 1048576 < xs0.length + xs1.length
  · go_wp2_with fail
    refine (big_any _ _ xs0 xs1 _ HY0.out HY1.out HL0.out HL1.out).mono ?_
    rintro e w1 ⟨rfl, rfl⟩
    rw [decide_eq_true hbig]
    go_wp2
    go_ret
    exact ⟨rfl, Below.refl _ _⟩
  · go_wp2_with fail
    refine (big_any _ _ xs0 xs1 _ HY0.out HY1.out HL0.out HL1.out).mono ?_
    rintro e w1 ⟨rfl, rfl⟩
    rw [decide_eq_false hbig]
    have HS := hid (show xs0.length ≤ 1048576 ∧ xs1.length ≤ 1048576 by omega)
    clear hbig hl0 hl1
    have HB0 : Hid (Below w.heap.size w w) := hid (Below.refl _ _)
    go_wp2_with fail
    refine (drawEvacuateLinear_any _ xs0 _ (bytes_at HY0.out HB0.out) HS.out.1).mono ?_
    rintro e w1 ⟨u, us, q, ws, rfl, ho, hl21, hoq, hm22, hb⟩
    have hl : us.length ≤ 1048576 := by omega
    have hm : ws.length ≤ 1048576 := by omega
    have HB := hid (below_to HB0.out hb)
    have HIp := hid ho.ints
    have HIw := hid hoq.ints
    obtain ⟨pA, pc, rfl, -⟩ := ho.ints
    obtain ⟨wA, wc, rfl, -⟩ := hoq.ints
    clear ho hoq hb HB0
    obtain ⟨B5, hB5⟩ : ∃ B5, w1.heap.size = B5 := ⟨_, rfl⟩
    go_wp2_with fail
    have HB2 := hid (below_alloc HB.out (.cells #[.slice pA us.length pc] 26))
    have HIp2 := hid (HIp.out.alloc (.cells #[.slice pA us.length pc] 26))
    have HIw2 := hid (HIw.out.alloc (.cells #[.slice pA us.length pc] 26))
    have HKp2 : Hid (Blk (w1.alloc (.cells #[.slice pA us.length pc] 26)) B5 26 #[.slice pA us.length pc]) := hid (by rw [← hB5]; exact Blk.new w1 _ _)
    clear hB5 HB HIp HIw
    have tKp3 := HKp2.out.cell 0
    cases hok : okLin us ws
    · as_aux_lemma =>
        have HOk := hid hok
        have HE := hid (ansEL_no hok)
        have HC := hid (ansCL_no hok)
        have HD := hid (ansDL_no hok)
        clear hok
        go_wp2_with fail
        refine (implEvacuateLinear_any _ us _ ws _ HIp2.out hl HIw2.out hm).mono ?_
        rintro e w4 ⟨ue, rfl, ho, hle, hb⟩
        rw [HOk.out]
        rw [HE.out] at ho hle
        have HIe := hid ho.ints
        obtain ⟨Ae, ce, rfl, -⟩ := ho.ints
        obtain ⟨ne, hne⟩ : ∃ n, (([] : List Int)).length = n := ⟨_, rfl⟩
        rw [hne] at HIe hle ⊢
        clear ho hne
        have HB5 := hid (below_to HB2.out hb)
        have HIp5 := hid (HIp2.out.below hb)
        have HIw5 := hid (HIw2.out.below hb)
        have HKp5 := hid (HKp2.out.below hb HKp2.out.lt)
        clear tKp3
        clear hb HB2 HIp2 HIw2 HKp2
        have tKp6 := HKp5.out.cell 0
        go_wp2_with fail
        refine (specEvacuateLinear_any _ us _ ws _ HIp5.out hl HIw5.out hm).mono ?_
        rintro e w7 ⟨ur, rfl, ho, hlr, hb⟩
        rw [HOk.out]
        rw [HE.out] at ho hlr
        have HIr := hid ho.ints
        obtain ⟨Ar, cr, rfl, -⟩ := ho.ints
        obtain ⟨nr, hnr⟩ : ∃ n, (([] : List Int)).length = n := ⟨_, rfl⟩
        rw [hnr] at HIr hlr ⊢
        clear ho hnr
        have HB8 := hid (below_to HB5.out hb)
        have HIp8 := hid (HIp5.out.below hb)
        have HIw8 := hid (HIw5.out.below hb)
        have HKp8 := hid (HKp5.out.below hb HKp5.out.lt)
        have HIe8 := hid (HIe.out.below hb)
        clear tKp6
        clear hb HB5 HIp5 HIw5 HKp5 HIe
        have tKp9 := HKp8.out.cell 0
        go_wp2_with fail
        refine (implCoevacuateLinear_any _ us _ ws _ HIp8.out hl HIw8.out hm).mono ?_
        rintro e w10 ⟨uc, rfl, ho, hlc, hb⟩
        rw [HOk.out]
        rw [HC.out] at ho hlc
        have HIc := hid ho.ints
        obtain ⟨Ac, cc, rfl, -⟩ := ho.ints
        obtain ⟨nc, hnc⟩ : ∃ n, (([] : List Int)).length = n := ⟨_, rfl⟩
        rw [hnc] at HIc hlc ⊢
        clear ho hnc
        have HB11 := hid (below_to HB8.out hb)
        have HIp11 := hid (HIp8.out.below hb)
        have HIw11 := hid (HIw8.out.below hb)
        have HKp11 := hid (HKp8.out.below hb HKp8.out.lt)
        have HIe11 := hid (HIe8.out.below hb)
        have HIr11 := hid (HIr.out.below hb)
        clear tKp9
        clear hb HB8 HIp8 HIw8 HKp8 HIe8 HIr
        have tKp12 := HKp11.out.cell 0
        go_wp2_with fail
        refine (specCoevacuateLinear_any _ us _ ws _ HIp11.out hl HIw11.out hm).mono ?_
        rintro e w13 ⟨ut, rfl, ho, hlt, hb⟩
        rw [HOk.out]
        rw [HC.out] at ho hlt
        have HIt := hid ho.ints
        obtain ⟨At, ct, rfl, -⟩ := ho.ints
        obtain ⟨nt, hnt⟩ : ∃ n, (([] : List Int)).length = n := ⟨_, rfl⟩
        rw [hnt] at HIt hlt ⊢
        clear ho hnt
        have HB14 := hid (below_to HB11.out hb)
        have HIp14 := hid (HIp11.out.below hb)
        have HIw14 := hid (HIw11.out.below hb)
        have HKp14 := hid (HKp11.out.below hb HKp11.out.lt)
        have HIe14 := hid (HIe11.out.below hb)
        have HIr14 := hid (HIr11.out.below hb)
        have HIc14 := hid (HIc.out.below hb)
        clear tKp12
        clear hb HB11 HIp11 HIw11 HKp11 HIe11 HIr11 HIc
        have tKp15 := HKp14.out.cell 0
        go_wp2_with fail
        refine (implDualLinear_any _ us _ ws _ HIp14.out hl HIw14.out hm).mono ?_
        rintro e w16 ⟨ud, rfl, ho, hld, hb⟩
        rw [HOk.out]
        rw [HD.out] at ho hld
        have HId := hid ho.ints
        obtain ⟨Ad, cd, rfl, -⟩ := ho.ints
        obtain ⟨nd, hnd⟩ : ∃ n, (([] : List Int)).length = n := ⟨_, rfl⟩
        rw [hnd] at HId hld ⊢
        clear ho hnd
        have HB17 := hid (below_to HB14.out hb)
        have HIp17 := hid (HIp14.out.below hb)
        have HIw17 := hid (HIw14.out.below hb)
        have HKp17 := hid (HKp14.out.below hb HKp14.out.lt)
        have HIe17 := hid (HIe14.out.below hb)
        have HIr17 := hid (HIr14.out.below hb)
        have HIc17 := hid (HIc14.out.below hb)
        have HIt17 := hid (HIt.out.below hb)
        clear tKp15
        clear hb HB14 HIp14 HIw14 HKp14 HIe14 HIr14 HIc14 HIt
        have tKp18 := HKp17.out.cell 0
        go_wp2_with fail
        refine (specDualLinear_any _ us _ ws _ HIp17.out hl HIw17.out hm).mono ?_
        rintro e w19 ⟨um, rfl, ho, hlm, hb⟩
        rw [HOk.out]
        rw [HD.out] at ho hlm
        have HIm := hid ho.ints
        obtain ⟨Am, cm, rfl, -⟩ := ho.ints
        obtain ⟨nm, hnm⟩ : ∃ n, (([] : List Int)).length = n := ⟨_, rfl⟩
        rw [hnm] at HIm hlm ⊢
        clear ho hnm
        have HB20 := hid (below_to HB17.out hb)
        have HIp20 := hid (HIp17.out.below hb)
        have HIw20 := hid (HIw17.out.below hb)
        have HKp20 := hid (HKp17.out.below hb HKp17.out.lt)
        have HIe20 := hid (HIe17.out.below hb)
        have HIr20 := hid (HIr17.out.below hb)
        have HIc20 := hid (HIc17.out.below hb)
        have HIt20 := hid (HIt17.out.below hb)
        have HId20 := hid (HId.out.below hb)
        clear tKp18
        clear hb HB17 HIp17 HIw17 HKp17 HIe17 HIr17 HIc17 HIt17 HId
        have tKp21 := HKp20.out.cell 0
        go_wp2_with fail
        refine (oSame_any _ _ ([] : List Int) _ HIe20.out HIr20.out (by simp)).mono ?_
        rintro e w22 ⟨rfl, hb⟩
        have HB23 := hid (below_to HB20.out hb)
        have HIp23 := hid (HIp20.out.below hb)
        have HIw23 := hid (HIw20.out.below hb)
        have HKp23 := hid (HKp20.out.below hb HKp20.out.lt)
        have HIe23 := hid (HIe20.out.below hb)
        have HIr23 := hid (HIr20.out.below hb)
        have HIc23 := hid (HIc20.out.below hb)
        have HIt23 := hid (HIt20.out.below hb)
        have HId23 := hid (HId20.out.below hb)
        have HIm23 := hid (HIm.out.below hb)
        clear tKp21
        clear hb HB20 HIp20 HIw20 HKp20 HIe20 HIr20 HIc20 HIt20 HId20 HIm
        have tKp24 := HKp23.out.cell 0
        clear HIr23 hlr
        go_wp2_with fail
        refine (oSame_any _ _ ([] : List Int) _ HIc23.out HIt23.out (by simp)).mono ?_
        rintro e w25 ⟨rfl, hb⟩
        have HB26 := hid (below_to HB23.out hb)
        have HIp26 := hid (HIp23.out.below hb)
        have HIw26 := hid (HIw23.out.below hb)
        have HKp26 := hid (HKp23.out.below hb HKp23.out.lt)
        have HIe26 := hid (HIe23.out.below hb)
        have HIc26 := hid (HIc23.out.below hb)
        have HIt26 := hid (HIt23.out.below hb)
        have HId26 := hid (HId23.out.below hb)
        have HIm26 := hid (HIm23.out.below hb)
        clear tKp24
        clear hb HB23 HIp23 HIw23 HKp23 HIe23 HIc23 HIt23 HId23 HIm23
        have tKp27 := HKp26.out.cell 0
        clear HIt26 hlt
        go_wp2_with fail
        refine (oSame_any _ _ ([] : List Int) _ HId26.out HIm26.out (by simp)).mono ?_
        rintro e w28 ⟨rfl, hb⟩
        have HB29 := hid (below_to HB26.out hb)
        have HIp29 := hid (HIp26.out.below hb)
        have HIw29 := hid (HIw26.out.below hb)
        have HKp29 := hid (HKp26.out.below hb HKp26.out.lt)
        have HIe29 := hid (HIe26.out.below hb)
        have HIc29 := hid (HIc26.out.below hb)
        have HId29 := hid (HId26.out.below hb)
        have HIm29 := hid (HIm26.out.below hb)
        clear tKp27
        clear hb HB26 HIp26 HIw26 HKp26 HIe26 HIc26 HId26 HIm26
        have tKp30 := HKp29.out.cell 0
        clear HIm29 hlm
        go_wp2_with fail
        refine (oLinear_any _ us _ ws _ HIp29.out hl HIw29.out hm).mono ?_
        rintro e w31 ⟨rfl, hb⟩
        rw [HOk.out]
        have HB32 := hid (below_to HB29.out hb)
        have HIp32 := hid (HIp29.out.below hb)
        have HIw32 := hid (HIw29.out.below hb)
        have HKp32 := hid (HKp29.out.below hb HKp29.out.lt)
        have HIe32 := hid (HIe29.out.below hb)
        have HIc32 := hid (HIc29.out.below hb)
        have HId32 := hid (HId29.out.below hb)
        clear tKp30
        clear hb HB29 HIp29 HIw29 HKp29 HIe29 HIc29 HId29
        have tKp33 := HKp32.out.cell 0
        clear HOk HE HC HD hl hl21 hm hm22 hle hlc hld tKp33 HIp32 HIw32 HKp32 HIe32 HIc32 HId32
        go_wp2_with fail
        refine (drawSelfEvacuated_any _ xs1 _ (bytes_at HY1.out HB32.out) HS.out.2).mono ?_
        rintro e w34 ⟨u, qs, rfl, ho, hq21, hb⟩
        have hql : qs.length ≤ 1048576 := by omega
        have HIq := hid ho.ints
        obtain ⟨qA, qc, rfl, -⟩ := ho.ints
        clear ho
        have HB35 := hid (below_to HB32.out hb)
        clear hb HB32
        obtain ⟨B6, hB6⟩ : ∃ B6, w34.heap.size = B6 := ⟨_, rfl⟩
        go_wp2_with fail
        have HB36 := hid (below_alloc HB35.out (.cells #[.slice qA qs.length qc] 26))
        have HIq36 := hid (HIq.out.alloc (.cells #[.slice qA qs.length qc] 26))
        have HKq36 : Hid (Blk (w34.alloc (.cells #[.slice qA qs.length qc] 26)) B6 26 #[.slice qA qs.length qc]) := hid (by rw [← hB6]; exact Blk.new w34 _ _)
        clear hB6 HB35 HIq
        have tKq37 := HKq36.out.cell 0
        cases hal : okAL qs
        · as_aux_lemma =>
            have HAl := hid hal
            have HA := hid (ansSE_no hal)
            clear hal
            go_wp2_with fail
            refine (implSelfEvacuated_any _ qs _ HIq36.out hql).mono ?_
            rintro e w38 ⟨rfl, hb⟩
            rw [HA.out, HAl.out]
            have HB39 := hid (below_to HB36.out hb)
            have HIq39 := hid (HIq36.out.below hb)
            have HKq39 := hid (HKq36.out.below hb HKq36.out.lt)
            clear tKq37
            clear hb HB36 HIq36 HKq36
            have tKq40 := HKq39.out.cell 0
            go_wp2_with fail
            refine (specSelfEvacuated_any _ qs _ HIq39.out hql).mono ?_
            rintro e w41 ⟨rfl, hb⟩
            rw [HA.out, HAl.out]
            have HB42 := hid (below_to HB39.out hb)
            have HIq42 := hid (HIq39.out.below hb)
            have HKq42 := hid (HKq39.out.below hb HKq39.out.lt)
            clear tKq40
            clear hb HB39 HIq39 HKq39
            have tKq43 := HKq42.out.cell 0
            clear tKq43
            go_wp2
            go_ret
            exact ⟨rfl, HB42.out⟩
        · as_aux_lemma =>
            obtain ⟨a, m, k1, k2, k3, k4⟩ := selfFacts hal
            have HAl := hid hal
            have HGq := hid k1
            have HA := hid k2
            have HN := hid k3
            clear hal k1 k2 k3
            go_wp2_with fail
            refine (implSelfEvacuated_any _ qs _ HIq36.out hql).mono ?_
            rintro e w44 ⟨rfl, hb⟩
            rw [HA.out, HAl.out]
            have HB45 := hid (below_to HB36.out hb)
            have HIq45 := hid (HIq36.out.below hb)
            have HKq45 := hid (HKq36.out.below hb HKq36.out.lt)
            clear tKq37
            clear hb HB36 HIq36 HKq36
            have tKq46 := HKq45.out.cell 0
            go_wp2_with fail
            refine (specSelfEvacuated_any _ qs _ HIq45.out hql).mono ?_
            rintro e w47 ⟨rfl, hb⟩
            rw [HA.out, HAl.out]
            have HB48 := hid (below_to HB45.out hb)
            have HIq48 := hid (HIq45.out.below hb)
            have HKq48 := hid (HKq45.out.below hb HKq45.out.lt)
            clear tKq46
            clear hb HB45 HIq45 HKq45
            have tKq49 := HKq48.out.cell 0
            go_wp2_with fail
            refine (implCountLinear_any _ qs _ HIq48.out hql).mono ?_
            rintro e w50 ⟨rfl, hb⟩
            rw [HN.out, HGq.out]
            have HB51 := hid (below_to HB48.out hb)
            have HIq51 := hid (HIq48.out.below hb)
            have HKq51 := hid (HKq48.out.below hb HKq48.out.lt)
            clear tKq49
            clear hb HB48 HIq48 HKq48
            have tKq52 := HKq51.out.cell 0
            have hd1 : ((a + 2 * m : Nat) : Int) - (a : Int) = ((2 * m : Nat) : Int) := by omega
            have hd2 : IntKind.i64.wrap (((a + 2 * m : Nat) : Int) - (a : Int)) = ((2 * m : Nat) : Int) := by rw [hd1, IntKind.wrap_i64]; omega
            have hd3 : Int.tmod ((2 * m : Nat) : Int) 2 = 0 := by rw [Int.tmod_eq_emod_of_nonneg (by omega)]; omega
            have hd4 : ((2 * m : Nat) : Int) % 2 = 0 := by omega
            clear tKq52
            go_wp2
            go_ret
            exact ⟨rfl, HB51.out⟩
    · as_aux_lemma =>
        obtain ⟨E, C, D, U, V, N, O, n, f1, f2, f3, f4, f5, f6, f7, f8, f9, f10, f11, f12, f13, f14, f15, f16, f17, f18, f19, f20, f21, f22, f23, g1, g2, g3, g4, g5, g6, g7, g8⟩ := evaFacts hok
        rw [f2] at hm hm22 HIw2 ⊢
        have HOk := hid hok
        have HG := hid f1
        have HWl := hid f2
        have HE := hid f5
        have HC := hid f6
        have HD := hid f7
        have HF8 := hid f8
        have HF9 := hid f9
        have HF10 := hid f10
        have HF11 := hid f11
        have HF12 := hid f12
        have HF13 := hid f13
        have HF14 := hid f14
        have HF15 := hid f15
        have HF16 := hid f16
        have HF17 := hid f17
        have HF18 := hid f18
        have HF19 := hid f19
        have HF20 := hid f20
        have HF21 := hid f21
        have HF22 := hid f22
        have HF23 := hid f23
        have G1 := hid g1
        have G2 := hid g2
        have G3 := hid g3
        have G4 := hid g4
        have G5 := hid g5
        have G6 := hid g6
        have G7 := hid g7
        have G8 := hid g8
        clear hok f1 f2 f5 f6 f7 f8 f9 f10 f11 f12 f13 f14 f15 f16 f17 f18 f19 f20 f21 f22 f23 g1 g2 g3 g4 g5 g6 g7 g8
        go_wp2_with fail
        refine (implEvacuateLinear_any _ us _ ws _ HIp2.out hl HIw2.out (by rw [HWl.out]; exact hm)).mono ?_
        rintro e w53 ⟨ue, rfl, ho, hle, hb⟩
        rw [HOk.out]
        rw [HE.out] at ho hle
        have HIe := hid ho.ints
        obtain ⟨Ae, ce, rfl, -⟩ := ho.ints
        rw [G1.out] at HIe hle ⊢
        clear ho
        have HB54 := hid (below_to HB2.out hb)
        have HIp54 := hid (HIp2.out.below hb)
        have HIw54 := hid (HIw2.out.below hb)
        have HKp54 := hid (HKp2.out.below hb HKp2.out.lt)
        clear tKp3
        clear hb HB2 HIp2 HIw2 HKp2
        have tKp55 := HKp54.out.cell 0
        go_wp2_with fail
        refine (specEvacuateLinear_any _ us _ ws _ HIp54.out hl HIw54.out (by rw [HWl.out]; exact hm)).mono ?_
        rintro e w56 ⟨ur, rfl, ho, hlr, hb⟩
        rw [HOk.out]
        rw [HE.out] at ho hlr
        have HIr := hid ho.ints
        obtain ⟨Ar, cr, rfl, -⟩ := ho.ints
        rw [G1.out] at HIr hlr ⊢
        clear ho
        have HB57 := hid (below_to HB54.out hb)
        have HIp57 := hid (HIp54.out.below hb)
        have HIw57 := hid (HIw54.out.below hb)
        have HKp57 := hid (HKp54.out.below hb HKp54.out.lt)
        have HIe57 := hid (HIe.out.below hb)
        clear tKp55
        clear hb HB54 HIp54 HIw54 HKp54 HIe
        have tKp58 := HKp57.out.cell 0
        go_wp2_with fail
        refine (implCoevacuateLinear_any _ us _ ws _ HIp57.out hl HIw57.out (by rw [HWl.out]; exact hm)).mono ?_
        rintro e w59 ⟨uc, rfl, ho, hlc, hb⟩
        rw [HOk.out]
        rw [HC.out] at ho hlc
        have HIc := hid ho.ints
        obtain ⟨Ac, cc, rfl, -⟩ := ho.ints
        rw [G2.out] at HIc hlc ⊢
        clear ho
        have HB60 := hid (below_to HB57.out hb)
        have HIp60 := hid (HIp57.out.below hb)
        have HIw60 := hid (HIw57.out.below hb)
        have HKp60 := hid (HKp57.out.below hb HKp57.out.lt)
        have HIe60 := hid (HIe57.out.below hb)
        have HIr60 := hid (HIr.out.below hb)
        clear tKp58
        clear hb HB57 HIp57 HIw57 HKp57 HIe57 HIr
        have tKp61 := HKp60.out.cell 0
        go_wp2_with fail
        refine (specCoevacuateLinear_any _ us _ ws _ HIp60.out hl HIw60.out (by rw [HWl.out]; exact hm)).mono ?_
        rintro e w62 ⟨ut, rfl, ho, hlt, hb⟩
        rw [HOk.out]
        rw [HC.out] at ho hlt
        have HIt := hid ho.ints
        obtain ⟨At, ct, rfl, -⟩ := ho.ints
        rw [G2.out] at HIt hlt ⊢
        clear ho
        have HB63 := hid (below_to HB60.out hb)
        have HIp63 := hid (HIp60.out.below hb)
        have HIw63 := hid (HIw60.out.below hb)
        have HKp63 := hid (HKp60.out.below hb HKp60.out.lt)
        have HIe63 := hid (HIe60.out.below hb)
        have HIr63 := hid (HIr60.out.below hb)
        have HIc63 := hid (HIc.out.below hb)
        clear tKp61
        clear hb HB60 HIp60 HIw60 HKp60 HIe60 HIr60 HIc
        have tKp64 := HKp63.out.cell 0
        go_wp2_with fail
        refine (implDualLinear_any _ us _ ws _ HIp63.out hl HIw63.out (by rw [HWl.out]; exact hm)).mono ?_
        rintro e w65 ⟨ud, rfl, ho, hld, hb⟩
        rw [HOk.out]
        rw [HD.out] at ho hld
        have HId := hid ho.ints
        obtain ⟨Ad, cd, rfl, -⟩ := ho.ints
        rw [G3.out] at HId hld ⊢
        clear ho
        have HB66 := hid (below_to HB63.out hb)
        have HIp66 := hid (HIp63.out.below hb)
        have HIw66 := hid (HIw63.out.below hb)
        have HKp66 := hid (HKp63.out.below hb HKp63.out.lt)
        have HIe66 := hid (HIe63.out.below hb)
        have HIr66 := hid (HIr63.out.below hb)
        have HIc66 := hid (HIc63.out.below hb)
        have HIt66 := hid (HIt.out.below hb)
        clear tKp64
        clear hb HB63 HIp63 HIw63 HKp63 HIe63 HIr63 HIc63 HIt
        have tKp67 := HKp66.out.cell 0
        go_wp2_with fail
        refine (specDualLinear_any _ us _ ws _ HIp66.out hl HIw66.out (by rw [HWl.out]; exact hm)).mono ?_
        rintro e w68 ⟨um, rfl, ho, hlm, hb⟩
        rw [HOk.out]
        rw [HD.out] at ho hlm
        have HIm := hid ho.ints
        obtain ⟨Am, cm, rfl, -⟩ := ho.ints
        rw [G3.out] at HIm hlm ⊢
        clear ho
        have HB69 := hid (below_to HB66.out hb)
        have HIp69 := hid (HIp66.out.below hb)
        have HIw69 := hid (HIw66.out.below hb)
        have HKp69 := hid (HKp66.out.below hb HKp66.out.lt)
        have HIe69 := hid (HIe66.out.below hb)
        have HIr69 := hid (HIr66.out.below hb)
        have HIc69 := hid (HIc66.out.below hb)
        have HIt69 := hid (HIt66.out.below hb)
        have HId69 := hid (HId.out.below hb)
        clear tKp67
        clear hb HB66 HIp66 HIw66 HKp66 HIe66 HIr66 HIc66 HIt66 HId
        have tKp70 := HKp69.out.cell 0
        go_wp2_with fail
        refine (oSame_any _ _ E _ HIe69.out HIr69.out (by rw [G1.out]; omega)).mono ?_
        rintro e w71 ⟨rfl, hb⟩
        have HB72 := hid (below_to HB69.out hb)
        have HIp72 := hid (HIp69.out.below hb)
        have HIw72 := hid (HIw69.out.below hb)
        have HKp72 := hid (HKp69.out.below hb HKp69.out.lt)
        have HIe72 := hid (HIe69.out.below hb)
        have HIr72 := hid (HIr69.out.below hb)
        have HIc72 := hid (HIc69.out.below hb)
        have HIt72 := hid (HIt69.out.below hb)
        have HId72 := hid (HId69.out.below hb)
        have HIm72 := hid (HIm.out.below hb)
        clear tKp70
        clear hb HB69 HIp69 HIw69 HKp69 HIe69 HIr69 HIc69 HIt69 HId69 HIm
        have tKp73 := HKp72.out.cell 0
        clear HIr72 hlr
        go_wp2_with fail
        refine (oSame_any _ _ C _ HIc72.out HIt72.out (by rw [G2.out]; omega)).mono ?_
        rintro e w74 ⟨rfl, hb⟩
        have HB75 := hid (below_to HB72.out hb)
        have HIp75 := hid (HIp72.out.below hb)
        have HIw75 := hid (HIw72.out.below hb)
        have HKp75 := hid (HKp72.out.below hb HKp72.out.lt)
        have HIe75 := hid (HIe72.out.below hb)
        have HIc75 := hid (HIc72.out.below hb)
        have HIt75 := hid (HIt72.out.below hb)
        have HId75 := hid (HId72.out.below hb)
        have HIm75 := hid (HIm72.out.below hb)
        clear tKp73
        clear hb HB72 HIp72 HIw72 HKp72 HIe72 HIc72 HIt72 HId72 HIm72
        have tKp76 := HKp75.out.cell 0
        clear HIt75 hlt
        go_wp2_with fail
        refine (oSame_any _ _ D _ HId75.out HIm75.out (by rw [G3.out]; omega)).mono ?_
        rintro e w77 ⟨rfl, hb⟩
        have HB78 := hid (below_to HB75.out hb)
        have HIp78 := hid (HIp75.out.below hb)
        have HIw78 := hid (HIw75.out.below hb)
        have HKp78 := hid (HKp75.out.below hb HKp75.out.lt)
        have HIe78 := hid (HIe75.out.below hb)
        have HIc78 := hid (HIc75.out.below hb)
        have HId78 := hid (HId75.out.below hb)
        have HIm78 := hid (HIm75.out.below hb)
        clear tKp76
        clear hb HB75 HIp75 HIw75 HKp75 HIe75 HIc75 HId75 HIm75
        have tKp79 := HKp78.out.cell 0
        clear HIm78 hlm
        go_wp2_with fail
        refine (oLinear_any _ us _ ws _ HIp78.out hl HIw78.out (by rw [HWl.out]; exact hm)).mono ?_
        rintro e w80 ⟨rfl, hb⟩
        rw [HOk.out]
        have HB81 := hid (below_to HB78.out hb)
        have HIp81 := hid (HIp78.out.below hb)
        have HIw81 := hid (HIw78.out.below hb)
        have HKp81 := hid (HKp78.out.below hb HKp78.out.lt)
        have HIe81 := hid (HIe78.out.below hb)
        have HIc81 := hid (HIc78.out.below hb)
        have HId81 := hid (HId78.out.below hb)
        clear tKp79
        clear hb HB78 HIp78 HIw78 HKp78 HIe78 HIc78 HId78
        have tKp82 := HKp81.out.cell 0
        go_wp2_with fail
        refine (drawSelfEvacuated_any _ xs1 _ (bytes_at HY1.out HB81.out) HS.out.2).mono ?_
        rintro e w83 ⟨u, qs, rfl, ho, hq21, hb⟩
        have hql : qs.length ≤ 1048576 := by omega
        have HIq := hid ho.ints
        obtain ⟨qA, qc, rfl, -⟩ := ho.ints
        clear ho
        have HB84 := hid (below_to HB81.out hb)
        have HIp84 := hid (HIp81.out.below hb)
        have HIw84 := hid (HIw81.out.below hb)
        have HKp84 := hid (HKp81.out.below hb HKp81.out.lt)
        have HIe84 := hid (HIe81.out.below hb)
        have HIc84 := hid (HIc81.out.below hb)
        have HId84 := hid (HId81.out.below hb)
        clear tKp82
        clear hb HB81 HIp81 HIw81 HKp81 HIe81 HIc81 HId81
        have tKp85 := HKp84.out.cell 0
        obtain ⟨B6, hB6⟩ : ∃ B6, w83.heap.size = B6 := ⟨_, rfl⟩
        go_wp2_with fail
        have HB86 := hid (below_alloc HB84.out (.cells #[.slice qA qs.length qc] 26))
        have HIp86 := hid (HIp84.out.alloc (.cells #[.slice qA qs.length qc] 26))
        have HIw86 := hid (HIw84.out.alloc (.cells #[.slice qA qs.length qc] 26))
        have HKp86 := hid (HKp84.out.alloc (.cells #[.slice qA qs.length qc] 26))
        have HIe86 := hid (HIe84.out.alloc (.cells #[.slice qA qs.length qc] 26))
        have HIc86 := hid (HIc84.out.alloc (.cells #[.slice qA qs.length qc] 26))
        have HId86 := hid (HId84.out.alloc (.cells #[.slice qA qs.length qc] 26))
        have HIq86 := hid (HIq.out.alloc (.cells #[.slice qA qs.length qc] 26))
        have HKq86 : Hid (Blk (w83.alloc (.cells #[.slice qA qs.length qc] 26)) B6 26 #[.slice qA qs.length qc]) := hid (by rw [← hB6]; exact Blk.new w83 _ _)
        clear tKp85
        clear hB6 HB84 HIp84 HIw84 HKp84 HIe84 HIc84 HId84 HIq
        have tKp87 := HKp86.out.cell 0
        have tKq88 := HKq86.out.cell 0
        cases hal : okAL qs
        · as_aux_lemma =>
            have HAl := hid hal
            have HA := hid (ansSE_no hal)
            clear hal
            go_wp2_with fail
            refine (implSelfEvacuated_any _ qs _ HIq86.out hql).mono ?_
            rintro e w89 ⟨rfl, hb⟩
            rw [HA.out, HAl.out]
            have HB90 := hid (below_to HB86.out hb)
            have HIp90 := hid (HIp86.out.below hb)
            have HIw90 := hid (HIw86.out.below hb)
            have HKp90 := hid (HKp86.out.below hb HKp86.out.lt)
            have HIe90 := hid (HIe86.out.below hb)
            have HIc90 := hid (HIc86.out.below hb)
            have HId90 := hid (HId86.out.below hb)
            have HIq90 := hid (HIq86.out.below hb)
            have HKq90 := hid (HKq86.out.below hb HKq86.out.lt)
            clear tKp87 tKq88
            clear hb HB86 HIp86 HIw86 HKp86 HIe86 HIc86 HId86 HIq86 HKq86
            have tKp91 := HKp90.out.cell 0
            have tKq92 := HKq90.out.cell 0
            go_wp2_with fail
            refine (specSelfEvacuated_any _ qs _ HIq90.out hql).mono ?_
            rintro e w93 ⟨rfl, hb⟩
            rw [HA.out, HAl.out]
            have HB94 := hid (below_to HB90.out hb)
            have HIp94 := hid (HIp90.out.below hb)
            have HIw94 := hid (HIw90.out.below hb)
            have HKp94 := hid (HKp90.out.below hb HKp90.out.lt)
            have HIe94 := hid (HIe90.out.below hb)
            have HIc94 := hid (HIc90.out.below hb)
            have HId94 := hid (HId90.out.below hb)
            have HIq94 := hid (HIq90.out.below hb)
            have HKq94 := hid (HKq90.out.below hb HKq90.out.lt)
            clear tKp91 tKq92
            clear hb HB90 HIp90 HIw90 HKp90 HIe90 HIc90 HId90 HIq90 HKq90
            have tKp95 := HKp94.out.cell 0
            have tKq96 := HKq94.out.cell 0
            clear HA HAl
            go_wp2_with fail
            refine (implEvacuateLinear_any _ us _ E _ HIp94.out hl HIe94.out (by rw [G1.out]; omega)).mono ?_
            rintro e w97 ⟨ub1, rfl, ho, hlb1, hb⟩
            rw [HF8.out]
            rw [HF9.out] at ho hlb1
            have HIb1 := hid ho.ints
            obtain ⟨Ab1, cb1, rfl, -⟩ := ho.ints
            rw [HWl.out] at HIb1 hlb1 ⊢
            clear ho
            have HB98 := hid (below_to HB94.out hb)
            have HIp98 := hid (HIp94.out.below hb)
            have HIw98 := hid (HIw94.out.below hb)
            have HKp98 := hid (HKp94.out.below hb HKp94.out.lt)
            have HIe98 := hid (HIe94.out.below hb)
            have HIc98 := hid (HIc94.out.below hb)
            have HId98 := hid (HId94.out.below hb)
            have HIq98 := hid (HIq94.out.below hb)
            have HKq98 := hid (HKq94.out.below hb HKq94.out.lt)
            clear tKp95 tKq96
            clear hb HB94 HIp94 HIw94 HKp94 HIe94 HIc94 HId94 HIq94 HKq94
            have tKp99 := HKp98.out.cell 0
            have tKq100 := HKq98.out.cell 0
            go_wp2_with fail
            refine (implCoevacuateLinear_any _ us _ C _ HIp98.out hl HIc98.out (by rw [G2.out]; omega)).mono ?_
            rintro e w101 ⟨ub2, rfl, ho, hlb2, hb⟩
            rw [HF10.out]
            rw [HF11.out] at ho hlb2
            have HIb2 := hid ho.ints
            obtain ⟨Ab2, cb2, rfl, -⟩ := ho.ints
            rw [HWl.out] at HIb2 hlb2 ⊢
            clear ho
            have HB102 := hid (below_to HB98.out hb)
            have HIp102 := hid (HIp98.out.below hb)
            have HIw102 := hid (HIw98.out.below hb)
            have HKp102 := hid (HKp98.out.below hb HKp98.out.lt)
            have HIe102 := hid (HIe98.out.below hb)
            have HIc102 := hid (HIc98.out.below hb)
            have HId102 := hid (HId98.out.below hb)
            have HIq102 := hid (HIq98.out.below hb)
            have HKq102 := hid (HKq98.out.below hb HKq98.out.lt)
            have HIb1102 := hid (HIb1.out.below hb)
            clear tKp99 tKq100
            clear hb HB98 HIp98 HIw98 HKp98 HIe98 HIc98 HId98 HIq98 HKq98 HIb1
            have tKp103 := HKp102.out.cell 0
            have tKq104 := HKq102.out.cell 0
            go_wp2_with fail
            refine (implPromoteLinear_any _ us _ E 1 _ HIp102.out hl HIe102.out (by rw [G1.out]; omega) (wf_i64 _ (by omega) (by omega))).mono ?_
            rintro e w105 ⟨ub3, rfl, ho, hlb3, hb⟩
            rw [HF12.out]
            rw [HF13.out] at ho hlb3
            have HIb3 := hid ho.ints
            obtain ⟨Ab3, cb3, rfl, -⟩ := ho.ints
            rw [G4.out] at HIb3 hlb3 ⊢
            clear ho
            have HB106 := hid (below_to HB102.out hb)
            have HIp106 := hid (HIp102.out.below hb)
            have HIw106 := hid (HIw102.out.below hb)
            have HKp106 := hid (HKp102.out.below hb HKp102.out.lt)
            have HIe106 := hid (HIe102.out.below hb)
            have HIc106 := hid (HIc102.out.below hb)
            have HId106 := hid (HId102.out.below hb)
            have HIq106 := hid (HIq102.out.below hb)
            have HKq106 := hid (HKq102.out.below hb HKq102.out.lt)
            have HIb1106 := hid (HIb1102.out.below hb)
            have HIb2106 := hid (HIb2.out.below hb)
            clear tKp103 tKq104
            clear hb HB102 HIp102 HIw102 HKp102 HIe102 HIc102 HId102 HIq102 HKq102 HIb1102 HIb2
            have tKp107 := HKp106.out.cell 0
            have tKq108 := HKq106.out.cell 0
            go_wp2_with fail
            refine (implEvacuateLinear_any _ us _ U _ HIp106.out hl HIb3.out (by rw [G4.out]; omega)).mono ?_
            rintro e w109 ⟨ub4, rfl, ho, hlb4, hb⟩
            rw [HF14.out]
            rw [HF15.out] at ho hlb4
            have HIb4 := hid ho.ints
            obtain ⟨Ab4, cb4, rfl, -⟩ := ho.ints
            rw [G5.out] at HIb4 hlb4 ⊢
            clear ho
            have HB110 := hid (below_to HB106.out hb)
            have HIp110 := hid (HIp106.out.below hb)
            have HIw110 := hid (HIw106.out.below hb)
            have HKp110 := hid (HKp106.out.below hb HKp106.out.lt)
            have HIe110 := hid (HIe106.out.below hb)
            have HIc110 := hid (HIc106.out.below hb)
            have HId110 := hid (HId106.out.below hb)
            have HIq110 := hid (HIq106.out.below hb)
            have HKq110 := hid (HKq106.out.below hb HKq106.out.lt)
            have HIb1110 := hid (HIb1106.out.below hb)
            have HIb2110 := hid (HIb2106.out.below hb)
            have HIb3110 := hid (HIb3.out.below hb)
            clear tKp107 tKq108
            clear hb HB106 HIp106 HIw106 HKp106 HIe106 HIc106 HId106 HIq106 HKq106 HIb1106 HIb2106 HIb3
            have tKp111 := HKp110.out.cell 0
            have tKq112 := HKq110.out.cell 0
            go_wp2_with fail
            refine (implPromoteLinear_any _ us _ ws (-1) _ HIp110.out hl HIw110.out (by rw [HWl.out]; exact hm) (wf_i64 _ (by omega) (by omega))).mono ?_
            rintro e w113 ⟨ub5, rfl, ho, hlb5, hb⟩
            rw [HF16.out]
            rw [HF17.out] at ho hlb5
            have HIb5 := hid ho.ints
            obtain ⟨Ab5, cb5, rfl, -⟩ := ho.ints
            rw [G5.out] at HIb5 hlb5 ⊢
            clear ho
            have HB114 := hid (below_to HB110.out hb)
            have HIp114 := hid (HIp110.out.below hb)
            have HIw114 := hid (HIw110.out.below hb)
            have HKp114 := hid (HKp110.out.below hb HKp110.out.lt)
            have HIe114 := hid (HIe110.out.below hb)
            have HIc114 := hid (HIc110.out.below hb)
            have HId114 := hid (HId110.out.below hb)
            have HIq114 := hid (HIq110.out.below hb)
            have HKq114 := hid (HKq110.out.below hb HKq110.out.lt)
            have HIb1114 := hid (HIb1110.out.below hb)
            have HIb2114 := hid (HIb2110.out.below hb)
            have HIb3114 := hid (HIb3110.out.below hb)
            have HIb4114 := hid (HIb4.out.below hb)
            clear tKp111 tKq112
            clear hb HB110 HIp110 HIw110 HKp110 HIe110 HIc110 HId110 HIq110 HKq110 HIb1110 HIb2110 HIb3110 HIb4
            have tKp115 := HKp114.out.cell 0
            have tKq116 := HKq114.out.cell 0
            go_wp2_with fail
            refine (implCoevacuateLinear_any _ us _ E _ HIp114.out hl HIe114.out (by rw [G1.out]; omega)).mono ?_
            rintro e w117 ⟨ub6, rfl, ho, hlb6, hb⟩
            rw [HF8.out]
            rw [HF18.out] at ho hlb6
            have HIb6 := hid ho.ints
            obtain ⟨Ab6, cb6, rfl, -⟩ := ho.ints
            rw [G6.out] at HIb6 hlb6 ⊢
            clear ho
            have HB118 := hid (below_to HB114.out hb)
            have HIp118 := hid (HIp114.out.below hb)
            have HIw118 := hid (HIw114.out.below hb)
            have HKp118 := hid (HKp114.out.below hb HKp114.out.lt)
            have HIe118 := hid (HIe114.out.below hb)
            have HIc118 := hid (HIc114.out.below hb)
            have HId118 := hid (HId114.out.below hb)
            have HIq118 := hid (HIq114.out.below hb)
            have HKq118 := hid (HKq114.out.below hb HKq114.out.lt)
            have HIb1118 := hid (HIb1114.out.below hb)
            have HIb2118 := hid (HIb2114.out.below hb)
            have HIb3118 := hid (HIb3114.out.below hb)
            have HIb4118 := hid (HIb4114.out.below hb)
            have HIb5118 := hid (HIb5.out.below hb)
            clear tKp115 tKq116
            clear hb HB114 HIp114 HIw114 HKp114 HIe114 HIc114 HId114 HIq114 HKq114 HIb1114 HIb2114 HIb3114 HIb4114 HIb5
            have tKp119 := HKp118.out.cell 0
            have tKq120 := HKq118.out.cell 0
            go_wp2_with fail
            refine (implPromoteLinear_any _ us _ ws (n : Int) _ HIp118.out hl HIw118.out (by rw [HWl.out]; exact hm) (wf_i64 _ (by omega) (by omega))).mono ?_
            rintro e w121 ⟨ub7, rfl, ho, hlb7, hb⟩
            rw [HF19.out]
            rw [HF20.out] at ho hlb7
            have HIb7 := hid ho.ints
            obtain ⟨Ab7, cb7, rfl, -⟩ := ho.ints
            rw [G6.out] at HIb7 hlb7 ⊢
            clear ho
            have HB122 := hid (below_to HB118.out hb)
            have HIp122 := hid (HIp118.out.below hb)
            have HIw122 := hid (HIw118.out.below hb)
            have HKp122 := hid (HKp118.out.below hb HKp118.out.lt)
            have HIe122 := hid (HIe118.out.below hb)
            have HIc122 := hid (HIc118.out.below hb)
            have HId122 := hid (HId118.out.below hb)
            have HIq122 := hid (HIq118.out.below hb)
            have HKq122 := hid (HKq118.out.below hb HKq118.out.lt)
            have HIb1122 := hid (HIb1118.out.below hb)
            have HIb2122 := hid (HIb2118.out.below hb)
            have HIb3122 := hid (HIb3118.out.below hb)
            have HIb4122 := hid (HIb4118.out.below hb)
            have HIb5122 := hid (HIb5118.out.below hb)
            have HIb6122 := hid (HIb6.out.below hb)
            clear tKp119 tKq120
            clear hb HB118 HIp118 HIw118 HKp118 HIe118 HIc118 HId118 HIq118 HKq118 HIb1118 HIb2118 HIb3118 HIb4118 HIb5118 HIb6
            have tKp123 := HKp122.out.cell 0
            have tKq124 := HKq122.out.cell 0
            go_wp2_with fail
            refine (implDualOf_any _ us _ HIp122.out hl).mono ?_
            rintro e w125 ⟨u9, rfl, ho, hl9, hb⟩
            rw [HG.out]
            have HI9 := hid ho.ints
            obtain ⟨A9, c9, rfl, -⟩ := ho.ints
            rw [G8.out] at HI9 hl9 ⊢
            clear ho
            have HB126 := hid (below_to HB122.out hb)
            have HIp126 := hid (HIp122.out.below hb)
            have HIw126 := hid (HIw122.out.below hb)
            have HKp126 := hid (HKp122.out.below hb HKp122.out.lt)
            have HIe126 := hid (HIe122.out.below hb)
            have HIc126 := hid (HIc122.out.below hb)
            have HId126 := hid (HId122.out.below hb)
            have HIq126 := hid (HIq122.out.below hb)
            have HKq126 := hid (HKq122.out.below hb HKq122.out.lt)
            have HIb1126 := hid (HIb1122.out.below hb)
            have HIb2126 := hid (HIb2122.out.below hb)
            have HIb3126 := hid (HIb3122.out.below hb)
            have HIb4126 := hid (HIb4122.out.below hb)
            have HIb5126 := hid (HIb5122.out.below hb)
            have HIb6126 := hid (HIb6122.out.below hb)
            have HIb7126 := hid (HIb7.out.below hb)
            clear tKp123 tKq124
            clear hb HB122 HIp122 HIw122 HKp122 HIe122 HIc122 HId122 HIq122 HKq122 HIb1122 HIb2122 HIb3122 HIb4122 HIb5122 HIb6122 HIb7
            have tKp127 := HKp126.out.cell 0
            have tKq128 := HKq126.out.cell 0
            obtain ⟨B7, hB7⟩ : ∃ B7, w125.heap.size = B7 := ⟨_, rfl⟩
            go_wp2_with fail
            have HB129 := hid (below_alloc HB126.out (.cells #[.slice A9 n c9] 26))
            have HIp129 := hid (HIp126.out.alloc (.cells #[.slice A9 n c9] 26))
            have HIw129 := hid (HIw126.out.alloc (.cells #[.slice A9 n c9] 26))
            have HKp129 := hid (HKp126.out.alloc (.cells #[.slice A9 n c9] 26))
            have HIe129 := hid (HIe126.out.alloc (.cells #[.slice A9 n c9] 26))
            have HIc129 := hid (HIc126.out.alloc (.cells #[.slice A9 n c9] 26))
            have HId129 := hid (HId126.out.alloc (.cells #[.slice A9 n c9] 26))
            have HIq129 := hid (HIq126.out.alloc (.cells #[.slice A9 n c9] 26))
            have HKq129 := hid (HKq126.out.alloc (.cells #[.slice A9 n c9] 26))
            have HIb1129 := hid (HIb1126.out.alloc (.cells #[.slice A9 n c9] 26))
            have HIb2129 := hid (HIb2126.out.alloc (.cells #[.slice A9 n c9] 26))
            have HIb3129 := hid (HIb3126.out.alloc (.cells #[.slice A9 n c9] 26))
            have HIb4129 := hid (HIb4126.out.alloc (.cells #[.slice A9 n c9] 26))
            have HIb5129 := hid (HIb5126.out.alloc (.cells #[.slice A9 n c9] 26))
            have HIb6129 := hid (HIb6126.out.alloc (.cells #[.slice A9 n c9] 26))
            have HIb7129 := hid (HIb7126.out.alloc (.cells #[.slice A9 n c9] 26))
            have HI9129 := hid (HI9.out.alloc (.cells #[.slice A9 n c9] 26))
            have HKo129 : Hid (Blk (w125.alloc (.cells #[.slice A9 n c9] 26)) B7 26 #[.slice A9 n c9]) := hid (by rw [← hB7]; exact Blk.new w125 _ _)
            clear tKp127 tKq128
            clear hB7 HB126 HIp126 HIw126 HKp126 HIe126 HIc126 HId126 HIq126 HKq126 HIb1126 HIb2126 HIb3126 HIb4126 HIb5126 HIb6126 HIb7126 HI9
            have tKp130 := HKp129.out.cell 0
            have tKq131 := HKq129.out.cell 0
            have tKo132 := HKo129.out.cell 0
            go_wp2_with fail
            refine (implEvacuateLinear_any _ (dualL us) _ D _ HI9129.out (by rw [G8.out]; exact hl9) HId129.out (by rw [G3.out]; omega)).mono ?_
            rintro e w133 ⟨ub8, rfl, ho, hlb8, hb⟩
            rw [HF21.out]
            rw [HF22.out] at ho hlb8
            have HIb8 := hid ho.ints
            obtain ⟨Ab8, cb8, rfl, -⟩ := ho.ints
            rw [G7.out] at HIb8 hlb8 ⊢
            clear ho
            have HB134 := hid (below_to HB129.out hb)
            have HIp134 := hid (HIp129.out.below hb)
            have HIw134 := hid (HIw129.out.below hb)
            have HKp134 := hid (HKp129.out.below hb HKp129.out.lt)
            have HIe134 := hid (HIe129.out.below hb)
            have HIc134 := hid (HIc129.out.below hb)
            have HId134 := hid (HId129.out.below hb)
            have HIq134 := hid (HIq129.out.below hb)
            have HKq134 := hid (HKq129.out.below hb HKq129.out.lt)
            have HIb1134 := hid (HIb1129.out.below hb)
            have HIb2134 := hid (HIb2129.out.below hb)
            have HIb3134 := hid (HIb3129.out.below hb)
            have HIb4134 := hid (HIb4129.out.below hb)
            have HIb5134 := hid (HIb5129.out.below hb)
            have HIb6134 := hid (HIb6129.out.below hb)
            have HIb7134 := hid (HIb7129.out.below hb)
            have HI9134 := hid (HI9129.out.below hb)
            have HKo134 := hid (HKo129.out.below hb HKo129.out.lt)
            clear tKp130 tKq131 tKo132
            clear hb HB129 HIp129 HIw129 HKp129 HIe129 HIc129 HId129 HIq129 HKq129 HIb1129 HIb2129 HIb3129 HIb4129 HIb5129 HIb6129 HIb7129 HI9129 HKo129
            have tKp135 := HKp134.out.cell 0
            have tKq136 := HKq134.out.cell 0
            have tKo137 := HKo134.out.cell 0
            go_wp2_with fail
            refine (implDualLinear_any _ us _ C _ HIp134.out hl HIc134.out (by rw [G2.out]; omega)).mono ?_
            rintro e w138 ⟨ub9, rfl, ho, hlb9, hb⟩
            rw [HF10.out]
            rw [HF23.out] at ho hlb9
            have HIb9 := hid ho.ints
            obtain ⟨Ab9, cb9, rfl, -⟩ := ho.ints
            rw [G7.out] at HIb9 hlb9 ⊢
            clear ho
            have HB139 := hid (below_to HB134.out hb)
            have HIp139 := hid (HIp134.out.below hb)
            have HIw139 := hid (HIw134.out.below hb)
            have HKp139 := hid (HKp134.out.below hb HKp134.out.lt)
            have HIe139 := hid (HIe134.out.below hb)
            have HIc139 := hid (HIc134.out.below hb)
            have HId139 := hid (HId134.out.below hb)
            have HIq139 := hid (HIq134.out.below hb)
            have HKq139 := hid (HKq134.out.below hb HKq134.out.lt)
            have HIb1139 := hid (HIb1134.out.below hb)
            have HIb2139 := hid (HIb2134.out.below hb)
            have HIb3139 := hid (HIb3134.out.below hb)
            have HIb4139 := hid (HIb4134.out.below hb)
            have HIb5139 := hid (HIb5134.out.below hb)
            have HIb6139 := hid (HIb6134.out.below hb)
            have HIb7139 := hid (HIb7134.out.below hb)
            have HI9139 := hid (HI9134.out.below hb)
            have HKo139 := hid (HKo134.out.below hb HKo134.out.lt)
            have HIb8139 := hid (HIb8.out.below hb)
            clear tKp135 tKq136 tKo137
            clear hb HB134 HIp134 HIw134 HKp134 HIe134 HIc134 HId134 HIq134 HKq134 HIb1134 HIb2134 HIb3134 HIb4134 HIb5134 HIb6134 HIb7134 HI9134 HKo134 HIb8
            have tKp140 := HKp139.out.cell 0
            have tKq141 := HKq139.out.cell 0
            have tKo142 := HKo139.out.cell 0
            go_wp2_with fail
            refine (oSame_any _ _ ws _ HIb1139.out HIw139.out (by rw [HWl.out]; omega)).mono ?_
            rintro e w143 ⟨rfl, hb⟩
            have HB144 := hid (below_to HB139.out hb)
            have HIp144 := hid (HIp139.out.below hb)
            have HIw144 := hid (HIw139.out.below hb)
            have HKp144 := hid (HKp139.out.below hb HKp139.out.lt)
            have HIe144 := hid (HIe139.out.below hb)
            have HIc144 := hid (HIc139.out.below hb)
            have HId144 := hid (HId139.out.below hb)
            have HIq144 := hid (HIq139.out.below hb)
            have HKq144 := hid (HKq139.out.below hb HKq139.out.lt)
            have HIb1144 := hid (HIb1139.out.below hb)
            have HIb2144 := hid (HIb2139.out.below hb)
            have HIb3144 := hid (HIb3139.out.below hb)
            have HIb4144 := hid (HIb4139.out.below hb)
            have HIb5144 := hid (HIb5139.out.below hb)
            have HIb6144 := hid (HIb6139.out.below hb)
            have HIb7144 := hid (HIb7139.out.below hb)
            have HI9144 := hid (HI9139.out.below hb)
            have HKo144 := hid (HKo139.out.below hb HKo139.out.lt)
            have HIb8144 := hid (HIb8139.out.below hb)
            have HIb9144 := hid (HIb9.out.below hb)
            clear tKp140 tKq141 tKo142
            clear hb HB139 HIp139 HIw139 HKp139 HIe139 HIc139 HId139 HIq139 HKq139 HIb1139 HIb2139 HIb3139 HIb4139 HIb5139 HIb6139 HIb7139 HI9139 HKo139 HIb8139 HIb9
            have tKp145 := HKp144.out.cell 0
            have tKq146 := HKq144.out.cell 0
            have tKo147 := HKo144.out.cell 0
            go_wp2_with fail
            refine (oSame_any _ _ ws _ HIb2144.out HIw144.out (by rw [HWl.out]; omega)).mono ?_
            rintro e w148 ⟨rfl, hb⟩
            have HB149 := hid (below_to HB144.out hb)
            have HIp149 := hid (HIp144.out.below hb)
            have HIw149 := hid (HIw144.out.below hb)
            have HKp149 := hid (HKp144.out.below hb HKp144.out.lt)
            have HIe149 := hid (HIe144.out.below hb)
            have HIc149 := hid (HIc144.out.below hb)
            have HId149 := hid (HId144.out.below hb)
            have HIq149 := hid (HIq144.out.below hb)
            have HKq149 := hid (HKq144.out.below hb HKq144.out.lt)
            have HIb1149 := hid (HIb1144.out.below hb)
            have HIb2149 := hid (HIb2144.out.below hb)
            have HIb3149 := hid (HIb3144.out.below hb)
            have HIb4149 := hid (HIb4144.out.below hb)
            have HIb5149 := hid (HIb5144.out.below hb)
            have HIb6149 := hid (HIb6144.out.below hb)
            have HIb7149 := hid (HIb7144.out.below hb)
            have HI9149 := hid (HI9144.out.below hb)
            have HKo149 := hid (HKo144.out.below hb HKo144.out.lt)
            have HIb8149 := hid (HIb8144.out.below hb)
            have HIb9149 := hid (HIb9144.out.below hb)
            clear tKp145 tKq146 tKo147
            clear hb HB144 HIp144 HIw144 HKp144 HIe144 HIc144 HId144 HIq144 HKq144 HIb1144 HIb2144 HIb3144 HIb4144 HIb5144 HIb6144 HIb7144 HI9144 HKo144 HIb8144 HIb9144
            have tKp150 := HKp149.out.cell 0
            have tKq151 := HKq149.out.cell 0
            have tKo152 := HKo149.out.cell 0
            go_wp2_with fail
            refine (oSame_any _ _ V _ HIb4149.out HIb5149.out (by rw [G5.out]; omega)).mono ?_
            rintro e w153 ⟨rfl, hb⟩
            have HB154 := hid (below_to HB149.out hb)
            have HIp154 := hid (HIp149.out.below hb)
            have HIw154 := hid (HIw149.out.below hb)
            have HKp154 := hid (HKp149.out.below hb HKp149.out.lt)
            have HIe154 := hid (HIe149.out.below hb)
            have HIc154 := hid (HIc149.out.below hb)
            have HId154 := hid (HId149.out.below hb)
            have HIq154 := hid (HIq149.out.below hb)
            have HKq154 := hid (HKq149.out.below hb HKq149.out.lt)
            have HIb1154 := hid (HIb1149.out.below hb)
            have HIb2154 := hid (HIb2149.out.below hb)
            have HIb3154 := hid (HIb3149.out.below hb)
            have HIb4154 := hid (HIb4149.out.below hb)
            have HIb5154 := hid (HIb5149.out.below hb)
            have HIb6154 := hid (HIb6149.out.below hb)
            have HIb7154 := hid (HIb7149.out.below hb)
            have HI9154 := hid (HI9149.out.below hb)
            have HKo154 := hid (HKo149.out.below hb HKo149.out.lt)
            have HIb8154 := hid (HIb8149.out.below hb)
            have HIb9154 := hid (HIb9149.out.below hb)
            clear tKp150 tKq151 tKo152
            clear hb HB149 HIp149 HIw149 HKp149 HIe149 HIc149 HId149 HIq149 HKq149 HIb1149 HIb2149 HIb3149 HIb4149 HIb5149 HIb6149 HIb7149 HI9149 HKo149 HIb8149 HIb9149
            have tKp155 := HKp154.out.cell 0
            have tKq156 := HKq154.out.cell 0
            have tKo157 := HKo154.out.cell 0
            go_wp2_with fail
            refine (oSame_any _ _ N _ HIb6154.out HIb7154.out (by rw [G6.out]; omega)).mono ?_
            rintro e w158 ⟨rfl, hb⟩
            have HB159 := hid (below_to HB154.out hb)
            have HIp159 := hid (HIp154.out.below hb)
            have HIw159 := hid (HIw154.out.below hb)
            have HKp159 := hid (HKp154.out.below hb HKp154.out.lt)
            have HIe159 := hid (HIe154.out.below hb)
            have HIc159 := hid (HIc154.out.below hb)
            have HId159 := hid (HId154.out.below hb)
            have HIq159 := hid (HIq154.out.below hb)
            have HKq159 := hid (HKq154.out.below hb HKq154.out.lt)
            have HIb1159 := hid (HIb1154.out.below hb)
            have HIb2159 := hid (HIb2154.out.below hb)
            have HIb3159 := hid (HIb3154.out.below hb)
            have HIb4159 := hid (HIb4154.out.below hb)
            have HIb5159 := hid (HIb5154.out.below hb)
            have HIb6159 := hid (HIb6154.out.below hb)
            have HIb7159 := hid (HIb7154.out.below hb)
            have HI9159 := hid (HI9154.out.below hb)
            have HKo159 := hid (HKo154.out.below hb HKo154.out.lt)
            have HIb8159 := hid (HIb8154.out.below hb)
            have HIb9159 := hid (HIb9154.out.below hb)
            clear tKp155 tKq156 tKo157
            clear hb HB154 HIp154 HIw154 HKp154 HIe154 HIc154 HId154 HIq154 HKq154 HIb1154 HIb2154 HIb3154 HIb4154 HIb5154 HIb6154 HIb7154 HI9154 HKo154 HIb8154 HIb9154
            have tKp160 := HKp159.out.cell 0
            have tKq161 := HKq159.out.cell 0
            have tKo162 := HKo159.out.cell 0
            go_wp2_with fail
            refine (oSame_any _ _ O _ HIb8159.out HIb9159.out (by rw [G7.out]; omega)).mono ?_
            rintro e w163 ⟨rfl, hb⟩
            have HB164 := hid (below_to HB159.out hb)
            have HIp164 := hid (HIp159.out.below hb)
            have HIw164 := hid (HIw159.out.below hb)
            have HKp164 := hid (HKp159.out.below hb HKp159.out.lt)
            have HIe164 := hid (HIe159.out.below hb)
            have HIc164 := hid (HIc159.out.below hb)
            have HId164 := hid (HId159.out.below hb)
            have HIq164 := hid (HIq159.out.below hb)
            have HKq164 := hid (HKq159.out.below hb HKq159.out.lt)
            have HIb1164 := hid (HIb1159.out.below hb)
            have HIb2164 := hid (HIb2159.out.below hb)
            have HIb3164 := hid (HIb3159.out.below hb)
            have HIb4164 := hid (HIb4159.out.below hb)
            have HIb5164 := hid (HIb5159.out.below hb)
            have HIb6164 := hid (HIb6159.out.below hb)
            have HIb7164 := hid (HIb7159.out.below hb)
            have HI9164 := hid (HI9159.out.below hb)
            have HKo164 := hid (HKo159.out.below hb HKo159.out.lt)
            have HIb8164 := hid (HIb8159.out.below hb)
            have HIb9164 := hid (HIb9159.out.below hb)
            clear tKp160 tKq161 tKo162
            clear hb HB159 HIp159 HIw159 HKp159 HIe159 HIc159 HId159 HIq159 HKq159 HIb1159 HIb2159 HIb3159 HIb4159 HIb5159 HIb6159 HIb7159 HI9159 HKo159 HIb8159 HIb9159
            have tKp165 := HKp164.out.cell 0
            have tKq166 := HKq164.out.cell 0
            have tKo167 := HKo164.out.cell 0
            go_wp2_with fail
            refine (oLinear_any _ (dualL us) _ D _ HI9164.out (by rw [G8.out]; exact hl9) HId164.out (by rw [G3.out]; omega)).mono ?_
            rintro e w168 ⟨rfl, hb⟩
            rw [HF21.out]
            have HB169 := hid (below_to HB164.out hb)
            have HIp169 := hid (HIp164.out.below hb)
            have HIw169 := hid (HIw164.out.below hb)
            have HKp169 := hid (HKp164.out.below hb HKp164.out.lt)
            have HIe169 := hid (HIe164.out.below hb)
            have HIc169 := hid (HIc164.out.below hb)
            have HId169 := hid (HId164.out.below hb)
            have HIq169 := hid (HIq164.out.below hb)
            have HKq169 := hid (HKq164.out.below hb HKq164.out.lt)
            have HIb1169 := hid (HIb1164.out.below hb)
            have HIb2169 := hid (HIb2164.out.below hb)
            have HIb3169 := hid (HIb3164.out.below hb)
            have HIb4169 := hid (HIb4164.out.below hb)
            have HIb5169 := hid (HIb5164.out.below hb)
            have HIb6169 := hid (HIb6164.out.below hb)
            have HIb7169 := hid (HIb7164.out.below hb)
            have HI9169 := hid (HI9164.out.below hb)
            have HKo169 := hid (HKo164.out.below hb HKo164.out.lt)
            have HIb8169 := hid (HIb8164.out.below hb)
            have HIb9169 := hid (HIb9164.out.below hb)
            clear tKp165 tKq166 tKo167
            clear hb HB164 HIp164 HIw164 HKp164 HIe164 HIc164 HId164 HIq164 HKq164 HIb1164 HIb2164 HIb3164 HIb4164 HIb5164 HIb6164 HIb7164 HI9164 HKo164 HIb8164 HIb9164
            have tKp170 := HKp169.out.cell 0
            have tKq171 := HKq169.out.cell 0
            have tKo172 := HKo169.out.cell 0
            clear tKp170 tKq171 tKo172
            go_wp2
            go_ret
            exact ⟨rfl, HB169.out⟩
        · as_aux_lemma =>
            obtain ⟨a, m, k1, k2, k3, k4⟩ := selfFacts hal
            have HAl := hid hal
            have HGq := hid k1
            have HA := hid k2
            have HN := hid k3
            clear hal k1 k2 k3
            go_wp2_with fail
            refine (implSelfEvacuated_any _ qs _ HIq86.out hql).mono ?_
            rintro e w173 ⟨rfl, hb⟩
            rw [HA.out, HAl.out]
            have HB174 := hid (below_to HB86.out hb)
            have HIp174 := hid (HIp86.out.below hb)
            have HIw174 := hid (HIw86.out.below hb)
            have HKp174 := hid (HKp86.out.below hb HKp86.out.lt)
            have HIe174 := hid (HIe86.out.below hb)
            have HIc174 := hid (HIc86.out.below hb)
            have HId174 := hid (HId86.out.below hb)
            have HIq174 := hid (HIq86.out.below hb)
            have HKq174 := hid (HKq86.out.below hb HKq86.out.lt)
            clear tKp87 tKq88
            clear hb HB86 HIp86 HIw86 HKp86 HIe86 HIc86 HId86 HIq86 HKq86
            have tKp175 := HKp174.out.cell 0
            have tKq176 := HKq174.out.cell 0
            go_wp2_with fail
            refine (specSelfEvacuated_any _ qs _ HIq174.out hql).mono ?_
            rintro e w177 ⟨rfl, hb⟩
            rw [HA.out, HAl.out]
            have HB178 := hid (below_to HB174.out hb)
            have HIp178 := hid (HIp174.out.below hb)
            have HIw178 := hid (HIw174.out.below hb)
            have HKp178 := hid (HKp174.out.below hb HKp174.out.lt)
            have HIe178 := hid (HIe174.out.below hb)
            have HIc178 := hid (HIc174.out.below hb)
            have HId178 := hid (HId174.out.below hb)
            have HIq178 := hid (HIq174.out.below hb)
            have HKq178 := hid (HKq174.out.below hb HKq174.out.lt)
            clear tKp175 tKq176
            clear hb HB174 HIp174 HIw174 HKp174 HIe174 HIc174 HId174 HIq174 HKq174
            have tKp179 := HKp178.out.cell 0
            have tKq180 := HKq178.out.cell 0
            go_wp2_with fail
            refine (implCountLinear_any _ qs _ HIq178.out hql).mono ?_
            rintro e w181 ⟨rfl, hb⟩
            rw [HN.out, HGq.out]
            have HB182 := hid (below_to HB178.out hb)
            have HIp182 := hid (HIp178.out.below hb)
            have HIw182 := hid (HIw178.out.below hb)
            have HKp182 := hid (HKp178.out.below hb HKp178.out.lt)
            have HIe182 := hid (HIe178.out.below hb)
            have HIc182 := hid (HIc178.out.below hb)
            have HId182 := hid (HId178.out.below hb)
            have HIq182 := hid (HIq178.out.below hb)
            have HKq182 := hid (HKq178.out.below hb HKq178.out.lt)
            clear tKp179 tKq180
            clear hb HB178 HIp178 HIw178 HKp178 HIe178 HIc178 HId178 HIq178 HKq178
            have tKp183 := HKp182.out.cell 0
            have tKq184 := HKq182.out.cell 0
            have hd1 : ((a + 2 * m : Nat) : Int) - (a : Int) = ((2 * m : Nat) : Int) := by omega
            have hd2 : IntKind.i64.wrap (((a + 2 * m : Nat) : Int) - (a : Int)) = ((2 * m : Nat) : Int) := by rw [hd1, IntKind.wrap_i64]; omega
            have hd3 : Int.tmod ((2 * m : Nat) : Int) 2 = 0 := by rw [Int.tmod_eq_emod_of_nonneg (by omega)]; omega
            have hd4 : ((2 * m : Nat) : Int) % 2 = 0 := by omega
            clear HA HAl HGq HN
            go_wp2_with fail
            refine (implEvacuateLinear_any _ us _ E _ HIp182.out hl HIe182.out (by rw [G1.out]; omega)).mono ?_
            rintro e w185 ⟨ub1, rfl, ho, hlb1, hb⟩
            rw [HF8.out]
            rw [HF9.out] at ho hlb1
            have HIb1 := hid ho.ints
            obtain ⟨Ab1, cb1, rfl, -⟩ := ho.ints
            rw [HWl.out] at HIb1 hlb1 ⊢
            clear ho
            have HB186 := hid (below_to HB182.out hb)
            have HIp186 := hid (HIp182.out.below hb)
            have HIw186 := hid (HIw182.out.below hb)
            have HKp186 := hid (HKp182.out.below hb HKp182.out.lt)
            have HIe186 := hid (HIe182.out.below hb)
            have HIc186 := hid (HIc182.out.below hb)
            have HId186 := hid (HId182.out.below hb)
            have HIq186 := hid (HIq182.out.below hb)
            have HKq186 := hid (HKq182.out.below hb HKq182.out.lt)
            clear tKp183 tKq184
            clear hb HB182 HIp182 HIw182 HKp182 HIe182 HIc182 HId182 HIq182 HKq182
            have tKp187 := HKp186.out.cell 0
            have tKq188 := HKq186.out.cell 0
            clear hd1 hd2 hd3 hd4 k4
            go_wp2_with fail
            refine (implCoevacuateLinear_any _ us _ C _ HIp186.out hl HIc186.out (by rw [G2.out]; omega)).mono ?_
            rintro e w189 ⟨ub2, rfl, ho, hlb2, hb⟩
            rw [HF10.out]
            rw [HF11.out] at ho hlb2
            have HIb2 := hid ho.ints
            obtain ⟨Ab2, cb2, rfl, -⟩ := ho.ints
            rw [HWl.out] at HIb2 hlb2 ⊢
            clear ho
            have HB190 := hid (below_to HB186.out hb)
            have HIp190 := hid (HIp186.out.below hb)
            have HIw190 := hid (HIw186.out.below hb)
            have HKp190 := hid (HKp186.out.below hb HKp186.out.lt)
            have HIe190 := hid (HIe186.out.below hb)
            have HIc190 := hid (HIc186.out.below hb)
            have HId190 := hid (HId186.out.below hb)
            have HIq190 := hid (HIq186.out.below hb)
            have HKq190 := hid (HKq186.out.below hb HKq186.out.lt)
            have HIb1190 := hid (HIb1.out.below hb)
            clear tKp187 tKq188
            clear hb HB186 HIp186 HIw186 HKp186 HIe186 HIc186 HId186 HIq186 HKq186 HIb1
            have tKp191 := HKp190.out.cell 0
            have tKq192 := HKq190.out.cell 0
            go_wp2_with fail
            refine (implPromoteLinear_any _ us _ E 1 _ HIp190.out hl HIe190.out (by rw [G1.out]; omega) (wf_i64 _ (by omega) (by omega))).mono ?_
            rintro e w193 ⟨ub3, rfl, ho, hlb3, hb⟩
            rw [HF12.out]
            rw [HF13.out] at ho hlb3
            have HIb3 := hid ho.ints
            obtain ⟨Ab3, cb3, rfl, -⟩ := ho.ints
            rw [G4.out] at HIb3 hlb3 ⊢
            clear ho
            have HB194 := hid (below_to HB190.out hb)
            have HIp194 := hid (HIp190.out.below hb)
            have HIw194 := hid (HIw190.out.below hb)
            have HKp194 := hid (HKp190.out.below hb HKp190.out.lt)
            have HIe194 := hid (HIe190.out.below hb)
            have HIc194 := hid (HIc190.out.below hb)
            have HId194 := hid (HId190.out.below hb)
            have HIq194 := hid (HIq190.out.below hb)
            have HKq194 := hid (HKq190.out.below hb HKq190.out.lt)
            have HIb1194 := hid (HIb1190.out.below hb)
            have HIb2194 := hid (HIb2.out.below hb)
            clear tKp191 tKq192
            clear hb HB190 HIp190 HIw190 HKp190 HIe190 HIc190 HId190 HIq190 HKq190 HIb1190 HIb2
            have tKp195 := HKp194.out.cell 0
            have tKq196 := HKq194.out.cell 0
            go_wp2_with fail
            refine (implEvacuateLinear_any _ us _ U _ HIp194.out hl HIb3.out (by rw [G4.out]; omega)).mono ?_
            rintro e w197 ⟨ub4, rfl, ho, hlb4, hb⟩
            rw [HF14.out]
            rw [HF15.out] at ho hlb4
            have HIb4 := hid ho.ints
            obtain ⟨Ab4, cb4, rfl, -⟩ := ho.ints
            rw [G5.out] at HIb4 hlb4 ⊢
            clear ho
            have HB198 := hid (below_to HB194.out hb)
            have HIp198 := hid (HIp194.out.below hb)
            have HIw198 := hid (HIw194.out.below hb)
            have HKp198 := hid (HKp194.out.below hb HKp194.out.lt)
            have HIe198 := hid (HIe194.out.below hb)
            have HIc198 := hid (HIc194.out.below hb)
            have HId198 := hid (HId194.out.below hb)
            have HIq198 := hid (HIq194.out.below hb)
            have HKq198 := hid (HKq194.out.below hb HKq194.out.lt)
            have HIb1198 := hid (HIb1194.out.below hb)
            have HIb2198 := hid (HIb2194.out.below hb)
            have HIb3198 := hid (HIb3.out.below hb)
            clear tKp195 tKq196
            clear hb HB194 HIp194 HIw194 HKp194 HIe194 HIc194 HId194 HIq194 HKq194 HIb1194 HIb2194 HIb3
            have tKp199 := HKp198.out.cell 0
            have tKq200 := HKq198.out.cell 0
            go_wp2_with fail
            refine (implPromoteLinear_any _ us _ ws (-1) _ HIp198.out hl HIw198.out (by rw [HWl.out]; exact hm) (wf_i64 _ (by omega) (by omega))).mono ?_
            rintro e w201 ⟨ub5, rfl, ho, hlb5, hb⟩
            rw [HF16.out]
            rw [HF17.out] at ho hlb5
            have HIb5 := hid ho.ints
            obtain ⟨Ab5, cb5, rfl, -⟩ := ho.ints
            rw [G5.out] at HIb5 hlb5 ⊢
            clear ho
            have HB202 := hid (below_to HB198.out hb)
            have HIp202 := hid (HIp198.out.below hb)
            have HIw202 := hid (HIw198.out.below hb)
            have HKp202 := hid (HKp198.out.below hb HKp198.out.lt)
            have HIe202 := hid (HIe198.out.below hb)
            have HIc202 := hid (HIc198.out.below hb)
            have HId202 := hid (HId198.out.below hb)
            have HIq202 := hid (HIq198.out.below hb)
            have HKq202 := hid (HKq198.out.below hb HKq198.out.lt)
            have HIb1202 := hid (HIb1198.out.below hb)
            have HIb2202 := hid (HIb2198.out.below hb)
            have HIb3202 := hid (HIb3198.out.below hb)
            have HIb4202 := hid (HIb4.out.below hb)
            clear tKp199 tKq200
            clear hb HB198 HIp198 HIw198 HKp198 HIe198 HIc198 HId198 HIq198 HKq198 HIb1198 HIb2198 HIb3198 HIb4
            have tKp203 := HKp202.out.cell 0
            have tKq204 := HKq202.out.cell 0
            go_wp2_with fail
            refine (implCoevacuateLinear_any _ us _ E _ HIp202.out hl HIe202.out (by rw [G1.out]; omega)).mono ?_
            rintro e w205 ⟨ub6, rfl, ho, hlb6, hb⟩
            rw [HF8.out]
            rw [HF18.out] at ho hlb6
            have HIb6 := hid ho.ints
            obtain ⟨Ab6, cb6, rfl, -⟩ := ho.ints
            rw [G6.out] at HIb6 hlb6 ⊢
            clear ho
            have HB206 := hid (below_to HB202.out hb)
            have HIp206 := hid (HIp202.out.below hb)
            have HIw206 := hid (HIw202.out.below hb)
            have HKp206 := hid (HKp202.out.below hb HKp202.out.lt)
            have HIe206 := hid (HIe202.out.below hb)
            have HIc206 := hid (HIc202.out.below hb)
            have HId206 := hid (HId202.out.below hb)
            have HIq206 := hid (HIq202.out.below hb)
            have HKq206 := hid (HKq202.out.below hb HKq202.out.lt)
            have HIb1206 := hid (HIb1202.out.below hb)
            have HIb2206 := hid (HIb2202.out.below hb)
            have HIb3206 := hid (HIb3202.out.below hb)
            have HIb4206 := hid (HIb4202.out.below hb)
            have HIb5206 := hid (HIb5.out.below hb)
            clear tKp203 tKq204
            clear hb HB202 HIp202 HIw202 HKp202 HIe202 HIc202 HId202 HIq202 HKq202 HIb1202 HIb2202 HIb3202 HIb4202 HIb5
            have tKp207 := HKp206.out.cell 0
            have tKq208 := HKq206.out.cell 0
            go_wp2_with fail
            refine (implPromoteLinear_any _ us _ ws (n : Int) _ HIp206.out hl HIw206.out (by rw [HWl.out]; exact hm) (wf_i64 _ (by omega) (by omega))).mono ?_
            rintro e w209 ⟨ub7, rfl, ho, hlb7, hb⟩
            rw [HF19.out]
            rw [HF20.out] at ho hlb7
            have HIb7 := hid ho.ints
            obtain ⟨Ab7, cb7, rfl, -⟩ := ho.ints
            rw [G6.out] at HIb7 hlb7 ⊢
            clear ho
            have HB210 := hid (below_to HB206.out hb)
            have HIp210 := hid (HIp206.out.below hb)
            have HIw210 := hid (HIw206.out.below hb)
            have HKp210 := hid (HKp206.out.below hb HKp206.out.lt)
            have HIe210 := hid (HIe206.out.below hb)
            have HIc210 := hid (HIc206.out.below hb)
            have HId210 := hid (HId206.out.below hb)
            have HIq210 := hid (HIq206.out.below hb)
            have HKq210 := hid (HKq206.out.below hb HKq206.out.lt)
            have HIb1210 := hid (HIb1206.out.below hb)
            have HIb2210 := hid (HIb2206.out.below hb)
            have HIb3210 := hid (HIb3206.out.below hb)
            have HIb4210 := hid (HIb4206.out.below hb)
            have HIb5210 := hid (HIb5206.out.below hb)
            have HIb6210 := hid (HIb6.out.below hb)
            clear tKp207 tKq208
            clear hb HB206 HIp206 HIw206 HKp206 HIe206 HIc206 HId206 HIq206 HKq206 HIb1206 HIb2206 HIb3206 HIb4206 HIb5206 HIb6
            have tKp211 := HKp210.out.cell 0
            have tKq212 := HKq210.out.cell 0
            go_wp2_with fail
            refine (implDualOf_any _ us _ HIp210.out hl).mono ?_
            rintro e w213 ⟨u9, rfl, ho, hl9, hb⟩
            rw [HG.out]
            have HI9 := hid ho.ints
            obtain ⟨A9, c9, rfl, -⟩ := ho.ints
            rw [G8.out] at HI9 hl9 ⊢
            clear ho
            have HB214 := hid (below_to HB210.out hb)
            have HIp214 := hid (HIp210.out.below hb)
            have HIw214 := hid (HIw210.out.below hb)
            have HKp214 := hid (HKp210.out.below hb HKp210.out.lt)
            have HIe214 := hid (HIe210.out.below hb)
            have HIc214 := hid (HIc210.out.below hb)
            have HId214 := hid (HId210.out.below hb)
            have HIq214 := hid (HIq210.out.below hb)
            have HKq214 := hid (HKq210.out.below hb HKq210.out.lt)
            have HIb1214 := hid (HIb1210.out.below hb)
            have HIb2214 := hid (HIb2210.out.below hb)
            have HIb3214 := hid (HIb3210.out.below hb)
            have HIb4214 := hid (HIb4210.out.below hb)
            have HIb5214 := hid (HIb5210.out.below hb)
            have HIb6214 := hid (HIb6210.out.below hb)
            have HIb7214 := hid (HIb7.out.below hb)
            clear tKp211 tKq212
            clear hb HB210 HIp210 HIw210 HKp210 HIe210 HIc210 HId210 HIq210 HKq210 HIb1210 HIb2210 HIb3210 HIb4210 HIb5210 HIb6210 HIb7
            have tKp215 := HKp214.out.cell 0
            have tKq216 := HKq214.out.cell 0
            obtain ⟨B7, hB7⟩ : ∃ B7, w213.heap.size = B7 := ⟨_, rfl⟩
            go_wp2_with fail
            have HB217 := hid (below_alloc HB214.out (.cells #[.slice A9 n c9] 26))
            have HIp217 := hid (HIp214.out.alloc (.cells #[.slice A9 n c9] 26))
            have HIw217 := hid (HIw214.out.alloc (.cells #[.slice A9 n c9] 26))
            have HKp217 := hid (HKp214.out.alloc (.cells #[.slice A9 n c9] 26))
            have HIe217 := hid (HIe214.out.alloc (.cells #[.slice A9 n c9] 26))
            have HIc217 := hid (HIc214.out.alloc (.cells #[.slice A9 n c9] 26))
            have HId217 := hid (HId214.out.alloc (.cells #[.slice A9 n c9] 26))
            have HIq217 := hid (HIq214.out.alloc (.cells #[.slice A9 n c9] 26))
            have HKq217 := hid (HKq214.out.alloc (.cells #[.slice A9 n c9] 26))
            have HIb1217 := hid (HIb1214.out.alloc (.cells #[.slice A9 n c9] 26))
            have HIb2217 := hid (HIb2214.out.alloc (.cells #[.slice A9 n c9] 26))
            have HIb3217 := hid (HIb3214.out.alloc (.cells #[.slice A9 n c9] 26))
            have HIb4217 := hid (HIb4214.out.alloc (.cells #[.slice A9 n c9] 26))
            have HIb5217 := hid (HIb5214.out.alloc (.cells #[.slice A9 n c9] 26))
            have HIb6217 := hid (HIb6214.out.alloc (.cells #[.slice A9 n c9] 26))
            have HIb7217 := hid (HIb7214.out.alloc (.cells #[.slice A9 n c9] 26))
            have HI9217 := hid (HI9.out.alloc (.cells #[.slice A9 n c9] 26))
            have HKo217 : Hid (Blk (w213.alloc (.cells #[.slice A9 n c9] 26)) B7 26 #[.slice A9 n c9]) := hid (by rw [← hB7]; exact Blk.new w213 _ _)
            clear tKp215 tKq216
            clear hB7 HB214 HIp214 HIw214 HKp214 HIe214 HIc214 HId214 HIq214 HKq214 HIb1214 HIb2214 HIb3214 HIb4214 HIb5214 HIb6214 HIb7214 HI9
            have tKp218 := HKp217.out.cell 0
            have tKq219 := HKq217.out.cell 0
            have tKo220 := HKo217.out.cell 0
            go_wp2_with fail
            refine (implEvacuateLinear_any _ (dualL us) _ D _ HI9217.out (by rw [G8.out]; exact hl9) HId217.out (by rw [G3.out]; omega)).mono ?_
            rintro e w221 ⟨ub8, rfl, ho, hlb8, hb⟩
            rw [HF21.out]
            rw [HF22.out] at ho hlb8
            have HIb8 := hid ho.ints
            obtain ⟨Ab8, cb8, rfl, -⟩ := ho.ints
            rw [G7.out] at HIb8 hlb8 ⊢
            clear ho
            have HB222 := hid (below_to HB217.out hb)
            have HIp222 := hid (HIp217.out.below hb)
            have HIw222 := hid (HIw217.out.below hb)
            have HKp222 := hid (HKp217.out.below hb HKp217.out.lt)
            have HIe222 := hid (HIe217.out.below hb)
            have HIc222 := hid (HIc217.out.below hb)
            have HId222 := hid (HId217.out.below hb)
            have HIq222 := hid (HIq217.out.below hb)
            have HKq222 := hid (HKq217.out.below hb HKq217.out.lt)
            have HIb1222 := hid (HIb1217.out.below hb)
            have HIb2222 := hid (HIb2217.out.below hb)
            have HIb3222 := hid (HIb3217.out.below hb)
            have HIb4222 := hid (HIb4217.out.below hb)
            have HIb5222 := hid (HIb5217.out.below hb)
            have HIb6222 := hid (HIb6217.out.below hb)
            have HIb7222 := hid (HIb7217.out.below hb)
            have HI9222 := hid (HI9217.out.below hb)
            have HKo222 := hid (HKo217.out.below hb HKo217.out.lt)
            clear tKp218 tKq219 tKo220
            clear hb HB217 HIp217 HIw217 HKp217 HIe217 HIc217 HId217 HIq217 HKq217 HIb1217 HIb2217 HIb3217 HIb4217 HIb5217 HIb6217 HIb7217 HI9217 HKo217
            have tKp223 := HKp222.out.cell 0
            have tKq224 := HKq222.out.cell 0
            have tKo225 := HKo222.out.cell 0
            go_wp2_with fail
            refine (implDualLinear_any _ us _ C _ HIp222.out hl HIc222.out (by rw [G2.out]; omega)).mono ?_
            rintro e w226 ⟨ub9, rfl, ho, hlb9, hb⟩
            rw [HF10.out]
            rw [HF23.out] at ho hlb9
            have HIb9 := hid ho.ints
            obtain ⟨Ab9, cb9, rfl, -⟩ := ho.ints
            rw [G7.out] at HIb9 hlb9 ⊢
            clear ho
            have HB227 := hid (below_to HB222.out hb)
            have HIp227 := hid (HIp222.out.below hb)
            have HIw227 := hid (HIw222.out.below hb)
            have HKp227 := hid (HKp222.out.below hb HKp222.out.lt)
            have HIe227 := hid (HIe222.out.below hb)
            have HIc227 := hid (HIc222.out.below hb)
            have HId227 := hid (HId222.out.below hb)
            have HIq227 := hid (HIq222.out.below hb)
            have HKq227 := hid (HKq222.out.below hb HKq222.out.lt)
            have HIb1227 := hid (HIb1222.out.below hb)
            have HIb2227 := hid (HIb2222.out.below hb)
            have HIb3227 := hid (HIb3222.out.below hb)
            have HIb4227 := hid (HIb4222.out.below hb)
            have HIb5227 := hid (HIb5222.out.below hb)
            have HIb6227 := hid (HIb6222.out.below hb)
            have HIb7227 := hid (HIb7222.out.below hb)
            have HI9227 := hid (HI9222.out.below hb)
            have HKo227 := hid (HKo222.out.below hb HKo222.out.lt)
            have HIb8227 := hid (HIb8.out.below hb)
            clear tKp223 tKq224 tKo225
            clear hb HB222 HIp222 HIw222 HKp222 HIe222 HIc222 HId222 HIq222 HKq222 HIb1222 HIb2222 HIb3222 HIb4222 HIb5222 HIb6222 HIb7222 HI9222 HKo222 HIb8
            have tKp228 := HKp227.out.cell 0
            have tKq229 := HKq227.out.cell 0
            have tKo230 := HKo227.out.cell 0
            go_wp2_with fail
            refine (oSame_any _ _ ws _ HIb1227.out HIw227.out (by rw [HWl.out]; omega)).mono ?_
            rintro e w231 ⟨rfl, hb⟩
            have HB232 := hid (below_to HB227.out hb)
            have HIp232 := hid (HIp227.out.below hb)
            have HIw232 := hid (HIw227.out.below hb)
            have HKp232 := hid (HKp227.out.below hb HKp227.out.lt)
            have HIe232 := hid (HIe227.out.below hb)
            have HIc232 := hid (HIc227.out.below hb)
            have HId232 := hid (HId227.out.below hb)
            have HIq232 := hid (HIq227.out.below hb)
            have HKq232 := hid (HKq227.out.below hb HKq227.out.lt)
            have HIb1232 := hid (HIb1227.out.below hb)
            have HIb2232 := hid (HIb2227.out.below hb)
            have HIb3232 := hid (HIb3227.out.below hb)
            have HIb4232 := hid (HIb4227.out.below hb)
            have HIb5232 := hid (HIb5227.out.below hb)
            have HIb6232 := hid (HIb6227.out.below hb)
            have HIb7232 := hid (HIb7227.out.below hb)
            have HI9232 := hid (HI9227.out.below hb)
            have HKo232 := hid (HKo227.out.below hb HKo227.out.lt)
            have HIb8232 := hid (HIb8227.out.below hb)
            have HIb9232 := hid (HIb9.out.below hb)
            clear tKp228 tKq229 tKo230
            clear hb HB227 HIp227 HIw227 HKp227 HIe227 HIc227 HId227 HIq227 HKq227 HIb1227 HIb2227 HIb3227 HIb4227 HIb5227 HIb6227 HIb7227 HI9227 HKo227 HIb8227 HIb9
            have tKp233 := HKp232.out.cell 0
            have tKq234 := HKq232.out.cell 0
            have tKo235 := HKo232.out.cell 0
            go_wp2_with fail
            refine (oSame_any _ _ ws _ HIb2232.out HIw232.out (by rw [HWl.out]; omega)).mono ?_
            rintro e w236 ⟨rfl, hb⟩
            have HB237 := hid (below_to HB232.out hb)
            have HIp237 := hid (HIp232.out.below hb)
            have HIw237 := hid (HIw232.out.below hb)
            have HKp237 := hid (HKp232.out.below hb HKp232.out.lt)
            have HIe237 := hid (HIe232.out.below hb)
            have HIc237 := hid (HIc232.out.below hb)
            have HId237 := hid (HId232.out.below hb)
            have HIq237 := hid (HIq232.out.below hb)
            have HKq237 := hid (HKq232.out.below hb HKq232.out.lt)
            have HIb1237 := hid (HIb1232.out.below hb)
            have HIb2237 := hid (HIb2232.out.below hb)
            have HIb3237 := hid (HIb3232.out.below hb)
            have HIb4237 := hid (HIb4232.out.below hb)
            have HIb5237 := hid (HIb5232.out.below hb)
            have HIb6237 := hid (HIb6232.out.below hb)
            have HIb7237 := hid (HIb7232.out.below hb)
            have HI9237 := hid (HI9232.out.below hb)
            have HKo237 := hid (HKo232.out.below hb HKo232.out.lt)
            have HIb8237 := hid (HIb8232.out.below hb)
            have HIb9237 := hid (HIb9232.out.below hb)
            clear tKp233 tKq234 tKo235
            clear hb HB232 HIp232 HIw232 HKp232 HIe232 HIc232 HId232 HIq232 HKq232 HIb1232 HIb2232 HIb3232 HIb4232 HIb5232 HIb6232 HIb7232 HI9232 HKo232 HIb8232 HIb9232
            have tKp238 := HKp237.out.cell 0
            have tKq239 := HKq237.out.cell 0
            have tKo240 := HKo237.out.cell 0
            go_wp2_with fail
            refine (oSame_any _ _ V _ HIb4237.out HIb5237.out (by rw [G5.out]; omega)).mono ?_
            rintro e w241 ⟨rfl, hb⟩
            have HB242 := hid (below_to HB237.out hb)
            have HIp242 := hid (HIp237.out.below hb)
            have HIw242 := hid (HIw237.out.below hb)
            have HKp242 := hid (HKp237.out.below hb HKp237.out.lt)
            have HIe242 := hid (HIe237.out.below hb)
            have HIc242 := hid (HIc237.out.below hb)
            have HId242 := hid (HId237.out.below hb)
            have HIq242 := hid (HIq237.out.below hb)
            have HKq242 := hid (HKq237.out.below hb HKq237.out.lt)
            have HIb1242 := hid (HIb1237.out.below hb)
            have HIb2242 := hid (HIb2237.out.below hb)
            have HIb3242 := hid (HIb3237.out.below hb)
            have HIb4242 := hid (HIb4237.out.below hb)
            have HIb5242 := hid (HIb5237.out.below hb)
            have HIb6242 := hid (HIb6237.out.below hb)
            have HIb7242 := hid (HIb7237.out.below hb)
            have HI9242 := hid (HI9237.out.below hb)
            have HKo242 := hid (HKo237.out.below hb HKo237.out.lt)
            have HIb8242 := hid (HIb8237.out.below hb)
            have HIb9242 := hid (HIb9237.out.below hb)
            clear tKp238 tKq239 tKo240
            clear hb HB237 HIp237 HIw237 HKp237 HIe237 HIc237 HId237 HIq237 HKq237 HIb1237 HIb2237 HIb3237 HIb4237 HIb5237 HIb6237 HIb7237 HI9237 HKo237 HIb8237 HIb9237
            have tKp243 := HKp242.out.cell 0
            have tKq244 := HKq242.out.cell 0
            have tKo245 := HKo242.out.cell 0
            go_wp2_with fail
            refine (oSame_any _ _ N _ HIb6242.out HIb7242.out (by rw [G6.out]; omega)).mono ?_
            rintro e w246 ⟨rfl, hb⟩
            have HB247 := hid (below_to HB242.out hb)
            have HIp247 := hid (HIp242.out.below hb)
            have HIw247 := hid (HIw242.out.below hb)
            have HKp247 := hid (HKp242.out.below hb HKp242.out.lt)
            have HIe247 := hid (HIe242.out.below hb)
            have HIc247 := hid (HIc242.out.below hb)
            have HId247 := hid (HId242.out.below hb)
            have HIq247 := hid (HIq242.out.below hb)
            have HKq247 := hid (HKq242.out.below hb HKq242.out.lt)
            have HIb1247 := hid (HIb1242.out.below hb)
            have HIb2247 := hid (HIb2242.out.below hb)
            have HIb3247 := hid (HIb3242.out.below hb)
            have HIb4247 := hid (HIb4242.out.below hb)
            have HIb5247 := hid (HIb5242.out.below hb)
            have HIb6247 := hid (HIb6242.out.below hb)
            have HIb7247 := hid (HIb7242.out.below hb)
            have HI9247 := hid (HI9242.out.below hb)
            have HKo247 := hid (HKo242.out.below hb HKo242.out.lt)
            have HIb8247 := hid (HIb8242.out.below hb)
            have HIb9247 := hid (HIb9242.out.below hb)
            clear tKp243 tKq244 tKo245
            clear hb HB242 HIp242 HIw242 HKp242 HIe242 HIc242 HId242 HIq242 HKq242 HIb1242 HIb2242 HIb3242 HIb4242 HIb5242 HIb6242 HIb7242 HI9242 HKo242 HIb8242 HIb9242
            have tKp248 := HKp247.out.cell 0
            have tKq249 := HKq247.out.cell 0
            have tKo250 := HKo247.out.cell 0
            go_wp2_with fail
            refine (oSame_any _ _ O _ HIb8247.out HIb9247.out (by rw [G7.out]; omega)).mono ?_
            rintro e w251 ⟨rfl, hb⟩
            have HB252 := hid (below_to HB247.out hb)
            have HIp252 := hid (HIp247.out.below hb)
            have HIw252 := hid (HIw247.out.below hb)
            have HKp252 := hid (HKp247.out.below hb HKp247.out.lt)
            have HIe252 := hid (HIe247.out.below hb)
            have HIc252 := hid (HIc247.out.below hb)
            have HId252 := hid (HId247.out.below hb)
            have HIq252 := hid (HIq247.out.below hb)
            have HKq252 := hid (HKq247.out.below hb HKq247.out.lt)
            have HIb1252 := hid (HIb1247.out.below hb)
            have HIb2252 := hid (HIb2247.out.below hb)
            have HIb3252 := hid (HIb3247.out.below hb)
            have HIb4252 := hid (HIb4247.out.below hb)
            have HIb5252 := hid (HIb5247.out.below hb)
            have HIb6252 := hid (HIb6247.out.below hb)
            have HIb7252 := hid (HIb7247.out.below hb)
            have HI9252 := hid (HI9247.out.below hb)
            have HKo252 := hid (HKo247.out.below hb HKo247.out.lt)
            have HIb8252 := hid (HIb8247.out.below hb)
            have HIb9252 := hid (HIb9247.out.below hb)
            clear tKp248 tKq249 tKo250
            clear hb HB247 HIp247 HIw247 HKp247 HIe247 HIc247 HId247 HIq247 HKq247 HIb1247 HIb2247 HIb3247 HIb4247 HIb5247 HIb6247 HIb7247 HI9247 HKo247 HIb8247 HIb9247
            have tKp253 := HKp252.out.cell 0
            have tKq254 := HKq252.out.cell 0
            have tKo255 := HKo252.out.cell 0
            go_wp2_with fail
            refine (oLinear_any _ (dualL us) _ D _ HI9252.out (by rw [G8.out]; exact hl9) HId252.out (by rw [G3.out]; omega)).mono ?_
            rintro e w256 ⟨rfl, hb⟩
            rw [HF21.out]
            have HB257 := hid (below_to HB252.out hb)
            have HIp257 := hid (HIp252.out.below hb)
            have HIw257 := hid (HIw252.out.below hb)
            have HKp257 := hid (HKp252.out.below hb HKp252.out.lt)
            have HIe257 := hid (HIe252.out.below hb)
            have HIc257 := hid (HIc252.out.below hb)
            have HId257 := hid (HId252.out.below hb)
            have HIq257 := hid (HIq252.out.below hb)
            have HKq257 := hid (HKq252.out.below hb HKq252.out.lt)
            have HIb1257 := hid (HIb1252.out.below hb)
            have HIb2257 := hid (HIb2252.out.below hb)
            have HIb3257 := hid (HIb3252.out.below hb)
            have HIb4257 := hid (HIb4252.out.below hb)
            have HIb5257 := hid (HIb5252.out.below hb)
            have HIb6257 := hid (HIb6252.out.below hb)
            have HIb7257 := hid (HIb7252.out.below hb)
            have HI9257 := hid (HI9252.out.below hb)
            have HKo257 := hid (HKo252.out.below hb HKo252.out.lt)
            have HIb8257 := hid (HIb8252.out.below hb)
            have HIb9257 := hid (HIb9252.out.below hb)
            clear tKp253 tKq254 tKo255
            clear hb HB252 HIp252 HIw252 HKp252 HIe252 HIc252 HId252 HIq252 HKq252 HIb1252 HIb2252 HIb3252 HIb4252 HIb5252 HIb6252 HIb7252 HI9252 HKo252 HIb8252 HIb9252
            have tKp258 := HKp257.out.cell 0
            have tKq259 := HKq257.out.cell 0
            have tKo260 := HKo257.out.cell 0
            clear tKp258 tKq259 tKo260
            go_wp2
            go_ret
            exact ⟨rfl, HB257.out⟩
end Go.Proofs.Ytpdoheagfjeefaa.lawEvacuation
