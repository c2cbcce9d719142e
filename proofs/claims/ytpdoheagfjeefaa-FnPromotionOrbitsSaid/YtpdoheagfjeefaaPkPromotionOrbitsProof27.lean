/- Texts PromotionOrbitsLaw, one behind the other. -/
import Derived.BigQuiet
import Derived.Test.YtpdoheagfjeefaaPkPromotionOrbitsProof08
import Derived.Test.YtpdoheagfjeefaaPkPromotionOrbitsProof12
import Derived.Test.YtpdoheagfjeefaaPkPromotionOrbitsProof13
import Derived.Test.YtpdoheagfjeefaaPkPromotionOrbitsProof16
import Derived.Test.YtpdoheagfjeefaaPkPromotionOrbitsProof22
import Derived.Test.YtpdoheagfjeefaaPkPromotionOrbitsProof26
/- PromotionOrbits: the walk of the law (made by tools/genpo.py). -/
namespace Go.Proofs.Ytpdoheagfjeefaa
open Go.RowKit Go.WideShapes Go.ChangeShapes
set_option linter.unusedVariables false
theorem bytes_at {w W : World} {v : Value} {bs : List Int} (h : BytesB w w.heap.size v bs) (hb : Below w.heap.size w W) : BytesB W W.heap.size v bs := (h.below hb).up hb.size
theorem ints_cell {w : World} {b o n c : Nat} {L : List Int} (h : Ints w (.slice (some ⟨b, o, none⟩) n c) L) {j : Nat} (hj : j < L.length) : w.cell? ⟨b, o + j, none⟩ = some (.int .i64 (L.getD j 0)) := by
  obtain ⟨A, c2, e, hA⟩ := h
  injection e with e1 e2 e3
  subst e1
  obtain ⟨b2, o2, e4, -, hc⟩ := hA (by intro h; simp [h] at hj)
  cases e4
  exact hc j hj
theorem ints_addr {w : World} {A : Option Addr} {n c : Nat} {L : List Int} (h : Ints w (.slice A n c) L) (h0 : L ≠ []) : ∃ b o, A = some ⟨b, o, none⟩ := by
  obtain ⟨A2, c2, e, hA⟩ := h
  injection e with e1 e2 e3
  obtain ⟨b, o, e4, -, -⟩ := hA h0
  exact ⟨b, o, by rw [e1, e4]⟩
end Go.Proofs.Ytpdoheagfjeefaa
namespace Go.Proofs.Ytpdoheagfjeefaa.lawPromotionOrbits
open Go.RowKit Go.WideShapes Go.ChangeShapes
set_option linter.unusedVariables false
set_option maxRecDepth 100000 in
set_option maxHeartbeats 60000000 in
theorem walk (v0 : Value) (xs0 : List Int) (v1 : Value) (xs1 : List Int) (w : World) (hb0 : BytesB w w.heap.size v0 xs0) (hl0 : xs0.length ≤ maxLen) (hb1 : BytesB w w.heap.size v1 xs1) (hl1 : xs1.length ≤ maxLen) :
    Calls Try.prog 6 #[v0, v1] w fun (r : Ending) w' => r = .returned (.bool true) ∧ Below w.heap.size w w' := by
  have HY0 := hid hb0
  have HY1 := hid hb1
  obtain ⟨A0, c0, rfl, -⟩ := hb0
  obtain ⟨A1, c1, rfl, -⟩ := hb1
  have HL0 := hid hl0
  have HL1 := hid hl1
  unfold maxLen at hl0 hl1
  go_enter Try.func6, Try.ntmps6
  by_cases hbig : 1048576 < xs0.length + xs1.length
  · go_wp2_with fail
    refine (big_any _ _ xs0 xs1 _ HY0.out HY1.out HL0.out HL1.out).mono ?_
    rintro e w1 ⟨rfl, rfl⟩
    rw [decide_eq_true hbig]
    go_wp2
    go_ret
    exact ⟨rfl, Below.refl _ _⟩
  · go_wp2_with fail
    refine (big_any _ _ xs0 xs1 _ HY0.out HY1.out HL0.out HL1.out).mono ?_
    rintro e w1 ⟨rfl, rfl⟩
    rw [decide_eq_false hbig]
    have HS := hid (show xs0.length ≤ 1048576 ∧ xs1.length ≤ 1048576 by omega)
    clear hbig hl0 hl1
    have HB0 : Hid (Below w.heap.size w w) := hid (Below.refl _ _)
    go_wp2_with fail
    refine (drawPromotionOrbit_any _ xs0 _ (bytes_at HY0.out HB0.out) HS.out.1).mono ?_
    rintro e w1 ⟨u, us, q, ws, rfl, ho, hl21, hoq, hm22, hb⟩
    have hl : us.length ≤ 1048576 := by omega
    have HBn := hid (below_to HB0.out hb)
    have HIp := hid ho.ints
    have HIw := hid hoq.ints
    obtain ⟨pA, pc, rfl, -⟩ := ho.ints
    obtain ⟨wA, wc, rfl, -⟩ := hoq.ints
    obtain ⟨n, hn⟩ : ∃ n, ws.length = n := ⟨_, rfl⟩
    have HN := hid hn
    have Hm := hid (show ws.length ≤ 1048576 by omega)
    rw [hn] at HIw hm22 ⊢
    clear ho hoq hb hn HB0
    have HB := HBn
    clear HBn
    obtain ⟨B5, hB5⟩ : ∃ B5, w1.heap.size = B5 := ⟨_, rfl⟩
    go_wp2_with fail
    have HB2 := hid (below_alloc HB.out (.cells #[.slice pA us.length pc] 26))
    have HIp2 := hid (HIp.out.alloc (.cells #[.slice pA us.length pc] 26))
    have HIw2 := hid (HIw.out.alloc (.cells #[.slice pA us.length pc] 26))
    have HKp2 : Hid (Blk (w1.alloc (.cells #[.slice pA us.length pc] 26)) B5 26 #[.slice pA us.length pc]) := hid (by rw [← hB5]; exact Blk.new w1 _ _)
    clear hB5 HB HIp HIw
    have tKp3 := HKp2.out.cell 0
    cases hok : okPO us ws
    · as_aux_lemma =>
        have HE := hid (ansPO_no hok)
        have HO := hid hok
        have HSm := hid (ansPO_small us ws)
        rw [HE.out] at HSm
        clear hok
        go_wp2_with fail
        refine (implPromotionOrbit_any _ us _ ws _ HIp2.out hl HIw2.out Hm.out).mono ?_
        rintro e w4 ⟨ua, rfl, ho, -, hb⟩
        rw [HO.out]
        rw [HE.out] at ho
        have HIRa := hid ho.ints
        obtain ⟨Ra, ra, rfl, -⟩ := ho.rows
        rw [show ([] : List (List Int)).length = 0 from rfl] at HIRa ⊢
        clear ho
        have HB5 := hid (below_to HB2.out hb)
        have HIp5 := hid (HIp2.out.below hb)
        have HIw5 := hid (HIw2.out.below hb)
        have HKp5 := hid (HKp2.out.below hb HKp2.out.lt)
        clear tKp3
        clear hb HB2 HIp2 HIw2 HKp2
        have tKp6 := HKp5.out.cell 0
        go_wp2_with fail
        refine (specPromotionOrbit_any _ us _ ws _ HIp5.out hl HIw5.out Hm.out).mono ?_
        rintro e w7 ⟨ub, rfl, ho, -, hb⟩
        rw [HO.out]
        rw [HE.out] at ho
        have HIRb := hid ho.ints
        obtain ⟨Rb, rb, rfl, -⟩ := ho.rows
        rw [show ([] : List (List Int)).length = 0 from rfl] at HIRb ⊢
        clear ho
        have HB8 := hid (below_to HB5.out hb)
        have HIp8 := hid (HIp5.out.below hb)
        have HIw8 := hid (HIw5.out.below hb)
        have HKp8 := hid (HKp5.out.below hb HKp5.out.lt)
        have HIRa8 := hid (HIRa.out.below hb)
        clear tKp6
        clear hb HB5 HIp5 HIw5 HKp5 HIRa
        have tKp9 := HKp8.out.cell 0
        go_wp2_with fail
        refine (oSameRows_any _ _ ([] : List (List Int)) 0 _ HIRa8.out HIRb.out rfl HSm.out).mono ?_
        rintro e w10 ⟨rfl, hb⟩
        have HB11 := hid (below_to HB8.out hb)
        have HIp11 := hid (HIp8.out.below hb)
        have HIw11 := hid (HIw8.out.below hb)
        have HKp11 := hid (HKp8.out.below hb HKp8.out.lt)
        have HIRa11 := hid (HIRa8.out.below hb)
        have HIRb11 := hid (HIRb.out.below hb)
        clear tKp9
        clear hb HB8 HIp8 HIw8 HKp8 HIRa8 HIRb
        have tKp12 := HKp11.out.cell 0
        clear HE HO HSm Hm HN hl hl21 hm22 tKp12 HIp11 HIw11 HKp11 HIRa11 HIRb11
        as_aux_lemma =>
          go_wp2_with fail
          refine (drawPromotionOrder_any _ xs1 _ (bytes_at HY1.out HB11.out) HS.out.2).mono ?_
          rintro e w13 ⟨u, vs, rfl, ho, hl21q, hb⟩
          have HIq := hid ho.ints
          obtain ⟨qA, qc, rfl, -⟩ := ho.ints
          clear ho
          have HB14 := hid (below_to HB11.out hb)
          clear hb HB11
          have hlq : vs.length ≤ 1048576 := by omega
          obtain ⟨B6, hB6⟩ : ∃ B6, w13.heap.size = B6 := ⟨_, rfl⟩
          go_wp2_with fail
          have HB15 := hid (below_alloc HB14.out (.cells #[.slice qA vs.length qc] 26))
          have HIq15 := hid (HIq.out.alloc (.cells #[.slice qA vs.length qc] 26))
          have HKq15 : Hid (Blk (w13.alloc (.cells #[.slice qA vs.length qc] 26)) B6 26 #[.slice qA vs.length qc]) := hid (by rw [← hB6]; exact Blk.new w13 _ _)
          clear hB6 HB14 HIq
          have tKq16 := HKq15.out.cell 0
          obtain ⟨o1, ho1⟩ : ∃ x, okPR vs = x := ⟨_, rfl⟩
          have Ho1 := hid ho1
          clear ho1
          obtain ⟨v1, hv1⟩ : ∃ x, ansPR vs = x := ⟨_, rfl⟩
          have Hv1 := hid hv1
          clear hv1
          go_wp2_with fail
          refine (implPromotionOrder_any _ vs _ HIq15.out hlq).mono ?_
          rintro e w17 ⟨rfl, hb⟩
          rw [Hv1.out, Ho1.out]
          have HB18 := hid (below_to HB15.out hb)
          have HIq18 := hid (HIq15.out.below hb)
          have HKq18 := hid (HKq15.out.below hb HKq15.out.lt)
          clear tKq16
          clear hb HB15 HIq15 HKq15
          have tKq19 := HKq18.out.cell 0
          go_wp2_with fail
          refine (specPromotionOrder_any _ vs _ HIq18.out hlq).mono ?_
          rintro e w20 ⟨rfl, hb⟩
          rw [Hv1.out, Ho1.out]
          have HB21 := hid (below_to HB18.out hb)
          have HIq21 := hid (HIq18.out.below hb)
          have HKq21 := hid (HKq18.out.below hb HKq18.out.lt)
          clear tKq19
          clear hb HB18 HIq18 HKq18
          have tKq22 := HKq21.out.cell 0
          go_wp2_with fail
          refine (drawCountReturned_any _ xs1 _ (bytes_at HY1.out HB21.out) HS.out.2).mono ?_
          rintro e w23 ⟨u, zs, t, rfl, ho, hl21r, ht, hb⟩
          have HIr := hid ho.ints
          obtain ⟨rA, rc, rfl, -⟩ := ho.ints
          clear ho
          have HB24 := hid (below_to HB21.out hb)
          have HIq24 := hid (HIq21.out.below hb)
          have HKq24 := hid (HKq21.out.below hb HKq21.out.lt)
          clear tKq22
          clear hb HB21 HIq21 HKq21
          have tKq25 := HKq24.out.cell 0
          have hlr : zs.length ≤ 1048576 := by omega
          have HWt := hid (wf_i64 t (by omega) (by omega))
          obtain ⟨B7, hB7⟩ : ∃ B7, w23.heap.size = B7 := ⟨_, rfl⟩
          go_wp2_with fail
          have HB26 := hid (below_alloc HB24.out (.cells #[.slice rA zs.length rc] 26))
          have HIq26 := hid (HIq24.out.alloc (.cells #[.slice rA zs.length rc] 26))
          have HKq26 := hid (HKq24.out.alloc (.cells #[.slice rA zs.length rc] 26))
          have HIr26 := hid (HIr.out.alloc (.cells #[.slice rA zs.length rc] 26))
          have HKr26 : Hid (Blk (w23.alloc (.cells #[.slice rA zs.length rc] 26)) B7 26 #[.slice rA zs.length rc]) := hid (by rw [← hB7]; exact Blk.new w23 _ _)
          clear tKq25
          clear hB7 HB24 HIq24 HKq24 HIr
          have tKq27 := HKq26.out.cell 0
          have tKr28 := HKr26.out.cell 0
          obtain ⟨o2, ho2⟩ : ∃ x, okCR zs t = x := ⟨_, rfl⟩
          have Ho2 := hid ho2
          clear ho2
          obtain ⟨v2, hv2⟩ : ∃ x, ansCR zs t = x := ⟨_, rfl⟩
          have Hv2 := hid hv2
          clear hv2
          go_wp2_with fail
          refine (implCountReturned_any _ zs t _ HIr26.out hlr HWt.out).mono ?_
          rintro e w29 ⟨rfl, hb⟩
          rw [Hv2.out, Ho2.out]
          have HB30 := hid (below_to HB26.out hb)
          have HIq30 := hid (HIq26.out.below hb)
          have HKq30 := hid (HKq26.out.below hb HKq26.out.lt)
          have HIr30 := hid (HIr26.out.below hb)
          have HKr30 := hid (HKr26.out.below hb HKr26.out.lt)
          clear tKq27 tKr28
          clear hb HB26 HIq26 HKq26 HIr26 HKr26
          have tKq31 := HKq30.out.cell 0
          have tKr32 := HKr30.out.cell 0
          go_wp2_with fail
          refine (specCountReturned_any _ zs t _ HIr30.out hlr HWt.out).mono ?_
          rintro e w33 ⟨rfl, hb⟩
          rw [Hv2.out, Ho2.out]
          have HB34 := hid (below_to HB30.out hb)
          have HIq34 := hid (HIq30.out.below hb)
          have HKq34 := hid (HKq30.out.below hb HKq30.out.lt)
          have HIr34 := hid (HIr30.out.below hb)
          have HKr34 := hid (HKr30.out.below hb HKr30.out.lt)
          clear tKq31 tKr32
          clear hb HB30 HIq30 HKq30 HIr30 HKr30
          have tKq35 := HKq34.out.cell 0
          have tKr36 := HKr34.out.cell 0
          cases o2
          · as_aux_lemma =>
              cases o1
              · as_aux_lemma =>
                  clear tKq35 tKr36
                  go_wp2
                  go_ret
                  exact ⟨rfl, HB34.out⟩
              · as_aux_lemma =>
                  obtain ⟨M, N2, g1, g2, g3, g4⟩ := prFacts Ho1.out
                  obtain rfl : v1 = (M : Int) := Hv1.out.symm.trans g2
                  have HQg := hid g1
                  have HQe := hid g3
                  clear g1 g2 g3
                  by_cases hM : M ≤ 100
                  · as_aux_lemma =>
                      have HQo := hid (g4 hM).1
                      have HQa := hid (g4 hM).2
                      have hMi : (M : Int) ≤ 100 := by omega
                      clear g4
                      go_wp2_with fail
                      refine (implCountReturned_any _ vs (M : Int) _ HIq34.out hlq (wf_i64 _ (by omega) (by omega))).mono ?_
                      rintro e w37 ⟨rfl, hb⟩
                      rw [HQa.out, HQo.out]
                      have HB38 := hid (below_to HB34.out hb)
                      have HIq38 := hid (HIq34.out.below hb)
                      have HKq38 := hid (HKq34.out.below hb HKq34.out.lt)
                      have HIr38 := hid (HIr34.out.below hb)
                      have HKr38 := hid (HKr34.out.below hb HKr34.out.lt)
                      clear tKq35 tKr36
                      clear hb HB34 HIq34 HKq34 HIr34 HKr34
                      have tKq39 := HKq38.out.cell 0
                      have tKr40 := HKr38.out.cell 0
                      go_wp2_with fail
                      refine (implCountLinear_any _ vs _ HIq38.out hlq).mono ?_
                      rintro e w41 ⟨rfl, hb⟩
                      rw [HQe.out, HQg.out]
                      have HB42 := hid (below_to HB38.out hb)
                      have HIq42 := hid (HIq38.out.below hb)
                      have HKq42 := hid (HKq38.out.below hb HKq38.out.lt)
                      have HIr42 := hid (HIr38.out.below hb)
                      have HKr42 := hid (HKr38.out.below hb HKr38.out.lt)
                      clear tKq39 tKr40
                      clear hb HB38 HIq38 HKq38 HIr38 HKr38
                      have tKq43 := HKq42.out.cell 0
                      have tKr44 := HKr42.out.cell 0
                      clear tKq43 tKr44
                      go_wp2
                      go_ret
                      exact ⟨rfl, HB42.out⟩
                  · as_aux_lemma =>
                      have hMi : ¬ (M : Int) ≤ 100 := by omega
                      clear g4
                      clear tKq35 tKr36
                      go_wp2
                      go_ret
                      exact ⟨rfl, HB34.out⟩
          · as_aux_lemma =>
              obtain ⟨c, N, g1, g2, g3, g4, g5⟩ := crFacts Ho2.out
              obtain rfl : v2 = (c : Int) := Hv2.out.symm.trans g2
              have HCg := hid g1
              have HCe := hid g3
              have g6 : ¬ (c : Int) > (N : Int) := by omega
              have g7 : ¬ N < c := by omega
              clear g1 g2 g3
              by_cases ht0 : t = 0
              · as_aux_lemma =>
                  obtain rfl : c = N := g5 ht0
                  subst ht0
                  have hcn : ((c : Int) != (c : Int)) = false := by simp
                  clear g4 g5
                  go_wp2_with fail
                  refine (implCountLinear_any _ zs _ HIr34.out hlr).mono ?_
                  rintro e w45 ⟨rfl, hb⟩
                  rw [HCe.out, HCg.out]
                  have HB46 := hid (below_to HB34.out hb)
                  have HIq46 := hid (HIq34.out.below hb)
                  have HKq46 := hid (HKq34.out.below hb HKq34.out.lt)
                  have HIr46 := hid (HIr34.out.below hb)
                  have HKr46 := hid (HKr34.out.below hb HKr34.out.lt)
                  clear tKq35 tKr36
                  clear hb HB34 HIq34 HKq34 HIr34 HKr34
                  have tKq47 := HKq46.out.cell 0
                  have tKr48 := HKr46.out.cell 0
                  clear HCe HCg
                  cases o1
                  · as_aux_lemma =>
                      clear tKq47 tKr48
                      go_wp2
                      go_ret
                      exact ⟨rfl, HB46.out⟩
                  · as_aux_lemma =>
                      obtain ⟨M, N2, g1, g2, g3, g4⟩ := prFacts Ho1.out
                      obtain rfl : v1 = (M : Int) := Hv1.out.symm.trans g2
                      have HQg := hid g1
                      have HQe := hid g3
                      clear g1 g2 g3
                      by_cases hM : M ≤ 100
                      · as_aux_lemma =>
                          have HQo := hid (g4 hM).1
                          have HQa := hid (g4 hM).2
                          have hMi : (M : Int) ≤ 100 := by omega
                          clear g4
                          go_wp2_with fail
                          refine (implCountReturned_any _ vs (M : Int) _ HIq46.out hlq (wf_i64 _ (by omega) (by omega))).mono ?_
                          rintro e w49 ⟨rfl, hb⟩
                          rw [HQa.out, HQo.out]
                          have HB50 := hid (below_to HB46.out hb)
                          have HIq50 := hid (HIq46.out.below hb)
                          have HKq50 := hid (HKq46.out.below hb HKq46.out.lt)
                          have HIr50 := hid (HIr46.out.below hb)
                          have HKr50 := hid (HKr46.out.below hb HKr46.out.lt)
                          clear tKq47 tKr48
                          clear hb HB46 HIq46 HKq46 HIr46 HKr46
                          have tKq51 := HKq50.out.cell 0
                          have tKr52 := HKr50.out.cell 0
                          go_wp2_with fail
                          refine (implCountLinear_any _ vs _ HIq50.out hlq).mono ?_
                          rintro e w53 ⟨rfl, hb⟩
                          rw [HQe.out, HQg.out]
                          have HB54 := hid (below_to HB50.out hb)
                          have HIq54 := hid (HIq50.out.below hb)
                          have HKq54 := hid (HKq50.out.below hb HKq50.out.lt)
                          have HIr54 := hid (HIr50.out.below hb)
                          have HKr54 := hid (HKr50.out.below hb HKr50.out.lt)
                          clear tKq51 tKr52
                          clear hb HB50 HIq50 HKq50 HIr50 HKr50
                          have tKq55 := HKq54.out.cell 0
                          have tKr56 := HKr54.out.cell 0
                          clear tKq55 tKr56
                          go_wp2
                          go_ret
                          exact ⟨rfl, HB54.out⟩
                      · as_aux_lemma =>
                          have hMi : ¬ (M : Int) ≤ 100 := by omega
                          clear g4
                          clear tKq47 tKr48
                          go_wp2
                          go_ret
                          exact ⟨rfl, HB46.out⟩
              · as_aux_lemma =>
                  have htb : ((t : Int) == 0) = false := beq_eq_false_iff_ne.2 ht0
                  obtain ⟨x9, hx9⟩ : ∃ x, ((c : Int) != (N : Int)) = x := ⟨_, rfl⟩
                  clear g4 g5 ht0
                  go_wp2_with fail
                  refine (implCountLinear_any _ zs _ HIr34.out hlr).mono ?_
                  rintro e w57 ⟨rfl, hb⟩
                  rw [HCe.out, HCg.out]
                  have HB58 := hid (below_to HB34.out hb)
                  have HIq58 := hid (HIq34.out.below hb)
                  have HKq58 := hid (HKq34.out.below hb HKq34.out.lt)
                  have HIr58 := hid (HIr34.out.below hb)
                  have HKr58 := hid (HKr34.out.below hb HKr34.out.lt)
                  clear tKq35 tKr36
                  clear hb HB34 HIq34 HKq34 HIr34 HKr34
                  have tKq59 := HKq58.out.cell 0
                  have tKr60 := HKr58.out.cell 0
                  clear HCe HCg
                  cases o1
                  · as_aux_lemma =>
                      clear tKq59 tKr60
                      go_wp2
                      go_ret
                      exact ⟨rfl, HB58.out⟩
                  · as_aux_lemma =>
                      obtain ⟨M, N2, g1, g2, g3, g4⟩ := prFacts Ho1.out
                      obtain rfl : v1 = (M : Int) := Hv1.out.symm.trans g2
                      have HQg := hid g1
                      have HQe := hid g3
                      clear g1 g2 g3
                      by_cases hM : M ≤ 100
                      · as_aux_lemma =>
                          have HQo := hid (g4 hM).1
                          have HQa := hid (g4 hM).2
                          have hMi : (M : Int) ≤ 100 := by omega
                          clear g4
                          go_wp2_with fail
                          refine (implCountReturned_any _ vs (M : Int) _ HIq58.out hlq (wf_i64 _ (by omega) (by omega))).mono ?_
                          rintro e w61 ⟨rfl, hb⟩
                          rw [HQa.out, HQo.out]
                          have HB62 := hid (below_to HB58.out hb)
                          have HIq62 := hid (HIq58.out.below hb)
                          have HKq62 := hid (HKq58.out.below hb HKq58.out.lt)
                          have HIr62 := hid (HIr58.out.below hb)
                          have HKr62 := hid (HKr58.out.below hb HKr58.out.lt)
                          clear tKq59 tKr60
                          clear hb HB58 HIq58 HKq58 HIr58 HKr58
                          have tKq63 := HKq62.out.cell 0
                          have tKr64 := HKr62.out.cell 0
                          go_wp2_with fail
                          refine (implCountLinear_any _ vs _ HIq62.out hlq).mono ?_
                          rintro e w65 ⟨rfl, hb⟩
                          rw [HQe.out, HQg.out]
                          have HB66 := hid (below_to HB62.out hb)
                          have HIq66 := hid (HIq62.out.below hb)
                          have HKq66 := hid (HKq62.out.below hb HKq62.out.lt)
                          have HIr66 := hid (HIr62.out.below hb)
                          have HKr66 := hid (HKr62.out.below hb HKr62.out.lt)
                          clear tKq63 tKr64
                          clear hb HB62 HIq62 HKq62 HIr62 HKr62
                          have tKq67 := HKq66.out.cell 0
                          have tKr68 := HKr66.out.cell 0
                          clear tKq67 tKr68
                          go_wp2
                          go_ret
                          exact ⟨rfl, HB66.out⟩
                      · as_aux_lemma =>
                          have hMi : ¬ (M : Int) ≤ 100 := by omega
                          clear g4
                          clear tKq59 tKr60
                          go_wp2
                          go_ret
                          exact ⟨rfl, HB58.out⟩
    · as_aux_lemma =>
        obtain ⟨P, n', f1, f2, f3, f4, f5, f6, f7, f8⟩ := poFacts hok
        obtain rfl : n = n' := HN.out.symm.trans f5
        have HO := hid hok
        have HE := hid f2
        have HG := hid f1
        have HSt := hid f7
        have HPr := hid f8
        have HSm := hid (ansPO_small us ws)
        rw [HE.out] at HSm
        clear hok f1 f2 f5 f7 f8
        go_wp2_with fail
        refine (implPromotionOrbit_any _ us _ ws _ HIp2.out hl HIw2.out Hm.out).mono ?_
        rintro e w69 ⟨ua, rfl, ho, -, hb⟩
        rw [HO.out]
        rw [HE.out] at ho
        have HIRa := hid ho.ints
        obtain ⟨Ra, ra, rfl, -⟩ := ho.rows
        rw [rowsN_length] at HIRa ⊢
        clear ho
        have HB70 := hid (below_to HB2.out hb)
        have HIp70 := hid (HIp2.out.below hb)
        have HIw70 := hid (HIw2.out.below hb)
        have HKp70 := hid (HKp2.out.below hb HKp2.out.lt)
        clear tKp3
        clear hb HB2 HIp2 HIw2 HKp2
        have tKp71 := HKp70.out.cell 0
        go_wp2_with fail
        refine (specPromotionOrbit_any _ us _ ws _ HIp70.out hl HIw70.out Hm.out).mono ?_
        rintro e w72 ⟨ub, rfl, ho, -, hb⟩
        rw [HO.out]
        rw [HE.out] at ho
        have HIRb := hid ho.ints
        obtain ⟨Rb, rb, rfl, -⟩ := ho.rows
        rw [rowsN_length] at HIRb ⊢
        clear ho
        have HB73 := hid (below_to HB70.out hb)
        have HIp73 := hid (HIp70.out.below hb)
        have HIw73 := hid (HIw70.out.below hb)
        have HKp73 := hid (HKp70.out.below hb HKp70.out.lt)
        have HIRa73 := hid (HIRa.out.below hb)
        clear tKp71
        clear hb HB70 HIp70 HIw70 HKp70 HIRa
        have tKp74 := HKp73.out.cell 0
        go_wp2_with fail
        refine (oSameRows_any _ _ (rowsN (itP us ws) P) P _ HIRa73.out HIRb.out (rowsN_length _ _) HSm.out).mono ?_
        rintro e w75 ⟨rfl, hb⟩
        have HB76 := hid (below_to HB73.out hb)
        have HIp76 := hid (HIp73.out.below hb)
        have HIw76 := hid (HIw73.out.below hb)
        have HKp76 := hid (HKp73.out.below hb HKp73.out.lt)
        have HIRa76 := hid (HIRa73.out.below hb)
        have HIRb76 := hid (HIRb.out.below hb)
        clear tKp74
        clear hb HB73 HIp73 HIw73 HKp73 HIRa73 HIRb
        have tKp77 := HKp76.out.cell 0
        clear HE HO HSm HIRb76
        as_aux_lemma =>
          go_wp2_with fail
          refine (drawPromotionOrder_any _ xs1 _ (bytes_at HY1.out HB76.out) HS.out.2).mono ?_
          rintro e w78 ⟨u, vs, rfl, ho, hl21q, hb⟩
          have HIq := hid ho.ints
          obtain ⟨qA, qc, rfl, -⟩ := ho.ints
          clear ho
          have HB79 := hid (below_to HB76.out hb)
          have HIp79 := hid (HIp76.out.below hb)
          have HIw79 := hid (HIw76.out.below hb)
          have HKp79 := hid (HKp76.out.below hb HKp76.out.lt)
          have HIRa79 := hid (HIRa76.out.below hb)
          clear tKp77
          clear hb HB76 HIp76 HIw76 HKp76 HIRa76
          have tKp80 := HKp79.out.cell 0
          have hlq : vs.length ≤ 1048576 := by omega
          obtain ⟨B6, hB6⟩ : ∃ B6, w78.heap.size = B6 := ⟨_, rfl⟩
          go_wp2_with fail
          have HB81 := hid (below_alloc HB79.out (.cells #[.slice qA vs.length qc] 26))
          have HIp81 := hid (HIp79.out.alloc (.cells #[.slice qA vs.length qc] 26))
          have HIw81 := hid (HIw79.out.alloc (.cells #[.slice qA vs.length qc] 26))
          have HKp81 := hid (HKp79.out.alloc (.cells #[.slice qA vs.length qc] 26))
          have HIRa81 := hid (HIRa79.out.alloc (.cells #[.slice qA vs.length qc] 26))
          have HIq81 := hid (HIq.out.alloc (.cells #[.slice qA vs.length qc] 26))
          have HKq81 : Hid (Blk (w78.alloc (.cells #[.slice qA vs.length qc] 26)) B6 26 #[.slice qA vs.length qc]) := hid (by rw [← hB6]; exact Blk.new w78 _ _)
          clear tKp80
          clear hB6 HB79 HIp79 HIw79 HKp79 HIRa79 HIq
          have tKp82 := HKp81.out.cell 0
          have tKq83 := HKq81.out.cell 0
          obtain ⟨o1, ho1⟩ : ∃ x, okPR vs = x := ⟨_, rfl⟩
          have Ho1 := hid ho1
          clear ho1
          obtain ⟨v1, hv1⟩ : ∃ x, ansPR vs = x := ⟨_, rfl⟩
          have Hv1 := hid hv1
          clear hv1
          go_wp2_with fail
          refine (implPromotionOrder_any _ vs _ HIq81.out hlq).mono ?_
          rintro e w84 ⟨rfl, hb⟩
          rw [Hv1.out, Ho1.out]
          have HB85 := hid (below_to HB81.out hb)
          have HIp85 := hid (HIp81.out.below hb)
          have HIw85 := hid (HIw81.out.below hb)
          have HKp85 := hid (HKp81.out.below hb HKp81.out.lt)
          have HIRa85 := hid (HIRa81.out.below hb)
          have HIq85 := hid (HIq81.out.below hb)
          have HKq85 := hid (HKq81.out.below hb HKq81.out.lt)
          clear tKp82 tKq83
          clear hb HB81 HIp81 HIw81 HKp81 HIRa81 HIq81 HKq81
          have tKp86 := HKp85.out.cell 0
          have tKq87 := HKq85.out.cell 0
          go_wp2_with fail
          refine (specPromotionOrder_any _ vs _ HIq85.out hlq).mono ?_
          rintro e w88 ⟨rfl, hb⟩
          rw [Hv1.out, Ho1.out]
          have HB89 := hid (below_to HB85.out hb)
          have HIp89 := hid (HIp85.out.below hb)
          have HIw89 := hid (HIw85.out.below hb)
          have HKp89 := hid (HKp85.out.below hb HKp85.out.lt)
          have HIRa89 := hid (HIRa85.out.below hb)
          have HIq89 := hid (HIq85.out.below hb)
          have HKq89 := hid (HKq85.out.below hb HKq85.out.lt)
          clear tKp86 tKq87
          clear hb HB85 HIp85 HIw85 HKp85 HIRa85 HIq85 HKq85
          have tKp90 := HKp89.out.cell 0
          have tKq91 := HKq89.out.cell 0
          go_wp2_with fail
          refine (drawCountReturned_any _ xs1 _ (bytes_at HY1.out HB89.out) HS.out.2).mono ?_
          rintro e w92 ⟨u, zs, t, rfl, ho, hl21r, ht, hb⟩
          have HIr := hid ho.ints
          obtain ⟨rA, rc, rfl, -⟩ := ho.ints
          clear ho
          have HB93 := hid (below_to HB89.out hb)
          have HIp93 := hid (HIp89.out.below hb)
          have HIw93 := hid (HIw89.out.below hb)
          have HKp93 := hid (HKp89.out.below hb HKp89.out.lt)
          have HIRa93 := hid (HIRa89.out.below hb)
          have HIq93 := hid (HIq89.out.below hb)
          have HKq93 := hid (HKq89.out.below hb HKq89.out.lt)
          clear tKp90 tKq91
          clear hb HB89 HIp89 HIw89 HKp89 HIRa89 HIq89 HKq89
          have tKp94 := HKp93.out.cell 0
          have tKq95 := HKq93.out.cell 0
          have hlr : zs.length ≤ 1048576 := by omega
          have HWt := hid (wf_i64 t (by omega) (by omega))
          obtain ⟨B7, hB7⟩ : ∃ B7, w92.heap.size = B7 := ⟨_, rfl⟩
          go_wp2_with fail
          have HB96 := hid (below_alloc HB93.out (.cells #[.slice rA zs.length rc] 26))
          have HIp96 := hid (HIp93.out.alloc (.cells #[.slice rA zs.length rc] 26))
          have HIw96 := hid (HIw93.out.alloc (.cells #[.slice rA zs.length rc] 26))
          have HKp96 := hid (HKp93.out.alloc (.cells #[.slice rA zs.length rc] 26))
          have HIRa96 := hid (HIRa93.out.alloc (.cells #[.slice rA zs.length rc] 26))
          have HIq96 := hid (HIq93.out.alloc (.cells #[.slice rA zs.length rc] 26))
          have HKq96 := hid (HKq93.out.alloc (.cells #[.slice rA zs.length rc] 26))
          have HIr96 := hid (HIr.out.alloc (.cells #[.slice rA zs.length rc] 26))
          have HKr96 : Hid (Blk (w92.alloc (.cells #[.slice rA zs.length rc] 26)) B7 26 #[.slice rA zs.length rc]) := hid (by rw [← hB7]; exact Blk.new w92 _ _)
          clear tKp94 tKq95
          clear hB7 HB93 HIp93 HIw93 HKp93 HIRa93 HIq93 HKq93 HIr
          have tKp97 := HKp96.out.cell 0
          have tKq98 := HKq96.out.cell 0
          have tKr99 := HKr96.out.cell 0
          obtain ⟨o2, ho2⟩ : ∃ x, okCR zs t = x := ⟨_, rfl⟩
          have Ho2 := hid ho2
          clear ho2
          obtain ⟨v2, hv2⟩ : ∃ x, ansCR zs t = x := ⟨_, rfl⟩
          have Hv2 := hid hv2
          clear hv2
          go_wp2_with fail
          refine (implCountReturned_any _ zs t _ HIr96.out hlr HWt.out).mono ?_
          rintro e w100 ⟨rfl, hb⟩
          rw [Hv2.out, Ho2.out]
          have HB101 := hid (below_to HB96.out hb)
          have HIp101 := hid (HIp96.out.below hb)
          have HIw101 := hid (HIw96.out.below hb)
          have HKp101 := hid (HKp96.out.below hb HKp96.out.lt)
          have HIRa101 := hid (HIRa96.out.below hb)
          have HIq101 := hid (HIq96.out.below hb)
          have HKq101 := hid (HKq96.out.below hb HKq96.out.lt)
          have HIr101 := hid (HIr96.out.below hb)
          have HKr101 := hid (HKr96.out.below hb HKr96.out.lt)
          clear tKp97 tKq98 tKr99
          clear hb HB96 HIp96 HIw96 HKp96 HIRa96 HIq96 HKq96 HIr96 HKr96
          have tKp102 := HKp101.out.cell 0
          have tKq103 := HKq101.out.cell 0
          have tKr104 := HKr101.out.cell 0
          go_wp2_with fail
          refine (specCountReturned_any _ zs t _ HIr101.out hlr HWt.out).mono ?_
          rintro e w105 ⟨rfl, hb⟩
          rw [Hv2.out, Ho2.out]
          have HB106 := hid (below_to HB101.out hb)
          have HIp106 := hid (HIp101.out.below hb)
          have HIw106 := hid (HIw101.out.below hb)
          have HKp106 := hid (HKp101.out.below hb HKp101.out.lt)
          have HIRa106 := hid (HIRa101.out.below hb)
          have HIq106 := hid (HIq101.out.below hb)
          have HKq106 := hid (HKq101.out.below hb HKq101.out.lt)
          have HIr106 := hid (HIr101.out.below hb)
          have HKr106 := hid (HKr101.out.below hb HKr101.out.lt)
          clear tKp102 tKq103 tKr104
          clear hb HB101 HIp101 HIw101 HKp101 HIRa101 HIq101 HKq101 HIr101 HKr101
          have tKp107 := HKp106.out.cell 0
          have tKq108 := HKq106.out.cell 0
          have tKr109 := HKr106.out.cell 0
          cases o2
          · as_aux_lemma =>
              cases o1
              · as_aux_lemma =>
                  go_wp2
                  clear tKp107 tKq108 tKr109 
                  go_loopw [161] (fun i wr => ∃ k : Nat, k ≤ P ∧ i = .int .i64 (k : Int) ∧ Below w105.heap.size w105 wr) (fun i _ => P - (intOf i).toNat)
                  case atStart => exact ⟨0, Nat.zero_le _, rfl, Below.refl _ _⟩
                  case round =>
                    obtain ⟨k, hk, rfl, hb⟩ := hrel
                    by_cases hlt : k < P
                    · skip
                      as_aux_lemma =>
                        have HBW0 := hid (Below.refl w105.heap.size w105)
                        obtain ⟨g1, g2, g3, g4⟩ := HSt.out k hlt
                        have HO1 := hid g1
                        have HE1 := hid g2
                        have HL1 := hid g3
                        have HNe := hid g4
                        obtain ⟨kk, hkk⟩ : ∃ kk, (k + 1) % P = kk := ⟨_, rfl⟩
                        have hkp : kk < P := by rw [← hkk]; exact Nat.mod_lt _ (by omega)
                        have hrm : Int.tmod ((k : Int) + 1) (P : Int) = (kk : Int) := by rw [← hkk, Int.tmod_eq_emod_of_nonneg (by omega), Int.natCast_emod]; rfl
                        rw [hkk] at HE1
                        have HL2 := hid (HSt.out kk hkp).2.2.1
                        obtain ⟨b, o, c', x, hsh, hbl, hc, hi⟩ := rows_cell HIRa106.out (k := k) (by rw [rowsN_length]; exact hlt)
                        rw [rowsN_getD _ hlt] at hi
                        injection hsh with hsA hsB hsC
                        subst hsA
                        subst hsC
                        have ck := (hb.cell (p := ⟨b, o + k, none⟩) hbl).trans hc
                        have HIx := hid (hi.below hb)
                        obtain ⟨xA, xc, rfl, -⟩ := hi
                        rw [HL1.out] at HIx ck
                        clear g1 g2 g3 g4 hkk hsB hc HSt
                        have HB110 := hid (below_to HB106.out hb)
                        have HIp110 := hid (HIp106.out.below hb)
                        have HIw110 := hid (HIw106.out.below hb)
                        have HKp110 := hid (HKp106.out.below hb HKp106.out.lt)
                        have HIRa110 := hid (HIRa106.out.below hb)
                        have HIq110 := hid (HIq106.out.below hb)
                        have HKq110 := hid (HKq106.out.below hb HKq106.out.lt)
                        have HIr110 := hid (HIr106.out.below hb)
                        have HKr110 := hid (HKr106.out.below hb HKr106.out.lt)
                        have HBW110 := hid (below_to HBW0.out hb)
                        clear hb HB106 HIp106 HIw106 HKp106 HIRa106 HIq106 HKq106 HIr106 HKr106 HBW0
                        have tKp111 := HKp110.out.cell 0
                        have tKq112 := HKq110.out.cell 0
                        have tKr113 := HKr110.out.cell 0
                        go_wp2_with fail
                        refine (implPromoteLinear_any _ us _ (itP us ws k) 1 _ HIp110.out hl HIx.out (by rw [HL1.out]; omega) (wf_i64 _ (by omega) (by omega))).mono ?_
                        rintro e w114 ⟨ud, rfl, ho, hld, hb⟩
                        rw [HO1.out]
                        rw [HE1.out] at ho hld
                        have HId := hid ho.ints
                        obtain ⟨Ad, cd, rfl, -⟩ := ho.ints
                        rw [HL2.out] at HId hld ⊢
                        clear ho
                        have HB115 := hid (below_to HB110.out hb)
                        have HIp115 := hid (HIp110.out.below hb)
                        have HIw115 := hid (HIw110.out.below hb)
                        have HKp115 := hid (HKp110.out.below hb HKp110.out.lt)
                        have HIRa115 := hid (HIRa110.out.below hb)
                        have HIq115 := hid (HIq110.out.below hb)
                        have HKq115 := hid (HKq110.out.below hb HKq110.out.lt)
                        have HIr115 := hid (HIr110.out.below hb)
                        have HKr115 := hid (HKr110.out.below hb HKr110.out.lt)
                        have HBW115 := hid (below_to HBW110.out hb)
                        have HIx115 := hid (HIx.out.below hb)
                        clear tKp111 tKq112 tKr113 ck
                        clear hb HB110 HIp110 HIw110 HKp110 HIRa110 HIq110 HKq110 HIr110 HKr110 HBW110 HIx
                        have tKp116 := HKp115.out.cell 0
                        have tKq117 := HKq115.out.cell 0
                        have tKr118 := HKr115.out.cell 0
                        obtain ⟨b2, o2, c2, y, hsh2, hbl2, hc2, hi2⟩ := rows_cell HIRa115.out (k := kk) (by rw [rowsN_length]; exact hkp)
                        rw [rowsN_getD _ hkp] at hi2
                        injection hsh2 with hsA2 hsB2 hsC2
                        obtain ⟨rfl, rfl⟩ : b = b2 ∧ o = o2 := by simpa using hsA2
                        subst hsC2
                        have HIy := hid hi2
                        obtain ⟨yA, yc, rfl, -⟩ := hi2
                        rw [HL2.out] at HIy hc2
                        have HC2 := hid hc2
                        clear hsA2 hsB2 HO1 HE1
                        by_cases hk0 : k = 0
                        · as_aux_lemma =>
                            have hk1 : ¬ (k : Int) > 0 := by omega
                            clear hk0
                            go_wp2_with fail
                            refine (oSame_any _ _ (itP us ws kk) _ HId.out HIy.out (by rw [HL2.out]; omega)).mono ?_
                            rintro e w119 ⟨rfl, hb⟩
                            have HB120 := hid (below_to HB115.out hb)
                            have HIp120 := hid (HIp115.out.below hb)
                            have HIw120 := hid (HIw115.out.below hb)
                            have HKp120 := hid (HKp115.out.below hb HKp115.out.lt)
                            have HIRa120 := hid (HIRa115.out.below hb)
                            have HIq120 := hid (HIq115.out.below hb)
                            have HKq120 := hid (HKq115.out.below hb HKq115.out.lt)
                            have HIr120 := hid (HIr115.out.below hb)
                            have HKr120 := hid (HKr115.out.below hb HKr115.out.lt)
                            have HBW120 := hid (below_to HBW115.out hb)
                            have HIx120 := hid (HIx115.out.below hb)
                            have HId120 := hid (HId.out.below hb)
                            have HIy120 := hid (HIy.out.below hb)
                            clear tKp116 tKq117 tKr118 hc2
                            clear hb HB115 HIp115 HIw115 HKp115 HIRa115 HIq115 HKq115 HIr115 HKr115 HBW115 HIx115 HId HIy
                            have tKp121 := HKp120.out.cell 0
                            have tKq122 := HKq120.out.cell 0
                            have tKr123 := HKr120.out.cell 0
                            clear tKp121 tKq122 tKr123
                            go_wp2
                            go_roundw
                            case rel => exact ⟨k + 1, by omega, by go_num, HBW120.out⟩
                            case measure => simp [intOf] <;> omega
                        · as_aux_lemma =>
                            have hk1 : (k : Int) > 0 := by omega
                            clear hk0
                            go_wp2_with fail
                            refine (oSame_any _ _ (itP us ws kk) _ HId.out HIy.out (by rw [HL2.out]; omega)).mono ?_
                            rintro e w124 ⟨rfl, hb⟩
                            have HB125 := hid (below_to HB115.out hb)
                            have HIp125 := hid (HIp115.out.below hb)
                            have HIw125 := hid (HIw115.out.below hb)
                            have HKp125 := hid (HKp115.out.below hb HKp115.out.lt)
                            have HIRa125 := hid (HIRa115.out.below hb)
                            have HIq125 := hid (HIq115.out.below hb)
                            have HKq125 := hid (HKq115.out.below hb HKq115.out.lt)
                            have HIr125 := hid (HIr115.out.below hb)
                            have HKr125 := hid (HKr115.out.below hb HKr115.out.lt)
                            have HBW125 := hid (below_to HBW115.out hb)
                            have HIx125 := hid (HIx115.out.below hb)
                            have HId125 := hid (HId.out.below hb)
                            have HIy125 := hid (HIy.out.below hb)
                            clear tKp116 tKq117 tKr118 hc2
                            clear hb HB115 HIp115 HIw115 HKp115 HIRa115 HIq115 HKq115 HIr115 HKr115 HBW115 HIx115 HId HIy
                            have tKp126 := HKp125.out.cell 0
                            have tKq127 := HKq125.out.cell 0
                            have tKr128 := HKr125.out.cell 0
                            go_wp2_with fail
                            refine (oSameB_any _ _ (itP us ws k) ws _ HIx125.out HIw125.out (by rw [HL1.out, HN.out]) (by rw [HL1.out]; omega)).mono ?_
                            rintro e w129 ⟨rfl, hb⟩
                            rw [HNe.out (by omega)]
                            have HB130 := hid (below_to HB125.out hb)
                            have HIp130 := hid (HIp125.out.below hb)
                            have HIw130 := hid (HIw125.out.below hb)
                            have HKp130 := hid (HKp125.out.below hb HKp125.out.lt)
                            have HIRa130 := hid (HIRa125.out.below hb)
                            have HIq130 := hid (HIq125.out.below hb)
                            have HKq130 := hid (HKq125.out.below hb HKq125.out.lt)
                            have HIr130 := hid (HIr125.out.below hb)
                            have HKr130 := hid (HKr125.out.below hb HKr125.out.lt)
                            have HBW130 := hid (below_to HBW125.out hb)
                            have HIx130 := hid (HIx125.out.below hb)
                            have HId130 := hid (HId125.out.below hb)
                            have HIy130 := hid (HIy125.out.below hb)
                            clear tKp126 tKq127 tKr128
                            clear hb HB125 HIp125 HIw125 HKp125 HIRa125 HIq125 HKq125 HIr125 HKr125 HBW125 HIx125 HId125 HIy125
                            have tKp131 := HKp130.out.cell 0
                            have tKq132 := HKq130.out.cell 0
                            have tKr133 := HKr130.out.cell 0
                            clear tKp131 tKq132 tKr133
                            go_wp2
                            go_roundw
                            case rel => exact ⟨k + 1, by omega, by go_num, HBW130.out⟩
                            case measure => simp [intOf] <;> omega
                    · as_aux_lemma =>
                        obtain rfl : k = P := by omega
                        clear hlt hk HSt
                        have HB134 := hid (below_to HB106.out hb)
                        have HIp134 := hid (HIp106.out.below hb)
                        have HIw134 := hid (HIw106.out.below hb)
                        have HKp134 := hid (HKp106.out.below hb HKp106.out.lt)
                        have HIRa134 := hid (HIRa106.out.below hb)
                        have HIq134 := hid (HIq106.out.below hb)
                        have HKq134 := hid (HKq106.out.below hb HKq106.out.lt)
                        have HIr134 := hid (HIr106.out.below hb)
                        have HKr134 := hid (HKr106.out.below hb HKr106.out.lt)
                        clear hb HB106 HIp106 HIw106 HKp106 HIRa106 HIq106 HKq106 HIr106 HKr106
                        have tKp135 := HKp134.out.cell 0
                        have tKq136 := HKq134.out.cell 0
                        have tKr137 := HKr134.out.cell 0
                        rename World => V1
                        obtain ⟨o3, ho3⟩ : ∃ x, okPR us = x := ⟨_, rfl⟩
                        have Ho3 := hid ho3
                        clear ho3
                        obtain ⟨v3, hv3⟩ : ∃ x, ansPR us = x := ⟨_, rfl⟩
                        have Hv3 := hid hv3
                        clear hv3
                        go_wp2_with fail
                        refine (implPromotionOrder_any _ us _ HIp134.out hl).mono ?_
                        rintro e w138 ⟨rfl, hb⟩
                        rw [Hv3.out, Ho3.out]
                        have HB139 := hid (below_to HB134.out hb)
                        have HIp139 := hid (HIp134.out.below hb)
                        have HIw139 := hid (HIw134.out.below hb)
                        have HKp139 := hid (HKp134.out.below hb HKp134.out.lt)
                        have HIRa139 := hid (HIRa134.out.below hb)
                        have HIq139 := hid (HIq134.out.below hb)
                        have HKq139 := hid (HKq134.out.below hb HKq134.out.lt)
                        have HIr139 := hid (HIr134.out.below hb)
                        have HKr139 := hid (HKr134.out.below hb HKr134.out.lt)
                        clear tKp135 tKq136 tKr137
                        clear hb HB134 HIp134 HIw134 HKp134 HIRa134 HIq134 HKq134 HIr134 HKr134
                        have tKp140 := HKp139.out.cell 0
                        have tKq141 := HKq139.out.cell 0
                        have tKr142 := HKr139.out.cell 0
                        cases o3
                        · as_aux_lemma =>
                            clear tKp140 tKq141 tKr142
                            go_wp2
                            go_ret
                            exact ⟨rfl, HB139.out⟩
                        · as_aux_lemma =>
                            obtain ⟨M3, e1, e2⟩ := HPr.out Ho3.out
                            obtain rfl : v3 = (M3 : Int) := Hv3.out.symm.trans e1
                            have hrm : Int.tmod (M3 : Int) (k : Int) = 0 := by rw [Int.tmod_eq_emod_of_nonneg (by omega), ← Int.natCast_emod, e2]; rfl
                            have hem : (M3 : Int) % (k : Int) = 0 := by rw [← Int.natCast_emod, e2]; rfl
                            have hk0 : ¬ (k : Int) = 0 := by omega
                            have hkb : ((k : Int) == 0) = false := beq_eq_false_iff_ne.2 hk0
                            clear e1 e2
                            clear tKp140 tKq141 tKr142
                            go_wp2
                            go_ret
                            exact ⟨rfl, HB139.out⟩
              · as_aux_lemma =>
                  obtain ⟨M, N2, g1, g2, g3, g4⟩ := prFacts Ho1.out
                  obtain rfl : v1 = (M : Int) := Hv1.out.symm.trans g2
                  have HQg := hid g1
                  have HQe := hid g3
                  clear g1 g2 g3
                  by_cases hM : M ≤ 100
                  · as_aux_lemma =>
                      have HQo := hid (g4 hM).1
                      have HQa := hid (g4 hM).2
                      have hMi : (M : Int) ≤ 100 := by omega
                      clear g4
                      go_wp2_with fail
                      refine (implCountReturned_any _ vs (M : Int) _ HIq106.out hlq (wf_i64 _ (by omega) (by omega))).mono ?_
                      rintro e w143 ⟨rfl, hb⟩
                      rw [HQa.out, HQo.out]
                      have HB144 := hid (below_to HB106.out hb)
                      have HIp144 := hid (HIp106.out.below hb)
                      have HIw144 := hid (HIw106.out.below hb)
                      have HKp144 := hid (HKp106.out.below hb HKp106.out.lt)
                      have HIRa144 := hid (HIRa106.out.below hb)
                      have HIq144 := hid (HIq106.out.below hb)
                      have HKq144 := hid (HKq106.out.below hb HKq106.out.lt)
                      have HIr144 := hid (HIr106.out.below hb)
                      have HKr144 := hid (HKr106.out.below hb HKr106.out.lt)
                      clear tKp107 tKq108 tKr109
                      clear hb HB106 HIp106 HIw106 HKp106 HIRa106 HIq106 HKq106 HIr106 HKr106
                      have tKp145 := HKp144.out.cell 0
                      have tKq146 := HKq144.out.cell 0
                      have tKr147 := HKr144.out.cell 0
                      go_wp2_with fail
                      refine (implCountLinear_any _ vs _ HIq144.out hlq).mono ?_
                      rintro e w148 ⟨rfl, hb⟩
                      rw [HQe.out, HQg.out]
                      have HB149 := hid (below_to HB144.out hb)
                      have HIp149 := hid (HIp144.out.below hb)
                      have HIw149 := hid (HIw144.out.below hb)
                      have HKp149 := hid (HKp144.out.below hb HKp144.out.lt)
                      have HIRa149 := hid (HIRa144.out.below hb)
                      have HIq149 := hid (HIq144.out.below hb)
                      have HKq149 := hid (HKq144.out.below hb HKq144.out.lt)
                      have HIr149 := hid (HIr144.out.below hb)
                      have HKr149 := hid (HKr144.out.below hb HKr144.out.lt)
                      clear tKp145 tKq146 tKr147
                      clear hb HB144 HIp144 HIw144 HKp144 HIRa144 HIq144 HKq144 HIr144 HKr144
                      have tKp150 := HKp149.out.cell 0
                      have tKq151 := HKq149.out.cell 0
                      have tKr152 := HKr149.out.cell 0
                      go_wp2
                      clear tKp150 tKq151 tKr152  hMi hM
                      go_loopw [161] (fun i wr => ∃ k : Nat, k ≤ P ∧ i = .int .i64 (k : Int) ∧ Below w148.heap.size w148 wr) (fun i _ => P - (intOf i).toNat)
                      case atStart => exact ⟨0, Nat.zero_le _, rfl, Below.refl _ _⟩
                      case round =>
                        obtain ⟨k, hk, rfl, hb⟩ := hrel
                        by_cases hlt : k < P
                        · skip
                          as_aux_lemma =>
                            have HBW0 := hid (Below.refl w148.heap.size w148)
                            obtain ⟨g1, g2, g3, g4⟩ := HSt.out k hlt
                            have HO1 := hid g1
                            have HE1 := hid g2
                            have HL1 := hid g3
                            have HNe := hid g4
                            obtain ⟨kk, hkk⟩ : ∃ kk, (k + 1) % P = kk := ⟨_, rfl⟩
                            have hkp : kk < P := by rw [← hkk]; exact Nat.mod_lt _ (by omega)
                            have hrm : Int.tmod ((k : Int) + 1) (P : Int) = (kk : Int) := by rw [← hkk, Int.tmod_eq_emod_of_nonneg (by omega), Int.natCast_emod]; rfl
                            rw [hkk] at HE1
                            have HL2 := hid (HSt.out kk hkp).2.2.1
                            obtain ⟨b, o, c', x, hsh, hbl, hc, hi⟩ := rows_cell HIRa149.out (k := k) (by rw [rowsN_length]; exact hlt)
                            rw [rowsN_getD _ hlt] at hi
                            injection hsh with hsA hsB hsC
                            subst hsA
                            subst hsC
                            have ck := (hb.cell (p := ⟨b, o + k, none⟩) hbl).trans hc
                            have HIx := hid (hi.below hb)
                            obtain ⟨xA, xc, rfl, -⟩ := hi
                            rw [HL1.out] at HIx ck
                            clear g1 g2 g3 g4 hkk hsB hc HSt
                            have HB153 := hid (below_to HB149.out hb)
                            have HIp153 := hid (HIp149.out.below hb)
                            have HIw153 := hid (HIw149.out.below hb)
                            have HKp153 := hid (HKp149.out.below hb HKp149.out.lt)
                            have HIRa153 := hid (HIRa149.out.below hb)
                            have HIq153 := hid (HIq149.out.below hb)
                            have HKq153 := hid (HKq149.out.below hb HKq149.out.lt)
                            have HIr153 := hid (HIr149.out.below hb)
                            have HKr153 := hid (HKr149.out.below hb HKr149.out.lt)
                            have HBW153 := hid (below_to HBW0.out hb)
                            clear hb HB149 HIp149 HIw149 HKp149 HIRa149 HIq149 HKq149 HIr149 HKr149 HBW0
                            have tKp154 := HKp153.out.cell 0
                            have tKq155 := HKq153.out.cell 0
                            have tKr156 := HKr153.out.cell 0
                            go_wp2_with fail
                            refine (implPromoteLinear_any _ us _ (itP us ws k) 1 _ HIp153.out hl HIx.out (by rw [HL1.out]; omega) (wf_i64 _ (by omega) (by omega))).mono ?_
                            rintro e w157 ⟨ud, rfl, ho, hld, hb⟩
                            rw [HO1.out]
                            rw [HE1.out] at ho hld
                            have HId := hid ho.ints
                            obtain ⟨Ad, cd, rfl, -⟩ := ho.ints
                            rw [HL2.out] at HId hld ⊢
                            clear ho
                            have HB158 := hid (below_to HB153.out hb)
                            have HIp158 := hid (HIp153.out.below hb)
                            have HIw158 := hid (HIw153.out.below hb)
                            have HKp158 := hid (HKp153.out.below hb HKp153.out.lt)
                            have HIRa158 := hid (HIRa153.out.below hb)
                            have HIq158 := hid (HIq153.out.below hb)
                            have HKq158 := hid (HKq153.out.below hb HKq153.out.lt)
                            have HIr158 := hid (HIr153.out.below hb)
                            have HKr158 := hid (HKr153.out.below hb HKr153.out.lt)
                            have HBW158 := hid (below_to HBW153.out hb)
                            have HIx158 := hid (HIx.out.below hb)
                            clear tKp154 tKq155 tKr156 ck
                            clear hb HB153 HIp153 HIw153 HKp153 HIRa153 HIq153 HKq153 HIr153 HKr153 HBW153 HIx
                            have tKp159 := HKp158.out.cell 0
                            have tKq160 := HKq158.out.cell 0
                            have tKr161 := HKr158.out.cell 0
                            obtain ⟨b2, o2, c2, y, hsh2, hbl2, hc2, hi2⟩ := rows_cell HIRa158.out (k := kk) (by rw [rowsN_length]; exact hkp)
                            rw [rowsN_getD _ hkp] at hi2
                            injection hsh2 with hsA2 hsB2 hsC2
                            obtain ⟨rfl, rfl⟩ : b = b2 ∧ o = o2 := by simpa using hsA2
                            subst hsC2
                            have HIy := hid hi2
                            obtain ⟨yA, yc, rfl, -⟩ := hi2
                            rw [HL2.out] at HIy hc2
                            have HC2 := hid hc2
                            clear hsA2 hsB2 HO1 HE1
                            by_cases hk0 : k = 0
                            · as_aux_lemma =>
                                have hk1 : ¬ (k : Int) > 0 := by omega
                                clear hk0
                                go_wp2_with fail
                                refine (oSame_any _ _ (itP us ws kk) _ HId.out HIy.out (by rw [HL2.out]; omega)).mono ?_
                                rintro e w162 ⟨rfl, hb⟩
                                have HB163 := hid (below_to HB158.out hb)
                                have HIp163 := hid (HIp158.out.below hb)
                                have HIw163 := hid (HIw158.out.below hb)
                                have HKp163 := hid (HKp158.out.below hb HKp158.out.lt)
                                have HIRa163 := hid (HIRa158.out.below hb)
                                have HIq163 := hid (HIq158.out.below hb)
                                have HKq163 := hid (HKq158.out.below hb HKq158.out.lt)
                                have HIr163 := hid (HIr158.out.below hb)
                                have HKr163 := hid (HKr158.out.below hb HKr158.out.lt)
                                have HBW163 := hid (below_to HBW158.out hb)
                                have HIx163 := hid (HIx158.out.below hb)
                                have HId163 := hid (HId.out.below hb)
                                have HIy163 := hid (HIy.out.below hb)
                                clear tKp159 tKq160 tKr161 hc2
                                clear hb HB158 HIp158 HIw158 HKp158 HIRa158 HIq158 HKq158 HIr158 HKr158 HBW158 HIx158 HId HIy
                                have tKp164 := HKp163.out.cell 0
                                have tKq165 := HKq163.out.cell 0
                                have tKr166 := HKr163.out.cell 0
                                clear tKp164 tKq165 tKr166
                                go_wp2
                                go_roundw
                                case rel => exact ⟨k + 1, by omega, by go_num, HBW163.out⟩
                                case measure => simp [intOf] <;> omega
                            · as_aux_lemma =>
                                have hk1 : (k : Int) > 0 := by omega
                                clear hk0
                                go_wp2_with fail
                                refine (oSame_any _ _ (itP us ws kk) _ HId.out HIy.out (by rw [HL2.out]; omega)).mono ?_
                                rintro e w167 ⟨rfl, hb⟩
                                have HB168 := hid (below_to HB158.out hb)
                                have HIp168 := hid (HIp158.out.below hb)
                                have HIw168 := hid (HIw158.out.below hb)
                                have HKp168 := hid (HKp158.out.below hb HKp158.out.lt)
                                have HIRa168 := hid (HIRa158.out.below hb)
                                have HIq168 := hid (HIq158.out.below hb)
                                have HKq168 := hid (HKq158.out.below hb HKq158.out.lt)
                                have HIr168 := hid (HIr158.out.below hb)
                                have HKr168 := hid (HKr158.out.below hb HKr158.out.lt)
                                have HBW168 := hid (below_to HBW158.out hb)
                                have HIx168 := hid (HIx158.out.below hb)
                                have HId168 := hid (HId.out.below hb)
                                have HIy168 := hid (HIy.out.below hb)
                                clear tKp159 tKq160 tKr161 hc2
                                clear hb HB158 HIp158 HIw158 HKp158 HIRa158 HIq158 HKq158 HIr158 HKr158 HBW158 HIx158 HId HIy
                                have tKp169 := HKp168.out.cell 0
                                have tKq170 := HKq168.out.cell 0
                                have tKr171 := HKr168.out.cell 0
                                go_wp2_with fail
                                refine (oSameB_any _ _ (itP us ws k) ws _ HIx168.out HIw168.out (by rw [HL1.out, HN.out]) (by rw [HL1.out]; omega)).mono ?_
                                rintro e w172 ⟨rfl, hb⟩
                                rw [HNe.out (by omega)]
                                have HB173 := hid (below_to HB168.out hb)
                                have HIp173 := hid (HIp168.out.below hb)
                                have HIw173 := hid (HIw168.out.below hb)
                                have HKp173 := hid (HKp168.out.below hb HKp168.out.lt)
                                have HIRa173 := hid (HIRa168.out.below hb)
                                have HIq173 := hid (HIq168.out.below hb)
                                have HKq173 := hid (HKq168.out.below hb HKq168.out.lt)
                                have HIr173 := hid (HIr168.out.below hb)
                                have HKr173 := hid (HKr168.out.below hb HKr168.out.lt)
                                have HBW173 := hid (below_to HBW168.out hb)
                                have HIx173 := hid (HIx168.out.below hb)
                                have HId173 := hid (HId168.out.below hb)
                                have HIy173 := hid (HIy168.out.below hb)
                                clear tKp169 tKq170 tKr171
                                clear hb HB168 HIp168 HIw168 HKp168 HIRa168 HIq168 HKq168 HIr168 HKr168 HBW168 HIx168 HId168 HIy168
                                have tKp174 := HKp173.out.cell 0
                                have tKq175 := HKq173.out.cell 0
                                have tKr176 := HKr173.out.cell 0
                                clear tKp174 tKq175 tKr176
                                go_wp2
                                go_roundw
                                case rel => exact ⟨k + 1, by omega, by go_num, HBW173.out⟩
                                case measure => simp [intOf] <;> omega
                        · as_aux_lemma =>
                            obtain rfl : k = P := by omega
                            clear hlt hk HSt
                            have HB177 := hid (below_to HB149.out hb)
                            have HIp177 := hid (HIp149.out.below hb)
                            have HIw177 := hid (HIw149.out.below hb)
                            have HKp177 := hid (HKp149.out.below hb HKp149.out.lt)
                            have HIRa177 := hid (HIRa149.out.below hb)
                            have HIq177 := hid (HIq149.out.below hb)
                            have HKq177 := hid (HKq149.out.below hb HKq149.out.lt)
                            have HIr177 := hid (HIr149.out.below hb)
                            have HKr177 := hid (HKr149.out.below hb HKr149.out.lt)
                            clear hb HB149 HIp149 HIw149 HKp149 HIRa149 HIq149 HKq149 HIr149 HKr149
                            have tKp178 := HKp177.out.cell 0
                            have tKq179 := HKq177.out.cell 0
                            have tKr180 := HKr177.out.cell 0
                            rename World => V1
                            obtain ⟨o3, ho3⟩ : ∃ x, okPR us = x := ⟨_, rfl⟩
                            have Ho3 := hid ho3
                            clear ho3
                            obtain ⟨v3, hv3⟩ : ∃ x, ansPR us = x := ⟨_, rfl⟩
                            have Hv3 := hid hv3
                            clear hv3
                            go_wp2_with fail
                            refine (implPromotionOrder_any _ us _ HIp177.out hl).mono ?_
                            rintro e w181 ⟨rfl, hb⟩
                            rw [Hv3.out, Ho3.out]
                            have HB182 := hid (below_to HB177.out hb)
                            have HIp182 := hid (HIp177.out.below hb)
                            have HIw182 := hid (HIw177.out.below hb)
                            have HKp182 := hid (HKp177.out.below hb HKp177.out.lt)
                            have HIRa182 := hid (HIRa177.out.below hb)
                            have HIq182 := hid (HIq177.out.below hb)
                            have HKq182 := hid (HKq177.out.below hb HKq177.out.lt)
                            have HIr182 := hid (HIr177.out.below hb)
                            have HKr182 := hid (HKr177.out.below hb HKr177.out.lt)
                            clear tKp178 tKq179 tKr180
                            clear hb HB177 HIp177 HIw177 HKp177 HIRa177 HIq177 HKq177 HIr177 HKr177
                            have tKp183 := HKp182.out.cell 0
                            have tKq184 := HKq182.out.cell 0
                            have tKr185 := HKr182.out.cell 0
                            cases o3
                            · as_aux_lemma =>
                                clear tKp183 tKq184 tKr185
                                go_wp2
                                go_ret
                                exact ⟨rfl, HB182.out⟩
                            · as_aux_lemma =>
                                obtain ⟨M3, e1, e2⟩ := HPr.out Ho3.out
                                obtain rfl : v3 = (M3 : Int) := Hv3.out.symm.trans e1
                                have hrm : Int.tmod (M3 : Int) (k : Int) = 0 := by rw [Int.tmod_eq_emod_of_nonneg (by omega), ← Int.natCast_emod, e2]; rfl
                                have hem : (M3 : Int) % (k : Int) = 0 := by rw [← Int.natCast_emod, e2]; rfl
                                have hk0 : ¬ (k : Int) = 0 := by omega
                                have hkb : ((k : Int) == 0) = false := beq_eq_false_iff_ne.2 hk0
                                clear e1 e2
                                clear tKp183 tKq184 tKr185
                                go_wp2
                                go_ret
                                exact ⟨rfl, HB182.out⟩
                  · as_aux_lemma =>
                      have hMi : ¬ (M : Int) ≤ 100 := by omega
                      clear g4
                      go_wp2
                      clear tKp107 tKq108 tKr109  hMi hM
                      go_loopw [161] (fun i wr => ∃ k : Nat, k ≤ P ∧ i = .int .i64 (k : Int) ∧ Below w105.heap.size w105 wr) (fun i _ => P - (intOf i).toNat)
                      case atStart => exact ⟨0, Nat.zero_le _, rfl, Below.refl _ _⟩
                      case round =>
                        obtain ⟨k, hk, rfl, hb⟩ := hrel
                        by_cases hlt : k < P
                        · skip
                          as_aux_lemma =>
                            have HBW0 := hid (Below.refl w105.heap.size w105)
                            obtain ⟨g1, g2, g3, g4⟩ := HSt.out k hlt
                            have HO1 := hid g1
                            have HE1 := hid g2
                            have HL1 := hid g3
                            have HNe := hid g4
                            obtain ⟨kk, hkk⟩ : ∃ kk, (k + 1) % P = kk := ⟨_, rfl⟩
                            have hkp : kk < P := by rw [← hkk]; exact Nat.mod_lt _ (by omega)
                            have hrm : Int.tmod ((k : Int) + 1) (P : Int) = (kk : Int) := by rw [← hkk, Int.tmod_eq_emod_of_nonneg (by omega), Int.natCast_emod]; rfl
                            rw [hkk] at HE1
                            have HL2 := hid (HSt.out kk hkp).2.2.1
                            obtain ⟨b, o, c', x, hsh, hbl, hc, hi⟩ := rows_cell HIRa106.out (k := k) (by rw [rowsN_length]; exact hlt)
                            rw [rowsN_getD _ hlt] at hi
                            injection hsh with hsA hsB hsC
                            subst hsA
                            subst hsC
                            have ck := (hb.cell (p := ⟨b, o + k, none⟩) hbl).trans hc
                            have HIx := hid (hi.below hb)
                            obtain ⟨xA, xc, rfl, -⟩ := hi
                            rw [HL1.out] at HIx ck
                            clear g1 g2 g3 g4 hkk hsB hc HSt
                            have HB186 := hid (below_to HB106.out hb)
                            have HIp186 := hid (HIp106.out.below hb)
                            have HIw186 := hid (HIw106.out.below hb)
                            have HKp186 := hid (HKp106.out.below hb HKp106.out.lt)
                            have HIRa186 := hid (HIRa106.out.below hb)
                            have HIq186 := hid (HIq106.out.below hb)
                            have HKq186 := hid (HKq106.out.below hb HKq106.out.lt)
                            have HIr186 := hid (HIr106.out.below hb)
                            have HKr186 := hid (HKr106.out.below hb HKr106.out.lt)
                            have HBW186 := hid (below_to HBW0.out hb)
                            clear hb HB106 HIp106 HIw106 HKp106 HIRa106 HIq106 HKq106 HIr106 HKr106 HBW0
                            have tKp187 := HKp186.out.cell 0
                            have tKq188 := HKq186.out.cell 0
                            have tKr189 := HKr186.out.cell 0
                            go_wp2_with fail
                            refine (implPromoteLinear_any _ us _ (itP us ws k) 1 _ HIp186.out hl HIx.out (by rw [HL1.out]; omega) (wf_i64 _ (by omega) (by omega))).mono ?_
                            rintro e w190 ⟨ud, rfl, ho, hld, hb⟩
                            rw [HO1.out]
                            rw [HE1.out] at ho hld
                            have HId := hid ho.ints
                            obtain ⟨Ad, cd, rfl, -⟩ := ho.ints
                            rw [HL2.out] at HId hld ⊢
                            clear ho
                            have HB191 := hid (below_to HB186.out hb)
                            have HIp191 := hid (HIp186.out.below hb)
                            have HIw191 := hid (HIw186.out.below hb)
                            have HKp191 := hid (HKp186.out.below hb HKp186.out.lt)
                            have HIRa191 := hid (HIRa186.out.below hb)
                            have HIq191 := hid (HIq186.out.below hb)
                            have HKq191 := hid (HKq186.out.below hb HKq186.out.lt)
                            have HIr191 := hid (HIr186.out.below hb)
                            have HKr191 := hid (HKr186.out.below hb HKr186.out.lt)
                            have HBW191 := hid (below_to HBW186.out hb)
                            have HIx191 := hid (HIx.out.below hb)
                            clear tKp187 tKq188 tKr189 ck
                            clear hb HB186 HIp186 HIw186 HKp186 HIRa186 HIq186 HKq186 HIr186 HKr186 HBW186 HIx
                            have tKp192 := HKp191.out.cell 0
                            have tKq193 := HKq191.out.cell 0
                            have tKr194 := HKr191.out.cell 0
                            obtain ⟨b2, o2, c2, y, hsh2, hbl2, hc2, hi2⟩ := rows_cell HIRa191.out (k := kk) (by rw [rowsN_length]; exact hkp)
                            rw [rowsN_getD _ hkp] at hi2
                            injection hsh2 with hsA2 hsB2 hsC2
                            obtain ⟨rfl, rfl⟩ : b = b2 ∧ o = o2 := by simpa using hsA2
                            subst hsC2
                            have HIy := hid hi2
                            obtain ⟨yA, yc, rfl, -⟩ := hi2
                            rw [HL2.out] at HIy hc2
                            have HC2 := hid hc2
                            clear hsA2 hsB2 HO1 HE1
                            by_cases hk0 : k = 0
                            · as_aux_lemma =>
                                have hk1 : ¬ (k : Int) > 0 := by omega
                                clear hk0
                                go_wp2_with fail
                                refine (oSame_any _ _ (itP us ws kk) _ HId.out HIy.out (by rw [HL2.out]; omega)).mono ?_
                                rintro e w195 ⟨rfl, hb⟩
                                have HB196 := hid (below_to HB191.out hb)
                                have HIp196 := hid (HIp191.out.below hb)
                                have HIw196 := hid (HIw191.out.below hb)
                                have HKp196 := hid (HKp191.out.below hb HKp191.out.lt)
                                have HIRa196 := hid (HIRa191.out.below hb)
                                have HIq196 := hid (HIq191.out.below hb)
                                have HKq196 := hid (HKq191.out.below hb HKq191.out.lt)
                                have HIr196 := hid (HIr191.out.below hb)
                                have HKr196 := hid (HKr191.out.below hb HKr191.out.lt)
                                have HBW196 := hid (below_to HBW191.out hb)
                                have HIx196 := hid (HIx191.out.below hb)
                                have HId196 := hid (HId.out.below hb)
                                have HIy196 := hid (HIy.out.below hb)
                                clear tKp192 tKq193 tKr194 hc2
                                clear hb HB191 HIp191 HIw191 HKp191 HIRa191 HIq191 HKq191 HIr191 HKr191 HBW191 HIx191 HId HIy
                                have tKp197 := HKp196.out.cell 0
                                have tKq198 := HKq196.out.cell 0
                                have tKr199 := HKr196.out.cell 0
                                clear tKp197 tKq198 tKr199
                                go_wp2
                                go_roundw
                                case rel => exact ⟨k + 1, by omega, by go_num, HBW196.out⟩
                                case measure => simp [intOf] <;> omega
                            · as_aux_lemma =>
                                have hk1 : (k : Int) > 0 := by omega
                                clear hk0
                                go_wp2_with fail
                                refine (oSame_any _ _ (itP us ws kk) _ HId.out HIy.out (by rw [HL2.out]; omega)).mono ?_
                                rintro e w200 ⟨rfl, hb⟩
                                have HB201 := hid (below_to HB191.out hb)
                                have HIp201 := hid (HIp191.out.below hb)
                                have HIw201 := hid (HIw191.out.below hb)
                                have HKp201 := hid (HKp191.out.below hb HKp191.out.lt)
                                have HIRa201 := hid (HIRa191.out.below hb)
                                have HIq201 := hid (HIq191.out.below hb)
                                have HKq201 := hid (HKq191.out.below hb HKq191.out.lt)
                                have HIr201 := hid (HIr191.out.below hb)
                                have HKr201 := hid (HKr191.out.below hb HKr191.out.lt)
                                have HBW201 := hid (below_to HBW191.out hb)
                                have HIx201 := hid (HIx191.out.below hb)
                                have HId201 := hid (HId.out.below hb)
                                have HIy201 := hid (HIy.out.below hb)
                                clear tKp192 tKq193 tKr194 hc2
                                clear hb HB191 HIp191 HIw191 HKp191 HIRa191 HIq191 HKq191 HIr191 HKr191 HBW191 HIx191 HId HIy
                                have tKp202 := HKp201.out.cell 0
                                have tKq203 := HKq201.out.cell 0
                                have tKr204 := HKr201.out.cell 0
                                go_wp2_with fail
                                refine (oSameB_any _ _ (itP us ws k) ws _ HIx201.out HIw201.out (by rw [HL1.out, HN.out]) (by rw [HL1.out]; omega)).mono ?_
                                rintro e w205 ⟨rfl, hb⟩
                                rw [HNe.out (by omega)]
                                have HB206 := hid (below_to HB201.out hb)
                                have HIp206 := hid (HIp201.out.below hb)
                                have HIw206 := hid (HIw201.out.below hb)
                                have HKp206 := hid (HKp201.out.below hb HKp201.out.lt)
                                have HIRa206 := hid (HIRa201.out.below hb)
                                have HIq206 := hid (HIq201.out.below hb)
                                have HKq206 := hid (HKq201.out.below hb HKq201.out.lt)
                                have HIr206 := hid (HIr201.out.below hb)
                                have HKr206 := hid (HKr201.out.below hb HKr201.out.lt)
                                have HBW206 := hid (below_to HBW201.out hb)
                                have HIx206 := hid (HIx201.out.below hb)
                                have HId206 := hid (HId201.out.below hb)
                                have HIy206 := hid (HIy201.out.below hb)
                                clear tKp202 tKq203 tKr204
                                clear hb HB201 HIp201 HIw201 HKp201 HIRa201 HIq201 HKq201 HIr201 HKr201 HBW201 HIx201 HId201 HIy201
                                have tKp207 := HKp206.out.cell 0
                                have tKq208 := HKq206.out.cell 0
                                have tKr209 := HKr206.out.cell 0
                                clear tKp207 tKq208 tKr209
                                go_wp2
                                go_roundw
                                case rel => exact ⟨k + 1, by omega, by go_num, HBW206.out⟩
                                case measure => simp [intOf] <;> omega
                        · as_aux_lemma =>
                            obtain rfl : k = P := by omega
                            clear hlt hk HSt
                            have HB210 := hid (below_to HB106.out hb)
                            have HIp210 := hid (HIp106.out.below hb)
                            have HIw210 := hid (HIw106.out.below hb)
                            have HKp210 := hid (HKp106.out.below hb HKp106.out.lt)
                            have HIRa210 := hid (HIRa106.out.below hb)
                            have HIq210 := hid (HIq106.out.below hb)
                            have HKq210 := hid (HKq106.out.below hb HKq106.out.lt)
                            have HIr210 := hid (HIr106.out.below hb)
                            have HKr210 := hid (HKr106.out.below hb HKr106.out.lt)
                            clear hb HB106 HIp106 HIw106 HKp106 HIRa106 HIq106 HKq106 HIr106 HKr106
                            have tKp211 := HKp210.out.cell 0
                            have tKq212 := HKq210.out.cell 0
                            have tKr213 := HKr210.out.cell 0
                            rename World => V1
                            obtain ⟨o3, ho3⟩ : ∃ x, okPR us = x := ⟨_, rfl⟩
                            have Ho3 := hid ho3
                            clear ho3
                            obtain ⟨v3, hv3⟩ : ∃ x, ansPR us = x := ⟨_, rfl⟩
                            have Hv3 := hid hv3
                            clear hv3
                            go_wp2_with fail
                            refine (implPromotionOrder_any _ us _ HIp210.out hl).mono ?_
                            rintro e w214 ⟨rfl, hb⟩
                            rw [Hv3.out, Ho3.out]
                            have HB215 := hid (below_to HB210.out hb)
                            have HIp215 := hid (HIp210.out.below hb)
                            have HIw215 := hid (HIw210.out.below hb)
                            have HKp215 := hid (HKp210.out.below hb HKp210.out.lt)
                            have HIRa215 := hid (HIRa210.out.below hb)
                            have HIq215 := hid (HIq210.out.below hb)
                            have HKq215 := hid (HKq210.out.below hb HKq210.out.lt)
                            have HIr215 := hid (HIr210.out.below hb)
                            have HKr215 := hid (HKr210.out.below hb HKr210.out.lt)
                            clear tKp211 tKq212 tKr213
                            clear hb HB210 HIp210 HIw210 HKp210 HIRa210 HIq210 HKq210 HIr210 HKr210
                            have tKp216 := HKp215.out.cell 0
                            have tKq217 := HKq215.out.cell 0
                            have tKr218 := HKr215.out.cell 0
                            cases o3
                            · as_aux_lemma =>
                                clear tKp216 tKq217 tKr218
                                go_wp2
                                go_ret
                                exact ⟨rfl, HB215.out⟩
                            · as_aux_lemma =>
                                obtain ⟨M3, e1, e2⟩ := HPr.out Ho3.out
                                obtain rfl : v3 = (M3 : Int) := Hv3.out.symm.trans e1
                                have hrm : Int.tmod (M3 : Int) (k : Int) = 0 := by rw [Int.tmod_eq_emod_of_nonneg (by omega), ← Int.natCast_emod, e2]; rfl
                                have hem : (M3 : Int) % (k : Int) = 0 := by rw [← Int.natCast_emod, e2]; rfl
                                have hk0 : ¬ (k : Int) = 0 := by omega
                                have hkb : ((k : Int) == 0) = false := beq_eq_false_iff_ne.2 hk0
                                clear e1 e2
                                clear tKp216 tKq217 tKr218
                                go_wp2
                                go_ret
                                exact ⟨rfl, HB215.out⟩
          · as_aux_lemma =>
              obtain ⟨c, N, g1, g2, g3, g4, g5⟩ := crFacts Ho2.out
              obtain rfl : v2 = (c : Int) := Hv2.out.symm.trans g2
              have HCg := hid g1
              have HCe := hid g3
              have g6 : ¬ (c : Int) > (N : Int) := by omega
              have g7 : ¬ N < c := by omega
              clear g1 g2 g3
              by_cases ht0 : t = 0
              · as_aux_lemma =>
                  obtain rfl : c = N := g5 ht0
                  subst ht0
                  have hcn : ((c : Int) != (c : Int)) = false := by simp
                  clear g4 g5
                  go_wp2_with fail
                  refine (implCountLinear_any _ zs _ HIr106.out hlr).mono ?_
                  rintro e w219 ⟨rfl, hb⟩
                  rw [HCe.out, HCg.out]
                  have HB220 := hid (below_to HB106.out hb)
                  have HIp220 := hid (HIp106.out.below hb)
                  have HIw220 := hid (HIw106.out.below hb)
                  have HKp220 := hid (HKp106.out.below hb HKp106.out.lt)
                  have HIRa220 := hid (HIRa106.out.below hb)
                  have HIq220 := hid (HIq106.out.below hb)
                  have HKq220 := hid (HKq106.out.below hb HKq106.out.lt)
                  have HIr220 := hid (HIr106.out.below hb)
                  have HKr220 := hid (HKr106.out.below hb HKr106.out.lt)
                  clear tKp107 tKq108 tKr109
                  clear hb HB106 HIp106 HIw106 HKp106 HIRa106 HIq106 HKq106 HIr106 HKr106
                  have tKp221 := HKp220.out.cell 0
                  have tKq222 := HKq220.out.cell 0
                  have tKr223 := HKr220.out.cell 0
                  clear HCe HCg
                  cases o1
                  · as_aux_lemma =>
                      go_wp2
                      clear tKp221 tKq222 tKr223 hcn g6 g7
                      go_loopw [161] (fun i wr => ∃ k : Nat, k ≤ P ∧ i = .int .i64 (k : Int) ∧ Below w219.heap.size w219 wr) (fun i _ => P - (intOf i).toNat)
                      case atStart => exact ⟨0, Nat.zero_le _, rfl, Below.refl _ _⟩
                      case round =>
                        obtain ⟨k, hk, rfl, hb⟩ := hrel
                        by_cases hlt : k < P
                        · skip
                          as_aux_lemma =>
                            have HBW0 := hid (Below.refl w219.heap.size w219)
                            obtain ⟨g1, g2, g3, g4⟩ := HSt.out k hlt
                            have HO1 := hid g1
                            have HE1 := hid g2
                            have HL1 := hid g3
                            have HNe := hid g4
                            obtain ⟨kk, hkk⟩ : ∃ kk, (k + 1) % P = kk := ⟨_, rfl⟩
                            have hkp : kk < P := by rw [← hkk]; exact Nat.mod_lt _ (by omega)
                            have hrm : Int.tmod ((k : Int) + 1) (P : Int) = (kk : Int) := by rw [← hkk, Int.tmod_eq_emod_of_nonneg (by omega), Int.natCast_emod]; rfl
                            rw [hkk] at HE1
                            have HL2 := hid (HSt.out kk hkp).2.2.1
                            obtain ⟨b, o, c', x, hsh, hbl, hc, hi⟩ := rows_cell HIRa220.out (k := k) (by rw [rowsN_length]; exact hlt)
                            rw [rowsN_getD _ hlt] at hi
                            injection hsh with hsA hsB hsC
                            subst hsA
                            subst hsC
                            have ck := (hb.cell (p := ⟨b, o + k, none⟩) hbl).trans hc
                            have HIx := hid (hi.below hb)
                            obtain ⟨xA, xc, rfl, -⟩ := hi
                            rw [HL1.out] at HIx ck
                            clear g1 g2 g3 g4 hkk hsB hc HSt
                            have HB224 := hid (below_to HB220.out hb)
                            have HIp224 := hid (HIp220.out.below hb)
                            have HIw224 := hid (HIw220.out.below hb)
                            have HKp224 := hid (HKp220.out.below hb HKp220.out.lt)
                            have HIRa224 := hid (HIRa220.out.below hb)
                            have HIq224 := hid (HIq220.out.below hb)
                            have HKq224 := hid (HKq220.out.below hb HKq220.out.lt)
                            have HIr224 := hid (HIr220.out.below hb)
                            have HKr224 := hid (HKr220.out.below hb HKr220.out.lt)
                            have HBW224 := hid (below_to HBW0.out hb)
                            clear hb HB220 HIp220 HIw220 HKp220 HIRa220 HIq220 HKq220 HIr220 HKr220 HBW0
                            have tKp225 := HKp224.out.cell 0
                            have tKq226 := HKq224.out.cell 0
                            have tKr227 := HKr224.out.cell 0
                            go_wp2_with fail
                            refine (implPromoteLinear_any _ us _ (itP us ws k) 1 _ HIp224.out hl HIx.out (by rw [HL1.out]; omega) (wf_i64 _ (by omega) (by omega))).mono ?_
                            rintro e w228 ⟨ud, rfl, ho, hld, hb⟩
                            rw [HO1.out]
                            rw [HE1.out] at ho hld
                            have HId := hid ho.ints
                            obtain ⟨Ad, cd, rfl, -⟩ := ho.ints
                            rw [HL2.out] at HId hld ⊢
                            clear ho
                            have HB229 := hid (below_to HB224.out hb)
                            have HIp229 := hid (HIp224.out.below hb)
                            have HIw229 := hid (HIw224.out.below hb)
                            have HKp229 := hid (HKp224.out.below hb HKp224.out.lt)
                            have HIRa229 := hid (HIRa224.out.below hb)
                            have HIq229 := hid (HIq224.out.below hb)
                            have HKq229 := hid (HKq224.out.below hb HKq224.out.lt)
                            have HIr229 := hid (HIr224.out.below hb)
                            have HKr229 := hid (HKr224.out.below hb HKr224.out.lt)
                            have HBW229 := hid (below_to HBW224.out hb)
                            have HIx229 := hid (HIx.out.below hb)
                            clear tKp225 tKq226 tKr227 ck
                            clear hb HB224 HIp224 HIw224 HKp224 HIRa224 HIq224 HKq224 HIr224 HKr224 HBW224 HIx
                            have tKp230 := HKp229.out.cell 0
                            have tKq231 := HKq229.out.cell 0
                            have tKr232 := HKr229.out.cell 0
                            obtain ⟨b2, o2, c2, y, hsh2, hbl2, hc2, hi2⟩ := rows_cell HIRa229.out (k := kk) (by rw [rowsN_length]; exact hkp)
                            rw [rowsN_getD _ hkp] at hi2
                            injection hsh2 with hsA2 hsB2 hsC2
                            obtain ⟨rfl, rfl⟩ : b = b2 ∧ o = o2 := by simpa using hsA2
                            subst hsC2
                            have HIy := hid hi2
                            obtain ⟨yA, yc, rfl, -⟩ := hi2
                            rw [HL2.out] at HIy hc2
                            have HC2 := hid hc2
                            clear hsA2 hsB2 HO1 HE1
                            by_cases hk0 : k = 0
                            · as_aux_lemma =>
                                have hk1 : ¬ (k : Int) > 0 := by omega
                                clear hk0
                                go_wp2_with fail
                                refine (oSame_any _ _ (itP us ws kk) _ HId.out HIy.out (by rw [HL2.out]; omega)).mono ?_
                                rintro e w233 ⟨rfl, hb⟩
                                have HB234 := hid (below_to HB229.out hb)
                                have HIp234 := hid (HIp229.out.below hb)
                                have HIw234 := hid (HIw229.out.below hb)
                                have HKp234 := hid (HKp229.out.below hb HKp229.out.lt)
                                have HIRa234 := hid (HIRa229.out.below hb)
                                have HIq234 := hid (HIq229.out.below hb)
                                have HKq234 := hid (HKq229.out.below hb HKq229.out.lt)
                                have HIr234 := hid (HIr229.out.below hb)
                                have HKr234 := hid (HKr229.out.below hb HKr229.out.lt)
                                have HBW234 := hid (below_to HBW229.out hb)
                                have HIx234 := hid (HIx229.out.below hb)
                                have HId234 := hid (HId.out.below hb)
                                have HIy234 := hid (HIy.out.below hb)
                                clear tKp230 tKq231 tKr232 hc2
                                clear hb HB229 HIp229 HIw229 HKp229 HIRa229 HIq229 HKq229 HIr229 HKr229 HBW229 HIx229 HId HIy
                                have tKp235 := HKp234.out.cell 0
                                have tKq236 := HKq234.out.cell 0
                                have tKr237 := HKr234.out.cell 0
                                clear tKp235 tKq236 tKr237
                                go_wp2
                                go_roundw
                                case rel => exact ⟨k + 1, by omega, by go_num, HBW234.out⟩
                                case measure => simp [intOf] <;> omega
                            · as_aux_lemma =>
                                have hk1 : (k : Int) > 0 := by omega
                                clear hk0
                                go_wp2_with fail
                                refine (oSame_any _ _ (itP us ws kk) _ HId.out HIy.out (by rw [HL2.out]; omega)).mono ?_
                                rintro e w238 ⟨rfl, hb⟩
                                have HB239 := hid (below_to HB229.out hb)
                                have HIp239 := hid (HIp229.out.below hb)
                                have HIw239 := hid (HIw229.out.below hb)
                                have HKp239 := hid (HKp229.out.below hb HKp229.out.lt)
                                have HIRa239 := hid (HIRa229.out.below hb)
                                have HIq239 := hid (HIq229.out.below hb)
                                have HKq239 := hid (HKq229.out.below hb HKq229.out.lt)
                                have HIr239 := hid (HIr229.out.below hb)
                                have HKr239 := hid (HKr229.out.below hb HKr229.out.lt)
                                have HBW239 := hid (below_to HBW229.out hb)
                                have HIx239 := hid (HIx229.out.below hb)
                                have HId239 := hid (HId.out.below hb)
                                have HIy239 := hid (HIy.out.below hb)
                                clear tKp230 tKq231 tKr232 hc2
                                clear hb HB229 HIp229 HIw229 HKp229 HIRa229 HIq229 HKq229 HIr229 HKr229 HBW229 HIx229 HId HIy
                                have tKp240 := HKp239.out.cell 0
                                have tKq241 := HKq239.out.cell 0
                                have tKr242 := HKr239.out.cell 0
                                go_wp2_with fail
                                refine (oSameB_any _ _ (itP us ws k) ws _ HIx239.out HIw239.out (by rw [HL1.out, HN.out]) (by rw [HL1.out]; omega)).mono ?_
                                rintro e w243 ⟨rfl, hb⟩
                                rw [HNe.out (by omega)]
                                have HB244 := hid (below_to HB239.out hb)
                                have HIp244 := hid (HIp239.out.below hb)
                                have HIw244 := hid (HIw239.out.below hb)
                                have HKp244 := hid (HKp239.out.below hb HKp239.out.lt)
                                have HIRa244 := hid (HIRa239.out.below hb)
                                have HIq244 := hid (HIq239.out.below hb)
                                have HKq244 := hid (HKq239.out.below hb HKq239.out.lt)
                                have HIr244 := hid (HIr239.out.below hb)
                                have HKr244 := hid (HKr239.out.below hb HKr239.out.lt)
                                have HBW244 := hid (below_to HBW239.out hb)
                                have HIx244 := hid (HIx239.out.below hb)
                                have HId244 := hid (HId239.out.below hb)
                                have HIy244 := hid (HIy239.out.below hb)
                                clear tKp240 tKq241 tKr242
                                clear hb HB239 HIp239 HIw239 HKp239 HIRa239 HIq239 HKq239 HIr239 HKr239 HBW239 HIx239 HId239 HIy239
                                have tKp245 := HKp244.out.cell 0
                                have tKq246 := HKq244.out.cell 0
                                have tKr247 := HKr244.out.cell 0
                                clear tKp245 tKq246 tKr247
                                go_wp2
                                go_roundw
                                case rel => exact ⟨k + 1, by omega, by go_num, HBW244.out⟩
                                case measure => simp [intOf] <;> omega
                        · as_aux_lemma =>
                            obtain rfl : k = P := by omega
                            clear hlt hk HSt
                            have HB248 := hid (below_to HB220.out hb)
                            have HIp248 := hid (HIp220.out.below hb)
                            have HIw248 := hid (HIw220.out.below hb)
                            have HKp248 := hid (HKp220.out.below hb HKp220.out.lt)
                            have HIRa248 := hid (HIRa220.out.below hb)
                            have HIq248 := hid (HIq220.out.below hb)
                            have HKq248 := hid (HKq220.out.below hb HKq220.out.lt)
                            have HIr248 := hid (HIr220.out.below hb)
                            have HKr248 := hid (HKr220.out.below hb HKr220.out.lt)
                            clear hb HB220 HIp220 HIw220 HKp220 HIRa220 HIq220 HKq220 HIr220 HKr220
                            have tKp249 := HKp248.out.cell 0
                            have tKq250 := HKq248.out.cell 0
                            have tKr251 := HKr248.out.cell 0
                            rename World => V1
                            obtain ⟨o3, ho3⟩ : ∃ x, okPR us = x := ⟨_, rfl⟩
                            have Ho3 := hid ho3
                            clear ho3
                            obtain ⟨v3, hv3⟩ : ∃ x, ansPR us = x := ⟨_, rfl⟩
                            have Hv3 := hid hv3
                            clear hv3
                            go_wp2_with fail
                            refine (implPromotionOrder_any _ us _ HIp248.out hl).mono ?_
                            rintro e w252 ⟨rfl, hb⟩
                            rw [Hv3.out, Ho3.out]
                            have HB253 := hid (below_to HB248.out hb)
                            have HIp253 := hid (HIp248.out.below hb)
                            have HIw253 := hid (HIw248.out.below hb)
                            have HKp253 := hid (HKp248.out.below hb HKp248.out.lt)
                            have HIRa253 := hid (HIRa248.out.below hb)
                            have HIq253 := hid (HIq248.out.below hb)
                            have HKq253 := hid (HKq248.out.below hb HKq248.out.lt)
                            have HIr253 := hid (HIr248.out.below hb)
                            have HKr253 := hid (HKr248.out.below hb HKr248.out.lt)
                            clear tKp249 tKq250 tKr251
                            clear hb HB248 HIp248 HIw248 HKp248 HIRa248 HIq248 HKq248 HIr248 HKr248
                            have tKp254 := HKp253.out.cell 0
                            have tKq255 := HKq253.out.cell 0
                            have tKr256 := HKr253.out.cell 0
                            cases o3
                            · as_aux_lemma =>
                                clear tKp254 tKq255 tKr256
                                go_wp2
                                go_ret
                                exact ⟨rfl, HB253.out⟩
                            · as_aux_lemma =>
                                obtain ⟨M3, e1, e2⟩ := HPr.out Ho3.out
                                obtain rfl : v3 = (M3 : Int) := Hv3.out.symm.trans e1
                                have hrm : Int.tmod (M3 : Int) (k : Int) = 0 := by rw [Int.tmod_eq_emod_of_nonneg (by omega), ← Int.natCast_emod, e2]; rfl
                                have hem : (M3 : Int) % (k : Int) = 0 := by rw [← Int.natCast_emod, e2]; rfl
                                have hk0 : ¬ (k : Int) = 0 := by omega
                                have hkb : ((k : Int) == 0) = false := beq_eq_false_iff_ne.2 hk0
                                clear e1 e2
                                clear tKp254 tKq255 tKr256
                                go_wp2
                                go_ret
                                exact ⟨rfl, HB253.out⟩
                  · as_aux_lemma =>
                      obtain ⟨M, N2, g1, g2, g3, g4⟩ := prFacts Ho1.out
                      obtain rfl : v1 = (M : Int) := Hv1.out.symm.trans g2
                      have HQg := hid g1
                      have HQe := hid g3
                      clear g1 g2 g3
                      by_cases hM : M ≤ 100
                      · as_aux_lemma =>
                          have HQo := hid (g4 hM).1
                          have HQa := hid (g4 hM).2
                          have hMi : (M : Int) ≤ 100 := by omega
                          clear g4
                          go_wp2_with fail
                          refine (implCountReturned_any _ vs (M : Int) _ HIq220.out hlq (wf_i64 _ (by omega) (by omega))).mono ?_
                          rintro e w257 ⟨rfl, hb⟩
                          rw [HQa.out, HQo.out]
                          have HB258 := hid (below_to HB220.out hb)
                          have HIp258 := hid (HIp220.out.below hb)
                          have HIw258 := hid (HIw220.out.below hb)
                          have HKp258 := hid (HKp220.out.below hb HKp220.out.lt)
                          have HIRa258 := hid (HIRa220.out.below hb)
                          have HIq258 := hid (HIq220.out.below hb)
                          have HKq258 := hid (HKq220.out.below hb HKq220.out.lt)
                          have HIr258 := hid (HIr220.out.below hb)
                          have HKr258 := hid (HKr220.out.below hb HKr220.out.lt)
                          clear tKp221 tKq222 tKr223
                          clear hb HB220 HIp220 HIw220 HKp220 HIRa220 HIq220 HKq220 HIr220 HKr220
                          have tKp259 := HKp258.out.cell 0
                          have tKq260 := HKq258.out.cell 0
                          have tKr261 := HKr258.out.cell 0
                          go_wp2_with fail
                          refine (implCountLinear_any _ vs _ HIq258.out hlq).mono ?_
                          rintro e w262 ⟨rfl, hb⟩
                          rw [HQe.out, HQg.out]
                          have HB263 := hid (below_to HB258.out hb)
                          have HIp263 := hid (HIp258.out.below hb)
                          have HIw263 := hid (HIw258.out.below hb)
                          have HKp263 := hid (HKp258.out.below hb HKp258.out.lt)
                          have HIRa263 := hid (HIRa258.out.below hb)
                          have HIq263 := hid (HIq258.out.below hb)
                          have HKq263 := hid (HKq258.out.below hb HKq258.out.lt)
                          have HIr263 := hid (HIr258.out.below hb)
                          have HKr263 := hid (HKr258.out.below hb HKr258.out.lt)
                          clear tKp259 tKq260 tKr261
                          clear hb HB258 HIp258 HIw258 HKp258 HIRa258 HIq258 HKq258 HIr258 HKr258
                          have tKp264 := HKp263.out.cell 0
                          have tKq265 := HKq263.out.cell 0
                          have tKr266 := HKr263.out.cell 0
                          go_wp2
                          clear tKp264 tKq265 tKr266 hcn g6 g7 hMi hM
                          go_loopw [161] (fun i wr => ∃ k : Nat, k ≤ P ∧ i = .int .i64 (k : Int) ∧ Below w262.heap.size w262 wr) (fun i _ => P - (intOf i).toNat)
                          case atStart => exact ⟨0, Nat.zero_le _, rfl, Below.refl _ _⟩
                          case round =>
                            obtain ⟨k, hk, rfl, hb⟩ := hrel
                            by_cases hlt : k < P
                            · skip
                              as_aux_lemma =>
                                have HBW0 := hid (Below.refl w262.heap.size w262)
                                obtain ⟨g1, g2, g3, g4⟩ := HSt.out k hlt
                                have HO1 := hid g1
                                have HE1 := hid g2
                                have HL1 := hid g3
                                have HNe := hid g4
                                obtain ⟨kk, hkk⟩ : ∃ kk, (k + 1) % P = kk := ⟨_, rfl⟩
                                have hkp : kk < P := by rw [← hkk]; exact Nat.mod_lt _ (by omega)
                                have hrm : Int.tmod ((k : Int) + 1) (P : Int) = (kk : Int) := by rw [← hkk, Int.tmod_eq_emod_of_nonneg (by omega), Int.natCast_emod]; rfl
                                rw [hkk] at HE1
                                have HL2 := hid (HSt.out kk hkp).2.2.1
                                obtain ⟨b, o, c', x, hsh, hbl, hc, hi⟩ := rows_cell HIRa263.out (k := k) (by rw [rowsN_length]; exact hlt)
                                rw [rowsN_getD _ hlt] at hi
                                injection hsh with hsA hsB hsC
                                subst hsA
                                subst hsC
                                have ck := (hb.cell (p := ⟨b, o + k, none⟩) hbl).trans hc
                                have HIx := hid (hi.below hb)
                                obtain ⟨xA, xc, rfl, -⟩ := hi
                                rw [HL1.out] at HIx ck
                                clear g1 g2 g3 g4 hkk hsB hc HSt
                                have HB267 := hid (below_to HB263.out hb)
                                have HIp267 := hid (HIp263.out.below hb)
                                have HIw267 := hid (HIw263.out.below hb)
                                have HKp267 := hid (HKp263.out.below hb HKp263.out.lt)
                                have HIRa267 := hid (HIRa263.out.below hb)
                                have HIq267 := hid (HIq263.out.below hb)
                                have HKq267 := hid (HKq263.out.below hb HKq263.out.lt)
                                have HIr267 := hid (HIr263.out.below hb)
                                have HKr267 := hid (HKr263.out.below hb HKr263.out.lt)
                                have HBW267 := hid (below_to HBW0.out hb)
                                clear hb HB263 HIp263 HIw263 HKp263 HIRa263 HIq263 HKq263 HIr263 HKr263 HBW0
                                have tKp268 := HKp267.out.cell 0
                                have tKq269 := HKq267.out.cell 0
                                have tKr270 := HKr267.out.cell 0
                                go_wp2_with fail
                                refine (implPromoteLinear_any _ us _ (itP us ws k) 1 _ HIp267.out hl HIx.out (by rw [HL1.out]; omega) (wf_i64 _ (by omega) (by omega))).mono ?_
                                rintro e w271 ⟨ud, rfl, ho, hld, hb⟩
                                rw [HO1.out]
                                rw [HE1.out] at ho hld
                                have HId := hid ho.ints
                                obtain ⟨Ad, cd, rfl, -⟩ := ho.ints
                                rw [HL2.out] at HId hld ⊢
                                clear ho
                                have HB272 := hid (below_to HB267.out hb)
                                have HIp272 := hid (HIp267.out.below hb)
                                have HIw272 := hid (HIw267.out.below hb)
                                have HKp272 := hid (HKp267.out.below hb HKp267.out.lt)
                                have HIRa272 := hid (HIRa267.out.below hb)
                                have HIq272 := hid (HIq267.out.below hb)
                                have HKq272 := hid (HKq267.out.below hb HKq267.out.lt)
                                have HIr272 := hid (HIr267.out.below hb)
                                have HKr272 := hid (HKr267.out.below hb HKr267.out.lt)
                                have HBW272 := hid (below_to HBW267.out hb)
                                have HIx272 := hid (HIx.out.below hb)
                                clear tKp268 tKq269 tKr270 ck
                                clear hb HB267 HIp267 HIw267 HKp267 HIRa267 HIq267 HKq267 HIr267 HKr267 HBW267 HIx
                                have tKp273 := HKp272.out.cell 0
                                have tKq274 := HKq272.out.cell 0
                                have tKr275 := HKr272.out.cell 0
                                obtain ⟨b2, o2, c2, y, hsh2, hbl2, hc2, hi2⟩ := rows_cell HIRa272.out (k := kk) (by rw [rowsN_length]; exact hkp)
                                rw [rowsN_getD _ hkp] at hi2
                                injection hsh2 with hsA2 hsB2 hsC2
                                obtain ⟨rfl, rfl⟩ : b = b2 ∧ o = o2 := by simpa using hsA2
                                subst hsC2
                                have HIy := hid hi2
                                obtain ⟨yA, yc, rfl, -⟩ := hi2
                                rw [HL2.out] at HIy hc2
                                have HC2 := hid hc2
                                clear hsA2 hsB2 HO1 HE1
                                by_cases hk0 : k = 0
                                · as_aux_lemma =>
                                    have hk1 : ¬ (k : Int) > 0 := by omega
                                    clear hk0
                                    go_wp2_with fail
                                    refine (oSame_any _ _ (itP us ws kk) _ HId.out HIy.out (by rw [HL2.out]; omega)).mono ?_
                                    rintro e w276 ⟨rfl, hb⟩
                                    have HB277 := hid (below_to HB272.out hb)
                                    have HIp277 := hid (HIp272.out.below hb)
                                    have HIw277 := hid (HIw272.out.below hb)
                                    have HKp277 := hid (HKp272.out.below hb HKp272.out.lt)
                                    have HIRa277 := hid (HIRa272.out.below hb)
                                    have HIq277 := hid (HIq272.out.below hb)
                                    have HKq277 := hid (HKq272.out.below hb HKq272.out.lt)
                                    have HIr277 := hid (HIr272.out.below hb)
                                    have HKr277 := hid (HKr272.out.below hb HKr272.out.lt)
                                    have HBW277 := hid (below_to HBW272.out hb)
                                    have HIx277 := hid (HIx272.out.below hb)
                                    have HId277 := hid (HId.out.below hb)
                                    have HIy277 := hid (HIy.out.below hb)
                                    clear tKp273 tKq274 tKr275 hc2
                                    clear hb HB272 HIp272 HIw272 HKp272 HIRa272 HIq272 HKq272 HIr272 HKr272 HBW272 HIx272 HId HIy
                                    have tKp278 := HKp277.out.cell 0
                                    have tKq279 := HKq277.out.cell 0
                                    have tKr280 := HKr277.out.cell 0
                                    clear tKp278 tKq279 tKr280
                                    go_wp2
                                    go_roundw
                                    case rel => exact ⟨k + 1, by omega, by go_num, HBW277.out⟩
                                    case measure => simp [intOf] <;> omega
                                · as_aux_lemma =>
                                    have hk1 : (k : Int) > 0 := by omega
                                    clear hk0
                                    go_wp2_with fail
                                    refine (oSame_any _ _ (itP us ws kk) _ HId.out HIy.out (by rw [HL2.out]; omega)).mono ?_
                                    rintro e w281 ⟨rfl, hb⟩
                                    have HB282 := hid (below_to HB272.out hb)
                                    have HIp282 := hid (HIp272.out.below hb)
                                    have HIw282 := hid (HIw272.out.below hb)
                                    have HKp282 := hid (HKp272.out.below hb HKp272.out.lt)
                                    have HIRa282 := hid (HIRa272.out.below hb)
                                    have HIq282 := hid (HIq272.out.below hb)
                                    have HKq282 := hid (HKq272.out.below hb HKq272.out.lt)
                                    have HIr282 := hid (HIr272.out.below hb)
                                    have HKr282 := hid (HKr272.out.below hb HKr272.out.lt)
                                    have HBW282 := hid (below_to HBW272.out hb)
                                    have HIx282 := hid (HIx272.out.below hb)
                                    have HId282 := hid (HId.out.below hb)
                                    have HIy282 := hid (HIy.out.below hb)
                                    clear tKp273 tKq274 tKr275 hc2
                                    clear hb HB272 HIp272 HIw272 HKp272 HIRa272 HIq272 HKq272 HIr272 HKr272 HBW272 HIx272 HId HIy
                                    have tKp283 := HKp282.out.cell 0
                                    have tKq284 := HKq282.out.cell 0
                                    have tKr285 := HKr282.out.cell 0
                                    go_wp2_with fail
                                    refine (oSameB_any _ _ (itP us ws k) ws _ HIx282.out HIw282.out (by rw [HL1.out, HN.out]) (by rw [HL1.out]; omega)).mono ?_
                                    rintro e w286 ⟨rfl, hb⟩
                                    rw [HNe.out (by omega)]
                                    have HB287 := hid (below_to HB282.out hb)
                                    have HIp287 := hid (HIp282.out.below hb)
                                    have HIw287 := hid (HIw282.out.below hb)
                                    have HKp287 := hid (HKp282.out.below hb HKp282.out.lt)
                                    have HIRa287 := hid (HIRa282.out.below hb)
                                    have HIq287 := hid (HIq282.out.below hb)
                                    have HKq287 := hid (HKq282.out.below hb HKq282.out.lt)
                                    have HIr287 := hid (HIr282.out.below hb)
                                    have HKr287 := hid (HKr282.out.below hb HKr282.out.lt)
                                    have HBW287 := hid (below_to HBW282.out hb)
                                    have HIx287 := hid (HIx282.out.below hb)
                                    have HId287 := hid (HId282.out.below hb)
                                    have HIy287 := hid (HIy282.out.below hb)
                                    clear tKp283 tKq284 tKr285
                                    clear hb HB282 HIp282 HIw282 HKp282 HIRa282 HIq282 HKq282 HIr282 HKr282 HBW282 HIx282 HId282 HIy282
                                    have tKp288 := HKp287.out.cell 0
                                    have tKq289 := HKq287.out.cell 0
                                    have tKr290 := HKr287.out.cell 0
                                    clear tKp288 tKq289 tKr290
                                    go_wp2
                                    go_roundw
                                    case rel => exact ⟨k + 1, by omega, by go_num, HBW287.out⟩
                                    case measure => simp [intOf] <;> omega
                            · as_aux_lemma =>
                                obtain rfl : k = P := by omega
                                clear hlt hk HSt
                                have HB291 := hid (below_to HB263.out hb)
                                have HIp291 := hid (HIp263.out.below hb)
                                have HIw291 := hid (HIw263.out.below hb)
                                have HKp291 := hid (HKp263.out.below hb HKp263.out.lt)
                                have HIRa291 := hid (HIRa263.out.below hb)
                                have HIq291 := hid (HIq263.out.below hb)
                                have HKq291 := hid (HKq263.out.below hb HKq263.out.lt)
                                have HIr291 := hid (HIr263.out.below hb)
                                have HKr291 := hid (HKr263.out.below hb HKr263.out.lt)
                                clear hb HB263 HIp263 HIw263 HKp263 HIRa263 HIq263 HKq263 HIr263 HKr263
                                have tKp292 := HKp291.out.cell 0
                                have tKq293 := HKq291.out.cell 0
                                have tKr294 := HKr291.out.cell 0
                                rename World => V1
                                obtain ⟨o3, ho3⟩ : ∃ x, okPR us = x := ⟨_, rfl⟩
                                have Ho3 := hid ho3
                                clear ho3
                                obtain ⟨v3, hv3⟩ : ∃ x, ansPR us = x := ⟨_, rfl⟩
                                have Hv3 := hid hv3
                                clear hv3
                                go_wp2_with fail
                                refine (implPromotionOrder_any _ us _ HIp291.out hl).mono ?_
                                rintro e w295 ⟨rfl, hb⟩
                                rw [Hv3.out, Ho3.out]
                                have HB296 := hid (below_to HB291.out hb)
                                have HIp296 := hid (HIp291.out.below hb)
                                have HIw296 := hid (HIw291.out.below hb)
                                have HKp296 := hid (HKp291.out.below hb HKp291.out.lt)
                                have HIRa296 := hid (HIRa291.out.below hb)
                                have HIq296 := hid (HIq291.out.below hb)
                                have HKq296 := hid (HKq291.out.below hb HKq291.out.lt)
                                have HIr296 := hid (HIr291.out.below hb)
                                have HKr296 := hid (HKr291.out.below hb HKr291.out.lt)
                                clear tKp292 tKq293 tKr294
                                clear hb HB291 HIp291 HIw291 HKp291 HIRa291 HIq291 HKq291 HIr291 HKr291
                                have tKp297 := HKp296.out.cell 0
                                have tKq298 := HKq296.out.cell 0
                                have tKr299 := HKr296.out.cell 0
                                cases o3
                                · as_aux_lemma =>
                                    clear tKp297 tKq298 tKr299
                                    go_wp2
                                    go_ret
                                    exact ⟨rfl, HB296.out⟩
                                · as_aux_lemma =>
                                    obtain ⟨M3, e1, e2⟩ := HPr.out Ho3.out
                                    obtain rfl : v3 = (M3 : Int) := Hv3.out.symm.trans e1
                                    have hrm : Int.tmod (M3 : Int) (k : Int) = 0 := by rw [Int.tmod_eq_emod_of_nonneg (by omega), ← Int.natCast_emod, e2]; rfl
                                    have hem : (M3 : Int) % (k : Int) = 0 := by rw [← Int.natCast_emod, e2]; rfl
                                    have hk0 : ¬ (k : Int) = 0 := by omega
                                    have hkb : ((k : Int) == 0) = false := beq_eq_false_iff_ne.2 hk0
                                    clear e1 e2
                                    clear tKp297 tKq298 tKr299
                                    go_wp2
                                    go_ret
                                    exact ⟨rfl, HB296.out⟩
                      · as_aux_lemma =>
                          have hMi : ¬ (M : Int) ≤ 100 := by omega
                          clear g4
                          go_wp2
                          clear tKp221 tKq222 tKr223 hcn g6 g7 hMi hM
                          go_loopw [161] (fun i wr => ∃ k : Nat, k ≤ P ∧ i = .int .i64 (k : Int) ∧ Below w219.heap.size w219 wr) (fun i _ => P - (intOf i).toNat)
                          case atStart => exact ⟨0, Nat.zero_le _, rfl, Below.refl _ _⟩
                          case round =>
                            obtain ⟨k, hk, rfl, hb⟩ := hrel
                            by_cases hlt : k < P
                            · skip
                              as_aux_lemma =>
                                have HBW0 := hid (Below.refl w219.heap.size w219)
                                obtain ⟨g1, g2, g3, g4⟩ := HSt.out k hlt
                                have HO1 := hid g1
                                have HE1 := hid g2
                                have HL1 := hid g3
                                have HNe := hid g4
                                obtain ⟨kk, hkk⟩ : ∃ kk, (k + 1) % P = kk := ⟨_, rfl⟩
                                have hkp : kk < P := by rw [← hkk]; exact Nat.mod_lt _ (by omega)
                                have hrm : Int.tmod ((k : Int) + 1) (P : Int) = (kk : Int) := by rw [← hkk, Int.tmod_eq_emod_of_nonneg (by omega), Int.natCast_emod]; rfl
                                rw [hkk] at HE1
                                have HL2 := hid (HSt.out kk hkp).2.2.1
                                obtain ⟨b, o, c', x, hsh, hbl, hc, hi⟩ := rows_cell HIRa220.out (k := k) (by rw [rowsN_length]; exact hlt)
                                rw [rowsN_getD _ hlt] at hi
                                injection hsh with hsA hsB hsC
                                subst hsA
                                subst hsC
                                have ck := (hb.cell (p := ⟨b, o + k, none⟩) hbl).trans hc
                                have HIx := hid (hi.below hb)
                                obtain ⟨xA, xc, rfl, -⟩ := hi
                                rw [HL1.out] at HIx ck
                                clear g1 g2 g3 g4 hkk hsB hc HSt
                                have HB300 := hid (below_to HB220.out hb)
                                have HIp300 := hid (HIp220.out.below hb)
                                have HIw300 := hid (HIw220.out.below hb)
                                have HKp300 := hid (HKp220.out.below hb HKp220.out.lt)
                                have HIRa300 := hid (HIRa220.out.below hb)
                                have HIq300 := hid (HIq220.out.below hb)
                                have HKq300 := hid (HKq220.out.below hb HKq220.out.lt)
                                have HIr300 := hid (HIr220.out.below hb)
                                have HKr300 := hid (HKr220.out.below hb HKr220.out.lt)
                                have HBW300 := hid (below_to HBW0.out hb)
                                clear hb HB220 HIp220 HIw220 HKp220 HIRa220 HIq220 HKq220 HIr220 HKr220 HBW0
                                have tKp301 := HKp300.out.cell 0
                                have tKq302 := HKq300.out.cell 0
                                have tKr303 := HKr300.out.cell 0
                                go_wp2_with fail
                                refine (implPromoteLinear_any _ us _ (itP us ws k) 1 _ HIp300.out hl HIx.out (by rw [HL1.out]; omega) (wf_i64 _ (by omega) (by omega))).mono ?_
                                rintro e w304 ⟨ud, rfl, ho, hld, hb⟩
                                rw [HO1.out]
                                rw [HE1.out] at ho hld
                                have HId := hid ho.ints
                                obtain ⟨Ad, cd, rfl, -⟩ := ho.ints
                                rw [HL2.out] at HId hld ⊢
                                clear ho
                                have HB305 := hid (below_to HB300.out hb)
                                have HIp305 := hid (HIp300.out.below hb)
                                have HIw305 := hid (HIw300.out.below hb)
                                have HKp305 := hid (HKp300.out.below hb HKp300.out.lt)
                                have HIRa305 := hid (HIRa300.out.below hb)
                                have HIq305 := hid (HIq300.out.below hb)
                                have HKq305 := hid (HKq300.out.below hb HKq300.out.lt)
                                have HIr305 := hid (HIr300.out.below hb)
                                have HKr305 := hid (HKr300.out.below hb HKr300.out.lt)
                                have HBW305 := hid (below_to HBW300.out hb)
                                have HIx305 := hid (HIx.out.below hb)
                                clear tKp301 tKq302 tKr303 ck
                                clear hb HB300 HIp300 HIw300 HKp300 HIRa300 HIq300 HKq300 HIr300 HKr300 HBW300 HIx
                                have tKp306 := HKp305.out.cell 0
                                have tKq307 := HKq305.out.cell 0
                                have tKr308 := HKr305.out.cell 0
                                obtain ⟨b2, o2, c2, y, hsh2, hbl2, hc2, hi2⟩ := rows_cell HIRa305.out (k := kk) (by rw [rowsN_length]; exact hkp)
                                rw [rowsN_getD _ hkp] at hi2
                                injection hsh2 with hsA2 hsB2 hsC2
                                obtain ⟨rfl, rfl⟩ : b = b2 ∧ o = o2 := by simpa using hsA2
                                subst hsC2
                                have HIy := hid hi2
                                obtain ⟨yA, yc, rfl, -⟩ := hi2
                                rw [HL2.out] at HIy hc2
                                have HC2 := hid hc2
                                clear hsA2 hsB2 HO1 HE1
                                by_cases hk0 : k = 0
                                · as_aux_lemma =>
                                    have hk1 : ¬ (k : Int) > 0 := by omega
                                    clear hk0
                                    go_wp2_with fail
                                    refine (oSame_any _ _ (itP us ws kk) _ HId.out HIy.out (by rw [HL2.out]; omega)).mono ?_
                                    rintro e w309 ⟨rfl, hb⟩
                                    have HB310 := hid (below_to HB305.out hb)
                                    have HIp310 := hid (HIp305.out.below hb)
                                    have HIw310 := hid (HIw305.out.below hb)
                                    have HKp310 := hid (HKp305.out.below hb HKp305.out.lt)
                                    have HIRa310 := hid (HIRa305.out.below hb)
                                    have HIq310 := hid (HIq305.out.below hb)
                                    have HKq310 := hid (HKq305.out.below hb HKq305.out.lt)
                                    have HIr310 := hid (HIr305.out.below hb)
                                    have HKr310 := hid (HKr305.out.below hb HKr305.out.lt)
                                    have HBW310 := hid (below_to HBW305.out hb)
                                    have HIx310 := hid (HIx305.out.below hb)
                                    have HId310 := hid (HId.out.below hb)
                                    have HIy310 := hid (HIy.out.below hb)
                                    clear tKp306 tKq307 tKr308 hc2
                                    clear hb HB305 HIp305 HIw305 HKp305 HIRa305 HIq305 HKq305 HIr305 HKr305 HBW305 HIx305 HId HIy
                                    have tKp311 := HKp310.out.cell 0
                                    have tKq312 := HKq310.out.cell 0
                                    have tKr313 := HKr310.out.cell 0
                                    clear tKp311 tKq312 tKr313
                                    go_wp2
                                    go_roundw
                                    case rel => exact ⟨k + 1, by omega, by go_num, HBW310.out⟩
                                    case measure => simp [intOf] <;> omega
                                · as_aux_lemma =>
                                    have hk1 : (k : Int) > 0 := by omega
                                    clear hk0
                                    go_wp2_with fail
                                    refine (oSame_any _ _ (itP us ws kk) _ HId.out HIy.out (by rw [HL2.out]; omega)).mono ?_
                                    rintro e w314 ⟨rfl, hb⟩
                                    have HB315 := hid (below_to HB305.out hb)
                                    have HIp315 := hid (HIp305.out.below hb)
                                    have HIw315 := hid (HIw305.out.below hb)
                                    have HKp315 := hid (HKp305.out.below hb HKp305.out.lt)
                                    have HIRa315 := hid (HIRa305.out.below hb)
                                    have HIq315 := hid (HIq305.out.below hb)
                                    have HKq315 := hid (HKq305.out.below hb HKq305.out.lt)
                                    have HIr315 := hid (HIr305.out.below hb)
                                    have HKr315 := hid (HKr305.out.below hb HKr305.out.lt)
                                    have HBW315 := hid (below_to HBW305.out hb)
                                    have HIx315 := hid (HIx305.out.below hb)
                                    have HId315 := hid (HId.out.below hb)
                                    have HIy315 := hid (HIy.out.below hb)
                                    clear tKp306 tKq307 tKr308 hc2
                                    clear hb HB305 HIp305 HIw305 HKp305 HIRa305 HIq305 HKq305 HIr305 HKr305 HBW305 HIx305 HId HIy
                                    have tKp316 := HKp315.out.cell 0
                                    have tKq317 := HKq315.out.cell 0
                                    have tKr318 := HKr315.out.cell 0
                                    go_wp2_with fail
                                    refine (oSameB_any _ _ (itP us ws k) ws _ HIx315.out HIw315.out (by rw [HL1.out, HN.out]) (by rw [HL1.out]; omega)).mono ?_
                                    rintro e w319 ⟨rfl, hb⟩
                                    rw [HNe.out (by omega)]
                                    have HB320 := hid (below_to HB315.out hb)
                                    have HIp320 := hid (HIp315.out.below hb)
                                    have HIw320 := hid (HIw315.out.below hb)
                                    have HKp320 := hid (HKp315.out.below hb HKp315.out.lt)
                                    have HIRa320 := hid (HIRa315.out.below hb)
                                    have HIq320 := hid (HIq315.out.below hb)
                                    have HKq320 := hid (HKq315.out.below hb HKq315.out.lt)
                                    have HIr320 := hid (HIr315.out.below hb)
                                    have HKr320 := hid (HKr315.out.below hb HKr315.out.lt)
                                    have HBW320 := hid (below_to HBW315.out hb)
                                    have HIx320 := hid (HIx315.out.below hb)
                                    have HId320 := hid (HId315.out.below hb)
                                    have HIy320 := hid (HIy315.out.below hb)
                                    clear tKp316 tKq317 tKr318
                                    clear hb HB315 HIp315 HIw315 HKp315 HIRa315 HIq315 HKq315 HIr315 HKr315 HBW315 HIx315 HId315 HIy315
                                    have tKp321 := HKp320.out.cell 0
                                    have tKq322 := HKq320.out.cell 0
                                    have tKr323 := HKr320.out.cell 0
                                    clear tKp321 tKq322 tKr323
                                    go_wp2
                                    go_roundw
                                    case rel => exact ⟨k + 1, by omega, by go_num, HBW320.out⟩
                                    case measure => simp [intOf] <;> omega
                            · as_aux_lemma =>
                                obtain rfl : k = P := by omega
                                clear hlt hk HSt
                                have HB324 := hid (below_to HB220.out hb)
                                have HIp324 := hid (HIp220.out.below hb)
                                have HIw324 := hid (HIw220.out.below hb)
                                have HKp324 := hid (HKp220.out.below hb HKp220.out.lt)
                                have HIRa324 := hid (HIRa220.out.below hb)
                                have HIq324 := hid (HIq220.out.below hb)
                                have HKq324 := hid (HKq220.out.below hb HKq220.out.lt)
                                have HIr324 := hid (HIr220.out.below hb)
                                have HKr324 := hid (HKr220.out.below hb HKr220.out.lt)
                                clear hb HB220 HIp220 HIw220 HKp220 HIRa220 HIq220 HKq220 HIr220 HKr220
                                have tKp325 := HKp324.out.cell 0
                                have tKq326 := HKq324.out.cell 0
                                have tKr327 := HKr324.out.cell 0
                                rename World => V1
                                obtain ⟨o3, ho3⟩ : ∃ x, okPR us = x := ⟨_, rfl⟩
                                have Ho3 := hid ho3
                                clear ho3
                                obtain ⟨v3, hv3⟩ : ∃ x, ansPR us = x := ⟨_, rfl⟩
                                have Hv3 := hid hv3
                                clear hv3
                                go_wp2_with fail
                                refine (implPromotionOrder_any _ us _ HIp324.out hl).mono ?_
                                rintro e w328 ⟨rfl, hb⟩
                                rw [Hv3.out, Ho3.out]
                                have HB329 := hid (below_to HB324.out hb)
                                have HIp329 := hid (HIp324.out.below hb)
                                have HIw329 := hid (HIw324.out.below hb)
                                have HKp329 := hid (HKp324.out.below hb HKp324.out.lt)
                                have HIRa329 := hid (HIRa324.out.below hb)
                                have HIq329 := hid (HIq324.out.below hb)
                                have HKq329 := hid (HKq324.out.below hb HKq324.out.lt)
                                have HIr329 := hid (HIr324.out.below hb)
                                have HKr329 := hid (HKr324.out.below hb HKr324.out.lt)
                                clear tKp325 tKq326 tKr327
                                clear hb HB324 HIp324 HIw324 HKp324 HIRa324 HIq324 HKq324 HIr324 HKr324
                                have tKp330 := HKp329.out.cell 0
                                have tKq331 := HKq329.out.cell 0
                                have tKr332 := HKr329.out.cell 0
                                cases o3
                                · as_aux_lemma =>
                                    clear tKp330 tKq331 tKr332
                                    go_wp2
                                    go_ret
                                    exact ⟨rfl, HB329.out⟩
                                · as_aux_lemma =>
                                    obtain ⟨M3, e1, e2⟩ := HPr.out Ho3.out
                                    obtain rfl : v3 = (M3 : Int) := Hv3.out.symm.trans e1
                                    have hrm : Int.tmod (M3 : Int) (k : Int) = 0 := by rw [Int.tmod_eq_emod_of_nonneg (by omega), ← Int.natCast_emod, e2]; rfl
                                    have hem : (M3 : Int) % (k : Int) = 0 := by rw [← Int.natCast_emod, e2]; rfl
                                    have hk0 : ¬ (k : Int) = 0 := by omega
                                    have hkb : ((k : Int) == 0) = false := beq_eq_false_iff_ne.2 hk0
                                    clear e1 e2
                                    clear tKp330 tKq331 tKr332
                                    go_wp2
                                    go_ret
                                    exact ⟨rfl, HB329.out⟩
              · as_aux_lemma =>
                  have htb : ((t : Int) == 0) = false := beq_eq_false_iff_ne.2 ht0
                  obtain ⟨x9, hx9⟩ : ∃ x, ((c : Int) != (N : Int)) = x := ⟨_, rfl⟩
                  clear g4 g5 ht0
                  go_wp2_with fail
                  refine (implCountLinear_any _ zs _ HIr106.out hlr).mono ?_
                  rintro e w333 ⟨rfl, hb⟩
                  rw [HCe.out, HCg.out]
                  have HB334 := hid (below_to HB106.out hb)
                  have HIp334 := hid (HIp106.out.below hb)
                  have HIw334 := hid (HIw106.out.below hb)
                  have HKp334 := hid (HKp106.out.below hb HKp106.out.lt)
                  have HIRa334 := hid (HIRa106.out.below hb)
                  have HIq334 := hid (HIq106.out.below hb)
                  have HKq334 := hid (HKq106.out.below hb HKq106.out.lt)
                  have HIr334 := hid (HIr106.out.below hb)
                  have HKr334 := hid (HKr106.out.below hb HKr106.out.lt)
                  clear tKp107 tKq108 tKr109
                  clear hb HB106 HIp106 HIw106 HKp106 HIRa106 HIq106 HKq106 HIr106 HKr106
                  have tKp335 := HKp334.out.cell 0
                  have tKq336 := HKq334.out.cell 0
                  have tKr337 := HKr334.out.cell 0
                  clear HCe HCg
                  cases o1
                  · as_aux_lemma =>
                      go_wp2
                      clear tKp335 tKq336 tKr337 htb g6 g7 hx9
                      go_loopw [161] (fun i wr => ∃ k : Nat, k ≤ P ∧ i = .int .i64 (k : Int) ∧ Below w333.heap.size w333 wr) (fun i _ => P - (intOf i).toNat)
                      case atStart => exact ⟨0, Nat.zero_le _, rfl, Below.refl _ _⟩
                      case round =>
                        obtain ⟨k, hk, rfl, hb⟩ := hrel
                        by_cases hlt : k < P
                        · skip
                          as_aux_lemma =>
                            have HBW0 := hid (Below.refl w333.heap.size w333)
                            obtain ⟨g1, g2, g3, g4⟩ := HSt.out k hlt
                            have HO1 := hid g1
                            have HE1 := hid g2
                            have HL1 := hid g3
                            have HNe := hid g4
                            obtain ⟨kk, hkk⟩ : ∃ kk, (k + 1) % P = kk := ⟨_, rfl⟩
                            have hkp : kk < P := by rw [← hkk]; exact Nat.mod_lt _ (by omega)
                            have hrm : Int.tmod ((k : Int) + 1) (P : Int) = (kk : Int) := by rw [← hkk, Int.tmod_eq_emod_of_nonneg (by omega), Int.natCast_emod]; rfl
                            rw [hkk] at HE1
                            have HL2 := hid (HSt.out kk hkp).2.2.1
                            obtain ⟨b, o, c', x, hsh, hbl, hc, hi⟩ := rows_cell HIRa334.out (k := k) (by rw [rowsN_length]; exact hlt)
                            rw [rowsN_getD _ hlt] at hi
                            injection hsh with hsA hsB hsC
                            subst hsA
                            subst hsC
                            have ck := (hb.cell (p := ⟨b, o + k, none⟩) hbl).trans hc
                            have HIx := hid (hi.below hb)
                            obtain ⟨xA, xc, rfl, -⟩ := hi
                            rw [HL1.out] at HIx ck
                            clear g1 g2 g3 g4 hkk hsB hc HSt
                            have HB338 := hid (below_to HB334.out hb)
                            have HIp338 := hid (HIp334.out.below hb)
                            have HIw338 := hid (HIw334.out.below hb)
                            have HKp338 := hid (HKp334.out.below hb HKp334.out.lt)
                            have HIRa338 := hid (HIRa334.out.below hb)
                            have HIq338 := hid (HIq334.out.below hb)
                            have HKq338 := hid (HKq334.out.below hb HKq334.out.lt)
                            have HIr338 := hid (HIr334.out.below hb)
                            have HKr338 := hid (HKr334.out.below hb HKr334.out.lt)
                            have HBW338 := hid (below_to HBW0.out hb)
                            clear hb HB334 HIp334 HIw334 HKp334 HIRa334 HIq334 HKq334 HIr334 HKr334 HBW0
                            have tKp339 := HKp338.out.cell 0
                            have tKq340 := HKq338.out.cell 0
                            have tKr341 := HKr338.out.cell 0
                            go_wp2_with fail
                            refine (implPromoteLinear_any _ us _ (itP us ws k) 1 _ HIp338.out hl HIx.out (by rw [HL1.out]; omega) (wf_i64 _ (by omega) (by omega))).mono ?_
                            rintro e w342 ⟨ud, rfl, ho, hld, hb⟩
                            rw [HO1.out]
                            rw [HE1.out] at ho hld
                            have HId := hid ho.ints
                            obtain ⟨Ad, cd, rfl, -⟩ := ho.ints
                            rw [HL2.out] at HId hld ⊢
                            clear ho
                            have HB343 := hid (below_to HB338.out hb)
                            have HIp343 := hid (HIp338.out.below hb)
                            have HIw343 := hid (HIw338.out.below hb)
                            have HKp343 := hid (HKp338.out.below hb HKp338.out.lt)
                            have HIRa343 := hid (HIRa338.out.below hb)
                            have HIq343 := hid (HIq338.out.below hb)
                            have HKq343 := hid (HKq338.out.below hb HKq338.out.lt)
                            have HIr343 := hid (HIr338.out.below hb)
                            have HKr343 := hid (HKr338.out.below hb HKr338.out.lt)
                            have HBW343 := hid (below_to HBW338.out hb)
                            have HIx343 := hid (HIx.out.below hb)
                            clear tKp339 tKq340 tKr341 ck
                            clear hb HB338 HIp338 HIw338 HKp338 HIRa338 HIq338 HKq338 HIr338 HKr338 HBW338 HIx
                            have tKp344 := HKp343.out.cell 0
                            have tKq345 := HKq343.out.cell 0
                            have tKr346 := HKr343.out.cell 0
                            obtain ⟨b2, o2, c2, y, hsh2, hbl2, hc2, hi2⟩ := rows_cell HIRa343.out (k := kk) (by rw [rowsN_length]; exact hkp)
                            rw [rowsN_getD _ hkp] at hi2
                            injection hsh2 with hsA2 hsB2 hsC2
                            obtain ⟨rfl, rfl⟩ : b = b2 ∧ o = o2 := by simpa using hsA2
                            subst hsC2
                            have HIy := hid hi2
                            obtain ⟨yA, yc, rfl, -⟩ := hi2
                            rw [HL2.out] at HIy hc2
                            have HC2 := hid hc2
                            clear hsA2 hsB2 HO1 HE1
                            by_cases hk0 : k = 0
                            · as_aux_lemma =>
                                have hk1 : ¬ (k : Int) > 0 := by omega
                                clear hk0
                                go_wp2_with fail
                                refine (oSame_any _ _ (itP us ws kk) _ HId.out HIy.out (by rw [HL2.out]; omega)).mono ?_
                                rintro e w347 ⟨rfl, hb⟩
                                have HB348 := hid (below_to HB343.out hb)
                                have HIp348 := hid (HIp343.out.below hb)
                                have HIw348 := hid (HIw343.out.below hb)
                                have HKp348 := hid (HKp343.out.below hb HKp343.out.lt)
                                have HIRa348 := hid (HIRa343.out.below hb)
                                have HIq348 := hid (HIq343.out.below hb)
                                have HKq348 := hid (HKq343.out.below hb HKq343.out.lt)
                                have HIr348 := hid (HIr343.out.below hb)
                                have HKr348 := hid (HKr343.out.below hb HKr343.out.lt)
                                have HBW348 := hid (below_to HBW343.out hb)
                                have HIx348 := hid (HIx343.out.below hb)
                                have HId348 := hid (HId.out.below hb)
                                have HIy348 := hid (HIy.out.below hb)
                                clear tKp344 tKq345 tKr346 hc2
                                clear hb HB343 HIp343 HIw343 HKp343 HIRa343 HIq343 HKq343 HIr343 HKr343 HBW343 HIx343 HId HIy
                                have tKp349 := HKp348.out.cell 0
                                have tKq350 := HKq348.out.cell 0
                                have tKr351 := HKr348.out.cell 0
                                clear tKp349 tKq350 tKr351
                                go_wp2
                                go_roundw
                                case rel => exact ⟨k + 1, by omega, by go_num, HBW348.out⟩
                                case measure => simp [intOf] <;> omega
                            · as_aux_lemma =>
                                have hk1 : (k : Int) > 0 := by omega
                                clear hk0
                                go_wp2_with fail
                                refine (oSame_any _ _ (itP us ws kk) _ HId.out HIy.out (by rw [HL2.out]; omega)).mono ?_
                                rintro e w352 ⟨rfl, hb⟩
                                have HB353 := hid (below_to HB343.out hb)
                                have HIp353 := hid (HIp343.out.below hb)
                                have HIw353 := hid (HIw343.out.below hb)
                                have HKp353 := hid (HKp343.out.below hb HKp343.out.lt)
                                have HIRa353 := hid (HIRa343.out.below hb)
                                have HIq353 := hid (HIq343.out.below hb)
                                have HKq353 := hid (HKq343.out.below hb HKq343.out.lt)
                                have HIr353 := hid (HIr343.out.below hb)
                                have HKr353 := hid (HKr343.out.below hb HKr343.out.lt)
                                have HBW353 := hid (below_to HBW343.out hb)
                                have HIx353 := hid (HIx343.out.below hb)
                                have HId353 := hid (HId.out.below hb)
                                have HIy353 := hid (HIy.out.below hb)
                                clear tKp344 tKq345 tKr346 hc2
                                clear hb HB343 HIp343 HIw343 HKp343 HIRa343 HIq343 HKq343 HIr343 HKr343 HBW343 HIx343 HId HIy
                                have tKp354 := HKp353.out.cell 0
                                have tKq355 := HKq353.out.cell 0
                                have tKr356 := HKr353.out.cell 0
                                go_wp2_with fail
                                refine (oSameB_any _ _ (itP us ws k) ws _ HIx353.out HIw353.out (by rw [HL1.out, HN.out]) (by rw [HL1.out]; omega)).mono ?_
                                rintro e w357 ⟨rfl, hb⟩
                                rw [HNe.out (by omega)]
                                have HB358 := hid (below_to HB353.out hb)
                                have HIp358 := hid (HIp353.out.below hb)
                                have HIw358 := hid (HIw353.out.below hb)
                                have HKp358 := hid (HKp353.out.below hb HKp353.out.lt)
                                have HIRa358 := hid (HIRa353.out.below hb)
                                have HIq358 := hid (HIq353.out.below hb)
                                have HKq358 := hid (HKq353.out.below hb HKq353.out.lt)
                                have HIr358 := hid (HIr353.out.below hb)
                                have HKr358 := hid (HKr353.out.below hb HKr353.out.lt)
                                have HBW358 := hid (below_to HBW353.out hb)
                                have HIx358 := hid (HIx353.out.below hb)
                                have HId358 := hid (HId353.out.below hb)
                                have HIy358 := hid (HIy353.out.below hb)
                                clear tKp354 tKq355 tKr356
                                clear hb HB353 HIp353 HIw353 HKp353 HIRa353 HIq353 HKq353 HIr353 HKr353 HBW353 HIx353 HId353 HIy353
                                have tKp359 := HKp358.out.cell 0
                                have tKq360 := HKq358.out.cell 0
                                have tKr361 := HKr358.out.cell 0
                                clear tKp359 tKq360 tKr361
                                go_wp2
                                go_roundw
                                case rel => exact ⟨k + 1, by omega, by go_num, HBW358.out⟩
                                case measure => simp [intOf] <;> omega
                        · as_aux_lemma =>
                            obtain rfl : k = P := by omega
                            clear hlt hk HSt
                            have HB362 := hid (below_to HB334.out hb)
                            have HIp362 := hid (HIp334.out.below hb)
                            have HIw362 := hid (HIw334.out.below hb)
                            have HKp362 := hid (HKp334.out.below hb HKp334.out.lt)
                            have HIRa362 := hid (HIRa334.out.below hb)
                            have HIq362 := hid (HIq334.out.below hb)
                            have HKq362 := hid (HKq334.out.below hb HKq334.out.lt)
                            have HIr362 := hid (HIr334.out.below hb)
                            have HKr362 := hid (HKr334.out.below hb HKr334.out.lt)
                            clear hb HB334 HIp334 HIw334 HKp334 HIRa334 HIq334 HKq334 HIr334 HKr334
                            have tKp363 := HKp362.out.cell 0
                            have tKq364 := HKq362.out.cell 0
                            have tKr365 := HKr362.out.cell 0
                            rename World => V1
                            obtain ⟨o3, ho3⟩ : ∃ x, okPR us = x := ⟨_, rfl⟩
                            have Ho3 := hid ho3
                            clear ho3
                            obtain ⟨v3, hv3⟩ : ∃ x, ansPR us = x := ⟨_, rfl⟩
                            have Hv3 := hid hv3
                            clear hv3
                            go_wp2_with fail
                            refine (implPromotionOrder_any _ us _ HIp362.out hl).mono ?_
                            rintro e w366 ⟨rfl, hb⟩
                            rw [Hv3.out, Ho3.out]
                            have HB367 := hid (below_to HB362.out hb)
                            have HIp367 := hid (HIp362.out.below hb)
                            have HIw367 := hid (HIw362.out.below hb)
                            have HKp367 := hid (HKp362.out.below hb HKp362.out.lt)
                            have HIRa367 := hid (HIRa362.out.below hb)
                            have HIq367 := hid (HIq362.out.below hb)
                            have HKq367 := hid (HKq362.out.below hb HKq362.out.lt)
                            have HIr367 := hid (HIr362.out.below hb)
                            have HKr367 := hid (HKr362.out.below hb HKr362.out.lt)
                            clear tKp363 tKq364 tKr365
                            clear hb HB362 HIp362 HIw362 HKp362 HIRa362 HIq362 HKq362 HIr362 HKr362
                            have tKp368 := HKp367.out.cell 0
                            have tKq369 := HKq367.out.cell 0
                            have tKr370 := HKr367.out.cell 0
                            cases o3
                            · as_aux_lemma =>
                                clear tKp368 tKq369 tKr370
                                go_wp2
                                go_ret
                                exact ⟨rfl, HB367.out⟩
                            · as_aux_lemma =>
                                obtain ⟨M3, e1, e2⟩ := HPr.out Ho3.out
                                obtain rfl : v3 = (M3 : Int) := Hv3.out.symm.trans e1
                                have hrm : Int.tmod (M3 : Int) (k : Int) = 0 := by rw [Int.tmod_eq_emod_of_nonneg (by omega), ← Int.natCast_emod, e2]; rfl
                                have hem : (M3 : Int) % (k : Int) = 0 := by rw [← Int.natCast_emod, e2]; rfl
                                have hk0 : ¬ (k : Int) = 0 := by omega
                                have hkb : ((k : Int) == 0) = false := beq_eq_false_iff_ne.2 hk0
                                clear e1 e2
                                clear tKp368 tKq369 tKr370
                                go_wp2
                                go_ret
                                exact ⟨rfl, HB367.out⟩
                  · as_aux_lemma =>
                      obtain ⟨M, N2, g1, g2, g3, g4⟩ := prFacts Ho1.out
                      obtain rfl : v1 = (M : Int) := Hv1.out.symm.trans g2
                      have HQg := hid g1
                      have HQe := hid g3
                      clear g1 g2 g3
                      by_cases hM : M ≤ 100
                      · as_aux_lemma =>
                          have HQo := hid (g4 hM).1
                          have HQa := hid (g4 hM).2
                          have hMi : (M : Int) ≤ 100 := by omega
                          clear g4
                          go_wp2_with fail
                          refine (implCountReturned_any _ vs (M : Int) _ HIq334.out hlq (wf_i64 _ (by omega) (by omega))).mono ?_
                          rintro e w371 ⟨rfl, hb⟩
                          rw [HQa.out, HQo.out]
                          have HB372 := hid (below_to HB334.out hb)
                          have HIp372 := hid (HIp334.out.below hb)
                          have HIw372 := hid (HIw334.out.below hb)
                          have HKp372 := hid (HKp334.out.below hb HKp334.out.lt)
                          have HIRa372 := hid (HIRa334.out.below hb)
                          have HIq372 := hid (HIq334.out.below hb)
                          have HKq372 := hid (HKq334.out.below hb HKq334.out.lt)
                          have HIr372 := hid (HIr334.out.below hb)
                          have HKr372 := hid (HKr334.out.below hb HKr334.out.lt)
                          clear tKp335 tKq336 tKr337
                          clear hb HB334 HIp334 HIw334 HKp334 HIRa334 HIq334 HKq334 HIr334 HKr334
                          have tKp373 := HKp372.out.cell 0
                          have tKq374 := HKq372.out.cell 0
                          have tKr375 := HKr372.out.cell 0
                          go_wp2_with fail
                          refine (implCountLinear_any _ vs _ HIq372.out hlq).mono ?_
                          rintro e w376 ⟨rfl, hb⟩
                          rw [HQe.out, HQg.out]
                          have HB377 := hid (below_to HB372.out hb)
                          have HIp377 := hid (HIp372.out.below hb)
                          have HIw377 := hid (HIw372.out.below hb)
                          have HKp377 := hid (HKp372.out.below hb HKp372.out.lt)
                          have HIRa377 := hid (HIRa372.out.below hb)
                          have HIq377 := hid (HIq372.out.below hb)
                          have HKq377 := hid (HKq372.out.below hb HKq372.out.lt)
                          have HIr377 := hid (HIr372.out.below hb)
                          have HKr377 := hid (HKr372.out.below hb HKr372.out.lt)
                          clear tKp373 tKq374 tKr375
                          clear hb HB372 HIp372 HIw372 HKp372 HIRa372 HIq372 HKq372 HIr372 HKr372
                          have tKp378 := HKp377.out.cell 0
                          have tKq379 := HKq377.out.cell 0
                          have tKr380 := HKr377.out.cell 0
                          go_wp2
                          clear tKp378 tKq379 tKr380 htb g6 g7 hx9 hMi hM
                          go_loopw [161] (fun i wr => ∃ k : Nat, k ≤ P ∧ i = .int .i64 (k : Int) ∧ Below w376.heap.size w376 wr) (fun i _ => P - (intOf i).toNat)
                          case atStart => exact ⟨0, Nat.zero_le _, rfl, Below.refl _ _⟩
                          case round =>
                            obtain ⟨k, hk, rfl, hb⟩ := hrel
                            by_cases hlt : k < P
                            · skip
                              as_aux_lemma =>
                                have HBW0 := hid (Below.refl w376.heap.size w376)
                                obtain ⟨g1, g2, g3, g4⟩ := HSt.out k hlt
                                have HO1 := hid g1
                                have HE1 := hid g2
                                have HL1 := hid g3
                                have HNe := hid g4
                                obtain ⟨kk, hkk⟩ : ∃ kk, (k + 1) % P = kk := ⟨_, rfl⟩
                                have hkp : kk < P := by rw [← hkk]; exact Nat.mod_lt _ (by omega)
                                have hrm : Int.tmod ((k : Int) + 1) (P : Int) = (kk : Int) := by rw [← hkk, Int.tmod_eq_emod_of_nonneg (by omega), Int.natCast_emod]; rfl
                                rw [hkk] at HE1
                                have HL2 := hid (HSt.out kk hkp).2.2.1
                                obtain ⟨b, o, c', x, hsh, hbl, hc, hi⟩ := rows_cell HIRa377.out (k := k) (by rw [rowsN_length]; exact hlt)
                                rw [rowsN_getD _ hlt] at hi
                                injection hsh with hsA hsB hsC
                                subst hsA
                                subst hsC
                                have ck := (hb.cell (p := ⟨b, o + k, none⟩) hbl).trans hc
                                have HIx := hid (hi.below hb)
                                obtain ⟨xA, xc, rfl, -⟩ := hi
                                rw [HL1.out] at HIx ck
                                clear g1 g2 g3 g4 hkk hsB hc HSt
                                have HB381 := hid (below_to HB377.out hb)
                                have HIp381 := hid (HIp377.out.below hb)
                                have HIw381 := hid (HIw377.out.below hb)
                                have HKp381 := hid (HKp377.out.below hb HKp377.out.lt)
                                have HIRa381 := hid (HIRa377.out.below hb)
                                have HIq381 := hid (HIq377.out.below hb)
                                have HKq381 := hid (HKq377.out.below hb HKq377.out.lt)
                                have HIr381 := hid (HIr377.out.below hb)
                                have HKr381 := hid (HKr377.out.below hb HKr377.out.lt)
                                have HBW381 := hid (below_to HBW0.out hb)
                                clear hb HB377 HIp377 HIw377 HKp377 HIRa377 HIq377 HKq377 HIr377 HKr377 HBW0
                                have tKp382 := HKp381.out.cell 0
                                have tKq383 := HKq381.out.cell 0
                                have tKr384 := HKr381.out.cell 0
                                go_wp2_with fail
                                refine (implPromoteLinear_any _ us _ (itP us ws k) 1 _ HIp381.out hl HIx.out (by rw [HL1.out]; omega) (wf_i64 _ (by omega) (by omega))).mono ?_
                                rintro e w385 ⟨ud, rfl, ho, hld, hb⟩
                                rw [HO1.out]
                                rw [HE1.out] at ho hld
                                have HId := hid ho.ints
                                obtain ⟨Ad, cd, rfl, -⟩ := ho.ints
                                rw [HL2.out] at HId hld ⊢
                                clear ho
                                have HB386 := hid (below_to HB381.out hb)
                                have HIp386 := hid (HIp381.out.below hb)
                                have HIw386 := hid (HIw381.out.below hb)
                                have HKp386 := hid (HKp381.out.below hb HKp381.out.lt)
                                have HIRa386 := hid (HIRa381.out.below hb)
                                have HIq386 := hid (HIq381.out.below hb)
                                have HKq386 := hid (HKq381.out.below hb HKq381.out.lt)
                                have HIr386 := hid (HIr381.out.below hb)
                                have HKr386 := hid (HKr381.out.below hb HKr381.out.lt)
                                have HBW386 := hid (below_to HBW381.out hb)
                                have HIx386 := hid (HIx.out.below hb)
                                clear tKp382 tKq383 tKr384 ck
                                clear hb HB381 HIp381 HIw381 HKp381 HIRa381 HIq381 HKq381 HIr381 HKr381 HBW381 HIx
                                have tKp387 := HKp386.out.cell 0
                                have tKq388 := HKq386.out.cell 0
                                have tKr389 := HKr386.out.cell 0
                                obtain ⟨b2, o2, c2, y, hsh2, hbl2, hc2, hi2⟩ := rows_cell HIRa386.out (k := kk) (by rw [rowsN_length]; exact hkp)
                                rw [rowsN_getD _ hkp] at hi2
                                injection hsh2 with hsA2 hsB2 hsC2
                                obtain ⟨rfl, rfl⟩ : b = b2 ∧ o = o2 := by simpa using hsA2
                                subst hsC2
                                have HIy := hid hi2
                                obtain ⟨yA, yc, rfl, -⟩ := hi2
                                rw [HL2.out] at HIy hc2
                                have HC2 := hid hc2
                                clear hsA2 hsB2 HO1 HE1
                                by_cases hk0 : k = 0
                                · as_aux_lemma =>
                                    have hk1 : ¬ (k : Int) > 0 := by omega
                                    clear hk0
                                    go_wp2_with fail
                                    refine (oSame_any _ _ (itP us ws kk) _ HId.out HIy.out (by rw [HL2.out]; omega)).mono ?_
                                    rintro e w390 ⟨rfl, hb⟩
                                    have HB391 := hid (below_to HB386.out hb)
                                    have HIp391 := hid (HIp386.out.below hb)
                                    have HIw391 := hid (HIw386.out.below hb)
                                    have HKp391 := hid (HKp386.out.below hb HKp386.out.lt)
                                    have HIRa391 := hid (HIRa386.out.below hb)
                                    have HIq391 := hid (HIq386.out.below hb)
                                    have HKq391 := hid (HKq386.out.below hb HKq386.out.lt)
                                    have HIr391 := hid (HIr386.out.below hb)
                                    have HKr391 := hid (HKr386.out.below hb HKr386.out.lt)
                                    have HBW391 := hid (below_to HBW386.out hb)
                                    have HIx391 := hid (HIx386.out.below hb)
                                    have HId391 := hid (HId.out.below hb)
                                    have HIy391 := hid (HIy.out.below hb)
                                    clear tKp387 tKq388 tKr389 hc2
                                    clear hb HB386 HIp386 HIw386 HKp386 HIRa386 HIq386 HKq386 HIr386 HKr386 HBW386 HIx386 HId HIy
                                    have tKp392 := HKp391.out.cell 0
                                    have tKq393 := HKq391.out.cell 0
                                    have tKr394 := HKr391.out.cell 0
                                    clear tKp392 tKq393 tKr394
                                    go_wp2
                                    go_roundw
                                    case rel => exact ⟨k + 1, by omega, by go_num, HBW391.out⟩
                                    case measure => simp [intOf] <;> omega
                                · as_aux_lemma =>
                                    have hk1 : (k : Int) > 0 := by omega
                                    clear hk0
                                    go_wp2_with fail
                                    refine (oSame_any _ _ (itP us ws kk) _ HId.out HIy.out (by rw [HL2.out]; omega)).mono ?_
                                    rintro e w395 ⟨rfl, hb⟩
                                    have HB396 := hid (below_to HB386.out hb)
                                    have HIp396 := hid (HIp386.out.below hb)
                                    have HIw396 := hid (HIw386.out.below hb)
                                    have HKp396 := hid (HKp386.out.below hb HKp386.out.lt)
                                    have HIRa396 := hid (HIRa386.out.below hb)
                                    have HIq396 := hid (HIq386.out.below hb)
                                    have HKq396 := hid (HKq386.out.below hb HKq386.out.lt)
                                    have HIr396 := hid (HIr386.out.below hb)
                                    have HKr396 := hid (HKr386.out.below hb HKr386.out.lt)
                                    have HBW396 := hid (below_to HBW386.out hb)
                                    have HIx396 := hid (HIx386.out.below hb)
                                    have HId396 := hid (HId.out.below hb)
                                    have HIy396 := hid (HIy.out.below hb)
                                    clear tKp387 tKq388 tKr389 hc2
                                    clear hb HB386 HIp386 HIw386 HKp386 HIRa386 HIq386 HKq386 HIr386 HKr386 HBW386 HIx386 HId HIy
                                    have tKp397 := HKp396.out.cell 0
                                    have tKq398 := HKq396.out.cell 0
                                    have tKr399 := HKr396.out.cell 0
                                    go_wp2_with fail
                                    refine (oSameB_any _ _ (itP us ws k) ws _ HIx396.out HIw396.out (by rw [HL1.out, HN.out]) (by rw [HL1.out]; omega)).mono ?_
                                    rintro e w400 ⟨rfl, hb⟩
                                    rw [HNe.out (by omega)]
                                    have HB401 := hid (below_to HB396.out hb)
                                    have HIp401 := hid (HIp396.out.below hb)
                                    have HIw401 := hid (HIw396.out.below hb)
                                    have HKp401 := hid (HKp396.out.below hb HKp396.out.lt)
                                    have HIRa401 := hid (HIRa396.out.below hb)
                                    have HIq401 := hid (HIq396.out.below hb)
                                    have HKq401 := hid (HKq396.out.below hb HKq396.out.lt)
                                    have HIr401 := hid (HIr396.out.below hb)
                                    have HKr401 := hid (HKr396.out.below hb HKr396.out.lt)
                                    have HBW401 := hid (below_to HBW396.out hb)
                                    have HIx401 := hid (HIx396.out.below hb)
                                    have HId401 := hid (HId396.out.below hb)
                                    have HIy401 := hid (HIy396.out.below hb)
                                    clear tKp397 tKq398 tKr399
                                    clear hb HB396 HIp396 HIw396 HKp396 HIRa396 HIq396 HKq396 HIr396 HKr396 HBW396 HIx396 HId396 HIy396
                                    have tKp402 := HKp401.out.cell 0
                                    have tKq403 := HKq401.out.cell 0
                                    have tKr404 := HKr401.out.cell 0
                                    clear tKp402 tKq403 tKr404
                                    go_wp2
                                    go_roundw
                                    case rel => exact ⟨k + 1, by omega, by go_num, HBW401.out⟩
                                    case measure => simp [intOf] <;> omega
                            · as_aux_lemma =>
                                obtain rfl : k = P := by omega
                                clear hlt hk HSt
                                have HB405 := hid (below_to HB377.out hb)
                                have HIp405 := hid (HIp377.out.below hb)
                                have HIw405 := hid (HIw377.out.below hb)
                                have HKp405 := hid (HKp377.out.below hb HKp377.out.lt)
                                have HIRa405 := hid (HIRa377.out.below hb)
                                have HIq405 := hid (HIq377.out.below hb)
                                have HKq405 := hid (HKq377.out.below hb HKq377.out.lt)
                                have HIr405 := hid (HIr377.out.below hb)
                                have HKr405 := hid (HKr377.out.below hb HKr377.out.lt)
                                clear hb HB377 HIp377 HIw377 HKp377 HIRa377 HIq377 HKq377 HIr377 HKr377
                                have tKp406 := HKp405.out.cell 0
                                have tKq407 := HKq405.out.cell 0
                                have tKr408 := HKr405.out.cell 0
                                rename World => V1
                                obtain ⟨o3, ho3⟩ : ∃ x, okPR us = x := ⟨_, rfl⟩
                                have Ho3 := hid ho3
                                clear ho3
                                obtain ⟨v3, hv3⟩ : ∃ x, ansPR us = x := ⟨_, rfl⟩
                                have Hv3 := hid hv3
                                clear hv3
                                go_wp2_with fail
                                refine (implPromotionOrder_any _ us _ HIp405.out hl).mono ?_
                                rintro e w409 ⟨rfl, hb⟩
                                rw [Hv3.out, Ho3.out]
                                have HB410 := hid (below_to HB405.out hb)
                                have HIp410 := hid (HIp405.out.below hb)
                                have HIw410 := hid (HIw405.out.below hb)
                                have HKp410 := hid (HKp405.out.below hb HKp405.out.lt)
                                have HIRa410 := hid (HIRa405.out.below hb)
                                have HIq410 := hid (HIq405.out.below hb)
                                have HKq410 := hid (HKq405.out.below hb HKq405.out.lt)
                                have HIr410 := hid (HIr405.out.below hb)
                                have HKr410 := hid (HKr405.out.below hb HKr405.out.lt)
                                clear tKp406 tKq407 tKr408
                                clear hb HB405 HIp405 HIw405 HKp405 HIRa405 HIq405 HKq405 HIr405 HKr405
                                have tKp411 := HKp410.out.cell 0
                                have tKq412 := HKq410.out.cell 0
                                have tKr413 := HKr410.out.cell 0
                                cases o3
                                · as_aux_lemma =>
                                    clear tKp411 tKq412 tKr413
                                    go_wp2
                                    go_ret
                                    exact ⟨rfl, HB410.out⟩
                                · as_aux_lemma =>
                                    obtain ⟨M3, e1, e2⟩ := HPr.out Ho3.out
                                    obtain rfl : v3 = (M3 : Int) := Hv3.out.symm.trans e1
                                    have hrm : Int.tmod (M3 : Int) (k : Int) = 0 := by rw [Int.tmod_eq_emod_of_nonneg (by omega), ← Int.natCast_emod, e2]; rfl
                                    have hem : (M3 : Int) % (k : Int) = 0 := by rw [← Int.natCast_emod, e2]; rfl
                                    have hk0 : ¬ (k : Int) = 0 := by omega
                                    have hkb : ((k : Int) == 0) = false := beq_eq_false_iff_ne.2 hk0
                                    clear e1 e2
                                    clear tKp411 tKq412 tKr413
                                    go_wp2
                                    go_ret
                                    exact ⟨rfl, HB410.out⟩
                      · as_aux_lemma =>
                          have hMi : ¬ (M : Int) ≤ 100 := by omega
                          clear g4
                          go_wp2
                          clear tKp335 tKq336 tKr337 htb g6 g7 hx9 hMi hM
                          go_loopw [161] (fun i wr => ∃ k : Nat, k ≤ P ∧ i = .int .i64 (k : Int) ∧ Below w333.heap.size w333 wr) (fun i _ => P - (intOf i).toNat)
                          case atStart => exact ⟨0, Nat.zero_le _, rfl, Below.refl _ _⟩
                          case round =>
                            obtain ⟨k, hk, rfl, hb⟩ := hrel
                            by_cases hlt : k < P
                            · skip
                              as_aux_lemma =>
                                have HBW0 := hid (Below.refl w333.heap.size w333)
                                obtain ⟨g1, g2, g3, g4⟩ := HSt.out k hlt
                                have HO1 := hid g1
                                have HE1 := hid g2
                                have HL1 := hid g3
                                have HNe := hid g4
                                obtain ⟨kk, hkk⟩ : ∃ kk, (k + 1) % P = kk := ⟨_, rfl⟩
                                have hkp : kk < P := by rw [← hkk]; exact Nat.mod_lt _ (by omega)
                                have hrm : Int.tmod ((k : Int) + 1) (P : Int) = (kk : Int) := by rw [← hkk, Int.tmod_eq_emod_of_nonneg (by omega), Int.natCast_emod]; rfl
                                rw [hkk] at HE1
                                have HL2 := hid (HSt.out kk hkp).2.2.1
                                obtain ⟨b, o, c', x, hsh, hbl, hc, hi⟩ := rows_cell HIRa334.out (k := k) (by rw [rowsN_length]; exact hlt)
                                rw [rowsN_getD _ hlt] at hi
                                injection hsh with hsA hsB hsC
                                subst hsA
                                subst hsC
                                have ck := (hb.cell (p := ⟨b, o + k, none⟩) hbl).trans hc
                                have HIx := hid (hi.below hb)
                                obtain ⟨xA, xc, rfl, -⟩ := hi
                                rw [HL1.out] at HIx ck
                                clear g1 g2 g3 g4 hkk hsB hc HSt
                                have HB414 := hid (below_to HB334.out hb)
                                have HIp414 := hid (HIp334.out.below hb)
                                have HIw414 := hid (HIw334.out.below hb)
                                have HKp414 := hid (HKp334.out.below hb HKp334.out.lt)
                                have HIRa414 := hid (HIRa334.out.below hb)
                                have HIq414 := hid (HIq334.out.below hb)
                                have HKq414 := hid (HKq334.out.below hb HKq334.out.lt)
                                have HIr414 := hid (HIr334.out.below hb)
                                have HKr414 := hid (HKr334.out.below hb HKr334.out.lt)
                                have HBW414 := hid (below_to HBW0.out hb)
                                clear hb HB334 HIp334 HIw334 HKp334 HIRa334 HIq334 HKq334 HIr334 HKr334 HBW0
                                have tKp415 := HKp414.out.cell 0
                                have tKq416 := HKq414.out.cell 0
                                have tKr417 := HKr414.out.cell 0
                                go_wp2_with fail
                                refine (implPromoteLinear_any _ us _ (itP us ws k) 1 _ HIp414.out hl HIx.out (by rw [HL1.out]; omega) (wf_i64 _ (by omega) (by omega))).mono ?_
                                rintro e w418 ⟨ud, rfl, ho, hld, hb⟩
                                rw [HO1.out]
                                rw [HE1.out] at ho hld
                                have HId := hid ho.ints
                                obtain ⟨Ad, cd, rfl, -⟩ := ho.ints
                                rw [HL2.out] at HId hld ⊢
                                clear ho
                                have HB419 := hid (below_to HB414.out hb)
                                have HIp419 := hid (HIp414.out.below hb)
                                have HIw419 := hid (HIw414.out.below hb)
                                have HKp419 := hid (HKp414.out.below hb HKp414.out.lt)
                                have HIRa419 := hid (HIRa414.out.below hb)
                                have HIq419 := hid (HIq414.out.below hb)
                                have HKq419 := hid (HKq414.out.below hb HKq414.out.lt)
                                have HIr419 := hid (HIr414.out.below hb)
                                have HKr419 := hid (HKr414.out.below hb HKr414.out.lt)
                                have HBW419 := hid (below_to HBW414.out hb)
                                have HIx419 := hid (HIx.out.below hb)
                                clear tKp415 tKq416 tKr417 ck
                                clear hb HB414 HIp414 HIw414 HKp414 HIRa414 HIq414 HKq414 HIr414 HKr414 HBW414 HIx
                                have tKp420 := HKp419.out.cell 0
                                have tKq421 := HKq419.out.cell 0
                                have tKr422 := HKr419.out.cell 0
                                obtain ⟨b2, o2, c2, y, hsh2, hbl2, hc2, hi2⟩ := rows_cell HIRa419.out (k := kk) (by rw [rowsN_length]; exact hkp)
                                rw [rowsN_getD _ hkp] at hi2
                                injection hsh2 with hsA2 hsB2 hsC2
                                obtain ⟨rfl, rfl⟩ : b = b2 ∧ o = o2 := by simpa using hsA2
                                subst hsC2
                                have HIy := hid hi2
                                obtain ⟨yA, yc, rfl, -⟩ := hi2
                                rw [HL2.out] at HIy hc2
                                have HC2 := hid hc2
                                clear hsA2 hsB2 HO1 HE1
                                by_cases hk0 : k = 0
                                · as_aux_lemma =>
                                    have hk1 : ¬ (k : Int) > 0 := by omega
                                    clear hk0
                                    go_wp2_with fail
                                    refine (oSame_any _ _ (itP us ws kk) _ HId.out HIy.out (by rw [HL2.out]; omega)).mono ?_
                                    rintro e w423 ⟨rfl, hb⟩
                                    have HB424 := hid (below_to HB419.out hb)
                                    have HIp424 := hid (HIp419.out.below hb)
                                    have HIw424 := hid (HIw419.out.below hb)
                                    have HKp424 := hid (HKp419.out.below hb HKp419.out.lt)
                                    have HIRa424 := hid (HIRa419.out.below hb)
                                    have HIq424 := hid (HIq419.out.below hb)
                                    have HKq424 := hid (HKq419.out.below hb HKq419.out.lt)
                                    have HIr424 := hid (HIr419.out.below hb)
                                    have HKr424 := hid (HKr419.out.below hb HKr419.out.lt)
                                    have HBW424 := hid (below_to HBW419.out hb)
                                    have HIx424 := hid (HIx419.out.below hb)
                                    have HId424 := hid (HId.out.below hb)
                                    have HIy424 := hid (HIy.out.below hb)
                                    clear tKp420 tKq421 tKr422 hc2
                                    clear hb HB419 HIp419 HIw419 HKp419 HIRa419 HIq419 HKq419 HIr419 HKr419 HBW419 HIx419 HId HIy
                                    have tKp425 := HKp424.out.cell 0
                                    have tKq426 := HKq424.out.cell 0
                                    have tKr427 := HKr424.out.cell 0
                                    clear tKp425 tKq426 tKr427
                                    go_wp2
                                    go_roundw
                                    case rel => exact ⟨k + 1, by omega, by go_num, HBW424.out⟩
                                    case measure => simp [intOf] <;> omega
                                · as_aux_lemma =>
                                    have hk1 : (k : Int) > 0 := by omega
                                    clear hk0
                                    go_wp2_with fail
                                    refine (oSame_any _ _ (itP us ws kk) _ HId.out HIy.out (by rw [HL2.out]; omega)).mono ?_
                                    rintro e w428 ⟨rfl, hb⟩
                                    have HB429 := hid (below_to HB419.out hb)
                                    have HIp429 := hid (HIp419.out.below hb)
                                    have HIw429 := hid (HIw419.out.below hb)
                                    have HKp429 := hid (HKp419.out.below hb HKp419.out.lt)
                                    have HIRa429 := hid (HIRa419.out.below hb)
                                    have HIq429 := hid (HIq419.out.below hb)
                                    have HKq429 := hid (HKq419.out.below hb HKq419.out.lt)
                                    have HIr429 := hid (HIr419.out.below hb)
                                    have HKr429 := hid (HKr419.out.below hb HKr419.out.lt)
                                    have HBW429 := hid (below_to HBW419.out hb)
                                    have HIx429 := hid (HIx419.out.below hb)
                                    have HId429 := hid (HId.out.below hb)
                                    have HIy429 := hid (HIy.out.below hb)
                                    clear tKp420 tKq421 tKr422 hc2
                                    clear hb HB419 HIp419 HIw419 HKp419 HIRa419 HIq419 HKq419 HIr419 HKr419 HBW419 HIx419 HId HIy
                                    have tKp430 := HKp429.out.cell 0
                                    have tKq431 := HKq429.out.cell 0
                                    have tKr432 := HKr429.out.cell 0
                                    go_wp2_with fail
                                    refine (oSameB_any _ _ (itP us ws k) ws _ HIx429.out HIw429.out (by rw [HL1.out, HN.out]) (by rw [HL1.out]; omega)).mono ?_
                                    rintro e w433 ⟨rfl, hb⟩
                                    rw [HNe.out (by omega)]
                                    have HB434 := hid (below_to HB429.out hb)
                                    have HIp434 := hid (HIp429.out.below hb)
                                    have HIw434 := hid (HIw429.out.below hb)
                                    have HKp434 := hid (HKp429.out.below hb HKp429.out.lt)
                                    have HIRa434 := hid (HIRa429.out.below hb)
                                    have HIq434 := hid (HIq429.out.below hb)
                                    have HKq434 := hid (HKq429.out.below hb HKq429.out.lt)
                                    have HIr434 := hid (HIr429.out.below hb)
                                    have HKr434 := hid (HKr429.out.below hb HKr429.out.lt)
                                    have HBW434 := hid (below_to HBW429.out hb)
                                    have HIx434 := hid (HIx429.out.below hb)
                                    have HId434 := hid (HId429.out.below hb)
                                    have HIy434 := hid (HIy429.out.below hb)
                                    clear tKp430 tKq431 tKr432
                                    clear hb HB429 HIp429 HIw429 HKp429 HIRa429 HIq429 HKq429 HIr429 HKr429 HBW429 HIx429 HId429 HIy429
                                    have tKp435 := HKp434.out.cell 0
                                    have tKq436 := HKq434.out.cell 0
                                    have tKr437 := HKr434.out.cell 0
                                    clear tKp435 tKq436 tKr437
                                    go_wp2
                                    go_roundw
                                    case rel => exact ⟨k + 1, by omega, by go_num, HBW434.out⟩
                                    case measure => simp [intOf] <;> omega
                            · as_aux_lemma =>
                                obtain rfl : k = P := by omega
                                clear hlt hk HSt
                                have HB438 := hid (below_to HB334.out hb)
                                have HIp438 := hid (HIp334.out.below hb)
                                have HIw438 := hid (HIw334.out.below hb)
                                have HKp438 := hid (HKp334.out.below hb HKp334.out.lt)
                                have HIRa438 := hid (HIRa334.out.below hb)
                                have HIq438 := hid (HIq334.out.below hb)
                                have HKq438 := hid (HKq334.out.below hb HKq334.out.lt)
                                have HIr438 := hid (HIr334.out.below hb)
                                have HKr438 := hid (HKr334.out.below hb HKr334.out.lt)
                                clear hb HB334 HIp334 HIw334 HKp334 HIRa334 HIq334 HKq334 HIr334 HKr334
                                have tKp439 := HKp438.out.cell 0
                                have tKq440 := HKq438.out.cell 0
                                have tKr441 := HKr438.out.cell 0
                                rename World => V1
                                obtain ⟨o3, ho3⟩ : ∃ x, okPR us = x := ⟨_, rfl⟩
                                have Ho3 := hid ho3
                                clear ho3
                                obtain ⟨v3, hv3⟩ : ∃ x, ansPR us = x := ⟨_, rfl⟩
                                have Hv3 := hid hv3
                                clear hv3
                                go_wp2_with fail
                                refine (implPromotionOrder_any _ us _ HIp438.out hl).mono ?_
                                rintro e w442 ⟨rfl, hb⟩
                                rw [Hv3.out, Ho3.out]
                                have HB443 := hid (below_to HB438.out hb)
                                have HIp443 := hid (HIp438.out.below hb)
                                have HIw443 := hid (HIw438.out.below hb)
                                have HKp443 := hid (HKp438.out.below hb HKp438.out.lt)
                                have HIRa443 := hid (HIRa438.out.below hb)
                                have HIq443 := hid (HIq438.out.below hb)
                                have HKq443 := hid (HKq438.out.below hb HKq438.out.lt)
                                have HIr443 := hid (HIr438.out.below hb)
                                have HKr443 := hid (HKr438.out.below hb HKr438.out.lt)
                                clear tKp439 tKq440 tKr441
                                clear hb HB438 HIp438 HIw438 HKp438 HIRa438 HIq438 HKq438 HIr438 HKr438
                                have tKp444 := HKp443.out.cell 0
                                have tKq445 := HKq443.out.cell 0
                                have tKr446 := HKr443.out.cell 0
                                cases o3
                                · as_aux_lemma =>
                                    clear tKp444 tKq445 tKr446
                                    go_wp2
                                    go_ret
                                    exact ⟨rfl, HB443.out⟩
                                · as_aux_lemma =>
                                    obtain ⟨M3, e1, e2⟩ := HPr.out Ho3.out
                                    obtain rfl : v3 = (M3 : Int) := Hv3.out.symm.trans e1
                                    have hrm : Int.tmod (M3 : Int) (k : Int) = 0 := by rw [Int.tmod_eq_emod_of_nonneg (by omega), ← Int.natCast_emod, e2]; rfl
                                    have hem : (M3 : Int) % (k : Int) = 0 := by rw [← Int.natCast_emod, e2]; rfl
                                    have hk0 : ¬ (k : Int) = 0 := by omega
                                    have hkb : ((k : Int) == 0) = false := beq_eq_false_iff_ne.2 hk0
                                    clear e1 e2
                                    clear tKp444 tKq445 tKr446
                                    go_wp2
                                    go_ret
                                    exact ⟨rfl, HB443.out⟩
end Go.Proofs.Ytpdoheagfjeefaa.lawPromotionOrbits
