/- Texts PromotionTogglesLaw, one behind the other. -/
import Derived.BigQuiet
import Derived.Test.YtpdoheagfjeefaaPkPromotionTogglesProof08
import Derived.Test.YtpdoheagfjeefaaPkPromotionTogglesProof12
import Derived.Test.YtpdoheagfjeefaaPkPromotionTogglesProof13
import Derived.Test.YtpdoheagfjeefaaPkPromotionTogglesProof20
import Derived.Test.YtpdoheagfjeefaaPkPromotionTogglesProof21
import Derived.Test.YtpdoheagfjeefaaPkPromotionTogglesProof25
/- PromotionToggles: the walk of the law (made by tools/genpt.py). -/
namespace Go.Proofs.Ytpdoheagfjeefaa
open Go.RowKit Go.WideShapes Go.ChangeShapes
set_option linter.unusedVariables false
theorem bytes_at {w W : World} {v : Value} {bs : List Int} (h : BytesB w w.heap.size v bs) (hb : Below w.heap.size w W) : BytesB W W.heap.size v bs := (h.below hb).up hb.size
theorem ints_cell {w : World} {b o n c : Nat} {L : List Int} (h : Ints w (.slice (some ⟨b, o, none⟩) n c) L) {j : Nat} (hj : j < L.length) : w.cell? ⟨b, o + j, none⟩ = some (.int .i64 (L.getD j 0)) := by
  obtain ⟨A, c2, e, hA⟩ := h
  injection e with e1 e2 e3
  subst e1
  obtain ⟨b2, o2, e4, -, hc⟩ := hA (by intro h; simp [h] at hj)
  cases e4
  exact hc j hj
theorem ints_addr {w : World} {A : Option Addr} {n c : Nat} {L : List Int} (h : Ints w (.slice A n c) L) (h0 : L ≠ []) : ∃ b o, A = some ⟨b, o, none⟩ := by
  obtain ⟨A2, c2, e, hA⟩ := h
  injection e with e1 e2 e3
  obtain ⟨b, o, e4, -, -⟩ := hA h0
  exact ⟨b, o, by rw [e1, e4]⟩
end Go.Proofs.Ytpdoheagfjeefaa
namespace Go.Proofs.Ytpdoheagfjeefaa.lawPromotionToggles
open Go.RowKit Go.WideShapes Go.ChangeShapes
set_option linter.unusedVariables false
set_option maxRecDepth 100000 in
set_option maxHeartbeats 60000000 in
theorem walk (v0 : Value) (xs0 : List Int) (v1 : Value) (xs1 : List Int) (w : World) (hb0 : BytesB w w.heap.size v0 xs0) (hl0 : xs0.length ≤ maxLen) (hb1 : BytesB w w.heap.size v1 xs1) (hl1 : xs1.length ≤ maxLen) :
    Calls Try.prog 5 #[v0, v1] w fun (r : Ending) w' => r = .returned (.bool true) ∧ Below w.heap.size w w' := by
  have HY0 := hid hb0
  have HY1 := hid hb1
  obtain ⟨A0, c0, rfl, -⟩ := hb0
  obtain ⟨A1, c1, rfl, -⟩ := hb1
  have HL0 := hid hl0
  have HL1 := hid hl1
  unfold maxLen at hl0 hl1
  go_enter Try.func5, Try.ntmps5
  by_cases hbig : 1048576 < xs0.length + xs1.length
  · go_wp2_with fail
    refine (big_any _ _ xs0 xs1 _ HY0.out HY1.out HL0.out HL1.out).mono ?_
    rintro e w1 ⟨rfl, rfl⟩
    rw [decide_eq_true hbig]
    go_wp2
    go_ret
    exact ⟨rfl, Below.refl _ _⟩
  · go_wp2_with fail
    refine (big_any _ _ xs0 xs1 _ HY0.out HY1.out HL0.out HL1.out).mono ?_
    rintro e w1 ⟨rfl, rfl⟩
    rw [decide_eq_false hbig]
    have HS := hid (show xs0.length ≤ 1048576 ∧ xs1.length ≤ 1048576 by omega)
    clear hbig hl0 hl1
    have HB0 : Hid (Below w.heap.size w w) := hid (Below.refl _ _)
    go_wp2_with fail
    refine (drawToggleLinear_any _ xs0 _ (bytes_at HY0.out HB0.out) HS.out.1).mono ?_
    rintro e w1 ⟨u, us, q, ws, t, rfl, ho, hl21, hoq, hm22, ht, hb⟩
    have hl : us.length ≤ 1048576 := by omega
    have HBn := hid (below_to HB0.out hb)
    have HIp := hid ho.ints
    have HIw := hid hoq.ints
    obtain ⟨pA, pc, rfl, -⟩ := ho.ints
    obtain ⟨wA, wc, rfl, -⟩ := hoq.ints
    obtain ⟨n, hn⟩ : ∃ n, ws.length = n := ⟨_, rfl⟩
    have HN := hid hn
    have Hm := hid (show ws.length ≤ 1048576 by omega)
    rw [hn] at HIw hm22 ⊢
    clear ho hoq hb hn HB0
    have HB := HBn
    clear HBn
    have HWt := hid (wf_i64 t (by omega) (by omega))
    have HWm := hid (wf_i64 (-t) (by omega) (by omega))
    obtain ⟨B5, hB5⟩ : ∃ B5, w1.heap.size = B5 := ⟨_, rfl⟩
    go_wp2_with fail
    have HB2 := hid (below_alloc HB.out (.cells #[.slice pA us.length pc] 26))
    have HIp2 := hid (HIp.out.alloc (.cells #[.slice pA us.length pc] 26))
    have HIw2 := hid (HIw.out.alloc (.cells #[.slice pA us.length pc] 26))
    have HKp2 : Hid (Blk (w1.alloc (.cells #[.slice pA us.length pc] 26)) B5 26 #[.slice pA us.length pc]) := hid (by rw [← hB5]; exact Blk.new w1 _ _)
    clear hB5 HB HIp HIw
    have tKp3 := HKp2.out.cell 0
    cases hok : okTL us ws t
    · as_aux_lemma =>
        have HE := hid (ansTL_no hok)
        have HO := hid hok
        clear hok
        go_wp2_with fail
        refine (implToggleLinear_any _ us _ ws t _ HIp2.out hl HIw2.out Hm.out HWt.out).mono ?_
        rintro e w4 ⟨ua, rfl, ho, hla, hb⟩
        rw [HO.out]
        rw [HE.out] at ho hla
        have HIa := hid ho.ints
        obtain ⟨Aa, ca, rfl, -⟩ := ho.ints
        have HChl := hid hla
        obtain ⟨na, hna⟩ : ∃ n, (([] : List Int)).length = n := ⟨_, rfl⟩
        have HNa := hid hna
        rw [hna] at HIa hla ⊢
        clear ho hna
        have HB5 := hid (below_to HB2.out hb)
        have HIp5 := hid (HIp2.out.below hb)
        have HIw5 := hid (HIw2.out.below hb)
        have HKp5 := hid (HKp2.out.below hb HKp2.out.lt)
        clear tKp3
        clear hb HB2 HIp2 HIw2 HKp2
        have tKp6 := HKp5.out.cell 0
        go_wp2_with fail
        refine (specToggleLinear_any _ us _ ws t _ HIp5.out hl HIw5.out Hm.out HWt.out).mono ?_
        rintro e w7 ⟨ub, rfl, ho, hlb, hb⟩
        rw [HO.out]
        rw [HE.out] at ho hlb
        have HIb := hid ho.ints
        obtain ⟨Ab, cb, rfl, -⟩ := ho.ints
        obtain ⟨nb, hnb⟩ : ∃ n, (([] : List Int)).length = n := ⟨_, rfl⟩
        rw [hnb] at HIb hlb ⊢
        clear ho hnb
        have HB8 := hid (below_to HB5.out hb)
        have HIp8 := hid (HIp5.out.below hb)
        have HIw8 := hid (HIw5.out.below hb)
        have HKp8 := hid (HKp5.out.below hb HKp5.out.lt)
        have HIa8 := hid (HIa.out.below hb)
        clear tKp6
        clear hb HB5 HIp5 HIw5 HKp5 HIa
        have tKp9 := HKp8.out.cell 0
        go_wp2_with fail
        refine (oSame_any _ _ ([] : List Int) _ HIa8.out HIb.out (by simp)).mono ?_
        rintro e w10 ⟨rfl, hb⟩
        have HB11 := hid (below_to HB8.out hb)
        have HIp11 := hid (HIp8.out.below hb)
        have HIw11 := hid (HIw8.out.below hb)
        have HKp11 := hid (HKp8.out.below hb HKp8.out.lt)
        have HIa11 := hid (HIa8.out.below hb)
        have HIb11 := hid (HIb.out.below hb)
        clear tKp9
        clear hb HB8 HIp8 HIw8 HKp8 HIa8 HIb
        have tKp12 := HKp11.out.cell 0
        clear HO HE Hm HN HWt HWm hl hl21 hm22 ht hla hlb tKp12 HIp11 HIw11 HKp11 HIa11 HIb11
        as_aux_lemma =>
          go_wp2_with fail
          refine (drawPromoteLinear_any _ xs1 _ (bytes_at HY1.out HB11.out) HS.out.2).mono ?_
          rintro e w13 ⟨u, us, q, ws, t, rfl, ho, hl21, hoq, hm22, ht, hb⟩
          have hl : us.length ≤ 1048576 := by omega
          have HBn := hid (below_to HB11.out hb)
          have HIp := hid ho.ints
          have HIw := hid hoq.ints
          obtain ⟨pA, pc, rfl, -⟩ := ho.ints
          obtain ⟨wA, wc, rfl, -⟩ := hoq.ints
          obtain ⟨n, hn⟩ : ∃ n, ws.length = n := ⟨_, rfl⟩
          have HN := hid hn
          have Hm := hid (show ws.length ≤ 1048576 by omega)
          rw [hn] at HIw hm22 ⊢
          clear ho hoq hb hn HB11
          have HB := HBn
          clear HBn
          have HWt := hid (wf_i64 t (by omega) (by omega))
          have HWm := hid (wf_i64 (-t) (by omega) (by omega))
          obtain ⟨B6, hB6⟩ : ∃ B6, w13.heap.size = B6 := ⟨_, rfl⟩
          go_wp2_with fail
          have HB14 := hid (below_alloc HB.out (.cells #[.slice pA us.length pc] 26))
          have HIp14 := hid (HIp.out.alloc (.cells #[.slice pA us.length pc] 26))
          have HIw14 := hid (HIw.out.alloc (.cells #[.slice pA us.length pc] 26))
          have HKp14 : Hid (Blk (w13.alloc (.cells #[.slice pA us.length pc] 26)) B6 26 #[.slice pA us.length pc]) := hid (by rw [← hB6]; exact Blk.new w13 _ _)
          clear hB6 HB HIp HIw
          have tKp15 := HKp14.out.cell 0
          cases hok : okPL us ws t
          · as_aux_lemma =>
              have HE := hid (ansPL_no hok)
              have HO := hid hok
              clear hok
              go_wp2_with fail
              refine (implPromoteLinear_any _ us _ ws t _ HIp14.out hl HIw14.out Hm.out HWt.out).mono ?_
              rintro e w16 ⟨ua, rfl, ho, hla, hb⟩
              rw [HO.out]
              rw [HE.out] at ho hla
              have HIa := hid ho.ints
              obtain ⟨Aa, ca, rfl, -⟩ := ho.ints
              have HChl := hid hla
              obtain ⟨na, hna⟩ : ∃ n, (([] : List Int)).length = n := ⟨_, rfl⟩
              have HNa := hid hna
              rw [hna] at HIa hla ⊢
              clear ho hna
              have HB17 := hid (below_to HB14.out hb)
              have HIp17 := hid (HIp14.out.below hb)
              have HIw17 := hid (HIw14.out.below hb)
              have HKp17 := hid (HKp14.out.below hb HKp14.out.lt)
              clear tKp15
              clear hb HB14 HIp14 HIw14 HKp14
              have tKp18 := HKp17.out.cell 0
              go_wp2_with fail
              refine (specPromoteLinear_any _ us _ ws t _ HIp17.out hl HIw17.out Hm.out HWt.out).mono ?_
              rintro e w19 ⟨ub, rfl, ho, hlb, hb⟩
              rw [HO.out]
              rw [HE.out] at ho hlb
              have HIb := hid ho.ints
              obtain ⟨Ab, cb, rfl, -⟩ := ho.ints
              obtain ⟨nb, hnb⟩ : ∃ n, (([] : List Int)).length = n := ⟨_, rfl⟩
              rw [hnb] at HIb hlb ⊢
              clear ho hnb
              have HB20 := hid (below_to HB17.out hb)
              have HIp20 := hid (HIp17.out.below hb)
              have HIw20 := hid (HIw17.out.below hb)
              have HKp20 := hid (HKp17.out.below hb HKp17.out.lt)
              have HIa20 := hid (HIa.out.below hb)
              clear tKp18
              clear hb HB17 HIp17 HIw17 HKp17 HIa
              have tKp21 := HKp20.out.cell 0
              go_wp2_with fail
              refine (oSame_any _ _ ([] : List Int) _ HIa20.out HIb.out (by simp)).mono ?_
              rintro e w22 ⟨rfl, hb⟩
              have HB23 := hid (below_to HB20.out hb)
              have HIp23 := hid (HIp20.out.below hb)
              have HIw23 := hid (HIw20.out.below hb)
              have HKp23 := hid (HKp20.out.below hb HKp20.out.lt)
              have HIa23 := hid (HIa20.out.below hb)
              have HIb23 := hid (HIb.out.below hb)
              clear tKp21
              clear hb HB20 HIp20 HIw20 HKp20 HIa20 HIb
              have tKp24 := HKp23.out.cell 0
              clear HO HE Hm HN HWt HWm hl hl21 hm22 ht hla hlb tKp24 HIp23 HIw23 HKp23 HIa23 HIb23
              as_aux_lemma =>
                go_wp2_with fail
                refine (drawSlideOf_any _ xs1 _ (bytes_at HY1.out HB23.out) HS.out.2).mono ?_
                rintro e w25 ⟨u, us, q, ws, rfl, ho, hl21, hoq, hm22, hb⟩
                have hl : us.length ≤ 1048576 := by omega
                have HBn := hid (below_to HB23.out hb)
                have HIp := hid ho.ints
                have HIw := hid hoq
                obtain ⟨pA, pc, rfl, -⟩ := ho.ints
                obtain ⟨wA, wc, rfl, -⟩ := hoq.ints
                obtain ⟨n, hn⟩ : ∃ n, ws.length = n := ⟨_, rfl⟩
                have HN := hid hn
                have Hm := hid (show ws.length ≤ 1048576 by omega)
                rw [hn] at HIw hm22 ⊢
                clear ho hoq hb hn HB23
                have HB := HBn
                clear HBn
                obtain ⟨B7, hB7⟩ : ∃ B7, w25.heap.size = B7 := ⟨_, rfl⟩
                go_wp2_with fail
                have HB26 := hid (below_alloc HB.out (.cells #[.slice pA us.length pc] 26))
                have HIp26 := hid (HIp.out.alloc (.cells #[.slice pA us.length pc] 26))
                have HIw26 := hid (HIw.out.alloc (.cells #[.slice pA us.length pc] 26))
                have HKp26 : Hid (Blk (w25.alloc (.cells #[.slice pA us.length pc] 26)) B7 26 #[.slice pA us.length pc]) := hid (by rw [← hB7]; exact Blk.new w25 _ _)
                clear hB7 HB HIp HIw
                have tKp27 := HKp26.out.cell 0
                cases hok : okLin us ws
                · as_aux_lemma =>
                    have HE := hid (ansSL_no hok)
                    have HO := hid hok
                    clear hok
                    go_wp2_with fail
                    refine (implSlideOf_any _ us _ ws _ HIp26.out hl HIw26.out Hm.out).mono ?_
                    rintro e w28 ⟨ua, rfl, ho, hla, hb⟩
                    rw [HO.out]
                    rw [HE.out] at ho hla
                    have HIa := hid ho.ints
                    obtain ⟨Aa, ca, rfl, -⟩ := ho.ints
                    have HChl := hid hla
                    obtain ⟨na, hna⟩ : ∃ n, (([] : List Int)).length = n := ⟨_, rfl⟩
                    have HNa := hid hna
                    rw [hna] at HIa hla ⊢
                    clear ho hna
                    have HB29 := hid (below_to HB26.out hb)
                    have HIp29 := hid (HIp26.out.below hb)
                    have HIw29 := hid (HIw26.out.below hb)
                    have HKp29 := hid (HKp26.out.below hb HKp26.out.lt)
                    clear tKp27
                    clear hb HB26 HIp26 HIw26 HKp26
                    have tKp30 := HKp29.out.cell 0
                    go_wp2_with fail
                    refine (specSlideOf_any _ us _ ws _ HIp29.out hl HIw29.out.ints Hm.out).mono ?_
                    rintro e w31 ⟨ub, rfl, ho, hlb, hb⟩
                    rw [HO.out]
                    rw [HE.out] at ho hlb
                    have HIb := hid ho.ints
                    obtain ⟨Ab, cb, rfl, -⟩ := ho.ints
                    obtain ⟨nb, hnb⟩ : ∃ n, (([] : List Int)).length = n := ⟨_, rfl⟩
                    rw [hnb] at HIb hlb ⊢
                    clear ho hnb
                    have HB32 := hid (below_to HB29.out hb)
                    have HIp32 := hid (HIp29.out.below hb)
                    have HIw32 := hid (HIw29.out.below hb)
                    have HKp32 := hid (HKp29.out.below hb HKp29.out.lt)
                    have HIa32 := hid (HIa.out.below hb)
                    clear tKp30
                    clear hb HB29 HIp29 HIw29 HKp29 HIa
                    have tKp33 := HKp32.out.cell 0
                    go_wp2_with fail
                    refine (oSame_any _ _ ([] : List Int) _ HIa32.out HIb.out HChl.out).mono ?_
                    rintro e w34 ⟨rfl, hb⟩
                    have HB35 := hid (below_to HB32.out hb)
                    have HIp35 := hid (HIp32.out.below hb)
                    have HIw35 := hid (HIw32.out.below hb)
                    have HKp35 := hid (HKp32.out.below hb HKp32.out.lt)
                    have HIa35 := hid (HIa32.out.below hb)
                    have HIb35 := hid (HIb.out.below hb)
                    clear tKp33
                    clear hb HB32 HIp32 HIw32 HKp32 HIa32 HIb
                    have tKp36 := HKp35.out.cell 0
                    clear HIb35 hlb
                    clear tKp36
                    go_wp2
                    go_ret
                    exact ⟨rfl, HB35.out⟩
                · as_aux_lemma =>
                    obtain ⟨Q, n', hg, hX, hQ, hxl, f2, hn1, hn10, f4, f5, f6, f7, f8, f9⟩ := slideFacts hok
                    obtain rfl : n = n' := HN.out.symm.trans f2
                    have HO := hid hok
                    have HE := hid (ansSL_yes hok)
                    have HG := hid hg
                    have HX := hid hX
                    have HQX := hid hQ
                    have HXl := hid hxl
                    have HO2 := hid f4
                    have HE2 := hid f5
                    have HQl := hid f6
                    have HPr := hid f7
                    have HUp := hid f8
                    have HTs := hid f9
                    obtain ⟨ch, hch⟩ : ∃ l, sliL us ws = l := ⟨_, rfl⟩
                    have HCh := hid hch
                    rw [hch] at HE
                    clear hok hg hX hQ hxl f2 f4 f5 f6 f7 f8 f9 hch
                    go_wp2_with fail
                    refine (implSlideOf_any _ us _ ws _ HIp26.out hl HIw26.out Hm.out).mono ?_
                    rintro e w37 ⟨ua, rfl, ho, hla, hb⟩
                    rw [HO.out]
                    rw [HE.out] at ho hla
                    have HIa := hid ho.ints
                    obtain ⟨Aa, ca, rfl, -⟩ := ho.ints
                    have HChl := hid hla
                    obtain ⟨na, hna⟩ : ∃ n, (ch).length = n := ⟨_, rfl⟩
                    have HNa := hid hna
                    rw [hna] at HIa hla ⊢
                    clear ho hna
                    have HB38 := hid (below_to HB26.out hb)
                    have HIp38 := hid (HIp26.out.below hb)
                    have HIw38 := hid (HIw26.out.below hb)
                    have HKp38 := hid (HKp26.out.below hb HKp26.out.lt)
                    clear tKp27
                    clear hb HB26 HIp26 HIw26 HKp26
                    have tKp39 := HKp38.out.cell 0
                    go_wp2_with fail
                    refine (specSlideOf_any _ us _ ws _ HIp38.out hl HIw38.out.ints Hm.out).mono ?_
                    rintro e w40 ⟨ub, rfl, ho, hlb, hb⟩
                    rw [HO.out]
                    rw [HE.out] at ho hlb
                    have HIb := hid ho.ints
                    obtain ⟨Ab, cb, rfl, -⟩ := ho.ints
                    obtain ⟨nb, hnb⟩ : ∃ n, (ch).length = n := ⟨_, rfl⟩
                    rw [hnb] at HIb hlb ⊢
                    clear ho hnb
                    have HB41 := hid (below_to HB38.out hb)
                    have HIp41 := hid (HIp38.out.below hb)
                    have HIw41 := hid (HIw38.out.below hb)
                    have HKp41 := hid (HKp38.out.below hb HKp38.out.lt)
                    have HIa41 := hid (HIa.out.below hb)
                    clear tKp39
                    clear hb HB38 HIp38 HIw38 HKp38 HIa
                    have tKp42 := HKp41.out.cell 0
                    go_wp2_with fail
                    refine (oSame_any _ _ ch _ HIa41.out HIb.out HChl.out).mono ?_
                    rintro e w43 ⟨rfl, hb⟩
                    have HB44 := hid (below_to HB41.out hb)
                    have HIp44 := hid (HIp41.out.below hb)
                    have HIw44 := hid (HIw41.out.below hb)
                    have HKp44 := hid (HKp41.out.below hb HKp41.out.lt)
                    have HIa44 := hid (HIa41.out.below hb)
                    have HIb44 := hid (HIb.out.below hb)
                    clear tKp42
                    clear hb HB41 HIp41 HIw41 HKp41 HIa41 HIb
                    have tKp45 := HKp44.out.cell 0
                    clear HIb44 hlb
                    go_wp2_with fail
                    refine (implPromoteLinear_any _ us _ ws 1 _ HIp44.out hl HIw44.out.ints Hm.out (wf_i64 _ (by omega) (by omega))).mono ?_
                    rintro e w46 ⟨un, rfl, ho, hln, hb⟩
                    rw [HO2.out]
                    rw [HE2.out] at ho hln
                    have HIn := hid ho.ints
                    obtain ⟨An, cn, rfl, -⟩ := ho.ints
                    rw [HQl.out] at HIn hln ⊢
                    clear ho
                    have HB47 := hid (below_to HB44.out hb)
                    have HIp47 := hid (HIp44.out.below hb)
                    have HIw47 := hid (HIw44.out.below hb)
                    have HKp47 := hid (HKp44.out.below hb HKp44.out.lt)
                    have HIa47 := hid (HIa44.out.below hb)
                    clear tKp45
                    clear hb HB44 HIp44 HIw44 HKp44 HIa44
                    have tKp48 := HKp47.out.cell 0
                    clear HO2 HE2 HO HE
                    go_wp2
                    clear tKp48
                    go_loopw [31, 32] (fun a i wr => ∃ k : Nat, k + 1 ≤ n ∧ i = .int .i64 (k : Int) ∧ Ints wr a (upL us k ws) ∧ Below w46.heap.size w46 wr) (fun _ i _ => n - (intOf i).toNat)
                    case atStart => exact ⟨0, by omega, rfl, HIw47.out.ints, Below.refl _ _⟩
                    case round =>
                      obtain ⟨k, hk, rfl, hnow, hb⟩ := hrel
                      by_cases hlt : k + 1 < n
                      · skip
                        as_aux_lemma =>
                          have HBW0 := hid (Below.refl w46.heap.size w46)
                          obtain ⟨g1, g2, g3⟩ := HTs.out k hlt
                          have HO4 := hid g1
                          have HE4 := hid g2
                          have HL4 := hid g3
                          clear g1 g2 g3
                          have HB49 := hid (below_to HB47.out hb)
                          have HIp49 := hid (HIp47.out.below hb)
                          have HIw49 := hid (HIw47.out.below hb)
                          have HKp49 := hid (HKp47.out.below hb HKp47.out.lt)
                          have HIa49 := hid (HIa47.out.below hb)
                          have HIn49 := hid (HIn.out.below hb)
                          have HBW49 := hid (below_to HBW0.out hb)
                          clear hb HB47 HIp47 HIw47 HKp47 HIa47 HIn HBW0
                          have tKp50 := HKp49.out.cell 0
                          have HInow := hid hnow
                          obtain ⟨nA, nc', rfl, -⟩ := hnow
                          rw [HL4.out] at HInow ⊢
                          go_wp2_with fail
                          refine (implToggleLinear_any _ us _ (upL us k ws) (k : Int) _ HIp49.out hl HInow.out (by rw [HL4.out]; omega) (wf_i64 _ (by omega) (by omega))).mono ?_
                          rintro e w51 ⟨ud, rfl, ho, hld, hb⟩
                          rw [HO4.out]
                          rw [HE4.out] at ho hld
                          have HId := hid ho.ints
                          obtain ⟨Ad, cd, rfl, -⟩ := ho.ints
                          obtain ⟨nd, hnd⟩ : ∃ n, ((upL us (k + 1) ws)).length = n := ⟨_, rfl⟩
                          rw [hnd] at HId hld ⊢
                          clear ho hnd
                          have HB52 := hid (below_to HB49.out hb)
                          have HIp52 := hid (HIp49.out.below hb)
                          have HIw52 := hid (HIw49.out.below hb)
                          have HKp52 := hid (HKp49.out.below hb HKp49.out.lt)
                          have HIa52 := hid (HIa49.out.below hb)
                          have HIn52 := hid (HIn49.out.below hb)
                          have HBW52 := hid (below_to HBW49.out hb)
                          have HInow52 := hid (HInow.out.below hb)
                          clear tKp50
                          clear hb HB49 HIp49 HIw49 HKp49 HIa49 HIn49 HBW49 HInow
                          have tKp53 := HKp52.out.cell 0
                          go_wp2
                          go_roundw
                          case rel => exact ⟨k + 1, by omega, by go_num, HId.out, HBW52.out⟩
                          case measure => simp [intOf] <;> omega
                      · as_aux_lemma =>
                          have hnow2 := hnow
                          rw [show k = n - 1 from by omega, HUp.out] at hnow2
                          have HInow := hid hnow2
                          obtain ⟨nA, nc', rfl, -⟩ := hnow2
                          rw [HQl.out] at HInow ⊢
                          clear hnow HTs HUp
                          have HB54 := hid (below_to HB47.out hb)
                          have HIp54 := hid (HIp47.out.below hb)
                          have HIw54 := hid (HIw47.out.below hb)
                          have HKp54 := hid (HKp47.out.below hb HKp47.out.lt)
                          have HIa54 := hid (HIa47.out.below hb)
                          have HIn54 := hid (HIn.out.below hb)
                          clear hb HB47 HIp47 HIw47 HKp47 HIa47 HIn
                          have tKp55 := HKp54.out.cell 0
                          rename World => V1
                          have hmk := run_make_row' (P := Try.prog) 24 3 (.int .i64 0) 8 Try.underlying24 Try.info3 rfl .i64 .i64 n (by omega) (by omega)
                          go_wp2
                          clear hmk tKp55
                          rw [Vals_made]
                          obtain ⟨gP, hgP⟩ : ∃ g, V1.heap.size = g := ⟨_, rfl⟩
                          have hgP2 : V1.heap.size ≤ gP := by omega
                          have HStart : Hid (Blk (V1.alloc (.cells (Vals (List.replicate n 0)) 3)) gP 3 (Vals (mkL n (plF ws 0)))) := hid (by
                            rw [show mkL n (plF ws 0) = List.replicate n 0 from (mkL_congr (fun i hi => by simp [plF])).trans (mkL_zero n)]
                            exact Blk.newAt _ _ _ _ hgP.symm)
                          have HBs := hid (below_alloc (Below.refl V1.heap.size V1) (.cells (Vals (List.replicate n 0)) 3))
                          rw [hgP]
                          go_loopw [208] (fun i wr => ∃ k : Nat, k ≤ n ∧ i = .int .i64 (k : Int) ∧ Blk wr gP 3 (Vals (mkL n (plF ws k))) ∧ Below V1.heap.size V1 wr) (fun i _ => n - (intOf i).toNat)
                          case atStart => exact ⟨0, Nat.zero_le _, rfl, HStart.out, HBs.out⟩
                          case round =>
                            obtain ⟨k2, hk2, rfl, hK, hb⟩ := hrel
                            by_cases hlt2 : k2 < n
                            · skip
                              as_aux_lemma =>
                                obtain ⟨bW, oW, rfl⟩ := ints_addr HIw54.out.ints (by intro h0; have := HN.out; rw [h0] at this; simp at this; omega)
                                have ck := ints_cell (HIw54.out.ints.below hb) (show k2 < _ by rw [HN.out]; exact hlt2)
                                have hr := HX.out.rng k2 (by rw [HXl.out]; exact hlt2)
                                rw [HXl.out] at hr
                                rw [hr.1] at ck
                                have hxl := hr.2
                                have HStep := hid (plF_step HX.out (k := k2) (by rw [HXl.out]; exact hlt2))
                                obtain ⟨x, hx⟩ : ∃ x, wN ws k2 = x := ⟨_, rfl⟩
                                rw [hx] at ck hxl HStep
                                have HK := hid hK
                                have HBk := hid hb
                                have hcj : wr.cell? ⟨gP, x, none⟩ = some (.int .i64 ((plF ws k2 x : Nat) : Int)) := by
                                  rw [HK.out.cell, Vals_get (by rw [mkL_length]; exact hxl), mkL_getD hxl]
                                have hfz := HK.out.frozen x
                                have hxi : (x : Int) < (n : Int) := by omega
                                clear hr hx hK hb
                                go_wp2
                                go_roundw
                                case rel => exact ⟨k2 + 1, by omega, by go_num, (by rw [mkL_upd (g := plF ws k2) (h := plF ws (k2 + 1)) k2 hxl (fun i hi => HStep.out i (by rw [HXl.out]; exact hi)), ← Vals_set]; exact HK.out.set_ x (.int .i64 ((k2 : Nat) : Int))), HBk.out.setCell (p := ⟨gP, x, none⟩) hgP2 _⟩
                                case measure => simp [intOf] <;> omega
                            · as_aux_lemma =>
                                obtain rfl : k2 = n := by omega
                                have HPl : Hid (Blk wr gP 3 (Vals (mkL k2 (plN ws)))) := hid (by have h := plF_full HX.out; rw [HXl.out] at h; rw [← h]; exact hK)
                                clear hK hlt2 hk2 HStart HBs hgP hgP2
                                have HB56 := hid (below_to HB54.out hb)
                                have HIp56 := hid (HIp54.out.below hb)
                                have HIw56 := hid (HIw54.out.below hb)
                                have HKp56 := hid (HKp54.out.below hb HKp54.out.lt)
                                have HIa56 := hid (HIa54.out.below hb)
                                have HIn56 := hid (HIn54.out.below hb)
                                have HInow56 := hid (HInow.out.below hb)
                                clear hb HB54 HIp54 HIw54 HKp54 HIa54 HIn54 HInow
                                have tKp57 := HKp56.out.cell 0
                                rename World => V2
                                have hmk := run_make_row' (P := Try.prog) 24 3 (.int .i64 0) 8 Try.underlying24 Try.info3 rfl .i64 .i64 k2 (by omega) (by omega)
                                go_wp2
                                clear hmk tKp57
                                rw [Vals_made]
                                obtain ⟨gS, hgS⟩ : ∃ g, V2.heap.size = g := ⟨_, rfl⟩
                                have hgS2 : V2.heap.size ≤ gS := by omega
                                have HStart : Hid (Blk (V2.alloc (.cells (Vals (List.replicate k2 0)) 3)) gS 3 (Vals (mkL k2 (slF Q 0)))) := hid (by
                                  rw [show mkL k2 (slF Q 0) = List.replicate k2 0 from (mkL_congr (fun i hi => by simp [slF])).trans (mkL_zero k2)]
                                  exact Blk.newAt _ _ _ _ hgS.symm)
                                have HBs := hid (below_alloc (Below.refl V2.heap.size V2) (.cells (Vals (List.replicate k2 0)) 3))
                                rw [hgS]
                                go_loopw [222] (fun i wr => ∃ x : Nat, x ≤ k2 ∧ i = .int .i64 (x : Int) ∧ Blk wr gS 3 (Vals (mkL k2 (slF Q x))) ∧ Below V2.heap.size V2 wr) (fun i _ => k2 - (intOf i).toNat)
                                case atStart => exact ⟨0, Nat.zero_le _, rfl, HStart.out, HBs.out⟩
                                case round =>
                                  obtain ⟨x, hx, rfl, hS, hb⟩ := hrel
                                  by_cases hlt3 : x < k2
                                  · skip
                                    as_aux_lemma =>
                                      have HPw := hid (HPl.out.below hb HPl.out.lt)
                                      have HIc := hid (HIa56.out.below hb)
                                      have HSl := hid hS
                                      have HBk := hid hb
                                      have hpx := (pl_wN HX.out (x := x) (by rw [HXl.out]; exact hlt3)).1
                                      rw [HXl.out] at hpx
                                      obtain ⟨pl, hpl⟩ : ∃ y, plN ws x = y := ⟨_, rfl⟩
                                      have HPn := hid hpl
                                      rw [hpl] at hpx
                                      have cp : wr.cell? ⟨gP, x, none⟩ = some (.int .i64 (pl : Int)) := by
                                        rw [HPw.out.cell, Vals_get (by rw [mkL_length]; exact hlt3), mkL_getD hlt3, hpl]
                                      clear hpl hS hb
                                      go_wp2
                                      clear cp
                                      go_loop [41, 232] (fun q i => ∃ (t : Nat) (a : Int), t ≤ na ∧ i = .int .i64 (t : Int) ∧ q = .int .i64 a ∧ Hid (AtX ch Q k2 pl x t a)) (fun _ i => na - (intOf i).toNat)
                                      case atStart => exact ⟨0, _, Nat.zero_le _, rfl, rfl, hid (AtX.start _ _ _ _ _)⟩
                                      case round =>
                                        obtain ⟨t, a, ht, rfl, rfl, HA⟩ := hrel
                                        by_cases htl : t < na
                                        · skip
                                          as_aux_lemma =>
                                            obtain ⟨y, c1, c2, c3, c4⟩ := at_chain HG.out HX.out (t := t) (by rw [HCh.out, HNa.out]; exact htl)
                                            rw [HCh.out, HNa.out, HXl.out, HPr.out] at c3
                                            rw [HCh.out, HNa.out, HXl.out, HPr.out] at c4
                                            rw [HCh.out] at c1
                                            rw [HXl.out] at c2
                                            obtain ⟨bC, oC, rfl⟩ := ints_addr HIc.out (by intro h0; have := HNa.out; rw [h0] at this; simp at this; omega)
                                            have ck := ints_cell HIc.out (show t < _ by rw [HNa.out]; exact htl)
                                            rw [c1] at ck
                                            by_cases hyx : y = x
                                            · subst hyx
                                              clear HA
                                              by_cases hn3 : t + 1 < na
                                              · obtain ⟨z, a', d1, d2, d3, d4, d5⟩ := c3 hn3
                                                have ck2 := ints_cell HIc.out (show t + 1 < _ by rw [HNa.out]; exact hn3)
                                                rw [d1] at ck2
                                                have cz : wr.cell? ⟨gP, z, none⟩ = some (.int .i64 ((a' + 1 : Nat) : Int)) := by
                                                  rw [HPw.out.cell, Vals_get (by rw [mkL_length]; exact d2), mkL_getD d2, d3]
                                                have HA2 : Hid (AtX ch Q k2 pl y (t + 1) (a' : Int)) := hid (AtX.hit (by omega) d5)
                                                have e9 : ((a' + 1 : Nat) : Int) = (a' : Int) + 1 := by omega
                                                have hti : ((t : Int) + 1).toNat = t + 1 := by omega
                                                have hzi : (z : Int) < (k2 : Int) := by omega
                                                rw [e9] at cz
                                                have hn4 : (t : Int) + 1 < (na : Int) := by omega
                                                clear c1 c3 c4 d1 d3 d5 e9
                                                go_wp2
                                                go_round
                                                case rel => exact ⟨t + 1, (a' : Int), by omega, by go_num, by first | rfl | go_num, HA2⟩
                                                case measure => simp [intOf] <;> omega
                                              · have HA2 : Hid (AtX ch Q k2 pl y (t + 1) ((k2 - 1 : Nat) : Int)) := hid (AtX.hit (by omega) (c4 hn3))
                                                have e9 : ((k2 - 1 : Nat) : Int) = (k2 : Int) - 1 := by omega
                                                rw [e9] at HA2
                                                have hn4 : ¬ (t : Int) + 1 < (na : Int) := by omega
                                                clear c1 c3 c4 e9
                                                go_wp2
                                                go_round
                                                case rel => exact ⟨t + 1, (k2 : Int) - 1, by omega, by go_num, by first | rfl | go_num, HA2⟩
                                                case measure => simp [intOf] <;> omega
                                            · have HA2 := hid (HA.out.miss (by rw [c1]; intro h; exact hyx (Int.ofNat_inj.1 h)))
                                              have hyi : ¬ (y : Int) = (x : Int) := fun h => hyx (Int.ofNat_inj.1 h)
                                              have hyb : ((y : Int) == (x : Int)) = false := beq_eq_false_iff_ne.2 hyi
                                              clear c1 c3 c4 HA
                                              go_wp2
                                              go_round
                                              case rel => exact ⟨t + 1, a, by omega, by go_num, rfl, HA2⟩
                                              case measure => simp [intOf] <;> omega
                                        · as_aux_lemma =>
                                            obtain rfl : t = na := by omega
                                            have hA := HA.out
                                            obtain ⟨j, rfl, hj, hjx⟩ : ∃ j : Nat, a = (j : Int) ∧ j < k2 ∧ wN Q j = x := by
                                              have h := AtX.fin HG.out HX.out (x := x) (t := t) (a := a) (by rw [HXl.out]; exact hlt3) (by rw [HCh.out, HNa.out]) (by rw [HCh.out, HPr.out, HXl.out, HPn.out]; exact hA)
                                              rw [HPr.out, HXl.out] at h
                                              exact h
                                            have HStep := hid (slF_step HQX.out (x := x) (a := j) (by rw [HXl.out]; exact hj) hjx)
                                            have hcj : wr.cell? ⟨gS, j, none⟩ = some (.int .i64 ((slF Q x j : Nat) : Int)) := by
                                              rw [HSl.out.cell, Vals_get (by rw [mkL_length]; exact hj), mkL_getD hj]
                                            have hfz := HSl.out.frozen j
                                            have hji : (j : Int) < (k2 : Int) := by omega
                                            have hjn : ¬ (j : Int) < 0 := by omega
                                            clear hA HA hjx htl ht
                                            go_wp2
                                            go_roundw
                                            case rel => exact ⟨x + 1, by omega, by go_num, (by rw [mkL_upd (g := slF Q x) (h := slF Q (x + 1)) x hj (fun i hi => HStep.out i (by rw [HXl.out]; exact hi)), ← Vals_set]; exact HSl.out.set_ j (.int .i64 ((x : Nat) : Int))), HBk.out.setCell (p := ⟨gS, j, none⟩) hgS2 _⟩
                                            case measure => simp [intOf] <;> omega
                                  · as_aux_lemma =>
                                      obtain rfl : x = k2 := by omega
                                      have HSf : Hid (Blk wr gS 3 (Vals Q)) := hid (by have h := slF_full HQX.out; rw [HXl.out] at h; rw [← h]; exact hS)
                                      have HIs : Hid (Ints wr (.slice (some ⟨gS, 0, none⟩) Q.length x) Q) := hid HSf.out.ints
                                      rw [HQl.out] at HIs
                                      clear hS hlt3 hx HStart HBs hgS hgS2 HSf
                                      have HB58 := hid (below_to HB56.out hb)
                                      have HIp58 := hid (HIp56.out.below hb)
                                      have HIw58 := hid (HIw56.out.below hb)
                                      have HKp58 := hid (HKp56.out.below hb HKp56.out.lt)
                                      have HIa58 := hid (HIa56.out.below hb)
                                      have HIn58 := hid (HIn56.out.below hb)
                                      have HInow58 := hid (HInow56.out.below hb)
                                      have HKq58 := hid (HPl.out.below hb HPl.out.lt)
                                      clear hb HB56 HIp56 HIw56 HKp56 HIa56 HIn56 HInow56 HPl
                                      have tKp59 := HKp58.out.cell 0
                                      have tKq60 := HKq58.out.cell 0
                                      rename World => V3
                                      go_wp2_with fail
                                      refine (oSame_any _ _ Q _ HIn58.out HInow58.out (by rw [HQl.out]; omega)).mono ?_
                                      rintro e w61 ⟨rfl, hb⟩
                                      have HB62 := hid (below_to HB58.out hb)
                                      have HIp62 := hid (HIp58.out.below hb)
                                      have HIw62 := hid (HIw58.out.below hb)
                                      have HKp62 := hid (HKp58.out.below hb HKp58.out.lt)
                                      have HIa62 := hid (HIa58.out.below hb)
                                      have HIn62 := hid (HIn58.out.below hb)
                                      have HInow62 := hid (HInow58.out.below hb)
                                      have HKq62 := hid (HKq58.out.below hb HKq58.out.lt)
                                      have HIs62 := hid (HIs.out.below hb)
                                      clear tKp59 tKq60
                                      clear hb HB58 HIp58 HIw58 HKp58 HIa58 HIn58 HInow58 HKq58 HIs
                                      have tKp63 := HKp62.out.cell 0
                                      have tKq64 := HKq62.out.cell 0
                                      go_wp2_with fail
                                      refine (oSame_any _ _ Q _ HIn62.out HIs62.out (by rw [HQl.out]; omega)).mono ?_
                                      rintro e w65 ⟨rfl, hb⟩
                                      have HB66 := hid (below_to HB62.out hb)
                                      have HIp66 := hid (HIp62.out.below hb)
                                      have HIw66 := hid (HIw62.out.below hb)
                                      have HKp66 := hid (HKp62.out.below hb HKp62.out.lt)
                                      have HIa66 := hid (HIa62.out.below hb)
                                      have HIn66 := hid (HIn62.out.below hb)
                                      have HInow66 := hid (HInow62.out.below hb)
                                      have HKq66 := hid (HKq62.out.below hb HKq62.out.lt)
                                      have HIs66 := hid (HIs62.out.below hb)
                                      clear tKp63 tKq64
                                      clear hb HB62 HIp62 HIw62 HKp62 HIa62 HIn62 HInow62 HKq62 HIs62
                                      have tKp67 := HKp66.out.cell 0
                                      have tKq68 := HKq66.out.cell 0
                                      clear tKp67 tKq68
                                      go_wp2
                                      go_ret
                                      exact ⟨rfl, HB66.out⟩
          · as_aux_lemma =>
              obtain ⟨D, n', f1, f2, f3, fb, f4, f5, f6, f7, f8⟩ := promFacts hok
              obtain rfl : n = n' := HN.out.symm.trans f2
              have HO := hid hok
              have HE := hid f4
              have HO2 := hid f5
              have HE2 := hid f6
              have HO3 := hid f7
              have HD := hid f8
              clear hok f1 f2 f4 f5 f6 f7 f8 fb
              go_wp2_with fail
              refine (implPromoteLinear_any _ us _ ws t _ HIp14.out hl HIw14.out Hm.out HWt.out).mono ?_
              rintro e w69 ⟨ua, rfl, ho, hla, hb⟩
              rw [HO.out]
              rw [HE.out] at ho hla
              have HIa := hid ho.ints
              obtain ⟨Aa, ca, rfl, -⟩ := ho.ints
              rw [HD.out] at HIa hla ⊢
              clear ho
              have HB70 := hid (below_to HB14.out hb)
              have HIp70 := hid (HIp14.out.below hb)
              have HIw70 := hid (HIw14.out.below hb)
              have HKp70 := hid (HKp14.out.below hb HKp14.out.lt)
              clear tKp15
              clear hb HB14 HIp14 HIw14 HKp14
              have tKp71 := HKp70.out.cell 0
              go_wp2_with fail
              refine (specPromoteLinear_any _ us _ ws t _ HIp70.out hl HIw70.out Hm.out HWt.out).mono ?_
              rintro e w72 ⟨ub, rfl, ho, hlb, hb⟩
              rw [HO.out]
              rw [HE.out] at ho hlb
              have HIb := hid ho.ints
              obtain ⟨Ab, cb, rfl, -⟩ := ho.ints
              rw [HD.out] at HIb hlb ⊢
              clear ho
              have HB73 := hid (below_to HB70.out hb)
              have HIp73 := hid (HIp70.out.below hb)
              have HIw73 := hid (HIw70.out.below hb)
              have HKp73 := hid (HKp70.out.below hb HKp70.out.lt)
              have HIa73 := hid (HIa.out.below hb)
              clear tKp71
              clear hb HB70 HIp70 HIw70 HKp70 HIa
              have tKp74 := HKp73.out.cell 0
              go_wp2_with fail
              refine (oSame_any _ _ D _ HIa73.out HIb.out (by rw [HD.out]; omega)).mono ?_
              rintro e w75 ⟨rfl, hb⟩
              have HB76 := hid (below_to HB73.out hb)
              have HIp76 := hid (HIp73.out.below hb)
              have HIw76 := hid (HIw73.out.below hb)
              have HKp76 := hid (HKp73.out.below hb HKp73.out.lt)
              have HIa76 := hid (HIa73.out.below hb)
              have HIb76 := hid (HIb.out.below hb)
              clear tKp74
              clear hb HB73 HIp73 HIw73 HKp73 HIa73 HIb
              have tKp77 := HKp76.out.cell 0
              go_wp2_with fail
              refine (implPromoteLinear_any _ us _ D (-t) _ HIp76.out hl HIa76.out (by rw [HD.out]; omega) HWm.out).mono ?_
              rintro e w78 ⟨uc, rfl, ho, hlc, hb⟩
              rw [HO2.out]
              rw [HE2.out] at ho hlc
              have HIc := hid ho.ints
              obtain ⟨Ac, cc, rfl, -⟩ := ho.ints
              rw [HN.out] at HIc hlc ⊢
              clear ho
              have HB79 := hid (below_to HB76.out hb)
              have HIp79 := hid (HIp76.out.below hb)
              have HIw79 := hid (HIw76.out.below hb)
              have HKp79 := hid (HKp76.out.below hb HKp76.out.lt)
              have HIa79 := hid (HIa76.out.below hb)
              have HIb79 := hid (HIb76.out.below hb)
              clear tKp77
              clear hb HB76 HIp76 HIw76 HKp76 HIa76 HIb76
              have tKp80 := HKp79.out.cell 0
              go_wp2_with fail
              refine (oSame_any _ _ ws _ HIc.out HIw79.out Hm.out).mono ?_
              rintro e w81 ⟨rfl, hb⟩
              have HB82 := hid (below_to HB79.out hb)
              have HIp82 := hid (HIp79.out.below hb)
              have HIw82 := hid (HIw79.out.below hb)
              have HKp82 := hid (HKp79.out.below hb HKp79.out.lt)
              have HIa82 := hid (HIa79.out.below hb)
              have HIb82 := hid (HIb79.out.below hb)
              have HIc82 := hid (HIc.out.below hb)
              clear tKp80
              clear hb HB79 HIp79 HIw79 HKp79 HIa79 HIb79 HIc
              have tKp83 := HKp82.out.cell 0
              go_wp2_with fail
              refine (oLinear_any _ us _ D _ HIp82.out hl HIa82.out (by rw [HD.out]; omega)).mono ?_
              rintro e w84 ⟨rfl, hb⟩
              rw [HO3.out]
              have HB85 := hid (below_to HB82.out hb)
              have HIp85 := hid (HIp82.out.below hb)
              have HIw85 := hid (HIw82.out.below hb)
              have HKp85 := hid (HKp82.out.below hb HKp82.out.lt)
              have HIa85 := hid (HIa82.out.below hb)
              have HIb85 := hid (HIb82.out.below hb)
              have HIc85 := hid (HIc82.out.below hb)
              clear tKp83
              clear hb HB82 HIp82 HIw82 HKp82 HIa82 HIb82 HIc82
              have tKp86 := HKp85.out.cell 0
              clear HO HE Hm HN HWt HWm hl hl21 hm22 ht hla hlb HO2 HE2 HO3 HD f3 hlc tKp86 HIp85 HIw85 HKp85 HIa85 HIb85 HIc85
              as_aux_lemma =>
                go_wp2_with fail
                refine (drawSlideOf_any _ xs1 _ (bytes_at HY1.out HB85.out) HS.out.2).mono ?_
                rintro e w87 ⟨u, us, q, ws, rfl, ho, hl21, hoq, hm22, hb⟩
                have hl : us.length ≤ 1048576 := by omega
                have HBn := hid (below_to HB85.out hb)
                have HIp := hid ho.ints
                have HIw := hid hoq
                obtain ⟨pA, pc, rfl, -⟩ := ho.ints
                obtain ⟨wA, wc, rfl, -⟩ := hoq.ints
                obtain ⟨n, hn⟩ : ∃ n, ws.length = n := ⟨_, rfl⟩
                have HN := hid hn
                have Hm := hid (show ws.length ≤ 1048576 by omega)
                rw [hn] at HIw hm22 ⊢
                clear ho hoq hb hn HB85
                have HB := HBn
                clear HBn
                obtain ⟨B7, hB7⟩ : ∃ B7, w87.heap.size = B7 := ⟨_, rfl⟩
                go_wp2_with fail
                have HB88 := hid (below_alloc HB.out (.cells #[.slice pA us.length pc] 26))
                have HIp88 := hid (HIp.out.alloc (.cells #[.slice pA us.length pc] 26))
                have HIw88 := hid (HIw.out.alloc (.cells #[.slice pA us.length pc] 26))
                have HKp88 : Hid (Blk (w87.alloc (.cells #[.slice pA us.length pc] 26)) B7 26 #[.slice pA us.length pc]) := hid (by rw [← hB7]; exact Blk.new w87 _ _)
                clear hB7 HB HIp HIw
                have tKp89 := HKp88.out.cell 0
                cases hok : okLin us ws
                · as_aux_lemma =>
                    have HE := hid (ansSL_no hok)
                    have HO := hid hok
                    clear hok
                    go_wp2_with fail
                    refine (implSlideOf_any _ us _ ws _ HIp88.out hl HIw88.out Hm.out).mono ?_
                    rintro e w90 ⟨ua, rfl, ho, hla, hb⟩
                    rw [HO.out]
                    rw [HE.out] at ho hla
                    have HIa := hid ho.ints
                    obtain ⟨Aa, ca, rfl, -⟩ := ho.ints
                    have HChl := hid hla
                    obtain ⟨na, hna⟩ : ∃ n, (([] : List Int)).length = n := ⟨_, rfl⟩
                    have HNa := hid hna
                    rw [hna] at HIa hla ⊢
                    clear ho hna
                    have HB91 := hid (below_to HB88.out hb)
                    have HIp91 := hid (HIp88.out.below hb)
                    have HIw91 := hid (HIw88.out.below hb)
                    have HKp91 := hid (HKp88.out.below hb HKp88.out.lt)
                    clear tKp89
                    clear hb HB88 HIp88 HIw88 HKp88
                    have tKp92 := HKp91.out.cell 0
                    go_wp2_with fail
                    refine (specSlideOf_any _ us _ ws _ HIp91.out hl HIw91.out.ints Hm.out).mono ?_
                    rintro e w93 ⟨ub, rfl, ho, hlb, hb⟩
                    rw [HO.out]
                    rw [HE.out] at ho hlb
                    have HIb := hid ho.ints
                    obtain ⟨Ab, cb, rfl, -⟩ := ho.ints
                    obtain ⟨nb, hnb⟩ : ∃ n, (([] : List Int)).length = n := ⟨_, rfl⟩
                    rw [hnb] at HIb hlb ⊢
                    clear ho hnb
                    have HB94 := hid (below_to HB91.out hb)
                    have HIp94 := hid (HIp91.out.below hb)
                    have HIw94 := hid (HIw91.out.below hb)
                    have HKp94 := hid (HKp91.out.below hb HKp91.out.lt)
                    have HIa94 := hid (HIa.out.below hb)
                    clear tKp92
                    clear hb HB91 HIp91 HIw91 HKp91 HIa
                    have tKp95 := HKp94.out.cell 0
                    go_wp2_with fail
                    refine (oSame_any _ _ ([] : List Int) _ HIa94.out HIb.out HChl.out).mono ?_
                    rintro e w96 ⟨rfl, hb⟩
                    have HB97 := hid (below_to HB94.out hb)
                    have HIp97 := hid (HIp94.out.below hb)
                    have HIw97 := hid (HIw94.out.below hb)
                    have HKp97 := hid (HKp94.out.below hb HKp94.out.lt)
                    have HIa97 := hid (HIa94.out.below hb)
                    have HIb97 := hid (HIb.out.below hb)
                    clear tKp95
                    clear hb HB94 HIp94 HIw94 HKp94 HIa94 HIb
                    have tKp98 := HKp97.out.cell 0
                    clear HIb97 hlb
                    clear tKp98
                    go_wp2
                    go_ret
                    exact ⟨rfl, HB97.out⟩
                · as_aux_lemma =>
                    obtain ⟨Q, n', hg, hX, hQ, hxl, f2, hn1, hn10, f4, f5, f6, f7, f8, f9⟩ := slideFacts hok
                    obtain rfl : n = n' := HN.out.symm.trans f2
                    have HO := hid hok
                    have HE := hid (ansSL_yes hok)
                    have HG := hid hg
                    have HX := hid hX
                    have HQX := hid hQ
                    have HXl := hid hxl
                    have HO2 := hid f4
                    have HE2 := hid f5
                    have HQl := hid f6
                    have HPr := hid f7
                    have HUp := hid f8
                    have HTs := hid f9
                    obtain ⟨ch, hch⟩ : ∃ l, sliL us ws = l := ⟨_, rfl⟩
                    have HCh := hid hch
                    rw [hch] at HE
                    clear hok hg hX hQ hxl f2 f4 f5 f6 f7 f8 f9 hch
                    go_wp2_with fail
                    refine (implSlideOf_any _ us _ ws _ HIp88.out hl HIw88.out Hm.out).mono ?_
                    rintro e w99 ⟨ua, rfl, ho, hla, hb⟩
                    rw [HO.out]
                    rw [HE.out] at ho hla
                    have HIa := hid ho.ints
                    obtain ⟨Aa, ca, rfl, -⟩ := ho.ints
                    have HChl := hid hla
                    obtain ⟨na, hna⟩ : ∃ n, (ch).length = n := ⟨_, rfl⟩
                    have HNa := hid hna
                    rw [hna] at HIa hla ⊢
                    clear ho hna
                    have HB100 := hid (below_to HB88.out hb)
                    have HIp100 := hid (HIp88.out.below hb)
                    have HIw100 := hid (HIw88.out.below hb)
                    have HKp100 := hid (HKp88.out.below hb HKp88.out.lt)
                    clear tKp89
                    clear hb HB88 HIp88 HIw88 HKp88
                    have tKp101 := HKp100.out.cell 0
                    go_wp2_with fail
                    refine (specSlideOf_any _ us _ ws _ HIp100.out hl HIw100.out.ints Hm.out).mono ?_
                    rintro e w102 ⟨ub, rfl, ho, hlb, hb⟩
                    rw [HO.out]
                    rw [HE.out] at ho hlb
                    have HIb := hid ho.ints
                    obtain ⟨Ab, cb, rfl, -⟩ := ho.ints
                    obtain ⟨nb, hnb⟩ : ∃ n, (ch).length = n := ⟨_, rfl⟩
                    rw [hnb] at HIb hlb ⊢
                    clear ho hnb
                    have HB103 := hid (below_to HB100.out hb)
                    have HIp103 := hid (HIp100.out.below hb)
                    have HIw103 := hid (HIw100.out.below hb)
                    have HKp103 := hid (HKp100.out.below hb HKp100.out.lt)
                    have HIa103 := hid (HIa.out.below hb)
                    clear tKp101
                    clear hb HB100 HIp100 HIw100 HKp100 HIa
                    have tKp104 := HKp103.out.cell 0
                    go_wp2_with fail
                    refine (oSame_any _ _ ch _ HIa103.out HIb.out HChl.out).mono ?_
                    rintro e w105 ⟨rfl, hb⟩
                    have HB106 := hid (below_to HB103.out hb)
                    have HIp106 := hid (HIp103.out.below hb)
                    have HIw106 := hid (HIw103.out.below hb)
                    have HKp106 := hid (HKp103.out.below hb HKp103.out.lt)
                    have HIa106 := hid (HIa103.out.below hb)
                    have HIb106 := hid (HIb.out.below hb)
                    clear tKp104
                    clear hb HB103 HIp103 HIw103 HKp103 HIa103 HIb
                    have tKp107 := HKp106.out.cell 0
                    clear HIb106 hlb
                    go_wp2_with fail
                    refine (implPromoteLinear_any _ us _ ws 1 _ HIp106.out hl HIw106.out.ints Hm.out (wf_i64 _ (by omega) (by omega))).mono ?_
                    rintro e w108 ⟨un, rfl, ho, hln, hb⟩
                    rw [HO2.out]
                    rw [HE2.out] at ho hln
                    have HIn := hid ho.ints
                    obtain ⟨An, cn, rfl, -⟩ := ho.ints
                    rw [HQl.out] at HIn hln ⊢
                    clear ho
                    have HB109 := hid (below_to HB106.out hb)
                    have HIp109 := hid (HIp106.out.below hb)
                    have HIw109 := hid (HIw106.out.below hb)
                    have HKp109 := hid (HKp106.out.below hb HKp106.out.lt)
                    have HIa109 := hid (HIa106.out.below hb)
                    clear tKp107
                    clear hb HB106 HIp106 HIw106 HKp106 HIa106
                    have tKp110 := HKp109.out.cell 0
                    clear HO2 HE2 HO HE
                    go_wp2
                    clear tKp110
                    go_loopw [31, 32] (fun a i wr => ∃ k : Nat, k + 1 ≤ n ∧ i = .int .i64 (k : Int) ∧ Ints wr a (upL us k ws) ∧ Below w108.heap.size w108 wr) (fun _ i _ => n - (intOf i).toNat)
                    case atStart => exact ⟨0, by omega, rfl, HIw109.out.ints, Below.refl _ _⟩
                    case round =>
                      obtain ⟨k, hk, rfl, hnow, hb⟩ := hrel
                      by_cases hlt : k + 1 < n
                      · skip
                        as_aux_lemma =>
                          have HBW0 := hid (Below.refl w108.heap.size w108)
                          obtain ⟨g1, g2, g3⟩ := HTs.out k hlt
                          have HO4 := hid g1
                          have HE4 := hid g2
                          have HL4 := hid g3
                          clear g1 g2 g3
                          have HB111 := hid (below_to HB109.out hb)
                          have HIp111 := hid (HIp109.out.below hb)
                          have HIw111 := hid (HIw109.out.below hb)
                          have HKp111 := hid (HKp109.out.below hb HKp109.out.lt)
                          have HIa111 := hid (HIa109.out.below hb)
                          have HIn111 := hid (HIn.out.below hb)
                          have HBW111 := hid (below_to HBW0.out hb)
                          clear hb HB109 HIp109 HIw109 HKp109 HIa109 HIn HBW0
                          have tKp112 := HKp111.out.cell 0
                          have HInow := hid hnow
                          obtain ⟨nA, nc', rfl, -⟩ := hnow
                          rw [HL4.out] at HInow ⊢
                          go_wp2_with fail
                          refine (implToggleLinear_any _ us _ (upL us k ws) (k : Int) _ HIp111.out hl HInow.out (by rw [HL4.out]; omega) (wf_i64 _ (by omega) (by omega))).mono ?_
                          rintro e w113 ⟨ud, rfl, ho, hld, hb⟩
                          rw [HO4.out]
                          rw [HE4.out] at ho hld
                          have HId := hid ho.ints
                          obtain ⟨Ad, cd, rfl, -⟩ := ho.ints
                          obtain ⟨nd, hnd⟩ : ∃ n, ((upL us (k + 1) ws)).length = n := ⟨_, rfl⟩
                          rw [hnd] at HId hld ⊢
                          clear ho hnd
                          have HB114 := hid (below_to HB111.out hb)
                          have HIp114 := hid (HIp111.out.below hb)
                          have HIw114 := hid (HIw111.out.below hb)
                          have HKp114 := hid (HKp111.out.below hb HKp111.out.lt)
                          have HIa114 := hid (HIa111.out.below hb)
                          have HIn114 := hid (HIn111.out.below hb)
                          have HBW114 := hid (below_to HBW111.out hb)
                          have HInow114 := hid (HInow.out.below hb)
                          clear tKp112
                          clear hb HB111 HIp111 HIw111 HKp111 HIa111 HIn111 HBW111 HInow
                          have tKp115 := HKp114.out.cell 0
                          go_wp2
                          go_roundw
                          case rel => exact ⟨k + 1, by omega, by go_num, HId.out, HBW114.out⟩
                          case measure => simp [intOf] <;> omega
                      · as_aux_lemma =>
                          have hnow2 := hnow
                          rw [show k = n - 1 from by omega, HUp.out] at hnow2
                          have HInow := hid hnow2
                          obtain ⟨nA, nc', rfl, -⟩ := hnow2
                          rw [HQl.out] at HInow ⊢
                          clear hnow HTs HUp
                          have HB116 := hid (below_to HB109.out hb)
                          have HIp116 := hid (HIp109.out.below hb)
                          have HIw116 := hid (HIw109.out.below hb)
                          have HKp116 := hid (HKp109.out.below hb HKp109.out.lt)
                          have HIa116 := hid (HIa109.out.below hb)
                          have HIn116 := hid (HIn.out.below hb)
                          clear hb HB109 HIp109 HIw109 HKp109 HIa109 HIn
                          have tKp117 := HKp116.out.cell 0
                          rename World => V1
                          have hmk := run_make_row' (P := Try.prog) 24 3 (.int .i64 0) 8 Try.underlying24 Try.info3 rfl .i64 .i64 n (by omega) (by omega)
                          go_wp2
                          clear hmk tKp117
                          rw [Vals_made]
                          obtain ⟨gP, hgP⟩ : ∃ g, V1.heap.size = g := ⟨_, rfl⟩
                          have hgP2 : V1.heap.size ≤ gP := by omega
                          have HStart : Hid (Blk (V1.alloc (.cells (Vals (List.replicate n 0)) 3)) gP 3 (Vals (mkL n (plF ws 0)))) := hid (by
                            rw [show mkL n (plF ws 0) = List.replicate n 0 from (mkL_congr (fun i hi => by simp [plF])).trans (mkL_zero n)]
                            exact Blk.newAt _ _ _ _ hgP.symm)
                          have HBs := hid (below_alloc (Below.refl V1.heap.size V1) (.cells (Vals (List.replicate n 0)) 3))
                          rw [hgP]
                          go_loopw [208] (fun i wr => ∃ k : Nat, k ≤ n ∧ i = .int .i64 (k : Int) ∧ Blk wr gP 3 (Vals (mkL n (plF ws k))) ∧ Below V1.heap.size V1 wr) (fun i _ => n - (intOf i).toNat)
                          case atStart => exact ⟨0, Nat.zero_le _, rfl, HStart.out, HBs.out⟩
                          case round =>
                            obtain ⟨k2, hk2, rfl, hK, hb⟩ := hrel
                            by_cases hlt2 : k2 < n
                            · skip
                              as_aux_lemma =>
                                obtain ⟨bW, oW, rfl⟩ := ints_addr HIw116.out.ints (by intro h0; have := HN.out; rw [h0] at this; simp at this; omega)
                                have ck := ints_cell (HIw116.out.ints.below hb) (show k2 < _ by rw [HN.out]; exact hlt2)
                                have hr := HX.out.rng k2 (by rw [HXl.out]; exact hlt2)
                                rw [HXl.out] at hr
                                rw [hr.1] at ck
                                have hxl := hr.2
                                have HStep := hid (plF_step HX.out (k := k2) (by rw [HXl.out]; exact hlt2))
                                obtain ⟨x, hx⟩ : ∃ x, wN ws k2 = x := ⟨_, rfl⟩
                                rw [hx] at ck hxl HStep
                                have HK := hid hK
                                have HBk := hid hb
                                have hcj : wr.cell? ⟨gP, x, none⟩ = some (.int .i64 ((plF ws k2 x : Nat) : Int)) := by
                                  rw [HK.out.cell, Vals_get (by rw [mkL_length]; exact hxl), mkL_getD hxl]
                                have hfz := HK.out.frozen x
                                have hxi : (x : Int) < (n : Int) := by omega
                                clear hr hx hK hb
                                go_wp2
                                go_roundw
                                case rel => exact ⟨k2 + 1, by omega, by go_num, (by rw [mkL_upd (g := plF ws k2) (h := plF ws (k2 + 1)) k2 hxl (fun i hi => HStep.out i (by rw [HXl.out]; exact hi)), ← Vals_set]; exact HK.out.set_ x (.int .i64 ((k2 : Nat) : Int))), HBk.out.setCell (p := ⟨gP, x, none⟩) hgP2 _⟩
                                case measure => simp [intOf] <;> omega
                            · as_aux_lemma =>
                                obtain rfl : k2 = n := by omega
                                have HPl : Hid (Blk wr gP 3 (Vals (mkL k2 (plN ws)))) := hid (by have h := plF_full HX.out; rw [HXl.out] at h; rw [← h]; exact hK)
                                clear hK hlt2 hk2 HStart HBs hgP hgP2
                                have HB118 := hid (below_to HB116.out hb)
                                have HIp118 := hid (HIp116.out.below hb)
                                have HIw118 := hid (HIw116.out.below hb)
                                have HKp118 := hid (HKp116.out.below hb HKp116.out.lt)
                                have HIa118 := hid (HIa116.out.below hb)
                                have HIn118 := hid (HIn116.out.below hb)
                                have HInow118 := hid (HInow.out.below hb)
                                clear hb HB116 HIp116 HIw116 HKp116 HIa116 HIn116 HInow
                                have tKp119 := HKp118.out.cell 0
                                rename World => V2
                                have hmk := run_make_row' (P := Try.prog) 24 3 (.int .i64 0) 8 Try.underlying24 Try.info3 rfl .i64 .i64 k2 (by omega) (by omega)
                                go_wp2
                                clear hmk tKp119
                                rw [Vals_made]
                                obtain ⟨gS, hgS⟩ : ∃ g, V2.heap.size = g := ⟨_, rfl⟩
                                have hgS2 : V2.heap.size ≤ gS := by omega
                                have HStart : Hid (Blk (V2.alloc (.cells (Vals (List.replicate k2 0)) 3)) gS 3 (Vals (mkL k2 (slF Q 0)))) := hid (by
                                  rw [show mkL k2 (slF Q 0) = List.replicate k2 0 from (mkL_congr (fun i hi => by simp [slF])).trans (mkL_zero k2)]
                                  exact Blk.newAt _ _ _ _ hgS.symm)
                                have HBs := hid (below_alloc (Below.refl V2.heap.size V2) (.cells (Vals (List.replicate k2 0)) 3))
                                rw [hgS]
                                go_loopw [222] (fun i wr => ∃ x : Nat, x ≤ k2 ∧ i = .int .i64 (x : Int) ∧ Blk wr gS 3 (Vals (mkL k2 (slF Q x))) ∧ Below V2.heap.size V2 wr) (fun i _ => k2 - (intOf i).toNat)
                                case atStart => exact ⟨0, Nat.zero_le _, rfl, HStart.out, HBs.out⟩
                                case round =>
                                  obtain ⟨x, hx, rfl, hS, hb⟩ := hrel
                                  by_cases hlt3 : x < k2
                                  · skip
                                    as_aux_lemma =>
                                      have HPw := hid (HPl.out.below hb HPl.out.lt)
                                      have HIc := hid (HIa118.out.below hb)
                                      have HSl := hid hS
                                      have HBk := hid hb
                                      have hpx := (pl_wN HX.out (x := x) (by rw [HXl.out]; exact hlt3)).1
                                      rw [HXl.out] at hpx
                                      obtain ⟨pl, hpl⟩ : ∃ y, plN ws x = y := ⟨_, rfl⟩
                                      have HPn := hid hpl
                                      rw [hpl] at hpx
                                      have cp : wr.cell? ⟨gP, x, none⟩ = some (.int .i64 (pl : Int)) := by
                                        rw [HPw.out.cell, Vals_get (by rw [mkL_length]; exact hlt3), mkL_getD hlt3, hpl]
                                      clear hpl hS hb
                                      go_wp2
                                      clear cp
                                      go_loop [41, 232] (fun q i => ∃ (t : Nat) (a : Int), t ≤ na ∧ i = .int .i64 (t : Int) ∧ q = .int .i64 a ∧ Hid (AtX ch Q k2 pl x t a)) (fun _ i => na - (intOf i).toNat)
                                      case atStart => exact ⟨0, _, Nat.zero_le _, rfl, rfl, hid (AtX.start _ _ _ _ _)⟩
                                      case round =>
                                        obtain ⟨t, a, ht, rfl, rfl, HA⟩ := hrel
                                        by_cases htl : t < na
                                        · skip
                                          as_aux_lemma =>
                                            obtain ⟨y, c1, c2, c3, c4⟩ := at_chain HG.out HX.out (t := t) (by rw [HCh.out, HNa.out]; exact htl)
                                            rw [HCh.out, HNa.out, HXl.out, HPr.out] at c3
                                            rw [HCh.out, HNa.out, HXl.out, HPr.out] at c4
                                            rw [HCh.out] at c1
                                            rw [HXl.out] at c2
                                            obtain ⟨bC, oC, rfl⟩ := ints_addr HIc.out (by intro h0; have := HNa.out; rw [h0] at this; simp at this; omega)
                                            have ck := ints_cell HIc.out (show t < _ by rw [HNa.out]; exact htl)
                                            rw [c1] at ck
                                            by_cases hyx : y = x
                                            · subst hyx
                                              clear HA
                                              by_cases hn3 : t + 1 < na
                                              · obtain ⟨z, a', d1, d2, d3, d4, d5⟩ := c3 hn3
                                                have ck2 := ints_cell HIc.out (show t + 1 < _ by rw [HNa.out]; exact hn3)
                                                rw [d1] at ck2
                                                have cz : wr.cell? ⟨gP, z, none⟩ = some (.int .i64 ((a' + 1 : Nat) : Int)) := by
                                                  rw [HPw.out.cell, Vals_get (by rw [mkL_length]; exact d2), mkL_getD d2, d3]
                                                have HA2 : Hid (AtX ch Q k2 pl y (t + 1) (a' : Int)) := hid (AtX.hit (by omega) d5)
                                                have e9 : ((a' + 1 : Nat) : Int) = (a' : Int) + 1 := by omega
                                                have hti : ((t : Int) + 1).toNat = t + 1 := by omega
                                                have hzi : (z : Int) < (k2 : Int) := by omega
                                                rw [e9] at cz
                                                have hn4 : (t : Int) + 1 < (na : Int) := by omega
                                                clear c1 c3 c4 d1 d3 d5 e9
                                                go_wp2
                                                go_round
                                                case rel => exact ⟨t + 1, (a' : Int), by omega, by go_num, by first | rfl | go_num, HA2⟩
                                                case measure => simp [intOf] <;> omega
                                              · have HA2 : Hid (AtX ch Q k2 pl y (t + 1) ((k2 - 1 : Nat) : Int)) := hid (AtX.hit (by omega) (c4 hn3))
                                                have e9 : ((k2 - 1 : Nat) : Int) = (k2 : Int) - 1 := by omega
                                                rw [e9] at HA2
                                                have hn4 : ¬ (t : Int) + 1 < (na : Int) := by omega
                                                clear c1 c3 c4 e9
                                                go_wp2
                                                go_round
                                                case rel => exact ⟨t + 1, (k2 : Int) - 1, by omega, by go_num, by first | rfl | go_num, HA2⟩
                                                case measure => simp [intOf] <;> omega
                                            · have HA2 := hid (HA.out.miss (by rw [c1]; intro h; exact hyx (Int.ofNat_inj.1 h)))
                                              have hyi : ¬ (y : Int) = (x : Int) := fun h => hyx (Int.ofNat_inj.1 h)
                                              have hyb : ((y : Int) == (x : Int)) = false := beq_eq_false_iff_ne.2 hyi
                                              clear c1 c3 c4 HA
                                              go_wp2
                                              go_round
                                              case rel => exact ⟨t + 1, a, by omega, by go_num, rfl, HA2⟩
                                              case measure => simp [intOf] <;> omega
                                        · as_aux_lemma =>
                                            obtain rfl : t = na := by omega
                                            have hA := HA.out
                                            obtain ⟨j, rfl, hj, hjx⟩ : ∃ j : Nat, a = (j : Int) ∧ j < k2 ∧ wN Q j = x := by
                                              have h := AtX.fin HG.out HX.out (x := x) (t := t) (a := a) (by rw [HXl.out]; exact hlt3) (by rw [HCh.out, HNa.out]) (by rw [HCh.out, HPr.out, HXl.out, HPn.out]; exact hA)
                                              rw [HPr.out, HXl.out] at h
                                              exact h
                                            have HStep := hid (slF_step HQX.out (x := x) (a := j) (by rw [HXl.out]; exact hj) hjx)
                                            have hcj : wr.cell? ⟨gS, j, none⟩ = some (.int .i64 ((slF Q x j : Nat) : Int)) := by
                                              rw [HSl.out.cell, Vals_get (by rw [mkL_length]; exact hj), mkL_getD hj]
                                            have hfz := HSl.out.frozen j
                                            have hji : (j : Int) < (k2 : Int) := by omega
                                            have hjn : ¬ (j : Int) < 0 := by omega
                                            clear hA HA hjx htl ht
                                            go_wp2
                                            go_roundw
                                            case rel => exact ⟨x + 1, by omega, by go_num, (by rw [mkL_upd (g := slF Q x) (h := slF Q (x + 1)) x hj (fun i hi => HStep.out i (by rw [HXl.out]; exact hi)), ← Vals_set]; exact HSl.out.set_ j (.int .i64 ((x : Nat) : Int))), HBk.out.setCell (p := ⟨gS, j, none⟩) hgS2 _⟩
                                            case measure => simp [intOf] <;> omega
                                  · as_aux_lemma =>
                                      obtain rfl : x = k2 := by omega
                                      have HSf : Hid (Blk wr gS 3 (Vals Q)) := hid (by have h := slF_full HQX.out; rw [HXl.out] at h; rw [← h]; exact hS)
                                      have HIs : Hid (Ints wr (.slice (some ⟨gS, 0, none⟩) Q.length x) Q) := hid HSf.out.ints
                                      rw [HQl.out] at HIs
                                      clear hS hlt3 hx HStart HBs hgS hgS2 HSf
                                      have HB120 := hid (below_to HB118.out hb)
                                      have HIp120 := hid (HIp118.out.below hb)
                                      have HIw120 := hid (HIw118.out.below hb)
                                      have HKp120 := hid (HKp118.out.below hb HKp118.out.lt)
                                      have HIa120 := hid (HIa118.out.below hb)
                                      have HIn120 := hid (HIn118.out.below hb)
                                      have HInow120 := hid (HInow118.out.below hb)
                                      have HKq120 := hid (HPl.out.below hb HPl.out.lt)
                                      clear hb HB118 HIp118 HIw118 HKp118 HIa118 HIn118 HInow118 HPl
                                      have tKp121 := HKp120.out.cell 0
                                      have tKq122 := HKq120.out.cell 0
                                      rename World => V3
                                      go_wp2_with fail
                                      refine (oSame_any _ _ Q _ HIn120.out HInow120.out (by rw [HQl.out]; omega)).mono ?_
                                      rintro e w123 ⟨rfl, hb⟩
                                      have HB124 := hid (below_to HB120.out hb)
                                      have HIp124 := hid (HIp120.out.below hb)
                                      have HIw124 := hid (HIw120.out.below hb)
                                      have HKp124 := hid (HKp120.out.below hb HKp120.out.lt)
                                      have HIa124 := hid (HIa120.out.below hb)
                                      have HIn124 := hid (HIn120.out.below hb)
                                      have HInow124 := hid (HInow120.out.below hb)
                                      have HKq124 := hid (HKq120.out.below hb HKq120.out.lt)
                                      have HIs124 := hid (HIs.out.below hb)
                                      clear tKp121 tKq122
                                      clear hb HB120 HIp120 HIw120 HKp120 HIa120 HIn120 HInow120 HKq120 HIs
                                      have tKp125 := HKp124.out.cell 0
                                      have tKq126 := HKq124.out.cell 0
                                      go_wp2_with fail
                                      refine (oSame_any _ _ Q _ HIn124.out HIs124.out (by rw [HQl.out]; omega)).mono ?_
                                      rintro e w127 ⟨rfl, hb⟩
                                      have HB128 := hid (below_to HB124.out hb)
                                      have HIp128 := hid (HIp124.out.below hb)
                                      have HIw128 := hid (HIw124.out.below hb)
                                      have HKp128 := hid (HKp124.out.below hb HKp124.out.lt)
                                      have HIa128 := hid (HIa124.out.below hb)
                                      have HIn128 := hid (HIn124.out.below hb)
                                      have HInow128 := hid (HInow124.out.below hb)
                                      have HKq128 := hid (HKq124.out.below hb HKq124.out.lt)
                                      have HIs128 := hid (HIs124.out.below hb)
                                      clear tKp125 tKq126
                                      clear hb HB124 HIp124 HIw124 HKp124 HIa124 HIn124 HInow124 HKq124 HIs124
                                      have tKp129 := HKp128.out.cell 0
                                      have tKq130 := HKq128.out.cell 0
                                      clear tKp129 tKq130
                                      go_wp2
                                      go_ret
                                      exact ⟨rfl, HB128.out⟩
    · as_aux_lemma =>
        obtain ⟨D, n', f1, f2, f3, f4, f5, f6, f7, f8⟩ := togFacts hok
        obtain rfl : n = n' := HN.out.symm.trans f2
        have HO := hid hok
        have HE := hid f4
        have HO2 := hid f5
        have HE2 := hid f6
        have HO3 := hid f7
        have HD := hid f8
        clear hok f1 f2 f4 f5 f6 f7 f8
        go_wp2_with fail
        refine (implToggleLinear_any _ us _ ws t _ HIp2.out hl HIw2.out Hm.out HWt.out).mono ?_
        rintro e w131 ⟨ua, rfl, ho, hla, hb⟩
        rw [HO.out]
        rw [HE.out] at ho hla
        have HIa := hid ho.ints
        obtain ⟨Aa, ca, rfl, -⟩ := ho.ints
        rw [HD.out] at HIa hla ⊢
        clear ho
        have HB132 := hid (below_to HB2.out hb)
        have HIp132 := hid (HIp2.out.below hb)
        have HIw132 := hid (HIw2.out.below hb)
        have HKp132 := hid (HKp2.out.below hb HKp2.out.lt)
        clear tKp3
        clear hb HB2 HIp2 HIw2 HKp2
        have tKp133 := HKp132.out.cell 0
        go_wp2_with fail
        refine (specToggleLinear_any _ us _ ws t _ HIp132.out hl HIw132.out Hm.out HWt.out).mono ?_
        rintro e w134 ⟨ub, rfl, ho, hlb, hb⟩
        rw [HO.out]
        rw [HE.out] at ho hlb
        have HIb := hid ho.ints
        obtain ⟨Ab, cb, rfl, -⟩ := ho.ints
        rw [HD.out] at HIb hlb ⊢
        clear ho
        have HB135 := hid (below_to HB132.out hb)
        have HIp135 := hid (HIp132.out.below hb)
        have HIw135 := hid (HIw132.out.below hb)
        have HKp135 := hid (HKp132.out.below hb HKp132.out.lt)
        have HIa135 := hid (HIa.out.below hb)
        clear tKp133
        clear hb HB132 HIp132 HIw132 HKp132 HIa
        have tKp136 := HKp135.out.cell 0
        go_wp2_with fail
        refine (oSame_any _ _ D _ HIa135.out HIb.out (by rw [HD.out]; omega)).mono ?_
        rintro e w137 ⟨rfl, hb⟩
        have HB138 := hid (below_to HB135.out hb)
        have HIp138 := hid (HIp135.out.below hb)
        have HIw138 := hid (HIw135.out.below hb)
        have HKp138 := hid (HKp135.out.below hb HKp135.out.lt)
        have HIa138 := hid (HIa135.out.below hb)
        have HIb138 := hid (HIb.out.below hb)
        clear tKp136
        clear hb HB135 HIp135 HIw135 HKp135 HIa135 HIb
        have tKp139 := HKp138.out.cell 0
        go_wp2_with fail
        refine (implToggleLinear_any _ us _ D t _ HIp138.out hl HIa138.out (by rw [HD.out]; omega) HWt.out).mono ?_
        rintro e w140 ⟨uc, rfl, ho, hlc, hb⟩
        rw [HO2.out]
        rw [HE2.out] at ho hlc
        have HIc := hid ho.ints
        obtain ⟨Ac, cc, rfl, -⟩ := ho.ints
        rw [HN.out] at HIc hlc ⊢
        clear ho
        have HB141 := hid (below_to HB138.out hb)
        have HIp141 := hid (HIp138.out.below hb)
        have HIw141 := hid (HIw138.out.below hb)
        have HKp141 := hid (HKp138.out.below hb HKp138.out.lt)
        have HIa141 := hid (HIa138.out.below hb)
        have HIb141 := hid (HIb138.out.below hb)
        clear tKp139
        clear hb HB138 HIp138 HIw138 HKp138 HIa138 HIb138
        have tKp142 := HKp141.out.cell 0
        go_wp2_with fail
        refine (oSame_any _ _ ws _ HIc.out HIw141.out Hm.out).mono ?_
        rintro e w143 ⟨rfl, hb⟩
        have HB144 := hid (below_to HB141.out hb)
        have HIp144 := hid (HIp141.out.below hb)
        have HIw144 := hid (HIw141.out.below hb)
        have HKp144 := hid (HKp141.out.below hb HKp141.out.lt)
        have HIa144 := hid (HIa141.out.below hb)
        have HIb144 := hid (HIb141.out.below hb)
        have HIc144 := hid (HIc.out.below hb)
        clear tKp142
        clear hb HB141 HIp141 HIw141 HKp141 HIa141 HIb141 HIc
        have tKp145 := HKp144.out.cell 0
        go_wp2_with fail
        refine (oLinear_any _ us _ D _ HIp144.out hl HIa144.out (by rw [HD.out]; omega)).mono ?_
        rintro e w146 ⟨rfl, hb⟩
        rw [HO3.out]
        have HB147 := hid (below_to HB144.out hb)
        have HIp147 := hid (HIp144.out.below hb)
        have HIw147 := hid (HIw144.out.below hb)
        have HKp147 := hid (HKp144.out.below hb HKp144.out.lt)
        have HIa147 := hid (HIa144.out.below hb)
        have HIb147 := hid (HIb144.out.below hb)
        have HIc147 := hid (HIc144.out.below hb)
        clear tKp145
        clear hb HB144 HIp144 HIw144 HKp144 HIa144 HIb144 HIc144
        have tKp148 := HKp147.out.cell 0
        clear HO HE Hm HN HWt HWm hl hl21 hm22 ht hla hlb HO2 HE2 HO3 HD f3 hlc tKp148 HIp147 HIw147 HKp147 HIa147 HIb147 HIc147
        as_aux_lemma =>
          go_wp2_with fail
          refine (drawPromoteLinear_any _ xs1 _ (bytes_at HY1.out HB147.out) HS.out.2).mono ?_
          rintro e w149 ⟨u, us, q, ws, t, rfl, ho, hl21, hoq, hm22, ht, hb⟩
          have hl : us.length ≤ 1048576 := by omega
          have HBn := hid (below_to HB147.out hb)
          have HIp := hid ho.ints
          have HIw := hid hoq.ints
          obtain ⟨pA, pc, rfl, -⟩ := ho.ints
          obtain ⟨wA, wc, rfl, -⟩ := hoq.ints
          obtain ⟨n, hn⟩ : ∃ n, ws.length = n := ⟨_, rfl⟩
          have HN := hid hn
          have Hm := hid (show ws.length ≤ 1048576 by omega)
          rw [hn] at HIw hm22 ⊢
          clear ho hoq hb hn HB147
          have HB := HBn
          clear HBn
          have HWt := hid (wf_i64 t (by omega) (by omega))
          have HWm := hid (wf_i64 (-t) (by omega) (by omega))
          obtain ⟨B6, hB6⟩ : ∃ B6, w149.heap.size = B6 := ⟨_, rfl⟩
          go_wp2_with fail
          have HB150 := hid (below_alloc HB.out (.cells #[.slice pA us.length pc] 26))
          have HIp150 := hid (HIp.out.alloc (.cells #[.slice pA us.length pc] 26))
          have HIw150 := hid (HIw.out.alloc (.cells #[.slice pA us.length pc] 26))
          have HKp150 : Hid (Blk (w149.alloc (.cells #[.slice pA us.length pc] 26)) B6 26 #[.slice pA us.length pc]) := hid (by rw [← hB6]; exact Blk.new w149 _ _)
          clear hB6 HB HIp HIw
          have tKp151 := HKp150.out.cell 0
          cases hok : okPL us ws t
          · as_aux_lemma =>
              have HE := hid (ansPL_no hok)
              have HO := hid hok
              clear hok
              go_wp2_with fail
              refine (implPromoteLinear_any _ us _ ws t _ HIp150.out hl HIw150.out Hm.out HWt.out).mono ?_
              rintro e w152 ⟨ua, rfl, ho, hla, hb⟩
              rw [HO.out]
              rw [HE.out] at ho hla
              have HIa := hid ho.ints
              obtain ⟨Aa, ca, rfl, -⟩ := ho.ints
              have HChl := hid hla
              obtain ⟨na, hna⟩ : ∃ n, (([] : List Int)).length = n := ⟨_, rfl⟩
              have HNa := hid hna
              rw [hna] at HIa hla ⊢
              clear ho hna
              have HB153 := hid (below_to HB150.out hb)
              have HIp153 := hid (HIp150.out.below hb)
              have HIw153 := hid (HIw150.out.below hb)
              have HKp153 := hid (HKp150.out.below hb HKp150.out.lt)
              clear tKp151
              clear hb HB150 HIp150 HIw150 HKp150
              have tKp154 := HKp153.out.cell 0
              go_wp2_with fail
              refine (specPromoteLinear_any _ us _ ws t _ HIp153.out hl HIw153.out Hm.out HWt.out).mono ?_
              rintro e w155 ⟨ub, rfl, ho, hlb, hb⟩
              rw [HO.out]
              rw [HE.out] at ho hlb
              have HIb := hid ho.ints
              obtain ⟨Ab, cb, rfl, -⟩ := ho.ints
              obtain ⟨nb, hnb⟩ : ∃ n, (([] : List Int)).length = n := ⟨_, rfl⟩
              rw [hnb] at HIb hlb ⊢
              clear ho hnb
              have HB156 := hid (below_to HB153.out hb)
              have HIp156 := hid (HIp153.out.below hb)
              have HIw156 := hid (HIw153.out.below hb)
              have HKp156 := hid (HKp153.out.below hb HKp153.out.lt)
              have HIa156 := hid (HIa.out.below hb)
              clear tKp154
              clear hb HB153 HIp153 HIw153 HKp153 HIa
              have tKp157 := HKp156.out.cell 0
              go_wp2_with fail
              refine (oSame_any _ _ ([] : List Int) _ HIa156.out HIb.out (by simp)).mono ?_
              rintro e w158 ⟨rfl, hb⟩
              have HB159 := hid (below_to HB156.out hb)
              have HIp159 := hid (HIp156.out.below hb)
              have HIw159 := hid (HIw156.out.below hb)
              have HKp159 := hid (HKp156.out.below hb HKp156.out.lt)
              have HIa159 := hid (HIa156.out.below hb)
              have HIb159 := hid (HIb.out.below hb)
              clear tKp157
              clear hb HB156 HIp156 HIw156 HKp156 HIa156 HIb
              have tKp160 := HKp159.out.cell 0
              clear HO HE Hm HN HWt HWm hl hl21 hm22 ht hla hlb tKp160 HIp159 HIw159 HKp159 HIa159 HIb159
              as_aux_lemma =>
                go_wp2_with fail
                refine (drawSlideOf_any _ xs1 _ (bytes_at HY1.out HB159.out) HS.out.2).mono ?_
                rintro e w161 ⟨u, us, q, ws, rfl, ho, hl21, hoq, hm22, hb⟩
                have hl : us.length ≤ 1048576 := by omega
                have HBn := hid (below_to HB159.out hb)
                have HIp := hid ho.ints
                have HIw := hid hoq
                obtain ⟨pA, pc, rfl, -⟩ := ho.ints
                obtain ⟨wA, wc, rfl, -⟩ := hoq.ints
                obtain ⟨n, hn⟩ : ∃ n, ws.length = n := ⟨_, rfl⟩
                have HN := hid hn
                have Hm := hid (show ws.length ≤ 1048576 by omega)
                rw [hn] at HIw hm22 ⊢
                clear ho hoq hb hn HB159
                have HB := HBn
                clear HBn
                obtain ⟨B7, hB7⟩ : ∃ B7, w161.heap.size = B7 := ⟨_, rfl⟩
                go_wp2_with fail
                have HB162 := hid (below_alloc HB.out (.cells #[.slice pA us.length pc] 26))
                have HIp162 := hid (HIp.out.alloc (.cells #[.slice pA us.length pc] 26))
                have HIw162 := hid (HIw.out.alloc (.cells #[.slice pA us.length pc] 26))
                have HKp162 : Hid (Blk (w161.alloc (.cells #[.slice pA us.length pc] 26)) B7 26 #[.slice pA us.length pc]) := hid (by rw [← hB7]; exact Blk.new w161 _ _)
                clear hB7 HB HIp HIw
                have tKp163 := HKp162.out.cell 0
                cases hok : okLin us ws
                · as_aux_lemma =>
                    have HE := hid (ansSL_no hok)
                    have HO := hid hok
                    clear hok
                    go_wp2_with fail
                    refine (implSlideOf_any _ us _ ws _ HIp162.out hl HIw162.out Hm.out).mono ?_
                    rintro e w164 ⟨ua, rfl, ho, hla, hb⟩
                    rw [HO.out]
                    rw [HE.out] at ho hla
                    have HIa := hid ho.ints
                    obtain ⟨Aa, ca, rfl, -⟩ := ho.ints
                    have HChl := hid hla
                    obtain ⟨na, hna⟩ : ∃ n, (([] : List Int)).length = n := ⟨_, rfl⟩
                    have HNa := hid hna
                    rw [hna] at HIa hla ⊢
                    clear ho hna
                    have HB165 := hid (below_to HB162.out hb)
                    have HIp165 := hid (HIp162.out.below hb)
                    have HIw165 := hid (HIw162.out.below hb)
                    have HKp165 := hid (HKp162.out.below hb HKp162.out.lt)
                    clear tKp163
                    clear hb HB162 HIp162 HIw162 HKp162
                    have tKp166 := HKp165.out.cell 0
                    go_wp2_with fail
                    refine (specSlideOf_any _ us _ ws _ HIp165.out hl HIw165.out.ints Hm.out).mono ?_
                    rintro e w167 ⟨ub, rfl, ho, hlb, hb⟩
                    rw [HO.out]
                    rw [HE.out] at ho hlb
                    have HIb := hid ho.ints
                    obtain ⟨Ab, cb, rfl, -⟩ := ho.ints
                    obtain ⟨nb, hnb⟩ : ∃ n, (([] : List Int)).length = n := ⟨_, rfl⟩
                    rw [hnb] at HIb hlb ⊢
                    clear ho hnb
                    have HB168 := hid (below_to HB165.out hb)
                    have HIp168 := hid (HIp165.out.below hb)
                    have HIw168 := hid (HIw165.out.below hb)
                    have HKp168 := hid (HKp165.out.below hb HKp165.out.lt)
                    have HIa168 := hid (HIa.out.below hb)
                    clear tKp166
                    clear hb HB165 HIp165 HIw165 HKp165 HIa
                    have tKp169 := HKp168.out.cell 0
                    go_wp2_with fail
                    refine (oSame_any _ _ ([] : List Int) _ HIa168.out HIb.out HChl.out).mono ?_
                    rintro e w170 ⟨rfl, hb⟩
                    have HB171 := hid (below_to HB168.out hb)
                    have HIp171 := hid (HIp168.out.below hb)
                    have HIw171 := hid (HIw168.out.below hb)
                    have HKp171 := hid (HKp168.out.below hb HKp168.out.lt)
                    have HIa171 := hid (HIa168.out.below hb)
                    have HIb171 := hid (HIb.out.below hb)
                    clear tKp169
                    clear hb HB168 HIp168 HIw168 HKp168 HIa168 HIb
                    have tKp172 := HKp171.out.cell 0
                    clear HIb171 hlb
                    clear tKp172
                    go_wp2
                    go_ret
                    exact ⟨rfl, HB171.out⟩
                · as_aux_lemma =>
                    obtain ⟨Q, n', hg, hX, hQ, hxl, f2, hn1, hn10, f4, f5, f6, f7, f8, f9⟩ := slideFacts hok
                    obtain rfl : n = n' := HN.out.symm.trans f2
                    have HO := hid hok
                    have HE := hid (ansSL_yes hok)
                    have HG := hid hg
                    have HX := hid hX
                    have HQX := hid hQ
                    have HXl := hid hxl
                    have HO2 := hid f4
                    have HE2 := hid f5
                    have HQl := hid f6
                    have HPr := hid f7
                    have HUp := hid f8
                    have HTs := hid f9
                    obtain ⟨ch, hch⟩ : ∃ l, sliL us ws = l := ⟨_, rfl⟩
                    have HCh := hid hch
                    rw [hch] at HE
                    clear hok hg hX hQ hxl f2 f4 f5 f6 f7 f8 f9 hch
                    go_wp2_with fail
                    refine (implSlideOf_any _ us _ ws _ HIp162.out hl HIw162.out Hm.out).mono ?_
                    rintro e w173 ⟨ua, rfl, ho, hla, hb⟩
                    rw [HO.out]
                    rw [HE.out] at ho hla
                    have HIa := hid ho.ints
                    obtain ⟨Aa, ca, rfl, -⟩ := ho.ints
                    have HChl := hid hla
                    obtain ⟨na, hna⟩ : ∃ n, (ch).length = n := ⟨_, rfl⟩
                    have HNa := hid hna
                    rw [hna] at HIa hla ⊢
                    clear ho hna
                    have HB174 := hid (below_to HB162.out hb)
                    have HIp174 := hid (HIp162.out.below hb)
                    have HIw174 := hid (HIw162.out.below hb)
                    have HKp174 := hid (HKp162.out.below hb HKp162.out.lt)
                    clear tKp163
                    clear hb HB162 HIp162 HIw162 HKp162
                    have tKp175 := HKp174.out.cell 0
                    go_wp2_with fail
                    refine (specSlideOf_any _ us _ ws _ HIp174.out hl HIw174.out.ints Hm.out).mono ?_
                    rintro e w176 ⟨ub, rfl, ho, hlb, hb⟩
                    rw [HO.out]
                    rw [HE.out] at ho hlb
                    have HIb := hid ho.ints
                    obtain ⟨Ab, cb, rfl, -⟩ := ho.ints
                    obtain ⟨nb, hnb⟩ : ∃ n, (ch).length = n := ⟨_, rfl⟩
                    rw [hnb] at HIb hlb ⊢
                    clear ho hnb
                    have HB177 := hid (below_to HB174.out hb)
                    have HIp177 := hid (HIp174.out.below hb)
                    have HIw177 := hid (HIw174.out.below hb)
                    have HKp177 := hid (HKp174.out.below hb HKp174.out.lt)
                    have HIa177 := hid (HIa.out.below hb)
                    clear tKp175
                    clear hb HB174 HIp174 HIw174 HKp174 HIa
                    have tKp178 := HKp177.out.cell 0
                    go_wp2_with fail
                    refine (oSame_any _ _ ch _ HIa177.out HIb.out HChl.out).mono ?_
                    rintro e w179 ⟨rfl, hb⟩
                    have HB180 := hid (below_to HB177.out hb)
                    have HIp180 := hid (HIp177.out.below hb)
                    have HIw180 := hid (HIw177.out.below hb)
                    have HKp180 := hid (HKp177.out.below hb HKp177.out.lt)
                    have HIa180 := hid (HIa177.out.below hb)
                    have HIb180 := hid (HIb.out.below hb)
                    clear tKp178
                    clear hb HB177 HIp177 HIw177 HKp177 HIa177 HIb
                    have tKp181 := HKp180.out.cell 0
                    clear HIb180 hlb
                    go_wp2_with fail
                    refine (implPromoteLinear_any _ us _ ws 1 _ HIp180.out hl HIw180.out.ints Hm.out (wf_i64 _ (by omega) (by omega))).mono ?_
                    rintro e w182 ⟨un, rfl, ho, hln, hb⟩
                    rw [HO2.out]
                    rw [HE2.out] at ho hln
                    have HIn := hid ho.ints
                    obtain ⟨An, cn, rfl, -⟩ := ho.ints
                    rw [HQl.out] at HIn hln ⊢
                    clear ho
                    have HB183 := hid (below_to HB180.out hb)
                    have HIp183 := hid (HIp180.out.below hb)
                    have HIw183 := hid (HIw180.out.below hb)
                    have HKp183 := hid (HKp180.out.below hb HKp180.out.lt)
                    have HIa183 := hid (HIa180.out.below hb)
                    clear tKp181
                    clear hb HB180 HIp180 HIw180 HKp180 HIa180
                    have tKp184 := HKp183.out.cell 0
                    clear HO2 HE2 HO HE
                    go_wp2
                    clear tKp184
                    go_loopw [31, 32] (fun a i wr => ∃ k : Nat, k + 1 ≤ n ∧ i = .int .i64 (k : Int) ∧ Ints wr a (upL us k ws) ∧ Below w182.heap.size w182 wr) (fun _ i _ => n - (intOf i).toNat)
                    case atStart => exact ⟨0, by omega, rfl, HIw183.out.ints, Below.refl _ _⟩
                    case round =>
                      obtain ⟨k, hk, rfl, hnow, hb⟩ := hrel
                      by_cases hlt : k + 1 < n
                      · skip
                        as_aux_lemma =>
                          have HBW0 := hid (Below.refl w182.heap.size w182)
                          obtain ⟨g1, g2, g3⟩ := HTs.out k hlt
                          have HO4 := hid g1
                          have HE4 := hid g2
                          have HL4 := hid g3
                          clear g1 g2 g3
                          have HB185 := hid (below_to HB183.out hb)
                          have HIp185 := hid (HIp183.out.below hb)
                          have HIw185 := hid (HIw183.out.below hb)
                          have HKp185 := hid (HKp183.out.below hb HKp183.out.lt)
                          have HIa185 := hid (HIa183.out.below hb)
                          have HIn185 := hid (HIn.out.below hb)
                          have HBW185 := hid (below_to HBW0.out hb)
                          clear hb HB183 HIp183 HIw183 HKp183 HIa183 HIn HBW0
                          have tKp186 := HKp185.out.cell 0
                          have HInow := hid hnow
                          obtain ⟨nA, nc', rfl, -⟩ := hnow
                          rw [HL4.out] at HInow ⊢
                          go_wp2_with fail
                          refine (implToggleLinear_any _ us _ (upL us k ws) (k : Int) _ HIp185.out hl HInow.out (by rw [HL4.out]; omega) (wf_i64 _ (by omega) (by omega))).mono ?_
                          rintro e w187 ⟨ud, rfl, ho, hld, hb⟩
                          rw [HO4.out]
                          rw [HE4.out] at ho hld
                          have HId := hid ho.ints
                          obtain ⟨Ad, cd, rfl, -⟩ := ho.ints
                          obtain ⟨nd, hnd⟩ : ∃ n, ((upL us (k + 1) ws)).length = n := ⟨_, rfl⟩
                          rw [hnd] at HId hld ⊢
                          clear ho hnd
                          have HB188 := hid (below_to HB185.out hb)
                          have HIp188 := hid (HIp185.out.below hb)
                          have HIw188 := hid (HIw185.out.below hb)
                          have HKp188 := hid (HKp185.out.below hb HKp185.out.lt)
                          have HIa188 := hid (HIa185.out.below hb)
                          have HIn188 := hid (HIn185.out.below hb)
                          have HBW188 := hid (below_to HBW185.out hb)
                          have HInow188 := hid (HInow.out.below hb)
                          clear tKp186
                          clear hb HB185 HIp185 HIw185 HKp185 HIa185 HIn185 HBW185 HInow
                          have tKp189 := HKp188.out.cell 0
                          go_wp2
                          go_roundw
                          case rel => exact ⟨k + 1, by omega, by go_num, HId.out, HBW188.out⟩
                          case measure => simp [intOf] <;> omega
                      · as_aux_lemma =>
                          have hnow2 := hnow
                          rw [show k = n - 1 from by omega, HUp.out] at hnow2
                          have HInow := hid hnow2
                          obtain ⟨nA, nc', rfl, -⟩ := hnow2
                          rw [HQl.out] at HInow ⊢
                          clear hnow HTs HUp
                          have HB190 := hid (below_to HB183.out hb)
                          have HIp190 := hid (HIp183.out.below hb)
                          have HIw190 := hid (HIw183.out.below hb)
                          have HKp190 := hid (HKp183.out.below hb HKp183.out.lt)
                          have HIa190 := hid (HIa183.out.below hb)
                          have HIn190 := hid (HIn.out.below hb)
                          clear hb HB183 HIp183 HIw183 HKp183 HIa183 HIn
                          have tKp191 := HKp190.out.cell 0
                          rename World => V1
                          have hmk := run_make_row' (P := Try.prog) 24 3 (.int .i64 0) 8 Try.underlying24 Try.info3 rfl .i64 .i64 n (by omega) (by omega)
                          go_wp2
                          clear hmk tKp191
                          rw [Vals_made]
                          obtain ⟨gP, hgP⟩ : ∃ g, V1.heap.size = g := ⟨_, rfl⟩
                          have hgP2 : V1.heap.size ≤ gP := by omega
                          have HStart : Hid (Blk (V1.alloc (.cells (Vals (List.replicate n 0)) 3)) gP 3 (Vals (mkL n (plF ws 0)))) := hid (by
                            rw [show mkL n (plF ws 0) = List.replicate n 0 from (mkL_congr (fun i hi => by simp [plF])).trans (mkL_zero n)]
                            exact Blk.newAt _ _ _ _ hgP.symm)
                          have HBs := hid (below_alloc (Below.refl V1.heap.size V1) (.cells (Vals (List.replicate n 0)) 3))
                          rw [hgP]
                          go_loopw [208] (fun i wr => ∃ k : Nat, k ≤ n ∧ i = .int .i64 (k : Int) ∧ Blk wr gP 3 (Vals (mkL n (plF ws k))) ∧ Below V1.heap.size V1 wr) (fun i _ => n - (intOf i).toNat)
                          case atStart => exact ⟨0, Nat.zero_le _, rfl, HStart.out, HBs.out⟩
                          case round =>
                            obtain ⟨k2, hk2, rfl, hK, hb⟩ := hrel
                            by_cases hlt2 : k2 < n
                            · skip
                              as_aux_lemma =>
                                obtain ⟨bW, oW, rfl⟩ := ints_addr HIw190.out.ints (by intro h0; have := HN.out; rw [h0] at this; simp at this; omega)
                                have ck := ints_cell (HIw190.out.ints.below hb) (show k2 < _ by rw [HN.out]; exact hlt2)
                                have hr := HX.out.rng k2 (by rw [HXl.out]; exact hlt2)
                                rw [HXl.out] at hr
                                rw [hr.1] at ck
                                have hxl := hr.2
                                have HStep := hid (plF_step HX.out (k := k2) (by rw [HXl.out]; exact hlt2))
                                obtain ⟨x, hx⟩ : ∃ x, wN ws k2 = x := ⟨_, rfl⟩
                                rw [hx] at ck hxl HStep
                                have HK := hid hK
                                have HBk := hid hb
                                have hcj : wr.cell? ⟨gP, x, none⟩ = some (.int .i64 ((plF ws k2 x : Nat) : Int)) := by
                                  rw [HK.out.cell, Vals_get (by rw [mkL_length]; exact hxl), mkL_getD hxl]
                                have hfz := HK.out.frozen x
                                have hxi : (x : Int) < (n : Int) := by omega
                                clear hr hx hK hb
                                go_wp2
                                go_roundw
                                case rel => exact ⟨k2 + 1, by omega, by go_num, (by rw [mkL_upd (g := plF ws k2) (h := plF ws (k2 + 1)) k2 hxl (fun i hi => HStep.out i (by rw [HXl.out]; exact hi)), ← Vals_set]; exact HK.out.set_ x (.int .i64 ((k2 : Nat) : Int))), HBk.out.setCell (p := ⟨gP, x, none⟩) hgP2 _⟩
                                case measure => simp [intOf] <;> omega
                            · as_aux_lemma =>
                                obtain rfl : k2 = n := by omega
                                have HPl : Hid (Blk wr gP 3 (Vals (mkL k2 (plN ws)))) := hid (by have h := plF_full HX.out; rw [HXl.out] at h; rw [← h]; exact hK)
                                clear hK hlt2 hk2 HStart HBs hgP hgP2
                                have HB192 := hid (below_to HB190.out hb)
                                have HIp192 := hid (HIp190.out.below hb)
                                have HIw192 := hid (HIw190.out.below hb)
                                have HKp192 := hid (HKp190.out.below hb HKp190.out.lt)
                                have HIa192 := hid (HIa190.out.below hb)
                                have HIn192 := hid (HIn190.out.below hb)
                                have HInow192 := hid (HInow.out.below hb)
                                clear hb HB190 HIp190 HIw190 HKp190 HIa190 HIn190 HInow
                                have tKp193 := HKp192.out.cell 0
                                rename World => V2
                                have hmk := run_make_row' (P := Try.prog) 24 3 (.int .i64 0) 8 Try.underlying24 Try.info3 rfl .i64 .i64 k2 (by omega) (by omega)
                                go_wp2
                                clear hmk tKp193
                                rw [Vals_made]
                                obtain ⟨gS, hgS⟩ : ∃ g, V2.heap.size = g := ⟨_, rfl⟩
                                have hgS2 : V2.heap.size ≤ gS := by omega
                                have HStart : Hid (Blk (V2.alloc (.cells (Vals (List.replicate k2 0)) 3)) gS 3 (Vals (mkL k2 (slF Q 0)))) := hid (by
                                  rw [show mkL k2 (slF Q 0) = List.replicate k2 0 from (mkL_congr (fun i hi => by simp [slF])).trans (mkL_zero k2)]
                                  exact Blk.newAt _ _ _ _ hgS.symm)
                                have HBs := hid (below_alloc (Below.refl V2.heap.size V2) (.cells (Vals (List.replicate k2 0)) 3))
                                rw [hgS]
                                go_loopw [222] (fun i wr => ∃ x : Nat, x ≤ k2 ∧ i = .int .i64 (x : Int) ∧ Blk wr gS 3 (Vals (mkL k2 (slF Q x))) ∧ Below V2.heap.size V2 wr) (fun i _ => k2 - (intOf i).toNat)
                                case atStart => exact ⟨0, Nat.zero_le _, rfl, HStart.out, HBs.out⟩
                                case round =>
                                  obtain ⟨x, hx, rfl, hS, hb⟩ := hrel
                                  by_cases hlt3 : x < k2
                                  · skip
                                    as_aux_lemma =>
                                      have HPw := hid (HPl.out.below hb HPl.out.lt)
                                      have HIc := hid (HIa192.out.below hb)
                                      have HSl := hid hS
                                      have HBk := hid hb
                                      have hpx := (pl_wN HX.out (x := x) (by rw [HXl.out]; exact hlt3)).1
                                      rw [HXl.out] at hpx
                                      obtain ⟨pl, hpl⟩ : ∃ y, plN ws x = y := ⟨_, rfl⟩
                                      have HPn := hid hpl
                                      rw [hpl] at hpx
                                      have cp : wr.cell? ⟨gP, x, none⟩ = some (.int .i64 (pl : Int)) := by
                                        rw [HPw.out.cell, Vals_get (by rw [mkL_length]; exact hlt3), mkL_getD hlt3, hpl]
                                      clear hpl hS hb
                                      go_wp2
                                      clear cp
                                      go_loop [41, 232] (fun q i => ∃ (t : Nat) (a : Int), t ≤ na ∧ i = .int .i64 (t : Int) ∧ q = .int .i64 a ∧ Hid (AtX ch Q k2 pl x t a)) (fun _ i => na - (intOf i).toNat)
                                      case atStart => exact ⟨0, _, Nat.zero_le _, rfl, rfl, hid (AtX.start _ _ _ _ _)⟩
                                      case round =>
                                        obtain ⟨t, a, ht, rfl, rfl, HA⟩ := hrel
                                        by_cases htl : t < na
                                        · skip
                                          as_aux_lemma =>
                                            obtain ⟨y, c1, c2, c3, c4⟩ := at_chain HG.out HX.out (t := t) (by rw [HCh.out, HNa.out]; exact htl)
                                            rw [HCh.out, HNa.out, HXl.out, HPr.out] at c3
                                            rw [HCh.out, HNa.out, HXl.out, HPr.out] at c4
                                            rw [HCh.out] at c1
                                            rw [HXl.out] at c2
                                            obtain ⟨bC, oC, rfl⟩ := ints_addr HIc.out (by intro h0; have := HNa.out; rw [h0] at this; simp at this; omega)
                                            have ck := ints_cell HIc.out (show t < _ by rw [HNa.out]; exact htl)
                                            rw [c1] at ck
                                            by_cases hyx : y = x
                                            · subst hyx
                                              clear HA
                                              by_cases hn3 : t + 1 < na
                                              · obtain ⟨z, a', d1, d2, d3, d4, d5⟩ := c3 hn3
                                                have ck2 := ints_cell HIc.out (show t + 1 < _ by rw [HNa.out]; exact hn3)
                                                rw [d1] at ck2
                                                have cz : wr.cell? ⟨gP, z, none⟩ = some (.int .i64 ((a' + 1 : Nat) : Int)) := by
                                                  rw [HPw.out.cell, Vals_get (by rw [mkL_length]; exact d2), mkL_getD d2, d3]
                                                have HA2 : Hid (AtX ch Q k2 pl y (t + 1) (a' : Int)) := hid (AtX.hit (by omega) d5)
                                                have e9 : ((a' + 1 : Nat) : Int) = (a' : Int) + 1 := by omega
                                                have hti : ((t : Int) + 1).toNat = t + 1 := by omega
                                                have hzi : (z : Int) < (k2 : Int) := by omega
                                                rw [e9] at cz
                                                have hn4 : (t : Int) + 1 < (na : Int) := by omega
                                                clear c1 c3 c4 d1 d3 d5 e9
                                                go_wp2
                                                go_round
                                                case rel => exact ⟨t + 1, (a' : Int), by omega, by go_num, by first | rfl | go_num, HA2⟩
                                                case measure => simp [intOf] <;> omega
                                              · have HA2 : Hid (AtX ch Q k2 pl y (t + 1) ((k2 - 1 : Nat) : Int)) := hid (AtX.hit (by omega) (c4 hn3))
                                                have e9 : ((k2 - 1 : Nat) : Int) = (k2 : Int) - 1 := by omega
                                                rw [e9] at HA2
                                                have hn4 : ¬ (t : Int) + 1 < (na : Int) := by omega
                                                clear c1 c3 c4 e9
                                                go_wp2
                                                go_round
                                                case rel => exact ⟨t + 1, (k2 : Int) - 1, by omega, by go_num, by first | rfl | go_num, HA2⟩
                                                case measure => simp [intOf] <;> omega
                                            · have HA2 := hid (HA.out.miss (by rw [c1]; intro h; exact hyx (Int.ofNat_inj.1 h)))
                                              have hyi : ¬ (y : Int) = (x : Int) := fun h => hyx (Int.ofNat_inj.1 h)
                                              have hyb : ((y : Int) == (x : Int)) = false := beq_eq_false_iff_ne.2 hyi
                                              clear c1 c3 c4 HA
                                              go_wp2
                                              go_round
                                              case rel => exact ⟨t + 1, a, by omega, by go_num, rfl, HA2⟩
                                              case measure => simp [intOf] <;> omega
                                        · as_aux_lemma =>
                                            obtain rfl : t = na := by omega
                                            have hA := HA.out
                                            obtain ⟨j, rfl, hj, hjx⟩ : ∃ j : Nat, a = (j : Int) ∧ j < k2 ∧ wN Q j = x := by
                                              have h := AtX.fin HG.out HX.out (x := x) (t := t) (a := a) (by rw [HXl.out]; exact hlt3) (by rw [HCh.out, HNa.out]) (by rw [HCh.out, HPr.out, HXl.out, HPn.out]; exact hA)
                                              rw [HPr.out, HXl.out] at h
                                              exact h
                                            have HStep := hid (slF_step HQX.out (x := x) (a := j) (by rw [HXl.out]; exact hj) hjx)
                                            have hcj : wr.cell? ⟨gS, j, none⟩ = some (.int .i64 ((slF Q x j : Nat) : Int)) := by
                                              rw [HSl.out.cell, Vals_get (by rw [mkL_length]; exact hj), mkL_getD hj]
                                            have hfz := HSl.out.frozen j
                                            have hji : (j : Int) < (k2 : Int) := by omega
                                            have hjn : ¬ (j : Int) < 0 := by omega
                                            clear hA HA hjx htl ht
                                            go_wp2
                                            go_roundw
                                            case rel => exact ⟨x + 1, by omega, by go_num, (by rw [mkL_upd (g := slF Q x) (h := slF Q (x + 1)) x hj (fun i hi => HStep.out i (by rw [HXl.out]; exact hi)), ← Vals_set]; exact HSl.out.set_ j (.int .i64 ((x : Nat) : Int))), HBk.out.setCell (p := ⟨gS, j, none⟩) hgS2 _⟩
                                            case measure => simp [intOf] <;> omega
                                  · as_aux_lemma =>
                                      obtain rfl : x = k2 := by omega
                                      have HSf : Hid (Blk wr gS 3 (Vals Q)) := hid (by have h := slF_full HQX.out; rw [HXl.out] at h; rw [← h]; exact hS)
                                      have HIs : Hid (Ints wr (.slice (some ⟨gS, 0, none⟩) Q.length x) Q) := hid HSf.out.ints
                                      rw [HQl.out] at HIs
                                      clear hS hlt3 hx HStart HBs hgS hgS2 HSf
                                      have HB194 := hid (below_to HB192.out hb)
                                      have HIp194 := hid (HIp192.out.below hb)
                                      have HIw194 := hid (HIw192.out.below hb)
                                      have HKp194 := hid (HKp192.out.below hb HKp192.out.lt)
                                      have HIa194 := hid (HIa192.out.below hb)
                                      have HIn194 := hid (HIn192.out.below hb)
                                      have HInow194 := hid (HInow192.out.below hb)
                                      have HKq194 := hid (HPl.out.below hb HPl.out.lt)
                                      clear hb HB192 HIp192 HIw192 HKp192 HIa192 HIn192 HInow192 HPl
                                      have tKp195 := HKp194.out.cell 0
                                      have tKq196 := HKq194.out.cell 0
                                      rename World => V3
                                      go_wp2_with fail
                                      refine (oSame_any _ _ Q _ HIn194.out HInow194.out (by rw [HQl.out]; omega)).mono ?_
                                      rintro e w197 ⟨rfl, hb⟩
                                      have HB198 := hid (below_to HB194.out hb)
                                      have HIp198 := hid (HIp194.out.below hb)
                                      have HIw198 := hid (HIw194.out.below hb)
                                      have HKp198 := hid (HKp194.out.below hb HKp194.out.lt)
                                      have HIa198 := hid (HIa194.out.below hb)
                                      have HIn198 := hid (HIn194.out.below hb)
                                      have HInow198 := hid (HInow194.out.below hb)
                                      have HKq198 := hid (HKq194.out.below hb HKq194.out.lt)
                                      have HIs198 := hid (HIs.out.below hb)
                                      clear tKp195 tKq196
                                      clear hb HB194 HIp194 HIw194 HKp194 HIa194 HIn194 HInow194 HKq194 HIs
                                      have tKp199 := HKp198.out.cell 0
                                      have tKq200 := HKq198.out.cell 0
                                      go_wp2_with fail
                                      refine (oSame_any _ _ Q _ HIn198.out HIs198.out (by rw [HQl.out]; omega)).mono ?_
                                      rintro e w201 ⟨rfl, hb⟩
                                      have HB202 := hid (below_to HB198.out hb)
                                      have HIp202 := hid (HIp198.out.below hb)
                                      have HIw202 := hid (HIw198.out.below hb)
                                      have HKp202 := hid (HKp198.out.below hb HKp198.out.lt)
                                      have HIa202 := hid (HIa198.out.below hb)
                                      have HIn202 := hid (HIn198.out.below hb)
                                      have HInow202 := hid (HInow198.out.below hb)
                                      have HKq202 := hid (HKq198.out.below hb HKq198.out.lt)
                                      have HIs202 := hid (HIs198.out.below hb)
                                      clear tKp199 tKq200
                                      clear hb HB198 HIp198 HIw198 HKp198 HIa198 HIn198 HInow198 HKq198 HIs198
                                      have tKp203 := HKp202.out.cell 0
                                      have tKq204 := HKq202.out.cell 0
                                      clear tKp203 tKq204
                                      go_wp2
                                      go_ret
                                      exact ⟨rfl, HB202.out⟩
          · as_aux_lemma =>
              obtain ⟨D, n', f1, f2, f3, fb, f4, f5, f6, f7, f8⟩ := promFacts hok
              obtain rfl : n = n' := HN.out.symm.trans f2
              have HO := hid hok
              have HE := hid f4
              have HO2 := hid f5
              have HE2 := hid f6
              have HO3 := hid f7
              have HD := hid f8
              clear hok f1 f2 f4 f5 f6 f7 f8 fb
              go_wp2_with fail
              refine (implPromoteLinear_any _ us _ ws t _ HIp150.out hl HIw150.out Hm.out HWt.out).mono ?_
              rintro e w205 ⟨ua, rfl, ho, hla, hb⟩
              rw [HO.out]
              rw [HE.out] at ho hla
              have HIa := hid ho.ints
              obtain ⟨Aa, ca, rfl, -⟩ := ho.ints
              rw [HD.out] at HIa hla ⊢
              clear ho
              have HB206 := hid (below_to HB150.out hb)
              have HIp206 := hid (HIp150.out.below hb)
              have HIw206 := hid (HIw150.out.below hb)
              have HKp206 := hid (HKp150.out.below hb HKp150.out.lt)
              clear tKp151
              clear hb HB150 HIp150 HIw150 HKp150
              have tKp207 := HKp206.out.cell 0
              go_wp2_with fail
              refine (specPromoteLinear_any _ us _ ws t _ HIp206.out hl HIw206.out Hm.out HWt.out).mono ?_
              rintro e w208 ⟨ub, rfl, ho, hlb, hb⟩
              rw [HO.out]
              rw [HE.out] at ho hlb
              have HIb := hid ho.ints
              obtain ⟨Ab, cb, rfl, -⟩ := ho.ints
              rw [HD.out] at HIb hlb ⊢
              clear ho
              have HB209 := hid (below_to HB206.out hb)
              have HIp209 := hid (HIp206.out.below hb)
              have HIw209 := hid (HIw206.out.below hb)
              have HKp209 := hid (HKp206.out.below hb HKp206.out.lt)
              have HIa209 := hid (HIa.out.below hb)
              clear tKp207
              clear hb HB206 HIp206 HIw206 HKp206 HIa
              have tKp210 := HKp209.out.cell 0
              go_wp2_with fail
              refine (oSame_any _ _ D _ HIa209.out HIb.out (by rw [HD.out]; omega)).mono ?_
              rintro e w211 ⟨rfl, hb⟩
              have HB212 := hid (below_to HB209.out hb)
              have HIp212 := hid (HIp209.out.below hb)
              have HIw212 := hid (HIw209.out.below hb)
              have HKp212 := hid (HKp209.out.below hb HKp209.out.lt)
              have HIa212 := hid (HIa209.out.below hb)
              have HIb212 := hid (HIb.out.below hb)
              clear tKp210
              clear hb HB209 HIp209 HIw209 HKp209 HIa209 HIb
              have tKp213 := HKp212.out.cell 0
              go_wp2_with fail
              refine (implPromoteLinear_any _ us _ D (-t) _ HIp212.out hl HIa212.out (by rw [HD.out]; omega) HWm.out).mono ?_
              rintro e w214 ⟨uc, rfl, ho, hlc, hb⟩
              rw [HO2.out]
              rw [HE2.out] at ho hlc
              have HIc := hid ho.ints
              obtain ⟨Ac, cc, rfl, -⟩ := ho.ints
              rw [HN.out] at HIc hlc ⊢
              clear ho
              have HB215 := hid (below_to HB212.out hb)
              have HIp215 := hid (HIp212.out.below hb)
              have HIw215 := hid (HIw212.out.below hb)
              have HKp215 := hid (HKp212.out.below hb HKp212.out.lt)
              have HIa215 := hid (HIa212.out.below hb)
              have HIb215 := hid (HIb212.out.below hb)
              clear tKp213
              clear hb HB212 HIp212 HIw212 HKp212 HIa212 HIb212
              have tKp216 := HKp215.out.cell 0
              go_wp2_with fail
              refine (oSame_any _ _ ws _ HIc.out HIw215.out Hm.out).mono ?_
              rintro e w217 ⟨rfl, hb⟩
              have HB218 := hid (below_to HB215.out hb)
              have HIp218 := hid (HIp215.out.below hb)
              have HIw218 := hid (HIw215.out.below hb)
              have HKp218 := hid (HKp215.out.below hb HKp215.out.lt)
              have HIa218 := hid (HIa215.out.below hb)
              have HIb218 := hid (HIb215.out.below hb)
              have HIc218 := hid (HIc.out.below hb)
              clear tKp216
              clear hb HB215 HIp215 HIw215 HKp215 HIa215 HIb215 HIc
              have tKp219 := HKp218.out.cell 0
              go_wp2_with fail
              refine (oLinear_any _ us _ D _ HIp218.out hl HIa218.out (by rw [HD.out]; omega)).mono ?_
              rintro e w220 ⟨rfl, hb⟩
              rw [HO3.out]
              have HB221 := hid (below_to HB218.out hb)
              have HIp221 := hid (HIp218.out.below hb)
              have HIw221 := hid (HIw218.out.below hb)
              have HKp221 := hid (HKp218.out.below hb HKp218.out.lt)
              have HIa221 := hid (HIa218.out.below hb)
              have HIb221 := hid (HIb218.out.below hb)
              have HIc221 := hid (HIc218.out.below hb)
              clear tKp219
              clear hb HB218 HIp218 HIw218 HKp218 HIa218 HIb218 HIc218
              have tKp222 := HKp221.out.cell 0
              clear HO HE Hm HN HWt HWm hl hl21 hm22 ht hla hlb HO2 HE2 HO3 HD f3 hlc tKp222 HIp221 HIw221 HKp221 HIa221 HIb221 HIc221
              as_aux_lemma =>
                go_wp2_with fail
                refine (drawSlideOf_any _ xs1 _ (bytes_at HY1.out HB221.out) HS.out.2).mono ?_
                rintro e w223 ⟨u, us, q, ws, rfl, ho, hl21, hoq, hm22, hb⟩
                have hl : us.length ≤ 1048576 := by omega
                have HBn := hid (below_to HB221.out hb)
                have HIp := hid ho.ints
                have HIw := hid hoq
                obtain ⟨pA, pc, rfl, -⟩ := ho.ints
                obtain ⟨wA, wc, rfl, -⟩ := hoq.ints
                obtain ⟨n, hn⟩ : ∃ n, ws.length = n := ⟨_, rfl⟩
                have HN := hid hn
                have Hm := hid (show ws.length ≤ 1048576 by omega)
                rw [hn] at HIw hm22 ⊢
                clear ho hoq hb hn HB221
                have HB := HBn
                clear HBn
                obtain ⟨B7, hB7⟩ : ∃ B7, w223.heap.size = B7 := ⟨_, rfl⟩
                go_wp2_with fail
                have HB224 := hid (below_alloc HB.out (.cells #[.slice pA us.length pc] 26))
                have HIp224 := hid (HIp.out.alloc (.cells #[.slice pA us.length pc] 26))
                have HIw224 := hid (HIw.out.alloc (.cells #[.slice pA us.length pc] 26))
                have HKp224 : Hid (Blk (w223.alloc (.cells #[.slice pA us.length pc] 26)) B7 26 #[.slice pA us.length pc]) := hid (by rw [← hB7]; exact Blk.new w223 _ _)
                clear hB7 HB HIp HIw
                have tKp225 := HKp224.out.cell 0
                cases hok : okLin us ws
                · as_aux_lemma =>
                    have HE := hid (ansSL_no hok)
                    have HO := hid hok
                    clear hok
                    go_wp2_with fail
                    refine (implSlideOf_any _ us _ ws _ HIp224.out hl HIw224.out Hm.out).mono ?_
                    rintro e w226 ⟨ua, rfl, ho, hla, hb⟩
                    rw [HO.out]
                    rw [HE.out] at ho hla
                    have HIa := hid ho.ints
                    obtain ⟨Aa, ca, rfl, -⟩ := ho.ints
                    have HChl := hid hla
                    obtain ⟨na, hna⟩ : ∃ n, (([] : List Int)).length = n := ⟨_, rfl⟩
                    have HNa := hid hna
                    rw [hna] at HIa hla ⊢
                    clear ho hna
                    have HB227 := hid (below_to HB224.out hb)
                    have HIp227 := hid (HIp224.out.below hb)
                    have HIw227 := hid (HIw224.out.below hb)
                    have HKp227 := hid (HKp224.out.below hb HKp224.out.lt)
                    clear tKp225
                    clear hb HB224 HIp224 HIw224 HKp224
                    have tKp228 := HKp227.out.cell 0
                    go_wp2_with fail
                    refine (specSlideOf_any _ us _ ws _ HIp227.out hl HIw227.out.ints Hm.out).mono ?_
                    rintro e w229 ⟨ub, rfl, ho, hlb, hb⟩
                    rw [HO.out]
                    rw [HE.out] at ho hlb
                    have HIb := hid ho.ints
                    obtain ⟨Ab, cb, rfl, -⟩ := ho.ints
                    obtain ⟨nb, hnb⟩ : ∃ n, (([] : List Int)).length = n := ⟨_, rfl⟩
                    rw [hnb] at HIb hlb ⊢
                    clear ho hnb
                    have HB230 := hid (below_to HB227.out hb)
                    have HIp230 := hid (HIp227.out.below hb)
                    have HIw230 := hid (HIw227.out.below hb)
                    have HKp230 := hid (HKp227.out.below hb HKp227.out.lt)
                    have HIa230 := hid (HIa.out.below hb)
                    clear tKp228
                    clear hb HB227 HIp227 HIw227 HKp227 HIa
                    have tKp231 := HKp230.out.cell 0
                    go_wp2_with fail
                    refine (oSame_any _ _ ([] : List Int) _ HIa230.out HIb.out HChl.out).mono ?_
                    rintro e w232 ⟨rfl, hb⟩
                    have HB233 := hid (below_to HB230.out hb)
                    have HIp233 := hid (HIp230.out.below hb)
                    have HIw233 := hid (HIw230.out.below hb)
                    have HKp233 := hid (HKp230.out.below hb HKp230.out.lt)
                    have HIa233 := hid (HIa230.out.below hb)
                    have HIb233 := hid (HIb.out.below hb)
                    clear tKp231
                    clear hb HB230 HIp230 HIw230 HKp230 HIa230 HIb
                    have tKp234 := HKp233.out.cell 0
                    clear HIb233 hlb
                    clear tKp234
                    go_wp2
                    go_ret
                    exact ⟨rfl, HB233.out⟩
                · as_aux_lemma =>
                    obtain ⟨Q, n', hg, hX, hQ, hxl, f2, hn1, hn10, f4, f5, f6, f7, f8, f9⟩ := slideFacts hok
                    obtain rfl : n = n' := HN.out.symm.trans f2
                    have HO := hid hok
                    have HE := hid (ansSL_yes hok)
                    have HG := hid hg
                    have HX := hid hX
                    have HQX := hid hQ
                    have HXl := hid hxl
                    have HO2 := hid f4
                    have HE2 := hid f5
                    have HQl := hid f6
                    have HPr := hid f7
                    have HUp := hid f8
                    have HTs := hid f9
                    obtain ⟨ch, hch⟩ : ∃ l, sliL us ws = l := ⟨_, rfl⟩
                    have HCh := hid hch
                    rw [hch] at HE
                    clear hok hg hX hQ hxl f2 f4 f5 f6 f7 f8 f9 hch
                    go_wp2_with fail
                    refine (implSlideOf_any _ us _ ws _ HIp224.out hl HIw224.out Hm.out).mono ?_
                    rintro e w235 ⟨ua, rfl, ho, hla, hb⟩
                    rw [HO.out]
                    rw [HE.out] at ho hla
                    have HIa := hid ho.ints
                    obtain ⟨Aa, ca, rfl, -⟩ := ho.ints
                    have HChl := hid hla
                    obtain ⟨na, hna⟩ : ∃ n, (ch).length = n := ⟨_, rfl⟩
                    have HNa := hid hna
                    rw [hna] at HIa hla ⊢
                    clear ho hna
                    have HB236 := hid (below_to HB224.out hb)
                    have HIp236 := hid (HIp224.out.below hb)
                    have HIw236 := hid (HIw224.out.below hb)
                    have HKp236 := hid (HKp224.out.below hb HKp224.out.lt)
                    clear tKp225
                    clear hb HB224 HIp224 HIw224 HKp224
                    have tKp237 := HKp236.out.cell 0
                    go_wp2_with fail
                    refine (specSlideOf_any _ us _ ws _ HIp236.out hl HIw236.out.ints Hm.out).mono ?_
                    rintro e w238 ⟨ub, rfl, ho, hlb, hb⟩
                    rw [HO.out]
                    rw [HE.out] at ho hlb
                    have HIb := hid ho.ints
                    obtain ⟨Ab, cb, rfl, -⟩ := ho.ints
                    obtain ⟨nb, hnb⟩ : ∃ n, (ch).length = n := ⟨_, rfl⟩
                    rw [hnb] at HIb hlb ⊢
                    clear ho hnb
                    have HB239 := hid (below_to HB236.out hb)
                    have HIp239 := hid (HIp236.out.below hb)
                    have HIw239 := hid (HIw236.out.below hb)
                    have HKp239 := hid (HKp236.out.below hb HKp236.out.lt)
                    have HIa239 := hid (HIa.out.below hb)
                    clear tKp237
                    clear hb HB236 HIp236 HIw236 HKp236 HIa
                    have tKp240 := HKp239.out.cell 0
                    go_wp2_with fail
                    refine (oSame_any _ _ ch _ HIa239.out HIb.out HChl.out).mono ?_
                    rintro e w241 ⟨rfl, hb⟩
                    have HB242 := hid (below_to HB239.out hb)
                    have HIp242 := hid (HIp239.out.below hb)
                    have HIw242 := hid (HIw239.out.below hb)
                    have HKp242 := hid (HKp239.out.below hb HKp239.out.lt)
                    have HIa242 := hid (HIa239.out.below hb)
                    have HIb242 := hid (HIb.out.below hb)
                    clear tKp240
                    clear hb HB239 HIp239 HIw239 HKp239 HIa239 HIb
                    have tKp243 := HKp242.out.cell 0
                    clear HIb242 hlb
                    go_wp2_with fail
                    refine (implPromoteLinear_any _ us _ ws 1 _ HIp242.out hl HIw242.out.ints Hm.out (wf_i64 _ (by omega) (by omega))).mono ?_
                    rintro e w244 ⟨un, rfl, ho, hln, hb⟩
                    rw [HO2.out]
                    rw [HE2.out] at ho hln
                    have HIn := hid ho.ints
                    obtain ⟨An, cn, rfl, -⟩ := ho.ints
                    rw [HQl.out] at HIn hln ⊢
                    clear ho
                    have HB245 := hid (below_to HB242.out hb)
                    have HIp245 := hid (HIp242.out.below hb)
                    have HIw245 := hid (HIw242.out.below hb)
                    have HKp245 := hid (HKp242.out.below hb HKp242.out.lt)
                    have HIa245 := hid (HIa242.out.below hb)
                    clear tKp243
                    clear hb HB242 HIp242 HIw242 HKp242 HIa242
                    have tKp246 := HKp245.out.cell 0
                    clear HO2 HE2 HO HE
                    go_wp2
                    clear tKp246
                    go_loopw [31, 32] (fun a i wr => ∃ k : Nat, k + 1 ≤ n ∧ i = .int .i64 (k : Int) ∧ Ints wr a (upL us k ws) ∧ Below w244.heap.size w244 wr) (fun _ i _ => n - (intOf i).toNat)
                    case atStart => exact ⟨0, by omega, rfl, HIw245.out.ints, Below.refl _ _⟩
                    case round =>
                      obtain ⟨k, hk, rfl, hnow, hb⟩ := hrel
                      by_cases hlt : k + 1 < n
                      · skip
                        as_aux_lemma =>
                          have HBW0 := hid (Below.refl w244.heap.size w244)
                          obtain ⟨g1, g2, g3⟩ := HTs.out k hlt
                          have HO4 := hid g1
                          have HE4 := hid g2
                          have HL4 := hid g3
                          clear g1 g2 g3
                          have HB247 := hid (below_to HB245.out hb)
                          have HIp247 := hid (HIp245.out.below hb)
                          have HIw247 := hid (HIw245.out.below hb)
                          have HKp247 := hid (HKp245.out.below hb HKp245.out.lt)
                          have HIa247 := hid (HIa245.out.below hb)
                          have HIn247 := hid (HIn.out.below hb)
                          have HBW247 := hid (below_to HBW0.out hb)
                          clear hb HB245 HIp245 HIw245 HKp245 HIa245 HIn HBW0
                          have tKp248 := HKp247.out.cell 0
                          have HInow := hid hnow
                          obtain ⟨nA, nc', rfl, -⟩ := hnow
                          rw [HL4.out] at HInow ⊢
                          go_wp2_with fail
                          refine (implToggleLinear_any _ us _ (upL us k ws) (k : Int) _ HIp247.out hl HInow.out (by rw [HL4.out]; omega) (wf_i64 _ (by omega) (by omega))).mono ?_
                          rintro e w249 ⟨ud, rfl, ho, hld, hb⟩
                          rw [HO4.out]
                          rw [HE4.out] at ho hld
                          have HId := hid ho.ints
                          obtain ⟨Ad, cd, rfl, -⟩ := ho.ints
                          obtain ⟨nd, hnd⟩ : ∃ n, ((upL us (k + 1) ws)).length = n := ⟨_, rfl⟩
                          rw [hnd] at HId hld ⊢
                          clear ho hnd
                          have HB250 := hid (below_to HB247.out hb)
                          have HIp250 := hid (HIp247.out.below hb)
                          have HIw250 := hid (HIw247.out.below hb)
                          have HKp250 := hid (HKp247.out.below hb HKp247.out.lt)
                          have HIa250 := hid (HIa247.out.below hb)
                          have HIn250 := hid (HIn247.out.below hb)
                          have HBW250 := hid (below_to HBW247.out hb)
                          have HInow250 := hid (HInow.out.below hb)
                          clear tKp248
                          clear hb HB247 HIp247 HIw247 HKp247 HIa247 HIn247 HBW247 HInow
                          have tKp251 := HKp250.out.cell 0
                          go_wp2
                          go_roundw
                          case rel => exact ⟨k + 1, by omega, by go_num, HId.out, HBW250.out⟩
                          case measure => simp [intOf] <;> omega
                      · as_aux_lemma =>
                          have hnow2 := hnow
                          rw [show k = n - 1 from by omega, HUp.out] at hnow2
                          have HInow := hid hnow2
                          obtain ⟨nA, nc', rfl, -⟩ := hnow2
                          rw [HQl.out] at HInow ⊢
                          clear hnow HTs HUp
                          have HB252 := hid (below_to HB245.out hb)
                          have HIp252 := hid (HIp245.out.below hb)
                          have HIw252 := hid (HIw245.out.below hb)
                          have HKp252 := hid (HKp245.out.below hb HKp245.out.lt)
                          have HIa252 := hid (HIa245.out.below hb)
                          have HIn252 := hid (HIn.out.below hb)
                          clear hb HB245 HIp245 HIw245 HKp245 HIa245 HIn
                          have tKp253 := HKp252.out.cell 0
                          rename World => V1
                          have hmk := run_make_row' (P := Try.prog) 24 3 (.int .i64 0) 8 Try.underlying24 Try.info3 rfl .i64 .i64 n (by omega) (by omega)
                          go_wp2
                          clear hmk tKp253
                          rw [Vals_made]
                          obtain ⟨gP, hgP⟩ : ∃ g, V1.heap.size = g := ⟨_, rfl⟩
                          have hgP2 : V1.heap.size ≤ gP := by omega
                          have HStart : Hid (Blk (V1.alloc (.cells (Vals (List.replicate n 0)) 3)) gP 3 (Vals (mkL n (plF ws 0)))) := hid (by
                            rw [show mkL n (plF ws 0) = List.replicate n 0 from (mkL_congr (fun i hi => by simp [plF])).trans (mkL_zero n)]
                            exact Blk.newAt _ _ _ _ hgP.symm)
                          have HBs := hid (below_alloc (Below.refl V1.heap.size V1) (.cells (Vals (List.replicate n 0)) 3))
                          rw [hgP]
                          go_loopw [208] (fun i wr => ∃ k : Nat, k ≤ n ∧ i = .int .i64 (k : Int) ∧ Blk wr gP 3 (Vals (mkL n (plF ws k))) ∧ Below V1.heap.size V1 wr) (fun i _ => n - (intOf i).toNat)
                          case atStart => exact ⟨0, Nat.zero_le _, rfl, HStart.out, HBs.out⟩
                          case round =>
                            obtain ⟨k2, hk2, rfl, hK, hb⟩ := hrel
                            by_cases hlt2 : k2 < n
                            · skip
                              as_aux_lemma =>
                                obtain ⟨bW, oW, rfl⟩ := ints_addr HIw252.out.ints (by intro h0; have := HN.out; rw [h0] at this; simp at this; omega)
                                have ck := ints_cell (HIw252.out.ints.below hb) (show k2 < _ by rw [HN.out]; exact hlt2)
                                have hr := HX.out.rng k2 (by rw [HXl.out]; exact hlt2)
                                rw [HXl.out] at hr
                                rw [hr.1] at ck
                                have hxl := hr.2
                                have HStep := hid (plF_step HX.out (k := k2) (by rw [HXl.out]; exact hlt2))
                                obtain ⟨x, hx⟩ : ∃ x, wN ws k2 = x := ⟨_, rfl⟩
                                rw [hx] at ck hxl HStep
                                have HK := hid hK
                                have HBk := hid hb
                                have hcj : wr.cell? ⟨gP, x, none⟩ = some (.int .i64 ((plF ws k2 x : Nat) : Int)) := by
                                  rw [HK.out.cell, Vals_get (by rw [mkL_length]; exact hxl), mkL_getD hxl]
                                have hfz := HK.out.frozen x
                                have hxi : (x : Int) < (n : Int) := by omega
                                clear hr hx hK hb
                                go_wp2
                                go_roundw
                                case rel => exact ⟨k2 + 1, by omega, by go_num, (by rw [mkL_upd (g := plF ws k2) (h := plF ws (k2 + 1)) k2 hxl (fun i hi => HStep.out i (by rw [HXl.out]; exact hi)), ← Vals_set]; exact HK.out.set_ x (.int .i64 ((k2 : Nat) : Int))), HBk.out.setCell (p := ⟨gP, x, none⟩) hgP2 _⟩
                                case measure => simp [intOf] <;> omega
                            · as_aux_lemma =>
                                obtain rfl : k2 = n := by omega
                                have HPl : Hid (Blk wr gP 3 (Vals (mkL k2 (plN ws)))) := hid (by have h := plF_full HX.out; rw [HXl.out] at h; rw [← h]; exact hK)
                                clear hK hlt2 hk2 HStart HBs hgP hgP2
                                have HB254 := hid (below_to HB252.out hb)
                                have HIp254 := hid (HIp252.out.below hb)
                                have HIw254 := hid (HIw252.out.below hb)
                                have HKp254 := hid (HKp252.out.below hb HKp252.out.lt)
                                have HIa254 := hid (HIa252.out.below hb)
                                have HIn254 := hid (HIn252.out.below hb)
                                have HInow254 := hid (HInow.out.below hb)
                                clear hb HB252 HIp252 HIw252 HKp252 HIa252 HIn252 HInow
                                have tKp255 := HKp254.out.cell 0
                                rename World => V2
                                have hmk := run_make_row' (P := Try.prog) 24 3 (.int .i64 0) 8 Try.underlying24 Try.info3 rfl .i64 .i64 k2 (by omega) (by omega)
                                go_wp2
                                clear hmk tKp255
                                rw [Vals_made]
                                obtain ⟨gS, hgS⟩ : ∃ g, V2.heap.size = g := ⟨_, rfl⟩
                                have hgS2 : V2.heap.size ≤ gS := by omega
                                have HStart : Hid (Blk (V2.alloc (.cells (Vals (List.replicate k2 0)) 3)) gS 3 (Vals (mkL k2 (slF Q 0)))) := hid (by
                                  rw [show mkL k2 (slF Q 0) = List.replicate k2 0 from (mkL_congr (fun i hi => by simp [slF])).trans (mkL_zero k2)]
                                  exact Blk.newAt _ _ _ _ hgS.symm)
                                have HBs := hid (below_alloc (Below.refl V2.heap.size V2) (.cells (Vals (List.replicate k2 0)) 3))
                                rw [hgS]
                                go_loopw [222] (fun i wr => ∃ x : Nat, x ≤ k2 ∧ i = .int .i64 (x : Int) ∧ Blk wr gS 3 (Vals (mkL k2 (slF Q x))) ∧ Below V2.heap.size V2 wr) (fun i _ => k2 - (intOf i).toNat)
                                case atStart => exact ⟨0, Nat.zero_le _, rfl, HStart.out, HBs.out⟩
                                case round =>
                                  obtain ⟨x, hx, rfl, hS, hb⟩ := hrel
                                  by_cases hlt3 : x < k2
                                  · skip
                                    as_aux_lemma =>
                                      have HPw := hid (HPl.out.below hb HPl.out.lt)
                                      have HIc := hid (HIa254.out.below hb)
                                      have HSl := hid hS
                                      have HBk := hid hb
                                      have hpx := (pl_wN HX.out (x := x) (by rw [HXl.out]; exact hlt3)).1
                                      rw [HXl.out] at hpx
                                      obtain ⟨pl, hpl⟩ : ∃ y, plN ws x = y := ⟨_, rfl⟩
                                      have HPn := hid hpl
                                      rw [hpl] at hpx
                                      have cp : wr.cell? ⟨gP, x, none⟩ = some (.int .i64 (pl : Int)) := by
                                        rw [HPw.out.cell, Vals_get (by rw [mkL_length]; exact hlt3), mkL_getD hlt3, hpl]
                                      clear hpl hS hb
                                      go_wp2
                                      clear cp
                                      go_loop [41, 232] (fun q i => ∃ (t : Nat) (a : Int), t ≤ na ∧ i = .int .i64 (t : Int) ∧ q = .int .i64 a ∧ Hid (AtX ch Q k2 pl x t a)) (fun _ i => na - (intOf i).toNat)
                                      case atStart => exact ⟨0, _, Nat.zero_le _, rfl, rfl, hid (AtX.start _ _ _ _ _)⟩
                                      case round =>
                                        obtain ⟨t, a, ht, rfl, rfl, HA⟩ := hrel
                                        by_cases htl : t < na
                                        · skip
                                          as_aux_lemma =>
                                            obtain ⟨y, c1, c2, c3, c4⟩ := at_chain HG.out HX.out (t := t) (by rw [HCh.out, HNa.out]; exact htl)
                                            rw [HCh.out, HNa.out, HXl.out, HPr.out] at c3
                                            rw [HCh.out, HNa.out, HXl.out, HPr.out] at c4
                                            rw [HCh.out] at c1
                                            rw [HXl.out] at c2
                                            obtain ⟨bC, oC, rfl⟩ := ints_addr HIc.out (by intro h0; have := HNa.out; rw [h0] at this; simp at this; omega)
                                            have ck := ints_cell HIc.out (show t < _ by rw [HNa.out]; exact htl)
                                            rw [c1] at ck
                                            by_cases hyx : y = x
                                            · subst hyx
                                              clear HA
                                              by_cases hn3 : t + 1 < na
                                              · obtain ⟨z, a', d1, d2, d3, d4, d5⟩ := c3 hn3
                                                have ck2 := ints_cell HIc.out (show t + 1 < _ by rw [HNa.out]; exact hn3)
                                                rw [d1] at ck2
                                                have cz : wr.cell? ⟨gP, z, none⟩ = some (.int .i64 ((a' + 1 : Nat) : Int)) := by
                                                  rw [HPw.out.cell, Vals_get (by rw [mkL_length]; exact d2), mkL_getD d2, d3]
                                                have HA2 : Hid (AtX ch Q k2 pl y (t + 1) (a' : Int)) := hid (AtX.hit (by omega) d5)
                                                have e9 : ((a' + 1 : Nat) : Int) = (a' : Int) + 1 := by omega
                                                have hti : ((t : Int) + 1).toNat = t + 1 := by omega
                                                have hzi : (z : Int) < (k2 : Int) := by omega
                                                rw [e9] at cz
                                                have hn4 : (t : Int) + 1 < (na : Int) := by omega
                                                clear c1 c3 c4 d1 d3 d5 e9
                                                go_wp2
                                                go_round
                                                case rel => exact ⟨t + 1, (a' : Int), by omega, by go_num, by first | rfl | go_num, HA2⟩
                                                case measure => simp [intOf] <;> omega
                                              · have HA2 : Hid (AtX ch Q k2 pl y (t + 1) ((k2 - 1 : Nat) : Int)) := hid (AtX.hit (by omega) (c4 hn3))
                                                have e9 : ((k2 - 1 : Nat) : Int) = (k2 : Int) - 1 := by omega
                                                rw [e9] at HA2
                                                have hn4 : ¬ (t : Int) + 1 < (na : Int) := by omega
                                                clear c1 c3 c4 e9
                                                go_wp2
                                                go_round
                                                case rel => exact ⟨t + 1, (k2 : Int) - 1, by omega, by go_num, by first | rfl | go_num, HA2⟩
                                                case measure => simp [intOf] <;> omega
                                            · have HA2 := hid (HA.out.miss (by rw [c1]; intro h; exact hyx (Int.ofNat_inj.1 h)))
                                              have hyi : ¬ (y : Int) = (x : Int) := fun h => hyx (Int.ofNat_inj.1 h)
                                              have hyb : ((y : Int) == (x : Int)) = false := beq_eq_false_iff_ne.2 hyi
                                              clear c1 c3 c4 HA
                                              go_wp2
                                              go_round
                                              case rel => exact ⟨t + 1, a, by omega, by go_num, rfl, HA2⟩
                                              case measure => simp [intOf] <;> omega
                                        · as_aux_lemma =>
                                            obtain rfl : t = na := by omega
                                            have hA := HA.out
                                            obtain ⟨j, rfl, hj, hjx⟩ : ∃ j : Nat, a = (j : Int) ∧ j < k2 ∧ wN Q j = x := by
                                              have h := AtX.fin HG.out HX.out (x := x) (t := t) (a := a) (by rw [HXl.out]; exact hlt3) (by rw [HCh.out, HNa.out]) (by rw [HCh.out, HPr.out, HXl.out, HPn.out]; exact hA)
                                              rw [HPr.out, HXl.out] at h
                                              exact h
                                            have HStep := hid (slF_step HQX.out (x := x) (a := j) (by rw [HXl.out]; exact hj) hjx)
                                            have hcj : wr.cell? ⟨gS, j, none⟩ = some (.int .i64 ((slF Q x j : Nat) : Int)) := by
                                              rw [HSl.out.cell, Vals_get (by rw [mkL_length]; exact hj), mkL_getD hj]
                                            have hfz := HSl.out.frozen j
                                            have hji : (j : Int) < (k2 : Int) := by omega
                                            have hjn : ¬ (j : Int) < 0 := by omega
                                            clear hA HA hjx htl ht
                                            go_wp2
                                            go_roundw
                                            case rel => exact ⟨x + 1, by omega, by go_num, (by rw [mkL_upd (g := slF Q x) (h := slF Q (x + 1)) x hj (fun i hi => HStep.out i (by rw [HXl.out]; exact hi)), ← Vals_set]; exact HSl.out.set_ j (.int .i64 ((x : Nat) : Int))), HBk.out.setCell (p := ⟨gS, j, none⟩) hgS2 _⟩
                                            case measure => simp [intOf] <;> omega
                                  · as_aux_lemma =>
                                      obtain rfl : x = k2 := by omega
                                      have HSf : Hid (Blk wr gS 3 (Vals Q)) := hid (by have h := slF_full HQX.out; rw [HXl.out] at h; rw [← h]; exact hS)
                                      have HIs : Hid (Ints wr (.slice (some ⟨gS, 0, none⟩) Q.length x) Q) := hid HSf.out.ints
                                      rw [HQl.out] at HIs
                                      clear hS hlt3 hx HStart HBs hgS hgS2 HSf
                                      have HB256 := hid (below_to HB254.out hb)
                                      have HIp256 := hid (HIp254.out.below hb)
                                      have HIw256 := hid (HIw254.out.below hb)
                                      have HKp256 := hid (HKp254.out.below hb HKp254.out.lt)
                                      have HIa256 := hid (HIa254.out.below hb)
                                      have HIn256 := hid (HIn254.out.below hb)
                                      have HInow256 := hid (HInow254.out.below hb)
                                      have HKq256 := hid (HPl.out.below hb HPl.out.lt)
                                      clear hb HB254 HIp254 HIw254 HKp254 HIa254 HIn254 HInow254 HPl
                                      have tKp257 := HKp256.out.cell 0
                                      have tKq258 := HKq256.out.cell 0
                                      rename World => V3
                                      go_wp2_with fail
                                      refine (oSame_any _ _ Q _ HIn256.out HInow256.out (by rw [HQl.out]; omega)).mono ?_
                                      rintro e w259 ⟨rfl, hb⟩
                                      have HB260 := hid (below_to HB256.out hb)
                                      have HIp260 := hid (HIp256.out.below hb)
                                      have HIw260 := hid (HIw256.out.below hb)
                                      have HKp260 := hid (HKp256.out.below hb HKp256.out.lt)
                                      have HIa260 := hid (HIa256.out.below hb)
                                      have HIn260 := hid (HIn256.out.below hb)
                                      have HInow260 := hid (HInow256.out.below hb)
                                      have HKq260 := hid (HKq256.out.below hb HKq256.out.lt)
                                      have HIs260 := hid (HIs.out.below hb)
                                      clear tKp257 tKq258
                                      clear hb HB256 HIp256 HIw256 HKp256 HIa256 HIn256 HInow256 HKq256 HIs
                                      have tKp261 := HKp260.out.cell 0
                                      have tKq262 := HKq260.out.cell 0
                                      go_wp2_with fail
                                      refine (oSame_any _ _ Q _ HIn260.out HIs260.out (by rw [HQl.out]; omega)).mono ?_
                                      rintro e w263 ⟨rfl, hb⟩
                                      have HB264 := hid (below_to HB260.out hb)
                                      have HIp264 := hid (HIp260.out.below hb)
                                      have HIw264 := hid (HIw260.out.below hb)
                                      have HKp264 := hid (HKp260.out.below hb HKp260.out.lt)
                                      have HIa264 := hid (HIa260.out.below hb)
                                      have HIn264 := hid (HIn260.out.below hb)
                                      have HInow264 := hid (HInow260.out.below hb)
                                      have HKq264 := hid (HKq260.out.below hb HKq260.out.lt)
                                      have HIs264 := hid (HIs260.out.below hb)
                                      clear tKp261 tKq262
                                      clear hb HB260 HIp260 HIw260 HKp260 HIa260 HIn260 HInow260 HKq260 HIs260
                                      have tKp265 := HKp264.out.cell 0
                                      have tKq266 := HKq264.out.cell 0
                                      clear tKp265 tKq266
                                      go_wp2
                                      go_ret
                                      exact ⟨rfl, HB264.out⟩
end Go.Proofs.Ytpdoheagfjeefaa.lawPromotionToggles
