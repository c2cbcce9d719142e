/- Texts LinearRankedLaw, one behind the other. -/
import Derived.BigQuiet
import Derived.Test.YtpdoheagfjeefaaPkLinearRankedProof08
import Derived.Test.YtpdoheagfjeefaaPkLinearRankedProof12
import Derived.Test.YtpdoheagfjeefaaPkLinearRankedProof13
import Derived.Test.YtpdoheagfjeefaaPkLinearRankedProof16
import Derived.Test.YtpdoheagfjeefaaPkLinearRankedProof22
import Derived.Test.YtpdoheagfjeefaaPkLinearRankedProof24
import Derived.Test.YtpdoheagfjeefaaPkLinearRankedProof26
/- LinearRanked: the walk of the law (made by tools/genlr.py). -/
namespace Go.Proofs.Ytpdoheagfjeefaa
open Go.RowKit Go.WideShapes Go.ChangeShapes
set_option linter.unusedVariables false
theorem bytes_at {w W : World} {v : Value} {bs : List Int} (h : BytesB w w.heap.size v bs) (hb : Below w.heap.size w W) : BytesB W W.heap.size v bs := (h.below hb).up hb.size
theorem ints_cell {w : World} {b o n c : Nat} {L : List Int} (h : Ints w (.slice (some ⟨b, o, none⟩) n c) L) {j : Nat} (hj : j < L.length) : w.cell? ⟨b, o + j, none⟩ = some (.int .i64 (L.getD j 0)) := by
  obtain ⟨A, c2, e, hA⟩ := h
  injection e with e1 e2 e3
  subst e1
  obtain ⟨b2, o2, e4, -, hc⟩ := hA (by intro h; simp [h] at hj)
  cases e4
  exact hc j hj
theorem ints_addr {w : World} {A : Option Addr} {n c : Nat} {L : List Int} (h : Ints w (.slice A n c) L) (h0 : L ≠ []) : ∃ b o, A = some ⟨b, o, none⟩ := by
  obtain ⟨A2, c2, e, hA⟩ := h
  injection e with e1 e2 e3
  obtain ⟨b, o, e4, -, -⟩ := hA h0
  exact ⟨b, o, by rw [e1, e4]⟩
end Go.Proofs.Ytpdoheagfjeefaa
namespace Go.Proofs.Ytpdoheagfjeefaa.lawLinearRanked
open Go.RowKit Go.WideShapes Go.ChangeShapes
set_option linter.unusedVariables false
set_option maxRecDepth 100000 in
set_option maxHeartbeats 60000000 in
theorem walk (v0 : Value) (xs0 : List Int) (v1 : Value) (xs1 : List Int) (w : World) (hb0 : BytesB w w.heap.size v0 xs0) (hl0 : xs0.length ≤ maxLen) (hb1 : BytesB w w.heap.size v1 xs1) (hl1 : xs1.length ≤ maxLen) :
    Calls Try.prog 7 #[v0, v1] w fun (r : Ending) w' => r = .returned (.bool true) ∧ Below w.heap.size w w' := by
  have HY0 := hid hb0
  have HY1 := hid hb1
  obtain ⟨A0, c0, rfl, -⟩ := hb0
  obtain ⟨A1, c1, rfl, -⟩ := hb1
  have HL0 := hid hl0
  have HL1 := hid hl1
  unfold maxLen at hl0 hl1
  go_enter Try.func7, Try.ntmps7
  by_cases hbig : 1048576 < xs0.length + xs1.length
  · go_wp2_with fail
    refine (big_any _ _ xs0 xs1 _ HY0.out HY1.out HL0.out HL1.out).mono ?_
    rintro e w1 ⟨rfl, rfl⟩
    rw [decide_eq_true hbig]
    go_wp2
    go_ret
    exact ⟨rfl, Below.refl _ _⟩
  · go_wp2_with fail
    refine (big_any _ _ xs0 xs1 _ HY0.out HY1.out HL0.out HL1.out).mono ?_
    rintro e w1 ⟨rfl, rfl⟩
    rw [decide_eq_false hbig]
    have HS := hid (show xs0.length ≤ 1048576 ∧ xs1.length ≤ 1048576 by omega)
    clear hbig hl0 hl1
    have HB0 : Hid (Below w.heap.size w w) := hid (Below.refl _ _)
    go_wp2_with fail
    refine (drawLinearWith_any _ xs0 _ (bytes_at HY0.out HB0.out) HS.out.1).mono ?_
    rintro e w1 ⟨u, us, t, rfl, hwf, ho, hl21, hb⟩
    have hl : us.length ≤ 1048576 := by omega
    have HWt := hid hwf
    have HB := hid (below_to HB0.out hb)
    have HIp := hid ho.ints
    obtain ⟨pA, pc, rfl, -⟩ := ho.ints
    clear ho hb hwf HB0
    obtain ⟨B5, hB5⟩ : ∃ B5, w1.heap.size = B5 := ⟨_, rfl⟩
    go_wp2_with fail
    have HB2 := hid (below_alloc HB.out (.cells #[.slice pA us.length pc] 26))
    have HIp2 := hid (HIp.out.alloc (.cells #[.slice pA us.length pc] 26))
    have HKp2 : Hid (Blk (w1.alloc (.cells #[.slice pA us.length pc] 26)) B5 26 #[.slice pA us.length pc]) := hid (by rw [← hB5]; exact Blk.new w1 _ _)
    clear hB5 HB HIp
    have tKp3 := HKp2.out.cell 0
    cases hok : okLW us t
    · as_aux_lemma =>
        have HE := hid (ansLW_bad hok)
        have HO := hid hok
        clear hok
        go_wp2_with fail
        refine (implLinearWith_any _ us t _ HIp2.out hl HWt.out).mono ?_
        rintro e w4 ⟨ua, rfl, ho, hla, hb⟩
        rw [HO.out]
        rw [HE.out] at ho hla
        have HIa := hid ho.ints
        obtain ⟨Aa, ca, rfl, -⟩ := ho.ints
        obtain ⟨na, hna⟩ : ∃ n, (([] : List Int)).length = n := ⟨_, rfl⟩
        rw [hna] at HIa hla ⊢
        clear ho hna
        have HB5 := hid (below_to HB2.out hb)
        have HIp5 := hid (HIp2.out.below hb)
        have HKp5 := hid (HKp2.out.below hb HKp2.out.lt)
        clear tKp3
        clear hb HB2 HIp2 HKp2
        have tKp6 := HKp5.out.cell 0
        go_wp2_with fail
        refine (specLinearWith_any _ us t _ HIp5.out hl HWt.out).mono ?_
        rintro e w7 ⟨ub, rfl, ho, hlb, hb⟩
        rw [HO.out]
        rw [HE.out] at ho hlb
        have HIb := hid ho.ints
        obtain ⟨Ab, cb, rfl, -⟩ := ho.ints
        obtain ⟨nb, hnb⟩ : ∃ n, (([] : List Int)).length = n := ⟨_, rfl⟩
        rw [hnb] at HIb hlb ⊢
        clear ho hnb
        have HB8 := hid (below_to HB5.out hb)
        have HIp8 := hid (HIp5.out.below hb)
        have HKp8 := hid (HKp5.out.below hb HKp5.out.lt)
        have HIa8 := hid (HIa.out.below hb)
        clear tKp6
        clear hb HB5 HIp5 HKp5 HIa
        have tKp9 := HKp8.out.cell 0
        go_wp2_with fail
        refine (oSame_any _ _ ([] : List Int) _ HIa8.out HIb.out (by simp)).mono ?_
        rintro e w10 ⟨rfl, hb⟩
        have HB11 := hid (below_to HB8.out hb)
        have HIp11 := hid (HIp8.out.below hb)
        have HKp11 := hid (HKp8.out.below hb HKp8.out.lt)
        have HIa11 := hid (HIa8.out.below hb)
        have HIb11 := hid (HIb.out.below hb)
        clear tKp9
        clear hb HB8 HIp8 HKp8 HIa8 HIb
        have tKp12 := HKp11.out.cell 0
        clear HE HO HWt hl hl21 hla hlb tKp12 HIp11 HKp11 HIa11 HIb11
        as_aux_lemma =>
          go_wp2_with fail
          refine (drawAllLinear_any _ xs1 _ (bytes_at HY1.out HB11.out) HS.out.2).mono ?_
          rintro e w13 ⟨u, vs, rfl, ho, hl21q, hb⟩
          have HIq := hid ho.ints
          obtain ⟨qA, qc, rfl, -⟩ := ho.ints
          clear ho
          have HB14 := hid (below_to HB11.out hb)
          clear hb HB11
          have hlq : vs.length ≤ 1048576 := by omega
          obtain ⟨B6, hB6⟩ : ∃ B6, w13.heap.size = B6 := ⟨_, rfl⟩
          go_wp2_with fail
          have HB15 := hid (below_alloc HB14.out (.cells #[.slice qA vs.length qc] 26))
          have HIq15 := hid (HIq.out.alloc (.cells #[.slice qA vs.length qc] 26))
          have HKq15 : Hid (Blk (w13.alloc (.cells #[.slice qA vs.length qc] 26)) B6 26 #[.slice qA vs.length qc]) := hid (by rw [← hB6]; exact Blk.new w13 _ _)
          clear hB6 HB14 HIq
          have tKq16 := HKq15.out.cell 0
          obtain ⟨o, b, N, P, nq, f1, f2, f3, f4, f5, f6, f7, f8, f9⟩ := allFacts vs
          have HO := hid f1
          have HGb := hid f2
          have HNe := hid f3
          have HE := hid f4
          have HSt := hid f9
          have HSm := hid (ansAL_small vs)
          rw [HE.out] at HSm
          clear f1 f2 f3 f4 f9
          go_wp2_with fail
          refine (implAllLinear_any _ vs _ HIq15.out hlq).mono ?_
          rintro e w17 ⟨uc, rfl, ho, -, hb⟩
          rw [HO.out]
          rw [HE.out] at ho
          have HIRc := hid ho.ints
          obtain ⟨Rc, rc, rfl, -⟩ := ho.rows
          rw [rowsN_length] at HIRc ⊢
          clear ho
          have HB18 := hid (below_to HB15.out hb)
          have HIq18 := hid (HIq15.out.below hb)
          have HKq18 := hid (HKq15.out.below hb HKq15.out.lt)
          clear tKq16
          clear hb HB15 HIq15 HKq15
          have tKq19 := HKq18.out.cell 0
          go_wp2_with fail
          refine (specAllLinear_any _ vs _ HIq18.out hlq).mono ?_
          rintro e w20 ⟨ud, rfl, ho, -, hb⟩
          rw [HO.out]
          rw [HE.out] at ho
          have HIRd := hid ho.ints
          obtain ⟨Rd, rd, rfl, -⟩ := ho.rows
          rw [rowsN_length] at HIRd ⊢
          clear ho
          have HB21 := hid (below_to HB18.out hb)
          have HIq21 := hid (HIq18.out.below hb)
          have HKq21 := hid (HKq18.out.below hb HKq18.out.lt)
          have HIRc21 := hid (HIRc.out.below hb)
          clear tKq19
          clear hb HB18 HIq18 HKq18 HIRc
          have tKq22 := HKq21.out.cell 0
          go_wp2_with fail
          refine (implCountLinear_any _ vs _ HIq21.out hlq).mono ?_
          rintro e w23 ⟨rfl, hb⟩
          rw [HNe.out, HGb.out]
          have HB24 := hid (below_to HB21.out hb)
          have HIq24 := hid (HIq21.out.below hb)
          have HKq24 := hid (HKq21.out.below hb HKq21.out.lt)
          have HIRc24 := hid (HIRc21.out.below hb)
          have HIRd24 := hid (HIRd.out.below hb)
          clear tKq22
          clear hb HB21 HIq21 HKq21 HIRc21 HIRd
          have tKq25 := HKq24.out.cell 0
          go_wp2_with fail
          refine (specCountLinear_any _ vs _ HIq24.out hlq).mono ?_
          rintro e w26 ⟨rfl, hb⟩
          rw [HNe.out, HGb.out]
          have HB27 := hid (below_to HB24.out hb)
          have HIq27 := hid (HIq24.out.below hb)
          have HKq27 := hid (HKq24.out.below hb HKq24.out.lt)
          have HIRc27 := hid (HIRc24.out.below hb)
          have HIRd27 := hid (HIRd24.out.below hb)
          clear tKq25
          clear hb HB24 HIq24 HKq24 HIRc24 HIRd24
          have tKq28 := HKq27.out.cell 0
          go_wp2_with fail
          refine (oSameRows_any _ _ (rowsN (unrL vs) P) P _ HIRc27.out HIRd27.out (rowsN_length _ _) HSm.out).mono ?_
          rintro e w29 ⟨rfl, hb⟩
          have HB30 := hid (below_to HB27.out hb)
          have HIq30 := hid (HIq27.out.below hb)
          have HKq30 := hid (HKq27.out.below hb HKq27.out.lt)
          have HIRc30 := hid (HIRc27.out.below hb)
          have HIRd30 := hid (HIRd27.out.below hb)
          clear tKq28
          clear hb HB27 HIq27 HKq27 HIRc27 HIRd27
          have tKq31 := HKq30.out.cell 0
          clear HO HE HNe HGb HSm HIRd30
          cases o
          · as_aux_lemma =>
              obtain ⟨rfl, g⟩ := f8 rfl
              clear f7 f8
              cases b
              · as_aux_lemma =>
                  clear g
                  go_wp2
                  clear tKq31
                  go_loopw [122] (fun i wr => ∃ k : Nat, k ≤ 0 ∧ i = .int .i64 (k : Int) ∧ Below w29.heap.size w29 wr) (fun i _ => 0 - (intOf i).toNat)
                  case atStart => exact ⟨0, Nat.zero_le _, rfl, Below.refl _ _⟩
                  case round =>
                    obtain ⟨k, hk, rfl, hb⟩ := hrel
                    by_cases hlt : k < 0
                    · skip
                      as_aux_lemma =>
                        exact absurd hlt (Nat.not_lt_zero _)
                    · as_aux_lemma =>
                        obtain rfl : k = 0 := by omega
                        clear hlt hk HSt f5 f6
                        have HB32 := hid (below_to HB30.out hb)
                        have HIq32 := hid (HIq30.out.below hb)
                        have HKq32 := hid (HKq30.out.below hb HKq30.out.lt)
                        have HIRc32 := hid (HIRc30.out.below hb)
                        clear hb HB30 HIq30 HKq30 HIRc30
                        have tKq33 := HKq32.out.cell 0
                        clear HIRc32
                        clear HIq32
                        clear HKq32
                        clear tKq33
                        rename World => V1
                        go_wp2_with fail
                        refine (drawRankLinear_any _ xs1 _ (bytes_at HY1.out HB32.out) HS.out.2).mono ?_
                        rintro e w34 ⟨u, zs, q, ls, rfl, ho, hl21r, hoq, hm22, hb⟩
                        have hlr : zs.length ≤ 1048576 := by omega
                        have hlm : ls.length ≤ 1048576 := by omega
                        have HIr := hid ho.ints
                        have HIl := hid hoq.ints
                        obtain ⟨rA, rc, rfl, -⟩ := ho.ints
                        obtain ⟨lA, lc, rfl, -⟩ := hoq.ints
                        obtain ⟨m, hm⟩ : ∃ m, ls.length = m := ⟨_, rfl⟩
                        have HLm := hid hm
                        rw [hm] at HIl hm22 ⊢
                        clear ho hoq hm
                        have HB35 := hid (below_to HB32.out hb)
                        clear hb HB32
                        obtain ⟨B7, hB7⟩ : ∃ B7, w34.heap.size = B7 := ⟨_, rfl⟩
                        go_wp2_with fail
                        have HB36 := hid (below_alloc HB35.out (.cells #[.slice rA zs.length rc] 26))
                        have HIr36 := hid (HIr.out.alloc (.cells #[.slice rA zs.length rc] 26))
                        have HIl36 := hid (HIl.out.alloc (.cells #[.slice rA zs.length rc] 26))
                        have HKr36 : Hid (Blk (w34.alloc (.cells #[.slice rA zs.length rc] 26)) B7 26 #[.slice rA zs.length rc]) := hid (by rw [← hB7]; exact Blk.new w34 _ _)
                        clear hB7 HB35 HIr HIl
                        have tKr37 := HKr36.out.cell 0
                        obtain ⟨o4, ho4⟩ : ∃ x, okLin zs ls = x := ⟨_, rfl⟩
                        have Ho4 := hid ho4
                        clear ho4
                        obtain ⟨v4, hv4⟩ : ∃ x, ansRk zs ls = x := ⟨_, rfl⟩
                        have Hv4 := hid hv4
                        clear hv4
                        go_wp2_with fail
                        refine (implRankLinear_any _ zs _ ls _ HIr36.out hlr HIl36.out hlm).mono ?_
                        rintro e w38 ⟨rfl, hb⟩
                        rw [Hv4.out, Ho4.out]
                        have HB39 := hid (below_to HB36.out hb)
                        have HIr39 := hid (HIr36.out.below hb)
                        have HIl39 := hid (HIl36.out.below hb)
                        have HKr39 := hid (HKr36.out.below hb HKr36.out.lt)
                        clear tKr37
                        clear hb HB36 HIr36 HIl36 HKr36
                        have tKr40 := HKr39.out.cell 0
                        go_wp2_with fail
                        refine (specRankLinear_any _ zs _ ls _ HIr39.out hlr HIl39.out hlm).mono ?_
                        rintro e w41 ⟨rfl, hb⟩
                        rw [Hv4.out, Ho4.out]
                        have HB42 := hid (below_to HB39.out hb)
                        have HIr42 := hid (HIr39.out.below hb)
                        have HIl42 := hid (HIl39.out.below hb)
                        have HKr42 := hid (HKr39.out.below hb HKr39.out.lt)
                        clear tKr40
                        clear hb HB39 HIr39 HIl39 HKr39
                        have tKr43 := HKr42.out.cell 0
                        go_wp2_with fail
                        refine (oLinear_any _ zs _ ls _ HIr42.out hlr HIl42.out hlm).mono ?_
                        rintro e w44 ⟨rfl, hb⟩
                        rw [Ho4.out]
                        have HB45 := hid (below_to HB42.out hb)
                        have HIr45 := hid (HIr42.out.below hb)
                        have HIl45 := hid (HIl42.out.below hb)
                        have HKr45 := hid (HKr42.out.below hb HKr42.out.lt)
                        clear tKr43
                        clear hb HB42 HIr42 HIl42 HKr42
                        have tKr46 := HKr45.out.cell 0
                        cases o4
                        · as_aux_lemma =>
                            clear tKr46
                            go_wp2
                            go_ret
                            exact ⟨rfl, HB45.out⟩
                        · as_aux_lemma =>
                            obtain ⟨R, nr, g1, g2, g3, g4, g5, g6⟩ := rkFacts Ho4.out
                            obtain rfl : v4 = (R : Int) := Hv4.out.symm.trans g1
                            have HRo := hid g2
                            have HRa := hid g3
                            have HRl := hid g4
                            clear g1 g2 g3 g4
                            go_wp2_with fail
                            refine (implLinearWith_any _ zs (R : Int) _ HIr45.out hlr (wf_i64 _ (by omega) (by omega))).mono ?_
                            rintro e w47 ⟨ue, rfl, ho, hle, hb⟩
                            rw [HRo.out]
                            rw [HRa.out] at ho hle
                            have HIe := hid ho.ints
                            obtain ⟨Ae, ce, rfl, -⟩ := ho.ints
                            rw [HLm.out] at HIe hle ⊢
                            clear ho
                            have HB48 := hid (below_to HB45.out hb)
                            have HIr48 := hid (HIr45.out.below hb)
                            have HIl48 := hid (HIl45.out.below hb)
                            have HKr48 := hid (HKr45.out.below hb HKr45.out.lt)
                            clear tKr46
                            clear hb HB45 HIr45 HIl45 HKr45
                            have tKr49 := HKr48.out.cell 0
                            go_wp2_with fail
                            refine (oSame_any _ _ ls _ HIe.out HIl48.out hlm).mono ?_
                            rintro e w50 ⟨rfl, hb⟩
                            have HB51 := hid (below_to HB48.out hb)
                            have HIr51 := hid (HIr48.out.below hb)
                            have HIl51 := hid (HIl48.out.below hb)
                            have HKr51 := hid (HKr48.out.below hb HKr48.out.lt)
                            have HIe51 := hid (HIe.out.below hb)
                            clear tKr49
                            clear hb HB48 HIr48 HIl48 HKr48 HIe
                            have tKr52 := HKr51.out.cell 0
                            clear tKr52
                            go_wp2
                            go_ret
                            exact ⟨rfl, HB51.out⟩
              · as_aux_lemma =>
                  have gN : ¬ (N : Int) ≤ 500 := by have := g rfl; omega
                  clear g
                  go_wp2
                  clear tKq31
                  go_loopw [122] (fun i wr => ∃ k : Nat, k ≤ 0 ∧ i = .int .i64 (k : Int) ∧ Below w29.heap.size w29 wr) (fun i _ => 0 - (intOf i).toNat)
                  case atStart => exact ⟨0, Nat.zero_le _, rfl, Below.refl _ _⟩
                  case round =>
                    obtain ⟨k, hk, rfl, hb⟩ := hrel
                    by_cases hlt : k < 0
                    · skip
                      as_aux_lemma =>
                        exact absurd hlt (Nat.not_lt_zero _)
                    · as_aux_lemma =>
                        obtain rfl : k = 0 := by omega
                        clear hlt hk HSt f5 f6
                        have HB53 := hid (below_to HB30.out hb)
                        have HIq53 := hid (HIq30.out.below hb)
                        have HKq53 := hid (HKq30.out.below hb HKq30.out.lt)
                        have HIRc53 := hid (HIRc30.out.below hb)
                        clear hb HB30 HIq30 HKq30 HIRc30
                        have tKq54 := HKq53.out.cell 0
                        clear HIRc53
                        clear HIq53
                        clear HKq53
                        clear tKq54
                        rename World => V1
                        go_wp2_with fail
                        refine (drawRankLinear_any _ xs1 _ (bytes_at HY1.out HB53.out) HS.out.2).mono ?_
                        rintro e w55 ⟨u, zs, q, ls, rfl, ho, hl21r, hoq, hm22, hb⟩
                        have hlr : zs.length ≤ 1048576 := by omega
                        have hlm : ls.length ≤ 1048576 := by omega
                        have HIr := hid ho.ints
                        have HIl := hid hoq.ints
                        obtain ⟨rA, rc, rfl, -⟩ := ho.ints
                        obtain ⟨lA, lc, rfl, -⟩ := hoq.ints
                        obtain ⟨m, hm⟩ : ∃ m, ls.length = m := ⟨_, rfl⟩
                        have HLm := hid hm
                        rw [hm] at HIl hm22 ⊢
                        clear ho hoq hm
                        have HB56 := hid (below_to HB53.out hb)
                        clear hb HB53
                        obtain ⟨B7, hB7⟩ : ∃ B7, w55.heap.size = B7 := ⟨_, rfl⟩
                        go_wp2_with fail
                        have HB57 := hid (below_alloc HB56.out (.cells #[.slice rA zs.length rc] 26))
                        have HIr57 := hid (HIr.out.alloc (.cells #[.slice rA zs.length rc] 26))
                        have HIl57 := hid (HIl.out.alloc (.cells #[.slice rA zs.length rc] 26))
                        have HKr57 : Hid (Blk (w55.alloc (.cells #[.slice rA zs.length rc] 26)) B7 26 #[.slice rA zs.length rc]) := hid (by rw [← hB7]; exact Blk.new w55 _ _)
                        clear hB7 HB56 HIr HIl
                        have tKr58 := HKr57.out.cell 0
                        obtain ⟨o4, ho4⟩ : ∃ x, okLin zs ls = x := ⟨_, rfl⟩
                        have Ho4 := hid ho4
                        clear ho4
                        obtain ⟨v4, hv4⟩ : ∃ x, ansRk zs ls = x := ⟨_, rfl⟩
                        have Hv4 := hid hv4
                        clear hv4
                        go_wp2_with fail
                        refine (implRankLinear_any _ zs _ ls _ HIr57.out hlr HIl57.out hlm).mono ?_
                        rintro e w59 ⟨rfl, hb⟩
                        rw [Hv4.out, Ho4.out]
                        have HB60 := hid (below_to HB57.out hb)
                        have HIr60 := hid (HIr57.out.below hb)
                        have HIl60 := hid (HIl57.out.below hb)
                        have HKr60 := hid (HKr57.out.below hb HKr57.out.lt)
                        clear tKr58
                        clear hb HB57 HIr57 HIl57 HKr57
                        have tKr61 := HKr60.out.cell 0
                        go_wp2_with fail
                        refine (specRankLinear_any _ zs _ ls _ HIr60.out hlr HIl60.out hlm).mono ?_
                        rintro e w62 ⟨rfl, hb⟩
                        rw [Hv4.out, Ho4.out]
                        have HB63 := hid (below_to HB60.out hb)
                        have HIr63 := hid (HIr60.out.below hb)
                        have HIl63 := hid (HIl60.out.below hb)
                        have HKr63 := hid (HKr60.out.below hb HKr60.out.lt)
                        clear tKr61
                        clear hb HB60 HIr60 HIl60 HKr60
                        have tKr64 := HKr63.out.cell 0
                        go_wp2_with fail
                        refine (oLinear_any _ zs _ ls _ HIr63.out hlr HIl63.out hlm).mono ?_
                        rintro e w65 ⟨rfl, hb⟩
                        rw [Ho4.out]
                        have HB66 := hid (below_to HB63.out hb)
                        have HIr66 := hid (HIr63.out.below hb)
                        have HIl66 := hid (HIl63.out.below hb)
                        have HKr66 := hid (HKr63.out.below hb HKr63.out.lt)
                        clear tKr64
                        clear hb HB63 HIr63 HIl63 HKr63
                        have tKr67 := HKr66.out.cell 0
                        cases o4
                        · as_aux_lemma =>
                            clear tKr67
                            go_wp2
                            go_ret
                            exact ⟨rfl, HB66.out⟩
                        · as_aux_lemma =>
                            obtain ⟨R, nr, g1, g2, g3, g4, g5, g6⟩ := rkFacts Ho4.out
                            obtain rfl : v4 = (R : Int) := Hv4.out.symm.trans g1
                            have HRo := hid g2
                            have HRa := hid g3
                            have HRl := hid g4
                            clear g1 g2 g3 g4
                            go_wp2_with fail
                            refine (implLinearWith_any _ zs (R : Int) _ HIr66.out hlr (wf_i64 _ (by omega) (by omega))).mono ?_
                            rintro e w68 ⟨ue, rfl, ho, hle, hb⟩
                            rw [HRo.out]
                            rw [HRa.out] at ho hle
                            have HIe := hid ho.ints
                            obtain ⟨Ae, ce, rfl, -⟩ := ho.ints
                            rw [HLm.out] at HIe hle ⊢
                            clear ho
                            have HB69 := hid (below_to HB66.out hb)
                            have HIr69 := hid (HIr66.out.below hb)
                            have HIl69 := hid (HIl66.out.below hb)
                            have HKr69 := hid (HKr66.out.below hb HKr66.out.lt)
                            clear tKr67
                            clear hb HB66 HIr66 HIl66 HKr66
                            have tKr70 := HKr69.out.cell 0
                            go_wp2_with fail
                            refine (oSame_any _ _ ls _ HIe.out HIl69.out hlm).mono ?_
                            rintro e w71 ⟨rfl, hb⟩
                            have HB72 := hid (below_to HB69.out hb)
                            have HIr72 := hid (HIr69.out.below hb)
                            have HIl72 := hid (HIl69.out.below hb)
                            have HKr72 := hid (HKr69.out.below hb HKr69.out.lt)
                            have HIe72 := hid (HIe.out.below hb)
                            clear tKr70
                            clear hb HB69 HIr69 HIl69 HKr69 HIe
                            have tKr73 := HKr72.out.cell 0
                            clear tKr73
                            go_wp2
                            go_ret
                            exact ⟨rfl, HB72.out⟩
          · as_aux_lemma =>
              obtain ⟨rfl, rfl⟩ := f7 rfl
              clear f7 f8
              have gN : (N : Int) ≤ 500 := by omega
              have gn : ((N : Int) != (N : Int)) = false := by simp
              go_wp2
              clear tKq31
              go_loopw [122] (fun i wr => ∃ k : Nat, k ≤ N ∧ i = .int .i64 (k : Int) ∧ Below w29.heap.size w29 wr) (fun i _ => N - (intOf i).toNat)
              case atStart => exact ⟨0, Nat.zero_le _, rfl, Below.refl _ _⟩
              case round =>
                obtain ⟨k, hk, rfl, hb⟩ := hrel
                by_cases hlt : k < N
                · skip
                  as_aux_lemma =>
                    have HBW0 := hid (Below.refl w29.heap.size w29)
                    obtain ⟨g1, g2, g3⟩ := HSt.out k hlt
                    have HO1 := hid g1
                    have HL1 := hid g2
                    have HLx := hid g3
                    obtain ⟨b, o, c', x, hsh, hbl, hc, hi⟩ := rows_cell HIRc30.out (k := k) (by rw [rowsN_length]; exact hlt)
                    rw [rowsN_getD _ hlt] at hi
                    injection hsh with hsA hsB hsC
                    subst hsA
                    subst hsC
                    have ck := (hb.cell (p := ⟨b, o + k, none⟩) hbl).trans hc
                    have HIx := hid (hi.below hb)
                    obtain ⟨xA, xc, rfl, -⟩ := hi
                    rw [HL1.out] at HIx ck
                    clear g1 g2 g3 hsB hc
                    have HB74 := hid (below_to HB30.out hb)
                    have HIq74 := hid (HIq30.out.below hb)
                    have HKq74 := hid (HKq30.out.below hb HKq30.out.lt)
                    have HIRc74 := hid (HIRc30.out.below hb)
                    have HBW74 := hid (below_to HBW0.out hb)
                    clear hb HB30 HIq30 HKq30 HIRc30 HBW0
                    have tKq75 := HKq74.out.cell 0
                    by_cases hk0 : k = 0
                    · as_aux_lemma =>
                        have hk1 : ¬ (k : Int) > 0 := by omega
                        clear hk0 HLx HSt
                        go_wp2_with fail
                        refine (oLinear_any _ vs _ (unrL vs k) _ HIq74.out hlq HIx.out (by rw [HL1.out]; omega)).mono ?_
                        rintro e w76 ⟨rfl, hb⟩
                        rw [HO1.out]
                        have HB77 := hid (below_to HB74.out hb)
                        have HIq77 := hid (HIq74.out.below hb)
                        have HKq77 := hid (HKq74.out.below hb HKq74.out.lt)
                        have HIRc77 := hid (HIRc74.out.below hb)
                        have HBW77 := hid (below_to HBW74.out hb)
                        have HIx77 := hid (HIx.out.below hb)
                        clear tKq75 ck
                        clear hb HB74 HIq74 HKq74 HIRc74 HBW74 HIx
                        have tKq78 := HKq77.out.cell 0
                        clear tKq78
                        go_wp2
                        go_roundw
                        case rel => exact ⟨k + 1, by omega, by go_num, HBW77.out⟩
                        case measure => simp [intOf] <;> omega
                    · as_aux_lemma =>
                        have hk1 : (k : Int) > 0 := by omega
                        obtain ⟨k', hkk⟩ : ∃ k', k' + 1 = k := ⟨k - 1, by omega⟩
                        have hkp : k' < N := by omega
                        have hkpi : (k' : Int) < (N : Int) := by omega
                        have hks : (k : Int) - 1 = (k' : Int) := by omega
                        have hk2 : 0 < k := by omega
                        obtain ⟨jj, d1, d2, d3⟩ := HLx.out k' hkk
                        have HL2 := hid (HSt.out k' hkp).2.1
                        have HD2 := hid d2
                        have HD3 := hid d3
                        clear d2 d3 HLx HSt hk0 hkk
                        go_wp2_with fail
                        refine (oLinear_any _ vs _ (unrL vs k) _ HIq74.out hlq HIx.out (by rw [HL1.out]; omega)).mono ?_
                        rintro e w79 ⟨rfl, hb⟩
                        rw [HO1.out]
                        have HB80 := hid (below_to HB74.out hb)
                        have HIq80 := hid (HIq74.out.below hb)
                        have HKq80 := hid (HKq74.out.below hb HKq74.out.lt)
                        have HIRc80 := hid (HIRc74.out.below hb)
                        have HBW80 := hid (below_to HBW74.out hb)
                        have HIx80 := hid (HIx.out.below hb)
                        clear tKq75 ck
                        clear hb HB74 HIq74 HKq74 HIRc74 HBW74 HIx
                        have tKq81 := HKq80.out.cell 0
                        obtain ⟨b2, o2, c2, y, hsh2, hbl2, hc2, hi2⟩ := rows_cell HIRc80.out (k := k') (by rw [rowsN_length]; exact hkp)
                        rw [rowsN_getD _ hkp] at hi2
                        injection hsh2 with hsA2 hsB2 hsC2
                        obtain ⟨rfl, rfl⟩ : b = b2 ∧ o = o2 := by simpa using hsA2
                        subst hsC2
                        have HIy := hid hi2
                        obtain ⟨yA, yc, rfl, -⟩ := hi2
                        rw [HL2.out] at HIy hc2
                        clear hsA2 hsB2
                        go_wp2_with fail
                        refine (oLess_any _ _ (unrL vs k') (unrL vs k) jj _ HIy.out HIx80.out (by rw [HL1.out, HL2.out]) (by rw [HL2.out]; omega) (by rw [HL2.out]; exact d1) HD2.out HD3.out).mono ?_
                        rintro e w82 ⟨rfl, hb⟩
                        have HB83 := hid (below_to HB80.out hb)
                        have HIq83 := hid (HIq80.out.below hb)
                        have HKq83 := hid (HKq80.out.below hb HKq80.out.lt)
                        have HIRc83 := hid (HIRc80.out.below hb)
                        have HBW83 := hid (below_to HBW80.out hb)
                        have HIx83 := hid (HIx80.out.below hb)
                        have HIy83 := hid (HIy.out.below hb)
                        clear tKq81 hc2
                        clear hb HB80 HIq80 HKq80 HIRc80 HBW80 HIx80 HIy
                        have tKq84 := HKq83.out.cell 0
                        clear tKq84
                        go_wp2
                        go_roundw
                        case rel => exact ⟨k + 1, by omega, by go_num, HBW83.out⟩
                        case measure => simp [intOf] <;> omega
                · as_aux_lemma =>
                    obtain rfl : k = N := by omega
                    clear hlt hk HSt f5 f6
                    have HB85 := hid (below_to HB30.out hb)
                    have HIq85 := hid (HIq30.out.below hb)
                    have HKq85 := hid (HKq30.out.below hb HKq30.out.lt)
                    have HIRc85 := hid (HIRc30.out.below hb)
                    clear hb HB30 HIq30 HKq30 HIRc30
                    have tKq86 := HKq85.out.cell 0
                    clear HIRc85
                    clear HIq85
                    clear HKq85
                    clear tKq86
                    rename World => V1
                    go_wp2_with fail
                    refine (drawRankLinear_any _ xs1 _ (bytes_at HY1.out HB85.out) HS.out.2).mono ?_
                    rintro e w87 ⟨u, zs, q, ls, rfl, ho, hl21r, hoq, hm22, hb⟩
                    have hlr : zs.length ≤ 1048576 := by omega
                    have hlm : ls.length ≤ 1048576 := by omega
                    have HIr := hid ho.ints
                    have HIl := hid hoq.ints
                    obtain ⟨rA, rc, rfl, -⟩ := ho.ints
                    obtain ⟨lA, lc, rfl, -⟩ := hoq.ints
                    obtain ⟨m, hm⟩ : ∃ m, ls.length = m := ⟨_, rfl⟩
                    have HLm := hid hm
                    rw [hm] at HIl hm22 ⊢
                    clear ho hoq hm
                    have HB88 := hid (below_to HB85.out hb)
                    clear hb HB85
                    obtain ⟨B7, hB7⟩ : ∃ B7, w87.heap.size = B7 := ⟨_, rfl⟩
                    go_wp2_with fail
                    have HB89 := hid (below_alloc HB88.out (.cells #[.slice rA zs.length rc] 26))
                    have HIr89 := hid (HIr.out.alloc (.cells #[.slice rA zs.length rc] 26))
                    have HIl89 := hid (HIl.out.alloc (.cells #[.slice rA zs.length rc] 26))
                    have HKr89 : Hid (Blk (w87.alloc (.cells #[.slice rA zs.length rc] 26)) B7 26 #[.slice rA zs.length rc]) := hid (by rw [← hB7]; exact Blk.new w87 _ _)
                    clear hB7 HB88 HIr HIl
                    have tKr90 := HKr89.out.cell 0
                    obtain ⟨o4, ho4⟩ : ∃ x, okLin zs ls = x := ⟨_, rfl⟩
                    have Ho4 := hid ho4
                    clear ho4
                    obtain ⟨v4, hv4⟩ : ∃ x, ansRk zs ls = x := ⟨_, rfl⟩
                    have Hv4 := hid hv4
                    clear hv4
                    go_wp2_with fail
                    refine (implRankLinear_any _ zs _ ls _ HIr89.out hlr HIl89.out hlm).mono ?_
                    rintro e w91 ⟨rfl, hb⟩
                    rw [Hv4.out, Ho4.out]
                    have HB92 := hid (below_to HB89.out hb)
                    have HIr92 := hid (HIr89.out.below hb)
                    have HIl92 := hid (HIl89.out.below hb)
                    have HKr92 := hid (HKr89.out.below hb HKr89.out.lt)
                    clear tKr90
                    clear hb HB89 HIr89 HIl89 HKr89
                    have tKr93 := HKr92.out.cell 0
                    go_wp2_with fail
                    refine (specRankLinear_any _ zs _ ls _ HIr92.out hlr HIl92.out hlm).mono ?_
                    rintro e w94 ⟨rfl, hb⟩
                    rw [Hv4.out, Ho4.out]
                    have HB95 := hid (below_to HB92.out hb)
                    have HIr95 := hid (HIr92.out.below hb)
                    have HIl95 := hid (HIl92.out.below hb)
                    have HKr95 := hid (HKr92.out.below hb HKr92.out.lt)
                    clear tKr93
                    clear hb HB92 HIr92 HIl92 HKr92
                    have tKr96 := HKr95.out.cell 0
                    go_wp2_with fail
                    refine (oLinear_any _ zs _ ls _ HIr95.out hlr HIl95.out hlm).mono ?_
                    rintro e w97 ⟨rfl, hb⟩
                    rw [Ho4.out]
                    have HB98 := hid (below_to HB95.out hb)
                    have HIr98 := hid (HIr95.out.below hb)
                    have HIl98 := hid (HIl95.out.below hb)
                    have HKr98 := hid (HKr95.out.below hb HKr95.out.lt)
                    clear tKr96
                    clear hb HB95 HIr95 HIl95 HKr95
                    have tKr99 := HKr98.out.cell 0
                    cases o4
                    · as_aux_lemma =>
                        clear tKr99
                        go_wp2
                        go_ret
                        exact ⟨rfl, HB98.out⟩
                    · as_aux_lemma =>
                        obtain ⟨R, nr, g1, g2, g3, g4, g5, g6⟩ := rkFacts Ho4.out
                        obtain rfl : v4 = (R : Int) := Hv4.out.symm.trans g1
                        have HRo := hid g2
                        have HRa := hid g3
                        have HRl := hid g4
                        clear g1 g2 g3 g4
                        go_wp2_with fail
                        refine (implLinearWith_any _ zs (R : Int) _ HIr98.out hlr (wf_i64 _ (by omega) (by omega))).mono ?_
                        rintro e w100 ⟨ue, rfl, ho, hle, hb⟩
                        rw [HRo.out]
                        rw [HRa.out] at ho hle
                        have HIe := hid ho.ints
                        obtain ⟨Ae, ce, rfl, -⟩ := ho.ints
                        rw [HLm.out] at HIe hle ⊢
                        clear ho
                        have HB101 := hid (below_to HB98.out hb)
                        have HIr101 := hid (HIr98.out.below hb)
                        have HIl101 := hid (HIl98.out.below hb)
                        have HKr101 := hid (HKr98.out.below hb HKr98.out.lt)
                        clear tKr99
                        clear hb HB98 HIr98 HIl98 HKr98
                        have tKr102 := HKr101.out.cell 0
                        go_wp2_with fail
                        refine (oSame_any _ _ ls _ HIe.out HIl101.out hlm).mono ?_
                        rintro e w103 ⟨rfl, hb⟩
                        have HB104 := hid (below_to HB101.out hb)
                        have HIr104 := hid (HIr101.out.below hb)
                        have HIl104 := hid (HIl101.out.below hb)
                        have HKr104 := hid (HKr101.out.below hb HKr101.out.lt)
                        have HIe104 := hid (HIe.out.below hb)
                        clear tKr102
                        clear hb HB101 HIr101 HIl101 HKr101 HIe
                        have tKr105 := HKr104.out.cell 0
                        clear tKr105
                        go_wp2
                        go_ret
                        exact ⟨rfl, HB104.out⟩
    · as_aux_lemma =>
        obtain ⟨D, n, f1, f2, f3, f4, f5⟩ := lwFacts hok
        have HO := hid hok
        have HE := hid f1
        have HLn := hid f2
        have HRk := hid f3
        have HD := hid f4
        clear hok f1 f2 f3 f4
        go_wp2_with fail
        refine (implLinearWith_any _ us t _ HIp2.out hl HWt.out).mono ?_
        rintro e w106 ⟨ua, rfl, ho, hla, hb⟩
        rw [HO.out]
        rw [HE.out] at ho hla
        have HIa := hid ho.ints
        obtain ⟨Aa, ca, rfl, -⟩ := ho.ints
        rw [HD.out] at HIa hla ⊢
        clear ho
        have HB107 := hid (below_to HB2.out hb)
        have HIp107 := hid (HIp2.out.below hb)
        have HKp107 := hid (HKp2.out.below hb HKp2.out.lt)
        clear tKp3
        clear hb HB2 HIp2 HKp2
        have tKp108 := HKp107.out.cell 0
        go_wp2_with fail
        refine (specLinearWith_any _ us t _ HIp107.out hl HWt.out).mono ?_
        rintro e w109 ⟨ub, rfl, ho, hlb, hb⟩
        rw [HO.out]
        rw [HE.out] at ho hlb
        have HIb := hid ho.ints
        obtain ⟨Ab, cb, rfl, -⟩ := ho.ints
        rw [HD.out] at HIb hlb ⊢
        clear ho
        have HB110 := hid (below_to HB107.out hb)
        have HIp110 := hid (HIp107.out.below hb)
        have HKp110 := hid (HKp107.out.below hb HKp107.out.lt)
        have HIa110 := hid (HIa.out.below hb)
        clear tKp108
        clear hb HB107 HIp107 HKp107 HIa
        have tKp111 := HKp110.out.cell 0
        go_wp2_with fail
        refine (oSame_any _ _ D _ HIa110.out HIb.out (by rw [HD.out]; omega)).mono ?_
        rintro e w112 ⟨rfl, hb⟩
        have HB113 := hid (below_to HB110.out hb)
        have HIp113 := hid (HIp110.out.below hb)
        have HKp113 := hid (HKp110.out.below hb HKp110.out.lt)
        have HIa113 := hid (HIa110.out.below hb)
        have HIb113 := hid (HIb.out.below hb)
        clear tKp111
        clear hb HB110 HIp110 HKp110 HIa110 HIb
        have tKp114 := HKp113.out.cell 0
        clear HE HO hla hlb HWt HIb113
        as_aux_lemma =>
          go_wp2_with fail
          refine (drawAllLinear_any _ xs1 _ (bytes_at HY1.out HB113.out) HS.out.2).mono ?_
          rintro e w115 ⟨u, vs, rfl, ho, hl21q, hb⟩
          have HIq := hid ho.ints
          obtain ⟨qA, qc, rfl, -⟩ := ho.ints
          clear ho
          have HB116 := hid (below_to HB113.out hb)
          have HIp116 := hid (HIp113.out.below hb)
          have HKp116 := hid (HKp113.out.below hb HKp113.out.lt)
          have HIa116 := hid (HIa113.out.below hb)
          clear tKp114
          clear hb HB113 HIp113 HKp113 HIa113
          have tKp117 := HKp116.out.cell 0
          have hlq : vs.length ≤ 1048576 := by omega
          obtain ⟨B6, hB6⟩ : ∃ B6, w115.heap.size = B6 := ⟨_, rfl⟩
          go_wp2_with fail
          have HB118 := hid (below_alloc HB116.out (.cells #[.slice qA vs.length qc] 26))
          have HIp118 := hid (HIp116.out.alloc (.cells #[.slice qA vs.length qc] 26))
          have HKp118 := hid (HKp116.out.alloc (.cells #[.slice qA vs.length qc] 26))
          have HIa118 := hid (HIa116.out.alloc (.cells #[.slice qA vs.length qc] 26))
          have HIq118 := hid (HIq.out.alloc (.cells #[.slice qA vs.length qc] 26))
          have HKq118 : Hid (Blk (w115.alloc (.cells #[.slice qA vs.length qc] 26)) B6 26 #[.slice qA vs.length qc]) := hid (by rw [← hB6]; exact Blk.new w115 _ _)
          clear tKp117
          clear hB6 HB116 HIp116 HKp116 HIa116 HIq
          have tKp119 := HKp118.out.cell 0
          have tKq120 := HKq118.out.cell 0
          obtain ⟨o, b, N, P, nq, f1, f2, f3, f4, f5, f6, f7, f8, f9⟩ := allFacts vs
          have HO := hid f1
          have HGb := hid f2
          have HNe := hid f3
          have HE := hid f4
          have HSt := hid f9
          have HSm := hid (ansAL_small vs)
          rw [HE.out] at HSm
          clear f1 f2 f3 f4 f9
          go_wp2_with fail
          refine (implAllLinear_any _ vs _ HIq118.out hlq).mono ?_
          rintro e w121 ⟨uc, rfl, ho, -, hb⟩
          rw [HO.out]
          rw [HE.out] at ho
          have HIRc := hid ho.ints
          obtain ⟨Rc, rc, rfl, -⟩ := ho.rows
          rw [rowsN_length] at HIRc ⊢
          clear ho
          have HB122 := hid (below_to HB118.out hb)
          have HIp122 := hid (HIp118.out.below hb)
          have HKp122 := hid (HKp118.out.below hb HKp118.out.lt)
          have HIa122 := hid (HIa118.out.below hb)
          have HIq122 := hid (HIq118.out.below hb)
          have HKq122 := hid (HKq118.out.below hb HKq118.out.lt)
          clear tKp119 tKq120
          clear hb HB118 HIp118 HKp118 HIa118 HIq118 HKq118
          have tKp123 := HKp122.out.cell 0
          have tKq124 := HKq122.out.cell 0
          go_wp2_with fail
          refine (specAllLinear_any _ vs _ HIq122.out hlq).mono ?_
          rintro e w125 ⟨ud, rfl, ho, -, hb⟩
          rw [HO.out]
          rw [HE.out] at ho
          have HIRd := hid ho.ints
          obtain ⟨Rd, rd, rfl, -⟩ := ho.rows
          rw [rowsN_length] at HIRd ⊢
          clear ho
          have HB126 := hid (below_to HB122.out hb)
          have HIp126 := hid (HIp122.out.below hb)
          have HKp126 := hid (HKp122.out.below hb HKp122.out.lt)
          have HIa126 := hid (HIa122.out.below hb)
          have HIq126 := hid (HIq122.out.below hb)
          have HKq126 := hid (HKq122.out.below hb HKq122.out.lt)
          have HIRc126 := hid (HIRc.out.below hb)
          clear tKp123 tKq124
          clear hb HB122 HIp122 HKp122 HIa122 HIq122 HKq122 HIRc
          have tKp127 := HKp126.out.cell 0
          have tKq128 := HKq126.out.cell 0
          go_wp2_with fail
          refine (implCountLinear_any _ vs _ HIq126.out hlq).mono ?_
          rintro e w129 ⟨rfl, hb⟩
          rw [HNe.out, HGb.out]
          have HB130 := hid (below_to HB126.out hb)
          have HIp130 := hid (HIp126.out.below hb)
          have HKp130 := hid (HKp126.out.below hb HKp126.out.lt)
          have HIa130 := hid (HIa126.out.below hb)
          have HIq130 := hid (HIq126.out.below hb)
          have HKq130 := hid (HKq126.out.below hb HKq126.out.lt)
          have HIRc130 := hid (HIRc126.out.below hb)
          have HIRd130 := hid (HIRd.out.below hb)
          clear tKp127 tKq128
          clear hb HB126 HIp126 HKp126 HIa126 HIq126 HKq126 HIRc126 HIRd
          have tKp131 := HKp130.out.cell 0
          have tKq132 := HKq130.out.cell 0
          go_wp2_with fail
          refine (specCountLinear_any _ vs _ HIq130.out hlq).mono ?_
          rintro e w133 ⟨rfl, hb⟩
          rw [HNe.out, HGb.out]
          have HB134 := hid (below_to HB130.out hb)
          have HIp134 := hid (HIp130.out.below hb)
          have HKp134 := hid (HKp130.out.below hb HKp130.out.lt)
          have HIa134 := hid (HIa130.out.below hb)
          have HIq134 := hid (HIq130.out.below hb)
          have HKq134 := hid (HKq130.out.below hb HKq130.out.lt)
          have HIRc134 := hid (HIRc130.out.below hb)
          have HIRd134 := hid (HIRd130.out.below hb)
          clear tKp131 tKq132
          clear hb HB130 HIp130 HKp130 HIa130 HIq130 HKq130 HIRc130 HIRd130
          have tKp135 := HKp134.out.cell 0
          have tKq136 := HKq134.out.cell 0
          go_wp2_with fail
          refine (oSameRows_any _ _ (rowsN (unrL vs) P) P _ HIRc134.out HIRd134.out (rowsN_length _ _) HSm.out).mono ?_
          rintro e w137 ⟨rfl, hb⟩
          have HB138 := hid (below_to HB134.out hb)
          have HIp138 := hid (HIp134.out.below hb)
          have HKp138 := hid (HKp134.out.below hb HKp134.out.lt)
          have HIa138 := hid (HIa134.out.below hb)
          have HIq138 := hid (HIq134.out.below hb)
          have HKq138 := hid (HKq134.out.below hb HKq134.out.lt)
          have HIRc138 := hid (HIRc134.out.below hb)
          have HIRd138 := hid (HIRd134.out.below hb)
          clear tKp135 tKq136
          clear hb HB134 HIp134 HKp134 HIa134 HIq134 HKq134 HIRc134 HIRd134
          have tKp139 := HKp138.out.cell 0
          have tKq140 := HKq138.out.cell 0
          clear HO HE HNe HGb HSm HIRd138
          cases o
          · as_aux_lemma =>
              obtain ⟨rfl, g⟩ := f8 rfl
              clear f7 f8
              cases b
              · as_aux_lemma =>
                  clear g
                  go_wp2
                  clear tKp139 tKq140
                  go_loopw [122] (fun i wr => ∃ k : Nat, k ≤ 0 ∧ i = .int .i64 (k : Int) ∧ Below w137.heap.size w137 wr) (fun i _ => 0 - (intOf i).toNat)
                  case atStart => exact ⟨0, Nat.zero_le _, rfl, Below.refl _ _⟩
                  case round =>
                    obtain ⟨k, hk, rfl, hb⟩ := hrel
                    by_cases hlt : k < 0
                    · skip
                      as_aux_lemma =>
                        exact absurd hlt (Nat.not_lt_zero _)
                    · as_aux_lemma =>
                        obtain rfl : k = 0 := by omega
                        clear hlt hk HSt f5 f6
                        have HB141 := hid (below_to HB138.out hb)
                        have HIp141 := hid (HIp138.out.below hb)
                        have HKp141 := hid (HKp138.out.below hb HKp138.out.lt)
                        have HIa141 := hid (HIa138.out.below hb)
                        have HIq141 := hid (HIq138.out.below hb)
                        have HKq141 := hid (HKq138.out.below hb HKq138.out.lt)
                        have HIRc141 := hid (HIRc138.out.below hb)
                        clear hb HB138 HIp138 HKp138 HIa138 HIq138 HKq138 HIRc138
                        have tKp142 := HKp141.out.cell 0
                        have tKq143 := HKq141.out.cell 0
                        clear HIRc141
                        clear HIq141
                        clear HKq141
                        clear tKp142 tKq143
                        rename World => V1
                        have tKp144 := HKp141.out.cell 0
                        go_wp2_with fail
                        refine (drawRankLinear_any _ xs1 _ (bytes_at HY1.out HB141.out) HS.out.2).mono ?_
                        rintro e w145 ⟨u, zs, q, ls, rfl, ho, hl21r, hoq, hm22, hb⟩
                        have hlr : zs.length ≤ 1048576 := by omega
                        have hlm : ls.length ≤ 1048576 := by omega
                        have HIr := hid ho.ints
                        have HIl := hid hoq.ints
                        obtain ⟨rA, rc, rfl, -⟩ := ho.ints
                        obtain ⟨lA, lc, rfl, -⟩ := hoq.ints
                        obtain ⟨m, hm⟩ : ∃ m, ls.length = m := ⟨_, rfl⟩
                        have HLm := hid hm
                        rw [hm] at HIl hm22 ⊢
                        clear ho hoq hm
                        have HB146 := hid (below_to HB141.out hb)
                        have HIp146 := hid (HIp141.out.below hb)
                        have HKp146 := hid (HKp141.out.below hb HKp141.out.lt)
                        have HIa146 := hid (HIa141.out.below hb)
                        clear tKp144
                        clear hb HB141 HIp141 HKp141 HIa141
                        have tKp147 := HKp146.out.cell 0
                        obtain ⟨B7, hB7⟩ : ∃ B7, w145.heap.size = B7 := ⟨_, rfl⟩
                        go_wp2_with fail
                        have HB148 := hid (below_alloc HB146.out (.cells #[.slice rA zs.length rc] 26))
                        have HIp148 := hid (HIp146.out.alloc (.cells #[.slice rA zs.length rc] 26))
                        have HKp148 := hid (HKp146.out.alloc (.cells #[.slice rA zs.length rc] 26))
                        have HIa148 := hid (HIa146.out.alloc (.cells #[.slice rA zs.length rc] 26))
                        have HIr148 := hid (HIr.out.alloc (.cells #[.slice rA zs.length rc] 26))
                        have HIl148 := hid (HIl.out.alloc (.cells #[.slice rA zs.length rc] 26))
                        have HKr148 : Hid (Blk (w145.alloc (.cells #[.slice rA zs.length rc] 26)) B7 26 #[.slice rA zs.length rc]) := hid (by rw [← hB7]; exact Blk.new w145 _ _)
                        clear tKp147
                        clear hB7 HB146 HIp146 HKp146 HIa146 HIr HIl
                        have tKp149 := HKp148.out.cell 0
                        have tKr150 := HKr148.out.cell 0
                        obtain ⟨o4, ho4⟩ : ∃ x, okLin zs ls = x := ⟨_, rfl⟩
                        have Ho4 := hid ho4
                        clear ho4
                        obtain ⟨v4, hv4⟩ : ∃ x, ansRk zs ls = x := ⟨_, rfl⟩
                        have Hv4 := hid hv4
                        clear hv4
                        go_wp2_with fail
                        refine (implRankLinear_any _ zs _ ls _ HIr148.out hlr HIl148.out hlm).mono ?_
                        rintro e w151 ⟨rfl, hb⟩
                        rw [Hv4.out, Ho4.out]
                        have HB152 := hid (below_to HB148.out hb)
                        have HIp152 := hid (HIp148.out.below hb)
                        have HKp152 := hid (HKp148.out.below hb HKp148.out.lt)
                        have HIa152 := hid (HIa148.out.below hb)
                        have HIr152 := hid (HIr148.out.below hb)
                        have HIl152 := hid (HIl148.out.below hb)
                        have HKr152 := hid (HKr148.out.below hb HKr148.out.lt)
                        clear tKp149 tKr150
                        clear hb HB148 HIp148 HKp148 HIa148 HIr148 HIl148 HKr148
                        have tKp153 := HKp152.out.cell 0
                        have tKr154 := HKr152.out.cell 0
                        go_wp2_with fail
                        refine (specRankLinear_any _ zs _ ls _ HIr152.out hlr HIl152.out hlm).mono ?_
                        rintro e w155 ⟨rfl, hb⟩
                        rw [Hv4.out, Ho4.out]
                        have HB156 := hid (below_to HB152.out hb)
                        have HIp156 := hid (HIp152.out.below hb)
                        have HKp156 := hid (HKp152.out.below hb HKp152.out.lt)
                        have HIa156 := hid (HIa152.out.below hb)
                        have HIr156 := hid (HIr152.out.below hb)
                        have HIl156 := hid (HIl152.out.below hb)
                        have HKr156 := hid (HKr152.out.below hb HKr152.out.lt)
                        clear tKp153 tKr154
                        clear hb HB152 HIp152 HKp152 HIa152 HIr152 HIl152 HKr152
                        have tKp157 := HKp156.out.cell 0
                        have tKr158 := HKr156.out.cell 0
                        go_wp2_with fail
                        refine (oLinear_any _ zs _ ls _ HIr156.out hlr HIl156.out hlm).mono ?_
                        rintro e w159 ⟨rfl, hb⟩
                        rw [Ho4.out]
                        have HB160 := hid (below_to HB156.out hb)
                        have HIp160 := hid (HIp156.out.below hb)
                        have HKp160 := hid (HKp156.out.below hb HKp156.out.lt)
                        have HIa160 := hid (HIa156.out.below hb)
                        have HIr160 := hid (HIr156.out.below hb)
                        have HIl160 := hid (HIl156.out.below hb)
                        have HKr160 := hid (HKr156.out.below hb HKr156.out.lt)
                        clear tKp157 tKr158
                        clear hb HB156 HIp156 HKp156 HIa156 HIr156 HIl156 HKr156
                        have tKp161 := HKp160.out.cell 0
                        have tKr162 := HKr160.out.cell 0
                        cases o4
                        · as_aux_lemma =>
                            go_wp2_with fail
                            refine (implRankLinear_any _ us _ D _ HIp160.out hl HIa160.out (by rw [HD.out]; omega)).mono ?_
                            rintro e w163 ⟨rfl, hb⟩
                            rw [HRk.out, HLn.out]
                            have HB164 := hid (below_to HB160.out hb)
                            have HIp164 := hid (HIp160.out.below hb)
                            have HKp164 := hid (HKp160.out.below hb HKp160.out.lt)
                            have HIa164 := hid (HIa160.out.below hb)
                            have HIr164 := hid (HIr160.out.below hb)
                            have HIl164 := hid (HIl160.out.below hb)
                            have HKr164 := hid (HKr160.out.below hb HKr160.out.lt)
                            clear tKp161 tKr162
                            clear hb HB160 HIp160 HKp160 HIa160 HIr160 HIl160 HKr160
                            have tKp165 := HKp164.out.cell 0
                            have tKr166 := HKr164.out.cell 0
                            go_wp2_with fail
                            refine (oLinear_any _ us _ D _ HIp164.out hl HIa164.out (by rw [HD.out]; omega)).mono ?_
                            rintro e w167 ⟨rfl, hb⟩
                            rw [HLn.out]
                            have HB168 := hid (below_to HB164.out hb)
                            have HIp168 := hid (HIp164.out.below hb)
                            have HKp168 := hid (HKp164.out.below hb HKp164.out.lt)
                            have HIa168 := hid (HIa164.out.below hb)
                            have HIr168 := hid (HIr164.out.below hb)
                            have HIl168 := hid (HIl164.out.below hb)
                            have HKr168 := hid (HKr164.out.below hb HKr164.out.lt)
                            clear tKp165 tKr166
                            clear hb HB164 HIp164 HKp164 HIa164 HIr164 HIl164 HKr164
                            have tKp169 := HKp168.out.cell 0
                            have tKr170 := HKr168.out.cell 0
                            clear tKp169 tKr170
                            go_wp2
                            go_ret
                            exact ⟨rfl, HB168.out⟩
                        · as_aux_lemma =>
                            obtain ⟨R, nr, g1, g2, g3, g4, g5, g6⟩ := rkFacts Ho4.out
                            obtain rfl : v4 = (R : Int) := Hv4.out.symm.trans g1
                            have HRo := hid g2
                            have HRa := hid g3
                            have HRl := hid g4
                            clear g1 g2 g3 g4
                            go_wp2_with fail
                            refine (implLinearWith_any _ zs (R : Int) _ HIr160.out hlr (wf_i64 _ (by omega) (by omega))).mono ?_
                            rintro e w171 ⟨ue, rfl, ho, hle, hb⟩
                            rw [HRo.out]
                            rw [HRa.out] at ho hle
                            have HIe := hid ho.ints
                            obtain ⟨Ae, ce, rfl, -⟩ := ho.ints
                            rw [HLm.out] at HIe hle ⊢
                            clear ho
                            have HB172 := hid (below_to HB160.out hb)
                            have HIp172 := hid (HIp160.out.below hb)
                            have HKp172 := hid (HKp160.out.below hb HKp160.out.lt)
                            have HIa172 := hid (HIa160.out.below hb)
                            have HIr172 := hid (HIr160.out.below hb)
                            have HIl172 := hid (HIl160.out.below hb)
                            have HKr172 := hid (HKr160.out.below hb HKr160.out.lt)
                            clear tKp161 tKr162
                            clear hb HB160 HIp160 HKp160 HIa160 HIr160 HIl160 HKr160
                            have tKp173 := HKp172.out.cell 0
                            have tKr174 := HKr172.out.cell 0
                            go_wp2_with fail
                            refine (oSame_any _ _ ls _ HIe.out HIl172.out hlm).mono ?_
                            rintro e w175 ⟨rfl, hb⟩
                            have HB176 := hid (below_to HB172.out hb)
                            have HIp176 := hid (HIp172.out.below hb)
                            have HKp176 := hid (HKp172.out.below hb HKp172.out.lt)
                            have HIa176 := hid (HIa172.out.below hb)
                            have HIr176 := hid (HIr172.out.below hb)
                            have HIl176 := hid (HIl172.out.below hb)
                            have HKr176 := hid (HKr172.out.below hb HKr172.out.lt)
                            have HIe176 := hid (HIe.out.below hb)
                            clear tKp173 tKr174
                            clear hb HB172 HIp172 HKp172 HIa172 HIr172 HIl172 HKr172 HIe
                            have tKp177 := HKp176.out.cell 0
                            have tKr178 := HKr176.out.cell 0
                            go_wp2_with fail
                            refine (implRankLinear_any _ us _ D _ HIp176.out hl HIa176.out (by rw [HD.out]; omega)).mono ?_
                            rintro e w179 ⟨rfl, hb⟩
                            rw [HRk.out, HLn.out]
                            have HB180 := hid (below_to HB176.out hb)
                            have HIp180 := hid (HIp176.out.below hb)
                            have HKp180 := hid (HKp176.out.below hb HKp176.out.lt)
                            have HIa180 := hid (HIa176.out.below hb)
                            have HIr180 := hid (HIr176.out.below hb)
                            have HIl180 := hid (HIl176.out.below hb)
                            have HKr180 := hid (HKr176.out.below hb HKr176.out.lt)
                            have HIe180 := hid (HIe176.out.below hb)
                            clear tKp177 tKr178
                            clear hb HB176 HIp176 HKp176 HIa176 HIr176 HIl176 HKr176 HIe176
                            have tKp181 := HKp180.out.cell 0
                            have tKr182 := HKr180.out.cell 0
                            go_wp2_with fail
                            refine (oLinear_any _ us _ D _ HIp180.out hl HIa180.out (by rw [HD.out]; omega)).mono ?_
                            rintro e w183 ⟨rfl, hb⟩
                            rw [HLn.out]
                            have HB184 := hid (below_to HB180.out hb)
                            have HIp184 := hid (HIp180.out.below hb)
                            have HKp184 := hid (HKp180.out.below hb HKp180.out.lt)
                            have HIa184 := hid (HIa180.out.below hb)
                            have HIr184 := hid (HIr180.out.below hb)
                            have HIl184 := hid (HIl180.out.below hb)
                            have HKr184 := hid (HKr180.out.below hb HKr180.out.lt)
                            have HIe184 := hid (HIe180.out.below hb)
                            clear tKp181 tKr182
                            clear hb HB180 HIp180 HKp180 HIa180 HIr180 HIl180 HKr180 HIe180
                            have tKp185 := HKp184.out.cell 0
                            have tKr186 := HKr184.out.cell 0
                            clear tKp185 tKr186
                            go_wp2
                            go_ret
                            exact ⟨rfl, HB184.out⟩
              · as_aux_lemma =>
                  have gN : ¬ (N : Int) ≤ 500 := by have := g rfl; omega
                  clear g
                  go_wp2
                  clear tKp139 tKq140
                  go_loopw [122] (fun i wr => ∃ k : Nat, k ≤ 0 ∧ i = .int .i64 (k : Int) ∧ Below w137.heap.size w137 wr) (fun i _ => 0 - (intOf i).toNat)
                  case atStart => exact ⟨0, Nat.zero_le _, rfl, Below.refl _ _⟩
                  case round =>
                    obtain ⟨k, hk, rfl, hb⟩ := hrel
                    by_cases hlt : k < 0
                    · skip
                      as_aux_lemma =>
                        exact absurd hlt (Nat.not_lt_zero _)
                    · as_aux_lemma =>
                        obtain rfl : k = 0 := by omega
                        clear hlt hk HSt f5 f6
                        have HB187 := hid (below_to HB138.out hb)
                        have HIp187 := hid (HIp138.out.below hb)
                        have HKp187 := hid (HKp138.out.below hb HKp138.out.lt)
                        have HIa187 := hid (HIa138.out.below hb)
                        have HIq187 := hid (HIq138.out.below hb)
                        have HKq187 := hid (HKq138.out.below hb HKq138.out.lt)
                        have HIRc187 := hid (HIRc138.out.below hb)
                        clear hb HB138 HIp138 HKp138 HIa138 HIq138 HKq138 HIRc138
                        have tKp188 := HKp187.out.cell 0
                        have tKq189 := HKq187.out.cell 0
                        clear HIRc187
                        clear HIq187
                        clear HKq187
                        clear tKp188 tKq189
                        rename World => V1
                        have tKp190 := HKp187.out.cell 0
                        go_wp2_with fail
                        refine (drawRankLinear_any _ xs1 _ (bytes_at HY1.out HB187.out) HS.out.2).mono ?_
                        rintro e w191 ⟨u, zs, q, ls, rfl, ho, hl21r, hoq, hm22, hb⟩
                        have hlr : zs.length ≤ 1048576 := by omega
                        have hlm : ls.length ≤ 1048576 := by omega
                        have HIr := hid ho.ints
                        have HIl := hid hoq.ints
                        obtain ⟨rA, rc, rfl, -⟩ := ho.ints
                        obtain ⟨lA, lc, rfl, -⟩ := hoq.ints
                        obtain ⟨m, hm⟩ : ∃ m, ls.length = m := ⟨_, rfl⟩
                        have HLm := hid hm
                        rw [hm] at HIl hm22 ⊢
                        clear ho hoq hm
                        have HB192 := hid (below_to HB187.out hb)
                        have HIp192 := hid (HIp187.out.below hb)
                        have HKp192 := hid (HKp187.out.below hb HKp187.out.lt)
                        have HIa192 := hid (HIa187.out.below hb)
                        clear tKp190
                        clear hb HB187 HIp187 HKp187 HIa187
                        have tKp193 := HKp192.out.cell 0
                        obtain ⟨B7, hB7⟩ : ∃ B7, w191.heap.size = B7 := ⟨_, rfl⟩
                        go_wp2_with fail
                        have HB194 := hid (below_alloc HB192.out (.cells #[.slice rA zs.length rc] 26))
                        have HIp194 := hid (HIp192.out.alloc (.cells #[.slice rA zs.length rc] 26))
                        have HKp194 := hid (HKp192.out.alloc (.cells #[.slice rA zs.length rc] 26))
                        have HIa194 := hid (HIa192.out.alloc (.cells #[.slice rA zs.length rc] 26))
                        have HIr194 := hid (HIr.out.alloc (.cells #[.slice rA zs.length rc] 26))
                        have HIl194 := hid (HIl.out.alloc (.cells #[.slice rA zs.length rc] 26))
                        have HKr194 : Hid (Blk (w191.alloc (.cells #[.slice rA zs.length rc] 26)) B7 26 #[.slice rA zs.length rc]) := hid (by rw [← hB7]; exact Blk.new w191 _ _)
                        clear tKp193
                        clear hB7 HB192 HIp192 HKp192 HIa192 HIr HIl
                        have tKp195 := HKp194.out.cell 0
                        have tKr196 := HKr194.out.cell 0
                        obtain ⟨o4, ho4⟩ : ∃ x, okLin zs ls = x := ⟨_, rfl⟩
                        have Ho4 := hid ho4
                        clear ho4
                        obtain ⟨v4, hv4⟩ : ∃ x, ansRk zs ls = x := ⟨_, rfl⟩
                        have Hv4 := hid hv4
                        clear hv4
                        go_wp2_with fail
                        refine (implRankLinear_any _ zs _ ls _ HIr194.out hlr HIl194.out hlm).mono ?_
                        rintro e w197 ⟨rfl, hb⟩
                        rw [Hv4.out, Ho4.out]
                        have HB198 := hid (below_to HB194.out hb)
                        have HIp198 := hid (HIp194.out.below hb)
                        have HKp198 := hid (HKp194.out.below hb HKp194.out.lt)
                        have HIa198 := hid (HIa194.out.below hb)
                        have HIr198 := hid (HIr194.out.below hb)
                        have HIl198 := hid (HIl194.out.below hb)
                        have HKr198 := hid (HKr194.out.below hb HKr194.out.lt)
                        clear tKp195 tKr196
                        clear hb HB194 HIp194 HKp194 HIa194 HIr194 HIl194 HKr194
                        have tKp199 := HKp198.out.cell 0
                        have tKr200 := HKr198.out.cell 0
                        go_wp2_with fail
                        refine (specRankLinear_any _ zs _ ls _ HIr198.out hlr HIl198.out hlm).mono ?_
                        rintro e w201 ⟨rfl, hb⟩
                        rw [Hv4.out, Ho4.out]
                        have HB202 := hid (below_to HB198.out hb)
                        have HIp202 := hid (HIp198.out.below hb)
                        have HKp202 := hid (HKp198.out.below hb HKp198.out.lt)
                        have HIa202 := hid (HIa198.out.below hb)
                        have HIr202 := hid (HIr198.out.below hb)
                        have HIl202 := hid (HIl198.out.below hb)
                        have HKr202 := hid (HKr198.out.below hb HKr198.out.lt)
                        clear tKp199 tKr200
                        clear hb HB198 HIp198 HKp198 HIa198 HIr198 HIl198 HKr198
                        have tKp203 := HKp202.out.cell 0
                        have tKr204 := HKr202.out.cell 0
                        go_wp2_with fail
                        refine (oLinear_any _ zs _ ls _ HIr202.out hlr HIl202.out hlm).mono ?_
                        rintro e w205 ⟨rfl, hb⟩
                        rw [Ho4.out]
                        have HB206 := hid (below_to HB202.out hb)
                        have HIp206 := hid (HIp202.out.below hb)
                        have HKp206 := hid (HKp202.out.below hb HKp202.out.lt)
                        have HIa206 := hid (HIa202.out.below hb)
                        have HIr206 := hid (HIr202.out.below hb)
                        have HIl206 := hid (HIl202.out.below hb)
                        have HKr206 := hid (HKr202.out.below hb HKr202.out.lt)
                        clear tKp203 tKr204
                        clear hb HB202 HIp202 HKp202 HIa202 HIr202 HIl202 HKr202
                        have tKp207 := HKp206.out.cell 0
                        have tKr208 := HKr206.out.cell 0
                        cases o4
                        · as_aux_lemma =>
                            go_wp2_with fail
                            refine (implRankLinear_any _ us _ D _ HIp206.out hl HIa206.out (by rw [HD.out]; omega)).mono ?_
                            rintro e w209 ⟨rfl, hb⟩
                            rw [HRk.out, HLn.out]
                            have HB210 := hid (below_to HB206.out hb)
                            have HIp210 := hid (HIp206.out.below hb)
                            have HKp210 := hid (HKp206.out.below hb HKp206.out.lt)
                            have HIa210 := hid (HIa206.out.below hb)
                            have HIr210 := hid (HIr206.out.below hb)
                            have HIl210 := hid (HIl206.out.below hb)
                            have HKr210 := hid (HKr206.out.below hb HKr206.out.lt)
                            clear tKp207 tKr208
                            clear hb HB206 HIp206 HKp206 HIa206 HIr206 HIl206 HKr206
                            have tKp211 := HKp210.out.cell 0
                            have tKr212 := HKr210.out.cell 0
                            go_wp2_with fail
                            refine (oLinear_any _ us _ D _ HIp210.out hl HIa210.out (by rw [HD.out]; omega)).mono ?_
                            rintro e w213 ⟨rfl, hb⟩
                            rw [HLn.out]
                            have HB214 := hid (below_to HB210.out hb)
                            have HIp214 := hid (HIp210.out.below hb)
                            have HKp214 := hid (HKp210.out.below hb HKp210.out.lt)
                            have HIa214 := hid (HIa210.out.below hb)
                            have HIr214 := hid (HIr210.out.below hb)
                            have HIl214 := hid (HIl210.out.below hb)
                            have HKr214 := hid (HKr210.out.below hb HKr210.out.lt)
                            clear tKp211 tKr212
                            clear hb HB210 HIp210 HKp210 HIa210 HIr210 HIl210 HKr210
                            have tKp215 := HKp214.out.cell 0
                            have tKr216 := HKr214.out.cell 0
                            clear tKp215 tKr216
                            go_wp2
                            go_ret
                            exact ⟨rfl, HB214.out⟩
                        · as_aux_lemma =>
                            obtain ⟨R, nr, g1, g2, g3, g4, g5, g6⟩ := rkFacts Ho4.out
                            obtain rfl : v4 = (R : Int) := Hv4.out.symm.trans g1
                            have HRo := hid g2
                            have HRa := hid g3
                            have HRl := hid g4
                            clear g1 g2 g3 g4
                            go_wp2_with fail
                            refine (implLinearWith_any _ zs (R : Int) _ HIr206.out hlr (wf_i64 _ (by omega) (by omega))).mono ?_
                            rintro e w217 ⟨ue, rfl, ho, hle, hb⟩
                            rw [HRo.out]
                            rw [HRa.out] at ho hle
                            have HIe := hid ho.ints
                            obtain ⟨Ae, ce, rfl, -⟩ := ho.ints
                            rw [HLm.out] at HIe hle ⊢
                            clear ho
                            have HB218 := hid (below_to HB206.out hb)
                            have HIp218 := hid (HIp206.out.below hb)
                            have HKp218 := hid (HKp206.out.below hb HKp206.out.lt)
                            have HIa218 := hid (HIa206.out.below hb)
                            have HIr218 := hid (HIr206.out.below hb)
                            have HIl218 := hid (HIl206.out.below hb)
                            have HKr218 := hid (HKr206.out.below hb HKr206.out.lt)
                            clear tKp207 tKr208
                            clear hb HB206 HIp206 HKp206 HIa206 HIr206 HIl206 HKr206
                            have tKp219 := HKp218.out.cell 0
                            have tKr220 := HKr218.out.cell 0
                            go_wp2_with fail
                            refine (oSame_any _ _ ls _ HIe.out HIl218.out hlm).mono ?_
                            rintro e w221 ⟨rfl, hb⟩
                            have HB222 := hid (below_to HB218.out hb)
                            have HIp222 := hid (HIp218.out.below hb)
                            have HKp222 := hid (HKp218.out.below hb HKp218.out.lt)
                            have HIa222 := hid (HIa218.out.below hb)
                            have HIr222 := hid (HIr218.out.below hb)
                            have HIl222 := hid (HIl218.out.below hb)
                            have HKr222 := hid (HKr218.out.below hb HKr218.out.lt)
                            have HIe222 := hid (HIe.out.below hb)
                            clear tKp219 tKr220
                            clear hb HB218 HIp218 HKp218 HIa218 HIr218 HIl218 HKr218 HIe
                            have tKp223 := HKp222.out.cell 0
                            have tKr224 := HKr222.out.cell 0
                            go_wp2_with fail
                            refine (implRankLinear_any _ us _ D _ HIp222.out hl HIa222.out (by rw [HD.out]; omega)).mono ?_
                            rintro e w225 ⟨rfl, hb⟩
                            rw [HRk.out, HLn.out]
                            have HB226 := hid (below_to HB222.out hb)
                            have HIp226 := hid (HIp222.out.below hb)
                            have HKp226 := hid (HKp222.out.below hb HKp222.out.lt)
                            have HIa226 := hid (HIa222.out.below hb)
                            have HIr226 := hid (HIr222.out.below hb)
                            have HIl226 := hid (HIl222.out.below hb)
                            have HKr226 := hid (HKr222.out.below hb HKr222.out.lt)
                            have HIe226 := hid (HIe222.out.below hb)
                            clear tKp223 tKr224
                            clear hb HB222 HIp222 HKp222 HIa222 HIr222 HIl222 HKr222 HIe222
                            have tKp227 := HKp226.out.cell 0
                            have tKr228 := HKr226.out.cell 0
                            go_wp2_with fail
                            refine (oLinear_any _ us _ D _ HIp226.out hl HIa226.out (by rw [HD.out]; omega)).mono ?_
                            rintro e w229 ⟨rfl, hb⟩
                            rw [HLn.out]
                            have HB230 := hid (below_to HB226.out hb)
                            have HIp230 := hid (HIp226.out.below hb)
                            have HKp230 := hid (HKp226.out.below hb HKp226.out.lt)
                            have HIa230 := hid (HIa226.out.below hb)
                            have HIr230 := hid (HIr226.out.below hb)
                            have HIl230 := hid (HIl226.out.below hb)
                            have HKr230 := hid (HKr226.out.below hb HKr226.out.lt)
                            have HIe230 := hid (HIe226.out.below hb)
                            clear tKp227 tKr228
                            clear hb HB226 HIp226 HKp226 HIa226 HIr226 HIl226 HKr226 HIe226
                            have tKp231 := HKp230.out.cell 0
                            have tKr232 := HKr230.out.cell 0
                            clear tKp231 tKr232
                            go_wp2
                            go_ret
                            exact ⟨rfl, HB230.out⟩
          · as_aux_lemma =>
              obtain ⟨rfl, rfl⟩ := f7 rfl
              clear f7 f8
              have gN : (N : Int) ≤ 500 := by omega
              have gn : ((N : Int) != (N : Int)) = false := by simp
              go_wp2
              clear tKp139 tKq140
              go_loopw [122] (fun i wr => ∃ k : Nat, k ≤ N ∧ i = .int .i64 (k : Int) ∧ Below w137.heap.size w137 wr) (fun i _ => N - (intOf i).toNat)
              case atStart => exact ⟨0, Nat.zero_le _, rfl, Below.refl _ _⟩
              case round =>
                obtain ⟨k, hk, rfl, hb⟩ := hrel
                by_cases hlt : k < N
                · skip
                  as_aux_lemma =>
                    have HBW0 := hid (Below.refl w137.heap.size w137)
                    obtain ⟨g1, g2, g3⟩ := HSt.out k hlt
                    have HO1 := hid g1
                    have HL1 := hid g2
                    have HLx := hid g3
                    obtain ⟨b, o, c', x, hsh, hbl, hc, hi⟩ := rows_cell HIRc138.out (k := k) (by rw [rowsN_length]; exact hlt)
                    rw [rowsN_getD _ hlt] at hi
                    injection hsh with hsA hsB hsC
                    subst hsA
                    subst hsC
                    have ck := (hb.cell (p := ⟨b, o + k, none⟩) hbl).trans hc
                    have HIx := hid (hi.below hb)
                    obtain ⟨xA, xc, rfl, -⟩ := hi
                    rw [HL1.out] at HIx ck
                    clear g1 g2 g3 hsB hc
                    have HB233 := hid (below_to HB138.out hb)
                    have HIp233 := hid (HIp138.out.below hb)
                    have HKp233 := hid (HKp138.out.below hb HKp138.out.lt)
                    have HIa233 := hid (HIa138.out.below hb)
                    have HIq233 := hid (HIq138.out.below hb)
                    have HKq233 := hid (HKq138.out.below hb HKq138.out.lt)
                    have HIRc233 := hid (HIRc138.out.below hb)
                    have HBW233 := hid (below_to HBW0.out hb)
                    clear hb HB138 HIp138 HKp138 HIa138 HIq138 HKq138 HIRc138 HBW0
                    have tKp234 := HKp233.out.cell 0
                    have tKq235 := HKq233.out.cell 0
                    by_cases hk0 : k = 0
                    · as_aux_lemma =>
                        have hk1 : ¬ (k : Int) > 0 := by omega
                        clear hk0 HLx HSt
                        go_wp2_with fail
                        refine (oLinear_any _ vs _ (unrL vs k) _ HIq233.out hlq HIx.out (by rw [HL1.out]; omega)).mono ?_
                        rintro e w236 ⟨rfl, hb⟩
                        rw [HO1.out]
                        have HB237 := hid (below_to HB233.out hb)
                        have HIp237 := hid (HIp233.out.below hb)
                        have HKp237 := hid (HKp233.out.below hb HKp233.out.lt)
                        have HIa237 := hid (HIa233.out.below hb)
                        have HIq237 := hid (HIq233.out.below hb)
                        have HKq237 := hid (HKq233.out.below hb HKq233.out.lt)
                        have HIRc237 := hid (HIRc233.out.below hb)
                        have HBW237 := hid (below_to HBW233.out hb)
                        have HIx237 := hid (HIx.out.below hb)
                        clear tKp234 tKq235 ck
                        clear hb HB233 HIp233 HKp233 HIa233 HIq233 HKq233 HIRc233 HBW233 HIx
                        have tKp238 := HKp237.out.cell 0
                        have tKq239 := HKq237.out.cell 0
                        clear tKp238 tKq239
                        go_wp2
                        go_roundw
                        case rel => exact ⟨k + 1, by omega, by go_num, HBW237.out⟩
                        case measure => simp [intOf] <;> omega
                    · as_aux_lemma =>
                        have hk1 : (k : Int) > 0 := by omega
                        obtain ⟨k', hkk⟩ : ∃ k', k' + 1 = k := ⟨k - 1, by omega⟩
                        have hkp : k' < N := by omega
                        have hkpi : (k' : Int) < (N : Int) := by omega
                        have hks : (k : Int) - 1 = (k' : Int) := by omega
                        have hk2 : 0 < k := by omega
                        obtain ⟨jj, d1, d2, d3⟩ := HLx.out k' hkk
                        have HL2 := hid (HSt.out k' hkp).2.1
                        have HD2 := hid d2
                        have HD3 := hid d3
                        clear d2 d3 HLx HSt hk0 hkk
                        go_wp2_with fail
                        refine (oLinear_any _ vs _ (unrL vs k) _ HIq233.out hlq HIx.out (by rw [HL1.out]; omega)).mono ?_
                        rintro e w240 ⟨rfl, hb⟩
                        rw [HO1.out]
                        have HB241 := hid (below_to HB233.out hb)
                        have HIp241 := hid (HIp233.out.below hb)
                        have HKp241 := hid (HKp233.out.below hb HKp233.out.lt)
                        have HIa241 := hid (HIa233.out.below hb)
                        have HIq241 := hid (HIq233.out.below hb)
                        have HKq241 := hid (HKq233.out.below hb HKq233.out.lt)
                        have HIRc241 := hid (HIRc233.out.below hb)
                        have HBW241 := hid (below_to HBW233.out hb)
                        have HIx241 := hid (HIx.out.below hb)
                        clear tKp234 tKq235 ck
                        clear hb HB233 HIp233 HKp233 HIa233 HIq233 HKq233 HIRc233 HBW233 HIx
                        have tKp242 := HKp241.out.cell 0
                        have tKq243 := HKq241.out.cell 0
                        obtain ⟨b2, o2, c2, y, hsh2, hbl2, hc2, hi2⟩ := rows_cell HIRc241.out (k := k') (by rw [rowsN_length]; exact hkp)
                        rw [rowsN_getD _ hkp] at hi2
                        injection hsh2 with hsA2 hsB2 hsC2
                        obtain ⟨rfl, rfl⟩ : b = b2 ∧ o = o2 := by simpa using hsA2
                        subst hsC2
                        have HIy := hid hi2
                        obtain ⟨yA, yc, rfl, -⟩ := hi2
                        rw [HL2.out] at HIy hc2
                        clear hsA2 hsB2
                        go_wp2_with fail
                        refine (oLess_any _ _ (unrL vs k') (unrL vs k) jj _ HIy.out HIx241.out (by rw [HL1.out, HL2.out]) (by rw [HL2.out]; omega) (by rw [HL2.out]; exact d1) HD2.out HD3.out).mono ?_
                        rintro e w244 ⟨rfl, hb⟩
                        have HB245 := hid (below_to HB241.out hb)
                        have HIp245 := hid (HIp241.out.below hb)
                        have HKp245 := hid (HKp241.out.below hb HKp241.out.lt)
                        have HIa245 := hid (HIa241.out.below hb)
                        have HIq245 := hid (HIq241.out.below hb)
                        have HKq245 := hid (HKq241.out.below hb HKq241.out.lt)
                        have HIRc245 := hid (HIRc241.out.below hb)
                        have HBW245 := hid (below_to HBW241.out hb)
                        have HIx245 := hid (HIx241.out.below hb)
                        have HIy245 := hid (HIy.out.below hb)
                        clear tKp242 tKq243 hc2
                        clear hb HB241 HIp241 HKp241 HIa241 HIq241 HKq241 HIRc241 HBW241 HIx241 HIy
                        have tKp246 := HKp245.out.cell 0
                        have tKq247 := HKq245.out.cell 0
                        clear tKp246 tKq247
                        go_wp2
                        go_roundw
                        case rel => exact ⟨k + 1, by omega, by go_num, HBW245.out⟩
                        case measure => simp [intOf] <;> omega
                · as_aux_lemma =>
                    obtain rfl : k = N := by omega
                    clear hlt hk HSt f5 f6
                    have HB248 := hid (below_to HB138.out hb)
                    have HIp248 := hid (HIp138.out.below hb)
                    have HKp248 := hid (HKp138.out.below hb HKp138.out.lt)
                    have HIa248 := hid (HIa138.out.below hb)
                    have HIq248 := hid (HIq138.out.below hb)
                    have HKq248 := hid (HKq138.out.below hb HKq138.out.lt)
                    have HIRc248 := hid (HIRc138.out.below hb)
                    clear hb HB138 HIp138 HKp138 HIa138 HIq138 HKq138 HIRc138
                    have tKp249 := HKp248.out.cell 0
                    have tKq250 := HKq248.out.cell 0
                    clear HIRc248
                    clear HIq248
                    clear HKq248
                    clear tKp249 tKq250
                    rename World => V1
                    have tKp251 := HKp248.out.cell 0
                    go_wp2_with fail
                    refine (drawRankLinear_any _ xs1 _ (bytes_at HY1.out HB248.out) HS.out.2).mono ?_
                    rintro e w252 ⟨u, zs, q, ls, rfl, ho, hl21r, hoq, hm22, hb⟩
                    have hlr : zs.length ≤ 1048576 := by omega
                    have hlm : ls.length ≤ 1048576 := by omega
                    have HIr := hid ho.ints
                    have HIl := hid hoq.ints
                    obtain ⟨rA, rc, rfl, -⟩ := ho.ints
                    obtain ⟨lA, lc, rfl, -⟩ := hoq.ints
                    obtain ⟨m, hm⟩ : ∃ m, ls.length = m := ⟨_, rfl⟩
                    have HLm := hid hm
                    rw [hm] at HIl hm22 ⊢
                    clear ho hoq hm
                    have HB253 := hid (below_to HB248.out hb)
                    have HIp253 := hid (HIp248.out.below hb)
                    have HKp253 := hid (HKp248.out.below hb HKp248.out.lt)
                    have HIa253 := hid (HIa248.out.below hb)
                    clear tKp251
                    clear hb HB248 HIp248 HKp248 HIa248
                    have tKp254 := HKp253.out.cell 0
                    obtain ⟨B7, hB7⟩ : ∃ B7, w252.heap.size = B7 := ⟨_, rfl⟩
                    go_wp2_with fail
                    have HB255 := hid (below_alloc HB253.out (.cells #[.slice rA zs.length rc] 26))
                    have HIp255 := hid (HIp253.out.alloc (.cells #[.slice rA zs.length rc] 26))
                    have HKp255 := hid (HKp253.out.alloc (.cells #[.slice rA zs.length rc] 26))
                    have HIa255 := hid (HIa253.out.alloc (.cells #[.slice rA zs.length rc] 26))
                    have HIr255 := hid (HIr.out.alloc (.cells #[.slice rA zs.length rc] 26))
                    have HIl255 := hid (HIl.out.alloc (.cells #[.slice rA zs.length rc] 26))
                    have HKr255 : Hid (Blk (w252.alloc (.cells #[.slice rA zs.length rc] 26)) B7 26 #[.slice rA zs.length rc]) := hid (by rw [← hB7]; exact Blk.new w252 _ _)
                    clear tKp254
                    clear hB7 HB253 HIp253 HKp253 HIa253 HIr HIl
                    have tKp256 := HKp255.out.cell 0
                    have tKr257 := HKr255.out.cell 0
                    obtain ⟨o4, ho4⟩ : ∃ x, okLin zs ls = x := ⟨_, rfl⟩
                    have Ho4 := hid ho4
                    clear ho4
                    obtain ⟨v4, hv4⟩ : ∃ x, ansRk zs ls = x := ⟨_, rfl⟩
                    have Hv4 := hid hv4
                    clear hv4
                    go_wp2_with fail
                    refine (implRankLinear_any _ zs _ ls _ HIr255.out hlr HIl255.out hlm).mono ?_
                    rintro e w258 ⟨rfl, hb⟩
                    rw [Hv4.out, Ho4.out]
                    have HB259 := hid (below_to HB255.out hb)
                    have HIp259 := hid (HIp255.out.below hb)
                    have HKp259 := hid (HKp255.out.below hb HKp255.out.lt)
                    have HIa259 := hid (HIa255.out.below hb)
                    have HIr259 := hid (HIr255.out.below hb)
                    have HIl259 := hid (HIl255.out.below hb)
                    have HKr259 := hid (HKr255.out.below hb HKr255.out.lt)
                    clear tKp256 tKr257
                    clear hb HB255 HIp255 HKp255 HIa255 HIr255 HIl255 HKr255
                    have tKp260 := HKp259.out.cell 0
                    have tKr261 := HKr259.out.cell 0
                    go_wp2_with fail
                    refine (specRankLinear_any _ zs _ ls _ HIr259.out hlr HIl259.out hlm).mono ?_
                    rintro e w262 ⟨rfl, hb⟩
                    rw [Hv4.out, Ho4.out]
                    have HB263 := hid (below_to HB259.out hb)
                    have HIp263 := hid (HIp259.out.below hb)
                    have HKp263 := hid (HKp259.out.below hb HKp259.out.lt)
                    have HIa263 := hid (HIa259.out.below hb)
                    have HIr263 := hid (HIr259.out.below hb)
                    have HIl263 := hid (HIl259.out.below hb)
                    have HKr263 := hid (HKr259.out.below hb HKr259.out.lt)
                    clear tKp260 tKr261
                    clear hb HB259 HIp259 HKp259 HIa259 HIr259 HIl259 HKr259
                    have tKp264 := HKp263.out.cell 0
                    have tKr265 := HKr263.out.cell 0
                    go_wp2_with fail
                    refine (oLinear_any _ zs _ ls _ HIr263.out hlr HIl263.out hlm).mono ?_
                    rintro e w266 ⟨rfl, hb⟩
                    rw [Ho4.out]
                    have HB267 := hid (below_to HB263.out hb)
                    have HIp267 := hid (HIp263.out.below hb)
                    have HKp267 := hid (HKp263.out.below hb HKp263.out.lt)
                    have HIa267 := hid (HIa263.out.below hb)
                    have HIr267 := hid (HIr263.out.below hb)
                    have HIl267 := hid (HIl263.out.below hb)
                    have HKr267 := hid (HKr263.out.below hb HKr263.out.lt)
                    clear tKp264 tKr265
                    clear hb HB263 HIp263 HKp263 HIa263 HIr263 HIl263 HKr263
                    have tKp268 := HKp267.out.cell 0
                    have tKr269 := HKr267.out.cell 0
                    cases o4
                    · as_aux_lemma =>
                        go_wp2_with fail
                        refine (implRankLinear_any _ us _ D _ HIp267.out hl HIa267.out (by rw [HD.out]; omega)).mono ?_
                        rintro e w270 ⟨rfl, hb⟩
                        rw [HRk.out, HLn.out]
                        have HB271 := hid (below_to HB267.out hb)
                        have HIp271 := hid (HIp267.out.below hb)
                        have HKp271 := hid (HKp267.out.below hb HKp267.out.lt)
                        have HIa271 := hid (HIa267.out.below hb)
                        have HIr271 := hid (HIr267.out.below hb)
                        have HIl271 := hid (HIl267.out.below hb)
                        have HKr271 := hid (HKr267.out.below hb HKr267.out.lt)
                        clear tKp268 tKr269
                        clear hb HB267 HIp267 HKp267 HIa267 HIr267 HIl267 HKr267
                        have tKp272 := HKp271.out.cell 0
                        have tKr273 := HKr271.out.cell 0
                        go_wp2_with fail
                        refine (oLinear_any _ us _ D _ HIp271.out hl HIa271.out (by rw [HD.out]; omega)).mono ?_
                        rintro e w274 ⟨rfl, hb⟩
                        rw [HLn.out]
                        have HB275 := hid (below_to HB271.out hb)
                        have HIp275 := hid (HIp271.out.below hb)
                        have HKp275 := hid (HKp271.out.below hb HKp271.out.lt)
                        have HIa275 := hid (HIa271.out.below hb)
                        have HIr275 := hid (HIr271.out.below hb)
                        have HIl275 := hid (HIl271.out.below hb)
                        have HKr275 := hid (HKr271.out.below hb HKr271.out.lt)
                        clear tKp272 tKr273
                        clear hb HB271 HIp271 HKp271 HIa271 HIr271 HIl271 HKr271
                        have tKp276 := HKp275.out.cell 0
                        have tKr277 := HKr275.out.cell 0
                        clear tKp276 tKr277
                        go_wp2
                        go_ret
                        exact ⟨rfl, HB275.out⟩
                    · as_aux_lemma =>
                        obtain ⟨R, nr, g1, g2, g3, g4, g5, g6⟩ := rkFacts Ho4.out
                        obtain rfl : v4 = (R : Int) := Hv4.out.symm.trans g1
                        have HRo := hid g2
                        have HRa := hid g3
                        have HRl := hid g4
                        clear g1 g2 g3 g4
                        go_wp2_with fail
                        refine (implLinearWith_any _ zs (R : Int) _ HIr267.out hlr (wf_i64 _ (by omega) (by omega))).mono ?_
                        rintro e w278 ⟨ue, rfl, ho, hle, hb⟩
                        rw [HRo.out]
                        rw [HRa.out] at ho hle
                        have HIe := hid ho.ints
                        obtain ⟨Ae, ce, rfl, -⟩ := ho.ints
                        rw [HLm.out] at HIe hle ⊢
                        clear ho
                        have HB279 := hid (below_to HB267.out hb)
                        have HIp279 := hid (HIp267.out.below hb)
                        have HKp279 := hid (HKp267.out.below hb HKp267.out.lt)
                        have HIa279 := hid (HIa267.out.below hb)
                        have HIr279 := hid (HIr267.out.below hb)
                        have HIl279 := hid (HIl267.out.below hb)
                        have HKr279 := hid (HKr267.out.below hb HKr267.out.lt)
                        clear tKp268 tKr269
                        clear hb HB267 HIp267 HKp267 HIa267 HIr267 HIl267 HKr267
                        have tKp280 := HKp279.out.cell 0
                        have tKr281 := HKr279.out.cell 0
                        go_wp2_with fail
                        refine (oSame_any _ _ ls _ HIe.out HIl279.out hlm).mono ?_
                        rintro e w282 ⟨rfl, hb⟩
                        have HB283 := hid (below_to HB279.out hb)
                        have HIp283 := hid (HIp279.out.below hb)
                        have HKp283 := hid (HKp279.out.below hb HKp279.out.lt)
                        have HIa283 := hid (HIa279.out.below hb)
                        have HIr283 := hid (HIr279.out.below hb)
                        have HIl283 := hid (HIl279.out.below hb)
                        have HKr283 := hid (HKr279.out.below hb HKr279.out.lt)
                        have HIe283 := hid (HIe.out.below hb)
                        clear tKp280 tKr281
                        clear hb HB279 HIp279 HKp279 HIa279 HIr279 HIl279 HKr279 HIe
                        have tKp284 := HKp283.out.cell 0
                        have tKr285 := HKr283.out.cell 0
                        go_wp2_with fail
                        refine (implRankLinear_any _ us _ D _ HIp283.out hl HIa283.out (by rw [HD.out]; omega)).mono ?_
                        rintro e w286 ⟨rfl, hb⟩
                        rw [HRk.out, HLn.out]
                        have HB287 := hid (below_to HB283.out hb)
                        have HIp287 := hid (HIp283.out.below hb)
                        have HKp287 := hid (HKp283.out.below hb HKp283.out.lt)
                        have HIa287 := hid (HIa283.out.below hb)
                        have HIr287 := hid (HIr283.out.below hb)
                        have HIl287 := hid (HIl283.out.below hb)
                        have HKr287 := hid (HKr283.out.below hb HKr283.out.lt)
                        have HIe287 := hid (HIe283.out.below hb)
                        clear tKp284 tKr285
                        clear hb HB283 HIp283 HKp283 HIa283 HIr283 HIl283 HKr283 HIe283
                        have tKp288 := HKp287.out.cell 0
                        have tKr289 := HKr287.out.cell 0
                        go_wp2_with fail
                        refine (oLinear_any _ us _ D _ HIp287.out hl HIa287.out (by rw [HD.out]; omega)).mono ?_
                        rintro e w290 ⟨rfl, hb⟩
                        rw [HLn.out]
                        have HB291 := hid (below_to HB287.out hb)
                        have HIp291 := hid (HIp287.out.below hb)
                        have HKp291 := hid (HKp287.out.below hb HKp287.out.lt)
                        have HIa291 := hid (HIa287.out.below hb)
                        have HIr291 := hid (HIr287.out.below hb)
                        have HIl291 := hid (HIl287.out.below hb)
                        have HKr291 := hid (HKr287.out.below hb HKr287.out.lt)
                        have HIe291 := hid (HIe287.out.below hb)
                        clear tKp288 tKr289
                        clear hb HB287 HIp287 HKp287 HIa287 HIr287 HIl287 HKr287 HIe287
                        have tKp292 := HKp291.out.cell 0
                        have tKr293 := HKr291.out.cell 0
                        clear tKp292 tKr293
                        go_wp2
                        go_ret
                        exact ⟨rfl, HB291.out⟩
end Go.Proofs.Ytpdoheagfjeefaa.lawLinearRanked
