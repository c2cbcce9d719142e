/- Texts TogglesUndoLaw, one behind the other. -/
import Derived.BigQuiet
import Derived.Test.YtpdoheagfjeefaaPkTogglesUndoProof05
import Derived.Test.YtpdoheagfjeefaaPkTogglesUndoProof08
import Derived.Test.YtpdoheagfjeefaaPkTogglesUndoProof09
import Derived.Test.YtpdoheagfjeefaaPkTogglesUndoProof10
import Derived.Test.YtpdoheagfjeefaaPkTogglesUndoProof12
import Derived.Test.YtpdoheagfjeefaaPkTogglesUndoProof13
import Derived.Test.YtpdoheagfjeefaaPkTogglesUndoProof14
/- TogglesUndo: the walk of the law (made by tools/gentu.py). -/
namespace Go.Proofs.Ytpdoheagfjeefaa
open Go.RowKit Go.WideShapes Go.ChangeShapes
set_option linter.unusedVariables false
theorem bytes_at {w W : World} {v : Value} {bs : List Int} (h : BytesB w w.heap.size v bs) (hb : Below w.heap.size w W) : BytesB W W.heap.size v bs := (h.below hb).up hb.size
theorem ints_cell {w : World} {b o n c : Nat} {L : List Int} (h : Ints w (.slice (some ⟨b, o, none⟩) n c) L) {j : Nat} (hj : j < L.length) : w.cell? ⟨b, o + j, none⟩ = some (.int .i64 (L.getD j 0)) := by
  obtain ⟨A, c2, e, hA⟩ := h
  injection e with e1 e2 e3
  subst e1
  obtain ⟨b2, o2, e4, -, hc⟩ := hA (by intro h; simp [h] at hj)
  cases e4
  exact hc j hj
theorem ints_addr {w : World} {A : Option Addr} {n c : Nat} {L : List Int} (h : Ints w (.slice A n c) L) (h0 : L ≠ []) : ∃ b o, A = some ⟨b, o, none⟩ := by
  obtain ⟨A2, c2, e, hA⟩ := h
  injection e with e1 e2 e3
  obtain ⟨b, o, e4, -, -⟩ := hA h0
  exact ⟨b, o, by rw [e1, e4]⟩
end Go.Proofs.Ytpdoheagfjeefaa
namespace Go.Proofs.Ytpdoheagfjeefaa.lawTogglesUndo
open Go.RowKit Go.WideShapes Go.ChangeShapes
set_option linter.unusedVariables false
set_option maxRecDepth 100000 in
set_option maxHeartbeats 60000000 in
theorem walk (v0 : Value) (xs0 : List Int) (v1 : Value) (xs1 : List Int) (w : World) (hb0 : BytesB w w.heap.size v0 xs0) (hl0 : xs0.length ≤ maxLen) (hb1 : BytesB w w.heap.size v1 xs1) (hl1 : xs1.length ≤ maxLen) :
    Calls Try.prog 4 #[v0, v1] w fun (r : Ending) w' => r = .returned (.bool true) ∧ Below w.heap.size w w' := by
  have HY0 := hid hb0
  have HY1 := hid hb1
  obtain ⟨A0, c0, rfl, -⟩ := hb0
  obtain ⟨A1, c1, rfl, -⟩ := hb1
  have HL0 := hid hl0
  have HL1 := hid hl1
  unfold maxLen at hl0 hl1
  go_enter Try.func4, Try.ntmps4
  by_cases hbig : 1048576 < xs0.length + xs1.length
  · go_wp2_with fail
    refine (big_any _ _ xs0 xs1 _ HY0.out HY1.out HL0.out HL1.out).mono ?_
    rintro e w1 ⟨rfl, rfl⟩
    rw [decide_eq_true hbig]
    go_wp2
    go_ret
    exact ⟨rfl, Below.refl _ _⟩
  · go_wp2_with fail
    refine (big_any _ _ xs0 xs1 _ HY0.out HY1.out HL0.out HL1.out).mono ?_
    rintro e w1 ⟨rfl, rfl⟩
    rw [decide_eq_false hbig]
    have HS := hid (show xs0.length ≤ 1048576 ∧ xs1.length ≤ 1048576 by omega)
    clear hbig hl0 hl1
    have HB0 : Hid (Below w.heap.size w w) := hid (Below.refl _ _)
    go_wp2_with fail
    refine (drawToggleWord_any _ xs0 _ (bytes_at HY0.out HB0.out) HS.out.1).mono ?_
    rintro e w1 ⟨u, us, s, q, ys, rfl, hwf, ho, hl21, hoq, hm120, hb⟩
    have hl : us.length ≤ 1048576 := by omega
    have HWs := hid hwf
    have HB := hid (below_to HB0.out hb)
    have HIp := hid ho.ints
    have HIy := hid hoq.ints
    obtain ⟨pA, pc, rfl, -⟩ := ho.ints
    obtain ⟨yA, yc, rfl, -⟩ := hoq.ints
    obtain ⟨m, hm⟩ : ∃ m, ys.length = m := ⟨_, rfl⟩
    rw [hm] at HIy hm120 ⊢
    have Hm := hid hm
    have Hml : Hid (ys.length ≤ 1048576) := hid (by omega)
    clear ho hoq hb hwf HB0 hm
    obtain ⟨B5, hB5⟩ : ∃ B5, w1.heap.size = B5 := ⟨_, rfl⟩
    go_wp2_with fail
    have HB2 := hid (below_alloc HB.out (.cells #[.slice pA us.length pc] 26))
    have HIp2 := hid (HIp.out.alloc (.cells #[.slice pA us.length pc] 26))
    have HIy2 := hid (HIy.out.alloc (.cells #[.slice pA us.length pc] 26))
    have HKp2 : Hid (Blk (w1.alloc (.cells #[.slice pA us.length pc] 26)) B5 26 #[.slice pA us.length pc]) := hid (by rw [← hB5]; exact Blk.new w1 _ _)
    clear hB5 HB HIp HIy
    have tKp3 := HKp2.out.cell 0
    cases hok : okTW us ys s
    · as_aux_lemma =>
        have HE := hid (ansTW_no hok)
        have HO1 := hid hok
        clear hok
        go_wp2_with fail
        refine (implToggleWord_any _ us s _ ys _ HIp2.out hl HWs.out HIy2.out Hml.out).mono ?_
        rintro e w4 ⟨rfl, hb⟩
        rw [HE.out, HO1.out]
        have HB5 := hid (below_to HB2.out hb)
        have HIp5 := hid (HIp2.out.below hb)
        have HIy5 := hid (HIy2.out.below hb)
        have HKp5 := hid (HKp2.out.below hb HKp2.out.lt)
        clear tKp3
        clear hb HB2 HIp2 HIy2 HKp2
        have tKp6 := HKp5.out.cell 0
        go_wp2_with fail
        refine (specToggleWord_any _ us s _ ys _ HIp5.out hl HWs.out HIy5.out Hml.out).mono ?_
        rintro e w7 ⟨rfl, hb⟩
        rw [HE.out, HO1.out]
        have HB8 := hid (below_to HB5.out hb)
        have HIp8 := hid (HIp5.out.below hb)
        have HIy8 := hid (HIy5.out.below hb)
        have HKp8 := hid (HKp5.out.below hb HKp5.out.lt)
        clear tKp6
        clear hb HB5 HIp5 HIy5 HKp5
        have tKp9 := HKp8.out.cell 0
        clear HO1 HE HWs hl hl21 Hml Hm hm120 tKp9 HIp8 HIy8 HKp8
        as_aux_lemma =>
          go_wp2_with fail
          refine (drawDoCommute_any _ xs1 _ (bytes_at HY1.out HB8.out) HS.out.2).mono ?_
          rintro e w10 ⟨u, us, d, e2, rfl, ho, hl21, hd, he, hb⟩
          have hl : us.length ≤ 1048576 := by omega
          have HWd := hid (wf_i64 d (by omega) (by omega))
          have HWe := hid (wf_i64 e2 (by omega) (by omega))
          have HB := hid (below_to HB8.out hb)
          have HIp := hid ho.ints
          obtain ⟨pA, pc, rfl, -⟩ := ho.ints
          clear ho hb hd he HB8
          obtain ⟨B6, hB6⟩ : ∃ B6, w10.heap.size = B6 := ⟨_, rfl⟩
          go_wp2_with fail
          have HB11 := hid (below_alloc HB.out (.cells #[.slice pA us.length pc] 26))
          have HIp11 := hid (HIp.out.alloc (.cells #[.slice pA us.length pc] 26))
          have HKp11 : Hid (Blk (w10.alloc (.cells #[.slice pA us.length pc] 26)) B6 26 #[.slice pA us.length pc]) := hid (by rw [← hB6]; exact Blk.new w10 _ _)
          clear hB6 HB HIp
          have tKp12 := HKp11.out.cell 0
          cases hok : okEl us d e2
          · as_aux_lemma =>
              have HE := hid (ansDC_no hok)
              have HO1 := hid hok
              clear hok
              go_wp2_with fail
              refine (implDoCommute_any _ us d e2 _ HIp11.out hl HWd.out HWe.out).mono ?_
              rintro e w13 ⟨rfl, hb⟩
              rw [HE.out, HO1.out]
              have HB14 := hid (below_to HB11.out hb)
              have HIp14 := hid (HIp11.out.below hb)
              have HKp14 := hid (HKp11.out.below hb HKp11.out.lt)
              clear tKp12
              clear hb HB11 HIp11 HKp11
              have tKp15 := HKp14.out.cell 0
              go_wp2_with fail
              refine (specDoCommute_any _ us d e2 _ HIp14.out hl HWd.out HWe.out).mono ?_
              rintro e w16 ⟨rfl, hb⟩
              rw [HE.out, HO1.out]
              have HB17 := hid (below_to HB14.out hb)
              have HIp17 := hid (HIp14.out.below hb)
              have HKp17 := hid (HKp14.out.below hb HKp14.out.lt)
              clear tKp15
              clear hb HB14 HIp14 HKp14
              have tKp18 := HKp17.out.cell 0
              clear HO1 HE HWd HWe hl hl21 tKp18 HIp17 HKp17
              as_aux_lemma =>
                go_wp2_with fail
                refine (drawToggleAt_any _ xs1 _ (bytes_at HY1.out HB17.out) HS.out.2).mono ?_
                rintro e w19 ⟨u, us, s, k, rfl, hwf, ho, hl21, hk1, hk2, hb⟩
                have HBn := hid (below_to HB17.out hb)
                have HIp := hid ho.ints
                obtain ⟨pA, pc, rfl, -⟩ := ho.ints
                have hl : us.length ≤ 1048576 := by omega
                clear ho hb HB17
                have HB := HBn
                clear HBn
                have HWs := hid hwf
                have HWk := hid (wf_i64 k (by omega) (by omega))
                clear hwf hk1 hk2
                obtain ⟨o1, ho1⟩ : ∃ x, okTW us [k] s = x := ⟨_, rfl⟩
                have Ho1 := hid ho1
                clear ho1
                obtain ⟨v1, hv1⟩ : ∃ x, ansTW us [k] s = x := ⟨_, rfl⟩
                have Hv1 := hid hv1
                clear hv1
                obtain ⟨B7, hB7⟩ : ∃ B7, w19.heap.size = B7 := ⟨_, rfl⟩
                go_wp2_with fail
                have HB20 := hid (below_alloc HB.out (.cells #[.slice pA us.length pc] 26))
                have HIp20 := hid (HIp.out.alloc (.cells #[.slice pA us.length pc] 26))
                have HKp20 : Hid (Blk (w19.alloc (.cells #[.slice pA us.length pc] 26)) B7 26 #[.slice pA us.length pc]) := hid (by rw [← hB7]; exact Blk.new w19 _ _)
                clear hB7 HB HIp
                have tKp21 := HKp20.out.cell 0
                go_wp2_with fail
                refine (implToggleAt_any _ us s k _ HIp20.out hl HWs.out HWk.out).mono ?_
                rintro e w22 ⟨rfl, hb⟩
                rw [Hv1.out, Ho1.out]
                have HB23 := hid (below_to HB20.out hb)
                have HIp23 := hid (HIp20.out.below hb)
                have HKp23 := hid (HKp20.out.below hb HKp20.out.lt)
                clear tKp21
                clear hb HB20 HIp20 HKp20
                have tKp24 := HKp23.out.cell 0
                go_wp2_with fail
                refine (specToggleAt_any _ us s k _ HIp23.out hl HWs.out HWk.out).mono ?_
                rintro e w25 ⟨rfl, hb⟩
                rw [Hv1.out, Ho1.out]
                have HB26 := hid (below_to HB23.out hb)
                have HIp26 := hid (HIp23.out.below hb)
                have HKp26 := hid (HKp23.out.below hb HKp23.out.lt)
                clear tKp24
                clear hb HB23 HIp23 HKp23
                have tKp27 := HKp26.out.cell 0
                clear HWs HWk hl hl21 Ho1 Hv1 tKp27 HIp26 HKp26
                go_wp2_with fail
                refine (drawCanToggle_any _ xs1 _ (bytes_at HY1.out HB26.out) HS.out.2).mono ?_
                rintro e w28 ⟨u, us, s, rfl, hwf, ho, hl21, hb⟩
                have HBn := hid (below_to HB26.out hb)
                have HIp := hid ho.ints
                obtain ⟨pA, pc, rfl, -⟩ := ho.ints
                have hl : us.length ≤ 1048576 := by omega
                clear ho hb HB26
                have HB := HBn
                clear HBn
                have HWs := hid hwf
                clear hwf
                obtain ⟨o2, ho2⟩ : ∃ x, okIdeal us s = x := ⟨_, rfl⟩
                have Ho2 := hid ho2
                clear ho2
                obtain ⟨v2, hv2⟩ : ∃ x, ansCT us s = x := ⟨_, rfl⟩
                have Hv2 := hid hv2
                clear hv2
                obtain ⟨B8, hB8⟩ : ∃ B8, w28.heap.size = B8 := ⟨_, rfl⟩
                go_wp2_with fail
                have HB29 := hid (below_alloc HB.out (.cells #[.slice pA us.length pc] 26))
                have HIp29 := hid (HIp.out.alloc (.cells #[.slice pA us.length pc] 26))
                have HKp29 : Hid (Blk (w28.alloc (.cells #[.slice pA us.length pc] 26)) B8 26 #[.slice pA us.length pc]) := hid (by rw [← hB8]; exact Blk.new w28 _ _)
                clear hB8 HB HIp
                have tKp30 := HKp29.out.cell 0
                go_wp2_with fail
                refine (implCanToggle_any _ us s _ HIp29.out hl HWs.out).mono ?_
                rintro e w31 ⟨rfl, hb⟩
                rw [Hv2.out, Ho2.out]
                have HB32 := hid (below_to HB29.out hb)
                have HIp32 := hid (HIp29.out.below hb)
                have HKp32 := hid (HKp29.out.below hb HKp29.out.lt)
                clear tKp30
                clear hb HB29 HIp29 HKp29
                have tKp33 := HKp32.out.cell 0
                go_wp2_with fail
                refine (specCanToggle_any _ us s _ HIp32.out hl HWs.out).mono ?_
                rintro e w34 ⟨rfl, hb⟩
                rw [Hv2.out, Ho2.out]
                have HB35 := hid (below_to HB32.out hb)
                have HIp35 := hid (HIp32.out.below hb)
                have HKp35 := hid (HKp32.out.below hb HKp32.out.lt)
                clear tKp33
                clear hb HB32 HIp32 HKp32
                have tKp36 := HKp35.out.cell 0
                clear HWs hl hl21 Ho2 Hv2 tKp36 HIp35 HKp35
                go_wp2_with fail
                refine (drawToggleCycles_any _ xs1 _ (bytes_at HY1.out HB35.out) HS.out.2).mono ?_
                rintro e w37 ⟨u, us, q, ys, rfl, ho, hl21, hoq, hm120, hb⟩
                have hl : us.length ≤ 1048576 := by omega
                have hm : ys.length ≤ 1048576 := by omega
                have HBn := hid (below_to HB35.out hb)
                have HIp := hid ho.ints
                have HIy := hid hoq.ints
                obtain ⟨pA, pc, rfl, -⟩ := ho.ints
                obtain ⟨yA, yc, rfl, -⟩ := hoq.ints
                clear ho hoq hb HB35
                have HB := HBn
                clear HBn
                obtain ⟨o4, ho4⟩ : ∃ x, okOW us ys = x := ⟨_, rfl⟩
                have Ho4 := hid ho4
                clear ho4
                obtain ⟨v4, hv4⟩ : ∃ x, ansOW us ys = x := ⟨_, rfl⟩
                have Hv4 := hid hv4
                clear hv4
                obtain ⟨B9, hB9⟩ : ∃ B9, w37.heap.size = B9 := ⟨_, rfl⟩
                go_wp2_with fail
                have HB38 := hid (below_alloc HB.out (.cells #[.slice pA us.length pc] 26))
                have HIp38 := hid (HIp.out.alloc (.cells #[.slice pA us.length pc] 26))
                have HIy38 := hid (HIy.out.alloc (.cells #[.slice pA us.length pc] 26))
                have HKp38 : Hid (Blk (w37.alloc (.cells #[.slice pA us.length pc] 26)) B9 26 #[.slice pA us.length pc]) := hid (by rw [← hB9]; exact Blk.new w37 _ _)
                clear hB9 HB HIp HIy
                have tKp39 := HKp38.out.cell 0
                cases hok : okGW us ys
                · as_aux_lemma =>
                    have HO1 := hid hok
                    clear hok
                    go_wp2_with fail
                    refine (implToggleCycles_any _ us _ ys _ HIp38.out hl HIy38.out hm).mono ?_
                    rintro e w40 ⟨ua, rfl, ho, hla, hb⟩
                    rw [HO1.out]
                    have HIa := hid ho.ints
                    obtain ⟨Aa, ca, rfl, -⟩ := ho.ints
                    have HTl := hid hla
                    obtain ⟨na, hna⟩ : ∃ n, (tcL us ys).length = n := ⟨_, rfl⟩
                    have HNa := hid hna
                    rw [hna] at HIa hla ⊢
                    clear ho hna
                    have HB41 := hid (below_to HB38.out hb)
                    have HIp41 := hid (HIp38.out.below hb)
                    have HIy41 := hid (HIy38.out.below hb)
                    have HKp41 := hid (HKp38.out.below hb HKp38.out.lt)
                    clear tKp39
                    clear hb HB38 HIp38 HIy38 HKp38
                    have tKp42 := HKp41.out.cell 0
                    go_wp2_with fail
                    refine (specToggleCycles_any _ us _ ys _ HIp41.out hl HIy41.out hm).mono ?_
                    rintro e w43 ⟨ub, rfl, ho, hlb, hb⟩
                    rw [HO1.out]
                    have HIb := hid ho.ints
                    obtain ⟨Ab, cb, rfl, -⟩ := ho.ints
                    obtain ⟨nb, hnb⟩ : ∃ n, (tcL us ys).length = n := ⟨_, rfl⟩
                    rw [hnb] at HIb hlb ⊢
                    clear ho hnb
                    have HB44 := hid (below_to HB41.out hb)
                    have HIp44 := hid (HIp41.out.below hb)
                    have HIy44 := hid (HIy41.out.below hb)
                    have HKp44 := hid (HKp41.out.below hb HKp41.out.lt)
                    have HIa44 := hid (HIa.out.below hb)
                    clear tKp42
                    clear hb HB41 HIp41 HIy41 HKp41 HIa
                    have tKp45 := HKp44.out.cell 0
                    go_wp2_with fail
                    refine (implOrderOfWord_any _ us _ ys _ HIp44.out hl HIy44.out hm).mono ?_
                    rintro e w46 ⟨rfl, hb⟩
                    rw [Hv4.out, Ho4.out]
                    have HB47 := hid (below_to HB44.out hb)
                    have HIp47 := hid (HIp44.out.below hb)
                    have HIy47 := hid (HIy44.out.below hb)
                    have HKp47 := hid (HKp44.out.below hb HKp44.out.lt)
                    have HIa47 := hid (HIa44.out.below hb)
                    have HIb47 := hid (HIb.out.below hb)
                    clear tKp45
                    clear hb HB44 HIp44 HIy44 HKp44 HIa44 HIb
                    have tKp48 := HKp47.out.cell 0
                    go_wp2_with fail
                    refine (specOrderOfWord_any _ us _ ys _ HIp47.out hl HIy47.out hm).mono ?_
                    rintro e w49 ⟨rfl, hb⟩
                    rw [Hv4.out, Ho4.out]
                    have HB50 := hid (below_to HB47.out hb)
                    have HIp50 := hid (HIp47.out.below hb)
                    have HIy50 := hid (HIy47.out.below hb)
                    have HKp50 := hid (HKp47.out.below hb HKp47.out.lt)
                    have HIa50 := hid (HIa47.out.below hb)
                    have HIb50 := hid (HIb47.out.below hb)
                    clear tKp48
                    clear hb HB47 HIp47 HIy47 HKp47 HIa47 HIb47
                    have tKp51 := HKp50.out.cell 0
                    go_wp2_with fail
                    refine (nSame_any _ _ (tcL us ys) _ HIa50.out HIb50.out HTl.out).mono ?_
                    rintro e w52 ⟨rfl, hb⟩
                    have HB53 := hid (below_to HB50.out hb)
                    have HIp53 := hid (HIp50.out.below hb)
                    have HIy53 := hid (HIy50.out.below hb)
                    have HKp53 := hid (HKp50.out.below hb HKp50.out.lt)
                    have HIa53 := hid (HIa50.out.below hb)
                    have HIb53 := hid (HIb50.out.below hb)
                    clear tKp51
                    clear hb HB50 HIp50 HIy50 HKp50 HIa50 HIb50
                    have tKp54 := HKp53.out.cell 0
                    clear tKp54
                    go_wp2
                    go_ret
                    exact ⟨rfl, HB53.out⟩
                · as_aux_lemma =>
                    have HO1 := hid hok
                    have HCs := hid (cycSum hok)
                    have HCp := hid (cycPart hok)
                    have HCf : Hid (∀ k, k < (tcL us ys).length → _) := hid (fun k hk => cycFacts hok (k := k) hk)
                    have HG := hid (okGW_good hok).1
                    clear hok
                    go_wp2_with fail
                    refine (implToggleCycles_any _ us _ ys _ HIp38.out hl HIy38.out hm).mono ?_
                    rintro e w55 ⟨ua, rfl, ho, hla, hb⟩
                    rw [HO1.out]
                    have HIa := hid ho.ints
                    obtain ⟨Aa, ca, rfl, -⟩ := ho.ints
                    have HTl := hid hla
                    obtain ⟨na, hna⟩ : ∃ n, (tcL us ys).length = n := ⟨_, rfl⟩
                    have HNa := hid hna
                    rw [hna] at HIa hla ⊢
                    clear ho hna
                    have HB56 := hid (below_to HB38.out hb)
                    have HIp56 := hid (HIp38.out.below hb)
                    have HIy56 := hid (HIy38.out.below hb)
                    have HKp56 := hid (HKp38.out.below hb HKp38.out.lt)
                    clear tKp39
                    clear hb HB38 HIp38 HIy38 HKp38
                    have tKp57 := HKp56.out.cell 0
                    go_wp2_with fail
                    refine (specToggleCycles_any _ us _ ys _ HIp56.out hl HIy56.out hm).mono ?_
                    rintro e w58 ⟨ub, rfl, ho, hlb, hb⟩
                    rw [HO1.out]
                    have HIb := hid ho.ints
                    obtain ⟨Ab, cb, rfl, -⟩ := ho.ints
                    obtain ⟨nb, hnb⟩ : ∃ n, (tcL us ys).length = n := ⟨_, rfl⟩
                    rw [hnb] at HIb hlb ⊢
                    clear ho hnb
                    have HB59 := hid (below_to HB56.out hb)
                    have HIp59 := hid (HIp56.out.below hb)
                    have HIy59 := hid (HIy56.out.below hb)
                    have HKp59 := hid (HKp56.out.below hb HKp56.out.lt)
                    have HIa59 := hid (HIa.out.below hb)
                    clear tKp57
                    clear hb HB56 HIp56 HIy56 HKp56 HIa
                    have tKp60 := HKp59.out.cell 0
                    go_wp2_with fail
                    refine (implOrderOfWord_any _ us _ ys _ HIp59.out hl HIy59.out hm).mono ?_
                    rintro e w61 ⟨rfl, hb⟩
                    rw [Hv4.out, Ho4.out]
                    have HB62 := hid (below_to HB59.out hb)
                    have HIp62 := hid (HIp59.out.below hb)
                    have HIy62 := hid (HIy59.out.below hb)
                    have HKp62 := hid (HKp59.out.below hb HKp59.out.lt)
                    have HIa62 := hid (HIa59.out.below hb)
                    have HIb62 := hid (HIb.out.below hb)
                    clear tKp60
                    clear hb HB59 HIp59 HIy59 HKp59 HIa59 HIb
                    have tKp63 := HKp62.out.cell 0
                    go_wp2_with fail
                    refine (specOrderOfWord_any _ us _ ys _ HIp62.out hl HIy62.out hm).mono ?_
                    rintro e w64 ⟨rfl, hb⟩
                    rw [Hv4.out, Ho4.out]
                    have HB65 := hid (below_to HB62.out hb)
                    have HIp65 := hid (HIp62.out.below hb)
                    have HIy65 := hid (HIy62.out.below hb)
                    have HKp65 := hid (HKp62.out.below hb HKp62.out.lt)
                    have HIa65 := hid (HIa62.out.below hb)
                    have HIb65 := hid (HIb62.out.below hb)
                    clear tKp63
                    clear hb HB62 HIp62 HIy62 HKp62 HIa62 HIb62
                    have tKp66 := HKp65.out.cell 0
                    go_wp2_with fail
                    refine (nSame_any _ _ (tcL us ys) _ HIa65.out HIb65.out HTl.out).mono ?_
                    rintro e w67 ⟨rfl, hb⟩
                    have HB68 := hid (below_to HB65.out hb)
                    have HIp68 := hid (HIp65.out.below hb)
                    have HIy68 := hid (HIy65.out.below hb)
                    have HKp68 := hid (HKp65.out.below hb HKp65.out.lt)
                    have HIa68 := hid (HIa65.out.below hb)
                    have HIb68 := hid (HIb65.out.below hb)
                    clear tKp66
                    clear hb HB65 HIp65 HIy65 HKp65 HIa65 HIb65
                    have tKp69 := HKp68.out.cell 0
                    obtain ⟨K, hK⟩ : ∃ K, (idealsL us).length = K := ⟨_, rfl⟩
                    have hcs := HCs.out
                    rw [hK] at hcs
                    have HSum := hid hcs.1
                    have hK2 := hcs.2
                    clear hcs
                    go_wp2_with fail
                    refine (implCountIdeals_any _ us _ HIp68.out hl).mono ?_
                    rintro e w70 ⟨rfl, hb⟩
                    rw [HG.out, hK]
                    have HB71 := hid (below_to HB68.out hb)
                    have HIp71 := hid (HIp68.out.below hb)
                    have HIy71 := hid (HIy68.out.below hb)
                    have HKp71 := hid (HKp68.out.below hb HKp68.out.lt)
                    have HIa71 := hid (HIa68.out.below hb)
                    have HIb71 := hid (HIb68.out.below hb)
                    clear tKp69
                    clear hb HB68 HIp68 HIy68 HKp68 HIa68 HIb68
                    have tKp72 := HKp71.out.cell 0
                    clear hK
                    go_wp2_with fail
                    refine (nSum_any _ (tcL us ys) _ HIa71.out HTl.out (fun k hk => by have := HCp.out k hk; omega)).mono ?_
                    rintro e w73 ⟨rfl, rfl⟩
                    rw [HSum.out]
                    clear HSum HCs HCp
                    go_wp2
                    clear tKp72
                    go_loopw [381] (fun i wr => ∃ k : Nat, k ≤ na ∧ i = .int .i64 (k : Int) ∧ Below w70.heap.size w70 wr) (fun i _ => na - (intOf i).toNat)
                    case atStart => exact ⟨0, Nat.zero_le _, rfl, Below.refl _ _⟩
                    case round =>
                      obtain ⟨k, hk, rfl, hb⟩ := hrel
                      by_cases hlt : k < na
                      · skip
                        as_aux_lemma =>
                          have hlt2 : k < (tcL us ys).length := by rw [HNa.out]; exact hlt
                          obtain ⟨n, c1, c2, c3, c4⟩ := HCf.out k hlt2
                          obtain ⟨bA, oA, rfl⟩ := ints_addr HIa71.out (by intro h0; rw [h0] at hlt2; simp at hlt2)
                          have ck := ints_cell (HIa71.out.below hb) hlt2
                          rw [c1] at ck
                          have HBk := hid hb
                          have C4 := hid c4
                          clear c1 c4 hb hlt2
                          cases hoo : o4
                          · subst hoo
                            go_wp2
                            go_roundw
                            case rel => exact ⟨k + 1, by omega, by go_num, HBk.out⟩
                            case measure => simp [intOf] <;> omega
                          · subst hoo
                            obtain ⟨mm, d1, d2, d3⟩ := C4.out Ho4.out
                            obtain rfl : v4 = (mm : Int) := Hv4.out.symm.trans d1
                            have d4 : Int.tmod (mm : Int) (n : Int) = 0 := by rw [Int.tmod_eq_emod_of_nonneg (by omega), ← Int.natCast_emod, d3]; rfl
                            have d5 : (mm : Int) % (n : Int) = 0 := by rw [← Int.natCast_emod, d3]; rfl
                            have hn0 : ¬ (n : Int) = 0 := by omega
                            have hnb : ((n : Int) == 0) = false := by simpa using (show ¬ n = 0 by omega)
                            clear d1 d3 C4
                            go_wp2
                            go_roundw
                            case rel => exact ⟨k + 1, by omega, by go_num, HBk.out⟩
                            case measure => simp [intOf] <;> omega
                      · as_aux_lemma =>
                          have HBe := hid (below_to HB71.out hb)
                          clear hb
                          go_wp2
                          go_ret
                          exact ⟨rfl, HBe.out⟩
          · as_aux_lemma =>
              obtain ⟨a, b, rfl, rfl, ha, hb', hg, hl10⟩ := okEl_nat hok
              have HE := hid (ansDC_yes hok)
              have HO1 := hid hok
              have HG := hid hg
              have HJ := hid (joinFacts hg ha hb')
              obtain ⟨cv, hcv⟩ : ∃ x, covered us a b = x := ⟨_, rfl⟩
              rw [hcv] at HE HJ
              have hps : (coversP us).length ≤ 100 := by rw [coversP_yes hg]; exact Nat.le_trans (covPS_length _ _ _) (Nat.mul_le_mul (good_length hg).2 (good_length hg).2)
              have hpb : ∀ k, k < (coversP us).length → ((coversP us).getD k (0, 0)).1 < us.length ∧ ((coversP us).getD k (0, 0)).2 < us.length := fun k hk => coversP_bound hg hk
              have HPb := hid hpb
              clear hok hg hcv hpb
              go_wp2_with fail
              refine (implDoCommute_any _ us (a : Int) (b : Int) _ HIp11.out hl HWd.out HWe.out).mono ?_
              rintro e w74 ⟨rfl, hb⟩
              rw [HE.out, HO1.out]
              have HB75 := hid (below_to HB11.out hb)
              have HIp75 := hid (HIp11.out.below hb)
              have HKp75 := hid (HKp11.out.below hb HKp11.out.lt)
              clear tKp12
              clear hb HB11 HIp11 HKp11
              have tKp76 := HKp75.out.cell 0
              go_wp2_with fail
              refine (specDoCommute_any _ us (a : Int) (b : Int) _ HIp75.out hl HWd.out HWe.out).mono ?_
              rintro e w77 ⟨rfl, hb⟩
              rw [HE.out, HO1.out]
              have HB78 := hid (below_to HB75.out hb)
              have HIp78 := hid (HIp75.out.below hb)
              have HKp78 := hid (HKp75.out.below hb HKp75.out.lt)
              clear tKp76
              clear hb HB75 HIp75 HKp75
              have tKp79 := HKp78.out.cell 0
              go_wp2_with fail
              refine (implCoversP_any _ us _ HIp78.out hl).mono ?_
              rintro e w80 ⟨u2, rfl, hp, hb⟩
              rw [HG.out]
              obtain ⟨ps, hps2⟩ : ∃ l, coversP us = l := ⟨_, rfl⟩
              rw [hps2] at hp hps HPb HJ
              obtain ⟨qA, qc, rfl, hsh⟩ := hp.shape
              have HSh := hid hsh
              obtain ⟨n, hn⟩ : ∃ n, ps.length = n := ⟨_, rfl⟩
              rw [hn] at HSh HJ HPb hps ⊢
              clear hp hsh hps2 hn
              have HB81 := hid (below_to HB78.out hb)
              have HIp81 := hid (HIp78.out.below hb)
              have HKp81 := hid (HKp78.out.below hb HKp78.out.lt)
              clear tKp79
              clear hb HB78 HIp78 HKp78
              have tKp82 := HKp81.out.cell 0
              go_wp2
              clear tKp82
              go_loopw [32, 219] (fun a' i wr => ∃ k : Nat, k ≤ n ∧ i = .int .i64 (k : Int) ∧ a' = .bool (joinN ps a b k) ∧ Below w80.heap.size w80 wr) (fun _ i _ => n - (intOf i).toNat)
              case atStart => exact ⟨0, Nat.zero_le _, rfl, rfl, Below.refl _ _⟩
              case round =>
                obtain ⟨k, hk, rfl, rfl, hb⟩ := hrel
                by_cases hlt : k < n
                · skip
                  as_aux_lemma =>
                    obtain ⟨bQ, gQ, rfl, hb1, hb2, hc0, hc1, hc2⟩ := HSh.out k hlt
                    have q0 := (hb.cell (p := ⟨bQ, k, none⟩) hb1).trans hc0
                    have q1 := (hb.cell (p := ⟨gQ, 0, none⟩) hb2).trans hc1
                    have q2 := (hb.cell (p := ⟨gQ, 1, none⟩) hb2).trans hc2
                    have HBk := hid hb
                    obtain ⟨r1, r2⟩ := HPb.out k hlt
                    obtain ⟨p1, hp1⟩ : ∃ x, (ps.getD k (0, 0)).1 = x := ⟨_, rfl⟩
                    obtain ⟨p2, hp2⟩ : ∃ x, (ps.getD k (0, 0)).2 = x := ⟨_, rfl⟩
                    have HJs := hid (joinN_succ ps a b k hp1 hp2)
                    rw [hp1] at q1 r1
                    rw [hp2] at q2 r2
                    obtain ⟨bk, hbk⟩ : ∃ x, joinN ps a b k = x := ⟨_, rfl⟩
                    rw [hbk] at HJs ⊢
                    obtain ⟨x1, hx1⟩ : ∃ x, (p1 == a) = x := ⟨_, rfl⟩
                    obtain ⟨x2, hx2⟩ : ∃ x, (p2 == b) = x := ⟨_, rfl⟩
                    obtain ⟨x3, hx3⟩ : ∃ x, (p1 == b) = x := ⟨_, rfl⟩
                    obtain ⟨x4, hx4⟩ : ∃ x, (p2 == a) = x := ⟨_, rfl⟩
                    have i1 : ((p1 : Int) == (a : Int)) = x1 := (natBeq p1 a).trans hx1
                    have i2 : ((p2 : Int) == (b : Int)) = x2 := (natBeq p2 b).trans hx2
                    have i3 : ((p1 : Int) == (b : Int)) = x3 := (natBeq p1 b).trans hx3
                    have i4 : ((p2 : Int) == (a : Int)) = x4 := (natBeq p2 a).trans hx4
                    rw [hx1, hx2, hx3, hx4] at HJs
                    clear hc0 hc1 hc2 hb hbk hx1 hx2 hx3 hx4 hp1 hp2 hb1 hb2
                    cases bk
                    · cases x1 <;> cases x2 <;> cases x3 <;> cases x4
                      all_goals
                        go_wp2
                        go_roundw
                        case rel => exact ⟨k + 1, by omega, by go_num, by rw [HJs.out]; rfl, HBk.out⟩
                        case measure => simp [intOf] <;> omega
                    · go_wp2
                      go_roundw
                      case rel => exact ⟨k + 1, by omega, by go_num, by rw [HJs.out]; simp, HBk.out⟩
                      case measure => simp [intOf] <;> omega
                · as_aux_lemma =>
                    obtain rfl : k = n := by omega
                    rw [HJ.out]
                    have HB83 := hid (below_to HB81.out hb)
                    have HIp83 := hid (HIp81.out.below hb)
                    have HKp83 := hid (HKp81.out.below hb HKp81.out.lt)
                    clear hb HB81 HIp81 HKp81
                    have tKp84 := HKp83.out.cell 0
                    rename World => V3
                    have hcv1 : ((!cv) == cv) = false := by cases cv <;> rfl
                    have hcv2 : ((!cv) != cv) = true := by cases cv <;> rfl
                    have hcv3 : (cv == !cv) = false := by cases cv <;> rfl
                    have hcv4 : (cv != !cv) = true := by cases cv <;> rfl
                    clear HG HJ HPb HSh hps hl10 ha hb' hlt hk
                    clear HO1 HE HWd HWe hl hl21 tKp84 HIp83 HKp83
                    as_aux_lemma =>
                      go_wp2_with fail
                      refine (drawToggleAt_any _ xs1 _ (bytes_at HY1.out HB83.out) HS.out.2).mono ?_
                      rintro e w85 ⟨u, us, s, k, rfl, hwf, ho, hl21, hk1, hk2, hb⟩
                      have HBn := hid (below_to HB83.out hb)
                      have HIp := hid ho.ints
                      obtain ⟨pA, pc, rfl, -⟩ := ho.ints
                      have hl : us.length ≤ 1048576 := by omega
                      clear ho hb HB83
                      have HB := HBn
                      clear HBn
                      have HWs := hid hwf
                      have HWk := hid (wf_i64 k (by omega) (by omega))
                      clear hwf hk1 hk2
                      obtain ⟨o1, ho1⟩ : ∃ x, okTW us [k] s = x := ⟨_, rfl⟩
                      have Ho1 := hid ho1
                      clear ho1
                      obtain ⟨v1, hv1⟩ : ∃ x, ansTW us [k] s = x := ⟨_, rfl⟩
                      have Hv1 := hid hv1
                      clear hv1
                      obtain ⟨B7, hB7⟩ : ∃ B7, w85.heap.size = B7 := ⟨_, rfl⟩
                      go_wp2_with fail
                      have HB86 := hid (below_alloc HB.out (.cells #[.slice pA us.length pc] 26))
                      have HIp86 := hid (HIp.out.alloc (.cells #[.slice pA us.length pc] 26))
                      have HKp86 : Hid (Blk (w85.alloc (.cells #[.slice pA us.length pc] 26)) B7 26 #[.slice pA us.length pc]) := hid (by rw [← hB7]; exact Blk.new w85 _ _)
                      clear hB7 HB HIp
                      have tKp87 := HKp86.out.cell 0
                      go_wp2_with fail
                      refine (implToggleAt_any _ us s k _ HIp86.out hl HWs.out HWk.out).mono ?_
                      rintro e w88 ⟨rfl, hb⟩
                      rw [Hv1.out, Ho1.out]
                      have HB89 := hid (below_to HB86.out hb)
                      have HIp89 := hid (HIp86.out.below hb)
                      have HKp89 := hid (HKp86.out.below hb HKp86.out.lt)
                      clear tKp87
                      clear hb HB86 HIp86 HKp86
                      have tKp90 := HKp89.out.cell 0
                      go_wp2_with fail
                      refine (specToggleAt_any _ us s k _ HIp89.out hl HWs.out HWk.out).mono ?_
                      rintro e w91 ⟨rfl, hb⟩
                      rw [Hv1.out, Ho1.out]
                      have HB92 := hid (below_to HB89.out hb)
                      have HIp92 := hid (HIp89.out.below hb)
                      have HKp92 := hid (HKp89.out.below hb HKp89.out.lt)
                      clear tKp90
                      clear hb HB89 HIp89 HKp89
                      have tKp93 := HKp92.out.cell 0
                      clear HWs HWk hl hl21 Ho1 Hv1 tKp93 HIp92 HKp92
                      go_wp2_with fail
                      refine (drawCanToggle_any _ xs1 _ (bytes_at HY1.out HB92.out) HS.out.2).mono ?_
                      rintro e w94 ⟨u, us, s, rfl, hwf, ho, hl21, hb⟩
                      have HBn := hid (below_to HB92.out hb)
                      have HIp := hid ho.ints
                      obtain ⟨pA, pc, rfl, -⟩ := ho.ints
                      have hl : us.length ≤ 1048576 := by omega
                      clear ho hb HB92
                      have HB := HBn
                      clear HBn
                      have HWs := hid hwf
                      clear hwf
                      obtain ⟨o2, ho2⟩ : ∃ x, okIdeal us s = x := ⟨_, rfl⟩
                      have Ho2 := hid ho2
                      clear ho2
                      obtain ⟨v2, hv2⟩ : ∃ x, ansCT us s = x := ⟨_, rfl⟩
                      have Hv2 := hid hv2
                      clear hv2
                      obtain ⟨B8, hB8⟩ : ∃ B8, w94.heap.size = B8 := ⟨_, rfl⟩
                      go_wp2_with fail
                      have HB95 := hid (below_alloc HB.out (.cells #[.slice pA us.length pc] 26))
                      have HIp95 := hid (HIp.out.alloc (.cells #[.slice pA us.length pc] 26))
                      have HKp95 : Hid (Blk (w94.alloc (.cells #[.slice pA us.length pc] 26)) B8 26 #[.slice pA us.length pc]) := hid (by rw [← hB8]; exact Blk.new w94 _ _)
                      clear hB8 HB HIp
                      have tKp96 := HKp95.out.cell 0
                      go_wp2_with fail
                      refine (implCanToggle_any _ us s _ HIp95.out hl HWs.out).mono ?_
                      rintro e w97 ⟨rfl, hb⟩
                      rw [Hv2.out, Ho2.out]
                      have HB98 := hid (below_to HB95.out hb)
                      have HIp98 := hid (HIp95.out.below hb)
                      have HKp98 := hid (HKp95.out.below hb HKp95.out.lt)
                      clear tKp96
                      clear hb HB95 HIp95 HKp95
                      have tKp99 := HKp98.out.cell 0
                      go_wp2_with fail
                      refine (specCanToggle_any _ us s _ HIp98.out hl HWs.out).mono ?_
                      rintro e w100 ⟨rfl, hb⟩
                      rw [Hv2.out, Ho2.out]
                      have HB101 := hid (below_to HB98.out hb)
                      have HIp101 := hid (HIp98.out.below hb)
                      have HKp101 := hid (HKp98.out.below hb HKp98.out.lt)
                      clear tKp99
                      clear hb HB98 HIp98 HKp98
                      have tKp102 := HKp101.out.cell 0
                      clear HWs hl hl21 Ho2 Hv2 tKp102 HIp101 HKp101
                      go_wp2_with fail
                      refine (drawToggleCycles_any _ xs1 _ (bytes_at HY1.out HB101.out) HS.out.2).mono ?_
                      rintro e w103 ⟨u, us, q, ys, rfl, ho, hl21, hoq, hm120, hb⟩
                      have hl : us.length ≤ 1048576 := by omega
                      have hm : ys.length ≤ 1048576 := by omega
                      have HBn := hid (below_to HB101.out hb)
                      have HIp := hid ho.ints
                      have HIy := hid hoq.ints
                      obtain ⟨pA, pc, rfl, -⟩ := ho.ints
                      obtain ⟨yA, yc, rfl, -⟩ := hoq.ints
                      clear ho hoq hb HB101
                      have HB := HBn
                      clear HBn
                      obtain ⟨o4, ho4⟩ : ∃ x, okOW us ys = x := ⟨_, rfl⟩
                      have Ho4 := hid ho4
                      clear ho4
                      obtain ⟨v4, hv4⟩ : ∃ x, ansOW us ys = x := ⟨_, rfl⟩
                      have Hv4 := hid hv4
                      clear hv4
                      obtain ⟨B9, hB9⟩ : ∃ B9, w103.heap.size = B9 := ⟨_, rfl⟩
                      go_wp2_with fail
                      have HB104 := hid (below_alloc HB.out (.cells #[.slice pA us.length pc] 26))
                      have HIp104 := hid (HIp.out.alloc (.cells #[.slice pA us.length pc] 26))
                      have HIy104 := hid (HIy.out.alloc (.cells #[.slice pA us.length pc] 26))
                      have HKp104 : Hid (Blk (w103.alloc (.cells #[.slice pA us.length pc] 26)) B9 26 #[.slice pA us.length pc]) := hid (by rw [← hB9]; exact Blk.new w103 _ _)
                      clear hB9 HB HIp HIy
                      have tKp105 := HKp104.out.cell 0
                      cases hok : okGW us ys
                      · as_aux_lemma =>
                          have HO1 := hid hok
                          clear hok
                          go_wp2_with fail
                          refine (implToggleCycles_any _ us _ ys _ HIp104.out hl HIy104.out hm).mono ?_
                          rintro e w106 ⟨ua, rfl, ho, hla, hb⟩
                          rw [HO1.out]
                          have HIa := hid ho.ints
                          obtain ⟨Aa, ca, rfl, -⟩ := ho.ints
                          have HTl := hid hla
                          obtain ⟨na, hna⟩ : ∃ n, (tcL us ys).length = n := ⟨_, rfl⟩
                          have HNa := hid hna
                          rw [hna] at HIa hla ⊢
                          clear ho hna
                          have HB107 := hid (below_to HB104.out hb)
                          have HIp107 := hid (HIp104.out.below hb)
                          have HIy107 := hid (HIy104.out.below hb)
                          have HKp107 := hid (HKp104.out.below hb HKp104.out.lt)
                          clear tKp105
                          clear hb HB104 HIp104 HIy104 HKp104
                          have tKp108 := HKp107.out.cell 0
                          go_wp2_with fail
                          refine (specToggleCycles_any _ us _ ys _ HIp107.out hl HIy107.out hm).mono ?_
                          rintro e w109 ⟨ub, rfl, ho, hlb, hb⟩
                          rw [HO1.out]
                          have HIb := hid ho.ints
                          obtain ⟨Ab, cb, rfl, -⟩ := ho.ints
                          obtain ⟨nb, hnb⟩ : ∃ n, (tcL us ys).length = n := ⟨_, rfl⟩
                          rw [hnb] at HIb hlb ⊢
                          clear ho hnb
                          have HB110 := hid (below_to HB107.out hb)
                          have HIp110 := hid (HIp107.out.below hb)
                          have HIy110 := hid (HIy107.out.below hb)
                          have HKp110 := hid (HKp107.out.below hb HKp107.out.lt)
                          have HIa110 := hid (HIa.out.below hb)
                          clear tKp108
                          clear hb HB107 HIp107 HIy107 HKp107 HIa
                          have tKp111 := HKp110.out.cell 0
                          go_wp2_with fail
                          refine (implOrderOfWord_any _ us _ ys _ HIp110.out hl HIy110.out hm).mono ?_
                          rintro e w112 ⟨rfl, hb⟩
                          rw [Hv4.out, Ho4.out]
                          have HB113 := hid (below_to HB110.out hb)
                          have HIp113 := hid (HIp110.out.below hb)
                          have HIy113 := hid (HIy110.out.below hb)
                          have HKp113 := hid (HKp110.out.below hb HKp110.out.lt)
                          have HIa113 := hid (HIa110.out.below hb)
                          have HIb113 := hid (HIb.out.below hb)
                          clear tKp111
                          clear hb HB110 HIp110 HIy110 HKp110 HIa110 HIb
                          have tKp114 := HKp113.out.cell 0
                          go_wp2_with fail
                          refine (specOrderOfWord_any _ us _ ys _ HIp113.out hl HIy113.out hm).mono ?_
                          rintro e w115 ⟨rfl, hb⟩
                          rw [Hv4.out, Ho4.out]
                          have HB116 := hid (below_to HB113.out hb)
                          have HIp116 := hid (HIp113.out.below hb)
                          have HIy116 := hid (HIy113.out.below hb)
                          have HKp116 := hid (HKp113.out.below hb HKp113.out.lt)
                          have HIa116 := hid (HIa113.out.below hb)
                          have HIb116 := hid (HIb113.out.below hb)
                          clear tKp114
                          clear hb HB113 HIp113 HIy113 HKp113 HIa113 HIb113
                          have tKp117 := HKp116.out.cell 0
                          go_wp2_with fail
                          refine (nSame_any _ _ (tcL us ys) _ HIa116.out HIb116.out HTl.out).mono ?_
                          rintro e w118 ⟨rfl, hb⟩
                          have HB119 := hid (below_to HB116.out hb)
                          have HIp119 := hid (HIp116.out.below hb)
                          have HIy119 := hid (HIy116.out.below hb)
                          have HKp119 := hid (HKp116.out.below hb HKp116.out.lt)
                          have HIa119 := hid (HIa116.out.below hb)
                          have HIb119 := hid (HIb116.out.below hb)
                          clear tKp117
                          clear hb HB116 HIp116 HIy116 HKp116 HIa116 HIb116
                          have tKp120 := HKp119.out.cell 0
                          clear tKp120
                          go_wp2
                          go_ret
                          exact ⟨rfl, HB119.out⟩
                      · as_aux_lemma =>
                          have HO1 := hid hok
                          have HCs := hid (cycSum hok)
                          have HCp := hid (cycPart hok)
                          have HCf : Hid (∀ k, k < (tcL us ys).length → _) := hid (fun k hk => cycFacts hok (k := k) hk)
                          have HG := hid (okGW_good hok).1
                          clear hok
                          go_wp2_with fail
                          refine (implToggleCycles_any _ us _ ys _ HIp104.out hl HIy104.out hm).mono ?_
                          rintro e w121 ⟨ua, rfl, ho, hla, hb⟩
                          rw [HO1.out]
                          have HIa := hid ho.ints
                          obtain ⟨Aa, ca, rfl, -⟩ := ho.ints
                          have HTl := hid hla
                          obtain ⟨na, hna⟩ : ∃ n, (tcL us ys).length = n := ⟨_, rfl⟩
                          have HNa := hid hna
                          rw [hna] at HIa hla ⊢
                          clear ho hna
                          have HB122 := hid (below_to HB104.out hb)
                          have HIp122 := hid (HIp104.out.below hb)
                          have HIy122 := hid (HIy104.out.below hb)
                          have HKp122 := hid (HKp104.out.below hb HKp104.out.lt)
                          clear tKp105
                          clear hb HB104 HIp104 HIy104 HKp104
                          have tKp123 := HKp122.out.cell 0
                          go_wp2_with fail
                          refine (specToggleCycles_any _ us _ ys _ HIp122.out hl HIy122.out hm).mono ?_
                          rintro e w124 ⟨ub, rfl, ho, hlb, hb⟩
                          rw [HO1.out]
                          have HIb := hid ho.ints
                          obtain ⟨Ab, cb, rfl, -⟩ := ho.ints
                          obtain ⟨nb, hnb⟩ : ∃ n, (tcL us ys).length = n := ⟨_, rfl⟩
                          rw [hnb] at HIb hlb ⊢
                          clear ho hnb
                          have HB125 := hid (below_to HB122.out hb)
                          have HIp125 := hid (HIp122.out.below hb)
                          have HIy125 := hid (HIy122.out.below hb)
                          have HKp125 := hid (HKp122.out.below hb HKp122.out.lt)
                          have HIa125 := hid (HIa.out.below hb)
                          clear tKp123
                          clear hb HB122 HIp122 HIy122 HKp122 HIa
                          have tKp126 := HKp125.out.cell 0
                          go_wp2_with fail
                          refine (implOrderOfWord_any _ us _ ys _ HIp125.out hl HIy125.out hm).mono ?_
                          rintro e w127 ⟨rfl, hb⟩
                          rw [Hv4.out, Ho4.out]
                          have HB128 := hid (below_to HB125.out hb)
                          have HIp128 := hid (HIp125.out.below hb)
                          have HIy128 := hid (HIy125.out.below hb)
                          have HKp128 := hid (HKp125.out.below hb HKp125.out.lt)
                          have HIa128 := hid (HIa125.out.below hb)
                          have HIb128 := hid (HIb.out.below hb)
                          clear tKp126
                          clear hb HB125 HIp125 HIy125 HKp125 HIa125 HIb
                          have tKp129 := HKp128.out.cell 0
                          go_wp2_with fail
                          refine (specOrderOfWord_any _ us _ ys _ HIp128.out hl HIy128.out hm).mono ?_
                          rintro e w130 ⟨rfl, hb⟩
                          rw [Hv4.out, Ho4.out]
                          have HB131 := hid (below_to HB128.out hb)
                          have HIp131 := hid (HIp128.out.below hb)
                          have HIy131 := hid (HIy128.out.below hb)
                          have HKp131 := hid (HKp128.out.below hb HKp128.out.lt)
                          have HIa131 := hid (HIa128.out.below hb)
                          have HIb131 := hid (HIb128.out.below hb)
                          clear tKp129
                          clear hb HB128 HIp128 HIy128 HKp128 HIa128 HIb128
                          have tKp132 := HKp131.out.cell 0
                          go_wp2_with fail
                          refine (nSame_any _ _ (tcL us ys) _ HIa131.out HIb131.out HTl.out).mono ?_
                          rintro e w133 ⟨rfl, hb⟩
                          have HB134 := hid (below_to HB131.out hb)
                          have HIp134 := hid (HIp131.out.below hb)
                          have HIy134 := hid (HIy131.out.below hb)
                          have HKp134 := hid (HKp131.out.below hb HKp131.out.lt)
                          have HIa134 := hid (HIa131.out.below hb)
                          have HIb134 := hid (HIb131.out.below hb)
                          clear tKp132
                          clear hb HB131 HIp131 HIy131 HKp131 HIa131 HIb131
                          have tKp135 := HKp134.out.cell 0
                          obtain ⟨K, hK⟩ : ∃ K, (idealsL us).length = K := ⟨_, rfl⟩
                          have hcs := HCs.out
                          rw [hK] at hcs
                          have HSum := hid hcs.1
                          have hK2 := hcs.2
                          clear hcs
                          go_wp2_with fail
                          refine (implCountIdeals_any _ us _ HIp134.out hl).mono ?_
                          rintro e w136 ⟨rfl, hb⟩
                          rw [HG.out, hK]
                          have HB137 := hid (below_to HB134.out hb)
                          have HIp137 := hid (HIp134.out.below hb)
                          have HIy137 := hid (HIy134.out.below hb)
                          have HKp137 := hid (HKp134.out.below hb HKp134.out.lt)
                          have HIa137 := hid (HIa134.out.below hb)
                          have HIb137 := hid (HIb134.out.below hb)
                          clear tKp135
                          clear hb HB134 HIp134 HIy134 HKp134 HIa134 HIb134
                          have tKp138 := HKp137.out.cell 0
                          clear hK
                          go_wp2_with fail
                          refine (nSum_any _ (tcL us ys) _ HIa137.out HTl.out (fun k hk => by have := HCp.out k hk; omega)).mono ?_
                          rintro e w139 ⟨rfl, rfl⟩
                          rw [HSum.out]
                          clear HSum HCs HCp
                          go_wp2
                          clear tKp138
                          go_loopw [381] (fun i wr => ∃ k : Nat, k ≤ na ∧ i = .int .i64 (k : Int) ∧ Below w136.heap.size w136 wr) (fun i _ => na - (intOf i).toNat)
                          case atStart => exact ⟨0, Nat.zero_le _, rfl, Below.refl _ _⟩
                          case round =>
                            obtain ⟨k, hk, rfl, hb⟩ := hrel
                            by_cases hlt : k < na
                            · skip
                              as_aux_lemma =>
                                have hlt2 : k < (tcL us ys).length := by rw [HNa.out]; exact hlt
                                obtain ⟨n, c1, c2, c3, c4⟩ := HCf.out k hlt2
                                obtain ⟨bA, oA, rfl⟩ := ints_addr HIa137.out (by intro h0; rw [h0] at hlt2; simp at hlt2)
                                have ck := ints_cell (HIa137.out.below hb) hlt2
                                rw [c1] at ck
                                have HBk := hid hb
                                have C4 := hid c4
                                clear c1 c4 hb hlt2
                                cases hoo : o4
                                · subst hoo
                                  go_wp2
                                  go_roundw
                                  case rel => exact ⟨k + 1, by omega, by go_num, HBk.out⟩
                                  case measure => simp [intOf] <;> omega
                                · subst hoo
                                  obtain ⟨mm, d1, d2, d3⟩ := C4.out Ho4.out
                                  obtain rfl : v4 = (mm : Int) := Hv4.out.symm.trans d1
                                  have d4 : Int.tmod (mm : Int) (n : Int) = 0 := by rw [Int.tmod_eq_emod_of_nonneg (by omega), ← Int.natCast_emod, d3]; rfl
                                  have d5 : (mm : Int) % (n : Int) = 0 := by rw [← Int.natCast_emod, d3]; rfl
                                  have hn0 : ¬ (n : Int) = 0 := by omega
                                  have hnb : ((n : Int) == 0) = false := by simpa using (show ¬ n = 0 by omega)
                                  clear d1 d3 C4
                                  go_wp2
                                  go_roundw
                                  case rel => exact ⟨k + 1, by omega, by go_num, HBk.out⟩
                                  case measure => simp [intOf] <;> omega
                            · as_aux_lemma =>
                                have HBe := hid (below_to HB137.out hb)
                                clear hb
                                go_wp2
                                go_ret
                                exact ⟨rfl, HBe.out⟩
    · as_aux_lemma =>
        obtain ⟨z, T, rfl, hg, hz, hi, hw, hT, f1, f2, f3, f4, hT10⟩ := twFacts hok
        have hz10 := lt1024 hz (good_length hg).2
        have HO1 := hid hok
        have HE := hid f1
        have HO2 := hid f2
        have HE3 := hid f3
        have HE4 := hid f4
        have HT := hid hT
        have HSt : Hid (∀ k, k < ys.length → _) := hid (fun k hk => stepFacts hg hz hi hw (k := k) hk)
        clear hok hg hz hi hw hT f1 f2 f3 f4
        go_wp2_with fail
        refine (implToggleWord_any _ us (z : Int) _ ys _ HIp2.out hl HWs.out HIy2.out Hml.out).mono ?_
        rintro e w140 ⟨rfl, hb⟩
        rw [HE.out, HO1.out]
        have HB141 := hid (below_to HB2.out hb)
        have HIp141 := hid (HIp2.out.below hb)
        have HIy141 := hid (HIy2.out.below hb)
        have HKp141 := hid (HKp2.out.below hb HKp2.out.lt)
        clear tKp3
        clear hb HB2 HIp2 HIy2 HKp2
        have tKp142 := HKp141.out.cell 0
        go_wp2_with fail
        refine (specToggleWord_any _ us (z : Int) _ ys _ HIp141.out hl HWs.out HIy141.out Hml.out).mono ?_
        rintro e w143 ⟨rfl, hb⟩
        rw [HE.out, HO1.out]
        have HB144 := hid (below_to HB141.out hb)
        have HIp144 := hid (HIp141.out.below hb)
        have HIy144 := hid (HIy141.out.below hb)
        have HKp144 := hid (HKp141.out.below hb HKp141.out.lt)
        clear tKp142
        clear hb HB141 HIp141 HIy141 HKp141
        have tKp145 := HKp144.out.cell 0
        go_wp2
        clear tKp145
        go_loopw [12, 13] (fun a i wr => ∃ k j : Nat, k + j = m ∧ i = .int .i64 ((j : Int) - 1) ∧ OwnI 3 wr w143.heap.size a (ys.reverse.take k) ∧ Below w143.heap.size w143 wr) (fun _ i _ => ((intOf i) + 1).toNat)
        case atStart => exact ⟨0, m, by omega, by first | rfl | go_num, OwnI.nil _ _ _, Below.refl _ _⟩
        case round =>
          obtain ⟨k, j, hkj, rfl, ho, hb⟩ := hrel
          by_cases hj : 0 < j
          · skip
            as_aux_lemma =>
              obtain ⟨j, rfl⟩ : ∃ j', j = j' + 1 := ⟨j - 1, by omega⟩
              have ej : ((j + 1 : Nat) : Int) - 1 = (j : Int) := by omega
              rw [ej]
              obtain ⟨bY, oY, rfl⟩ := ints_addr HIy144.out (by intro h0; have := Hm.out; rw [h0] at this; simp at this; omega)
              have HO := hid ho
              obtain ⟨aA, an, ac, rfl⟩ := ho.shape3
              have HBk := hid hb
              have hwz := hb.size
              have ck := ints_cell (HIy144.out.below hb) (show j < _ by rw [Hm.out]; omega)
              have HR : Hid (ys.reverse.take (k + 1) = _) := hid (rev_take (ys := ys) (k := k) (j := j) (by rw [Hm.out]; omega))
              have hlk : (ys.reverse.take k).length ≤ 1000 := by rw [List.length_take]; omega
              obtain ⟨y, hy⟩ : ∃ y, ys.getD j 0 = y := ⟨_, rfl⟩
              rw [hy] at ck HR
              clear ho hb hy ej
              go_wp2_with (at_builtin; refine wpList_append_int rfl _ _ 24 3 rfl Try.underlying24 Try.info3 w143.heap.size _ (ys.reverse.take k) y rfl HO.out rfl rfl (by omega) hwz ?_; rintro q4 w4 ho4 hb4)
              have hO4 : OwnI 3 w4 w143.heap.size q4 (ys.reverse.take (k + 1)) := by rw [HR.out]; exact ho4
              go_roundw
              case rel => exact ⟨k + 1, j, by omega, by first | rfl | go_num, hO4, HBk.out.trans hb4⟩
              case measure => simp [intOf] <;> omega
          · as_aux_lemma =>
              obtain rfl : j = 0 := by omega
              have hrv : ys.reverse.take k = ys.reverse := List.take_of_length_le (by rw [List.length_reverse, Hm.out]; omega)
              rw [hrv] at ho
              have HIr := hid ho.ints
              obtain ⟨rA, rc, rfl, -⟩ := ho.ints
              rw [List.length_reverse, Hm.out] at HIr ⊢
              have HRl : Hid (ys.reverse.length ≤ 1048576) := hid (by rw [List.length_reverse]; exact Hml.out)
              clear ho hrv hj hkj
              have HB146 := hid (below_to HB144.out hb)
              have HIp146 := hid (HIp144.out.below hb)
              have HIy146 := hid (HIy144.out.below hb)
              have HKp146 := hid (HKp144.out.below hb HKp144.out.lt)
              clear hb HB144 HIp144 HIy144 HKp144
              have tKp147 := HKp146.out.cell 0
              rename World => V1
              go_wp2_with fail
              refine (implToggleWord_any _ us (T : Int) _ ys.reverse _ HIp146.out hl (wf_i64 _ (by omega) (by omega)) HIr.out HRl.out).mono ?_
              rintro e w148 ⟨rfl, hb⟩
              rw [HE3.out, HO2.out]
              have HB149 := hid (below_to HB146.out hb)
              have HIp149 := hid (HIp146.out.below hb)
              have HIy149 := hid (HIy146.out.below hb)
              have HKp149 := hid (HKp146.out.below hb HKp146.out.lt)
              have HIr149 := hid (HIr.out.below hb)
              clear tKp147
              clear hb HB146 HIp146 HIy146 HKp146 HIr
              have tKp150 := HKp149.out.cell 0
              go_wp2_with fail
              refine (nIdeal_any _ us (T : Int) _ HIp149.out hl (wf_i64 _ (by omega) (by omega))).mono ?_
              rintro e w151 ⟨rfl, hb⟩
              rw [HE4.out]
              have HB152 := hid (below_to HB149.out hb)
              have HIp152 := hid (HIp149.out.below hb)
              have HIy152 := hid (HIy149.out.below hb)
              have HKp152 := hid (HKp149.out.below hb HKp149.out.lt)
              have HIr152 := hid (HIr149.out.below hb)
              clear tKp150
              clear hb HB149 HIp149 HIy149 HKp149 HIr149
              have tKp153 := HKp152.out.cell 0
              clear HE3 HO2 HE4 HRl HIr152
              go_wp2
              clear tKp153
              go_loopw [16, 131] (fun a i wr => ∃ k N : Nat, k ≤ m ∧ i = .int .i64 (k : Int) ∧ a = .int .i64 (N : Int) ∧ Hid (togW us z (ys.take k) = N) ∧ Below w151.heap.size w151 wr) (fun _ i _ => m - (intOf i).toNat)
              case atStart => exact ⟨0, z, Nat.zero_le _, rfl, rfl, hid rfl, Below.refl _ _⟩
              case round =>
                obtain ⟨k, N, hk, rfl, rfl, HN, hb⟩ := hrel
                by_cases hlt : k < m
                · skip
                  as_aux_lemma =>
                    have HBW0 := hid (Below.refl w151.heap.size w151)
                    obtain ⟨bY, oY, rfl⟩ := ints_addr HIy152.out (by intro h0; have := Hm.out; rw [h0] at this; simp at this; omega)
                    have HB154 := hid (below_to HB152.out hb)
                    have HIp154 := hid (HIp152.out.below hb)
                    have HIy154 := hid (HIy152.out.below hb)
                    have HKp154 := hid (HKp152.out.below hb HKp152.out.lt)
                    have HBW154 := hid (below_to HBW0.out hb)
                    clear hb HB152 HIp152 HIy152 HKp152 HBW0
                    have tKp155 := HKp154.out.cell 0
                    obtain ⟨e, N', M, C, g1, he10, g3, g4, g5, g6, g7, g8, g9, g10, hN10, hM10, hC10⟩ := HSt.out k (by rw [Hm.out]; exact hlt)
                    obtain rfl : N = N' := HN.out.symm.trans g3
                    have HM := hid g4
                    have HO5 := hid g5
                    have HE6 := hid g6
                    have HO7 := hid g7
                    have HE8 := hid g8
                    have H9 := hid g9
                    have H10 := hid g10
                    have ck := ints_cell HIy154.out (show k < _ by rw [Hm.out]; exact hlt)
                    rw [g1] at ck
                    clear g1 g3 g4 g5 g6 g7 g8 g9 g10 HN HSt
                    go_wp2_with fail
                    refine (implToggleAt_any _ us (N : Int) (e : Int) _ HIp154.out hl (wf_i64 _ (by omega) (by omega)) (wf_i64 _ (by omega) (by omega))).mono ?_
                    rintro e w156 ⟨rfl, hb⟩
                    rw [HE6.out, HO5.out]
                    have HB157 := hid (below_to HB154.out hb)
                    have HIp157 := hid (HIp154.out.below hb)
                    have HIy157 := hid (HIy154.out.below hb)
                    have HKp157 := hid (HKp154.out.below hb HKp154.out.lt)
                    have HBW157 := hid (below_to HBW154.out hb)
                    clear tKp155 ck
                    clear hb HB154 HIp154 HIy154 HKp154 HBW154
                    have tKp158 := HKp157.out.cell 0
                    go_wp2_with fail
                    refine (implCanToggle_any _ us (N : Int) _ HIp157.out hl (wf_i64 _ (by omega) (by omega))).mono ?_
                    rintro e w159 ⟨rfl, hb⟩
                    rw [HE8.out, HO7.out]
                    have HB160 := hid (below_to HB157.out hb)
                    have HIp160 := hid (HIp157.out.below hb)
                    have HIy160 := hid (HIy157.out.below hb)
                    have HKp160 := hid (HKp157.out.below hb HKp157.out.lt)
                    have HBW160 := hid (below_to HBW157.out hb)
                    clear tKp158
                    clear hb HB157 HIp157 HIy157 HKp157 HBW157
                    have tKp161 := HKp160.out.cell 0
                    obtain ⟨Q, hQ⟩ : ∃ Q, 2 ^ e = Q := ⟨_, rfl⟩
                    have hQ1 : Q ≤ 1024 := by rw [← hQ]; exact Nat.pow_le_pow_right (n := 2) (by decide) (show e ≤ 10 by omega)
                    have hxr := i64_xor_nat N Q (Nat.lt_trans hN10 (by decide)) (Nat.lt_of_le_of_lt hQ1 (by decide))
                    have hqi : (2 : Int) ^ e = (Q : Int) := by rw [← hQ, Int.natCast_pow]; rfl
                    have hw0 : IntKind.i64.wrap (Q : Int) = (Q : Int) := by rw [IntKind.wrap_i64]; omega
                    have hw2 : IntKind.i64.wrap ((2 : Int) ^ e) = (Q : Int) := by rw [hqi, hw0]
                    have hw1 : wrap64 ((2 : Int) ^ e) = (Q : Int) := by rw [wrap_pow e (by omega), hQ]
                    clear hqi hw0
                    have h10 := H10.out
                    rw [hQ] at h10
                    have h9 := H9.out
                    clear HE6 HO5 HE8 HO7 H9 H10 hQ
                    by_cases hMN : M = N
                    · subst hMN
                      have h9' : (((C : Int) / 2 ^ e).tmod 2 == 1) = false := by rw [h9]; simp
                      clear h9 h10
                      go_wp2
                      go_roundw
                      case rel => exact ⟨k + 1, M, by omega, by go_num, rfl, HM, HBW160.out⟩
                      case measure => simp [intOf] <;> omega
                    · have hX : N ^^^ Q = M := by rcases h10 with h | h; exact absurd h hMN; exact h.symm
                      have h9' : (((C : Int) / 2 ^ e).tmod 2 == 1) = true := by rw [h9]; simpa using hMN
                      have hMi : ¬ (M : Int) = (N : Int) := fun h => hMN (Int.ofNat_inj.1 h)
                      have hMb : ((M : Int) == (N : Int)) = false := beq_eq_false_iff_ne.2 hMi
                      have h9b : ((C : Int) / 2 ^ e).tmod 2 = 1 := by simpa using h9'
                      have hMc : ((M : Int) != (N : Int)) = true := bne_iff_ne.2 hMi
                      rw [hX] at hxr
                      clear h9 h10 hX
                      go_wp2
                      go_roundw
                      case rel => exact ⟨k + 1, M, by omega, by go_num, rfl, HM, HBW160.out⟩
                      case measure => simp [intOf] <;> omega
                · as_aux_lemma =>
                    obtain rfl : k = m := by omega
                    have hN : N = T := by rw [← HN.out, ← HT.out, List.take_of_length_le (by rw [Hm.out]; exact Nat.le_refl _)]
                    subst hN
                    clear HN HT HSt hlt hk
                    have HB162 := hid (below_to HB152.out hb)
                    have HIp162 := hid (HIp152.out.below hb)
                    have HIy162 := hid (HIy152.out.below hb)
                    have HKp162 := hid (HKp152.out.below hb HKp152.out.lt)
                    clear hb HB152 HIp152 HIy152 HKp152
                    have tKp163 := HKp162.out.cell 0
                    rename World => V2
                    clear HO1 HE HWs hl hl21 Hml Hm hm120 hz10 hT10 tKp163 HIp162 HIy162 HKp162
                    as_aux_lemma =>
                      go_wp2_with fail
                      refine (drawDoCommute_any _ xs1 _ (bytes_at HY1.out HB162.out) HS.out.2).mono ?_
                      rintro e w164 ⟨u, us, d, e2, rfl, ho, hl21, hd, he, hb⟩
                      have hl : us.length ≤ 1048576 := by omega
                      have HWd := hid (wf_i64 d (by omega) (by omega))
                      have HWe := hid (wf_i64 e2 (by omega) (by omega))
                      have HB := hid (below_to HB162.out hb)
                      have HIp := hid ho.ints
                      obtain ⟨pA, pc, rfl, -⟩ := ho.ints
                      clear ho hb hd he HB162
                      obtain ⟨B6, hB6⟩ : ∃ B6, w164.heap.size = B6 := ⟨_, rfl⟩
                      go_wp2_with fail
                      have HB165 := hid (below_alloc HB.out (.cells #[.slice pA us.length pc] 26))
                      have HIp165 := hid (HIp.out.alloc (.cells #[.slice pA us.length pc] 26))
                      have HKp165 : Hid (Blk (w164.alloc (.cells #[.slice pA us.length pc] 26)) B6 26 #[.slice pA us.length pc]) := hid (by rw [← hB6]; exact Blk.new w164 _ _)
                      clear hB6 HB HIp
                      have tKp166 := HKp165.out.cell 0
                      cases hok : okEl us d e2
                      · as_aux_lemma =>
                          have HE := hid (ansDC_no hok)
                          have HO1 := hid hok
                          clear hok
                          go_wp2_with fail
                          refine (implDoCommute_any _ us d e2 _ HIp165.out hl HWd.out HWe.out).mono ?_
                          rintro e w167 ⟨rfl, hb⟩
                          rw [HE.out, HO1.out]
                          have HB168 := hid (below_to HB165.out hb)
                          have HIp168 := hid (HIp165.out.below hb)
                          have HKp168 := hid (HKp165.out.below hb HKp165.out.lt)
                          clear tKp166
                          clear hb HB165 HIp165 HKp165
                          have tKp169 := HKp168.out.cell 0
                          go_wp2_with fail
                          refine (specDoCommute_any _ us d e2 _ HIp168.out hl HWd.out HWe.out).mono ?_
                          rintro e w170 ⟨rfl, hb⟩
                          rw [HE.out, HO1.out]
                          have HB171 := hid (below_to HB168.out hb)
                          have HIp171 := hid (HIp168.out.below hb)
                          have HKp171 := hid (HKp168.out.below hb HKp168.out.lt)
                          clear tKp169
                          clear hb HB168 HIp168 HKp168
                          have tKp172 := HKp171.out.cell 0
                          clear HO1 HE HWd HWe hl hl21 tKp172 HIp171 HKp171
                          as_aux_lemma =>
                            go_wp2_with fail
                            refine (drawToggleAt_any _ xs1 _ (bytes_at HY1.out HB171.out) HS.out.2).mono ?_
                            rintro e w173 ⟨u, us, s, k, rfl, hwf, ho, hl21, hk1, hk2, hb⟩
                            have HBn := hid (below_to HB171.out hb)
                            have HIp := hid ho.ints
                            obtain ⟨pA, pc, rfl, -⟩ := ho.ints
                            have hl : us.length ≤ 1048576 := by omega
                            clear ho hb HB171
                            have HB := HBn
                            clear HBn
                            have HWs := hid hwf
                            have HWk := hid (wf_i64 k (by omega) (by omega))
                            clear hwf hk1 hk2
                            obtain ⟨o1, ho1⟩ : ∃ x, okTW us [k] s = x := ⟨_, rfl⟩
                            have Ho1 := hid ho1
                            clear ho1
                            obtain ⟨v1, hv1⟩ : ∃ x, ansTW us [k] s = x := ⟨_, rfl⟩
                            have Hv1 := hid hv1
                            clear hv1
                            obtain ⟨B7, hB7⟩ : ∃ B7, w173.heap.size = B7 := ⟨_, rfl⟩
                            go_wp2_with fail
                            have HB174 := hid (below_alloc HB.out (.cells #[.slice pA us.length pc] 26))
                            have HIp174 := hid (HIp.out.alloc (.cells #[.slice pA us.length pc] 26))
                            have HKp174 : Hid (Blk (w173.alloc (.cells #[.slice pA us.length pc] 26)) B7 26 #[.slice pA us.length pc]) := hid (by rw [← hB7]; exact Blk.new w173 _ _)
                            clear hB7 HB HIp
                            have tKp175 := HKp174.out.cell 0
                            go_wp2_with fail
                            refine (implToggleAt_any _ us s k _ HIp174.out hl HWs.out HWk.out).mono ?_
                            rintro e w176 ⟨rfl, hb⟩
                            rw [Hv1.out, Ho1.out]
                            have HB177 := hid (below_to HB174.out hb)
                            have HIp177 := hid (HIp174.out.below hb)
                            have HKp177 := hid (HKp174.out.below hb HKp174.out.lt)
                            clear tKp175
                            clear hb HB174 HIp174 HKp174
                            have tKp178 := HKp177.out.cell 0
                            go_wp2_with fail
                            refine (specToggleAt_any _ us s k _ HIp177.out hl HWs.out HWk.out).mono ?_
                            rintro e w179 ⟨rfl, hb⟩
                            rw [Hv1.out, Ho1.out]
                            have HB180 := hid (below_to HB177.out hb)
                            have HIp180 := hid (HIp177.out.below hb)
                            have HKp180 := hid (HKp177.out.below hb HKp177.out.lt)
                            clear tKp178
                            clear hb HB177 HIp177 HKp177
                            have tKp181 := HKp180.out.cell 0
                            clear HWs HWk hl hl21 Ho1 Hv1 tKp181 HIp180 HKp180
                            go_wp2_with fail
                            refine (drawCanToggle_any _ xs1 _ (bytes_at HY1.out HB180.out) HS.out.2).mono ?_
                            rintro e w182 ⟨u, us, s, rfl, hwf, ho, hl21, hb⟩
                            have HBn := hid (below_to HB180.out hb)
                            have HIp := hid ho.ints
                            obtain ⟨pA, pc, rfl, -⟩ := ho.ints
                            have hl : us.length ≤ 1048576 := by omega
                            clear ho hb HB180
                            have HB := HBn
                            clear HBn
                            have HWs := hid hwf
                            clear hwf
                            obtain ⟨o2, ho2⟩ : ∃ x, okIdeal us s = x := ⟨_, rfl⟩
                            have Ho2 := hid ho2
                            clear ho2
                            obtain ⟨v2, hv2⟩ : ∃ x, ansCT us s = x := ⟨_, rfl⟩
                            have Hv2 := hid hv2
                            clear hv2
                            obtain ⟨B8, hB8⟩ : ∃ B8, w182.heap.size = B8 := ⟨_, rfl⟩
                            go_wp2_with fail
                            have HB183 := hid (below_alloc HB.out (.cells #[.slice pA us.length pc] 26))
                            have HIp183 := hid (HIp.out.alloc (.cells #[.slice pA us.length pc] 26))
                            have HKp183 : Hid (Blk (w182.alloc (.cells #[.slice pA us.length pc] 26)) B8 26 #[.slice pA us.length pc]) := hid (by rw [← hB8]; exact Blk.new w182 _ _)
                            clear hB8 HB HIp
                            have tKp184 := HKp183.out.cell 0
                            go_wp2_with fail
                            refine (implCanToggle_any _ us s _ HIp183.out hl HWs.out).mono ?_
                            rintro e w185 ⟨rfl, hb⟩
                            rw [Hv2.out, Ho2.out]
                            have HB186 := hid (below_to HB183.out hb)
                            have HIp186 := hid (HIp183.out.below hb)
                            have HKp186 := hid (HKp183.out.below hb HKp183.out.lt)
                            clear tKp184
                            clear hb HB183 HIp183 HKp183
                            have tKp187 := HKp186.out.cell 0
                            go_wp2_with fail
                            refine (specCanToggle_any _ us s _ HIp186.out hl HWs.out).mono ?_
                            rintro e w188 ⟨rfl, hb⟩
                            rw [Hv2.out, Ho2.out]
                            have HB189 := hid (below_to HB186.out hb)
                            have HIp189 := hid (HIp186.out.below hb)
                            have HKp189 := hid (HKp186.out.below hb HKp186.out.lt)
                            clear tKp187
                            clear hb HB186 HIp186 HKp186
                            have tKp190 := HKp189.out.cell 0
                            clear HWs hl hl21 Ho2 Hv2 tKp190 HIp189 HKp189
                            go_wp2_with fail
                            refine (drawToggleCycles_any _ xs1 _ (bytes_at HY1.out HB189.out) HS.out.2).mono ?_
                            rintro e w191 ⟨u, us, q, ys, rfl, ho, hl21, hoq, hm120, hb⟩
                            have hl : us.length ≤ 1048576 := by omega
                            have hm : ys.length ≤ 1048576 := by omega
                            have HBn := hid (below_to HB189.out hb)
                            have HIp := hid ho.ints
                            have HIy := hid hoq.ints
                            obtain ⟨pA, pc, rfl, -⟩ := ho.ints
                            obtain ⟨yA, yc, rfl, -⟩ := hoq.ints
                            clear ho hoq hb HB189
                            have HB := HBn
                            clear HBn
                            obtain ⟨o4, ho4⟩ : ∃ x, okOW us ys = x := ⟨_, rfl⟩
                            have Ho4 := hid ho4
                            clear ho4
                            obtain ⟨v4, hv4⟩ : ∃ x, ansOW us ys = x := ⟨_, rfl⟩
                            have Hv4 := hid hv4
                            clear hv4
                            obtain ⟨B9, hB9⟩ : ∃ B9, w191.heap.size = B9 := ⟨_, rfl⟩
                            go_wp2_with fail
                            have HB192 := hid (below_alloc HB.out (.cells #[.slice pA us.length pc] 26))
                            have HIp192 := hid (HIp.out.alloc (.cells #[.slice pA us.length pc] 26))
                            have HIy192 := hid (HIy.out.alloc (.cells #[.slice pA us.length pc] 26))
                            have HKp192 : Hid (Blk (w191.alloc (.cells #[.slice pA us.length pc] 26)) B9 26 #[.slice pA us.length pc]) := hid (by rw [← hB9]; exact Blk.new w191 _ _)
                            clear hB9 HB HIp HIy
                            have tKp193 := HKp192.out.cell 0
                            cases hok : okGW us ys
                            · as_aux_lemma =>
                                have HO1 := hid hok
                                clear hok
                                go_wp2_with fail
                                refine (implToggleCycles_any _ us _ ys _ HIp192.out hl HIy192.out hm).mono ?_
                                rintro e w194 ⟨ua, rfl, ho, hla, hb⟩
                                rw [HO1.out]
                                have HIa := hid ho.ints
                                obtain ⟨Aa, ca, rfl, -⟩ := ho.ints
                                have HTl := hid hla
                                obtain ⟨na, hna⟩ : ∃ n, (tcL us ys).length = n := ⟨_, rfl⟩
                                have HNa := hid hna
                                rw [hna] at HIa hla ⊢
                                clear ho hna
                                have HB195 := hid (below_to HB192.out hb)
                                have HIp195 := hid (HIp192.out.below hb)
                                have HIy195 := hid (HIy192.out.below hb)
                                have HKp195 := hid (HKp192.out.below hb HKp192.out.lt)
                                clear tKp193
                                clear hb HB192 HIp192 HIy192 HKp192
                                have tKp196 := HKp195.out.cell 0
                                go_wp2_with fail
                                refine (specToggleCycles_any _ us _ ys _ HIp195.out hl HIy195.out hm).mono ?_
                                rintro e w197 ⟨ub, rfl, ho, hlb, hb⟩
                                rw [HO1.out]
                                have HIb := hid ho.ints
                                obtain ⟨Ab, cb, rfl, -⟩ := ho.ints
                                obtain ⟨nb, hnb⟩ : ∃ n, (tcL us ys).length = n := ⟨_, rfl⟩
                                rw [hnb] at HIb hlb ⊢
                                clear ho hnb
                                have HB198 := hid (below_to HB195.out hb)
                                have HIp198 := hid (HIp195.out.below hb)
                                have HIy198 := hid (HIy195.out.below hb)
                                have HKp198 := hid (HKp195.out.below hb HKp195.out.lt)
                                have HIa198 := hid (HIa.out.below hb)
                                clear tKp196
                                clear hb HB195 HIp195 HIy195 HKp195 HIa
                                have tKp199 := HKp198.out.cell 0
                                go_wp2_with fail
                                refine (implOrderOfWord_any _ us _ ys _ HIp198.out hl HIy198.out hm).mono ?_
                                rintro e w200 ⟨rfl, hb⟩
                                rw [Hv4.out, Ho4.out]
                                have HB201 := hid (below_to HB198.out hb)
                                have HIp201 := hid (HIp198.out.below hb)
                                have HIy201 := hid (HIy198.out.below hb)
                                have HKp201 := hid (HKp198.out.below hb HKp198.out.lt)
                                have HIa201 := hid (HIa198.out.below hb)
                                have HIb201 := hid (HIb.out.below hb)
                                clear tKp199
                                clear hb HB198 HIp198 HIy198 HKp198 HIa198 HIb
                                have tKp202 := HKp201.out.cell 0
                                go_wp2_with fail
                                refine (specOrderOfWord_any _ us _ ys _ HIp201.out hl HIy201.out hm).mono ?_
                                rintro e w203 ⟨rfl, hb⟩
                                rw [Hv4.out, Ho4.out]
                                have HB204 := hid (below_to HB201.out hb)
                                have HIp204 := hid (HIp201.out.below hb)
                                have HIy204 := hid (HIy201.out.below hb)
                                have HKp204 := hid (HKp201.out.below hb HKp201.out.lt)
                                have HIa204 := hid (HIa201.out.below hb)
                                have HIb204 := hid (HIb201.out.below hb)
                                clear tKp202
                                clear hb HB201 HIp201 HIy201 HKp201 HIa201 HIb201
                                have tKp205 := HKp204.out.cell 0
                                go_wp2_with fail
                                refine (nSame_any _ _ (tcL us ys) _ HIa204.out HIb204.out HTl.out).mono ?_
                                rintro e w206 ⟨rfl, hb⟩
                                have HB207 := hid (below_to HB204.out hb)
                                have HIp207 := hid (HIp204.out.below hb)
                                have HIy207 := hid (HIy204.out.below hb)
                                have HKp207 := hid (HKp204.out.below hb HKp204.out.lt)
                                have HIa207 := hid (HIa204.out.below hb)
                                have HIb207 := hid (HIb204.out.below hb)
                                clear tKp205
                                clear hb HB204 HIp204 HIy204 HKp204 HIa204 HIb204
                                have tKp208 := HKp207.out.cell 0
                                clear tKp208
                                go_wp2
                                go_ret
                                exact ⟨rfl, HB207.out⟩
                            · as_aux_lemma =>
                                have HO1 := hid hok
                                have HCs := hid (cycSum hok)
                                have HCp := hid (cycPart hok)
                                have HCf : Hid (∀ k, k < (tcL us ys).length → _) := hid (fun k hk => cycFacts hok (k := k) hk)
                                have HG := hid (okGW_good hok).1
                                clear hok
                                go_wp2_with fail
                                refine (implToggleCycles_any _ us _ ys _ HIp192.out hl HIy192.out hm).mono ?_
                                rintro e w209 ⟨ua, rfl, ho, hla, hb⟩
                                rw [HO1.out]
                                have HIa := hid ho.ints
                                obtain ⟨Aa, ca, rfl, -⟩ := ho.ints
                                have HTl := hid hla
                                obtain ⟨na, hna⟩ : ∃ n, (tcL us ys).length = n := ⟨_, rfl⟩
                                have HNa := hid hna
                                rw [hna] at HIa hla ⊢
                                clear ho hna
                                have HB210 := hid (below_to HB192.out hb)
                                have HIp210 := hid (HIp192.out.below hb)
                                have HIy210 := hid (HIy192.out.below hb)
                                have HKp210 := hid (HKp192.out.below hb HKp192.out.lt)
                                clear tKp193
                                clear hb HB192 HIp192 HIy192 HKp192
                                have tKp211 := HKp210.out.cell 0
                                go_wp2_with fail
                                refine (specToggleCycles_any _ us _ ys _ HIp210.out hl HIy210.out hm).mono ?_
                                rintro e w212 ⟨ub, rfl, ho, hlb, hb⟩
                                rw [HO1.out]
                                have HIb := hid ho.ints
                                obtain ⟨Ab, cb, rfl, -⟩ := ho.ints
                                obtain ⟨nb, hnb⟩ : ∃ n, (tcL us ys).length = n := ⟨_, rfl⟩
                                rw [hnb] at HIb hlb ⊢
                                clear ho hnb
                                have HB213 := hid (below_to HB210.out hb)
                                have HIp213 := hid (HIp210.out.below hb)
                                have HIy213 := hid (HIy210.out.below hb)
                                have HKp213 := hid (HKp210.out.below hb HKp210.out.lt)
                                have HIa213 := hid (HIa.out.below hb)
                                clear tKp211
                                clear hb HB210 HIp210 HIy210 HKp210 HIa
                                have tKp214 := HKp213.out.cell 0
                                go_wp2_with fail
                                refine (implOrderOfWord_any _ us _ ys _ HIp213.out hl HIy213.out hm).mono ?_
                                rintro e w215 ⟨rfl, hb⟩
                                rw [Hv4.out, Ho4.out]
                                have HB216 := hid (below_to HB213.out hb)
                                have HIp216 := hid (HIp213.out.below hb)
                                have HIy216 := hid (HIy213.out.below hb)
                                have HKp216 := hid (HKp213.out.below hb HKp213.out.lt)
                                have HIa216 := hid (HIa213.out.below hb)
                                have HIb216 := hid (HIb.out.below hb)
                                clear tKp214
                                clear hb HB213 HIp213 HIy213 HKp213 HIa213 HIb
                                have tKp217 := HKp216.out.cell 0
                                go_wp2_with fail
                                refine (specOrderOfWord_any _ us _ ys _ HIp216.out hl HIy216.out hm).mono ?_
                                rintro e w218 ⟨rfl, hb⟩
                                rw [Hv4.out, Ho4.out]
                                have HB219 := hid (below_to HB216.out hb)
                                have HIp219 := hid (HIp216.out.below hb)
                                have HIy219 := hid (HIy216.out.below hb)
                                have HKp219 := hid (HKp216.out.below hb HKp216.out.lt)
                                have HIa219 := hid (HIa216.out.below hb)
                                have HIb219 := hid (HIb216.out.below hb)
                                clear tKp217
                                clear hb HB216 HIp216 HIy216 HKp216 HIa216 HIb216
                                have tKp220 := HKp219.out.cell 0
                                go_wp2_with fail
                                refine (nSame_any _ _ (tcL us ys) _ HIa219.out HIb219.out HTl.out).mono ?_
                                rintro e w221 ⟨rfl, hb⟩
                                have HB222 := hid (below_to HB219.out hb)
                                have HIp222 := hid (HIp219.out.below hb)
                                have HIy222 := hid (HIy219.out.below hb)
                                have HKp222 := hid (HKp219.out.below hb HKp219.out.lt)
                                have HIa222 := hid (HIa219.out.below hb)
                                have HIb222 := hid (HIb219.out.below hb)
                                clear tKp220
                                clear hb HB219 HIp219 HIy219 HKp219 HIa219 HIb219
                                have tKp223 := HKp222.out.cell 0
                                obtain ⟨K, hK⟩ : ∃ K, (idealsL us).length = K := ⟨_, rfl⟩
                                have hcs := HCs.out
                                rw [hK] at hcs
                                have HSum := hid hcs.1
                                have hK2 := hcs.2
                                clear hcs
                                go_wp2_with fail
                                refine (implCountIdeals_any _ us _ HIp222.out hl).mono ?_
                                rintro e w224 ⟨rfl, hb⟩
                                rw [HG.out, hK]
                                have HB225 := hid (below_to HB222.out hb)
                                have HIp225 := hid (HIp222.out.below hb)
                                have HIy225 := hid (HIy222.out.below hb)
                                have HKp225 := hid (HKp222.out.below hb HKp222.out.lt)
                                have HIa225 := hid (HIa222.out.below hb)
                                have HIb225 := hid (HIb222.out.below hb)
                                clear tKp223
                                clear hb HB222 HIp222 HIy222 HKp222 HIa222 HIb222
                                have tKp226 := HKp225.out.cell 0
                                clear hK
                                go_wp2_with fail
                                refine (nSum_any _ (tcL us ys) _ HIa225.out HTl.out (fun k hk => by have := HCp.out k hk; omega)).mono ?_
                                rintro e w227 ⟨rfl, rfl⟩
                                rw [HSum.out]
                                clear HSum HCs HCp
                                go_wp2
                                clear tKp226
                                go_loopw [381] (fun i wr => ∃ k : Nat, k ≤ na ∧ i = .int .i64 (k : Int) ∧ Below w224.heap.size w224 wr) (fun i _ => na - (intOf i).toNat)
                                case atStart => exact ⟨0, Nat.zero_le _, rfl, Below.refl _ _⟩
                                case round =>
                                  obtain ⟨k, hk, rfl, hb⟩ := hrel
                                  by_cases hlt : k < na
                                  · skip
                                    as_aux_lemma =>
                                      have hlt2 : k < (tcL us ys).length := by rw [HNa.out]; exact hlt
                                      obtain ⟨n, c1, c2, c3, c4⟩ := HCf.out k hlt2
                                      obtain ⟨bA, oA, rfl⟩ := ints_addr HIa225.out (by intro h0; rw [h0] at hlt2; simp at hlt2)
                                      have ck := ints_cell (HIa225.out.below hb) hlt2
                                      rw [c1] at ck
                                      have HBk := hid hb
                                      have C4 := hid c4
                                      clear c1 c4 hb hlt2
                                      cases hoo : o4
                                      · subst hoo
                                        go_wp2
                                        go_roundw
                                        case rel => exact ⟨k + 1, by omega, by go_num, HBk.out⟩
                                        case measure => simp [intOf] <;> omega
                                      · subst hoo
                                        obtain ⟨mm, d1, d2, d3⟩ := C4.out Ho4.out
                                        obtain rfl : v4 = (mm : Int) := Hv4.out.symm.trans d1
                                        have d4 : Int.tmod (mm : Int) (n : Int) = 0 := by rw [Int.tmod_eq_emod_of_nonneg (by omega), ← Int.natCast_emod, d3]; rfl
                                        have d5 : (mm : Int) % (n : Int) = 0 := by rw [← Int.natCast_emod, d3]; rfl
                                        have hn0 : ¬ (n : Int) = 0 := by omega
                                        have hnb : ((n : Int) == 0) = false := by simpa using (show ¬ n = 0 by omega)
                                        clear d1 d3 C4
                                        go_wp2
                                        go_roundw
                                        case rel => exact ⟨k + 1, by omega, by go_num, HBk.out⟩
                                        case measure => simp [intOf] <;> omega
                                  · as_aux_lemma =>
                                      have HBe := hid (below_to HB225.out hb)
                                      clear hb
                                      go_wp2
                                      go_ret
                                      exact ⟨rfl, HBe.out⟩
                      · as_aux_lemma =>
                          obtain ⟨a, b, rfl, rfl, ha, hb', hg, hl10⟩ := okEl_nat hok
                          have HE := hid (ansDC_yes hok)
                          have HO1 := hid hok
                          have HG := hid hg
                          have HJ := hid (joinFacts hg ha hb')
                          obtain ⟨cv, hcv⟩ : ∃ x, covered us a b = x := ⟨_, rfl⟩
                          rw [hcv] at HE HJ
                          have hps : (coversP us).length ≤ 100 := by rw [coversP_yes hg]; exact Nat.le_trans (covPS_length _ _ _) (Nat.mul_le_mul (good_length hg).2 (good_length hg).2)
                          have hpb : ∀ k, k < (coversP us).length → ((coversP us).getD k (0, 0)).1 < us.length ∧ ((coversP us).getD k (0, 0)).2 < us.length := fun k hk => coversP_bound hg hk
                          have HPb := hid hpb
                          clear hok hg hcv hpb
                          go_wp2_with fail
                          refine (implDoCommute_any _ us (a : Int) (b : Int) _ HIp165.out hl HWd.out HWe.out).mono ?_
                          rintro e w228 ⟨rfl, hb⟩
                          rw [HE.out, HO1.out]
                          have HB229 := hid (below_to HB165.out hb)
                          have HIp229 := hid (HIp165.out.below hb)
                          have HKp229 := hid (HKp165.out.below hb HKp165.out.lt)
                          clear tKp166
                          clear hb HB165 HIp165 HKp165
                          have tKp230 := HKp229.out.cell 0
                          go_wp2_with fail
                          refine (specDoCommute_any _ us (a : Int) (b : Int) _ HIp229.out hl HWd.out HWe.out).mono ?_
                          rintro e w231 ⟨rfl, hb⟩
                          rw [HE.out, HO1.out]
                          have HB232 := hid (below_to HB229.out hb)
                          have HIp232 := hid (HIp229.out.below hb)
                          have HKp232 := hid (HKp229.out.below hb HKp229.out.lt)
                          clear tKp230
                          clear hb HB229 HIp229 HKp229
                          have tKp233 := HKp232.out.cell 0
                          go_wp2_with fail
                          refine (implCoversP_any _ us _ HIp232.out hl).mono ?_
                          rintro e w234 ⟨u2, rfl, hp, hb⟩
                          rw [HG.out]
                          obtain ⟨ps, hps2⟩ : ∃ l, coversP us = l := ⟨_, rfl⟩
                          rw [hps2] at hp hps HPb HJ
                          obtain ⟨qA, qc, rfl, hsh⟩ := hp.shape
                          have HSh := hid hsh
                          obtain ⟨n, hn⟩ : ∃ n, ps.length = n := ⟨_, rfl⟩
                          rw [hn] at HSh HJ HPb hps ⊢
                          clear hp hsh hps2 hn
                          have HB235 := hid (below_to HB232.out hb)
                          have HIp235 := hid (HIp232.out.below hb)
                          have HKp235 := hid (HKp232.out.below hb HKp232.out.lt)
                          clear tKp233
                          clear hb HB232 HIp232 HKp232
                          have tKp236 := HKp235.out.cell 0
                          go_wp2
                          clear tKp236
                          go_loopw [32, 219] (fun a' i wr => ∃ k : Nat, k ≤ n ∧ i = .int .i64 (k : Int) ∧ a' = .bool (joinN ps a b k) ∧ Below w234.heap.size w234 wr) (fun _ i _ => n - (intOf i).toNat)
                          case atStart => exact ⟨0, Nat.zero_le _, rfl, rfl, Below.refl _ _⟩
                          case round =>
                            obtain ⟨k, hk, rfl, rfl, hb⟩ := hrel
                            by_cases hlt : k < n
                            · skip
                              as_aux_lemma =>
                                obtain ⟨bQ, gQ, rfl, hb1, hb2, hc0, hc1, hc2⟩ := HSh.out k hlt
                                have q0 := (hb.cell (p := ⟨bQ, k, none⟩) hb1).trans hc0
                                have q1 := (hb.cell (p := ⟨gQ, 0, none⟩) hb2).trans hc1
                                have q2 := (hb.cell (p := ⟨gQ, 1, none⟩) hb2).trans hc2
                                have HBk := hid hb
                                obtain ⟨r1, r2⟩ := HPb.out k hlt
                                obtain ⟨p1, hp1⟩ : ∃ x, (ps.getD k (0, 0)).1 = x := ⟨_, rfl⟩
                                obtain ⟨p2, hp2⟩ : ∃ x, (ps.getD k (0, 0)).2 = x := ⟨_, rfl⟩
                                have HJs := hid (joinN_succ ps a b k hp1 hp2)
                                rw [hp1] at q1 r1
                                rw [hp2] at q2 r2
                                obtain ⟨bk, hbk⟩ : ∃ x, joinN ps a b k = x := ⟨_, rfl⟩
                                rw [hbk] at HJs ⊢
                                obtain ⟨x1, hx1⟩ : ∃ x, (p1 == a) = x := ⟨_, rfl⟩
                                obtain ⟨x2, hx2⟩ : ∃ x, (p2 == b) = x := ⟨_, rfl⟩
                                obtain ⟨x3, hx3⟩ : ∃ x, (p1 == b) = x := ⟨_, rfl⟩
                                obtain ⟨x4, hx4⟩ : ∃ x, (p2 == a) = x := ⟨_, rfl⟩
                                have i1 : ((p1 : Int) == (a : Int)) = x1 := (natBeq p1 a).trans hx1
                                have i2 : ((p2 : Int) == (b : Int)) = x2 := (natBeq p2 b).trans hx2
                                have i3 : ((p1 : Int) == (b : Int)) = x3 := (natBeq p1 b).trans hx3
                                have i4 : ((p2 : Int) == (a : Int)) = x4 := (natBeq p2 a).trans hx4
                                rw [hx1, hx2, hx3, hx4] at HJs
                                clear hc0 hc1 hc2 hb hbk hx1 hx2 hx3 hx4 hp1 hp2 hb1 hb2
                                cases bk
                                · cases x1 <;> cases x2 <;> cases x3 <;> cases x4
                                  all_goals
                                    go_wp2
                                    go_roundw
                                    case rel => exact ⟨k + 1, by omega, by go_num, by rw [HJs.out]; rfl, HBk.out⟩
                                    case measure => simp [intOf] <;> omega
                                · go_wp2
                                  go_roundw
                                  case rel => exact ⟨k + 1, by omega, by go_num, by rw [HJs.out]; simp, HBk.out⟩
                                  case measure => simp [intOf] <;> omega
                            · as_aux_lemma =>
                                obtain rfl : k = n := by omega
                                rw [HJ.out]
                                have HB237 := hid (below_to HB235.out hb)
                                have HIp237 := hid (HIp235.out.below hb)
                                have HKp237 := hid (HKp235.out.below hb HKp235.out.lt)
                                clear hb HB235 HIp235 HKp235
                                have tKp238 := HKp237.out.cell 0
                                rename World => V3
                                have hcv1 : ((!cv) == cv) = false := by cases cv <;> rfl
                                have hcv2 : ((!cv) != cv) = true := by cases cv <;> rfl
                                have hcv3 : (cv == !cv) = false := by cases cv <;> rfl
                                have hcv4 : (cv != !cv) = true := by cases cv <;> rfl
                                clear HG HJ HPb HSh hps hl10 ha hb' hlt hk
                                clear HO1 HE HWd HWe hl hl21 tKp238 HIp237 HKp237
                                as_aux_lemma =>
                                  go_wp2_with fail
                                  refine (drawToggleAt_any _ xs1 _ (bytes_at HY1.out HB237.out) HS.out.2).mono ?_
                                  rintro e w239 ⟨u, us, s, k, rfl, hwf, ho, hl21, hk1, hk2, hb⟩
                                  have HBn := hid (below_to HB237.out hb)
                                  have HIp := hid ho.ints
                                  obtain ⟨pA, pc, rfl, -⟩ := ho.ints
                                  have hl : us.length ≤ 1048576 := by omega
                                  clear ho hb HB237
                                  have HB := HBn
                                  clear HBn
                                  have HWs := hid hwf
                                  have HWk := hid (wf_i64 k (by omega) (by omega))
                                  clear hwf hk1 hk2
                                  obtain ⟨o1, ho1⟩ : ∃ x, okTW us [k] s = x := ⟨_, rfl⟩
                                  have Ho1 := hid ho1
                                  clear ho1
                                  obtain ⟨v1, hv1⟩ : ∃ x, ansTW us [k] s = x := ⟨_, rfl⟩
                                  have Hv1 := hid hv1
                                  clear hv1
                                  obtain ⟨B7, hB7⟩ : ∃ B7, w239.heap.size = B7 := ⟨_, rfl⟩
                                  go_wp2_with fail
                                  have HB240 := hid (below_alloc HB.out (.cells #[.slice pA us.length pc] 26))
                                  have HIp240 := hid (HIp.out.alloc (.cells #[.slice pA us.length pc] 26))
                                  have HKp240 : Hid (Blk (w239.alloc (.cells #[.slice pA us.length pc] 26)) B7 26 #[.slice pA us.length pc]) := hid (by rw [← hB7]; exact Blk.new w239 _ _)
                                  clear hB7 HB HIp
                                  have tKp241 := HKp240.out.cell 0
                                  go_wp2_with fail
                                  refine (implToggleAt_any _ us s k _ HIp240.out hl HWs.out HWk.out).mono ?_
                                  rintro e w242 ⟨rfl, hb⟩
                                  rw [Hv1.out, Ho1.out]
                                  have HB243 := hid (below_to HB240.out hb)
                                  have HIp243 := hid (HIp240.out.below hb)
                                  have HKp243 := hid (HKp240.out.below hb HKp240.out.lt)
                                  clear tKp241
                                  clear hb HB240 HIp240 HKp240
                                  have tKp244 := HKp243.out.cell 0
                                  go_wp2_with fail
                                  refine (specToggleAt_any _ us s k _ HIp243.out hl HWs.out HWk.out).mono ?_
                                  rintro e w245 ⟨rfl, hb⟩
                                  rw [Hv1.out, Ho1.out]
                                  have HB246 := hid (below_to HB243.out hb)
                                  have HIp246 := hid (HIp243.out.below hb)
                                  have HKp246 := hid (HKp243.out.below hb HKp243.out.lt)
                                  clear tKp244
                                  clear hb HB243 HIp243 HKp243
                                  have tKp247 := HKp246.out.cell 0
                                  clear HWs HWk hl hl21 Ho1 Hv1 tKp247 HIp246 HKp246
                                  go_wp2_with fail
                                  refine (drawCanToggle_any _ xs1 _ (bytes_at HY1.out HB246.out) HS.out.2).mono ?_
                                  rintro e w248 ⟨u, us, s, rfl, hwf, ho, hl21, hb⟩
                                  have HBn := hid (below_to HB246.out hb)
                                  have HIp := hid ho.ints
                                  obtain ⟨pA, pc, rfl, -⟩ := ho.ints
                                  have hl : us.length ≤ 1048576 := by omega
                                  clear ho hb HB246
                                  have HB := HBn
                                  clear HBn
                                  have HWs := hid hwf
                                  clear hwf
                                  obtain ⟨o2, ho2⟩ : ∃ x, okIdeal us s = x := ⟨_, rfl⟩
                                  have Ho2 := hid ho2
                                  clear ho2
                                  obtain ⟨v2, hv2⟩ : ∃ x, ansCT us s = x := ⟨_, rfl⟩
                                  have Hv2 := hid hv2
                                  clear hv2
                                  obtain ⟨B8, hB8⟩ : ∃ B8, w248.heap.size = B8 := ⟨_, rfl⟩
                                  go_wp2_with fail
                                  have HB249 := hid (below_alloc HB.out (.cells #[.slice pA us.length pc] 26))
                                  have HIp249 := hid (HIp.out.alloc (.cells #[.slice pA us.length pc] 26))
                                  have HKp249 : Hid (Blk (w248.alloc (.cells #[.slice pA us.length pc] 26)) B8 26 #[.slice pA us.length pc]) := hid (by rw [← hB8]; exact Blk.new w248 _ _)
                                  clear hB8 HB HIp
                                  have tKp250 := HKp249.out.cell 0
                                  go_wp2_with fail
                                  refine (implCanToggle_any _ us s _ HIp249.out hl HWs.out).mono ?_
                                  rintro e w251 ⟨rfl, hb⟩
                                  rw [Hv2.out, Ho2.out]
                                  have HB252 := hid (below_to HB249.out hb)
                                  have HIp252 := hid (HIp249.out.below hb)
                                  have HKp252 := hid (HKp249.out.below hb HKp249.out.lt)
                                  clear tKp250
                                  clear hb HB249 HIp249 HKp249
                                  have tKp253 := HKp252.out.cell 0
                                  go_wp2_with fail
                                  refine (specCanToggle_any _ us s _ HIp252.out hl HWs.out).mono ?_
                                  rintro e w254 ⟨rfl, hb⟩
                                  rw [Hv2.out, Ho2.out]
                                  have HB255 := hid (below_to HB252.out hb)
                                  have HIp255 := hid (HIp252.out.below hb)
                                  have HKp255 := hid (HKp252.out.below hb HKp252.out.lt)
                                  clear tKp253
                                  clear hb HB252 HIp252 HKp252
                                  have tKp256 := HKp255.out.cell 0
                                  clear HWs hl hl21 Ho2 Hv2 tKp256 HIp255 HKp255
                                  go_wp2_with fail
                                  refine (drawToggleCycles_any _ xs1 _ (bytes_at HY1.out HB255.out) HS.out.2).mono ?_
                                  rintro e w257 ⟨u, us, q, ys, rfl, ho, hl21, hoq, hm120, hb⟩
                                  have hl : us.length ≤ 1048576 := by omega
                                  have hm : ys.length ≤ 1048576 := by omega
                                  have HBn := hid (below_to HB255.out hb)
                                  have HIp := hid ho.ints
                                  have HIy := hid hoq.ints
                                  obtain ⟨pA, pc, rfl, -⟩ := ho.ints
                                  obtain ⟨yA, yc, rfl, -⟩ := hoq.ints
                                  clear ho hoq hb HB255
                                  have HB := HBn
                                  clear HBn
                                  obtain ⟨o4, ho4⟩ : ∃ x, okOW us ys = x := ⟨_, rfl⟩
                                  have Ho4 := hid ho4
                                  clear ho4
                                  obtain ⟨v4, hv4⟩ : ∃ x, ansOW us ys = x := ⟨_, rfl⟩
                                  have Hv4 := hid hv4
                                  clear hv4
                                  obtain ⟨B9, hB9⟩ : ∃ B9, w257.heap.size = B9 := ⟨_, rfl⟩
                                  go_wp2_with fail
                                  have HB258 := hid (below_alloc HB.out (.cells #[.slice pA us.length pc] 26))
                                  have HIp258 := hid (HIp.out.alloc (.cells #[.slice pA us.length pc] 26))
                                  have HIy258 := hid (HIy.out.alloc (.cells #[.slice pA us.length pc] 26))
                                  have HKp258 : Hid (Blk (w257.alloc (.cells #[.slice pA us.length pc] 26)) B9 26 #[.slice pA us.length pc]) := hid (by rw [← hB9]; exact Blk.new w257 _ _)
                                  clear hB9 HB HIp HIy
                                  have tKp259 := HKp258.out.cell 0
                                  cases hok : okGW us ys
                                  · as_aux_lemma =>
                                      have HO1 := hid hok
                                      clear hok
                                      go_wp2_with fail
                                      refine (implToggleCycles_any _ us _ ys _ HIp258.out hl HIy258.out hm).mono ?_
                                      rintro e w260 ⟨ua, rfl, ho, hla, hb⟩
                                      rw [HO1.out]
                                      have HIa := hid ho.ints
                                      obtain ⟨Aa, ca, rfl, -⟩ := ho.ints
                                      have HTl := hid hla
                                      obtain ⟨na, hna⟩ : ∃ n, (tcL us ys).length = n := ⟨_, rfl⟩
                                      have HNa := hid hna
                                      rw [hna] at HIa hla ⊢
                                      clear ho hna
                                      have HB261 := hid (below_to HB258.out hb)
                                      have HIp261 := hid (HIp258.out.below hb)
                                      have HIy261 := hid (HIy258.out.below hb)
                                      have HKp261 := hid (HKp258.out.below hb HKp258.out.lt)
                                      clear tKp259
                                      clear hb HB258 HIp258 HIy258 HKp258
                                      have tKp262 := HKp261.out.cell 0
                                      go_wp2_with fail
                                      refine (specToggleCycles_any _ us _ ys _ HIp261.out hl HIy261.out hm).mono ?_
                                      rintro e w263 ⟨ub, rfl, ho, hlb, hb⟩
                                      rw [HO1.out]
                                      have HIb := hid ho.ints
                                      obtain ⟨Ab, cb, rfl, -⟩ := ho.ints
                                      obtain ⟨nb, hnb⟩ : ∃ n, (tcL us ys).length = n := ⟨_, rfl⟩
                                      rw [hnb] at HIb hlb ⊢
                                      clear ho hnb
                                      have HB264 := hid (below_to HB261.out hb)
                                      have HIp264 := hid (HIp261.out.below hb)
                                      have HIy264 := hid (HIy261.out.below hb)
                                      have HKp264 := hid (HKp261.out.below hb HKp261.out.lt)
                                      have HIa264 := hid (HIa.out.below hb)
                                      clear tKp262
                                      clear hb HB261 HIp261 HIy261 HKp261 HIa
                                      have tKp265 := HKp264.out.cell 0
                                      go_wp2_with fail
                                      refine (implOrderOfWord_any _ us _ ys _ HIp264.out hl HIy264.out hm).mono ?_
                                      rintro e w266 ⟨rfl, hb⟩
                                      rw [Hv4.out, Ho4.out]
                                      have HB267 := hid (below_to HB264.out hb)
                                      have HIp267 := hid (HIp264.out.below hb)
                                      have HIy267 := hid (HIy264.out.below hb)
                                      have HKp267 := hid (HKp264.out.below hb HKp264.out.lt)
                                      have HIa267 := hid (HIa264.out.below hb)
                                      have HIb267 := hid (HIb.out.below hb)
                                      clear tKp265
                                      clear hb HB264 HIp264 HIy264 HKp264 HIa264 HIb
                                      have tKp268 := HKp267.out.cell 0
                                      go_wp2_with fail
                                      refine (specOrderOfWord_any _ us _ ys _ HIp267.out hl HIy267.out hm).mono ?_
                                      rintro e w269 ⟨rfl, hb⟩
                                      rw [Hv4.out, Ho4.out]
                                      have HB270 := hid (below_to HB267.out hb)
                                      have HIp270 := hid (HIp267.out.below hb)
                                      have HIy270 := hid (HIy267.out.below hb)
                                      have HKp270 := hid (HKp267.out.below hb HKp267.out.lt)
                                      have HIa270 := hid (HIa267.out.below hb)
                                      have HIb270 := hid (HIb267.out.below hb)
                                      clear tKp268
                                      clear hb HB267 HIp267 HIy267 HKp267 HIa267 HIb267
                                      have tKp271 := HKp270.out.cell 0
                                      go_wp2_with fail
                                      refine (nSame_any _ _ (tcL us ys) _ HIa270.out HIb270.out HTl.out).mono ?_
                                      rintro e w272 ⟨rfl, hb⟩
                                      have HB273 := hid (below_to HB270.out hb)
                                      have HIp273 := hid (HIp270.out.below hb)
                                      have HIy273 := hid (HIy270.out.below hb)
                                      have HKp273 := hid (HKp270.out.below hb HKp270.out.lt)
                                      have HIa273 := hid (HIa270.out.below hb)
                                      have HIb273 := hid (HIb270.out.below hb)
                                      clear tKp271
                                      clear hb HB270 HIp270 HIy270 HKp270 HIa270 HIb270
                                      have tKp274 := HKp273.out.cell 0
                                      clear tKp274
                                      go_wp2
                                      go_ret
                                      exact ⟨rfl, HB273.out⟩
                                  · as_aux_lemma =>
                                      have HO1 := hid hok
                                      have HCs := hid (cycSum hok)
                                      have HCp := hid (cycPart hok)
                                      have HCf : Hid (∀ k, k < (tcL us ys).length → _) := hid (fun k hk => cycFacts hok (k := k) hk)
                                      have HG := hid (okGW_good hok).1
                                      clear hok
                                      go_wp2_with fail
                                      refine (implToggleCycles_any _ us _ ys _ HIp258.out hl HIy258.out hm).mono ?_
                                      rintro e w275 ⟨ua, rfl, ho, hla, hb⟩
                                      rw [HO1.out]
                                      have HIa := hid ho.ints
                                      obtain ⟨Aa, ca, rfl, -⟩ := ho.ints
                                      have HTl := hid hla
                                      obtain ⟨na, hna⟩ : ∃ n, (tcL us ys).length = n := ⟨_, rfl⟩
                                      have HNa := hid hna
                                      rw [hna] at HIa hla ⊢
                                      clear ho hna
                                      have HB276 := hid (below_to HB258.out hb)
                                      have HIp276 := hid (HIp258.out.below hb)
                                      have HIy276 := hid (HIy258.out.below hb)
                                      have HKp276 := hid (HKp258.out.below hb HKp258.out.lt)
                                      clear tKp259
                                      clear hb HB258 HIp258 HIy258 HKp258
                                      have tKp277 := HKp276.out.cell 0
                                      go_wp2_with fail
                                      refine (specToggleCycles_any _ us _ ys _ HIp276.out hl HIy276.out hm).mono ?_
                                      rintro e w278 ⟨ub, rfl, ho, hlb, hb⟩
                                      rw [HO1.out]
                                      have HIb := hid ho.ints
                                      obtain ⟨Ab, cb, rfl, -⟩ := ho.ints
                                      obtain ⟨nb, hnb⟩ : ∃ n, (tcL us ys).length = n := ⟨_, rfl⟩
                                      rw [hnb] at HIb hlb ⊢
                                      clear ho hnb
                                      have HB279 := hid (below_to HB276.out hb)
                                      have HIp279 := hid (HIp276.out.below hb)
                                      have HIy279 := hid (HIy276.out.below hb)
                                      have HKp279 := hid (HKp276.out.below hb HKp276.out.lt)
                                      have HIa279 := hid (HIa.out.below hb)
                                      clear tKp277
                                      clear hb HB276 HIp276 HIy276 HKp276 HIa
                                      have tKp280 := HKp279.out.cell 0
                                      go_wp2_with fail
                                      refine (implOrderOfWord_any _ us _ ys _ HIp279.out hl HIy279.out hm).mono ?_
                                      rintro e w281 ⟨rfl, hb⟩
                                      rw [Hv4.out, Ho4.out]
                                      have HB282 := hid (below_to HB279.out hb)
                                      have HIp282 := hid (HIp279.out.below hb)
                                      have HIy282 := hid (HIy279.out.below hb)
                                      have HKp282 := hid (HKp279.out.below hb HKp279.out.lt)
                                      have HIa282 := hid (HIa279.out.below hb)
                                      have HIb282 := hid (HIb.out.below hb)
                                      clear tKp280
                                      clear hb HB279 HIp279 HIy279 HKp279 HIa279 HIb
                                      have tKp283 := HKp282.out.cell 0
                                      go_wp2_with fail
                                      refine (specOrderOfWord_any _ us _ ys _ HIp282.out hl HIy282.out hm).mono ?_
                                      rintro e w284 ⟨rfl, hb⟩
                                      rw [Hv4.out, Ho4.out]
                                      have HB285 := hid (below_to HB282.out hb)
                                      have HIp285 := hid (HIp282.out.below hb)
                                      have HIy285 := hid (HIy282.out.below hb)
                                      have HKp285 := hid (HKp282.out.below hb HKp282.out.lt)
                                      have HIa285 := hid (HIa282.out.below hb)
                                      have HIb285 := hid (HIb282.out.below hb)
                                      clear tKp283
                                      clear hb HB282 HIp282 HIy282 HKp282 HIa282 HIb282
                                      have tKp286 := HKp285.out.cell 0
                                      go_wp2_with fail
                                      refine (nSame_any _ _ (tcL us ys) _ HIa285.out HIb285.out HTl.out).mono ?_
                                      rintro e w287 ⟨rfl, hb⟩
                                      have HB288 := hid (below_to HB285.out hb)
                                      have HIp288 := hid (HIp285.out.below hb)
                                      have HIy288 := hid (HIy285.out.below hb)
                                      have HKp288 := hid (HKp285.out.below hb HKp285.out.lt)
                                      have HIa288 := hid (HIa285.out.below hb)
                                      have HIb288 := hid (HIb285.out.below hb)
                                      clear tKp286
                                      clear hb HB285 HIp285 HIy285 HKp285 HIa285 HIb285
                                      have tKp289 := HKp288.out.cell 0
                                      obtain ⟨K, hK⟩ : ∃ K, (idealsL us).length = K := ⟨_, rfl⟩
                                      have hcs := HCs.out
                                      rw [hK] at hcs
                                      have HSum := hid hcs.1
                                      have hK2 := hcs.2
                                      clear hcs
                                      go_wp2_with fail
                                      refine (implCountIdeals_any _ us _ HIp288.out hl).mono ?_
                                      rintro e w290 ⟨rfl, hb⟩
                                      rw [HG.out, hK]
                                      have HB291 := hid (below_to HB288.out hb)
                                      have HIp291 := hid (HIp288.out.below hb)
                                      have HIy291 := hid (HIy288.out.below hb)
                                      have HKp291 := hid (HKp288.out.below hb HKp288.out.lt)
                                      have HIa291 := hid (HIa288.out.below hb)
                                      have HIb291 := hid (HIb288.out.below hb)
                                      clear tKp289
                                      clear hb HB288 HIp288 HIy288 HKp288 HIa288 HIb288
                                      have tKp292 := HKp291.out.cell 0
                                      clear hK
                                      go_wp2_with fail
                                      refine (nSum_any _ (tcL us ys) _ HIa291.out HTl.out (fun k hk => by have := HCp.out k hk; omega)).mono ?_
                                      rintro e w293 ⟨rfl, rfl⟩
                                      rw [HSum.out]
                                      clear HSum HCs HCp
                                      go_wp2
                                      clear tKp292
                                      go_loopw [381] (fun i wr => ∃ k : Nat, k ≤ na ∧ i = .int .i64 (k : Int) ∧ Below w290.heap.size w290 wr) (fun i _ => na - (intOf i).toNat)
                                      case atStart => exact ⟨0, Nat.zero_le _, rfl, Below.refl _ _⟩
                                      case round =>
                                        obtain ⟨k, hk, rfl, hb⟩ := hrel
                                        by_cases hlt : k < na
                                        · skip
                                          as_aux_lemma =>
                                            have hlt2 : k < (tcL us ys).length := by rw [HNa.out]; exact hlt
                                            obtain ⟨n, c1, c2, c3, c4⟩ := HCf.out k hlt2
                                            obtain ⟨bA, oA, rfl⟩ := ints_addr HIa291.out (by intro h0; rw [h0] at hlt2; simp at hlt2)
                                            have ck := ints_cell (HIa291.out.below hb) hlt2
                                            rw [c1] at ck
                                            have HBk := hid hb
                                            have C4 := hid c4
                                            clear c1 c4 hb hlt2
                                            cases hoo : o4
                                            · subst hoo
                                              go_wp2
                                              go_roundw
                                              case rel => exact ⟨k + 1, by omega, by go_num, HBk.out⟩
                                              case measure => simp [intOf] <;> omega
                                            · subst hoo
                                              obtain ⟨mm, d1, d2, d3⟩ := C4.out Ho4.out
                                              obtain rfl : v4 = (mm : Int) := Hv4.out.symm.trans d1
                                              have d4 : Int.tmod (mm : Int) (n : Int) = 0 := by rw [Int.tmod_eq_emod_of_nonneg (by omega), ← Int.natCast_emod, d3]; rfl
                                              have d5 : (mm : Int) % (n : Int) = 0 := by rw [← Int.natCast_emod, d3]; rfl
                                              have hn0 : ¬ (n : Int) = 0 := by omega
                                              have hnb : ((n : Int) == 0) = false := by simpa using (show ¬ n = 0 by omega)
                                              clear d1 d3 C4
                                              go_wp2
                                              go_roundw
                                              case rel => exact ⟨k + 1, by omega, by go_num, HBk.out⟩
                                              case measure => simp [intOf] <;> omega
                                        · as_aux_lemma =>
                                            have HBe := hid (below_to HB291.out hb)
                                            clear hb
                                            go_wp2
                                            go_ret
                                            exact ⟨rfl, HBe.out⟩
end Go.Proofs.Ytpdoheagfjeefaa.lawTogglesUndo
