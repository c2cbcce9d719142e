/- IdealsAndAntichains: the walk of the law (made by tools/genia.py). -/
import Derived.Test.YtclhebpkpmholaaByt
import Derived.Test.YtclhebpkpmholaaLwH
import Derived.Test.YtclhebpkpmholaaDrI
import Derived.BigQuiet
namespace Go.Proofs.Ytclhebpkpmholaa
open Go.RowKit Go.WideShapes Go.ChangeShapes
set_option linter.unusedVariables false
theorem bytes_at {w W : World} {v : Value} {bs : List Int} (h : BytesB w w.heap.size v bs) (hb : Below w.heap.size w W) : BytesB W W.heap.size v bs := (h.below hb).up hb.size
theorem ints_cell {w : World} {b o n c : Nat} {L : List Int} (h : Ints w (.slice (some ⟨b, o, none⟩) n c) L) {j : Nat} (hj : j < L.length) : w.cell? ⟨b, o + j, none⟩ = some (.int .i64 (L.getD j 0)) := by
  obtain ⟨A, c2, e, hA⟩ := h
  injection e with e1 e2 e3
  subst e1
  obtain ⟨b2, o2, e4, -, hc⟩ := hA (by intro h; simp [h] at hj)
  cases e4
  exact hc j hj
end Go.Proofs.Ytclhebpkpmholaa
namespace Go.Proofs.Ytclhebpkpmholaa.lawIdealsAndAntichains
open Go.RowKit Go.WideShapes Go.ChangeShapes
set_option linter.unusedVariables false
set_option maxRecDepth 100000 in
set_option maxHeartbeats 6400000 in
theorem walk (v0 : Value) (xs0 : List Int) (v1 : Value) (xs1 : List Int) (w : World) (hb0 : BytesB w w.heap.size v0 xs0) (hl0 : xs0.length ≤ maxLen) (hb1 : BytesB w w.heap.size v1 xs1) (hl1 : xs1.length ≤ maxLen) :
    Calls Try.prog 3 #[v0, v1] w fun (r : Ending) w' => r = .returned (.bool true) ∧ Below w.heap.size w w' := by
  have HY0 := hid hb0
  have HY1 := hid hb1
  obtain ⟨A0, c0, rfl, -⟩ := hb0
  obtain ⟨A1, c1, rfl, -⟩ := hb1
  have HL0 := hid hl0
  have HL1 := hid hl1
  unfold maxLen at hl0 hl1
  go_enter Try.func3, Try.ntmps3
  by_cases hbig : 1048576 < xs0.length + xs1.length
  · go_wp2_with fail
    refine (big_any _ _ xs0 xs1 _ HY0.out HY1.out HL0.out HL1.out).mono ?_
    rintro e w1 ⟨rfl, rfl⟩
    rw [decide_eq_true hbig]
    go_wp2
    go_ret
    exact ⟨rfl, Below.refl _ _⟩
  · go_wp2_with fail
    refine (big_any _ _ xs0 xs1 _ HY0.out HY1.out HL0.out HL1.out).mono ?_
    rintro e w1 ⟨rfl, rfl⟩
    rw [decide_eq_false hbig]
    have HS := hid (show xs0.length ≤ 1048576 ∧ xs1.length ≤ 1048576 by omega)
    clear hbig hl0 hl1
    go_wp2_with fail
    refine (drawIdealsOf_any _ xs0 _ HY0.out HS.out.1).mono ?_
    rintro e w1 ⟨u, xs, rfl, ho, hl21, hb⟩
    have hl : xs.length ≤ 1048576 := by omega
    have HB0 := hid hb
    have HI0 := hid ho.ints
    obtain ⟨uA, uc, rfl, -⟩ := ho.ints
    clear ho hb
    obtain ⟨B5, hB5⟩ : ∃ B5, w1.heap.size = B5 := ⟨_, rfl⟩
    go_wp2_with fail
    have HB1 := hid (below_alloc HB0.out (.cells #[.slice uA xs.length uc] 26))
    have HIp1 := hid (HI0.out.alloc (.cells #[.slice uA xs.length uc] 26))
    have HKp1 : Hid (Blk (w1.alloc (.cells #[.slice uA xs.length uc] 26)) B5 26 #[.slice uA xs.length uc]) := hid (by rw [← hB5]; exact Blk.new w1 _ _)
    clear hB5 HB0 HI0
    have tKp2 := HKp1.out.cell 0
    cases hg : good xs
    · skip
      go_wp2_with fail
      refine (implIdealsOf_any _ xs _ HIp1.out hl).mono ?_
      rintro e w3 ⟨ua, rfl, ho, hla, hb⟩
      rw [hg]
      have HIa := hid ho.ints
      obtain ⟨Aa, ca, rfl, -⟩ := ho.ints
      obtain ⟨na, hna⟩ : ∃ n, (idealsL xs).length = n := ⟨_, rfl⟩
      rw [hna] at HIa hla ⊢
      have HNa := hid hna
      clear ho hna
      have HB4 := hid (below_to HB1.out hb)
      have HIp4 := hid (HIp1.out.below hb)
      have HKp4 := hid (HKp1.out.below hb HKp1.out.lt)
      clear tKp2
      clear hb HB1 HIp1 HKp1
      have tKp5 := HKp4.out.cell 0
      go_wp2_with fail
      refine (specIdealsOf_any _ xs _ HIp4.out hl).mono ?_
      rintro e w6 ⟨ub, rfl, ho, hlb, hb⟩
      rw [hg]
      have HIb := hid ho.ints
      obtain ⟨Ab, cb, rfl, -⟩ := ho.ints
      obtain ⟨nb, hnb⟩ : ∃ n, (idealsL xs).length = n := ⟨_, rfl⟩
      rw [hnb] at HIb hlb ⊢
      have HNb := hid hnb
      clear ho hnb
      have HB7 := hid (below_to HB4.out hb)
      have HIp7 := hid (HIp4.out.below hb)
      have HKp7 := hid (HKp4.out.below hb HKp4.out.lt)
      have HIa7 := hid (HIa.out.below hb)
      clear tKp5
      clear hb HB4 HIp4 HKp4 HIa
      have tKp8 := HKp7.out.cell 0
      go_wp2_with fail
      refine (implAntichainsOf_any _ xs _ HIp7.out hl).mono ?_
      rintro e w9 ⟨uc, rfl, ho, hlc, hb⟩
      rw [hg]
      have HIc := hid ho.ints
      obtain ⟨Ac, cc, rfl, -⟩ := ho.ints
      obtain ⟨nc, hnc⟩ : ∃ n, (antichainsL xs).length = n := ⟨_, rfl⟩
      rw [hnc] at HIc hlc ⊢
      have HNc := hid hnc
      clear ho hnc
      have HB10 := hid (below_to HB7.out hb)
      have HIp10 := hid (HIp7.out.below hb)
      have HKp10 := hid (HKp7.out.below hb HKp7.out.lt)
      have HIa10 := hid (HIa7.out.below hb)
      have HIb10 := hid (HIb.out.below hb)
      clear tKp8
      clear hb HB7 HIp7 HKp7 HIa7 HIb
      have tKp11 := HKp10.out.cell 0
      go_wp2_with fail
      refine (specAntichainsOf_any _ xs _ HIp10.out hl).mono ?_
      rintro e w12 ⟨ud, rfl, ho, hld, hb⟩
      rw [hg]
      have HId := hid ho.ints
      obtain ⟨Ad, cd, rfl, -⟩ := ho.ints
      obtain ⟨nd, hnd⟩ : ∃ n, (antichainsL xs).length = n := ⟨_, rfl⟩
      rw [hnd] at HId hld ⊢
      have HNd := hid hnd
      clear ho hnd
      have HB13 := hid (below_to HB10.out hb)
      have HIp13 := hid (HIp10.out.below hb)
      have HKp13 := hid (HKp10.out.below hb HKp10.out.lt)
      have HIa13 := hid (HIa10.out.below hb)
      have HIb13 := hid (HIb10.out.below hb)
      have HIc13 := hid (HIc.out.below hb)
      clear tKp11
      clear hb HB10 HIp10 HKp10 HIa10 HIb10 HIc
      have tKp14 := HKp13.out.cell 0
      go_wp2_with fail
      refine (implCountIdeals_any _ xs _ HIp13.out hl).mono ?_
      rintro e w15 ⟨rfl, hb⟩
      rw [hg, HNa.out]
      have HB16 := hid (below_to HB13.out hb)
      have HIp16 := hid (HIp13.out.below hb)
      have HKp16 := hid (HKp13.out.below hb HKp13.out.lt)
      have HIa16 := hid (HIa13.out.below hb)
      have HIb16 := hid (HIb13.out.below hb)
      have HIc16 := hid (HIc13.out.below hb)
      have HId16 := hid (HId.out.below hb)
      clear tKp14
      clear hb HB13 HIp13 HKp13 HIa13 HIb13 HIc13 HId
      have tKp17 := HKp16.out.cell 0
      go_wp2_with fail
      refine (nSame_any _ _ (idealsL xs) _ HIa16.out HIb16.out (by rw [HNa.out]; exact hla)).mono ?_
      rintro e w18 ⟨rfl, hb⟩
      have HB19 := hid (below_to HB16.out hb)
      have HIp19 := hid (HIp16.out.below hb)
      have HKp19 := hid (HKp16.out.below hb HKp16.out.lt)
      have HIa19 := hid (HIa16.out.below hb)
      have HIb19 := hid (HIb16.out.below hb)
      have HIc19 := hid (HIc16.out.below hb)
      have HId19 := hid (HId16.out.below hb)
      clear tKp17
      clear hb HB16 HIp16 HKp16 HIa16 HIb16 HIc16 HId16
      have tKp20 := HKp19.out.cell 0
      clear HNb hlb HIb19
      go_wp2_with fail
      refine (nSame_any _ _ (antichainsL xs) _ HIc19.out HId19.out (by rw [HNc.out]; exact hlc)).mono ?_
      rintro e w21 ⟨rfl, hb⟩
      have HB22 := hid (below_to HB19.out hb)
      have HIp22 := hid (HIp19.out.below hb)
      have HKp22 := hid (HKp19.out.below hb HKp19.out.lt)
      have HIa22 := hid (HIa19.out.below hb)
      have HIc22 := hid (HIc19.out.below hb)
      have HId22 := hid (HId19.out.below hb)
      clear tKp20
      clear hb HB19 HIp19 HKp19 HIa19 HIc19 HId19
      have tKp23 := HKp22.out.cell 0
      clear HNd hld HId22
      go_wp2_with fail
      refine (implIsPoset_any _ xs _ HIp22.out hl).mono ?_
      rintro e w24 ⟨rfl, hb⟩
      rw [hg]
      have HB25 := hid (below_to HB22.out hb)
      have HIp25 := hid (HIp22.out.below hb)
      have HKp25 := hid (HKp22.out.below hb HKp22.out.lt)
      have HIa25 := hid (HIa22.out.below hb)
      have HIc25 := hid (HIc22.out.below hb)
      clear tKp23
      clear hb HB22 HIp22 HKp22 HIa22 HIc22
      have tKp26 := HKp25.out.cell 0
      go_wp2_with fail
      refine (specIsPoset_any _ xs _ HIp25.out hl).mono ?_
      rintro e w27 ⟨rfl, hb⟩
      rw [hg]
      have HB28 := hid (below_to HB25.out hb)
      have HIp28 := hid (HIp25.out.below hb)
      have HKp28 := hid (HKp25.out.below hb HKp25.out.lt)
      have HIa28 := hid (HIa25.out.below hb)
      have HIc28 := hid (HIc25.out.below hb)
      clear tKp26
      clear hb HB25 HIp25 HKp25 HIa25 HIc25
      have tKp29 := HKp28.out.cell 0
      clear HNa HNc hla hlc hl hl21 hg tKp29 HIp28 HKp28 HIa28 HIc28
      go_wp2_with fail
      refine (drawIdealOf_any _ xs1 _ (bytes_at HY1.out HB28.out) HS.out.2).mono ?_
      rintro e w30 ⟨u, ys, s, rfl, hwf, ho, hy21, hb⟩
      have hyl : ys.length ≤ 1048576 := by omega
      have HB := hid (below_to HB28.out hb)
      have HIq := hid ho.ints
      have HWs := hid hwf
      obtain ⟨qA, qc, rfl, -⟩ := ho.ints
      clear ho hb hwf
      obtain ⟨B6, hB6⟩ : ∃ B6, w30.heap.size = B6 := ⟨_, rfl⟩
      go_wp2_with fail
      have HB31 := hid (below_alloc HB.out (.cells #[.slice qA ys.length qc] 26))
      have HIq31 := hid (HIq.out.alloc (.cells #[.slice qA ys.length qc] 26))
      have HKq31 : Hid (Blk (w30.alloc (.cells #[.slice qA ys.length qc] 26)) B6 26 #[.slice qA ys.length qc]) := hid (by rw [← hB6]; exact Blk.new w30 _ _)
      clear hB6 HB HIq
      have tKq32 := HKq31.out.cell 0
      cases hos : okSet ys s
      · skip
        have HOs := hid hos
        have HEf : Hid (∀ f, ansI ys s f = 0) := hid (fun f => by rw [ansI, hos]; rfl)
        have HEg : Hid (ansB ys s holdsIdeal = false) := hid (by rw [ansB, hos]; rfl)
        clear hos
        go_wp2_with fail
        refine (implIdealOf_any _ ys s _ HIq31.out hyl HWs.out).mono ?_
        rintro e w33 ⟨rfl, hb⟩
        rw [HEf.out, HOs.out]
        have HB34 := hid (below_to HB31.out hb)
        have HIq34 := hid (HIq31.out.below hb)
        have HKq34 := hid (HKq31.out.below hb HKq31.out.lt)
        clear tKq32
        clear hb HB31 HIq31 HKq31
        have tKq35 := HKq34.out.cell 0
        go_wp2_with fail
        refine (specIdealOf_any _ ys s _ HIq34.out hyl HWs.out).mono ?_
        rintro e w36 ⟨rfl, hb⟩
        rw [HEf.out, HOs.out]
        have HB37 := hid (below_to HB34.out hb)
        have HIq37 := hid (HIq34.out.below hb)
        have HKq37 := hid (HKq34.out.below hb HKq34.out.lt)
        clear tKq35
        clear hb HB34 HIq34 HKq34
        have tKq38 := HKq37.out.cell 0
        go_wp2_with fail
        refine (implTopOf_any _ ys s _ HIq37.out hyl HWs.out).mono ?_
        rintro e w39 ⟨rfl, hb⟩
        rw [HEf.out, HOs.out]
        have HB40 := hid (below_to HB37.out hb)
        have HIq40 := hid (HIq37.out.below hb)
        have HKq40 := hid (HKq37.out.below hb HKq37.out.lt)
        clear tKq38
        clear hb HB37 HIq37 HKq37
        have tKq41 := HKq40.out.cell 0
        go_wp2_with fail
        refine (specTopOf_any _ ys s _ HIq40.out hyl HWs.out).mono ?_
        rintro e w42 ⟨rfl, hb⟩
        rw [HEf.out, HOs.out]
        have HB43 := hid (below_to HB40.out hb)
        have HIq43 := hid (HIq40.out.below hb)
        have HKq43 := hid (HKq40.out.below hb HKq40.out.lt)
        clear tKq41
        clear hb HB40 HIq40 HKq40
        have tKq44 := HKq43.out.cell 0
        go_wp2_with fail
        refine (implBottomOf_any _ ys s _ HIq43.out hyl HWs.out).mono ?_
        rintro e w45 ⟨rfl, hb⟩
        rw [HEf.out, HOs.out]
        have HB46 := hid (below_to HB43.out hb)
        have HIq46 := hid (HIq43.out.below hb)
        have HKq46 := hid (HKq43.out.below hb HKq43.out.lt)
        clear tKq44
        clear hb HB43 HIq43 HKq43
        have tKq47 := HKq46.out.cell 0
        go_wp2_with fail
        refine (specBottomOf_any _ ys s _ HIq46.out hyl HWs.out).mono ?_
        rintro e w48 ⟨rfl, hb⟩
        rw [HEf.out, HOs.out]
        have HB49 := hid (below_to HB46.out hb)
        have HIq49 := hid (HIq46.out.below hb)
        have HKq49 := hid (HKq46.out.below hb HKq46.out.lt)
        clear tKq47
        clear hb HB46 HIq46 HKq46
        have tKq50 := HKq49.out.cell 0
        go_wp2_with fail
        refine (implIsIdeal_any _ ys s _ HIq49.out hyl HWs.out).mono ?_
        rintro e w51 ⟨rfl, hb⟩
        rw [HEg.out, HOs.out]
        have HB52 := hid (below_to HB49.out hb)
        have HIq52 := hid (HIq49.out.below hb)
        have HKq52 := hid (HKq49.out.below hb HKq49.out.lt)
        clear tKq50
        clear hb HB49 HIq49 HKq49
        have tKq53 := HKq52.out.cell 0
        go_wp2_with fail
        refine (specIsIdeal_any _ ys s _ HIq52.out hyl HWs.out).mono ?_
        rintro e w54 ⟨rfl, hb⟩
        rw [HEg.out, HOs.out]
        have HB55 := hid (below_to HB52.out hb)
        have HIq55 := hid (HIq52.out.below hb)
        have HKq55 := hid (HKq52.out.below hb HKq52.out.lt)
        clear tKq53
        clear hb HB52 HIq52 HKq52
        have tKq56 := HKq55.out.cell 0
        clear HOs HEf HEg HWs hyl hy21 tKq56 HIq55 HKq55
        go_wp2_with fail
        refine (drawIsAntichain_any _ xs1 _ (bytes_at HY1.out HB55.out) HS.out.2).mono ?_
        rintro e w57 ⟨u, ts, s, rfl, hwf, ho, ht21, hb⟩
        have htl : ts.length ≤ 1048576 := by omega
        have HB := hid (below_to HB55.out hb)
        have HIr := hid ho.ints
        have HWr := hid hwf
        obtain ⟨rA, rc, rfl, -⟩ := ho.ints
        clear ho hb hwf
        obtain ⟨B7, hB7⟩ : ∃ B7, w57.heap.size = B7 := ⟨_, rfl⟩
        go_wp2_with fail
        have HB58 := hid (below_alloc HB.out (.cells #[.slice rA ts.length rc] 26))
        have HIr58 := hid (HIr.out.alloc (.cells #[.slice rA ts.length rc] 26))
        have HKr58 : Hid (Blk (w57.alloc (.cells #[.slice rA ts.length rc] 26)) B7 26 #[.slice rA ts.length rc]) := hid (by rw [← hB7]; exact Blk.new w57 _ _)
        clear hB7 HB HIr
        have tKr59 := HKr58.out.cell 0
        obtain ⟨b1, hb1⟩ : ∃ b, ansB ts s holdsAntichain = b := ⟨_, rfl⟩
        obtain ⟨b2, hb2⟩ : ∃ b, okSet ts s = b := ⟨_, rfl⟩
        have Hb1 := hid hb1
        have Hb2 := hid hb2
        clear hb1 hb2
        go_wp2_with fail
        refine (implIsAntichain_any _ ts s _ HIr58.out htl HWr.out).mono ?_
        rintro e w60 ⟨rfl, hb⟩
        rw [Hb1.out, Hb2.out]
        have HB61 := hid (below_to HB58.out hb)
        have HIr61 := hid (HIr58.out.below hb)
        have HKr61 := hid (HKr58.out.below hb HKr58.out.lt)
        clear tKr59
        clear hb HB58 HIr58 HKr58
        have tKr62 := HKr61.out.cell 0
        go_wp2_with fail
        refine (specIsAntichain_any _ ts s _ HIr61.out htl HWr.out).mono ?_
        rintro e w63 ⟨rfl, hb⟩
        rw [Hb1.out, Hb2.out]
        have HB64 := hid (below_to HB61.out hb)
        have HIr64 := hid (HIr61.out.below hb)
        have HKr64 := hid (HKr61.out.below hb HKr61.out.lt)
        clear tKr62
        clear hb HB61 HIr61 HKr61
        have tKr65 := HKr64.out.cell 0
        clear tKr65
        go_wp2
        go_ret
        exact ⟨ret_bool (by simp), HB64.out⟩
      · skip
        have hgy := (okSet_good hos).1
        obtain ⟨z, rfl⟩ := Int.eq_ofNat_of_zero_le (okSet_good hos).2.1
        have hz : z < 2 ^ ys.length := by have := (okSet_good hos).2.2; have := Nat.two_pow_pos ys.length; omega
        have hyl10 := (good_length hgy).2
        have hM2 : 2 ^ ys.length ≤ 1024 := Nat.pow_le_pow_right (n := 2) (by decide) hyl10
        have HGy := hid hgy
        have HOs := hid hos
        obtain ⟨D, hD⟩ : ∃ D, down ys z = D := ⟨_, rfl⟩
        obtain ⟨T, hT⟩ : ∃ T, top ys z = T := ⟨_, rfl⟩
        obtain ⟨V, hV⟩ : ∃ V, bottom ys z = V := ⟨_, rfl⟩
        have hDl : D < 2 ^ ys.length := by rw [← hD]; exact down_lt_len hgy hz
        have hTl : T < 2 ^ ys.length := by rw [← hT]; exact top_lt_len hz
        have hVl : V < 2 ^ ys.length := by rw [← hV]; exact bottom_lt_len
        have HED : Hid (ansI ys (z : Int) down = (D : Int)) := hid (by rw [ansI, if_pos hos, Int.toNat_natCast, hD])
        have HET : Hid (ansI ys (z : Int) top = (T : Int)) := hid (by rw [ansI, if_pos hos, Int.toNat_natCast, hT])
        have HEV : Hid (ansI ys (z : Int) bottom = (V : Int)) := hid (by rw [ansI, if_pos hos, Int.toNat_natCast, hV])
        have HEI : Hid (ansB ys (z : Int) holdsIdeal = holdsIdeal ys z) := hid (by rw [ansB, hos, Int.toNat_natCast, Bool.true_and])
        have HAT : Hid (ansB ys (T : Int) holdsAntichain = true) := hid (by rw [ansB, okSet_nat hgy hTl, Int.toNat_natCast, ← hT, top_anti]; rfl)
        have HAV : Hid (ansB ys (V : Int) holdsAntichain = true) := hid (by rw [ansB, okSet_nat hgy hVl, Int.toNat_natCast, ← hV, bottom_anti]; rfl)
        have HOT := hid (okSet_nat hgy hTl)
        have HOV := hid (okSet_nat hgy hVl)
        have HAD : Hid (ansB ys (D : Int) holdsIdeal = true) := hid (by rw [ansB, okSet_nat hgy hDl, Int.toNat_natCast, ← hD, down_ideal hgy]; rfl)
        have HDz : Hid (holdsIdeal ys z = true ↔ D = z) := hid (by rw [← hD]; exact ideal_down z)
        have HTz : Hid (z ≠ 0 → T ≠ 0 ∧ V ≠ 0) := hid (by rw [← hT, ← hV]; exact fun h => ⟨top_some hgy hz h, bottom_some hgy hz h⟩)
        have hz10 : z < 1024 := by omega
        have hD10 : D < 1024 := by omega
        have hT10 : T < 1024 := by omega
        have hV10 : V < 1024 := by omega
        clear hD hT hV hos hgy hM2 hDl hTl hVl hz hyl10
        go_wp2_with fail
        refine (implIdealOf_any _ ys (z : Int) _ HIq31.out hyl HWs.out).mono ?_
        rintro e w66 ⟨rfl, hb⟩
        rw [HED.out, HOs.out]
        have HB67 := hid (below_to HB31.out hb)
        have HIq67 := hid (HIq31.out.below hb)
        have HKq67 := hid (HKq31.out.below hb HKq31.out.lt)
        clear tKq32
        clear hb HB31 HIq31 HKq31
        have tKq68 := HKq67.out.cell 0
        go_wp2_with fail
        refine (specIdealOf_any _ ys (z : Int) _ HIq67.out hyl HWs.out).mono ?_
        rintro e w69 ⟨rfl, hb⟩
        rw [HED.out, HOs.out]
        have HB70 := hid (below_to HB67.out hb)
        have HIq70 := hid (HIq67.out.below hb)
        have HKq70 := hid (HKq67.out.below hb HKq67.out.lt)
        clear tKq68
        clear hb HB67 HIq67 HKq67
        have tKq71 := HKq70.out.cell 0
        go_wp2_with fail
        refine (implTopOf_any _ ys (z : Int) _ HIq70.out hyl HWs.out).mono ?_
        rintro e w72 ⟨rfl, hb⟩
        rw [HET.out, HOs.out]
        have HB73 := hid (below_to HB70.out hb)
        have HIq73 := hid (HIq70.out.below hb)
        have HKq73 := hid (HKq70.out.below hb HKq70.out.lt)
        clear tKq71
        clear hb HB70 HIq70 HKq70
        have tKq74 := HKq73.out.cell 0
        go_wp2_with fail
        refine (specTopOf_any _ ys (z : Int) _ HIq73.out hyl HWs.out).mono ?_
        rintro e w75 ⟨rfl, hb⟩
        rw [HET.out, HOs.out]
        have HB76 := hid (below_to HB73.out hb)
        have HIq76 := hid (HIq73.out.below hb)
        have HKq76 := hid (HKq73.out.below hb HKq73.out.lt)
        clear tKq74
        clear hb HB73 HIq73 HKq73
        have tKq77 := HKq76.out.cell 0
        go_wp2_with fail
        refine (implBottomOf_any _ ys (z : Int) _ HIq76.out hyl HWs.out).mono ?_
        rintro e w78 ⟨rfl, hb⟩
        rw [HEV.out, HOs.out]
        have HB79 := hid (below_to HB76.out hb)
        have HIq79 := hid (HIq76.out.below hb)
        have HKq79 := hid (HKq76.out.below hb HKq76.out.lt)
        clear tKq77
        clear hb HB76 HIq76 HKq76
        have tKq80 := HKq79.out.cell 0
        go_wp2_with fail
        refine (specBottomOf_any _ ys (z : Int) _ HIq79.out hyl HWs.out).mono ?_
        rintro e w81 ⟨rfl, hb⟩
        rw [HEV.out, HOs.out]
        have HB82 := hid (below_to HB79.out hb)
        have HIq82 := hid (HIq79.out.below hb)
        have HKq82 := hid (HKq79.out.below hb HKq79.out.lt)
        clear tKq80
        clear hb HB79 HIq79 HKq79
        have tKq83 := HKq82.out.cell 0
        go_wp2_with fail
        refine (implIsIdeal_any _ ys (z : Int) _ HIq82.out hyl HWs.out).mono ?_
        rintro e w84 ⟨rfl, hb⟩
        rw [HEI.out, HOs.out]
        have HB85 := hid (below_to HB82.out hb)
        have HIq85 := hid (HIq82.out.below hb)
        have HKq85 := hid (HKq82.out.below hb HKq82.out.lt)
        clear tKq83
        clear hb HB82 HIq82 HKq82
        have tKq86 := HKq85.out.cell 0
        go_wp2_with fail
        refine (specIsIdeal_any _ ys (z : Int) _ HIq85.out hyl HWs.out).mono ?_
        rintro e w87 ⟨rfl, hb⟩
        rw [HEI.out, HOs.out]
        have HB88 := hid (below_to HB85.out hb)
        have HIq88 := hid (HIq85.out.below hb)
        have HKq88 := hid (HKq85.out.below hb HKq85.out.lt)
        clear tKq86
        clear hb HB85 HIq85 HKq85
        have tKq89 := HKq88.out.cell 0
        obtain ⟨bI, hbI⟩ : ∃ b, holdsIdeal ys z = b := ⟨_, rfl⟩
        rw [hbI] at HDz ⊢
        clear hbI
        go_wp2_with fail
        refine (implIsAntichain_any _ ys (T : Int) _ HIq88.out hyl (wf_i64 _ (by omega) (by omega))).mono ?_
        rintro e w90 ⟨rfl, hb⟩
        rw [HAT.out, HOT.out]
        have HB91 := hid (below_to HB88.out hb)
        have HIq91 := hid (HIq88.out.below hb)
        have HKq91 := hid (HKq88.out.below hb HKq88.out.lt)
        clear tKq89
        clear hb HB88 HIq88 HKq88
        have tKq92 := HKq91.out.cell 0
        go_wp2_with fail
        refine (implIsAntichain_any _ ys (V : Int) _ HIq91.out hyl (wf_i64 _ (by omega) (by omega))).mono ?_
        rintro e w93 ⟨rfl, hb⟩
        rw [HAV.out, HOV.out]
        have HB94 := hid (below_to HB91.out hb)
        have HIq94 := hid (HIq91.out.below hb)
        have HKq94 := hid (HKq91.out.below hb HKq91.out.lt)
        clear tKq92
        clear hb HB91 HIq91 HKq91
        have tKq95 := HKq94.out.cell 0
        go_wp2_with fail
        refine (nIdeal_any _ ys (D : Int) _ HIq94.out hyl (wf_i64 _ (by omega) (by omega))).mono ?_
        rintro e w96 ⟨rfl, hb⟩
        rw [HAD.out]
        have HB97 := hid (below_to HB94.out hb)
        have HIq97 := hid (HIq94.out.below hb)
        have HKq97 := hid (HKq94.out.below hb HKq94.out.lt)
        clear tKq95
        clear hb HB94 HIq94 HKq94
        have tKq98 := HKq97.out.cell 0
        clear HED HET HEV HEI HAT HAV HOT HOV HAD HOs HGy HWs hyl hy21 tKq98 HIq97 HKq97
        by_cases hz0 : z = 0
        · skip
          have hzn : ¬ 0 < z := by omega
          clear hz0
          cases bI
          · skip
            have hDn : ¬ D = z := fun h => by have := HDz.out.2 h; cases this
            have hDb : ((D : Int) == (z : Int)) = false := by simp; omega
            clear HDz HTz
            go_wp2_with fail
            refine (drawIsAntichain_any _ xs1 _ (bytes_at HY1.out HB97.out) HS.out.2).mono ?_
            rintro e w99 ⟨u, ts, s, rfl, hwf, ho, ht21, hb⟩
            have htl : ts.length ≤ 1048576 := by omega
            have HB := hid (below_to HB97.out hb)
            have HIr := hid ho.ints
            have HWr := hid hwf
            obtain ⟨rA, rc, rfl, -⟩ := ho.ints
            clear ho hb hwf
            obtain ⟨B7, hB7⟩ : ∃ B7, w99.heap.size = B7 := ⟨_, rfl⟩
            go_wp2_with fail
            have HB100 := hid (below_alloc HB.out (.cells #[.slice rA ts.length rc] 26))
            have HIr100 := hid (HIr.out.alloc (.cells #[.slice rA ts.length rc] 26))
            have HKr100 : Hid (Blk (w99.alloc (.cells #[.slice rA ts.length rc] 26)) B7 26 #[.slice rA ts.length rc]) := hid (by rw [← hB7]; exact Blk.new w99 _ _)
            clear hB7 HB HIr
            have tKr101 := HKr100.out.cell 0
            obtain ⟨b1, hb1⟩ : ∃ b, ansB ts s holdsAntichain = b := ⟨_, rfl⟩
            obtain ⟨b2, hb2⟩ : ∃ b, okSet ts s = b := ⟨_, rfl⟩
            have Hb1 := hid hb1
            have Hb2 := hid hb2
            clear hb1 hb2
            go_wp2_with fail
            refine (implIsAntichain_any _ ts s _ HIr100.out htl HWr.out).mono ?_
            rintro e w102 ⟨rfl, hb⟩
            rw [Hb1.out, Hb2.out]
            have HB103 := hid (below_to HB100.out hb)
            have HIr103 := hid (HIr100.out.below hb)
            have HKr103 := hid (HKr100.out.below hb HKr100.out.lt)
            clear tKr101
            clear hb HB100 HIr100 HKr100
            have tKr104 := HKr103.out.cell 0
            go_wp2_with fail
            refine (specIsAntichain_any _ ts s _ HIr103.out htl HWr.out).mono ?_
            rintro e w105 ⟨rfl, hb⟩
            rw [Hb1.out, Hb2.out]
            have HB106 := hid (below_to HB103.out hb)
            have HIr106 := hid (HIr103.out.below hb)
            have HKr106 := hid (HKr103.out.below hb HKr103.out.lt)
            clear tKr104
            clear hb HB103 HIr103 HKr103
            have tKr107 := HKr106.out.cell 0
            clear tKr107
            go_wp2
            go_ret
            exact ⟨ret_bool (by simp), HB106.out⟩
          · skip
            obtain rfl : D = z := HDz.out.1 rfl
            clear HDz HTz
            go_wp2_with fail
            refine (drawIsAntichain_any _ xs1 _ (bytes_at HY1.out HB97.out) HS.out.2).mono ?_
            rintro e w108 ⟨u, ts, s, rfl, hwf, ho, ht21, hb⟩
            have htl : ts.length ≤ 1048576 := by omega
            have HB := hid (below_to HB97.out hb)
            have HIr := hid ho.ints
            have HWr := hid hwf
            obtain ⟨rA, rc, rfl, -⟩ := ho.ints
            clear ho hb hwf
            obtain ⟨B7, hB7⟩ : ∃ B7, w108.heap.size = B7 := ⟨_, rfl⟩
            go_wp2_with fail
            have HB109 := hid (below_alloc HB.out (.cells #[.slice rA ts.length rc] 26))
            have HIr109 := hid (HIr.out.alloc (.cells #[.slice rA ts.length rc] 26))
            have HKr109 : Hid (Blk (w108.alloc (.cells #[.slice rA ts.length rc] 26)) B7 26 #[.slice rA ts.length rc]) := hid (by rw [← hB7]; exact Blk.new w108 _ _)
            clear hB7 HB HIr
            have tKr110 := HKr109.out.cell 0
            obtain ⟨b1, hb1⟩ : ∃ b, ansB ts s holdsAntichain = b := ⟨_, rfl⟩
            obtain ⟨b2, hb2⟩ : ∃ b, okSet ts s = b := ⟨_, rfl⟩
            have Hb1 := hid hb1
            have Hb2 := hid hb2
            clear hb1 hb2
            go_wp2_with fail
            refine (implIsAntichain_any _ ts s _ HIr109.out htl HWr.out).mono ?_
            rintro e w111 ⟨rfl, hb⟩
            rw [Hb1.out, Hb2.out]
            have HB112 := hid (below_to HB109.out hb)
            have HIr112 := hid (HIr109.out.below hb)
            have HKr112 := hid (HKr109.out.below hb HKr109.out.lt)
            clear tKr110
            clear hb HB109 HIr109 HKr109
            have tKr113 := HKr112.out.cell 0
            go_wp2_with fail
            refine (specIsAntichain_any _ ts s _ HIr112.out htl HWr.out).mono ?_
            rintro e w114 ⟨rfl, hb⟩
            rw [Hb1.out, Hb2.out]
            have HB115 := hid (below_to HB112.out hb)
            have HIr115 := hid (HIr112.out.below hb)
            have HKr115 := hid (HKr112.out.below hb HKr112.out.lt)
            clear tKr113
            clear hb HB112 HIr112 HKr112
            have tKr116 := HKr115.out.cell 0
            clear tKr116
            go_wp2
            go_ret
            exact ⟨ret_bool (by simp), HB115.out⟩
        · skip
          have hzp : 0 < z := by omega
          have hT0 := (HTz.out hz0).1
          have hV0 := (HTz.out hz0).2
          have hTb : ((T : Int) == 0) = false := by simp; omega
          have hVb : ((V : Int) == 0) = false := by simp; omega
          clear hz0
          cases bI
          · skip
            have hDn : ¬ D = z := fun h => by have := HDz.out.2 h; cases this
            have hDb : ((D : Int) == (z : Int)) = false := by simp; omega
            clear HDz HTz
            go_wp2_with fail
            refine (drawIsAntichain_any _ xs1 _ (bytes_at HY1.out HB97.out) HS.out.2).mono ?_
            rintro e w117 ⟨u, ts, s, rfl, hwf, ho, ht21, hb⟩
            have htl : ts.length ≤ 1048576 := by omega
            have HB := hid (below_to HB97.out hb)
            have HIr := hid ho.ints
            have HWr := hid hwf
            obtain ⟨rA, rc, rfl, -⟩ := ho.ints
            clear ho hb hwf
            obtain ⟨B7, hB7⟩ : ∃ B7, w117.heap.size = B7 := ⟨_, rfl⟩
            go_wp2_with fail
            have HB118 := hid (below_alloc HB.out (.cells #[.slice rA ts.length rc] 26))
            have HIr118 := hid (HIr.out.alloc (.cells #[.slice rA ts.length rc] 26))
            have HKr118 : Hid (Blk (w117.alloc (.cells #[.slice rA ts.length rc] 26)) B7 26 #[.slice rA ts.length rc]) := hid (by rw [← hB7]; exact Blk.new w117 _ _)
            clear hB7 HB HIr
            have tKr119 := HKr118.out.cell 0
            obtain ⟨b1, hb1⟩ : ∃ b, ansB ts s holdsAntichain = b := ⟨_, rfl⟩
            obtain ⟨b2, hb2⟩ : ∃ b, okSet ts s = b := ⟨_, rfl⟩
            have Hb1 := hid hb1
            have Hb2 := hid hb2
            clear hb1 hb2
            go_wp2_with fail
            refine (implIsAntichain_any _ ts s _ HIr118.out htl HWr.out).mono ?_
            rintro e w120 ⟨rfl, hb⟩
            rw [Hb1.out, Hb2.out]
            have HB121 := hid (below_to HB118.out hb)
            have HIr121 := hid (HIr118.out.below hb)
            have HKr121 := hid (HKr118.out.below hb HKr118.out.lt)
            clear tKr119
            clear hb HB118 HIr118 HKr118
            have tKr122 := HKr121.out.cell 0
            go_wp2_with fail
            refine (specIsAntichain_any _ ts s _ HIr121.out htl HWr.out).mono ?_
            rintro e w123 ⟨rfl, hb⟩
            rw [Hb1.out, Hb2.out]
            have HB124 := hid (below_to HB121.out hb)
            have HIr124 := hid (HIr121.out.below hb)
            have HKr124 := hid (HKr121.out.below hb HKr121.out.lt)
            clear tKr122
            clear hb HB121 HIr121 HKr121
            have tKr125 := HKr124.out.cell 0
            clear tKr125
            go_wp2
            go_ret
            exact ⟨ret_bool (by simp), HB124.out⟩
          · skip
            obtain rfl : D = z := HDz.out.1 rfl
            clear HDz HTz
            go_wp2_with fail
            refine (drawIsAntichain_any _ xs1 _ (bytes_at HY1.out HB97.out) HS.out.2).mono ?_
            rintro e w126 ⟨u, ts, s, rfl, hwf, ho, ht21, hb⟩
            have htl : ts.length ≤ 1048576 := by omega
            have HB := hid (below_to HB97.out hb)
            have HIr := hid ho.ints
            have HWr := hid hwf
            obtain ⟨rA, rc, rfl, -⟩ := ho.ints
            clear ho hb hwf
            obtain ⟨B7, hB7⟩ : ∃ B7, w126.heap.size = B7 := ⟨_, rfl⟩
            go_wp2_with fail
            have HB127 := hid (below_alloc HB.out (.cells #[.slice rA ts.length rc] 26))
            have HIr127 := hid (HIr.out.alloc (.cells #[.slice rA ts.length rc] 26))
            have HKr127 : Hid (Blk (w126.alloc (.cells #[.slice rA ts.length rc] 26)) B7 26 #[.slice rA ts.length rc]) := hid (by rw [← hB7]; exact Blk.new w126 _ _)
            clear hB7 HB HIr
            have tKr128 := HKr127.out.cell 0
            obtain ⟨b1, hb1⟩ : ∃ b, ansB ts s holdsAntichain = b := ⟨_, rfl⟩
            obtain ⟨b2, hb2⟩ : ∃ b, okSet ts s = b := ⟨_, rfl⟩
            have Hb1 := hid hb1
            have Hb2 := hid hb2
            clear hb1 hb2
            go_wp2_with fail
            refine (implIsAntichain_any _ ts s _ HIr127.out htl HWr.out).mono ?_
            rintro e w129 ⟨rfl, hb⟩
            rw [Hb1.out, Hb2.out]
            have HB130 := hid (below_to HB127.out hb)
            have HIr130 := hid (HIr127.out.below hb)
            have HKr130 := hid (HKr127.out.below hb HKr127.out.lt)
            clear tKr128
            clear hb HB127 HIr127 HKr127
            have tKr131 := HKr130.out.cell 0
            go_wp2_with fail
            refine (specIsAntichain_any _ ts s _ HIr130.out htl HWr.out).mono ?_
            rintro e w132 ⟨rfl, hb⟩
            rw [Hb1.out, Hb2.out]
            have HB133 := hid (below_to HB130.out hb)
            have HIr133 := hid (HIr130.out.below hb)
            have HKr133 := hid (HKr130.out.below hb HKr130.out.lt)
            clear tKr131
            clear hb HB130 HIr130 HKr130
            have tKr134 := HKr133.out.cell 0
            clear tKr134
            go_wp2
            go_ret
            exact ⟨ret_bool (by simp), HB133.out⟩
    · skip
      go_wp2_with fail
      refine (implIdealsOf_any _ xs _ HIp1.out hl).mono ?_
      rintro e w135 ⟨ua, rfl, ho, hla, hb⟩
      rw [hg]
      have HIa := hid ho.ints
      obtain ⟨Aa, ca, rfl, -⟩ := ho.ints
      obtain ⟨na, hna⟩ : ∃ n, (idealsL xs).length = n := ⟨_, rfl⟩
      rw [hna] at HIa hla ⊢
      have HNa := hid hna
      clear ho hna
      have HB136 := hid (below_to HB1.out hb)
      have HIp136 := hid (HIp1.out.below hb)
      have HKp136 := hid (HKp1.out.below hb HKp1.out.lt)
      clear tKp2
      clear hb HB1 HIp1 HKp1
      have tKp137 := HKp136.out.cell 0
      go_wp2_with fail
      refine (specIdealsOf_any _ xs _ HIp136.out hl).mono ?_
      rintro e w138 ⟨ub, rfl, ho, hlb, hb⟩
      rw [hg]
      have HIb := hid ho.ints
      obtain ⟨Ab, cb, rfl, -⟩ := ho.ints
      obtain ⟨nb, hnb⟩ : ∃ n, (idealsL xs).length = n := ⟨_, rfl⟩
      rw [hnb] at HIb hlb ⊢
      have HNb := hid hnb
      clear ho hnb
      have HB139 := hid (below_to HB136.out hb)
      have HIp139 := hid (HIp136.out.below hb)
      have HKp139 := hid (HKp136.out.below hb HKp136.out.lt)
      have HIa139 := hid (HIa.out.below hb)
      clear tKp137
      clear hb HB136 HIp136 HKp136 HIa
      have tKp140 := HKp139.out.cell 0
      go_wp2_with fail
      refine (implAntichainsOf_any _ xs _ HIp139.out hl).mono ?_
      rintro e w141 ⟨uc, rfl, ho, hlc, hb⟩
      rw [hg]
      have HIc := hid ho.ints
      obtain ⟨Ac, cc, rfl, -⟩ := ho.ints
      obtain ⟨nc, hnc⟩ : ∃ n, (antichainsL xs).length = n := ⟨_, rfl⟩
      rw [hnc] at HIc hlc ⊢
      have HNc := hid hnc
      clear ho hnc
      have HB142 := hid (below_to HB139.out hb)
      have HIp142 := hid (HIp139.out.below hb)
      have HKp142 := hid (HKp139.out.below hb HKp139.out.lt)
      have HIa142 := hid (HIa139.out.below hb)
      have HIb142 := hid (HIb.out.below hb)
      clear tKp140
      clear hb HB139 HIp139 HKp139 HIa139 HIb
      have tKp143 := HKp142.out.cell 0
      go_wp2_with fail
      refine (specAntichainsOf_any _ xs _ HIp142.out hl).mono ?_
      rintro e w144 ⟨ud, rfl, ho, hld, hb⟩
      rw [hg]
      have HId := hid ho.ints
      obtain ⟨Ad, cd, rfl, -⟩ := ho.ints
      obtain ⟨nd, hnd⟩ : ∃ n, (antichainsL xs).length = n := ⟨_, rfl⟩
      rw [hnd] at HId hld ⊢
      have HNd := hid hnd
      clear ho hnd
      have HB145 := hid (below_to HB142.out hb)
      have HIp145 := hid (HIp142.out.below hb)
      have HKp145 := hid (HKp142.out.below hb HKp142.out.lt)
      have HIa145 := hid (HIa142.out.below hb)
      have HIb145 := hid (HIb142.out.below hb)
      have HIc145 := hid (HIc.out.below hb)
      clear tKp143
      clear hb HB142 HIp142 HKp142 HIa142 HIb142 HIc
      have tKp146 := HKp145.out.cell 0
      go_wp2_with fail
      refine (implCountIdeals_any _ xs _ HIp145.out hl).mono ?_
      rintro e w147 ⟨rfl, hb⟩
      rw [hg, HNa.out]
      have HB148 := hid (below_to HB145.out hb)
      have HIp148 := hid (HIp145.out.below hb)
      have HKp148 := hid (HKp145.out.below hb HKp145.out.lt)
      have HIa148 := hid (HIa145.out.below hb)
      have HIb148 := hid (HIb145.out.below hb)
      have HIc148 := hid (HIc145.out.below hb)
      have HId148 := hid (HId.out.below hb)
      clear tKp146
      clear hb HB145 HIp145 HKp145 HIa145 HIb145 HIc145 HId
      have tKp149 := HKp148.out.cell 0
      go_wp2_with fail
      refine (nSame_any _ _ (idealsL xs) _ HIa148.out HIb148.out (by rw [HNa.out]; exact hla)).mono ?_
      rintro e w150 ⟨rfl, hb⟩
      have HB151 := hid (below_to HB148.out hb)
      have HIp151 := hid (HIp148.out.below hb)
      have HKp151 := hid (HKp148.out.below hb HKp148.out.lt)
      have HIa151 := hid (HIa148.out.below hb)
      have HIb151 := hid (HIb148.out.below hb)
      have HIc151 := hid (HIc148.out.below hb)
      have HId151 := hid (HId148.out.below hb)
      clear tKp149
      clear hb HB148 HIp148 HKp148 HIa148 HIb148 HIc148 HId148
      have tKp152 := HKp151.out.cell 0
      clear HNb hlb HIb151
      go_wp2_with fail
      refine (nSame_any _ _ (antichainsL xs) _ HIc151.out HId151.out (by rw [HNc.out]; exact hlc)).mono ?_
      rintro e w153 ⟨rfl, hb⟩
      have HB154 := hid (below_to HB151.out hb)
      have HIp154 := hid (HIp151.out.below hb)
      have HKp154 := hid (HKp151.out.below hb HKp151.out.lt)
      have HIa154 := hid (HIa151.out.below hb)
      have HIc154 := hid (HIc151.out.below hb)
      have HId154 := hid (HId151.out.below hb)
      clear tKp152
      clear hb HB151 HIp151 HKp151 HIa151 HIc151 HId151
      have tKp155 := HKp154.out.cell 0
      clear HNd hld HId154
      go_wp2_with fail
      refine (implIsPoset_any _ xs _ HIp154.out hl).mono ?_
      rintro e w156 ⟨rfl, hb⟩
      rw [hg]
      have HB157 := hid (below_to HB154.out hb)
      have HIp157 := hid (HIp154.out.below hb)
      have HKp157 := hid (HKp154.out.below hb HKp154.out.lt)
      have HIa157 := hid (HIa154.out.below hb)
      have HIc157 := hid (HIc154.out.below hb)
      clear tKp155
      clear hb HB154 HIp154 HKp154 HIa154 HIc154
      have tKp158 := HKp157.out.cell 0
      go_wp2_with fail
      refine (specIsPoset_any _ xs _ HIp157.out hl).mono ?_
      rintro e w159 ⟨rfl, hb⟩
      rw [hg]
      have HB160 := hid (below_to HB157.out hb)
      have HIp160 := hid (HIp157.out.below hb)
      have HKp160 := hid (HKp157.out.below hb HKp157.out.lt)
      have HIa160 := hid (HIa157.out.below hb)
      have HIc160 := hid (HIc157.out.below hb)
      clear tKp158
      clear hb HB157 HIp157 HKp157 HIa157 HIc157
      have tKp161 := HKp160.out.cell 0
      have hl10 := (good_length hg).2
      have HG := hid hg
      have hnc : nc = na := by rw [← HNa.out, ← HNc.out]; exact chains_count hg
      subst hnc
      have hid1 : idealsL xs = setsL (holdsIdeal xs) (2 ^ xs.length) := if_pos hg
      have hid2 : antichainsL xs = setsL (holdsAntichain xs) (2 ^ xs.length) := if_pos hg
      obtain ⟨M, hM⟩ : ∃ M, 2 ^ xs.length = M := ⟨_, rfl⟩
      have HM := hid hM
      have hM1 : 0 < M := by rw [← hM]; exact Nat.two_pow_pos _
      have hM2 : M ≤ 1024 := by rw [← hM]; exact Nat.pow_le_pow_right (n := 2) (by decide) hl10
      have hMi : (2 : Int) ^ xs.length = (M : Int) := by rw [← hM, Int.natCast_pow]; rfl
      rw [hM] at hid1 hid2
      have Hid1 := hid hid1
      have Hid2 := hid hid2
      have hz0 := iaL_zeroth (f := holdsIdeal xs) hM1 (zero_ideal xs)
      rw [← hid1, HNa.out] at hz0
      have hN1 := hz0.1
      have HZ0 := hid hz0.2
      have HZl : Hid ((idealsL xs).getD (nc - 1) 0 = (M : Int) - 1) := hid (by
        have h := iaL_last (f := holdsIdeal xs) (M := M - 1) (by have h := full_ideal HG.out; rw [HM.out] at h; exact h)
        rw [show M - 1 + 1 = M from by omega, ← Hid1.out, HNa.out] at h
        rw [h]; omega)
      have hN2 : nc ≤ 1048576 := hla
      clear hz0 hg hid1 hid2 hM hla hlc
      obtain ⟨Aa', ca', ea, hca⟩ := HIa160.out
      obtain ⟨bA, oA, rfl, hbl, hce⟩ := hca (by intro h; have := congrArg List.length h; rw [HNa.out] at this; simp at this; omega)
      injection ea with ea1 ea2 ea3
      subst ea1
      have HC := hid hce
      have c0 := hce 0 (by rw [HNa.out]; omega)
      have c1 := hce (nc - 1) (by rw [HNa.out]; omega)
      rw [HZ0.out, Nat.add_zero] at c0
      rw [HZl.out] at c1
      clear hce hca ea2 ea3
      have hnn : ((nc : Int) - 1).toNat = nc - 1 := by omega
      go_wp2
      go_quiet (fail)
      go_wp2
      clear c0 c1 hnn
      go_loopw [157] (fun i wr => ∃ k : Nat, k ≤ nc ∧ i = .int .i64 (k : Int) ∧ Below w159.heap.size w159 wr) (fun i _ => nc - (intOf i).toNat)
      case atStart => exact ⟨0, Nat.zero_le _, rfl, below_drewN (Below.refl _ _) _⟩
      case round =>
        obtain ⟨k, hk, rfl, hb⟩ := hrel
        by_cases hlt : k < nc
        · skip
          have HBW0 := hid (Below.refl w159.heap.size w159)
          have HB162 := hid (below_to HB160.out hb)
          have HIp162 := hid (HIp160.out.below hb)
          have HKp162 := hid (HKp160.out.below hb HKp160.out.lt)
          have HIa162 := hid (HIa160.out.below hb)
          have HIc162 := hid (HIc160.out.below hb)
          have HBW162 := hid (below_to HBW0.out hb)
          clear hb HB160 HIp160 HKp160 HIa160 HIc160 HBW0
          have tKp163 := HKp162.out.cell 0
          obtain ⟨z, hz, hzi, hze⟩ := iaL_at (f := holdsIdeal xs) (N := M) (show k < (setsL (holdsIdeal xs) M).length by rw [← Hid1.out, HNa.out]; exact hlt)
          rw [← Hid1.out] at hze
          have hzl : z < 2 ^ xs.length := by rw [HM.out]; exact hz
          have HZe := hid hze
          have HZi := hid hzi
          have HTt : Hid (∃ T, top xs z = T ∧ T < 2 ^ xs.length) := hid ⟨_, rfl, top_lt_len hzl⟩
          obtain ⟨T, hT, hTl⟩ := HTt.out
          have HOk1 := hid (okSet_nat HG.out hzl)
          have HOk2 := hid (okSet_nat HG.out hTl)
          have HE1 : Hid (ansI xs (z : Int) top = (T : Int)) := hid (by rw [ansI, if_pos HOk1.out, Int.toNat_natCast, hT])
          have HE2 : Hid (ansI xs (T : Int) down = (z : Int)) := hid (by rw [ansI, if_pos HOk2.out, Int.toNat_natCast, ← hT, down_top HG.out hzl hzi])
          have HTa : Hid (∃ j, j < (antichainsL xs).length ∧ (antichainsL xs).getD j 0 = (T : Int)) := hid (by
            rw [Hid2.out]
            exact iaL_mem (by rw [HM.out] at hTl; exact hTl) (by rw [← hT]; exact top_anti xs z))
          rw [HM.out] at hzl hTl
          clear hT hze hzi hzl HTt
          have ck := ints_cell HIa162.out (show k < _ by rw [HNa.out]; exact hlt)
          rw [HZe.out] at ck
          go_wp2_with fail
          refine (implTopOf_any _ xs (z : Int) _ HIp162.out hl (wf_i64 _ (by omega) (by omega))).mono ?_
          rintro e w164 ⟨rfl, hb⟩
          rw [HE1.out, HOk1.out]
          have HB165 := hid (below_to HB162.out hb)
          have HIp165 := hid (HIp162.out.below hb)
          have HKp165 := hid (HKp162.out.below hb HKp162.out.lt)
          have HIa165 := hid (HIa162.out.below hb)
          have HIc165 := hid (HIc162.out.below hb)
          have HBW165 := hid (below_to HBW162.out hb)
          clear tKp163 ck
          clear hb HB162 HIp162 HKp162 HIa162 HIc162 HBW162
          have tKp166 := HKp165.out.cell 0
          go_wp2_with fail
          refine (implIdealOf_any _ xs (T : Int) _ HIp165.out hl (wf_i64 _ (by omega) (by omega))).mono ?_
          rintro e w167 ⟨rfl, hb⟩
          rw [HE2.out, HOk2.out]
          have HB168 := hid (below_to HB165.out hb)
          have HIp168 := hid (HIp165.out.below hb)
          have HKp168 := hid (HKp165.out.below hb HKp165.out.lt)
          have HIa168 := hid (HIa165.out.below hb)
          have HIc168 := hid (HIc165.out.below hb)
          have HBW168 := hid (below_to HBW165.out hb)
          clear tKp166
          clear hb HB165 HIp165 HKp165 HIa165 HIc165 HBW165
          have tKp169 := HKp168.out.cell 0
          go_wp2_with fail
          refine (numberOf_any _ xs1 _ _ (bytes_at HY1.out HB168.out) HS.out.2).mono ?_
          rintro e w170 ⟨m, hm, rfl, rfl⟩
          obtain ⟨q, hq, hqn⟩ : ∃ q : Nat, (7 * (k : Int) + (m : Int)) % (nc : Int) = (q : Int) ∧ q < nc := ⟨(7 * k + m) % nc, by rw [Int.natCast_emod, Int.natCast_add, Int.natCast_mul]; rfl, Nat.mod_lt _ (by omega)⟩
          obtain ⟨y, hy, hyi, hye⟩ := iaL_at (f := holdsIdeal xs) (N := M) (show q < (setsL (holdsIdeal xs) M).length by rw [← Hid1.out, HNa.out]; exact hqn)
          rw [← Hid1.out] at hye
          have cq := ints_cell HIa168.out (show q < _ by rw [HNa.out]; exact hqn)
          rw [hye] at cq
          have HU : Hid (∃ j, j < (idealsL xs).length ∧ (idealsL xs).getD j 0 = ((z ||| y : Nat) : Int)) := hid (by
            rw [Hid1.out]
            exact iaL_mem (by rw [← HM.out] at hz hy ⊢; exact Nat.or_lt_two_pow hz hy) (or_ideal HZi.out hyi))
          have HV : Hid (∃ j, j < (idealsL xs).length ∧ (idealsL xs).getD j 0 = ((z &&& y : Nat) : Int)) := hid (by
            rw [Hid1.out]
            exact iaL_mem (Nat.lt_of_le_of_lt Nat.and_le_left hz) (and_ideal HZi.out hyi))
          have hor := i64_or_nat z y (by omega) (by omega)
          have han := i64_and_nat z y (by omega) (by omega)
          obtain ⟨R, hR⟩ : ∃ R, z ||| y = R := ⟨_, rfl⟩
          obtain ⟨Q, hQ⟩ : ∃ Q, z &&& y = Q := ⟨_, rfl⟩
          rw [hR] at hor HU
          rw [hQ] at han HV
          clear hye hyi hR hQ
          go_wp2_with fail
          refine (nHas_any _ (antichainsL xs) (T : Int) _ HIc168.out (by rw [HNc.out]; exact hN2) HTa.out).mono ?_
          rintro e w171 ⟨rfl, rfl⟩
          go_wp2_with fail
          refine (nHas_any _ (idealsL xs) (R : Int) _ HIa168.out (by rw [HNa.out]; exact hN2) HU.out).mono ?_
          rintro e w172 ⟨rfl, rfl⟩
          go_wp2_with fail
          refine (nHas_any _ (idealsL xs) (Q : Int) _ HIa168.out (by rw [HNa.out]; exact hN2) HV.out).mono ?_
          rintro e w173 ⟨rfl, rfl⟩
          clear hq hor han cq HU HV
          by_cases hk0 : 0 < k
          · obtain ⟨x, hx, -, hxe⟩ := iaL_at (f := holdsIdeal xs) (N := M) (show k - 1 < (setsL (holdsIdeal xs) M).length by rw [← Hid1.out, HNa.out]; omega)
            have hxz := iaL_lt (f := holdsIdeal xs) (N := M) (show k - 1 < k by omega) (show k < (setsL (holdsIdeal xs) M).length by rw [← Hid1.out, HNa.out]; exact hlt)
            rw [hxe] at hxz
            rw [← Hid1.out] at hxe hxz
            have cx := ints_cell HIa168.out (show k - 1 < _ by rw [HNa.out]; omega)
            rw [hxe] at cx
            rw [HZe.out] at hxz
            clear hxe HZe
            have hkk : ((k : Int) - 1).toNat = k - 1 := by omega
            go_wp2
            go_roundw
            case rel => exact ⟨k + 1, by omega, by go_num, HBW168.out⟩
            case measure => simp [intOf]; omega
          · clear HZe
            go_wp2
            go_roundw
            case rel => exact ⟨k + 1, by omega, by go_num, HBW168.out⟩
            case measure => simp [intOf]; omega
        · skip
          have HB := hid (below_to HB160.out hb)
          clear hb HB160 HIp160 HKp160 HIa160 HIc160
          clear HNa HNc hl hl21 hl10 HG Hid1 Hid2 HM hM1 hM2 hMi hN1 hN2 HZ0 HZl HC hbl
          go_wp2_with fail
          refine (drawIdealOf_any _ xs1 _ (bytes_at HY1.out HB.out) HS.out.2).mono ?_
          rintro e w174 ⟨u, ys, s, rfl, hwf, ho, hy21, hb⟩
          have hyl : ys.length ≤ 1048576 := by omega
          have HB := hid (below_to HB.out hb)
          have HIq := hid ho.ints
          have HWs := hid hwf
          obtain ⟨qA, qc, rfl, -⟩ := ho.ints
          clear ho hb hwf
          obtain ⟨B6, hB6⟩ : ∃ B6, w174.heap.size = B6 := ⟨_, rfl⟩
          go_wp2_with fail
          have HB175 := hid (below_alloc HB.out (.cells #[.slice qA ys.length qc] 26))
          have HIq175 := hid (HIq.out.alloc (.cells #[.slice qA ys.length qc] 26))
          have HKq175 : Hid (Blk (w174.alloc (.cells #[.slice qA ys.length qc] 26)) B6 26 #[.slice qA ys.length qc]) := hid (by rw [← hB6]; exact Blk.new w174 _ _)
          clear hB6 HB HIq
          have tKq176 := HKq175.out.cell 0
          cases hos : okSet ys s
          · skip
            have HOs := hid hos
            have HEf : Hid (∀ f, ansI ys s f = 0) := hid (fun f => by rw [ansI, hos]; rfl)
            have HEg : Hid (ansB ys s holdsIdeal = false) := hid (by rw [ansB, hos]; rfl)
            clear hos
            go_wp2_with fail
            refine (implIdealOf_any _ ys s _ HIq175.out hyl HWs.out).mono ?_
            rintro e w177 ⟨rfl, hb⟩
            rw [HEf.out, HOs.out]
            have HB178 := hid (below_to HB175.out hb)
            have HIq178 := hid (HIq175.out.below hb)
            have HKq178 := hid (HKq175.out.below hb HKq175.out.lt)
            clear tKq176
            clear hb HB175 HIq175 HKq175
            have tKq179 := HKq178.out.cell 0
            go_wp2_with fail
            refine (specIdealOf_any _ ys s _ HIq178.out hyl HWs.out).mono ?_
            rintro e w180 ⟨rfl, hb⟩
            rw [HEf.out, HOs.out]
            have HB181 := hid (below_to HB178.out hb)
            have HIq181 := hid (HIq178.out.below hb)
            have HKq181 := hid (HKq178.out.below hb HKq178.out.lt)
            clear tKq179
            clear hb HB178 HIq178 HKq178
            have tKq182 := HKq181.out.cell 0
            go_wp2_with fail
            refine (implTopOf_any _ ys s _ HIq181.out hyl HWs.out).mono ?_
            rintro e w183 ⟨rfl, hb⟩
            rw [HEf.out, HOs.out]
            have HB184 := hid (below_to HB181.out hb)
            have HIq184 := hid (HIq181.out.below hb)
            have HKq184 := hid (HKq181.out.below hb HKq181.out.lt)
            clear tKq182
            clear hb HB181 HIq181 HKq181
            have tKq185 := HKq184.out.cell 0
            go_wp2_with fail
            refine (specTopOf_any _ ys s _ HIq184.out hyl HWs.out).mono ?_
            rintro e w186 ⟨rfl, hb⟩
            rw [HEf.out, HOs.out]
            have HB187 := hid (below_to HB184.out hb)
            have HIq187 := hid (HIq184.out.below hb)
            have HKq187 := hid (HKq184.out.below hb HKq184.out.lt)
            clear tKq185
            clear hb HB184 HIq184 HKq184
            have tKq188 := HKq187.out.cell 0
            go_wp2_with fail
            refine (implBottomOf_any _ ys s _ HIq187.out hyl HWs.out).mono ?_
            rintro e w189 ⟨rfl, hb⟩
            rw [HEf.out, HOs.out]
            have HB190 := hid (below_to HB187.out hb)
            have HIq190 := hid (HIq187.out.below hb)
            have HKq190 := hid (HKq187.out.below hb HKq187.out.lt)
            clear tKq188
            clear hb HB187 HIq187 HKq187
            have tKq191 := HKq190.out.cell 0
            go_wp2_with fail
            refine (specBottomOf_any _ ys s _ HIq190.out hyl HWs.out).mono ?_
            rintro e w192 ⟨rfl, hb⟩
            rw [HEf.out, HOs.out]
            have HB193 := hid (below_to HB190.out hb)
            have HIq193 := hid (HIq190.out.below hb)
            have HKq193 := hid (HKq190.out.below hb HKq190.out.lt)
            clear tKq191
            clear hb HB190 HIq190 HKq190
            have tKq194 := HKq193.out.cell 0
            go_wp2_with fail
            refine (implIsIdeal_any _ ys s _ HIq193.out hyl HWs.out).mono ?_
            rintro e w195 ⟨rfl, hb⟩
            rw [HEg.out, HOs.out]
            have HB196 := hid (below_to HB193.out hb)
            have HIq196 := hid (HIq193.out.below hb)
            have HKq196 := hid (HKq193.out.below hb HKq193.out.lt)
            clear tKq194
            clear hb HB193 HIq193 HKq193
            have tKq197 := HKq196.out.cell 0
            go_wp2_with fail
            refine (specIsIdeal_any _ ys s _ HIq196.out hyl HWs.out).mono ?_
            rintro e w198 ⟨rfl, hb⟩
            rw [HEg.out, HOs.out]
            have HB199 := hid (below_to HB196.out hb)
            have HIq199 := hid (HIq196.out.below hb)
            have HKq199 := hid (HKq196.out.below hb HKq196.out.lt)
            clear tKq197
            clear hb HB196 HIq196 HKq196
            have tKq200 := HKq199.out.cell 0
            clear HOs HEf HEg HWs hyl hy21 tKq200 HIq199 HKq199
            go_wp2_with fail
            refine (drawIsAntichain_any _ xs1 _ (bytes_at HY1.out HB199.out) HS.out.2).mono ?_
            rintro e w201 ⟨u, ts, s, rfl, hwf, ho, ht21, hb⟩
            have htl : ts.length ≤ 1048576 := by omega
            have HB := hid (below_to HB199.out hb)
            have HIr := hid ho.ints
            have HWr := hid hwf
            obtain ⟨rA, rc, rfl, -⟩ := ho.ints
            clear ho hb hwf
            obtain ⟨B7, hB7⟩ : ∃ B7, w201.heap.size = B7 := ⟨_, rfl⟩
            go_wp2_with fail
            have HB202 := hid (below_alloc HB.out (.cells #[.slice rA ts.length rc] 26))
            have HIr202 := hid (HIr.out.alloc (.cells #[.slice rA ts.length rc] 26))
            have HKr202 : Hid (Blk (w201.alloc (.cells #[.slice rA ts.length rc] 26)) B7 26 #[.slice rA ts.length rc]) := hid (by rw [← hB7]; exact Blk.new w201 _ _)
            clear hB7 HB HIr
            have tKr203 := HKr202.out.cell 0
            obtain ⟨b1, hb1⟩ : ∃ b, ansB ts s holdsAntichain = b := ⟨_, rfl⟩
            obtain ⟨b2, hb2⟩ : ∃ b, okSet ts s = b := ⟨_, rfl⟩
            have Hb1 := hid hb1
            have Hb2 := hid hb2
            clear hb1 hb2
            go_wp2_with fail
            refine (implIsAntichain_any _ ts s _ HIr202.out htl HWr.out).mono ?_
            rintro e w204 ⟨rfl, hb⟩
            rw [Hb1.out, Hb2.out]
            have HB205 := hid (below_to HB202.out hb)
            have HIr205 := hid (HIr202.out.below hb)
            have HKr205 := hid (HKr202.out.below hb HKr202.out.lt)
            clear tKr203
            clear hb HB202 HIr202 HKr202
            have tKr206 := HKr205.out.cell 0
            go_wp2_with fail
            refine (specIsAntichain_any _ ts s _ HIr205.out htl HWr.out).mono ?_
            rintro e w207 ⟨rfl, hb⟩
            rw [Hb1.out, Hb2.out]
            have HB208 := hid (below_to HB205.out hb)
            have HIr208 := hid (HIr205.out.below hb)
            have HKr208 := hid (HKr205.out.below hb HKr205.out.lt)
            clear tKr206
            clear hb HB205 HIr205 HKr205
            have tKr209 := HKr208.out.cell 0
            clear tKr209
            go_wp2
            go_ret
            exact ⟨ret_bool (by simp), HB208.out⟩
          · skip
            have hgy := (okSet_good hos).1
            obtain ⟨z, rfl⟩ := Int.eq_ofNat_of_zero_le (okSet_good hos).2.1
            have hz : z < 2 ^ ys.length := by have := (okSet_good hos).2.2; have := Nat.two_pow_pos ys.length; omega
            have hyl10 := (good_length hgy).2
            have hM2 : 2 ^ ys.length ≤ 1024 := Nat.pow_le_pow_right (n := 2) (by decide) hyl10
            have HGy := hid hgy
            have HOs := hid hos
            obtain ⟨D, hD⟩ : ∃ D, down ys z = D := ⟨_, rfl⟩
            obtain ⟨T, hT⟩ : ∃ T, top ys z = T := ⟨_, rfl⟩
            obtain ⟨V, hV⟩ : ∃ V, bottom ys z = V := ⟨_, rfl⟩
            have hDl : D < 2 ^ ys.length := by rw [← hD]; exact down_lt_len hgy hz
            have hTl : T < 2 ^ ys.length := by rw [← hT]; exact top_lt_len hz
            have hVl : V < 2 ^ ys.length := by rw [← hV]; exact bottom_lt_len
            have HED : Hid (ansI ys (z : Int) down = (D : Int)) := hid (by rw [ansI, if_pos hos, Int.toNat_natCast, hD])
            have HET : Hid (ansI ys (z : Int) top = (T : Int)) := hid (by rw [ansI, if_pos hos, Int.toNat_natCast, hT])
            have HEV : Hid (ansI ys (z : Int) bottom = (V : Int)) := hid (by rw [ansI, if_pos hos, Int.toNat_natCast, hV])
            have HEI : Hid (ansB ys (z : Int) holdsIdeal = holdsIdeal ys z) := hid (by rw [ansB, hos, Int.toNat_natCast, Bool.true_and])
            have HAT : Hid (ansB ys (T : Int) holdsAntichain = true) := hid (by rw [ansB, okSet_nat hgy hTl, Int.toNat_natCast, ← hT, top_anti]; rfl)
            have HAV : Hid (ansB ys (V : Int) holdsAntichain = true) := hid (by rw [ansB, okSet_nat hgy hVl, Int.toNat_natCast, ← hV, bottom_anti]; rfl)
            have HOT := hid (okSet_nat hgy hTl)
            have HOV := hid (okSet_nat hgy hVl)
            have HAD : Hid (ansB ys (D : Int) holdsIdeal = true) := hid (by rw [ansB, okSet_nat hgy hDl, Int.toNat_natCast, ← hD, down_ideal hgy]; rfl)
            have HDz : Hid (holdsIdeal ys z = true ↔ D = z) := hid (by rw [← hD]; exact ideal_down z)
            have HTz : Hid (z ≠ 0 → T ≠ 0 ∧ V ≠ 0) := hid (by rw [← hT, ← hV]; exact fun h => ⟨top_some hgy hz h, bottom_some hgy hz h⟩)
            have hz10 : z < 1024 := by omega
            have hD10 : D < 1024 := by omega
            have hT10 : T < 1024 := by omega
            have hV10 : V < 1024 := by omega
            clear hD hT hV hos hgy hM2 hDl hTl hVl hz hyl10
            go_wp2_with fail
            refine (implIdealOf_any _ ys (z : Int) _ HIq175.out hyl HWs.out).mono ?_
            rintro e w210 ⟨rfl, hb⟩
            rw [HED.out, HOs.out]
            have HB211 := hid (below_to HB175.out hb)
            have HIq211 := hid (HIq175.out.below hb)
            have HKq211 := hid (HKq175.out.below hb HKq175.out.lt)
            clear tKq176
            clear hb HB175 HIq175 HKq175
            have tKq212 := HKq211.out.cell 0
            go_wp2_with fail
            refine (specIdealOf_any _ ys (z : Int) _ HIq211.out hyl HWs.out).mono ?_
            rintro e w213 ⟨rfl, hb⟩
            rw [HED.out, HOs.out]
            have HB214 := hid (below_to HB211.out hb)
            have HIq214 := hid (HIq211.out.below hb)
            have HKq214 := hid (HKq211.out.below hb HKq211.out.lt)
            clear tKq212
            clear hb HB211 HIq211 HKq211
            have tKq215 := HKq214.out.cell 0
            go_wp2_with fail
            refine (implTopOf_any _ ys (z : Int) _ HIq214.out hyl HWs.out).mono ?_
            rintro e w216 ⟨rfl, hb⟩
            rw [HET.out, HOs.out]
            have HB217 := hid (below_to HB214.out hb)
            have HIq217 := hid (HIq214.out.below hb)
            have HKq217 := hid (HKq214.out.below hb HKq214.out.lt)
            clear tKq215
            clear hb HB214 HIq214 HKq214
            have tKq218 := HKq217.out.cell 0
            go_wp2_with fail
            refine (specTopOf_any _ ys (z : Int) _ HIq217.out hyl HWs.out).mono ?_
            rintro e w219 ⟨rfl, hb⟩
            rw [HET.out, HOs.out]
            have HB220 := hid (below_to HB217.out hb)
            have HIq220 := hid (HIq217.out.below hb)
            have HKq220 := hid (HKq217.out.below hb HKq217.out.lt)
            clear tKq218
            clear hb HB217 HIq217 HKq217
            have tKq221 := HKq220.out.cell 0
            go_wp2_with fail
            refine (implBottomOf_any _ ys (z : Int) _ HIq220.out hyl HWs.out).mono ?_
            rintro e w222 ⟨rfl, hb⟩
            rw [HEV.out, HOs.out]
            have HB223 := hid (below_to HB220.out hb)
            have HIq223 := hid (HIq220.out.below hb)
            have HKq223 := hid (HKq220.out.below hb HKq220.out.lt)
            clear tKq221
            clear hb HB220 HIq220 HKq220
            have tKq224 := HKq223.out.cell 0
            go_wp2_with fail
            refine (specBottomOf_any _ ys (z : Int) _ HIq223.out hyl HWs.out).mono ?_
            rintro e w225 ⟨rfl, hb⟩
            rw [HEV.out, HOs.out]
            have HB226 := hid (below_to HB223.out hb)
            have HIq226 := hid (HIq223.out.below hb)
            have HKq226 := hid (HKq223.out.below hb HKq223.out.lt)
            clear tKq224
            clear hb HB223 HIq223 HKq223
            have tKq227 := HKq226.out.cell 0
            go_wp2_with fail
            refine (implIsIdeal_any _ ys (z : Int) _ HIq226.out hyl HWs.out).mono ?_
            rintro e w228 ⟨rfl, hb⟩
            rw [HEI.out, HOs.out]
            have HB229 := hid (below_to HB226.out hb)
            have HIq229 := hid (HIq226.out.below hb)
            have HKq229 := hid (HKq226.out.below hb HKq226.out.lt)
            clear tKq227
            clear hb HB226 HIq226 HKq226
            have tKq230 := HKq229.out.cell 0
            go_wp2_with fail
            refine (specIsIdeal_any _ ys (z : Int) _ HIq229.out hyl HWs.out).mono ?_
            rintro e w231 ⟨rfl, hb⟩
            rw [HEI.out, HOs.out]
            have HB232 := hid (below_to HB229.out hb)
            have HIq232 := hid (HIq229.out.below hb)
            have HKq232 := hid (HKq229.out.below hb HKq229.out.lt)
            clear tKq230
            clear hb HB229 HIq229 HKq229
            have tKq233 := HKq232.out.cell 0
            obtain ⟨bI, hbI⟩ : ∃ b, holdsIdeal ys z = b := ⟨_, rfl⟩
            rw [hbI] at HDz ⊢
            clear hbI
            go_wp2_with fail
            refine (implIsAntichain_any _ ys (T : Int) _ HIq232.out hyl (wf_i64 _ (by omega) (by omega))).mono ?_
            rintro e w234 ⟨rfl, hb⟩
            rw [HAT.out, HOT.out]
            have HB235 := hid (below_to HB232.out hb)
            have HIq235 := hid (HIq232.out.below hb)
            have HKq235 := hid (HKq232.out.below hb HKq232.out.lt)
            clear tKq233
            clear hb HB232 HIq232 HKq232
            have tKq236 := HKq235.out.cell 0
            go_wp2_with fail
            refine (implIsAntichain_any _ ys (V : Int) _ HIq235.out hyl (wf_i64 _ (by omega) (by omega))).mono ?_
            rintro e w237 ⟨rfl, hb⟩
            rw [HAV.out, HOV.out]
            have HB238 := hid (below_to HB235.out hb)
            have HIq238 := hid (HIq235.out.below hb)
            have HKq238 := hid (HKq235.out.below hb HKq235.out.lt)
            clear tKq236
            clear hb HB235 HIq235 HKq235
            have tKq239 := HKq238.out.cell 0
            go_wp2_with fail
            refine (nIdeal_any _ ys (D : Int) _ HIq238.out hyl (wf_i64 _ (by omega) (by omega))).mono ?_
            rintro e w240 ⟨rfl, hb⟩
            rw [HAD.out]
            have HB241 := hid (below_to HB238.out hb)
            have HIq241 := hid (HIq238.out.below hb)
            have HKq241 := hid (HKq238.out.below hb HKq238.out.lt)
            clear tKq239
            clear hb HB238 HIq238 HKq238
            have tKq242 := HKq241.out.cell 0
            clear HED HET HEV HEI HAT HAV HOT HOV HAD HOs HGy HWs hyl hy21 tKq242 HIq241 HKq241
            by_cases hz0 : z = 0
            · skip
              have hzn : ¬ 0 < z := by omega
              clear hz0
              cases bI
              · skip
                have hDn : ¬ D = z := fun h => by have := HDz.out.2 h; cases this
                have hDb : ((D : Int) == (z : Int)) = false := by simp; omega
                clear HDz HTz
                go_wp2_with fail
                refine (drawIsAntichain_any _ xs1 _ (bytes_at HY1.out HB241.out) HS.out.2).mono ?_
                rintro e w243 ⟨u, ts, s, rfl, hwf, ho, ht21, hb⟩
                have htl : ts.length ≤ 1048576 := by omega
                have HB := hid (below_to HB241.out hb)
                have HIr := hid ho.ints
                have HWr := hid hwf
                obtain ⟨rA, rc, rfl, -⟩ := ho.ints
                clear ho hb hwf
                obtain ⟨B7, hB7⟩ : ∃ B7, w243.heap.size = B7 := ⟨_, rfl⟩
                go_wp2_with fail
                have HB244 := hid (below_alloc HB.out (.cells #[.slice rA ts.length rc] 26))
                have HIr244 := hid (HIr.out.alloc (.cells #[.slice rA ts.length rc] 26))
                have HKr244 : Hid (Blk (w243.alloc (.cells #[.slice rA ts.length rc] 26)) B7 26 #[.slice rA ts.length rc]) := hid (by rw [← hB7]; exact Blk.new w243 _ _)
                clear hB7 HB HIr
                have tKr245 := HKr244.out.cell 0
                obtain ⟨b1, hb1⟩ : ∃ b, ansB ts s holdsAntichain = b := ⟨_, rfl⟩
                obtain ⟨b2, hb2⟩ : ∃ b, okSet ts s = b := ⟨_, rfl⟩
                have Hb1 := hid hb1
                have Hb2 := hid hb2
                clear hb1 hb2
                go_wp2_with fail
                refine (implIsAntichain_any _ ts s _ HIr244.out htl HWr.out).mono ?_
                rintro e w246 ⟨rfl, hb⟩
                rw [Hb1.out, Hb2.out]
                have HB247 := hid (below_to HB244.out hb)
                have HIr247 := hid (HIr244.out.below hb)
                have HKr247 := hid (HKr244.out.below hb HKr244.out.lt)
                clear tKr245
                clear hb HB244 HIr244 HKr244
                have tKr248 := HKr247.out.cell 0
                go_wp2_with fail
                refine (specIsAntichain_any _ ts s _ HIr247.out htl HWr.out).mono ?_
                rintro e w249 ⟨rfl, hb⟩
                rw [Hb1.out, Hb2.out]
                have HB250 := hid (below_to HB247.out hb)
                have HIr250 := hid (HIr247.out.below hb)
                have HKr250 := hid (HKr247.out.below hb HKr247.out.lt)
                clear tKr248
                clear hb HB247 HIr247 HKr247
                have tKr251 := HKr250.out.cell 0
                clear tKr251
                go_wp2
                go_ret
                exact ⟨ret_bool (by simp), HB250.out⟩
              · skip
                obtain rfl : D = z := HDz.out.1 rfl
                clear HDz HTz
                go_wp2_with fail
                refine (drawIsAntichain_any _ xs1 _ (bytes_at HY1.out HB241.out) HS.out.2).mono ?_
                rintro e w252 ⟨u, ts, s, rfl, hwf, ho, ht21, hb⟩
                have htl : ts.length ≤ 1048576 := by omega
                have HB := hid (below_to HB241.out hb)
                have HIr := hid ho.ints
                have HWr := hid hwf
                obtain ⟨rA, rc, rfl, -⟩ := ho.ints
                clear ho hb hwf
                obtain ⟨B7, hB7⟩ : ∃ B7, w252.heap.size = B7 := ⟨_, rfl⟩
                go_wp2_with fail
                have HB253 := hid (below_alloc HB.out (.cells #[.slice rA ts.length rc] 26))
                have HIr253 := hid (HIr.out.alloc (.cells #[.slice rA ts.length rc] 26))
                have HKr253 : Hid (Blk (w252.alloc (.cells #[.slice rA ts.length rc] 26)) B7 26 #[.slice rA ts.length rc]) := hid (by rw [← hB7]; exact Blk.new w252 _ _)
                clear hB7 HB HIr
                have tKr254 := HKr253.out.cell 0
                obtain ⟨b1, hb1⟩ : ∃ b, ansB ts s holdsAntichain = b := ⟨_, rfl⟩
                obtain ⟨b2, hb2⟩ : ∃ b, okSet ts s = b := ⟨_, rfl⟩
                have Hb1 := hid hb1
                have Hb2 := hid hb2
                clear hb1 hb2
                go_wp2_with fail
                refine (implIsAntichain_any _ ts s _ HIr253.out htl HWr.out).mono ?_
                rintro e w255 ⟨rfl, hb⟩
                rw [Hb1.out, Hb2.out]
                have HB256 := hid (below_to HB253.out hb)
                have HIr256 := hid (HIr253.out.below hb)
                have HKr256 := hid (HKr253.out.below hb HKr253.out.lt)
                clear tKr254
                clear hb HB253 HIr253 HKr253
                have tKr257 := HKr256.out.cell 0
                go_wp2_with fail
                refine (specIsAntichain_any _ ts s _ HIr256.out htl HWr.out).mono ?_
                rintro e w258 ⟨rfl, hb⟩
                rw [Hb1.out, Hb2.out]
                have HB259 := hid (below_to HB256.out hb)
                have HIr259 := hid (HIr256.out.below hb)
                have HKr259 := hid (HKr256.out.below hb HKr256.out.lt)
                clear tKr257
                clear hb HB256 HIr256 HKr256
                have tKr260 := HKr259.out.cell 0
                clear tKr260
                go_wp2
                go_ret
                exact ⟨ret_bool (by simp), HB259.out⟩
            · skip
              have hzp : 0 < z := by omega
              have hT0 := (HTz.out hz0).1
              have hV0 := (HTz.out hz0).2
              have hTb : ((T : Int) == 0) = false := by simp; omega
              have hVb : ((V : Int) == 0) = false := by simp; omega
              clear hz0
              cases bI
              · skip
                have hDn : ¬ D = z := fun h => by have := HDz.out.2 h; cases this
                have hDb : ((D : Int) == (z : Int)) = false := by simp; omega
                clear HDz HTz
                go_wp2_with fail
                refine (drawIsAntichain_any _ xs1 _ (bytes_at HY1.out HB241.out) HS.out.2).mono ?_
                rintro e w261 ⟨u, ts, s, rfl, hwf, ho, ht21, hb⟩
                have htl : ts.length ≤ 1048576 := by omega
                have HB := hid (below_to HB241.out hb)
                have HIr := hid ho.ints
                have HWr := hid hwf
                obtain ⟨rA, rc, rfl, -⟩ := ho.ints
                clear ho hb hwf
                obtain ⟨B7, hB7⟩ : ∃ B7, w261.heap.size = B7 := ⟨_, rfl⟩
                go_wp2_with fail
                have HB262 := hid (below_alloc HB.out (.cells #[.slice rA ts.length rc] 26))
                have HIr262 := hid (HIr.out.alloc (.cells #[.slice rA ts.length rc] 26))
                have HKr262 : Hid (Blk (w261.alloc (.cells #[.slice rA ts.length rc] 26)) B7 26 #[.slice rA ts.length rc]) := hid (by rw [← hB7]; exact Blk.new w261 _ _)
                clear hB7 HB HIr
                have tKr263 := HKr262.out.cell 0
                obtain ⟨b1, hb1⟩ : ∃ b, ansB ts s holdsAntichain = b := ⟨_, rfl⟩
                obtain ⟨b2, hb2⟩ : ∃ b, okSet ts s = b := ⟨_, rfl⟩
                have Hb1 := hid hb1
                have Hb2 := hid hb2
                clear hb1 hb2
                go_wp2_with fail
                refine (implIsAntichain_any _ ts s _ HIr262.out htl HWr.out).mono ?_
                rintro e w264 ⟨rfl, hb⟩
                rw [Hb1.out, Hb2.out]
                have HB265 := hid (below_to HB262.out hb)
                have HIr265 := hid (HIr262.out.below hb)
                have HKr265 := hid (HKr262.out.below hb HKr262.out.lt)
                clear tKr263
                clear hb HB262 HIr262 HKr262
                have tKr266 := HKr265.out.cell 0
                go_wp2_with fail
                refine (specIsAntichain_any _ ts s _ HIr265.out htl HWr.out).mono ?_
                rintro e w267 ⟨rfl, hb⟩
                rw [Hb1.out, Hb2.out]
                have HB268 := hid (below_to HB265.out hb)
                have HIr268 := hid (HIr265.out.below hb)
                have HKr268 := hid (HKr265.out.below hb HKr265.out.lt)
                clear tKr266
                clear hb HB265 HIr265 HKr265
                have tKr269 := HKr268.out.cell 0
                clear tKr269
                go_wp2
                go_ret
                exact ⟨ret_bool (by simp), HB268.out⟩
              · skip
                obtain rfl : D = z := HDz.out.1 rfl
                clear HDz HTz
                go_wp2_with fail
                refine (drawIsAntichain_any _ xs1 _ (bytes_at HY1.out HB241.out) HS.out.2).mono ?_
                rintro e w270 ⟨u, ts, s, rfl, hwf, ho, ht21, hb⟩
                have htl : ts.length ≤ 1048576 := by omega
                have HB := hid (below_to HB241.out hb)
                have HIr := hid ho.ints
                have HWr := hid hwf
                obtain ⟨rA, rc, rfl, -⟩ := ho.ints
                clear ho hb hwf
                obtain ⟨B7, hB7⟩ : ∃ B7, w270.heap.size = B7 := ⟨_, rfl⟩
                go_wp2_with fail
                have HB271 := hid (below_alloc HB.out (.cells #[.slice rA ts.length rc] 26))
                have HIr271 := hid (HIr.out.alloc (.cells #[.slice rA ts.length rc] 26))
                have HKr271 : Hid (Blk (w270.alloc (.cells #[.slice rA ts.length rc] 26)) B7 26 #[.slice rA ts.length rc]) := hid (by rw [← hB7]; exact Blk.new w270 _ _)
                clear hB7 HB HIr
                have tKr272 := HKr271.out.cell 0
                obtain ⟨b1, hb1⟩ : ∃ b, ansB ts s holdsAntichain = b := ⟨_, rfl⟩
                obtain ⟨b2, hb2⟩ : ∃ b, okSet ts s = b := ⟨_, rfl⟩
                have Hb1 := hid hb1
                have Hb2 := hid hb2
                clear hb1 hb2
                go_wp2_with fail
                refine (implIsAntichain_any _ ts s _ HIr271.out htl HWr.out).mono ?_
                rintro e w273 ⟨rfl, hb⟩
                rw [Hb1.out, Hb2.out]
                have HB274 := hid (below_to HB271.out hb)
                have HIr274 := hid (HIr271.out.below hb)
                have HKr274 := hid (HKr271.out.below hb HKr271.out.lt)
                clear tKr272
                clear hb HB271 HIr271 HKr271
                have tKr275 := HKr274.out.cell 0
                go_wp2_with fail
                refine (specIsAntichain_any _ ts s _ HIr274.out htl HWr.out).mono ?_
                rintro e w276 ⟨rfl, hb⟩
                rw [Hb1.out, Hb2.out]
                have HB277 := hid (below_to HB274.out hb)
                have HIr277 := hid (HIr274.out.below hb)
                have HKr277 := hid (HKr274.out.below hb HKr274.out.lt)
                clear tKr275
                clear hb HB274 HIr274 HKr274
                have tKr278 := HKr277.out.cell 0
                clear tKr278
                go_wp2
                go_ret
                exact ⟨ret_bool (by simp), HB277.out⟩
end Go.Proofs.Ytclhebpkpmholaa.lawIdealsAndAntichains
