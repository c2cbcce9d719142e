/- Texts RvV, Swd, RvJ, one behind the other. -/
import Derived.Laws.EntriesVeiled
import Derived.Test.YtdemikjaghegnaaGreatPkRanksMakeRowmotionProof06
import Derived.Test.YtdemikjaghegnaaGreatPkRanksMakeRowmotionProof16
/- Ranks, one rank, gyration in the model. -/
namespace Go.Proofs.YtdemikjaghegnaaGreat
open Go.RowKit Go.WideShapes Go.ChangeShapes
set_option linter.unusedVariables false

theorem specRanksOf_any (v : Value) (xs : List Int) (w : World) (hv : Ints w v xs) (hl : xs.length ≤ 1048576) :
    Calls Tryz.prog 19 #[.agg #[v]] w fun (r : Ending) w' => ∃ q, r = Ending.returned (.tuple #[q, .bool (okRk xs)]) ∧ OwnI 3 w' w.heap.size q (ansRO xs) ∧ (ansRO xs).length ≤ 1048576 ∧ Below w.heap.size w w' := by
  have HV := hid hv
  have HL : Hid ((ansRO xs).length ≤ 1048576) := hid (by have := ansRO_length xs; omega)
  clear hv
  go_enter Tryz.func19, Tryz.ntmps19
  have HB := hid (below_alloc (Below.refl _ w) (.cells #[v] 26))
  have A0 := hid (At.newAt w v 26 w.heap.size (by simp))
  go_wp2_with fail
  refine (rvGood_any _ xs _ (HV.out.below HB.out) hl).mono ?_
  rintro e w' ⟨rfl, hb⟩
  replace HB := hid (below_to HB.out hb)
  replace A0 := hid (A0.out.below hb)
  clear hb
  cases hq : okRk xs
  · have HQ := hid hq
    clear hq
    have ebox0 := A0.out.1
    go_wp2
    go_ret2
    exact ⟨_, ret_vbR HQ.out.symm, by rw [ansRO_no HQ.out]; exact OwnI.nil _ _ _, HL.out, HB.out⟩
  · have HQ := hid hq
    have HG := hid (okRk_good hq).1
    have hz := HB.out.size
    clear hq
    have ebox0 := A0.out.1
    go_wp2_with fail
    clear ebox0
    refine (rvRanks_any _ xs _ (HV.out.below HB.out) HG.out).mono ?_
    rintro e w' ⟨q, rfl, ho, hb⟩
    replace HB := hid (below_to HB.out hb)
    replace A0 := hid (A0.out.below hb)
    clear hb
    have HO := hid ho
    clear ho
    have ebox0 := A0.out.1
    go_wp2
    go_ret2
    exact ⟨_, ret_vbR HQ.out.symm, by rw [ansRO_yes HQ.out]; exact HO.out.mono hz, HL.out, HB.out⟩
theorem okTR_one (xs : List Int) (s i : Int) : okTR xs [i] s = (okRI xs s && (decide (0 ≤ i) && decide (i < rkN xs))) := by simp [okTR, inW]
set_option maxHeartbeats 800000 in
theorem specToggleRank_any (v : Value) (xs : List Int) (s i : Int) (w : World) (hv : Ints w v xs) (hl : xs.length ≤ 1048576) (wf : (Lit.int .i64 s).wf = true) (wfi : (Lit.int .i64 i).wf = true) :
    Calls Tryz.prog 14 #[.agg #[v], .int .i64 s, .int .i64 i] w fun r w' => r = .returned (.tuple #[.int .i64 (ansTR xs [i] s), .bool (okTR xs [i] s)]) ∧ Below w.heap.size w w' := by
  have HV := hid hv
  clear hv wf wfi
  go_enter Tryz.func14, Tryz.ntmps14
  have HB := hid (below_alloc (Below.refl _ w) (.cells #[v] 26))
  have A0 := hid (At.newAt w v 26 w.heap.size (by simp))
  go_wp2_with fail
  refine (rvIn_any _ xs s _ (HV.out.below HB.out) hl).mono ?_
  rintro e w' ⟨rfl, hb⟩
  replace HB := hid (below_to HB.out hb)
  replace A0 := hid (A0.out.below hb)
  clear hb
  cases hq : okRI xs s
  · have HO := hid (okTR_no1 (ws := [i]) hq)
    clear hq
    have ebox0 := A0.out.1
    go_wp2
    go_ret2
    exact ⟨ret_ib (ansTR_no HO.out).symm HO.out.symm, HB.out⟩
  · have HQ := hid hq
    obtain ⟨z, rfl, hg, hr, hz, hi⟩ := okRI_all hq
    have HG := hid hg
    have HZ := hid hz
    obtain ⟨h, hh, h9⟩ := rkN_some hg
    have HH := hid hh
    clear hq hg hr hz hi
    have ebox0 := A0.out.1
    go_wp2_with fail
    clear ebox0
    refine (rvRanks_any _ xs _ (HV.out.below HB.out) HG.out).mono ?_
    rintro e w' ⟨q, rfl, ho, hb⟩
    replace HB := hid (below_to HB.out hb)
    replace A0 := hid (A0.out.below hb)
    clear hb
    obtain ⟨qA, qc, rfl, -⟩ := ho.shape
    rw [rankL_length, hh]
    clear ho hh
    by_cases hin : 0 ≤ i ∧ i ≤ h
    · obtain ⟨x, rfl⟩ := Int.eq_ofNat_of_zero_le hin.1
      have HW : Hid (inW (rkN xs) [(x : Int)] = true) := hid (by rw [HH.out]; simp [inW]; omega)
      have HO := hid (okTR_yes HQ.out (by simp) HW.out)
      have H1 : Hid ((decide ((0 : Int) ≤ x) && decide ((x : Int) ≤ h)) = true) := hid (by simp; omega)
      have hbx := A0.out.1
      clear hin
      go_wp2_with (go_at_call 60; refine (l1In_any _ _ _ _).mono ?_; rw [H1.out]; rintro e w' ⟨rfl, rfl⟩)
      clear hbx
      have HB2 := hid (below_alloc HB.out (.cells #[.int .i64 x] 3))
      refine (rvWord_any _ _ xs [(x : Int)] z _ (HV.out.below HB2.out) (Blk.ints (xs := [(x : Int)]) (c := 1) (Blk.newAt _ 3 _ _ (by first | rfl | simp))) HG.out HZ.out HW.out (by simp)).mono ?_
      rintro e w3 ⟨rfl, hb3⟩
      have HB3 := hid (below_to HB2.out hb3)
      clear hb3
      go_wp2
      go_ret2
      exact ⟨ret_ib (ansTR_yes HO.out).symm HO.out.symm, HB3.out⟩
    · have HO := hid (okTR_no3 (xs := xs) (ws := [i]) (s := (z : Int)) (by rw [Bool.eq_false_iff]; intro hc; rw [HH.out] at hc; apply hin; simp [inW] at hc; omega))
      have H1 : Hid ((decide ((0 : Int) ≤ i) && decide (i ≤ h)) = false) := hid (by rw [Bool.eq_false_iff]; intro hc; apply hin; simpa using hc)
      clear hin
      go_wp2_with (go_at_call 60; refine (l1In_any _ _ _ _).mono ?_; rw [H1.out]; rintro e w' ⟨rfl, rfl⟩)
      go_ret2
      exact ⟨ret_ib (ansTR_no HO.out).symm HO.out.symm, HB.out⟩
set_option maxHeartbeats 3200000 in
theorem rvGyrate_any (v : Value) (xs : List Int) (s : Nat) (bk : Bool) (w : World) (hv : Ints w v xs) (hg : good xs = true) (hs : s < 2 ^ xs.length) :
    Calls Tryz.prog 71 #[.agg #[v], .int .i64 s, .bool bk] w fun r w' => r = .returned (.int .i64 ((if bk then gyB xs s else gyF xs s : Nat))) ∧ Below w.heap.size w w' := by
  have HV := hid hv
  have HG := hid hg
  have HZ := hid hs
  obtain ⟨h, hh, h9⟩ := rkN_some hg
  have HH := hid hh
  have HRl : Hid ((rankL xs).length = h + 1) := hid (by rw [rankL_length, hh])
  have HRg : Hid (∀ i, i < h + 1 → (rankL xs).getD i 0 = ((rkE (heightsL xs) xs.length i : Nat) : Int)) := hid fun i hi => rankL_get (by omega)
  have h10 := (good_length hg).2
  have HE10 : Hid (∀ i, rkE (heightsL xs) xs.length i < 1024) := hid fun i => lt1024 (rkE_lt _ (Nat.le_refl _) i) h10
  have HK10 : Hid (∀ p k, evK xs p k < 1024) := hid fun p k => lt1024 (evK_lt xs p k) h10
  have HT : Hid (∀ t p, t < 2 ^ xs.length → togW xs t (elL xs.length (evN xs p)) < 2 ^ xs.length) := hid fun t p ht => togW_lt ht (ev_in p)
  clear hv hg hs
  go_enter Tryz.func71, Tryz.ntmps71
  have HB := hid (below_alloc (Below.refl _ w) (.cells #[v] 26))
  have A0 := hid (At.newAt w v 26 w.heap.size (by simp))
  go_wp2_with fail
  refine (rvRanks_any _ xs _ (HV.out.below HB.out) HG.out).mono ?_
  rintro e w' ⟨q, rfl, ho, hb⟩
  replace HB := hid (below_to HB.out hb)
  replace A0 := hid (A0.out.below hb)
  clear hb
  have HI := hid ho.ints
  have HEv : Hid (∀ p, evK xs p (h + 1) = evN xs p) := hid fun p => by rw [evN, HH.out]
  obtain ⟨ls, hls⟩ : ∃ ls, rankL xs = ls := ⟨_, rfl⟩
  rw [hls] at HI HRl HRg
  obtain ⟨A, c, rfl, hA⟩ := HI.out
  have HA := hid hA
  rw [HRl.out]
  clear ho HI hA hls hh
  go_wp2
  go_loop [7, 8, 14] (fun e d i => ∃ k : Nat, k ≤ h + 1 ∧ i = .int .i64 k ∧ e = .int .i64 (evK xs 0 k : Nat) ∧ d = .int .i64 (evK xs 1 k : Nat)) (fun _ _ i => h + 1 - (intOf i).toNat)
  case atStart => exact ⟨0, Nat.zero_le _, rfl, rfl, rfl⟩
  case round =>
    obtain ⟨k, hk, rfl, rfl, rfl⟩ := hrel
    by_cases hlt : k < h + 1
    · obtain ⟨b, o, rfl, hbl, hc⟩ := HA.out (by intro hn; have := HRl.out; rw [hn] at this; simp at this)
      have hcell : w'.cell? ⟨b, o + k, none⟩ = some (.int .i64 (rkE (heightsL xs) xs.length k : Nat)) := by rw [hc k (by rw [HRl.out]; exact hlt), HRg.out k hlt]
      have e1 := HE10.out k
      have e2 := HK10.out 0 k
      have e3 := HK10.out 1 k
      have HY0 := hid (fun (q : k % 2 = 0) => evK_yes (xs := xs) q)
      have HY1 := hid (fun (q : k % 2 = 1) => evK_yes (xs := xs) q)
      have HN0 := hid (fun (q : ¬ k % 2 = 0) => evK_no (xs := xs) q)
      have HN1 := hid (fun (q : ¬ k % 2 = 1) => evK_no (xs := xs) q)
      obtain ⟨R, hR⟩ : ∃ R, rkE (heightsL xs) xs.length k = R := ⟨_, rfl⟩
      obtain ⟨E, hE⟩ : ∃ E, evK xs 0 k = E := ⟨_, rfl⟩
      obtain ⟨D, hD⟩ : ∃ D, evK xs 1 k = D := ⟨_, rfl⟩
      rw [hR] at hcell e1 HY0 HY1
      rw [hE] at e2 HY0 HN0 ⊢
      rw [hD] at e3 HY1 HN1 ⊢
      have ho1 := i64_or_nat E R (by omega) (by omega)
      have ho2 := i64_or_nat D R (by omega) (by omega)
      clear hc hR hE hD
      by_cases hp : k % 2 = 0
      · have hq : ((k : Int) % 2 == 0) = true := by rw [show (k : Int) % 2 = 0 by omega]; rfl
        have HP := hid hp
        clear hp
        go_wp2
        go_round
        case rel => exact ⟨k + 1, by omega, by go_num, by rw [HY0.out HP.out], by rw [HN1.out (by rw [HP.out]; decide)]⟩
        case measure => simp [intOf] <;> omega
      · have hq : ((k : Int) % 2 == 0) = false := by rw [beq_eq_false_iff_ne]; omega
        have HP : Hid (k % 2 = 1) := hid (by omega)
        clear hp
        go_wp2
        go_round
        case rel => exact ⟨k + 1, by omega, by go_num, by rw [HN0.out (by rw [HP.out]; decide)], by rw [HY1.out HP.out]⟩
        case measure => simp [intOf] <;> omega
    · obtain rfl : k = h + 1 := by omega
      rw [HEv.out 0, HEv.out 1]
      have e2 : evN xs 0 < 1024 := by rw [← HEv.out]; exact HK10.out 0 _
      have e3 : evN xs 1 < 1024 := by rw [← HEv.out]; exact HK10.out 1 _
      have hz0 := HZ.out
      have HFd : Hid (gyF xs s = togW xs (togW xs s (elL xs.length (evN xs 0))) (elL xs.length (evN xs 1))) := hid rfl
      have HBd : Hid (gyB xs s = togW xs (togW xs s (elL xs.length (evN xs 1))) (elL xs.length (evN xs 0))) := hid rfl
      have hz1 := HT.out s 0 hz0
      have hz2 := HT.out s 1 hz0
      have HV1 := hid (HV.out.below HB.out)
      have HS := hid (show SR w' w.heap.size v w' from ⟨A0.out, Below.refl _ _⟩)
      have hbx := A0.out.1
      cases bk
      · go_wp2_with fail
        go_region_held3 (fun W => W.cell? ⟨w.heap.size, 0, none⟩ = some v ∧ Hid (SR w' w.heap.size v W)) (first | exact ⟨HS2.out.at_.1, HS2⟩ | exact ⟨HS.out.drew.at_.1, hid HS.out.drew⟩) (first | (go_at_call 104; refine (rvAt_SR v xs w' w.heap.size _ _ _ HV1.out HG.out (Hid.out (by first | assumption | exact hid HS.out.drew)) (by assumption) (by assumption)).mono ?_; rintro e' w4 ⟨rfl, hs4⟩; have HS2 := hid hs4; clear hs4))
        have HB3 := hid (below_to HB.out HS2.out.below)
        clear hbx
        go_wp2
        go_ret
        exact ⟨ret_int (by rw [← HFd.out]), HB3.out⟩
      · go_wp2_with fail
        go_region_held3 (fun W => W.cell? ⟨w.heap.size, 0, none⟩ = some v ∧ Hid (SR w' w.heap.size v W)) (first | exact ⟨HS2.out.at_.1, HS2⟩ | exact ⟨HS.out.drew.at_.1, hid HS.out.drew⟩) (first | (go_at_call 104; refine (rvAt_SR v xs w' w.heap.size _ _ _ HV1.out HG.out (Hid.out (by first | assumption | exact hid HS.out.drew)) (by assumption) (by assumption)).mono ?_; rintro e' w4 ⟨rfl, hs4⟩; have HS2 := hid hs4; clear hs4))
        have HB3 := hid (below_to HB.out HS2.out.below)
        clear hbx
        go_wp2
        go_ret
        exact ⟨ret_int (by rw [← HBd.out]), HB3.out⟩
def ansGB (xs : List Int) (s : Int) : Int := if okRI xs s then (togW xs s.toNat (rkW (rankL xs) (wGyr (rkN xs - 1))).reverse : Int) else 0
theorem ansGB_no {xs : List Int} {s : Int} (h : okRI xs s = false) : ansGB xs s = 0 := by simp [ansGB, h]
theorem ansGB_yes {xs : List Int} {z h : Nat} (hk : okRI xs z = true) (hh : rkN xs = h + 1) : ansGB xs z = (togW xs z (rkW (rankL xs) (wGyr h)).reverse : Int) := by unfold ansGB; rw [if_pos hk, hh]; rfl
theorem specGyrateIdeal_any (v : Value) (xs : List Int) (s : Int) (w : World) (hv : Ints w v xs) (hl : xs.length ≤ 1048576) (wf : (Lit.int .i64 s).wf = true) :
    Calls Tryz.prog 23 #[.agg #[v], .int .i64 s] w fun r w' => r = .returned (.tuple #[.int .i64 (ansSW wGyr xs s), .bool (okRI xs s)]) ∧ Below w.heap.size w w' := by
  have HV := hid hv
  clear hv wf
  go_enter Tryz.func23, Tryz.ntmps23
  have HB := hid (below_alloc (Below.refl _ w) (.cells #[v] 26))
  have A0 := hid (At.newAt w v 26 w.heap.size (by simp))
  go_wp2_with fail
  refine (rvIn_any _ xs s _ (HV.out.below HB.out) hl).mono ?_
  rintro e w' ⟨rfl, hb⟩
  replace HB := hid (below_to HB.out hb)
  replace A0 := hid (A0.out.below hb)
  clear hb
  cases hq : okRI xs s
  · have HO := hid hq
    clear hq
    have ebox0 := A0.out.1
    go_wp2
    go_ret2
    exact ⟨ret_ib (ansSW_no HO.out).symm HO.out.symm, HB.out⟩
  · have HO := hid hq
    obtain ⟨z, rfl, hg, hr, hz, hi⟩ := okRI_all hq
    obtain ⟨h, hh, h9⟩ := rkN_some hg
    have HAn : Hid (ansSW wGyr xs z = ((gyF xs z : Nat) : Int)) := hid ((ansSW_yes (f := wGyr) hq hh).trans (by rw [gyF_word hg hr hh hi]))
    have HG := hid hg
    have HZ := hid hz
    clear hq hg hr hz hi hh
    have ebox0 := A0.out.1
    go_wp2_with fail
    clear ebox0
    refine (rvGyrate_any _ xs z false _ (HV.out.below HB.out) HG.out HZ.out).mono ?_
    rintro e w' ⟨rfl, hb⟩
    replace HB := hid (below_to HB.out hb)
    replace A0 := hid (A0.out.below hb)
    clear hb
    have ebox0 := A0.out.1
    go_wp2
    go_ret2
    exact ⟨ret_ib HAn.out.symm HO.out.symm, HB.out⟩
theorem specGyrateBack_any (v : Value) (xs : List Int) (s : Int) (w : World) (hv : Ints w v xs) (hl : xs.length ≤ 1048576) (wf : (Lit.int .i64 s).wf = true) :
    Calls Tryz.prog 25 #[.agg #[v], .int .i64 s] w fun r w' => r = .returned (.tuple #[.int .i64 (ansGB xs s), .bool (okRI xs s)]) ∧ Below w.heap.size w w' := by
  have HV := hid hv
  clear hv wf
  go_enter Tryz.func25, Tryz.ntmps25
  have HB := hid (below_alloc (Below.refl _ w) (.cells #[v] 26))
  have A0 := hid (At.newAt w v 26 w.heap.size (by simp))
  go_wp2_with fail
  refine (rvIn_any _ xs s _ (HV.out.below HB.out) hl).mono ?_
  rintro e w' ⟨rfl, hb⟩
  replace HB := hid (below_to HB.out hb)
  replace A0 := hid (A0.out.below hb)
  clear hb
  cases hq : okRI xs s
  · have HO := hid hq
    clear hq
    have ebox0 := A0.out.1
    go_wp2
    go_ret2
    exact ⟨ret_ib (ansGB_no HO.out).symm HO.out.symm, HB.out⟩
  · have HO := hid hq
    obtain ⟨z, rfl, hg, hr, hz, hi⟩ := okRI_all hq
    obtain ⟨h, hh, h9⟩ := rkN_some hg
    have HAn : Hid (ansGB xs z = ((gyB xs z : Nat) : Int)) := hid ((ansGB_yes hq hh).trans (by rw [gyB_word hg hr hh hi]))
    have HG := hid hg
    have HZ := hid hz
    clear hq hg hr hz hi hh
    have ebox0 := A0.out.1
    go_wp2_with fail
    clear ebox0
    refine (rvGyrate_any _ xs z true _ (HV.out.below HB.out) HG.out HZ.out).mono ?_
    rintro e w' ⟨rfl, hb⟩
    replace HB := hid (below_to HB.out hb)
    replace A0 := hid (A0.out.below hb)
    clear hb
    have ebox0 := A0.out.1
    go_wp2
    go_ret2
    exact ⟨ret_ib HAn.out.symm HO.out.symm, HB.out⟩
end Go.Proofs.YtdemikjaghegnaaGreat

/- slices.Reverse at lists of ints. -/
namespace Go.Proofs.YtdemikjaghegnaaGreat
open Go.RowKit Go.WideShapes Go.ChangeShapes
set_option linter.unusedVariables false

set_option maxHeartbeats 1600000 in
theorem reverseI_any (v : Value) (xs : List Int) (B : Nat) (w : World) (hv : OwnI 3 w B v xs) (hl : xs.length ≤ 1048576) :
    Calls Tryz.prog 129 #[v] w fun r w' => r = .returned (.tuple #[]) ∧ OwnI 3 w' B v xs.reverse ∧ w.grownBy w' v.ownBlock := by
  have HO := hid hv
  obtain ⟨A, c, rfl, hA⟩ := hv.shape
  have HA := hid hA
  clear hA hv
  go_enter Tryz.func129, Tryz.ntmps129
  go_wp2
  go_loopw [2, 3] (fun i j wr => ∃ (k : Nat) (x : Int), i = .int .i64 k ∧ j = .int .i64 x ∧ k ≤ xs.length ∧ x + k + 1 = xs.length ∧ wr.ownsRow B 3 1 (.slice A xs.length c) xs.length ((revK xs k).map (Value.int .i64)) ∧ w.grownBy wr (Value.slice A xs.length c).ownBlock) (fun i _ _ => xs.length - (intOf i).toNat)
  case atStart => exact ⟨0, (xs.length : Int) - 1, rfl, rfl, Nat.zero_le _, by omega, by rw [revK_zero]; exact HO.out, World.grownBy.refl _ _⟩
  case round =>
    obtain ⟨k, x, rfl, rfl, hk, hx, ho, hg⟩ := hrel
    by_cases hlt : (k : Int) < x
    · obtain ⟨m, rfl⟩ := Int.eq_ofNat_of_zero_le (show 0 ≤ x by omega)
      obtain ⟨g, rfl, hgl, hgB⟩ := HA.out (by intro h; simp [h] at hx; omega)
      have hm : xs.length - 1 - k = m := by omega
      obtain ⟨h1, h2⟩ := revK_mid xs k (by omega)
      have h3 := revK_step xs k (by omega)
      rw [hm] at h2 h3
      have hck : wr.cell? ⟨g, k, none⟩ = some (.int .i64 (xs.getD k 0)) := by
        rw [ho.cellAt k (by omega), List.getElem?_map, getD_eq (revK xs k) k (by rw [revK_length]; omega), h1]; rfl
      have hcm : wr.cell? ⟨g, m, none⟩ = some (.int .i64 (xs.getD m 0)) := by
        rw [ho.cellAt m (by omega), List.getElem?_map, getD_eq (revK xs k) m (by rw [revK_length]; omega), h2]; rfl
      have hfk := ho.frozenAt k
      have hfm := ho.frozenAt m
      obtain ⟨p, hp⟩ : ∃ p, xs.getD k 0 = p := ⟨_, rfl⟩
      obtain ⟨q, hq⟩ : ∃ q, xs.getD m 0 = q := ⟨_, rfl⟩
      rw [hp, hq] at h3
      rw [hp] at hck
      rw [hq] at hcm
      have H3 := hid h3
      have Ho := hid ho
      have Hg := hid hg
      have hm1 : m < xs.length := by omega
      have hk1 : k < xs.length := by omega
      have hkm : k < m := by omega
      have HX := hid hx
      clear hp hq h1 h2 h3 ho hg hm hx
      go_wp2_with fail
      go_region
      go_wp2
      go_roundw
      case rel => exact ⟨k + 1, (m : Int) - 1, by go_num, rfl, by omega, by have := HX.out; omega, (by rw [← H3.out, List.map_set, List.map_set]; exact ((Ho.out.stored k (.int .i64 q)).1.stored m (.int .i64 p)).1), grown_drew (grown_setCell (grown_setCell Hg.out k _) m _)⟩
      case measure => simp [intOf]; omega
    · have hr := hid (revK_full xs k (by omega))
      have Ho := hid ho
      have Hg := hid hg
      clear ho hg
      go_wp2
      go_end0
      refine ⟨rfl, ?_, Hg.out⟩
      unfold OwnI
      rw [List.length_reverse, ← hr.out]
      exact Ho.out
end Go.Proofs.YtdemikjaghegnaaGreat

/- Sweeps of ranks in the program: the lists, the closures, the words. (by genrvj.py) -/
namespace Go.Proofs.YtdemikjaghegnaaGreat
open Go.RowKit Go.WideShapes Go.ChangeShapes
set_option linter.unusedVariables false

theorem sweepInfo : (Tryz.prog.info? 82).map (·.size) = some 2 := by kernel_rfl

theorem rising1_any (a b : Nat) (w : World) (ha : a ≤ 10) (hb : b ≤ 9) :
    Calls Tryz.prog 117 #[.int .i64 a, .int .i64 b, .int .i64 1] w fun (r : Ending) w' => ∃ q, r = Ending.returned q ∧ OwnI 3 w' w.heap.size q (rnL a b) ∧ Below w.heap.size w w' := by
  have HF : Hid (∀ k, mapT (fun j => ((a + j : Nat) : Int)) (k + 1) = mapT (fun j => ((a + j : Nat) : Int)) k ++ [((a + k : Nat) : Int)]) := hid fun k => mapT_succ _ k
  have HL := hid (mapT_length (fun j => ((a + j : Nat) : Int)))
  have HE : Hid (∀ k, k = b + 1 - a → mapT (fun j => ((a + j : Nat) : Int)) k = rnL a b) := hid fun k hk => by subst hk; rfl
  have H0 : Hid (mapT (fun j => ((a + j : Nat) : Int)) 0 = []) := hid rfl
  obtain ⟨F, hF⟩ : ∃ F, mapT (fun j => ((a + j : Nat) : Int)) = F := ⟨_, rfl⟩
  rw [hF] at HF HL HE H0
  clear hF
  go_enter Tryz.func117, Tryz.ntmps117
  go_wp2
  go_loopw [7, 8] (fun q i wr => ∃ k x : Nat, x = a + k ∧ x ≤ 11 ∧ (x ≤ b ∨ k = b + 1 - a) ∧ i = .int .i64 x ∧ OwnI 3 wr w.heap.size q (F k) ∧ Below w.heap.size w wr) (fun _ i _ => b + 1 - (intOf i).toNat)
  case atStart => exact ⟨0, a, by omega, by omega, by omega, rfl, by rw [H0.out]; exact OwnI.nil _ _ _, Below.refl _ _⟩
  case round =>
    obtain ⟨k, x, hx, hx1, hd, rfl, ho, hb1⟩ := hrel
    have HO := hid ho
    have HB1 := hid hb1
    have hz := hb1.size
    by_cases hlt : x ≤ b
    · have hl48 : (F k).length < 1048576 := by rw [HL.out]; omega
      have HS : Hid (F (k + 1) = F k ++ [(x : Int)]) := hid (by rw [HF.out, hx])
      have HX := hid hx
      have HX2 : Hid (x + 1 ≤ b ∨ k + 1 = b + 1 - a) := hid (by omega)
      clear ho hb1 hx hd
      go_wp2_with (at_builtin; refine wpList_append_int rfl _ _ 24 3 rfl Tryz.underlying24 Tryz.info3 w.heap.size _ _ x rfl HO.out rfl rfl hl48 hz ?_; rintro q2 w6 ho6 hb6)
      go_roundw
      case rel => exact ⟨k + 1, x + 1, by have := HX.out; omega, by omega, HX2.out, by go_num, (by rw [HS.out]; exact ho6), HB1.out.trans hb6⟩
      case measure => simp [intOf]; omega
    · have HEq := hid (HE.out k (by omega))
      clear ho hb1 hx hd
      go_wp2
      go_ret
      exact ⟨_, rfl, by rw [← HEq.out]; exact HO.out, HB1.out⟩

theorem rising2_any (a b : Nat) (w : World) (ha : a ≤ 10) (hb : b ≤ 9) :
    Calls Tryz.prog 117 #[.int .i64 a, .int .i64 b, .int .i64 2] w fun (r : Ending) w' => ∃ q, r = Ending.returned q ∧ OwnI 3 w' w.heap.size q (rs2 a b) ∧ Below w.heap.size w w' := by
  have HF : Hid (∀ k, mapT (fun j => ((a + 2 * j : Nat) : Int)) (k + 1) = mapT (fun j => ((a + 2 * j : Nat) : Int)) k ++ [((a + 2 * k : Nat) : Int)]) := hid fun k => mapT_succ _ k
  have HL := hid (mapT_length (fun j => ((a + 2 * j : Nat) : Int)))
  have HE : Hid (∀ k, k = (b + 2 - a) / 2 → mapT (fun j => ((a + 2 * j : Nat) : Int)) k = rs2 a b) := hid fun k hk => by subst hk; rfl
  have H0 : Hid (mapT (fun j => ((a + 2 * j : Nat) : Int)) 0 = []) := hid rfl
  obtain ⟨F, hF⟩ : ∃ F, mapT (fun j => ((a + 2 * j : Nat) : Int)) = F := ⟨_, rfl⟩
  rw [hF] at HF HL HE H0
  clear hF
  go_enter Tryz.func117, Tryz.ntmps117
  go_wp2
  go_loopw [7, 8] (fun q i wr => ∃ k x : Nat, x = a + 2 * k ∧ x ≤ 11 ∧ (x ≤ b ∨ k = (b + 2 - a) / 2) ∧ i = .int .i64 x ∧ OwnI 3 wr w.heap.size q (F k) ∧ Below w.heap.size w wr) (fun _ i _ => b + 1 - (intOf i).toNat)
  case atStart => exact ⟨0, a, by omega, by omega, by omega, rfl, by rw [H0.out]; exact OwnI.nil _ _ _, Below.refl _ _⟩
  case round =>
    obtain ⟨k, x, hx, hx1, hd, rfl, ho, hb1⟩ := hrel
    have HO := hid ho
    have HB1 := hid hb1
    have hz := hb1.size
    by_cases hlt : x ≤ b
    · have hl48 : (F k).length < 1048576 := by rw [HL.out]; omega
      have HS : Hid (F (k + 1) = F k ++ [(x : Int)]) := hid (by rw [HF.out, hx])
      have HX := hid hx
      have HX2 : Hid (x + 2 ≤ b ∨ k + 1 = (b + 2 - a) / 2) := hid (by omega)
      clear ho hb1 hx hd
      go_wp2_with (at_builtin; refine wpList_append_int rfl _ _ 24 3 rfl Tryz.underlying24 Tryz.info3 w.heap.size _ _ x rfl HO.out rfl rfl hl48 hz ?_; rintro q2 w6 ho6 hb6)
      go_roundw
      case rel => exact ⟨k + 1, x + 2, by have := HX.out; omega, by omega, HX2.out, by go_num, (by rw [HS.out]; exact ho6), HB1.out.trans hb6⟩
      case measure => simp [intOf]; omega
    · have HEq := hid (HE.out k (by omega))
      clear ho hb1 hx hd
      go_wp2
      go_ret
      exact ⟨_, rfl, by rw [← HEq.out]; exact HO.out, HB1.out⟩

theorem falling_any (a b : Nat) (w : World) (ha : a ≤ 9) (hb : b ≤ 10) :
    Calls Tryz.prog 101 #[.int .i64 a, .int .i64 b] w fun (r : Ending) w' => ∃ q, r = Ending.returned q ∧ OwnI 3 w' w.heap.size q (fsL a b) ∧ Below w.heap.size w w' := by
  go_enter Tryz.func101, Tryz.ntmps101
  go_wp2_with fail
  refine (rising1_any b a _ hb ha).mono ?_
  rintro e w1 ⟨u, rfl, ho, hb⟩
  have HO := hid ho
  have HB := hid hb
  have HU := hid ho.blockLt
  obtain ⟨uA, un, uc, rfl⟩ := ho.shape3
  clear hb ho
  go_wp2_with fail
  refine (reverseI_any _ (rnL b a) _ _ HO.out (by rw [rnL_length]; omega)).mono ?_
  rintro e w2 ⟨rfl, ho, hg⟩
  have HO2 := hid ho
  have HG2 := hid hg
  clear ho hg
  go_wp2
  go_ret
  exact ⟨_, rfl, by rw [← rnL_rev]; exact HO2.out, below_grown HB.out HG2.out (fun k hk => (HU.out k hk).1)⟩

theorem cloRow_any (a h k : Nat) (w : World) (hA : At w a (.int .i64 h)) (h9 : h ≤ 9) (hk : k ≤ 9) :
    Calls Tryz.prog 100 #[.int .i64 k, .pointer (some ⟨a, 0, none⟩)] w fun (r : Ending) w' => ∃ q, r = Ending.returned q ∧ OwnI 3 w' w.heap.size q (fRow h k) ∧ Below w.heap.size w w' := by
  have hc := hA.1
  clear hA
  go_enter Tryz.func100, Tryz.ntmps100
  go_wp2_with fail
  clear hc
  refine (falling_any h 0 _ h9 (by omega)).mono ?_
  rintro e w1 ⟨u, rfl, ho, hb⟩
  have HO := hid ho
  have HB := hid hb
  clear ho hb
  go_wp2
  go_ret
  exact ⟨_, rfl, HO.out, HB.out⟩
theorem swRow_any (h : Nat) (w : World) (h9 : h ≤ 9) :
    Calls Tryz.prog 51 #[.int .i64 h] w fun (r : Ending) w' => ∃ a, r = Ending.returned (.agg #[.int .i64 (cRow h : Nat), (.func (.func 100) #[] #[.pointer (some ⟨a, 0, none⟩)])]) ∧ At w' a (.int .i64 h) ∧ Below w.heap.size w w' := by
  go_enter Tryz.func51, Tryz.ntmps51
  have HB := hid (below_alloc (Below.refl _ w) (.cells #[(.int .i64 h)] 3))
  have A0 := hid (At.newAt w (.int .i64 h) 3 w.heap.size (by simp))
  have HR1 := hid (Blk.newAt (w.alloc (.cells #[.int .i64 h] 3)) 82 #[.int .i64 1, (.func (.func 100) #[] #[.pointer (some ⟨w.heap.size, 0, none⟩)])] (w.heap.size + 1) (by simp))
  have HA1 := hid (A0.out.alloc (.cells #[.int .i64 1, (.func (.func 100) #[] #[.pointer (some ⟨w.heap.size, 0, none⟩)])] 82))
  have HB1 := hid (below_alloc HB.out (.cells #[.int .i64 1, (.func (.func 100) #[] #[.pointer (some ⟨w.heap.size, 0, none⟩)])] 82))
  go_wp2
  exact bodyPost_ret (results_cell_row rfl _ _ (w.heap.size + 1) 82 #[.int .i64 1, (.func (.func 100) #[] #[.pointer (some ⟨w.heap.size, 0, none⟩)])] (0, 0) _ rfl HR1.out Tryz.underlying82 rfl sweepInfo) rfl ⟨w.heap.size, rfl, HA1.out, HB1.out⟩
set_option maxHeartbeats 800000 in
theorem wordRow_any (a h : Nat) (w : World) (hA : At w a (.int .i64 h)) (h9 : h ≤ 9) :
    Calls Tryz.prog 84 #[.agg #[.int .i64 (cRow h : Nat), (.func (.func 100) #[] #[.pointer (some ⟨a, 0, none⟩)])]] w fun (r : Ending) w' => ∃ q, r = Ending.returned q ∧ OwnI 3 w' w.heap.size q (wRow h) ∧ Below w.heap.size w w' := by
  have HA := hid hA
  have HEnd : Hid (wRow h = swL (fRow h) (cRow h)) := hid rfl
  have HLn := hid (fun k (hk : k ≤ 10) => sw_length (fRow h) (n := k) (fun k => fRow_length k h9) hk)
  have HFl := hid (fun k => fRow_length (h := h) k h9)
  have HSw := hid (swL_succ (fRow h))
  have HS0 := hid (swL_zero (fRow h))
  have hc10 : cRow h ≤ 10 := by unfold cRow; omega
  have HCl := hid (fun k W (hk : k < cRow h) (hW : At W a (.int .i64 h)) => cloRow_any a h k W hW h9 (by unfold cRow at hk; omega))
  obtain ⟨n, hn⟩ : ∃ n, cRow h = n := ⟨_, rfl⟩
  obtain ⟨F, hF⟩ : ∃ F, fRow h = F := ⟨_, rfl⟩
  rw [hn, hF] at HEnd
  rw [hF] at HLn HFl HSw HS0
  rw [hn] at hc10 ⊢
  rw [hn] at HCl
  have HF := hid hF
  rw [hF] at HCl
  clear hA hn hF
  go_enter Tryz.func84, Tryz.ntmps84
  have hbx := (Blk.new w 82 #[.int .i64 n, (.func (.func 100) #[] #[.pointer (some ⟨a, 0, none⟩)])]).cell 0
  go_wp2
  clear hbx
  go_loopw [3, 7] (fun q i wr => ∃ k : Nat, k ≤ n ∧ i = .int .i64 k ∧ OwnI 3 wr (w.heap.size + 1) q (swL F k) ∧ Below (w.heap.size + 1) (w.alloc (.cells #[.int .i64 n, (.func (.func 100) #[] #[.pointer (some ⟨a, 0, none⟩)])] 82)) wr) (fun _ i _ => n - (intOf i).toNat)
  case atStart => exact ⟨0, Nat.zero_le _, rfl, by rw [HS0.out]; exact OwnI.nil _ _ _, Below.refl _ _⟩
  case round =>
    obtain ⟨k, hk, rfl, ho, hb⟩ := hrel
    have HO := hid ho
    have HB1 := hid hb
    by_cases hlt : k < n
    · have hz1 : w.heap.size + 1 ≤ wr.heap.size := by have := hb.size; simpa using this
      have hb1 : wr.cell? ⟨w.heap.size, 1, none⟩ = some (.func (.func 100) #[] #[.pointer (some ⟨a, 0, none⟩)]) := by rw [box_cell hb 1]; rfl
      have HA1 := hid (HA.out.below (below_box hb))
      have hl1 := HLn.out k (by omega)
      have hl2 := HFl.out k
      clear ho hb
      go_wp2_with fail
      clear hb1
      refine (HCl.out k _ hlt HA1.out).mono ?_
      rintro e w2 ⟨u, rfl, ho2, hb2⟩
      have HU := hid ho2.ints
      have HO2 := hid (HO.out.below hb2)
      have HB2 := hid (HB1.out.trans (hb2.mono hz1))
      have hz2 : w.heap.size + 1 ≤ w2.heap.size := by have := hb2.size; omega
      obtain ⟨uA, un, uc, rfl⟩ := ho2.shape3
      have hl3 : (swL F k).length + (F k).length ≤ 1048576 := by omega
      clear ho2 hb2 hl1 hl2
      go_wp2_with (at_builtin; refine wpList_append_ints rfl _ _ 24 3 rfl Tryz.underlying24 Tryz.info3 (w.heap.size + 1) _ _ rfl HO2.out _ _ rfl HU.out hl3 hz2 ?_; intro q6 w6 ho6 hb6)
      go_roundw
      case rel => exact ⟨k + 1, by omega, by go_num, (by rw [HSw.out]; exact ho6), HB2.out.trans hb6⟩
      case measure => simp [intOf]; omega
    · obtain rfl : k = n := by omega
      clear ho hb
      go_wp2
      go_ret
      exact ⟨_, rfl, by rw [HEnd.out]; exact HO.out.mono (Nat.le_succ _), below_box HB1.out⟩

theorem cloVac_any (a h k : Nat) (w : World) (hA : At w a (.int .i64 h)) (h9 : h ≤ 9) (hk : k ≤ h) :
    Calls Tryz.prog 123 #[.int .i64 k, .pointer (some ⟨a, 0, none⟩)] w fun (r : Ending) w' => ∃ q, r = Ending.returned q ∧ OwnI 3 w' w.heap.size q (fVac h k) ∧ Below w.heap.size w w' := by
  have hc := hA.1
  clear hA
  go_enter Tryz.func123, Tryz.ntmps123
  go_wp2_with fail
  clear hc
  refine (falling_any h k _ h9 (by omega)).mono ?_
  rintro e w1 ⟨u, rfl, ho, hb⟩
  have HO := hid ho
  have HB := hid hb
  clear ho hb
  go_wp2
  go_ret
  exact ⟨_, rfl, HO.out, HB.out⟩
theorem swVac_any (h : Nat) (w : World) (h9 : h ≤ 9) :
    Calls Tryz.prog 79 #[.int .i64 h] w fun (r : Ending) w' => ∃ a, r = Ending.returned (.agg #[.int .i64 (cVac h : Nat), (.func (.func 123) #[] #[.pointer (some ⟨a, 0, none⟩)])]) ∧ At w' a (.int .i64 h) ∧ Below w.heap.size w w' := by
  go_enter Tryz.func79, Tryz.ntmps79
  have HB := hid (below_alloc (Below.refl _ w) (.cells #[(.int .i64 h)] 3))
  have A0 := hid (At.newAt w (.int .i64 h) 3 w.heap.size (by simp))
  have HR1 := hid (Blk.newAt (w.alloc (.cells #[.int .i64 h] 3)) 82 #[.int .i64 ((h : Int) + 1), (.func (.func 123) #[] #[.pointer (some ⟨w.heap.size, 0, none⟩)])] (w.heap.size + 1) (by simp))
  have HA1 := hid (A0.out.alloc (.cells #[.int .i64 ((h : Int) + 1), (.func (.func 123) #[] #[.pointer (some ⟨w.heap.size, 0, none⟩)])] 82))
  have HB1 := hid (below_alloc HB.out (.cells #[.int .i64 ((h : Int) + 1), (.func (.func 123) #[] #[.pointer (some ⟨w.heap.size, 0, none⟩)])] 82))
  go_wp2
  exact bodyPost_ret (results_cell_row rfl _ _ (w.heap.size + 1) 82 #[.int .i64 ((h : Int) + 1), (.func (.func 123) #[] #[.pointer (some ⟨w.heap.size, 0, none⟩)])] (0, 0) _ rfl HR1.out Tryz.underlying82 rfl sweepInfo) rfl ⟨w.heap.size, rfl, HA1.out, HB1.out⟩
set_option maxHeartbeats 800000 in
theorem wordVac_any (a h : Nat) (w : World) (hA : At w a (.int .i64 h)) (h9 : h ≤ 9) :
    Calls Tryz.prog 84 #[.agg #[.int .i64 (cVac h : Nat), (.func (.func 123) #[] #[.pointer (some ⟨a, 0, none⟩)])]] w fun (r : Ending) w' => ∃ q, r = Ending.returned q ∧ OwnI 3 w' w.heap.size q (wVac h) ∧ Below w.heap.size w w' := by
  have HA := hid hA
  have HEnd : Hid (wVac h = swL (fVac h) (cVac h)) := hid rfl
  have HLn := hid (fun k (hk : k ≤ 10) => sw_length (fVac h) (n := k) (fun k => fVac_length k h9) hk)
  have HFl := hid (fun k => fVac_length (h := h) k h9)
  have HSw := hid (swL_succ (fVac h))
  have HS0 := hid (swL_zero (fVac h))
  have hc10 : cVac h ≤ 10 := by unfold cVac; omega
  have HCl := hid (fun k W (hk : k < cVac h) (hW : At W a (.int .i64 h)) => cloVac_any a h k W hW h9 (by unfold cVac at hk; omega))
  obtain ⟨n, hn⟩ : ∃ n, cVac h = n := ⟨_, rfl⟩
  obtain ⟨F, hF⟩ : ∃ F, fVac h = F := ⟨_, rfl⟩
  rw [hn, hF] at HEnd
  rw [hF] at HLn HFl HSw HS0
  rw [hn] at hc10 ⊢
  rw [hn] at HCl
  have HF := hid hF
  rw [hF] at HCl
  clear hA hn hF
  go_enter Tryz.func84, Tryz.ntmps84
  have hbx := (Blk.new w 82 #[.int .i64 n, (.func (.func 123) #[] #[.pointer (some ⟨a, 0, none⟩)])]).cell 0
  go_wp2
  clear hbx
  go_loopw [3, 7] (fun q i wr => ∃ k : Nat, k ≤ n ∧ i = .int .i64 k ∧ OwnI 3 wr (w.heap.size + 1) q (swL F k) ∧ Below (w.heap.size + 1) (w.alloc (.cells #[.int .i64 n, (.func (.func 123) #[] #[.pointer (some ⟨a, 0, none⟩)])] 82)) wr) (fun _ i _ => n - (intOf i).toNat)
  case atStart => exact ⟨0, Nat.zero_le _, rfl, by rw [HS0.out]; exact OwnI.nil _ _ _, Below.refl _ _⟩
  case round =>
    obtain ⟨k, hk, rfl, ho, hb⟩ := hrel
    have HO := hid ho
    have HB1 := hid hb
    by_cases hlt : k < n
    · have hz1 : w.heap.size + 1 ≤ wr.heap.size := by have := hb.size; simpa using this
      have hb1 : wr.cell? ⟨w.heap.size, 1, none⟩ = some (.func (.func 123) #[] #[.pointer (some ⟨a, 0, none⟩)]) := by rw [box_cell hb 1]; rfl
      have HA1 := hid (HA.out.below (below_box hb))
      have hl1 := HLn.out k (by omega)
      have hl2 := HFl.out k
      clear ho hb
      go_wp2_with fail
      clear hb1
      refine (HCl.out k _ hlt HA1.out).mono ?_
      rintro e w2 ⟨u, rfl, ho2, hb2⟩
      have HU := hid ho2.ints
      have HO2 := hid (HO.out.below hb2)
      have HB2 := hid (HB1.out.trans (hb2.mono hz1))
      have hz2 : w.heap.size + 1 ≤ w2.heap.size := by have := hb2.size; omega
      obtain ⟨uA, un, uc, rfl⟩ := ho2.shape3
      have hl3 : (swL F k).length + (F k).length ≤ 1048576 := by omega
      clear ho2 hb2 hl1 hl2
      go_wp2_with (at_builtin; refine wpList_append_ints rfl _ _ 24 3 rfl Tryz.underlying24 Tryz.info3 (w.heap.size + 1) _ _ rfl HO2.out _ _ rfl HU.out hl3 hz2 ?_; intro q6 w6 ho6 hb6)
      go_roundw
      case rel => exact ⟨k + 1, by omega, by go_num, (by rw [HSw.out]; exact ho6), HB2.out.trans hb6⟩
      case measure => simp [intOf]; omega
    · obtain rfl : k = n := by omega
      clear ho hb
      go_wp2
      go_ret
      exact ⟨_, rfl, by rw [HEnd.out]; exact HO.out.mono (Nat.le_succ _), below_box HB1.out⟩

theorem cloDual_any (a h k : Nat) (w : World) (hA : At w a (.int .i64 h)) (h9 : h ≤ 9) (hk : k ≤ h) :
    Calls Tryz.prog 124 #[.int .i64 k, .pointer (some ⟨a, 0, none⟩)] w fun (r : Ending) w' => ∃ q, r = Ending.returned q ∧ OwnI 3 w' w.heap.size q (fDual h k) ∧ Below w.heap.size w w' := by
  have hc := hA.1
  have hs : ((h : Int) - (k : Int)) = ((h - k : Nat) : Int) := by omega
  clear hA
  go_enter Tryz.func124, Tryz.ntmps124
  go_wp2_with fail
  clear hc
  refine (rising1_any 0 (h - k) _ (by omega) (by omega)).mono ?_
  rintro e w1 ⟨u, rfl, ho, hb⟩
  have HO := hid ho
  have HB := hid hb
  clear ho hb hs
  go_wp2
  go_ret
  exact ⟨_, rfl, HO.out, HB.out⟩
theorem swDual_any (h : Nat) (w : World) (h9 : h ≤ 9) :
    Calls Tryz.prog 81 #[.int .i64 h] w fun (r : Ending) w' => ∃ a, r = Ending.returned (.agg #[.int .i64 (cDual h : Nat), (.func (.func 124) #[] #[.pointer (some ⟨a, 0, none⟩)])]) ∧ At w' a (.int .i64 h) ∧ Below w.heap.size w w' := by
  go_enter Tryz.func81, Tryz.ntmps81
  have HB := hid (below_alloc (Below.refl _ w) (.cells #[(.int .i64 h)] 3))
  have A0 := hid (At.newAt w (.int .i64 h) 3 w.heap.size (by simp))
  have HR1 := hid (Blk.newAt (w.alloc (.cells #[.int .i64 h] 3)) 82 #[.int .i64 ((h : Int) + 1), (.func (.func 124) #[] #[.pointer (some ⟨w.heap.size, 0, none⟩)])] (w.heap.size + 1) (by simp))
  have HA1 := hid (A0.out.alloc (.cells #[.int .i64 ((h : Int) + 1), (.func (.func 124) #[] #[.pointer (some ⟨w.heap.size, 0, none⟩)])] 82))
  have HB1 := hid (below_alloc HB.out (.cells #[.int .i64 ((h : Int) + 1), (.func (.func 124) #[] #[.pointer (some ⟨w.heap.size, 0, none⟩)])] 82))
  go_wp2
  exact bodyPost_ret (results_cell_row rfl _ _ (w.heap.size + 1) 82 #[.int .i64 ((h : Int) + 1), (.func (.func 124) #[] #[.pointer (some ⟨w.heap.size, 0, none⟩)])] (0, 0) _ rfl HR1.out Tryz.underlying82 rfl sweepInfo) rfl ⟨w.heap.size, rfl, HA1.out, HB1.out⟩
set_option maxHeartbeats 800000 in
theorem wordDual_any (a h : Nat) (w : World) (hA : At w a (.int .i64 h)) (h9 : h ≤ 9) :
    Calls Tryz.prog 84 #[.agg #[.int .i64 (cDual h : Nat), (.func (.func 124) #[] #[.pointer (some ⟨a, 0, none⟩)])]] w fun (r : Ending) w' => ∃ q, r = Ending.returned q ∧ OwnI 3 w' w.heap.size q (wDual h) ∧ Below w.heap.size w w' := by
  have HA := hid hA
  have HEnd : Hid (wDual h = swL (fDual h) (cDual h)) := hid rfl
  have HLn := hid (fun k (hk : k ≤ 10) => sw_length (fDual h) (n := k) (fun k => fDual_length k h9) hk)
  have HFl := hid (fun k => fDual_length (h := h) k h9)
  have HSw := hid (swL_succ (fDual h))
  have HS0 := hid (swL_zero (fDual h))
  have hc10 : cDual h ≤ 10 := by unfold cDual; omega
  have HCl := hid (fun k W (hk : k < cDual h) (hW : At W a (.int .i64 h)) => cloDual_any a h k W hW h9 (by unfold cDual at hk; omega))
  obtain ⟨n, hn⟩ : ∃ n, cDual h = n := ⟨_, rfl⟩
  obtain ⟨F, hF⟩ : ∃ F, fDual h = F := ⟨_, rfl⟩
  rw [hn, hF] at HEnd
  rw [hF] at HLn HFl HSw HS0
  rw [hn] at hc10 ⊢
  rw [hn] at HCl
  have HF := hid hF
  rw [hF] at HCl
  clear hA hn hF
  go_enter Tryz.func84, Tryz.ntmps84
  have hbx := (Blk.new w 82 #[.int .i64 n, (.func (.func 124) #[] #[.pointer (some ⟨a, 0, none⟩)])]).cell 0
  go_wp2
  clear hbx
  go_loopw [3, 7] (fun q i wr => ∃ k : Nat, k ≤ n ∧ i = .int .i64 k ∧ OwnI 3 wr (w.heap.size + 1) q (swL F k) ∧ Below (w.heap.size + 1) (w.alloc (.cells #[.int .i64 n, (.func (.func 124) #[] #[.pointer (some ⟨a, 0, none⟩)])] 82)) wr) (fun _ i _ => n - (intOf i).toNat)
  case atStart => exact ⟨0, Nat.zero_le _, rfl, by rw [HS0.out]; exact OwnI.nil _ _ _, Below.refl _ _⟩
  case round =>
    obtain ⟨k, hk, rfl, ho, hb⟩ := hrel
    have HO := hid ho
    have HB1 := hid hb
    by_cases hlt : k < n
    · have hz1 : w.heap.size + 1 ≤ wr.heap.size := by have := hb.size; simpa using this
      have hb1 : wr.cell? ⟨w.heap.size, 1, none⟩ = some (.func (.func 124) #[] #[.pointer (some ⟨a, 0, none⟩)]) := by rw [box_cell hb 1]; rfl
      have HA1 := hid (HA.out.below (below_box hb))
      have hl1 := HLn.out k (by omega)
      have hl2 := HFl.out k
      clear ho hb
      go_wp2_with fail
      clear hb1
      refine (HCl.out k _ hlt HA1.out).mono ?_
      rintro e w2 ⟨u, rfl, ho2, hb2⟩
      have HU := hid ho2.ints
      have HO2 := hid (HO.out.below hb2)
      have HB2 := hid (HB1.out.trans (hb2.mono hz1))
      have hz2 : w.heap.size + 1 ≤ w2.heap.size := by have := hb2.size; omega
      obtain ⟨uA, un, uc, rfl⟩ := ho2.shape3
      have hl3 : (swL F k).length + (F k).length ≤ 1048576 := by omega
      clear ho2 hb2 hl1 hl2
      go_wp2_with (at_builtin; refine wpList_append_ints rfl _ _ 24 3 rfl Tryz.underlying24 Tryz.info3 (w.heap.size + 1) _ _ rfl HO2.out _ _ rfl HU.out hl3 hz2 ?_; intro q6 w6 ho6 hb6)
      go_roundw
      case rel => exact ⟨k + 1, by omega, by go_num, (by rw [HSw.out]; exact ho6), HB2.out.trans hb6⟩
      case measure => simp [intOf]; omega
    · obtain rfl : k = n := by omega
      clear ho hb
      go_wp2
      go_ret
      exact ⟨_, rfl, by rw [HEnd.out]; exact HO.out.mono (Nat.le_succ _), below_box HB1.out⟩

theorem cloGyr_any (a h k : Nat) (w : World) (hA : At w a (.int .i64 h)) (h9 : h ≤ 9) (hk : k ≤ 1) :
    Calls Tryz.prog 116 #[.int .i64 k, .pointer (some ⟨a, 0, none⟩)] w fun (r : Ending) w' => ∃ q, r = Ending.returned q ∧ OwnI 3 w' w.heap.size q (fGyr h k) ∧ Below w.heap.size w w' := by
  have hc := hA.1
  clear hA
  go_enter Tryz.func116, Tryz.ntmps116
  go_wp2_with fail
  clear hc
  refine (rising2_any k h _ (by omega) h9).mono ?_
  rintro e w1 ⟨u, rfl, ho, hb⟩
  have HO := hid ho
  have HB := hid hb
  clear ho hb
  go_wp2
  go_ret
  exact ⟨_, rfl, HO.out, HB.out⟩
theorem swGyr_any (h : Nat) (w : World) (h9 : h ≤ 9) :
    Calls Tryz.prog 70 #[.int .i64 h] w fun (r : Ending) w' => ∃ a, r = Ending.returned (.agg #[.int .i64 (cGyr h : Nat), (.func (.func 116) #[] #[.pointer (some ⟨a, 0, none⟩)])]) ∧ At w' a (.int .i64 h) ∧ Below w.heap.size w w' := by
  go_enter Tryz.func70, Tryz.ntmps70
  have HB := hid (below_alloc (Below.refl _ w) (.cells #[(.int .i64 h)] 3))
  have A0 := hid (At.newAt w (.int .i64 h) 3 w.heap.size (by simp))
  have HR1 := hid (Blk.newAt (w.alloc (.cells #[.int .i64 h] 3)) 82 #[.int .i64 2, (.func (.func 116) #[] #[.pointer (some ⟨w.heap.size, 0, none⟩)])] (w.heap.size + 1) (by simp))
  have HA1 := hid (A0.out.alloc (.cells #[.int .i64 2, (.func (.func 116) #[] #[.pointer (some ⟨w.heap.size, 0, none⟩)])] 82))
  have HB1 := hid (below_alloc HB.out (.cells #[.int .i64 2, (.func (.func 116) #[] #[.pointer (some ⟨w.heap.size, 0, none⟩)])] 82))
  go_wp2
  exact bodyPost_ret (results_cell_row rfl _ _ (w.heap.size + 1) 82 #[.int .i64 2, (.func (.func 116) #[] #[.pointer (some ⟨w.heap.size, 0, none⟩)])] (0, 0) _ rfl HR1.out Tryz.underlying82 rfl sweepInfo) rfl ⟨w.heap.size, rfl, HA1.out, HB1.out⟩
set_option maxHeartbeats 800000 in
theorem wordGyr_any (a h : Nat) (w : World) (hA : At w a (.int .i64 h)) (h9 : h ≤ 9) :
    Calls Tryz.prog 84 #[.agg #[.int .i64 (cGyr h : Nat), (.func (.func 116) #[] #[.pointer (some ⟨a, 0, none⟩)])]] w fun (r : Ending) w' => ∃ q, r = Ending.returned q ∧ OwnI 3 w' w.heap.size q (wGyr h) ∧ Below w.heap.size w w' := by
  have HA := hid hA
  have HEnd : Hid (wGyr h = swL (fGyr h) (cGyr h)) := hid rfl
  have HLn := hid (fun k (hk : k ≤ 10) => sw_length (fGyr h) (n := k) (fun k => fGyr_length k h9) hk)
  have HFl := hid (fun k => fGyr_length (h := h) k h9)
  have HSw := hid (swL_succ (fGyr h))
  have HS0 := hid (swL_zero (fGyr h))
  have hc10 : cGyr h ≤ 10 := by unfold cGyr; omega
  have HCl := hid (fun k W (hk : k < cGyr h) (hW : At W a (.int .i64 h)) => cloGyr_any a h k W hW h9 (by unfold cGyr at hk; omega))
  obtain ⟨n, hn⟩ : ∃ n, cGyr h = n := ⟨_, rfl⟩
  obtain ⟨F, hF⟩ : ∃ F, fGyr h = F := ⟨_, rfl⟩
  rw [hn, hF] at HEnd
  rw [hF] at HLn HFl HSw HS0
  rw [hn] at hc10 ⊢
  rw [hn] at HCl
  have HF := hid hF
  rw [hF] at HCl
  clear hA hn hF
  go_enter Tryz.func84, Tryz.ntmps84
  have hbx := (Blk.new w 82 #[.int .i64 n, (.func (.func 116) #[] #[.pointer (some ⟨a, 0, none⟩)])]).cell 0
  go_wp2
  clear hbx
  go_loopw [3, 7] (fun q i wr => ∃ k : Nat, k ≤ n ∧ i = .int .i64 k ∧ OwnI 3 wr (w.heap.size + 1) q (swL F k) ∧ Below (w.heap.size + 1) (w.alloc (.cells #[.int .i64 n, (.func (.func 116) #[] #[.pointer (some ⟨a, 0, none⟩)])] 82)) wr) (fun _ i _ => n - (intOf i).toNat)
  case atStart => exact ⟨0, Nat.zero_le _, rfl, by rw [HS0.out]; exact OwnI.nil _ _ _, Below.refl _ _⟩
  case round =>
    obtain ⟨k, hk, rfl, ho, hb⟩ := hrel
    have HO := hid ho
    have HB1 := hid hb
    by_cases hlt : k < n
    · have hz1 : w.heap.size + 1 ≤ wr.heap.size := by have := hb.size; simpa using this
      have hb1 : wr.cell? ⟨w.heap.size, 1, none⟩ = some (.func (.func 116) #[] #[.pointer (some ⟨a, 0, none⟩)]) := by rw [box_cell hb 1]; rfl
      have HA1 := hid (HA.out.below (below_box hb))
      have hl1 := HLn.out k (by omega)
      have hl2 := HFl.out k
      clear ho hb
      go_wp2_with fail
      clear hb1
      refine (HCl.out k _ hlt HA1.out).mono ?_
      rintro e w2 ⟨u, rfl, ho2, hb2⟩
      have HU := hid ho2.ints
      have HO2 := hid (HO.out.below hb2)
      have HB2 := hid (HB1.out.trans (hb2.mono hz1))
      have hz2 : w.heap.size + 1 ≤ w2.heap.size := by have := hb2.size; omega
      obtain ⟨uA, un, uc, rfl⟩ := ho2.shape3
      have hl3 : (swL F k).length + (F k).length ≤ 1048576 := by omega
      clear ho2 hb2 hl1 hl2
      go_wp2_with (at_builtin; refine wpList_append_ints rfl _ _ 24 3 rfl Tryz.underlying24 Tryz.info3 (w.heap.size + 1) _ _ rfl HO2.out _ _ rfl HU.out hl3 hz2 ?_; intro q6 w6 ho6 hb6)
      go_roundw
      case rel => exact ⟨k + 1, by omega, by go_num, (by rw [HSw.out]; exact ho6), HB2.out.trans hb6⟩
      case measure => simp [intOf]; omega
    · obtain rfl : k = n := by omega
      clear ho hb
      go_wp2
      go_ret
      exact ⟨_, rfl, by rw [HEnd.out]; exact HO.out.mono (Nat.le_succ _), below_box HB1.out⟩
end Go.Proofs.YtdemikjaghegnaaGreat
