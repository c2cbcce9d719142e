/- Lengths of orbits of promotion: the program. -/
import Derived.Test.YtnlehkjfidpdlabPrK
import Derived.Test.YtnlehkjfidpdlabAllI
import Derived.Test.YtnlehkjfidpdlabRowsL
import Derived.Test.YtnlehkjfidpdlabBval
namespace Go.Proofs.Ytnlehkjfidpdlab
open Go.RowKit Go.WideShapes Go.ChangeShapes
set_option linter.unusedVariables false

theorem sameL_yes {a b : List Int} (h : a = b) : sameL a b = true := by unfold sameL; exact decide_eq_true h
theorem sameL_not {a b : List Int} (h : a ≠ b) : sameL a b = false := by unfold sameL; exact decide_eq_false h
theorem lenP_unr {xs : List Int} (h1 : 1 ≤ xs.length) (hN : ends xs 0 ≤ 500) {r : Nat} (hr : r < ends xs 0) : lenP xs (unrL xs r) = perR xs r := by
  have hp := perR_range h1 hr
  exact leastB_eq (fun j a b => sameL_not (it_ne h1 hr a b)) (sameL_yes (it_per h1 hr)) hp.1 (by omega)
theorem okLin_unr {xs : List Int} (hg : good xs = true) {r : Nat} (hr : r < ends xs 0) : okLin xs (unrL xs r) = true := (okOrder_yes hg).trans (unr_lin hr).order
def seenP (xs : List Int) (k : Nat) : Nat → Bool := seenB (proR xs) (ends xs 0) (startsN (proR xs) (ends xs 0) (idsN (ends xs 0)) k)
def lensK (xs : List Int) (k : Nat) : List Int := (startsN (proR xs) (ends xs 0) (idsN (ends xs 0)) k).map fun s => ((perR xs s : Nat) : Int)
theorem lensK_full (xs : List Int) : lensK xs (ends xs 0) = lensP xs := by
  unfold lensK lensP starts; rw [idsN_length]
theorem lensK_length (xs : List Int) (k : Nat) : (lensK xs k).length ≤ k := by
  unfold lensK; rw [List.length_map]; exact startsN_length _ _ _ _
theorem seenP_yes {xs : List Int} {k : Nat} (hk : k < ends xs 0) (h : seenP xs k k = true) : seenP xs (k + 1) = seenP xs k ∧ lensK xs (k + 1) = lensK xs k := by
  have e := startsN_yes (f := proR xs) (N := ends xs 0) (ids := idsN (ends xs 0)) (k := k) (by rw [idsN_get hk]; exact h)
  unfold seenP lensK; rw [e]; exact ⟨rfl, rfl⟩
theorem seenP_no {xs : List Int} {k : Nat} (hk : k < ends xs 0) (h : seenP xs k k = false) : (∀ t, seenP xs (k + 1) t = (seenP xs k t || (orbT (proR xs) k (perR xs k)).contains t)) ∧ lensK xs (k + 1) = lensK xs k ++ [((perR xs k : Nat) : Int)] := by
  have e := startsN_no (f := proR xs) (N := ends xs 0) (ids := idsN (ends xs 0)) (k := k) (by rw [idsN_get hk]; exact h)
  rw [idsN_get hk] at e
  unfold seenP lensK
  rw [e]
  exact ⟨fun t => seenB_snoc _ _ _ _ _, by rw [List.map_append]; rfl⟩
theorem Below.of_lt {B : Nat} {a w : World} (h : Below B a w) {B' : Nat} (hB : B' ≤ B) : Below B' a w := h.mono hB
set_option maxHeartbeats 3200000 in
theorem promotionLengths_any (v q : Value) (xs : List Int) (w : World) (hv : Ints w v xs) (hg : good xs = true) (hC : ends xs 0 ≤ 500) (hq : IntsSS w q (allLn xs)) :
    Calls Try.prog 155 #[.agg #[v], q] w fun (r : Ending) w' => ∃ u, r = Ending.returned u ∧ OwnI 3 w' w.heap.size u (lensP xs) ∧ Below w.heap.size w w' := by
  have HV := hid hv
  have HG := hid hg
  have HQ := hid hq
  have hl1 := (good_length hg).1
  have hl10 := (good_length hg).2
  have hlen : (allLn xs).length = ends xs 0 := rowsN_length _ _
  obtain ⟨qA, qc, rfl, -⟩ := hq
  rw [hlen] at HQ ⊢
  obtain ⟨N, hN⟩ : ∃ N, ends xs 0 = N := ⟨_, rfl⟩
  have HNe := hid hN
  rw [hN] at HQ hC ⊢
  have HLen := hid (hlen.trans hN)
  have HPR := hid (fun r (hr : r < N) => perR_range (xs := xs) hl1 (r := r) (by rw [hN]; exact hr))
  rw [hN] at HPR
  have hmk := run_make_row' (P := Try.prog) 109 4 (.bool false) 1 Try.underlying109 infoBool rfl .i64 .i64 N (by omega) (by omega)
  clear hv hg hlen hN
  go_enter Try.func155, Try.ntmps155
  have HB := hid (below_alloc (Below.refl _ w) (.cells #[v] 35))
  have A0 := hid (At.newAt w v 35 w.heap.size (by simp))
  go_wp2_with fail
  refine (endingsOf_any _ xs _ (HV.out.below HB.out) HG.out).mono ?_
  rintro e w' ⟨g, rfl, hT, hgw, hb⟩
  replace HB := hid (below_to HB.out hb)
  replace A0 := hid (A0.out.below hb)
  clear hb
  have HT := hid hT
  have hgz : g < w'.heap.size := hT.lt
  clear hT
  go_wp2
  clear hmk
  rw [BVals_made]
  obtain ⟨S, hS⟩ : ∃ S, w'.heap.size = S := ⟨_, rfl⟩
  have HS := hid hS
  have HS0 : Hid (Blk (w'.alloc (.cells (BVals (List.replicate N false)) 4)) S 4 (BVals (marksB (seenP xs 0) N))) := hid (by
    have e : marksB (seenP xs 0) N = List.replicate N false := by rw [← marksB_none]; exact marksB_congr fun t _ => rfl
    rw [e]; exact Blk.newAt _ _ _ _ hS.symm)
  have HB0 : Hid (Below w'.heap.size w' (w'.alloc (.cells (BVals (List.replicate N false)) 4))) := hid (below_alloc (Below.refl _ _) _)
  obtain ⟨W0, hW0⟩ : ∃ W0, w'.alloc (.cells (BVals (List.replicate N false)) 4) = W0 := ⟨_, rfl⟩
  rw [hW0] at HS0 HB0 ⊢
  rw [hS]
  rw [hS] at hgz
  clear hW0 hS
  go_loopw [7, 21] (fun l i wr => ∃ k : Nat, k ≤ N ∧ i = .int .i64 k ∧ Blk wr S 4 (BVals (marksB (seenP xs k) N)) ∧ OwnI 3 wr (S + 1) l (lensK xs k) ∧ Below w'.heap.size w' wr) (fun _ i _ => N - (intOf i).toNat)
  case atStart => exact ⟨0, Nat.zero_le _, rfl, HS0.out, OwnI.nil _ _ _, HB0.out⟩
  case round =>
    obtain ⟨k, hk, rfl, hB, ho, hb⟩ := hrel
    have HBk := hid hB
    have HOw := hid ho
    have Hb := hid hb
    have hSlt := hB.lt
    obtain ⟨lA, ln, lc, rfl⟩ := ho.shape3
    clear hB ho hb
    by_cases hlt : k < N
    · have hkx : k < ends xs 0 := by rw [HNe.out]; exact hlt
      obtain ⟨b, o', c', u, hsh, hbl, hc, hi⟩ := rows_cell HQ.out (k := k) (by rw [HLen.out]; exact hlt)
      unfold allLn at hi
      rw [rowsN_getD _ (show k < cntL xs from hkx)] at hi
      injection hsh with hsA hsB hsC
      subst hsA
      subst hsC
      clear hsB
      have hcell := ((HB.out.trans (Hb.out.mono HB.out.size)).cell (p := ⟨b, o' + k, none⟩) hbl).trans hc
      have HIk := hid (hi.below (HB.out.trans (Hb.out.mono HB.out.size)))
      obtain ⟨uA, un, uc, rfl⟩ : ∃ uA un uc, u = .slice uA un uc := by obtain ⟨A, c, e, -⟩ := hi; exact ⟨_, _, _, e⟩
      have hsk : wr.cell? ⟨S, k, none⟩ = some (.bool (seenP xs k k)) := by
        rw [HBk.out.cell, BVals_get (by rw [marksB_length]; exact hlt), marksB_get _ hlt]
      have Hkx := hid hkx
      clear hc hi hkx
      cases hs : seenP xs k k
      · have HNo := hid (seenP_no Hkx.out hs)
        rw [hs] at hsk
        have hP := HPR.out k hlt
        have HLP := hid (lenP_unr hl1 (by rw [HNe.out]; exact hC) Hkx.out)
        have HOL := hid (okLin_unr HG.out Hkx.out)
        have hbx := (A0.out.below Hb.out).1
        have hul : (unrL xs k).length ≤ 1048576 := by rw [unrL_length]; omega
        have HIt := hid (fun j => it_unr hl1 Hkx.out j)
        obtain ⟨P, hPe⟩ : ∃ P, perR xs k = P := ⟨_, rfl⟩
        rw [hPe] at hP HNo HLP
        have HPO : Hid (okPO xs (unrL xs k) = true) := hid (okPO_yes HOL.out (by rw [HLP.out]; omega))
        have HPA : Hid (ansPO xs (unrL xs k) = rowsN (itP xs (unrL xs k)) P) := hid (by rw [ansPO_yes HPO.out, HLP.out])
        clear hs hPe
        go_wp2_with fail
        clear hbx hsk hcell
        refine (implPromotionOrbit_any _ xs _ (unrL xs k) _ ((HV.out.below HB.out).below Hb.out) (by omega) HIk.out hul).mono ?_
        rw [HPO.out, HPA.out]
        rintro e w2 ⟨q2, rfl, ho2, -, hb2⟩
        obtain ⟨q2A, q2c, rfl, -⟩ := ho2.rows
        have hql : (rowsN (itP xs (unrL xs k)) P).length = P := rowsN_length _ _
        have HQ2 := hid ho2
        have HB2 := hid (HBk.out.below hb2 HBk.out.lt)
        have HO2 := hid (HOw.out.below hb2)
        have HOB2 := hid HO2.out.blockLt
        have Hb2 := hid (below_to Hb.out hb2)
        have hz2 := hb2.size
        rw [hql] at HQ2 ⊢
        clear ho2 hb2 hql
        go_wp2
        go_loopw [38] (fun i wi => ∃ j : Nat, j ≤ P ∧ i = .int .i64 j ∧ Blk wi S 4 (BVals (marksB (fun t => seenP xs k t || (orbT (proR xs) k j).contains t) N)) ∧ TurnedIn S (S + 1) w2 wi) (fun i _ => P - (intOf i).toNat)
        case atStart => exact ⟨0, Nat.zero_le _, rfl, (by rw [marksB_congr (h := seenP xs k) (fun t _ => by simp [orbT])]; exact HB2.out), TurnedIn.refl _ _ _⟩
        case round =>
          obtain ⟨j, hj, rfl, hB3, ht⟩ := hrel
          obtain ⟨wi, rfl⟩ : ∃ x, x = wr := ⟨wr, rfl⟩
          have HB3 := hid hB3
          have HTu := hid ht
          have HbW : Hid (Below w'.heap.size w' wi) := hid (below_turned Hb2.out ht (by have := HS.out; omega))
          have HRows := hid (HQ2.out.turned ht (.inr (by omega)))
          clear hB3 ht
          by_cases hjP : j < P
          · obtain ⟨b3, o3, c3, u3, hsh3, hbl3, hc3, hi3⟩ := rows_cell HRows.out.ints (k := j) (by rw [rowsN_length]; exact hjP)
            rw [rowsN_getD _ hjP] at hi3
            injection hsh3 with hsA hsB hsC
            subst hsA
            subst hsC
            clear hsB
            obtain ⟨hIt1, hIt2⟩ := HIt.out j
            rw [show itP xs (unrL xs k) j = unrL xs (iter (proR xs) j k) from hIt1] at hi3
            obtain ⟨t, ht⟩ : ∃ t, iter (proR xs) j k = t := ⟨_, rfl⟩
            rw [ht] at hi3 hIt2
            have HCs := hid (fun x => orbT_contains_succ (proR xs) k j x)
            rw [ht] at HCs
            have HRank := hid (rank_unr hIt2)
            have HLt := hid (unrL_Lw (xs := xs) (r := t) hIt2)
            have htN : t < N := by rw [← HNe.out]; exact hIt2
            have HI3 := hid hi3
            have HTab := hid (HT.out.below HbW.out (by have := HS.out; omega))
            have hbx3 := (A0.out.below HbW.out).1
            obtain ⟨u3A, u3n, u3c, rfl⟩ : ∃ uA un uc, u3 = .slice uA un uc := by obtain ⟨A, c, e, -⟩ := hi3; exact ⟨_, _, _, e⟩
            clear hi3 hIt1 hIt2 ht
            go_wp2_with fail
            clear hc3 hbx3
            refine (rankOf_any g _ _ xs (unrL xs t) _ ((HV.out.below HB.out).below HbW.out) HI3.out HTab.out HG.out HLt.out).mono ?_
            rw [HRank.out]
            rintro e w4 ⟨rfl, hb4⟩
            have HB4 := hid (HB3.out.below hb4 HB3.out.lt)
            have HT4 := hid (HTu.out.trans (TurnedIn.of_below hb4))
            have hct : w4.cell? ⟨S, t, none⟩ = some (.bool ((fun x => seenP xs k x || (orbT (proR xs) k j).contains x) t)) := by
              rw [HB4.out.cell, BVals_get (by rw [marksB_length]; exact htN), marksB_get _ htN]
            have hft := HB4.out.frozen t
            have hti : (t : Int) < (N : Int) := by omega
            obtain ⟨z, hz⟩ : ∃ z, (fun x => seenP xs k x || (orbT (proR xs) k j).contains x) t = z := ⟨_, rfl⟩
            rw [hz] at hct
            clear hb4 hz
            go_wp2
            go_roundw
            case rel => exact ⟨j + 1, by omega, by go_num, (by rw [marksB_congr (h := fun x => (seenP xs k x || (orbT (proR xs) k j).contains x) || x == t) (fun x _ => by rw [HCs.out x, Bool.or_assoc]), ← marksB_set, ← BVals_set]; exact HB4.out.set_ t _), HT4.out.set_ ⟨S, t, none⟩ ⟨Nat.le_refl _, Nat.lt_succ_self _⟩ _⟩
            case measure => simp [intOf]; omega
          · obtain rfl : j = P := by omega
            have HO3 := hid (HO2.out.turned HTu.out HOB2.out (.inr (Nat.le_refl _)))
            have hwz : S + 1 ≤ wi.heap.size := HB3.out.lt
            have hll := lensK_length xs k
            go_wp2_with (at_builtin; refine wpList_append_int rfl _ _ 25 3 rfl Try.underlying25 Try.info3 (S + 1) _ (lensK xs k) (j : Int) rfl HO3.out rfl rfl (by omega) hwz ?_; rintro u5 w5 ho5 hb5)
            go_roundw
            case rel => exact ⟨k + 1, by omega, by go_num, (by rw [marksB_congr (fun t _ => HNo.out.1 t)]; exact HB3.out.below hb5 (by omega)), (by rw [HNo.out.2]; exact ho5), HbW.out.trans (hb5.mono (by have := HS.out; omega))⟩
            case measure => simp [intOf]; omega
      · have HYes := hid (seenP_yes Hkx.out hs)
        rw [hs] at hsk
        clear hs
        go_wp2
        go_roundw
        case rel => exact ⟨k + 1, by omega, by go_num, (by rw [HYes.out.1]; exact HBk.out), (by rw [HYes.out.2]; exact HOw.out), Hb.out⟩
        case measure => simp [intOf]; omega
    · obtain rfl : k = N := by omega
      have HRes : Hid (lensK xs k = lensP xs) := hid (by rw [← HNe.out]; exact lensK_full xs)
      go_wp2
      go_ret
      exact ⟨_, rfl, by rw [← HRes.out]; exact HOw.out.mono (by have := HS.out; have := HB.out.size; omega), below_to HB.out Hb.out⟩
end Go.Proofs.Ytnlehkjfidpdlab
