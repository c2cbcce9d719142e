/- StepCounts of the program. -/
import Derived.Test.YteaeeinfjhhhoabStC
import Derived.Test.YteaeeinfjhhhoabChK
import Derived.Test.YteaeeinfjhhhoabChCp
namespace Go.Proofs.Yteaeeinfjhhhoab
open Go.RowKit Go.WideShapes Go.ChangeShapes
set_option linter.unusedVariables false

set_option maxRecDepth 100000 in
set_option maxHeartbeats 3200000 in
theorem implStepCounts_any (v : Value) (xs : List Int) (w : World) (hv : Ints w v xs) (hl : xs.length ≤ 1048576) :
    Calls Try.prog 18 #[.agg #[v]] w fun (r : Ending) w' => ∃ u, r = Ending.returned (.tuple #[u, .bool (good xs)]) ∧ OwnI 3 w' w.heap.size u (ansSC xs) ∧ (ansSC xs).length ≤ 1048576 ∧ Below w.heap.size w w' := by
  have HV := hid hv
  have HL := hid (ansSC_length xs)
  cases hg : good xs
  · have HG := hid hg
    have HN := hid (ansSC_no hg)
    clear hg hv
    go_enter Try.func18, Try.ntmps18
    have HB := hid (below_alloc (Below.refl _ w) (.cells #[v] 28))
    have A0 := hid (At.newAt w v 28 w.heap.size (by simp))
    go_wp2_with fail
    refine (implIsPoset_any _ xs _ (HV.out.below HB.out) hl).mono ?_
    rw [HG.out]
    rintro e w' ⟨rfl, hb⟩
    replace HB := hid (below_to HB.out hb)
    replace A0 := hid (A0.out.below hb)
    clear hb
    have ebox0 := A0.out.1
    go_wp2
    go_ret2
    exact ⟨_, rfl, by rw [HN.out]; exact OwnI.nil _ _ _, HL.out, HB.out⟩
  have HG := hid hg
  have HY := hid (ansSC_yes hg)
  have hl10 := (good_length hg).2
  have hn1 : 1 ≤ (idN xs).length := idN_pos xs
  have hn2 := idN_le hg
  have HNx := hid (fun k i (hi : i < (idN xs).length) => cN_next (stp := prop xs) (prop_le xs) k hi)
  have HSm := hid (fun k i (hk : k ≤ 13) (hi : i < (idN xs).length) => cN_small hg (stp := prop xs) (fun s t h => by simp only [prop, stk, Bool.and_eq_true, beq_iff_eq] at h; exact h.2.1) hk hi)
  have HLa : Hid (∀ k, cN xs (prop xs) (k + 1) ((idN xs).length - 1) = stpN xs k) := hid (fun k => cN_last hg (prop xs) (k + 1))
  obtain ⟨A, c, rfl, -⟩ := hv
  obtain ⟨N, hN⟩ : ∃ N, xs.length = N := ⟨_, rfl⟩
  have HPo := hid (fun W hW => implIsPoset_any (.slice A xs.length c) xs W hW hl)
  have HCo := hid (fun a W hA hW => chainsProp_any (.slice A xs.length c) xs a W hA hW hg)
  rw [blCh_rows, c0_cN (prop xs)] at HCo
  rw [hN] at HV HY hl10 HPo HCo ⊢
  rw [hg] at HPo
  obtain ⟨n, hn⟩ : ∃ n, (idN xs).length = n := ⟨_, rfl⟩
  rw [hn] at HCo hn1 hn2 HNx HSm HLa
  obtain ⟨V, hV⟩ : ∃ V, Value.slice A N c = V := ⟨_, rfl⟩
  have HVv := hid hV
  rw [hV] at HV HPo HCo ⊢
  have hmk := run_make_row' (P := Try.prog) 22 3 (.int .i64 0) 8 Try.underlying22 Try.info3 rfl .i64 .i64 N (by omega) (by omega)
  have Hmk := hid hmk
  clear hg hn hN hV hmk
  go_enter Try.func18, Try.ntmps18
  have HB := hid (below_alloc (Below.refl _ w) (.cells #[V] 28))
  have A0 := hid (At.newAt w V 28 w.heap.size (by simp))
  go_wp2_with fail
  refine (HPo.out _ (HV.out.below HB.out)).mono ?_
  rintro e w' ⟨rfl, hb⟩
  replace HB := hid (below_to HB.out hb)
  replace A0 := hid (A0.out.below hb)
  clear hb
  have ebox0 := A0.out.1
  go_wp2_with fail
  clear ebox0
  with_reducible refine (HCo.out w.heap.size _ A0.out (HV.out.below HB.out)).mono ?_
  rintro e w1 ⟨P, vi, vb, rfl, hwP, hch, hb⟩
  have HCh := hid hch
  have hwP2 : w.heap.size ≤ P := Nat.le_trans HB.out.size hwP
  replace HB := hid (below_to HB.out hb)
  replace A0 := hid (A0.out.below hb)
  clear hch hb hwP
  have hbx := A0.out.1
  rw [← HVv.out] at hbx
  have hmk := Hmk.out
  go_wp2
  clear hmk hbx
  rw [Vals_made]
  obtain ⟨g, hgz⟩ : ∃ g, w1.heap.size = g := ⟨_, rfl⟩
  have HStart : Hid (Blk (w1.alloc (.cells (Vals (List.replicate N 0)) 3)) g 3 (Vals (mkL N fun i => if i < 0 then stpN xs i else 0))) := hid (by
    rw [show (mkL N fun i => if i < 0 then stpN xs i else 0) = List.replicate N 0 from mkL_zero N]
    exact Blk.newAt _ _ _ _ hgz.symm)
  have hwg : w.heap.size ≤ g := by rw [← hgz]; exact HB.out.size
  have HPg : Hid (P < g) := hid (by obtain ⟨vc, h1, -⟩ := HCh.out; have := h1.lt; omega)
  have HB0 := hid (below_alloc HB.out (.cells (Vals (List.replicate N 0)) 3))
  have HC0 := hid (ChJ.free (g := g) HCh.out (below_alloc (Below.refl _ w1) (.cells (Vals (List.replicate N 0)) 3)) (Nat.le_of_eq hgz) (by simp; omega))
  rw [hgz]
  clear hgz
  go_loopw [21] (fun i wr => ∃ k : Nat, k ≤ N ∧ i = .int .i64 k ∧ Blk wr g 3 (Vals (mkL N fun i => if i < k then stpN xs i else 0)) ∧ ChJ 75 wr P g vi vb (.func (.func 44) #[] #[]) (setsL (holdsIdeal xs) (2 ^ N)) (rowsSt (stI xs (prop xs)) n) (mkL n (cN xs (prop xs) k)) ∧ Below w.heap.size w wr) (fun i _ => N - (intOf i).toNat)
  case atStart => exact ⟨0, Nat.zero_le _, rfl, HStart.out, HC0.out, HB0.out⟩
  case round =>
    obtain ⟨k, hk, rfl, hblk, hch, hb⟩ := hrel
    have HK := hid hblk
    have HC := hid hch
    have HB1 := hid hb
    clear hblk hch hb
    by_cases hlt : k < N
    · have HPg1 := HPg.out
      go_wp2_with fail
      with_reducible refine (growI_any P g n vi vb _ (stI xs (prop xs)) (cN xs (prop xs) k) wr HC.out hn1 hn2 (fun i hi => by rw [HNx.out k i hi]; exact Nat.le_trans (HSm.out (k + 1) i (by omega) hi) (by decide))).mono ?_
      rintro e w2 ⟨rfl, hch, hb, hkp⟩
      have HC2 : Hid (ChJ 75 w2 P g vi vb (.func (.func 44) #[] #[]) (setsL (holdsIdeal xs) (2 ^ N)) (rowsSt (stI xs (prop xs)) n) (mkL n (cN xs (prop xs) (k + 1)))) := hid (by
        rw [← mkL_congr (fun i hi => HNx.out k i hi)]; exact hch)
      have HB2 := hid (HB1.out.trans (hb.mono hwP2))
      have HK2 : Hid (Blk w2 g 3 (Vals (mkL N fun i => if i < k then stpN xs i else 0))) := hid ((hkp.block g HK.out.lt (by omega)).trans HK.out)
      clear hch hb hkp
      go_wp2_with fail
      with_reducible refine (wholeI_any P g n vi vb _ _ _ (cN xs (prop xs) (k + 1)) w2 HC2.out hn1 hn2).mono ?_
      rw [HLa.out]
      rintro e w3 ⟨rfl, hb⟩
      have HC3 := hid (HC2.out.below hb)
      have HB3 := hid (below_to HB2.out hb)
      have HK3 := hid (HK2.out.below hb HK2.out.lt)
      have hcg : w3.cell? ⟨g, k, none⟩ = some (.int .i64 0) := by
        rw [HK3.out.cell, Vals_get (by rw [mkL_length]; exact hlt), mkL_getD hlt, if_neg (Nat.lt_irrefl k)]; rfl
      have hfz := HK3.out.frozen k
      obtain ⟨y, hy⟩ : ∃ y, stpN xs k = y := ⟨_, rfl⟩
      have HYk := hid hy
      rw [hy]
      clear hb hy
      go_wp2
      go_roundw
      case rel => exact ⟨k + 1, by omega, by go_num, (by
        rw [mkL_upd (g := fun r => if r < k then stpN xs r else 0) (h := fun r => if r < k + 1 then stpN xs r else 0) y hlt (fun r hr => by
          by_cases e : r = k
          · subst e; rw [if_pos (by omega), if_pos rfl, HYk.out]
          · rw [if_neg e]
            by_cases e2 : r < k
            · rw [if_pos (by omega), if_pos e2]
            · rw [if_neg (by omega), if_neg e2]), ← Vals_set]
        exact HK3.out.set_ k (.int .i64 ((y : Nat) : Int))), HC3.out.far (Nat.ne_of_lt HPg1) k _, HB3.out.setCell (p := ⟨g, k, none⟩) hwg _⟩
      case measure => simp [intOf]; omega
    · have hkN : k = N := by omega
      subst hkN
      have e : (mkL k fun i => if i < k then stpN xs i else 0) = mkL k (stpN xs) := mkL_congr fun i hi => by rw [if_pos hi]
      have HOw := hid (HK.out.own (xs := mkL k fun i => if i < k then stpN xs i else 0) (B := w.heap.size) hwg (by rw [mkL_length]; omega))
      rw [mkL_length, e] at HOw
      clear e
      go_wp2
      go_ret2
      exact ⟨_, rfl, (by rw [HY.out]; exact HOw.out), HL.out, HB1.out⟩
end Go.Proofs.Yteaeeinfjhhhoab
