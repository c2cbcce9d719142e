/- Texts CycC, CycD, one behind the other. -/
import Derived.Test.YtpdoheagfjeefaaPkTogglesUndoProof01
import Derived.Test.YtpdoheagfjeefaaPkTogglesUndoProof02
import Derived.Test.YtpdoheagfjeefaaPkTogglesUndoProof05
import Derived.Test.YtpdoheagfjeefaaPkTogglesUndoProof07
import Derived.Test.YtpdoheagfjeefaaPkTogglesUndoProof10
/- Cycles of a word on the ideals. -/
namespace Go.Proofs.Ytpdoheagfjeefaa
open Go.RowKit Go.WideShapes Go.ChangeShapes
set_option linter.unusedVariables false

theorem setsL_bound {f : Nat → Bool} {N j : Nat} (hj : j < (setsL f N).length) : ∃ s : Nat, (setsL f N).getD j 0 = (s : Int) ∧ s < N ∧ f s = true := by
  have hj' : j < ((List.range N).filter f).length := by simpa [setsL] using hj
  have hmem2 := List.mem_filter.1 (List.getElem_mem hj')
  exact ⟨((List.range N).filter f)[j], by simp [setsL, List.getD, hj'], List.mem_range.1 hmem2.1, hmem2.2⟩
/-- the word's motion on sets -/
def wordF (xs ys : List Int) (s : Nat) : Nat := togW xs s ys

set_option maxHeartbeats 3200000 in
theorem tgCycles_any (v u : Value) (xs ys : List Int) (w : World) (hv : Ints w v xs) (hu : Ints w u ys) (hg : good xs = true) (hy : inW xs.length ys = true) (hm : ys.length ≤ 1048576) :
    Calls Try.prog 113 #[.agg #[v], u] w fun (r : Ending) w' => ∃ q, r = Ending.returned q ∧ OwnI 3 w' w.heap.size q (cyclesL (wordF xs ys) (2 ^ xs.length) (setsL (holdsIdeal xs) (2 ^ xs.length))) ∧ Below w.heap.size w w' := by
  have hl10 := (good_length hg).2
  have HV := hid hv
  have HUW := hid hu
  have HG := hid hg
  have HY := hid hy
  obtain ⟨A, c, rfl, -⟩ := hv
  obtain ⟨N, hN⟩ : ∃ N, 2 ^ xs.length = N := ⟨_, rfl⟩
  have hN2 := two_pow_le xs.length hl10
  rw [hN] at hN2
  obtain ⟨I, hI⟩ : ∃ I, setsL (holdsIdeal xs) N = I := ⟨_, rfl⟩
  have HAt := hid (fun j hj => setsL_bound (f := holdsIdeal xs) (N := N) (j := j) hj)
  have hIN := setsL_length (holdsIdeal xs) N
  rw [hI] at HAt hIN
  rw [hN, hI]
  have HI := hid (show setsL (holdsIdeal xs) (2 ^ xs.length) = I by rw [hN]; exact hI)
  have HN := hid hN
  have wp : wrap64 ((2 : Int) ^ xs.length) = (N : Int) := by rw [wrap_pow xs.length hl10, hN]
  have hmk := run_make_row' (P := Try.prog) 115 4 (.bool false) 1 Try.underlying115 infoBool rfl .i64 .i64 N (by omega) (by omega)
  clear hu hg hy hI
  go_enter Try.func113, Try.ntmps113
  go_wp2_with fail
  clear wp
  refine (poIdeals_any _ xs _ ((HV.out.alloc _).alloc _) HG.out).mono ?_
  rw [HI.out]
  rintro e w' ⟨iu, rfl, ho, hb⟩
  obtain ⟨g, hg⟩ : ∃ g, w.heap.size + 1 = g := ⟨_, rfl⟩
  have HB := hid (below_to (below_alloc (below_alloc (Below.refl _ w) _) _) hb)
  have HBox : Hid (At w' w.heap.size (.slice A xs.length c)) := hid (((At.new _ _ _).alloc _).below hb)
  have HSeen : Hid (Blk w' g 4 (BVals (List.replicate N false))) := hid (by
    subst hg
    rw [← BVals_made]
    exact (Blk.newAt _ 4 (madeCells #[.bool false] N) (w.heap.size + 1) (by simp)).below hb (by simp))
  obtain ⟨iA, iN, ic, rfl⟩ := ho.shape3
  have hiN : iN = I.length := by
    obtain ⟨_, _, h, _⟩ := ho.shape
    cases h; rfl
  subst hiN
  have HO := hid (ho.mono (B' := g + 1) (by simp; omega))
  have HOB : Hid (∀ k, (Value.slice iA I.length ic).ownBlock = some k → g + 1 ≤ k ∧ k < w'.heap.size) := hid (fun k hk => by
    have h1 := ho.blockLt k hk
    simp at h1
    omega)
  have hgw : g < w'.heap.size := HSeen.out.lt
  have hwg : w.heap.size < g := by omega
  have hbx := HBox.out.1
  rw [hg]
  clear hb ho hmk hg hN
  go_wp2
  clear hbx
  go_loopw [5, 18] (fun q i wr => ∃ (j : Nat) (oA : Option Addr) (on oc : Nat), j ≤ I.length ∧ i = .int .i64 j ∧ q = .slice oA on oc ∧ Blk wr g 4 (BVals (cycSt (wordF xs ys) N I j).1) ∧ OwnI 3 wr w'.heap.size (.slice oA on oc) (cycSt (wordF xs ys) N I j).2 ∧ TurnedIn g (g + 1) w' wr) (fun _ i _ => I.length - (intOf i).toNat)
  case atStart => exact ⟨0, none, 0, 0, Nat.zero_le _, rfl, rfl, HSeen.out, OwnI.nil _ _ _, TurnedIn.refl _ _ _⟩
  case round =>
    obtain ⟨j, oA, on, oc, hj, rfl, rfl, hB, hq, ht⟩ := hrel
    have HBk := hid hB
    have HQ := hid hq
    have HT := hid ht
    clear hB hq
    by_cases hlt : j < I.length
    · obtain ⟨s, hs, hsN, hIs⟩ := HAt.out j hlt
      have hoi := HO.out.turned ht HOB.out (.inr (Nat.le_refl _))
      have hcell : ∃ b, iA = some ⟨b, 0, none⟩ ∧ wr.cell? ⟨b, 0 + j, none⟩ = some (.int .i64 s) := by
        obtain ⟨A', c', h1, h2⟩ := hoi.shape
        obtain ⟨A2, c2, h3, h4⟩ := hoi.ints
        cases h1
        obtain ⟨b, h5, -, -⟩ := h2 (by intro h; simp [h] at hlt)
        cases h3
        obtain ⟨b2, o2, h6, -, h7⟩ := h4 (by intro h; simp [h] at hlt)
        have h8 : b2 = b ∧ o2 = 0 := by rw [h5] at h6; cases h6; exact ⟨rfl, rfl⟩
        obtain ⟨rfl, rfl⟩ := h8
        exact ⟨_, h5, by rw [h7 j hlt, hs]⟩
      obtain ⟨b, rfl, hcell⟩ := hcell
      rw [Nat.zero_add] at hcell
      have HS := hid hs
      obtain ⟨seen0, hs0⟩ : ∃ l, (cycSt (wordF xs ys) N I j).1 = l := ⟨_, rfl⟩
      obtain ⟨out0, ho0⟩ : ∃ l, (cycSt (wordF xs ys) N I j).2 = l := ⟨_, rfl⟩
      have hlen := cycSt_length (wordF xs ys) N I j
      rw [hs0] at HBk hlen
      rw [ho0] at HQ hlen
      obtain ⟨R, hR⟩ : ∃ R, cyc1 (wordF xs ys) seen0 s 0 = R := ⟨_, rfl⟩
      have HStep : Hid (cycSt (wordF xs ys) N I (j + 1) = (R.1, if 0 < R.2 then out0 ++ [(R.2 : Int)] else out0)) := hid (by
        simp only [cycSt, hs0, ho0, hs, Int.toNat_natCast, hR])
      have HLen := hid hlen.1
      have ho10 : out0.length ≤ 1024 := by omega
      have hc0 := cntF_le seen0
      have hc1 : 0 + cntF seen0 ≤ N := by rw [← hlen.1]; omega
      have HR := hid hR
      clear hs hs0 ho0 hR hoi ht hIs hlen hc0
      go_wp2
      clear hcell
      go_loopw [8, 9] (fun a i wi => ∃ (seen : List Bool) (t n : Nat), a = .int .i64 t ∧ i = .int .i64 n ∧ t < N ∧ Hid (seen.length = N) ∧ n + cntF seen ≤ N ∧ Hid (cyc1 (wordF xs ys) seen t n = R) ∧ Blk wi g 4 (BVals seen) ∧ Hid (OwnI 3 wi w'.heap.size (.slice oA on oc) out0) ∧ TurnedIn g (g + 1) w' wi) (fun _ i _ => N - (intOf i).toNat)
      case atStart => exact ⟨seen0, s, 0, rfl, rfl, hsN, HLen, hc1, HR, HBk.out, HQ, HT.out⟩
      case round =>
        obtain ⟨seen, t, n, rfl, rfl, htN, HSL, hcn, HC, hB, HOut, ht⟩ := hrel
        have hct : wr.cell? ⟨g, t, none⟩ = some (.bool (seen.getD t true)) := by
          rw [hB.cell, BVals_get (by rw [HSL.out]; exact htN)]
        have hft := hB.frozen t
        have HBk2 := hid hB
        have HT2 := hid ht
        clear hB ht
        cases hst : seen.getD t true
        · rw [hst] at hct
          have hcs := cntF_set (show t < seen.length by rw [HSL.out]; exact htN) hst
          have HGo := hid (cyc1_go (f := wordF xs ys) (n := n) (show t < seen.length by rw [HSL.out]; exact htN) hst)
          have hn1 : n < N := by omega
          have hcn2 : n + 1 + cntF (seen.set t true) ≤ N := by omega
          have HL2 : Hid ((seen.set t true).length = N) := hid (by rw [List.length_set]; exact HSL.out)
          have hbox := (HBox.out.turned HT2.out (.inl hwg)).1
          have hboxz := (HBox.out.turned HT2.out (.inl hwg)).2
          have hne : w.heap.size ≠ g := by omega
          have hf1 : wordF xs ys t < N := by rw [← HN.out]; exact togW_lt (by rw [HN.out]; exact htN) HY.out
          have HBk3 : Hid (Blk (wr.setCell ⟨g, t, none⟩ (.bool true)) g 4 (BVals (seen.set t true))) := hid (by rw [← BVals_set]; exact HBk2.out.set_ t _)
          have HT3 : Hid (TurnedIn g (g + 1) w' (wr.setCell ⟨g, t, none⟩ (.bool true))) := hid (HT2.out.set_ ⟨g, t, none⟩ ⟨Nat.le_refl _, Nat.lt_succ_self _⟩ _)
          have HOut3 : Hid (OwnI 3 (wr.setCell ⟨g, t, none⟩ (.bool true)) w'.heap.size (.slice oA on oc) out0) := hid (HOut.out.grown (grown_setCell (World.grownBy.refl _ _) t _) (HOut.out.apart (.inl hgw)))
          have HB3 := hid (below_turned HB.out HT3.out (Nat.le_of_lt hwg))
          have HTN : Hid (t < 2 ^ xs.length) := hid (by rw [HN.out]; exact htN)
          have hbox3 := (HBox.out.turned HT3.out (.inl hwg)).1
          clear hst hcs
          go_wp2_with fail
          clear hct hft hbox hboxz hbox3
          refine (tgWord_any _ _ xs ys t _ (HV.out.below HB3.out) (HUW.out.below HB3.out) HG.out HTN.out HY.out hm).mono ?_
          rintro e' w5 ⟨rfl, hb5⟩
          have HBk5 := hid (HBk3.out.below hb5 HBk3.out.lt)
          have HT5 := hid (HT3.out.trans (TurnedIn.of_below hb5))
          have HOut5 := hid (HOut3.out.below hb5)
          clear hb5
          go_wp2
          go_roundw
          case rel => exact ⟨seen.set t true, wordF xs ys t, n + 1, rfl, by go_num, hf1, HL2, hcn2, hid (by rw [← HGo.out]; exact HC.out), HBk5.out, HOut5, HT5.out⟩
          case measure => simp [intOf]; omega
        · rw [hst] at hct
          have HStop : Hid (R = (seen, n)) := hid (by rw [← HC.out]; exact cyc1_stop hst)
          have hnN : n ≤ N := by omega
          have HBel := hid (below_turned HB.out HT2.out (Nat.le_of_lt hwg))
          clear hst
          by_cases hn0 : 0 < n
          · have HSt2 : Hid (cycSt (wordF xs ys) N I (j + 1) = (seen, out0 ++ [(n : Int)])) := hid (by rw [HStep.out, HStop.out]; simp [hn0])
            have hwz : w'.heap.size ≤ wr.heap.size := HT2.out.size
            go_wp2_with (at_builtin; refine wpList_append_int rfl _ _ 24 3 rfl Try.underlying24 Try.info3 w'.heap.size _ _ n rfl HOut.out rfl rfl (by omega) (by omega) ?_; rintro q2 w6 ho6 hb6; obtain ⟨qA, qn, qc, rfl⟩ := ho6.shape3)
            go_roundw
            case rel => exact ⟨j + 1, qA, qn, qc, by omega, by go_num, rfl, (by rw [HSt2.out]; exact HBk2.out.below hb6 hgw), (by rw [HSt2.out]; exact ho6), HT2.out.belowB hb6 (Nat.le_refl _)⟩
            case measure => simp [intOf]; omega
          · have HSt2 : Hid (cycSt (wordF xs ys) N I (j + 1) = (seen, out0)) := hid (by rw [HStep.out, HStop.out]; simp [hn0])
            go_wp2
            go_roundw
            case rel => exact ⟨j + 1, oA, on, oc, by omega, by go_num, rfl, (by rw [HSt2.out]; exact HBk2.out), (by rw [HSt2.out]; exact HOut.out), HT2.out⟩
            case measure => simp [intOf]; omega
    · obtain rfl : j = I.length := by omega
      have HBel := hid (below_turned HB.out ht (Nat.le_of_lt hwg))
      have hww := HB.out.size
      clear ht
      go_wp2
      go_ret
      exact ⟨_, rfl, HQ.out.mono hww, HBel.out⟩

set_option maxHeartbeats 3200000 in
theorem cyclesOf_any (v u : Value) (xs ys : List Int) (w : World) (hv : Ints w v xs) (hu : Ints w u ys) (hg : good xs = true) (hy : inW xs.length ys = true) (hm : ys.length ≤ 1048576) :
    Calls Try.prog 112 #[.agg #[v], .iface 82 u] w fun (r : Ending) w' => ∃ q, r = Ending.returned q ∧ OwnI 3 w' w.heap.size q (cyclesL (wordF xs ys) (2 ^ xs.length) (setsL (holdsIdeal xs) (2 ^ xs.length))) ∧ Below w.heap.size w w' := by
  have hl10 := (good_length hg).2
  have HV := hid hv
  have HUW := hid hu
  have HG := hid hg
  have HY := hid hy
  obtain ⟨A, c, rfl, -⟩ := hv
  obtain ⟨N, hN⟩ : ∃ N, 2 ^ xs.length = N := ⟨_, rfl⟩
  have hN2 := two_pow_le xs.length hl10
  rw [hN] at hN2
  obtain ⟨I, hI⟩ : ∃ I, setsL (holdsIdeal xs) N = I := ⟨_, rfl⟩
  have HAt := hid (fun j hj => setsL_bound (f := holdsIdeal xs) (N := N) (j := j) hj)
  have hIN := setsL_length (holdsIdeal xs) N
  rw [hI] at HAt hIN
  rw [hN, hI]
  have HI := hid (show setsL (holdsIdeal xs) (2 ^ xs.length) = I by rw [hN]; exact hI)
  have HN := hid hN
  have hM : ((N - 1 : Nat) : Int) + 1 = (N : Int) := by omega
  have hmk := run_make_row' (P := Try.prog) 115 4 (.bool false) 1 Try.underlying115 infoBool rfl .i64 .i64 N (by omega) (by omega)
  clear hu hg hy hI
  go_enter Try.func112, Try.ntmps112
  go_wp2_with (go_at_call 144; refine (wholeSet_any xs.length hl10 _).mono ?_; rw [hN]; rintro e w2 ⟨rfl, rfl⟩)
  clear hM
  refine (setsI_any _ xs _ ((HV.out.alloc _).alloc _) HG.out).mono ?_
  rw [HI.out]
  rintro e w' ⟨iu, rfl, ho, hb⟩
  obtain ⟨g, hg⟩ : ∃ g, w.heap.size + 1 = g := ⟨_, rfl⟩
  have HB := hid (below_to (below_alloc (below_alloc (Below.refl _ w) _) _) hb)
  have HBox : Hid (At w' w.heap.size (.slice A xs.length c)) := hid (((At.new _ _ _).alloc _).below hb)
  have HSeen : Hid (Blk w' g 4 (BVals (List.replicate N false))) := hid (by
    subst hg
    rw [← BVals_made]
    exact (Blk.newAt _ 4 (madeCells #[.bool false] N) (w.heap.size + 1) (by simp)).below hb (by simp))
  obtain ⟨iA, iN, ic, rfl⟩ := ho.shape3
  have hiN : iN = I.length := by
    obtain ⟨_, _, h, _⟩ := ho.shape
    cases h; rfl
  subst hiN
  have HO := hid (ho.mono (B' := g + 1) (by simp; omega))
  have HOB : Hid (∀ k, (Value.slice iA I.length ic).ownBlock = some k → g + 1 ≤ k ∧ k < w'.heap.size) := hid (fun k hk => by
    have h1 := ho.blockLt k hk
    simp at h1
    omega)
  have hgw : g < w'.heap.size := HSeen.out.lt
  have hwg : w.heap.size < g := by omega
  have hbx := HBox.out.1
  rw [hg]
  clear hb ho hmk hg hN
  go_wp2
  clear hbx
  go_loopw [5, 20] (fun q i wr => ∃ (j : Nat) (oA : Option Addr) (on oc : Nat), j ≤ I.length ∧ i = .int .i64 j ∧ q = .slice oA on oc ∧ Blk wr g 4 (BVals (cycSt (wordF xs ys) N I j).1) ∧ OwnI 3 wr w'.heap.size (.slice oA on oc) (cycSt (wordF xs ys) N I j).2 ∧ TurnedIn g (g + 1) w' wr) (fun _ i _ => I.length - (intOf i).toNat)
  case atStart => exact ⟨0, none, 0, 0, Nat.zero_le _, rfl, rfl, HSeen.out, OwnI.nil _ _ _, TurnedIn.refl _ _ _⟩
  case round =>
    obtain ⟨j, oA, on, oc, hj, rfl, rfl, hB, hq, ht⟩ := hrel
    have HBk := hid hB
    have HQ := hid hq
    have HT := hid ht
    clear hB hq
    by_cases hlt : j < I.length
    · obtain ⟨s, hs, hsN, hIs⟩ := HAt.out j hlt
      have hoi := HO.out.turned ht HOB.out (.inr (Nat.le_refl _))
      have hcell : ∃ b, iA = some ⟨b, 0, none⟩ ∧ wr.cell? ⟨b, 0 + j, none⟩ = some (.int .i64 s) := by
        obtain ⟨A', c', h1, h2⟩ := hoi.shape
        obtain ⟨A2, c2, h3, h4⟩ := hoi.ints
        cases h1
        obtain ⟨b, h5, -, -⟩ := h2 (by intro h; simp [h] at hlt)
        cases h3
        obtain ⟨b2, o2, h6, -, h7⟩ := h4 (by intro h; simp [h] at hlt)
        have h8 : b2 = b ∧ o2 = 0 := by rw [h5] at h6; cases h6; exact ⟨rfl, rfl⟩
        obtain ⟨rfl, rfl⟩ := h8
        exact ⟨_, h5, by rw [h7 j hlt, hs]⟩
      obtain ⟨b, rfl, hcell⟩ := hcell
      rw [Nat.zero_add] at hcell
      have HS := hid hs
      obtain ⟨seen0, hs0⟩ : ∃ l, (cycSt (wordF xs ys) N I j).1 = l := ⟨_, rfl⟩
      obtain ⟨out0, ho0⟩ : ∃ l, (cycSt (wordF xs ys) N I j).2 = l := ⟨_, rfl⟩
      have hlen := cycSt_length (wordF xs ys) N I j
      rw [hs0] at HBk hlen
      rw [ho0] at HQ hlen
      obtain ⟨R, hR⟩ : ∃ R, cyc1 (wordF xs ys) seen0 s 0 = R := ⟨_, rfl⟩
      have HStep : Hid (cycSt (wordF xs ys) N I (j + 1) = (R.1, if 0 < R.2 then out0 ++ [(R.2 : Int)] else out0)) := hid (by
        simp only [cycSt, hs0, ho0, hs, Int.toNat_natCast, hR])
      have HLen := hid hlen.1
      have ho10 : out0.length ≤ 1024 := by omega
      have hc0 := cntF_le seen0
      have hc1 : 0 + cntF seen0 ≤ N := by rw [← hlen.1]; omega
      have HR := hid hR
      clear hs hs0 ho0 hR hoi ht hIs hlen hc0
      go_wp2
      clear hcell
      go_loopw [10, 9] (fun a i wi => ∃ (seen : List Bool) (t n : Nat), a = .int .i64 t ∧ i = .int .i64 n ∧ t < N ∧ Hid (seen.length = N) ∧ n + cntF seen ≤ N ∧ Hid (cyc1 (wordF xs ys) seen t n = R) ∧ Blk wi g 4 (BVals seen) ∧ Hid (OwnI 3 wi w'.heap.size (.slice oA on oc) out0) ∧ TurnedIn g (g + 1) w' wi) (fun _ i _ => N - (intOf i).toNat)
      case atStart => exact ⟨seen0, s, 0, rfl, rfl, hsN, HLen, hc1, HR, HBk.out, HQ, HT.out⟩
      case round =>
        obtain ⟨seen, t, n, rfl, rfl, htN, HSL, hcn, HC, hB, HOut, ht⟩ := hrel
        have hct : wr.cell? ⟨g, t, none⟩ = some (.bool (seen.getD t true)) := by
          rw [hB.cell, BVals_get (by rw [HSL.out]; exact htN)]
        have hft := hB.frozen t
        have HBk2 := hid hB
        have HT2 := hid ht
        clear hB ht
        cases hst : seen.getD t true
        · rw [hst] at hct
          have hcs := cntF_set (show t < seen.length by rw [HSL.out]; exact htN) hst
          have HGo := hid (cyc1_go (f := wordF xs ys) (n := n) (show t < seen.length by rw [HSL.out]; exact htN) hst)
          have hn1 : n < N := by omega
          have hcn2 : n + 1 + cntF (seen.set t true) ≤ N := by omega
          have HL2 : Hid ((seen.set t true).length = N) := hid (by rw [List.length_set]; exact HSL.out)
          have hbox := (HBox.out.turned HT2.out (.inl hwg)).1
          have hboxz := (HBox.out.turned HT2.out (.inl hwg)).2
          have hne : w.heap.size ≠ g := by omega
          have hf1 : wordF xs ys t < N := by rw [← HN.out]; exact togW_lt (by rw [HN.out]; exact htN) HY.out
          have HBk3 : Hid (Blk (wr.setCell ⟨g, t, none⟩ (.bool true)) g 4 (BVals (seen.set t true))) := hid (by rw [← BVals_set]; exact HBk2.out.set_ t _)
          have HT3 : Hid (TurnedIn g (g + 1) w' (wr.setCell ⟨g, t, none⟩ (.bool true))) := hid (HT2.out.set_ ⟨g, t, none⟩ ⟨Nat.le_refl _, Nat.lt_succ_self _⟩ _)
          have HOut3 : Hid (OwnI 3 (wr.setCell ⟨g, t, none⟩ (.bool true)) w'.heap.size (.slice oA on oc) out0) := hid (HOut.out.grown (grown_setCell (World.grownBy.refl _ _) t _) (HOut.out.apart (.inl hgw)))
          have HB3 := hid (below_turned HB.out HT3.out (Nat.le_of_lt hwg))
          have HTN : Hid (t < 2 ^ xs.length) := hid (by rw [HN.out]; exact htN)
          have hbox3 := (HBox.out.turned HT3.out (.inl hwg)).1
          clear hst hcs
          go_wp2_with fail
          clear hct hft hbox hboxz hbox3
          refine (step_any _ _ xs ys t _ (HV.out.below HB3.out) (HUW.out.below HB3.out) HG.out HTN.out HY.out hm).mono ?_
          rintro e' w5 ⟨rfl, hb5⟩
          have HBk5 := hid (HBk3.out.below hb5 HBk3.out.lt)
          have HT5 := hid (HT3.out.trans (TurnedIn.of_below hb5))
          have HOut5 := hid (HOut3.out.below hb5)
          clear hb5
          go_wp2
          go_roundw
          case rel => exact ⟨seen.set t true, wordF xs ys t, n + 1, rfl, by go_num, hf1, HL2, hcn2, hid (by rw [← HGo.out]; exact HC.out), HBk5.out, HOut5, HT5.out⟩
          case measure => simp [intOf]; omega
        · rw [hst] at hct
          have HStop : Hid (R = (seen, n)) := hid (by rw [← HC.out]; exact cyc1_stop hst)
          have hnN : n ≤ N := by omega
          have HBel := hid (below_turned HB.out HT2.out (Nat.le_of_lt hwg))
          clear hst
          by_cases hn0 : 0 < n
          · have HSt2 : Hid (cycSt (wordF xs ys) N I (j + 1) = (seen, out0 ++ [(n : Int)])) := hid (by rw [HStep.out, HStop.out]; simp [hn0])
            have hwz : w'.heap.size ≤ wr.heap.size := HT2.out.size
            go_wp2_with (at_builtin; refine wpList_append_int rfl _ _ 24 3 rfl Try.underlying24 Try.info3 w'.heap.size _ _ n rfl HOut.out rfl rfl (by omega) (by omega) ?_; rintro q2 w6 ho6 hb6; obtain ⟨qA, qn, qc, rfl⟩ := ho6.shape3)
            go_roundw
            case rel => exact ⟨j + 1, qA, qn, qc, by omega, by go_num, rfl, (by rw [HSt2.out]; exact HBk2.out.below hb6 hgw), (by rw [HSt2.out]; exact ho6), HT2.out.belowB hb6 (Nat.le_refl _)⟩
            case measure => simp [intOf]; omega
          · have HSt2 : Hid (cycSt (wordF xs ys) N I (j + 1) = (seen, out0)) := hid (by rw [HStep.out, HStop.out]; simp [hn0])
            go_wp2
            go_roundw
            case rel => exact ⟨j + 1, oA, on, oc, by omega, by go_num, rfl, (by rw [HSt2.out]; exact HBk2.out), (by rw [HSt2.out]; exact HOut.out), HT2.out⟩
            case measure => simp [intOf]; omega
    · obtain rfl : j = I.length := by omega
      have HBel := hid (below_turned HB.out ht (Nat.le_of_lt hwg))
      have hww := HB.out.size
      clear ht
      go_wp2
      go_ret
      exact ⟨_, rfl, HQ.out.mono hww, HBel.out⟩
end Go.Proofs.Ytpdoheagfjeefaa

/- ToggleCycles, OrderOfWord. -/
namespace Go.Proofs.Ytpdoheagfjeefaa
open Go.RowKit Go.WideShapes Go.ChangeShapes
set_option linter.unusedVariables false

theorem ret_vb {u : Value} {a b : Bool} (h : a = b) : Ending.returned (.tuple #[u, .bool a]) = .returned (.tuple #[u, .bool b]) := by rw [h]
def okGW (xs ys : List Int) : Bool := good xs && okWord xs ys
def cycW (xs ys : List Int) : List Int := cyclesL (wordF xs ys) (2 ^ xs.length) (setsL (holdsIdeal xs) (2 ^ xs.length))
def tcL (xs ys : List Int) : List Int := if okGW xs ys then cycW xs ys else []
theorem okGW_no1 {xs ys : List Int} (h : good xs = false) : okGW xs ys = false := by simp [okGW, h]
theorem okGW_no2 {xs ys : List Int} (h : okWord xs ys = false) : okGW xs ys = false := by simp [okGW, h]
theorem okGW_yes {xs ys : List Int} (h : good xs = true) (k : okWord xs ys = true) : okGW xs ys = true := by simp [okGW, h, k]
theorem tcL_no {xs ys : List Int} (h : okGW xs ys = false) : tcL xs ys = [] := by simp [tcL, h]
theorem tcL_yes {xs ys : List Int} (h : okGW xs ys = true) : tcL xs ys = cycW xs ys := by simp [tcL, h]
theorem okGW_good {xs ys : List Int} (h : okGW xs ys = true) : good xs = true ∧ okWord xs ys = true := by simpa [okGW] using h
theorem cycW_length {xs ys : List Int} (h : good xs = true) : (cycW xs ys).length ≤ 1024 := by
  have h1 := (cycSt_length (wordF xs ys) (2 ^ xs.length) (setsL (holdsIdeal xs) (2 ^ xs.length)) (setsL (holdsIdeal xs) (2 ^ xs.length)).length).2
  have h2 := setsL_length (holdsIdeal xs) (2 ^ xs.length)
  have h3 := pow10 (good_length h).2
  unfold cycW cyclesL
  omega
theorem cycW_pos {xs ys : List Int} (h : good xs = true) : ∀ x ∈ cycW xs ys, 1 ≤ x ∧ x ≤ 1024 := by
  intro x hx
  have h3 := pow10 (good_length h).2
  unfold cycW at hx
  obtain ⟨N, hN⟩ : ∃ N, 2 ^ xs.length = N := ⟨_, rfl⟩
  rw [hN] at hx h3
  have h1 := cycSt_pos (wordF xs ys) N (setsL (holdsIdeal xs) N) _ x hx
  omega
theorem tcL_length (xs ys : List Int) : (tcL xs ys).length ≤ 1048576 := by
  unfold tcL
  split
  · rename_i h
    have := cycW_length (ys := ys) (okGW_good h).1
    omega
  · simp
theorem specToggleCycles_any (v : Value) (xs : List Int) (u : Value) (ys : List Int) (w : World) (hv : Ints w v xs) (hl : xs.length ≤ 1048576) (hu : Ints w u ys) (hm : ys.length ≤ 1048576) :
    Calls Try.prog 40 #[.agg #[v], u] w fun (r : Ending) w' => ∃ q, r = Ending.returned (.tuple #[q, .bool (okGW xs ys)]) ∧ OwnI 3 w' w.heap.size q (tcL xs ys) ∧ (tcL xs ys).length ≤ 1048576 ∧ Below w.heap.size w w' := by
  have HV := hid hv
  have HU := hid hu
  have HL := hid (tcL_length xs ys)
  clear hv hu
  go_enter Try.func40, Try.ntmps40
  have HB := hid (below_alloc (Below.refl _ w) (.cells #[v] 26))
  have A0 := hid (At.newAt w v 26 w.heap.size (by simp))
  go_wp2_with fail
  refine (poGood_any _ xs _ (HV.out.below HB.out) hl).mono ?_
  rintro e w' ⟨rfl, hb⟩
  replace HB := hid (below_to HB.out hb)
  replace A0 := hid (A0.out.below hb)
  clear hb
  cases hq : good xs
  · have HO := hid (okGW_no1 (ys := ys) hq)
    clear hq
    have ebox0 := A0.out.1
    go_wp2
    go_ret2
    exact ⟨_, ret_vb HO.out.symm, by rw [tcL_no HO.out]; exact OwnI.nil _ _ _, HL.out, HB.out⟩
  · have HQ := hid hq
    clear hq
    have ebox0 := A0.out.1
    go_wp2_with fail
    clear ebox0
    refine (tgIsWord_any _ _ xs ys _ (HV.out.below HB.out) (HU.out.below HB.out) hl hm).mono ?_
    rintro e w' ⟨rfl, hb⟩
    replace HB := hid (below_to HB.out hb)
    replace A0 := hid (A0.out.below hb)
    clear hb
    cases hk : okWord xs ys
    · have HO := hid (okGW_no2 hk)
      clear hk
      have ebox0 := A0.out.1
      go_wp2
      go_ret2
      exact ⟨_, ret_vb HO.out.symm, by rw [tcL_no HO.out]; exact OwnI.nil _ _ _, HL.out, HB.out⟩
    · have HO := hid (okGW_yes HQ.out hk)
      have HK := hid (okWord_in hk).2
      clear hk
      have hz := HB.out.size
      have ebox0 := A0.out.1
      go_wp2_with fail
      clear ebox0
      refine (tgCycles_any _ _ xs ys _ (HV.out.below HB.out) (HU.out.below HB.out) HQ.out HK.out hm).mono ?_
      rintro e w' ⟨q, rfl, ho, hb⟩
      replace HB := hid (below_to HB.out hb)
      replace A0 := hid (A0.out.below hb)
      clear hb
      have ebox0 := A0.out.1
      go_wp2
      go_ret2
      exact ⟨_, ret_vb HO.out.symm, by rw [tcL_yes HO.out]; exact ho.mono hz, HL.out, HB.out⟩
theorem implToggleCycles_any (v : Value) (xs : List Int) (u : Value) (ys : List Int) (w : World) (hv : Ints w v xs) (hl : xs.length ≤ 1048576) (hu : Ints w u ys) (hm : ys.length ≤ 1048576) :
    Calls Try.prog 39 #[.agg #[v], u] w fun (r : Ending) w' => ∃ q, r = Ending.returned (.tuple #[q, .bool (okGW xs ys)]) ∧ OwnI 3 w' w.heap.size q (tcL xs ys) ∧ (tcL xs ys).length ≤ 1048576 ∧ Below w.heap.size w w' := by
  have HV := hid hv
  have HU := hid hu
  have HL := hid (tcL_length xs ys)
  clear hv hu
  go_enter Try.func39, Try.ntmps39
  have HB := hid (below_alloc (Below.refl _ w) (.cells #[v] 26))
  have A0 := hid (At.newAt w v 26 w.heap.size (by simp))
  go_wp2_with fail
  refine (implIsPoset_any _ xs _ (HV.out.below HB.out) hl).mono ?_
  rintro e w' ⟨rfl, hb⟩
  replace HB := hid (below_to HB.out hb)
  replace A0 := hid (A0.out.below hb)
  clear hb
  cases hq : good xs
  · have HO := hid (okGW_no1 (ys := ys) hq)
    clear hq
    have ebox0 := A0.out.1
    go_wp2
    go_ret2
    exact ⟨_, ret_vb HO.out.symm, by rw [tcL_no HO.out]; exact OwnI.nil _ _ _, HL.out, HB.out⟩
  · have HQ := hid hq
    clear hq
    have ebox0 := A0.out.1
    go_wp2_with fail
    clear ebox0
    refine (hasWord_any _ _ xs ys _ (HV.out.below HB.out) (HU.out.below HB.out) hl hm).mono ?_
    rintro e w' ⟨rfl, hb⟩
    replace HB := hid (below_to HB.out hb)
    replace A0 := hid (A0.out.below hb)
    clear hb
    cases hk : okWord xs ys
    · have HO := hid (okGW_no2 hk)
      clear hk
      have ebox0 := A0.out.1
      go_wp2
      go_ret2
      exact ⟨_, ret_vb HO.out.symm, by rw [tcL_no HO.out]; exact OwnI.nil _ _ _, HL.out, HB.out⟩
    · have HO := hid (okGW_yes HQ.out hk)
      have HK := hid (okWord_in hk).2
      clear hk
      have hz := HB.out.size
      have ebox0 := A0.out.1
      go_wp2_with fail
      clear ebox0
      refine (cyclesOf_any _ _ xs ys _ (HV.out.below HB.out) (HU.out.below HB.out) HQ.out HK.out hm).mono ?_
      rintro e w' ⟨q, rfl, ho, hb⟩
      replace HB := hid (below_to HB.out hb)
      replace A0 := hid (A0.out.below hb)
      clear hb
      have ebox0 := A0.out.1
      go_wp2
      go_ret2
      exact ⟨_, ret_vb HO.out.symm, by rw [tcL_yes HO.out]; exact ho.mono hz, HL.out, HB.out⟩

/-! ### common multiples -/
theorem tgGcd_any (b a : Nat) (w : World) (ha : a ≤ 1000000000000000) (hb : b ≤ 1000000000000000) :
    Calls Try.prog 115 #[.int .i64 a, .int .i64 b] w fun r w' => r = .returned (.int .i64 (Nat.gcd a b : Nat)) ∧ w = w' := by
  induction b using Nat.strongRecOn generalizing a w with
  | _ b ih =>
    by_cases h0 : b = 0
    · subst h0
      have HG : Hid (Nat.gcd a 0 = a) := hid (Nat.gcd_zero_right a)
      clear ih ha hb
      go_enter Try.func115, Try.ntmps115
      go_wp2
      go_ret
      exact ⟨ret_int (by rw [HG.out]), rfl⟩
    · have HI := hid (ih (a % b) (Nat.mod_lt _ (by omega)) b)
      have HG : Hid (Nat.gcd b (a % b) = Nat.gcd a b) := hid (by rw [Nat.gcd_comm a b, Nat.gcd_rec b a, Nat.gcd_comm])
      have hb0 : ((b : Int) == 0) = false := by rw [beq_eq_false_iff_ne]; omega
      have hbne : ¬ (b : Int) = 0 := by omega
      have hml := Nat.mod_le a b
      have hb1 : (0 : Int) < b := by omega
      have HI2 := hid (HI.out w hb (Nat.le_trans hml ha))
      have hmod := tmod_nat a b
      have hmod2 : ((a : Int) % (b : Int)) = ((a % b : Nat) : Int) := by simp
      obtain ⟨r, hr⟩ : ∃ r, a % b = r := ⟨_, rfl⟩
      rw [hr] at hmod hmod2 HI2 HG
      clear ih ha hb hml HI hr
      go_enter Try.func115, Try.ntmps115
      go_wp2_with fail
      refine HI2.out.mono ?_
      rintro e w' ⟨rfl, rfl⟩
      go_wp2
      go_ret
      exact ⟨ret_int (by rw [HG.out]), rfl⟩
theorem commonDivisor_any (a b : Nat) (w : World) (ha : a ≤ 1000000000000000) (hb : b ≤ 1000000000000000) :
    Calls Try.prog 164 #[.int .i64 a, .int .i64 b] w fun r w' => r = .returned (.int .i64 (Nat.gcd a b : Nat)) ∧ Below w.heap.size w w' := by
  obtain ⟨R, hR⟩ : ∃ R, Nat.gcd a b = R := ⟨_, rfl⟩
  have HR := hid hR
  have HA := hid ha
  have HB0 := hid hb
  rw [hR]
  clear hR ha hb
  go_enter Try.func164, Try.ntmps164
  go_wp2
  go_loopw [0, 1] (fun p q wr => ∃ m n : Nat, p = .int .i64 m ∧ q = .int .i64 n ∧ Hid (m ≤ 1000000000000000) ∧ Hid (n ≤ 1000000000000000) ∧ Hid (Nat.gcd m n = R) ∧ Below w.heap.size w wr) (fun _ q _ => (intOf q).toNat)
  case atStart => exact ⟨a, b, rfl, rfl, HA, HB0, HR, Below.refl _ _⟩
  case round =>
    obtain ⟨m, n, rfl, rfl, hm, hn, HG, hbl⟩ := hrel
    have HB := hid hbl
    clear hbl
    by_cases h0 : n = 0
    · subst h0
      have HG2 : Hid (m = R) := hid (by rw [← HG.out, Nat.gcd_zero_right])
      go_wp2
      go_ret
      exact ⟨ret_int (by rw [HG2.out]), HB.out⟩
    · have HG2 : Hid (Nat.gcd n (m % n) = R) := hid (by rw [← HG.out, Nat.gcd_comm m n, Nat.gcd_rec n m, Nat.gcd_comm])
      have hb0 : ((n : Int) != 0) = true := by rw [bne_iff_ne]; omega
      have hbne : ¬ (n : Int) = 0 := by omega
      have hml := Nat.mod_lt m (show 0 < n by omega)
      have hmod := tmod_nat m n
      have hmod2 : ((m : Int) % (n : Int)) = ((m % n : Nat) : Int) := by simp
      obtain ⟨r, hr⟩ : ∃ r, m % n = r := ⟨_, rfl⟩
      rw [hr] at hmod hmod2 HG2 hml
      clear hr
      have hb1 : (0 : Int) < n := by omega
      go_wp2_with fail
      go_region
      go_wp2
      go_roundw
      case rel => exact ⟨n, r, rfl, rfl, hn, hid (by have := hn.out; omega), HG2, HB.out.drew⟩
      case measure => simp [intOf]; omega
end Go.Proofs.Ytpdoheagfjeefaa
