/- Texts CycC, RvS, Tg3, RvT, one behind the other. -/
import Derived.RegionTactic
import Derived.Deep.AppendLies
import Derived.Deep.RegionHeld3
import Derived.Test.YtdemikjaghegnaaGreatPkRanksMakeRowmotionProof01
import Derived.Test.YtdemikjaghegnaaGreatPkRanksMakeRowmotionProof02
import Derived.Test.YtdemikjaghegnaaGreatPkRanksMakeRowmotionProof05
import Derived.Test.YtdemikjaghegnaaGreatPkRanksMakeRowmotionProof07
import Derived.Test.YtdemikjaghegnaaGreatPkRanksMakeRowmotionProof11
import Derived.Test.YtdemikjaghegnaaGreatPkRanksMakeRowmotionProof12
/- Cycles of a word on the ideals. -/
namespace Go.Proofs.YtdemikjaghegnaaGreat
open Go.RowKit Go.WideShapes Go.ChangeShapes
set_option linter.unusedVariables false

theorem setsL_bound {f : Nat → Bool} {N j : Nat} (hj : j < (setsL f N).length) : ∃ s : Nat, (setsL f N).getD j 0 = (s : Int) ∧ s < N ∧ f s = true := by
  have hj' : j < ((List.range N).filter f).length := by simpa [setsL] using hj
  have hmem2 := List.mem_filter.1 (List.getElem_mem hj')
  exact ⟨((List.range N).filter f)[j], by simp [setsL, List.getD, hj'], List.mem_range.1 hmem2.1, hmem2.2⟩
/-- the word's motion on sets -/
def wordF (xs ys : List Int) (s : Nat) : Nat := togW xs s ys

set_option maxHeartbeats 3200000 in
theorem cyclesOf_any (v u : Value) (xs ys : List Int) (w : World) (hv : Ints w v xs) (hu : Ints w u ys) (hg : good xs = true) (hy : inW xs.length ys = true) (hm : ys.length ≤ 1048576) :
    Calls Tryz.prog 74 #[.agg #[v], .iface 62 u] w fun (r : Ending) w' => ∃ q, r = Ending.returned q ∧ OwnI 3 w' w.heap.size q (cyclesL (wordF xs ys) (2 ^ xs.length) (setsL (holdsIdeal xs) (2 ^ xs.length))) ∧ Below w.heap.size w w' := by
  have hl10 := (good_length hg).2
  have HV := hid hv
  have HUW := hid hu
  have HG := hid hg
  have HY := hid hy
  obtain ⟨A, c, rfl, -⟩ := hv
  obtain ⟨N, hN⟩ : ∃ N, 2 ^ xs.length = N := ⟨_, rfl⟩
  have hN2 := two_pow_le xs.length hl10
  rw [hN] at hN2
  obtain ⟨I, hI⟩ : ∃ I, setsL (holdsIdeal xs) N = I := ⟨_, rfl⟩
  have HAt := hid (fun j hj => setsL_bound (f := holdsIdeal xs) (N := N) (j := j) hj)
  have hIN := setsL_length (holdsIdeal xs) N
  rw [hI] at HAt hIN
  rw [hN, hI]
  have HI := hid (show setsL (holdsIdeal xs) (2 ^ xs.length) = I by rw [hN]; exact hI)
  have HN := hid hN
  have hM : ((N - 1 : Nat) : Int) + 1 = (N : Int) := by omega
  have hmk := run_make_row' (P := Tryz.prog) 73 4 (.bool false) 1 Tryz.underlying73 infoBool rfl .i64 .i64 N (by omega) (by omega)
  clear hu hg hy hI
  go_enter Tryz.func74, Tryz.ntmps74
  go_wp2_with (go_at_call 107; refine (wholeSet_any xs.length hl10 _).mono ?_; rw [hN]; rintro e w2 ⟨rfl, rfl⟩)
  clear hM
  refine (setsI_any _ xs _ ((HV.out.alloc _).alloc _) HG.out).mono ?_
  rw [HI.out]
  rintro e w' ⟨iu, rfl, ho, hb⟩
  obtain ⟨g, hg⟩ : ∃ g, w.heap.size + 1 = g := ⟨_, rfl⟩
  have HB := hid (below_to (below_alloc (below_alloc (Below.refl _ w) _) _) hb)
  have HBox : Hid (At w' w.heap.size (.slice A xs.length c)) := hid (((At.new _ _ _).alloc _).below hb)
  have HSeen : Hid (Blk w' g 4 (BVals (List.replicate N false))) := hid (by
    subst hg
    rw [← BVals_made]
    exact (Blk.newAt _ 4 (madeCells #[.bool false] N) (w.heap.size + 1) (by simp)).below hb (by simp))
  obtain ⟨iA, iN, ic, rfl⟩ := ho.shape3
  have hiN : iN = I.length := by
    obtain ⟨_, _, h, _⟩ := ho.shape
    cases h; rfl
  subst hiN
  have HO := hid (ho.mono (B' := g + 1) (by simp; omega))
  have HOB : Hid (∀ k, (Value.slice iA I.length ic).ownBlock = some k → g + 1 ≤ k ∧ k < w'.heap.size) := hid (fun k hk => by
    have h1 := ho.blockLt k hk
    simp at h1
    omega)
  have hgw : g < w'.heap.size := HSeen.out.lt
  have hwg : w.heap.size < g := by omega
  have hbx := HBox.out.1
  rw [hg]
  clear hb ho hmk hg hN
  go_wp2
  clear hbx
  go_loopw [5, 20] (fun q i wr => ∃ (j : Nat) (oA : Option Addr) (on oc : Nat), j ≤ I.length ∧ i = .int .i64 j ∧ q = .slice oA on oc ∧ Blk wr g 4 (BVals (cycSt (wordF xs ys) N I j).1) ∧ OwnI 3 wr w'.heap.size (.slice oA on oc) (cycSt (wordF xs ys) N I j).2 ∧ TurnedIn g (g + 1) w' wr) (fun _ i _ => I.length - (intOf i).toNat)
  case atStart => exact ⟨0, none, 0, 0, Nat.zero_le _, rfl, rfl, HSeen.out, OwnI.nil _ _ _, TurnedIn.refl _ _ _⟩
  case round =>
    obtain ⟨j, oA, on, oc, hj, rfl, rfl, hB, hq, ht⟩ := hrel
    have HBk := hid hB
    have HQ := hid hq
    have HT := hid ht
    clear hB hq
    by_cases hlt : j < I.length
    · obtain ⟨s, hs, hsN, hIs⟩ := HAt.out j hlt
      have hoi := HO.out.turned ht HOB.out (.inr (Nat.le_refl _))
      have hcell : ∃ b, iA = some ⟨b, 0, none⟩ ∧ wr.cell? ⟨b, 0 + j, none⟩ = some (.int .i64 s) := by
        obtain ⟨A', c', h1, h2⟩ := hoi.shape
        obtain ⟨A2, c2, h3, h4⟩ := hoi.ints
        cases h1
        obtain ⟨b, h5, -, -⟩ := h2 (by intro h; simp [h] at hlt)
        cases h3
        obtain ⟨b2, o2, h6, -, h7⟩ := h4 (by intro h; simp [h] at hlt)
        have h8 : b2 = b ∧ o2 = 0 := by rw [h5] at h6; cases h6; exact ⟨rfl, rfl⟩
        obtain ⟨rfl, rfl⟩ := h8
        exact ⟨_, h5, by rw [h7 j hlt, hs]⟩
      obtain ⟨b, rfl, hcell⟩ := hcell
      rw [Nat.zero_add] at hcell
      have HS := hid hs
      obtain ⟨seen0, hs0⟩ : ∃ l, (cycSt (wordF xs ys) N I j).1 = l := ⟨_, rfl⟩
      obtain ⟨out0, ho0⟩ : ∃ l, (cycSt (wordF xs ys) N I j).2 = l := ⟨_, rfl⟩
      have hlen := cycSt_length (wordF xs ys) N I j
      rw [hs0] at HBk hlen
      rw [ho0] at HQ hlen
      obtain ⟨R, hR⟩ : ∃ R, cyc1 (wordF xs ys) seen0 s 0 = R := ⟨_, rfl⟩
      have HStep : Hid (cycSt (wordF xs ys) N I (j + 1) = (R.1, if 0 < R.2 then out0 ++ [(R.2 : Int)] else out0)) := hid (by
        simp only [cycSt, hs0, ho0, hs, Int.toNat_natCast, hR])
      have HLen := hid hlen.1
      have ho10 : out0.length ≤ 1024 := by omega
      have hc0 := cntF_le seen0
      have hc1 : 0 + cntF seen0 ≤ N := by rw [← hlen.1]; omega
      have HR := hid hR
      clear hs hs0 ho0 hR hoi ht hIs hlen hc0
      go_wp2
      clear hcell
      go_loopw [10, 9] (fun a i wi => ∃ (seen : List Bool) (t n : Nat), a = .int .i64 t ∧ i = .int .i64 n ∧ t < N ∧ Hid (seen.length = N) ∧ n + cntF seen ≤ N ∧ Hid (cyc1 (wordF xs ys) seen t n = R) ∧ Blk wi g 4 (BVals seen) ∧ Hid (OwnI 3 wi w'.heap.size (.slice oA on oc) out0) ∧ TurnedIn g (g + 1) w' wi) (fun _ i _ => N - (intOf i).toNat)
      case atStart => exact ⟨seen0, s, 0, rfl, rfl, hsN, HLen, hc1, HR, HBk.out, HQ, HT.out⟩
      case round =>
        obtain ⟨seen, t, n, rfl, rfl, htN, HSL, hcn, HC, hB, HOut, ht⟩ := hrel
        have hct : wr.cell? ⟨g, t, none⟩ = some (.bool (seen.getD t true)) := by
          rw [hB.cell, BVals_get (by rw [HSL.out]; exact htN)]
        have hft := hB.frozen t
        have HBk2 := hid hB
        have HT2 := hid ht
        clear hB ht
        cases hst : seen.getD t true
        · rw [hst] at hct
          have hcs := cntF_set (show t < seen.length by rw [HSL.out]; exact htN) hst
          have HGo := hid (cyc1_go (f := wordF xs ys) (n := n) (show t < seen.length by rw [HSL.out]; exact htN) hst)
          have hn1 : n < N := by omega
          have hcn2 : n + 1 + cntF (seen.set t true) ≤ N := by omega
          have HL2 : Hid ((seen.set t true).length = N) := hid (by rw [List.length_set]; exact HSL.out)
          have hbox := (HBox.out.turned HT2.out (.inl hwg)).1
          have hboxz := (HBox.out.turned HT2.out (.inl hwg)).2
          have hne : w.heap.size ≠ g := by omega
          have hf1 : wordF xs ys t < N := by rw [← HN.out]; exact togW_lt (by rw [HN.out]; exact htN) HY.out
          have HBk3 : Hid (Blk (wr.setCell ⟨g, t, none⟩ (.bool true)) g 4 (BVals (seen.set t true))) := hid (by rw [← BVals_set]; exact HBk2.out.set_ t _)
          have HT3 : Hid (TurnedIn g (g + 1) w' (wr.setCell ⟨g, t, none⟩ (.bool true))) := hid (HT2.out.set_ ⟨g, t, none⟩ ⟨Nat.le_refl _, Nat.lt_succ_self _⟩ _)
          have HOut3 : Hid (OwnI 3 (wr.setCell ⟨g, t, none⟩ (.bool true)) w'.heap.size (.slice oA on oc) out0) := hid (HOut.out.grown (grown_setCell (World.grownBy.refl _ _) t _) (HOut.out.apart (.inl hgw)))
          have HB3 := hid (below_turned HB.out HT3.out (Nat.le_of_lt hwg))
          have HTN : Hid (t < 2 ^ xs.length) := hid (by rw [HN.out]; exact htN)
          have hbox3 := (HBox.out.turned HT3.out (.inl hwg)).1
          clear hst hcs
          go_wp2_with fail
          clear hct hft hbox hboxz hbox3
          refine (step_any _ _ xs ys t _ (HV.out.below HB3.out) (HUW.out.below HB3.out) HG.out HTN.out HY.out hm).mono ?_
          rintro e' w5 ⟨rfl, hb5⟩
          have HBk5 := hid (HBk3.out.below hb5 HBk3.out.lt)
          have HT5 := hid (HT3.out.trans (TurnedIn.of_below hb5))
          have HOut5 := hid (HOut3.out.below hb5)
          clear hb5
          go_wp2
          go_roundw
          case rel => exact ⟨seen.set t true, wordF xs ys t, n + 1, rfl, by go_num, hf1, HL2, hcn2, hid (by rw [← HGo.out]; exact HC.out), HBk5.out, HOut5, HT5.out⟩
          case measure => simp [intOf]; omega
        · rw [hst] at hct
          have HStop : Hid (R = (seen, n)) := hid (by rw [← HC.out]; exact cyc1_stop hst)
          have hnN : n ≤ N := by omega
          have HBel := hid (below_turned HB.out HT2.out (Nat.le_of_lt hwg))
          clear hst
          by_cases hn0 : 0 < n
          · have HSt2 : Hid (cycSt (wordF xs ys) N I (j + 1) = (seen, out0 ++ [(n : Int)])) := hid (by rw [HStep.out, HStop.out]; simp [hn0])
            have hwz : w'.heap.size ≤ wr.heap.size := HT2.out.size
            go_wp2_with (at_builtin; refine wpList_append_int rfl _ _ 24 3 rfl Tryz.underlying24 Tryz.info3 w'.heap.size _ _ n rfl HOut.out rfl rfl (by omega) (by omega) ?_; rintro q2 w6 ho6 hb6; obtain ⟨qA, qn, qc, rfl⟩ := ho6.shape3)
            go_roundw
            case rel => exact ⟨j + 1, qA, qn, qc, by omega, by go_num, rfl, (by rw [HSt2.out]; exact HBk2.out.below hb6 hgw), (by rw [HSt2.out]; exact ho6), HT2.out.belowB hb6 (Nat.le_refl _)⟩
            case measure => simp [intOf]; omega
          · have HSt2 : Hid (cycSt (wordF xs ys) N I (j + 1) = (seen, out0)) := hid (by rw [HStep.out, HStop.out]; simp [hn0])
            go_wp2
            go_roundw
            case rel => exact ⟨j + 1, oA, on, oc, by omega, by go_num, rfl, (by rw [HSt2.out]; exact HBk2.out), (by rw [HSt2.out]; exact HOut.out), HT2.out⟩
            case measure => simp [intOf]; omega
    · obtain rfl : j = I.length := by omega
      have HBel := hid (below_turned HB.out ht (Nat.le_of_lt hwg))
      have hww := HB.out.size
      clear ht
      go_wp2
      go_ret
      exact ⟨_, rfl, HQ.out.mono hww, HBel.out⟩
end Go.Proofs.YtdemikjaghegnaaGreat

/- Ranks in the model: ranks, toggles of ranks, words of ranks. -/
namespace Go.Proofs.YtdemikjaghegnaaGreat
open Go.RowKit Go.WideShapes Go.ChangeShapes
set_option linter.unusedVariables false

theorem OwnI.storedR {e : TypeId} {w : World} {B g n c : Nat} {xs : List Int} (h : OwnI e w B (.slice (some ⟨g, 0, none⟩) n c) xs) (j : Nat) (y : Int) : OwnI e (w.setCell ⟨g, j, none⟩ (.int .i64 y)) B (.slice (some ⟨g, 0, none⟩) n c) (xs.set j y) := by
  obtain ⟨A, c', e', -⟩ := h.shape
  injection e' with e1 e2 e3
  subst e2
  have h' : w.ownsRow B e 1 (.slice (some ⟨g, 0, none⟩) xs.length c) xs.length (xs.map (Value.int .i64)) := h
  have := (h'.stored j (.int .i64 y)).1
  unfold OwnI
  rw [List.length_set, List.map_set]
  exact this
theorem OwnI.cellR {e : TypeId} {w : World} {B g n c : Nat} {xs : List Int} (h : OwnI e w B (.slice (some ⟨g, 0, none⟩) n c) xs) {j : Nat} (hj : j < xs.length) : w.cell? ⟨g, j, none⟩ = some (.int .i64 (xs.getD j 0)) ∧ w.frozen? ⟨g, j, none⟩ = false := by
  obtain ⟨A, c', e', -⟩ := h.shape
  injection e' with e1 e2 e3
  subst e2
  have h' : w.ownsRow B e 1 (.slice (some ⟨g, 0, none⟩) xs.length c) xs.length (xs.map (Value.int .i64)) := h
  refine ⟨?_, h'.frozenAt j⟩
  rw [h'.cellAt j (by omega)]
  simp [List.getD, hj]
theorem OwnI.blockR {e : TypeId} {w : World} {B : Nat} {v : Value} {xs : List Int} (h : OwnI e w B v xs) (hx : 0 < xs.length) : ∃ g c, v = .slice (some ⟨g, 0, none⟩) xs.length c ∧ B ≤ g ∧ g < w.heap.size := by
  obtain ⟨g, c, e1, h1, h2⟩ := World.ownsRow.form h hx
  exact ⟨g, c, e1, h1, h2⟩
def lenQ : Value → Nat
  | .slice _ n _ => n
  | _ => 0
theorem lenQ_own {e : TypeId} {w : World} {B : Nat} {v : Value} {xs : List Int} (h : OwnI e w B v xs) : lenQ v = xs.length := by
  obtain ⟨_, _, rfl, -⟩ := h.shape; rfl
set_option maxHeartbeats 1600000 in
theorem rvRanks_any (v : Value) (xs : List Int) (w : World) (hv : Ints w v xs) (hg : good xs = true) :
    Calls Tryz.prog 53 #[.agg #[v]] w fun (r : Ending) w' => ∃ u, r = Ending.returned u ∧ OwnI 3 w' w.heap.size u (rankL xs) ∧ Below w.heap.size w w' := by
  have HV := hid hv
  have HG := hid hg
  have hl10 := (good_length hg).2
  have HN := hid (heights_nat hg)
  have HML := hid (fun k => rkM_le (fun e => (heights_nat hg e).2) k)
  clear hv hg
  go_enter Tryz.func53, Tryz.ntmps53
  have HB := hid (below_alloc (Below.refl _ w) (.cells #[v] 26))
  have A0 := hid (At.newAt w v 26 w.heap.size (by simp))
  go_wp2_with fail
  refine (poHeights_any _ xs _ (HV.out.below HB.out) HG.out).mono ?_
  rintro e w' ⟨u, rfl, ho, hb⟩
  replace HB := hid (below_to HB.out hb)
  replace A0 := hid (A0.out.below hb)
  clear hb
  have hz := HB.out.size
  have HI := hid ho.ints
  have hlen := heights_len HG.out
  have HEnd : Hid (rankL xs = rkQ (heightsL xs) xs.length (rkM (heightsL xs) xs.length)) := hid rfl
  obtain ⟨ls, hls⟩ : ∃ ls, heightsL xs = ls := ⟨_, rfl⟩
  rw [hls] at HI HN HML HEnd hlen
  obtain ⟨A, c, rfl, hA⟩ := HI.out
  have HA := hid hA
  rw [← hlen] at HEnd hl10
  clear ho HI hA hls hlen
  go_wp2
  go_loopw [4, 11] (fun q i wr => ∃ k : Nat, k ≤ ls.length ∧ i = .int .i64 k ∧ OwnI 3 wr w'.heap.size q (rkQ ls k (rkM ls k)) ∧ Below w'.heap.size w' wr) (fun _ i _ => ls.length - (intOf i).toNat)
  case atStart => exact ⟨0, Nat.zero_le _, rfl, OwnI.nil _ _ _, Below.refl _ _⟩
  case round =>
    obtain ⟨k, hk, rfl, ho, hb⟩ := hrel
    have HO := hid ho
    have HB1 := hid hb
    by_cases hlt : k < ls.length
    · obtain ⟨b, o, rfl, hbl, hc⟩ := HA.out (by intro h; simp [h] at hlt)
      have hcell : wr.cell? ⟨b, o + k, none⟩ = some (.int .i64 (ls.getD k 0)) := (hb.cell (p := ⟨b, o + k, none⟩) hbl).trans (hc k hlt)
      obtain ⟨hn1, hn2⟩ := HN.out k
      have hMk := HML.out k
      have HMd : Hid (rkM ls (k + 1) = max (rkM ls k) ((ls.getD k 0).toNat + 1)) := hid rfl
      obtain ⟨h, hh⟩ : ∃ h, (ls.getD k 0).toNat = h := ⟨_, rfl⟩
      rw [hh] at hn1 hn2 HMd
      rw [hn1] at hcell
      have HH := hid hh
      clear hc ho hb hn1 hh
      go_wp2
      go_loopw [4] (fun q wi => ∃ m : Nat, rkM ls k ≤ m ∧ m ≤ max (rkM ls k) (h + 1) ∧ OwnI 3 wi w'.heap.size q (rkQ ls k m) ∧ Below w'.heap.size w' wi) (fun q _ => h + 1 - lenQ q)
      case atStart => exact ⟨rkM ls k, Nat.le_refl _, Nat.le_max_left _ _, HO.out, HB1.out⟩
      case round =>
        obtain ⟨m, hm1, hm2, ho, hb⟩ := hrel
        have HO2 := hid ho
        have HB2 := hid hb
        have hz2 := hb.size
        obtain ⟨qA, qc, rfl, -⟩ := ho.shape
        rw [rkQ_length] at HO2 ⊢
        clear ho hb
        by_cases hmh : m ≤ h
        · have hl48 : (rkQ ls k m).length < 1048576 := by rw [rkQ_length]; omega
          go_wp2_with (at_builtin; refine wpList_append_int rfl _ _ 24 3 rfl Tryz.underlying24 Tryz.info3 w'.heap.size _ _ 0 rfl HO2.out rfl rfl hl48 hz2 ?_; rintro q2 w6 ho6 hb6)
          have HGw := hid (rkQ_grow ls (k := k) (m := m) hm1)
          have hq2 := lenQ_own ho6
          rw [List.length_append, rkQ_length] at hq2
          go_roundw
          case rel => exact ⟨m + 1, by omega, by omega, (by rw [← HGw.out]; exact ho6), HB2.out.trans hb6⟩
          case measure => rw [hq2]; simp [lenQ]; omega
        · have hMe : m = rkM ls (k + 1) := by rw [HMd.out]; omega
          obtain ⟨g, c2, hsh, hg1, hg2⟩ := HO2.out.blockR (by rw [rkQ_length]; omega)
          rw [rkQ_length] at hsh
          cases hsh
          obtain ⟨t1, t2⟩ := HO2.out.cellR (j := h) (by rw [rkQ_length]; omega)
          rw [rkQ_get ls k (show h < m by omega)] at t1
          have hE := rkE_lt ls (Nat.le_refl k) h
          have HSet := hid (rkQ_set ls (k := k) (m := m) (i := h) HH.out (by omega))
          have hp9 := pow_lt10 k (by omega)
          obtain ⟨E, hEq⟩ : ∃ E, rkE ls k h = E := ⟨_, rfl⟩
          rw [hEq] at t1 hE HSet
          have wp := wrap_pow' k (by omega)
          have hor := or_pow E k (by omega) (by omega)
          have hhm : (h : Int) < m := by omega
          have hm10 : m ≤ 10 := by omega
          clear hEq hE hp9 hm1 hm2
          go_wp2
          go_region
          go_wp2
          go_roundw
          case rel => exact ⟨k + 1, by omega, by go_num, (by rw [← hMe, ← HSet.out]; exact (HO2.out.storedR h _).drew), (HB2.out.setCell (p := ⟨g, h, none⟩) hg1 _).drew⟩
          case measure => simp [intOf]; omega
    · obtain rfl : k = ls.length := by omega
      clear ho hb
      go_wp2
      go_ret
      exact ⟨_, rfl, (by rw [HEnd.out]; exact HO.out.mono hz), below_to HB.out HB1.out⟩
/-- is it a ranked poset, and one with the ideal? -/
def okRk (xs : List Int) : Bool := good xs && rankedB xs
def okRI (xs : List Int) (s : Int) : Bool := okRk xs && okIdeal xs s
theorem okRk_no {xs : List Int} (h : good xs = false) : okRk xs = false := by simp [okRk, h]
theorem okRk_yes {xs : List Int} (h : good xs = true) : okRk xs = rankedB xs := by simp [okRk, h]
theorem okRk_good {xs : List Int} (h : okRk xs = true) : good xs = true ∧ rankedB xs = true := by simpa [okRk] using h
theorem okRI_no {xs : List Int} {s : Int} (h : okRk xs = false) : okRI xs s = false := by simp [okRI, h]
theorem okRI_yes {xs : List Int} {s : Int} (h : okRk xs = true) : okRI xs s = okIdeal xs s := by simp [okRI, h]
theorem okRI_all {xs : List Int} {s : Int} (h : okRI xs s = true) : ∃ z : Nat, s = (z : Int) ∧ good xs = true ∧ rankedB xs = true ∧ z < 2 ^ xs.length ∧ holdsIdeal xs z = true := by
  have h1 : okRk xs = true ∧ okIdeal xs s = true := by simpa [okRI] using h
  obtain ⟨z, h2, h3, h4, h5⟩ := okIdeal_all h1.2
  exact ⟨z, h2, h3, (okRk_good h1.1).2, h4, h5⟩
theorem rvGood_any (v : Value) (xs : List Int) (w : World) (hv : Ints w v xs) (hl : xs.length ≤ 1048576) :
    Calls Tryz.prog 69 #[.agg #[v]] w fun r w' => r = .returned (.bool (okRk xs)) ∧ Below w.heap.size w w' := by
  have HV := hid hv
  clear hv
  go_enter Tryz.func69, Tryz.ntmps69
  have HB := hid (below_alloc (Below.refl _ w) (.cells #[v] 26))
  have A0 := hid (At.newAt w v 26 w.heap.size (by simp))
  go_wp2_with fail
  refine (poGood_any _ xs _ (HV.out.below HB.out) hl).mono ?_
  rintro e w' ⟨rfl, hb⟩
  replace HB := hid (below_to HB.out hb)
  replace A0 := hid (A0.out.below hb)
  clear hb
  cases hq : good xs
  · have HQ := hid hq
    clear hq
    have ebox0 := A0.out.1
    go_wp2
    go_ret
    exact ⟨ret_bool (okRk_no HQ.out).symm, HB.out⟩
  · have HQ := hid hq
    clear hq
    have ebox0 := A0.out.1
    go_wp2_with fail
    clear ebox0
    refine (poRanked_any _ xs _ (HV.out.below HB.out) HQ.out).mono ?_
    rintro e w' ⟨rfl, hb⟩
    replace HB := hid (below_to HB.out hb)
    replace A0 := hid (A0.out.below hb)
    clear hb
    cases hr : rankedB xs
    · have HR := hid hr
      clear hr
      have ebox0 := A0.out.1
      go_wp2
      go_ret
      exact ⟨ret_bool (by rw [okRk_yes HQ.out, HR.out]), HB.out⟩
    · have HR := hid hr
      clear hr
      have ebox0 := A0.out.1
      go_wp2
      go_ret
      exact ⟨ret_bool (by rw [okRk_yes HQ.out, HR.out]), HB.out⟩
theorem rvIn_any (v : Value) (xs : List Int) (s : Int) (w : World) (hv : Ints w v xs) (hl : xs.length ≤ 1048576) :
    Calls Tryz.prog 52 #[.agg #[v], .int .i64 s] w fun r w' => r = .returned (.bool (okRI xs s)) ∧ Below w.heap.size w w' := by
  have HV := hid hv
  clear hv
  go_enter Tryz.func52, Tryz.ntmps52
  have HB := hid (below_alloc (Below.refl _ w) (.cells #[v] 26))
  have A0 := hid (At.newAt w v 26 w.heap.size (by simp))
  go_wp2_with fail
  refine (rvGood_any _ xs _ (HV.out.below HB.out) hl).mono ?_
  rintro e w' ⟨rfl, hb⟩
  replace HB := hid (below_to HB.out hb)
  replace A0 := hid (A0.out.below hb)
  clear hb
  cases hq : okRk xs
  · have HQ := hid hq
    clear hq
    have ebox0 := A0.out.1
    go_wp2
    go_ret
    exact ⟨ret_bool (okRI_no HQ.out).symm, HB.out⟩
  · have HQ := hid hq
    have HG := hid (okRk_good hq).1
    clear hq
    have ebox0 := A0.out.1
    go_wp2_with fail
    clear ebox0
    refine (poSet_ok _ xs s _ (HV.out.below HB.out) HG.out).mono ?_
    rintro e w' ⟨rfl, hb⟩
    replace HB := hid (below_to HB.out hb)
    replace A0 := hid (A0.out.below hb)
    clear hb
    cases hs : okSet xs s
    · have HS := hid hs
      clear hs
      have ebox0 := A0.out.1
      go_wp2
      go_ret
      exact ⟨ret_bool (by rw [okRI_yes HQ.out, okIdeal_no HS.out]), HB.out⟩
    · have HS := hid hs
      obtain ⟨z, rfl⟩ := Int.eq_ofNat_of_zero_le (okSet_lt hs).1
      have hz := (okSet_lt hs).2
      have HI := hid (okIdeal_nat hs)
      clear hs
      have ebox0 := A0.out.1
      go_wp2_with fail
      clear ebox0
      refine (poIdeal_any _ xs z _ (HV.out.below HB.out) (good_length HG.out).2 (by omega) (good_small HG.out z)).mono ?_
      rintro e w' ⟨rfl, hb⟩
      replace HB := hid (below_to HB.out hb)
      replace A0 := hid (A0.out.below hb)
      clear hb
      cases hi : holdsIdeal xs z
      · have HJ := hid hi
        clear hi
        have ebox0 := A0.out.1
        go_wp2
        go_ret
        exact ⟨ret_bool (by rw [okRI_yes HQ.out, HI.out, HJ.out]), HB.out⟩
      · have HJ := hid hi
        clear hi
        have ebox0 := A0.out.1
        go_wp2
        go_ret
        exact ⟨ret_bool (by rw [okRI_yes HQ.out, HI.out, HJ.out]), HB.out⟩
theorem rvAt_any (v : Value) (xs : List Int) (s r : Nat) (w : World) (hv : Ints w v xs) (hg : good xs = true) (hs : s < 2 ^ xs.length) (hr : r < 1024) :
    Calls Tryz.prog 104 #[.agg #[v], .int .i64 s, .int .i64 r] w fun q w' => q = .returned (.int .i64 (togW xs s (elL xs.length r) : Nat)) ∧ Below w.heap.size w w' := by
  have HV := hid hv
  have HG := hid hg
  have HN := hid hs
  have hl10 := (good_length hg).2
  have HIn : Hid (∀ k, k ≤ xs.length → inW xs.length (elL k r) = true) := hid (fun k hk => List.all_eq_true.2 fun y hy => by
    obtain ⟨e, he, rfl⟩ := List.mem_map.1 hy
    have := (elN_mem.1 he).1
    simp; omega)
  obtain ⟨A, c, rfl, -⟩ := hv
  clear hg hs
  go_enter Tryz.func104, Tryz.ntmps104
  have HB := hid (below_alloc (Below.refl _ w) (.cells #[(.slice A xs.length c)] 26))
  have A0 := hid (At.newAt w (.slice A xs.length c) 26 w.heap.size (by simp))
  go_wp2
  go_loopw [1, 11] (fun q i wr => ∃ k t : Nat, k ≤ xs.length ∧ i = .int .i64 k ∧ q = .int .i64 (t : Nat) ∧ Hid (togW xs s (elL k r) = t) ∧ Below w.heap.size w wr ∧ At wr w.heap.size (.slice A xs.length c)) (fun _ i _ => xs.length - (intOf i).toNat)
  case atStart => exact ⟨0, s, Nat.zero_le _, rfl, rfl, hid rfl, HB.out, A0.out⟩
  case round =>
    obtain ⟨k, t, hk, rfl, rfl, HT, hb, ha⟩ := hrel
    have HB1 := hid hb
    have HA1 := hid ha
    by_cases hlt : k < xs.length
    · cases hbit : r.testBit k
      · have HBit := hid hbit
        clear hbit hb ha
        go_wp2_with (go_at_call 127; refine (poIn_any r k (by omega) _).mono ?_; rw [HBit.out]; rintro e w' ⟨rfl, rfl⟩)
        go_roundw
        case rel => exact ⟨k + 1, t, by omega, by go_num, rfl, hid (by rw [elL_no HBit.out]; exact HT.out), HB1.out, HA1.out⟩
        case measure => simp [intOf]; omega
      · have HBit := hid hbit
        have hl2 : togW xs s (elL k r) < 2 ^ xs.length := togW_lt HN.out (HIn.out k hk)
        have HL := hid (show t < 2 ^ xs.length by rw [← HT.out]; exact hl2)
        have hbox := ha.1
        clear hbit hb ha hl2
        go_wp2_with (go_at_call 127; refine (poIn_any r k (by omega) _).mono ?_; rw [HBit.out]; rintro e w' ⟨rfl, rfl⟩)
        clear hbox
        refine (tgAt_any _ xs t k _ (HV.out.below HB1.out) HG.out HL.out hlt).mono ?_
        rintro e' w' ⟨rfl, hb⟩
        have HB2 := hid (below_to HB1.out hb)
        have HA2 := hid (HA1.out.below hb)
        clear hb
        go_wp2
        go_roundw
        case rel => exact ⟨k + 1, _, by omega, by go_num, rfl, hid (by rw [elL_yes HBit.out, togW_app, HT.out]; rfl), HB2.out, HA2.out⟩
        case measure => simp [intOf]; omega
    · obtain rfl : k = xs.length := by omega
      clear hb ha
      go_wp2
      go_ret
      exact ⟨ret_int (by rw [← HT.out]), HB1.out⟩
end Go.Proofs.YtdemikjaghegnaaGreat

/- ToggleAt, CanToggle. -/
namespace Go.Proofs.YtdemikjaghegnaaGreat
open Go.RowKit Go.WideShapes Go.ChangeShapes
set_option linter.unusedVariables false

theorem okWord_one (xs : List Int) (e : Int) : okWord xs [e] = (decide (0 ≤ e) && decide (e < xs.length)) := by
  simp [okWord, inW]
theorem togW_one (xs : List Int) (s : Nat) (e : Nat) : togW xs s [(e : Int)] = tog xs s e := by simp [togW]
/-! ### CanToggle -/
def ansCT (xs : List Int) (s : Int) : Int := if okIdeal xs s then (canT xs s.toNat xs.length : Int) else 0
theorem ansCT_no {xs : List Int} {s : Int} (h : okIdeal xs s = false) : ansCT xs s = 0 := by simp [ansCT, h]
theorem ansCT_yes {xs : List Int} {z : Nat} (h : okIdeal xs z = true) : ansCT xs z = (canT xs z xs.length : Int) := by simp [ansCT, h]
end Go.Proofs.YtdemikjaghegnaaGreat

/- Words of ranks in the model. -/
namespace Go.Proofs.YtdemikjaghegnaaGreat
open Go.RowKit Go.WideShapes Go.ChangeShapes
set_option linter.unusedVariables false

theorem rank_facts {xs : List Int} (hg : good xs = true) {i : Nat} (hi : i < rkN xs) : ∃ r : Nat, (rankL xs).getD i 0 = (r : Int) ∧ r < 2 ^ xs.length ∧ r < 1024 ∧ elL 10 ((rankL xs).getD i 0).toNat = elL xs.length r := by
  have h1 := rkE_lt (heightsL xs) (Nat.le_refl xs.length) i
  refine ⟨_, rankL_get hi, h1, lt1024 h1 (good_length hg).2, ?_⟩
  rw [rankL_get hi, Int.toNat_natCast]
  exact elL_ten h1 (good_length hg).2
structure SR (w : World) (b : Nat) (v : Value) (W : World) : Prop where
  at_ : At W b v
  below : Below w.heap.size w W
theorem SR.drew {w : World} {b : Nat} {v : Value} {W : World} (h : SR w b v W) : SR w b v W.drew := ⟨h.at_.drew, h.below.drew⟩
theorem SR.to {w : World} {b : Nat} {v : Value} {W W' : World} (h : SR w b v W) (hb : Below W.heap.size W W') : SR w b v W' := ⟨h.at_.below hb, below_to h.below hb⟩
theorem rvAt_SR (v : Value) (xs : List Int) (w0 : World) (b s r : Nat) (W : World) (hv : Ints w0 v xs) (hg : good xs = true) (hS : SR w0 b v W) (hs : s < 2 ^ xs.length) (hr : r < 1024) :
    Calls Tryz.prog 104 #[.agg #[v], .int .i64 s, .int .i64 r] W fun q w' => q = .returned (.int .i64 (togW xs s (elL xs.length r) : Nat)) ∧ SR w0 b v w' :=
  (rvAt_any v xs s r W (hv.below hS.below) hg hs hr).mono fun _ _ ⟨h1, h2⟩ => ⟨h1, hS.to h2⟩
set_option maxHeartbeats 1600000 in
theorem rvWord_any (v u : Value) (xs ws : List Int) (s : Nat) (w : World) (hv : Ints w v xs) (hu : Ints w u ws) (hg : good xs = true) (hs : s < 2 ^ xs.length) (hw : inW (rkN xs) ws = true) (hm : ws.length ≤ 1048576) :
    Calls Tryz.prog 54 #[.agg #[v], .int .i64 s, u] w fun q w' => q = .returned (.int .i64 (togW xs s (rkW (rankL xs) ws) : Nat)) ∧ Below w.heap.size w w' := by
  have HV := hid hv
  have HU := hid hu
  have HG := hid hg
  have HN := hid hs
  have HW := hid hw
  have hr10 : rkN xs ≤ 10 := by have := rkN_bounds hg; have := good_length hg; omega
  have HLt := hid (fun k => togW_lt (xs := xs) hs (inW_rkW hg (inW_take k hw)))
  have HF := hid (fun i (hi : i < rkN xs) => rank_facts hg hi)
  obtain ⟨uA, uc, rfl, -⟩ := hu
  clear hv hg hs hw
  go_enter Tryz.func54, Tryz.ntmps54
  have HB := hid (below_alloc (Below.refl _ w) (.cells #[v] 26))
  have A0 := hid (At.newAt w v 26 w.heap.size (by simp))
  go_wp2_with fail
  refine (rvRanks_any _ xs _ (HV.out.below HB.out) HG.out).mono ?_
  rintro e w' ⟨q, rfl, ho, hb⟩
  replace HB := hid (below_to HB.out hb)
  replace A0 := hid (A0.out.below hb)
  clear hb
  have HI := hid ho.ints
  obtain ⟨qA, qc, rfl, hqA⟩ := HI.out
  rw [rankL_length] at hqA ⊢
  have HQ := hid hqA
  have HV1 := hid (HV.out.below HB.out)
  have HU1 := hid (HU.out.below HB.out)
  obtain ⟨_, _, he, hUA⟩ := HU1.out
  cases he
  have HUA := hid hUA
  have HS0 := hid (show SR w' w.heap.size v w' from ⟨A0.out, Below.refl _ _⟩)
  have hz := HB.out.size
  clear ho HI hqA hUA
  go_wp2
  go_loopw [1, 14] (fun q i wr => ∃ k t : Nat, k ≤ ws.length ∧ i = .int .i64 k ∧ q = .int .i64 t ∧ Hid (togW xs s (rkW (rankL xs) (ws.take k)) = t) ∧ SR w' w.heap.size v wr) (fun _ i _ => ws.length - (intOf i).toNat)
  case atStart => exact ⟨0, s, Nat.zero_le _, rfl, rfl, hid rfl, HS0.out⟩
  case round =>
    obtain ⟨k, t, hk, rfl, rfl, HT, hS⟩ := hrel
    have HS := hid hS
    by_cases hlt : k < ws.length
    · obtain ⟨b, o, rfl, hbl, hc⟩ := HUA.out (by intro h; simp [h] at hlt)
      have hcell : wr.cell? ⟨b, o + k, none⟩ = some (.int .i64 (ws.getD k 0)) := (hS.below.cell (p := ⟨b, o + k, none⟩) hbl).trans (hc k hlt)
      have hin := inW_at HW.out hlt
      have HTk := hid (rkW_take (rankL xs) ws hlt)
      obtain ⟨x, hx⟩ : ∃ x, ws.getD k 0 = x := ⟨_, rfl⟩
      rw [hx] at hcell hin HTk
      obtain ⟨i, rfl⟩ := Int.eq_ofNat_of_zero_le hin.1
      have hi1 : i < rkN xs := by omega
      obtain ⟨r, hr1, hr2, hr3, hr4⟩ := HF.out i hi1
      rw [Int.toNat_natCast, hr4] at HTk
      have hne : rankL xs ≠ [] := by intro h; have := rankL_length xs; rw [h] at this; simp at this; omega
      obtain ⟨b2, o2, rfl, hbl2, hc2⟩ := HQ.out hne
      have HC2 : Hid (∀ W : World, SR w' w.heap.size v W → W.cell? ⟨b2, o2 + i, none⟩ = some (.int .i64 r)) := hid (fun W h => by rw [(h.below.cell (p := ⟨b2, o2 + i, none⟩) hbl2).trans (hc2 i hi1), hr1])
      have hcr := HC2.out _ hS
      have HL := hid (show t < 2 ^ xs.length by rw [← HT.out]; exact HLt.out k)
      have hbox := hS.at_.1
      have hix : (i : Int) < rkN xs := by omega
      clear hc hc2 hx hS hin hr1 hr2 hr4 hne hbl hbl2
      go_wp2_with fail
      go_region_held3 (fun W => W.cell? ⟨w.heap.size, 0, none⟩ = some v ∧ W.cell? ⟨b2, o2 + i, none⟩ = some (.int .i64 r) ∧ Hid (SR w' w.heap.size v W)) (first | exact ⟨HS.out.drew.at_.1, hcr, hid HS.out.drew⟩ | exact ⟨HS2.out.at_.1, HC2.out _ HS2.out, HS2⟩) (first | (go_at_call 104; refine (rvAt_SR v xs w' w.heap.size _ _ _ HV1.out HG.out (Hid.out (by first | assumption | exact hid HS.out.drew)) HL.out hr3).mono ?_; rintro e' w4 ⟨rfl, hs4⟩; have HS2 := hid hs4; clear hs4))
      go_wp2
      go_roundw
      case rel => exact ⟨k + 1, _, by omega, by go_num, rfl, hid (by rw [HTk.out, togW_app, HT.out]), HS2.out⟩
      case measure => simp [intOf]; omega
    · obtain rfl : k = ws.length := by omega
      clear hS
      go_wp2
      go_ret
      exact ⟨ret_int (by rw [← HT.out, List.take_length]), below_to HB.out HS.out.below⟩
/-! ### ToggleRank, ToggleRanks -/
def okTR (xs ws : List Int) (s : Int) : Bool := okRI xs s && (decide (ws.length ≤ 40) && inW (rkN xs) ws)
def ansTR (xs ws : List Int) (s : Int) : Int := if okTR xs ws s then (togW xs s.toNat (rkW (rankL xs) ws) : Int) else 0
theorem okTR_no1 {xs ws : List Int} {s : Int} (h : okRI xs s = false) : okTR xs ws s = false := by simp [okTR, h]
theorem okTR_no2 {xs ws : List Int} {s : Int} (h : ¬ ws.length ≤ 40) : okTR xs ws s = false := by simp [okTR, h]
theorem okTR_no3 {xs ws : List Int} {s : Int} (h : inW (rkN xs) ws = false) : okTR xs ws s = false := by simp [okTR, h]
theorem okTR_yes {xs ws : List Int} {s : Int} (h : okRI xs s = true) (h2 : ws.length ≤ 40) (h3 : inW (rkN xs) ws = true) : okTR xs ws s = true := by simp [okTR, h, h2, h3]
theorem ansTR_no {xs ws : List Int} {s : Int} (h : okTR xs ws s = false) : ansTR xs ws s = 0 := by simp [ansTR, h]
theorem ansTR_yes {xs ws : List Int} {z : Nat} (h : okTR xs ws z = true) : ansTR xs ws z = (togW xs z (rkW (rankL xs) ws) : Int) := by simp [ansTR, h]
theorem specToggleRanks_any (v : Value) (xs : List Int) (s : Int) (u : Value) (ws : List Int) (w : World) (hv : Ints w v xs) (hl : xs.length ≤ 1048576) (wf : (Lit.int .i64 s).wf = true) (hu : Ints w u ws) (hm : ws.length ≤ 1048576) :
    Calls Tryz.prog 17 #[.agg #[v], .int .i64 s, u] w fun r w' => r = .returned (.tuple #[.int .i64 (ansTR xs ws s), .bool (okTR xs ws s)]) ∧ Below w.heap.size w w' := by
  have HV := hid hv
  have HU := hid hu
  obtain ⟨uA, uc, rfl, -⟩ := hu
  clear hv wf
  go_enter Tryz.func17, Tryz.ntmps17
  have HB := hid (below_alloc (Below.refl _ w) (.cells #[v] 26))
  have A0 := hid (At.newAt w v 26 w.heap.size (by simp))
  go_wp2_with fail
  refine (rvIn_any _ xs s _ (HV.out.below HB.out) hl).mono ?_
  rintro e w' ⟨rfl, hb⟩
  replace HB := hid (below_to HB.out hb)
  replace A0 := hid (A0.out.below hb)
  clear hb
  cases hq : okRI xs s
  · have HO := hid (okTR_no1 (ws := ws) hq)
    clear hq
    have ebox0 := A0.out.1
    go_wp2
    go_ret2
    exact ⟨ret_ib (ansTR_no HO.out).symm HO.out.symm, HB.out⟩
  · have HQ := hid hq
    obtain ⟨z, rfl, hg, hr, hz, hi⟩ := okRI_all hq
    have HG := hid hg
    have HZ := hid hz
    have hn10 := rkN_bounds hg
    have hg10 := (good_length hg).2
    clear hq hg hr hz hi
    by_cases h40 : ws.length ≤ 40
    · skip
      have ebox0 := A0.out.1
      go_wp2_with fail
      clear ebox0
      refine (rvRanks_any _ xs _ (HV.out.below HB.out) HG.out).mono ?_
      rintro e w' ⟨q, rfl, ho, hb⟩
      replace HB := hid (below_to HB.out hb)
      replace A0 := hid (A0.out.below hb)
      clear hb
      obtain ⟨qA, qc, rfl, -⟩ := ho.shape
      rw [rankL_length]
      clear ho
      have ebox0 := A0.out.1
      go_wp2_with fail
      clear ebox0
      refine (l1All_any _ ws (rkN xs) _ (HU.out.below HB.out) hm (by omega)).mono ?_
      rintro e w' ⟨rfl, hb⟩
      replace HB := hid (below_to HB.out hb)
      replace A0 := hid (A0.out.below hb)
      clear hb
      cases hw : inW (rkN xs) ws
      · have HO := hid (okTR_no3 (s := (z : Int)) hw)
        clear hw
        have ebox0 := A0.out.1
        go_wp2
        go_ret2
        exact ⟨ret_ib (ansTR_no HO.out).symm HO.out.symm, HB.out⟩
      · have HO := hid (okTR_yes HQ.out h40 hw)
        have HW := hid hw
        clear hw
        have ebox0 := A0.out.1
        go_wp2_with fail
        clear ebox0
        refine (rvWord_any _ _ xs ws z _ (HV.out.below HB.out) (HU.out.below HB.out) HG.out HZ.out HW.out hm).mono ?_
        rintro e w' ⟨rfl, hb⟩
        replace HB := hid (below_to HB.out hb)
        replace A0 := hid (A0.out.below hb)
        clear hb
        have ebox0 := A0.out.1
        go_wp2
        go_ret2
        exact ⟨ret_ib (ansTR_yes HO.out).symm HO.out.symm, HB.out⟩
    · have HO := hid (okTR_no2 (xs := xs) (s := (z : Int)) h40)
      have ebox0 := A0.out.1
      go_wp2
      go_ret2
      exact ⟨ret_ib (ansTR_no HO.out).symm HO.out.symm, HB.out⟩
end Go.Proofs.YtdemikjaghegnaaGreat
