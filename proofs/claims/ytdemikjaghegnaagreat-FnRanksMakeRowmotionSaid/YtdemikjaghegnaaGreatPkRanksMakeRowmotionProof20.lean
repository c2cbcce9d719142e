/- Texts RvY, AddRow, OrbC, Pc, Size, OrbS, OrbT, CycD, OrbE, Mean, one behind the other. -/
import Derived.Test.YtdemikjaghegnaaGreatPkRanksMakeRowmotionProof01
import Derived.Test.YtdemikjaghegnaaGreatPkRanksMakeRowmotionProof02
import Derived.Test.YtdemikjaghegnaaGreatPkRanksMakeRowmotionProof05
import Derived.Test.YtdemikjaghegnaaGreatPkRanksMakeRowmotionProof06
import Derived.Test.YtdemikjaghegnaaGreatPkRanksMakeRowmotionProof07
import Derived.Test.YtdemikjaghegnaaGreatPkRanksMakeRowmotionProof12
import Derived.Test.YtdemikjaghegnaaGreatPkRanksMakeRowmotionProof15
import Derived.Test.YtdemikjaghegnaaGreatPkRanksMakeRowmotionProof17
import Derived.Test.YtdemikjaghegnaaGreatPkRanksMakeRowmotionProof19
/- The lengths of all orbits of gyration, in order: the model's and the program's contracts. -/
namespace Go.Proofs.YtdemikjaghegnaaGreat
open Go.RowKit Go.WideShapes Go.ChangeShapes
set_option linter.unusedVariables false

theorem cycIn_congr {f g : Nat → Nat} {D : Nat → Bool} (h : ∀ s, D s = true → f s = g s ∧ D (f s) = true) (c : Nat) : ∀ (seen : List Bool) (s n : Nat), D s = true → cycIn f c seen s n = cycIn g c seen s n := by
  induction c with
  | zero => intro seen s n _; rfl
  | succ c ih =>
    intro seen s n hs
    obtain ⟨h1, h2⟩ := h s hs
    simp only [cycIn]
    rw [← h1, ih _ (f s) _ h2]
theorem cycSt_congr {f g : Nat → Nat} {D : Nat → Bool} (h : ∀ s, D s = true → f s = g s ∧ D (f s) = true) {N : Nat} {ids : List Int} (hD : ∀ j, j < ids.length → D (ids.getD j 0).toNat = true) (k : Nat) (hk : k ≤ ids.length) : cycSt f N ids k = cycSt g N ids k := by
  induction k with
  | zero => rfl
  | succ k ih =>
    simp only [cycSt]
    rw [ih (by omega)]
    unfold cyc1
    rw [cycIn_congr h _ _ _ _ (hD k (by omega))]
theorem gyr_cycles {xs : List Int} (hg : good xs = true) (hr : rankedB xs = true) {h : Nat} (hh : rkN xs = h + 1) :
    cyclesL (gyF xs) (2 ^ xs.length) (setsL (holdsIdeal xs) (2 ^ xs.length)) = cyclesL (wordF xs (rkW (rankL xs) (wGyr h))) (2 ^ xs.length) (setsL (holdsIdeal xs) (2 ^ xs.length)) := by
  unfold cyclesL
  rw [cycSt_congr (g := wordF xs (rkW (rankL xs) (wGyr h))) (D := holdsIdeal xs) (ids := setsL (holdsIdeal xs) (2 ^ xs.length)) (fun s hs => ⟨gyF_word hg hr hh hs, togW_ideal (togW_ideal hs)⟩) (fun j hj => by
    obtain ⟨s, h1, _, h2⟩ := setsL_bound hj
    rw [h1, Int.toNat_natCast]; exact h2) _ (Nat.le_refl _)]
def idsR (xs : List Int) : List Int := setsL (holdsIdeal xs) (2 ^ xs.length)
theorem idsR_length {xs : List Int} : 1 ≤ (idsR xs).length := by
  have h0 : holdsIdeal xs 0 = true := by rw [holdsIdeal_row]; intro e he hb; simp at hb
  unfold idsR setsL
  rw [List.length_map]
  apply List.length_pos_of_mem (a := 0)
  rw [List.mem_filter]
  exact ⟨List.mem_range.2 (Nat.two_pow_pos _), h0⟩
theorem idsR_D (xs : List Int) (j : Nat) (hj : j < (idsR xs).length) : idB xs ((idsR xs).getD j 0).toNat = true := by
  obtain ⟨s, h1, h2, h3⟩ := setsL_bound (f := holdsIdeal xs) (N := 2 ^ xs.length) hj
  have : (idsR xs).getD j 0 = (s : Int) := h1
  rw [this, Int.toNat_natCast]
  exact idB_iff.2 ⟨h2, h3⟩
/-- the lengths of the orbits of gyration -/
def gyCy (xs : List Int) : List Int := cyclesL (gyF xs) (2 ^ xs.length) (setsL (holdsIdeal xs) (2 ^ xs.length))
theorem gyCy_length {xs : List Int} (hg : good xs = true) : (gyCy xs).length ≤ 1024 := by
  have h1 := (cycSt_length (gyF xs) (2 ^ xs.length) (setsL (holdsIdeal xs) (2 ^ xs.length)) (setsL (holdsIdeal xs) (2 ^ xs.length)).length).2
  have h2 := setsL_length (holdsIdeal xs) (2 ^ xs.length)
  have h3 := pow10 (good_length hg).2
  unfold gyCy cyclesL
  omega
theorem gyCy_ne {xs : List Int} (hg : good xs = true) (hr : rankedB xs = true) : gyCy xs ≠ [] := by
  obtain ⟨h, hh, h9⟩ := rkN_some hg
  have hw : inW xs.length (rkW (rankL xs) (wGyr h)) = true := inW_rkW hg (inW_wGyr (by omega))
  unfold gyCy
  rw [gyr_cycles hg hr hh]
  intro hn
  have h0 : 0 < (idsR xs).length := idsR_length
  have hs := startsN_seen (togMov hw) (idsR_D xs) (Nat.le_refl _) h0
  have he : startsN (fun s => togW xs s (rkW (rankL xs) (wGyr h))) (2 ^ xs.length) (idsR xs) (idsR xs).length = [] := by
    have hcy := cyclesL_starts (togMov hw) (idsR_D xs)
    have hn2 : cyclesL (fun s => togW xs s (rkW (rankL xs) (wGyr h))) (2 ^ xs.length) (idsR xs) = [] := hn
    rw [hcy] at hn2
    exact List.map_eq_nil_iff.1 hn2
  rw [he] at hs
  cases hs
def ansGL (xs : List Int) : List Int := if okRk xs then sortL (gyCy xs) else []
theorem ansGL_no {xs : List Int} (h : okRk xs = false) : ansGL xs = [] := by simp [ansGL, h]
theorem ansGL_yes {xs : List Int} (h : okRk xs = true) : ansGL xs = sortL (gyCy xs) := by simp [ansGL, h]
theorem ansGL_length (xs : List Int) : (ansGL xs).length ≤ 1048576 := by
  cases h : okRk xs
  · rw [ansGL_no h]; simp
  · rw [ansGL_yes h, sortL_length]; have := gyCy_length (okRk_good h).1; omega
theorem cyc_SR (v u : Value) (xs ys : List Int) (w0 : World) (b : Nat) (W : World) (hv : Ints w0 v xs) (hu : Ints W u ys) (hg : good xs = true) (hy : inW xs.length ys = true) (hm : ys.length ≤ 1048576) (hS : SR w0 b v W) :
    Calls Tryz.prog 74 #[.agg #[v], .iface 62 u] W fun (r : Ending) w' => ∃ q, r = Ending.returned q ∧ OwnI 3 w' w0.heap.size q (cyclesL (wordF xs ys) (2 ^ xs.length) (setsL (holdsIdeal xs) (2 ^ xs.length))) ∧ SR w0 b v w' :=
  (cyclesOf_any v u xs ys W (hv.below hS.below) hu hg hy hm).mono fun _ _ ⟨q, h1, h2, h3⟩ => ⟨q, h1, h2.mono hS.below.size, hS.to h3⟩
set_option maxHeartbeats 1600000 in
theorem implGyrationLengths_any (v : Value) (xs : List Int) (w : World) (hv : Ints w v xs) (hl : xs.length ≤ 1048576) :
    Calls Tryz.prog 27 #[.agg #[v]] w fun (r : Ending) w' => ∃ q, r = Ending.returned (.tuple #[q, .bool (okRk xs)]) ∧ OwnI 3 w' w.heap.size q (ansGL xs) ∧ (ansGL xs).length ≤ 1048576 ∧ Below w.heap.size w w' := by
  have HV := hid hv
  have HL := hid (ansGL_length xs)
  clear hv
  go_enter Tryz.func27, Tryz.ntmps27
  have HB := hid (below_alloc (Below.refl _ w) (.cells #[v] 26))
  have A0 := hid (At.newAt w v 26 w.heap.size (by simp))
  go_wp2_with fail
  refine (implRanksOf_any _ xs _ (HV.out.below HB.out) hl).mono ?_
  rintro e w' ⟨q, rfl, ho, -, hb⟩
  replace HB := hid (below_to HB.out hb)
  replace A0 := hid (A0.out.below hb)
  clear hb
  cases hk : okRk xs
  · have HO := hid hk
    obtain ⟨qA, qn, qc, rfl⟩ := ho.shape3
    clear hk ho
    have ebox0 := A0.out.1
    go_wp2
    go_ret2
    exact ⟨_, ret_vbS HO.out.symm, by rw [ansGL_no HO.out]; exact OwnI.nil _ _ _, HL.out, HB.out⟩
  · have HO := hid hk
    rw [ansRO_yes hk] at ho
    obtain ⟨hg, hr⟩ := okRk_good hk
    obtain ⟨h, hh, h9⟩ := rkN_some hg
    have HQ := hid ho.ints
    have HG := hid hg
    have HCy := hid (gyr_cycles hg hr hh)
    have HNe := hid (gyCy_ne hg hr)
    have HLl : Hid ((gyCy xs).length ≤ 1048576) := hid (by have := gyCy_length hg; omega)
    have HEl := hid (inW_rkW hg (show inW (rkN xs) (wGyr h) = true from inW_wGyr (by omega)))
    have HLn := hid (rkW_length (rankL xs) (wGyr h))
    have HLw := hid (wGyr_length h9)
    have HSm := hid (rank_small hg)
    have HRl : Hid ((rankL xs).length = h + 1) := hid (by rw [rankL_length, hh])
    have HV1 := hid (HV.out.below HB.out)
    have HS := hid (show SR w' w.heap.size v w' from ⟨A0.out, Below.refl _ _⟩)
    have hbx := A0.out.1
    have hz := HB.out.size
    clear hk ho hg hr hh
    go_wp2_with fail
    go_region_held3 (fun W => W.cell? ⟨w.heap.size, 0, none⟩ = some v ∧ Hid (SR w' w.heap.size v W)) (first | exact ⟨HS3.out.at_.1, HS3⟩ | exact ⟨HS2.out.at_.1, HS2⟩ | exact ⟨HS.out.drew.at_.1, hid HS.out.drew⟩) (first | (go_at_call 73; refine (sTGyr_SR _ (rankL xs) h w' w.heap.size _ HQ.out HRl.out h9 HSm.out v (Hid.out (by first | assumption | exact hid HS.out.drew))).mono ?_; rintro e' w4 ⟨q4, rfl, hu4, hs4⟩; have HU4 := hid hu4; have HS2 := hid hs4; clear hu4 hs4) | (go_at_call 74; refine (cyc_SR v _ xs _ w' w.heap.size _ HV1.out HU4.out HG.out HEl.out (by have := HLn.out; have := HLw.out; omega) HS2.out).mono ?_; rintro e' w5 ⟨q5, rfl, ho5, hs5⟩; have HO5 := hid ho5; have HS3 := hid hs5; clear ho5 hs5))
    have HB3 := hid (below_to HB.out HS3.out.below)
    rw [← HCy.out] at HO5
    have HO6 : Hid (OwnI 3 _ w.heap.size _ (gyCy xs)) := hid (HO5.out.mono hz)
    obtain ⟨qA, qn, qc, rfl⟩ := HO6.out.shape3
    clear hbx
    go_wp2_with fail
    refine (sort_any _ (gyCy xs) _ _ HO6.out HNe.out HLl.out).mono ?_
    rintro e w6 ⟨rfl, ho7, hb7⟩
    have HO7 := hid ho7
    have HB7 := hid (HB3.out.trans hb7)
    clear ho7 hb7
    go_wp2
    go_ret2
    exact ⟨_, ret_vbS HO.out.symm, by rw [ansGL_yes HO.out]; exact HO7.out, HL.out, HB7.out⟩
theorem gyF_lt {xs : List Int} {s : Nat} (hs : s < 2 ^ xs.length) : gyF xs s < 2 ^ xs.length := togW_lt (togW_lt hs (ev_in 0)) (ev_in 1)
set_option maxHeartbeats 3200000 in
theorem specGyrationLengths_any (v : Value) (xs : List Int) (w : World) (hv : Ints w v xs) (hl : xs.length ≤ 1048576) :
    Calls Tryz.prog 28 #[.agg #[v]] w fun (r : Ending) w' => ∃ q, r = Ending.returned (.tuple #[q, .bool (okRk xs)]) ∧ OwnI 3 w' w.heap.size q (ansGL xs) ∧ (ansGL xs).length ≤ 1048576 ∧ Below w.heap.size w w' := by
  have HV := hid hv
  have HL := hid (ansGL_length xs)
  obtain ⟨A, c, rfl, -⟩ := hv
  go_enter Tryz.func28, Tryz.ntmps28
  have HB := hid (below_alloc (Below.refl _ w) (.cells #[(.slice A xs.length c)] 26))
  have A0 := hid (At.newAt w (.slice A xs.length c) 26 w.heap.size (by simp))
  go_wp2_with fail
  refine (rvGood_any _ xs _ (HV.out.below HB.out) hl).mono ?_
  rintro e w' ⟨rfl, hb⟩
  replace HB := hid (below_to HB.out hb)
  replace A0 := hid (A0.out.below hb)
  clear hb
  cases hq : okRk xs
  · have HO := hid hq
    clear hq
    have ebox0 := A0.out.1
    go_wp2
    go_ret2
    exact ⟨_, ret_vbS HO.out.symm, by rw [ansGL_no HO.out]; exact OwnI.nil _ _ _, HL.out, HB.out⟩
  · have HOk := hid hq
    have HG := hid (okRk_good hq).1
    have hl10 := (good_length HG.out).2
    have HEnd := hid (ansGL_yes hq)
    have HGl := hid (fun s (hs : s < 2 ^ xs.length) => gyF_lt hs)
    obtain ⟨w1, hw1⟩ : ∃ x, x = w' := ⟨_, rfl⟩
    rw [← hw1] at HB A0 ⊢
    obtain ⟨g, hg⟩ : ∃ g, w1.heap.size = g := ⟨_, rfl⟩
    have hw1g : w.heap.size < g := by rw [← hg]; exact A0.out.2
    obtain ⟨N, hN⟩ : ∃ N, 2 ^ xs.length = N := ⟨_, rfl⟩
    have hN2 := two_pow_le xs.length hl10
    rw [hN] at hN2 HGl
    obtain ⟨I, hI⟩ : ∃ I, setsL (holdsIdeal xs) N = I := ⟨_, rfl⟩
    have HAt := hid (fun j hj => setsL_bound (f := holdsIdeal xs) (N := N) (j := j) hj)
    have hIN := setsL_length (holdsIdeal xs) N
    rw [hI] at HAt hIN
    have HI := hid (show setsL (holdsIdeal xs) (2 ^ xs.length) = I by rw [hN]; exact hI)
    have HN := hid hN
    have HFin : Hid (ansGL xs = sortL (cycSt (gyF xs) N I I.length).2) := hid (by rw [HEnd.out, gyCy, hN, hI]; rfl)
    have wp : wrap64 ((2 : Int) ^ xs.length) = (N : Int) := by rw [wrap_pow xs.length hl10, hN]
    have hmk := run_make_row' (P := Tryz.prog) 73 4 (.bool false) 1 Tryz.underlying73 infoBool rfl .i64 .i64 N (by omega) (by omega)
    have hbx := A0.out.1
    obtain ⟨F, hF⟩ : ∃ F, gyF xs = F := ⟨_, rfl⟩
    rw [hF] at HGl HFin
    have HFd := hid hF
    clear hq hw1 hI hF hN
    go_wp2_with fail
    clear wp hbx
    refine (poIdeals_any _ xs _ ((HV.out.below HB.out).alloc _) HG.out).mono ?_
    rw [HI.out]
    rintro e w' ⟨iu, rfl, ho, hb⟩
    have HB2 := hid (below_to (below_alloc HB.out _) hb)
    have HBox : Hid (At w' w.heap.size (.slice A xs.length c)) := hid ((A0.out.alloc _).below hb)
    have HSeen : Hid (Blk w' g 4 (BVals (List.replicate N false))) := hid (by
      rw [← BVals_made]
      exact (Blk.newAt _ 4 (madeCells #[.bool false] N) g hg.symm).below hb (by simp; omega))
    obtain ⟨iA, iN, ic, rfl⟩ := ho.shape3
    have hiN : iN = I.length := by
      obtain ⟨_, _, h, _⟩ := ho.shape
      cases h; rfl
    subst hiN
    have HO := hid (ho.mono (B' := g + 1) (by simp; omega))
    have HOB : Hid (∀ k, (Value.slice iA I.length ic).ownBlock = some k → g + 1 ≤ k ∧ k < w'.heap.size) := hid (fun k hk => by
      have h1 := ho.blockLt k hk
      simp at h1
      omega)
    have hgw : g < w'.heap.size := HSeen.out.lt
    have hwg : w.heap.size < g := hw1g
    have hbx := HBox.out.1
    clear hb ho hmk hg
    go_wp2
    clear hbx
    go_loopw [5, 20] (fun q i wr => ∃ (j : Nat) (oA : Option Addr) (on oc : Nat), j ≤ I.length ∧ i = .int .i64 j ∧ q = .slice oA on oc ∧ Blk wr g 4 (BVals (cycSt F N I j).1) ∧ OwnI 3 wr w'.heap.size (.slice oA on oc) (sortL (cycSt F N I j).2) ∧ TurnedIn g (g + 1) w' wr) (fun _ i _ => I.length - (intOf i).toNat)
    case atStart => exact ⟨0, none, 0, 0, Nat.zero_le _, rfl, rfl, HSeen.out, (by show OwnI _ _ _ _ (sortL []); rw [sortL_nil]; exact OwnI.nil _ _ _), TurnedIn.refl _ _ _⟩
    case round =>
      obtain ⟨j, oA, on, oc, hj, rfl, rfl, hB, hq, ht⟩ := hrel
      have HBk := hid hB
      have HQ := hid hq
      have HT := hid ht
      clear hB hq
      by_cases hlt : j < I.length
      · obtain ⟨s, hs, hsN, hIs⟩ := HAt.out j hlt
        have hoi := HO.out.turned ht HOB.out (.inr (Nat.le_refl _))
        have hcell : ∃ b, iA = some ⟨b, 0, none⟩ ∧ wr.cell? ⟨b, 0 + j, none⟩ = some (.int .i64 s) := by
          obtain ⟨A', c', h1, h2⟩ := hoi.shape
          obtain ⟨A2, c2, h3, h4⟩ := hoi.ints
          cases h1
          obtain ⟨b, h5, -, -⟩ := h2 (by intro h; simp [h] at hlt)
          cases h3
          obtain ⟨b2, o2, h6, -, h7⟩ := h4 (by intro h; simp [h] at hlt)
          have h8 : b2 = b ∧ o2 = 0 := by rw [h5] at h6; cases h6; exact ⟨rfl, rfl⟩
          obtain ⟨rfl, rfl⟩ := h8
          exact ⟨_, h5, by rw [h7 j hlt, hs]⟩
        obtain ⟨b, rfl, hcell⟩ := hcell
        rw [Nat.zero_add] at hcell
        have HS := hid hs
        obtain ⟨seen0, hs0⟩ : ∃ l, (cycSt F N I j).1 = l := ⟨_, rfl⟩
        obtain ⟨out0, ho0⟩ : ∃ l, (cycSt F N I j).2 = l := ⟨_, rfl⟩
        have hlen := cycSt_length F N I j
        rw [hs0] at HBk hlen
        rw [ho0] at HQ hlen
        obtain ⟨R, hR⟩ : ∃ R, cyc1 F seen0 s 0 = R := ⟨_, rfl⟩
        have HStep : Hid (cycSt F N I (j + 1) = (R.1, if 0 < R.2 then out0 ++ [(R.2 : Int)] else out0)) := hid (by
          simp only [cycSt, hs0, ho0, hs, Int.toNat_natCast, hR])
        have HLen := hid hlen.1
        have ho10 : out0.length ≤ 1024 := by omega
        have hc0 := cntF_le seen0
        have hc1 : 0 + cntF seen0 ≤ N := by rw [← hlen.1]; omega
        have HR := hid hR
        clear hs hs0 ho0 hR hoi ht hIs hlen hc0
        go_wp2
        clear hcell
        go_loopw [7, 8] (fun a i wi => ∃ (seen : List Bool) (t n : Nat), a = .int .i64 t ∧ i = .int .i64 n ∧ t < N ∧ Hid (seen.length = N) ∧ n + cntF seen ≤ N ∧ Hid (cyc1 F seen t n = R) ∧ Blk wi g 4 (BVals seen) ∧ Hid (OwnI 3 wi w'.heap.size (.slice oA on oc) (sortL out0)) ∧ TurnedIn g (g + 1) w' wi) (fun _ i _ => N - (intOf i).toNat)
        case atStart => exact ⟨seen0, s, 0, rfl, rfl, hsN, HLen, hc1, HR, HBk.out, HQ, HT.out⟩
        case round =>
          obtain ⟨seen, t, n, rfl, rfl, htN, HSL, hcn, HC, hB, HOut, ht⟩ := hrel
          have hct : wr.cell? ⟨g, t, none⟩ = some (.bool (seen.getD t true)) := by
            rw [hB.cell, BVals_get (by rw [HSL.out]; exact htN)]
          have hft := hB.frozen t
          have HBk2 := hid hB
          have HT2 := hid ht
          clear hB ht
          cases hst : seen.getD t true
          · rw [hst] at hct
            have hcs := cntF_set (show t < seen.length by rw [HSL.out]; exact htN) hst
            have HGo := hid (cyc1_go (f := F) (n := n) (show t < seen.length by rw [HSL.out]; exact htN) hst)
            have hn1 : n < N := by omega
            have hcn2 : n + 1 + cntF (seen.set t true) ≤ N := by omega
            have HL2 : Hid ((seen.set t true).length = N) := hid (by rw [List.length_set]; exact HSL.out)
            have hbox := (HBox.out.turned HT2.out (.inl hwg)).1
            have hne : w.heap.size ≠ g := by omega
            have hf1 : F t < N := HGl.out t htN
            have HBk3 : Hid (Blk (wr.setCell ⟨g, t, none⟩ (.bool true)) g 4 (BVals (seen.set t true))) := hid (by rw [← BVals_set]; exact HBk2.out.set_ t _)
            have HT3 : Hid (TurnedIn g (g + 1) w' (wr.setCell ⟨g, t, none⟩ (.bool true))) := hid (HT2.out.set_ ⟨g, t, none⟩ ⟨Nat.le_refl _, Nat.lt_succ_self _⟩ _)
            have HOut3 : Hid (OwnI 3 (wr.setCell ⟨g, t, none⟩ (.bool true)) w'.heap.size (.slice oA on oc) (sortL out0)) := hid (HOut.out.grown (grown_setCell (World.grownBy.refl _ _) t _) (HOut.out.apart (.inl hgw)))
            have HB3 := hid (below_turned HB2.out HT3.out (Nat.le_of_lt hwg))
            have HTN : Hid (t < 2 ^ xs.length) := hid (by rw [HN.out]; exact htN)
            have hbox3 := (HBox.out.turned HT3.out (.inl hwg)).1
            clear hst hcs
            go_wp2_with fail
            clear hct hft hbox hbox3
            refine (rvGyrate_any _ xs t false _ (HV.out.below HB3.out) HG.out HTN.out).mono ?_
            rintro e' w5 ⟨rfl, hb5⟩
            have HBk5 := hid (HBk3.out.below hb5 HBk3.out.lt)
            have HT5 := hid (HT3.out.trans (TurnedIn.of_below hb5))
            have HOut5 := hid (HOut3.out.below hb5)
            have HFt : Hid ((if false = true then gyB xs t else gyF xs t) = F t) := hid (by rw [← HFd.out]; rfl)
            rw [HFt.out]
            clear hb5
            go_wp2
            go_roundw
            case rel => exact ⟨seen.set t true, F t, n + 1, rfl, by go_num, hf1, HL2, hcn2, hid (by rw [← HGo.out]; exact HC.out), HBk5.out, HOut5, HT5.out⟩
            case measure => simp [intOf]; omega
          · rw [hst] at hct
            have HStop : Hid (R = (seen, n)) := hid (by rw [← HC.out]; exact cyc1_stop hst)
            have hnN : n ≤ N := by omega
            have HBel := hid (below_turned HB2.out HT2.out (Nat.le_of_lt hwg))
            clear hst
            by_cases hn0 : 0 < n
            · have HSt2 : Hid (cycSt F N I (j + 1) = (seen, out0 ++ [(n : Int)])) := hid (by rw [HStep.out, HStop.out]; simp [hn0])
              have hwz : w'.heap.size ≤ wr.heap.size := HT2.out.size
              go_wp2_with fail
              clear hct hft
              refine (rvPut_any _ out0 n _ _ HOut.out (by omega)).mono ?_
              rintro e' w6 ⟨q2, rfl, ho6, hb6⟩
              obtain ⟨qA, qn, qc, rfl⟩ := ho6.shape3
              have HO6 := hid (ho6.mono hwz)
              have HB6 := hid hb6
              have hgw6 : g < wr.heap.size := HBk2.out.lt
              clear ho6 hb6
              go_wp2
              go_roundw
              case rel => exact ⟨j + 1, qA, qn, qc, by omega, by go_num, rfl, (by rw [HSt2.out]; exact HBk2.out.below HB6.out hgw6), (by rw [HSt2.out]; exact HO6.out), HT2.out.trans (TurnedIn.of_below HB6.out)⟩
              case measure => simp [intOf]; omega
            · have HSt2 : Hid (cycSt F N I (j + 1) = (seen, out0)) := hid (by rw [HStep.out, HStop.out]; simp [hn0])
              go_wp2
              go_roundw
              case rel => exact ⟨j + 1, oA, on, oc, by omega, by go_num, rfl, (by rw [HSt2.out]; exact HBk2.out), (by rw [HSt2.out]; exact HOut.out), HT2.out⟩
              case measure => simp [intOf]; omega
      · obtain rfl : j = I.length := by omega
        have HBel := hid (below_turned HB2.out ht (Nat.le_of_lt hwg))
        have hww := HB2.out.size
        clear ht
        go_wp2
        go_ret2
        exact ⟨_, ret_vbS HOk.out.symm, by rw [HFin.out]; exact HQ.out.mono hww, HL.out, HBel.out⟩
end Go.Proofs.YtdemikjaghegnaaGreat

/- A row of the call's own, appended to a slice of rows of the call's own. -/
namespace Go.Proofs.YtdemikjaghegnaaGreat
open Go.RowKit Go.WideShapes Go.ChangeShapes
set_option linter.unusedVariables false

theorem own_apart {ti ts : TypeId} {w : World} {B B' n : Nat} {v u : Value} {l : List Int} {us : List Value} (hne : ti ≠ ts) (h : OwnI ti w B u l) (h2 : w.ownsRow B' ts 1 v n us) : u.ownBlock = none ∨ u.ownBlock ≠ v.ownBlock := by
  rcases hu : u.ownBlock with _ | k
  · exact .inl rfl
  · refine .inr fun e => ?_
    rcases h2.2 with ⟨rfl, _⟩ | ⟨b, cap, cur, rfl, _, hh, _⟩
    · simp [Value.ownBlock] at e
    · simp only [Value.ownBlock, Option.some.injEq] at e
      subst e
      rcases h.2 with ⟨rfl, _⟩ | ⟨g, cap', cur', rfl, _, hh', _⟩
      · simp [Value.ownBlock] at hu
      · simp only [Value.ownBlock, Option.some.injEq] at hu
        subst hu
        rw [hh] at hh'
        injection hh' with hh'
        injection hh' with _ hh'
        exact hne hh'.symm
/-- 'rows = append(rows, row)', all of the call's own, the row newer than what the slice has -/
theorem wpList_append_row {P : Program} {w W : World} {ops : Array Oper} {rest : List Oper} {o : Oper} {ac : Act} {Q : Exit → Act → World → Prop} (hgd : o.guard = none) (s x : Operand) (t ts ti : TypeId)
    (ho : o.op = .call { callee := .builtin .append, args := #[s, x], argTypes := #[t, t] }) (ht : P.underlying t = some (.slice ts)) (hinfo : (P.info? ts).map (fun i => (i.zero, i.size, i.bytes)) = some (some (.slice none 0 0), 1, 24))
    (hne : ti ≠ ts) (B E : Nat) (v u : Value) (ls : List (List Int)) (l : List Int) (hs : ac.eval s = v) (hown : OwnSS ti ts w B E v ls) (hu : OwnI ti w B u l) (huE : ∀ k, u.ownBlock = some k → E ≤ k)
    (hW : W = w.alloc (.cells #[u] ts)) (hx : ac.eval x = .slice (some ⟨w.heap.size, 0, none⟩) 1 1) (hlen : ls.length < 1048576) (hB : B ≤ w.heap.size) (hE : E ≤ w.heap.size)
    (h : ∀ v' w', OwnSS ti ts w' B w'.heap.size v' (ls ++ [l]) → Below B w w' → wpList P ops Q rest (ac.put o.dst v') w') : wpList P ops Q (o :: rest) ac W := by
  subst hW
  obtain ⟨i0, hi, hz0, hz1, hz2⟩ := info_parts hinfo
  obtain ⟨us, h1, h2, h3, h4, h5⟩ := hown
  obtain ⟨uA, un, uc, hush⟩ := hu.shape3
  have hulen : (un, uc, uA) = (un, uc, uA) := rfl
  refine wpList_append_own _ hgd s x t ho B ts i0 (.slice none 0 0) 1 24 ht hi hz0 hz1 hz2 rfl (by decide) v ls.length us hs (h2.alloc _) ⟨w.heap.size, 0, none⟩ 1 1 [u] hx rfl ?_ ?_ ?_ ?_ ?_ ?_
  · intro j y hj
    match j, hj with
    | 0, hj =>
      simp only [List.getElem?_cons_zero, Option.some.injEq] at hj
      subst hj
      exact (Blk.new w ts #[u]).cell 0
    | j + 1, hj => simp at hj
  · intro y hy
    simp only [List.mem_singleton] at hy
    subst hy; subst hush; rfl
  · unfold maxLen; omega
  · omega
  · simp; omega
  · intro v' w' h6 h7 _
    have hb : Below B w (w.alloc (.cells #[u] ts)) := (Below.refl _ _).alloc hB _
    have hB2 : Below B w w' := hb.grown h7 (by simp; omega) fun k hk => (h2.lt k hk).1
    have hsz : w.heap.size ≤ w'.heap.size := hB2.size
    refine h v' w' ⟨us ++ [u], by simp [h1], by simpa using h6, fun k hk => ?_, ?_, ?_⟩ hB2
    · exact (World.ownsRow.lt h6 k hk).2
    · intro j y m hy hm
      rw [List.getElem?_append] at hy hm
      by_cases hj : j < ls.length
      · rw [if_pos (by omega)] at hy
        rw [if_pos hj] at hm
        obtain ⟨a, b⟩ := h4 j y m hy hm
        exact ⟨(a.alloc _).grown h7 (own_apart hne a h2), fun k hk => by have := b k hk; omega⟩
      · rw [if_neg (by omega)] at hy
        rw [if_neg hj] at hm
        rcases Nat.eq_zero_or_pos (j - ls.length) with h0 | h0
        · rw [h0] at hm
          rw [h1, h0] at hy
          simp only [List.getElem?_cons_zero, Option.some.injEq] at hy hm
          subst hy; subst hm
          exact ⟨(hu.alloc _).grown h7 (own_apart hne hu h2), fun k hk => by have := (hu.blockLt k hk).2; omega⟩
        · rw [List.getElem?_eq_none (by simp; omega)] at hm; cases hm
    · have old : ∀ i y, i < us.length → us[i]? = some y → (y.ownBlock = none ∨ y.ownBlock ≠ u.ownBlock) := by
        intro i y hi hy
        have hl : ls[i]? = some ls[i] := List.getElem?_eq_getElem (by omega)
        obtain ⟨_, b⟩ := h4 i y _ hy hl
        rcases hq : y.ownBlock with _ | k
        · exact .inl rfl
        · refine .inr fun e => ?_
          have c1 := b k hq
          have c2 := huE k e.symm
          omega
      intro i j y y' hij hy hy'
      rw [List.getElem?_append] at hy hy'
      by_cases hi : i < us.length
      · rw [if_pos hi] at hy
        by_cases hj : j < us.length
        · rw [if_pos hj] at hy'
          exact h5 i j y y' hij hy hy'
        · rw [if_neg hj] at hy'
          rcases Nat.eq_zero_or_pos (j - us.length) with h0 | h0
          · rw [h0] at hy'
            simp only [List.getElem?_cons_zero, Option.some.injEq] at hy'
            subst hy'
            exact old i y hi hy
          · rw [List.getElem?_eq_none (by simp; omega)] at hy'; cases hy'
      · rw [if_neg hi] at hy
        rcases Nat.eq_zero_or_pos (i - us.length) with h0 | h0
        · rw [h0] at hy
          simp only [List.getElem?_cons_zero, Option.some.injEq] at hy
          subst hy
          by_cases hj : j < us.length
          · rw [if_pos hj] at hy'
            rcases old j y' hj hy' with h8 | h8
            · rcases hq : u.ownBlock with _ | k
              · exact .inl rfl
              · rw [h8]; exact .inr (by simp)
            · exact .inr (fun e => h8 e.symm)
          · rw [if_neg hj] at hy'
            rcases Nat.eq_zero_or_pos (j - us.length) with h0' | h0'
            · omega
            · rw [List.getElem?_eq_none (by simp; omega)] at hy'; cases hy'
        · rw [List.getElem?_eq_none (by simp; omega)] at hy; cases hy
end Go.Proofs.YtdemikjaghegnaaGreat

/- Orbits: the model's and the program's contracts. -/
namespace Go.Proofs.YtdemikjaghegnaaGreat
open Go.RowKit Go.WideShapes Go.ChangeShapes
set_option linter.unusedVariables false

def lenV : Value → Nat
  | .slice _ n _ => n
  | _ => 0
theorem At.belowB {w w' : World} {b B : Nat} {v : Value} (h : At w b v) (hb : Below B w w') (hB : b < B) : At w' b v :=
  ⟨(hb.cell (p := ⟨b, 0, none⟩) hB).trans h.1, Nat.lt_of_lt_of_le h.2 hb.size⟩
theorem below_to2 {a w w' : World} {B : Nat} (h : Below a.heap.size a w) (hb : Below B w w') (hB : a.heap.size ≤ B) : Below a.heap.size a w' := h.trans (hb.mono hB)

end Go.Proofs.YtdemikjaghegnaaGreat

/- The sizes of sets, by the library's count of ones. -/
namespace Go.Proofs.YtdemikjaghegnaaGreat
open Go.RowKit Go.WideShapes Go.ChangeShapes
set_option linter.unusedVariables false

/-- the number of elements of a set -/
def pcF : Nat → Nat → Nat
  | 0, _ => 0
  | c + 1, s => s % 2 + pcF c (s / 2)
def pc (s : Nat) : Nat := pcF 10 s
theorem pcF_le (c s : Nat) : pcF c s ≤ c := by
  induction c generalizing s with
  | zero => exact Nat.le_refl _
  | succ c ih => have := ih (s / 2); unfold pcF; omega
theorem pc_le (s : Nat) : pc s ≤ 10 := pcF_le 10 s
theorem pcF_zero (c : Nat) : pcF c 0 = 0 := by
  induction c with
  | zero => rfl
  | succ c ih => unfold pcF; simp [ih]
def onA (x : Int) : Int := IntKind.u64.wrap (bits .and .u64 (x / 2) 6148914691236517205 + bits .and .u64 x 6148914691236517205)
def onB (x : Int) : Int := IntKind.u64.wrap (bits .and .u64 (x / 4) 3689348814741910323 + bits .and .u64 x 3689348814741910323)
def onC (x : Int) : Int := bits .and .u64 (IntKind.u64.wrap (x / 16 + x)) 1085102592571150095
def onD (x : Int) : Int := IntKind.u64.wrap (x + x / 256)
def onE (x : Int) : Int := IntKind.u64.wrap (x + x / 65536)
def onF (x : Int) : Int := IntKind.u64.wrap (x + x / 4294967296)
def onesI (x : Int) : Int := bits .and .i64 (wrap64 (onF (onE (onD (onC (onB (onA x))))))) 127
theorem ones_chk : ((List.range 1024).all fun s => onesI (s : Int) == ((pc s : Nat) : Int)) = true := by decide +kernel
theorem ones_all {s : Nat} (h : s < 1024) : onesI (s : Int) = ((pc s : Nat) : Int) := by
  have := List.all_eq_true.1 ones_chk s (List.mem_range.2 h)
  simpa using this
end Go.Proofs.YtdemikjaghegnaaGreat

/- Sizes of sets, and sums of what is told of each of a list of sets. -/
namespace Go.Proofs.YtdemikjaghegnaaGreat
open Go.RowKit Go.WideShapes Go.ChangeShapes
set_option linter.unusedVariables false

theorem top_le (xs : List Int) (s : Nat) : top xs s ≤ s := sub_le _ _
def sumTo (g : Nat → Nat) (ls : List Int) : Nat → Nat
  | 0 => 0
  | k + 1 => sumTo g ls k + g (ls.getD k 0).toNat
theorem sumTo_succ {g : Nat → Nat} {ls : List Int} {k s : Nat} (h : ls.getD k 0 = (s : Int)) : sumTo g ls (k + 1) = sumTo g ls k + g s := by
  simp only [sumTo, h, Int.toNat_natCast]
theorem sumTo_le {g : Nat → Nat} (h : ∀ s, g s ≤ 10) (ls : List Int) (k : Nat) : sumTo g ls k ≤ 10 * k := by
  induction k with
  | zero => exact Nat.le_refl _
  | succ k ih => have := h (ls.getD k 0).toNat; unfold sumTo; omega
def sumLN (g : Nat → Nat) (ls : List Int) : Nat := sumTo g ls ls.length
def topPc (xs : List Int) (s : Nat) : Nat := pc (top xs s)
theorem topPc_le (xs : List Int) (s : Nat) : topPc xs s ≤ 10 := pc_le _
def bitN (e s : Nat) : Nat := s / 2 ^ e % 2
theorem bitN_le (e s : Nat) : bitN e s ≤ 10 := by unfold bitN; omega

end Go.Proofs.YtdemikjaghegnaaGreat

/- OrbitOf, SizeOf, OrbitSum, AntichainSum: contracts. -/
namespace Go.Proofs.YtdemikjaghegnaaGreat
open Go.RowKit Go.WideShapes Go.ChangeShapes
set_option linter.unusedVariables false

theorem ret_vb' {u : Value} {a b : Bool} (h : a = b) : Ending.returned (.tuple #[u, .bool a]) = .returned (.tuple #[u, .bool b]) := by rw [h]
def orbXs (xs : List Int) (s : Nat) : List Int := orbL (rowmo xs) (2 ^ xs.length) s
def ansOO (xs : List Int) (s : Int) : List Int := if okIdeal xs s then orbXs xs s.toNat else []
theorem ansOO_no {xs : List Int} {s : Int} (h : okIdeal xs s = false) : ansOO xs s = [] := by simp [ansOO, h]
theorem ansOO_yes {xs : List Int} {z : Nat} (h : okIdeal xs z = true) : ansOO xs z = orbXs xs z := by simp [ansOO, h]
theorem okIdeal_idB {xs : List Int} {s : Int} (h : okIdeal xs s = true) : ∃ z : Nat, s = (z : Int) ∧ good xs = true ∧ idB xs z = true := by
  obtain ⟨z, rfl, h1, h2, h3⟩ := okIdeal_all h
  exact ⟨z, rfl, h1, idB_iff.2 ⟨h2, h3⟩⟩
theorem orbXs_length {xs : List Int} {z : Nat} (hg : good xs = true) (hz : idB xs z = true) : 1 ≤ (orbXs xs z).length ∧ (orbXs xs z).length ≤ 1024 := by
  obtain ⟨h1, h2, h3, h4⟩ := (rowMov hg).perS hz
  have := (two_pow_le _ (good_length hg).2).2
  unfold orbXs
  rw [orbL_length]
  omega
theorem orbXs_at {xs : List Int} {z : Nat} (hg : good xs = true) (hz : idB xs z = true) (j : Nat) (hj : j < (orbXs xs z).length) : ∃ s : Nat, (orbXs xs z).getD j 0 = (s : Int) ∧ s < 1024 := by
  have := (two_pow_le _ (good_length hg).2).2
  unfold orbXs at hj ⊢
  rw [orbL_length] at hj
  have h1 := (idB_iff.1 ((rowMov hg).it hz j)).1
  exact ⟨_, orbTL_get _ _ hj, by omega⟩
theorem ansOO_length (xs : List Int) (s : Int) : (ansOO xs s).length ≤ 1024 := by
  cases h : okIdeal xs s
  · rw [ansOO_no h]; simp
  · obtain ⟨z, rfl, h1, h2⟩ := okIdeal_idB h
    rw [ansOO_yes h]; exact (orbXs_length h1 h2).2
theorem ansOO_at (xs : List Int) (s : Int) (j : Nat) (hj : j < (ansOO xs s).length) : ∃ t : Nat, (ansOO xs s).getD j 0 = (t : Int) ∧ t < 1024 := by
  cases h : okIdeal xs s
  · rw [ansOO_no h] at hj; simp at hj
  · obtain ⟨z, rfl, h1, h2⟩ := okIdeal_idB h
    rw [ansOO_yes h] at hj ⊢; exact orbXs_at h1 h2 j hj
/-! ### sizes -/
def ansSz (xs : List Int) (s : Int) : Int := if okSet xs s then (pc s.toNat : Int) else 0
theorem ansSz_no {xs : List Int} {s : Int} (h : okSet xs s = false) : ansSz xs s = 0 := by simp [ansSz, h]
theorem ansSz_yes {xs : List Int} {z : Nat} (h : okSet xs z = true) : ansSz xs z = (pc z : Int) := by simp [ansSz, h]
end Go.Proofs.YtdemikjaghegnaaGreat

/- OrbitSum, AntichainSum, ElementSum: contracts. -/
namespace Go.Proofs.YtdemikjaghegnaaGreat
open Go.RowKit Go.WideShapes Go.ChangeShapes
set_option linter.unusedVariables false

def ansOrbitSum (xs : List Int) (s : Int) : Int := (sumLN (pc) (ansOO xs s) : Nat)
theorem ansOrbitSum_no {xs : List Int} {s : Int} (h : okIdeal xs s = false) : ansOrbitSum xs s = 0 := by unfold ansOrbitSum; rw [ansOO_no h]; rfl
theorem ansOrbitSum_yes {xs : List Int} {z : Nat} (h : okIdeal xs z = true) : ansOrbitSum xs z = ((sumTo (pc) (orbXs xs z) (orbXs xs z).length : Nat) : Int) := by unfold ansOrbitSum; rw [ansOO_yes h]; rfl
def ansAntichainSum (xs : List Int) (s : Int) : Int := (sumLN (topPc xs) (ansOO xs s) : Nat)
theorem ansAntichainSum_no {xs : List Int} {s : Int} (h : okIdeal xs s = false) : ansAntichainSum xs s = 0 := by unfold ansAntichainSum; rw [ansOO_no h]; rfl
theorem ansAntichainSum_yes {xs : List Int} {z : Nat} (h : okIdeal xs z = true) : ansAntichainSum xs z = ((sumTo (topPc xs) (orbXs xs z) (orbXs xs z).length : Nat) : Int) := by unfold ansAntichainSum; rw [ansOO_yes h]; rfl
end Go.Proofs.YtdemikjaghegnaaGreat

/- ToggleCycles, OrderOfWord. -/
namespace Go.Proofs.YtdemikjaghegnaaGreat
open Go.RowKit Go.WideShapes Go.ChangeShapes
set_option linter.unusedVariables false

theorem ret_vb {u : Value} {a b : Bool} (h : a = b) : Ending.returned (.tuple #[u, .bool a]) = .returned (.tuple #[u, .bool b]) := by rw [h]
def okGW (xs ys : List Int) : Bool := good xs && okWord xs ys
def cycW (xs ys : List Int) : List Int := cyclesL (wordF xs ys) (2 ^ xs.length) (setsL (holdsIdeal xs) (2 ^ xs.length))
def tcL (xs ys : List Int) : List Int := if okGW xs ys then cycW xs ys else []
theorem okGW_no1 {xs ys : List Int} (h : good xs = false) : okGW xs ys = false := by simp [okGW, h]
theorem okGW_no2 {xs ys : List Int} (h : okWord xs ys = false) : okGW xs ys = false := by simp [okGW, h]
theorem okGW_yes {xs ys : List Int} (h : good xs = true) (k : okWord xs ys = true) : okGW xs ys = true := by simp [okGW, h, k]
theorem tcL_no {xs ys : List Int} (h : okGW xs ys = false) : tcL xs ys = [] := by simp [tcL, h]
theorem tcL_yes {xs ys : List Int} (h : okGW xs ys = true) : tcL xs ys = cycW xs ys := by simp [tcL, h]
theorem okGW_good {xs ys : List Int} (h : okGW xs ys = true) : good xs = true ∧ okWord xs ys = true := by simpa [okGW] using h
theorem cycW_length {xs ys : List Int} (h : good xs = true) : (cycW xs ys).length ≤ 1024 := by
  have h1 := (cycSt_length (wordF xs ys) (2 ^ xs.length) (setsL (holdsIdeal xs) (2 ^ xs.length)) (setsL (holdsIdeal xs) (2 ^ xs.length)).length).2
  have h2 := setsL_length (holdsIdeal xs) (2 ^ xs.length)
  have h3 := pow10 (good_length h).2
  unfold cycW cyclesL
  omega
theorem cycW_pos {xs ys : List Int} (h : good xs = true) : ∀ x ∈ cycW xs ys, 1 ≤ x ∧ x ≤ 1024 := by
  intro x hx
  have h3 := pow10 (good_length h).2
  unfold cycW at hx
  obtain ⟨N, hN⟩ : ∃ N, 2 ^ xs.length = N := ⟨_, rfl⟩
  rw [hN] at hx h3
  have h1 := cycSt_pos (wordF xs ys) N (setsL (holdsIdeal xs) N) _ x hx
  omega
theorem tcL_length (xs ys : List Int) : (tcL xs ys).length ≤ 1048576 := by
  unfold tcL
  split
  · rename_i h
    have := cycW_length (ys := ys) (okGW_good h).1
    omega
  · simp
/-! ### common multiples -/
end Go.Proofs.YtdemikjaghegnaaGreat

/- ElementSum, MeanOfIdeals: contracts. -/
namespace Go.Proofs.YtdemikjaghegnaaGreat
open Go.RowKit Go.WideShapes Go.ChangeShapes
set_option linter.unusedVariables false

def okES (xs : List Int) (s e : Int) : Bool := okIdeal xs s && (decide (0 ≤ e) && decide (e < xs.length))
def ansES (xs : List Int) (s e : Int) : Int := if okES xs s e then (sumLN (bitN e.toNat) (orbXs xs s.toNat) : Nat) else 0
theorem okES_no1 {xs : List Int} {s e : Int} (h : okIdeal xs s = false) : okES xs s e = false := by simp [okES, h]
theorem okES_no2 {xs : List Int} {s e : Int} (h : (decide (0 ≤ e) && decide (e < (xs.length : Int))) = false) : okES xs s e = false := by unfold okES; rw [h, Bool.and_false]
theorem okES_yes {xs : List Int} {s e : Int} (h : okIdeal xs s = true) (k : (decide (0 ≤ e) && decide (e < (xs.length : Int))) = true) : okES xs s e = true := by unfold okES; rw [h, k]; rfl
theorem ansES_no {xs : List Int} {s e : Int} (h : okES xs s e = false) : ansES xs s e = 0 := by simp [ansES, h]
theorem ansES_yes {xs : List Int} {z n : Nat} (h : okES xs z n = true) : ansES xs z n = ((sumTo (bitN n) (orbXs xs z) (orbXs xs z).length : Nat) : Int) := by unfold ansES; rw [if_pos h]; rfl
theorem bitN_bit (e s : Nat) : bitN e s = if s.testBit e then 1 else 0 := by
  unfold bitN
  rw [Nat.testBit_eq_decide_div_mod_eq]
  by_cases h : s / 2 ^ e % 2 = 1
  · simp [h]
  · simp [h]; omega
end Go.Proofs.YtdemikjaghegnaaGreat

/- MeanOfIdeals: contracts. -/
namespace Go.Proofs.YtdemikjaghegnaaGreat
open Go.RowKit Go.WideShapes Go.ChangeShapes
set_option linter.unusedVariables false

theorem ret_iib {a b c d : Int} {x y : Bool} (h : a = c) (k : b = d) (l : x = y) : Ending.returned (.tuple #[.int .i64 a, .int .i64 b, .bool x]) = .returned (.tuple #[.int .i64 c, .int .i64 d, .bool y]) := by rw [h, k, l]
def idsXs (xs : List Int) : List Int := setsL (holdsIdeal xs) (2 ^ xs.length)
theorem idsXs_length {xs : List Int} (hg : good xs = true) : 1 ≤ (idsXs xs).length ∧ (idsXs xs).length ≤ 1024 := by
  have h1 := setsL_length (holdsIdeal xs) (2 ^ xs.length)
  have h2 := (two_pow_le _ (good_length hg).2).2
  refine ⟨?_, by unfold idsXs; omega⟩
  have h0 : holdsIdeal xs 0 = true := by rw [holdsIdeal_row]; intro e he hb; simp at hb
  unfold idsXs setsL
  rw [List.length_map]
  apply List.length_pos_of_mem (a := 0)
  rw [List.mem_filter]
  exact ⟨List.mem_range.2 (Nat.two_pow_pos _), h0⟩
theorem idsXs_at {xs : List Int} (hg : good xs = true) (j : Nat) (hj : j < (idsXs xs).length) : ∃ s : Nat, (idsXs xs).getD j 0 = (s : Int) ∧ s < 1024 := by
  have h2 := (two_pow_le _ (good_length hg).2).2
  have hj' : j < ((List.range (2 ^ xs.length)).filter (holdsIdeal xs)).length := by simpa [idsXs, setsL] using hj
  have hm := List.mem_filter.1 (List.getElem_mem hj')
  refine ⟨((List.range (2 ^ xs.length)).filter (holdsIdeal xs))[j], by simp [idsXs, setsL, List.getD, hj'], ?_⟩
  have := List.mem_range.1 hm.1
  omega
def meanU (xs : List Int) : Nat := sumTo pc (idsXs xs) (idsXs xs).length / Nat.gcd (sumTo pc (idsXs xs) (idsXs xs).length) (idsXs xs).length
def meanD (xs : List Int) : Nat := (idsXs xs).length / Nat.gcd (sumTo pc (idsXs xs) (idsXs xs).length) (idsXs xs).length
def ansMU (xs : List Int) : Int := if good xs then (meanU xs : Nat) else 0
def ansMD (xs : List Int) : Int := if good xs then (meanD xs : Nat) else 0
theorem ansM_no {xs : List Int} (h : good xs = false) : ansMU xs = 0 ∧ ansMD xs = 0 := by simp [ansMU, ansMD, h]
theorem ansM_yes {xs : List Int} (h : good xs = true) : ansMU xs = (meanU xs : Nat) ∧ ansMD xs = (meanD xs : Nat) := by simp [ansMU, ansMD, h]
end Go.Proofs.YtdemikjaghegnaaGreat
