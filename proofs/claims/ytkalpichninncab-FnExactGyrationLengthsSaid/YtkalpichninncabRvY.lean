/- The lengths of all orbits of gyration, in order: the model's and the program's contracts. -/
import Derived.Test.YtkalpichninncabRvP
import Derived.Test.YtkalpichninncabRvN
import Derived.Test.YtkalpichninncabCycC
import Derived.Test.YtkalpichninncabRvV
import Derived.Test.YtkalpichninncabRvK
namespace Go.Proofs.Ytkalpichninncab
open Go.RowKit Go.WideShapes Go.ChangeShapes
set_option linter.unusedVariables false

theorem cycIn_congr {f g : Nat → Nat} {D : Nat → Bool} (h : ∀ s, D s = true → f s = g s ∧ D (f s) = true) (c : Nat) : ∀ (seen : List Bool) (s n : Nat), D s = true → cycIn f c seen s n = cycIn g c seen s n := by
  induction c with
  | zero => intro seen s n _; rfl
  | succ c ih =>
    intro seen s n hs
    obtain ⟨h1, h2⟩ := h s hs
    simp only [cycIn]
    rw [← h1, ih _ (f s) _ h2]
theorem cycSt_congr {f g : Nat → Nat} {D : Nat → Bool} (h : ∀ s, D s = true → f s = g s ∧ D (f s) = true) {N : Nat} {ids : List Int} (hD : ∀ j, j < ids.length → D (ids.getD j 0).toNat = true) (k : Nat) (hk : k ≤ ids.length) : cycSt f N ids k = cycSt g N ids k := by
  induction k with
  | zero => rfl
  | succ k ih =>
    simp only [cycSt]
    rw [ih (by omega)]
    unfold cyc1
    rw [cycIn_congr h _ _ _ _ (hD k (by omega))]
theorem gyr_cycles {xs : List Int} (hg : good xs = true) (hr : rankedB xs = true) {h : Nat} (hh : rkN xs = h + 1) :
    cyclesL (gyF xs) (2 ^ xs.length) (setsL (holdsIdeal xs) (2 ^ xs.length)) = cyclesL (wordF xs (rkW (rankL xs) (wGyr h))) (2 ^ xs.length) (setsL (holdsIdeal xs) (2 ^ xs.length)) := by
  unfold cyclesL
  rw [cycSt_congr (g := wordF xs (rkW (rankL xs) (wGyr h))) (D := holdsIdeal xs) (ids := setsL (holdsIdeal xs) (2 ^ xs.length)) (fun s hs => ⟨gyF_word hg hr hh hs, togW_ideal (togW_ideal hs)⟩) (fun j hj => by
    obtain ⟨s, h1, _, h2⟩ := setsL_bound hj
    rw [h1, Int.toNat_natCast]; exact h2) _ (Nat.le_refl _)]
def idsR (xs : List Int) : List Int := setsL (holdsIdeal xs) (2 ^ xs.length)
theorem idsR_length {xs : List Int} : 1 ≤ (idsR xs).length := by
  have h0 : holdsIdeal xs 0 = true := by rw [holdsIdeal_row]; intro e he hb; simp at hb
  unfold idsR setsL
  rw [List.length_map]
  apply List.length_pos_of_mem (a := 0)
  rw [List.mem_filter]
  exact ⟨List.mem_range.2 (Nat.two_pow_pos _), h0⟩
theorem idsR_D (xs : List Int) (j : Nat) (hj : j < (idsR xs).length) : idB xs ((idsR xs).getD j 0).toNat = true := by
  obtain ⟨s, h1, h2, h3⟩ := setsL_bound (f := holdsIdeal xs) (N := 2 ^ xs.length) hj
  have : (idsR xs).getD j 0 = (s : Int) := h1
  rw [this, Int.toNat_natCast]
  exact idB_iff.2 ⟨h2, h3⟩
/-- the lengths of the orbits of gyration -/
def gyCy (xs : List Int) : List Int := cyclesL (gyF xs) (2 ^ xs.length) (setsL (holdsIdeal xs) (2 ^ xs.length))
theorem gyCy_length {xs : List Int} (hg : good xs = true) : (gyCy xs).length ≤ 1024 := by
  have h1 := (cycSt_length (gyF xs) (2 ^ xs.length) (setsL (holdsIdeal xs) (2 ^ xs.length)) (setsL (holdsIdeal xs) (2 ^ xs.length)).length).2
  have h2 := setsL_length (holdsIdeal xs) (2 ^ xs.length)
  have h3 := pow10 (good_length hg).2
  unfold gyCy cyclesL
  omega
theorem gyCy_ne {xs : List Int} (hg : good xs = true) (hr : rankedB xs = true) : gyCy xs ≠ [] := by
  obtain ⟨h, hh, h9⟩ := rkN_some hg
  have hw : inW xs.length (rkW (rankL xs) (wGyr h)) = true := inW_rkW hg (inW_wGyr (by omega))
  unfold gyCy
  rw [gyr_cycles hg hr hh]
  intro hn
  have h0 : 0 < (idsR xs).length := idsR_length
  have hs := startsN_seen (togMov hw) (idsR_D xs) (Nat.le_refl _) h0
  have he : startsN (fun s => togW xs s (rkW (rankL xs) (wGyr h))) (2 ^ xs.length) (idsR xs) (idsR xs).length = [] := by
    have hcy := cyclesL_starts (togMov hw) (idsR_D xs)
    have hn2 : cyclesL (fun s => togW xs s (rkW (rankL xs) (wGyr h))) (2 ^ xs.length) (idsR xs) = [] := hn
    rw [hcy] at hn2
    exact List.map_eq_nil_iff.1 hn2
  rw [he] at hs
  cases hs
def ansGL (xs : List Int) : List Int := if okRk xs then sortL (gyCy xs) else []
theorem ansGL_no {xs : List Int} (h : okRk xs = false) : ansGL xs = [] := by simp [ansGL, h]
theorem ansGL_yes {xs : List Int} (h : okRk xs = true) : ansGL xs = sortL (gyCy xs) := by simp [ansGL, h]
theorem ansGL_length (xs : List Int) : (ansGL xs).length ≤ 1048576 := by
  cases h : okRk xs
  · rw [ansGL_no h]; simp
  · rw [ansGL_yes h, sortL_length]; have := gyCy_length (okRk_good h).1; omega
theorem cyc_SR (v u : Value) (xs ys : List Int) (w0 : World) (b : Nat) (W : World) (hv : Ints w0 v xs) (hu : Ints W u ys) (hg : good xs = true) (hy : inW xs.length ys = true) (hm : ys.length ≤ 1048576) (hS : SR w0 b v W) :
    Calls Try.prog 43 #[.agg #[v], .iface 50 u] W fun (r : Ending) w' => ∃ q, r = Ending.returned q ∧ OwnI 3 w' w0.heap.size q (cyclesL (wordF xs ys) (2 ^ xs.length) (setsL (holdsIdeal xs) (2 ^ xs.length))) ∧ SR w0 b v w' :=
  (cyclesOf_any v u xs ys W (hv.below hS.below) hu hg hy hm).mono fun _ _ ⟨q, h1, h2, h3⟩ => ⟨q, h1, h2.mono hS.below.size, hS.to h3⟩
set_option maxHeartbeats 1600000 in
theorem implGyrationLengths_any (v : Value) (xs : List Int) (w : World) (hv : Ints w v xs) (hl : xs.length ≤ 1048576) :
    Calls Try.prog 21 #[.agg #[v]] w fun (r : Ending) w' => ∃ q, r = Ending.returned (.tuple #[q, .bool (okRk xs)]) ∧ OwnI 3 w' w.heap.size q (ansGL xs) ∧ (ansGL xs).length ≤ 1048576 ∧ Below w.heap.size w w' := by
  have HV := hid hv
  have HL := hid (ansGL_length xs)
  clear hv
  go_enter Try.func21, Try.ntmps21
  have HB := hid (below_alloc (Below.refl _ w) (.cells #[v] 28))
  have A0 := hid (At.newAt w v 28 w.heap.size (by simp))
  go_wp2_with fail
  refine (implRanksOf_any _ xs _ (HV.out.below HB.out) hl).mono ?_
  rintro e w' ⟨q, rfl, ho, -, hb⟩
  replace HB := hid (below_to HB.out hb)
  replace A0 := hid (A0.out.below hb)
  clear hb
  cases hk : okRk xs
  · have HO := hid hk
    obtain ⟨qA, qn, qc, rfl⟩ := ho.shape3
    clear hk ho
    have ebox0 := A0.out.1
    go_wp2
    go_ret2
    exact ⟨_, ret_vbS HO.out.symm, by rw [ansGL_no HO.out]; exact OwnI.nil _ _ _, HL.out, HB.out⟩
  · have HO := hid hk
    rw [ansRO_yes hk] at ho
    obtain ⟨hg, hr⟩ := okRk_good hk
    obtain ⟨h, hh, h9⟩ := rkN_some hg
    have HQ := hid ho.ints
    have HG := hid hg
    have HCy := hid (gyr_cycles hg hr hh)
    have HNe := hid (gyCy_ne hg hr)
    have HLl : Hid ((gyCy xs).length ≤ 1048576) := hid (by have := gyCy_length hg; omega)
    have HEl := hid (inW_rkW hg (show inW (rkN xs) (wGyr h) = true from inW_wGyr (by omega)))
    have HLn := hid (rkW_length (rankL xs) (wGyr h))
    have HLw := hid (wGyr_length h9)
    have HSm := hid (rank_small hg)
    have HRl : Hid ((rankL xs).length = h + 1) := hid (by rw [rankL_length, hh])
    have HV1 := hid (HV.out.below HB.out)
    have HS := hid (show SR w' w.heap.size v w' from ⟨A0.out, Below.refl _ _⟩)
    have hbx := A0.out.1
    have hz := HB.out.size
    clear hk ho hg hr hh
    go_wp2_with fail
    go_region_held3 (fun W => W.cell? ⟨w.heap.size, 0, none⟩ = some v ∧ Hid (SR w' w.heap.size v W)) (first | exact ⟨HS3.out.at_.1, HS3⟩ | exact ⟨HS2.out.at_.1, HS2⟩ | exact ⟨HS.out.drew.at_.1, hid HS.out.drew⟩) (first | (go_at_call 44; refine (sTGyr_SR _ (rankL xs) h w' w.heap.size _ HQ.out HRl.out h9 HSm.out v (Hid.out (by first | assumption | exact hid HS.out.drew))).mono ?_; rintro e' w4 ⟨q4, rfl, hu4, hs4⟩; have HU4 := hid hu4; have HS2 := hid hs4; clear hu4 hs4) | (go_at_call 43; refine (cyc_SR v _ xs _ w' w.heap.size _ HV1.out HU4.out HG.out HEl.out (by have := HLn.out; have := HLw.out; omega) HS2.out).mono ?_; rintro e' w5 ⟨q5, rfl, ho5, hs5⟩; have HO5 := hid ho5; have HS3 := hid hs5; clear ho5 hs5))
    have HB3 := hid (below_to HB.out HS3.out.below)
    rw [← HCy.out] at HO5
    have HO6 : Hid (OwnI 3 _ w.heap.size _ (gyCy xs)) := hid (HO5.out.mono hz)
    obtain ⟨qA, qn, qc, rfl⟩ := HO6.out.shape3
    clear hbx
    go_wp2_with fail
    refine (sort_any _ (gyCy xs) _ _ HO6.out HNe.out HLl.out).mono ?_
    rintro e w6 ⟨rfl, ho7, hb7⟩
    have HO7 := hid ho7
    have HB7 := hid (HB3.out.trans hb7)
    clear ho7 hb7
    go_wp2
    go_ret2
    exact ⟨_, ret_vbS HO.out.symm, by rw [ansGL_yes HO.out]; exact HO7.out, HL.out, HB7.out⟩
theorem gyF_lt {xs : List Int} {s : Nat} (hs : s < 2 ^ xs.length) : gyF xs s < 2 ^ xs.length := togW_lt (togW_lt hs (ev_in 0)) (ev_in 1)
set_option maxHeartbeats 3200000 in
theorem specGyrationLengths_any (v : Value) (xs : List Int) (w : World) (hv : Ints w v xs) (hl : xs.length ≤ 1048576) :
    Calls Try.prog 20 #[.agg #[v]] w fun (r : Ending) w' => ∃ q, r = Ending.returned (.tuple #[q, .bool (okRk xs)]) ∧ OwnI 3 w' w.heap.size q (ansGL xs) ∧ (ansGL xs).length ≤ 1048576 ∧ Below w.heap.size w w' := by
  have HV := hid hv
  have HL := hid (ansGL_length xs)
  obtain ⟨A, c, rfl, -⟩ := hv
  go_enter Try.func20, Try.ntmps20
  have HB := hid (below_alloc (Below.refl _ w) (.cells #[(.slice A xs.length c)] 28))
  have A0 := hid (At.newAt w (.slice A xs.length c) 28 w.heap.size (by simp))
  go_wp2_with fail
  refine (rvGood_any _ xs _ (HV.out.below HB.out) hl).mono ?_
  rintro e w' ⟨rfl, hb⟩
  replace HB := hid (below_to HB.out hb)
  replace A0 := hid (A0.out.below hb)
  clear hb
  cases hq : okRk xs
  · have HO := hid hq
    clear hq
    have ebox0 := A0.out.1
    go_wp2
    go_ret2
    exact ⟨_, ret_vbS HO.out.symm, by rw [ansGL_no HO.out]; exact OwnI.nil _ _ _, HL.out, HB.out⟩
  · have HOk := hid hq
    have HG := hid (okRk_good hq).1
    have hl10 := (good_length HG.out).2
    have HEnd := hid (ansGL_yes hq)
    have HGl := hid (fun s (hs : s < 2 ^ xs.length) => gyF_lt hs)
    obtain ⟨w1, hw1⟩ : ∃ x, x = w' := ⟨_, rfl⟩
    rw [← hw1] at HB A0 ⊢
    obtain ⟨g, hg⟩ : ∃ g, w1.heap.size = g := ⟨_, rfl⟩
    have hw1g : w.heap.size < g := by rw [← hg]; exact A0.out.2
    obtain ⟨N, hN⟩ : ∃ N, 2 ^ xs.length = N := ⟨_, rfl⟩
    have hN2 := two_pow_le xs.length hl10
    rw [hN] at hN2 HGl
    obtain ⟨I, hI⟩ : ∃ I, setsL (holdsIdeal xs) N = I := ⟨_, rfl⟩
    have HAt := hid (fun j hj => setsL_bound (f := holdsIdeal xs) (N := N) (j := j) hj)
    have hIN := setsL_length (holdsIdeal xs) N
    rw [hI] at HAt hIN
    have HI := hid (show setsL (holdsIdeal xs) (2 ^ xs.length) = I by rw [hN]; exact hI)
    have HN := hid hN
    have HFin : Hid (ansGL xs = sortL (cycSt (gyF xs) N I I.length).2) := hid (by rw [HEnd.out, gyCy, hN, hI]; rfl)
    have wp : wrap64 ((2 : Int) ^ xs.length) = (N : Int) := by rw [wrap_pow xs.length hl10, hN]
    have hmk := run_make_row' (P := Try.prog) 52 4 (.bool false) 1 Try.underlying52 infoBool rfl .i64 .i64 N (by omega) (by omega)
    have hbx := A0.out.1
    obtain ⟨F, hF⟩ : ∃ F, gyF xs = F := ⟨_, rfl⟩
    rw [hF] at HGl HFin
    have HFd := hid hF
    clear hq hw1 hI hF hN
    go_wp2_with fail
    clear wp hbx
    refine (poIdeals_any _ xs _ ((HV.out.below HB.out).alloc _) HG.out).mono ?_
    rw [HI.out]
    rintro e w' ⟨iu, rfl, ho, hb⟩
    have HB2 := hid (below_to (below_alloc HB.out _) hb)
    have HBox : Hid (At w' w.heap.size (.slice A xs.length c)) := hid ((A0.out.alloc _).below hb)
    have HSeen : Hid (Blk w' g 4 (BVals (List.replicate N false))) := hid (by
      rw [← BVals_made]
      exact (Blk.newAt _ 4 (madeCells #[.bool false] N) g hg.symm).below hb (by simp; omega))
    obtain ⟨iA, iN, ic, rfl⟩ := ho.shape3
    have hiN : iN = I.length := by
      obtain ⟨_, _, h, _⟩ := ho.shape
      cases h; rfl
    subst hiN
    have HO := hid (ho.mono (B' := g + 1) (by simp; omega))
    have HOB : Hid (∀ k, (Value.slice iA I.length ic).ownBlock = some k → g + 1 ≤ k ∧ k < w'.heap.size) := hid (fun k hk => by
      have h1 := ho.blockLt k hk
      simp at h1
      omega)
    have hgw : g < w'.heap.size := HSeen.out.lt
    have hwg : w.heap.size < g := hw1g
    have hbx := HBox.out.1
    clear hb ho hmk hg
    go_wp2
    clear hbx
    go_loopw [5, 20] (fun q i wr => ∃ (j : Nat) (oA : Option Addr) (on oc : Nat), j ≤ I.length ∧ i = .int .i64 j ∧ q = .slice oA on oc ∧ Blk wr g 4 (BVals (cycSt F N I j).1) ∧ OwnI 3 wr w'.heap.size (.slice oA on oc) (sortL (cycSt F N I j).2) ∧ TurnedIn g (g + 1) w' wr) (fun _ i _ => I.length - (intOf i).toNat)
    case atStart => exact ⟨0, none, 0, 0, Nat.zero_le _, rfl, rfl, HSeen.out, (by show OwnI _ _ _ _ (sortL []); rw [sortL_nil]; exact OwnI.nil _ _ _), TurnedIn.refl _ _ _⟩
    case round =>
      obtain ⟨j, oA, on, oc, hj, rfl, rfl, hB, hq, ht⟩ := hrel
      have HBk := hid hB
      have HQ := hid hq
      have HT := hid ht
      clear hB hq
      by_cases hlt : j < I.length
      · obtain ⟨s, hs, hsN, hIs⟩ := HAt.out j hlt
        have hoi := HO.out.turned ht HOB.out (.inr (Nat.le_refl _))
        have hcell : ∃ b, iA = some ⟨b, 0, none⟩ ∧ wr.cell? ⟨b, 0 + j, none⟩ = some (.int .i64 s) := by
          obtain ⟨A', c', h1, h2⟩ := hoi.shape
          obtain ⟨A2, c2, h3, h4⟩ := hoi.ints
          cases h1
          obtain ⟨b, h5, -, -⟩ := h2 (by intro h; simp [h] at hlt)
          cases h3
          obtain ⟨b2, o2, h6, -, h7⟩ := h4 (by intro h; simp [h] at hlt)
          have h8 : b2 = b ∧ o2 = 0 := by rw [h5] at h6; cases h6; exact ⟨rfl, rfl⟩
          obtain ⟨rfl, rfl⟩ := h8
          exact ⟨_, h5, by rw [h7 j hlt, hs]⟩
        obtain ⟨b, rfl, hcell⟩ := hcell
        rw [Nat.zero_add] at hcell
        have HS := hid hs
        obtain ⟨seen0, hs0⟩ : ∃ l, (cycSt F N I j).1 = l := ⟨_, rfl⟩
        obtain ⟨out0, ho0⟩ : ∃ l, (cycSt F N I j).2 = l := ⟨_, rfl⟩
        have hlen := cycSt_length F N I j
        rw [hs0] at HBk hlen
        rw [ho0] at HQ hlen
        obtain ⟨R, hR⟩ : ∃ R, cyc1 F seen0 s 0 = R := ⟨_, rfl⟩
        have HStep : Hid (cycSt F N I (j + 1) = (R.1, if 0 < R.2 then out0 ++ [(R.2 : Int)] else out0)) := hid (by
          simp only [cycSt, hs0, ho0, hs, Int.toNat_natCast, hR])
        have HLen := hid hlen.1
        have ho10 : out0.length ≤ 1024 := by omega
        have hc0 := cntF_le seen0
        have hc1 : 0 + cntF seen0 ≤ N := by rw [← hlen.1]; omega
        have HR := hid hR
        clear hs hs0 ho0 hR hoi ht hIs hlen hc0
        go_wp2
        clear hcell
        go_loopw [7, 8] (fun a i wi => ∃ (seen : List Bool) (t n : Nat), a = .int .i64 t ∧ i = .int .i64 n ∧ t < N ∧ Hid (seen.length = N) ∧ n + cntF seen ≤ N ∧ Hid (cyc1 F seen t n = R) ∧ Blk wi g 4 (BVals seen) ∧ Hid (OwnI 3 wi w'.heap.size (.slice oA on oc) (sortL out0)) ∧ TurnedIn g (g + 1) w' wi) (fun _ i _ => N - (intOf i).toNat)
        case atStart => exact ⟨seen0, s, 0, rfl, rfl, hsN, HLen, hc1, HR, HBk.out, HQ, HT.out⟩
        case round =>
          obtain ⟨seen, t, n, rfl, rfl, htN, HSL, hcn, HC, hB, HOut, ht⟩ := hrel
          have hct : wr.cell? ⟨g, t, none⟩ = some (.bool (seen.getD t true)) := by
            rw [hB.cell, BVals_get (by rw [HSL.out]; exact htN)]
          have hft := hB.frozen t
          have HBk2 := hid hB
          have HT2 := hid ht
          clear hB ht
          cases hst : seen.getD t true
          · rw [hst] at hct
            have hcs := cntF_set (show t < seen.length by rw [HSL.out]; exact htN) hst
            have HGo := hid (cyc1_go (f := F) (n := n) (show t < seen.length by rw [HSL.out]; exact htN) hst)
            have hn1 : n < N := by omega
            have hcn2 : n + 1 + cntF (seen.set t true) ≤ N := by omega
            have HL2 : Hid ((seen.set t true).length = N) := hid (by rw [List.length_set]; exact HSL.out)
            have hbox := (HBox.out.turned HT2.out (.inl hwg)).1
            have hne : w.heap.size ≠ g := by omega
            have hf1 : F t < N := HGl.out t htN
            have HBk3 : Hid (Blk (wr.setCell ⟨g, t, none⟩ (.bool true)) g 4 (BVals (seen.set t true))) := hid (by rw [← BVals_set]; exact HBk2.out.set_ t _)
            have HT3 : Hid (TurnedIn g (g + 1) w' (wr.setCell ⟨g, t, none⟩ (.bool true))) := hid (HT2.out.set_ ⟨g, t, none⟩ ⟨Nat.le_refl _, Nat.lt_succ_self _⟩ _)
            have HOut3 : Hid (OwnI 3 (wr.setCell ⟨g, t, none⟩ (.bool true)) w'.heap.size (.slice oA on oc) (sortL out0)) := hid (HOut.out.grown (grown_setCell (World.grownBy.refl _ _) t _) (HOut.out.apart (.inl hgw)))
            have HB3 := hid (below_turned HB2.out HT3.out (Nat.le_of_lt hwg))
            have HTN : Hid (t < 2 ^ xs.length) := hid (by rw [HN.out]; exact htN)
            have hbox3 := (HBox.out.turned HT3.out (.inl hwg)).1
            clear hst hcs
            go_wp2_with fail
            clear hct hft hbox hbox3
            refine (rvGyrate_any _ xs t false _ (HV.out.below HB3.out) HG.out HTN.out).mono ?_
            rintro e' w5 ⟨rfl, hb5⟩
            have HBk5 := hid (HBk3.out.below hb5 HBk3.out.lt)
            have HT5 := hid (HT3.out.trans (TurnedIn.of_below hb5))
            have HOut5 := hid (HOut3.out.below hb5)
            have HFt : Hid ((if false = true then gyB xs t else gyF xs t) = F t) := hid (by rw [← HFd.out]; rfl)
            rw [HFt.out]
            clear hb5
            go_wp2
            go_roundw
            case rel => exact ⟨seen.set t true, F t, n + 1, rfl, by go_num, hf1, HL2, hcn2, hid (by rw [← HGo.out]; exact HC.out), HBk5.out, HOut5, HT5.out⟩
            case measure => simp [intOf]; omega
          · rw [hst] at hct
            have HStop : Hid (R = (seen, n)) := hid (by rw [← HC.out]; exact cyc1_stop hst)
            have hnN : n ≤ N := by omega
            have HBel := hid (below_turned HB2.out HT2.out (Nat.le_of_lt hwg))
            clear hst
            by_cases hn0 : 0 < n
            · have HSt2 : Hid (cycSt F N I (j + 1) = (seen, out0 ++ [(n : Int)])) := hid (by rw [HStep.out, HStop.out]; simp [hn0])
              have hwz : w'.heap.size ≤ wr.heap.size := HT2.out.size
              go_wp2_with fail
              clear hct hft
              refine (rvPut_any _ out0 n _ _ HOut.out (by omega)).mono ?_
              rintro e' w6 ⟨q2, rfl, ho6, hb6⟩
              obtain ⟨qA, qn, qc, rfl⟩ := ho6.shape3
              have HO6 := hid (ho6.mono hwz)
              have HB6 := hid hb6
              have hgw6 : g < wr.heap.size := HBk2.out.lt
              clear ho6 hb6
              go_wp2
              go_roundw
              case rel => exact ⟨j + 1, qA, qn, qc, by omega, by go_num, rfl, (by rw [HSt2.out]; exact HBk2.out.below HB6.out hgw6), (by rw [HSt2.out]; exact HO6.out), HT2.out.trans (TurnedIn.of_below HB6.out)⟩
              case measure => simp [intOf]; omega
            · have HSt2 : Hid (cycSt F N I (j + 1) = (seen, out0)) := hid (by rw [HStep.out, HStop.out]; simp [hn0])
              go_wp2
              go_roundw
              case rel => exact ⟨j + 1, oA, on, oc, by omega, by go_num, rfl, (by rw [HSt2.out]; exact HBk2.out), (by rw [HSt2.out]; exact HOut.out), HT2.out⟩
              case measure => simp [intOf]; omega
      · obtain rfl : j = I.length := by omega
        have HBel := hid (below_turned HB2.out ht (Nat.le_of_lt hwg))
        have hww := HB2.out.size
        clear ht
        go_wp2
        go_ret2
        exact ⟨_, ret_vbS HOk.out.symm, by rw [HFin.out]; exact HQ.out.mono hww, HL.out, HBel.out⟩
end Go.Proofs.Ytkalpichninncab
