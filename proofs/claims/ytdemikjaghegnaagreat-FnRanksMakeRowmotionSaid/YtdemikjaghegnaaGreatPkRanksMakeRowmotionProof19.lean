/- Texts RvK, one behind the other. -/
import Derived.Test.YtdemikjaghegnaaGreatPkRanksMakeRowmotionProof16
import Derived.Test.YtdemikjaghegnaaGreatPkRanksMakeRowmotionProof17
import Derived.Test.YtdemikjaghegnaaGreatPkRanksMakeRowmotionProof18
/- Rowmotion by ranks, rowvacuation, gyration in the program. (by genrvk.py) -/
namespace Go.Proofs.YtdemikjaghegnaaGreat
open Go.RowKit Go.WideShapes Go.ChangeShapes
set_option linter.unusedVariables false

theorem rank_small {xs : List Int} (hg : good xs = true) : ∀ i, i < (rankL xs).length → ∃ r : Nat, (rankL xs).getD i 0 = (r : Int) ∧ r < 1024 := by
  intro i hi
  rw [rankL_length] at hi
  obtain ⟨r, h1, _, h2, _⟩ := rank_facts hg hi
  exact ⟨r, h1, h2⟩
theorem tgAt_SR (v u : Value) (xs rs ws : List Int) (w0 : World) (b : Nat) (W : World) (hv : Ints w0 v rs) (hu : Ints w0 u ws) (hw : inW rs.length ws = true) (hm : ws.length ≤ 100) (hr10 : rs.length ≤ 10) (hr : ∀ i, i < rs.length → ∃ r : Nat, rs.getD i 0 = (r : Int) ∧ r < 1024) (vp : Value) (hS : SR w0 b vp W) :
    Calls Tryz.prog 65 #[v, u] W fun (r : Ending) w' => ∃ q, r = Ending.returned q ∧ Ints w' q (rkW rs ws) ∧ SR w0 b vp w' :=
  (togglesAt_any v u rs ws W (hv.below hS.below) (hu.below hS.below) hw hm hr10 hr).mono fun _ _ ⟨q, h1, h2, h3⟩ => ⟨q, h1, h2.ints, hS.to h3⟩
theorem step_SR (v u : Value) (xs ys : List Int) (w0 : World) (b s : Nat) (W : World) (hv : Ints w0 v xs) (hu : Ints W u ys) (hg : good xs = true) (hs : s < 2 ^ xs.length) (hy : inW xs.length ys = true) (hm : ys.length ≤ 1048576) (hS : SR w0 b v W) :
    Calls Tryz.prog 66 #[u, .agg #[v], .int .i64 s] W fun r w' => r = .returned (.int .i64 (togW xs s ys : Nat)) ∧ SR w0 b v w' :=
  (step_any v u xs ys s W (hv.below hS.below) hu hg hs hy hm).mono fun _ _ ⟨h1, h2⟩ => ⟨h1, hS.to h2⟩
/-! ### ToggleRanks, ToggleRank -/
theorem allB_inW (n : Nat) (ws : List Int) : allB 0 (n : Int) ws = inW (n + 1) ws := by
  unfold allB inW
  congr 1
  funext x
  rw [Bool.eq_iff_iff]; simp; omega
set_option maxHeartbeats 1600000 in
theorem implToggleRanks_any (v : Value) (xs : List Int) (s : Int) (u : Value) (ws : List Int) (w : World) (hv : Ints w v xs) (hl : xs.length ≤ 1048576) (wf : (Lit.int .i64 s).wf = true) (hu : Ints w u ws) (hm : ws.length ≤ 1048576) :
    Calls Tryz.prog 16 #[.agg #[v], .int .i64 s, u] w fun r w' => r = .returned (.tuple #[.int .i64 (ansTR xs ws s), .bool (okTR xs ws s)]) ∧ Below w.heap.size w w' := by
  have HV := hid hv
  have HU := hid hu
  obtain ⟨uA, uc, rfl, -⟩ := hu
  clear hv wf
  go_enter Tryz.func16, Tryz.ntmps16
  have HB := hid (below_alloc (Below.refl _ w) (.cells #[v] 26))
  have A0 := hid (At.newAt w v 26 w.heap.size (by simp))
  go_wp2_with fail
  refine (implRanksOf_any _ xs _ (HV.out.below HB.out) hl).mono ?_
  rintro e w' ⟨q, rfl, ho, -, hb⟩
  replace HB := hid (below_to HB.out hb)
  replace A0 := hid (A0.out.below hb)
  clear hb
  cases hk : okRk xs
  · have HO := hid (okTR_no1 (ws := ws) (okRI_no (s := s) hk))
    clear hk
    obtain ⟨qA, qn, qc, rfl⟩ := ho.shape3
    clear ho
    have ebox0 := A0.out.1
    go_wp2
    go_ret2
    exact ⟨ret_ib (ansTR_no HO.out).symm HO.out.symm, HB.out⟩
  · have HK := hid hk
    rw [ansRO_yes hk] at ho
    obtain ⟨hg, hr⟩ := okRk_good hk
    obtain ⟨h, hh, h9⟩ := rkN_some hg
    have HQ := hid ho.ints
    obtain ⟨qA, qc, rfl, -⟩ := ho.shape
    rw [rankL_length, hh] at HQ ⊢
    have HG := hid hg
    have HH := hid hh
    clear hk ho hg hr hh
    have ebox0 := A0.out.1
    go_wp2_with fail
    clear ebox0
    refine (hasIdeal_any _ xs s _ (HV.out.below HB.out) hl).mono ?_
    rintro e w' ⟨rfl, hb⟩
    replace HB := hid (below_to HB.out hb)
    replace A0 := hid (A0.out.below hb)
    replace HQ := hid (HQ.out.below hb)
    clear hb
    cases hi : okIdeal xs s
    · have HO := hid (okTR_no1 (ws := ws) (s := s) (by rw [okRI_yes HK.out]; exact hi))
      clear hi
      have ebox0 := A0.out.1
      go_wp2
      go_ret2
      exact ⟨ret_ib (ansTR_no HO.out).symm HO.out.symm, HB.out⟩
    · have HRI : Hid (okRI xs s = true) := hid (by rw [okRI_yes HK.out]; exact hi)
      obtain ⟨z, rfl, _, hz, _⟩ := okIdeal_all hi
      have HZ := hid hz
      clear hi hz
      by_cases h40 : ws.length ≤ 40
      · skip
        have ebox0 := A0.out.1
        go_wp2_with fail
        clear ebox0
        refine (areWithin_any _ ws 0 h _ (HU.out.below HB.out) hm).mono ?_
        rw [allB_inW]
        rintro e w' ⟨rfl, hb⟩
        replace HB := hid (below_to HB.out hb)
        replace A0 := hid (A0.out.below hb)
        replace HQ := hid (HQ.out.below hb)
        clear hb
        cases hw : inW (h + 1) ws
        · have HO := hid (okTR_no3 (xs := xs) (s := (z : Int)) (ws := ws) (by rw [HH.out]; exact hw))
          clear hw
          have ebox0 := A0.out.1
          go_wp2
          go_ret2
          exact ⟨ret_ib (ansTR_no HO.out).symm HO.out.symm, HB.out⟩
        · have HW := hid hw
          have HWn : Hid (inW (rkN xs) ws = true) := hid (by rw [HH.out]; exact hw)
          have HO := hid (okTR_yes HRI.out h40 HWn.out)
          have HEl := hid (inW_rkW HG.out HWn.out)
          have HLn := hid (rkW_length (rankL xs) ws)
          have HSm := hid (rank_small HG.out)
          have HRl : Hid ((rankL xs).length = h + 1) := hid (by rw [rankL_length, HH.out])
          have HV1 := hid (HV.out.below HB.out)
          have HU1 := hid (HU.out.below HB.out)
          have HS := hid (show SR w' w.heap.size v w' from ⟨A0.out, Below.refl _ _⟩)
          have hbx := A0.out.1
          have hw100 : ws.length ≤ 100 := by omega
          clear hw
          go_wp2_with fail
          go_region_held3 (fun W => W.cell? ⟨w.heap.size, 0, none⟩ = some v ∧ Hid (SR w' w.heap.size v W)) (first | exact ⟨HS3.out.at_.1, HS3⟩ | exact ⟨HS2.out.at_.1, HS2⟩ | exact ⟨HS.out.drew.at_.1, hid HS.out.drew⟩) (first | (go_at_call 65; refine (tgAt_SR _ _ xs (rankL xs) ws w' w.heap.size _ HQ.out HU1.out (by rw [HRl.out]; exact HW.out) hw100 (by rw [HRl.out]; omega) HSm.out v (Hid.out (by first | assumption | exact hid HS.out.drew))).mono ?_; rintro e' w4 ⟨q4, rfl, hu4, hs4⟩; have HU4 := hid hu4; have HS2 := hid hs4; clear hu4 hs4) | (go_at_call 66; refine (step_SR v _ xs _ w' w.heap.size z _ HV1.out HU4.out HG.out HZ.out HEl.out (by have := HLn.out; omega) HS2.out).mono ?_; rintro e' w5 ⟨rfl, hs5⟩; have HS3 := hid hs5; clear hs5))
          have HB3 := hid (below_to HB.out HS3.out.below)
          clear hbx
          go_wp2
          go_ret2
          exact ⟨ret_ib (ansTR_yes HO.out).symm HO.out.symm, HB3.out⟩
      · have HO := hid (okTR_no2 (xs := xs) (s := (z : Int)) h40)
        have ebox0 := A0.out.1
        go_wp2
        go_ret2
        exact ⟨ret_ib (ansTR_no HO.out).symm HO.out.symm, HB.out⟩
theorem implToggleRank_any (v : Value) (xs : List Int) (s i : Int) (w : World) (hv : Ints w v xs) (hl : xs.length ≤ 1048576) (wf : (Lit.int .i64 s).wf = true) (wfi : (Lit.int .i64 i).wf = true) :
    Calls Tryz.prog 12 #[.agg #[v], .int .i64 s, .int .i64 i] w fun r w' => r = .returned (.tuple #[.int .i64 (ansTR xs [i] s), .bool (okTR xs [i] s)]) ∧ Below w.heap.size w w' := by
  have HV := hid hv
  have WF := hid wf
  clear hv wf wfi
  go_enter Tryz.func12, Tryz.ntmps12
  have HB := hid (below_alloc (Below.refl _ w) (.cells #[v] 26))
  have A0 := hid (At.newAt w v 26 w.heap.size (by simp))
  go_wp2_with fail
  refine (implToggleRanks_any _ xs s _ [i] _ ((HV.out.below HB.out).alloc _) hl WF.out (Blk.ints (xs := [i]) (c := 1) (Blk.newAt _ 3 _ _ (by first | rfl | simp))) (by simp)).mono ?_
  rintro e w' ⟨rfl, hb⟩
  replace HB := hid (below_to (below_alloc HB.out _) hb)
  replace A0 := hid ((A0.out.alloc _).below hb)
  clear hb
  have ebox0 := A0.out.1
  go_wp2
  go_ret2
  exact ⟨rfl, HB.out⟩
/-! ### sweeps -/

theorem sTRow_any (v : Value) (rs : List Int) (h : Nat) (w : World) (hv : Ints w v rs) (hn : rs.length = h + 1) (h9 : h ≤ 9) (hr : ∀ i, i < rs.length → ∃ r : Nat, rs.getD i 0 = (r : Int) ∧ r < 1024) :
    Calls Tryz.prog 73 #[v, (.func (.func 51) #[] #[])] w fun (r : Ending) w' => ∃ q, r = Ending.returned q ∧ OwnI 3 w' w.heap.size q (rkW rs (wRow h)) ∧ Below w.heap.size w w' := by
  have HR := hid hr
  have HV := hid hv
  have HN := hid hn
  obtain ⟨A, c, rfl, -⟩ := hv
  rw [hn] at HV ⊢
  clear hr hn
  go_enter Tryz.func73, Tryz.ntmps73
  go_wp2_with fail
  refine (swRow_any h _ h9).mono ?_
  rintro e w1 ⟨a, rfl, ha, hb⟩
  have HA := hid ha
  have HB := hid hb
  clear ha hb
  go_wp2_with fail
  refine (wordRow_any a h _ HA.out h9).mono ?_
  rintro e w2 ⟨u, rfl, ho, hb⟩
  have HU := hid ho.ints
  have HB2 := hid (below_to HB.out hb)
  clear ho hb
  go_wp2_with fail
  refine (togglesAt_any _ _ rs (wRow h) _ (HV.out.below HB2.out) HU.out (by rw [HN.out]; exact inW_wRow (by omega)) (wRow_length h9) (by rw [HN.out]; omega) HR.out).mono ?_
  rintro e w3 ⟨q, rfl, ho, hb⟩
  have HO := hid ho
  have HB3 := hid (below_to HB2.out hb)
  have hz := HB2.out.size
  clear ho hb
  go_wp2
  go_ret
  exact ⟨_, rfl, HO.out.mono hz, HB3.out⟩
theorem sTRow_SR (v : Value) (rs : List Int) (h : Nat) (w0 : World) (b : Nat) (W : World) (hv : Ints w0 v rs) (hn : rs.length = h + 1) (h9 : h ≤ 9) (hr : ∀ i, i < rs.length → ∃ r : Nat, rs.getD i 0 = (r : Int) ∧ r < 1024) (vp : Value) (hS : SR w0 b vp W) :
    Calls Tryz.prog 73 #[v, (.func (.func 51) #[] #[])] W fun (r : Ending) w' => ∃ q, r = Ending.returned q ∧ Ints w' q (rkW rs (wRow h)) ∧ SR w0 b vp w' :=
  (sTRow_any v rs h W (hv.below hS.below) hn h9 hr).mono fun _ _ ⟨q, h1, h2, h3⟩ => ⟨q, h1, h2.ints, hS.to h3⟩
set_option maxHeartbeats 1600000 in
theorem sweptRow_any (v : Value) (xs : List Int) (s : Int) (w : World) (hv : Ints w v xs) (hl : xs.length ≤ 1048576) (wf : (Lit.int .i64 s).wf = true) :
    Calls Tryz.prog 50 #[.agg #[v], .int .i64 s, (.func (.func 51) #[] #[])] w fun r w' => r = .returned (.tuple #[.int .i64 (ansSW wRow xs s), .bool (okRI xs s)]) ∧ Below w.heap.size w w' := by
  have HV := hid hv
  clear hv wf
  go_enter Tryz.func50, Tryz.ntmps50
  have HB := hid (below_alloc (Below.refl _ w) (.cells #[v] 26))
  have A0 := hid (At.newAt w v 26 w.heap.size (by simp))
  go_wp2_with fail
  refine (implRanksOf_any _ xs _ (HV.out.below HB.out) hl).mono ?_
  rintro e w' ⟨q, rfl, ho, -, hb⟩
  replace HB := hid (below_to HB.out hb)
  replace A0 := hid (A0.out.below hb)
  clear hb
  cases hk : okRk xs
  · have HO := hid (okRI_no (s := s) hk)
    clear hk
    obtain ⟨qA, qn, qc, rfl⟩ := ho.shape3
    clear ho
    have ebox0 := A0.out.1
    go_wp2
    go_ret2
    exact ⟨ret_ib (ansSW_no HO.out).symm HO.out.symm, HB.out⟩
  · have HK := hid hk
    rw [ansRO_yes hk] at ho
    obtain ⟨hg, hr⟩ := okRk_good hk
    obtain ⟨h, hh, h9⟩ := rkN_some hg
    have HQ := hid ho.ints
    have HG := hid hg
    have HH := hid hh
    clear hk ho hg hr hh
    have ebox0 := A0.out.1
    go_wp2_with fail
    clear ebox0
    refine (hasIdeal_any _ xs s _ (HV.out.below HB.out) hl).mono ?_
    rintro e w' ⟨rfl, hb⟩
    replace HB := hid (below_to HB.out hb)
    replace A0 := hid (A0.out.below hb)
    replace HQ := hid (HQ.out.below hb)
    clear hb
    cases hi : okIdeal xs s
    · have HO : Hid (okRI xs s = false) := hid (by rw [okRI_yes HK.out]; exact hi)
      clear hi
      have ebox0 := A0.out.1
      go_wp2
      go_ret2
      exact ⟨ret_ib (ansSW_no HO.out).symm HO.out.symm, HB.out⟩
    · have HO : Hid (okRI xs s = true) := hid (by rw [okRI_yes HK.out]; exact hi)
      obtain ⟨z, rfl, _, hz, _⟩ := okIdeal_all hi
      have HZ := hid hz
      have HAn := hid (ansSW_yes (f := wRow) HO.out HH.out)
      have HEl := hid (inW_rkW HG.out (show inW (rkN xs) (wRow h) = true from inW_wRow (by rw [HH.out]; omega)))
      have HLn := hid (rkW_length (rankL xs) (wRow h))
      have HLw := hid (wRow_length h9)
      have HSm := hid (rank_small HG.out)
      have HRl : Hid ((rankL xs).length = h + 1) := hid (by rw [rankL_length, HH.out])
      have HV1 := hid (HV.out.below HB.out)
      have HS := hid (show SR w' w.heap.size v w' from ⟨A0.out, Below.refl _ _⟩)
      have hbx := A0.out.1
      clear hi hz
      go_wp2_with fail
      go_region_held3 (fun W => W.cell? ⟨w.heap.size, 0, none⟩ = some v ∧ Hid (SR w' w.heap.size v W)) (first | exact ⟨HS3.out.at_.1, HS3⟩ | exact ⟨HS2.out.at_.1, HS2⟩ | exact ⟨HS.out.drew.at_.1, hid HS.out.drew⟩) (first | (go_at_call 73; refine (sTRow_SR _ (rankL xs) h w' w.heap.size _ HQ.out HRl.out h9 HSm.out v (Hid.out (by first | assumption | exact hid HS.out.drew))).mono ?_; rintro e' w4 ⟨q4, rfl, hu4, hs4⟩; have HU4 := hid hu4; have HS2 := hid hs4; clear hu4 hs4) | (go_at_call 66; refine (step_SR v _ xs _ w' w.heap.size z _ HV1.out HU4.out HG.out HZ.out HEl.out (by have := HLn.out; have := HLw.out; omega) HS2.out).mono ?_; rintro e' w5 ⟨rfl, hs5⟩; have HS3 := hid hs5; clear hs5))
      have HB3 := hid (below_to HB.out HS3.out.below)
      clear hbx
      go_wp2
      go_ret2
      exact ⟨ret_ib HAn.out.symm HO.out.symm, HB3.out⟩
theorem implRowByRanks_any (v : Value) (xs : List Int) (s : Int) (w : World) (hv : Ints w v xs) (hl : xs.length ≤ 1048576) (wf : (Lit.int .i64 s).wf = true) :
    Calls Tryz.prog 7 #[.agg #[v], .int .i64 s] w fun r w' => r = .returned (.tuple #[.int .i64 (ansSW wRow xs s), .bool (okRI xs s)]) ∧ Below w.heap.size w w' := by
  have HV := hid hv
  have WF := hid wf
  clear hv wf
  go_enter Tryz.func7, Tryz.ntmps7
  have HB := hid (below_alloc (Below.refl _ w) (.cells #[v] 26))
  have A0 := hid (At.newAt w v 26 w.heap.size (by simp))
  go_wp2_with fail
  refine (sweptRow_any _ xs s _ (HV.out.below HB.out) hl WF.out).mono ?_
  rintro e w' ⟨rfl, hb⟩
  replace HB := hid (below_to HB.out hb)
  replace A0 := hid (A0.out.below hb)
  clear hb
  have ebox0 := A0.out.1
  go_wp2
  go_ret2
  exact ⟨rfl, HB.out⟩

theorem sTVac_any (v : Value) (rs : List Int) (h : Nat) (w : World) (hv : Ints w v rs) (hn : rs.length = h + 1) (h9 : h ≤ 9) (hr : ∀ i, i < rs.length → ∃ r : Nat, rs.getD i 0 = (r : Int) ∧ r < 1024) :
    Calls Tryz.prog 73 #[v, (.func (.func 79) #[] #[])] w fun (r : Ending) w' => ∃ q, r = Ending.returned q ∧ OwnI 3 w' w.heap.size q (rkW rs (wVac h)) ∧ Below w.heap.size w w' := by
  have HR := hid hr
  have HV := hid hv
  have HN := hid hn
  obtain ⟨A, c, rfl, -⟩ := hv
  rw [hn] at HV ⊢
  clear hr hn
  go_enter Tryz.func73, Tryz.ntmps73
  go_wp2_with fail
  refine (swVac_any h _ h9).mono ?_
  rintro e w1 ⟨a, rfl, ha, hb⟩
  have HA := hid ha
  have HB := hid hb
  clear ha hb
  go_wp2_with fail
  refine (wordVac_any a h _ HA.out h9).mono ?_
  rintro e w2 ⟨u, rfl, ho, hb⟩
  have HU := hid ho.ints
  have HB2 := hid (below_to HB.out hb)
  clear ho hb
  go_wp2_with fail
  refine (togglesAt_any _ _ rs (wVac h) _ (HV.out.below HB2.out) HU.out (by rw [HN.out]; exact inW_wVac (by omega)) (wVac_length h9) (by rw [HN.out]; omega) HR.out).mono ?_
  rintro e w3 ⟨q, rfl, ho, hb⟩
  have HO := hid ho
  have HB3 := hid (below_to HB2.out hb)
  have hz := HB2.out.size
  clear ho hb
  go_wp2
  go_ret
  exact ⟨_, rfl, HO.out.mono hz, HB3.out⟩
theorem sTVac_SR (v : Value) (rs : List Int) (h : Nat) (w0 : World) (b : Nat) (W : World) (hv : Ints w0 v rs) (hn : rs.length = h + 1) (h9 : h ≤ 9) (hr : ∀ i, i < rs.length → ∃ r : Nat, rs.getD i 0 = (r : Int) ∧ r < 1024) (vp : Value) (hS : SR w0 b vp W) :
    Calls Tryz.prog 73 #[v, (.func (.func 79) #[] #[])] W fun (r : Ending) w' => ∃ q, r = Ending.returned q ∧ Ints w' q (rkW rs (wVac h)) ∧ SR w0 b vp w' :=
  (sTVac_any v rs h W (hv.below hS.below) hn h9 hr).mono fun _ _ ⟨q, h1, h2, h3⟩ => ⟨q, h1, h2.ints, hS.to h3⟩
set_option maxHeartbeats 1600000 in
theorem sweptVac_any (v : Value) (xs : List Int) (s : Int) (w : World) (hv : Ints w v xs) (hl : xs.length ≤ 1048576) (wf : (Lit.int .i64 s).wf = true) :
    Calls Tryz.prog 50 #[.agg #[v], .int .i64 s, (.func (.func 79) #[] #[])] w fun r w' => r = .returned (.tuple #[.int .i64 (ansSW wVac xs s), .bool (okRI xs s)]) ∧ Below w.heap.size w w' := by
  have HV := hid hv
  clear hv wf
  go_enter Tryz.func50, Tryz.ntmps50
  have HB := hid (below_alloc (Below.refl _ w) (.cells #[v] 26))
  have A0 := hid (At.newAt w v 26 w.heap.size (by simp))
  go_wp2_with fail
  refine (implRanksOf_any _ xs _ (HV.out.below HB.out) hl).mono ?_
  rintro e w' ⟨q, rfl, ho, -, hb⟩
  replace HB := hid (below_to HB.out hb)
  replace A0 := hid (A0.out.below hb)
  clear hb
  cases hk : okRk xs
  · have HO := hid (okRI_no (s := s) hk)
    clear hk
    obtain ⟨qA, qn, qc, rfl⟩ := ho.shape3
    clear ho
    have ebox0 := A0.out.1
    go_wp2
    go_ret2
    exact ⟨ret_ib (ansSW_no HO.out).symm HO.out.symm, HB.out⟩
  · have HK := hid hk
    rw [ansRO_yes hk] at ho
    obtain ⟨hg, hr⟩ := okRk_good hk
    obtain ⟨h, hh, h9⟩ := rkN_some hg
    have HQ := hid ho.ints
    have HG := hid hg
    have HH := hid hh
    clear hk ho hg hr hh
    have ebox0 := A0.out.1
    go_wp2_with fail
    clear ebox0
    refine (hasIdeal_any _ xs s _ (HV.out.below HB.out) hl).mono ?_
    rintro e w' ⟨rfl, hb⟩
    replace HB := hid (below_to HB.out hb)
    replace A0 := hid (A0.out.below hb)
    replace HQ := hid (HQ.out.below hb)
    clear hb
    cases hi : okIdeal xs s
    · have HO : Hid (okRI xs s = false) := hid (by rw [okRI_yes HK.out]; exact hi)
      clear hi
      have ebox0 := A0.out.1
      go_wp2
      go_ret2
      exact ⟨ret_ib (ansSW_no HO.out).symm HO.out.symm, HB.out⟩
    · have HO : Hid (okRI xs s = true) := hid (by rw [okRI_yes HK.out]; exact hi)
      obtain ⟨z, rfl, _, hz, _⟩ := okIdeal_all hi
      have HZ := hid hz
      have HAn := hid (ansSW_yes (f := wVac) HO.out HH.out)
      have HEl := hid (inW_rkW HG.out (show inW (rkN xs) (wVac h) = true from inW_wVac (by rw [HH.out]; omega)))
      have HLn := hid (rkW_length (rankL xs) (wVac h))
      have HLw := hid (wVac_length h9)
      have HSm := hid (rank_small HG.out)
      have HRl : Hid ((rankL xs).length = h + 1) := hid (by rw [rankL_length, HH.out])
      have HV1 := hid (HV.out.below HB.out)
      have HS := hid (show SR w' w.heap.size v w' from ⟨A0.out, Below.refl _ _⟩)
      have hbx := A0.out.1
      clear hi hz
      go_wp2_with fail
      go_region_held3 (fun W => W.cell? ⟨w.heap.size, 0, none⟩ = some v ∧ Hid (SR w' w.heap.size v W)) (first | exact ⟨HS3.out.at_.1, HS3⟩ | exact ⟨HS2.out.at_.1, HS2⟩ | exact ⟨HS.out.drew.at_.1, hid HS.out.drew⟩) (first | (go_at_call 73; refine (sTVac_SR _ (rankL xs) h w' w.heap.size _ HQ.out HRl.out h9 HSm.out v (Hid.out (by first | assumption | exact hid HS.out.drew))).mono ?_; rintro e' w4 ⟨q4, rfl, hu4, hs4⟩; have HU4 := hid hu4; have HS2 := hid hs4; clear hu4 hs4) | (go_at_call 66; refine (step_SR v _ xs _ w' w.heap.size z _ HV1.out HU4.out HG.out HZ.out HEl.out (by have := HLn.out; have := HLw.out; omega) HS2.out).mono ?_; rintro e' w5 ⟨rfl, hs5⟩; have HS3 := hid hs5; clear hs5))
      have HB3 := hid (below_to HB.out HS3.out.below)
      clear hbx
      go_wp2
      go_ret2
      exact ⟨ret_ib HAn.out.symm HO.out.symm, HB3.out⟩
theorem implRowvacuation_any (v : Value) (xs : List Int) (s : Int) (w : World) (hv : Ints w v xs) (hl : xs.length ≤ 1048576) (wf : (Lit.int .i64 s).wf = true) :
    Calls Tryz.prog 31 #[.agg #[v], .int .i64 s] w fun r w' => r = .returned (.tuple #[.int .i64 (ansSW wVac xs s), .bool (okRI xs s)]) ∧ Below w.heap.size w w' := by
  have HV := hid hv
  have WF := hid wf
  clear hv wf
  go_enter Tryz.func31, Tryz.ntmps31
  have HB := hid (below_alloc (Below.refl _ w) (.cells #[v] 26))
  have A0 := hid (At.newAt w v 26 w.heap.size (by simp))
  go_wp2_with fail
  refine (sweptVac_any _ xs s _ (HV.out.below HB.out) hl WF.out).mono ?_
  rintro e w' ⟨rfl, hb⟩
  replace HB := hid (below_to HB.out hb)
  replace A0 := hid (A0.out.below hb)
  clear hb
  have ebox0 := A0.out.1
  go_wp2
  go_ret2
  exact ⟨rfl, HB.out⟩

theorem sTDual_any (v : Value) (rs : List Int) (h : Nat) (w : World) (hv : Ints w v rs) (hn : rs.length = h + 1) (h9 : h ≤ 9) (hr : ∀ i, i < rs.length → ∃ r : Nat, rs.getD i 0 = (r : Int) ∧ r < 1024) :
    Calls Tryz.prog 73 #[v, (.func (.func 81) #[] #[])] w fun (r : Ending) w' => ∃ q, r = Ending.returned q ∧ OwnI 3 w' w.heap.size q (rkW rs (wDual h)) ∧ Below w.heap.size w w' := by
  have HR := hid hr
  have HV := hid hv
  have HN := hid hn
  obtain ⟨A, c, rfl, -⟩ := hv
  rw [hn] at HV ⊢
  clear hr hn
  go_enter Tryz.func73, Tryz.ntmps73
  go_wp2_with fail
  refine (swDual_any h _ h9).mono ?_
  rintro e w1 ⟨a, rfl, ha, hb⟩
  have HA := hid ha
  have HB := hid hb
  clear ha hb
  go_wp2_with fail
  refine (wordDual_any a h _ HA.out h9).mono ?_
  rintro e w2 ⟨u, rfl, ho, hb⟩
  have HU := hid ho.ints
  have HB2 := hid (below_to HB.out hb)
  clear ho hb
  go_wp2_with fail
  refine (togglesAt_any _ _ rs (wDual h) _ (HV.out.below HB2.out) HU.out (by rw [HN.out]; exact inW_wDual (by omega)) (wDual_length h9) (by rw [HN.out]; omega) HR.out).mono ?_
  rintro e w3 ⟨q, rfl, ho, hb⟩
  have HO := hid ho
  have HB3 := hid (below_to HB2.out hb)
  have hz := HB2.out.size
  clear ho hb
  go_wp2
  go_ret
  exact ⟨_, rfl, HO.out.mono hz, HB3.out⟩
theorem sTDual_SR (v : Value) (rs : List Int) (h : Nat) (w0 : World) (b : Nat) (W : World) (hv : Ints w0 v rs) (hn : rs.length = h + 1) (h9 : h ≤ 9) (hr : ∀ i, i < rs.length → ∃ r : Nat, rs.getD i 0 = (r : Int) ∧ r < 1024) (vp : Value) (hS : SR w0 b vp W) :
    Calls Tryz.prog 73 #[v, (.func (.func 81) #[] #[])] W fun (r : Ending) w' => ∃ q, r = Ending.returned q ∧ Ints w' q (rkW rs (wDual h)) ∧ SR w0 b vp w' :=
  (sTDual_any v rs h W (hv.below hS.below) hn h9 hr).mono fun _ _ ⟨q, h1, h2, h3⟩ => ⟨q, h1, h2.ints, hS.to h3⟩
set_option maxHeartbeats 1600000 in
theorem sweptDual_any (v : Value) (xs : List Int) (s : Int) (w : World) (hv : Ints w v xs) (hl : xs.length ≤ 1048576) (wf : (Lit.int .i64 s).wf = true) :
    Calls Tryz.prog 50 #[.agg #[v], .int .i64 s, (.func (.func 81) #[] #[])] w fun r w' => r = .returned (.tuple #[.int .i64 (ansSW wDual xs s), .bool (okRI xs s)]) ∧ Below w.heap.size w w' := by
  have HV := hid hv
  clear hv wf
  go_enter Tryz.func50, Tryz.ntmps50
  have HB := hid (below_alloc (Below.refl _ w) (.cells #[v] 26))
  have A0 := hid (At.newAt w v 26 w.heap.size (by simp))
  go_wp2_with fail
  refine (implRanksOf_any _ xs _ (HV.out.below HB.out) hl).mono ?_
  rintro e w' ⟨q, rfl, ho, -, hb⟩
  replace HB := hid (below_to HB.out hb)
  replace A0 := hid (A0.out.below hb)
  clear hb
  cases hk : okRk xs
  · have HO := hid (okRI_no (s := s) hk)
    clear hk
    obtain ⟨qA, qn, qc, rfl⟩ := ho.shape3
    clear ho
    have ebox0 := A0.out.1
    go_wp2
    go_ret2
    exact ⟨ret_ib (ansSW_no HO.out).symm HO.out.symm, HB.out⟩
  · have HK := hid hk
    rw [ansRO_yes hk] at ho
    obtain ⟨hg, hr⟩ := okRk_good hk
    obtain ⟨h, hh, h9⟩ := rkN_some hg
    have HQ := hid ho.ints
    have HG := hid hg
    have HH := hid hh
    clear hk ho hg hr hh
    have ebox0 := A0.out.1
    go_wp2_with fail
    clear ebox0
    refine (hasIdeal_any _ xs s _ (HV.out.below HB.out) hl).mono ?_
    rintro e w' ⟨rfl, hb⟩
    replace HB := hid (below_to HB.out hb)
    replace A0 := hid (A0.out.below hb)
    replace HQ := hid (HQ.out.below hb)
    clear hb
    cases hi : okIdeal xs s
    · have HO : Hid (okRI xs s = false) := hid (by rw [okRI_yes HK.out]; exact hi)
      clear hi
      have ebox0 := A0.out.1
      go_wp2
      go_ret2
      exact ⟨ret_ib (ansSW_no HO.out).symm HO.out.symm, HB.out⟩
    · have HO : Hid (okRI xs s = true) := hid (by rw [okRI_yes HK.out]; exact hi)
      obtain ⟨z, rfl, _, hz, _⟩ := okIdeal_all hi
      have HZ := hid hz
      have HAn := hid (ansSW_yes (f := wDual) HO.out HH.out)
      have HEl := hid (inW_rkW HG.out (show inW (rkN xs) (wDual h) = true from inW_wDual (by rw [HH.out]; omega)))
      have HLn := hid (rkW_length (rankL xs) (wDual h))
      have HLw := hid (wDual_length h9)
      have HSm := hid (rank_small HG.out)
      have HRl : Hid ((rankL xs).length = h + 1) := hid (by rw [rankL_length, HH.out])
      have HV1 := hid (HV.out.below HB.out)
      have HS := hid (show SR w' w.heap.size v w' from ⟨A0.out, Below.refl _ _⟩)
      have hbx := A0.out.1
      clear hi hz
      go_wp2_with fail
      go_region_held3 (fun W => W.cell? ⟨w.heap.size, 0, none⟩ = some v ∧ Hid (SR w' w.heap.size v W)) (first | exact ⟨HS3.out.at_.1, HS3⟩ | exact ⟨HS2.out.at_.1, HS2⟩ | exact ⟨HS.out.drew.at_.1, hid HS.out.drew⟩) (first | (go_at_call 73; refine (sTDual_SR _ (rankL xs) h w' w.heap.size _ HQ.out HRl.out h9 HSm.out v (Hid.out (by first | assumption | exact hid HS.out.drew))).mono ?_; rintro e' w4 ⟨q4, rfl, hu4, hs4⟩; have HU4 := hid hu4; have HS2 := hid hs4; clear hu4 hs4) | (go_at_call 66; refine (step_SR v _ xs _ w' w.heap.size z _ HV1.out HU4.out HG.out HZ.out HEl.out (by have := HLn.out; have := HLw.out; omega) HS2.out).mono ?_; rintro e' w5 ⟨rfl, hs5⟩; have HS3 := hid hs5; clear hs5))
      have HB3 := hid (below_to HB.out HS3.out.below)
      clear hbx
      go_wp2
      go_ret2
      exact ⟨ret_ib HAn.out.symm HO.out.symm, HB3.out⟩
theorem implDualRowvacuation_any (v : Value) (xs : List Int) (s : Int) (w : World) (hv : Ints w v xs) (hl : xs.length ≤ 1048576) (wf : (Lit.int .i64 s).wf = true) :
    Calls Tryz.prog 33 #[.agg #[v], .int .i64 s] w fun r w' => r = .returned (.tuple #[.int .i64 (ansSW wDual xs s), .bool (okRI xs s)]) ∧ Below w.heap.size w w' := by
  have HV := hid hv
  have WF := hid wf
  clear hv wf
  go_enter Tryz.func33, Tryz.ntmps33
  have HB := hid (below_alloc (Below.refl _ w) (.cells #[v] 26))
  have A0 := hid (At.newAt w v 26 w.heap.size (by simp))
  go_wp2_with fail
  refine (sweptDual_any _ xs s _ (HV.out.below HB.out) hl WF.out).mono ?_
  rintro e w' ⟨rfl, hb⟩
  replace HB := hid (below_to HB.out hb)
  replace A0 := hid (A0.out.below hb)
  clear hb
  have ebox0 := A0.out.1
  go_wp2
  go_ret2
  exact ⟨rfl, HB.out⟩

theorem sTGyr_any (v : Value) (rs : List Int) (h : Nat) (w : World) (hv : Ints w v rs) (hn : rs.length = h + 1) (h9 : h ≤ 9) (hr : ∀ i, i < rs.length → ∃ r : Nat, rs.getD i 0 = (r : Int) ∧ r < 1024) :
    Calls Tryz.prog 73 #[v, (.func (.func 70) #[] #[])] w fun (r : Ending) w' => ∃ q, r = Ending.returned q ∧ OwnI 3 w' w.heap.size q (rkW rs (wGyr h)) ∧ Below w.heap.size w w' := by
  have HR := hid hr
  have HV := hid hv
  have HN := hid hn
  obtain ⟨A, c, rfl, -⟩ := hv
  rw [hn] at HV ⊢
  clear hr hn
  go_enter Tryz.func73, Tryz.ntmps73
  go_wp2_with fail
  refine (swGyr_any h _ h9).mono ?_
  rintro e w1 ⟨a, rfl, ha, hb⟩
  have HA := hid ha
  have HB := hid hb
  clear ha hb
  go_wp2_with fail
  refine (wordGyr_any a h _ HA.out h9).mono ?_
  rintro e w2 ⟨u, rfl, ho, hb⟩
  have HU := hid ho.ints
  have HB2 := hid (below_to HB.out hb)
  clear ho hb
  go_wp2_with fail
  refine (togglesAt_any _ _ rs (wGyr h) _ (HV.out.below HB2.out) HU.out (by rw [HN.out]; exact inW_wGyr (by omega)) (wGyr_length h9) (by rw [HN.out]; omega) HR.out).mono ?_
  rintro e w3 ⟨q, rfl, ho, hb⟩
  have HO := hid ho
  have HB3 := hid (below_to HB2.out hb)
  have hz := HB2.out.size
  clear ho hb
  go_wp2
  go_ret
  exact ⟨_, rfl, HO.out.mono hz, HB3.out⟩
theorem sTGyr_SR (v : Value) (rs : List Int) (h : Nat) (w0 : World) (b : Nat) (W : World) (hv : Ints w0 v rs) (hn : rs.length = h + 1) (h9 : h ≤ 9) (hr : ∀ i, i < rs.length → ∃ r : Nat, rs.getD i 0 = (r : Int) ∧ r < 1024) (vp : Value) (hS : SR w0 b vp W) :
    Calls Tryz.prog 73 #[v, (.func (.func 70) #[] #[])] W fun (r : Ending) w' => ∃ q, r = Ending.returned q ∧ Ints w' q (rkW rs (wGyr h)) ∧ SR w0 b vp w' :=
  (sTGyr_any v rs h W (hv.below hS.below) hn h9 hr).mono fun _ _ ⟨q, h1, h2, h3⟩ => ⟨q, h1, h2.ints, hS.to h3⟩
set_option maxHeartbeats 1600000 in
theorem sweptGyr_any (v : Value) (xs : List Int) (s : Int) (w : World) (hv : Ints w v xs) (hl : xs.length ≤ 1048576) (wf : (Lit.int .i64 s).wf = true) :
    Calls Tryz.prog 50 #[.agg #[v], .int .i64 s, (.func (.func 70) #[] #[])] w fun r w' => r = .returned (.tuple #[.int .i64 (ansSW wGyr xs s), .bool (okRI xs s)]) ∧ Below w.heap.size w w' := by
  have HV := hid hv
  clear hv wf
  go_enter Tryz.func50, Tryz.ntmps50
  have HB := hid (below_alloc (Below.refl _ w) (.cells #[v] 26))
  have A0 := hid (At.newAt w v 26 w.heap.size (by simp))
  go_wp2_with fail
  refine (implRanksOf_any _ xs _ (HV.out.below HB.out) hl).mono ?_
  rintro e w' ⟨q, rfl, ho, -, hb⟩
  replace HB := hid (below_to HB.out hb)
  replace A0 := hid (A0.out.below hb)
  clear hb
  cases hk : okRk xs
  · have HO := hid (okRI_no (s := s) hk)
    clear hk
    obtain ⟨qA, qn, qc, rfl⟩ := ho.shape3
    clear ho
    have ebox0 := A0.out.1
    go_wp2
    go_ret2
    exact ⟨ret_ib (ansSW_no HO.out).symm HO.out.symm, HB.out⟩
  · have HK := hid hk
    rw [ansRO_yes hk] at ho
    obtain ⟨hg, hr⟩ := okRk_good hk
    obtain ⟨h, hh, h9⟩ := rkN_some hg
    have HQ := hid ho.ints
    have HG := hid hg
    have HH := hid hh
    clear hk ho hg hr hh
    have ebox0 := A0.out.1
    go_wp2_with fail
    clear ebox0
    refine (hasIdeal_any _ xs s _ (HV.out.below HB.out) hl).mono ?_
    rintro e w' ⟨rfl, hb⟩
    replace HB := hid (below_to HB.out hb)
    replace A0 := hid (A0.out.below hb)
    replace HQ := hid (HQ.out.below hb)
    clear hb
    cases hi : okIdeal xs s
    · have HO : Hid (okRI xs s = false) := hid (by rw [okRI_yes HK.out]; exact hi)
      clear hi
      have ebox0 := A0.out.1
      go_wp2
      go_ret2
      exact ⟨ret_ib (ansSW_no HO.out).symm HO.out.symm, HB.out⟩
    · have HO : Hid (okRI xs s = true) := hid (by rw [okRI_yes HK.out]; exact hi)
      obtain ⟨z, rfl, _, hz, _⟩ := okIdeal_all hi
      have HZ := hid hz
      have HAn := hid (ansSW_yes (f := wGyr) HO.out HH.out)
      have HEl := hid (inW_rkW HG.out (show inW (rkN xs) (wGyr h) = true from inW_wGyr (by rw [HH.out]; omega)))
      have HLn := hid (rkW_length (rankL xs) (wGyr h))
      have HLw := hid (wGyr_length h9)
      have HSm := hid (rank_small HG.out)
      have HRl : Hid ((rankL xs).length = h + 1) := hid (by rw [rankL_length, HH.out])
      have HV1 := hid (HV.out.below HB.out)
      have HS := hid (show SR w' w.heap.size v w' from ⟨A0.out, Below.refl _ _⟩)
      have hbx := A0.out.1
      clear hi hz
      go_wp2_with fail
      go_region_held3 (fun W => W.cell? ⟨w.heap.size, 0, none⟩ = some v ∧ Hid (SR w' w.heap.size v W)) (first | exact ⟨HS3.out.at_.1, HS3⟩ | exact ⟨HS2.out.at_.1, HS2⟩ | exact ⟨HS.out.drew.at_.1, hid HS.out.drew⟩) (first | (go_at_call 73; refine (sTGyr_SR _ (rankL xs) h w' w.heap.size _ HQ.out HRl.out h9 HSm.out v (Hid.out (by first | assumption | exact hid HS.out.drew))).mono ?_; rintro e' w4 ⟨q4, rfl, hu4, hs4⟩; have HU4 := hid hu4; have HS2 := hid hs4; clear hu4 hs4) | (go_at_call 66; refine (step_SR v _ xs _ w' w.heap.size z _ HV1.out HU4.out HG.out HZ.out HEl.out (by have := HLn.out; have := HLw.out; omega) HS2.out).mono ?_; rintro e' w5 ⟨rfl, hs5⟩; have HS3 := hid hs5; clear hs5))
      have HB3 := hid (below_to HB.out HS3.out.below)
      clear hbx
      go_wp2
      go_ret2
      exact ⟨ret_ib HAn.out.symm HO.out.symm, HB3.out⟩
theorem implGyrateIdeal_any (v : Value) (xs : List Int) (s : Int) (w : World) (hv : Ints w v xs) (hl : xs.length ≤ 1048576) (wf : (Lit.int .i64 s).wf = true) :
    Calls Tryz.prog 22 #[.agg #[v], .int .i64 s] w fun r w' => r = .returned (.tuple #[.int .i64 (ansSW wGyr xs s), .bool (okRI xs s)]) ∧ Below w.heap.size w w' := by
  have HV := hid hv
  have WF := hid wf
  clear hv wf
  go_enter Tryz.func22, Tryz.ntmps22
  have HB := hid (below_alloc (Below.refl _ w) (.cells #[v] 26))
  have A0 := hid (At.newAt w v 26 w.heap.size (by simp))
  go_wp2_with fail
  refine (sweptGyr_any _ xs s _ (HV.out.below HB.out) hl WF.out).mono ?_
  rintro e w' ⟨rfl, hb⟩
  replace HB := hid (below_to HB.out hb)
  replace A0 := hid (A0.out.below hb)
  clear hb
  have ebox0 := A0.out.1
  go_wp2
  go_ret2
  exact ⟨rfl, HB.out⟩
end Go.Proofs.YtdemikjaghegnaaGreat
