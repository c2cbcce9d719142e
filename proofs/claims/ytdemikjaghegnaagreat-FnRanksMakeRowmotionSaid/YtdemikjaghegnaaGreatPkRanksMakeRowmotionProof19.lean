/- Texts RvK, AddRow, OrbC, Pc, Size, OrbS, one behind the other. -/
import Derived.Test.YtdemikjaghegnaaGreatPkRanksMakeRowmotionProof01
import Derived.Test.YtdemikjaghegnaaGreatPkRanksMakeRowmotionProof02
import Derived.Test.YtdemikjaghegnaaGreatPkRanksMakeRowmotionProof05
import Derived.Test.YtdemikjaghegnaaGreatPkRanksMakeRowmotionProof06
import Derived.Test.YtdemikjaghegnaaGreatPkRanksMakeRowmotionProof12
import Derived.Test.YtdemikjaghegnaaGreatPkRanksMakeRowmotionProof16
import Derived.Test.YtdemikjaghegnaaGreatPkRanksMakeRowmotionProof17
import Derived.Test.YtdemikjaghegnaaGreatPkRanksMakeRowmotionProof18
/- Rowmotion by ranks, rowvacuation, gyration in the program. (by genrvk.py) -/
namespace Go.Proofs.YtdemikjaghegnaaGreat
open Go.RowKit Go.WideShapes Go.ChangeShapes
set_option linter.unusedVariables false

theorem rank_small {xs : List Int} (hg : good xs = true) : ∀ i, i < (rankL xs).length → ∃ r : Nat, (rankL xs).getD i 0 = (r : Int) ∧ r < 1024 := by
  intro i hi
  rw [rankL_length] at hi
  obtain ⟨r, h1, _, h2, _⟩ := rank_facts hg hi
  exact ⟨r, h1, h2⟩
theorem tgAt_SR (v u : Value) (xs rs ws : List Int) (w0 : World) (b : Nat) (W : World) (hv : Ints w0 v rs) (hu : Ints w0 u ws) (hw : inW rs.length ws = true) (hm : ws.length ≤ 100) (hr10 : rs.length ≤ 10) (hr : ∀ i, i < rs.length → ∃ r : Nat, rs.getD i 0 = (r : Int) ∧ r < 1024) (vp : Value) (hS : SR w0 b vp W) :
    Calls Tryz.prog 65 #[v, u] W fun (r : Ending) w' => ∃ q, r = Ending.returned q ∧ Ints w' q (rkW rs ws) ∧ SR w0 b vp w' :=
  (togglesAt_any v u rs ws W (hv.below hS.below) (hu.below hS.below) hw hm hr10 hr).mono fun _ _ ⟨q, h1, h2, h3⟩ => ⟨q, h1, h2.ints, hS.to h3⟩
theorem step_SR (v u : Value) (xs ys : List Int) (w0 : World) (b s : Nat) (W : World) (hv : Ints w0 v xs) (hu : Ints W u ys) (hg : good xs = true) (hs : s < 2 ^ xs.length) (hy : inW xs.length ys = true) (hm : ys.length ≤ 1048576) (hS : SR w0 b v W) :
    Calls Tryz.prog 66 #[u, .agg #[v], .int .i64 s] W fun r w' => r = .returned (.int .i64 (togW xs s ys : Nat)) ∧ SR w0 b v w' :=
  (step_any v u xs ys s W (hv.below hS.below) hu hg hs hy hm).mono fun _ _ ⟨h1, h2⟩ => ⟨h1, hS.to h2⟩
/-! ### ToggleRanks, ToggleRank -/
theorem allB_inW (n : Nat) (ws : List Int) : allB 0 (n : Int) ws = inW (n + 1) ws := by
  unfold allB inW
  congr 1
  funext x
  rw [Bool.eq_iff_iff]; simp; omega
set_option maxHeartbeats 1600000 in
theorem implToggleRanks_any (v : Value) (xs : List Int) (s : Int) (u : Value) (ws : List Int) (w : World) (hv : Ints w v xs) (hl : xs.length ≤ 1048576) (wf : (Lit.int .i64 s).wf = true) (hu : Ints w u ws) (hm : ws.length ≤ 1048576) :
    Calls Tryz.prog 16 #[.agg #[v], .int .i64 s, u] w fun r w' => r = .returned (.tuple #[.int .i64 (ansTR xs ws s), .bool (okTR xs ws s)]) ∧ Below w.heap.size w w' := by
  have HV := hid hv
  have HU := hid hu
  obtain ⟨uA, uc, rfl, -⟩ := hu
  clear hv wf
  go_enter Tryz.func16, Tryz.ntmps16
  have HB := hid (below_alloc (Below.refl _ w) (.cells #[v] 26))
  have A0 := hid (At.newAt w v 26 w.heap.size (by simp))
  go_wp2_with fail
  refine (implRanksOf_any _ xs _ (HV.out.below HB.out) hl).mono ?_
  rintro e w' ⟨q, rfl, ho, -, hb⟩
  replace HB := hid (below_to HB.out hb)
  replace A0 := hid (A0.out.below hb)
  clear hb
  cases hk : okRk xs
  · have HO := hid (okTR_no1 (ws := ws) (okRI_no (s := s) hk))
    clear hk
    obtain ⟨qA, qn, qc, rfl⟩ := ho.shape3
    clear ho
    have ebox0 := A0.out.1
    go_wp2
    go_ret2
    exact ⟨ret_ib (ansTR_no HO.out).symm HO.out.symm, HB.out⟩
  · have HK := hid hk
    rw [ansRO_yes hk] at ho
    obtain ⟨hg, hr⟩ := okRk_good hk
    obtain ⟨h, hh, h9⟩ := rkN_some hg
    have HQ := hid ho.ints
    obtain ⟨qA, qc, rfl, -⟩ := ho.shape
    rw [rankL_length, hh] at HQ ⊢
    have HG := hid hg
    have HH := hid hh
    clear hk ho hg hr hh
    have ebox0 := A0.out.1
    go_wp2_with fail
    clear ebox0
    refine (hasIdeal_any _ xs s _ (HV.out.below HB.out) hl).mono ?_
    rintro e w' ⟨rfl, hb⟩
    replace HB := hid (below_to HB.out hb)
    replace A0 := hid (A0.out.below hb)
    replace HQ := hid (HQ.out.below hb)
    clear hb
    cases hi : okIdeal xs s
    · have HO := hid (okTR_no1 (ws := ws) (s := s) (by rw [okRI_yes HK.out]; exact hi))
      clear hi
      have ebox0 := A0.out.1
      go_wp2
      go_ret2
      exact ⟨ret_ib (ansTR_no HO.out).symm HO.out.symm, HB.out⟩
    · have HRI : Hid (okRI xs s = true) := hid (by rw [okRI_yes HK.out]; exact hi)
      obtain ⟨z, rfl, _, hz, _⟩ := okIdeal_all hi
      have HZ := hid hz
      clear hi hz
      by_cases h40 : ws.length ≤ 40
      · skip
        have ebox0 := A0.out.1
        go_wp2_with fail
        clear ebox0
        refine (areWithin_any _ ws 0 h _ (HU.out.below HB.out) hm).mono ?_
        rw [allB_inW]
        rintro e w' ⟨rfl, hb⟩
        replace HB := hid (below_to HB.out hb)
        replace A0 := hid (A0.out.below hb)
        replace HQ := hid (HQ.out.below hb)
        clear hb
        cases hw : inW (h + 1) ws
        · have HO := hid (okTR_no3 (xs := xs) (s := (z : Int)) (ws := ws) (by rw [HH.out]; exact hw))
          clear hw
          have ebox0 := A0.out.1
          go_wp2
          go_ret2
          exact ⟨ret_ib (ansTR_no HO.out).symm HO.out.symm, HB.out⟩
        · have HW := hid hw
          have HWn : Hid (inW (rkN xs) ws = true) := hid (by rw [HH.out]; exact hw)
          have HO := hid (okTR_yes HRI.out h40 HWn.out)
          have HEl := hid (inW_rkW HG.out HWn.out)
          have HLn := hid (rkW_length (rankL xs) ws)
          have HSm := hid (rank_small HG.out)
          have HRl : Hid ((rankL xs).length = h + 1) := hid (by rw [rankL_length, HH.out])
          have HV1 := hid (HV.out.below HB.out)
          have HU1 := hid (HU.out.below HB.out)
          have HS := hid (show SR w' w.heap.size v w' from ⟨A0.out, Below.refl _ _⟩)
          have hbx := A0.out.1
          have hw100 : ws.length ≤ 100 := by omega
          clear hw
          go_wp2_with fail
          go_region_held3 (fun W => W.cell? ⟨w.heap.size, 0, none⟩ = some v ∧ Hid (SR w' w.heap.size v W)) (first | exact ⟨HS3.out.at_.1, HS3⟩ | exact ⟨HS2.out.at_.1, HS2⟩ | exact ⟨HS.out.drew.at_.1, hid HS.out.drew⟩) (first | (go_at_call 65; refine (tgAt_SR _ _ xs (rankL xs) ws w' w.heap.size _ HQ.out HU1.out (by rw [HRl.out]; exact HW.out) hw100 (by rw [HRl.out]; omega) HSm.out v (Hid.out (by first | assumption | exact hid HS.out.drew))).mono ?_; rintro e' w4 ⟨q4, rfl, hu4, hs4⟩; have HU4 := hid hu4; have HS2 := hid hs4; clear hu4 hs4) | (go_at_call 66; refine (step_SR v _ xs _ w' w.heap.size z _ HV1.out HU4.out HG.out HZ.out HEl.out (by have := HLn.out; omega) HS2.out).mono ?_; rintro e' w5 ⟨rfl, hs5⟩; have HS3 := hid hs5; clear hs5))
          have HB3 := hid (below_to HB.out HS3.out.below)
          clear hbx
          go_wp2
          go_ret2
          exact ⟨ret_ib (ansTR_yes HO.out).symm HO.out.symm, HB3.out⟩
      · have HO := hid (okTR_no2 (xs := xs) (s := (z : Int)) h40)
        have ebox0 := A0.out.1
        go_wp2
        go_ret2
        exact ⟨ret_ib (ansTR_no HO.out).symm HO.out.symm, HB.out⟩
theorem implToggleRank_any (v : Value) (xs : List Int) (s i : Int) (w : World) (hv : Ints w v xs) (hl : xs.length ≤ 1048576) (wf : (Lit.int .i64 s).wf = true) (wfi : (Lit.int .i64 i).wf = true) :
    Calls Tryz.prog 12 #[.agg #[v], .int .i64 s, .int .i64 i] w fun r w' => r = .returned (.tuple #[.int .i64 (ansTR xs [i] s), .bool (okTR xs [i] s)]) ∧ Below w.heap.size w w' := by
  have HV := hid hv
  have WF := hid wf
  clear hv wf wfi
  go_enter Tryz.func12, Tryz.ntmps12
  have HB := hid (below_alloc (Below.refl _ w) (.cells #[v] 26))
  have A0 := hid (At.newAt w v 26 w.heap.size (by simp))
  go_wp2_with fail
  refine (implToggleRanks_any _ xs s _ [i] _ ((HV.out.below HB.out).alloc _) hl WF.out (Blk.ints (xs := [i]) (c := 1) (Blk.newAt _ 3 _ _ (by first | rfl | simp))) (by simp)).mono ?_
  rintro e w' ⟨rfl, hb⟩
  replace HB := hid (below_to (below_alloc HB.out _) hb)
  replace A0 := hid ((A0.out.alloc _).below hb)
  clear hb
  have ebox0 := A0.out.1
  go_wp2
  go_ret2
  exact ⟨rfl, HB.out⟩
/-! ### sweeps -/

theorem sTRow_any (v : Value) (rs : List Int) (h : Nat) (w : World) (hv : Ints w v rs) (hn : rs.length = h + 1) (h9 : h ≤ 9) (hr : ∀ i, i < rs.length → ∃ r : Nat, rs.getD i 0 = (r : Int) ∧ r < 1024) :
    Calls Tryz.prog 73 #[v, (.func (.func 51) #[] #[])] w fun (r : Ending) w' => ∃ q, r = Ending.returned q ∧ OwnI 3 w' w.heap.size q (rkW rs (wRow h)) ∧ Below w.heap.size w w' := by
  have HR := hid hr
  have HV := hid hv
  have HN := hid hn
  obtain ⟨A, c, rfl, -⟩ := hv
  rw [hn] at HV ⊢
  clear hr hn
  go_enter Tryz.func73, Tryz.ntmps73
  go_wp2_with fail
  refine (swRow_any h _ h9).mono ?_
  rintro e w1 ⟨a, rfl, ha, hb⟩
  have HA := hid ha
  have HB := hid hb
  clear ha hb
  go_wp2_with fail
  refine (wordRow_any a h _ HA.out h9).mono ?_
  rintro e w2 ⟨u, rfl, ho, hb⟩
  have HU := hid ho.ints
  have HB2 := hid (below_to HB.out hb)
  clear ho hb
  go_wp2_with fail
  refine (togglesAt_any _ _ rs (wRow h) _ (HV.out.below HB2.out) HU.out (by rw [HN.out]; exact inW_wRow (by omega)) (wRow_length h9) (by rw [HN.out]; omega) HR.out).mono ?_
  rintro e w3 ⟨q, rfl, ho, hb⟩
  have HO := hid ho
  have HB3 := hid (below_to HB2.out hb)
  have hz := HB2.out.size
  clear ho hb
  go_wp2
  go_ret
  exact ⟨_, rfl, HO.out.mono hz, HB3.out⟩
theorem sTRow_SR (v : Value) (rs : List Int) (h : Nat) (w0 : World) (b : Nat) (W : World) (hv : Ints w0 v rs) (hn : rs.length = h + 1) (h9 : h ≤ 9) (hr : ∀ i, i < rs.length → ∃ r : Nat, rs.getD i 0 = (r : Int) ∧ r < 1024) (vp : Value) (hS : SR w0 b vp W) :
    Calls Tryz.prog 73 #[v, (.func (.func 51) #[] #[])] W fun (r : Ending) w' => ∃ q, r = Ending.returned q ∧ Ints w' q (rkW rs (wRow h)) ∧ SR w0 b vp w' :=
  (sTRow_any v rs h W (hv.below hS.below) hn h9 hr).mono fun _ _ ⟨q, h1, h2, h3⟩ => ⟨q, h1, h2.ints, hS.to h3⟩
set_option maxHeartbeats 1600000 in
theorem sweptRow_any (v : Value) (xs : List Int) (s : Int) (w : World) (hv : Ints w v xs) (hl : xs.length ≤ 1048576) (wf : (Lit.int .i64 s).wf = true) :
    Calls Tryz.prog 50 #[.agg #[v], .int .i64 s, (.func (.func 51) #[] #[])] w fun r w' => r = .returned (.tuple #[.int .i64 (ansSW wRow xs s), .bool (okRI xs s)]) ∧ Below w.heap.size w w' := by
  have HV := hid hv
  clear hv wf
  go_enter Tryz.func50, Tryz.ntmps50
  have HB := hid (below_alloc (Below.refl _ w) (.cells #[v] 26))
  have A0 := hid (At.newAt w v 26 w.heap.size (by simp))
  go_wp2_with fail
  refine (implRanksOf_any _ xs _ (HV.out.below HB.out) hl).mono ?_
  rintro e w' ⟨q, rfl, ho, -, hb⟩
  replace HB := hid (below_to HB.out hb)
  replace A0 := hid (A0.out.below hb)
  clear hb
  cases hk : okRk xs
  · have HO := hid (okRI_no (s := s) hk)
    clear hk
    obtain ⟨qA, qn, qc, rfl⟩ := ho.shape3
    clear ho
    have ebox0 := A0.out.1
    go_wp2
    go_ret2
    exact ⟨ret_ib (ansSW_no HO.out).symm HO.out.symm, HB.out⟩
  · have HK := hid hk
    rw [ansRO_yes hk] at ho
    obtain ⟨hg, hr⟩ := okRk_good hk
    obtain ⟨h, hh, h9⟩ := rkN_some hg
    have HQ := hid ho.ints
    have HG := hid hg
    have HH := hid hh
    clear hk ho hg hr hh
    have ebox0 := A0.out.1
    go_wp2_with fail
    clear ebox0
    refine (hasIdeal_any _ xs s _ (HV.out.below HB.out) hl).mono ?_
    rintro e w' ⟨rfl, hb⟩
    replace HB := hid (below_to HB.out hb)
    replace A0 := hid (A0.out.below hb)
    replace HQ := hid (HQ.out.below hb)
    clear hb
    cases hi : okIdeal xs s
    · have HO : Hid (okRI xs s = false) := hid (by rw [okRI_yes HK.out]; exact hi)
      clear hi
      have ebox0 := A0.out.1
      go_wp2
      go_ret2
      exact ⟨ret_ib (ansSW_no HO.out).symm HO.out.symm, HB.out⟩
    · have HO : Hid (okRI xs s = true) := hid (by rw [okRI_yes HK.out]; exact hi)
      obtain ⟨z, rfl, _, hz, _⟩ := okIdeal_all hi
      have HZ := hid hz
      have HAn := hid (ansSW_yes (f := wRow) HO.out HH.out)
      have HEl := hid (inW_rkW HG.out (show inW (rkN xs) (wRow h) = true from inW_wRow (by rw [HH.out]; omega)))
      have HLn := hid (rkW_length (rankL xs) (wRow h))
      have HLw := hid (wRow_length h9)
      have HSm := hid (rank_small HG.out)
      have HRl : Hid ((rankL xs).length = h + 1) := hid (by rw [rankL_length, HH.out])
      have HV1 := hid (HV.out.below HB.out)
      have HS := hid (show SR w' w.heap.size v w' from ⟨A0.out, Below.refl _ _⟩)
      have hbx := A0.out.1
      clear hi hz
      go_wp2_with fail
      go_region_held3 (fun W => W.cell? ⟨w.heap.size, 0, none⟩ = some v ∧ Hid (SR w' w.heap.size v W)) (first | exact ⟨HS3.out.at_.1, HS3⟩ | exact ⟨HS2.out.at_.1, HS2⟩ | exact ⟨HS.out.drew.at_.1, hid HS.out.drew⟩) (first | (go_at_call 73; refine (sTRow_SR _ (rankL xs) h w' w.heap.size _ HQ.out HRl.out h9 HSm.out v (Hid.out (by first | assumption | exact hid HS.out.drew))).mono ?_; rintro e' w4 ⟨q4, rfl, hu4, hs4⟩; have HU4 := hid hu4; have HS2 := hid hs4; clear hu4 hs4) | (go_at_call 66; refine (step_SR v _ xs _ w' w.heap.size z _ HV1.out HU4.out HG.out HZ.out HEl.out (by have := HLn.out; have := HLw.out; omega) HS2.out).mono ?_; rintro e' w5 ⟨rfl, hs5⟩; have HS3 := hid hs5; clear hs5))
      have HB3 := hid (below_to HB.out HS3.out.below)
      clear hbx
      go_wp2
      go_ret2
      exact ⟨ret_ib HAn.out.symm HO.out.symm, HB3.out⟩
theorem implRowByRanks_any (v : Value) (xs : List Int) (s : Int) (w : World) (hv : Ints w v xs) (hl : xs.length ≤ 1048576) (wf : (Lit.int .i64 s).wf = true) :
    Calls Tryz.prog 7 #[.agg #[v], .int .i64 s] w fun r w' => r = .returned (.tuple #[.int .i64 (ansSW wRow xs s), .bool (okRI xs s)]) ∧ Below w.heap.size w w' := by
  have HV := hid hv
  have WF := hid wf
  clear hv wf
  go_enter Tryz.func7, Tryz.ntmps7
  have HB := hid (below_alloc (Below.refl _ w) (.cells #[v] 26))
  have A0 := hid (At.newAt w v 26 w.heap.size (by simp))
  go_wp2_with fail
  refine (sweptRow_any _ xs s _ (HV.out.below HB.out) hl WF.out).mono ?_
  rintro e w' ⟨rfl, hb⟩
  replace HB := hid (below_to HB.out hb)
  replace A0 := hid (A0.out.below hb)
  clear hb
  have ebox0 := A0.out.1
  go_wp2
  go_ret2
  exact ⟨rfl, HB.out⟩

theorem sTVac_any (v : Value) (rs : List Int) (h : Nat) (w : World) (hv : Ints w v rs) (hn : rs.length = h + 1) (h9 : h ≤ 9) (hr : ∀ i, i < rs.length → ∃ r : Nat, rs.getD i 0 = (r : Int) ∧ r < 1024) :
    Calls Tryz.prog 73 #[v, (.func (.func 79) #[] #[])] w fun (r : Ending) w' => ∃ q, r = Ending.returned q ∧ OwnI 3 w' w.heap.size q (rkW rs (wVac h)) ∧ Below w.heap.size w w' := by
  have HR := hid hr
  have HV := hid hv
  have HN := hid hn
  obtain ⟨A, c, rfl, -⟩ := hv
  rw [hn] at HV ⊢
  clear hr hn
  go_enter Tryz.func73, Tryz.ntmps73
  go_wp2_with fail
  refine (swVac_any h _ h9).mono ?_
  rintro e w1 ⟨a, rfl, ha, hb⟩
  have HA := hid ha
  have HB := hid hb
  clear ha hb
  go_wp2_with fail
  refine (wordVac_any a h _ HA.out h9).mono ?_
  rintro e w2 ⟨u, rfl, ho, hb⟩
  have HU := hid ho.ints
  have HB2 := hid (below_to HB.out hb)
  clear ho hb
  go_wp2_with fail
  refine (togglesAt_any _ _ rs (wVac h) _ (HV.out.below HB2.out) HU.out (by rw [HN.out]; exact inW_wVac (by omega)) (wVac_length h9) (by rw [HN.out]; omega) HR.out).mono ?_
  rintro e w3 ⟨q, rfl, ho, hb⟩
  have HO := hid ho
  have HB3 := hid (below_to HB2.out hb)
  have hz := HB2.out.size
  clear ho hb
  go_wp2
  go_ret
  exact ⟨_, rfl, HO.out.mono hz, HB3.out⟩
theorem sTVac_SR (v : Value) (rs : List Int) (h : Nat) (w0 : World) (b : Nat) (W : World) (hv : Ints w0 v rs) (hn : rs.length = h + 1) (h9 : h ≤ 9) (hr : ∀ i, i < rs.length → ∃ r : Nat, rs.getD i 0 = (r : Int) ∧ r < 1024) (vp : Value) (hS : SR w0 b vp W) :
    Calls Tryz.prog 73 #[v, (.func (.func 79) #[] #[])] W fun (r : Ending) w' => ∃ q, r = Ending.returned q ∧ Ints w' q (rkW rs (wVac h)) ∧ SR w0 b vp w' :=
  (sTVac_any v rs h W (hv.below hS.below) hn h9 hr).mono fun _ _ ⟨q, h1, h2, h3⟩ => ⟨q, h1, h2.ints, hS.to h3⟩
set_option maxHeartbeats 1600000 in
theorem sweptVac_any (v : Value) (xs : List Int) (s : Int) (w : World) (hv : Ints w v xs) (hl : xs.length ≤ 1048576) (wf : (Lit.int .i64 s).wf = true) :
    Calls Tryz.prog 50 #[.agg #[v], .int .i64 s, (.func (.func 79) #[] #[])] w fun r w' => r = .returned (.tuple #[.int .i64 (ansSW wVac xs s), .bool (okRI xs s)]) ∧ Below w.heap.size w w' := by
  have HV := hid hv
  clear hv wf
  go_enter Tryz.func50, Tryz.ntmps50
  have HB := hid (below_alloc (Below.refl _ w) (.cells #[v] 26))
  have A0 := hid (At.newAt w v 26 w.heap.size (by simp))
  go_wp2_with fail
  refine (implRanksOf_any _ xs _ (HV.out.below HB.out) hl).mono ?_
  rintro e w' ⟨q, rfl, ho, -, hb⟩
  replace HB := hid (below_to HB.out hb)
  replace A0 := hid (A0.out.below hb)
  clear hb
  cases hk : okRk xs
  · have HO := hid (okRI_no (s := s) hk)
    clear hk
    obtain ⟨qA, qn, qc, rfl⟩ := ho.shape3
    clear ho
    have ebox0 := A0.out.1
    go_wp2
    go_ret2
    exact ⟨ret_ib (ansSW_no HO.out).symm HO.out.symm, HB.out⟩
  · have HK := hid hk
    rw [ansRO_yes hk] at ho
    obtain ⟨hg, hr⟩ := okRk_good hk
    obtain ⟨h, hh, h9⟩ := rkN_some hg
    have HQ := hid ho.ints
    have HG := hid hg
    have HH := hid hh
    clear hk ho hg hr hh
    have ebox0 := A0.out.1
    go_wp2_with fail
    clear ebox0
    refine (hasIdeal_any _ xs s _ (HV.out.below HB.out) hl).mono ?_
    rintro e w' ⟨rfl, hb⟩
    replace HB := hid (below_to HB.out hb)
    replace A0 := hid (A0.out.below hb)
    replace HQ := hid (HQ.out.below hb)
    clear hb
    cases hi : okIdeal xs s
    · have HO : Hid (okRI xs s = false) := hid (by rw [okRI_yes HK.out]; exact hi)
      clear hi
      have ebox0 := A0.out.1
      go_wp2
      go_ret2
      exact ⟨ret_ib (ansSW_no HO.out).symm HO.out.symm, HB.out⟩
    · have HO : Hid (okRI xs s = true) := hid (by rw [okRI_yes HK.out]; exact hi)
      obtain ⟨z, rfl, _, hz, _⟩ := okIdeal_all hi
      have HZ := hid hz
      have HAn := hid (ansSW_yes (f := wVac) HO.out HH.out)
      have HEl := hid (inW_rkW HG.out (show inW (rkN xs) (wVac h) = true from inW_wVac (by rw [HH.out]; omega)))
      have HLn := hid (rkW_length (rankL xs) (wVac h))
      have HLw := hid (wVac_length h9)
      have HSm := hid (rank_small HG.out)
      have HRl : Hid ((rankL xs).length = h + 1) := hid (by rw [rankL_length, HH.out])
      have HV1 := hid (HV.out.below HB.out)
      have HS := hid (show SR w' w.heap.size v w' from ⟨A0.out, Below.refl _ _⟩)
      have hbx := A0.out.1
      clear hi hz
      go_wp2_with fail
      go_region_held3 (fun W => W.cell? ⟨w.heap.size, 0, none⟩ = some v ∧ Hid (SR w' w.heap.size v W)) (first | exact ⟨HS3.out.at_.1, HS3⟩ | exact ⟨HS2.out.at_.1, HS2⟩ | exact ⟨HS.out.drew.at_.1, hid HS.out.drew⟩) (first | (go_at_call 73; refine (sTVac_SR _ (rankL xs) h w' w.heap.size _ HQ.out HRl.out h9 HSm.out v (Hid.out (by first | assumption | exact hid HS.out.drew))).mono ?_; rintro e' w4 ⟨q4, rfl, hu4, hs4⟩; have HU4 := hid hu4; have HS2 := hid hs4; clear hu4 hs4) | (go_at_call 66; refine (step_SR v _ xs _ w' w.heap.size z _ HV1.out HU4.out HG.out HZ.out HEl.out (by have := HLn.out; have := HLw.out; omega) HS2.out).mono ?_; rintro e' w5 ⟨rfl, hs5⟩; have HS3 := hid hs5; clear hs5))
      have HB3 := hid (below_to HB.out HS3.out.below)
      clear hbx
      go_wp2
      go_ret2
      exact ⟨ret_ib HAn.out.symm HO.out.symm, HB3.out⟩
theorem implRowvacuation_any (v : Value) (xs : List Int) (s : Int) (w : World) (hv : Ints w v xs) (hl : xs.length ≤ 1048576) (wf : (Lit.int .i64 s).wf = true) :
    Calls Tryz.prog 31 #[.agg #[v], .int .i64 s] w fun r w' => r = .returned (.tuple #[.int .i64 (ansSW wVac xs s), .bool (okRI xs s)]) ∧ Below w.heap.size w w' := by
  have HV := hid hv
  have WF := hid wf
  clear hv wf
  go_enter Tryz.func31, Tryz.ntmps31
  have HB := hid (below_alloc (Below.refl _ w) (.cells #[v] 26))
  have A0 := hid (At.newAt w v 26 w.heap.size (by simp))
  go_wp2_with fail
  refine (sweptVac_any _ xs s _ (HV.out.below HB.out) hl WF.out).mono ?_
  rintro e w' ⟨rfl, hb⟩
  replace HB := hid (below_to HB.out hb)
  replace A0 := hid (A0.out.below hb)
  clear hb
  have ebox0 := A0.out.1
  go_wp2
  go_ret2
  exact ⟨rfl, HB.out⟩

theorem sTDual_any (v : Value) (rs : List Int) (h : Nat) (w : World) (hv : Ints w v rs) (hn : rs.length = h + 1) (h9 : h ≤ 9) (hr : ∀ i, i < rs.length → ∃ r : Nat, rs.getD i 0 = (r : Int) ∧ r < 1024) :
    Calls Tryz.prog 73 #[v, (.func (.func 81) #[] #[])] w fun (r : Ending) w' => ∃ q, r = Ending.returned q ∧ OwnI 3 w' w.heap.size q (rkW rs (wDual h)) ∧ Below w.heap.size w w' := by
  have HR := hid hr
  have HV := hid hv
  have HN := hid hn
  obtain ⟨A, c, rfl, -⟩ := hv
  rw [hn] at HV ⊢
  clear hr hn
  go_enter Tryz.func73, Tryz.ntmps73
  go_wp2_with fail
  refine (swDual_any h _ h9).mono ?_
  rintro e w1 ⟨a, rfl, ha, hb⟩
  have HA := hid ha
  have HB := hid hb
  clear ha hb
  go_wp2_with fail
  refine (wordDual_any a h _ HA.out h9).mono ?_
  rintro e w2 ⟨u, rfl, ho, hb⟩
  have HU := hid ho.ints
  have HB2 := hid (below_to HB.out hb)
  clear ho hb
  go_wp2_with fail
  refine (togglesAt_any _ _ rs (wDual h) _ (HV.out.below HB2.out) HU.out (by rw [HN.out]; exact inW_wDual (by omega)) (wDual_length h9) (by rw [HN.out]; omega) HR.out).mono ?_
  rintro e w3 ⟨q, rfl, ho, hb⟩
  have HO := hid ho
  have HB3 := hid (below_to HB2.out hb)
  have hz := HB2.out.size
  clear ho hb
  go_wp2
  go_ret
  exact ⟨_, rfl, HO.out.mono hz, HB3.out⟩
theorem sTDual_SR (v : Value) (rs : List Int) (h : Nat) (w0 : World) (b : Nat) (W : World) (hv : Ints w0 v rs) (hn : rs.length = h + 1) (h9 : h ≤ 9) (hr : ∀ i, i < rs.length → ∃ r : Nat, rs.getD i 0 = (r : Int) ∧ r < 1024) (vp : Value) (hS : SR w0 b vp W) :
    Calls Tryz.prog 73 #[v, (.func (.func 81) #[] #[])] W fun (r : Ending) w' => ∃ q, r = Ending.returned q ∧ Ints w' q (rkW rs (wDual h)) ∧ SR w0 b vp w' :=
  (sTDual_any v rs h W (hv.below hS.below) hn h9 hr).mono fun _ _ ⟨q, h1, h2, h3⟩ => ⟨q, h1, h2.ints, hS.to h3⟩
set_option maxHeartbeats 1600000 in
theorem sweptDual_any (v : Value) (xs : List Int) (s : Int) (w : World) (hv : Ints w v xs) (hl : xs.length ≤ 1048576) (wf : (Lit.int .i64 s).wf = true) :
    Calls Tryz.prog 50 #[.agg #[v], .int .i64 s, (.func (.func 81) #[] #[])] w fun r w' => r = .returned (.tuple #[.int .i64 (ansSW wDual xs s), .bool (okRI xs s)]) ∧ Below w.heap.size w w' := by
  have HV := hid hv
  clear hv wf
  go_enter Tryz.func50, Tryz.ntmps50
  have HB := hid (below_alloc (Below.refl _ w) (.cells #[v] 26))
  have A0 := hid (At.newAt w v 26 w.heap.size (by simp))
  go_wp2_with fail
  refine (implRanksOf_any _ xs _ (HV.out.below HB.out) hl).mono ?_
  rintro e w' ⟨q, rfl, ho, -, hb⟩
  replace HB := hid (below_to HB.out hb)
  replace A0 := hid (A0.out.below hb)
  clear hb
  cases hk : okRk xs
  · have HO := hid (okRI_no (s := s) hk)
    clear hk
    obtain ⟨qA, qn, qc, rfl⟩ := ho.shape3
    clear ho
    have ebox0 := A0.out.1
    go_wp2
    go_ret2
    exact ⟨ret_ib (ansSW_no HO.out).symm HO.out.symm, HB.out⟩
  · have HK := hid hk
    rw [ansRO_yes hk] at ho
    obtain ⟨hg, hr⟩ := okRk_good hk
    obtain ⟨h, hh, h9⟩ := rkN_some hg
    have HQ := hid ho.ints
    have HG := hid hg
    have HH := hid hh
    clear hk ho hg hr hh
    have ebox0 := A0.out.1
    go_wp2_with fail
    clear ebox0
    refine (hasIdeal_any _ xs s _ (HV.out.below HB.out) hl).mono ?_
    rintro e w' ⟨rfl, hb⟩
    replace HB := hid (below_to HB.out hb)
    replace A0 := hid (A0.out.below hb)
    replace HQ := hid (HQ.out.below hb)
    clear hb
    cases hi : okIdeal xs s
    · have HO : Hid (okRI xs s = false) := hid (by rw [okRI_yes HK.out]; exact hi)
      clear hi
      have ebox0 := A0.out.1
      go_wp2
      go_ret2
      exact ⟨ret_ib (ansSW_no HO.out).symm HO.out.symm, HB.out⟩
    · have HO : Hid (okRI xs s = true) := hid (by rw [okRI_yes HK.out]; exact hi)
      obtain ⟨z, rfl, _, hz, _⟩ := okIdeal_all hi
      have HZ := hid hz
      have HAn := hid (ansSW_yes (f := wDual) HO.out HH.out)
      have HEl := hid (inW_rkW HG.out (show inW (rkN xs) (wDual h) = true from inW_wDual (by rw [HH.out]; omega)))
      have HLn := hid (rkW_length (rankL xs) (wDual h))
      have HLw := hid (wDual_length h9)
      have HSm := hid (rank_small HG.out)
      have HRl : Hid ((rankL xs).length = h + 1) := hid (by rw [rankL_length, HH.out])
      have HV1 := hid (HV.out.below HB.out)
      have HS := hid (show SR w' w.heap.size v w' from ⟨A0.out, Below.refl _ _⟩)
      have hbx := A0.out.1
      clear hi hz
      go_wp2_with fail
      go_region_held3 (fun W => W.cell? ⟨w.heap.size, 0, none⟩ = some v ∧ Hid (SR w' w.heap.size v W)) (first | exact ⟨HS3.out.at_.1, HS3⟩ | exact ⟨HS2.out.at_.1, HS2⟩ | exact ⟨HS.out.drew.at_.1, hid HS.out.drew⟩) (first | (go_at_call 73; refine (sTDual_SR _ (rankL xs) h w' w.heap.size _ HQ.out HRl.out h9 HSm.out v (Hid.out (by first | assumption | exact hid HS.out.drew))).mono ?_; rintro e' w4 ⟨q4, rfl, hu4, hs4⟩; have HU4 := hid hu4; have HS2 := hid hs4; clear hu4 hs4) | (go_at_call 66; refine (step_SR v _ xs _ w' w.heap.size z _ HV1.out HU4.out HG.out HZ.out HEl.out (by have := HLn.out; have := HLw.out; omega) HS2.out).mono ?_; rintro e' w5 ⟨rfl, hs5⟩; have HS3 := hid hs5; clear hs5))
      have HB3 := hid (below_to HB.out HS3.out.below)
      clear hbx
      go_wp2
      go_ret2
      exact ⟨ret_ib HAn.out.symm HO.out.symm, HB3.out⟩
theorem implDualRowvacuation_any (v : Value) (xs : List Int) (s : Int) (w : World) (hv : Ints w v xs) (hl : xs.length ≤ 1048576) (wf : (Lit.int .i64 s).wf = true) :
    Calls Tryz.prog 33 #[.agg #[v], .int .i64 s] w fun r w' => r = .returned (.tuple #[.int .i64 (ansSW wDual xs s), .bool (okRI xs s)]) ∧ Below w.heap.size w w' := by
  have HV := hid hv
  have WF := hid wf
  clear hv wf
  go_enter Tryz.func33, Tryz.ntmps33
  have HB := hid (below_alloc (Below.refl _ w) (.cells #[v] 26))
  have A0 := hid (At.newAt w v 26 w.heap.size (by simp))
  go_wp2_with fail
  refine (sweptDual_any _ xs s _ (HV.out.below HB.out) hl WF.out).mono ?_
  rintro e w' ⟨rfl, hb⟩
  replace HB := hid (below_to HB.out hb)
  replace A0 := hid (A0.out.below hb)
  clear hb
  have ebox0 := A0.out.1
  go_wp2
  go_ret2
  exact ⟨rfl, HB.out⟩

theorem sTGyr_any (v : Value) (rs : List Int) (h : Nat) (w : World) (hv : Ints w v rs) (hn : rs.length = h + 1) (h9 : h ≤ 9) (hr : ∀ i, i < rs.length → ∃ r : Nat, rs.getD i 0 = (r : Int) ∧ r < 1024) :
    Calls Tryz.prog 73 #[v, (.func (.func 70) #[] #[])] w fun (r : Ending) w' => ∃ q, r = Ending.returned q ∧ OwnI 3 w' w.heap.size q (rkW rs (wGyr h)) ∧ Below w.heap.size w w' := by
  have HR := hid hr
  have HV := hid hv
  have HN := hid hn
  obtain ⟨A, c, rfl, -⟩ := hv
  rw [hn] at HV ⊢
  clear hr hn
  go_enter Tryz.func73, Tryz.ntmps73
  go_wp2_with fail
  refine (swGyr_any h _ h9).mono ?_
  rintro e w1 ⟨a, rfl, ha, hb⟩
  have HA := hid ha
  have HB := hid hb
  clear ha hb
  go_wp2_with fail
  refine (wordGyr_any a h _ HA.out h9).mono ?_
  rintro e w2 ⟨u, rfl, ho, hb⟩
  have HU := hid ho.ints
  have HB2 := hid (below_to HB.out hb)
  clear ho hb
  go_wp2_with fail
  refine (togglesAt_any _ _ rs (wGyr h) _ (HV.out.below HB2.out) HU.out (by rw [HN.out]; exact inW_wGyr (by omega)) (wGyr_length h9) (by rw [HN.out]; omega) HR.out).mono ?_
  rintro e w3 ⟨q, rfl, ho, hb⟩
  have HO := hid ho
  have HB3 := hid (below_to HB2.out hb)
  have hz := HB2.out.size
  clear ho hb
  go_wp2
  go_ret
  exact ⟨_, rfl, HO.out.mono hz, HB3.out⟩
theorem sTGyr_SR (v : Value) (rs : List Int) (h : Nat) (w0 : World) (b : Nat) (W : World) (hv : Ints w0 v rs) (hn : rs.length = h + 1) (h9 : h ≤ 9) (hr : ∀ i, i < rs.length → ∃ r : Nat, rs.getD i 0 = (r : Int) ∧ r < 1024) (vp : Value) (hS : SR w0 b vp W) :
    Calls Tryz.prog 73 #[v, (.func (.func 70) #[] #[])] W fun (r : Ending) w' => ∃ q, r = Ending.returned q ∧ Ints w' q (rkW rs (wGyr h)) ∧ SR w0 b vp w' :=
  (sTGyr_any v rs h W (hv.below hS.below) hn h9 hr).mono fun _ _ ⟨q, h1, h2, h3⟩ => ⟨q, h1, h2.ints, hS.to h3⟩
set_option maxHeartbeats 1600000 in
theorem sweptGyr_any (v : Value) (xs : List Int) (s : Int) (w : World) (hv : Ints w v xs) (hl : xs.length ≤ 1048576) (wf : (Lit.int .i64 s).wf = true) :
    Calls Tryz.prog 50 #[.agg #[v], .int .i64 s, (.func (.func 70) #[] #[])] w fun r w' => r = .returned (.tuple #[.int .i64 (ansSW wGyr xs s), .bool (okRI xs s)]) ∧ Below w.heap.size w w' := by
  have HV := hid hv
  clear hv wf
  go_enter Tryz.func50, Tryz.ntmps50
  have HB := hid (below_alloc (Below.refl _ w) (.cells #[v] 26))
  have A0 := hid (At.newAt w v 26 w.heap.size (by simp))
  go_wp2_with fail
  refine (implRanksOf_any _ xs _ (HV.out.below HB.out) hl).mono ?_
  rintro e w' ⟨q, rfl, ho, -, hb⟩
  replace HB := hid (below_to HB.out hb)
  replace A0 := hid (A0.out.below hb)
  clear hb
  cases hk : okRk xs
  · have HO := hid (okRI_no (s := s) hk)
    clear hk
    obtain ⟨qA, qn, qc, rfl⟩ := ho.shape3
    clear ho
    have ebox0 := A0.out.1
    go_wp2
    go_ret2
    exact ⟨ret_ib (ansSW_no HO.out).symm HO.out.symm, HB.out⟩
  · have HK := hid hk
    rw [ansRO_yes hk] at ho
    obtain ⟨hg, hr⟩ := okRk_good hk
    obtain ⟨h, hh, h9⟩ := rkN_some hg
    have HQ := hid ho.ints
    have HG := hid hg
    have HH := hid hh
    clear hk ho hg hr hh
    have ebox0 := A0.out.1
    go_wp2_with fail
    clear ebox0
    refine (hasIdeal_any _ xs s _ (HV.out.below HB.out) hl).mono ?_
    rintro e w' ⟨rfl, hb⟩
    replace HB := hid (below_to HB.out hb)
    replace A0 := hid (A0.out.below hb)
    replace HQ := hid (HQ.out.below hb)
    clear hb
    cases hi : okIdeal xs s
    · have HO : Hid (okRI xs s = false) := hid (by rw [okRI_yes HK.out]; exact hi)
      clear hi
      have ebox0 := A0.out.1
      go_wp2
      go_ret2
      exact ⟨ret_ib (ansSW_no HO.out).symm HO.out.symm, HB.out⟩
    · have HO : Hid (okRI xs s = true) := hid (by rw [okRI_yes HK.out]; exact hi)
      obtain ⟨z, rfl, _, hz, _⟩ := okIdeal_all hi
      have HZ := hid hz
      have HAn := hid (ansSW_yes (f := wGyr) HO.out HH.out)
      have HEl := hid (inW_rkW HG.out (show inW (rkN xs) (wGyr h) = true from inW_wGyr (by rw [HH.out]; omega)))
      have HLn := hid (rkW_length (rankL xs) (wGyr h))
      have HLw := hid (wGyr_length h9)
      have HSm := hid (rank_small HG.out)
      have HRl : Hid ((rankL xs).length = h + 1) := hid (by rw [rankL_length, HH.out])
      have HV1 := hid (HV.out.below HB.out)
      have HS := hid (show SR w' w.heap.size v w' from ⟨A0.out, Below.refl _ _⟩)
      have hbx := A0.out.1
      clear hi hz
      go_wp2_with fail
      go_region_held3 (fun W => W.cell? ⟨w.heap.size, 0, none⟩ = some v ∧ Hid (SR w' w.heap.size v W)) (first | exact ⟨HS3.out.at_.1, HS3⟩ | exact ⟨HS2.out.at_.1, HS2⟩ | exact ⟨HS.out.drew.at_.1, hid HS.out.drew⟩) (first | (go_at_call 73; refine (sTGyr_SR _ (rankL xs) h w' w.heap.size _ HQ.out HRl.out h9 HSm.out v (Hid.out (by first | assumption | exact hid HS.out.drew))).mono ?_; rintro e' w4 ⟨q4, rfl, hu4, hs4⟩; have HU4 := hid hu4; have HS2 := hid hs4; clear hu4 hs4) | (go_at_call 66; refine (step_SR v _ xs _ w' w.heap.size z _ HV1.out HU4.out HG.out HZ.out HEl.out (by have := HLn.out; have := HLw.out; omega) HS2.out).mono ?_; rintro e' w5 ⟨rfl, hs5⟩; have HS3 := hid hs5; clear hs5))
      have HB3 := hid (below_to HB.out HS3.out.below)
      clear hbx
      go_wp2
      go_ret2
      exact ⟨ret_ib HAn.out.symm HO.out.symm, HB3.out⟩
theorem implGyrateIdeal_any (v : Value) (xs : List Int) (s : Int) (w : World) (hv : Ints w v xs) (hl : xs.length ≤ 1048576) (wf : (Lit.int .i64 s).wf = true) :
    Calls Tryz.prog 22 #[.agg #[v], .int .i64 s] w fun r w' => r = .returned (.tuple #[.int .i64 (ansSW wGyr xs s), .bool (okRI xs s)]) ∧ Below w.heap.size w w' := by
  have HV := hid hv
  have WF := hid wf
  clear hv wf
  go_enter Tryz.func22, Tryz.ntmps22
  have HB := hid (below_alloc (Below.refl _ w) (.cells #[v] 26))
  have A0 := hid (At.newAt w v 26 w.heap.size (by simp))
  go_wp2_with fail
  refine (sweptGyr_any _ xs s _ (HV.out.below HB.out) hl WF.out).mono ?_
  rintro e w' ⟨rfl, hb⟩
  replace HB := hid (below_to HB.out hb)
  replace A0 := hid (A0.out.below hb)
  clear hb
  have ebox0 := A0.out.1
  go_wp2
  go_ret2
  exact ⟨rfl, HB.out⟩
end Go.Proofs.YtdemikjaghegnaaGreat

/- A row of the call's own, appended to a slice of rows of the call's own. -/
namespace Go.Proofs.YtdemikjaghegnaaGreat
open Go.RowKit Go.WideShapes Go.ChangeShapes
set_option linter.unusedVariables false

theorem own_apart {ti ts : TypeId} {w : World} {B B' n : Nat} {v u : Value} {l : List Int} {us : List Value} (hne : ti ≠ ts) (h : OwnI ti w B u l) (h2 : w.ownsRow B' ts 1 v n us) : u.ownBlock = none ∨ u.ownBlock ≠ v.ownBlock := by
  rcases hu : u.ownBlock with _ | k
  · exact .inl rfl
  · refine .inr fun e => ?_
    rcases h2.2 with ⟨rfl, _⟩ | ⟨b, cap, cur, rfl, _, hh, _⟩
    · simp [Value.ownBlock] at e
    · simp only [Value.ownBlock, Option.some.injEq] at e
      subst e
      rcases h.2 with ⟨rfl, _⟩ | ⟨g, cap', cur', rfl, _, hh', _⟩
      · simp [Value.ownBlock] at hu
      · simp only [Value.ownBlock, Option.some.injEq] at hu
        subst hu
        rw [hh] at hh'
        injection hh' with hh'
        injection hh' with _ hh'
        exact hne hh'.symm
/-- 'rows = append(rows, row)', all of the call's own, the row newer than what the slice has -/
theorem wpList_append_row {P : Program} {w W : World} {ops : Array Oper} {rest : List Oper} {o : Oper} {ac : Act} {Q : Exit → Act → World → Prop} (hgd : o.guard = none) (s x : Operand) (t ts ti : TypeId)
    (ho : o.op = .call { callee := .builtin .append, args := #[s, x], argTypes := #[t, t] }) (ht : P.underlying t = some (.slice ts)) (hinfo : (P.info? ts).map (fun i => (i.zero, i.size, i.bytes)) = some (some (.slice none 0 0), 1, 24))
    (hne : ti ≠ ts) (B E : Nat) (v u : Value) (ls : List (List Int)) (l : List Int) (hs : ac.eval s = v) (hown : OwnSS ti ts w B E v ls) (hu : OwnI ti w B u l) (huE : ∀ k, u.ownBlock = some k → E ≤ k)
    (hW : W = w.alloc (.cells #[u] ts)) (hx : ac.eval x = .slice (some ⟨w.heap.size, 0, none⟩) 1 1) (hlen : ls.length < 1048576) (hB : B ≤ w.heap.size) (hE : E ≤ w.heap.size)
    (h : ∀ v' w', OwnSS ti ts w' B w'.heap.size v' (ls ++ [l]) → Below B w w' → wpList P ops Q rest (ac.put o.dst v') w') : wpList P ops Q (o :: rest) ac W := by
  subst hW
  obtain ⟨i0, hi, hz0, hz1, hz2⟩ := info_parts hinfo
  obtain ⟨us, h1, h2, h3, h4, h5⟩ := hown
  obtain ⟨uA, un, uc, hush⟩ := hu.shape3
  have hulen : (un, uc, uA) = (un, uc, uA) := rfl
  refine wpList_append_own _ hgd s x t ho B ts i0 (.slice none 0 0) 1 24 ht hi hz0 hz1 hz2 rfl (by decide) v ls.length us hs (h2.alloc _) ⟨w.heap.size, 0, none⟩ 1 1 [u] hx rfl ?_ ?_ ?_ ?_ ?_ ?_
  · intro j y hj
    match j, hj with
    | 0, hj =>
      simp only [List.getElem?_cons_zero, Option.some.injEq] at hj
      subst hj
      exact (Blk.new w ts #[u]).cell 0
    | j + 1, hj => simp at hj
  · intro y hy
    simp only [List.mem_singleton] at hy
    subst hy; subst hush; rfl
  · unfold maxLen; omega
  · omega
  · simp; omega
  · intro v' w' h6 h7 _
    have hb : Below B w (w.alloc (.cells #[u] ts)) := (Below.refl _ _).alloc hB _
    have hB2 : Below B w w' := hb.grown h7 (by simp; omega) fun k hk => (h2.lt k hk).1
    have hsz : w.heap.size ≤ w'.heap.size := hB2.size
    refine h v' w' ⟨us ++ [u], by simp [h1], by simpa using h6, fun k hk => ?_, ?_, ?_⟩ hB2
    · exact (World.ownsRow.lt h6 k hk).2
    · intro j y m hy hm
      rw [List.getElem?_append] at hy hm
      by_cases hj : j < ls.length
      · rw [if_pos (by omega)] at hy
        rw [if_pos hj] at hm
        obtain ⟨a, b⟩ := h4 j y m hy hm
        exact ⟨(a.alloc _).grown h7 (own_apart hne a h2), fun k hk => by have := b k hk; omega⟩
      · rw [if_neg (by omega)] at hy
        rw [if_neg hj] at hm
        rcases Nat.eq_zero_or_pos (j - ls.length) with h0 | h0
        · rw [h0] at hm
          rw [h1, h0] at hy
          simp only [List.getElem?_cons_zero, Option.some.injEq] at hy hm
          subst hy; subst hm
          exact ⟨(hu.alloc _).grown h7 (own_apart hne hu h2), fun k hk => by have := (hu.blockLt k hk).2; omega⟩
        · rw [List.getElem?_eq_none (by simp; omega)] at hm; cases hm
    · have old : ∀ i y, i < us.length → us[i]? = some y → (y.ownBlock = none ∨ y.ownBlock ≠ u.ownBlock) := by
        intro i y hi hy
        have hl : ls[i]? = some ls[i] := List.getElem?_eq_getElem (by omega)
        obtain ⟨_, b⟩ := h4 i y _ hy hl
        rcases hq : y.ownBlock with _ | k
        · exact .inl rfl
        · refine .inr fun e => ?_
          have c1 := b k hq
          have c2 := huE k e.symm
          omega
      intro i j y y' hij hy hy'
      rw [List.getElem?_append] at hy hy'
      by_cases hi : i < us.length
      · rw [if_pos hi] at hy
        by_cases hj : j < us.length
        · rw [if_pos hj] at hy'
          exact h5 i j y y' hij hy hy'
        · rw [if_neg hj] at hy'
          rcases Nat.eq_zero_or_pos (j - us.length) with h0 | h0
          · rw [h0] at hy'
            simp only [List.getElem?_cons_zero, Option.some.injEq] at hy'
            subst hy'
            exact old i y hi hy
          · rw [List.getElem?_eq_none (by simp; omega)] at hy'; cases hy'
      · rw [if_neg hi] at hy
        rcases Nat.eq_zero_or_pos (i - us.length) with h0 | h0
        · rw [h0] at hy
          simp only [List.getElem?_cons_zero, Option.some.injEq] at hy
          subst hy
          by_cases hj : j < us.length
          · rw [if_pos hj] at hy'
            rcases old j y' hj hy' with h8 | h8
            · rcases hq : u.ownBlock with _ | k
              · exact .inl rfl
              · rw [h8]; exact .inr (by simp)
            · exact .inr (fun e => h8 e.symm)
          · rw [if_neg hj] at hy'
            rcases Nat.eq_zero_or_pos (j - us.length) with h0' | h0'
            · omega
            · rw [List.getElem?_eq_none (by simp; omega)] at hy'; cases hy'
        · rw [List.getElem?_eq_none (by simp; omega)] at hy; cases hy
end Go.Proofs.YtdemikjaghegnaaGreat

/- Orbits: the model's and the program's contracts. -/
namespace Go.Proofs.YtdemikjaghegnaaGreat
open Go.RowKit Go.WideShapes Go.ChangeShapes
set_option linter.unusedVariables false

def lenV : Value → Nat
  | .slice _ n _ => n
  | _ => 0
theorem At.belowB {w w' : World} {b B : Nat} {v : Value} (h : At w b v) (hb : Below B w w') (hB : b < B) : At w' b v :=
  ⟨(hb.cell (p := ⟨b, 0, none⟩) hB).trans h.1, Nat.lt_of_lt_of_le h.2 hb.size⟩
theorem below_to2 {a w w' : World} {B : Nat} (h : Below a.heap.size a w) (hb : Below B w w') (hB : a.heap.size ≤ B) : Below a.heap.size a w' := h.trans (hb.mono hB)

end Go.Proofs.YtdemikjaghegnaaGreat

/- The sizes of sets, by the library's count of ones. -/
namespace Go.Proofs.YtdemikjaghegnaaGreat
open Go.RowKit Go.WideShapes Go.ChangeShapes
set_option linter.unusedVariables false

/-- the number of elements of a set -/
def pcF : Nat → Nat → Nat
  | 0, _ => 0
  | c + 1, s => s % 2 + pcF c (s / 2)
def pc (s : Nat) : Nat := pcF 10 s
theorem pcF_le (c s : Nat) : pcF c s ≤ c := by
  induction c generalizing s with
  | zero => exact Nat.le_refl _
  | succ c ih => have := ih (s / 2); unfold pcF; omega
theorem pc_le (s : Nat) : pc s ≤ 10 := pcF_le 10 s
theorem pcF_zero (c : Nat) : pcF c 0 = 0 := by
  induction c with
  | zero => rfl
  | succ c ih => unfold pcF; simp [ih]
def onA (x : Int) : Int := IntKind.u64.wrap (bits .and .u64 (x / 2) 6148914691236517205 + bits .and .u64 x 6148914691236517205)
def onB (x : Int) : Int := IntKind.u64.wrap (bits .and .u64 (x / 4) 3689348814741910323 + bits .and .u64 x 3689348814741910323)
def onC (x : Int) : Int := bits .and .u64 (IntKind.u64.wrap (x / 16 + x)) 1085102592571150095
def onD (x : Int) : Int := IntKind.u64.wrap (x + x / 256)
def onE (x : Int) : Int := IntKind.u64.wrap (x + x / 65536)
def onF (x : Int) : Int := IntKind.u64.wrap (x + x / 4294967296)
def onesI (x : Int) : Int := bits .and .i64 (wrap64 (onF (onE (onD (onC (onB (onA x))))))) 127
theorem ones_chk : ((List.range 1024).all fun s => onesI (s : Int) == ((pc s : Nat) : Int)) = true := by decide +kernel
theorem ones_all {s : Nat} (h : s < 1024) : onesI (s : Int) = ((pc s : Nat) : Int) := by
  have := List.all_eq_true.1 ones_chk s (List.mem_range.2 h)
  simpa using this
end Go.Proofs.YtdemikjaghegnaaGreat

/- Sizes of sets, and sums of what is told of each of a list of sets. -/
namespace Go.Proofs.YtdemikjaghegnaaGreat
open Go.RowKit Go.WideShapes Go.ChangeShapes
set_option linter.unusedVariables false

theorem top_le (xs : List Int) (s : Nat) : top xs s ≤ s := sub_le _ _
def sumTo (g : Nat → Nat) (ls : List Int) : Nat → Nat
  | 0 => 0
  | k + 1 => sumTo g ls k + g (ls.getD k 0).toNat
theorem sumTo_succ {g : Nat → Nat} {ls : List Int} {k s : Nat} (h : ls.getD k 0 = (s : Int)) : sumTo g ls (k + 1) = sumTo g ls k + g s := by
  simp only [sumTo, h, Int.toNat_natCast]
theorem sumTo_le {g : Nat → Nat} (h : ∀ s, g s ≤ 10) (ls : List Int) (k : Nat) : sumTo g ls k ≤ 10 * k := by
  induction k with
  | zero => exact Nat.le_refl _
  | succ k ih => have := h (ls.getD k 0).toNat; unfold sumTo; omega
def sumLN (g : Nat → Nat) (ls : List Int) : Nat := sumTo g ls ls.length
def topPc (xs : List Int) (s : Nat) : Nat := pc (top xs s)
theorem topPc_le (xs : List Int) (s : Nat) : topPc xs s ≤ 10 := pc_le _
def bitN (e s : Nat) : Nat := s / 2 ^ e % 2
theorem bitN_le (e s : Nat) : bitN e s ≤ 10 := by unfold bitN; omega

end Go.Proofs.YtdemikjaghegnaaGreat

/- OrbitOf, SizeOf, OrbitSum, AntichainSum: contracts. -/
namespace Go.Proofs.YtdemikjaghegnaaGreat
open Go.RowKit Go.WideShapes Go.ChangeShapes
set_option linter.unusedVariables false

theorem ret_vb' {u : Value} {a b : Bool} (h : a = b) : Ending.returned (.tuple #[u, .bool a]) = .returned (.tuple #[u, .bool b]) := by rw [h]
def orbXs (xs : List Int) (s : Nat) : List Int := orbL (rowmo xs) (2 ^ xs.length) s
def ansOO (xs : List Int) (s : Int) : List Int := if okIdeal xs s then orbXs xs s.toNat else []
theorem ansOO_no {xs : List Int} {s : Int} (h : okIdeal xs s = false) : ansOO xs s = [] := by simp [ansOO, h]
theorem ansOO_yes {xs : List Int} {z : Nat} (h : okIdeal xs z = true) : ansOO xs z = orbXs xs z := by simp [ansOO, h]
theorem okIdeal_idB {xs : List Int} {s : Int} (h : okIdeal xs s = true) : ∃ z : Nat, s = (z : Int) ∧ good xs = true ∧ idB xs z = true := by
  obtain ⟨z, rfl, h1, h2, h3⟩ := okIdeal_all h
  exact ⟨z, rfl, h1, idB_iff.2 ⟨h2, h3⟩⟩
theorem orbXs_length {xs : List Int} {z : Nat} (hg : good xs = true) (hz : idB xs z = true) : 1 ≤ (orbXs xs z).length ∧ (orbXs xs z).length ≤ 1024 := by
  obtain ⟨h1, h2, h3, h4⟩ := (rowMov hg).perS hz
  have := (two_pow_le _ (good_length hg).2).2
  unfold orbXs
  rw [orbL_length]
  omega
theorem orbXs_at {xs : List Int} {z : Nat} (hg : good xs = true) (hz : idB xs z = true) (j : Nat) (hj : j < (orbXs xs z).length) : ∃ s : Nat, (orbXs xs z).getD j 0 = (s : Int) ∧ s < 1024 := by
  have := (two_pow_le _ (good_length hg).2).2
  unfold orbXs at hj ⊢
  rw [orbL_length] at hj
  have h1 := (idB_iff.1 ((rowMov hg).it hz j)).1
  exact ⟨_, orbTL_get _ _ hj, by omega⟩
theorem ansOO_length (xs : List Int) (s : Int) : (ansOO xs s).length ≤ 1024 := by
  cases h : okIdeal xs s
  · rw [ansOO_no h]; simp
  · obtain ⟨z, rfl, h1, h2⟩ := okIdeal_idB h
    rw [ansOO_yes h]; exact (orbXs_length h1 h2).2
theorem ansOO_at (xs : List Int) (s : Int) (j : Nat) (hj : j < (ansOO xs s).length) : ∃ t : Nat, (ansOO xs s).getD j 0 = (t : Int) ∧ t < 1024 := by
  cases h : okIdeal xs s
  · rw [ansOO_no h] at hj; simp at hj
  · obtain ⟨z, rfl, h1, h2⟩ := okIdeal_idB h
    rw [ansOO_yes h] at hj ⊢; exact orbXs_at h1 h2 j hj
/-! ### sizes -/
def ansSz (xs : List Int) (s : Int) : Int := if okSet xs s then (pc s.toNat : Int) else 0
theorem ansSz_no {xs : List Int} {s : Int} (h : okSet xs s = false) : ansSz xs s = 0 := by simp [ansSz, h]
theorem ansSz_yes {xs : List Int} {z : Nat} (h : okSet xs z = true) : ansSz xs z = (pc z : Int) := by simp [ansSz, h]
end Go.Proofs.YtdemikjaghegnaaGreat
