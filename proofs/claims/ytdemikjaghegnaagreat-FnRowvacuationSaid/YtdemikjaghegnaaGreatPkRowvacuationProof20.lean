/- Texts RvK, CycC, one behind the other. -/
import Derived.Test.YtdemikjaghegnaaGreatPkRowvacuationProof01
import Derived.Test.YtdemikjaghegnaaGreatPkRowvacuationProof02
import Derived.Test.YtdemikjaghegnaaGreatPkRowvacuationProof05
import Derived.Test.YtdemikjaghegnaaGreatPkRowvacuationProof07
import Derived.Test.YtdemikjaghegnaaGreatPkRowvacuationProof11
import Derived.Test.YtdemikjaghegnaaGreatPkRowvacuationProof16
import Derived.Test.YtdemikjaghegnaaGreatPkRowvacuationProof17
import Derived.Test.YtdemikjaghegnaaGreatPkRowvacuationProof19
/- Rowmotion by ranks, rowvacuation, gyration in the program. (by genrvk.py) -/
namespace Go.Proofs.YtdemikjaghegnaaGreat
open Go.RowKit Go.WideShapes Go.ChangeShapes
set_option linter.unusedVariables false

theorem rank_small {xs : List Int} (hg : good xs = true) : ∀ i, i < (rankL xs).length → ∃ r : Nat, (rankL xs).getD i 0 = (r : Int) ∧ r < 1024 := by
  intro i hi
  rw [rankL_length] at hi
  obtain ⟨r, h1, _, h2, _⟩ := rank_facts hg hi
  exact ⟨r, h1, h2⟩
theorem tgAt_SR (v u : Value) (xs rs ws : List Int) (w0 : World) (b : Nat) (W : World) (hv : Ints w0 v rs) (hu : Ints w0 u ws) (hw : inW rs.length ws = true) (hm : ws.length ≤ 100) (hr10 : rs.length ≤ 10) (hr : ∀ i, i < rs.length → ∃ r : Nat, rs.getD i 0 = (r : Int) ∧ r < 1024) (vp : Value) (hS : SR w0 b vp W) :
    Calls Tryz.prog 65 #[v, u] W fun (r : Ending) w' => ∃ q, r = Ending.returned q ∧ Ints w' q (rkW rs ws) ∧ SR w0 b vp w' :=
  (togglesAt_any v u rs ws W (hv.below hS.below) (hu.below hS.below) hw hm hr10 hr).mono fun _ _ ⟨q, h1, h2, h3⟩ => ⟨q, h1, h2.ints, hS.to h3⟩
theorem step_SR (v u : Value) (xs ys : List Int) (w0 : World) (b s : Nat) (W : World) (hv : Ints w0 v xs) (hu : Ints W u ys) (hg : good xs = true) (hs : s < 2 ^ xs.length) (hy : inW xs.length ys = true) (hm : ys.length ≤ 1048576) (hS : SR w0 b v W) :
    Calls Tryz.prog 66 #[u, .agg #[v], .int .i64 s] W fun r w' => r = .returned (.int .i64 (togW xs s ys : Nat)) ∧ SR w0 b v w' :=
  (step_any v u xs ys s W (hv.below hS.below) hu hg hs hy hm).mono fun _ _ ⟨h1, h2⟩ => ⟨h1, hS.to h2⟩
/-! ### ToggleRanks, ToggleRank -/
theorem allB_inW (n : Nat) (ws : List Int) : allB 0 (n : Int) ws = inW (n + 1) ws := by
  unfold allB inW
  congr 1
  funext x
  rw [Bool.eq_iff_iff]; simp; omega
set_option maxHeartbeats 1600000 in
theorem implToggleRanks_any (v : Value) (xs : List Int) (s : Int) (u : Value) (ws : List Int) (w : World) (hv : Ints w v xs) (hl : xs.length ≤ 1048576) (wf : (Lit.int .i64 s).wf = true) (hu : Ints w u ws) (hm : ws.length ≤ 1048576) :
    Calls Tryz.prog 16 #[.agg #[v], .int .i64 s, u] w fun r w' => r = .returned (.tuple #[.int .i64 (ansTR xs ws s), .bool (okTR xs ws s)]) ∧ Below w.heap.size w w' := by
  have HV := hid hv
  have HU := hid hu
  obtain ⟨uA, uc, rfl, -⟩ := hu
  clear hv wf
  go_enter Tryz.func16, Tryz.ntmps16
  have HB := hid (below_alloc (Below.refl _ w) (.cells #[v] 26))
  have A0 := hid (At.newAt w v 26 w.heap.size (by simp))
  go_wp2_with fail
  refine (implRanksOf_any _ xs _ (HV.out.below HB.out) hl).mono ?_
  rintro e w' ⟨q, rfl, ho, -, hb⟩
  replace HB := hid (below_to HB.out hb)
  replace A0 := hid (A0.out.below hb)
  clear hb
  cases hk : okRk xs
  · have HO := hid (okTR_no1 (ws := ws) (okRI_no (s := s) hk))
    clear hk
    obtain ⟨qA, qn, qc, rfl⟩ := ho.shape3
    clear ho
    have ebox0 := A0.out.1
    go_wp2
    go_ret2
    exact ⟨ret_ib (ansTR_no HO.out).symm HO.out.symm, HB.out⟩
  · have HK := hid hk
    rw [ansRO_yes hk] at ho
    obtain ⟨hg, hr⟩ := okRk_good hk
    obtain ⟨h, hh, h9⟩ := rkN_some hg
    have HQ := hid ho.ints
    obtain ⟨qA, qc, rfl, -⟩ := ho.shape
    rw [rankL_length, hh] at HQ ⊢
    have HG := hid hg
    have HH := hid hh
    clear hk ho hg hr hh
    have ebox0 := A0.out.1
    go_wp2_with fail
    clear ebox0
    refine (hasIdeal_any _ xs s _ (HV.out.below HB.out) hl).mono ?_
    rintro e w' ⟨rfl, hb⟩
    replace HB := hid (below_to HB.out hb)
    replace A0 := hid (A0.out.below hb)
    replace HQ := hid (HQ.out.below hb)
    clear hb
    cases hi : okIdeal xs s
    · have HO := hid (okTR_no1 (ws := ws) (s := s) (by rw [okRI_yes HK.out]; exact hi))
      clear hi
      have ebox0 := A0.out.1
      go_wp2
      go_ret2
      exact ⟨ret_ib (ansTR_no HO.out).symm HO.out.symm, HB.out⟩
    · have HRI : Hid (okRI xs s = true) := hid (by rw [okRI_yes HK.out]; exact hi)
      obtain ⟨z, rfl, _, hz, _⟩ := okIdeal_all hi
      have HZ := hid hz
      clear hi hz
      by_cases h40 : ws.length ≤ 40
      · skip
        have ebox0 := A0.out.1
        go_wp2_with fail
        clear ebox0
        refine (areWithin_any _ ws 0 h _ (HU.out.below HB.out) hm).mono ?_
        rw [allB_inW]
        rintro e w' ⟨rfl, hb⟩
        replace HB := hid (below_to HB.out hb)
        replace A0 := hid (A0.out.below hb)
        replace HQ := hid (HQ.out.below hb)
        clear hb
        cases hw : inW (h + 1) ws
        · have HO := hid (okTR_no3 (xs := xs) (s := (z : Int)) (ws := ws) (by rw [HH.out]; exact hw))
          clear hw
          have ebox0 := A0.out.1
          go_wp2
          go_ret2
          exact ⟨ret_ib (ansTR_no HO.out).symm HO.out.symm, HB.out⟩
        · have HW := hid hw
          have HWn : Hid (inW (rkN xs) ws = true) := hid (by rw [HH.out]; exact hw)
          have HO := hid (okTR_yes HRI.out h40 HWn.out)
          have HEl := hid (inW_rkW HG.out HWn.out)
          have HLn := hid (rkW_length (rankL xs) ws)
          have HSm := hid (rank_small HG.out)
          have HRl : Hid ((rankL xs).length = h + 1) := hid (by rw [rankL_length, HH.out])
          have HV1 := hid (HV.out.below HB.out)
          have HU1 := hid (HU.out.below HB.out)
          have HS := hid (show SR w' w.heap.size v w' from ⟨A0.out, Below.refl _ _⟩)
          have hbx := A0.out.1
          have hw100 : ws.length ≤ 100 := by omega
          clear hw
          go_wp2_with fail
          go_region_held3 (fun W => W.cell? ⟨w.heap.size, 0, none⟩ = some v ∧ Hid (SR w' w.heap.size v W)) (first | exact ⟨HS3.out.at_.1, HS3⟩ | exact ⟨HS2.out.at_.1, HS2⟩ | exact ⟨HS.out.drew.at_.1, hid HS.out.drew⟩) (first | (go_at_call 65; refine (tgAt_SR _ _ xs (rankL xs) ws w' w.heap.size _ HQ.out HU1.out (by rw [HRl.out]; exact HW.out) hw100 (by rw [HRl.out]; omega) HSm.out v (Hid.out (by first | assumption | exact hid HS.out.drew))).mono ?_; rintro e' w4 ⟨q4, rfl, hu4, hs4⟩; have HU4 := hid hu4; have HS2 := hid hs4; clear hu4 hs4) | (go_at_call 66; refine (step_SR v _ xs _ w' w.heap.size z _ HV1.out HU4.out HG.out HZ.out HEl.out (by have := HLn.out; omega) HS2.out).mono ?_; rintro e' w5 ⟨rfl, hs5⟩; have HS3 := hid hs5; clear hs5))
          have HB3 := hid (below_to HB.out HS3.out.below)
          clear hbx
          go_wp2
          go_ret2
          exact ⟨ret_ib (ansTR_yes HO.out).symm HO.out.symm, HB3.out⟩
      · have HO := hid (okTR_no2 (xs := xs) (s := (z : Int)) h40)
        have ebox0 := A0.out.1
        go_wp2
        go_ret2
        exact ⟨ret_ib (ansTR_no HO.out).symm HO.out.symm, HB.out⟩
theorem implToggleRank_any (v : Value) (xs : List Int) (s i : Int) (w : World) (hv : Ints w v xs) (hl : xs.length ≤ 1048576) (wf : (Lit.int .i64 s).wf = true) (wfi : (Lit.int .i64 i).wf = true) :
    Calls Tryz.prog 12 #[.agg #[v], .int .i64 s, .int .i64 i] w fun r w' => r = .returned (.tuple #[.int .i64 (ansTR xs [i] s), .bool (okTR xs [i] s)]) ∧ Below w.heap.size w w' := by
  have HV := hid hv
  have WF := hid wf
  clear hv wf wfi
  go_enter Tryz.func12, Tryz.ntmps12
  have HB := hid (below_alloc (Below.refl _ w) (.cells #[v] 26))
  have A0 := hid (At.newAt w v 26 w.heap.size (by simp))
  go_wp2_with fail
  refine (implToggleRanks_any _ xs s _ [i] _ ((HV.out.below HB.out).alloc _) hl WF.out (Blk.ints (xs := [i]) (c := 1) (Blk.newAt _ 3 _ _ (by first | rfl | simp))) (by simp)).mono ?_
  rintro e w' ⟨rfl, hb⟩
  replace HB := hid (below_to (below_alloc HB.out _) hb)
  replace A0 := hid ((A0.out.alloc _).below hb)
  clear hb
  have ebox0 := A0.out.1
  go_wp2
  go_ret2
  exact ⟨rfl, HB.out⟩
/-! ### sweeps -/

theorem sTRow_any (v : Value) (rs : List Int) (h : Nat) (w : World) (hv : Ints w v rs) (hn : rs.length = h + 1) (h9 : h ≤ 9) (hr : ∀ i, i < rs.length → ∃ r : Nat, rs.getD i 0 = (r : Int) ∧ r < 1024) :
    Calls Tryz.prog 73 #[v, (.func (.func 51) #[] #[])] w fun (r : Ending) w' => ∃ q, r = Ending.returned q ∧ OwnI 3 w' w.heap.size q (rkW rs (wRow h)) ∧ Below w.heap.size w w' := by
  have HR := hid hr
  have HV := hid hv
  have HN := hid hn
  obtain ⟨A, c, rfl, -⟩ := hv
  rw [hn] at HV ⊢
  clear hr hn
  go_enter Tryz.func73, Tryz.ntmps73
  go_wp2_with fail
  refine (swRow_any h _ h9).mono ?_
  rintro e w1 ⟨a, rfl, ha, hb⟩
  have HA := hid ha
  have HB := hid hb
  clear ha hb
  go_wp2_with fail
  refine (wordRow_any a h _ HA.out h9).mono ?_
  rintro e w2 ⟨u, rfl, ho, hb⟩
  have HU := hid ho.ints
  have HB2 := hid (below_to HB.out hb)
  clear ho hb
  go_wp2_with fail
  refine (togglesAt_any _ _ rs (wRow h) _ (HV.out.below HB2.out) HU.out (by rw [HN.out]; exact inW_wRow (by omega)) (wRow_length h9) (by rw [HN.out]; omega) HR.out).mono ?_
  rintro e w3 ⟨q, rfl, ho, hb⟩
  have HO := hid ho
  have HB3 := hid (below_to HB2.out hb)
  have hz := HB2.out.size
  clear ho hb
  go_wp2
  go_ret
  exact ⟨_, rfl, HO.out.mono hz, HB3.out⟩
theorem sTRow_SR (v : Value) (rs : List Int) (h : Nat) (w0 : World) (b : Nat) (W : World) (hv : Ints w0 v rs) (hn : rs.length = h + 1) (h9 : h ≤ 9) (hr : ∀ i, i < rs.length → ∃ r : Nat, rs.getD i 0 = (r : Int) ∧ r < 1024) (vp : Value) (hS : SR w0 b vp W) :
    Calls Tryz.prog 73 #[v, (.func (.func 51) #[] #[])] W fun (r : Ending) w' => ∃ q, r = Ending.returned q ∧ Ints w' q (rkW rs (wRow h)) ∧ SR w0 b vp w' :=
  (sTRow_any v rs h W (hv.below hS.below) hn h9 hr).mono fun _ _ ⟨q, h1, h2, h3⟩ => ⟨q, h1, h2.ints, hS.to h3⟩
set_option maxHeartbeats 1600000 in
theorem sweptRow_any (v : Value) (xs : List Int) (s : Int) (w : World) (hv : Ints w v xs) (hl : xs.length ≤ 1048576) (wf : (Lit.int .i64 s).wf = true) :
    Calls Tryz.prog 50 #[.agg #[v], .int .i64 s, (.func (.func 51) #[] #[])] w fun r w' => r = .returned (.tuple #[.int .i64 (ansSW wRow xs s), .bool (okRI xs s)]) ∧ Below w.heap.size w w' := by
  have HV := hid hv
  clear hv wf
  go_enter Tryz.func50, Tryz.ntmps50
  have HB := hid (below_alloc (Below.refl _ w) (.cells #[v] 26))
  have A0 := hid (At.newAt w v 26 w.heap.size (by simp))
  go_wp2_with fail
  refine (implRanksOf_any _ xs _ (HV.out.below HB.out) hl).mono ?_
  rintro e w' ⟨q, rfl, ho, -, hb⟩
  replace HB := hid (below_to HB.out hb)
  replace A0 := hid (A0.out.below hb)
  clear hb
  cases hk : okRk xs
  · have HO := hid (okRI_no (s := s) hk)
    clear hk
    obtain ⟨qA, qn, qc, rfl⟩ := ho.shape3
    clear ho
    have ebox0 := A0.out.1
    go_wp2
    go_ret2
    exact ⟨ret_ib (ansSW_no HO.out).symm HO.out.symm, HB.out⟩
  · have HK := hid hk
    rw [ansRO_yes hk] at ho
    obtain ⟨hg, hr⟩ := okRk_good hk
    obtain ⟨h, hh, h9⟩ := rkN_some hg
    have HQ := hid ho.ints
    have HG := hid hg
    have HH := hid hh
    clear hk ho hg hr hh
    have ebox0 := A0.out.1
    go_wp2_with fail
    clear ebox0
    refine (hasIdeal_any _ xs s _ (HV.out.below HB.out) hl).mono ?_
    rintro e w' ⟨rfl, hb⟩
    replace HB := hid (below_to HB.out hb)
    replace A0 := hid (A0.out.below hb)
    replace HQ := hid (HQ.out.below hb)
    clear hb
    cases hi : okIdeal xs s
    · have HO : Hid (okRI xs s = false) := hid (by rw [okRI_yes HK.out]; exact hi)
      clear hi
      have ebox0 := A0.out.1
      go_wp2
      go_ret2
      exact ⟨ret_ib (ansSW_no HO.out).symm HO.out.symm, HB.out⟩
    · have HO : Hid (okRI xs s = true) := hid (by rw [okRI_yes HK.out]; exact hi)
      obtain ⟨z, rfl, _, hz, _⟩ := okIdeal_all hi
      have HZ := hid hz
      have HAn := hid (ansSW_yes (f := wRow) HO.out HH.out)
      have HEl := hid (inW_rkW HG.out (show inW (rkN xs) (wRow h) = true from inW_wRow (by rw [HH.out]; omega)))
      have HLn := hid (rkW_length (rankL xs) (wRow h))
      have HLw := hid (wRow_length h9)
      have HSm := hid (rank_small HG.out)
      have HRl : Hid ((rankL xs).length = h + 1) := hid (by rw [rankL_length, HH.out])
      have HV1 := hid (HV.out.below HB.out)
      have HS := hid (show SR w' w.heap.size v w' from ⟨A0.out, Below.refl _ _⟩)
      have hbx := A0.out.1
      clear hi hz
      go_wp2_with fail
      go_region_held3 (fun W => W.cell? ⟨w.heap.size, 0, none⟩ = some v ∧ Hid (SR w' w.heap.size v W)) (first | exact ⟨HS3.out.at_.1, HS3⟩ | exact ⟨HS2.out.at_.1, HS2⟩ | exact ⟨HS.out.drew.at_.1, hid HS.out.drew⟩) (first | (go_at_call 73; refine (sTRow_SR _ (rankL xs) h w' w.heap.size _ HQ.out HRl.out h9 HSm.out v (Hid.out (by first | assumption | exact hid HS.out.drew))).mono ?_; rintro e' w4 ⟨q4, rfl, hu4, hs4⟩; have HU4 := hid hu4; have HS2 := hid hs4; clear hu4 hs4) | (go_at_call 66; refine (step_SR v _ xs _ w' w.heap.size z _ HV1.out HU4.out HG.out HZ.out HEl.out (by have := HLn.out; have := HLw.out; omega) HS2.out).mono ?_; rintro e' w5 ⟨rfl, hs5⟩; have HS3 := hid hs5; clear hs5))
      have HB3 := hid (below_to HB.out HS3.out.below)
      clear hbx
      go_wp2
      go_ret2
      exact ⟨ret_ib HAn.out.symm HO.out.symm, HB3.out⟩
theorem implRowByRanks_any (v : Value) (xs : List Int) (s : Int) (w : World) (hv : Ints w v xs) (hl : xs.length ≤ 1048576) (wf : (Lit.int .i64 s).wf = true) :
    Calls Tryz.prog 7 #[.agg #[v], .int .i64 s] w fun r w' => r = .returned (.tuple #[.int .i64 (ansSW wRow xs s), .bool (okRI xs s)]) ∧ Below w.heap.size w w' := by
  have HV := hid hv
  have WF := hid wf
  clear hv wf
  go_enter Tryz.func7, Tryz.ntmps7
  have HB := hid (below_alloc (Below.refl _ w) (.cells #[v] 26))
  have A0 := hid (At.newAt w v 26 w.heap.size (by simp))
  go_wp2_with fail
  refine (sweptRow_any _ xs s _ (HV.out.below HB.out) hl WF.out).mono ?_
  rintro e w' ⟨rfl, hb⟩
  replace HB := hid (below_to HB.out hb)
  replace A0 := hid (A0.out.below hb)
  clear hb
  have ebox0 := A0.out.1
  go_wp2
  go_ret2
  exact ⟨rfl, HB.out⟩

theorem sTVac_any (v : Value) (rs : List Int) (h : Nat) (w : World) (hv : Ints w v rs) (hn : rs.length = h + 1) (h9 : h ≤ 9) (hr : ∀ i, i < rs.length → ∃ r : Nat, rs.getD i 0 = (r : Int) ∧ r < 1024) :
    Calls Tryz.prog 73 #[v, (.func (.func 79) #[] #[])] w fun (r : Ending) w' => ∃ q, r = Ending.returned q ∧ OwnI 3 w' w.heap.size q (rkW rs (wVac h)) ∧ Below w.heap.size w w' := by
  have HR := hid hr
  have HV := hid hv
  have HN := hid hn
  obtain ⟨A, c, rfl, -⟩ := hv
  rw [hn] at HV ⊢
  clear hr hn
  go_enter Tryz.func73, Tryz.ntmps73
  go_wp2_with fail
  refine (swVac_any h _ h9).mono ?_
  rintro e w1 ⟨a, rfl, ha, hb⟩
  have HA := hid ha
  have HB := hid hb
  clear ha hb
  go_wp2_with fail
  refine (wordVac_any a h _ HA.out h9).mono ?_
  rintro e w2 ⟨u, rfl, ho, hb⟩
  have HU := hid ho.ints
  have HB2 := hid (below_to HB.out hb)
  clear ho hb
  go_wp2_with fail
  refine (togglesAt_any _ _ rs (wVac h) _ (HV.out.below HB2.out) HU.out (by rw [HN.out]; exact inW_wVac (by omega)) (wVac_length h9) (by rw [HN.out]; omega) HR.out).mono ?_
  rintro e w3 ⟨q, rfl, ho, hb⟩
  have HO := hid ho
  have HB3 := hid (below_to HB2.out hb)
  have hz := HB2.out.size
  clear ho hb
  go_wp2
  go_ret
  exact ⟨_, rfl, HO.out.mono hz, HB3.out⟩
theorem sTVac_SR (v : Value) (rs : List Int) (h : Nat) (w0 : World) (b : Nat) (W : World) (hv : Ints w0 v rs) (hn : rs.length = h + 1) (h9 : h ≤ 9) (hr : ∀ i, i < rs.length → ∃ r : Nat, rs.getD i 0 = (r : Int) ∧ r < 1024) (vp : Value) (hS : SR w0 b vp W) :
    Calls Tryz.prog 73 #[v, (.func (.func 79) #[] #[])] W fun (r : Ending) w' => ∃ q, r = Ending.returned q ∧ Ints w' q (rkW rs (wVac h)) ∧ SR w0 b vp w' :=
  (sTVac_any v rs h W (hv.below hS.below) hn h9 hr).mono fun _ _ ⟨q, h1, h2, h3⟩ => ⟨q, h1, h2.ints, hS.to h3⟩
set_option maxHeartbeats 1600000 in
theorem sweptVac_any (v : Value) (xs : List Int) (s : Int) (w : World) (hv : Ints w v xs) (hl : xs.length ≤ 1048576) (wf : (Lit.int .i64 s).wf = true) :
    Calls Tryz.prog 50 #[.agg #[v], .int .i64 s, (.func (.func 79) #[] #[])] w fun r w' => r = .returned (.tuple #[.int .i64 (ansSW wVac xs s), .bool (okRI xs s)]) ∧ Below w.heap.size w w' := by
  have HV := hid hv
  clear hv wf
  go_enter Tryz.func50, Tryz.ntmps50
  have HB := hid (below_alloc (Below.refl _ w) (.cells #[v] 26))
  have A0 := hid (At.newAt w v 26 w.heap.size (by simp))
  go_wp2_with fail
  refine (implRanksOf_any _ xs _ (HV.out.below HB.out) hl).mono ?_
  rintro e w' ⟨q, rfl, ho, -, hb⟩
  replace HB := hid (below_to HB.out hb)
  replace A0 := hid (A0.out.below hb)
  clear hb
  cases hk : okRk xs
  · have HO := hid (okRI_no (s := s) hk)
    clear hk
    obtain ⟨qA, qn, qc, rfl⟩ := ho.shape3
    clear ho
    have ebox0 := A0.out.1
    go_wp2
    go_ret2
    exact ⟨ret_ib (ansSW_no HO.out).symm HO.out.symm, HB.out⟩
  · have HK := hid hk
    rw [ansRO_yes hk] at ho
    obtain ⟨hg, hr⟩ := okRk_good hk
    obtain ⟨h, hh, h9⟩ := rkN_some hg
    have HQ := hid ho.ints
    have HG := hid hg
    have HH := hid hh
    clear hk ho hg hr hh
    have ebox0 := A0.out.1
    go_wp2_with fail
    clear ebox0
    refine (hasIdeal_any _ xs s _ (HV.out.below HB.out) hl).mono ?_
    rintro e w' ⟨rfl, hb⟩
    replace HB := hid (below_to HB.out hb)
    replace A0 := hid (A0.out.below hb)
    replace HQ := hid (HQ.out.below hb)
    clear hb
    cases hi : okIdeal xs s
    · have HO : Hid (okRI xs s = false) := hid (by rw [okRI_yes HK.out]; exact hi)
      clear hi
      have ebox0 := A0.out.1
      go_wp2
      go_ret2
      exact ⟨ret_ib (ansSW_no HO.out).symm HO.out.symm, HB.out⟩
    · have HO : Hid (okRI xs s = true) := hid (by rw [okRI_yes HK.out]; exact hi)
      obtain ⟨z, rfl, _, hz, _⟩ := okIdeal_all hi
      have HZ := hid hz
      have HAn := hid (ansSW_yes (f := wVac) HO.out HH.out)
      have HEl := hid (inW_rkW HG.out (show inW (rkN xs) (wVac h) = true from inW_wVac (by rw [HH.out]; omega)))
      have HLn := hid (rkW_length (rankL xs) (wVac h))
      have HLw := hid (wVac_length h9)
      have HSm := hid (rank_small HG.out)
      have HRl : Hid ((rankL xs).length = h + 1) := hid (by rw [rankL_length, HH.out])
      have HV1 := hid (HV.out.below HB.out)
      have HS := hid (show SR w' w.heap.size v w' from ⟨A0.out, Below.refl _ _⟩)
      have hbx := A0.out.1
      clear hi hz
      go_wp2_with fail
      go_region_held3 (fun W => W.cell? ⟨w.heap.size, 0, none⟩ = some v ∧ Hid (SR w' w.heap.size v W)) (first | exact ⟨HS3.out.at_.1, HS3⟩ | exact ⟨HS2.out.at_.1, HS2⟩ | exact ⟨HS.out.drew.at_.1, hid HS.out.drew⟩) (first | (go_at_call 73; refine (sTVac_SR _ (rankL xs) h w' w.heap.size _ HQ.out HRl.out h9 HSm.out v (Hid.out (by first | assumption | exact hid HS.out.drew))).mono ?_; rintro e' w4 ⟨q4, rfl, hu4, hs4⟩; have HU4 := hid hu4; have HS2 := hid hs4; clear hu4 hs4) | (go_at_call 66; refine (step_SR v _ xs _ w' w.heap.size z _ HV1.out HU4.out HG.out HZ.out HEl.out (by have := HLn.out; have := HLw.out; omega) HS2.out).mono ?_; rintro e' w5 ⟨rfl, hs5⟩; have HS3 := hid hs5; clear hs5))
      have HB3 := hid (below_to HB.out HS3.out.below)
      clear hbx
      go_wp2
      go_ret2
      exact ⟨ret_ib HAn.out.symm HO.out.symm, HB3.out⟩
theorem implRowvacuation_any (v : Value) (xs : List Int) (s : Int) (w : World) (hv : Ints w v xs) (hl : xs.length ≤ 1048576) (wf : (Lit.int .i64 s).wf = true) :
    Calls Tryz.prog 31 #[.agg #[v], .int .i64 s] w fun r w' => r = .returned (.tuple #[.int .i64 (ansSW wVac xs s), .bool (okRI xs s)]) ∧ Below w.heap.size w w' := by
  have HV := hid hv
  have WF := hid wf
  clear hv wf
  go_enter Tryz.func31, Tryz.ntmps31
  have HB := hid (below_alloc (Below.refl _ w) (.cells #[v] 26))
  have A0 := hid (At.newAt w v 26 w.heap.size (by simp))
  go_wp2_with fail
  refine (sweptVac_any _ xs s _ (HV.out.below HB.out) hl WF.out).mono ?_
  rintro e w' ⟨rfl, hb⟩
  replace HB := hid (below_to HB.out hb)
  replace A0 := hid (A0.out.below hb)
  clear hb
  have ebox0 := A0.out.1
  go_wp2
  go_ret2
  exact ⟨rfl, HB.out⟩

theorem sTDual_any (v : Value) (rs : List Int) (h : Nat) (w : World) (hv : Ints w v rs) (hn : rs.length = h + 1) (h9 : h ≤ 9) (hr : ∀ i, i < rs.length → ∃ r : Nat, rs.getD i 0 = (r : Int) ∧ r < 1024) :
    Calls Tryz.prog 73 #[v, (.func (.func 81) #[] #[])] w fun (r : Ending) w' => ∃ q, r = Ending.returned q ∧ OwnI 3 w' w.heap.size q (rkW rs (wDual h)) ∧ Below w.heap.size w w' := by
  have HR := hid hr
  have HV := hid hv
  have HN := hid hn
  obtain ⟨A, c, rfl, -⟩ := hv
  rw [hn] at HV ⊢
  clear hr hn
  go_enter Tryz.func73, Tryz.ntmps73
  go_wp2_with fail
  refine (swDual_any h _ h9).mono ?_
  rintro e w1 ⟨a, rfl, ha, hb⟩
  have HA := hid ha
  have HB := hid hb
  clear ha hb
  go_wp2_with fail
  refine (wordDual_any a h _ HA.out h9).mono ?_
  rintro e w2 ⟨u, rfl, ho, hb⟩
  have HU := hid ho.ints
  have HB2 := hid (below_to HB.out hb)
  clear ho hb
  go_wp2_with fail
  refine (togglesAt_any _ _ rs (wDual h) _ (HV.out.below HB2.out) HU.out (by rw [HN.out]; exact inW_wDual (by omega)) (wDual_length h9) (by rw [HN.out]; omega) HR.out).mono ?_
  rintro e w3 ⟨q, rfl, ho, hb⟩
  have HO := hid ho
  have HB3 := hid (below_to HB2.out hb)
  have hz := HB2.out.size
  clear ho hb
  go_wp2
  go_ret
  exact ⟨_, rfl, HO.out.mono hz, HB3.out⟩
theorem sTDual_SR (v : Value) (rs : List Int) (h : Nat) (w0 : World) (b : Nat) (W : World) (hv : Ints w0 v rs) (hn : rs.length = h + 1) (h9 : h ≤ 9) (hr : ∀ i, i < rs.length → ∃ r : Nat, rs.getD i 0 = (r : Int) ∧ r < 1024) (vp : Value) (hS : SR w0 b vp W) :
    Calls Tryz.prog 73 #[v, (.func (.func 81) #[] #[])] W fun (r : Ending) w' => ∃ q, r = Ending.returned q ∧ Ints w' q (rkW rs (wDual h)) ∧ SR w0 b vp w' :=
  (sTDual_any v rs h W (hv.below hS.below) hn h9 hr).mono fun _ _ ⟨q, h1, h2, h3⟩ => ⟨q, h1, h2.ints, hS.to h3⟩
set_option maxHeartbeats 1600000 in
theorem sweptDual_any (v : Value) (xs : List Int) (s : Int) (w : World) (hv : Ints w v xs) (hl : xs.length ≤ 1048576) (wf : (Lit.int .i64 s).wf = true) :
    Calls Tryz.prog 50 #[.agg #[v], .int .i64 s, (.func (.func 81) #[] #[])] w fun r w' => r = .returned (.tuple #[.int .i64 (ansSW wDual xs s), .bool (okRI xs s)]) ∧ Below w.heap.size w w' := by
  have HV := hid hv
  clear hv wf
  go_enter Tryz.func50, Tryz.ntmps50
  have HB := hid (below_alloc (Below.refl _ w) (.cells #[v] 26))
  have A0 := hid (At.newAt w v 26 w.heap.size (by simp))
  go_wp2_with fail
  refine (implRanksOf_any _ xs _ (HV.out.below HB.out) hl).mono ?_
  rintro e w' ⟨q, rfl, ho, -, hb⟩
  replace HB := hid (below_to HB.out hb)
  replace A0 := hid (A0.out.below hb)
  clear hb
  cases hk : okRk xs
  · have HO := hid (okRI_no (s := s) hk)
    clear hk
    obtain ⟨qA, qn, qc, rfl⟩ := ho.shape3
    clear ho
    have ebox0 := A0.out.1
    go_wp2
    go_ret2
    exact ⟨ret_ib (ansSW_no HO.out).symm HO.out.symm, HB.out⟩
  · have HK := hid hk
    rw [ansRO_yes hk] at ho
    obtain ⟨hg, hr⟩ := okRk_good hk
    obtain ⟨h, hh, h9⟩ := rkN_some hg
    have HQ := hid ho.ints
    have HG := hid hg
    have HH := hid hh
    clear hk ho hg hr hh
    have ebox0 := A0.out.1
    go_wp2_with fail
    clear ebox0
    refine (hasIdeal_any _ xs s _ (HV.out.below HB.out) hl).mono ?_
    rintro e w' ⟨rfl, hb⟩
    replace HB := hid (below_to HB.out hb)
    replace A0 := hid (A0.out.below hb)
    replace HQ := hid (HQ.out.below hb)
    clear hb
    cases hi : okIdeal xs s
    · have HO : Hid (okRI xs s = false) := hid (by rw [okRI_yes HK.out]; exact hi)
      clear hi
      have ebox0 := A0.out.1
      go_wp2
      go_ret2
      exact ⟨ret_ib (ansSW_no HO.out).symm HO.out.symm, HB.out⟩
    · have HO : Hid (okRI xs s = true) := hid (by rw [okRI_yes HK.out]; exact hi)
      obtain ⟨z, rfl, _, hz, _⟩ := okIdeal_all hi
      have HZ := hid hz
      have HAn := hid (ansSW_yes (f := wDual) HO.out HH.out)
      have HEl := hid (inW_rkW HG.out (show inW (rkN xs) (wDual h) = true from inW_wDual (by rw [HH.out]; omega)))
      have HLn := hid (rkW_length (rankL xs) (wDual h))
      have HLw := hid (wDual_length h9)
      have HSm := hid (rank_small HG.out)
      have HRl : Hid ((rankL xs).length = h + 1) := hid (by rw [rankL_length, HH.out])
      have HV1 := hid (HV.out.below HB.out)
      have HS := hid (show SR w' w.heap.size v w' from ⟨A0.out, Below.refl _ _⟩)
      have hbx := A0.out.1
      clear hi hz
      go_wp2_with fail
      go_region_held3 (fun W => W.cell? ⟨w.heap.size, 0, none⟩ = some v ∧ Hid (SR w' w.heap.size v W)) (first | exact ⟨HS3.out.at_.1, HS3⟩ | exact ⟨HS2.out.at_.1, HS2⟩ | exact ⟨HS.out.drew.at_.1, hid HS.out.drew⟩) (first | (go_at_call 73; refine (sTDual_SR _ (rankL xs) h w' w.heap.size _ HQ.out HRl.out h9 HSm.out v (Hid.out (by first | assumption | exact hid HS.out.drew))).mono ?_; rintro e' w4 ⟨q4, rfl, hu4, hs4⟩; have HU4 := hid hu4; have HS2 := hid hs4; clear hu4 hs4) | (go_at_call 66; refine (step_SR v _ xs _ w' w.heap.size z _ HV1.out HU4.out HG.out HZ.out HEl.out (by have := HLn.out; have := HLw.out; omega) HS2.out).mono ?_; rintro e' w5 ⟨rfl, hs5⟩; have HS3 := hid hs5; clear hs5))
      have HB3 := hid (below_to HB.out HS3.out.below)
      clear hbx
      go_wp2
      go_ret2
      exact ⟨ret_ib HAn.out.symm HO.out.symm, HB3.out⟩
theorem implDualRowvacuation_any (v : Value) (xs : List Int) (s : Int) (w : World) (hv : Ints w v xs) (hl : xs.length ≤ 1048576) (wf : (Lit.int .i64 s).wf = true) :
    Calls Tryz.prog 33 #[.agg #[v], .int .i64 s] w fun r w' => r = .returned (.tuple #[.int .i64 (ansSW wDual xs s), .bool (okRI xs s)]) ∧ Below w.heap.size w w' := by
  have HV := hid hv
  have WF := hid wf
  clear hv wf
  go_enter Tryz.func33, Tryz.ntmps33
  have HB := hid (below_alloc (Below.refl _ w) (.cells #[v] 26))
  have A0 := hid (At.newAt w v 26 w.heap.size (by simp))
  go_wp2_with fail
  refine (sweptDual_any _ xs s _ (HV.out.below HB.out) hl WF.out).mono ?_
  rintro e w' ⟨rfl, hb⟩
  replace HB := hid (below_to HB.out hb)
  replace A0 := hid (A0.out.below hb)
  clear hb
  have ebox0 := A0.out.1
  go_wp2
  go_ret2
  exact ⟨rfl, HB.out⟩

theorem sTGyr_any (v : Value) (rs : List Int) (h : Nat) (w : World) (hv : Ints w v rs) (hn : rs.length = h + 1) (h9 : h ≤ 9) (hr : ∀ i, i < rs.length → ∃ r : Nat, rs.getD i 0 = (r : Int) ∧ r < 1024) :
    Calls Tryz.prog 73 #[v, (.func (.func 70) #[] #[])] w fun (r : Ending) w' => ∃ q, r = Ending.returned q ∧ OwnI 3 w' w.heap.size q (rkW rs (wGyr h)) ∧ Below w.heap.size w w' := by
  have HR := hid hr
  have HV := hid hv
  have HN := hid hn
  obtain ⟨A, c, rfl, -⟩ := hv
  rw [hn] at HV ⊢
  clear hr hn
  go_enter Tryz.func73, Tryz.ntmps73
  go_wp2_with fail
  refine (swGyr_any h _ h9).mono ?_
  rintro e w1 ⟨a, rfl, ha, hb⟩
  have HA := hid ha
  have HB := hid hb
  clear ha hb
  go_wp2_with fail
  refine (wordGyr_any a h _ HA.out h9).mono ?_
  rintro e w2 ⟨u, rfl, ho, hb⟩
  have HU := hid ho.ints
  have HB2 := hid (below_to HB.out hb)
  clear ho hb
  go_wp2_with fail
  refine (togglesAt_any _ _ rs (wGyr h) _ (HV.out.below HB2.out) HU.out (by rw [HN.out]; exact inW_wGyr (by omega)) (wGyr_length h9) (by rw [HN.out]; omega) HR.out).mono ?_
  rintro e w3 ⟨q, rfl, ho, hb⟩
  have HO := hid ho
  have HB3 := hid (below_to HB2.out hb)
  have hz := HB2.out.size
  clear ho hb
  go_wp2
  go_ret
  exact ⟨_, rfl, HO.out.mono hz, HB3.out⟩
theorem sTGyr_SR (v : Value) (rs : List Int) (h : Nat) (w0 : World) (b : Nat) (W : World) (hv : Ints w0 v rs) (hn : rs.length = h + 1) (h9 : h ≤ 9) (hr : ∀ i, i < rs.length → ∃ r : Nat, rs.getD i 0 = (r : Int) ∧ r < 1024) (vp : Value) (hS : SR w0 b vp W) :
    Calls Tryz.prog 73 #[v, (.func (.func 70) #[] #[])] W fun (r : Ending) w' => ∃ q, r = Ending.returned q ∧ Ints w' q (rkW rs (wGyr h)) ∧ SR w0 b vp w' :=
  (sTGyr_any v rs h W (hv.below hS.below) hn h9 hr).mono fun _ _ ⟨q, h1, h2, h3⟩ => ⟨q, h1, h2.ints, hS.to h3⟩
set_option maxHeartbeats 1600000 in
theorem sweptGyr_any (v : Value) (xs : List Int) (s : Int) (w : World) (hv : Ints w v xs) (hl : xs.length ≤ 1048576) (wf : (Lit.int .i64 s).wf = true) :
    Calls Tryz.prog 50 #[.agg #[v], .int .i64 s, (.func (.func 70) #[] #[])] w fun r w' => r = .returned (.tuple #[.int .i64 (ansSW wGyr xs s), .bool (okRI xs s)]) ∧ Below w.heap.size w w' := by
  have HV := hid hv
  clear hv wf
  go_enter Tryz.func50, Tryz.ntmps50
  have HB := hid (below_alloc (Below.refl _ w) (.cells #[v] 26))
  have A0 := hid (At.newAt w v 26 w.heap.size (by simp))
  go_wp2_with fail
  refine (implRanksOf_any _ xs _ (HV.out.below HB.out) hl).mono ?_
  rintro e w' ⟨q, rfl, ho, -, hb⟩
  replace HB := hid (below_to HB.out hb)
  replace A0 := hid (A0.out.below hb)
  clear hb
  cases hk : okRk xs
  · have HO := hid (okRI_no (s := s) hk)
    clear hk
    obtain ⟨qA, qn, qc, rfl⟩ := ho.shape3
    clear ho
    have ebox0 := A0.out.1
    go_wp2
    go_ret2
    exact ⟨ret_ib (ansSW_no HO.out).symm HO.out.symm, HB.out⟩
  · have HK := hid hk
    rw [ansRO_yes hk] at ho
    obtain ⟨hg, hr⟩ := okRk_good hk
    obtain ⟨h, hh, h9⟩ := rkN_some hg
    have HQ := hid ho.ints
    have HG := hid hg
    have HH := hid hh
    clear hk ho hg hr hh
    have ebox0 := A0.out.1
    go_wp2_with fail
    clear ebox0
    refine (hasIdeal_any _ xs s _ (HV.out.below HB.out) hl).mono ?_
    rintro e w' ⟨rfl, hb⟩
    replace HB := hid (below_to HB.out hb)
    replace A0 := hid (A0.out.below hb)
    replace HQ := hid (HQ.out.below hb)
    clear hb
    cases hi : okIdeal xs s
    · have HO : Hid (okRI xs s = false) := hid (by rw [okRI_yes HK.out]; exact hi)
      clear hi
      have ebox0 := A0.out.1
      go_wp2
      go_ret2
      exact ⟨ret_ib (ansSW_no HO.out).symm HO.out.symm, HB.out⟩
    · have HO : Hid (okRI xs s = true) := hid (by rw [okRI_yes HK.out]; exact hi)
      obtain ⟨z, rfl, _, hz, _⟩ := okIdeal_all hi
      have HZ := hid hz
      have HAn := hid (ansSW_yes (f := wGyr) HO.out HH.out)
      have HEl := hid (inW_rkW HG.out (show inW (rkN xs) (wGyr h) = true from inW_wGyr (by rw [HH.out]; omega)))
      have HLn := hid (rkW_length (rankL xs) (wGyr h))
      have HLw := hid (wGyr_length h9)
      have HSm := hid (rank_small HG.out)
      have HRl : Hid ((rankL xs).length = h + 1) := hid (by rw [rankL_length, HH.out])
      have HV1 := hid (HV.out.below HB.out)
      have HS := hid (show SR w' w.heap.size v w' from ⟨A0.out, Below.refl _ _⟩)
      have hbx := A0.out.1
      clear hi hz
      go_wp2_with fail
      go_region_held3 (fun W => W.cell? ⟨w.heap.size, 0, none⟩ = some v ∧ Hid (SR w' w.heap.size v W)) (first | exact ⟨HS3.out.at_.1, HS3⟩ | exact ⟨HS2.out.at_.1, HS2⟩ | exact ⟨HS.out.drew.at_.1, hid HS.out.drew⟩) (first | (go_at_call 73; refine (sTGyr_SR _ (rankL xs) h w' w.heap.size _ HQ.out HRl.out h9 HSm.out v (Hid.out (by first | assumption | exact hid HS.out.drew))).mono ?_; rintro e' w4 ⟨q4, rfl, hu4, hs4⟩; have HU4 := hid hu4; have HS2 := hid hs4; clear hu4 hs4) | (go_at_call 66; refine (step_SR v _ xs _ w' w.heap.size z _ HV1.out HU4.out HG.out HZ.out HEl.out (by have := HLn.out; have := HLw.out; omega) HS2.out).mono ?_; rintro e' w5 ⟨rfl, hs5⟩; have HS3 := hid hs5; clear hs5))
      have HB3 := hid (below_to HB.out HS3.out.below)
      clear hbx
      go_wp2
      go_ret2
      exact ⟨ret_ib HAn.out.symm HO.out.symm, HB3.out⟩
theorem implGyrateIdeal_any (v : Value) (xs : List Int) (s : Int) (w : World) (hv : Ints w v xs) (hl : xs.length ≤ 1048576) (wf : (Lit.int .i64 s).wf = true) :
    Calls Tryz.prog 22 #[.agg #[v], .int .i64 s] w fun r w' => r = .returned (.tuple #[.int .i64 (ansSW wGyr xs s), .bool (okRI xs s)]) ∧ Below w.heap.size w w' := by
  have HV := hid hv
  have WF := hid wf
  clear hv wf
  go_enter Tryz.func22, Tryz.ntmps22
  have HB := hid (below_alloc (Below.refl _ w) (.cells #[v] 26))
  have A0 := hid (At.newAt w v 26 w.heap.size (by simp))
  go_wp2_with fail
  refine (sweptGyr_any _ xs s _ (HV.out.below HB.out) hl WF.out).mono ?_
  rintro e w' ⟨rfl, hb⟩
  replace HB := hid (below_to HB.out hb)
  replace A0 := hid (A0.out.below hb)
  clear hb
  have ebox0 := A0.out.1
  go_wp2
  go_ret2
  exact ⟨rfl, HB.out⟩
end Go.Proofs.YtdemikjaghegnaaGreat

/- Cycles of a word on the ideals. -/
namespace Go.Proofs.YtdemikjaghegnaaGreat
open Go.RowKit Go.WideShapes Go.ChangeShapes
set_option linter.unusedVariables false

theorem setsL_bound {f : Nat → Bool} {N j : Nat} (hj : j < (setsL f N).length) : ∃ s : Nat, (setsL f N).getD j 0 = (s : Int) ∧ s < N ∧ f s = true := by
  have hj' : j < ((List.range N).filter f).length := by simpa [setsL] using hj
  have hmem2 := List.mem_filter.1 (List.getElem_mem hj')
  exact ⟨((List.range N).filter f)[j], by simp [setsL, List.getD, hj'], List.mem_range.1 hmem2.1, hmem2.2⟩
/-- the word's motion on sets -/
def wordF (xs ys : List Int) (s : Nat) : Nat := togW xs s ys

set_option maxHeartbeats 3200000 in
theorem cyclesOf_any (v u : Value) (xs ys : List Int) (w : World) (hv : Ints w v xs) (hu : Ints w u ys) (hg : good xs = true) (hy : inW xs.length ys = true) (hm : ys.length ≤ 1048576) :
    Calls Tryz.prog 74 #[.agg #[v], .iface 62 u] w fun (r : Ending) w' => ∃ q, r = Ending.returned q ∧ OwnI 3 w' w.heap.size q (cyclesL (wordF xs ys) (2 ^ xs.length) (setsL (holdsIdeal xs) (2 ^ xs.length))) ∧ Below w.heap.size w w' := by
  have hl10 := (good_length hg).2
  have HV := hid hv
  have HUW := hid hu
  have HG := hid hg
  have HY := hid hy
  obtain ⟨A, c, rfl, -⟩ := hv
  obtain ⟨N, hN⟩ : ∃ N, 2 ^ xs.length = N := ⟨_, rfl⟩
  have hN2 := two_pow_le xs.length hl10
  rw [hN] at hN2
  obtain ⟨I, hI⟩ : ∃ I, setsL (holdsIdeal xs) N = I := ⟨_, rfl⟩
  have HAt := hid (fun j hj => setsL_bound (f := holdsIdeal xs) (N := N) (j := j) hj)
  have hIN := setsL_length (holdsIdeal xs) N
  rw [hI] at HAt hIN
  rw [hN, hI]
  have HI := hid (show setsL (holdsIdeal xs) (2 ^ xs.length) = I by rw [hN]; exact hI)
  have HN := hid hN
  have hM : ((N - 1 : Nat) : Int) + 1 = (N : Int) := by omega
  have hmk := run_make_row' (P := Tryz.prog) 73 4 (.bool false) 1 Tryz.underlying73 infoBool rfl .i64 .i64 N (by omega) (by omega)
  clear hu hg hy hI
  go_enter Tryz.func74, Tryz.ntmps74
  go_wp2_with (go_at_call 107; refine (wholeSet_any xs.length hl10 _).mono ?_; rw [hN]; rintro e w2 ⟨rfl, rfl⟩)
  clear hM
  refine (setsI_any _ xs _ ((HV.out.alloc _).alloc _) HG.out).mono ?_
  rw [HI.out]
  rintro e w' ⟨iu, rfl, ho, hb⟩
  obtain ⟨g, hg⟩ : ∃ g, w.heap.size + 1 = g := ⟨_, rfl⟩
  have HB := hid (below_to (below_alloc (below_alloc (Below.refl _ w) _) _) hb)
  have HBox : Hid (At w' w.heap.size (.slice A xs.length c)) := hid (((At.new _ _ _).alloc _).below hb)
  have HSeen : Hid (Blk w' g 4 (BVals (List.replicate N false))) := hid (by
    subst hg
    rw [← BVals_made]
    exact (Blk.newAt _ 4 (madeCells #[.bool false] N) (w.heap.size + 1) (by simp)).below hb (by simp))
  obtain ⟨iA, iN, ic, rfl⟩ := ho.shape3
  have hiN : iN = I.length := by
    obtain ⟨_, _, h, _⟩ := ho.shape
    cases h; rfl
  subst hiN
  have HO := hid (ho.mono (B' := g + 1) (by simp; omega))
  have HOB : Hid (∀ k, (Value.slice iA I.length ic).ownBlock = some k → g + 1 ≤ k ∧ k < w'.heap.size) := hid (fun k hk => by
    have h1 := ho.blockLt k hk
    simp at h1
    omega)
  have hgw : g < w'.heap.size := HSeen.out.lt
  have hwg : w.heap.size < g := by omega
  have hbx := HBox.out.1
  rw [hg]
  clear hb ho hmk hg hN
  go_wp2
  clear hbx
  go_loopw [5, 20] (fun q i wr => ∃ (j : Nat) (oA : Option Addr) (on oc : Nat), j ≤ I.length ∧ i = .int .i64 j ∧ q = .slice oA on oc ∧ Blk wr g 4 (BVals (cycSt (wordF xs ys) N I j).1) ∧ OwnI 3 wr w'.heap.size (.slice oA on oc) (cycSt (wordF xs ys) N I j).2 ∧ TurnedIn g (g + 1) w' wr) (fun _ i _ => I.length - (intOf i).toNat)
  case atStart => exact ⟨0, none, 0, 0, Nat.zero_le _, rfl, rfl, HSeen.out, OwnI.nil _ _ _, TurnedIn.refl _ _ _⟩
  case round =>
    obtain ⟨j, oA, on, oc, hj, rfl, rfl, hB, hq, ht⟩ := hrel
    have HBk := hid hB
    have HQ := hid hq
    have HT := hid ht
    clear hB hq
    by_cases hlt : j < I.length
    · obtain ⟨s, hs, hsN, hIs⟩ := HAt.out j hlt
      have hoi := HO.out.turned ht HOB.out (.inr (Nat.le_refl _))
      have hcell : ∃ b, iA = some ⟨b, 0, none⟩ ∧ wr.cell? ⟨b, 0 + j, none⟩ = some (.int .i64 s) := by
        obtain ⟨A', c', h1, h2⟩ := hoi.shape
        obtain ⟨A2, c2, h3, h4⟩ := hoi.ints
        cases h1
        obtain ⟨b, h5, -, -⟩ := h2 (by intro h; simp [h] at hlt)
        cases h3
        obtain ⟨b2, o2, h6, -, h7⟩ := h4 (by intro h; simp [h] at hlt)
        have h8 : b2 = b ∧ o2 = 0 := by rw [h5] at h6; cases h6; exact ⟨rfl, rfl⟩
        obtain ⟨rfl, rfl⟩ := h8
        exact ⟨_, h5, by rw [h7 j hlt, hs]⟩
      obtain ⟨b, rfl, hcell⟩ := hcell
      rw [Nat.zero_add] at hcell
      have HS := hid hs
      obtain ⟨seen0, hs0⟩ : ∃ l, (cycSt (wordF xs ys) N I j).1 = l := ⟨_, rfl⟩
      obtain ⟨out0, ho0⟩ : ∃ l, (cycSt (wordF xs ys) N I j).2 = l := ⟨_, rfl⟩
      have hlen := cycSt_length (wordF xs ys) N I j
      rw [hs0] at HBk hlen
      rw [ho0] at HQ hlen
      obtain ⟨R, hR⟩ : ∃ R, cyc1 (wordF xs ys) seen0 s 0 = R := ⟨_, rfl⟩
      have HStep : Hid (cycSt (wordF xs ys) N I (j + 1) = (R.1, if 0 < R.2 then out0 ++ [(R.2 : Int)] else out0)) := hid (by
        simp only [cycSt, hs0, ho0, hs, Int.toNat_natCast, hR])
      have HLen := hid hlen.1
      have ho10 : out0.length ≤ 1024 := by omega
      have hc0 := cntF_le seen0
      have hc1 : 0 + cntF seen0 ≤ N := by rw [← hlen.1]; omega
      have HR := hid hR
      clear hs hs0 ho0 hR hoi ht hIs hlen hc0
      go_wp2
      clear hcell
      go_loopw [10, 9] (fun a i wi => ∃ (seen : List Bool) (t n : Nat), a = .int .i64 t ∧ i = .int .i64 n ∧ t < N ∧ Hid (seen.length = N) ∧ n + cntF seen ≤ N ∧ Hid (cyc1 (wordF xs ys) seen t n = R) ∧ Blk wi g 4 (BVals seen) ∧ Hid (OwnI 3 wi w'.heap.size (.slice oA on oc) out0) ∧ TurnedIn g (g + 1) w' wi) (fun _ i _ => N - (intOf i).toNat)
      case atStart => exact ⟨seen0, s, 0, rfl, rfl, hsN, HLen, hc1, HR, HBk.out, HQ, HT.out⟩
      case round =>
        obtain ⟨seen, t, n, rfl, rfl, htN, HSL, hcn, HC, hB, HOut, ht⟩ := hrel
        have hct : wr.cell? ⟨g, t, none⟩ = some (.bool (seen.getD t true)) := by
          rw [hB.cell, BVals_get (by rw [HSL.out]; exact htN)]
        have hft := hB.frozen t
        have HBk2 := hid hB
        have HT2 := hid ht
        clear hB ht
        cases hst : seen.getD t true
        · rw [hst] at hct
          have hcs := cntF_set (show t < seen.length by rw [HSL.out]; exact htN) hst
          have HGo := hid (cyc1_go (f := wordF xs ys) (n := n) (show t < seen.length by rw [HSL.out]; exact htN) hst)
          have hn1 : n < N := by omega
          have hcn2 : n + 1 + cntF (seen.set t true) ≤ N := by omega
          have HL2 : Hid ((seen.set t true).length = N) := hid (by rw [List.length_set]; exact HSL.out)
          have hbox := (HBox.out.turned HT2.out (.inl hwg)).1
          have hboxz := (HBox.out.turned HT2.out (.inl hwg)).2
          have hne : w.heap.size ≠ g := by omega
          have hf1 : wordF xs ys t < N := by rw [← HN.out]; exact togW_lt (by rw [HN.out]; exact htN) HY.out
          have HBk3 : Hid (Blk (wr.setCell ⟨g, t, none⟩ (.bool true)) g 4 (BVals (seen.set t true))) := hid (by rw [← BVals_set]; exact HBk2.out.set_ t _)
          have HT3 : Hid (TurnedIn g (g + 1) w' (wr.setCell ⟨g, t, none⟩ (.bool true))) := hid (HT2.out.set_ ⟨g, t, none⟩ ⟨Nat.le_refl _, Nat.lt_succ_self _⟩ _)
          have HOut3 : Hid (OwnI 3 (wr.setCell ⟨g, t, none⟩ (.bool true)) w'.heap.size (.slice oA on oc) out0) := hid (HOut.out.grown (grown_setCell (World.grownBy.refl _ _) t _) (HOut.out.apart (.inl hgw)))
          have HB3 := hid (below_turned HB.out HT3.out (Nat.le_of_lt hwg))
          have HTN : Hid (t < 2 ^ xs.length) := hid (by rw [HN.out]; exact htN)
          have hbox3 := (HBox.out.turned HT3.out (.inl hwg)).1
          clear hst hcs
          go_wp2_with fail
          clear hct hft hbox hboxz hbox3
          refine (step_any _ _ xs ys t _ (HV.out.below HB3.out) (HUW.out.below HB3.out) HG.out HTN.out HY.out hm).mono ?_
          rintro e' w5 ⟨rfl, hb5⟩
          have HBk5 := hid (HBk3.out.below hb5 HBk3.out.lt)
          have HT5 := hid (HT3.out.trans (TurnedIn.of_below hb5))
          have HOut5 := hid (HOut3.out.below hb5)
          clear hb5
          go_wp2
          go_roundw
          case rel => exact ⟨seen.set t true, wordF xs ys t, n + 1, rfl, by go_num, hf1, HL2, hcn2, hid (by rw [← HGo.out]; exact HC.out), HBk5.out, HOut5, HT5.out⟩
          case measure => simp [intOf]; omega
        · rw [hst] at hct
          have HStop : Hid (R = (seen, n)) := hid (by rw [← HC.out]; exact cyc1_stop hst)
          have hnN : n ≤ N := by omega
          have HBel := hid (below_turned HB.out HT2.out (Nat.le_of_lt hwg))
          clear hst
          by_cases hn0 : 0 < n
          · have HSt2 : Hid (cycSt (wordF xs ys) N I (j + 1) = (seen, out0 ++ [(n : Int)])) := hid (by rw [HStep.out, HStop.out]; simp [hn0])
            have hwz : w'.heap.size ≤ wr.heap.size := HT2.out.size
            go_wp2_with (at_builtin; refine wpList_append_int rfl _ _ 24 3 rfl Tryz.underlying24 Tryz.info3 w'.heap.size _ _ n rfl HOut.out rfl rfl (by omega) (by omega) ?_; rintro q2 w6 ho6 hb6; obtain ⟨qA, qn, qc, rfl⟩ := ho6.shape3)
            go_roundw
            case rel => exact ⟨j + 1, qA, qn, qc, by omega, by go_num, rfl, (by rw [HSt2.out]; exact HBk2.out.below hb6 hgw), (by rw [HSt2.out]; exact ho6), HT2.out.belowB hb6 (Nat.le_refl _)⟩
            case measure => simp [intOf]; omega
          · have HSt2 : Hid (cycSt (wordF xs ys) N I (j + 1) = (seen, out0)) := hid (by rw [HStep.out, HStop.out]; simp [hn0])
            go_wp2
            go_roundw
            case rel => exact ⟨j + 1, oA, on, oc, by omega, by go_num, rfl, (by rw [HSt2.out]; exact HBk2.out), (by rw [HSt2.out]; exact HOut.out), HT2.out⟩
            case measure => simp [intOf]; omega
    · obtain rfl : j = I.length := by omega
      have HBel := hid (below_turned HB.out ht (Nat.le_of_lt hwg))
      have hww := HB.out.size
      clear ht
      go_wp2
      go_ret
      exact ⟨_, rfl, HQ.out.mono hww, HBel.out⟩
end Go.Proofs.YtdemikjaghegnaaGreat
