/- Texts RvU, RvI, one behind the other. -/
import Derived.Test.YtdemikjaghegnaaGreatPkRanksMakeRowmotionProof06
import Derived.Test.YtdemikjaghegnaaGreatPkRanksMakeRowmotionProof12
import Derived.Test.YtdemikjaghegnaaGreatPkRanksMakeRowmotionProof13
import Derived.Test.YtdemikjaghegnaaGreatPkRanksMakeRowmotionProof15
/- Rowmotion by ranks, rowvacuation, gyration in the model. -/
namespace Go.Proofs.YtdemikjaghegnaaGreat
open Go.RowKit Go.WideShapes Go.ChangeShapes
set_option linter.unusedVariables false

/-- the ideal behind the sweeps of f -/
def ansSW (f : Nat → List Int) (xs : List Int) (s : Int) : Int := if okRI xs s then (togW xs s.toNat (rkW (rankL xs) (f (rkN xs - 1))) : Int) else 0
theorem ansSW_no {f : Nat → List Int} {xs : List Int} {s : Int} (h : okRI xs s = false) : ansSW f xs s = 0 := by simp [ansSW, h]
theorem ansSW_yes {f : Nat → List Int} {xs : List Int} {z h : Nat} (hk : okRI xs z = true) (hh : rkN xs = h + 1) : ansSW f xs z = (togW xs z (rkW (rankL xs) (f h)) : Int) := by unfold ansSW; rw [if_pos hk, hh]; rfl
theorem rkN_some {xs : List Int} (hg : good xs = true) : ∃ h, rkN xs = h + 1 ∧ h ≤ 9 := by
  have h1 := rkN_bounds hg
  have h2 := good_length hg
  exact ⟨rkN xs - 1, by omega, by omega⟩
theorem fall_done {h k : Nat} (hk : k = h + 1) : mapT (fun j => ((h - j : Nat) : Int)) k = wRow h := by subst hk; rw [wRow_eq]; rfl
set_option maxHeartbeats 1600000 in
theorem specRowByRanks_any (v : Value) (xs : List Int) (s : Int) (w : World) (hv : Ints w v xs) (hl : xs.length ≤ 1048576) (wf : (Lit.int .i64 s).wf = true) :
    Calls Tryz.prog 8 #[.agg #[v], .int .i64 s] w fun r w' => r = .returned (.tuple #[.int .i64 (ansSW wRow xs s), .bool (okRI xs s)]) ∧ Below w.heap.size w w' := by
  have HV := hid hv
  clear hv wf
  go_enter Tryz.func8, Tryz.ntmps8
  have HB := hid (below_alloc (Below.refl _ w) (.cells #[v] 26))
  have A0 := hid (At.newAt w v 26 w.heap.size (by simp))
  go_wp2_with fail
  refine (rvIn_any _ xs s _ (HV.out.below HB.out) hl).mono ?_
  rintro e w' ⟨rfl, hb⟩
  replace HB := hid (below_to HB.out hb)
  replace A0 := hid (A0.out.below hb)
  clear hb
  cases hq : okRI xs s
  · have HO := hid hq
    clear hq
    have ebox0 := A0.out.1
    go_wp2
    go_ret2
    exact ⟨ret_ib (ansSW_no HO.out).symm HO.out.symm, HB.out⟩
  · have HO := hid hq
    obtain ⟨z, rfl, hg, hr, hz, hi⟩ := okRI_all hq
    have HG := hid hg
    have HZ := hid hz
    obtain ⟨h, hh, h9⟩ := rkN_some hg
    have HAn := hid (ansSW_yes (f := wRow) hq hh)
    have HIn : Hid (inW (rkN xs) (wRow h) = true) := hid (inW_wRow (by omega))
    have HLn := hid (wRow_length h9)
    have HF := hid (mapT_succ (fun j => ((h - j : Nat) : Int)))
    have HL := hid (mapT_length (fun j => ((h - j : Nat) : Int)))
    have HE := hid (fun k => fall_done (h := h) (k := k))
    have H0 : Hid (mapT (fun j => ((h - j : Nat) : Int)) 0 = []) := hid rfl
    obtain ⟨F, hF⟩ : ∃ F, mapT (fun j => ((h - j : Nat) : Int)) = F := ⟨_, rfl⟩
    rw [hF] at HF HL HE H0
    clear hq hg hr hz hi hF
    have ebox0 := A0.out.1
    go_wp2_with fail
    clear ebox0
    refine (rvRanks_any _ xs _ (HV.out.below HB.out) HG.out).mono ?_
    rintro e w' ⟨q, rfl, ho, hb⟩
    replace HB := hid (below_to HB.out hb)
    replace A0 := hid (A0.out.below hb)
    clear hb
    obtain ⟨qA, qc, rfl, -⟩ := ho.shape
    rw [rankL_length, hh]
    clear ho hh
    go_wp2
    go_loopw [6, 7] (fun q i wr => ∃ (k : Nat) (x : Int), x + k = h ∧ k ≤ h + 1 ∧ i = .int .i64 x ∧ OwnI 3 wr w'.heap.size q (F k) ∧ Below w'.heap.size w' wr) (fun _ i _ => (intOf i + 1).toNat)
    case atStart => exact ⟨0, h, by omega, by omega, rfl, by rw [H0.out]; exact OwnI.nil _ _ _, Below.refl _ _⟩
    case round =>
      obtain ⟨k, x, hx, hk, rfl, ho, hb⟩ := hrel
      have HOk := hid ho
      have HB1 := hid hb
      have hz1 := hb.size
      by_cases hlt : 0 ≤ x
      · have hl48 : (F k).length < 1048576 := by rw [HL.out]; omega
        have HS : Hid (F (k + 1) = F k ++ [x]) := hid (by rw [HF.out]; congr 2; omega)
        have HX := hid hx
        have hx9 : x ≤ 9 := by omega
        clear ho hb hx
        go_wp2_with (at_builtin; refine wpList_append_int rfl _ _ 24 3 rfl Tryz.underlying24 Tryz.info3 w'.heap.size _ _ x rfl HOk.out rfl rfl hl48 hz1 ?_; rintro q2 w6 ho6 hb6)
        go_roundw
        case rel => exact ⟨k + 1, x - 1, by have := HX.out; omega, by have := HX.out; omega, by go_num, (by rw [HS.out]; exact ho6), HB1.out.trans hb6⟩
        case measure => simp [intOf] <;> omega
      · have HU := hid (ho.ints)
        rw [HE.out k (by omega)] at HU
        have hbx := (A0.out.below hb).1
        have HB2 := hid (below_to HB.out hb)
        clear ho hb hx
        go_wp2_with fail
        clear hbx
        refine (rvWord_any _ _ xs _ z _ (HV.out.below HB2.out) HU.out HG.out HZ.out HIn.out (by have := HLn.out; omega)).mono ?_
        rintro e w3 ⟨rfl, hb3⟩
        have HB3 := hid (below_to HB2.out hb3)
        clear hb3
        go_wp2
        go_ret2
        exact ⟨ret_ib HAn.out.symm HO.out.symm, HB3.out⟩
theorem fall_to {h k t : Nat} (ht : t = h + 1 - k) : mapT (fun j => ((h - j : Nat) : Int)) t = fVac h k := by subst ht; rfl
set_option maxHeartbeats 1600000 in
theorem rvVacuate_any (v : Value) (xs : List Int) (h : Nat) (w : World) (hv : Ints w v xs) (hg : good xs = true) (hh : rkN xs = h + 1) (h9 : h ≤ 9) :
    Calls Tryz.prog 80 #[.agg #[v]] w fun (r : Ending) w' => ∃ q, r = Ending.returned q ∧ OwnI 3 w' w.heap.size q (wVac h) ∧ Below w.heap.size w w' := by
  have HV := hid hv
  have HG := hid hg
  have HF := hid (mapT_succ (fun j => ((h - j : Nat) : Int)))
  have HL := hid (mapT_length (fun j => ((h - j : Nat) : Int)))
  have HE := hid (fun k t => fall_to (h := h) (k := k) (t := t))
  have H0 : Hid (mapT (fun j => ((h - j : Nat) : Int)) 0 = []) := hid rfl
  obtain ⟨F, hF⟩ : ∃ F, mapT (fun j => ((h - j : Nat) : Int)) = F := ⟨_, rfl⟩
  rw [hF] at HF HL HE H0
  have HSw := hid (swL_succ (fVac h))
  have HS0 := hid (swL_zero (fVac h))
  have HLn := hid (fun k (hk : k ≤ 10) => sw_length (fVac h) (n := k) (fun k => fVac_length k h9) hk)
  have HEnd : Hid (swL (fVac h) (h + 1) = wVac h) := hid rfl
  obtain ⟨G, hG⟩ : ∃ G, fVac h = G := ⟨_, rfl⟩
  rw [hG] at HE HSw HS0 HLn HEnd
  clear hv hg hF hG
  go_enter Tryz.func80, Tryz.ntmps80
  have HB := hid (below_alloc (Below.refl _ w) (.cells #[v] 26))
  have A0 := hid (At.newAt w v 26 w.heap.size (by simp))
  go_wp2_with fail
  refine (rvRanks_any _ xs _ (HV.out.below HB.out) HG.out).mono ?_
  rintro e w' ⟨q, rfl, ho, hb⟩
  replace HB := hid (below_to HB.out hb)
  replace A0 := hid (A0.out.below hb)
  clear hb
  obtain ⟨qA, qc, rfl, -⟩ := ho.shape
  rw [rankL_length, hh]
  have hz := HB.out.size
  clear ho hh
  go_wp2
  go_loopw [4, 5] (fun q i wr => ∃ k : Nat, k ≤ h + 1 ∧ i = .int .i64 k ∧ OwnI 3 wr w'.heap.size q (swL G k) ∧ Below w'.heap.size w' wr) (fun _ i _ => h + 1 - (intOf i).toNat)
  case atStart => exact ⟨0, by omega, rfl, by rw [HS0.out]; exact OwnI.nil _ _ _, Below.refl _ _⟩
  case round =>
    obtain ⟨k, hk, rfl, ho, hb⟩ := hrel
    have HO := hid ho
    have HB1 := hid hb
    have hlk := HLn.out k (by omega)
    clear ho hb
    by_cases hlt : k ≤ h
    · obtain ⟨P, hP⟩ : ∃ P, swL G k = P := ⟨_, rfl⟩
      rw [hP] at HO hlk
      have HP := hid hP
      clear hP
      go_wp2
      go_loopw [4, 6] (fun q i wi => ∃ (t : Nat) (x : Int), x + t = h ∧ t ≤ h + 1 - k ∧ i = .int .i64 x ∧ OwnI 3 wi w'.heap.size q (P ++ F t) ∧ Below w'.heap.size w' wi) (fun _ i _ => (intOf i + 1).toNat)
      case atStart => exact ⟨0, h, by omega, by omega, rfl, by rw [H0.out, List.append_nil]; exact HO.out, HB1.out⟩
      case round =>
        obtain ⟨t, x, hx, ht, rfl, ho, hb⟩ := hrel
        have HO2 := hid ho
        have HB2 := hid hb
        have hz2 := hb.size
        by_cases hxk : (k : Int) ≤ x
        · have hl48 : (P ++ F t).length < 1048576 := by rw [List.length_append, HL.out]; omega
          have HS : Hid (F (t + 1) = F t ++ [x]) := hid (by rw [HF.out]; congr 2; omega)
          have HX := hid hx
          have HX2 : Hid (t + 1 ≤ h + 1 - k) := hid (by omega)
          have hx9 : x ≤ 9 := by omega
          clear ho hb hx ht
          go_wp2_with (at_builtin; refine wpList_append_int rfl _ _ 24 3 rfl Tryz.underlying24 Tryz.info3 w'.heap.size _ _ x rfl HO2.out rfl rfl hl48 hz2 ?_; rintro q2 w6 ho6 hb6)
          go_roundw
          case rel => exact ⟨t + 1, x - 1, by have := HX.out; omega, HX2.out, by go_num, (by rw [HS.out, ← List.append_assoc]; exact ho6), HB2.out.trans hb6⟩
          case measure => simp [intOf] <;> omega
        · have HS : Hid (swL G (k + 1) = P ++ F t) := hid (by rw [HSw.out, HP.out, HE.out k t (by omega)])
          clear ho hb hx ht
          go_wp2
          go_roundw
          case rel => exact ⟨k + 1, by omega, by go_num, (by rw [HS.out]; exact HO2.out), HB2.out⟩
          case measure => simp [intOf] <;> omega
    · obtain rfl : k = h + 1 := by omega
      rw [HEnd.out] at HO
      go_wp2
      go_ret
      exact ⟨_, rfl, HO.out.mono hz, below_to HB.out HB1.out⟩
theorem vac_SR (v : Value) (xs : List Int) (h : Nat) (w0 : World) (b : Nat) (W : World) (hv : Ints w0 v xs) (hg : good xs = true) (hh : rkN xs = h + 1) (h9 : h ≤ 9) (hS : SR w0 b v W) :
    Calls Tryz.prog 80 #[.agg #[v]] W fun (r : Ending) w' => ∃ q, r = Ending.returned q ∧ Ints w' q (wVac h) ∧ SR w0 b v w' :=
  (rvVacuate_any v xs h W (hv.below hS.below) hg hh h9).mono fun _ _ ⟨q, h1, h2, h3⟩ => ⟨q, h1, h2.ints, hS.to h3⟩
theorem word_SR (v u : Value) (xs ws : List Int) (w0 : World) (b s : Nat) (W : World) (hv : Ints w0 v xs) (hu : Ints W u ws) (hg : good xs = true) (hS : SR w0 b v W) (hs : s < 2 ^ xs.length) (hw : inW (rkN xs) ws = true) (hm : ws.length ≤ 1048576) :
    Calls Tryz.prog 54 #[.agg #[v], .int .i64 s, u] W fun q w' => q = .returned (.int .i64 (togW xs s (rkW (rankL xs) ws) : Nat)) ∧ SR w0 b v w' :=
  (rvWord_any v u xs ws s W (hv.below hS.below) hu hg hs hw hm).mono fun _ _ ⟨h1, h2⟩ => ⟨h1, hS.to h2⟩
set_option maxHeartbeats 800000 in
theorem specRowvacuation_any (v : Value) (xs : List Int) (s : Int) (w : World) (hv : Ints w v xs) (hl : xs.length ≤ 1048576) (wf : (Lit.int .i64 s).wf = true) :
    Calls Tryz.prog 32 #[.agg #[v], .int .i64 s] w fun r w' => r = .returned (.tuple #[.int .i64 (ansSW wVac xs s), .bool (okRI xs s)]) ∧ Below w.heap.size w w' := by
  have HV := hid hv
  clear hv wf
  go_enter Tryz.func32, Tryz.ntmps32
  have HB := hid (below_alloc (Below.refl _ w) (.cells #[v] 26))
  have A0 := hid (At.newAt w v 26 w.heap.size (by simp))
  go_wp2_with fail
  refine (rvIn_any _ xs s _ (HV.out.below HB.out) hl).mono ?_
  rintro e w' ⟨rfl, hb⟩
  replace HB := hid (below_to HB.out hb)
  replace A0 := hid (A0.out.below hb)
  clear hb
  cases hq : okRI xs s
  · have HO := hid hq
    clear hq
    have ebox0 := A0.out.1
    go_wp2
    go_ret2
    exact ⟨ret_ib (ansSW_no HO.out).symm HO.out.symm, HB.out⟩
  · have HO := hid hq
    obtain ⟨z, rfl, hg, hr, hz, hi⟩ := okRI_all hq
    have HG := hid hg
    have HZ := hid hz
    obtain ⟨h, hh, h9⟩ := rkN_some hg
    have HAn := hid (ansSW_yes (f := wVac) hq hh)
    have HIn : Hid (inW (rkN xs) (wVac h) = true) := hid (inW_wVac (by omega))
    have hln := wVac_length h9
    clear hq hg hr hz hi
    have HV1 := hid (HV.out.below HB.out)
    have HS := hid (show SR w' w.heap.size v w' from ⟨A0.out, Below.refl _ _⟩)
    have hbx := A0.out.1
    have hln2 : (wVac h).length ≤ 1048576 := by omega
    go_wp2_with fail
    go_region_held3 (fun W => W.cell? ⟨w.heap.size, 0, none⟩ = some v ∧ Hid (SR w' w.heap.size v W)) (first | exact ⟨HS3.out.at_.1, HS3⟩ | exact ⟨HS2.out.at_.1, HS2⟩ | exact ⟨HS.out.drew.at_.1, hid HS.out.drew⟩) (first | (go_at_call 80; refine (vac_SR v xs h w' w.heap.size _ HV1.out HG.out hh h9 (Hid.out (by first | assumption | exact hid HS.out.drew))).mono ?_; rintro e' w4 ⟨q4, rfl, hu4, hs4⟩; have HU4 := hid hu4; have HS2 := hid hs4; clear hu4 hs4) | (go_at_call 54; refine (word_SR v _ xs _ w' w.heap.size z _ HV1.out HU4.out HG.out HS2.out HZ.out HIn.out hln2).mono ?_; rintro e' w5 ⟨rfl, hs5⟩; have HS3 := hid hs5; clear hs5))
    have HB3 := hid (below_to HB.out HS3.out.below)
    clear hbx
    go_wp2
    go_ret2
    exact ⟨ret_ib HAn.out.symm HO.out.symm, HB3.out⟩
theorem rise_to {h k t : Nat} (ht : t = h + 1 - k) (hk : k ≤ h) : mapT (fun j => ((j : Nat) : Int)) t = fDual h k := by
  subst ht
  unfold fDual
  rw [rnL_map, show h - k + 1 - 0 = h + 1 - k by omega]
  congr 1
  funext j
  simp
set_option maxHeartbeats 1600000 in
theorem specDualRowvacuation_any (v : Value) (xs : List Int) (s : Int) (w : World) (hv : Ints w v xs) (hl : xs.length ≤ 1048576) (wf : (Lit.int .i64 s).wf = true) :
    Calls Tryz.prog 34 #[.agg #[v], .int .i64 s] w fun r w' => r = .returned (.tuple #[.int .i64 (ansSW wDual xs s), .bool (okRI xs s)]) ∧ Below w.heap.size w w' := by
  have HV := hid hv
  clear hv wf
  go_enter Tryz.func34, Tryz.ntmps34
  have HB := hid (below_alloc (Below.refl _ w) (.cells #[v] 26))
  have A0 := hid (At.newAt w v 26 w.heap.size (by simp))
  go_wp2_with fail
  refine (rvIn_any _ xs s _ (HV.out.below HB.out) hl).mono ?_
  rintro e w' ⟨rfl, hb⟩
  replace HB := hid (below_to HB.out hb)
  replace A0 := hid (A0.out.below hb)
  clear hb
  cases hq : okRI xs s
  · have HO := hid hq
    clear hq
    have ebox0 := A0.out.1
    go_wp2
    go_ret2
    exact ⟨ret_ib (ansSW_no HO.out).symm HO.out.symm, HB.out⟩
  · have HO := hid hq
    obtain ⟨z, rfl, hg, hr, hz, hi⟩ := okRI_all hq
    have HG := hid hg
    have HZ := hid hz
    obtain ⟨h, hh, h9⟩ := rkN_some hg
    have HAn := hid (ansSW_yes (f := wDual) hq hh)
    have HIn : Hid (inW (rkN xs) (wDual h) = true) := hid (inW_wDual (by omega))
    have HWl := hid (wDual_length h9)
    have HF := hid (mapT_succ (fun j => ((j : Nat) : Int)))
    have HL := hid (mapT_length (fun j => ((j : Nat) : Int)))
    have HE := hid (fun k t => rise_to (h := h) (k := k) (t := t))
    have H0 : Hid (mapT (fun j => ((j : Nat) : Int)) 0 = []) := hid rfl
    obtain ⟨F, hF⟩ : ∃ F, mapT (fun j => ((j : Nat) : Int)) = F := ⟨_, rfl⟩
    rw [hF] at HF HL HE H0
    have HSw := hid (swL_succ (fDual h))
    have HS0 := hid (swL_zero (fDual h))
    have HLn := hid (fun k (hk : k ≤ 10) => sw_length (fDual h) (n := k) (fun k => fDual_length k h9) hk)
    have HEnd : Hid (swL (fDual h) (h + 1) = wDual h) := hid rfl
    obtain ⟨G, hG⟩ : ∃ G, fDual h = G := ⟨_, rfl⟩
    rw [hG] at HE HSw HS0 HLn HEnd
    clear hq hg hr hz hi hF hG
    have ebox0 := A0.out.1
    go_wp2_with fail
    clear ebox0
    refine (rvRanks_any _ xs _ (HV.out.below HB.out) HG.out).mono ?_
    rintro e w' ⟨q, rfl, ho, hb⟩
    replace HB := hid (below_to HB.out hb)
    replace A0 := hid (A0.out.below hb)
    clear hb
    obtain ⟨qA, qc, rfl, -⟩ := ho.shape
    rw [rankL_length, hh]
    clear ho hh
    go_wp2
    go_loopw [7, 8] (fun q i wr => ∃ (k : Nat) (x : Int), x + k = h ∧ k ≤ h + 1 ∧ i = .int .i64 x ∧ OwnI 3 wr w'.heap.size q (swL G k) ∧ Below w'.heap.size w' wr) (fun _ i _ => (intOf i + 1).toNat)
    case atStart => exact ⟨0, h, by omega, by omega, rfl, by rw [HS0.out]; exact OwnI.nil _ _ _, Below.refl _ _⟩
    case round =>
      obtain ⟨k, x, hx, hk, rfl, ho, hb⟩ := hrel
      have HO1 := hid ho
      have HB1 := hid hb
      have hlk := HLn.out k (by omega)
      by_cases hlt : 0 ≤ x
      · obtain ⟨P, hP⟩ : ∃ P, swL G k = P := ⟨_, rfl⟩
        rw [hP] at HO1 hlk
        have HP := hid hP
        clear hP ho hb
        obtain ⟨y, rfl⟩ := Int.eq_ofNat_of_zero_le hlt
        have hy : y + k = h := by omega
        clear hx
        go_wp2
        go_loopw [7, 9] (fun q i wi => ∃ t : Nat, t ≤ y + 1 ∧ i = .int .i64 t ∧ OwnI 3 wi w'.heap.size q (P ++ F t) ∧ Below w'.heap.size w' wi) (fun _ i _ => y + 1 - (intOf i).toNat)
        case atStart => exact ⟨0, by omega, rfl, by rw [H0.out, List.append_nil]; exact HO1.out, HB1.out⟩
        case round =>
          obtain ⟨t, ht, rfl, ho, hb⟩ := hrel
          have HO2 := hid ho
          have HB2 := hid hb
          have hz2 := hb.size
          by_cases hty : t ≤ y
          · have hl48 : (P ++ F t).length < 1048576 := by rw [List.length_append, HL.out]; omega
            have HS := hid (HF.out t)
            have HY := hid hy
            have hy9 : y ≤ 9 := by omega
            clear ho hb hy
            go_wp2_with (at_builtin; refine wpList_append_int rfl _ _ 24 3 rfl Tryz.underlying24 Tryz.info3 w'.heap.size _ _ t rfl HO2.out rfl rfl hl48 hz2 ?_; rintro q2 w6 ho6 hb6)
            go_roundw
            case rel => exact ⟨t + 1, by omega, by go_num, (by rw [HS.out, ← List.append_assoc]; exact ho6), HB2.out.trans hb6⟩
            case measure => simp [intOf] <;> omega
          · have HS : Hid (swL G (k + 1) = P ++ F t) := hid (by rw [HSw.out, HP.out, HE.out k t (by omega) (by omega)])
            have HY := hid hy
            have hy9 : y ≤ 9 := by omega
            clear ho hb hy
            go_wp2
            go_roundw
            case rel => exact ⟨k + 1, (y : Int) - 1, by have := HY.out; omega, by have := HY.out; omega, by go_num, (by rw [HS.out]; exact HO2.out), HB2.out⟩
            case measure => simp [intOf] <;> omega
      · obtain rfl : k = h + 1 := by omega
        have HU := hid ho.ints
        rw [HEnd.out] at HU
        have hbx := (A0.out.below hb).1
        have HB2 := hid (below_to HB.out hb)
        clear ho hb hx
        go_wp2_with fail
        clear hbx
        refine (rvWord_any _ _ xs _ z _ (HV.out.below HB2.out) HU.out HG.out HZ.out HIn.out (by have := HWl.out; omega)).mono ?_
        rintro e w3 ⟨rfl, hb3⟩
        have HB3 := hid (below_to HB2.out hb3)
        clear hb3
        go_wp2
        go_ret2
        exact ⟨ret_ib HAn.out.symm HO.out.symm, HB3.out⟩
end Go.Proofs.YtdemikjaghegnaaGreat

/- Ranks in the program: ranks, and the elements of words of ranks. -/
namespace Go.Proofs.YtdemikjaghegnaaGreat
open Go.RowKit Go.WideShapes Go.ChangeShapes
set_option linter.unusedVariables false

theorem sliceMax_any (u : Value) (ls : List Int) (w : World) (hu : Ints w u ls) (h0 : 1 ≤ ls.length) (h10 : ls.length ≤ 10) (hn : ∀ e, ls.getD e 0 = ((ls.getD e 0).toNat : Int) ∧ (ls.getD e 0).toNat ≤ e) :
    Calls Tryz.prog 56 #[u] w fun r w' => ∃ h : Nat, r = .returned (.int .i64 h) ∧ h + 1 = rkM ls ls.length ∧ h ≤ 9 ∧ w = w' := by
  have HN := hid hn
  have HML := hid (fun k => rkM_le (fun e => (hn e).2) k)
  obtain ⟨A, c, rfl, hA⟩ := hu
  obtain ⟨b, o, rfl, hbl, hc⟩ := hA (by intro h; simp [h] at h0)
  have HC := hid hc
  have hc0 : w.cell? ⟨b, o, none⟩ = some (.int .i64 (ls.getD 0 0)) := by have := hc 0 (by omega); simpa using this
  obtain ⟨hn0, hn1⟩ := hn 0
  obtain ⟨x, hx⟩ : ∃ x, (ls.getD 0 0).toNat = x := ⟨_, rfl⟩
  rw [hx] at hn0 hn1
  rw [hn0] at hc0
  have HX := hid hx
  clear hn hA hc hn0 hx
  go_enter Tryz.func56, Tryz.ntmps56
  go_wp2
  go_loop [3, 4] (fun q i => ∃ k m : Nat, 1 ≤ k ∧ k ≤ ls.length ∧ i = .int .i64 k ∧ q = .int .i64 m ∧ Hid (m + 1 = rkM ls k)) (fun _ i => ls.length - (intOf i).toNat)
  case atStart => exact ⟨1, x, Nat.le_refl _, h0, rfl, rfl, hid (by show x + 1 = max (rkM ls 0) ((ls.getD 0 0).toNat + 1); rw [HX.out]; show _ = max 0 (x + 1); omega)⟩
  case round =>
    obtain ⟨k, m, hk1, hk, rfl, rfl, HM⟩ := hrel
    by_cases hlt : k < ls.length
    · have hcell := HC.out k hlt
      obtain ⟨hn1, hn2⟩ := HN.out k
      have HMd : Hid (rkM ls (k + 1) = max (rkM ls k) ((ls.getD k 0).toNat + 1)) := hid rfl
      obtain ⟨y, hy⟩ : ∃ y, (ls.getD k 0).toNat = y := ⟨_, rfl⟩
      rw [hy] at hn1 hn2 HMd
      rw [hn1] at hcell
      clear hy hn1
      by_cases hmy : (m : Int) < (y : Int)
      · have HNx : Hid (y + 1 = rkM ls (k + 1)) := hid (by rw [HMd.out, ← HM.out]; omega)
        go_wp2
        go_round
        case rel => exact ⟨k + 1, y, by omega, by omega, by go_num, by simp [hmy], HNx⟩
        case measure => simp [intOf]; omega
      · have HNx : Hid (m + 1 = rkM ls (k + 1)) := hid (by rw [HMd.out, ← HM.out]; omega)
        go_wp2
        go_round
        case rel => exact ⟨k + 1, m, by omega, by omega, by go_num, by simp [hmy], HNx⟩
        case measure => simp [intOf]; omega
    · obtain rfl : k = ls.length := by omega
      have hb := HML.out ls.length
      have he := HM.out
      have h9 : m ≤ 9 := by omega
      clear hb he
      go_wp2
      go_ret
      exact ⟨m, rfl, HM.out, h9, rfl⟩
def ansRO (xs : List Int) : List Int := if okRk xs then rankL xs else []
theorem ansRO_no {xs : List Int} (h : okRk xs = false) : ansRO xs = [] := by simp [ansRO, h]
theorem ansRO_yes {xs : List Int} (h : okRk xs = true) : ansRO xs = rankL xs := by simp [ansRO, h]
theorem ansRO_length (xs : List Int) : (ansRO xs).length ≤ 10 := by
  cases h : okRk xs
  · rw [ansRO_no h]; simp
  · have h1 := rkN_bounds (okRk_good h).1
    have h2 := good_length (okRk_good h).1
    rw [ansRO_yes h, rankL_length]; omega
theorem ret_vbR {u : Value} {a b : Bool} (h : a = b) : Ending.returned (.tuple #[u, .bool a]) = .returned (.tuple #[u, .bool b]) := by rw [h]
set_option maxHeartbeats 1600000 in
theorem implRanksOf_any (v : Value) (xs : List Int) (w : World) (hv : Ints w v xs) (hl : xs.length ≤ 1048576) :
    Calls Tryz.prog 10 #[.agg #[v]] w fun (r : Ending) w' => ∃ q, r = Ending.returned (.tuple #[q, .bool (okRk xs)]) ∧ OwnI 3 w' w.heap.size q (ansRO xs) ∧ (ansRO xs).length ≤ 1048576 ∧ Below w.heap.size w w' := by
  have HV := hid hv
  have HL : Hid ((ansRO xs).length ≤ 1048576) := hid (by have := ansRO_length xs; omega)
  clear hv
  go_enter Tryz.func10, Tryz.ntmps10
  have HB := hid (below_alloc (Below.refl _ w) (.cells #[v] 26))
  have A0 := hid (At.newAt w v 26 w.heap.size (by simp))
  go_wp2_with fail
  refine (implIsRanked_any _ xs _ (HV.out.below HB.out) hl).mono ?_
  rintro e w' ⟨rfl, hb⟩
  replace HB := hid (below_to HB.out hb)
  replace A0 := hid (A0.out.below hb)
  clear hb
  have HAn : Hid (ansIR xs = okRk xs) := hid rfl
  rw [HAn.out]
  cases hq : okRk xs
  · have HQ := hid hq
    clear hq
    have ebox0 := A0.out.1
    go_wp2
    go_ret2
    exact ⟨_, ret_vbR HQ.out.symm, by rw [ansRO_no HQ.out]; exact OwnI.nil _ _ _, HL.out, HB.out⟩
  · have HQ := hid hq
    have HG := hid (okRk_good hq).1
    have hln := good_length HG.out
    clear hq
    have ebox0 := A0.out.1
    go_wp2_with fail
    clear ebox0
    refine (implHeightsOf_any _ xs _ (HV.out.below HB.out) hl).mono ?_
    rintro e w' ⟨u, rfl, ho, hlh, hb⟩
    replace HB := hid (below_to HB.out hb)
    replace A0 := hid (A0.out.below hb)
    clear hb
    have hz := HB.out.size
    have HI := hid ho.ints
    have hlen := heights_len HG.out
    have HN := hid (heights_nat HG.out)
    have HEnd : Hid (rankL xs = rkQ (heightsL xs) xs.length (rkM (heightsL xs) xs.length)) := hid rfl
    obtain ⟨ls, hls⟩ : ∃ ls, heightsL xs = ls := ⟨_, rfl⟩
    rw [hls] at HI HN HEnd hlen
    obtain ⟨A, c, rfl, hA⟩ := HI.out
    have HA := hid hA
    rw [← hlen] at HEnd hln
    clear ho hA hls hlen hlh
    rw [HG.out]
    go_wp2_with fail
    refine (sliceMax_any _ ls _ HI.out hln.1 hln.2 HN.out).mono ?_
    rintro e w2 ⟨h, rfl, hM, h9, rfl⟩
    have HM := hid hM
    have hmk := run_make_row' (P := Tryz.prog) 24 3 (.int .i64 0) 8 Tryz.underlying24 Tryz.info3 rfl .i64 .i64 (h + 1) (by omega) (by omega)
    rw [Int.natCast_add] at hmk
    simp only [Int.cast_ofNat_Int] at hmk
    clear hM HI
    go_wp2
    clear hmk
    rw [Vals_made]
    go_loopw [29] (fun i wr => ∃ k : Nat, k ≤ ls.length ∧ i = .int .i64 k ∧ Blk wr w'.heap.size 3 (Vals (rkQ ls k (h + 1))) ∧ Below w'.heap.size w' wr) (fun i _ => ls.length - (intOf i).toNat)
    case atStart => exact ⟨0, Nat.zero_le _, rfl, by rw [rkQ_zero]; exact Blk.new _ _ _, (Below.refl _ _).alloc (Nat.le_refl _) _⟩
    case round =>
      obtain ⟨k, hk, rfl, hB, hb⟩ := hrel
      have HBk := hid hB
      have HBb := hid hb
      by_cases hlt : k < ls.length
      · obtain ⟨b, o, rfl, hbl, hc⟩ := HA.out (by intro h; simp [h] at hlt)
        have hcell : wr.cell? ⟨b, o + k, none⟩ = some (.int .i64 (ls.getD k 0)) := (hb.cell (p := ⟨b, o + k, none⟩) hbl).trans (hc k hlt)
        obtain ⟨hn1, hn2⟩ := HN.out k
        have hMl := rkM_lt ls hlt
        obtain ⟨x, hx⟩ : ∃ x, (ls.getD k 0).toNat = x := ⟨_, rfl⟩
        rw [hx] at hn1 hn2 hMl
        rw [hn1] at hcell
        rw [← HM.out] at hMl
        have HSet := hid (rkQ_set ls (k := k) (m := h + 1) (i := x) hx hMl)
        have t1 : wr.cell? ⟨w'.heap.size, x, none⟩ = some (.int .i64 (rkE ls k x : Nat)) := by rw [HBk.out.cell, Vals_get (by rw [rkQ_length]; exact hMl), rkQ_get ls k hMl]
        have t2 := HBk.out.frozen x
        have hE := rkE_lt ls (Nat.le_refl k) x
        have hp9 := pow_lt10 k (by omega)
        obtain ⟨E, hEq⟩ : ∃ E, rkE ls k x = E := ⟨_, rfl⟩
        rw [hEq] at t1 hE HSet
        have wp := wrap_pow' k (by omega)
        have hor := or_pow E k (by omega) (by omega)
        have hhm : (x : Int) < (h : Int) + 1 := by omega
        clear hEq hE hp9 hc hx hn1 hB hb hMl
        go_wp2
        go_region
        go_wp2
        go_roundw
        case rel => exact ⟨k + 1, by omega, by go_num, (by rw [← HSet.out, ← Vals_set]; exact HBk.out.set_ x _), (HBb.out.setCell (p := ⟨w'.heap.size, x, none⟩) (Nat.le_refl _) _).drew⟩
        case measure => simp [intOf]; omega
      · obtain rfl : k = ls.length := by omega
        have HOw := hid (HBk.out.own (xs := rkQ ls ls.length (h + 1)) (B := w.heap.size) hz (by rw [rkQ_length]; omega))
        rw [rkQ_length] at HOw
        clear hB hb
        go_wp2
        go_ret2
        exact ⟨_, ret_vbR HQ.out.symm, (by rw [ansRO_yes HQ.out, HEnd.out, ← HM.out]; exact HOw.out), HL.out, below_to HB.out HBb.out⟩
set_option maxHeartbeats 1600000 in
theorem togglesAt_any (v u : Value) (rs ws : List Int) (w : World) (hv : Ints w v rs) (hu : Ints w u ws) (hw : inW rs.length ws = true) (hm : ws.length ≤ 100) (hr10 : rs.length ≤ 10) (hr : ∀ i, i < rs.length → ∃ r : Nat, rs.getD i 0 = (r : Int) ∧ r < 1024) :
    Calls Tryz.prog 65 #[v, u] w fun (r : Ending) w' => ∃ q, r = Ending.returned q ∧ OwnI 3 w' w.heap.size q (rkW rs ws) ∧ Below w.heap.size w w' := by
  have HW := hid hw
  have HR := hid hr
  have HRl := hid (fun k => rkW_length rs (ws.take k))
  obtain ⟨A, c, rfl, hA⟩ := hv
  obtain ⟨A2, c2, rfl, hA2⟩ := hu
  have HA := hid hA
  have HA2 := hid hA2
  clear hw hr hA hA2
  go_enter Tryz.func65, Tryz.ntmps65
  go_wp2
  go_loopw [5, 11] (fun q i wr => ∃ k : Nat, k ≤ ws.length ∧ i = .int .i64 k ∧ OwnI 3 wr w.heap.size q (rkW rs (ws.take k)) ∧ Below w.heap.size w wr) (fun _ i _ => ws.length - (intOf i).toNat)
  case atStart => exact ⟨0, Nat.zero_le _, rfl, OwnI.nil _ _ _, Below.refl _ _⟩
  case round =>
    obtain ⟨k, hk, rfl, ho, hb⟩ := hrel
    have HO := hid ho
    have HB1 := hid hb
    by_cases hlt : k < ws.length
    · obtain ⟨b, o, rfl, hbl, hc⟩ := HA2.out (by intro h; simp [h] at hlt)
      have hcell : wr.cell? ⟨b, o + k, none⟩ = some (.int .i64 (ws.getD k 0)) := (hb.cell (p := ⟨b, o + k, none⟩) hbl).trans (hc k hlt)
      have hin := inW_at HW.out hlt
      have HTk := hid (rkW_take rs ws hlt)
      have hlk := HRl.out k
      rw [List.length_take] at hlk
      obtain ⟨x, hx⟩ : ∃ x, ws.getD k 0 = x := ⟨_, rfl⟩
      rw [hx] at hcell hin HTk
      obtain ⟨i, rfl⟩ := Int.eq_ofNat_of_zero_le hin.1
      have hi1 : i < rs.length := by omega
      obtain ⟨r, hr1, hr2⟩ := HR.out i hi1
      rw [Int.toNat_natCast, hr1, Int.toNat_natCast] at HTk
      obtain ⟨b2, o2, rfl, hbl2, hc2⟩ := HA.out (by intro h; simp [h] at hi1)
      have hcr : w.cell? ⟨b2, o2 + i, none⟩ = some (.int .i64 r) := by rw [hc2 i hi1, hr1]
      have HCr := hid hcr
      have hix : (i : Int) < rs.length := by omega
      obtain ⟨P, hP⟩ : ∃ P, rkW rs (ws.take k) = P := ⟨_, rfl⟩
      rw [hP] at HO HTk hlk
      have hP2 : P.length ≤ 1000 := by omega
      clear hc hc2 hx ho hb hin hr1 hP hcr hlk
      go_wp2
      go_loopw [5, 15] (fun q j wi => ∃ t : Nat, t ≤ 10 ∧ j = .int .i64 t ∧ OwnI 3 wi w.heap.size q (P ++ elL t r) ∧ Below w.heap.size w wi) (fun _ j _ => 10 - (intOf j).toNat)
      case atStart => exact ⟨0, Nat.zero_le _, rfl, (by rw [elL_zero, List.append_nil]; exact HO.out), HB1.out⟩
      case round =>
        obtain ⟨t, ht, rfl, ho, hb⟩ := hrel
        have HO2 := hid ho
        have HB2 := hid hb
        have hz2 := hb.size
        have hcr : wr.cell? ⟨b2, o2 + i, none⟩ = some (.int .i64 r) := (hb.cell (p := ⟨b2, o2 + i, none⟩) hbl2).trans HCr.out
        clear ho hb
        by_cases ht10 : t < 10
        · cases hbit : r.testBit t
          · have HBit := hid hbit
            clear hbit
            go_wp2_with (go_at_call 58; refine (hasElement_any r t (by omega) (by omega) _).mono ?_; rw [HBit.out]; rintro e w' ⟨rfl, rfl⟩)
            go_roundw
            case rel => exact ⟨t + 1, by omega, by go_num, (by rw [elL_no HBit.out]; exact HO2.out), HB2.out⟩
            case measure => simp [intOf]; omega
          · have HBit := hid hbit
            have hl48 : (P ++ elL t r).length < 1048576 := by rw [List.length_append]; have := elL_length t r; omega
            clear hbit
            go_wp2_with (first
              | (go_at_call 58; refine (hasElement_any r t (by omega) (by omega) _).mono ?_; rw [HBit.out]; rintro e w' ⟨rfl, rfl⟩)
              | (at_builtin; refine wpList_append_int rfl _ _ 62 3 rfl Tryz.underlying62 Tryz.info3 w.heap.size _ _ t rfl HO2.out rfl rfl hl48 hz2 ?_; rintro q2 w6 ho6 hb6))
            go_roundw
            case rel => exact ⟨t + 1, by omega, by go_num, (by rw [elL_yes HBit.out, ← List.append_assoc]; exact ho6), HB2.out.trans hb6⟩
            case measure => simp [intOf]; omega
        · obtain rfl : t = 10 := by omega
          go_wp2
          go_roundw
          case rel => exact ⟨k + 1, by omega, by go_num, (by rw [HTk.out]; exact HO2.out), HB2.out⟩
          case measure => simp [intOf]; omega
    · obtain rfl : k = ws.length := by omega
      clear ho hb
      rw [List.take_length] at HO
      go_wp2
      go_ret
      exact ⟨_, rfl, HO.out, HB1.out⟩
end Go.Proofs.YtdemikjaghegnaaGreat
