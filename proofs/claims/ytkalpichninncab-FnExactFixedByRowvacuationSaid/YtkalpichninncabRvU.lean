/- Rowmotion by ranks, rowvacuation, gyration in the model. -/
import Derived.Test.YtkalpichninncabRvT
import Derived.Test.YtkalpichninncabRvG
namespace Go.Proofs.Ytkalpichninncab
open Go.RowKit Go.WideShapes Go.ChangeShapes
set_option linter.unusedVariables false

/-- the ideal behind the sweeps of f -/
def ansSW (f : Nat → List Int) (xs : List Int) (s : Int) : Int := if okRI xs s then (togW xs s.toNat (rkW (rankL xs) (f (rkN xs - 1))) : Int) else 0
theorem ansSW_no {f : Nat → List Int} {xs : List Int} {s : Int} (h : okRI xs s = false) : ansSW f xs s = 0 := by simp [ansSW, h]
theorem ansSW_yes {f : Nat → List Int} {xs : List Int} {z h : Nat} (hk : okRI xs z = true) (hh : rkN xs = h + 1) : ansSW f xs z = (togW xs z (rkW (rankL xs) (f h)) : Int) := by unfold ansSW; rw [if_pos hk, hh]; rfl
theorem rkN_some {xs : List Int} (hg : good xs = true) : ∃ h, rkN xs = h + 1 ∧ h ≤ 9 := by
  have h1 := rkN_bounds hg
  have h2 := good_length hg
  exact ⟨rkN xs - 1, by omega, by omega⟩
theorem fall_done {h k : Nat} (hk : k = h + 1) : mapT (fun j => ((h - j : Nat) : Int)) k = wRow h := by subst hk; rw [wRow_eq]; rfl
theorem fall_to {h k t : Nat} (ht : t = h + 1 - k) : mapT (fun j => ((h - j : Nat) : Int)) t = fVac h k := by subst ht; rfl
set_option maxHeartbeats 1600000 in
theorem rvVacuate_any (v : Value) (xs : List Int) (h : Nat) (w : World) (hv : Ints w v xs) (hg : good xs = true) (hh : rkN xs = h + 1) (h9 : h ≤ 9) :
    Calls Try.prog 30 #[.agg #[v]] w fun (r : Ending) w' => ∃ q, r = Ending.returned q ∧ OwnI 3 w' w.heap.size q (wVac h) ∧ Below w.heap.size w w' := by
  have HV := hid hv
  have HG := hid hg
  have HF := hid (mapT_succ (fun j => ((h - j : Nat) : Int)))
  have HL := hid (mapT_length (fun j => ((h - j : Nat) : Int)))
  have HE := hid (fun k t => fall_to (h := h) (k := k) (t := t))
  have H0 : Hid (mapT (fun j => ((h - j : Nat) : Int)) 0 = []) := hid rfl
  obtain ⟨F, hF⟩ : ∃ F, mapT (fun j => ((h - j : Nat) : Int)) = F := ⟨_, rfl⟩
  rw [hF] at HF HL HE H0
  have HSw := hid (swL_succ (fVac h))
  have HS0 := hid (swL_zero (fVac h))
  have HLn := hid (fun k (hk : k ≤ 10) => sw_length (fVac h) (n := k) (fun k => fVac_length k h9) hk)
  have HEnd : Hid (swL (fVac h) (h + 1) = wVac h) := hid rfl
  obtain ⟨G, hG⟩ : ∃ G, fVac h = G := ⟨_, rfl⟩
  rw [hG] at HE HSw HS0 HLn HEnd
  clear hv hg hF hG
  go_enter Try.func30, Try.ntmps30
  have HB := hid (below_alloc (Below.refl _ w) (.cells #[v] 28))
  have A0 := hid (At.newAt w v 28 w.heap.size (by simp))
  go_wp2_with fail
  refine (rvRanks_any _ xs _ (HV.out.below HB.out) HG.out).mono ?_
  rintro e w' ⟨q, rfl, ho, hb⟩
  replace HB := hid (below_to HB.out hb)
  replace A0 := hid (A0.out.below hb)
  clear hb
  obtain ⟨qA, qc, rfl, -⟩ := ho.shape
  rw [rankL_length, hh]
  have hz := HB.out.size
  clear ho hh
  go_wp2
  go_loopw [4, 5] (fun q i wr => ∃ k : Nat, k ≤ h + 1 ∧ i = .int .i64 k ∧ OwnI 3 wr w'.heap.size q (swL G k) ∧ Below w'.heap.size w' wr) (fun _ i _ => h + 1 - (intOf i).toNat)
  case atStart => exact ⟨0, by omega, rfl, by rw [HS0.out]; exact OwnI.nil _ _ _, Below.refl _ _⟩
  case round =>
    obtain ⟨k, hk, rfl, ho, hb⟩ := hrel
    have HO := hid ho
    have HB1 := hid hb
    have hlk := HLn.out k (by omega)
    clear ho hb
    by_cases hlt : k ≤ h
    · obtain ⟨P, hP⟩ : ∃ P, swL G k = P := ⟨_, rfl⟩
      rw [hP] at HO hlk
      have HP := hid hP
      clear hP
      go_wp2
      go_loopw [4, 6] (fun q i wi => ∃ (t : Nat) (x : Int), x + t = h ∧ t ≤ h + 1 - k ∧ i = .int .i64 x ∧ OwnI 3 wi w'.heap.size q (P ++ F t) ∧ Below w'.heap.size w' wi) (fun _ i _ => (intOf i + 1).toNat)
      case atStart => exact ⟨0, h, by omega, by omega, rfl, by rw [H0.out, List.append_nil]; exact HO.out, HB1.out⟩
      case round =>
        obtain ⟨t, x, hx, ht, rfl, ho, hb⟩ := hrel
        have HO2 := hid ho
        have HB2 := hid hb
        have hz2 := hb.size
        by_cases hxk : (k : Int) ≤ x
        · have hl48 : (P ++ F t).length < 1048576 := by rw [List.length_append, HL.out]; omega
          have HS : Hid (F (t + 1) = F t ++ [x]) := hid (by rw [HF.out]; congr 2; omega)
          have HX := hid hx
          have HX2 : Hid (t + 1 ≤ h + 1 - k) := hid (by omega)
          have hx9 : x ≤ 9 := by omega
          clear ho hb hx ht
          go_wp2_with (at_builtin; refine wpList_append_int rfl _ _ 22 3 rfl Try.underlying22 Try.info3 w'.heap.size _ _ x rfl HO2.out rfl rfl hl48 hz2 ?_; rintro q2 w6 ho6 hb6)
          go_roundw
          case rel => exact ⟨t + 1, x - 1, by have := HX.out; omega, HX2.out, by go_num, (by rw [HS.out, ← List.append_assoc]; exact ho6), HB2.out.trans hb6⟩
          case measure => simp [intOf] <;> omega
        · have HS : Hid (swL G (k + 1) = P ++ F t) := hid (by rw [HSw.out, HP.out, HE.out k t (by omega)])
          clear ho hb hx ht
          go_wp2
          go_roundw
          case rel => exact ⟨k + 1, by omega, by go_num, (by rw [HS.out]; exact HO2.out), HB2.out⟩
          case measure => simp [intOf] <;> omega
    · obtain rfl : k = h + 1 := by omega
      rw [HEnd.out] at HO
      go_wp2
      go_ret
      exact ⟨_, rfl, HO.out.mono hz, below_to HB.out HB1.out⟩
theorem vac_SR (v : Value) (xs : List Int) (h : Nat) (w0 : World) (b : Nat) (W : World) (hv : Ints w0 v xs) (hg : good xs = true) (hh : rkN xs = h + 1) (h9 : h ≤ 9) (hS : SR w0 b v W) :
    Calls Try.prog 30 #[.agg #[v]] W fun (r : Ending) w' => ∃ q, r = Ending.returned q ∧ Ints w' q (wVac h) ∧ SR w0 b v w' :=
  (rvVacuate_any v xs h W (hv.below hS.below) hg hh h9).mono fun _ _ ⟨q, h1, h2, h3⟩ => ⟨q, h1, h2.ints, hS.to h3⟩
theorem word_SR (v u : Value) (xs ws : List Int) (w0 : World) (b s : Nat) (W : World) (hv : Ints w0 v xs) (hu : Ints W u ws) (hg : good xs = true) (hS : SR w0 b v W) (hs : s < 2 ^ xs.length) (hw : inW (rkN xs) ws = true) (hm : ws.length ≤ 1048576) :
    Calls Try.prog 36 #[.agg #[v], .int .i64 s, u] W fun q w' => q = .returned (.int .i64 (togW xs s (rkW (rankL xs) ws) : Nat)) ∧ SR w0 b v w' :=
  (rvWord_any v u xs ws s W (hv.below hS.below) hu hg hs hw hm).mono fun _ _ ⟨h1, h2⟩ => ⟨h1, hS.to h2⟩
theorem rise_to {h k t : Nat} (ht : t = h + 1 - k) (hk : k ≤ h) : mapT (fun j => ((j : Nat) : Int)) t = fDual h k := by
  subst ht
  unfold fDual
  rw [rnL_map, show h - k + 1 - 0 = h + 1 - k by omega]
  congr 1
  funext j
  simp
end Go.Proofs.Ytkalpichninncab
