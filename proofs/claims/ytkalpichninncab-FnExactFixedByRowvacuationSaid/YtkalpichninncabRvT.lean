/- Words of ranks in the model. -/
import Derived.Test.YtkalpichninncabRvS
import Derived.Test.YtkalpichninncabTg3
import Derived.Deep.RegionHeld3
namespace Go.Proofs.Ytkalpichninncab
open Go.RowKit Go.WideShapes Go.ChangeShapes
set_option linter.unusedVariables false

theorem rank_facts {xs : List Int} (hg : good xs = true) {i : Nat} (hi : i < rkN xs) : ∃ r : Nat, (rankL xs).getD i 0 = (r : Int) ∧ r < 2 ^ xs.length ∧ r < 1024 ∧ elL 10 ((rankL xs).getD i 0).toNat = elL xs.length r := by
  have h1 := rkE_lt (heightsL xs) (Nat.le_refl xs.length) i
  refine ⟨_, rankL_get hi, h1, lt1024 h1 (good_length hg).2, ?_⟩
  rw [rankL_get hi, Int.toNat_natCast]
  exact elL_ten h1 (good_length hg).2
structure SR (w : World) (b : Nat) (v : Value) (W : World) : Prop where
  at_ : At W b v
  below : Below w.heap.size w W
theorem SR.drew {w : World} {b : Nat} {v : Value} {W : World} (h : SR w b v W) : SR w b v W.drew := ⟨h.at_.drew, h.below.drew⟩
theorem SR.to {w : World} {b : Nat} {v : Value} {W W' : World} (h : SR w b v W) (hb : Below W.heap.size W W') : SR w b v W' := ⟨h.at_.below hb, below_to h.below hb⟩
theorem rvAt_SR (v : Value) (xs : List Int) (w0 : World) (b s r : Nat) (W : World) (hv : Ints w0 v xs) (hg : good xs = true) (hS : SR w0 b v W) (hs : s < 2 ^ xs.length) (hr : r < 1024) :
    Calls Try.prog 64 #[.agg #[v], .int .i64 s, .int .i64 r] W fun q w' => q = .returned (.int .i64 (togW xs s (elL xs.length r) : Nat)) ∧ SR w0 b v w' :=
  (rvAt_any v xs s r W (hv.below hS.below) hg hs hr).mono fun _ _ ⟨h1, h2⟩ => ⟨h1, hS.to h2⟩
set_option maxHeartbeats 1600000 in
theorem rvWord_any (v u : Value) (xs ws : List Int) (s : Nat) (w : World) (hv : Ints w v xs) (hu : Ints w u ws) (hg : good xs = true) (hs : s < 2 ^ xs.length) (hw : inW (rkN xs) ws = true) (hm : ws.length ≤ 1048576) :
    Calls Try.prog 36 #[.agg #[v], .int .i64 s, u] w fun q w' => q = .returned (.int .i64 (togW xs s (rkW (rankL xs) ws) : Nat)) ∧ Below w.heap.size w w' := by
  have HV := hid hv
  have HU := hid hu
  have HG := hid hg
  have HN := hid hs
  have HW := hid hw
  have hr10 : rkN xs ≤ 10 := by have := rkN_bounds hg; have := good_length hg; omega
  have HLt := hid (fun k => togW_lt (xs := xs) hs (inW_rkW hg (inW_take k hw)))
  have HF := hid (fun i (hi : i < rkN xs) => rank_facts hg hi)
  obtain ⟨uA, uc, rfl, -⟩ := hu
  clear hv hg hs hw
  go_enter Try.func36, Try.ntmps36
  have HB := hid (below_alloc (Below.refl _ w) (.cells #[v] 28))
  have A0 := hid (At.newAt w v 28 w.heap.size (by simp))
  go_wp2_with fail
  refine (rvRanks_any _ xs _ (HV.out.below HB.out) HG.out).mono ?_
  rintro e w' ⟨q, rfl, ho, hb⟩
  replace HB := hid (below_to HB.out hb)
  replace A0 := hid (A0.out.below hb)
  clear hb
  have HI := hid ho.ints
  obtain ⟨qA, qc, rfl, hqA⟩ := HI.out
  rw [rankL_length] at hqA ⊢
  have HQ := hid hqA
  have HV1 := hid (HV.out.below HB.out)
  have HU1 := hid (HU.out.below HB.out)
  obtain ⟨_, _, he, hUA⟩ := HU1.out
  cases he
  have HUA := hid hUA
  have HS0 := hid (show SR w' w.heap.size v w' from ⟨A0.out, Below.refl _ _⟩)
  have hz := HB.out.size
  clear ho HI hqA hUA
  go_wp2
  go_loopw [1, 14] (fun q i wr => ∃ k t : Nat, k ≤ ws.length ∧ i = .int .i64 k ∧ q = .int .i64 t ∧ Hid (togW xs s (rkW (rankL xs) (ws.take k)) = t) ∧ SR w' w.heap.size v wr) (fun _ i _ => ws.length - (intOf i).toNat)
  case atStart => exact ⟨0, s, Nat.zero_le _, rfl, rfl, hid rfl, HS0.out⟩
  case round =>
    obtain ⟨k, t, hk, rfl, rfl, HT, hS⟩ := hrel
    have HS := hid hS
    by_cases hlt : k < ws.length
    · obtain ⟨b, o, rfl, hbl, hc⟩ := HUA.out (by intro h; simp [h] at hlt)
      have hcell : wr.cell? ⟨b, o + k, none⟩ = some (.int .i64 (ws.getD k 0)) := (hS.below.cell (p := ⟨b, o + k, none⟩) hbl).trans (hc k hlt)
      have hin := inW_at HW.out hlt
      have HTk := hid (rkW_take (rankL xs) ws hlt)
      obtain ⟨x, hx⟩ : ∃ x, ws.getD k 0 = x := ⟨_, rfl⟩
      rw [hx] at hcell hin HTk
      obtain ⟨i, rfl⟩ := Int.eq_ofNat_of_zero_le hin.1
      have hi1 : i < rkN xs := by omega
      obtain ⟨r, hr1, hr2, hr3, hr4⟩ := HF.out i hi1
      rw [Int.toNat_natCast, hr4] at HTk
      have hne : rankL xs ≠ [] := by intro h; have := rankL_length xs; rw [h] at this; simp at this; omega
      obtain ⟨b2, o2, rfl, hbl2, hc2⟩ := HQ.out hne
      have HC2 : Hid (∀ W : World, SR w' w.heap.size v W → W.cell? ⟨b2, o2 + i, none⟩ = some (.int .i64 r)) := hid (fun W h => by rw [(h.below.cell (p := ⟨b2, o2 + i, none⟩) hbl2).trans (hc2 i hi1), hr1])
      have hcr := HC2.out _ hS
      have HL := hid (show t < 2 ^ xs.length by rw [← HT.out]; exact HLt.out k)
      have hbox := hS.at_.1
      have hix : (i : Int) < rkN xs := by omega
      clear hc hc2 hx hS hin hr1 hr2 hr4 hne hbl hbl2
      go_wp2_with fail
      go_region_held3 (fun W => W.cell? ⟨w.heap.size, 0, none⟩ = some v ∧ W.cell? ⟨b2, o2 + i, none⟩ = some (.int .i64 r) ∧ Hid (SR w' w.heap.size v W)) (first | exact ⟨HS.out.drew.at_.1, hcr, hid HS.out.drew⟩ | exact ⟨HS2.out.at_.1, HC2.out _ HS2.out, HS2⟩) (first | (go_at_call 64; refine (rvAt_SR v xs w' w.heap.size _ _ _ HV1.out HG.out (Hid.out (by first | assumption | exact hid HS.out.drew)) HL.out hr3).mono ?_; rintro e' w4 ⟨rfl, hs4⟩; have HS2 := hid hs4; clear hs4))
      go_wp2
      go_roundw
      case rel => exact ⟨k + 1, _, by omega, by go_num, rfl, hid (by rw [HTk.out, togW_app, HT.out]), HS2.out⟩
      case measure => simp [intOf]; omega
    · obtain rfl : k = ws.length := by omega
      clear hS
      go_wp2
      go_ret
      exact ⟨ret_int (by rw [← HT.out, List.take_length]), below_to HB.out HS.out.below⟩
/-! ### ToggleRank, ToggleRanks -/
def okTR (xs ws : List Int) (s : Int) : Bool := okRI xs s && (decide (ws.length ≤ 40) && inW (rkN xs) ws)
def ansTR (xs ws : List Int) (s : Int) : Int := if okTR xs ws s then (togW xs s.toNat (rkW (rankL xs) ws) : Int) else 0
theorem okTR_no1 {xs ws : List Int} {s : Int} (h : okRI xs s = false) : okTR xs ws s = false := by simp [okTR, h]
theorem okTR_no2 {xs ws : List Int} {s : Int} (h : ¬ ws.length ≤ 40) : okTR xs ws s = false := by simp [okTR, h]
theorem okTR_no3 {xs ws : List Int} {s : Int} (h : inW (rkN xs) ws = false) : okTR xs ws s = false := by simp [okTR, h]
theorem okTR_yes {xs ws : List Int} {s : Int} (h : okRI xs s = true) (h2 : ws.length ≤ 40) (h3 : inW (rkN xs) ws = true) : okTR xs ws s = true := by simp [okTR, h, h2, h3]
theorem ansTR_no {xs ws : List Int} {s : Int} (h : okTR xs ws s = false) : ansTR xs ws s = 0 := by simp [ansTR, h]
theorem ansTR_yes {xs ws : List Int} {z : Nat} (h : okTR xs ws z = true) : ansTR xs ws z = (togW xs z (rkW (rankL xs) ws) : Int) := by simp [ansTR, h]
end Go.Proofs.Ytkalpichninncab
