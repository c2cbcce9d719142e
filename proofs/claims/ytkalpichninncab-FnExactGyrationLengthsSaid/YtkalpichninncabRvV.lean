/- Ranks, one rank, gyration in the model. -/
import Derived.Test.YtkalpichninncabRvU
import Derived.Test.YtkalpichninncabRvI
namespace Go.Proofs.Ytkalpichninncab
open Go.RowKit Go.WideShapes Go.ChangeShapes
set_option linter.unusedVariables false

theorem okTR_one (xs : List Int) (s i : Int) : okTR xs [i] s = (okRI xs s && (decide (0 ≤ i) && decide (i < rkN xs))) := by simp [okTR, inW]
set_option maxHeartbeats 3200000 in
theorem rvGyrate_any (v : Value) (xs : List Int) (s : Nat) (bk : Bool) (w : World) (hv : Ints w v xs) (hg : good xs = true) (hs : s < 2 ^ xs.length) :
    Calls Try.prog 41 #[.agg #[v], .int .i64 s, .bool bk] w fun r w' => r = .returned (.int .i64 ((if bk then gyB xs s else gyF xs s : Nat))) ∧ Below w.heap.size w w' := by
  have HV := hid hv
  have HG := hid hg
  have HZ := hid hs
  obtain ⟨h, hh, h9⟩ := rkN_some hg
  have HH := hid hh
  have HRl : Hid ((rankL xs).length = h + 1) := hid (by rw [rankL_length, hh])
  have HRg : Hid (∀ i, i < h + 1 → (rankL xs).getD i 0 = ((rkE (heightsL xs) xs.length i : Nat) : Int)) := hid fun i hi => rankL_get (by omega)
  have h10 := (good_length hg).2
  have HE10 : Hid (∀ i, rkE (heightsL xs) xs.length i < 1024) := hid fun i => lt1024 (rkE_lt _ (Nat.le_refl _) i) h10
  have HK10 : Hid (∀ p k, evK xs p k < 1024) := hid fun p k => lt1024 (evK_lt xs p k) h10
  have HT : Hid (∀ t p, t < 2 ^ xs.length → togW xs t (elL xs.length (evN xs p)) < 2 ^ xs.length) := hid fun t p ht => togW_lt ht (ev_in p)
  clear hv hg hs
  go_enter Try.func41, Try.ntmps41
  have HB := hid (below_alloc (Below.refl _ w) (.cells #[v] 28))
  have A0 := hid (At.newAt w v 28 w.heap.size (by simp))
  go_wp2_with fail
  refine (rvRanks_any _ xs _ (HV.out.below HB.out) HG.out).mono ?_
  rintro e w' ⟨q, rfl, ho, hb⟩
  replace HB := hid (below_to HB.out hb)
  replace A0 := hid (A0.out.below hb)
  clear hb
  have HI := hid ho.ints
  have HEv : Hid (∀ p, evK xs p (h + 1) = evN xs p) := hid fun p => by rw [evN, HH.out]
  obtain ⟨ls, hls⟩ : ∃ ls, rankL xs = ls := ⟨_, rfl⟩
  rw [hls] at HI HRl HRg
  obtain ⟨A, c, rfl, hA⟩ := HI.out
  have HA := hid hA
  rw [HRl.out]
  clear ho HI hA hls hh
  go_wp2
  go_loop [7, 8, 14] (fun e d i => ∃ k : Nat, k ≤ h + 1 ∧ i = .int .i64 k ∧ e = .int .i64 (evK xs 0 k : Nat) ∧ d = .int .i64 (evK xs 1 k : Nat)) (fun _ _ i => h + 1 - (intOf i).toNat)
  case atStart => exact ⟨0, Nat.zero_le _, rfl, rfl, rfl⟩
  case round =>
    obtain ⟨k, hk, rfl, rfl, rfl⟩ := hrel
    by_cases hlt : k < h + 1
    · obtain ⟨b, o, rfl, hbl, hc⟩ := HA.out (by intro hn; have := HRl.out; rw [hn] at this; simp at this)
      have hcell : w'.cell? ⟨b, o + k, none⟩ = some (.int .i64 (rkE (heightsL xs) xs.length k : Nat)) := by rw [hc k (by rw [HRl.out]; exact hlt), HRg.out k hlt]
      have e1 := HE10.out k
      have e2 := HK10.out 0 k
      have e3 := HK10.out 1 k
      have HY0 := hid (fun (q : k % 2 = 0) => evK_yes (xs := xs) q)
      have HY1 := hid (fun (q : k % 2 = 1) => evK_yes (xs := xs) q)
      have HN0 := hid (fun (q : ¬ k % 2 = 0) => evK_no (xs := xs) q)
      have HN1 := hid (fun (q : ¬ k % 2 = 1) => evK_no (xs := xs) q)
      obtain ⟨R, hR⟩ : ∃ R, rkE (heightsL xs) xs.length k = R := ⟨_, rfl⟩
      obtain ⟨E, hE⟩ : ∃ E, evK xs 0 k = E := ⟨_, rfl⟩
      obtain ⟨D, hD⟩ : ∃ D, evK xs 1 k = D := ⟨_, rfl⟩
      rw [hR] at hcell e1 HY0 HY1
      rw [hE] at e2 HY0 HN0 ⊢
      rw [hD] at e3 HY1 HN1 ⊢
      have ho1 := i64_or_nat E R (by omega) (by omega)
      have ho2 := i64_or_nat D R (by omega) (by omega)
      clear hc hR hE hD
      by_cases hp : k % 2 = 0
      · have hq : ((k : Int) % 2 == 0) = true := by rw [show (k : Int) % 2 = 0 by omega]; rfl
        have HP := hid hp
        clear hp
        go_wp2
        go_round
        case rel => exact ⟨k + 1, by omega, by go_num, by rw [HY0.out HP.out], by rw [HN1.out (by rw [HP.out]; decide)]⟩
        case measure => simp [intOf] <;> omega
      · have hq : ((k : Int) % 2 == 0) = false := by rw [beq_eq_false_iff_ne]; omega
        have HP : Hid (k % 2 = 1) := hid (by omega)
        clear hp
        go_wp2
        go_round
        case rel => exact ⟨k + 1, by omega, by go_num, by rw [HN0.out (by rw [HP.out]; decide)], by rw [HY1.out HP.out]⟩
        case measure => simp [intOf] <;> omega
    · obtain rfl : k = h + 1 := by omega
      rw [HEv.out 0, HEv.out 1]
      have e2 : evN xs 0 < 1024 := by rw [← HEv.out]; exact HK10.out 0 _
      have e3 : evN xs 1 < 1024 := by rw [← HEv.out]; exact HK10.out 1 _
      have hz0 := HZ.out
      have HFd : Hid (gyF xs s = togW xs (togW xs s (elL xs.length (evN xs 0))) (elL xs.length (evN xs 1))) := hid rfl
      have HBd : Hid (gyB xs s = togW xs (togW xs s (elL xs.length (evN xs 1))) (elL xs.length (evN xs 0))) := hid rfl
      have hz1 := HT.out s 0 hz0
      have hz2 := HT.out s 1 hz0
      have HV1 := hid (HV.out.below HB.out)
      have HS := hid (show SR w' w.heap.size v w' from ⟨A0.out, Below.refl _ _⟩)
      have hbx := A0.out.1
      cases bk
      · go_wp2_with fail
        go_region_held3 (fun W => W.cell? ⟨w.heap.size, 0, none⟩ = some v ∧ Hid (SR w' w.heap.size v W)) (first | exact ⟨HS2.out.at_.1, HS2⟩ | exact ⟨HS.out.drew.at_.1, hid HS.out.drew⟩) (first | (go_at_call 64; refine (rvAt_SR v xs w' w.heap.size _ _ _ HV1.out HG.out (Hid.out (by first | assumption | exact hid HS.out.drew)) (by assumption) (by assumption)).mono ?_; rintro e' w4 ⟨rfl, hs4⟩; have HS2 := hid hs4; clear hs4))
        have HB3 := hid (below_to HB.out HS2.out.below)
        clear hbx
        go_wp2
        go_ret
        exact ⟨ret_int (by rw [← HFd.out]), HB3.out⟩
      · go_wp2_with fail
        go_region_held3 (fun W => W.cell? ⟨w.heap.size, 0, none⟩ = some v ∧ Hid (SR w' w.heap.size v W)) (first | exact ⟨HS2.out.at_.1, HS2⟩ | exact ⟨HS.out.drew.at_.1, hid HS.out.drew⟩) (first | (go_at_call 64; refine (rvAt_SR v xs w' w.heap.size _ _ _ HV1.out HG.out (Hid.out (by first | assumption | exact hid HS.out.drew)) (by assumption) (by assumption)).mono ?_; rintro e' w4 ⟨rfl, hs4⟩; have HS2 := hid hs4; clear hs4))
        have HB3 := hid (below_to HB.out HS2.out.below)
        clear hbx
        go_wp2
        go_ret
        exact ⟨ret_int (by rw [← HBd.out]), HB3.out⟩
def ansGB (xs : List Int) (s : Int) : Int := if okRI xs s then (togW xs s.toNat (rkW (rankL xs) (wGyr (rkN xs - 1))).reverse : Int) else 0
theorem ansGB_no {xs : List Int} {s : Int} (h : okRI xs s = false) : ansGB xs s = 0 := by simp [ansGB, h]
theorem ansGB_yes {xs : List Int} {z h : Nat} (hk : okRI xs z = true) (hh : rkN xs = h + 1) : ansGB xs z = (togW xs z (rkW (rankL xs) (wGyr h)).reverse : Int) := by unfold ansGB; rw [if_pos hk, hh]; rfl
end Go.Proofs.Ytkalpichninncab
