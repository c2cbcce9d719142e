/- DskK DskY -/
import Derived.Deep.RegionHeld3
import Derived.Test.YtbmhaamenjhjfaaGreatDoorPkD20
import Derived.Test.YtbmhaamenjhjfaaGreatDoorPkD31
namespace Go.Proofs.YtbmhaamenjhjfaaGreatDoor
open Go.RowKit Go.WideShapes Go.ChangeShapes
set_option linter.unusedVariables false
set_option maxRecDepth 100000 in
set_option maxHeartbeats 1600000 in
theorem moved_7_no (g : Nat) (v tv nv : Value) (xs : List Int) (s : Int) (F : ByteArray) (w : World) (hb : Blk w g 79 #[v, .int .i64 s, tv, nv]) (hv : Ints w v xs) (hid0 : okIdeal xs s = true) (hF : F.toList = [116, 111, 103, 103, 108, 101]) (ns p : List Int) (hnb : ∀ x ∈ ns, 0 ≤ x ∧ x ≤ 999999) (hn : Ints w nv ns) (htv : ∃ A n c, tv = .slice A n c) (hns : ns.length = 1) (hok : okTW xs [ns.getD 0 0] s = false) :
    Calls Tryz.prog 47 #[.pointer (some ⟨g, 0, none⟩), .string F] w fun (r : Ending) w' => ResM 7 ns p xs s w.heap.size g v tv nv r w' ∧ TurnedIn g (g + 1) w w' := by
  have hgw : g < w.heap.size := hb.lt
  have HV := hid hv
  obtain ⟨z, hzs, hgx, hzl, hzi⟩ := okIdeal_all hid0
  have HI := hid hid0
  have hwf := wf_ideal hid0
  have HGx := hid hgx
  have HZ := hid (And.intro hzl hzi)
  have hl10 := (good_length hgx).2
  have hz1 : z < 1024 := Nat.lt_of_lt_of_le hzl (Nat.le_trans (Nat.pow_le_pow_right (by decide) hl10) (by decide))
  obtain ⟨A, c, rfl, -⟩ := hv
  have HN0 := hid hn
  obtain ⟨nA, nc, rfl, -⟩ := hn
  obtain ⟨tA, tn, tc, rfl⟩ := htv
  have HWf := hid hwf
  have HOk := hid hok
  have HAct : Hid (actD 7 ns p xs s = none) := hid (by simp only [actD, putD, hok]; rfl)
  clear hok
  have HNs := hid hns
  have HNb := hid hnb
  obtain ⟨bN, oN, rfl⟩ := ints_addrD HN0.out (by intro h0; rw [h0] at hns; simp at hns)
  obtain ⟨x0, hx0⟩ : ∃ x, ns.getD 0 0 = x := ⟨_, rfl⟩
  have hr0 := bound_get hnb 0
  rw [hx0] at hr0 HOk
  have HX0 := hid hx0
  rw [hns] at HN0 hb ⊢
  clear hns hx0
  have HA := hid (show AK w (w.alloc (.cells #[.slice A xs.length c] 28)).drew g (.slice A xs.length c) s (.slice tA tn tc) (.slice (some ⟨bN, oN, none⟩) 1 nc) from (AK.new hb).below (below_drewN (Below.refl _ _) 1))
  have k0 : w.cell? ⟨g, 0, none⟩ = some (.slice A xs.length c) := hb.cell 0
  have k1 : w.cell? ⟨g, 1, none⟩ = some (.int .i64 s) := hb.cell 1
  clear hb hid0 hgx hzl hzi hwf hnb hzs
  go_enter Tryz.func47, Tryz.ntmps47
  go_upto_region 1 with (fail)
  go_region
  generalize (w.alloc (.cells #[.slice A xs.length c] 28)).drew = W at HA ⊢
  clear k0 k1
  have HVW := hid (HV.out.below HA.out.bel)
  have HWz : Hid (w.heap.size < W.heap.size) := hid HA.out.k1.lt
  have HNW := hid (HN0.out.below HA.out.bel)
  have n0 := ints_cellD HNW.out (j := 0) (by rw [HNs.out]; decide)
  rw [HX0.out, Nat.add_zero] at n0
  have k3 : W.cell? ⟨g, 3, none⟩ = some (.slice (some ⟨bN, oN, none⟩) 1 nc) := HA.out.k0.cell 3
  go_upto_region 17 with (fail)
  have HAd := hid (show AK w W.drew g _ _ _ _ from HA.out.below (below_drewN (Below.refl _ W) 1))
  have HVd := hid (HV.out.below HAd.out.bel)
  have kx : W.cell? ⟨w.heap.size, 0, none⟩ = some (.slice A xs.length c) := HA.out.k1.cell 0
  go_region_with (first | (go_at_call 79; refine (specToggleAt_any _ xs s x0 _ HVd.out (by omega) HWf.out (wf_i64D _ (by omega) (by omega))).mono ?_; rw [HOk.out]; rintro e W2 ⟨rfl, hb2⟩; have HA2 := hid (HAd.out.below hb2); clear hb2) | (go_at_call 78; refine (put_no g _ _).mono ?_; rintro e w3 ⟨rfl, hb3⟩))
  all_goals
    go_wp2
    go_ret
    exact ⟨.inl ⟨HAct.out, rfl, HA2.out.k0.below hb3 HA2.out.k0.lt⟩, TurnedIn.of_below (below_to HA2.out.bel hb3)⟩
set_option maxRecDepth 100000 in
set_option maxHeartbeats 1600000 in
theorem moved_7_yes (g : Nat) (v tv nv : Value) (xs : List Int) (s : Int) (F : ByteArray) (w : World) (hb : Blk w g 79 #[v, .int .i64 s, tv, nv]) (hv : Ints w v xs) (hid0 : okIdeal xs s = true) (hF : F.toList = [116, 111, 103, 103, 108, 101]) (ns p : List Int) (hnb : ∀ x ∈ ns, 0 ≤ x ∧ x ≤ 999999) (hn : Ints w nv ns) (htv : ∃ A n c, tv = .slice A n c) (hns : ns.length = 1) (hok : okTW xs [ns.getD 0 0] s = true) :
    Calls Tryz.prog 47 #[.pointer (some ⟨g, 0, none⟩), .string F] w fun (r : Ending) w' => ResM 7 ns p xs s w.heap.size g v tv nv r w' ∧ TurnedIn g (g + 1) w w' := by
  have hgw : g < w.heap.size := hb.lt
  have HV := hid hv
  obtain ⟨z, hzs, hgx, hzl, hzi⟩ := okIdeal_all hid0
  have HI := hid hid0
  have hwf := wf_ideal hid0
  have HGx := hid hgx
  have HZ := hid (And.intro hzl hzi)
  have hl10 := (good_length hgx).2
  have hz1 : z < 1024 := Nat.lt_of_lt_of_le hzl (Nat.le_trans (Nat.pow_le_pow_right (by decide) hl10) (by decide))
  obtain ⟨A, c, rfl, -⟩ := hv
  have HN0 := hid hn
  obtain ⟨nA, nc, rfl, -⟩ := hn
  obtain ⟨tA, tn, tc, rfl⟩ := htv
  have HWf := hid hwf
  have HOk := hid hok
  have HAct : Hid (actD 7 ns p xs s = some (xs, ansTW xs [ns.getD 0 0] s, numT (ansTW xs [ns.getD 0 0] s))) := hid (by simp only [actD, putD, hok]; rfl)
  have HB := hid (reachD (actD_inv HI.out (fun h => by omega) HAct.out).1)
  clear hok
  have HNs := hid hns
  have HNb := hid hnb
  obtain ⟨bN, oN, rfl⟩ := ints_addrD HN0.out (by intro h0; rw [h0] at hns; simp at hns)
  obtain ⟨x0, hx0⟩ : ∃ x, ns.getD 0 0 = x := ⟨_, rfl⟩
  have hr0 := bound_get hnb 0
  rw [hx0] at hr0 HOk HAct HB
  have HX0 := hid hx0
  rw [hns] at HN0 hb ⊢
  clear hns hx0
  have HA := hid (show AK w (w.alloc (.cells #[.slice A xs.length c] 28)).drew g (.slice A xs.length c) s (.slice tA tn tc) (.slice (some ⟨bN, oN, none⟩) 1 nc) from (AK.new hb).below (below_drewN (Below.refl _ _) 1))
  have k0 : w.cell? ⟨g, 0, none⟩ = some (.slice A xs.length c) := hb.cell 0
  have k1 : w.cell? ⟨g, 1, none⟩ = some (.int .i64 s) := hb.cell 1
  clear hb hid0 hgx hzl hzi hwf hnb hzs
  go_enter Tryz.func47, Tryz.ntmps47
  go_upto_region 1 with (fail)
  go_region
  generalize (w.alloc (.cells #[.slice A xs.length c] 28)).drew = W at HA ⊢
  clear k0 k1
  have HVW := hid (HV.out.below HA.out.bel)
  have HWz : Hid (w.heap.size < W.heap.size) := hid HA.out.k1.lt
  have HNW := hid (HN0.out.below HA.out.bel)
  have n0 := ints_cellD HNW.out (j := 0) (by rw [HNs.out]; decide)
  rw [HX0.out, Nat.add_zero] at n0
  have k3 : W.cell? ⟨g, 3, none⟩ = some (.slice (some ⟨bN, oN, none⟩) 1 nc) := HA.out.k0.cell 3
  go_upto_region 17 with (fail)
  have HAd := hid (show AK w W.drew g _ _ _ _ from HA.out.below (below_drewN (Below.refl _ W) 1))
  have HVd := hid (HV.out.below HAd.out.bel)
  have kx : W.cell? ⟨w.heap.size, 0, none⟩ = some (.slice A xs.length c) := HA.out.k1.cell 0
  have hB := HB.out
  obtain ⟨R, hR⟩ : ∃ R, ansTW xs [x0] s = R := ⟨_, rfl⟩
  rw [hR] at HAct hB
  have HR := hid hR
  clear hR HB
  go_region_with (first | (go_at_call 79; refine (specToggleAt_any _ xs s x0 _ HVd.out (by omega) HWf.out (wf_i64D _ (by omega) (by omega))).mono ?_; rw [HOk.out, HR.out]; rintro e W2 ⟨rfl, hb2⟩; have HA2 := hid (HAd.out.below hb2); clear hb2) | (go_at_call 78; refine (put_yes g _ _ _ _ _ _ HA2.out.k0 (by omega) (by omega)).mono ?_; rintro e w3 ⟨rfl, hk3, ht3⟩))
  all_goals
    go_wp2
    go_ret
    exact ⟨.inr ⟨_, _, _, _, HAct.out, rfl, hk3, .inl ⟨rfl, rfl⟩⟩, (TurnedIn.of_below HA2.out.bel).trans ht3⟩
set_option maxRecDepth 100000 in
set_option maxHeartbeats 1600000 in
theorem moved_10_no (g : Nat) (v tv nv : Value) (xs : List Int) (s : Int) (F : ByteArray) (w : World) (hb : Blk w g 79 #[v, .int .i64 s, tv, nv]) (hv : Ints w v xs) (hid0 : okIdeal xs s = true) (hF : F.toList = [116, 105, 109, 101, 115]) (ns p : List Int) (hnb : ∀ x ∈ ns, 0 ≤ x ∧ x ≤ 999999) (hn : Ints w nv ns) (htv : ∃ A n c, tv = .slice A n c) (hns : ns.length = 1) (hok : okRT xs s (ns.getD 0 0) = false) :
    Calls Tryz.prog 47 #[.pointer (some ⟨g, 0, none⟩), .string F] w fun (r : Ending) w' => ResM 10 ns p xs s w.heap.size g v tv nv r w' ∧ TurnedIn g (g + 1) w w' := by
  have hgw : g < w.heap.size := hb.lt
  have HV := hid hv
  obtain ⟨z, hzs, hgx, hzl, hzi⟩ := okIdeal_all hid0
  have HI := hid hid0
  have hwf := wf_ideal hid0
  have HGx := hid hgx
  have HZ := hid (And.intro hzl hzi)
  have hl10 := (good_length hgx).2
  have hz1 : z < 1024 := Nat.lt_of_lt_of_le hzl (Nat.le_trans (Nat.pow_le_pow_right (by decide) hl10) (by decide))
  obtain ⟨A, c, rfl, -⟩ := hv
  have HN0 := hid hn
  obtain ⟨nA, nc, rfl, -⟩ := hn
  obtain ⟨tA, tn, tc, rfl⟩ := htv
  have HWf := hid hwf
  have HOk := hid hok
  have HAct : Hid (actD 10 ns p xs s = none) := hid (by simp only [actD, putD, hok]; rfl)
  clear hok
  have HNs := hid hns
  have HNb := hid hnb
  obtain ⟨bN, oN, rfl⟩ := ints_addrD HN0.out (by intro h0; rw [h0] at hns; simp at hns)
  obtain ⟨x0, hx0⟩ : ∃ x, ns.getD 0 0 = x := ⟨_, rfl⟩
  have hr0 := bound_get hnb 0
  rw [hx0] at hr0 HOk
  have HX0 := hid hx0
  rw [hns] at HN0 hb ⊢
  clear hns hx0
  have HA := hid (show AK w (w.alloc (.cells #[.slice A xs.length c] 28)).drew g (.slice A xs.length c) s (.slice tA tn tc) (.slice (some ⟨bN, oN, none⟩) 1 nc) from (AK.new hb).below (below_drewN (Below.refl _ _) 1))
  have k0 : w.cell? ⟨g, 0, none⟩ = some (.slice A xs.length c) := hb.cell 0
  have k1 : w.cell? ⟨g, 1, none⟩ = some (.int .i64 s) := hb.cell 1
  clear hb hid0 hgx hzl hzi hwf hnb hzs
  go_enter Tryz.func47, Tryz.ntmps47
  go_upto_region 1 with (fail)
  go_region
  generalize (w.alloc (.cells #[.slice A xs.length c] 28)).drew = W at HA ⊢
  clear k0 k1
  have HVW := hid (HV.out.below HA.out.bel)
  have HWz : Hid (w.heap.size < W.heap.size) := hid HA.out.k1.lt
  have HNW := hid (HN0.out.below HA.out.bel)
  have n0 := ints_cellD HNW.out (j := 0) (by rw [HNs.out]; decide)
  rw [HX0.out, Nat.add_zero] at n0
  have k3 : W.cell? ⟨g, 3, none⟩ = some (.slice (some ⟨bN, oN, none⟩) 1 nc) := HA.out.k0.cell 3
  go_upto_region 23 with (fail)
  have HAd := hid (show AK w W.drew g _ _ _ _ from HA.out.below (below_drewN (Below.refl _ W) 1))
  have HVd := hid (HV.out.below HAd.out.bel)
  have kx : W.cell? ⟨w.heap.size, 0, none⟩ = some (.slice A xs.length c) := HA.out.k1.cell 0
  go_region_with (first | (go_at_call 82; refine (specRowmotionTimes_any _ xs s x0 _ HVd.out (by omega) HWf.out (wf_i64D _ (by omega) (by omega))).mono ?_; rw [HOk.out]; rintro e W2 ⟨rfl, hb2⟩; have HA2 := hid (HAd.out.below hb2); clear hb2) | (go_at_call 78; refine (put_no g _ _).mono ?_; rintro e w3 ⟨rfl, hb3⟩))
  all_goals
    go_wp2
    go_ret
    exact ⟨.inl ⟨HAct.out, rfl, HA2.out.k0.below hb3 HA2.out.k0.lt⟩, TurnedIn.of_below (below_to HA2.out.bel hb3)⟩
set_option maxRecDepth 100000 in
set_option maxHeartbeats 1600000 in
theorem moved_10_yes (g : Nat) (v tv nv : Value) (xs : List Int) (s : Int) (F : ByteArray) (w : World) (hb : Blk w g 79 #[v, .int .i64 s, tv, nv]) (hv : Ints w v xs) (hid0 : okIdeal xs s = true) (hF : F.toList = [116, 105, 109, 101, 115]) (ns p : List Int) (hnb : ∀ x ∈ ns, 0 ≤ x ∧ x ≤ 999999) (hn : Ints w nv ns) (htv : ∃ A n c, tv = .slice A n c) (hns : ns.length = 1) (hok : okRT xs s (ns.getD 0 0) = true) :
    Calls Tryz.prog 47 #[.pointer (some ⟨g, 0, none⟩), .string F] w fun (r : Ending) w' => ResM 10 ns p xs s w.heap.size g v tv nv r w' ∧ TurnedIn g (g + 1) w w' := by
  have hgw : g < w.heap.size := hb.lt
  have HV := hid hv
  obtain ⟨z, hzs, hgx, hzl, hzi⟩ := okIdeal_all hid0
  have HI := hid hid0
  have hwf := wf_ideal hid0
  have HGx := hid hgx
  have HZ := hid (And.intro hzl hzi)
  have hl10 := (good_length hgx).2
  have hz1 : z < 1024 := Nat.lt_of_lt_of_le hzl (Nat.le_trans (Nat.pow_le_pow_right (by decide) hl10) (by decide))
  obtain ⟨A, c, rfl, -⟩ := hv
  have HN0 := hid hn
  obtain ⟨nA, nc, rfl, -⟩ := hn
  obtain ⟨tA, tn, tc, rfl⟩ := htv
  have HWf := hid hwf
  have HOk := hid hok
  have HAct : Hid (actD 10 ns p xs s = some (xs, ansRT xs s (ns.getD 0 0), numT (ansRT xs s (ns.getD 0 0)))) := hid (by simp only [actD, putD, hok]; rfl)
  have HB := hid (reachD (actD_inv HI.out (fun h => by omega) HAct.out).1)
  clear hok
  have HNs := hid hns
  have HNb := hid hnb
  obtain ⟨bN, oN, rfl⟩ := ints_addrD HN0.out (by intro h0; rw [h0] at hns; simp at hns)
  obtain ⟨x0, hx0⟩ : ∃ x, ns.getD 0 0 = x := ⟨_, rfl⟩
  have hr0 := bound_get hnb 0
  rw [hx0] at hr0 HOk HAct HB
  have HX0 := hid hx0
  rw [hns] at HN0 hb ⊢
  clear hns hx0
  have HA := hid (show AK w (w.alloc (.cells #[.slice A xs.length c] 28)).drew g (.slice A xs.length c) s (.slice tA tn tc) (.slice (some ⟨bN, oN, none⟩) 1 nc) from (AK.new hb).below (below_drewN (Below.refl _ _) 1))
  have k0 : w.cell? ⟨g, 0, none⟩ = some (.slice A xs.length c) := hb.cell 0
  have k1 : w.cell? ⟨g, 1, none⟩ = some (.int .i64 s) := hb.cell 1
  clear hb hid0 hgx hzl hzi hwf hnb hzs
  go_enter Tryz.func47, Tryz.ntmps47
  go_upto_region 1 with (fail)
  go_region
  generalize (w.alloc (.cells #[.slice A xs.length c] 28)).drew = W at HA ⊢
  clear k0 k1
  have HVW := hid (HV.out.below HA.out.bel)
  have HWz : Hid (w.heap.size < W.heap.size) := hid HA.out.k1.lt
  have HNW := hid (HN0.out.below HA.out.bel)
  have n0 := ints_cellD HNW.out (j := 0) (by rw [HNs.out]; decide)
  rw [HX0.out, Nat.add_zero] at n0
  have k3 : W.cell? ⟨g, 3, none⟩ = some (.slice (some ⟨bN, oN, none⟩) 1 nc) := HA.out.k0.cell 3
  go_upto_region 23 with (fail)
  have HAd := hid (show AK w W.drew g _ _ _ _ from HA.out.below (below_drewN (Below.refl _ W) 1))
  have HVd := hid (HV.out.below HAd.out.bel)
  have kx : W.cell? ⟨w.heap.size, 0, none⟩ = some (.slice A xs.length c) := HA.out.k1.cell 0
  have hB := HB.out
  obtain ⟨R, hR⟩ : ∃ R, ansRT xs s (x0) = R := ⟨_, rfl⟩
  rw [hR] at HAct hB
  have HR := hid hR
  clear hR HB
  go_region_with (first | (go_at_call 82; refine (specRowmotionTimes_any _ xs s x0 _ HVd.out (by omega) HWf.out (wf_i64D _ (by omega) (by omega))).mono ?_; rw [HOk.out, HR.out]; rintro e W2 ⟨rfl, hb2⟩; have HA2 := hid (HAd.out.below hb2); clear hb2) | (go_at_call 78; refine (put_yes g _ _ _ _ _ _ HA2.out.k0 (by omega) (by omega)).mono ?_; rintro e w3 ⟨rfl, hk3, ht3⟩))
  all_goals
    go_wp2
    go_ret
    exact ⟨.inr ⟨_, _, _, _, HAct.out, rfl, hk3, .inl ⟨rfl, rfl⟩⟩, (TurnedIn.of_below HA2.out.bel).trans ht3⟩
end Go.Proofs.YtbmhaamenjhjfaaGreatDoor
namespace Go.Proofs.YtbmhaamenjhjfaaGreatDoor
open Go.RowKit Go.WideShapes Go.ChangeShapes
set_option linter.unusedVariables false
set_option maxRecDepth 100000 in
set_option maxHeartbeats 1600000 in
theorem moved_6_yes (g : Nat) (v tv nv : Value) (xs : List Int) (s : Int) (F : ByteArray) (w : World) (hb : Blk w g 79 #[v, .int .i64 s, tv, nv]) (hv : Ints w v xs) (hid0 : okIdeal xs s = true) (hF : F.toList = [116, 97, 107, 101]) (ns p : List Int) (hnb : ∀ x ∈ ns, 0 ≤ x ∧ x ≤ 999999) (hn : Ints w nv ns) (htv : ∃ A n c, tv = .slice A n c) (hns : ns.length = 1) (hok : okIdeal xs (ns.getD 0 0) = true) (hst : (decide ((0 : Int) ≤ ns.getD 0 0) && decide (ns.getD 0 0 ≤ ((2 ^ xs.length - 1 : Nat) : Int))) = true) (hid2 : holdsIdeal xs (ns.getD 0 0).toNat = true) (hnv : ∀ k, nv.ownBlock = some k → k ≠ g) :
    Calls Tryz.prog 47 #[.pointer (some ⟨g, 0, none⟩), .string F] w fun (r : Ending) w' => ResM 6 ns p xs s w.heap.size g v tv nv r w' ∧ TurnedIn g (g + 1) w w' := by
  have hgw : g < w.heap.size := hb.lt
  have HV := hid hv
  obtain ⟨z, hzs, hgx, hzl, hzi⟩ := okIdeal_all hid0
  have HI := hid hid0
  have hwf := wf_ideal hid0
  have HGx := hid hgx
  have HZ := hid (And.intro hzl hzi)
  have hl10 := (good_length hgx).2
  have hz1 : z < 1024 := Nat.lt_of_lt_of_le hzl (Nat.le_trans (Nat.pow_le_pow_right (by decide) hl10) (by decide))
  obtain ⟨A, c, rfl, -⟩ := hv
  have HN0 := hid hn
  obtain ⟨nA, nc, rfl, -⟩ := hn
  obtain ⟨tA, tn, tc, rfl⟩ := htv
  have HWf := hid hwf
  have HSt := hid hst
  have HId := hid hid2
  have HAct : Hid (actD 6 ns p xs s = some (xs, ns.getD 0 0, numT (ns.getD 0 0))) := hid (by simp only [actD, putD, hok]; rfl)
  clear hok hst hid2
  have HNs := hid hns
  have HNb := hid hnb
  obtain ⟨bN, oN, rfl⟩ := ints_addrD HN0.out (by intro h0; rw [h0] at hns; simp at hns)
  obtain ⟨x0, hx0⟩ : ∃ x, ns.getD 0 0 = x := ⟨_, rfl⟩
  have hr0 := bound_get hnb 0
  rw [hx0] at hr0 HAct HSt HId
  obtain ⟨y, hy⟩ := Int.eq_ofNat_of_zero_le hr0.1
  subst hy
  have HX0 := hid hx0
  rw [hns] at HN0 hb ⊢
  clear hns hx0
  rw [Int.toNat_natCast] at HId
  have hy2 : y < 1024 := by have := HSt.out; simp only [Bool.and_eq_true, decide_eq_true_eq] at this; have h3 : 2 ^ xs.length ≤ 2 ^ 10 := Nat.pow_le_pow_right (by decide) hl10; have h4 : (2 : Nat) ^ 10 = 1024 := (by decide); omega
  have hsm := good_small HGx.out y
  have HA := hid (show AK w (w.alloc (.cells #[.slice A xs.length c] 28)).drew g (.slice A xs.length c) s (.slice tA tn tc) (.slice (some ⟨bN, oN, none⟩) 1 nc) from (AK.new hb).below (below_drewN (Below.refl _ _) 1))
  have k0 : w.cell? ⟨g, 0, none⟩ = some (.slice A xs.length c) := hb.cell 0
  have k1 : w.cell? ⟨g, 1, none⟩ = some (.int .i64 s) := hb.cell 1
  clear hb hid0 hgx hzl hzi hwf hnb hzs
  go_enter Tryz.func47, Tryz.ntmps47
  go_upto_region 1 with (fail)
  go_region
  generalize (w.alloc (.cells #[.slice A xs.length c] 28)).drew = W at HA ⊢
  clear k0 k1
  have HVW := hid (HV.out.below HA.out.bel)
  have HWz : Hid (w.heap.size < W.heap.size) := hid HA.out.k1.lt
  have HNW := hid (HN0.out.below HA.out.bel)
  have n0 := ints_cellD HNW.out (j := 0) (by rw [HNs.out]; decide)
  rw [HX0.out, Nat.add_zero] at n0
  have k3 : W.cell? ⟨g, 3, none⟩ = some (.slice (some ⟨bN, oN, none⟩) 1 nc) := HA.out.k0.cell 3
  go_upto_region 15 with (fail)
  have kx : W.cell? ⟨w.heap.size, 0, none⟩ = some (.slice A xs.length c) := HA.out.k1.cell 0
  have HN6 := hid n0
  have HKeep := hid (fun (W' : World) (hb : Below W.heap.size W W') => show W'.cell? ⟨w.heap.size, 0, none⟩ = some (.slice A xs.length c) ∧ W'.cell? ⟨g, 3, none⟩ = some (.slice (some ⟨bN, oN, none⟩) 1 nc) ∧ W'.cell? ⟨bN, oN, none⟩ = some (.int .i64 (y : Int)) from ⟨(HA.out.below hb).k1.cell 0, (HA.out.below hb).k0.cell 3, cell_later HN6.out hb⟩)
  have HbN := hid hnv
  go_region_held3 (fun W' => W'.cell? ⟨w.heap.size, 0, none⟩ = some (.slice A xs.length c) ∧ W'.cell? ⟨g, 3, none⟩ = some (.slice (some ⟨bN, oN, none⟩) 1 nc) ∧ W'.cell? ⟨bN, oN, none⟩ = some (.int .i64 (y : Int))) (first | exact HKeep.out _ (below_drewN (Below.refl _ _) 1) | exact HKeep.out _ HB2.out | exact HKeep.out _ HB3.out | exact HP3.out) (first | (go_at_call 66; refine (poSet_any _ xs (y : Int) _ (HV.out.below (below_drewN HA.out.bel 1)) hl10).mono ?_; rw [HSt.out]; rintro e W2 ⟨rfl, hb2⟩; have HB2 := hid (below_to (below_drewN (Below.refl _ W) 1) hb2); have HA2 := hid (HA.out.below HB2.out); clear hb2) | (go_at_call 67; refine (poIdeal_any _ xs y _ (HV.out.below HA2.out.bel) hl10 hy2 hsm).mono ?_; rw [HId.out]; rintro e W3 ⟨rfl, hb2⟩; have HB3 := hid (below_to HB2.out hb2); have HA3 := hid (HA.out.below HB3.out); clear hb2) | (go_at_call 78; refine (put_yes g _ _ _ _ _ _ HA3.out.k0 (by omega) (by omega)).mono ?_; rintro e w3 ⟨rfl, hk3, ht3⟩; have HP3 := hid (show w3.cell? ⟨w.heap.size, 0, none⟩ = some (.slice A xs.length c) ∧ w3.cell? ⟨g, 3, none⟩ = some (.slice (some ⟨bN, oN, none⟩) 1 nc) ∧ w3.cell? ⟨bN, oN, none⟩ = some (.int .i64 (y : Int)) from ⟨(HA3.out.k1.turnedG ht3 (by omega)).cell 0, hk3.cell 3, (World.cell?_of_block (a := ⟨bN, oN, none⟩) (ht3.block bN (by have h1 := World.block_lt_of_cell? W _ HN6.out; have h2 := HB3.out.size; exact Nat.lt_of_lt_of_le h1 h2) (by have h1 := HbN.out bN rfl; omega))).trans (HKeep.out _ HB3.out).2.2⟩)))
  go_wp2
  go_ret
  exact ⟨.inr ⟨_, _, _, _, HAct.out, rfl, hk3, .inl ⟨rfl, rfl⟩⟩, (TurnedIn.of_below HA3.out.bel).trans ht3⟩
set_option maxRecDepth 100000 in
set_option maxHeartbeats 3200000 in
theorem moved_6_no1 (g : Nat) (v tv nv : Value) (xs : List Int) (s : Int) (F : ByteArray) (w : World) (hb : Blk w g 79 #[v, .int .i64 s, tv, nv]) (hv : Ints w v xs) (hid0 : okIdeal xs s = true) (hF : F.toList = [116, 97, 107, 101]) (ns p : List Int) (hnb : ∀ x ∈ ns, 0 ≤ x ∧ x ≤ 999999) (hn : Ints w nv ns) (htv : ∃ A n c, tv = .slice A n c) (hns : ns.length = 1) (hok : okIdeal xs (ns.getD 0 0) = false) (hst : (decide ((0 : Int) ≤ ns.getD 0 0) && decide (ns.getD 0 0 ≤ ((2 ^ xs.length - 1 : Nat) : Int))) = false) (hnv : ∀ k, nv.ownBlock = some k → k ≠ g) :
    Calls Tryz.prog 47 #[.pointer (some ⟨g, 0, none⟩), .string F] w fun (r : Ending) w' => ResM 6 ns p xs s w.heap.size g v tv nv r w' ∧ TurnedIn g (g + 1) w w' := by
  have hgw : g < w.heap.size := hb.lt
  have HV := hid hv
  obtain ⟨z, hzs, hgx, hzl, hzi⟩ := okIdeal_all hid0
  have HI := hid hid0
  have hwf := wf_ideal hid0
  have HGx := hid hgx
  have HZ := hid (And.intro hzl hzi)
  have hl10 := (good_length hgx).2
  have hz1 : z < 1024 := Nat.lt_of_lt_of_le hzl (Nat.le_trans (Nat.pow_le_pow_right (by decide) hl10) (by decide))
  obtain ⟨A, c, rfl, -⟩ := hv
  have HN0 := hid hn
  obtain ⟨nA, nc, rfl, -⟩ := hn
  obtain ⟨tA, tn, tc, rfl⟩ := htv
  have HWf := hid hwf
  have HSt := hid hst
  have HAct : Hid (actD 6 ns p xs s = none) := hid (by simp only [actD, putD, hok]; rfl)
  clear hok hst
  have HNs := hid hns
  have HNb := hid hnb
  obtain ⟨bN, oN, rfl⟩ := ints_addrD HN0.out (by intro h0; rw [h0] at hns; simp at hns)
  obtain ⟨x0, hx0⟩ : ∃ x, ns.getD 0 0 = x := ⟨_, rfl⟩
  have hr0 := bound_get hnb 0
  rw [hx0] at hr0 HSt
  obtain ⟨y, hy⟩ := Int.eq_ofNat_of_zero_le hr0.1
  subst hy
  have HX0 := hid hx0
  rw [hns] at HN0 hb ⊢
  clear hns hx0
  have HA := hid (show AK w (w.alloc (.cells #[.slice A xs.length c] 28)).drew g (.slice A xs.length c) s (.slice tA tn tc) (.slice (some ⟨bN, oN, none⟩) 1 nc) from (AK.new hb).below (below_drewN (Below.refl _ _) 1))
  have k0 : w.cell? ⟨g, 0, none⟩ = some (.slice A xs.length c) := hb.cell 0
  have k1 : w.cell? ⟨g, 1, none⟩ = some (.int .i64 s) := hb.cell 1
  clear hb hid0 hgx hzl hzi hwf hnb hzs
  go_enter Tryz.func47, Tryz.ntmps47
  go_upto_region 1 with (fail)
  go_region
  generalize (w.alloc (.cells #[.slice A xs.length c] 28)).drew = W at HA ⊢
  clear k0 k1
  have HVW := hid (HV.out.below HA.out.bel)
  have HWz : Hid (w.heap.size < W.heap.size) := hid HA.out.k1.lt
  have HNW := hid (HN0.out.below HA.out.bel)
  have n0 := ints_cellD HNW.out (j := 0) (by rw [HNs.out]; decide)
  rw [HX0.out, Nat.add_zero] at n0
  have k3 : W.cell? ⟨g, 3, none⟩ = some (.slice (some ⟨bN, oN, none⟩) 1 nc) := HA.out.k0.cell 3
  go_upto_region 15 with (fail)
  have kx : W.cell? ⟨w.heap.size, 0, none⟩ = some (.slice A xs.length c) := HA.out.k1.cell 0
  have HN6 := hid n0
  have HKeep := hid (fun (W' : World) (hb : Below W.heap.size W W') => show W'.cell? ⟨w.heap.size, 0, none⟩ = some (.slice A xs.length c) ∧ W'.cell? ⟨g, 3, none⟩ = some (.slice (some ⟨bN, oN, none⟩) 1 nc) ∧ W'.cell? ⟨bN, oN, none⟩ = some (.int .i64 (y : Int)) from ⟨(HA.out.below hb).k1.cell 0, (HA.out.below hb).k0.cell 3, cell_later HN6.out hb⟩)
  have HbN := hid hnv
  refine wp_region_held_drew (S := fun W' => W'.cell? ⟨w.heap.size, 0, none⟩ = some (.slice A xs.length c) ∧ W'.cell? ⟨g, 3, none⟩ = some (.slice (some ⟨bN, oN, none⟩) 1 nc) ∧ W'.cell? ⟨bN, oN, none⟩ = some (.int .i64 (y : Int))) (by kernel_rfl) (HKeep.out _ (below_drewN (Below.refl _ _) 1)) (fun hHeld => ?_)
  refine wpAnyH_take (i := 0) (v := ?v0) rfl (by kernel_rfl) (by kernel_rfl) (by kernel_rfl) (fun _ _ _ h => h) (Or.inl ⟨by rfl, ?hy0⟩) (by assumption) ?rest0
  case hy0 =>
    intro w0 hSw
    try dsimp only at hSw
    first | (go_simp; done) | (go_simp; with_reducible rfl)
  try simp only [Act.put, List.setIfInBounds_toArray]
  refine wpAnyH_take (i := 1) (v := ?v1) rfl (by kernel_rfl) (by kernel_rfl) (by kernel_rfl) (fun _ _ _ h => h) (Or.inl ⟨by rfl, ?hy1⟩) (by assumption) ?rest1
  case hy1 =>
    intro w0 hSw
    try dsimp only at hSw
    first | (go_simp; done) | (go_simp; with_reducible rfl)
  try simp only [Act.put]
  refine wpAnyH_take (i := 2) (v := ?v2) rfl (by kernel_rfl) (by kernel_rfl) (by kernel_rfl) (fun _ _ _ h => h) (Or.inl ⟨by rfl, ?hy2⟩) (by assumption) ?rest2
  case hy2 =>
    intro w0 hSw
    try dsimp only at hSw
    first | (go_simp; done) | (go_simp; with_reducible rfl)
  try simp only [Act.put]
  refine wpAnyH_take (i := 3) (v := ?v3) rfl (by kernel_rfl) (by kernel_rfl) (by kernel_rfl) (fun _ _ _ h => h) (Or.inl ⟨by rfl, ?hy3⟩) (by assumption) ?rest3
  case hy3 =>
    intro w0 hSw
    try dsimp only at hSw
    first | (go_simp; done) | (go_simp; with_reducible rfl)
  try simp only [Act.put]
  refine wpAnyH_take (i := 4) (v := ?v4) rfl (by kernel_rfl) (by kernel_rfl) (by kernel_rfl) (fun _ _ _ h => h) (Or.inl ⟨by rfl, ?hy4⟩) (by assumption) ?rest4
  case hy4 =>
    intro w0 hSw
    try dsimp only at hSw
    first | (go_simp; done) | (go_simp; with_reducible rfl)
  try simp only [Act.put]
  refine wpAnyH_take (i := 5) (v := ?v5) rfl (by kernel_rfl) (by kernel_rfl) (by kernel_rfl) (fun _ _ _ h => h) (Or.inl ⟨by rfl, ?hy5⟩) (by assumption) ?rest5
  case hy5 =>
    intro w0 hSw
    try dsimp only at hSw
    first | (go_simp; done) | (go_simp; with_reducible rfl)
  try simp only [Act.put]
  refine wpAnyH_take (i := 6) (v := ?v6) rfl (by kernel_rfl) (by kernel_rfl) (by kernel_rfl) (fun _ _ _ h => h) (Or.inl ⟨by rfl, ?hy6⟩) (by assumption) ?rest6
  case hy6 =>
    intro w0 hSw
    try dsimp only at hSw
    first | (go_simp; done) | (go_simp; with_reducible rfl)
  try simp only [Act.put]
  refine wpAnyH_take (i := 7) (v := ?v7) rfl (by kernel_rfl) (by kernel_rfl) (by kernel_rfl) (fun _ _ _ h => h) (Or.inl ⟨by rfl, ?hy7⟩) (by assumption) ?rest7
  case hy7 =>
    intro w0 hSw
    try dsimp only at hSw
    first | (go_simp; done) | (go_simp; with_reducible rfl)
  try simp only [Act.put]
  refine wpAnyH_take (i := 8) (v := ?v8) rfl (by kernel_rfl) (by kernel_rfl) (by kernel_rfl) (fun _ _ _ h => h) (Or.inl ⟨by rfl, ?hy8⟩) (by assumption) ?rest8
  case hy8 =>
    intro w0 hSw
    try dsimp only at hSw
    first | (go_simp; done) | (go_simp; with_reducible rfl)
  try simp only [Act.put]
  refine wpAnyH_take (i := 9) (v := ?v9) rfl (by kernel_rfl) (by kernel_rfl) (by kernel_rfl) (fun _ _ _ h => h) (Or.inl ⟨by rfl, ?hy9⟩) (by assumption) ?rest9
  case hy9 =>
    intro w0 hSw
    try dsimp only at hSw
    first | (go_simp; done) | (go_simp; with_reducible rfl)
  try simp only [Act.put]
  refine wpAnyH_take (i := 10) (v := ?v10) rfl (by kernel_rfl) (by kernel_rfl) (by kernel_rfl) (fun _ _ _ h => h) (Or.inl ⟨by rfl, ?hy10⟩) (by assumption) ?rest10
  case hy10 =>
    intro w0 hSw
    try dsimp only at hSw
    first | (go_simp; done) | (go_simp; with_reducible rfl)
  try simp only [Act.put]
  refine wpAnyH_take (i := 11) (v := ?v11) rfl (by kernel_rfl) (by kernel_rfl) (by kernel_rfl) (fun _ _ _ h => h) (Or.inl ⟨by rfl, ?hy11⟩) (by assumption) ?rest11
  case hy11 =>
    intro w0 hSw
    try dsimp only at hSw
    first | (go_simp; done) | (go_simp; with_reducible rfl)
  try simp only [Act.put]
  refine wpAnyH_take (i := 12) (v := ?v12) rfl (by kernel_rfl) (by kernel_rfl) (by kernel_rfl) (fun _ _ _ h => h) (Or.inl ⟨by rfl, ?hy12⟩) (by assumption) ?rest12
  case hy12 =>
    intro w0 hSw
    try dsimp only at hSw
    first | (go_simp; done) | (go_simp; with_reducible rfl)
  try simp only [Act.put]
  refine wpAnyH_take (i := 13) (v := ?v13) rfl (by kernel_rfl) (by kernel_rfl) (by kernel_rfl) (fun _ _ _ h => h) (Or.inl ⟨by rfl, ?hy13⟩) (by assumption) ?rest13
  case hy13 =>
    intro w0 hSw
    try dsimp only at hSw
    first | (go_simp; done) | (go_simp; with_reducible rfl)
  try simp only [Act.put]
  refine wpAnyH_ready (rs := [14]) (by kernel_rfl) (by simp) ?_
  refine AllReadyH.cons rfl (fun K hK => ?_) AllReadyH.nil
  go_simp
  go_at_call 66
  refine (poSet_any _ xs (y : Int) _ (HV.out.below (below_drewN HA.out.bel 1)) hl10).mono ?_
  rw [HSt.out]
  rintro e W2 ⟨rfl, hb2⟩
  have HB2 := hid (below_to (below_drewN (Below.refl _ W) 1) hb2)
  have HA2 := hid (HA.out.below HB2.out)
  clear hb2
  refine hK.out _ _ (HKeep.out _ HB2.out) (fun hHeld2 => ?_)
  clear hK K hHeld
  try simp only [Act.put, List.setIfInBounds_toArray, List.set_cons_zero, List.set_cons_succ]
  refine wpAnyH_take (i := 15) (v := ?v15) rfl (by kernel_rfl) (by kernel_rfl) (by kernel_rfl) (fun _ _ _ h => h) (Or.inl ⟨by rfl, ?hy15⟩) (by assumption) ?rest15
  case hy15 =>
    intro w0 hSw
    try dsimp only at hSw
    first | (go_simp; done) | (go_simp; with_reducible rfl)
  try simp only [Act.put, List.setIfInBounds_toArray]
  refine wpAnyH_take (i := 16) (v := undef) rfl (by kernel_rfl) (by kernel_rfl) (by kernel_rfl) (fun _ _ _ h => h) (Or.inr ⟨by kernel_rfl, rfl⟩) (by assumption) ?_
  try simp only [Act.put]
  refine wpAnyH_take (i := 17) (v := undef) rfl (by kernel_rfl) (by kernel_rfl) (by kernel_rfl) (fun _ _ _ h => h) (Or.inr ⟨by kernel_rfl, rfl⟩) (by assumption) ?_
  try simp only [Act.put]
  refine wpAnyH_take (i := 18) (v := undef) rfl (by kernel_rfl) (by kernel_rfl) (by kernel_rfl) (fun _ _ _ h => h) (Or.inr ⟨by kernel_rfl, rfl⟩) (by assumption) ?_
  try simp only [Act.put]
  refine wpAnyH_take (i := 19) (v := undef) rfl (by kernel_rfl) (by kernel_rfl) (by kernel_rfl) (fun _ _ _ h => h) (Or.inr ⟨by kernel_rfl, rfl⟩) (by assumption) ?_
  try simp only [Act.put]
  refine wpAnyH_take (i := 20) (v := undef) rfl (by kernel_rfl) (by kernel_rfl) (by kernel_rfl) (fun _ _ _ h => h) (Or.inr ⟨by kernel_rfl, rfl⟩) (by assumption) ?_
  try simp only [Act.put]
  refine wpAnyH_take (i := 21) (v := undef) rfl (by kernel_rfl) (by kernel_rfl) (by kernel_rfl) (fun _ _ _ h => h) (Or.inr ⟨by kernel_rfl, rfl⟩) (by assumption) ?_
  try simp only [Act.put]
  refine wpAnyH_take (i := 22) (v := undef) rfl (by kernel_rfl) (by kernel_rfl) (by kernel_rfl) (fun _ _ _ h => h) (Or.inr ⟨by kernel_rfl, rfl⟩) (by assumption) ?_
  try simp only [Act.put]
  refine wpAnyH_take (i := 23) (v := undef) rfl (by kernel_rfl) (by kernel_rfl) (by kernel_rfl) (fun _ _ _ h => h) (Or.inr ⟨by kernel_rfl, rfl⟩) (by assumption) ?_
  try simp only [Act.put]
  refine wpAnyH_take (i := 24) (v := ?v24) rfl (by kernel_rfl) (by kernel_rfl) (by kernel_rfl) (fun _ _ _ h => h) (Or.inl ⟨by rfl, ?hy24⟩) (by assumption) ?rest24
  case hy24 =>
    intro w0 hSw
    try dsimp only at hSw
    first | (go_simp; done) | (go_simp; with_reducible rfl)
  try simp only [Act.put]
  refine wpAnyH_ready (rs := [25]) (by kernel_rfl) (by simp) ?_
  refine AllReadyH.cons rfl (fun K hK => ?_) AllReadyH.nil
  go_simp
  go_at_call 78
  refine (put_no g _ _).mono ?_
  rintro e w3 ⟨rfl, hb3⟩
  have HB4 := hid (below_to HB2.out hb3)
  refine hK.out _ _ (HKeep.out _ HB4.out) (fun hHeld3 => ?_)
  clear hK K hHeld2
  try simp only [Act.put, List.setIfInBounds_toArray, List.set_cons_zero, List.set_cons_succ]
  refine wpAnyH_ready (rs := [26]) (by kernel_rfl) (by simp) ?_
  refine AllReadyH.cons rfl (fun K hK => ?_) AllReadyH.nil
  go_simp
  refine hK.out _ _ hHeld3 (fun _ => ?_)
  clear hK K
  try simp only [Act.put, List.setIfInBounds_toArray, List.set_cons_zero, List.set_cons_succ]
  refine wpAnyH_done (by kernel_rfl) ?_ _
  go_wp2
  go_ret
  exact ⟨.inl ⟨HAct.out, rfl, HA2.out.k0.below hb3 HA2.out.k0.lt⟩, TurnedIn.of_below (below_to HA2.out.bel hb3)⟩
set_option maxRecDepth 100000 in
set_option maxHeartbeats 1600000 in
theorem moved_6_no2 (g : Nat) (v tv nv : Value) (xs : List Int) (s : Int) (F : ByteArray) (w : World) (hb : Blk w g 79 #[v, .int .i64 s, tv, nv]) (hv : Ints w v xs) (hid0 : okIdeal xs s = true) (hF : F.toList = [116, 97, 107, 101]) (ns p : List Int) (hnb : ∀ x ∈ ns, 0 ≤ x ∧ x ≤ 999999) (hn : Ints w nv ns) (htv : ∃ A n c, tv = .slice A n c) (hns : ns.length = 1) (hok : okIdeal xs (ns.getD 0 0) = false) (hst : (decide ((0 : Int) ≤ ns.getD 0 0) && decide (ns.getD 0 0 ≤ ((2 ^ xs.length - 1 : Nat) : Int))) = true) (hid2 : holdsIdeal xs (ns.getD 0 0).toNat = false) (hnv : ∀ k, nv.ownBlock = some k → k ≠ g) :
    Calls Tryz.prog 47 #[.pointer (some ⟨g, 0, none⟩), .string F] w fun (r : Ending) w' => ResM 6 ns p xs s w.heap.size g v tv nv r w' ∧ TurnedIn g (g + 1) w w' := by
  have hgw : g < w.heap.size := hb.lt
  have HV := hid hv
  obtain ⟨z, hzs, hgx, hzl, hzi⟩ := okIdeal_all hid0
  have HI := hid hid0
  have hwf := wf_ideal hid0
  have HGx := hid hgx
  have HZ := hid (And.intro hzl hzi)
  have hl10 := (good_length hgx).2
  have hz1 : z < 1024 := Nat.lt_of_lt_of_le hzl (Nat.le_trans (Nat.pow_le_pow_right (by decide) hl10) (by decide))
  obtain ⟨A, c, rfl, -⟩ := hv
  have HN0 := hid hn
  obtain ⟨nA, nc, rfl, -⟩ := hn
  obtain ⟨tA, tn, tc, rfl⟩ := htv
  have HWf := hid hwf
  have HSt := hid hst
  have HId := hid hid2
  have HAct : Hid (actD 6 ns p xs s = none) := hid (by simp only [actD, putD, hok]; rfl)
  clear hok hst hid2
  have HNs := hid hns
  have HNb := hid hnb
  obtain ⟨bN, oN, rfl⟩ := ints_addrD HN0.out (by intro h0; rw [h0] at hns; simp at hns)
  obtain ⟨x0, hx0⟩ : ∃ x, ns.getD 0 0 = x := ⟨_, rfl⟩
  have hr0 := bound_get hnb 0
  rw [hx0] at hr0 HSt HId
  obtain ⟨y, hy⟩ := Int.eq_ofNat_of_zero_le hr0.1
  subst hy
  have HX0 := hid hx0
  rw [hns] at HN0 hb ⊢
  clear hns hx0
  rw [Int.toNat_natCast] at HId
  have hy2 : y < 1024 := by have := HSt.out; simp only [Bool.and_eq_true, decide_eq_true_eq] at this; have h3 : 2 ^ xs.length ≤ 2 ^ 10 := Nat.pow_le_pow_right (by decide) hl10; have h4 : (2 : Nat) ^ 10 = 1024 := (by decide); omega
  have hsm := good_small HGx.out y
  have HA := hid (show AK w (w.alloc (.cells #[.slice A xs.length c] 28)).drew g (.slice A xs.length c) s (.slice tA tn tc) (.slice (some ⟨bN, oN, none⟩) 1 nc) from (AK.new hb).below (below_drewN (Below.refl _ _) 1))
  have k0 : w.cell? ⟨g, 0, none⟩ = some (.slice A xs.length c) := hb.cell 0
  have k1 : w.cell? ⟨g, 1, none⟩ = some (.int .i64 s) := hb.cell 1
  clear hb hid0 hgx hzl hzi hwf hnb hzs
  go_enter Tryz.func47, Tryz.ntmps47
  go_upto_region 1 with (fail)
  go_region
  generalize (w.alloc (.cells #[.slice A xs.length c] 28)).drew = W at HA ⊢
  clear k0 k1
  have HVW := hid (HV.out.below HA.out.bel)
  have HWz : Hid (w.heap.size < W.heap.size) := hid HA.out.k1.lt
  have HNW := hid (HN0.out.below HA.out.bel)
  have n0 := ints_cellD HNW.out (j := 0) (by rw [HNs.out]; decide)
  rw [HX0.out, Nat.add_zero] at n0
  have k3 : W.cell? ⟨g, 3, none⟩ = some (.slice (some ⟨bN, oN, none⟩) 1 nc) := HA.out.k0.cell 3
  go_upto_region 15 with (fail)
  have kx : W.cell? ⟨w.heap.size, 0, none⟩ = some (.slice A xs.length c) := HA.out.k1.cell 0
  have HN6 := hid n0
  have HKeep := hid (fun (W' : World) (hb : Below W.heap.size W W') => show W'.cell? ⟨w.heap.size, 0, none⟩ = some (.slice A xs.length c) ∧ W'.cell? ⟨g, 3, none⟩ = some (.slice (some ⟨bN, oN, none⟩) 1 nc) ∧ W'.cell? ⟨bN, oN, none⟩ = some (.int .i64 (y : Int)) from ⟨(HA.out.below hb).k1.cell 0, (HA.out.below hb).k0.cell 3, cell_later HN6.out hb⟩)
  have HbN := hid hnv
  go_region_held3 (fun W' => W'.cell? ⟨w.heap.size, 0, none⟩ = some (.slice A xs.length c) ∧ W'.cell? ⟨g, 3, none⟩ = some (.slice (some ⟨bN, oN, none⟩) 1 nc) ∧ W'.cell? ⟨bN, oN, none⟩ = some (.int .i64 (y : Int))) (first | exact HKeep.out _ (below_drewN (Below.refl _ _) 1) | exact HKeep.out _ HB2.out | exact HKeep.out _ HB3.out | exact HKeep.out _ HB4.out) (first | (go_at_call 66; refine (poSet_any _ xs (y : Int) _ (HV.out.below (below_drewN HA.out.bel 1)) hl10).mono ?_; rw [HSt.out]; rintro e W2 ⟨rfl, hb2⟩; have HB2 := hid (below_to (below_drewN (Below.refl _ W) 1) hb2); have HA2 := hid (HA.out.below HB2.out); clear hb2) | (go_at_call 67; refine (poIdeal_any _ xs y _ (HV.out.below HA2.out.bel) hl10 hy2 hsm).mono ?_; rw [HId.out]; rintro e W3 ⟨rfl, hb2⟩; have HB3 := hid (below_to HB2.out hb2); have HA3 := hid (HA.out.below HB3.out); clear hb2) | (go_at_call 78; refine (put_no g _ _).mono ?_; rintro e w3 ⟨rfl, hb3⟩; have HB4 := hid (below_to HB3.out hb3)))
  go_wp2
  go_ret
  exact ⟨.inl ⟨HAct.out, rfl, HA3.out.k0.below hb3 HA3.out.k0.lt⟩, TurnedIn.of_below (below_to HA3.out.bel hb3)⟩
set_option maxRecDepth 100000 in
set_option maxHeartbeats 1600000 in
theorem moved_5 (g : Nat) (v tv nv : Value) (xs : List Int) (s : Int) (F : ByteArray) (w : World) (hb : Blk w g 79 #[v, .int .i64 s, tv, nv]) (hv : Ints w v xs) (hid0 : okIdeal xs s = true) (hF : F.toList = [100, 117, 97, 108]) (ns p : List Int) (hnb : ∀ x ∈ ns, 0 ≤ x ∧ x ≤ 999999) (hn : Ints w nv ns) (htv : ∃ A n c, tv = .slice A n c)  :
    Calls Tryz.prog 47 #[.pointer (some ⟨g, 0, none⟩), .string F] w fun (r : Ending) w' => ResM 5 ns p xs s w.heap.size g v tv nv r w' ∧ TurnedIn g (g + 1) w w' := by
  have hgw : g < w.heap.size := hb.lt
  have HV := hid hv
  obtain ⟨z, hzs, hgx, hzl, hzi⟩ := okIdeal_all hid0
  have HI := hid hid0
  have hwf := wf_ideal hid0
  have HGx := hid hgx
  have HZ := hid (And.intro hzl hzi)
  have hl10 := (good_length hgx).2
  have hz1 : z < 1024 := Nat.lt_of_lt_of_le hzl (Nat.le_trans (Nat.pow_le_pow_right (by decide) hl10) (by decide))
  obtain ⟨A, c, rfl, -⟩ := hv
  have HN0 := hid hn
  obtain ⟨nA, nc, rfl, -⟩ := hn
  obtain ⟨tA, tn, tc, rfl⟩ := htv
  have HWf := hid hwf
  subst hzs
  have HAct : Hid (actD 5 ns p xs (z : Int) = some (dualL xs, ((duN xs.length z : Nat) : Int), ansTX (dualL xs))) := hid (by have := ansDU_yes (f := id) HI.out; simp only [actD, this]; rfl)
  have HA := hid (show AK w (w.alloc (.cells #[.slice A xs.length c] 28)).drew g (.slice A xs.length c) (z : Int) (.slice tA tn tc) (.slice nA ns.length nc) from (AK.new hb).below (below_drewN (Below.refl _ _) 1))
  have k0 : w.cell? ⟨g, 0, none⟩ = some (.slice A xs.length c) := hb.cell 0
  have k1 : w.cell? ⟨g, 1, none⟩ = some (.int .i64 (z : Int)) := hb.cell 1
  clear hb hid0 hgx hzl hzi hwf hnb
  go_enter Tryz.func47, Tryz.ntmps47
  go_upto_region 1 with (fail)
  go_region
  generalize (w.alloc (.cells #[.slice A xs.length c] 28)).drew = W at HA ⊢
  clear k0 k1
  have HVW := hid (HV.out.below HA.out.bel)
  have HWz : Hid (w.heap.size < W.heap.size) := hid HA.out.k1.lt
  go_upto_region 12 with (fail)
  have HAd := hid (show AK w W.drew g _ _ _ _ from HA.out.below (below_drewN (Below.refl _ W) 1))
  have HVd := hid (HV.out.below HAd.out.bel)
  have kx : W.cell? ⟨w.heap.size, 0, none⟩ = some (.slice A xs.length c) := HA.out.k1.cell 0
  go_region_with (first | (go_at_call 75; refine (poDual_any _ xs _ HVd.out HGx.out).mono ?_; rintro e W2 ⟨u, rfl, ho, hb2⟩; have HO := hid ho; obtain ⟨uA, un, uc, rfl⟩ := ho.shape3; have HA2 := hid (HAd.out.below hb2); have kx2 : W2.cell? ⟨w.heap.size, 0, none⟩ = some (.slice A xs.length c) := HA2.out.k1.cell 0; clear ho hb2) | (go_at_call 76; refine (rvDual_any _ xs z _ (HV.out.below HA2.out.bel) hl10 hz1).mono ?_; rintro e W3 ⟨rfl, hb2⟩; have HA3 := hid (HA2.out.below hb2); have HO3 := hid (HO.out.below hb2); have q0 : W3.cell? ⟨g, 0, none⟩ = some (.slice A xs.length c) := HA3.out.k0.cell 0; have q1 : W3.cell? ⟨g, 1, none⟩ = some (.int .i64 (z : Int)) := HA3.out.k0.cell 1; have qf0 := HA3.out.k0.frozen 0; have qf1 := HA3.out.k0.frozen 1; clear hb2))
  all_goals
    have HK4 := hid (show Blk ((W3.setCell ⟨g, 0, none⟩ (.slice uA un uc)).setCell ⟨g, 1, none⟩ (.int .i64 ((duN xs.length z : Nat) : Int))) g 79 #[.slice uA un uc, .int .i64 ((duN xs.length z : Nat) : Int), .slice tA tn tc, .slice nA ns.length nc] from (HA3.out.k0.set_ 0 _).set_ 1 _)
    have HT4 := hid (((TurnedIn.of_below HA3.out.bel).set_ ⟨g, 0, none⟩ ⟨Nat.le_refl _, Nat.lt_succ_self _⟩ (.slice uA un uc)).set_ ⟨g, 1, none⟩ ⟨Nat.le_refl _, Nat.lt_succ_self _⟩ (.int .i64 ((duN xs.length z : Nat) : Int)) : TurnedIn g (g + 1) w _)
    have hgz : g < W.drew.heap.size := by have h2 := HWz.out; have h3 : W.drew.heap.size = W.heap.size := rfl; omega
    have HO4 := hid (own_setX (own_setX HO3.out hgz 0 (.slice uA un uc)) hgz 1 (.int .i64 ((duN xs.length z : Nat) : Int)))
    have hbz : w.heap.size ≤ W.drew.heap.size := by have h2 := HWz.out; have h3 : W.drew.heap.size = W.heap.size := rfl; omega
    clear q0 q1 qf0 qf1
    generalize (W3.setCell ⟨g, 0, none⟩ (.slice uA un uc)).setCell ⟨g, 1, none⟩ (.int .i64 ((duN xs.length z : Nat) : Int)) = W4 at HK4 HT4 HO4 ⊢
    have q0 : W4.cell? ⟨g, 0, none⟩ = some (.slice uA un uc) := HK4.out.cell 0
    go_wp2_with fail
    clear q0
    refine (poText_any _ (dualL xs) _ HO4.out.ints (dualD_good HGx.out)).mono ?_
    rintro e W5 ⟨rfl, hb5⟩
    go_wp2
    go_ret
    refine ⟨.inr ⟨_, _, _, _, HAct.out, ret_s (by rw [ansTX_yes (dualD_good HGx.out)]), HK4.out.below hb5 HK4.out.lt, .inr (.inr ((HO4.out.below hb5).mono hbz))⟩, HT4.out.belowB hb5 (by have := HT4.out.size; omega)⟩
end Go.Proofs.YtbmhaamenjhjfaaGreatDoor
