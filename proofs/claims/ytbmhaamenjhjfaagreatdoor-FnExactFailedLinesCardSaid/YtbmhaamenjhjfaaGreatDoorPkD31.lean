/- DskJ -/
import Derived.Deep.RegionWith
import Derived.Test.YtbmhaamenjhjfaaGreatDoorPkD30
namespace Go.Proofs.YtbmhaamenjhjfaaGreatDoor
open Go.RowKit Go.WideShapes Go.ChangeShapes
set_option linter.unusedVariables false
theorem reachD {xs : List Int} {s : Int} (h : okIdeal xs s = true) : 0 ≤ s ∧ s ≤ 1000000000000 := by
  obtain ⟨z, rfl, hg, hz, -⟩ := okIdeal_all h
  have h1 := (good_length hg).2
  have h2 : 2 ^ xs.length ≤ 2 ^ 10 := Nat.pow_le_pow_right (by decide) h1
  have h3 : (2 : Nat) ^ 10 = 1024 := by decide
  omega
def ResM (c : Nat) (ns p xs : List Int) (s : Int) (n g : Nat) (v tv nv : Value) (r : Ending) (w' : World) : Prop :=
  (actD c ns p xs s = none ∧ r = .returned (.string { data := #[110, 111] }) ∧ Blk w' g 79 #[v, .int .i64 s, tv, nv]) ∨
  ∃ xs' s' t u, actD c ns p xs s = some (xs', s', t) ∧ r = .returned (.string (sB t)) ∧ Blk w' g 79 #[u, .int .i64 s', tv, nv] ∧ ((u = v ∧ xs' = xs) ∨ (c = 1 ∧ u = tv ∧ xs' = p) ∨ OwnI 3 w' n u xs')
theorem AK.turned {w W W' : World} {g : Nat} {dv : Value} {s : Int} {tv nv : Value} (h : AK w W g dv s tv nv) (hg : g < w.heap.size) : TurnedIn g (g + 1) w W := TurnedIn.of_below h.bel
theorem OwnI.turnedG {e : TypeId} {w w' : World} {B g : Nat} {u : Value} {xs : List Int} (h : OwnI e w B u xs) (ht : TurnedIn g (g + 1) w w') (hg : g < B) : OwnI e w' B u xs := h.turned ht (OwnI.blockLt h) (Or.inr hg)
set_option maxRecDepth 100000 in
set_option maxHeartbeats 1600000 in
theorem moved_8 (g : Nat) (v tv nv : Value) (xs : List Int) (s : Int) (F : ByteArray) (w : World) (hb : Blk w g 79 #[v, .int .i64 s, tv, nv]) (hv : Ints w v xs) (hid0 : okIdeal xs s = true) (hF : F.toList = [114, 111, 119]) (ns p : List Int) (hnb : ∀ x ∈ ns, 0 ≤ x ∧ x ≤ 999999) (hn : Ints w nv ns) (htv : ∃ A n c, tv = .slice A n c)  :
    Calls Tryz.prog 47 #[.pointer (some ⟨g, 0, none⟩), .string F] w fun (r : Ending) w' => ResM 8 ns p xs s w.heap.size g v tv nv r w' ∧ TurnedIn g (g + 1) w w' := by
  have hgw : g < w.heap.size := hb.lt
  have HV := hid hv
  obtain ⟨z, hzs, hgx, hzl, hzi⟩ := okIdeal_all hid0
  have HI := hid hid0
  have hwf := wf_ideal hid0
  have HGx := hid hgx
  have HZ := hid (And.intro hzl hzi)
  have hl10 := (good_length hgx).2
  have hz1 : z < 1024 := Nat.lt_of_lt_of_le hzl (Nat.le_trans (Nat.pow_le_pow_right (by decide) hl10) (by decide))
  obtain ⟨A, c, rfl, -⟩ := hv
  have HN0 := hid hn
  obtain ⟨nA, nc, rfl, -⟩ := hn
  obtain ⟨tA, tn, tc, rfl⟩ := htv
  have HWf := hid hwf
  subst hzs
  have HA := hid (show AK w (w.alloc (.cells #[.slice A xs.length c] 28)).drew g (.slice A xs.length c) (z : Int) (.slice tA tn tc) (.slice nA ns.length nc) from (AK.new hb).below (below_drewN (Below.refl _ _) 1))
  have k0 : w.cell? ⟨g, 0, none⟩ = some (.slice A xs.length c) := hb.cell 0
  have k1 : w.cell? ⟨g, 1, none⟩ = some (.int .i64 (z : Int)) := hb.cell 1
  clear hb hid0 hgx hzl hzi hwf hnb
  go_enter Tryz.func47, Tryz.ntmps47
  go_upto_region 1 with (fail)
  go_region
  generalize (w.alloc (.cells #[.slice A xs.length c] 28)).drew = W at HA ⊢
  clear k0 k1
  have HVW := hid (HV.out.below HA.out.bel)
  have HWz : Hid (w.heap.size < W.heap.size) := hid HA.out.k1.lt
  have kx : W.cell? ⟨w.heap.size, 0, none⟩ = some (.slice A xs.length c) := HA.out.k1.cell 0
  go_wp2_with fail
  clear kx
  refine (tgRow_any _ xs z _ HVW.out HGx.out HZ.out.1).mono ?_
  rintro e W2 ⟨rfl, hb2⟩
  have hlt : rowmo xs z < 1024 := Nat.lt_of_lt_of_le (rowmo_lt HGx.out z) (Nat.le_trans (Nat.pow_le_pow_right (by decide) hl10) (by decide))
  have HAct : Hid (actD 8 ns p xs (z : Int) = some (xs, ((rowmo xs z : Nat) : Int), numT ((rowmo xs z : Nat) : Int))) := hid (by have := ansRow_yes (f := rowmo) HI.out; simp only [actD, putD, this]; rfl)
  have HA2 := hid (HA.out.below hb2)
  clear hb2
  go_wp2_with fail
  refine (put_yes g _ _ _ _ _ _ HA2.out.k0 (by omega) (by omega)).mono ?_
  rintro e w3 ⟨rfl, hk3, ht3⟩
  go_wp2
  go_ret
  exact ⟨.inr ⟨_, _, _, _, HAct.out, rfl, hk3, .inl ⟨rfl, rfl⟩⟩, (TurnedIn.of_below HA2.out.bel).trans ht3⟩
set_option maxRecDepth 100000 in
set_option maxHeartbeats 1600000 in
theorem moved_9 (g : Nat) (v tv nv : Value) (xs : List Int) (s : Int) (F : ByteArray) (w : World) (hb : Blk w g 79 #[v, .int .i64 s, tv, nv]) (hv : Ints w v xs) (hid0 : okIdeal xs s = true) (hF : F.toList = [98, 97, 99, 107]) (ns p : List Int) (hnb : ∀ x ∈ ns, 0 ≤ x ∧ x ≤ 999999) (hn : Ints w nv ns) (htv : ∃ A n c, tv = .slice A n c)  :
    Calls Tryz.prog 47 #[.pointer (some ⟨g, 0, none⟩), .string F] w fun (r : Ending) w' => ResM 9 ns p xs s w.heap.size g v tv nv r w' ∧ TurnedIn g (g + 1) w w' := by
  have hgw : g < w.heap.size := hb.lt
  have HV := hid hv
  obtain ⟨z, hzs, hgx, hzl, hzi⟩ := okIdeal_all hid0
  have HI := hid hid0
  have hwf := wf_ideal hid0
  have HGx := hid hgx
  have HZ := hid (And.intro hzl hzi)
  have hl10 := (good_length hgx).2
  have hz1 : z < 1024 := Nat.lt_of_lt_of_le hzl (Nat.le_trans (Nat.pow_le_pow_right (by decide) hl10) (by decide))
  obtain ⟨A, c, rfl, -⟩ := hv
  have HN0 := hid hn
  obtain ⟨nA, nc, rfl, -⟩ := hn
  obtain ⟨tA, tn, tc, rfl⟩ := htv
  have HWf := hid hwf
  subst hzs
  have HA := hid (show AK w (w.alloc (.cells #[.slice A xs.length c] 28)).drew g (.slice A xs.length c) (z : Int) (.slice tA tn tc) (.slice nA ns.length nc) from (AK.new hb).below (below_drewN (Below.refl _ _) 1))
  have k0 : w.cell? ⟨g, 0, none⟩ = some (.slice A xs.length c) := hb.cell 0
  have k1 : w.cell? ⟨g, 1, none⟩ = some (.int .i64 (z : Int)) := hb.cell 1
  clear hb hid0 hgx hzl hzi hwf hnb
  go_enter Tryz.func47, Tryz.ntmps47
  go_upto_region 1 with (fail)
  go_region
  generalize (w.alloc (.cells #[.slice A xs.length c] 28)).drew = W at HA ⊢
  clear k0 k1
  have HVW := hid (HV.out.below HA.out.bel)
  have HWz : Hid (w.heap.size < W.heap.size) := hid HA.out.k1.lt
  have kx : W.cell? ⟨w.heap.size, 0, none⟩ = some (.slice A xs.length c) := HA.out.k1.cell 0
  go_wp2_with fail
  clear kx
  refine (tgBack_any _ xs z _ HVW.out HGx.out HZ.out.1).mono ?_
  rintro e W2 ⟨rfl, hb2⟩
  have hlt : rowba xs z < 1024 := Nat.lt_of_lt_of_le (rowba_lt xs z) (Nat.le_trans (Nat.pow_le_pow_right (by decide) hl10) (by decide))
  have HAct : Hid (actD 9 ns p xs (z : Int) = some (xs, ((rowba xs z : Nat) : Int), numT ((rowba xs z : Nat) : Int))) := hid (by have := ansRow_yes (f := rowba) HI.out; simp only [actD, putD, this]; rfl)
  have HA2 := hid (HA.out.below hb2)
  clear hb2
  go_wp2_with fail
  refine (put_yes g _ _ _ _ _ _ HA2.out.k0 (by omega) (by omega)).mono ?_
  rintro e w3 ⟨rfl, hk3, ht3⟩
  go_wp2
  go_ret
  exact ⟨.inr ⟨_, _, _, _, HAct.out, rfl, hk3, .inl ⟨rfl, rfl⟩⟩, (TurnedIn.of_below HA2.out.bel).trans ht3⟩
set_option maxRecDepth 100000 in
set_option maxHeartbeats 1600000 in
theorem moved_11_no (g : Nat) (v tv nv : Value) (xs : List Int) (s : Int) (F : ByteArray) (w : World) (hb : Blk w g 79 #[v, .int .i64 s, tv, nv]) (hv : Ints w v xs) (hid0 : okIdeal xs s = true) (hF : F.toList = [118, 97, 99, 117, 97, 116, 101]) (ns p : List Int) (hnb : ∀ x ∈ ns, 0 ≤ x ∧ x ≤ 999999) (hn : Ints w nv ns) (htv : ∃ A n c, tv = .slice A n c) (hok : okRI xs s = false) :
    Calls Tryz.prog 47 #[.pointer (some ⟨g, 0, none⟩), .string F] w fun (r : Ending) w' => ResM 11 ns p xs s w.heap.size g v tv nv r w' ∧ TurnedIn g (g + 1) w w' := by
  have hgw : g < w.heap.size := hb.lt
  have HV := hid hv
  obtain ⟨z, hzs, hgx, hzl, hzi⟩ := okIdeal_all hid0
  have HI := hid hid0
  have hwf := wf_ideal hid0
  have HGx := hid hgx
  have HZ := hid (And.intro hzl hzi)
  have hl10 := (good_length hgx).2
  have hz1 : z < 1024 := Nat.lt_of_lt_of_le hzl (Nat.le_trans (Nat.pow_le_pow_right (by decide) hl10) (by decide))
  obtain ⟨A, c, rfl, -⟩ := hv
  have HN0 := hid hn
  obtain ⟨nA, nc, rfl, -⟩ := hn
  obtain ⟨tA, tn, tc, rfl⟩ := htv
  have HWf := hid hwf
  have HOk := hid hok
  clear hok
  have HA := hid (show AK w (w.alloc (.cells #[.slice A xs.length c] 28)).drew g (.slice A xs.length c) s (.slice tA tn tc) (.slice nA ns.length nc) from (AK.new hb).below (below_drewN (Below.refl _ _) 1))
  have k0 : w.cell? ⟨g, 0, none⟩ = some (.slice A xs.length c) := hb.cell 0
  have k1 : w.cell? ⟨g, 1, none⟩ = some (.int .i64 s) := hb.cell 1
  clear hb hid0 hgx hzl hzi hwf hnb hzs
  go_enter Tryz.func47, Tryz.ntmps47
  go_upto_region 1 with (fail)
  go_region
  generalize (w.alloc (.cells #[.slice A xs.length c] 28)).drew = W at HA ⊢
  clear k0 k1
  have HVW := hid (HV.out.below HA.out.bel)
  have HWz : Hid (w.heap.size < W.heap.size) := hid HA.out.k1.lt
  have kx : W.cell? ⟨w.heap.size, 0, none⟩ = some (.slice A xs.length c) := HA.out.k1.cell 0
  go_wp2_with fail
  clear kx
  refine (specRowvacuation_any _ xs s _ HVW.out (by omega) HWf.out).mono ?_
  rw [HOk.out]
  rintro e W2 ⟨rfl, hb2⟩
  have HAct : Hid (actD 11 ns p xs s = none) := hid (by simp only [actD, putD, HOk.out]; rfl)
  have HA2 := hid (HA.out.below hb2)
  clear hb2
  go_wp2_with fail
  refine (put_no g _ _).mono ?_
  rintro e w3 ⟨rfl, hb3⟩
  go_wp2
  go_ret
  exact ⟨.inl ⟨HAct.out, rfl, HA2.out.k0.below hb3 HA2.out.k0.lt⟩, TurnedIn.of_below (below_to HA2.out.bel hb3)⟩
set_option maxRecDepth 100000 in
set_option maxHeartbeats 1600000 in
theorem moved_11_yes (g : Nat) (v tv nv : Value) (xs : List Int) (s : Int) (F : ByteArray) (w : World) (hb : Blk w g 79 #[v, .int .i64 s, tv, nv]) (hv : Ints w v xs) (hid0 : okIdeal xs s = true) (hF : F.toList = [118, 97, 99, 117, 97, 116, 101]) (ns p : List Int) (hnb : ∀ x ∈ ns, 0 ≤ x ∧ x ≤ 999999) (hn : Ints w nv ns) (htv : ∃ A n c, tv = .slice A n c) (hok : okRI xs s = true) :
    Calls Tryz.prog 47 #[.pointer (some ⟨g, 0, none⟩), .string F] w fun (r : Ending) w' => ResM 11 ns p xs s w.heap.size g v tv nv r w' ∧ TurnedIn g (g + 1) w w' := by
  have hgw : g < w.heap.size := hb.lt
  have HV := hid hv
  obtain ⟨z, hzs, hgx, hzl, hzi⟩ := okIdeal_all hid0
  have HI := hid hid0
  have hwf := wf_ideal hid0
  have HGx := hid hgx
  have HZ := hid (And.intro hzl hzi)
  have hl10 := (good_length hgx).2
  have hz1 : z < 1024 := Nat.lt_of_lt_of_le hzl (Nat.le_trans (Nat.pow_le_pow_right (by decide) hl10) (by decide))
  obtain ⟨A, c, rfl, -⟩ := hv
  have HN0 := hid hn
  obtain ⟨nA, nc, rfl, -⟩ := hn
  obtain ⟨tA, tn, tc, rfl⟩ := htv
  have HWf := hid hwf
  have HOk := hid hok
  clear hok
  have HA := hid (show AK w (w.alloc (.cells #[.slice A xs.length c] 28)).drew g (.slice A xs.length c) s (.slice tA tn tc) (.slice nA ns.length nc) from (AK.new hb).below (below_drewN (Below.refl _ _) 1))
  have k0 : w.cell? ⟨g, 0, none⟩ = some (.slice A xs.length c) := hb.cell 0
  have k1 : w.cell? ⟨g, 1, none⟩ = some (.int .i64 s) := hb.cell 1
  clear hb hid0 hgx hzl hzi hwf hnb hzs
  go_enter Tryz.func47, Tryz.ntmps47
  go_upto_region 1 with (fail)
  go_region
  generalize (w.alloc (.cells #[.slice A xs.length c] 28)).drew = W at HA ⊢
  clear k0 k1
  have HVW := hid (HV.out.below HA.out.bel)
  have HWz : Hid (w.heap.size < W.heap.size) := hid HA.out.k1.lt
  have kx : W.cell? ⟨w.heap.size, 0, none⟩ = some (.slice A xs.length c) := HA.out.k1.cell 0
  go_wp2_with fail
  clear kx
  refine (specRowvacuation_any _ xs s _ HVW.out (by omega) HWf.out).mono ?_
  rw [HOk.out]
  rintro e W2 ⟨rfl, hb2⟩
  have HAct : Hid (actD 11 ns p xs s = some (xs, ansSW wVac xs s, numT (ansSW wVac xs s))) := hid (by simp only [actD, putD, HOk.out]; rfl)
  have HB := hid (reachD (actD_inv HI.out (fun h => by omega) HAct.out).1)
  have hB := HB.out
  obtain ⟨R, hR⟩ : ∃ R, ansSW wVac xs s = R := ⟨_, rfl⟩
  rw [hR] at HAct hB ⊢
  clear hR HB
  have HA2 := hid (HA.out.below hb2)
  clear hb2
  go_wp2_with fail
  refine (put_yes g _ _ _ _ _ _ HA2.out.k0 (by omega) (by omega)).mono ?_
  rintro e w3 ⟨rfl, hk3, ht3⟩
  go_wp2
  go_ret
  exact ⟨.inr ⟨_, _, _, _, HAct.out, rfl, hk3, .inl ⟨rfl, rfl⟩⟩, (TurnedIn.of_below HA2.out.bel).trans ht3⟩
set_option maxRecDepth 100000 in
set_option maxHeartbeats 1600000 in
theorem moved_12_no (g : Nat) (v tv nv : Value) (xs : List Int) (s : Int) (F : ByteArray) (w : World) (hb : Blk w g 79 #[v, .int .i64 s, tv, nv]) (hv : Ints w v xs) (hid0 : okIdeal xs s = true) (hF : F.toList = [103, 121, 114, 97, 116, 101]) (ns p : List Int) (hnb : ∀ x ∈ ns, 0 ≤ x ∧ x ≤ 999999) (hn : Ints w nv ns) (htv : ∃ A n c, tv = .slice A n c) (hok : okRI xs s = false) :
    Calls Tryz.prog 47 #[.pointer (some ⟨g, 0, none⟩), .string F] w fun (r : Ending) w' => ResM 12 ns p xs s w.heap.size g v tv nv r w' ∧ TurnedIn g (g + 1) w w' := by
  have hgw : g < w.heap.size := hb.lt
  have HV := hid hv
  obtain ⟨z, hzs, hgx, hzl, hzi⟩ := okIdeal_all hid0
  have HI := hid hid0
  have hwf := wf_ideal hid0
  have HGx := hid hgx
  have HZ := hid (And.intro hzl hzi)
  have hl10 := (good_length hgx).2
  have hz1 : z < 1024 := Nat.lt_of_lt_of_le hzl (Nat.le_trans (Nat.pow_le_pow_right (by decide) hl10) (by decide))
  obtain ⟨A, c, rfl, -⟩ := hv
  have HN0 := hid hn
  obtain ⟨nA, nc, rfl, -⟩ := hn
  obtain ⟨tA, tn, tc, rfl⟩ := htv
  have HWf := hid hwf
  have HOk := hid hok
  clear hok
  have HA := hid (show AK w (w.alloc (.cells #[.slice A xs.length c] 28)).drew g (.slice A xs.length c) s (.slice tA tn tc) (.slice nA ns.length nc) from (AK.new hb).below (below_drewN (Below.refl _ _) 1))
  have k0 : w.cell? ⟨g, 0, none⟩ = some (.slice A xs.length c) := hb.cell 0
  have k1 : w.cell? ⟨g, 1, none⟩ = some (.int .i64 s) := hb.cell 1
  clear hb hid0 hgx hzl hzi hwf hnb hzs
  go_enter Tryz.func47, Tryz.ntmps47
  go_upto_region 1 with (fail)
  go_region
  generalize (w.alloc (.cells #[.slice A xs.length c] 28)).drew = W at HA ⊢
  clear k0 k1
  have HVW := hid (HV.out.below HA.out.bel)
  have HWz : Hid (w.heap.size < W.heap.size) := hid HA.out.k1.lt
  have kx : W.cell? ⟨w.heap.size, 0, none⟩ = some (.slice A xs.length c) := HA.out.k1.cell 0
  go_wp2_with fail
  clear kx
  refine (specGyrateIdeal_any _ xs s _ HVW.out (by omega) HWf.out).mono ?_
  rw [HOk.out]
  rintro e W2 ⟨rfl, hb2⟩
  have HAct : Hid (actD 12 ns p xs s = none) := hid (by simp only [actD, putD, HOk.out]; rfl)
  have HA2 := hid (HA.out.below hb2)
  clear hb2
  go_wp2_with fail
  refine (put_no g _ _).mono ?_
  rintro e w3 ⟨rfl, hb3⟩
  go_wp2
  go_ret
  exact ⟨.inl ⟨HAct.out, rfl, HA2.out.k0.below hb3 HA2.out.k0.lt⟩, TurnedIn.of_below (below_to HA2.out.bel hb3)⟩
set_option maxRecDepth 100000 in
set_option maxHeartbeats 1600000 in
theorem moved_12_yes (g : Nat) (v tv nv : Value) (xs : List Int) (s : Int) (F : ByteArray) (w : World) (hb : Blk w g 79 #[v, .int .i64 s, tv, nv]) (hv : Ints w v xs) (hid0 : okIdeal xs s = true) (hF : F.toList = [103, 121, 114, 97, 116, 101]) (ns p : List Int) (hnb : ∀ x ∈ ns, 0 ≤ x ∧ x ≤ 999999) (hn : Ints w nv ns) (htv : ∃ A n c, tv = .slice A n c) (hok : okRI xs s = true) :
    Calls Tryz.prog 47 #[.pointer (some ⟨g, 0, none⟩), .string F] w fun (r : Ending) w' => ResM 12 ns p xs s w.heap.size g v tv nv r w' ∧ TurnedIn g (g + 1) w w' := by
  have hgw : g < w.heap.size := hb.lt
  have HV := hid hv
  obtain ⟨z, hzs, hgx, hzl, hzi⟩ := okIdeal_all hid0
  have HI := hid hid0
  have hwf := wf_ideal hid0
  have HGx := hid hgx
  have HZ := hid (And.intro hzl hzi)
  have hl10 := (good_length hgx).2
  have hz1 : z < 1024 := Nat.lt_of_lt_of_le hzl (Nat.le_trans (Nat.pow_le_pow_right (by decide) hl10) (by decide))
  obtain ⟨A, c, rfl, -⟩ := hv
  have HN0 := hid hn
  obtain ⟨nA, nc, rfl, -⟩ := hn
  obtain ⟨tA, tn, tc, rfl⟩ := htv
  have HWf := hid hwf
  have HOk := hid hok
  clear hok
  have HA := hid (show AK w (w.alloc (.cells #[.slice A xs.length c] 28)).drew g (.slice A xs.length c) s (.slice tA tn tc) (.slice nA ns.length nc) from (AK.new hb).below (below_drewN (Below.refl _ _) 1))
  have k0 : w.cell? ⟨g, 0, none⟩ = some (.slice A xs.length c) := hb.cell 0
  have k1 : w.cell? ⟨g, 1, none⟩ = some (.int .i64 s) := hb.cell 1
  clear hb hid0 hgx hzl hzi hwf hnb hzs
  go_enter Tryz.func47, Tryz.ntmps47
  go_upto_region 1 with (fail)
  go_region
  generalize (w.alloc (.cells #[.slice A xs.length c] 28)).drew = W at HA ⊢
  clear k0 k1
  have HVW := hid (HV.out.below HA.out.bel)
  have HWz : Hid (w.heap.size < W.heap.size) := hid HA.out.k1.lt
  have kx : W.cell? ⟨w.heap.size, 0, none⟩ = some (.slice A xs.length c) := HA.out.k1.cell 0
  go_wp2_with fail
  clear kx
  refine (specGyrateIdeal_any _ xs s _ HVW.out (by omega) HWf.out).mono ?_
  rw [HOk.out]
  rintro e W2 ⟨rfl, hb2⟩
  have HAct : Hid (actD 12 ns p xs s = some (xs, ansSW wGyr xs s, numT (ansSW wGyr xs s))) := hid (by simp only [actD, putD, HOk.out]; rfl)
  have HB := hid (reachD (actD_inv HI.out (fun h => by omega) HAct.out).1)
  have hB := HB.out
  obtain ⟨R, hR⟩ : ∃ R, ansSW wGyr xs s = R := ⟨_, rfl⟩
  rw [hR] at HAct hB ⊢
  clear hR HB
  have HA2 := hid (HA.out.below hb2)
  clear hb2
  go_wp2_with fail
  refine (put_yes g _ _ _ _ _ _ HA2.out.k0 (by omega) (by omega)).mono ?_
  rintro e w3 ⟨rfl, hk3, ht3⟩
  go_wp2
  go_ret
  exact ⟨.inr ⟨_, _, _, _, HAct.out, rfl, hk3, .inl ⟨rfl, rfl⟩⟩, (TurnedIn.of_below HA2.out.bel).trans ht3⟩
set_option maxRecDepth 100000 in
set_option maxHeartbeats 1600000 in
theorem moved_1 (g : Nat) (v tv nv : Value) (xs : List Int) (s : Int) (F : ByteArray) (w : World) (hb : Blk w g 79 #[v, .int .i64 s, tv, nv]) (hv : Ints w v xs) (hid0 : okIdeal xs s = true) (hF : F.toList = [112, 111, 115, 101, 116]) (ns p : List Int) (hnb : ∀ x ∈ ns, 0 ≤ x ∧ x ≤ 999999) (hn : Ints w nv ns) (htv : ∃ A n c, tv = .slice A n c) (hp : Ints w tv p) (hgd : good p = true) (hne : ∀ k, tv.ownBlock = some k → k ≠ g) :
    Calls Tryz.prog 47 #[.pointer (some ⟨g, 0, none⟩), .string F] w fun (r : Ending) w' => ResM 1 ns p xs s w.heap.size g v tv nv r w' ∧ TurnedIn g (g + 1) w w' := by
  have hgw : g < w.heap.size := hb.lt
  have HV := hid hv
  obtain ⟨z, hzs, hgx, hzl, hzi⟩ := okIdeal_all hid0
  have HI := hid hid0
  have hwf := wf_ideal hid0
  have HGx := hid hgx
  have HZ := hid (And.intro hzl hzi)
  have hl10 := (good_length hgx).2
  have hz1 : z < 1024 := Nat.lt_of_lt_of_le hzl (Nat.le_trans (Nat.pow_le_pow_right (by decide) hl10) (by decide))
  obtain ⟨A, c, rfl, -⟩ := hv
  have HN0 := hid hn
  obtain ⟨nA, nc, rfl, -⟩ := hn
  obtain ⟨tA, tn, tc, rfl⟩ := htv
  have HWf := hid hwf
  have HP := hid hp
  have HGd := hid hgd
  have HNe := hid hne
  clear hp hgd hne
  have HA := hid (show AK w (w.alloc (.cells #[.slice A xs.length c] 28)).drew g (.slice A xs.length c) s (.slice tA tn tc) (.slice nA ns.length nc) from (AK.new hb).below (below_drewN (Below.refl _ _) 1))
  have k0 : w.cell? ⟨g, 0, none⟩ = some (.slice A xs.length c) := hb.cell 0
  have k1 : w.cell? ⟨g, 1, none⟩ = some (.int .i64 s) := hb.cell 1
  clear hb hid0 hgx hzl hzi hwf hnb hzs
  go_enter Tryz.func47, Tryz.ntmps47
  go_upto_region 1 with (fail)
  go_region
  generalize (w.alloc (.cells #[.slice A xs.length c] 28)).drew = W at HA ⊢
  clear k0 k1
  have HVW := hid (HV.out.below HA.out.bel)
  have HWz : Hid (w.heap.size < W.heap.size) := hid HA.out.k1.lt
  have k2 : W.cell? ⟨g, 2, none⟩ = some (.slice tA tn tc) := HA.out.k0.cell 2
  go_wp2_with fail
  clear k2
  refine (stand_yes g _ _ _ _ _ p _ HA.out.k0 (HP.out.below HA.out.bel) HGd.out HNe.out).mono ?_
  rintro e w3 ⟨rfl, hk3, ht3⟩
  go_wp2
  go_ret
  exact ⟨.inr ⟨_, _, _, _, rfl, rfl, hk3, .inr (.inl ⟨rfl, rfl, rfl⟩)⟩, (TurnedIn.of_below HA.out.bel).trans ht3⟩
set_option maxRecDepth 100000 in
set_option maxHeartbeats 1600000 in
theorem moved_3_no (g : Nat) (v tv nv : Value) (xs : List Int) (s : Int) (F : ByteArray) (w : World) (hb : Blk w g 79 #[v, .int .i64 s, tv, nv]) (hv : Ints w v xs) (hid0 : okIdeal xs s = true) (hF : F.toList = [115, 116, 97, 105, 114, 115]) (ns p : List Int) (hnb : ∀ x ∈ ns, 0 ≤ x ∧ x ≤ 999999) (hn : Ints w nv ns) (htv : ∃ A n c, tv = .slice A n c) (hns : ns.length = 1) (hok : (decide (1 ≤ ns.getD 0 0) && decide (ns.getD 0 0 ≤ 4)) = false) :
    Calls Tryz.prog 47 #[.pointer (some ⟨g, 0, none⟩), .string F] w fun (r : Ending) w' => ResM 3 ns p xs s w.heap.size g v tv nv r w' ∧ TurnedIn g (g + 1) w w' := by
  have hgw : g < w.heap.size := hb.lt
  have HV := hid hv
  obtain ⟨z, hzs, hgx, hzl, hzi⟩ := okIdeal_all hid0
  have HI := hid hid0
  have hwf := wf_ideal hid0
  have HGx := hid hgx
  have HZ := hid (And.intro hzl hzi)
  have hl10 := (good_length hgx).2
  have hz1 : z < 1024 := Nat.lt_of_lt_of_le hzl (Nat.le_trans (Nat.pow_le_pow_right (by decide) hl10) (by decide))
  obtain ⟨A, c, rfl, -⟩ := hv
  have HN0 := hid hn
  obtain ⟨nA, nc, rfl, -⟩ := hn
  obtain ⟨tA, tn, tc, rfl⟩ := htv
  have HWf := hid hwf
  have HOk := hid hok
  have HAct : Hid (actD 3 ns p xs s = none) := hid (by simp only [actD, stdD, hok]; rfl)
  clear hok
  have HNs := hid hns
  have HNb := hid hnb
  obtain ⟨bN, oN, rfl⟩ := ints_addrD HN0.out (by intro h0; rw [h0] at hns; simp at hns)
  obtain ⟨x0, hx0⟩ : ∃ x, ns.getD 0 0 = x := ⟨_, rfl⟩
  have hr0 := bound_get hnb 0
  rw [hx0] at hr0 HOk
  have HX0 := hid hx0
  rw [hns] at HN0 hb ⊢
  clear hns hx0
  have HA := hid (show AK w (w.alloc (.cells #[.slice A xs.length c] 28)).drew g (.slice A xs.length c) s (.slice tA tn tc) (.slice (some ⟨bN, oN, none⟩) 1 nc) from (AK.new hb).below (below_drewN (Below.refl _ _) 1))
  have k0 : w.cell? ⟨g, 0, none⟩ = some (.slice A xs.length c) := hb.cell 0
  have k1 : w.cell? ⟨g, 1, none⟩ = some (.int .i64 s) := hb.cell 1
  clear hb hid0 hgx hzl hzi hwf hnb hzs
  go_enter Tryz.func47, Tryz.ntmps47
  go_upto_region 1 with (fail)
  go_region
  generalize (w.alloc (.cells #[.slice A xs.length c] 28)).drew = W at HA ⊢
  clear k0 k1
  have HVW := hid (HV.out.below HA.out.bel)
  have HWz : Hid (w.heap.size < W.heap.size) := hid HA.out.k1.lt
  have HNW := hid (HN0.out.below HA.out.bel)
  have n0 := ints_cellD HNW.out (j := 0) (by rw [HNs.out]; decide)
  rw [HX0.out, Nat.add_zero] at n0
  have k3 : W.cell? ⟨g, 3, none⟩ = some (.slice (some ⟨bN, oN, none⟩) 1 nc) := HA.out.k0.cell 3
  go_wp2_with fail
  clear n0 k3
  refine (specStaircase_any x0 _ (wf_i64D _ (by omega) (by omega))).mono ?_
  rw [HOk.out]
  rintro e W2 ⟨u, rfl, ho, -, hb2⟩
  have HO := hid ho
  obtain ⟨uA, un, uc, rfl⟩ := ho.shape3
  have HA2 := hid (HA.out.below hb2)
  clear ho hb2
  go_wp2_with fail
  refine (stand_no g _ _ ⟨_, _, _, rfl⟩).mono ?_
  rintro e w3 ⟨rfl, hb3⟩
  go_wp2
  go_ret
  exact ⟨.inl ⟨HAct.out, rfl, HA2.out.k0.below hb3 HA2.out.k0.lt⟩, TurnedIn.of_below (below_to HA2.out.bel hb3)⟩
set_option maxRecDepth 100000 in
set_option maxHeartbeats 1600000 in
theorem moved_3_yes (g : Nat) (v tv nv : Value) (xs : List Int) (s : Int) (F : ByteArray) (w : World) (hb : Blk w g 79 #[v, .int .i64 s, tv, nv]) (hv : Ints w v xs) (hid0 : okIdeal xs s = true) (hF : F.toList = [115, 116, 97, 105, 114, 115]) (ns p : List Int) (hnb : ∀ x ∈ ns, 0 ≤ x ∧ x ≤ 999999) (hn : Ints w nv ns) (htv : ∃ A n c, tv = .slice A n c) (hns : ns.length = 1) (hok : (decide (1 ≤ ns.getD 0 0) && decide (ns.getD 0 0 ≤ 4)) = true) :
    Calls Tryz.prog 47 #[.pointer (some ⟨g, 0, none⟩), .string F] w fun (r : Ending) w' => ResM 3 ns p xs s w.heap.size g v tv nv r w' ∧ TurnedIn g (g + 1) w w' := by
  have hgw : g < w.heap.size := hb.lt
  have HV := hid hv
  obtain ⟨z, hzs, hgx, hzl, hzi⟩ := okIdeal_all hid0
  have HI := hid hid0
  have hwf := wf_ideal hid0
  have HGx := hid hgx
  have HZ := hid (And.intro hzl hzi)
  have hl10 := (good_length hgx).2
  have hz1 : z < 1024 := Nat.lt_of_lt_of_le hzl (Nat.le_trans (Nat.pow_le_pow_right (by decide) hl10) (by decide))
  obtain ⟨A, c, rfl, -⟩ := hv
  have HN0 := hid hn
  obtain ⟨nA, nc, rfl, -⟩ := hn
  obtain ⟨tA, tn, tc, rfl⟩ := htv
  have HWf := hid hwf
  have HOk := hid hok
  have HGd := hid (stcD_good hok)
  have HAct : Hid (actD 3 ns p xs s = some (stcL (ns.getD 0 0), 0, ansTX (stcL (ns.getD 0 0)))) := hid (by simp only [actD, stdD, hok]; rfl)
  clear hok
  have HNs := hid hns
  have HNb := hid hnb
  obtain ⟨bN, oN, rfl⟩ := ints_addrD HN0.out (by intro h0; rw [h0] at hns; simp at hns)
  obtain ⟨x0, hx0⟩ : ∃ x, ns.getD 0 0 = x := ⟨_, rfl⟩
  have hr0 := bound_get hnb 0
  rw [hx0] at hr0 HOk HGd HAct
  have HX0 := hid hx0
  rw [hns] at HN0 hb ⊢
  clear hns hx0
  have HA := hid (show AK w (w.alloc (.cells #[.slice A xs.length c] 28)).drew g (.slice A xs.length c) s (.slice tA tn tc) (.slice (some ⟨bN, oN, none⟩) 1 nc) from (AK.new hb).below (below_drewN (Below.refl _ _) 1))
  have k0 : w.cell? ⟨g, 0, none⟩ = some (.slice A xs.length c) := hb.cell 0
  have k1 : w.cell? ⟨g, 1, none⟩ = some (.int .i64 s) := hb.cell 1
  clear hb hid0 hgx hzl hzi hwf hnb hzs
  go_enter Tryz.func47, Tryz.ntmps47
  go_upto_region 1 with (fail)
  go_region
  generalize (w.alloc (.cells #[.slice A xs.length c] 28)).drew = W at HA ⊢
  clear k0 k1
  have HVW := hid (HV.out.below HA.out.bel)
  have HWz : Hid (w.heap.size < W.heap.size) := hid HA.out.k1.lt
  have HNW := hid (HN0.out.below HA.out.bel)
  have n0 := ints_cellD HNW.out (j := 0) (by rw [HNs.out]; decide)
  rw [HX0.out, Nat.add_zero] at n0
  have k3 : W.cell? ⟨g, 3, none⟩ = some (.slice (some ⟨bN, oN, none⟩) 1 nc) := HA.out.k0.cell 3
  go_wp2_with fail
  clear n0 k3
  refine (specStaircase_any x0 _ (wf_i64D _ (by omega) (by omega))).mono ?_
  rw [HOk.out]
  rintro e W2 ⟨u, rfl, ho, -, hb2⟩
  have HO := hid ho
  obtain ⟨uA, un, uc, rfl⟩ := ho.shape3
  have HA2 := hid (HA.out.below hb2)
  clear ho hb2
  go_wp2_with fail
  refine (stand_yes g _ _ _ _ _ (stcL x0) _ HA2.out.k0 HO.out.ints HGd.out (fun k hk => by have := (OwnI.blockLt HO.out k hk).1; have := HWz.out; omega)).mono ?_
  rintro e w3 ⟨rfl, hk3, ht3⟩
  go_wp2
  go_ret
  exact ⟨.inr ⟨_, _, _, _, HAct.out, rfl, hk3, .inr (.inr ((HO.out.turnedG ht3 (by have := HWz.out; omega)).mono (Nat.le_of_lt HWz.out)))⟩, (TurnedIn.of_below HA2.out.bel).trans ht3⟩
set_option maxRecDepth 100000 in
set_option maxHeartbeats 1600000 in
theorem moved_4_no (g : Nat) (v tv nv : Value) (xs : List Int) (s : Int) (F : ByteArray) (w : World) (hb : Blk w g 79 #[v, .int .i64 s, tv, nv]) (hv : Ints w v xs) (hid0 : okIdeal xs s = true) (hF : F.toList = [102, 101, 110, 99, 101]) (ns p : List Int) (hnb : ∀ x ∈ ns, 0 ≤ x ∧ x ≤ 999999) (hn : Ints w nv ns) (htv : ∃ A n c, tv = .slice A n c) (hns : ns.length = 1) (hok : (decide (1 ≤ ns.getD 0 0) && decide (ns.getD 0 0 ≤ 10)) = false) :
    Calls Tryz.prog 47 #[.pointer (some ⟨g, 0, none⟩), .string F] w fun (r : Ending) w' => ResM 4 ns p xs s w.heap.size g v tv nv r w' ∧ TurnedIn g (g + 1) w w' := by
  have hgw : g < w.heap.size := hb.lt
  have HV := hid hv
  obtain ⟨z, hzs, hgx, hzl, hzi⟩ := okIdeal_all hid0
  have HI := hid hid0
  have hwf := wf_ideal hid0
  have HGx := hid hgx
  have HZ := hid (And.intro hzl hzi)
  have hl10 := (good_length hgx).2
  have hz1 : z < 1024 := Nat.lt_of_lt_of_le hzl (Nat.le_trans (Nat.pow_le_pow_right (by decide) hl10) (by decide))
  obtain ⟨A, c, rfl, -⟩ := hv
  have HN0 := hid hn
  obtain ⟨nA, nc, rfl, -⟩ := hn
  obtain ⟨tA, tn, tc, rfl⟩ := htv
  have HWf := hid hwf
  have HOk := hid hok
  have HAct : Hid (actD 4 ns p xs s = none) := hid (by simp only [actD, stdD, hok]; rfl)
  clear hok
  have HNs := hid hns
  have HNb := hid hnb
  obtain ⟨bN, oN, rfl⟩ := ints_addrD HN0.out (by intro h0; rw [h0] at hns; simp at hns)
  obtain ⟨x0, hx0⟩ : ∃ x, ns.getD 0 0 = x := ⟨_, rfl⟩
  have hr0 := bound_get hnb 0
  rw [hx0] at hr0 HOk
  have HX0 := hid hx0
  rw [hns] at HN0 hb ⊢
  clear hns hx0
  have HA := hid (show AK w (w.alloc (.cells #[.slice A xs.length c] 28)).drew g (.slice A xs.length c) s (.slice tA tn tc) (.slice (some ⟨bN, oN, none⟩) 1 nc) from (AK.new hb).below (below_drewN (Below.refl _ _) 1))
  have k0 : w.cell? ⟨g, 0, none⟩ = some (.slice A xs.length c) := hb.cell 0
  have k1 : w.cell? ⟨g, 1, none⟩ = some (.int .i64 s) := hb.cell 1
  clear hb hid0 hgx hzl hzi hwf hnb hzs
  go_enter Tryz.func47, Tryz.ntmps47
  go_upto_region 1 with (fail)
  go_region
  generalize (w.alloc (.cells #[.slice A xs.length c] 28)).drew = W at HA ⊢
  clear k0 k1
  have HVW := hid (HV.out.below HA.out.bel)
  have HWz : Hid (w.heap.size < W.heap.size) := hid HA.out.k1.lt
  have HNW := hid (HN0.out.below HA.out.bel)
  have n0 := ints_cellD HNW.out (j := 0) (by rw [HNs.out]; decide)
  rw [HX0.out, Nat.add_zero] at n0
  have k3 : W.cell? ⟨g, 3, none⟩ = some (.slice (some ⟨bN, oN, none⟩) 1 nc) := HA.out.k0.cell 3
  go_wp2_with fail
  clear n0 k3
  refine (specFence_any x0 _ (wf_i64D _ (by omega) (by omega))).mono ?_
  rw [HOk.out]
  rintro e W2 ⟨u, rfl, ho, -, hb2⟩
  have HO := hid ho
  obtain ⟨uA, un, uc, rfl⟩ := ho.shape3
  have HA2 := hid (HA.out.below hb2)
  clear ho hb2
  go_wp2_with fail
  refine (stand_no g _ _ ⟨_, _, _, rfl⟩).mono ?_
  rintro e w3 ⟨rfl, hb3⟩
  go_wp2
  go_ret
  exact ⟨.inl ⟨HAct.out, rfl, HA2.out.k0.below hb3 HA2.out.k0.lt⟩, TurnedIn.of_below (below_to HA2.out.bel hb3)⟩
set_option maxRecDepth 100000 in
set_option maxHeartbeats 1600000 in
theorem moved_4_yes (g : Nat) (v tv nv : Value) (xs : List Int) (s : Int) (F : ByteArray) (w : World) (hb : Blk w g 79 #[v, .int .i64 s, tv, nv]) (hv : Ints w v xs) (hid0 : okIdeal xs s = true) (hF : F.toList = [102, 101, 110, 99, 101]) (ns p : List Int) (hnb : ∀ x ∈ ns, 0 ≤ x ∧ x ≤ 999999) (hn : Ints w nv ns) (htv : ∃ A n c, tv = .slice A n c) (hns : ns.length = 1) (hok : (decide (1 ≤ ns.getD 0 0) && decide (ns.getD 0 0 ≤ 10)) = true) :
    Calls Tryz.prog 47 #[.pointer (some ⟨g, 0, none⟩), .string F] w fun (r : Ending) w' => ResM 4 ns p xs s w.heap.size g v tv nv r w' ∧ TurnedIn g (g + 1) w w' := by
  have hgw : g < w.heap.size := hb.lt
  have HV := hid hv
  obtain ⟨z, hzs, hgx, hzl, hzi⟩ := okIdeal_all hid0
  have HI := hid hid0
  have hwf := wf_ideal hid0
  have HGx := hid hgx
  have HZ := hid (And.intro hzl hzi)
  have hl10 := (good_length hgx).2
  have hz1 : z < 1024 := Nat.lt_of_lt_of_le hzl (Nat.le_trans (Nat.pow_le_pow_right (by decide) hl10) (by decide))
  obtain ⟨A, c, rfl, -⟩ := hv
  have HN0 := hid hn
  obtain ⟨nA, nc, rfl, -⟩ := hn
  obtain ⟨tA, tn, tc, rfl⟩ := htv
  have HWf := hid hwf
  have HOk := hid hok
  have HGd := hid (fenceD_good hok)
  have HAct : Hid (actD 4 ns p xs s = some (fenceL (ns.getD 0 0), 0, ansTX (fenceL (ns.getD 0 0)))) := hid (by simp only [actD, stdD, hok]; rfl)
  clear hok
  have HNs := hid hns
  have HNb := hid hnb
  obtain ⟨bN, oN, rfl⟩ := ints_addrD HN0.out (by intro h0; rw [h0] at hns; simp at hns)
  obtain ⟨x0, hx0⟩ : ∃ x, ns.getD 0 0 = x := ⟨_, rfl⟩
  have hr0 := bound_get hnb 0
  rw [hx0] at hr0 HOk HGd HAct
  have HX0 := hid hx0
  rw [hns] at HN0 hb ⊢
  clear hns hx0
  have HA := hid (show AK w (w.alloc (.cells #[.slice A xs.length c] 28)).drew g (.slice A xs.length c) s (.slice tA tn tc) (.slice (some ⟨bN, oN, none⟩) 1 nc) from (AK.new hb).below (below_drewN (Below.refl _ _) 1))
  have k0 : w.cell? ⟨g, 0, none⟩ = some (.slice A xs.length c) := hb.cell 0
  have k1 : w.cell? ⟨g, 1, none⟩ = some (.int .i64 s) := hb.cell 1
  clear hb hid0 hgx hzl hzi hwf hnb hzs
  go_enter Tryz.func47, Tryz.ntmps47
  go_upto_region 1 with (fail)
  go_region
  generalize (w.alloc (.cells #[.slice A xs.length c] 28)).drew = W at HA ⊢
  clear k0 k1
  have HVW := hid (HV.out.below HA.out.bel)
  have HWz : Hid (w.heap.size < W.heap.size) := hid HA.out.k1.lt
  have HNW := hid (HN0.out.below HA.out.bel)
  have n0 := ints_cellD HNW.out (j := 0) (by rw [HNs.out]; decide)
  rw [HX0.out, Nat.add_zero] at n0
  have k3 : W.cell? ⟨g, 3, none⟩ = some (.slice (some ⟨bN, oN, none⟩) 1 nc) := HA.out.k0.cell 3
  go_wp2_with fail
  clear n0 k3
  refine (specFence_any x0 _ (wf_i64D _ (by omega) (by omega))).mono ?_
  rw [HOk.out]
  rintro e W2 ⟨u, rfl, ho, -, hb2⟩
  have HO := hid ho
  obtain ⟨uA, un, uc, rfl⟩ := ho.shape3
  have HA2 := hid (HA.out.below hb2)
  clear ho hb2
  go_wp2_with fail
  refine (stand_yes g _ _ _ _ _ (fenceL x0) _ HA2.out.k0 HO.out.ints HGd.out (fun k hk => by have := (OwnI.blockLt HO.out k hk).1; have := HWz.out; omega)).mono ?_
  rintro e w3 ⟨rfl, hk3, ht3⟩
  go_wp2
  go_ret
  exact ⟨.inr ⟨_, _, _, _, HAct.out, rfl, hk3, .inr (.inr ((HO.out.turnedG ht3 (by have := HWz.out; omega)).mono (Nat.le_of_lt HWz.out)))⟩, (TurnedIn.of_below HA2.out.bel).trans ht3⟩
set_option maxRecDepth 100000 in
set_option maxHeartbeats 1600000 in
theorem moved_2_no (g : Nat) (v tv nv : Value) (xs : List Int) (s : Int) (F : ByteArray) (w : World) (hb : Blk w g 79 #[v, .int .i64 s, tv, nv]) (hv : Ints w v xs) (hid0 : okIdeal xs s = true) (hF : F.toList = [114, 101, 99, 116, 97, 110, 103, 108, 101]) (ns p : List Int) (hnb : ∀ x ∈ ns, 0 ≤ x ∧ x ≤ 999999) (hn : Ints w nv ns) (htv : ∃ A n c, tv = .slice A n c) (hns : ns.length = 2) (hok : sides (ns.getD 0 0) (ns.getD 1 0) = false) :
    Calls Tryz.prog 47 #[.pointer (some ⟨g, 0, none⟩), .string F] w fun (r : Ending) w' => ResM 2 ns p xs s w.heap.size g v tv nv r w' ∧ TurnedIn g (g + 1) w w' := by
  have hgw : g < w.heap.size := hb.lt
  have HV := hid hv
  obtain ⟨z, hzs, hgx, hzl, hzi⟩ := okIdeal_all hid0
  have HI := hid hid0
  have hwf := wf_ideal hid0
  have HGx := hid hgx
  have HZ := hid (And.intro hzl hzi)
  have hl10 := (good_length hgx).2
  have hz1 : z < 1024 := Nat.lt_of_lt_of_le hzl (Nat.le_trans (Nat.pow_le_pow_right (by decide) hl10) (by decide))
  obtain ⟨A, c, rfl, -⟩ := hv
  have HN0 := hid hn
  obtain ⟨nA, nc, rfl, -⟩ := hn
  obtain ⟨tA, tn, tc, rfl⟩ := htv
  have HWf := hid hwf
  have HOk := hid hok
  have HAct : Hid (actD 2 ns p xs s = none) := hid (by simp only [actD, stdD, hok]; rfl)
  clear hok
  have HNs := hid hns
  have HNb := hid hnb
  obtain ⟨bN, oN, rfl⟩ := ints_addrD HN0.out (by intro h0; rw [h0] at hns; simp at hns)
  obtain ⟨x0, hx0⟩ : ∃ x, ns.getD 0 0 = x := ⟨_, rfl⟩
  have hr0 := bound_get hnb 0
  rw [hx0] at hr0 HOk
  have HX0 := hid hx0
  obtain ⟨x1, hx1⟩ : ∃ x, ns.getD 1 0 = x := ⟨_, rfl⟩
  have hr1 := bound_get hnb 1
  rw [hx1] at hr1 HOk
  have HX1 := hid hx1
  rw [hns] at HN0 hb ⊢
  clear hns hx0 hx1
  have HA := hid (show AK w (w.alloc (.cells #[.slice A xs.length c] 28)).drew g (.slice A xs.length c) s (.slice tA tn tc) (.slice (some ⟨bN, oN, none⟩) 2 nc) from (AK.new hb).below (below_drewN (Below.refl _ _) 1))
  have k0 : w.cell? ⟨g, 0, none⟩ = some (.slice A xs.length c) := hb.cell 0
  have k1 : w.cell? ⟨g, 1, none⟩ = some (.int .i64 s) := hb.cell 1
  clear hb hid0 hgx hzl hzi hwf hnb hzs
  go_enter Tryz.func47, Tryz.ntmps47
  go_upto_region 1 with (fail)
  go_region
  generalize (w.alloc (.cells #[.slice A xs.length c] 28)).drew = W at HA ⊢
  clear k0 k1
  have HVW := hid (HV.out.below HA.out.bel)
  have HWz : Hid (w.heap.size < W.heap.size) := hid HA.out.k1.lt
  have HNW := hid (HN0.out.below HA.out.bel)
  have n0 := ints_cellD HNW.out (j := 0) (by rw [HNs.out]; decide)
  rw [HX0.out, Nat.add_zero] at n0
  have n1 := ints_cellD HNW.out (j := 1) (by rw [HNs.out]; decide)
  rw [HX1.out] at n1
  have k3 : W.cell? ⟨g, 3, none⟩ = some (.slice (some ⟨bN, oN, none⟩) 2 nc) := HA.out.k0.cell 3
  go_upto_region 6 with (fail)
  have HAd := hid (show AK w W.drew g _ _ _ _ from HA.out.below (below_drewN (Below.refl _ W) 1))
  have HVd := hid (HV.out.below HAd.out.bel)
  go_region_with (first | (go_at_call 72; refine (specRectangle_any x0 x1 _ (wf_i64D _ (by omega) (by omega)) (wf_i64D _ (by omega) (by omega))).mono ?_; rw [HOk.out]; rintro e W2 ⟨u, rfl, ho, -, hb2⟩; have HO := hid ho; obtain ⟨uA, un, uc, rfl⟩ := ho.shape3; have HA2 := hid (HAd.out.below hb2); clear ho hb2) | (go_at_call 71; refine (stand_no g _ _ ⟨_, _, _, rfl⟩).mono ?_; rintro e w3 ⟨rfl, hb3⟩))
  all_goals
    go_wp2
    go_ret
    exact ⟨.inl ⟨HAct.out, rfl, HA2.out.k0.below hb3 HA2.out.k0.lt⟩, TurnedIn.of_below (below_to HA2.out.bel hb3)⟩
set_option maxRecDepth 100000 in
set_option maxHeartbeats 1600000 in
theorem moved_2_yes (g : Nat) (v tv nv : Value) (xs : List Int) (s : Int) (F : ByteArray) (w : World) (hb : Blk w g 79 #[v, .int .i64 s, tv, nv]) (hv : Ints w v xs) (hid0 : okIdeal xs s = true) (hF : F.toList = [114, 101, 99, 116, 97, 110, 103, 108, 101]) (ns p : List Int) (hnb : ∀ x ∈ ns, 0 ≤ x ∧ x ≤ 999999) (hn : Ints w nv ns) (htv : ∃ A n c, tv = .slice A n c) (hns : ns.length = 2) (hok : sides (ns.getD 0 0) (ns.getD 1 0) = true) :
    Calls Tryz.prog 47 #[.pointer (some ⟨g, 0, none⟩), .string F] w fun (r : Ending) w' => ResM 2 ns p xs s w.heap.size g v tv nv r w' ∧ TurnedIn g (g + 1) w w' := by
  have hgw : g < w.heap.size := hb.lt
  have HV := hid hv
  obtain ⟨z, hzs, hgx, hzl, hzi⟩ := okIdeal_all hid0
  have HI := hid hid0
  have hwf := wf_ideal hid0
  have HGx := hid hgx
  have HZ := hid (And.intro hzl hzi)
  have hl10 := (good_length hgx).2
  have hz1 : z < 1024 := Nat.lt_of_lt_of_le hzl (Nat.le_trans (Nat.pow_le_pow_right (by decide) hl10) (by decide))
  obtain ⟨A, c, rfl, -⟩ := hv
  have HN0 := hid hn
  obtain ⟨nA, nc, rfl, -⟩ := hn
  obtain ⟨tA, tn, tc, rfl⟩ := htv
  have HWf := hid hwf
  have HOk := hid hok
  have HGd := hid (rectD_good hok)
  have HAct : Hid (actD 2 ns p xs s = some (rectL (ns.getD 0 0) (ns.getD 1 0), 0, ansTX (rectL (ns.getD 0 0) (ns.getD 1 0)))) := hid (by simp only [actD, stdD, hok]; rfl)
  clear hok
  have HNs := hid hns
  have HNb := hid hnb
  obtain ⟨bN, oN, rfl⟩ := ints_addrD HN0.out (by intro h0; rw [h0] at hns; simp at hns)
  obtain ⟨x0, hx0⟩ : ∃ x, ns.getD 0 0 = x := ⟨_, rfl⟩
  have hr0 := bound_get hnb 0
  rw [hx0] at hr0 HOk HGd HAct
  have HX0 := hid hx0
  obtain ⟨x1, hx1⟩ : ∃ x, ns.getD 1 0 = x := ⟨_, rfl⟩
  have hr1 := bound_get hnb 1
  rw [hx1] at hr1 HOk HGd HAct
  have HX1 := hid hx1
  rw [hns] at HN0 hb ⊢
  clear hns hx0 hx1
  have HA := hid (show AK w (w.alloc (.cells #[.slice A xs.length c] 28)).drew g (.slice A xs.length c) s (.slice tA tn tc) (.slice (some ⟨bN, oN, none⟩) 2 nc) from (AK.new hb).below (below_drewN (Below.refl _ _) 1))
  have k0 : w.cell? ⟨g, 0, none⟩ = some (.slice A xs.length c) := hb.cell 0
  have k1 : w.cell? ⟨g, 1, none⟩ = some (.int .i64 s) := hb.cell 1
  clear hb hid0 hgx hzl hzi hwf hnb hzs
  go_enter Tryz.func47, Tryz.ntmps47
  go_upto_region 1 with (fail)
  go_region
  generalize (w.alloc (.cells #[.slice A xs.length c] 28)).drew = W at HA ⊢
  clear k0 k1
  have HVW := hid (HV.out.below HA.out.bel)
  have HWz : Hid (w.heap.size < W.heap.size) := hid HA.out.k1.lt
  have HNW := hid (HN0.out.below HA.out.bel)
  have n0 := ints_cellD HNW.out (j := 0) (by rw [HNs.out]; decide)
  rw [HX0.out, Nat.add_zero] at n0
  have n1 := ints_cellD HNW.out (j := 1) (by rw [HNs.out]; decide)
  rw [HX1.out] at n1
  have k3 : W.cell? ⟨g, 3, none⟩ = some (.slice (some ⟨bN, oN, none⟩) 2 nc) := HA.out.k0.cell 3
  go_upto_region 6 with (fail)
  have HAd := hid (show AK w W.drew g _ _ _ _ from HA.out.below (below_drewN (Below.refl _ W) 1))
  have HVd := hid (HV.out.below HAd.out.bel)
  go_region_with (first | (go_at_call 72; refine (specRectangle_any x0 x1 _ (wf_i64D _ (by omega) (by omega)) (wf_i64D _ (by omega) (by omega))).mono ?_; rw [HOk.out]; rintro e W2 ⟨u, rfl, ho, -, hb2⟩; have HO := hid ho; obtain ⟨uA, un, uc, rfl⟩ := ho.shape3; have HA2 := hid (HAd.out.below hb2); clear ho hb2) | (go_at_call 71; refine (stand_yes g _ _ _ _ _ (rectL x0 x1) _ HA2.out.k0 HO.out.ints HGd.out (fun k hk => by have h1 := (OwnI.blockLt HO.out k hk).1; have h2 := HWz.out; have h3 : W.drew.heap.size = W.heap.size := rfl; omega)).mono ?_; rintro e w3 ⟨rfl, hk3, ht3⟩))
  all_goals
    go_wp2
    go_ret
    exact ⟨.inr ⟨_, _, _, _, HAct.out, rfl, hk3, .inr (.inr ((HO.out.turnedG ht3 (by have h2 := HWz.out; have h3 : W.drew.heap.size = W.heap.size := rfl; omega)).mono (Nat.le_of_lt HWz.out)))⟩, (TurnedIn.of_below HA2.out.bel).trans ht3⟩
end Go.Proofs.YtbmhaamenjhjfaaGreatDoor
