/- Texts DskH, one behind the other. -/
import Derived.Test.YtbmhaamenjhjfaaGreatDoorPkDeskAfterProof07
import Derived.Test.YtbmhaamenjhjfaaGreatDoorPkDeskAfterProof12
import Derived.Test.YtbmhaamenjhjfaaGreatDoorPkDeskAfterProof20
import Derived.Test.YtbmhaamenjhjfaaGreatDoorPkDeskAfterProof29
import Derived.Test.YtbmhaamenjhjfaaGreatDoorPkDeskAfterProof31
/- asked of the model's lines. (by gendw.py) -/
namespace Go.Proofs.YtbmhaamenjhjfaaGreatDoor
open Go.RowKit Go.WideShapes Go.ChangeShapes
set_option linter.unusedVariables false
theorem okSet_of_ideal {xs : List Int} {s : Int} (h : okIdeal xs s = true) : okSet xs s = true := by
  obtain ⟨z, rfl, hg, hz, hi⟩ := okIdeal_all h
  exact okSet_nat hg hz
structure AK (w W : World) (g : Nat) (dv : Value) (s : Int) (tv nv : Value) : Prop where
  k0 : Blk W g 79 #[dv, .int .i64 s, tv, nv]
  k1 : Blk W w.heap.size 28 #[dv]
  bel : Below w.heap.size w W
theorem AK.below {w W W' : World} {g : Nat} {dv : Value} {s : Int} {tv nv : Value} (h : AK w W g dv s tv nv) (hb : Below W.heap.size W W') : AK w W' g dv s tv nv :=
  ⟨h.k0.below hb h.k0.lt, h.k1.below hb h.k1.lt, below_to h.bel hb⟩
theorem AK.new {w : World} {g : Nat} {dv : Value} {s : Int} {tv nv : Value} (h : Blk w g 79 #[dv, .int .i64 s, tv, nv]) : AK w (w.alloc (.cells #[dv] 28)) g dv s tv nv :=
  ⟨h.alloc _, Blk.new w _ _, below_alloc (Below.refl _ w) _⟩
set_option maxRecDepth 100000 in
theorem asked_13 (g : Nat) (v tv nv : Value) (xs : List Int) (s : Int) (F : ByteArray) (w : World) (hb : Blk w g 79 #[v, .int .i64 s, tv, nv]) (hv : Ints w v xs) (hid0 : okIdeal xs s = true) (hF : F.toList = [115, 104, 111, 119]) (ns p : List Int) :
    Calls Tryz.prog 48 #[.pointer (some ⟨g, 0, none⟩), .string F] w fun (r : Ending) w' => (∃ t, actD 13 ns p xs s = some (xs, s, t) ∧ r = .returned (.string (sB t))) ∧ Below w.heap.size w w' := by
  have hgw : g < w.heap.size := hb.lt
  have HV := hid hv
  obtain ⟨z, rfl, hgx, hzl, hzi⟩ := okIdeal_all hid0
  have HI := hid hid0
  have HGx := hid hgx
  have HZ := hid (And.intro hzl hzi)
  have hl10 := (good_length hgx).2
  have hz1 : z < 1024 := Nat.lt_of_lt_of_le hzl (Nat.le_trans (Nat.pow_le_pow_right (by decide) hl10) (by decide))
  obtain ⟨A, c, rfl, -⟩ := hv
  have HA := hid (show AK w (w.alloc (.cells #[.slice A xs.length c] 28)).drew g (.slice A xs.length c) (z : Int) tv nv from (AK.new hb).below (below_drewN (Below.refl _ _) 1))
  have k0 : w.cell? ⟨g, 0, none⟩ = some (.slice A xs.length c) := hb.cell 0
  have k1 : w.cell? ⟨g, 1, none⟩ = some (.int .i64 (z : Int)) := hb.cell 1
  clear hb hid0 hgx hzl hzi
  go_enter Tryz.func48, Tryz.ntmps48
  go_upto_region 1 with (fail)
  go_region
  generalize (w.alloc (.cells #[.slice A xs.length c] 28)).drew = W at HA ⊢
  clear k0 k1
  have HVW := hid (HV.out.below HA.out.bel)
  have x0 : W.cell? ⟨w.heap.size, 0, none⟩ = some (.slice A xs.length c) := HA.out.k1.cell 0
  go_wp2_with fail
  refine (poText_any _ xs _ HVW.out HGx.out).mono ?_
  rintro e w2 ⟨rfl, hb⟩
  go_wp2
  go_ret
  exact ⟨⟨_, rfl, ret_s (by rw [ansTX_yes HGx.out])⟩, below_to HA.out.bel hb⟩
set_option maxRecDepth 100000 in
theorem asked_14 (g : Nat) (v tv nv : Value) (xs : List Int) (s : Int) (F : ByteArray) (w : World) (hb : Blk w g 79 #[v, .int .i64 s, tv, nv]) (hv : Ints w v xs) (hid0 : okIdeal xs s = true) (hF : F.toList = [105, 100, 101, 97, 108]) (ns p : List Int) :
    Calls Tryz.prog 48 #[.pointer (some ⟨g, 0, none⟩), .string F] w fun (r : Ending) w' => (∃ t, actD 14 ns p xs s = some (xs, s, t) ∧ r = .returned (.string (sB t))) ∧ Below w.heap.size w w' := by
  have hgw : g < w.heap.size := hb.lt
  have HV := hid hv
  obtain ⟨z, rfl, hgx, hzl, hzi⟩ := okIdeal_all hid0
  have HI := hid hid0
  have HGx := hid hgx
  have HZ := hid (And.intro hzl hzi)
  have hl10 := (good_length hgx).2
  have hz1 : z < 1024 := Nat.lt_of_lt_of_le hzl (Nat.le_trans (Nat.pow_le_pow_right (by decide) hl10) (by decide))
  obtain ⟨A, c, rfl, -⟩ := hv
  have HA := hid (show AK w (w.alloc (.cells #[.slice A xs.length c] 28)).drew g (.slice A xs.length c) (z : Int) tv nv from (AK.new hb).below (below_drewN (Below.refl _ _) 1))
  have k0 : w.cell? ⟨g, 0, none⟩ = some (.slice A xs.length c) := hb.cell 0
  have k1 : w.cell? ⟨g, 1, none⟩ = some (.int .i64 (z : Int)) := hb.cell 1
  clear hb hid0 hgx hzl hzi
  go_enter Tryz.func48, Tryz.ntmps48
  go_upto_region 1 with (fail)
  go_region
  generalize (w.alloc (.cells #[.slice A xs.length c] 28)).drew = W at HA ⊢
  clear k0 k1
  have HVW := hid (HV.out.below HA.out.bel)
  have x0 : W.cell? ⟨w.heap.size, 0, none⟩ = some (.slice A xs.length c) := HA.out.k1.cell 0
  go_wp2_with fail
  refine (l1NumT_any (z : Int) _ (by omega) (by omega)).mono ?_
  rintro e w2 ⟨rfl, hb⟩
  go_wp2
  go_ret
  exact ⟨⟨_, rfl, rfl⟩, below_to HA.out.bel hb⟩
set_option maxRecDepth 100000 in
theorem asked_15 (g : Nat) (v tv nv : Value) (xs : List Int) (s : Int) (F : ByteArray) (w : World) (hb : Blk w g 79 #[v, .int .i64 s, tv, nv]) (hv : Ints w v xs) (hid0 : okIdeal xs s = true) (hF : F.toList = [115, 105, 122, 101]) (ns p : List Int) :
    Calls Tryz.prog 48 #[.pointer (some ⟨g, 0, none⟩), .string F] w fun (r : Ending) w' => (∃ t, actD 15 ns p xs s = some (xs, s, t) ∧ r = .returned (.string (sB t))) ∧ Below w.heap.size w w' := by
  have hgw : g < w.heap.size := hb.lt
  have HV := hid hv
  obtain ⟨z, rfl, hgx, hzl, hzi⟩ := okIdeal_all hid0
  have HI := hid hid0
  have HGx := hid hgx
  have HZ := hid (And.intro hzl hzi)
  have hl10 := (good_length hgx).2
  have hz1 : z < 1024 := Nat.lt_of_lt_of_le hzl (Nat.le_trans (Nat.pow_le_pow_right (by decide) hl10) (by decide))
  obtain ⟨A, c, rfl, -⟩ := hv
  have HA := hid (show AK w (w.alloc (.cells #[.slice A xs.length c] 28)).drew g (.slice A xs.length c) (z : Int) tv nv from (AK.new hb).below (below_drewN (Below.refl _ _) 1))
  have k0 : w.cell? ⟨g, 0, none⟩ = some (.slice A xs.length c) := hb.cell 0
  have k1 : w.cell? ⟨g, 1, none⟩ = some (.int .i64 (z : Int)) := hb.cell 1
  clear hb hid0 hgx hzl hzi
  go_enter Tryz.func48, Tryz.ntmps48
  go_upto_region 1 with (fail)
  go_region
  generalize (w.alloc (.cells #[.slice A xs.length c] 28)).drew = W at HA ⊢
  clear k0 k1
  have HVW := hid (HV.out.below HA.out.bel)
  have x0 : W.cell? ⟨w.heap.size, 0, none⟩ = some (.slice A xs.length c) := HA.out.k1.cell 0
  go_wp2_with fail
  refine (obSize_any z _ hz1).mono ?_
  rintro e w2 ⟨rfl, hw⟩
  rw [← hw]
  clear hw w2
  have hpc := pc_le z
  go_wp2_with fail
  refine (l1NumT_any ((pc z : Nat) : Int) _ (by omega) (by omega)).mono ?_
  rintro e w2 ⟨rfl, hb⟩
  go_wp2
  go_ret
  exact ⟨⟨_, rfl, ret_s (by rw [ansSz_yes (okSet_of_ideal HI.out)])⟩, below_to HA.out.bel hb⟩
set_option maxRecDepth 100000 in
theorem asked_16 (g : Nat) (v tv nv : Value) (xs : List Int) (s : Int) (F : ByteArray) (w : World) (hb : Blk w g 79 #[v, .int .i64 s, tv, nv]) (hv : Ints w v xs) (hid0 : okIdeal xs s = true) (hF : F.toList = [111, 114, 98, 105, 116]) (ns p : List Int) :
    Calls Tryz.prog 48 #[.pointer (some ⟨g, 0, none⟩), .string F] w fun (r : Ending) w' => (∃ t, actD 16 ns p xs s = some (xs, s, t) ∧ r = .returned (.string (sB t))) ∧ Below w.heap.size w w' := by
  have hgw : g < w.heap.size := hb.lt
  have HV := hid hv
  obtain ⟨z, rfl, hgx, hzl, hzi⟩ := okIdeal_all hid0
  have HI := hid hid0
  have HGx := hid hgx
  have HZ := hid (And.intro hzl hzi)
  have hl10 := (good_length hgx).2
  have hz1 : z < 1024 := Nat.lt_of_lt_of_le hzl (Nat.le_trans (Nat.pow_le_pow_right (by decide) hl10) (by decide))
  obtain ⟨A, c, rfl, -⟩ := hv
  have HA := hid (show AK w (w.alloc (.cells #[.slice A xs.length c] 28)).drew g (.slice A xs.length c) (z : Int) tv nv from (AK.new hb).below (below_drewN (Below.refl _ _) 1))
  have k0 : w.cell? ⟨g, 0, none⟩ = some (.slice A xs.length c) := hb.cell 0
  have k1 : w.cell? ⟨g, 1, none⟩ = some (.int .i64 (z : Int)) := hb.cell 1
  clear hb hid0 hgx hzl hzi
  go_enter Tryz.func48, Tryz.ntmps48
  go_upto_region 1 with (fail)
  go_region
  generalize (w.alloc (.cells #[.slice A xs.length c] 28)).drew = W at HA ⊢
  clear k0 k1
  have HVW := hid (HV.out.below HA.out.bel)
  have x0 : W.cell? ⟨w.heap.size, 0, none⟩ = some (.slice A xs.length c) := HA.out.k1.cell 0
  go_wp2_with fail
  refine (obOrbit_any _ xs z _ HVW.out HGx.out (idB_iff.2 HZ.out)).mono ?_
  rintro e w2 ⟨q, rfl, ho, hb⟩
  have HB2 := hid (below_to HA.out.bel hb)
  have HO := hid (show Ints w2 q (orbXs xs z) from ho.ints)
  obtain ⟨qA, qn, qc, rfl⟩ := ho.shape3
  clear ho hb
  have hf := ansOO_facts HI.out
  rw [ansOO_yes HI.out] at hf
  obtain ⟨L, hL⟩ : ∃ L, orbXs xs z = L := ⟨_, rfl⟩
  rw [hL] at hf HO
  have HL := hid hL
  obtain ⟨hf1, hf2, hf3⟩ := hf
  have HF3 := hid hf3
  clear hL hf3
  go_wp2_with fail
  refine (coText_any _ L _ HO.out hf2 HF3.out).mono ?_
  rintro e w3 ⟨rfl, hb⟩
  go_wp2
  go_ret
  exact ⟨⟨_, rfl, ret_s (by rw [ansOO_yes HI.out, HL.out])⟩, below_to HB2.out hb⟩
set_option maxRecDepth 100000 in
theorem asked_17 (g : Nat) (v tv nv : Value) (xs : List Int) (s : Int) (F : ByteArray) (w : World) (hb : Blk w g 79 #[v, .int .i64 s, tv, nv]) (hv : Ints w v xs) (hid0 : okIdeal xs s = true) (hF : F.toList = [105, 100, 101, 97, 108, 115]) (ns p : List Int) :
    Calls Tryz.prog 48 #[.pointer (some ⟨g, 0, none⟩), .string F] w fun (r : Ending) w' => (∃ t, actD 17 ns p xs s = some (xs, s, t) ∧ r = .returned (.string (sB t))) ∧ Below w.heap.size w w' := by
  have hgw : g < w.heap.size := hb.lt
  have HV := hid hv
  obtain ⟨z, rfl, hgx, hzl, hzi⟩ := okIdeal_all hid0
  have HI := hid hid0
  have HGx := hid hgx
  have HZ := hid (And.intro hzl hzi)
  have hl10 := (good_length hgx).2
  have hz1 : z < 1024 := Nat.lt_of_lt_of_le hzl (Nat.le_trans (Nat.pow_le_pow_right (by decide) hl10) (by decide))
  obtain ⟨A, c, rfl, -⟩ := hv
  have HA := hid (show AK w (w.alloc (.cells #[.slice A xs.length c] 28)).drew g (.slice A xs.length c) (z : Int) tv nv from (AK.new hb).below (below_drewN (Below.refl _ _) 1))
  have k0 : w.cell? ⟨g, 0, none⟩ = some (.slice A xs.length c) := hb.cell 0
  have k1 : w.cell? ⟨g, 1, none⟩ = some (.int .i64 (z : Int)) := hb.cell 1
  clear hb hid0 hgx hzl hzi
  go_enter Tryz.func48, Tryz.ntmps48
  go_upto_region 1 with (fail)
  go_region
  generalize (w.alloc (.cells #[.slice A xs.length c] 28)).drew = W at HA ⊢
  clear k0 k1
  have HVW := hid (HV.out.below HA.out.bel)
  have x0 : W.cell? ⟨w.heap.size, 0, none⟩ = some (.slice A xs.length c) := HA.out.k1.cell 0
  go_wp2_with fail
  refine (poIdeals_any _ xs _ HVW.out HGx.out).mono ?_
  rintro e w2 ⟨q, rfl, ho, hb⟩
  have HB2 := hid (below_to HA.out.bel hb)
  obtain ⟨qA, qc, rfl, -⟩ := ho.ints
  have hil : idealsL xs = setsL (holdsIdeal xs) (2 ^ xs.length) := if_pos HGx.out
  have hlb := idealsL_bound HGx.out
  rw [hil] at hlb
  have HIL := hid hil
  obtain ⟨n, hn⟩ : ∃ n, (setsL (holdsIdeal xs) (2 ^ xs.length)).length = n := ⟨_, rfl⟩
  rw [hn] at hlb ⊢
  have HN := hid hn
  clear ho hb hil hn
  go_wp2_with fail
  refine (l1NumT_any (n : Int) _ (by omega) (by omega)).mono ?_
  rintro e w3 ⟨rfl, hb⟩
  go_wp2
  go_ret
  exact ⟨⟨_, rfl, ret_s (by rw [HIL.out, HN.out])⟩, below_to HB2.out hb⟩
set_option maxRecDepth 100000 in
theorem asked_18 (g : Nat) (v tv nv : Value) (xs : List Int) (s : Int) (F : ByteArray) (w : World) (hb : Blk w g 79 #[v, .int .i64 s, tv, nv]) (hv : Ints w v xs) (hid0 : okIdeal xs s = true) (hF : F.toList = [111, 114, 100, 101, 114, 115]) (ns p : List Int) :
    Calls Tryz.prog 48 #[.pointer (some ⟨g, 0, none⟩), .string F] w fun (r : Ending) w' => (∃ t, actD 18 ns p xs s = some (xs, s, t) ∧ r = .returned (.string (sB t))) ∧ Below w.heap.size w w' := by
  have hgw : g < w.heap.size := hb.lt
  have HV := hid hv
  obtain ⟨z, rfl, hgx, hzl, hzi⟩ := okIdeal_all hid0
  have HI := hid hid0
  have HGx := hid hgx
  have HZ := hid (And.intro hzl hzi)
  have hl10 := (good_length hgx).2
  have hz1 : z < 1024 := Nat.lt_of_lt_of_le hzl (Nat.le_trans (Nat.pow_le_pow_right (by decide) hl10) (by decide))
  obtain ⟨A, c, rfl, -⟩ := hv
  have HA := hid (show AK w (w.alloc (.cells #[.slice A xs.length c] 28)).drew g (.slice A xs.length c) (z : Int) tv nv from (AK.new hb).below (below_drewN (Below.refl _ _) 1))
  have k0 : w.cell? ⟨g, 0, none⟩ = some (.slice A xs.length c) := hb.cell 0
  have k1 : w.cell? ⟨g, 1, none⟩ = some (.int .i64 (z : Int)) := hb.cell 1
  clear hb hid0 hgx hzl hzi
  go_enter Tryz.func48, Tryz.ntmps48
  go_upto_region 1 with (fail)
  go_region
  generalize (w.alloc (.cells #[.slice A xs.length c] 28)).drew = W at HA ⊢
  clear k0 k1
  have HVW := hid (HV.out.below HA.out.bel)
  have x0 : W.cell? ⟨w.heap.size, 0, none⟩ = some (.slice A xs.length c) := HA.out.k1.cell 0
  go_wp2_with fail
  refine (tgOrders_any _ xs _ HVW.out HGx.out).mono ?_
  rintro e w2 ⟨rfl, hb⟩
  have HB2 := hid (below_to HA.out.bel hb)
  have hN := ansN_bound xs
  rw [ansN_yes HGx.out] at hN
  obtain ⟨n, hn⟩ : ∃ n, ordersN xs = n := ⟨_, rfl⟩
  rw [hn] at hN ⊢
  have HN := hid hn
  clear hb hn
  go_wp2_with fail
  refine (l1NumT_any (n : Int) _ hN.1 hN.2).mono ?_
  rintro e w3 ⟨rfl, hb⟩
  go_wp2
  go_ret
  exact ⟨⟨_, rfl, ret_s (by rw [ansN_yes HGx.out, HN.out])⟩, below_to HB2.out hb⟩
set_option maxRecDepth 100000 in
theorem asked_19 (g : Nat) (v tv nv : Value) (xs : List Int) (s : Int) (F : ByteArray) (w : World) (hb : Blk w g 79 #[v, .int .i64 s, tv, nv]) (hv : Ints w v xs) (hid0 : okIdeal xs s = true) (hF : F.toList = [108, 101, 110, 103, 116, 104, 115]) (ns p : List Int) :
    Calls Tryz.prog 48 #[.pointer (some ⟨g, 0, none⟩), .string F] w fun (r : Ending) w' => (∃ t, actD 19 ns p xs s = some (xs, s, t) ∧ r = .returned (.string (sB t))) ∧ Below w.heap.size w w' := by
  have hgw : g < w.heap.size := hb.lt
  have HV := hid hv
  obtain ⟨z, rfl, hgx, hzl, hzi⟩ := okIdeal_all hid0
  have HI := hid hid0
  have HGx := hid hgx
  have HZ := hid (And.intro hzl hzi)
  have hl10 := (good_length hgx).2
  have hz1 : z < 1024 := Nat.lt_of_lt_of_le hzl (Nat.le_trans (Nat.pow_le_pow_right (by decide) hl10) (by decide))
  obtain ⟨A, c, rfl, -⟩ := hv
  have HA := hid (show AK w (w.alloc (.cells #[.slice A xs.length c] 28)).drew g (.slice A xs.length c) (z : Int) tv nv from (AK.new hb).below (below_drewN (Below.refl _ _) 1))
  have k0 : w.cell? ⟨g, 0, none⟩ = some (.slice A xs.length c) := hb.cell 0
  have k1 : w.cell? ⟨g, 1, none⟩ = some (.int .i64 (z : Int)) := hb.cell 1
  clear hb hid0 hgx hzl hzi
  go_enter Tryz.func48, Tryz.ntmps48
  go_upto_region 1 with (fail)
  go_region
  generalize (w.alloc (.cells #[.slice A xs.length c] 28)).drew = W at HA ⊢
  clear k0 k1
  have HVW := hid (HV.out.below HA.out.bel)
  have x0 : W.cell? ⟨w.heap.size, 0, none⟩ = some (.slice A xs.length c) := HA.out.k1.cell 0
  go_wp2_with fail
  refine (obLengths_any _ xs _ HVW.out HGx.out).mono ?_
  rintro e w2 ⟨q, rfl, ho, hb⟩
  have HB2 := hid (below_to HA.out.bel hb)
  have HO := hid (show Ints w2 q (lensXs xs) from ho.ints)
  obtain ⟨qA, qn, qc, rfl⟩ := ho.shape3
  clear ho hb
  have hf := ansOL_facts HGx.out
  rw [ansOL_yes HGx.out] at hf
  obtain ⟨L, hL⟩ : ∃ L, lensXs xs = L := ⟨_, rfl⟩
  rw [hL] at hf HO
  have HL := hid hL
  obtain ⟨hf1, hf2, hf3⟩ := hf
  have HF3 := hid hf3
  clear hL hf3
  go_wp2_with fail
  refine (coText_any _ L _ HO.out hf2 HF3.out).mono ?_
  rintro e w3 ⟨rfl, hb⟩
  go_wp2
  go_ret
  exact ⟨⟨_, rfl, ret_s (by rw [ansOL_yes HGx.out, HL.out])⟩, below_to HB2.out hb⟩
set_option maxRecDepth 100000 in
theorem asked_20 (g : Nat) (v tv nv : Value) (xs : List Int) (s : Int) (F : ByteArray) (w : World) (hb : Blk w g 79 #[v, .int .i64 s, tv, nv]) (hv : Ints w v xs) (hid0 : okIdeal xs s = true) (hF : F.toList = [109, 101, 97, 110]) (ns p : List Int) :
    Calls Tryz.prog 48 #[.pointer (some ⟨g, 0, none⟩), .string F] w fun (r : Ending) w' => (∃ t, actD 20 ns p xs s = some (xs, s, t) ∧ r = .returned (.string (sB t))) ∧ Below w.heap.size w w' := by
  have hgw : g < w.heap.size := hb.lt
  have HV := hid hv
  obtain ⟨z, rfl, hgx, hzl, hzi⟩ := okIdeal_all hid0
  have HI := hid hid0
  have HGx := hid hgx
  have HZ := hid (And.intro hzl hzi)
  have hl10 := (good_length hgx).2
  have hz1 : z < 1024 := Nat.lt_of_lt_of_le hzl (Nat.le_trans (Nat.pow_le_pow_right (by decide) hl10) (by decide))
  obtain ⟨A, c, rfl, -⟩ := hv
  have HA := hid (show AK w (w.alloc (.cells #[.slice A xs.length c] 28)).drew g (.slice A xs.length c) (z : Int) tv nv from (AK.new hb).below (below_drewN (Below.refl _ _) 1))
  have k0 : w.cell? ⟨g, 0, none⟩ = some (.slice A xs.length c) := hb.cell 0
  have k1 : w.cell? ⟨g, 1, none⟩ = some (.int .i64 (z : Int)) := hb.cell 1
  clear hb hid0 hgx hzl hzi
  go_enter Tryz.func48, Tryz.ntmps48
  go_upto_region 1 with (fail)
  go_region
  generalize (w.alloc (.cells #[.slice A xs.length c] 28)).drew = W at HA ⊢
  clear k0 k1
  have HVW := hid (HV.out.below HA.out.bel)
  have x0 : W.cell? ⟨w.heap.size, 0, none⟩ = some (.slice A xs.length c) := HA.out.k1.cell 0
  go_wp2_with fail
  refine (specMeanOfIdeals_any _ xs _ HVW.out (by omega)).mono ?_
  rintro e w2 ⟨rfl, hb⟩
  have HB2 := hid (below_to HA.out.bel hb)
  have hU := ansMU_bound HGx.out
  have hD := ansMD_bound HGx.out
  rw [HGx.out]
  obtain ⟨x, hx⟩ : ∃ x, ansMU xs = x := ⟨_, rfl⟩
  obtain ⟨y, hy⟩ : ∃ y, ansMD xs = y := ⟨_, rfl⟩
  rw [hx] at hU ⊢
  rw [hy] at hD ⊢
  have HX := hid hx
  have HY := hid hy
  clear hb hx hy
  have l1 := numT_length hU.2
  have l2 := numT_length hD.2
  have Ha1 := hid (fun W => run_sBc (numT x) 47 (by omega) W)
  have Ha2 := hid (fun W => run_sB (numT x ++ [47]) (numT y) (by simp; omega) W)
  obtain ⟨T1, hT1⟩ : ∃ T1, numT x ++ [47] = T1 := ⟨_, rfl⟩
  obtain ⟨T2, hT2⟩ : ∃ T2, T1 ++ numT y = T2 := ⟨_, rfl⟩
  rw [hT1] at Ha1 Ha2
  rw [hT2] at Ha2
  have HT : Hid ((numT x ++ [47]) ++ numT y = T2) := hid (by rw [hT1, hT2])
  clear l1 l2 hT1 hT2
  go_wp2_with fail
  refine (l1NumT_any x _ hU.1 hU.2).mono ?_
  rintro e w3 ⟨rfl, hb⟩
  have HB3 := hid (below_to HB2.out hb)
  clear hb
  have ha1 := Ha1.out
  go_wp2_with fail
  refine (l1NumT_any y _ hD.1 hD.2).mono ?_
  rintro e w4 ⟨rfl, hb⟩
  have ha2 := Ha2.out
  go_wp2
  go_ret
  exact ⟨⟨_, rfl, ret_s (by rw [HX.out, HY.out, HT.out])⟩, below_to HB3.out hb⟩
set_option maxRecDepth 100000 in
theorem asked_21 (g : Nat) (v tv nv : Value) (xs : List Int) (s : Int) (F : ByteArray) (w : World) (hb : Blk w g 79 #[v, .int .i64 s, tv, nv]) (hv : Ints w v xs) (hid0 : okIdeal xs s = true) (hF : F.toList = [101, 118, 101, 110]) (ns p : List Int) :
    Calls Tryz.prog 48 #[.pointer (some ⟨g, 0, none⟩), .string F] w fun (r : Ending) w' => (∃ t, actD 21 ns p xs s = some (xs, s, t) ∧ r = .returned (.string (sB t))) ∧ Below w.heap.size w w' := by
  have hgw : g < w.heap.size := hb.lt
  have HV := hid hv
  obtain ⟨z, rfl, hgx, hzl, hzi⟩ := okIdeal_all hid0
  have HI := hid hid0
  have HGx := hid hgx
  have HZ := hid (And.intro hzl hzi)
  have hl10 := (good_length hgx).2
  have hz1 : z < 1024 := Nat.lt_of_lt_of_le hzl (Nat.le_trans (Nat.pow_le_pow_right (by decide) hl10) (by decide))
  obtain ⟨A, c, rfl, -⟩ := hv
  have HA := hid (show AK w (w.alloc (.cells #[.slice A xs.length c] 28)).drew g (.slice A xs.length c) (z : Int) tv nv from (AK.new hb).below (below_drewN (Below.refl _ _) 1))
  have k0 : w.cell? ⟨g, 0, none⟩ = some (.slice A xs.length c) := hb.cell 0
  have k1 : w.cell? ⟨g, 1, none⟩ = some (.int .i64 (z : Int)) := hb.cell 1
  clear hb hid0 hgx hzl hzi
  go_enter Tryz.func48, Tryz.ntmps48
  go_upto_region 1 with (fail)
  go_region
  generalize (w.alloc (.cells #[.slice A xs.length c] 28)).drew = W at HA ⊢
  clear k0 k1
  have HVW := hid (HV.out.below HA.out.bel)
  have x0 : W.cell? ⟨w.heap.size, 0, none⟩ = some (.slice A xs.length c) := HA.out.k1.cell 0
  go_wp2_with fail
  refine (obEvenF_any _ xs _ HVW.out HGx.out).mono ?_
  rintro e w2 ⟨rfl, hb⟩
  have HB2 := hid (below_to HA.out.bel hb)
  have HE := hid (ansSizeIsEven_yes HGx.out)
  cases hq : evenL pc (allXs xs)
  · rw [hq] at HE
    clear hq hb
    go_wp2
    go_ret
    exact ⟨⟨_, rfl, by rw [HE.out]; rfl⟩, HB2.out⟩
  · rw [hq] at HE
    clear hq hb
    go_wp2
    go_ret
    exact ⟨⟨_, rfl, by rw [HE.out]; rfl⟩, HB2.out⟩
end Go.Proofs.YtbmhaamenjhjfaaGreatDoor
