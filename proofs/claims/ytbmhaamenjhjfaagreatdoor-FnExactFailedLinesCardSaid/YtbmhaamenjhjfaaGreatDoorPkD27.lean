/- DskI -/
import Derived.Deep.RegionHeld3
import Derived.Test.YtbmhaamenjhjfaaGreatDoorPkD19
import Derived.Test.YtbmhaamenjhjfaaGreatDoorPkD25
namespace Go.Proofs.YtbmhaamenjhjfaaGreatDoor
open Go.RowKit Go.WideShapes Go.ChangeShapes
set_option linter.unusedVariables false
structure CI (w W : World) (dv : Value) (s : Int) (f : ByteArray) (nv pv r0 r1 : Value) : Prop where
  k0 : Blk W w.heap.size 30 #[dv, .int .i64 s]
  k1 : Blk W (w.heap.size + 1) 85 #[.string f, nv, pv]
  k2 : Blk W (w.heap.size + 2) 30 #[r0, r1]
  bel : Below w.heap.size w W
theorem CI.size {w W : World} {dv : Value} {s : Int} {f : ByteArray} {nv pv r0 r1 : Value} (h : CI w W dv s f nv pv r0 r1) : w.heap.size + 3 ≤ W.heap.size := h.k2.lt
theorem CI.below {w W W' : World} {dv : Value} {s : Int} {f : ByteArray} {nv pv r0 r1 : Value} (h : CI w W dv s f nv pv r0 r1) (hb : Below W.heap.size W W') : CI w W' dv s f nv pv r0 r1 :=
  ⟨h.k0.below hb h.k0.lt, h.k1.below hb h.k1.lt, h.k2.below hb h.k2.lt, below_to h.bel hb⟩
theorem CI.drew {w W : World} {dv : Value} {s : Int} {f : ByteArray} {nv pv r0 r1 : Value} (h : CI w W dv s f nv pv r0 r1) : CI w W.drew dv s f nv pv r0 r1 := h.below (below_drewN (Below.refl _ _) 1)
theorem CI.new (w : World) (dv : Value) (s : Int) (f : ByteArray) (nv pv : Value) : CI w (((w.alloc (.cells #[dv, .int .i64 s] 30)).alloc (.cells #[.string f, nv, pv] 85)).alloc (.cells #[.slice none 0 0, .int .i64 0] 30)) dv s f nv pv (.slice none 0 0) (.int .i64 0) where
  k0 := ((Blk.new w _ _).alloc _).alloc _
  k1 := (Blk.newAt _ _ _ _ (by simp)).alloc _
  k2 := Blk.newAt _ _ _ _ (by simp)
  bel := below_alloc (below_alloc (below_alloc (Below.refl _ _) _) _) _
theorem CI.all {w W : World} {dv : Value} {s : Int} {f : ByteArray} {nv pv r0 r1 : Value} (h : CI w W dv s f nv pv r0 r1) :
    W.cell? ⟨w.heap.size, 0, none⟩ = some dv ∧ W.cell? ⟨w.heap.size, 1, none⟩ = some (.int .i64 s) ∧ W.cell? ⟨w.heap.size + 1, 1, none⟩ = some nv ∧ W.cell? ⟨w.heap.size + 2, 0, none⟩ = some r0 ∧ W.cell? ⟨w.heap.size + 2, 1, none⟩ = some r1 ∧
    W.frozen? ⟨w.heap.size + 2, 0, none⟩ = false ∧ W.frozen? ⟨w.heap.size + 2, 1, none⟩ = false :=
  ⟨h.k0.cell 0, h.k0.cell 1, h.k1.cell 1, h.k2.cell 0, h.k2.cell 1, h.k2.frozen 0, h.k2.frozen 1⟩
theorem CI.put {w W : World} {dv : Value} {s : Int} {f : ByteArray} {nv pv r0 r1 : Value} (h : CI w W dv s f nv pv r0 r1) (y0 y1 : Value) : CI w ((W.setCell ⟨w.heap.size + 1 + 1, 0, none⟩ y0).setCell ⟨w.heap.size + 1 + 1, 1, none⟩ y1) dv s f nv pv y0 y1 := by
  have ht := ((TurnedIn.refl (w.heap.size + 2) (w.heap.size + 3) W).set_ ⟨w.heap.size + 1 + 1, 0, none⟩ ⟨Nat.le_refl _, Nat.lt_succ_self _⟩ y0).set_ ⟨w.heap.size + 1 + 1, 1, none⟩ ⟨Nat.le_refl _, Nat.lt_succ_self _⟩ y1
  exact ⟨h.k0.turnedD ht (Or.inl (by omega)), h.k1.turnedD ht (Or.inl (by omega)), (h.k2.set_ 0 y0).set_ 1 y1, below_put2 h.bel (w.heap.size + 1 + 1) (by omega) _ _⟩
theorem okId_bound {xs : List Int} {r : Int} (h : okIdeal xs r = true) : 0 ≤ r ∧ r ≤ 1000000000000 := by
  obtain ⟨z, rfl, hg, hz, -⟩ := okIdeal_all h
  have := lt1024 hz (good_length hg).2
  omega
set_option maxRecDepth 100000 in
theorem changeIdeal_else (v : Value) (xs : List Int) (s : Int) (F : ByteArray) (nv : Value) (ns : List Int) (pv : Value) (w : World) {a0 a1 : Addr} (hG : GlobD w a0 a1) (hv : Ints w v xs) (hl : xs.length ≤ 1048576) (hn : Ints w nv ns) (hpv : ∃ A n c, pv = .slice A n c) (hid0 : okIdeal xs s = true) (hwf : (Lit.int .i64 s).wf = true) (h6 : (F.toList == [116, 97, 107, 101, 32, 78]) = false) (h7 : (F.toList == [116, 111, 103, 103, 108, 101, 32, 78]) = false) (h8 : (F.toList == [114, 111, 119]) = false) (h9 : (F.toList == [98, 97, 99, 107]) = false) (h10 : (F.toList == [116, 105, 109, 101, 115, 32, 78]) = false) (h11 : (F.toList == [118, 97, 99, 117, 97, 116, 101]) = false) (h12 : (F.toList == [103, 121, 114, 97, 116, 101]) = false) :
    Calls Tryz.prog 56 #[.agg #[v, .int .i64 s], .agg #[.string F, nv, pv]] w fun (r : Ending) w' => r = .returned (.tuple #[.agg #[.slice none 0 0, .int .i64 0], .string { data := #[] }, .iface 269 (.pointer (some a0))]) ∧ Below w.heap.size w w' := by
  have HG := hid hG
  have HV := hid hv
  have HN := hid hn
  have HI0 := hid hid0
  have HWf := hid hwf
  obtain ⟨A, c, rfl, -⟩ := hv
  obtain ⟨nA, nc, rfl, -⟩ := hn
  obtain ⟨pA, pn, pc, rfl⟩ := hpv
  clear hG hid0 hwf
  have HC := hid (CI.new w (.slice A xs.length c) s F (.slice nA ns.length nc) (.slice pA pn pc))
  go_enter Tryz.func56, Tryz.ntmps56
  go_wp2
  generalize ((w.alloc (.cells #[.slice A xs.length c, .int .i64 s] 30)).alloc (.cells #[.string F, .slice nA ns.length nc, .slice pA pn pc] 85)).alloc (.cells #[.slice none 0 0, .int .i64 0] 30) = W at HC ⊢
  have g0 := (HG.out.later HC.out.bel).what
  obtain ⟨c00, c01, c11, c20, c21, f20, f21⟩ := HC.out.all
  go_region
  go_wp2
  refine bodyPost_ret (v := .tuple #[.agg #[.slice none 0 0, .int .i64 0], .string { data := #[] }, .iface 269 (.pointer (some a0))]) (by simp [results, Tryz.results56, go_sem, c20, c21]) rfl ⟨rfl, ?_⟩
  exact below_drewN (below_put2 HC.out.bel (w.heap.size + 1 + 1) (by omega) _ _) 1
set_option maxRecDepth 100000 in
theorem changeIdeal_take_no (v : Value) (xs : List Int) (s : Int) (F : ByteArray) (nv : Value) (ns : List Int) (pv : Value) (w : World) {a0 a1 : Addr} (hG : GlobD w a0 a1) (hv : Ints w v xs) (hl : xs.length ≤ 1048576) (hn : Ints w nv ns) (hpv : ∃ A n c, pv = .slice A n c) (hid0 : okIdeal xs s = true) (hwf : (Lit.int .i64 s).wf = true) (hF : F.toList = [116, 97, 107, 101, 32, 78]) (hns : ns.length = 1) (hr0 : 0 ≤ ns.getD 0 0 ∧ ns.getD 0 0 ≤ 999999) (hok : okIdeal xs (ns.getD 0 0) = false) :
    Calls Tryz.prog 56 #[.agg #[v, .int .i64 s], .agg #[.string F, nv, pv]] w fun (r : Ending) w' => r = .returned (.tuple #[.agg #[.slice none 0 0, .int .i64 0], .string { data := #[] }, .iface 269 (.pointer (some a1))]) ∧ Below w.heap.size w w' := by
  have HG := hid hG
  have HV := hid hv
  have HN := hid hn
  have HI0 := hid hid0
  have HWf := hid hwf
  obtain ⟨A, c, rfl, -⟩ := hv
  obtain ⟨nA, nc, rfl, -⟩ := hn
  obtain ⟨pA, pn, pc, rfl⟩ := hpv
  clear hG hid0 hwf
  have HOk := hid hok
  clear hok
  obtain ⟨bN, oN, rfl⟩ := ints_addrD HN.out (by intro h0; rw [h0] at hns; simp at hns)
  have HNs := hid hns
  rw [hns] at HN ⊢
  clear hns
  have HC := hid (CI.new w (.slice A xs.length c) s F (.slice (some ⟨bN, oN, none⟩) 1 nc) (.slice pA pn pc))
  have HNW := hid (HN.out.below HC.out.bel)
  obtain ⟨x0, hx0⟩ : ∃ x, ns.getD 0 0 = x := ⟨_, rfl⟩
  rw [hx0] at hr0 HOk
  have k0 := ints_cellD HNW.out (j := 0) (by rw [HNs.out]; decide)
  rw [hx0, Nat.add_zero] at k0
  clear hx0
  go_enter Tryz.func56, Tryz.ntmps56
  go_wp2_with fail
  clear k0
  refine (hasIdeal_any _ xs x0 _ (HV.out.below HC.out.bel) hl).mono ?_
  rw [HOk.out]
  rintro e W1 ⟨rfl, hb⟩
  have HC1 := hid (HC.out.below hb)
  clear hb HC HNW
  obtain ⟨c00, c01, c11, c20, c21, f20, f21⟩ := HC1.out.all
  have g1 := (HG.out.later HC1.out.bel).no
  go_wp2
  have HC := HC1
  go_region
  go_wp2
  refine bodyPost_ret (v := .tuple #[.agg #[.slice none 0 0, .int .i64 0], .string { data := #[] }, .iface 269 (.pointer (some a1))]) (by simp [results, Tryz.results56, go_sem, c20, c21]) rfl ⟨rfl, ?_⟩
  exact below_drewN (below_put2 HC.out.bel (w.heap.size + 1 + 1) (by omega) _ _) 1
set_option maxRecDepth 100000 in
theorem changeIdeal_take_yes (v : Value) (xs : List Int) (s : Int) (F : ByteArray) (nv : Value) (ns : List Int) (pv : Value) (w : World) {a0 a1 : Addr} (hG : GlobD w a0 a1) (hv : Ints w v xs) (hl : xs.length ≤ 1048576) (hn : Ints w nv ns) (hpv : ∃ A n c, pv = .slice A n c) (hid0 : okIdeal xs s = true) (hwf : (Lit.int .i64 s).wf = true) (hF : F.toList = [116, 97, 107, 101, 32, 78]) (hns : ns.length = 1) (hr0 : 0 ≤ ns.getD 0 0 ∧ ns.getD 0 0 ≤ 999999) (hok : okIdeal xs (ns.getD 0 0) = true) (hR : okIdeal xs ((ns.getD 0 0)) = true) :
    Calls Tryz.prog 56 #[.agg #[v, .int .i64 s], .agg #[.string F, nv, pv]] w fun (r : Ending) w' => r = .returned (.tuple #[.agg #[v, .int .i64 ((ns.getD 0 0))], .string (sB (numT ((ns.getD 0 0)))), .nilIface]) ∧ Below w.heap.size w w' := by
  have HG := hid hG
  have HV := hid hv
  have HN := hid hn
  have HI0 := hid hid0
  have HWf := hid hwf
  obtain ⟨A, c, rfl, -⟩ := hv
  obtain ⟨nA, nc, rfl, -⟩ := hn
  obtain ⟨pA, pn, pc, rfl⟩ := hpv
  clear hG hid0 hwf
  have HOk := hid hok
  clear hok
  have HRb := hid (okId_bound hR)
  clear hR
  obtain ⟨bN, oN, rfl⟩ := ints_addrD HN.out (by intro h0; rw [h0] at hns; simp at hns)
  have HNs := hid hns
  rw [hns] at HN ⊢
  clear hns
  have HC := hid (CI.new w (.slice A xs.length c) s F (.slice (some ⟨bN, oN, none⟩) 1 nc) (.slice pA pn pc))
  have HNW := hid (HN.out.below HC.out.bel)
  obtain ⟨x0, hx0⟩ : ∃ x, ns.getD 0 0 = x := ⟨_, rfl⟩
  rw [hx0] at hr0 HOk HRb ⊢
  have k0 := ints_cellD HNW.out (j := 0) (by rw [HNs.out]; decide)
  rw [hx0, Nat.add_zero] at k0
  clear hx0
  go_enter Tryz.func56, Tryz.ntmps56
  go_wp2_with fail
  clear k0
  refine (hasIdeal_any _ xs x0 _ (HV.out.below HC.out.bel) hl).mono ?_
  rw [HOk.out]
  rintro e W1 ⟨rfl, hb⟩
  have HC1 := hid (HC.out.below hb)
  clear hb HC HNW
  obtain ⟨c00, c01, c11, c20, c21, f20, f21⟩ := HC1.out.all
  go_wp2
  have HCd := hid HC1.out.drew
  go_region_held3 (fun W' => W'.cell? ⟨w.heap.size, 0, none⟩ = some (.slice A xs.length c) ∧ Hid (∃ y0 y1, CI w W' (.slice A xs.length c) s F (.slice (some ⟨bN, oN, none⟩) 1 nc) (.slice pA pn pc) y0 y1)) (first | exact ⟨(HC2.out.put _ _).k0.cell 0, hid ⟨_, _, HC2.out.put _ _⟩⟩ | exact ⟨HC2.out.k0.cell 0, hid ⟨_, _, HC2.out⟩⟩ | exact ⟨HCd.out.k0.cell 0, hid ⟨_, _, HCd.out⟩⟩ | exact ⟨(HCd.out.put _ _).k0.cell 0, hid ⟨_, _, HCd.out.put _ _⟩⟩) (first | (go_at_call 114; refine (itoaT_any x0 _ (HG.out.later HCd.out.bel) HRb.out.1 HRb.out.2).mono ?_; rintro e W2 ⟨rfl, hb⟩; have HC2 := hid (HCd.out.below hb); have d20 : W2.cell? ⟨w.heap.size + 2, 0, none⟩ = some (.slice none 0 0) := HC2.out.k2.cell 0; have d21 : W2.cell? ⟨w.heap.size + 2, 1, none⟩ = some (.int .i64 0) := HC2.out.k2.cell 1; have e20 := HC2.out.k2.frozen 0; have e21 := HC2.out.k2.frozen 1; clear hb))
  go_wp2
  refine bodyPost_ret (v := .tuple #[.agg #[.slice A xs.length c, .int .i64 (x0)], .string (sB (numT (x0))), .nilIface]) (by simp [results, Tryz.results56, go_sem, d20, d21]) rfl ⟨rfl, ?_⟩
  exact below_put2 HC2.out.bel (w.heap.size + 1 + 1) (by omega) _ _
set_option maxRecDepth 100000 in
theorem changeIdeal_toggle_no (v : Value) (xs : List Int) (s : Int) (F : ByteArray) (nv : Value) (ns : List Int) (pv : Value) (w : World) {a0 a1 : Addr} (hG : GlobD w a0 a1) (hv : Ints w v xs) (hl : xs.length ≤ 1048576) (hn : Ints w nv ns) (hpv : ∃ A n c, pv = .slice A n c) (hid0 : okIdeal xs s = true) (hwf : (Lit.int .i64 s).wf = true) (hF : F.toList = [116, 111, 103, 103, 108, 101, 32, 78]) (hns : ns.length = 1) (hr0 : 0 ≤ ns.getD 0 0 ∧ ns.getD 0 0 ≤ 999999) (hok : okTW xs [(ns.getD 0 0)] s = false) :
    Calls Tryz.prog 56 #[.agg #[v, .int .i64 s], .agg #[.string F, nv, pv]] w fun (r : Ending) w' => r = .returned (.tuple #[.agg #[.slice none 0 0, .int .i64 0], .string { data := #[] }, .iface 269 (.pointer (some a1))]) ∧ Below w.heap.size w w' := by
  have HG := hid hG
  have HV := hid hv
  have HN := hid hn
  have HI0 := hid hid0
  have HWf := hid hwf
  obtain ⟨A, c, rfl, -⟩ := hv
  obtain ⟨nA, nc, rfl, -⟩ := hn
  obtain ⟨pA, pn, pc, rfl⟩ := hpv
  clear hG hid0 hwf
  have HOk := hid hok
  clear hok
  obtain ⟨bN, oN, rfl⟩ := ints_addrD HN.out (by intro h0; rw [h0] at hns; simp at hns)
  have HNs := hid hns
  rw [hns] at HN ⊢
  clear hns
  have HC := hid (CI.new w (.slice A xs.length c) s F (.slice (some ⟨bN, oN, none⟩) 1 nc) (.slice pA pn pc))
  have HNW := hid (HN.out.below HC.out.bel)
  obtain ⟨x0, hx0⟩ : ∃ x, ns.getD 0 0 = x := ⟨_, rfl⟩
  rw [hx0] at hr0 HOk
  have k0 := ints_cellD HNW.out (j := 0) (by rw [HNs.out]; decide)
  rw [hx0, Nat.add_zero] at k0
  clear hx0
  obtain ⟨R, hR1⟩ : ∃ R, ansTW xs [x0] s = R := ⟨_, rfl⟩
  have HR := hid hR1
  clear hR1
  go_enter Tryz.func56, Tryz.ntmps56
  go_wp2
  generalize ((w.alloc (.cells #[.slice A xs.length c, .int .i64 s] 30)).alloc (.cells #[.string F, .slice (some ⟨bN, oN, none⟩) 1 nc, .slice pA pn pc] 85)).alloc (.cells #[.slice none 0 0, .int .i64 0] 30) = W at HC HNW k0 ⊢
  obtain ⟨c00, c01, c11, c20, c21, f20, f21⟩ := HC.out.all
  have HKeep := hid (fun (W' : World) (hb : Below W.heap.size W W') => show W'.cell? ⟨w.heap.size, 0, none⟩ = some (.slice A xs.length c) ∧ W'.cell? ⟨w.heap.size, 1, none⟩ = some (.int .i64 s) ∧ W'.cell? ⟨w.heap.size + 1, 1, none⟩ = some (.slice (some ⟨bN, oN, none⟩) 1 nc) ∧ W'.cell? ⟨bN, oN, none⟩ = some (.int .i64 x0) ∧ Hid (CI w W' (.slice A xs.length c) s F (.slice (some ⟨bN, oN, none⟩) 1 nc) (.slice pA pn pc) (.slice none 0 0) (.int .i64 0)) from ⟨(HC.out.below hb).k0.cell 0, (HC.out.below hb).k0.cell 1, (HC.out.below hb).k1.cell 1, cell_later k0 hb, hid (HC.out.below hb)⟩)
  go_region_held3 (fun W' => W'.cell? ⟨w.heap.size, 0, none⟩ = some (.slice A xs.length c) ∧ W'.cell? ⟨w.heap.size, 1, none⟩ = some (.int .i64 s) ∧ W'.cell? ⟨w.heap.size + 1, 1, none⟩ = some (.slice (some ⟨bN, oN, none⟩) 1 nc) ∧ W'.cell? ⟨bN, oN, none⟩ = some (.int .i64 x0) ∧ Hid (CI w W' (.slice A xs.length c) s F (.slice (some ⟨bN, oN, none⟩) 1 nc) (.slice pA pn pc) (.slice none 0 0) (.int .i64 0))) (first | exact HKeep.out _ (below_drewN (Below.refl _ _) 1) | exact HKeep.out _ HBw.out) (first | (go_at_call 108; refine (implToggleAt_any _ xs s x0 _ (HV.out.below (below_drewN HC.out.bel 1)) hl HWf.out (wf_i64D _ (by omega) (by omega))).mono ?_; rw [HR.out]; rw [HOk.out]; rintro e W1 ⟨rfl, hb⟩; have HBw := hid (below_to (below_drewN (Below.refl _ W) 1) hb); have HC1 := hid (HC.out.below HBw.out); clear hb))
  clear c00 c01 c11 c20 c21 f20 f21 k0
  obtain ⟨c00, c01, c11, c20, c21, f20, f21⟩ := HC1.out.all
  have g1 := (HG.out.later HC1.out.bel).no
  go_wp2
  have HC := HC1
  go_region
  go_wp2
  refine bodyPost_ret (v := .tuple #[.agg #[.slice none 0 0, .int .i64 0], .string { data := #[] }, .iface 269 (.pointer (some a1))]) (by simp [results, Tryz.results56, go_sem, c20, c21]) rfl ⟨rfl, ?_⟩
  exact below_drewN (below_put2 HC.out.bel (w.heap.size + 1 + 1) (by omega) _ _) 1
set_option maxRecDepth 100000 in
theorem changeIdeal_toggle_yes (v : Value) (xs : List Int) (s : Int) (F : ByteArray) (nv : Value) (ns : List Int) (pv : Value) (w : World) {a0 a1 : Addr} (hG : GlobD w a0 a1) (hv : Ints w v xs) (hl : xs.length ≤ 1048576) (hn : Ints w nv ns) (hpv : ∃ A n c, pv = .slice A n c) (hid0 : okIdeal xs s = true) (hwf : (Lit.int .i64 s).wf = true) (hF : F.toList = [116, 111, 103, 103, 108, 101, 32, 78]) (hns : ns.length = 1) (hr0 : 0 ≤ ns.getD 0 0 ∧ ns.getD 0 0 ≤ 999999) (hok : okTW xs [(ns.getD 0 0)] s = true) (hR : okIdeal xs (ansTW xs [(ns.getD 0 0)] s) = true) :
    Calls Tryz.prog 56 #[.agg #[v, .int .i64 s], .agg #[.string F, nv, pv]] w fun (r : Ending) w' => r = .returned (.tuple #[.agg #[v, .int .i64 (ansTW xs [(ns.getD 0 0)] s)], .string (sB (numT (ansTW xs [(ns.getD 0 0)] s))), .nilIface]) ∧ Below w.heap.size w w' := by
  have HG := hid hG
  have HV := hid hv
  have HN := hid hn
  have HI0 := hid hid0
  have HWf := hid hwf
  obtain ⟨A, c, rfl, -⟩ := hv
  obtain ⟨nA, nc, rfl, -⟩ := hn
  obtain ⟨pA, pn, pc, rfl⟩ := hpv
  clear hG hid0 hwf
  have HOk := hid hok
  clear hok
  have HRb := hid (okId_bound hR)
  clear hR
  obtain ⟨bN, oN, rfl⟩ := ints_addrD HN.out (by intro h0; rw [h0] at hns; simp at hns)
  have HNs := hid hns
  rw [hns] at HN ⊢
  clear hns
  have HC := hid (CI.new w (.slice A xs.length c) s F (.slice (some ⟨bN, oN, none⟩) 1 nc) (.slice pA pn pc))
  have HNW := hid (HN.out.below HC.out.bel)
  obtain ⟨x0, hx0⟩ : ∃ x, ns.getD 0 0 = x := ⟨_, rfl⟩
  rw [hx0] at hr0 HOk HRb ⊢
  have k0 := ints_cellD HNW.out (j := 0) (by rw [HNs.out]; decide)
  rw [hx0, Nat.add_zero] at k0
  clear hx0
  obtain ⟨R, hR1⟩ : ∃ R, ansTW xs [x0] s = R := ⟨_, rfl⟩
  have HR := hid hR1
  rw [hR1] at HRb ⊢
  clear hR1
  go_enter Tryz.func56, Tryz.ntmps56
  go_wp2
  generalize ((w.alloc (.cells #[.slice A xs.length c, .int .i64 s] 30)).alloc (.cells #[.string F, .slice (some ⟨bN, oN, none⟩) 1 nc, .slice pA pn pc] 85)).alloc (.cells #[.slice none 0 0, .int .i64 0] 30) = W at HC HNW k0 ⊢
  obtain ⟨c00, c01, c11, c20, c21, f20, f21⟩ := HC.out.all
  have HKeep := hid (fun (W' : World) (hb : Below W.heap.size W W') => show W'.cell? ⟨w.heap.size, 0, none⟩ = some (.slice A xs.length c) ∧ W'.cell? ⟨w.heap.size, 1, none⟩ = some (.int .i64 s) ∧ W'.cell? ⟨w.heap.size + 1, 1, none⟩ = some (.slice (some ⟨bN, oN, none⟩) 1 nc) ∧ W'.cell? ⟨bN, oN, none⟩ = some (.int .i64 x0) ∧ Hid (CI w W' (.slice A xs.length c) s F (.slice (some ⟨bN, oN, none⟩) 1 nc) (.slice pA pn pc) (.slice none 0 0) (.int .i64 0)) from ⟨(HC.out.below hb).k0.cell 0, (HC.out.below hb).k0.cell 1, (HC.out.below hb).k1.cell 1, cell_later k0 hb, hid (HC.out.below hb)⟩)
  go_region_held3 (fun W' => W'.cell? ⟨w.heap.size, 0, none⟩ = some (.slice A xs.length c) ∧ W'.cell? ⟨w.heap.size, 1, none⟩ = some (.int .i64 s) ∧ W'.cell? ⟨w.heap.size + 1, 1, none⟩ = some (.slice (some ⟨bN, oN, none⟩) 1 nc) ∧ W'.cell? ⟨bN, oN, none⟩ = some (.int .i64 x0) ∧ Hid (CI w W' (.slice A xs.length c) s F (.slice (some ⟨bN, oN, none⟩) 1 nc) (.slice pA pn pc) (.slice none 0 0) (.int .i64 0))) (first | exact HKeep.out _ (below_drewN (Below.refl _ _) 1) | exact HKeep.out _ HBw.out) (first | (go_at_call 108; refine (implToggleAt_any _ xs s x0 _ (HV.out.below (below_drewN HC.out.bel 1)) hl HWf.out (wf_i64D _ (by omega) (by omega))).mono ?_; rw [HR.out]; rw [HOk.out]; rintro e W1 ⟨rfl, hb⟩; have HBw := hid (below_to (below_drewN (Below.refl _ W) 1) hb); have HC1 := hid (HC.out.below HBw.out); clear hb))
  clear c00 c01 c11 c20 c21 f20 f21 k0
  obtain ⟨c00, c01, c11, c20, c21, f20, f21⟩ := HC1.out.all
  go_wp2
  have HCd := hid HC1.out.drew
  go_region_held3 (fun W' => W'.cell? ⟨w.heap.size, 0, none⟩ = some (.slice A xs.length c) ∧ Hid (∃ y0 y1, CI w W' (.slice A xs.length c) s F (.slice (some ⟨bN, oN, none⟩) 1 nc) (.slice pA pn pc) y0 y1)) (first | exact ⟨(HC2.out.put _ _).k0.cell 0, hid ⟨_, _, HC2.out.put _ _⟩⟩ | exact ⟨HC2.out.k0.cell 0, hid ⟨_, _, HC2.out⟩⟩ | exact ⟨HCd.out.k0.cell 0, hid ⟨_, _, HCd.out⟩⟩ | exact ⟨(HCd.out.put _ _).k0.cell 0, hid ⟨_, _, HCd.out.put _ _⟩⟩) (first | (go_at_call 114; refine (itoaT_any R _ (HG.out.later HCd.out.bel) HRb.out.1 HRb.out.2).mono ?_; rintro e W2 ⟨rfl, hb⟩; have HC2 := hid (HCd.out.below hb); have d20 : W2.cell? ⟨w.heap.size + 2, 0, none⟩ = some (.slice none 0 0) := HC2.out.k2.cell 0; have d21 : W2.cell? ⟨w.heap.size + 2, 1, none⟩ = some (.int .i64 0) := HC2.out.k2.cell 1; have e20 := HC2.out.k2.frozen 0; have e21 := HC2.out.k2.frozen 1; clear hb))
  go_wp2
  refine bodyPost_ret (v := .tuple #[.agg #[.slice A xs.length c, .int .i64 (R)], .string (sB (numT (R))), .nilIface]) (by simp [results, Tryz.results56, go_sem, d20, d21]) rfl ⟨rfl, ?_⟩
  exact below_put2 HC2.out.bel (w.heap.size + 1 + 1) (by omega) _ _
set_option maxRecDepth 100000 in
theorem changeIdeal_row (v : Value) (xs : List Int) (s : Int) (F : ByteArray) (nv : Value) (ns : List Int) (pv : Value) (w : World) {a0 a1 : Addr} (hG : GlobD w a0 a1) (hv : Ints w v xs) (hl : xs.length ≤ 1048576) (hn : Ints w nv ns) (hpv : ∃ A n c, pv = .slice A n c) (hid0 : okIdeal xs s = true) (hwf : (Lit.int .i64 s).wf = true) (hF : F.toList = [114, 111, 119]) (hR : okIdeal xs (ansRow xs s rowmo) = true) :
    Calls Tryz.prog 56 #[.agg #[v, .int .i64 s], .agg #[.string F, nv, pv]] w fun (r : Ending) w' => r = .returned (.tuple #[.agg #[v, .int .i64 (ansRow xs s rowmo)], .string (sB (numT (ansRow xs s rowmo))), .nilIface]) ∧ Below w.heap.size w w' := by
  have HG := hid hG
  have HV := hid hv
  have HN := hid hn
  have HI0 := hid hid0
  have HWf := hid hwf
  obtain ⟨A, c, rfl, -⟩ := hv
  obtain ⟨nA, nc, rfl, -⟩ := hn
  obtain ⟨pA, pn, pc, rfl⟩ := hpv
  clear hG hid0 hwf
  have HRb := hid (okId_bound hR)
  clear hR
  have HC := hid (CI.new w (.slice A xs.length c) s F (.slice nA ns.length nc) (.slice pA pn pc))
  obtain ⟨R, hR1⟩ : ∃ R, ansRow xs s rowmo = R := ⟨_, rfl⟩
  have HR := hid hR1
  rw [hR1] at HRb ⊢
  clear hR1
  go_enter Tryz.func56, Tryz.ntmps56
  go_wp2_with fail
  refine (implRowmotion_any _ xs s _ (HV.out.below HC.out.bel) hl HWf.out).mono ?_
  rw [HR.out]
  rw [HI0.out]
  rintro e W1 ⟨rfl, hb⟩
  have HC1 := hid (HC.out.below hb)
  clear hb HC
  obtain ⟨c00, c01, c11, c20, c21, f20, f21⟩ := HC1.out.all
  go_wp2
  have HCd := hid HC1.out.drew
  go_region_held3 (fun W' => W'.cell? ⟨w.heap.size, 0, none⟩ = some (.slice A xs.length c) ∧ Hid (∃ y0 y1, CI w W' (.slice A xs.length c) s F (.slice nA ns.length nc) (.slice pA pn pc) y0 y1)) (first | exact ⟨(HC2.out.put _ _).k0.cell 0, hid ⟨_, _, HC2.out.put _ _⟩⟩ | exact ⟨HC2.out.k0.cell 0, hid ⟨_, _, HC2.out⟩⟩ | exact ⟨HCd.out.k0.cell 0, hid ⟨_, _, HCd.out⟩⟩ | exact ⟨(HCd.out.put _ _).k0.cell 0, hid ⟨_, _, HCd.out.put _ _⟩⟩) (first | (go_at_call 114; refine (itoaT_any R _ (HG.out.later HCd.out.bel) HRb.out.1 HRb.out.2).mono ?_; rintro e W2 ⟨rfl, hb⟩; have HC2 := hid (HCd.out.below hb); have d20 : W2.cell? ⟨w.heap.size + 2, 0, none⟩ = some (.slice none 0 0) := HC2.out.k2.cell 0; have d21 : W2.cell? ⟨w.heap.size + 2, 1, none⟩ = some (.int .i64 0) := HC2.out.k2.cell 1; have e20 := HC2.out.k2.frozen 0; have e21 := HC2.out.k2.frozen 1; clear hb))
  go_wp2
  refine bodyPost_ret (v := .tuple #[.agg #[.slice A xs.length c, .int .i64 (R)], .string (sB (numT (R))), .nilIface]) (by simp [results, Tryz.results56, go_sem, d20, d21]) rfl ⟨rfl, ?_⟩
  exact below_put2 HC2.out.bel (w.heap.size + 1 + 1) (by omega) _ _
set_option maxRecDepth 100000 in
theorem changeIdeal_back (v : Value) (xs : List Int) (s : Int) (F : ByteArray) (nv : Value) (ns : List Int) (pv : Value) (w : World) {a0 a1 : Addr} (hG : GlobD w a0 a1) (hv : Ints w v xs) (hl : xs.length ≤ 1048576) (hn : Ints w nv ns) (hpv : ∃ A n c, pv = .slice A n c) (hid0 : okIdeal xs s = true) (hwf : (Lit.int .i64 s).wf = true) (hF : F.toList = [98, 97, 99, 107]) (hR : okIdeal xs (ansRow xs s rowba) = true) :
    Calls Tryz.prog 56 #[.agg #[v, .int .i64 s], .agg #[.string F, nv, pv]] w fun (r : Ending) w' => r = .returned (.tuple #[.agg #[v, .int .i64 (ansRow xs s rowba)], .string (sB (numT (ansRow xs s rowba))), .nilIface]) ∧ Below w.heap.size w w' := by
  have HG := hid hG
  have HV := hid hv
  have HN := hid hn
  have HI0 := hid hid0
  have HWf := hid hwf
  obtain ⟨A, c, rfl, -⟩ := hv
  obtain ⟨nA, nc, rfl, -⟩ := hn
  obtain ⟨pA, pn, pc, rfl⟩ := hpv
  clear hG hid0 hwf
  have HRb := hid (okId_bound hR)
  clear hR
  have HC := hid (CI.new w (.slice A xs.length c) s F (.slice nA ns.length nc) (.slice pA pn pc))
  obtain ⟨R, hR1⟩ : ∃ R, ansRow xs s rowba = R := ⟨_, rfl⟩
  have HR := hid hR1
  rw [hR1] at HRb ⊢
  clear hR1
  go_enter Tryz.func56, Tryz.ntmps56
  go_wp2_with fail
  refine (implRowmotionBack_any _ xs s _ (HV.out.below HC.out.bel) hl HWf.out).mono ?_
  rw [HR.out]
  rw [HI0.out]
  rintro e W1 ⟨rfl, hb⟩
  have HC1 := hid (HC.out.below hb)
  clear hb HC
  obtain ⟨c00, c01, c11, c20, c21, f20, f21⟩ := HC1.out.all
  go_wp2
  have HCd := hid HC1.out.drew
  go_region_held3 (fun W' => W'.cell? ⟨w.heap.size, 0, none⟩ = some (.slice A xs.length c) ∧ Hid (∃ y0 y1, CI w W' (.slice A xs.length c) s F (.slice nA ns.length nc) (.slice pA pn pc) y0 y1)) (first | exact ⟨(HC2.out.put _ _).k0.cell 0, hid ⟨_, _, HC2.out.put _ _⟩⟩ | exact ⟨HC2.out.k0.cell 0, hid ⟨_, _, HC2.out⟩⟩ | exact ⟨HCd.out.k0.cell 0, hid ⟨_, _, HCd.out⟩⟩ | exact ⟨(HCd.out.put _ _).k0.cell 0, hid ⟨_, _, HCd.out.put _ _⟩⟩) (first | (go_at_call 114; refine (itoaT_any R _ (HG.out.later HCd.out.bel) HRb.out.1 HRb.out.2).mono ?_; rintro e W2 ⟨rfl, hb⟩; have HC2 := hid (HCd.out.below hb); have d20 : W2.cell? ⟨w.heap.size + 2, 0, none⟩ = some (.slice none 0 0) := HC2.out.k2.cell 0; have d21 : W2.cell? ⟨w.heap.size + 2, 1, none⟩ = some (.int .i64 0) := HC2.out.k2.cell 1; have e20 := HC2.out.k2.frozen 0; have e21 := HC2.out.k2.frozen 1; clear hb))
  go_wp2
  refine bodyPost_ret (v := .tuple #[.agg #[.slice A xs.length c, .int .i64 (R)], .string (sB (numT (R))), .nilIface]) (by simp [results, Tryz.results56, go_sem, d20, d21]) rfl ⟨rfl, ?_⟩
  exact below_put2 HC2.out.bel (w.heap.size + 1 + 1) (by omega) _ _
set_option maxRecDepth 100000 in
theorem changeIdeal_times_no (v : Value) (xs : List Int) (s : Int) (F : ByteArray) (nv : Value) (ns : List Int) (pv : Value) (w : World) {a0 a1 : Addr} (hG : GlobD w a0 a1) (hv : Ints w v xs) (hl : xs.length ≤ 1048576) (hn : Ints w nv ns) (hpv : ∃ A n c, pv = .slice A n c) (hid0 : okIdeal xs s = true) (hwf : (Lit.int .i64 s).wf = true) (hF : F.toList = [116, 105, 109, 101, 115, 32, 78]) (hns : ns.length = 1) (hr0 : 0 ≤ ns.getD 0 0 ∧ ns.getD 0 0 ≤ 999999) (hok : okRT xs s (ns.getD 0 0) = false) :
    Calls Tryz.prog 56 #[.agg #[v, .int .i64 s], .agg #[.string F, nv, pv]] w fun (r : Ending) w' => r = .returned (.tuple #[.agg #[.slice none 0 0, .int .i64 0], .string { data := #[] }, .iface 269 (.pointer (some a1))]) ∧ Below w.heap.size w w' := by
  have HG := hid hG
  have HV := hid hv
  have HN := hid hn
  have HI0 := hid hid0
  have HWf := hid hwf
  obtain ⟨A, c, rfl, -⟩ := hv
  obtain ⟨nA, nc, rfl, -⟩ := hn
  obtain ⟨pA, pn, pc, rfl⟩ := hpv
  clear hG hid0 hwf
  have HOk := hid hok
  clear hok
  obtain ⟨bN, oN, rfl⟩ := ints_addrD HN.out (by intro h0; rw [h0] at hns; simp at hns)
  have HNs := hid hns
  rw [hns] at HN ⊢
  clear hns
  have HC := hid (CI.new w (.slice A xs.length c) s F (.slice (some ⟨bN, oN, none⟩) 1 nc) (.slice pA pn pc))
  have HNW := hid (HN.out.below HC.out.bel)
  obtain ⟨x0, hx0⟩ : ∃ x, ns.getD 0 0 = x := ⟨_, rfl⟩
  rw [hx0] at hr0 HOk
  have k0 := ints_cellD HNW.out (j := 0) (by rw [HNs.out]; decide)
  rw [hx0, Nat.add_zero] at k0
  clear hx0
  obtain ⟨R, hR1⟩ : ∃ R, ansRT xs s x0 = R := ⟨_, rfl⟩
  have HR := hid hR1
  clear hR1
  go_enter Tryz.func56, Tryz.ntmps56
  go_wp2
  generalize ((w.alloc (.cells #[.slice A xs.length c, .int .i64 s] 30)).alloc (.cells #[.string F, .slice (some ⟨bN, oN, none⟩) 1 nc, .slice pA pn pc] 85)).alloc (.cells #[.slice none 0 0, .int .i64 0] 30) = W at HC HNW k0 ⊢
  obtain ⟨c00, c01, c11, c20, c21, f20, f21⟩ := HC.out.all
  have HKeep := hid (fun (W' : World) (hb : Below W.heap.size W W') => show W'.cell? ⟨w.heap.size, 0, none⟩ = some (.slice A xs.length c) ∧ W'.cell? ⟨w.heap.size, 1, none⟩ = some (.int .i64 s) ∧ W'.cell? ⟨w.heap.size + 1, 1, none⟩ = some (.slice (some ⟨bN, oN, none⟩) 1 nc) ∧ W'.cell? ⟨bN, oN, none⟩ = some (.int .i64 x0) ∧ Hid (CI w W' (.slice A xs.length c) s F (.slice (some ⟨bN, oN, none⟩) 1 nc) (.slice pA pn pc) (.slice none 0 0) (.int .i64 0)) from ⟨(HC.out.below hb).k0.cell 0, (HC.out.below hb).k0.cell 1, (HC.out.below hb).k1.cell 1, cell_later k0 hb, hid (HC.out.below hb)⟩)
  go_region_held3 (fun W' => W'.cell? ⟨w.heap.size, 0, none⟩ = some (.slice A xs.length c) ∧ W'.cell? ⟨w.heap.size, 1, none⟩ = some (.int .i64 s) ∧ W'.cell? ⟨w.heap.size + 1, 1, none⟩ = some (.slice (some ⟨bN, oN, none⟩) 1 nc) ∧ W'.cell? ⟨bN, oN, none⟩ = some (.int .i64 x0) ∧ Hid (CI w W' (.slice A xs.length c) s F (.slice (some ⟨bN, oN, none⟩) 1 nc) (.slice pA pn pc) (.slice none 0 0) (.int .i64 0))) (first | exact HKeep.out _ (below_drewN (Below.refl _ _) 1) | exact HKeep.out _ HBw.out) (first | (go_at_call 111; refine (implRowmotionTimes_any _ xs s x0 _ (HV.out.below (below_drewN HC.out.bel 1)) hl HWf.out (wf_i64D _ (by omega) (by omega))).mono ?_; rw [HR.out]; rw [HOk.out]; rintro e W1 ⟨rfl, hb⟩; have HBw := hid (below_to (below_drewN (Below.refl _ W) 1) hb); have HC1 := hid (HC.out.below HBw.out); clear hb))
  clear c00 c01 c11 c20 c21 f20 f21 k0
  obtain ⟨c00, c01, c11, c20, c21, f20, f21⟩ := HC1.out.all
  have g1 := (HG.out.later HC1.out.bel).no
  go_wp2
  have HC := HC1
  go_region
  go_wp2
  refine bodyPost_ret (v := .tuple #[.agg #[.slice none 0 0, .int .i64 0], .string { data := #[] }, .iface 269 (.pointer (some a1))]) (by simp [results, Tryz.results56, go_sem, c20, c21]) rfl ⟨rfl, ?_⟩
  exact below_drewN (below_put2 HC.out.bel (w.heap.size + 1 + 1) (by omega) _ _) 1
set_option maxRecDepth 100000 in
theorem changeIdeal_times_yes (v : Value) (xs : List Int) (s : Int) (F : ByteArray) (nv : Value) (ns : List Int) (pv : Value) (w : World) {a0 a1 : Addr} (hG : GlobD w a0 a1) (hv : Ints w v xs) (hl : xs.length ≤ 1048576) (hn : Ints w nv ns) (hpv : ∃ A n c, pv = .slice A n c) (hid0 : okIdeal xs s = true) (hwf : (Lit.int .i64 s).wf = true) (hF : F.toList = [116, 105, 109, 101, 115, 32, 78]) (hns : ns.length = 1) (hr0 : 0 ≤ ns.getD 0 0 ∧ ns.getD 0 0 ≤ 999999) (hok : okRT xs s (ns.getD 0 0) = true) (hR : okIdeal xs (ansRT xs s (ns.getD 0 0)) = true) :
    Calls Tryz.prog 56 #[.agg #[v, .int .i64 s], .agg #[.string F, nv, pv]] w fun (r : Ending) w' => r = .returned (.tuple #[.agg #[v, .int .i64 (ansRT xs s (ns.getD 0 0))], .string (sB (numT (ansRT xs s (ns.getD 0 0)))), .nilIface]) ∧ Below w.heap.size w w' := by
  have HG := hid hG
  have HV := hid hv
  have HN := hid hn
  have HI0 := hid hid0
  have HWf := hid hwf
  obtain ⟨A, c, rfl, -⟩ := hv
  obtain ⟨nA, nc, rfl, -⟩ := hn
  obtain ⟨pA, pn, pc, rfl⟩ := hpv
  clear hG hid0 hwf
  have HOk := hid hok
  clear hok
  have HRb := hid (okId_bound hR)
  clear hR
  obtain ⟨bN, oN, rfl⟩ := ints_addrD HN.out (by intro h0; rw [h0] at hns; simp at hns)
  have HNs := hid hns
  rw [hns] at HN ⊢
  clear hns
  have HC := hid (CI.new w (.slice A xs.length c) s F (.slice (some ⟨bN, oN, none⟩) 1 nc) (.slice pA pn pc))
  have HNW := hid (HN.out.below HC.out.bel)
  obtain ⟨x0, hx0⟩ : ∃ x, ns.getD 0 0 = x := ⟨_, rfl⟩
  rw [hx0] at hr0 HOk HRb ⊢
  have k0 := ints_cellD HNW.out (j := 0) (by rw [HNs.out]; decide)
  rw [hx0, Nat.add_zero] at k0
  clear hx0
  obtain ⟨R, hR1⟩ : ∃ R, ansRT xs s x0 = R := ⟨_, rfl⟩
  have HR := hid hR1
  rw [hR1] at HRb ⊢
  clear hR1
  go_enter Tryz.func56, Tryz.ntmps56
  go_wp2
  generalize ((w.alloc (.cells #[.slice A xs.length c, .int .i64 s] 30)).alloc (.cells #[.string F, .slice (some ⟨bN, oN, none⟩) 1 nc, .slice pA pn pc] 85)).alloc (.cells #[.slice none 0 0, .int .i64 0] 30) = W at HC HNW k0 ⊢
  obtain ⟨c00, c01, c11, c20, c21, f20, f21⟩ := HC.out.all
  have HKeep := hid (fun (W' : World) (hb : Below W.heap.size W W') => show W'.cell? ⟨w.heap.size, 0, none⟩ = some (.slice A xs.length c) ∧ W'.cell? ⟨w.heap.size, 1, none⟩ = some (.int .i64 s) ∧ W'.cell? ⟨w.heap.size + 1, 1, none⟩ = some (.slice (some ⟨bN, oN, none⟩) 1 nc) ∧ W'.cell? ⟨bN, oN, none⟩ = some (.int .i64 x0) ∧ Hid (CI w W' (.slice A xs.length c) s F (.slice (some ⟨bN, oN, none⟩) 1 nc) (.slice pA pn pc) (.slice none 0 0) (.int .i64 0)) from ⟨(HC.out.below hb).k0.cell 0, (HC.out.below hb).k0.cell 1, (HC.out.below hb).k1.cell 1, cell_later k0 hb, hid (HC.out.below hb)⟩)
  go_region_held3 (fun W' => W'.cell? ⟨w.heap.size, 0, none⟩ = some (.slice A xs.length c) ∧ W'.cell? ⟨w.heap.size, 1, none⟩ = some (.int .i64 s) ∧ W'.cell? ⟨w.heap.size + 1, 1, none⟩ = some (.slice (some ⟨bN, oN, none⟩) 1 nc) ∧ W'.cell? ⟨bN, oN, none⟩ = some (.int .i64 x0) ∧ Hid (CI w W' (.slice A xs.length c) s F (.slice (some ⟨bN, oN, none⟩) 1 nc) (.slice pA pn pc) (.slice none 0 0) (.int .i64 0))) (first | exact HKeep.out _ (below_drewN (Below.refl _ _) 1) | exact HKeep.out _ HBw.out) (first | (go_at_call 111; refine (implRowmotionTimes_any _ xs s x0 _ (HV.out.below (below_drewN HC.out.bel 1)) hl HWf.out (wf_i64D _ (by omega) (by omega))).mono ?_; rw [HR.out]; rw [HOk.out]; rintro e W1 ⟨rfl, hb⟩; have HBw := hid (below_to (below_drewN (Below.refl _ W) 1) hb); have HC1 := hid (HC.out.below HBw.out); clear hb))
  clear c00 c01 c11 c20 c21 f20 f21 k0
  obtain ⟨c00, c01, c11, c20, c21, f20, f21⟩ := HC1.out.all
  go_wp2
  have HCd := hid HC1.out.drew
  go_region_held3 (fun W' => W'.cell? ⟨w.heap.size, 0, none⟩ = some (.slice A xs.length c) ∧ Hid (∃ y0 y1, CI w W' (.slice A xs.length c) s F (.slice (some ⟨bN, oN, none⟩) 1 nc) (.slice pA pn pc) y0 y1)) (first | exact ⟨(HC2.out.put _ _).k0.cell 0, hid ⟨_, _, HC2.out.put _ _⟩⟩ | exact ⟨HC2.out.k0.cell 0, hid ⟨_, _, HC2.out⟩⟩ | exact ⟨HCd.out.k0.cell 0, hid ⟨_, _, HCd.out⟩⟩ | exact ⟨(HCd.out.put _ _).k0.cell 0, hid ⟨_, _, HCd.out.put _ _⟩⟩) (first | (go_at_call 114; refine (itoaT_any R _ (HG.out.later HCd.out.bel) HRb.out.1 HRb.out.2).mono ?_; rintro e W2 ⟨rfl, hb⟩; have HC2 := hid (HCd.out.below hb); have d20 : W2.cell? ⟨w.heap.size + 2, 0, none⟩ = some (.slice none 0 0) := HC2.out.k2.cell 0; have d21 : W2.cell? ⟨w.heap.size + 2, 1, none⟩ = some (.int .i64 0) := HC2.out.k2.cell 1; have e20 := HC2.out.k2.frozen 0; have e21 := HC2.out.k2.frozen 1; clear hb))
  go_wp2
  refine bodyPost_ret (v := .tuple #[.agg #[.slice A xs.length c, .int .i64 (R)], .string (sB (numT (R))), .nilIface]) (by simp [results, Tryz.results56, go_sem, d20, d21]) rfl ⟨rfl, ?_⟩
  exact below_put2 HC2.out.bel (w.heap.size + 1 + 1) (by omega) _ _
set_option maxRecDepth 100000 in
theorem changeIdeal_vacuate_no (v : Value) (xs : List Int) (s : Int) (F : ByteArray) (nv : Value) (ns : List Int) (pv : Value) (w : World) {a0 a1 : Addr} (hG : GlobD w a0 a1) (hv : Ints w v xs) (hl : xs.length ≤ 1048576) (hn : Ints w nv ns) (hpv : ∃ A n c, pv = .slice A n c) (hid0 : okIdeal xs s = true) (hwf : (Lit.int .i64 s).wf = true) (hF : F.toList = [118, 97, 99, 117, 97, 116, 101]) (hok : okRI xs s = false) :
    Calls Tryz.prog 56 #[.agg #[v, .int .i64 s], .agg #[.string F, nv, pv]] w fun (r : Ending) w' => r = .returned (.tuple #[.agg #[.slice none 0 0, .int .i64 0], .string { data := #[] }, .iface 269 (.pointer (some a1))]) ∧ Below w.heap.size w w' := by
  have HG := hid hG
  have HV := hid hv
  have HN := hid hn
  have HI0 := hid hid0
  have HWf := hid hwf
  obtain ⟨A, c, rfl, -⟩ := hv
  obtain ⟨nA, nc, rfl, -⟩ := hn
  obtain ⟨pA, pn, pc, rfl⟩ := hpv
  clear hG hid0 hwf
  have HOk := hid hok
  clear hok
  have HC := hid (CI.new w (.slice A xs.length c) s F (.slice nA ns.length nc) (.slice pA pn pc))
  obtain ⟨R, hR1⟩ : ∃ R, ansSW wVac xs s = R := ⟨_, rfl⟩
  have HR := hid hR1
  clear hR1
  go_enter Tryz.func56, Tryz.ntmps56
  go_wp2_with fail
  refine (implRowvacuation_any _ xs s _ (HV.out.below HC.out.bel) hl HWf.out).mono ?_
  rw [HR.out]
  rw [HOk.out]
  rintro e W1 ⟨rfl, hb⟩
  have HC1 := hid (HC.out.below hb)
  clear hb HC
  obtain ⟨c00, c01, c11, c20, c21, f20, f21⟩ := HC1.out.all
  have g1 := (HG.out.later HC1.out.bel).no
  go_wp2
  have HC := HC1
  go_region
  go_wp2
  refine bodyPost_ret (v := .tuple #[.agg #[.slice none 0 0, .int .i64 0], .string { data := #[] }, .iface 269 (.pointer (some a1))]) (by simp [results, Tryz.results56, go_sem, c20, c21]) rfl ⟨rfl, ?_⟩
  exact below_drewN (below_put2 HC.out.bel (w.heap.size + 1 + 1) (by omega) _ _) 1
set_option maxRecDepth 100000 in
theorem changeIdeal_vacuate_yes (v : Value) (xs : List Int) (s : Int) (F : ByteArray) (nv : Value) (ns : List Int) (pv : Value) (w : World) {a0 a1 : Addr} (hG : GlobD w a0 a1) (hv : Ints w v xs) (hl : xs.length ≤ 1048576) (hn : Ints w nv ns) (hpv : ∃ A n c, pv = .slice A n c) (hid0 : okIdeal xs s = true) (hwf : (Lit.int .i64 s).wf = true) (hF : F.toList = [118, 97, 99, 117, 97, 116, 101]) (hok : okRI xs s = true) (hR : okIdeal xs (ansSW wVac xs s) = true) :
    Calls Tryz.prog 56 #[.agg #[v, .int .i64 s], .agg #[.string F, nv, pv]] w fun (r : Ending) w' => r = .returned (.tuple #[.agg #[v, .int .i64 (ansSW wVac xs s)], .string (sB (numT (ansSW wVac xs s))), .nilIface]) ∧ Below w.heap.size w w' := by
  have HG := hid hG
  have HV := hid hv
  have HN := hid hn
  have HI0 := hid hid0
  have HWf := hid hwf
  obtain ⟨A, c, rfl, -⟩ := hv
  obtain ⟨nA, nc, rfl, -⟩ := hn
  obtain ⟨pA, pn, pc, rfl⟩ := hpv
  clear hG hid0 hwf
  have HOk := hid hok
  clear hok
  have HRb := hid (okId_bound hR)
  clear hR
  have HC := hid (CI.new w (.slice A xs.length c) s F (.slice nA ns.length nc) (.slice pA pn pc))
  obtain ⟨R, hR1⟩ : ∃ R, ansSW wVac xs s = R := ⟨_, rfl⟩
  have HR := hid hR1
  rw [hR1] at HRb ⊢
  clear hR1
  go_enter Tryz.func56, Tryz.ntmps56
  go_wp2_with fail
  refine (implRowvacuation_any _ xs s _ (HV.out.below HC.out.bel) hl HWf.out).mono ?_
  rw [HR.out]
  rw [HOk.out]
  rintro e W1 ⟨rfl, hb⟩
  have HC1 := hid (HC.out.below hb)
  clear hb HC
  obtain ⟨c00, c01, c11, c20, c21, f20, f21⟩ := HC1.out.all
  go_wp2
  have HCd := hid HC1.out.drew
  go_region_held3 (fun W' => W'.cell? ⟨w.heap.size, 0, none⟩ = some (.slice A xs.length c) ∧ Hid (∃ y0 y1, CI w W' (.slice A xs.length c) s F (.slice nA ns.length nc) (.slice pA pn pc) y0 y1)) (first | exact ⟨(HC2.out.put _ _).k0.cell 0, hid ⟨_, _, HC2.out.put _ _⟩⟩ | exact ⟨HC2.out.k0.cell 0, hid ⟨_, _, HC2.out⟩⟩ | exact ⟨HCd.out.k0.cell 0, hid ⟨_, _, HCd.out⟩⟩ | exact ⟨(HCd.out.put _ _).k0.cell 0, hid ⟨_, _, HCd.out.put _ _⟩⟩) (first | (go_at_call 114; refine (itoaT_any R _ (HG.out.later HCd.out.bel) HRb.out.1 HRb.out.2).mono ?_; rintro e W2 ⟨rfl, hb⟩; have HC2 := hid (HCd.out.below hb); have d20 : W2.cell? ⟨w.heap.size + 2, 0, none⟩ = some (.slice none 0 0) := HC2.out.k2.cell 0; have d21 : W2.cell? ⟨w.heap.size + 2, 1, none⟩ = some (.int .i64 0) := HC2.out.k2.cell 1; have e20 := HC2.out.k2.frozen 0; have e21 := HC2.out.k2.frozen 1; clear hb))
  go_wp2
  refine bodyPost_ret (v := .tuple #[.agg #[.slice A xs.length c, .int .i64 (R)], .string (sB (numT (R))), .nilIface]) (by simp [results, Tryz.results56, go_sem, d20, d21]) rfl ⟨rfl, ?_⟩
  exact below_put2 HC2.out.bel (w.heap.size + 1 + 1) (by omega) _ _
set_option maxRecDepth 100000 in
theorem changeIdeal_gyrate_no (v : Value) (xs : List Int) (s : Int) (F : ByteArray) (nv : Value) (ns : List Int) (pv : Value) (w : World) {a0 a1 : Addr} (hG : GlobD w a0 a1) (hv : Ints w v xs) (hl : xs.length ≤ 1048576) (hn : Ints w nv ns) (hpv : ∃ A n c, pv = .slice A n c) (hid0 : okIdeal xs s = true) (hwf : (Lit.int .i64 s).wf = true) (hF : F.toList = [103, 121, 114, 97, 116, 101]) (hok : okRI xs s = false) :
    Calls Tryz.prog 56 #[.agg #[v, .int .i64 s], .agg #[.string F, nv, pv]] w fun (r : Ending) w' => r = .returned (.tuple #[.agg #[.slice none 0 0, .int .i64 0], .string { data := #[] }, .iface 269 (.pointer (some a1))]) ∧ Below w.heap.size w w' := by
  have HG := hid hG
  have HV := hid hv
  have HN := hid hn
  have HI0 := hid hid0
  have HWf := hid hwf
  obtain ⟨A, c, rfl, -⟩ := hv
  obtain ⟨nA, nc, rfl, -⟩ := hn
  obtain ⟨pA, pn, pc, rfl⟩ := hpv
  clear hG hid0 hwf
  have HOk := hid hok
  clear hok
  have HC := hid (CI.new w (.slice A xs.length c) s F (.slice nA ns.length nc) (.slice pA pn pc))
  obtain ⟨R, hR1⟩ : ∃ R, ansSW wGyr xs s = R := ⟨_, rfl⟩
  have HR := hid hR1
  clear hR1
  go_enter Tryz.func56, Tryz.ntmps56
  go_wp2_with fail
  refine (implGyrateIdeal_any _ xs s _ (HV.out.below HC.out.bel) hl HWf.out).mono ?_
  rw [HR.out]
  rw [HOk.out]
  rintro e W1 ⟨rfl, hb⟩
  have HC1 := hid (HC.out.below hb)
  clear hb HC
  obtain ⟨c00, c01, c11, c20, c21, f20, f21⟩ := HC1.out.all
  have g1 := (HG.out.later HC1.out.bel).no
  go_wp2
  have HC := HC1
  go_region
  go_wp2
  refine bodyPost_ret (v := .tuple #[.agg #[.slice none 0 0, .int .i64 0], .string { data := #[] }, .iface 269 (.pointer (some a1))]) (by simp [results, Tryz.results56, go_sem, c20, c21]) rfl ⟨rfl, ?_⟩
  exact below_drewN (below_put2 HC.out.bel (w.heap.size + 1 + 1) (by omega) _ _) 1
set_option maxRecDepth 100000 in
theorem changeIdeal_gyrate_yes (v : Value) (xs : List Int) (s : Int) (F : ByteArray) (nv : Value) (ns : List Int) (pv : Value) (w : World) {a0 a1 : Addr} (hG : GlobD w a0 a1) (hv : Ints w v xs) (hl : xs.length ≤ 1048576) (hn : Ints w nv ns) (hpv : ∃ A n c, pv = .slice A n c) (hid0 : okIdeal xs s = true) (hwf : (Lit.int .i64 s).wf = true) (hF : F.toList = [103, 121, 114, 97, 116, 101]) (hok : okRI xs s = true) (hR : okIdeal xs (ansSW wGyr xs s) = true) :
    Calls Tryz.prog 56 #[.agg #[v, .int .i64 s], .agg #[.string F, nv, pv]] w fun (r : Ending) w' => r = .returned (.tuple #[.agg #[v, .int .i64 (ansSW wGyr xs s)], .string (sB (numT (ansSW wGyr xs s))), .nilIface]) ∧ Below w.heap.size w w' := by
  have HG := hid hG
  have HV := hid hv
  have HN := hid hn
  have HI0 := hid hid0
  have HWf := hid hwf
  obtain ⟨A, c, rfl, -⟩ := hv
  obtain ⟨nA, nc, rfl, -⟩ := hn
  obtain ⟨pA, pn, pc, rfl⟩ := hpv
  clear hG hid0 hwf
  have HOk := hid hok
  clear hok
  have HRb := hid (okId_bound hR)
  clear hR
  have HC := hid (CI.new w (.slice A xs.length c) s F (.slice nA ns.length nc) (.slice pA pn pc))
  obtain ⟨R, hR1⟩ : ∃ R, ansSW wGyr xs s = R := ⟨_, rfl⟩
  have HR := hid hR1
  rw [hR1] at HRb ⊢
  clear hR1
  go_enter Tryz.func56, Tryz.ntmps56
  go_wp2_with fail
  refine (implGyrateIdeal_any _ xs s _ (HV.out.below HC.out.bel) hl HWf.out).mono ?_
  rw [HR.out]
  rw [HOk.out]
  rintro e W1 ⟨rfl, hb⟩
  have HC1 := hid (HC.out.below hb)
  clear hb HC
  obtain ⟨c00, c01, c11, c20, c21, f20, f21⟩ := HC1.out.all
  go_wp2
  have HCd := hid HC1.out.drew
  go_region_held3 (fun W' => W'.cell? ⟨w.heap.size, 0, none⟩ = some (.slice A xs.length c) ∧ Hid (∃ y0 y1, CI w W' (.slice A xs.length c) s F (.slice nA ns.length nc) (.slice pA pn pc) y0 y1)) (first | exact ⟨(HC2.out.put _ _).k0.cell 0, hid ⟨_, _, HC2.out.put _ _⟩⟩ | exact ⟨HC2.out.k0.cell 0, hid ⟨_, _, HC2.out⟩⟩ | exact ⟨HCd.out.k0.cell 0, hid ⟨_, _, HCd.out⟩⟩ | exact ⟨(HCd.out.put _ _).k0.cell 0, hid ⟨_, _, HCd.out.put _ _⟩⟩) (first | (go_at_call 114; refine (itoaT_any R _ (HG.out.later HCd.out.bel) HRb.out.1 HRb.out.2).mono ?_; rintro e W2 ⟨rfl, hb⟩; have HC2 := hid (HCd.out.below hb); have d20 : W2.cell? ⟨w.heap.size + 2, 0, none⟩ = some (.slice none 0 0) := HC2.out.k2.cell 0; have d21 : W2.cell? ⟨w.heap.size + 2, 1, none⟩ = some (.int .i64 0) := HC2.out.k2.cell 1; have e20 := HC2.out.k2.frozen 0; have e21 := HC2.out.k2.frozen 1; clear hb))
  go_wp2
  refine bodyPost_ret (v := .tuple #[.agg #[.slice A xs.length c, .int .i64 (R)], .string (sB (numT (R))), .nilIface]) (by simp [results, Tryz.results56, go_sem, d20, d21]) rfl ⟨rfl, ?_⟩
  exact below_put2 HC2.out.bel (w.heap.size + 1 + 1) (by omega) _ _
end Go.Proofs.YtbmhaamenjhjfaaGreatDoor
