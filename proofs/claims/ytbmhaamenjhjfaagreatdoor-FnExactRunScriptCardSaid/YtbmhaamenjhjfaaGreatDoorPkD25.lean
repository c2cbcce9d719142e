/- DskC -/
import Derived.Deep.RegionWith
import Derived.Test.YtbmhaamenjhjfaaGreatDoorPkD23
namespace Go.Proofs.YtbmhaamenjhjfaaGreatDoor
open Go.RowKit Go.WideShapes Go.ChangeShapes
set_option linter.unusedVariables false
structure CP (w W : World) (dv : Value) (s : Int) (f : ByteArray) (nv pv r0 r1 x0 x1 : Value) : Prop where
  k0 : Blk W w.heap.size 30 #[dv, .int .i64 s]
  k1 : Blk W (w.heap.size + 1) 85 #[.string f, nv, pv]
  k2 : Blk W (w.heap.size + 2) 30 #[r0, r1]
  k3 : Blk W (w.heap.size + 3) 30 #[x0, x1]
  bel : Below w.heap.size w W
theorem CP.size {w W : World} {dv : Value} {s : Int} {f : ByteArray} {nv pv r0 r1 x0 x1 : Value} (h : CP w W dv s f nv pv r0 r1 x0 x1) : w.heap.size + 4 ≤ W.heap.size := h.k3.lt
theorem CP.below {w W W' : World} {dv : Value} {s : Int} {f : ByteArray} {nv pv r0 r1 x0 x1 : Value} (h : CP w W dv s f nv pv r0 r1 x0 x1) (hb : Below W.heap.size W W') : CP w W' dv s f nv pv r0 r1 x0 x1 :=
  ⟨h.k0.below hb h.k0.lt, h.k1.below hb h.k1.lt, h.k2.below hb h.k2.lt, h.k3.below hb h.k3.lt, below_to h.bel hb⟩
theorem CP.new (w : World) (dv : Value) (s : Int) (f : ByteArray) (nv pv : Value) : CP w ((((w.alloc (.cells #[dv, .int .i64 s] 30)).alloc (.cells #[.string f, nv, pv] 85)).alloc (.cells #[.slice none 0 0, .int .i64 0] 30)).alloc (.cells #[.slice none 0 0, .int .i64 0] 30)) dv s f nv pv (.slice none 0 0) (.int .i64 0) (.slice none 0 0) (.int .i64 0) where
  k0 := (((Blk.new w _ _).alloc _).alloc _).alloc _
  k1 := ((Blk.newAt _ _ _ _ (by simp)).alloc _).alloc _
  k2 := (Blk.newAt _ _ _ _ (by simp)).alloc _
  k3 := Blk.newAt _ _ _ _ (by simp)
  bel := below_alloc (below_alloc (below_alloc (below_alloc (Below.refl _ _) _) _) _) _
theorem CP.all {w W : World} {dv : Value} {s : Int} {f : ByteArray} {nv pv r0 r1 x0 x1 : Value} (h : CP w W dv s f nv pv r0 r1 x0 x1) :
    W.cell? ⟨w.heap.size, 0, none⟩ = some dv ∧ W.cell? ⟨w.heap.size, 1, none⟩ = some (.int .i64 s) ∧ W.cell? ⟨w.heap.size + 1, 0, none⟩ = some (.string f) ∧ W.cell? ⟨w.heap.size + 1, 1, none⟩ = some nv ∧ W.cell? ⟨w.heap.size + 1, 2, none⟩ = some pv ∧
    W.cell? ⟨w.heap.size + 2, 0, none⟩ = some r0 ∧ W.cell? ⟨w.heap.size + 2, 1, none⟩ = some r1 ∧ W.cell? ⟨w.heap.size + 3, 0, none⟩ = some x0 ∧ W.cell? ⟨w.heap.size + 3, 1, none⟩ = some x1 ∧
    W.frozen? ⟨w.heap.size + 2, 0, none⟩ = false ∧ W.frozen? ⟨w.heap.size + 2, 1, none⟩ = false ∧ W.frozen? ⟨w.heap.size + 3, 0, none⟩ = false ∧ W.frozen? ⟨w.heap.size + 3, 1, none⟩ = false :=
  ⟨h.k0.cell 0, h.k0.cell 1, h.k1.cell 0, h.k1.cell 1, h.k1.cell 2, h.k2.cell 0, h.k2.cell 1, h.k3.cell 0, h.k3.cell 1, h.k2.frozen 0, h.k2.frozen 1, h.k3.frozen 0, h.k3.frozen 1⟩
theorem Blk.turnedD {w w' : World} {g : Nat} {t : TypeId} {cs : Array Value} {B E : Nat} (h : Blk w g t cs) (ht : TurnedIn B E w w') (hs : g < B ∨ E ≤ g) : Blk w' g t cs := (ht.block g h.lt hs).trans h
theorem below_put2 {a W : World} (h : Below a.heap.size a W) (b : Nat) (hb : a.heap.size ≤ b) (y0 y1 : Value) : Below a.heap.size a ((W.setCell ⟨b, 0, none⟩ y0).setCell ⟨b, 1, none⟩ y1) :=
  (h.setCell (p := ⟨b, 0, none⟩) hb _).setCell (p := ⟨b, 1, none⟩) hb _
theorem CP.newX (w : World) (dv : Value) (s : Int) (f : ByteArray) (nv pv x0 : Value) : CP w ((((w.alloc (.cells #[dv, .int .i64 s] 30)).alloc (.cells #[.string f, nv, pv] 85)).alloc (.cells #[.slice none 0 0, .int .i64 0] 30)).alloc (.cells #[x0, .int .i64 0] 30)) dv s f nv pv (.slice none 0 0) (.int .i64 0) x0 (.int .i64 0) where
  k0 := (((Blk.new w _ _).alloc _).alloc _).alloc _
  k1 := ((Blk.newAt _ _ _ _ (by simp)).alloc _).alloc _
  k2 := (Blk.newAt _ _ _ _ (by simp)).alloc _
  k3 := Blk.newAt _ _ _ _ (by simp)
  bel := below_alloc (below_alloc (below_alloc (below_alloc (Below.refl _ _) _) _) _) _
theorem CP.next {w W : World} {dv : Value} {s : Int} {f : ByteArray} {nv pv r0 r1 x0 x1 : Value} (h : CP w W dv s f nv pv r0 r1 x0 x1) (y : Value) : CP w (W.setCell ⟨w.heap.size + 1 + 1 + 1, 0, none⟩ y) dv s f nv pv r0 r1 y x1 := by
  have ht := (TurnedIn.refl (w.heap.size + 3) (w.heap.size + 4) W).set_ ⟨w.heap.size + 1 + 1 + 1, 0, none⟩ ⟨Nat.le_refl _, Nat.lt_succ_self _⟩ y
  exact ⟨h.k0.turnedD ht (Or.inl (by omega)), h.k1.turnedD ht (Or.inl (by omega)), h.k2.turnedD ht (Or.inl (by omega)), h.k3.set_ 0 y, h.bel.setCell (p := ⟨w.heap.size + 1 + 1 + 1, 0, none⟩) (by show w.heap.size ≤ w.heap.size + 1 + 1 + 1; omega) y⟩
theorem CP.next1 {w W : World} {dv : Value} {s : Int} {f : ByteArray} {nv pv r0 r1 x0 x1 : Value} (h : CP w W dv s f nv pv r0 r1 x0 x1) (y : Value) : CP w (W.setCell ⟨w.heap.size + 1 + 1 + 1, 1, none⟩ y) dv s f nv pv r0 r1 x0 y := by
  have ht := (TurnedIn.refl (w.heap.size + 3) (w.heap.size + 4) W).set_ ⟨w.heap.size + 1 + 1 + 1, 1, none⟩ ⟨Nat.le_refl _, Nat.lt_succ_self _⟩ y
  exact ⟨h.k0.turnedD ht (Or.inl (by omega)), h.k1.turnedD ht (Or.inl (by omega)), h.k2.turnedD ht (Or.inl (by omega)), h.k3.set_ 1 y, h.bel.setCell (p := ⟨w.heap.size + 1 + 1 + 1, 1, none⟩) (by show w.heap.size ≤ w.heap.size + 1 + 1 + 1; omega) y⟩
theorem OwnI.past {ti : TypeId} {w W : World} {u : Value} {xs : List Int} (h : OwnI ti W (w.heap.size + 4) u xs) (i : Nat) (y : Value) : OwnI ti (W.setCell ⟨w.heap.size + 1 + 1 + 1, i, none⟩ y) (w.heap.size + 4) u xs := by
  have ht := (TurnedIn.refl (w.heap.size + 3) (w.heap.size + 4) W).set_ ⟨w.heap.size + 1 + 1 + 1, i, none⟩ ⟨Nat.le_refl _, Nat.lt_succ_self _⟩ y
  exact h.turned ht (OwnI.blockLt h) (Or.inr (Nat.le_refl _))
theorem own_put2 {w W : World} {u : Value} {xs : List Int} {ti : TypeId} (h : OwnI ti W (w.heap.size + 4) u xs) (y0 y1 : Value) : OwnI ti ((W.setCell ⟨w.heap.size + 1 + 1, 0, none⟩ y0).setCell ⟨w.heap.size + 1 + 1, 1, none⟩ y1) w.heap.size u xs := by
  have ht := ((TurnedIn.refl (w.heap.size + 2) (w.heap.size + 3) W).set_ ⟨w.heap.size + 1 + 1, 0, none⟩ ⟨Nat.le_refl _, Nat.lt_succ_self _⟩ y0).set_ ⟨w.heap.size + 1 + 1, 1, none⟩ ⟨Nat.le_refl _, Nat.lt_succ_self _⟩ y1
  exact (h.turned ht (OwnI.blockLt h) (Or.inr (by omega))).mono (by omega)
set_option maxRecDepth 100000 in
theorem changePoset_else (v : Value) (xs : List Int) (s : Int) (F : ByteArray) (nv : Value) (ns : List Int) (pv : Value) (w : World) {a0 a1 : Addr} (hG : GlobD w a0 a1) (hv : Ints w v xs) (hl : xs.length ≤ 1048576) (hn : Ints w nv ns) (hpv : ∃ A n c, pv = .slice A n c) (h1 : (F.toList == [112, 111, 115, 101, 116, 32, 80]) = false) (h2 : (F.toList == [114, 101, 99, 116, 97, 110, 103, 108, 101, 32, 78, 32, 78]) = false) (h3 : (F.toList == [115, 116, 97, 105, 114, 115, 32, 78]) = false) (h4 : (F.toList == [102, 101, 110, 99, 101, 32, 78]) = false) (h5 : (F.toList == [100, 117, 97, 108]) = false) :
    Calls Tryz.prog 54 #[.agg #[v, .int .i64 s], .agg #[.string F, nv, pv]] w fun (r : Ending) w' => r = .returned (.tuple #[.agg #[.slice none 0 0, .int .i64 0], .string { data := #[] }, .iface 269 (.pointer (some a0))]) ∧ Below w.heap.size w w' := by
  have HG := hid hG
  have HV := hid hv
  have HN := hid hn
  obtain ⟨A, c, rfl, -⟩ := hv
  obtain ⟨nA, nc, rfl, -⟩ := hn
  obtain ⟨pA, pn, pc, rfl⟩ := hpv
  clear hG
  have HC := hid (CP.new w (.slice A xs.length c) s F (.slice nA ns.length nc) (.slice pA pn pc))
  go_enter Tryz.func54, Tryz.ntmps54
  go_wp2
  generalize (((w.alloc (.cells #[.slice A xs.length c, .int .i64 s] 30)).alloc (.cells #[.string F, .slice nA ns.length nc, .slice pA pn pc] 85)).alloc (.cells #[.slice none 0 0, .int .i64 0] 30)).alloc (.cells #[.slice none 0 0, .int .i64 0] 30) = W at HC ⊢
  have g0 := (HG.out.later HC.out.bel).what
  obtain ⟨c00, c01, c10, c11, c12, c20, c21, c30, c31, f20, f21, f30, f31⟩ := HC.out.all
  go_region
  go_wp2
  refine bodyPost_ret (v := .tuple #[.agg #[.slice none 0 0, .int .i64 0], .string { data := #[] }, .iface 269 (.pointer (some a0))]) (by simp [results, Tryz.results54, go_sem, c20, c21]) rfl ⟨rfl, ?_⟩
  exact below_drewN (below_put2 HC.out.bel (w.heap.size + 1 + 1) (by omega) _ _) 1
set_option maxRecDepth 100000 in
theorem changePoset_poset (v : Value) (xs : List Int) (s : Int) (F : ByteArray) (nv : Value) (ns : List Int) (pv : Value) (ps : List Int) (w : World) {a0 a1 : Addr} (hG : GlobD w a0 a1) (hv : Ints w v xs) (hl : xs.length ≤ 1048576) (hn : Ints w nv ns) (hp : Ints w pv ps) (hF : F.toList = [112, 111, 115, 101, 116, 32, 80]) (hgood : good ps = true) :
    Calls Tryz.prog 54 #[.agg #[v, .int .i64 s], .agg #[.string F, nv, pv]] w fun (r : Ending) w' => r = .returned (.tuple #[.agg #[pv, .int .i64 0], .string (sB (ansTX ps)), .nilIface]) ∧ Below w.heap.size w w' := by
  have HG := hid hG
  have HV := hid hv
  have HN := hid hn
  have HP := hid hp
  obtain ⟨A, c, rfl, -⟩ := hv
  obtain ⟨nA, nc, rfl, -⟩ := hn
  obtain ⟨pA, pc, rfl, -⟩ := hp
  clear hG
  have HLn : Hid (ps.length ≤ 1048576) := hid (by have := (good_length hgood).2; omega)
  have HGd := hid hgood
  clear hgood
  have HC := hid (CP.newX w (.slice A xs.length c) s F (.slice nA ns.length nc) (.slice pA ps.length pc) (.slice pA ps.length pc))
  go_enter Tryz.func54, Tryz.ntmps54
  go_wp2_with fail
  generalize (((w.alloc (.cells #[.slice A xs.length c, .int .i64 s] 30)).alloc (.cells #[.string F, .slice nA ns.length nc, .slice pA ps.length pc] 85)).alloc (.cells #[.slice none 0 0, .int .i64 0] 30)).alloc (.cells #[.slice pA ps.length pc, .int .i64 0] 30) = W at HC ⊢
  have HI := hid (HP.out.below HC.out.bel)
  obtain ⟨c00, c01, c10, c11, c12, c20, c21, c30, c31, f20, f21, f30, f31⟩ := HC.out.all
  go_wp2_with fail
  clear c00 c01 c10 c11 c12 c20 c21 c30 c31 f20 f21 f30 f31
  refine (implPosetText_any _ (ps) _ HI.out HLn.out).mono ?_
  rintro e w9 ⟨rfl, hb9⟩
  rw [HGd.out]
  have HC9 := hid (HC.out.below hb9)
  clear hb9
  obtain ⟨c00, c01, c10, c11, c12, c20, c21, c30, c31, f20, f21, f30, f31⟩ := HC9.out.all
  go_wp2
  refine bodyPost_ret (v := .tuple #[.agg #[.slice pA ps.length pc, .int .i64 (0)], .string (sB (ansTX (ps))), .nilIface]) (by simp [results, Tryz.results54, go_sem, c20, c21]) rfl ⟨rfl, ?_⟩
  · exact below_put2 HC9.out.bel (w.heap.size + 1 + 1) (by omega) _ _
theorem wf_i64D (n : Int) (h1 : -9223372036854775808 ≤ n) (h2 : n ≤ 9223372036854775807) : (Lit.int .i64 n).wf = true := by
  have e1 : IntKind.i64.min = -9223372036854775808 := rfl
  have e2 : IntKind.i64.max = 9223372036854775807 := rfl
  simp [Lit.wf]; omega
theorem ints_cellD {w : World} {b o n c : Nat} {L : List Int} (h : Ints w (.slice (some ⟨b, o, none⟩) n c) L) {j : Nat} (hj : j < L.length) : w.cell? ⟨b, o + j, none⟩ = some (.int .i64 (L.getD j 0)) := by
  obtain ⟨A, c2, e, hA⟩ := h
  injection e with e1 e2 e3
  subst e1
  obtain ⟨b2, o2, e4, -, hc⟩ := hA (by intro h; simp [h] at hj)
  cases e4
  exact hc j hj
theorem ints_addrD {w : World} {A : Option Addr} {n c : Nat} {L : List Int} (h : Ints w (.slice A n c) L) (h0 : L ≠ []) : ∃ b o, A = some ⟨b, o, none⟩ := by
  obtain ⟨A2, c2, e, hA⟩ := h
  injection e with e1 e2 e3
  obtain ⟨b, o, e4, -, -⟩ := hA h0
  exact ⟨b, o, by rw [e1, e4]⟩
set_option maxRecDepth 100000 in
theorem changePoset_stairs_no (v : Value) (xs : List Int) (s : Int) (F : ByteArray) (nv : Value) (ns : List Int) (pv : Value) (w : World) {a0 a1 : Addr} (hG : GlobD w a0 a1) (hv : Ints w v xs) (hl : xs.length ≤ 1048576) (hn : Ints w nv ns) (hpv : ∃ A n c, pv = .slice A n c) (hF : F.toList = [115, 116, 97, 105, 114, 115, 32, 78]) (hns : ns.length = 1) (hr0 : 0 ≤ ns.getD 0 0 ∧ ns.getD 0 0 ≤ 999999) (hok : (decide (1 ≤ (ns.getD 0 0)) && decide ((ns.getD 0 0) ≤ 4)) = false) :
    Calls Tryz.prog 54 #[.agg #[v, .int .i64 s], .agg #[.string F, nv, pv]] w fun (r : Ending) w' => r = .returned (.tuple #[.agg #[.slice none 0 0, .int .i64 0], .string { data := #[] }, .iface 269 (.pointer (some a1))]) ∧ Below w.heap.size w w' := by
  have HG := hid hG
  have HV := hid hv
  have HN := hid hn
  obtain ⟨A, c, rfl, -⟩ := hv
  obtain ⟨nA, nc, rfl, -⟩ := hn
  obtain ⟨pA, pn, pc, rfl⟩ := hpv
  clear hG
  have HOk := hid hok
  clear hok
  obtain ⟨bN, oN, rfl⟩ := ints_addrD HN.out (by intro h0; rw [h0] at hns; simp at hns)
  have HNs := hid hns
  rw [hns] at HN ⊢
  clear hns
  have HC := hid (CP.new w (.slice A xs.length c) s F (.slice (some ⟨bN, oN, none⟩) 1 nc) (.slice pA pn pc))
  have HNW := hid (HN.out.below HC.out.bel)
  obtain ⟨x0, hx0⟩ : ∃ x, ns.getD 0 0 = x := ⟨_, rfl⟩
  rw [hx0] at hr0 HOk
  have k0 := ints_cellD HNW.out (j := 0) (by rw [HNs.out]; decide)
  rw [hx0, Nat.add_zero] at k0
  clear hx0
  go_enter Tryz.func54, Tryz.ntmps54
  go_wp2_with fail
  clear k0
  refine (implStaircase_any x0 _ (wf_i64D _ (by omega) (by omega))).mono ?_
  rw [HOk.out]
  rintro e W1 ⟨u, rfl, ho, hln, hb⟩
  have HC1 := hid (HC.out.below hb)
  have hz := HC1.out.size
  have ho4 : OwnI 3 W1 (w.heap.size + 4) u (stcL x0) := by simpa using ho
  have HO1 := hid ho4
  have HLn := hid hln
  obtain ⟨uA, uc, rfl, -⟩ := ho.ints
  obtain ⟨un, hun⟩ : ∃ n, ((stcL x0)).length = n := ⟨_, rfl⟩
  rw [hun] at HO1 ⊢
  clear ho hb hln ho4 HC hun
  obtain ⟨c00, c01, c10, c11, c12, c20, c21, c30, c31, f20, f21, f30, f31⟩ := HC1.out.all
  go_wp2
  clear c00 c01 c10 c11 c12 c20 c21 c30 c31 f20 f21 f30 f31
  have HC := hid (HC1.out.next (.slice uA un uc))
  generalize W1.setCell ⟨w.heap.size + 1 + 1 + 1, 0, none⟩ (.slice uA un uc) = W at HC ⊢
  have g1 := (HG.out.later HC.out.bel).no
  obtain ⟨c00, c01, c10, c11, c12, c20, c21, c30, c31, f20, f21, f30, f31⟩ := HC.out.all
  go_region
  go_wp2
  refine bodyPost_ret (v := .tuple #[.agg #[.slice none 0 0, .int .i64 0], .string { data := #[] }, .iface 269 (.pointer (some a1))]) (by simp [results, Tryz.results54, go_sem, c20, c21]) rfl ⟨rfl, ?_⟩
  exact below_drewN (below_put2 HC.out.bel (w.heap.size + 1 + 1) (by omega) _ _) 1
set_option maxRecDepth 100000 in
theorem changePoset_stairs_yes (v : Value) (xs : List Int) (s : Int) (F : ByteArray) (nv : Value) (ns : List Int) (pv : Value) (w : World) {a0 a1 : Addr} (hG : GlobD w a0 a1) (hv : Ints w v xs) (hl : xs.length ≤ 1048576) (hn : Ints w nv ns) (hpv : ∃ A n c, pv = .slice A n c) (hF : F.toList = [115, 116, 97, 105, 114, 115, 32, 78]) (hns : ns.length = 1) (hr0 : 0 ≤ ns.getD 0 0 ∧ ns.getD 0 0 ≤ 999999) (hok : (decide (1 ≤ (ns.getD 0 0)) && decide ((ns.getD 0 0) ≤ 4)) = true) :
    Calls Tryz.prog 54 #[.agg #[v, .int .i64 s], .agg #[.string F, nv, pv]] w fun (r : Ending) w' => (∃ u, r = .returned (.tuple #[.agg #[u, .int .i64 (0)], .string (sB (ansTX ((stcL (ns.getD 0 0))))), .nilIface]) ∧ OwnI 3 w' w.heap.size u ((stcL (ns.getD 0 0)))) ∧ Below w.heap.size w w' := by
  have HG := hid hG
  have HV := hid hv
  have HN := hid hn
  obtain ⟨A, c, rfl, -⟩ := hv
  obtain ⟨nA, nc, rfl, -⟩ := hn
  obtain ⟨pA, pn, pc, rfl⟩ := hpv
  clear hG
  have HOk := hid hok
  have HGd := hid (stcD_good hok)
  clear hok
  obtain ⟨bN, oN, rfl⟩ := ints_addrD HN.out (by intro h0; rw [h0] at hns; simp at hns)
  have HNs := hid hns
  rw [hns] at HN ⊢
  clear hns
  have HC := hid (CP.new w (.slice A xs.length c) s F (.slice (some ⟨bN, oN, none⟩) 1 nc) (.slice pA pn pc))
  have HNW := hid (HN.out.below HC.out.bel)
  obtain ⟨x0, hx0⟩ : ∃ x, ns.getD 0 0 = x := ⟨_, rfl⟩
  rw [hx0] at hr0 HOk HGd ⊢
  have k0 := ints_cellD HNW.out (j := 0) (by rw [HNs.out]; decide)
  rw [hx0, Nat.add_zero] at k0
  clear hx0
  go_enter Tryz.func54, Tryz.ntmps54
  go_wp2_with fail
  clear k0
  refine (implStaircase_any x0 _ (wf_i64D _ (by omega) (by omega))).mono ?_
  rw [HOk.out]
  rintro e W1 ⟨u, rfl, ho, hln, hb⟩
  have HC1 := hid (HC.out.below hb)
  have hz := HC1.out.size
  have ho4 : OwnI 3 W1 (w.heap.size + 4) u (stcL x0) := by simpa using ho
  have HO1 := hid ho4
  have HLn := hid hln
  obtain ⟨uA, uc, rfl, -⟩ := ho.ints
  obtain ⟨un, hun⟩ : ∃ n, ((stcL x0)).length = n := ⟨_, rfl⟩
  rw [hun] at HO1 ⊢
  clear ho hb hln ho4 HC hun
  obtain ⟨c00, c01, c10, c11, c12, c20, c21, c30, c31, f20, f21, f30, f31⟩ := HC1.out.all
  go_wp2_with fail
  clear c00 c01 c10 c11 c12 c20 c21 c30 c31 f20 f21 f30 f31
  have HC := hid (HC1.out.next (.slice uA un uc))
  have HO := hid (HO1.out.past 0 (.slice uA un uc))
  generalize W1.setCell ⟨w.heap.size + 1 + 1 + 1, 0, none⟩ (.slice uA un uc) = W at HC HO ⊢
  have HI := hid HO.out.ints
  obtain ⟨c00, c01, c10, c11, c12, c20, c21, c30, c31, f20, f21, f30, f31⟩ := HC.out.all
  clear c00 c01 c10 c11 c12 c20 c21 c30 c31 f20 f21 f30 f31
  refine (implPosetText_any _ ((stcL x0)) _ HI.out HLn.out).mono ?_
  rintro e w9 ⟨rfl, hb9⟩
  rw [HGd.out]
  have HC9 := hid (HC.out.below hb9)
  have HO9 := hid (HO.out.below hb9)
  clear hb9
  obtain ⟨c00, c01, c10, c11, c12, c20, c21, c30, c31, f20, f21, f30, f31⟩ := HC9.out.all
  go_wp2
  refine bodyPost_ret (v := .tuple #[.agg #[.slice uA un uc, .int .i64 (0)], .string (sB (ansTX ((stcL x0)))), .nilIface]) (by simp [results, Tryz.results54, go_sem, c20, c21]) rfl ⟨⟨_, rfl, ?_⟩, ?_⟩
  · exact own_put2 HO9.out _ _
  · exact below_put2 HC9.out.bel (w.heap.size + 1 + 1) (by omega) _ _
set_option maxRecDepth 100000 in
theorem changePoset_fence_no (v : Value) (xs : List Int) (s : Int) (F : ByteArray) (nv : Value) (ns : List Int) (pv : Value) (w : World) {a0 a1 : Addr} (hG : GlobD w a0 a1) (hv : Ints w v xs) (hl : xs.length ≤ 1048576) (hn : Ints w nv ns) (hpv : ∃ A n c, pv = .slice A n c) (hF : F.toList = [102, 101, 110, 99, 101, 32, 78]) (hns : ns.length = 1) (hr0 : 0 ≤ ns.getD 0 0 ∧ ns.getD 0 0 ≤ 999999) (hok : (decide (1 ≤ (ns.getD 0 0)) && decide ((ns.getD 0 0) ≤ 10)) = false) :
    Calls Tryz.prog 54 #[.agg #[v, .int .i64 s], .agg #[.string F, nv, pv]] w fun (r : Ending) w' => r = .returned (.tuple #[.agg #[.slice none 0 0, .int .i64 0], .string { data := #[] }, .iface 269 (.pointer (some a1))]) ∧ Below w.heap.size w w' := by
  have HG := hid hG
  have HV := hid hv
  have HN := hid hn
  obtain ⟨A, c, rfl, -⟩ := hv
  obtain ⟨nA, nc, rfl, -⟩ := hn
  obtain ⟨pA, pn, pc, rfl⟩ := hpv
  clear hG
  have HOk := hid hok
  clear hok
  obtain ⟨bN, oN, rfl⟩ := ints_addrD HN.out (by intro h0; rw [h0] at hns; simp at hns)
  have HNs := hid hns
  rw [hns] at HN ⊢
  clear hns
  have HC := hid (CP.new w (.slice A xs.length c) s F (.slice (some ⟨bN, oN, none⟩) 1 nc) (.slice pA pn pc))
  have HNW := hid (HN.out.below HC.out.bel)
  obtain ⟨x0, hx0⟩ : ∃ x, ns.getD 0 0 = x := ⟨_, rfl⟩
  rw [hx0] at hr0 HOk
  have k0 := ints_cellD HNW.out (j := 0) (by rw [HNs.out]; decide)
  rw [hx0, Nat.add_zero] at k0
  clear hx0
  go_enter Tryz.func54, Tryz.ntmps54
  go_wp2_with fail
  clear k0
  refine (implFence_any x0 _ (wf_i64D _ (by omega) (by omega))).mono ?_
  rw [HOk.out]
  rintro e W1 ⟨u, rfl, ho, hln, hb⟩
  have HC1 := hid (HC.out.below hb)
  have hz := HC1.out.size
  have ho4 : OwnI 3 W1 (w.heap.size + 4) u (fenceL x0) := by simpa using ho
  have HO1 := hid ho4
  have HLn := hid hln
  obtain ⟨uA, uc, rfl, -⟩ := ho.ints
  obtain ⟨un, hun⟩ : ∃ n, ((fenceL x0)).length = n := ⟨_, rfl⟩
  rw [hun] at HO1 ⊢
  clear ho hb hln ho4 HC hun
  obtain ⟨c00, c01, c10, c11, c12, c20, c21, c30, c31, f20, f21, f30, f31⟩ := HC1.out.all
  go_wp2
  clear c00 c01 c10 c11 c12 c20 c21 c30 c31 f20 f21 f30 f31
  have HC := hid (HC1.out.next (.slice uA un uc))
  generalize W1.setCell ⟨w.heap.size + 1 + 1 + 1, 0, none⟩ (.slice uA un uc) = W at HC ⊢
  have g1 := (HG.out.later HC.out.bel).no
  obtain ⟨c00, c01, c10, c11, c12, c20, c21, c30, c31, f20, f21, f30, f31⟩ := HC.out.all
  go_region
  go_wp2
  refine bodyPost_ret (v := .tuple #[.agg #[.slice none 0 0, .int .i64 0], .string { data := #[] }, .iface 269 (.pointer (some a1))]) (by simp [results, Tryz.results54, go_sem, c20, c21]) rfl ⟨rfl, ?_⟩
  exact below_drewN (below_put2 HC.out.bel (w.heap.size + 1 + 1) (by omega) _ _) 1
set_option maxRecDepth 100000 in
theorem changePoset_fence_yes (v : Value) (xs : List Int) (s : Int) (F : ByteArray) (nv : Value) (ns : List Int) (pv : Value) (w : World) {a0 a1 : Addr} (hG : GlobD w a0 a1) (hv : Ints w v xs) (hl : xs.length ≤ 1048576) (hn : Ints w nv ns) (hpv : ∃ A n c, pv = .slice A n c) (hF : F.toList = [102, 101, 110, 99, 101, 32, 78]) (hns : ns.length = 1) (hr0 : 0 ≤ ns.getD 0 0 ∧ ns.getD 0 0 ≤ 999999) (hok : (decide (1 ≤ (ns.getD 0 0)) && decide ((ns.getD 0 0) ≤ 10)) = true) :
    Calls Tryz.prog 54 #[.agg #[v, .int .i64 s], .agg #[.string F, nv, pv]] w fun (r : Ending) w' => (∃ u, r = .returned (.tuple #[.agg #[u, .int .i64 (0)], .string (sB (ansTX ((fenceL (ns.getD 0 0))))), .nilIface]) ∧ OwnI 3 w' w.heap.size u ((fenceL (ns.getD 0 0)))) ∧ Below w.heap.size w w' := by
  have HG := hid hG
  have HV := hid hv
  have HN := hid hn
  obtain ⟨A, c, rfl, -⟩ := hv
  obtain ⟨nA, nc, rfl, -⟩ := hn
  obtain ⟨pA, pn, pc, rfl⟩ := hpv
  clear hG
  have HOk := hid hok
  have HGd := hid (fenceD_good hok)
  clear hok
  obtain ⟨bN, oN, rfl⟩ := ints_addrD HN.out (by intro h0; rw [h0] at hns; simp at hns)
  have HNs := hid hns
  rw [hns] at HN ⊢
  clear hns
  have HC := hid (CP.new w (.slice A xs.length c) s F (.slice (some ⟨bN, oN, none⟩) 1 nc) (.slice pA pn pc))
  have HNW := hid (HN.out.below HC.out.bel)
  obtain ⟨x0, hx0⟩ : ∃ x, ns.getD 0 0 = x := ⟨_, rfl⟩
  rw [hx0] at hr0 HOk HGd ⊢
  have k0 := ints_cellD HNW.out (j := 0) (by rw [HNs.out]; decide)
  rw [hx0, Nat.add_zero] at k0
  clear hx0
  go_enter Tryz.func54, Tryz.ntmps54
  go_wp2_with fail
  clear k0
  refine (implFence_any x0 _ (wf_i64D _ (by omega) (by omega))).mono ?_
  rw [HOk.out]
  rintro e W1 ⟨u, rfl, ho, hln, hb⟩
  have HC1 := hid (HC.out.below hb)
  have hz := HC1.out.size
  have ho4 : OwnI 3 W1 (w.heap.size + 4) u (fenceL x0) := by simpa using ho
  have HO1 := hid ho4
  have HLn := hid hln
  obtain ⟨uA, uc, rfl, -⟩ := ho.ints
  obtain ⟨un, hun⟩ : ∃ n, ((fenceL x0)).length = n := ⟨_, rfl⟩
  rw [hun] at HO1 ⊢
  clear ho hb hln ho4 HC hun
  obtain ⟨c00, c01, c10, c11, c12, c20, c21, c30, c31, f20, f21, f30, f31⟩ := HC1.out.all
  go_wp2_with fail
  clear c00 c01 c10 c11 c12 c20 c21 c30 c31 f20 f21 f30 f31
  have HC := hid (HC1.out.next (.slice uA un uc))
  have HO := hid (HO1.out.past 0 (.slice uA un uc))
  generalize W1.setCell ⟨w.heap.size + 1 + 1 + 1, 0, none⟩ (.slice uA un uc) = W at HC HO ⊢
  have HI := hid HO.out.ints
  obtain ⟨c00, c01, c10, c11, c12, c20, c21, c30, c31, f20, f21, f30, f31⟩ := HC.out.all
  clear c00 c01 c10 c11 c12 c20 c21 c30 c31 f20 f21 f30 f31
  refine (implPosetText_any _ ((fenceL x0)) _ HI.out HLn.out).mono ?_
  rintro e w9 ⟨rfl, hb9⟩
  rw [HGd.out]
  have HC9 := hid (HC.out.below hb9)
  have HO9 := hid (HO.out.below hb9)
  clear hb9
  obtain ⟨c00, c01, c10, c11, c12, c20, c21, c30, c31, f20, f21, f30, f31⟩ := HC9.out.all
  go_wp2
  refine bodyPost_ret (v := .tuple #[.agg #[.slice uA un uc, .int .i64 (0)], .string (sB (ansTX ((fenceL x0)))), .nilIface]) (by simp [results, Tryz.results54, go_sem, c20, c21]) rfl ⟨⟨_, rfl, ?_⟩, ?_⟩
  · exact own_put2 HO9.out _ _
  · exact below_put2 HC9.out.bel (w.heap.size + 1 + 1) (by omega) _ _
set_option maxRecDepth 100000 in
theorem changePoset_dual (v : Value) (xs : List Int) (s : Int) (F : ByteArray) (nv : Value) (ns : List Int) (pv : Value) (w : World) {a0 a1 : Addr} (hG : GlobD w a0 a1) (hv : Ints w v xs) (hl : xs.length ≤ 1048576) (hn : Ints w nv ns) (hpv : ∃ A n c, pv = .slice A n c) (hF : F.toList = [100, 117, 97, 108]) (hok : okIdeal xs s = true) (hwf : (Lit.int .i64 s).wf = true) :
    Calls Tryz.prog 54 #[.agg #[v, .int .i64 s], .agg #[.string F, nv, pv]] w fun (r : Ending) w' => (∃ u, r = .returned (.tuple #[.agg #[u, .int .i64 (ansDU xs s id)], .string (sB (ansTX (dualL xs))), .nilIface]) ∧ OwnI 3 w' w.heap.size u (dualL xs)) ∧ Below w.heap.size w w' := by
  have HG := hid hG
  have HV := hid hv
  have HN := hid hn
  obtain ⟨A, c, rfl, -⟩ := hv
  obtain ⟨nA, nc, rfl, -⟩ := hn
  obtain ⟨pA, pn, pc, rfl⟩ := hpv
  clear hG
  obtain ⟨z, e, hgx, -, -⟩ := okIdeal_all hok
  have HGx := hid hgx
  have HGd := hid (dualD_good hgx)
  have HOk := hid hok
  have HWf := hid hwf
  clear e hgx hok hwf
  obtain ⟨D, hD⟩ : ∃ D, ansDU xs s id = D := ⟨_, rfl⟩
  have HD := hid hD
  rw [hD]
  clear hD
  have HC := hid (CP.new w (.slice A xs.length c) s F (.slice nA ns.length nc) (.slice pA pn pc))
  go_enter Tryz.func54, Tryz.ntmps54
  go_wp2_with fail
  refine (implDualOf_any _ xs _ (HV.out.below HC.out.bel) hl).mono ?_
  rw [HGx.out]
  rintro e W1 ⟨u, rfl, ho, hln, hb⟩
  have HC1 := hid (HC.out.below hb)
  have hz := HC1.out.size
  have ho4 : OwnI 3 W1 (w.heap.size + 4) u (dualL xs) := by simpa using ho
  have HO1 := hid ho4
  have HLn := hid hln
  obtain ⟨uA, uc, rfl, -⟩ := ho.ints
  obtain ⟨un, hun⟩ : ∃ n, (dualL xs).length = n := ⟨_, rfl⟩
  rw [hun] at HO1 ⊢
  clear ho hb hln ho4 HC hun
  obtain ⟨c00, c01, c10, c11, c12, c20, c21, c30, c31, f20, f21, f30, f31⟩ := HC1.out.all
  go_wp2_with fail
  clear c00 c01 c10 c11 c12 c20 c21 c30 c31 f20 f21 f30 f31
  have HC2 := hid (HC1.out.next (.slice uA un uc))
  have HO2 := hid (HO1.out.past 0 (.slice uA un uc))
  generalize W1.setCell ⟨w.heap.size + 1 + 1 + 1, 0, none⟩ (.slice uA un uc) = W2 at HC2 HO2 ⊢
  clear HC1 HO1
  refine (implDualIdeal_any _ xs s _ (HV.out.below HC2.out.bel) hl HWf.out).mono ?_
  rw [HD.out, HOk.out]
  rintro e W3 ⟨rfl, hb⟩
  have HC3 := hid (HC2.out.below hb)
  have HO3 := hid (HO2.out.below hb)
  clear hb HC2 HO2
  obtain ⟨c00, c01, c10, c11, c12, c20, c21, c30, c31, f20, f21, f30, f31⟩ := HC3.out.all
  go_wp2_with fail
  clear c00 c01 c10 c11 c12 c20 c21 c30 c31 f20 f21 f30 f31
  have HC := hid (HC3.out.next1 (.int .i64 D))
  have HO := hid (HO3.out.past 1 (.int .i64 D))
  generalize W3.setCell ⟨w.heap.size + 1 + 1 + 1, 1, none⟩ (.int .i64 D) = W at HC HO ⊢
  have HI := hid HO.out.ints
  obtain ⟨c00, c01, c10, c11, c12, c20, c21, c30, c31, f20, f21, f30, f31⟩ := HC.out.all
  clear c00 c01 c10 c11 c12 c20 c21 c30 c31 f20 f21 f30 f31
  refine (implPosetText_any _ (dualL xs) _ HI.out HLn.out).mono ?_
  rintro e w9 ⟨rfl, hb9⟩
  rw [HGd.out]
  have HC9 := hid (HC.out.below hb9)
  have HO9 := hid (HO.out.below hb9)
  clear hb9
  obtain ⟨c00, c01, c10, c11, c12, c20, c21, c30, c31, f20, f21, f30, f31⟩ := HC9.out.all
  go_wp2
  refine bodyPost_ret (v := .tuple #[.agg #[.slice uA un uc, .int .i64 (D)], .string (sB (ansTX (dualL xs))), .nilIface]) (by simp [results, Tryz.results54, go_sem, c20, c21]) rfl ⟨⟨_, rfl, ?_⟩, ?_⟩
  · exact own_put2 HO9.out _ _
  · exact below_put2 HC9.out.bel (w.heap.size + 1 + 1) (by omega) _ _
set_option maxHeartbeats 1600000 in
set_option maxRecDepth 100000 in
theorem changePoset_rectangle_no (v : Value) (xs : List Int) (s : Int) (F : ByteArray) (nv : Value) (ns : List Int) (pv : Value) (w : World) {a0 a1 : Addr} (hG : GlobD w a0 a1) (hv : Ints w v xs) (hl : xs.length ≤ 1048576) (hn : Ints w nv ns) (hpv : ∃ A n c, pv = .slice A n c) (hF : F.toList = [114, 101, 99, 116, 97, 110, 103, 108, 101, 32, 78, 32, 78]) (hns : ns.length = 2) (hr0 : 0 ≤ ns.getD 0 0 ∧ ns.getD 0 0 ≤ 999999) (hr1 : 0 ≤ ns.getD 1 0 ∧ ns.getD 1 0 ≤ 999999) (hok : sides (ns.getD 0 0) (ns.getD 1 0) = false) :
    Calls Tryz.prog 54 #[.agg #[v, .int .i64 s], .agg #[.string F, nv, pv]] w fun (r : Ending) w' => r = .returned (.tuple #[.agg #[.slice none 0 0, .int .i64 0], .string { data := #[] }, .iface 269 (.pointer (some a1))]) ∧ Below w.heap.size w w' := by
  have HG := hid hG
  have HV := hid hv
  have HN := hid hn
  obtain ⟨A, c, rfl, -⟩ := hv
  obtain ⟨nA, nc, rfl, -⟩ := hn
  obtain ⟨pA, pn, pc, rfl⟩ := hpv
  clear hG
  have HOk := hid hok
  clear hok
  obtain ⟨bN, oN, rfl⟩ := ints_addrD HN.out (by intro h0; rw [h0] at hns; simp at hns)
  have HNs := hid hns
  rw [hns] at HN ⊢
  clear hns
  have HC := hid (CP.new w (.slice A xs.length c) s F (.slice (some ⟨bN, oN, none⟩) 2 nc) (.slice pA pn pc))
  have HNW := hid (HN.out.below HC.out.bel)
  obtain ⟨x0, hx0⟩ : ∃ x, ns.getD 0 0 = x := ⟨_, rfl⟩
  rw [hx0] at hr0 HOk
  have k0 := ints_cellD HNW.out (j := 0) (by rw [HNs.out]; decide)
  rw [hx0, Nat.add_zero] at k0
  obtain ⟨x1, hx1⟩ : ∃ x, ns.getD 1 0 = x := ⟨_, rfl⟩
  rw [hx1] at hr1 HOk
  have k1 := ints_cellD HNW.out (j := 1) (by rw [HNs.out]; decide)
  rw [hx1] at k1
  clear hx0 hx1
  go_enter Tryz.func54, Tryz.ntmps54
  go_wp2
  generalize (((w.alloc (.cells #[.slice A xs.length c, .int .i64 s] 30)).alloc (.cells #[.string F, .slice (some ⟨bN, oN, none⟩) 2 nc, .slice pA pn pc] 85)).alloc (.cells #[.slice none 0 0, .int .i64 0] 30)).alloc (.cells #[.slice none 0 0, .int .i64 0] 30) = W at HC HNW k0 k1 ⊢
  obtain ⟨c00, c01, c10, c11, c12, c20, c21, c30, c31, f20, f21, f30, f31⟩ := HC.out.all
  have HCd := hid (show CP w W.drew _ _ _ _ _ _ _ _ _ from HC.out.below (below_drewN (Below.refl _ W) 1))
  go_region_with (first | (go_at_call 100; refine (implRectangle_any x0 x1 _ (wf_i64D _ (by omega) (by omega)) (wf_i64D _ (by omega) (by omega))).mono ?_; rw [HOk.out]; rintro e W1 ⟨u, rfl, ho, hln, hb⟩; have HC1 := hid (HCd.out.below hb); have hz := HC1.out.size; have HO0 := hid ho; have HLn := hid hln; have hu3 := ho.ints; obtain ⟨uA, uc, rfl, -⟩ := hu3; have c30 : W1.cell? ⟨w.heap.size + 3, 0, none⟩ = some (.slice none 0 0) := HC1.out.k3.cell 0; have f30 := HC1.out.k3.frozen 0; have HSz := hid HC.out.size; clear ho hb hln))
  all_goals
    have ho4 : OwnI 3 W1 (w.heap.size + 4) (.slice uA (rectL x0 x1).length uc) (rectL x0 x1) := HO0.out.mono (by have := HSz.out; simpa using this)
    have HO1 := hid ho4
    clear ho4 HO0
    obtain ⟨un, hun⟩ : ∃ n, (rectL x0 x1).length = n := ⟨_, rfl⟩
    rw [hun] at HO1 ⊢
    clear hun
    clear c00 c01 c10 c11 c12 c20 c21 c31 f20 f21 f31 k0 k1 c30 f30 HC HCd
    have HC := hid (HC1.out.next (.slice uA un uc))
    have HO := hid (HO1.out.past 0 (.slice uA un uc))
    generalize W1.setCell ⟨w.heap.size + 1 + 1 + 1, 0, none⟩ (.slice uA un uc) = V at HC HO ⊢
    have g1 := (HG.out.later HC.out.bel).no
    obtain ⟨c00, c01, c10, c11, c12, c20, c21, c30, c31, f20, f21, f30, f31⟩ := HC.out.all
    go_wp2
    go_region
    go_wp2
    refine bodyPost_ret (v := .tuple #[.agg #[.slice none 0 0, .int .i64 0], .string { data := #[] }, .iface 269 (.pointer (some a1))]) (by simp [results, Tryz.results54, go_sem, c20, c21]) rfl ⟨rfl, ?_⟩
    exact below_drewN (below_put2 HC.out.bel (w.heap.size + 1 + 1) (by omega) _ _) 1
set_option maxHeartbeats 1600000 in
set_option maxRecDepth 100000 in
theorem changePoset_rectangle_yes (v : Value) (xs : List Int) (s : Int) (F : ByteArray) (nv : Value) (ns : List Int) (pv : Value) (w : World) {a0 a1 : Addr} (hG : GlobD w a0 a1) (hv : Ints w v xs) (hl : xs.length ≤ 1048576) (hn : Ints w nv ns) (hpv : ∃ A n c, pv = .slice A n c) (hF : F.toList = [114, 101, 99, 116, 97, 110, 103, 108, 101, 32, 78, 32, 78]) (hns : ns.length = 2) (hr0 : 0 ≤ ns.getD 0 0 ∧ ns.getD 0 0 ≤ 999999) (hr1 : 0 ≤ ns.getD 1 0 ∧ ns.getD 1 0 ≤ 999999) (hok : sides (ns.getD 0 0) (ns.getD 1 0) = true) :
    Calls Tryz.prog 54 #[.agg #[v, .int .i64 s], .agg #[.string F, nv, pv]] w fun (r : Ending) w' => (∃ u, r = .returned (.tuple #[.agg #[u, .int .i64 (0)], .string (sB (ansTX ((rectL (ns.getD 0 0) (ns.getD 1 0))))), .nilIface]) ∧ OwnI 3 w' w.heap.size u ((rectL (ns.getD 0 0) (ns.getD 1 0)))) ∧ Below w.heap.size w w' := by
  have HG := hid hG
  have HV := hid hv
  have HN := hid hn
  obtain ⟨A, c, rfl, -⟩ := hv
  obtain ⟨nA, nc, rfl, -⟩ := hn
  obtain ⟨pA, pn, pc, rfl⟩ := hpv
  clear hG
  have HOk := hid hok
  have HGd := hid (rectD_good hok)
  clear hok
  obtain ⟨bN, oN, rfl⟩ := ints_addrD HN.out (by intro h0; rw [h0] at hns; simp at hns)
  have HNs := hid hns
  rw [hns] at HN ⊢
  clear hns
  have HC := hid (CP.new w (.slice A xs.length c) s F (.slice (some ⟨bN, oN, none⟩) 2 nc) (.slice pA pn pc))
  have HNW := hid (HN.out.below HC.out.bel)
  obtain ⟨x0, hx0⟩ : ∃ x, ns.getD 0 0 = x := ⟨_, rfl⟩
  rw [hx0] at hr0 HOk HGd ⊢
  have k0 := ints_cellD HNW.out (j := 0) (by rw [HNs.out]; decide)
  rw [hx0, Nat.add_zero] at k0
  obtain ⟨x1, hx1⟩ : ∃ x, ns.getD 1 0 = x := ⟨_, rfl⟩
  rw [hx1] at hr1 HOk HGd ⊢
  have k1 := ints_cellD HNW.out (j := 1) (by rw [HNs.out]; decide)
  rw [hx1] at k1
  clear hx0 hx1
  go_enter Tryz.func54, Tryz.ntmps54
  go_wp2
  generalize (((w.alloc (.cells #[.slice A xs.length c, .int .i64 s] 30)).alloc (.cells #[.string F, .slice (some ⟨bN, oN, none⟩) 2 nc, .slice pA pn pc] 85)).alloc (.cells #[.slice none 0 0, .int .i64 0] 30)).alloc (.cells #[.slice none 0 0, .int .i64 0] 30) = W at HC HNW k0 k1 ⊢
  obtain ⟨c00, c01, c10, c11, c12, c20, c21, c30, c31, f20, f21, f30, f31⟩ := HC.out.all
  have HCd := hid (show CP w W.drew _ _ _ _ _ _ _ _ _ from HC.out.below (below_drewN (Below.refl _ W) 1))
  go_region_with (first | (go_at_call 100; refine (implRectangle_any x0 x1 _ (wf_i64D _ (by omega) (by omega)) (wf_i64D _ (by omega) (by omega))).mono ?_; rw [HOk.out]; rintro e W1 ⟨u, rfl, ho, hln, hb⟩; have HC1 := hid (HCd.out.below hb); have hz := HC1.out.size; have HO0 := hid ho; have HLn := hid hln; have hu3 := ho.ints; obtain ⟨uA, uc, rfl, -⟩ := hu3; have c30 : W1.cell? ⟨w.heap.size + 3, 0, none⟩ = some (.slice none 0 0) := HC1.out.k3.cell 0; have f30 := HC1.out.k3.frozen 0; have HSz := hid HC.out.size; clear ho hb hln))
  all_goals
    have ho4 : OwnI 3 W1 (w.heap.size + 4) (.slice uA (rectL x0 x1).length uc) (rectL x0 x1) := HO0.out.mono (by have := HSz.out; simpa using this)
    have HO1 := hid ho4
    clear ho4 HO0
    obtain ⟨un, hun⟩ : ∃ n, (rectL x0 x1).length = n := ⟨_, rfl⟩
    rw [hun] at HO1 ⊢
    clear hun
    clear c00 c01 c10 c11 c12 c20 c21 c31 f20 f21 f31 k0 k1 c30 f30 HC HCd
    have HC := hid (HC1.out.next (.slice uA un uc))
    have HO := hid (HO1.out.past 0 (.slice uA un uc))
    generalize W1.setCell ⟨w.heap.size + 1 + 1 + 1, 0, none⟩ (.slice uA un uc) = V at HC HO ⊢
    have HI := hid HO.out.ints
    obtain ⟨c00, c01, c10, c11, c12, c20, c21, c30, c31, f20, f21, f30, f31⟩ := HC.out.all
    go_wp2_with fail
    clear c00 c01 c10 c11 c12 c20 c21 c30 c31 f20 f21 f30 f31
    refine (implPosetText_any _ ((rectL x0 x1)) _ HI.out HLn.out).mono ?_
    rintro e w9 ⟨rfl, hb9⟩
    rw [HGd.out]
    have HC9 := hid (HC.out.below hb9)
    have HO9 := hid (HO.out.below hb9)
    clear hb9
    obtain ⟨c00, c01, c10, c11, c12, c20, c21, c30, c31, f20, f21, f30, f31⟩ := HC9.out.all
    go_wp2
    refine bodyPost_ret (v := .tuple #[.agg #[.slice uA un uc, .int .i64 (0)], .string (sB (ansTX ((rectL x0 x1)))), .nilIface]) (by simp [results, Tryz.results54, go_sem, c20, c21]) rfl ⟨⟨_, rfl, ?_⟩, ?_⟩
    · exact own_put2 HO9.out _ _
    · exact below_put2 HC9.out.bel (w.heap.size + 1 + 1) (by omega) _ _
end Go.Proofs.YtbmhaamenjhjfaaGreatDoor
