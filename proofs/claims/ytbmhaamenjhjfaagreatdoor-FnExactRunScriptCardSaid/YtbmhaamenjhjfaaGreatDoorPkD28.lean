/- DskQ DskE -/
import Derived.BigQuiet
import Derived.Test.YtbmhaamenjhjfaaGreatDoorPkD26
import Derived.Test.YtbmhaamenjhjfaaGreatDoorPkD27
namespace Go.Proofs.YtbmhaamenjhjfaaGreatDoor
open Go.RowKit Go.WideShapes Go.ChangeShapes
set_option linter.unusedVariables false
structure CA (w W : World) (dv : Value) (s : Int) (f : ByteArray) (nv pv : Value) : Prop where
  k0 : Blk W w.heap.size 30 #[dv, .int .i64 s]
  k1 : Blk W (w.heap.size + 1) 85 #[.string f, nv, pv]
  bel : Below w.heap.size w W
theorem CA.below {w W W' : World} {dv : Value} {s : Int} {f : ByteArray} {nv pv : Value} (h : CA w W dv s f nv pv) (hb : Below W.heap.size W W') : CA w W' dv s f nv pv :=
  ⟨h.k0.below hb h.k0.lt, h.k1.below hb h.k1.lt, below_to h.bel hb⟩
theorem CA.new (w : World) (dv : Value) (s : Int) (f : ByteArray) (nv pv : Value) : CA w ((w.alloc (.cells #[dv, .int .i64 s] 30)).alloc (.cells #[.string f, nv, pv] 85)) dv s f nv pv where
  k0 := (Blk.new w _ _).alloc _
  k1 := Blk.newAt _ _ _ _ (by simp)
  bel := below_alloc (below_alloc (Below.refl _ _) _) _
theorem ansSz_bound (xs : List Int) (s : Int) : 0 ≤ ansSz xs s ∧ ansSz xs s ≤ 1000000000000 := by
  unfold ansSz
  split
  · have := pc_le s.toNat; omega
  · omega
theorem ansN_bound (xs : List Int) : 0 ≤ ansN xs ordersN ∧ ansN xs ordersN ≤ 1000000000000 := by
  unfold ansN
  split
  case isTrue h =>
    have h1 := (good_length h).2
    have h2 := ways_le h1 (2 ^ xs.length - 1)
    have h3 : 10 ^ cntB (2 ^ xs.length - 1) xs.length ≤ 10 ^ 10 := Nat.pow_le_pow_right (by decide) (Nat.le_trans (cntB_le _ _) h1)
    have e10 : (10 : Nat) ^ 10 = 10000000000 := by decide
    unfold ordersN
    omega
  case isFalse => omega
theorem idealsL_bound {xs : List Int} (hg : good xs = true) : (idealsL xs).length ≤ 1024 := by
  have e1 : idealsL xs = setsL (holdsIdeal xs) (2 ^ xs.length) := if_pos hg
  rw [e1]
  unfold setsL
  rw [List.length_map]
  exact Nat.le_trans (List.length_filter_le _ _) (by rw [List.length_range]; exact Nat.le_trans (Nat.pow_le_pow_right (by decide) (good_length hg).2) (by decide))
theorem idsXs_bound {xs : List Int} (hg : good xs = true) : (idsXs xs).length ≤ 1024 := (idsXs_length hg).2
theorem sumPc_le (ids : List Int) (k : Nat) : sumTo pc ids k ≤ 10 * k := by
  induction k with
  | zero => simp [sumTo]
  | succ k ih =>
    rw [sumTo]
    have := pc_le (ids.getD k 0).toNat
    omega
theorem ansMU_bound {xs : List Int} (hg : good xs = true) : 0 ≤ ansMU xs ∧ ansMU xs ≤ 1000000000000 := by
  unfold ansMU
  rw [if_pos hg]
  unfold meanU
  have h1 := sumPc_le (idsXs xs) (idsXs xs).length
  have h2 := idsXs_bound hg
  have h3 := Nat.div_le_self (sumTo pc (idsXs xs) (idsXs xs).length) (Nat.gcd (sumTo pc (idsXs xs) (idsXs xs).length) (idsXs xs).length)
  generalize sumTo pc (idsXs xs) (idsXs xs).length / Nat.gcd (sumTo pc (idsXs xs) (idsXs xs).length) (idsXs xs).length = q at h3 ⊢
  omega
theorem ansMD_bound {xs : List Int} (hg : good xs = true) : 0 ≤ ansMD xs ∧ ansMD xs ≤ 1000000000000 := by
  unfold ansMD
  rw [if_pos hg]
  unfold meanD
  have h2 := idsXs_bound hg
  have h3 := Nat.div_le_self (idsXs xs).length (Nat.gcd (sumTo pc (idsXs xs) (idsXs xs).length) (idsXs xs).length)
  generalize (idsXs xs).length / Nat.gcd (sumTo pc (idsXs xs) (idsXs xs).length) (idsXs xs).length = q at h3 ⊢
  omega
theorem ansOO_facts {xs : List Int} {s : Int} (h : okIdeal xs s = true) : 1 ≤ (ansOO xs s).length ∧ (ansOO xs s).length ≤ 2000 ∧ ∀ j, j < (ansOO xs s).length → 0 ≤ (ansOO xs s).getD j 0 ∧ (ansOO xs s).getD j 0 ≤ 1000000 := by
  obtain ⟨z, rfl, hg, hz, hi⟩ := okIdeal_all h
  unfold ansOO
  rw [if_pos h, Int.toNat_natCast]
  have hb := idB_iff.2 ⟨hz, hi⟩
  have hl := orbXs_length hg hb
  refine ⟨hl.1, by omega, fun j hj => ?_⟩
  obtain ⟨t, e, h2⟩ := orbXs_at hg hb j hj
  rw [e]; omega
theorem ansOL_facts {xs : List Int} (hg : good xs = true) : 1 ≤ (ansOL xs).length ∧ (ansOL xs).length ≤ 2000 ∧ ∀ j, j < (ansOL xs).length → 0 ≤ (ansOL xs).getD j 0 ∧ (ansOL xs).getD j 0 ≤ 1000000 := by
  unfold ansOL
  rw [if_pos hg]
  have hl := lensXs_length hg
  refine ⟨List.length_pos_iff.2 (lensD_ne hg), by omega, fun j hj => ?_⟩
  have := lensXs_pos hg ((lensXs xs).getD j 0) (by rw [show (lensXs xs).getD j 0 = (lensXs xs)[j] from by simp [List.getD, hj]]; exact List.getElem_mem hj)
  omega
set_option maxRecDepth 100000 in
theorem answer_else (v : Value) (xs : List Int) (s : Int) (F : ByteArray) (nv pv : Value) (w : World) {a0 a1 : Addr} (hG : GlobD w a0 a1) (hv : Ints w v xs) (hl : xs.length ≤ 1048576) (hnv : ∃ A n c, nv = .slice A n c) (hpv : ∃ A n c, pv = .slice A n c) (hid0 : okIdeal xs s = true) (hwf : (Lit.int .i64 s).wf = true) (h13 : (F.toList == [115, 104, 111, 119]) = false) (h14 : (F.toList == [105, 100, 101, 97, 108]) = false) (h15 : (F.toList == [115, 105, 122, 101]) = false) (h16 : (F.toList == [111, 114, 98, 105, 116]) = false) (h17 : (F.toList == [105, 100, 101, 97, 108, 115]) = false) (h18 : (F.toList == [111, 114, 100, 101, 114, 115]) = false) (h19 : (F.toList == [108, 101, 110, 103, 116, 104, 115]) = false) (h20 : (F.toList == [109, 101, 97, 110]) = false) (h21 : (F.toList == [101, 118, 101, 110]) = false) :
    Calls Tryz.prog 57 #[.agg #[v, .int .i64 s], .agg #[.string F, nv, pv]] w fun (r : Ending) w' => r = .returned (.tuple #[.string { data := #[] }, .iface 269 (.pointer (some a0))]) ∧ Below w.heap.size w w' := by
  have HG := hid hG
  have HV := hid hv
  have HI0 := hid hid0
  have HWf := hid hwf
  obtain ⟨z, -, hgx, -, -⟩ := okIdeal_all hid0
  have HGx := hid hgx
  obtain ⟨A, c, rfl, -⟩ := hv
  obtain ⟨nA, nn, nc, rfl⟩ := hnv
  obtain ⟨pA, pn, pc', rfl⟩ := hpv
  have HC := hid (CA.new w (.slice A xs.length c) s F (.slice nA nn nc) (.slice pA pn pc'))
  clear hG hid0 hwf hgx
  go_enter Tryz.func57, Tryz.ntmps57
  go_wp2
  generalize (w.alloc (.cells #[.slice A xs.length c, .int .i64 s] 30)).alloc (.cells #[.string F, .slice nA nn nc, .slice pA pn pc'] 85) = W at HC ⊢
  have g0 := (HG.out.later HC.out.bel).what
  go_region
  go_wp2
  go_ret2
  exact ⟨rfl, below_drewN HC.out.bel 1⟩
set_option maxRecDepth 100000 in
theorem answer_show (v : Value) (xs : List Int) (s : Int) (F : ByteArray) (nv pv : Value) (w : World) {a0 a1 : Addr} (hG : GlobD w a0 a1) (hv : Ints w v xs) (hl : xs.length ≤ 1048576) (hnv : ∃ A n c, nv = .slice A n c) (hpv : ∃ A n c, pv = .slice A n c) (hid0 : okIdeal xs s = true) (hwf : (Lit.int .i64 s).wf = true) (hF : F.toList = [115, 104, 111, 119]) :
    Calls Tryz.prog 57 #[.agg #[v, .int .i64 s], .agg #[.string F, nv, pv]] w fun (r : Ending) w' => r = .returned (.tuple #[.string (sB (ansTX xs)), .nilIface]) ∧ Below w.heap.size w w' := by
  have HG := hid hG
  have HV := hid hv
  have HI0 := hid hid0
  have HWf := hid hwf
  obtain ⟨z, -, hgx, -, -⟩ := okIdeal_all hid0
  have HGx := hid hgx
  obtain ⟨A, c, rfl, -⟩ := hv
  obtain ⟨nA, nn, nc, rfl⟩ := hnv
  obtain ⟨pA, pn, pc', rfl⟩ := hpv
  have HC := hid (CA.new w (.slice A xs.length c) s F (.slice nA nn nc) (.slice pA pn pc'))
  clear hG hid0 hwf hgx
  obtain ⟨TT, hTT⟩ : ∃ T : List UInt8, (ansTX xs) = T := ⟨_, rfl⟩
  have HTT := hid hTT
  rw [hTT]
  clear hTT
  go_enter Tryz.func57, Tryz.ntmps57
  go_wp2_with fail
  refine (implPosetText_any _ xs _ (HV.out.below HC.out.bel) hl).mono ?_
  rw [HGx.out]
  rw [HTT.out]
  rintro e W1 ⟨rfl, hb⟩
  have HC1 := hid (HC.out.below hb)
  clear hb HC
  go_wp2
  go_ret2
  exact ⟨rfl, HC1.out.bel⟩
set_option maxRecDepth 100000 in
theorem answer_ideal (v : Value) (xs : List Int) (s : Int) (F : ByteArray) (nv pv : Value) (w : World) {a0 a1 : Addr} (hG : GlobD w a0 a1) (hv : Ints w v xs) (hl : xs.length ≤ 1048576) (hnv : ∃ A n c, nv = .slice A n c) (hpv : ∃ A n c, pv = .slice A n c) (hid0 : okIdeal xs s = true) (hwf : (Lit.int .i64 s).wf = true) (hF : F.toList = [105, 100, 101, 97, 108]) :
    Calls Tryz.prog 57 #[.agg #[v, .int .i64 s], .agg #[.string F, nv, pv]] w fun (r : Ending) w' => r = .returned (.tuple #[.string (sB (numT s)), .nilIface]) ∧ Below w.heap.size w w' := by
  have HG := hid hG
  have HV := hid hv
  have HI0 := hid hid0
  have HWf := hid hwf
  obtain ⟨z, -, hgx, -, -⟩ := okIdeal_all hid0
  have HGx := hid hgx
  obtain ⟨A, c, rfl, -⟩ := hv
  obtain ⟨nA, nn, nc, rfl⟩ := hnv
  obtain ⟨pA, pn, pc', rfl⟩ := hpv
  have HC := hid (CA.new w (.slice A xs.length c) s F (.slice nA nn nc) (.slice pA pn pc'))
  clear hG hid0 hwf hgx
  obtain ⟨TT, hTT⟩ : ∃ T : List UInt8, (numT s) = T := ⟨_, rfl⟩
  have HTT := hid hTT
  rw [hTT]
  clear hTT
  go_enter Tryz.func57, Tryz.ntmps57
  go_wp2_with fail
  refine (itoaT_any s _ (HG.out.later HC.out.bel) (okId_bound HI0.out).1 (okId_bound HI0.out).2).mono ?_
  rw [HTT.out]
  rintro e W1 ⟨rfl, hb⟩
  have HC1 := hid (HC.out.below hb)
  clear hb HC
  go_wp2
  go_ret2
  exact ⟨rfl, HC1.out.bel⟩
theorem okSet_ofIdeal {xs : List Int} {s : Int} (h : okIdeal xs s = true) : okSet xs s = true := by
  cases hs : okSet xs s
  · rw [okIdeal_no hs] at h; cases h
  · rfl
set_option maxRecDepth 100000 in
theorem answer_size (v : Value) (xs : List Int) (s : Int) (F : ByteArray) (nv pv : Value) (w : World) {a0 a1 : Addr} (hG : GlobD w a0 a1) (hv : Ints w v xs) (hl : xs.length ≤ 1048576) (hnv : ∃ A n c, nv = .slice A n c) (hpv : ∃ A n c, pv = .slice A n c) (hid0 : okIdeal xs s = true) (hwf : (Lit.int .i64 s).wf = true) (hF : F.toList = [115, 105, 122, 101]) :
    Calls Tryz.prog 57 #[.agg #[v, .int .i64 s], .agg #[.string F, nv, pv]] w fun (r : Ending) w' => r = .returned (.tuple #[.string (sB (numT (ansSz xs s))), .nilIface]) ∧ Below w.heap.size w w' := by
  have HG := hid hG
  have HV := hid hv
  have HI0 := hid hid0
  have HWf := hid hwf
  obtain ⟨z, -, hgx, -, -⟩ := okIdeal_all hid0
  have HGx := hid hgx
  obtain ⟨A, c, rfl, -⟩ := hv
  obtain ⟨nA, nn, nc, rfl⟩ := hnv
  obtain ⟨pA, pn, pc', rfl⟩ := hpv
  have HC := hid (CA.new w (.slice A xs.length c) s F (.slice nA nn nc) (.slice pA pn pc'))
  clear hG hid0 hwf hgx
  obtain ⟨TT, hTT⟩ : ∃ T : List UInt8, (numT (ansSz xs s)) = T := ⟨_, rfl⟩
  have HTT := hid hTT
  rw [hTT]
  clear hTT
  go_enter Tryz.func57, Tryz.ntmps57
  go_wp2_with fail
  refine (implSizeOf_any _ xs s _ (HV.out.below HC.out.bel) hl HWf.out).mono ?_
  rw [okSet_ofIdeal HI0.out]
  rintro e W1 ⟨rfl, hb⟩
  have HC1 := hid (HC.out.below hb)
  clear hb HC
  go_wp2_with fail
  refine (numberText_any _ true _ (HG.out.later HC1.out.bel) (ansSz_bound xs s).1 (ansSz_bound xs s).2).mono ?_
  rw [HTT.out]
  rintro e W2 ⟨rfl, hb⟩
  have HC2 := hid (HC1.out.below hb)
  clear hb HC1
  go_wp2
  go_ret2
  exact ⟨rfl, HC2.out.bel⟩
set_option maxRecDepth 100000 in
theorem answer_orbit (v : Value) (xs : List Int) (s : Int) (F : ByteArray) (nv pv : Value) (w : World) {a0 a1 : Addr} (hG : GlobD w a0 a1) (hv : Ints w v xs) (hl : xs.length ≤ 1048576) (hnv : ∃ A n c, nv = .slice A n c) (hpv : ∃ A n c, pv = .slice A n c) (hid0 : okIdeal xs s = true) (hwf : (Lit.int .i64 s).wf = true) (hF : F.toList = [111, 114, 98, 105, 116]) :
    Calls Tryz.prog 57 #[.agg #[v, .int .i64 s], .agg #[.string F, nv, pv]] w fun (r : Ending) w' => r = .returned (.tuple #[.string (sB (lisT (ansOO xs s))), .nilIface]) ∧ Below w.heap.size w w' := by
  have HG := hid hG
  have HV := hid hv
  have HI0 := hid hid0
  have HWf := hid hwf
  obtain ⟨z, -, hgx, -, -⟩ := okIdeal_all hid0
  have HGx := hid hgx
  obtain ⟨A, c, rfl, -⟩ := hv
  obtain ⟨nA, nn, nc, rfl⟩ := hnv
  obtain ⟨pA, pn, pc', rfl⟩ := hpv
  have HC := hid (CA.new w (.slice A xs.length c) s F (.slice nA nn nc) (.slice pA pn pc'))
  clear hG hid0 hwf hgx
  obtain ⟨TT, hTT⟩ : ∃ T : List UInt8, (lisT (ansOO xs s)) = T := ⟨_, rfl⟩
  have HTT := hid hTT
  rw [hTT]
  clear hTT
  go_enter Tryz.func57, Tryz.ntmps57
  go_wp2_with fail
  refine (implOrbitOf_any _ xs s _ (HV.out.below HC.out.bel) hl HWf.out).mono ?_
  rw [HI0.out]
  rintro e W1 ⟨u, rfl, ho, hlo, hb⟩
  have HC1 := hid (HC.out.below hb)
  have HU := hid ho.ints
  clear ho hlo
  clear hb HC
  go_wp2_with fail
  refine (listText_any _ (ansOO xs s) true _ (HG.out.later HC1.out.bel) HU.out (ansOO_facts HI0.out).1 (ansOO_facts HI0.out).2.1 (ansOO_facts HI0.out).2.2).mono ?_
  rw [HTT.out]
  rintro e W2 ⟨rfl, hb⟩
  have HC2 := hid (HC1.out.below hb)
  clear hb HC1
  go_wp2
  go_ret2
  exact ⟨rfl, HC2.out.bel⟩
set_option maxRecDepth 100000 in
theorem answer_ideals (v : Value) (xs : List Int) (s : Int) (F : ByteArray) (nv pv : Value) (w : World) {a0 a1 : Addr} (hG : GlobD w a0 a1) (hv : Ints w v xs) (hl : xs.length ≤ 1048576) (hnv : ∃ A n c, nv = .slice A n c) (hpv : ∃ A n c, pv = .slice A n c) (hid0 : okIdeal xs s = true) (hwf : (Lit.int .i64 s).wf = true) (hF : F.toList = [105, 100, 101, 97, 108, 115]) :
    Calls Tryz.prog 57 #[.agg #[v, .int .i64 s], .agg #[.string F, nv, pv]] w fun (r : Ending) w' => r = .returned (.tuple #[.string (sB (numT ((idealsL xs).length : Int))), .nilIface]) ∧ Below w.heap.size w w' := by
  have HG := hid hG
  have HV := hid hv
  have HI0 := hid hid0
  have HWf := hid hwf
  obtain ⟨z, -, hgx, -, -⟩ := okIdeal_all hid0
  have HGx := hid hgx
  obtain ⟨A, c, rfl, -⟩ := hv
  obtain ⟨nA, nn, nc, rfl⟩ := hnv
  obtain ⟨pA, pn, pc', rfl⟩ := hpv
  have HC := hid (CA.new w (.slice A xs.length c) s F (.slice nA nn nc) (.slice pA pn pc'))
  clear hG hid0 hwf hgx
  obtain ⟨TT, hTT⟩ : ∃ T : List UInt8, (numT ((idealsL xs).length : Int)) = T := ⟨_, rfl⟩
  have HTT := hid hTT
  rw [hTT]
  clear hTT
  go_enter Tryz.func57, Tryz.ntmps57
  go_wp2_with fail
  refine (implCountIdeals_any _ xs _ (HV.out.below HC.out.bel) hl).mono ?_
  rw [HGx.out]
  rintro e W1 ⟨rfl, hb⟩
  have HC1 := hid (HC.out.below hb)
  clear hb HC
  go_wp2_with fail
  refine (numberText_any _ true _ (HG.out.later HC1.out.bel) (by omega) (by have := idealsL_bound HGx.out; omega)).mono ?_
  rw [HTT.out]
  rintro e W2 ⟨rfl, hb⟩
  have HC2 := hid (HC1.out.below hb)
  clear hb HC1
  go_wp2
  go_ret2
  exact ⟨rfl, HC2.out.bel⟩
set_option maxRecDepth 100000 in
theorem answer_orders (v : Value) (xs : List Int) (s : Int) (F : ByteArray) (nv pv : Value) (w : World) {a0 a1 : Addr} (hG : GlobD w a0 a1) (hv : Ints w v xs) (hl : xs.length ≤ 1048576) (hnv : ∃ A n c, nv = .slice A n c) (hpv : ∃ A n c, pv = .slice A n c) (hid0 : okIdeal xs s = true) (hwf : (Lit.int .i64 s).wf = true) (hF : F.toList = [111, 114, 100, 101, 114, 115]) :
    Calls Tryz.prog 57 #[.agg #[v, .int .i64 s], .agg #[.string F, nv, pv]] w fun (r : Ending) w' => r = .returned (.tuple #[.string (sB (numT (ansN xs ordersN))), .nilIface]) ∧ Below w.heap.size w w' := by
  have HG := hid hG
  have HV := hid hv
  have HI0 := hid hid0
  have HWf := hid hwf
  obtain ⟨z, -, hgx, -, -⟩ := okIdeal_all hid0
  have HGx := hid hgx
  obtain ⟨A, c, rfl, -⟩ := hv
  obtain ⟨nA, nn, nc, rfl⟩ := hnv
  obtain ⟨pA, pn, pc', rfl⟩ := hpv
  have HC := hid (CA.new w (.slice A xs.length c) s F (.slice nA nn nc) (.slice pA pn pc'))
  clear hG hid0 hwf hgx
  obtain ⟨TT, hTT⟩ : ∃ T : List UInt8, (numT (ansN xs ordersN)) = T := ⟨_, rfl⟩
  have HTT := hid hTT
  rw [hTT]
  clear hTT
  go_enter Tryz.func57, Tryz.ntmps57
  go_wp2_with fail
  refine (implCountOrders_any _ xs _ (HV.out.below HC.out.bel) hl).mono ?_
  rw [HGx.out]
  rintro e W1 ⟨rfl, hb⟩
  have HC1 := hid (HC.out.below hb)
  clear hb HC
  go_wp2_with fail
  refine (numberText_any _ true _ (HG.out.later HC1.out.bel) (ansN_bound xs).1 (ansN_bound xs).2).mono ?_
  rw [HTT.out]
  rintro e W2 ⟨rfl, hb⟩
  have HC2 := hid (HC1.out.below hb)
  clear hb HC1
  go_wp2
  go_ret2
  exact ⟨rfl, HC2.out.bel⟩
set_option maxRecDepth 100000 in
theorem answer_lengths (v : Value) (xs : List Int) (s : Int) (F : ByteArray) (nv pv : Value) (w : World) {a0 a1 : Addr} (hG : GlobD w a0 a1) (hv : Ints w v xs) (hl : xs.length ≤ 1048576) (hnv : ∃ A n c, nv = .slice A n c) (hpv : ∃ A n c, pv = .slice A n c) (hid0 : okIdeal xs s = true) (hwf : (Lit.int .i64 s).wf = true) (hF : F.toList = [108, 101, 110, 103, 116, 104, 115]) :
    Calls Tryz.prog 57 #[.agg #[v, .int .i64 s], .agg #[.string F, nv, pv]] w fun (r : Ending) w' => r = .returned (.tuple #[.string (sB (lisT (ansOL xs))), .nilIface]) ∧ Below w.heap.size w w' := by
  have HG := hid hG
  have HV := hid hv
  have HI0 := hid hid0
  have HWf := hid hwf
  obtain ⟨z, -, hgx, -, -⟩ := okIdeal_all hid0
  have HGx := hid hgx
  obtain ⟨A, c, rfl, -⟩ := hv
  obtain ⟨nA, nn, nc, rfl⟩ := hnv
  obtain ⟨pA, pn, pc', rfl⟩ := hpv
  have HC := hid (CA.new w (.slice A xs.length c) s F (.slice nA nn nc) (.slice pA pn pc'))
  clear hG hid0 hwf hgx
  obtain ⟨TT, hTT⟩ : ∃ T : List UInt8, (lisT (ansOL xs)) = T := ⟨_, rfl⟩
  have HTT := hid hTT
  rw [hTT]
  clear hTT
  go_enter Tryz.func57, Tryz.ntmps57
  go_wp2_with fail
  refine (implOrbitLengths_any _ xs _ (HV.out.below HC.out.bel) hl).mono ?_
  rw [HGx.out]
  rintro e W1 ⟨u, rfl, ho, hlo, hb⟩
  have HC1 := hid (HC.out.below hb)
  have HU := hid ho.ints
  clear ho hlo
  clear hb HC
  go_wp2_with fail
  refine (listText_any _ (ansOL xs) true _ (HG.out.later HC1.out.bel) HU.out (ansOL_facts HGx.out).1 (ansOL_facts HGx.out).2.1 (ansOL_facts HGx.out).2.2).mono ?_
  rw [HTT.out]
  rintro e W2 ⟨rfl, hb⟩
  have HC2 := hid (HC1.out.below hb)
  clear hb HC1
  go_wp2
  go_ret2
  exact ⟨rfl, HC2.out.bel⟩
set_option maxRecDepth 100000 in
theorem answer_mean (v : Value) (xs : List Int) (s : Int) (F : ByteArray) (nv pv : Value) (w : World) {a0 a1 : Addr} (hG : GlobD w a0 a1) (hv : Ints w v xs) (hl : xs.length ≤ 1048576) (hnv : ∃ A n c, nv = .slice A n c) (hpv : ∃ A n c, pv = .slice A n c) (hid0 : okIdeal xs s = true) (hwf : (Lit.int .i64 s).wf = true) (hF : F.toList = [109, 101, 97, 110]) :
    Calls Tryz.prog 57 #[.agg #[v, .int .i64 s], .agg #[.string F, nv, pv]] w fun (r : Ending) w' => r = .returned (.tuple #[.string (sB ((numT (ansMU xs) ++ [47]) ++ numT (ansMD xs))), .nilIface]) ∧ Below w.heap.size w w' := by
  have HG := hid hG
  have HV := hid hv
  have HI0 := hid hid0
  have HWf := hid hwf
  obtain ⟨z, -, hgx, -, -⟩ := okIdeal_all hid0
  have HGx := hid hgx
  obtain ⟨A, c, rfl, -⟩ := hv
  obtain ⟨nA, nn, nc, rfl⟩ := hnv
  obtain ⟨pA, pn, pc', rfl⟩ := hpv
  have HC := hid (CA.new w (.slice A xs.length c) s F (.slice nA nn nc) (.slice pA pn pc'))
  clear hG hid0 hwf hgx
  obtain ⟨TT, hTT⟩ : ∃ T : List UInt8, ((numT (ansMU xs) ++ [47]) ++ numT (ansMD xs)) = T := ⟨_, rfl⟩
  have HTT := hid hTT
  rw [hTT]
  clear hTT
  go_enter Tryz.func57, Tryz.ntmps57
  go_wp2_with fail
  refine (implMeanOfIdeals_any _ xs _ (HV.out.below HC.out.bel) hl).mono ?_
  rw [HGx.out]
  rintro e W1 ⟨rfl, hb⟩
  have HC1 := hid (HC.out.below hb)
  clear hb HC
  go_wp2_with fail
  refine (fractionText_any _ _ true _ (HG.out.later HC1.out.bel) (ansMU_bound HGx.out).1 (ansMU_bound HGx.out).2 (ansMD_bound HGx.out).1 (ansMD_bound HGx.out).2).mono ?_
  rw [HTT.out]
  rintro e W2 ⟨rfl, hb⟩
  have HC2 := hid (HC1.out.below hb)
  clear hb HC1
  go_wp2
  go_ret2
  exact ⟨rfl, HC2.out.bel⟩
set_option maxRecDepth 100000 in
theorem answer_even (v : Value) (xs : List Int) (s : Int) (F : ByteArray) (nv pv : Value) (w : World) {a0 a1 : Addr} (hG : GlobD w a0 a1) (hv : Ints w v xs) (hl : xs.length ≤ 1048576) (hnv : ∃ A n c, nv = .slice A n c) (hpv : ∃ A n c, pv = .slice A n c) (hid0 : okIdeal xs s = true) (hwf : (Lit.int .i64 s).wf = true) (hF : F.toList = [101, 118, 101, 110]) :
    Calls Tryz.prog 57 #[.agg #[v, .int .i64 s], .agg #[.string F, nv, pv]] w fun (r : Ending) w' => r = .returned (.tuple #[.string (sB (if ansSizeIsEven xs then [121, 101, 115] else [117, 110, 108, 105, 107, 101])), .nilIface]) ∧ Below w.heap.size w w' := by
  have HG := hid hG
  have HV := hid hv
  have HI0 := hid hid0
  have HWf := hid hwf
  obtain ⟨z, -, hgx, -, -⟩ := okIdeal_all hid0
  have HGx := hid hgx
  obtain ⟨A, c, rfl, -⟩ := hv
  obtain ⟨nA, nn, nc, rfl⟩ := hnv
  obtain ⟨pA, pn, pc', rfl⟩ := hpv
  have HC := hid (CA.new w (.slice A xs.length c) s F (.slice nA nn nc) (.slice pA pn pc'))
  clear hG hid0 hwf hgx
  obtain ⟨TT, hTT⟩ : ∃ T : List UInt8, (if ansSizeIsEven xs then [121, 101, 115] else [117, 110, 108, 105, 107, 101]) = T := ⟨_, rfl⟩
  have HTT := hid hTT
  rw [hTT]
  clear hTT
  go_enter Tryz.func57, Tryz.ntmps57
  go_wp2_with fail
  refine (implSizeIsEven_any _ xs _ (HV.out.below HC.out.bel) hl).mono ?_
  rw [HGx.out]
  rintro e W1 ⟨rfl, hb⟩
  have HC1 := hid (HC.out.below hb)
  clear hb HC
  go_wp2_with fail
  refine (evenText_any _ true _).mono ?_
  rw [HTT.out]
  rintro e W2 ⟨rfl, hb⟩
  have HC2 := hid (HC1.out.below hb)
  clear hb HC1
  go_wp2
  go_ret2
  exact ⟨rfl, HC2.out.bel⟩
end Go.Proofs.YtbmhaamenjhjfaaGreatDoor
namespace Go.Proofs.YtbmhaamenjhjfaaGreatDoor
open Go.RowKit Go.WideShapes Go.ChangeShapes
set_option linter.unusedVariables false
theorem rdD_one {w0 : List UInt8} {ts : List (List UInt8)} {ns p : List Int} (h : rdD w0 ts = some (1, ns, p)) : ns = [] := by
  unfold rdD at h
  by_cases hc : ixD w0 ≠ 0 ∧ kdK ts ts.length = ksD (ixD w0)
  · rw [if_pos hc] at h
    simp only [Option.some.injEq, Prod.mk.injEq] at h
    obtain ⟨h1, rfl, rfl⟩ := h
    have hk := hc.2
    rw [h1] at hk
    have hl : ts.length = 1 := by
      have := congrArg List.length hk
      rw [kdK_length] at this
      exact this
    rw [hl] at hk ⊢
    have hk2 : kdW (ts.getD 0 []) = 1 := by
      rw [kdK_succ] at hk
      have := congrArg (fun l => l.getLast?) hk
      simpa [ksD] using this
    rw [vlK]
    by_cases h0 : 0 ≤ readL (ts.getD 0 [])
    · rw [kdW_num h0] at hk2; omega
    · rw [if_neg h0]; rfl
  · rw [if_neg hc] at h; cases h
theorem bound_get {ns : List Int} (hb : ∀ x ∈ ns, 0 ≤ x ∧ x ≤ 999999) (i : Nat) : 0 ≤ ns.getD i 0 ∧ ns.getD i 0 ≤ 999999 := by
  by_cases h : i < ns.length
  · exact hb _ (by rw [show ns.getD i 0 = ns[i] from by simp [List.getD, h]]; exact List.getElem_mem h)
  · have e : ns.getD i 0 = 0 := by simp [List.getD, h]
    rw [e]; omega
theorem fmD_at (c : Nat) {l : List UInt8} (h : fmD c = l) : (sB (fmD c)).toList = l := by rw [sB_toList]; exact h
theorem fmD_not {f : List UInt8} {c : Nat} (h : f ≠ fmD c) {l : List UInt8} (e : fmD c = l) : ((sB f).toList == l) = false := by
  rw [sB_toList]; exact beq_eq_false_iff_ne.2 (by rw [← e]; exact h)
theorem wf_ideal {xs : List Int} {s : Int} (h : okIdeal xs s = true) : (Lit.int .i64 s).wf = true := by
  obtain ⟨z, rfl, hg, hz, hi⟩ := okIdeal_all h
  have h1 := (good_length hg).2
  have h2 : 2 ^ xs.length ≤ 2 ^ 10 := Nat.pow_le_pow_right (by decide) h1
  have h3 : (2 : Nat) ^ 10 = 1024 := by decide
  exact wf_i64D _ (by omega) (by omega)
def ResD (a1 : Addr) (c : Nat) (ns p xs : List Int) (s : Int) (n : Nat) (v pv : Value) (r : Ending) (w' : World) : Prop :=
  (actD c ns p xs s = none ∧ r = .returned (.tuple #[.agg #[.slice none 0 0, .int .i64 0], .string { data := #[] }, .iface 269 (.pointer (some a1))])) ∨
  ∃ xs' s' t u, actD c ns p xs s = some (xs', s', t) ∧ r = .returned (.tuple #[.agg #[u, .int .i64 s'], .string (sB t), .nilIface]) ∧ ((c = 1 ∧ u = pv ∧ xs' = p) ∨ OwnI 3 w' n u xs')
def ResI (a1 : Addr) (c : Nat) (ns p xs : List Int) (s : Int) (v : Value) (r : Ending) : Prop :=
  (actD c ns p xs s = none ∧ r = .returned (.tuple #[.agg #[.slice none 0 0, .int .i64 0], .string { data := #[] }, .iface 269 (.pointer (some a1))])) ∨
  ∃ s' t, actD c ns p xs s = some (xs, s', t) ∧ r = .returned (.tuple #[.agg #[v, .int .i64 s'], .string (sB t), .nilIface])
theorem changePoset_at (v : Value) (xs : List Int) (s : Int) (nv : Value) (ns : List Int) (pv : Value) (p : List Int) (w : World) {a0 a1 : Addr} (hG : GlobD w a0 a1) (hv : Ints w v xs) (hl : xs.length ≤ 1048576) (hn : Ints w nv ns) (hsh : ∃ A n c, pv = .slice A n c) (c : Nat) (hp : c = 1 → Ints w pv p) (hid0 : okIdeal xs s = true) (hb : ∀ x ∈ ns, 0 ≤ x ∧ x ≤ 999999) (hns : c ≠ 1 → ns.length = (ksD c).length) (hgd : c = 1 → good p = true) (h1 : 1 ≤ c) (h2 : c ≤ 5) :
    Calls Tryz.prog 54 #[.agg #[v, .int .i64 s], .agg #[.string (sB (fmD c)), nv, pv]] w fun (r : Ending) w' => ResD a1 c ns p xs s w.heap.size v pv r w' ∧ Below w.heap.size w w' := by
  have hwf := wf_ideal hid0
  have hr := bound_get hb
  rcases (show c = 1 ∨ c = 2 ∨ c = 3 ∨ c = 4 ∨ c = 5 from by omega) with rfl | rfl | rfl | rfl | rfl
  · exact (changePoset_poset v xs s _ nv ns pv p w hG hv hl hn (hp rfl) (fmD_at _ (by decide)) (hgd rfl)).mono (by rintro r w' ⟨rfl, hb'⟩; exact ⟨.inr ⟨_, _, _, pv, rfl, rfl, .inl ⟨rfl, rfl, rfl⟩⟩, hb'⟩)
  · cases hok : sides (ns.getD 0 0) (ns.getD 1 0)
    · exact (changePoset_rectangle_no v xs s _ nv ns pv w hG hv hl hn hsh (fmD_at _ (by decide)) (hns (by decide)) (hr 0) (hr 1) hok).mono (by rintro r w' ⟨rfl, hb'⟩; exact ⟨.inl ⟨by simp only [actD, stdD, hok]; rfl, rfl⟩, hb'⟩)
    · exact (changePoset_rectangle_yes v xs s _ nv ns pv w hG hv hl hn hsh (fmD_at _ (by decide)) (hns (by decide)) (hr 0) (hr 1) hok).mono (by rintro r w' ⟨⟨u, rfl, hu⟩, hb'⟩; exact ⟨.inr ⟨_, _, _, u, by simp only [actD, stdD, hok]; rfl, rfl, .inr hu⟩, hb'⟩)
  · cases hok : (decide (1 ≤ ns.getD 0 0) && decide (ns.getD 0 0 ≤ 4))
    · exact (changePoset_stairs_no v xs s _ nv ns pv w hG hv hl hn hsh (fmD_at _ (by decide)) (hns (by decide)) (hr 0) hok).mono (by rintro r w' ⟨rfl, hb'⟩; exact ⟨.inl ⟨by simp only [actD, stdD, hok]; rfl, rfl⟩, hb'⟩)
    · exact (changePoset_stairs_yes v xs s _ nv ns pv w hG hv hl hn hsh (fmD_at _ (by decide)) (hns (by decide)) (hr 0) hok).mono (by rintro r w' ⟨⟨u, rfl, hu⟩, hb'⟩; exact ⟨.inr ⟨_, _, _, u, by simp only [actD, stdD, hok]; rfl, rfl, .inr hu⟩, hb'⟩)
  · cases hok : (decide (1 ≤ ns.getD 0 0) && decide (ns.getD 0 0 ≤ 10))
    · exact (changePoset_fence_no v xs s _ nv ns pv w hG hv hl hn hsh (fmD_at _ (by decide)) (hns (by decide)) (hr 0) hok).mono (by rintro r w' ⟨rfl, hb'⟩; exact ⟨.inl ⟨by simp only [actD, stdD, hok]; rfl, rfl⟩, hb'⟩)
    · exact (changePoset_fence_yes v xs s _ nv ns pv w hG hv hl hn hsh (fmD_at _ (by decide)) (hns (by decide)) (hr 0) hok).mono (by rintro r w' ⟨⟨u, rfl, hu⟩, hb'⟩; exact ⟨.inr ⟨_, _, _, u, by simp only [actD, stdD, hok]; rfl, rfl, .inr hu⟩, hb'⟩)
  · exact (changePoset_dual v xs s _ nv ns pv w hG hv hl hn hsh (fmD_at _ (by decide)) hid0 hwf).mono (by rintro r w' ⟨⟨u, rfl, hu⟩, hb'⟩; exact ⟨.inr ⟨_, _, _, u, rfl, rfl, .inr hu⟩, hb'⟩)
theorem changeIdeal_at (v : Value) (xs : List Int) (s : Int) (nv : Value) (ns : List Int) (pv : Value) (p : List Int) (w : World) {a0 a1 : Addr} (hG : GlobD w a0 a1) (hv : Ints w v xs) (hl : xs.length ≤ 1048576) (hn : Ints w nv ns) (hsh : ∃ A n c, pv = .slice A n c) (c : Nat) (hp : c = 1 → Ints w pv p) (hid0 : okIdeal xs s = true) (hb : ∀ x ∈ ns, 0 ≤ x ∧ x ≤ 999999) (hns : c ≠ 1 → ns.length = (ksD c).length) (hgd : c = 1 → good p = true) (h1 : 6 ≤ c) (h2 : c ≤ 12) :
    Calls Tryz.prog 56 #[.agg #[v, .int .i64 s], .agg #[.string (sB (fmD c)), nv, pv]] w fun (r : Ending) w' => ResI a1 c ns p xs s v r ∧ Below w.heap.size w w' := by
  have hwf := wf_ideal hid0
  have hr := bound_get hb
  rcases (show c = 6 ∨ c = 7 ∨ c = 8 ∨ c = 9 ∨ c = 10 ∨ c = 11 ∨ c = 12 from by omega) with rfl | rfl | rfl | rfl | rfl | rfl | rfl
  · cases hok : okIdeal xs (ns.getD 0 0)
    · exact (changeIdeal_take_no v xs s _ nv ns pv w hG hv hl hn hsh hid0 hwf (fmD_at _ (by decide)) (hns (by decide)) (hr 0) hok).mono (by rintro r w' ⟨rfl, hb'⟩; exact ⟨.inl ⟨by simp only [actD, putD, hok]; rfl, rfl⟩, hb'⟩)
    · have ha : actD 6 ns p xs s = some (xs, ns.getD 0 0, numT (ns.getD 0 0)) := by simp only [actD, putD, hok]; rfl
      exact (changeIdeal_take_yes v xs s _ nv ns pv w hG hv hl hn hsh hid0 hwf (fmD_at _ (by decide)) (hns (by decide)) (hr 0) hok (actD_inv hid0 hgd ha).1).mono (by rintro r w' ⟨rfl, hb'⟩; exact ⟨.inr ⟨_, _, ha, rfl⟩, hb'⟩)
  · cases hok : okTW xs [ns.getD 0 0] s
    · exact (changeIdeal_toggle_no v xs s _ nv ns pv w hG hv hl hn hsh hid0 hwf (fmD_at _ (by decide)) (hns (by decide)) (hr 0) hok).mono (by rintro r w' ⟨rfl, hb'⟩; exact ⟨.inl ⟨by simp only [actD, putD, hok]; rfl, rfl⟩, hb'⟩)
    · have ha : actD 7 ns p xs s = some (xs, ansTW xs [ns.getD 0 0] s, numT (ansTW xs [ns.getD 0 0] s)) := by simp only [actD, putD, hok]; rfl
      exact (changeIdeal_toggle_yes v xs s _ nv ns pv w hG hv hl hn hsh hid0 hwf (fmD_at _ (by decide)) (hns (by decide)) (hr 0) hok (actD_inv hid0 hgd ha).1).mono (by rintro r w' ⟨rfl, hb'⟩; exact ⟨.inr ⟨_, _, ha, rfl⟩, hb'⟩)
  · have ha : actD 8 ns p xs s = some (xs, ansRow xs s rowmo, numT (ansRow xs s rowmo)) := rfl
    exact (changeIdeal_row v xs s _ nv ns pv w hG hv hl hn hsh hid0 hwf (fmD_at _ (by decide)) (actD_inv hid0 hgd ha).1).mono (by rintro r w' ⟨rfl, hb'⟩; exact ⟨.inr ⟨_, _, ha, rfl⟩, hb'⟩)
  · have ha : actD 9 ns p xs s = some (xs, ansRow xs s rowba, numT (ansRow xs s rowba)) := rfl
    exact (changeIdeal_back v xs s _ nv ns pv w hG hv hl hn hsh hid0 hwf (fmD_at _ (by decide)) (actD_inv hid0 hgd ha).1).mono (by rintro r w' ⟨rfl, hb'⟩; exact ⟨.inr ⟨_, _, ha, rfl⟩, hb'⟩)
  · cases hok : okRT xs s (ns.getD 0 0)
    · exact (changeIdeal_times_no v xs s _ nv ns pv w hG hv hl hn hsh hid0 hwf (fmD_at _ (by decide)) (hns (by decide)) (hr 0) hok).mono (by rintro r w' ⟨rfl, hb'⟩; exact ⟨.inl ⟨by simp only [actD, putD, hok]; rfl, rfl⟩, hb'⟩)
    · have ha : actD 10 ns p xs s = some (xs, ansRT xs s (ns.getD 0 0), numT (ansRT xs s (ns.getD 0 0))) := by simp only [actD, putD, hok]; rfl
      exact (changeIdeal_times_yes v xs s _ nv ns pv w hG hv hl hn hsh hid0 hwf (fmD_at _ (by decide)) (hns (by decide)) (hr 0) hok (actD_inv hid0 hgd ha).1).mono (by rintro r w' ⟨rfl, hb'⟩; exact ⟨.inr ⟨_, _, ha, rfl⟩, hb'⟩)
  · cases hok : okRI xs s
    · exact (changeIdeal_vacuate_no v xs s _ nv ns pv w hG hv hl hn hsh hid0 hwf (fmD_at _ (by decide)) hok).mono (by rintro r w' ⟨rfl, hb'⟩; exact ⟨.inl ⟨by simp only [actD, putD, hok]; rfl, rfl⟩, hb'⟩)
    · have ha : actD 11 ns p xs s = some (xs, ansSW wVac xs s, numT (ansSW wVac xs s)) := by simp only [actD, putD, hok]; rfl
      exact (changeIdeal_vacuate_yes v xs s _ nv ns pv w hG hv hl hn hsh hid0 hwf (fmD_at _ (by decide)) hok (actD_inv hid0 hgd ha).1).mono (by rintro r w' ⟨rfl, hb'⟩; exact ⟨.inr ⟨_, _, ha, rfl⟩, hb'⟩)
  · cases hok : okRI xs s
    · exact (changeIdeal_gyrate_no v xs s _ nv ns pv w hG hv hl hn hsh hid0 hwf (fmD_at _ (by decide)) hok).mono (by rintro r w' ⟨rfl, hb'⟩; exact ⟨.inl ⟨by simp only [actD, putD, hok]; rfl, rfl⟩, hb'⟩)
    · have ha : actD 12 ns p xs s = some (xs, ansSW wGyr xs s, numT (ansSW wGyr xs s)) := by simp only [actD, putD, hok]; rfl
      exact (changeIdeal_gyrate_yes v xs s _ nv ns pv w hG hv hl hn hsh hid0 hwf (fmD_at _ (by decide)) hok (actD_inv hid0 hgd ha).1).mono (by rintro r w' ⟨rfl, hb'⟩; exact ⟨.inr ⟨_, _, ha, rfl⟩, hb'⟩)
theorem answer_at (v : Value) (xs : List Int) (s : Int) (nv : Value) (ns : List Int) (pv : Value) (p : List Int) (w : World) {a0 a1 : Addr} (hG : GlobD w a0 a1) (hv : Ints w v xs) (hl : xs.length ≤ 1048576) (hn : Ints w nv ns) (hsh : ∃ A n c, pv = .slice A n c) (c : Nat) (hp : c = 1 → Ints w pv p) (hid0 : okIdeal xs s = true) (hb : ∀ x ∈ ns, 0 ≤ x ∧ x ≤ 999999) (hns : c ≠ 1 → ns.length = (ksD c).length) (hgd : c = 1 → good p = true) (h1 : 13 ≤ c) (h2 : c ≤ 21) :
    Calls Tryz.prog 57 #[.agg #[v, .int .i64 s], .agg #[.string (sB (fmD c)), nv, pv]] w fun (r : Ending) w' => (∃ t, actD c ns p xs s = some (xs, s, t) ∧ r = .returned (.tuple #[.string (sB t), .nilIface])) ∧ Below w.heap.size w w' := by
  have hwf := wf_ideal hid0
  obtain ⟨nA, nc, hnv, -⟩ := hn
  have hnv' : ∃ A n c, nv = .slice A n c := ⟨_, _, _, hnv⟩
  rcases (show c = 13 ∨ c = 14 ∨ c = 15 ∨ c = 16 ∨ c = 17 ∨ c = 18 ∨ c = 19 ∨ c = 20 ∨ c = 21 from by omega) with rfl | rfl | rfl | rfl | rfl | rfl | rfl | rfl | rfl
  · exact (answer_show v xs s _ nv pv w hG hv hl hnv' hsh hid0 hwf (fmD_at _ (by decide))).mono (by rintro r w' ⟨rfl, hb'⟩; exact ⟨⟨_, rfl, rfl⟩, hb'⟩)
  · exact (answer_ideal v xs s _ nv pv w hG hv hl hnv' hsh hid0 hwf (fmD_at _ (by decide))).mono (by rintro r w' ⟨rfl, hb'⟩; exact ⟨⟨_, rfl, rfl⟩, hb'⟩)
  · exact (answer_size v xs s _ nv pv w hG hv hl hnv' hsh hid0 hwf (fmD_at _ (by decide))).mono (by rintro r w' ⟨rfl, hb'⟩; exact ⟨⟨_, rfl, rfl⟩, hb'⟩)
  · exact (answer_orbit v xs s _ nv pv w hG hv hl hnv' hsh hid0 hwf (fmD_at _ (by decide))).mono (by rintro r w' ⟨rfl, hb'⟩; exact ⟨⟨_, rfl, rfl⟩, hb'⟩)
  · exact (answer_ideals v xs s _ nv pv w hG hv hl hnv' hsh hid0 hwf (fmD_at _ (by decide))).mono (by rintro r w' ⟨rfl, hb'⟩; exact ⟨⟨_, rfl, rfl⟩, hb'⟩)
  · exact (answer_orders v xs s _ nv pv w hG hv hl hnv' hsh hid0 hwf (fmD_at _ (by decide))).mono (by rintro r w' ⟨rfl, hb'⟩; exact ⟨⟨_, rfl, rfl⟩, hb'⟩)
  · exact (answer_lengths v xs s _ nv pv w hG hv hl hnv' hsh hid0 hwf (fmD_at _ (by decide))).mono (by rintro r w' ⟨rfl, hb'⟩; exact ⟨⟨_, rfl, rfl⟩, hb'⟩)
  · exact (answer_mean v xs s _ nv pv w hG hv hl hnv' hsh hid0 hwf (fmD_at _ (by decide))).mono (by rintro r w' ⟨rfl, hb'⟩; exact ⟨⟨_, rfl, rfl⟩, hb'⟩)
  · exact (answer_even v xs s _ nv pv w hG hv hl hnv' hsh hid0 hwf (fmD_at _ (by decide))).mono (by rintro r w' ⟨rfl, hb'⟩; exact ⟨⟨_, rfl, rfl⟩, hb'⟩)
theorem changePoset_not (v : Value) (xs : List Int) (s : Int) (nv : Value) (ns : List Int) (pv : Value) (p : List Int) (w : World) {a0 a1 : Addr} (hG : GlobD w a0 a1) (hv : Ints w v xs) (hl : xs.length ≤ 1048576) (hn : Ints w nv ns) (hsh : ∃ A n c, pv = .slice A n c) (f : List UInt8) (hid0 : okIdeal xs s = true) (hne : ∀ c, 1 ≤ c → c ≤ 5 → f ≠ fmD c) :
    Calls Tryz.prog 54 #[.agg #[v, .int .i64 s], .agg #[.string (sB f), nv, pv]] w fun (r : Ending) w' => r = .returned (.tuple #[.agg #[.slice none 0 0, .int .i64 0], .string { data := #[] }, .iface 269 (.pointer (some a0))]) ∧ Below w.heap.size w w' := by
  exact changePoset_else v xs s _ nv ns pv w hG hv hl hn hsh (fmD_not (hne 1 (by decide) (by decide)) (by decide)) (fmD_not (hne 2 (by decide) (by decide)) (by decide)) (fmD_not (hne 3 (by decide) (by decide)) (by decide)) (fmD_not (hne 4 (by decide) (by decide)) (by decide)) (fmD_not (hne 5 (by decide) (by decide)) (by decide))
theorem changeIdeal_not (v : Value) (xs : List Int) (s : Int) (nv : Value) (ns : List Int) (pv : Value) (p : List Int) (w : World) {a0 a1 : Addr} (hG : GlobD w a0 a1) (hv : Ints w v xs) (hl : xs.length ≤ 1048576) (hn : Ints w nv ns) (hsh : ∃ A n c, pv = .slice A n c) (f : List UInt8) (hid0 : okIdeal xs s = true) (hne : ∀ c, 6 ≤ c → c ≤ 12 → f ≠ fmD c) :
    Calls Tryz.prog 56 #[.agg #[v, .int .i64 s], .agg #[.string (sB f), nv, pv]] w fun (r : Ending) w' => r = .returned (.tuple #[.agg #[.slice none 0 0, .int .i64 0], .string { data := #[] }, .iface 269 (.pointer (some a0))]) ∧ Below w.heap.size w w' := by
  exact changeIdeal_else v xs s _ nv ns pv w hG hv hl hn hsh hid0 (wf_ideal hid0) (fmD_not (hne 6 (by decide) (by decide)) (by decide)) (fmD_not (hne 7 (by decide) (by decide)) (by decide)) (fmD_not (hne 8 (by decide) (by decide)) (by decide)) (fmD_not (hne 9 (by decide) (by decide)) (by decide)) (fmD_not (hne 10 (by decide) (by decide)) (by decide)) (fmD_not (hne 11 (by decide) (by decide)) (by decide)) (fmD_not (hne 12 (by decide) (by decide)) (by decide))
theorem answer_not (v : Value) (xs : List Int) (s : Int) (nv : Value) (ns : List Int) (pv : Value) (p : List Int) (w : World) {a0 a1 : Addr} (hG : GlobD w a0 a1) (hv : Ints w v xs) (hl : xs.length ≤ 1048576) (hn : Ints w nv ns) (hsh : ∃ A n c, pv = .slice A n c) (f : List UInt8) (hid0 : okIdeal xs s = true) (hne : ∀ c, 13 ≤ c → c ≤ 21 → f ≠ fmD c) :
    Calls Tryz.prog 57 #[.agg #[v, .int .i64 s], .agg #[.string (sB f), nv, pv]] w fun (r : Ending) w' => r = .returned (.tuple #[.string { data := #[] }, .iface 269 (.pointer (some a0))]) ∧ Below w.heap.size w w' := by
  obtain ⟨nA, nc, hnv, -⟩ := hn
  exact answer_else v xs s _ nv pv w hG hv hl ⟨_, _, _, hnv⟩ hsh hid0 (wf_ideal hid0) (fmD_not (hne 13 (by decide) (by decide)) (by decide)) (fmD_not (hne 14 (by decide) (by decide)) (by decide)) (fmD_not (hne 15 (by decide) (by decide)) (by decide)) (fmD_not (hne 16 (by decide) (by decide)) (by decide)) (fmD_not (hne 17 (by decide) (by decide)) (by decide)) (fmD_not (hne 18 (by decide) (by decide)) (by decide)) (fmD_not (hne 19 (by decide) (by decide)) (by decide)) (fmD_not (hne 20 (by decide) (by decide)) (by decide)) (fmD_not (hne 21 (by decide) (by decide)) (by decide))
end Go.Proofs.YtbmhaamenjhjfaaGreatDoor
