/- DskX -/
import Derived.Test.YtbmhaamenjhjfaaGreatDoorPkD28
namespace Go.Proofs.YtbmhaamenjhjfaaGreatDoor
open Go.RowKit Go.WideShapes Go.ChangeShapes
set_option linter.unusedVariables false
structure EX (w W : World) (dv : Value) (s : Int) : Prop where
  k0 : Blk W w.heap.size 30 #[dv, .int .i64 s]
  k1 : Blk W (w.heap.size + 1) 30 #[.slice none 0 0, .int .i64 0]
  k2 : Blk W (w.heap.size + 2) 60 #[.string { data := #[] }, .nilIface]
  bel : Below w.heap.size w W
theorem EX.all {w W : World} {dv : Value} {s : Int} (h : EX w W dv s) :
    W.cell? ⟨w.heap.size, 0, none⟩ = some dv ∧ W.cell? ⟨w.heap.size, 1, none⟩ = some (.int .i64 s) ∧ W.cell? ⟨w.heap.size + 1, 0, none⟩ = some (.slice none 0 0) ∧ W.frozen? ⟨w.heap.size + 1, 0, none⟩ = false ∧ W.cell? ⟨w.heap.size + 1, 1, none⟩ = some (.int .i64 0) ∧ W.frozen? ⟨w.heap.size + 1, 1, none⟩ = false ∧
    W.cell? ⟨w.heap.size + 2, 0, none⟩ = some (.string { data := #[] }) ∧ W.frozen? ⟨w.heap.size + 2, 0, none⟩ = false ∧ W.cell? ⟨w.heap.size + 2, 1, none⟩ = some .nilIface ∧ W.frozen? ⟨w.heap.size + 2, 1, none⟩ = false :=
  ⟨h.k0.cell 0, h.k0.cell 1, h.k1.cell 0, h.k1.frozen 0, h.k1.cell 1, h.k1.frozen 1, h.k2.cell 0, h.k2.frozen 0, h.k2.cell 1, h.k2.frozen 1⟩
theorem EX.size {w W : World} {dv : Value} {s : Int} (h : EX w W dv s) : w.heap.size + 3 ≤ W.heap.size := h.k2.lt
theorem EX.below {w W W' : World} {dv : Value} {s : Int} (h : EX w W dv s) (hb : Below W.heap.size W W') : EX w W' dv s :=
  ⟨h.k0.below hb h.k0.lt, h.k1.below hb h.k1.lt, h.k2.below hb h.k2.lt, below_to h.bel hb⟩
theorem EX.new (w : World) (dv : Value) (s : Int) : EX w (((w.alloc (.cells #[dv, .int .i64 s] 30)).alloc (.cells #[.slice none 0 0, .int .i64 0] 30)).alloc (.cells #[.string { data := #[] }, .nilIface] 60)) dv s where
  k0 := ((Blk.new w _ _).alloc _).alloc _
  k1 := (Blk.newAt _ _ _ _ (by simp)).alloc _
  k2 := Blk.newAt _ _ _ _ (by simp)
  bel := below_alloc (below_alloc (below_alloc (Below.refl _ _) _) _) _
theorem below_put4 {a W : World} (h : Below a.heap.size a W) (b d : Nat) (hb : a.heap.size ≤ b) (hd : a.heap.size ≤ d) (y0 y1 y2 y3 : Value) : Below a.heap.size a ((((W.setCell ⟨b, 0, none⟩ y0).setCell ⟨b, 1, none⟩ y1).setCell ⟨d, 0, none⟩ y2).setCell ⟨d, 1, none⟩ y3) :=
  below_put2 (a := a) (W := (W.setCell ⟨b, 0, none⟩ y0).setCell ⟨b, 1, none⟩ y1) (below_put2 h b hb y0 y1) d hd y2 y3
theorem Ints.away {W : World} {u : Value} {xs : List Int} (h : Ints W u xs) {g : Nat} (hg : ∀ k, u.ownBlock = some k → k ≠ g) (i : Nat) (y : Value) : Ints (W.setCell ⟨g, i, none⟩ y) u xs := by
  obtain ⟨A, c, rfl, h⟩ := h
  refine ⟨A, c, rfl, fun hx => ?_⟩
  obtain ⟨b, o, rfl, hlt, hc⟩ := h hx
  have hne : b ≠ g := hg b rfl
  exact ⟨b, o, rfl, by simpa [World.setCell] using hlt, fun j hj => (World.cell?_of_block (a := ⟨b, o + j, none⟩) (Below.heap_setCell W ⟨g, i, none⟩ y b hne)).trans (hc j hj)⟩
theorem own_setX {ti : TypeId} {W : World} {g B : Nat} {u : Value} {xs : List Int} (h : OwnI ti W B u xs) (hg : g < B) (i : Nat) (y : Value) : OwnI ti (W.setCell ⟨g, i, none⟩ y) B u xs := by
  have ht := (TurnedIn.refl g (g + 1) W).set_ ⟨g, i, none⟩ ⟨Nat.le_refl _, Nat.lt_succ_self _⟩ y
  exact h.turned ht (OwnI.blockLt h) (Or.inr hg)
theorem own_put4 {w W : World} {ti : TypeId} {u : Value} {xs : List Int} (h : OwnI ti W (w.heap.size + 3) u xs) (y0 y1 y2 y3 : Value) : OwnI ti ((((W.setCell ⟨w.heap.size + 1, 0, none⟩ y0).setCell ⟨w.heap.size + 1, 1, none⟩ y1).setCell ⟨w.heap.size + 1 + 1, 0, none⟩ y2).setCell ⟨w.heap.size + 1 + 1, 1, none⟩ y3) w.heap.size u xs :=
  (own_setX (own_setX (own_setX (own_setX h (by omega) 0 y0) (by omega) 1 y1) (by omega) 0 y2) (by omega) 1 y3).mono (by omega)
theorem Ints.blockLt {W : World} {u : Value} {xs : List Int} (h : Ints W u xs) (h0 : xs ≠ []) : ∀ k, u.ownBlock = some k → k < W.heap.size := by
  obtain ⟨A, c, rfl, h⟩ := h
  obtain ⟨b, o, rfl, hlt, -⟩ := h h0
  intro k hk
  simp only [Value.ownBlock, Option.some.injEq] at hk
  omega
structure EY (w w1 W : World) (dv : Value) (s : Int) (F : ByteArray) (nv pv : Value) (q : Nat) (x0 x1 : Value) : Prop where
  ex : EX w W dv s
  k3 : Blk W w1.heap.size 85 #[.string F, nv, pv]
  k4 : Blk W q 30 #[x0, x1]
  h1 : w.heap.size + 3 ≤ w1.heap.size
  hq : w1.heap.size < q
  bel : Below w1.heap.size w1 W
theorem EY.below {w w1 W W' : World} {dv : Value} {s : Int} {F : ByteArray} {nv pv : Value} {q : Nat} {x0 x1 : Value} (h : EY w w1 W dv s F nv pv q x0 x1) (hb : Below W.heap.size W W') : EY w w1 W' dv s F nv pv q x0 x1 :=
  ⟨h.ex.below hb, h.k3.below hb h.k3.lt, h.k4.below hb h.k4.lt, h.h1, h.hq, below_to h.bel hb⟩
theorem Blk.put2 {W : World} {b q : Nat} {t : TypeId} {cs : Array Value} (h : Blk W b t cs) (hne : b ≠ q) (y0 y1 : Value) : Blk ((W.setCell ⟨q, 0, none⟩ y0).setCell ⟨q, 1, none⟩ y1) b t cs :=
  (Below.heap_setCell _ ⟨q, 1, none⟩ y1 b hne).trans ((Below.heap_setCell W ⟨q, 0, none⟩ y0 b hne).trans h)
theorem EY.put {w w1 W : World} {dv : Value} {s : Int} {F : ByteArray} {nv pv : Value} {q : Nat} {x0 x1 : Value} (h : EY w w1 W dv s F nv pv q x0 x1) (y0 y1 : Value) : EY w w1 ((W.setCell ⟨q, 0, none⟩ y0).setCell ⟨q, 1, none⟩ y1) dv s F nv pv q y0 y1 := by
  have h1 := h.h1
  have h2 := h.hq
  exact ⟨⟨h.ex.k0.put2 (by omega) _ _, h.ex.k1.put2 (by omega) _ _, h.ex.k2.put2 (by omega) _ _, below_put2 h.ex.bel q (by omega) y0 y1⟩, h.k3.put2 (by omega) _ _, (h.k4.set_ 0 y0).set_ 1 y1, h1, h2, below_put2 h.bel q (by omega) y0 y1⟩
theorem EY.new {w w1 W : World} {dv : Value} {s : Int} {F : ByteArray} {nv pv : Value} (hx : EX w W dv s) (hr : Blk W w1.heap.size 85 #[.string F, nv, pv]) (h1 : w.heap.size + 3 ≤ w1.heap.size) (hb : Below w1.heap.size w1 W) (x0 x1 : Value) : EY w w1 (W.alloc (.cells #[x0, x1] 30)) dv s F nv pv W.heap.size x0 x1 :=
  ⟨hx.below (below_alloc (Below.refl _ W) _), hr.alloc _, Blk.new W _ _, h1, hr.lt, below_alloc hb _⟩
def OutD (a0 a1 : Addr) (t : List UInt8) : Nat → Value × Value
  | 0 => (.string (sB t), .nilIface)
  | 1 => (.string { data := #[] }, .iface 269 (.pointer (some a1)))
  | _ => (.string { data := #[] }, .iface 269 (.pointer (some a0)))
theorem stepD_not {xs : List Int} {s : Int} {l : List UInt8} (h : lnD l = none) : stepD xs s l = (xs, s, [119, 104, 97, 116], 2) := by unfold stepD; rw [h]
theorem stepD_no {xs : List Int} {s : Int} {l : List UInt8} {c : Nat} {ns p : List Int} (h : lnD l = some (c, ns, p)) (ha : actD c ns p xs s = none) : stepD xs s l = (xs, s, [110, 111], 1) := by unfold stepD; rw [h]; simp only []; rw [ha]
theorem stepD_yes {xs : List Int} {s : Int} {l : List UInt8} {c : Nat} {ns p xs' : List Int} {s' : Int} {t : List UInt8} (h : lnD l = some (c, ns, p)) (ha : actD c ns p xs s = some (xs', s', t)) : stepD xs s l = (xs', s', t, 0) := by unfold stepD; rw [h]; simp only []; rw [ha]
theorem fm_fin : ∀ a : Fin 22, ∀ b : Fin 22, fmD a.val = fmD b.val → a = b := by decide +kernel
theorem fm_ne {a b : Nat} (ha : a < 22) (hb : b < 22) (h : a ≠ b) : fmD a ≠ fmD b := fun e => h (by have := fm_fin ⟨a, ha⟩ ⟨b, hb⟩ e; simpa using this)
theorem errIs_two {w : World} {a0 a1 : Addr} (hG : GlobD w a0 a1) :
    Calls Tryz.prog 55 #[.iface 269 (.pointer (some a1)), .iface 269 (.pointer (some a0))] w fun e w' => e = .returned (.bool false) ∧ w' = w := by
  obtain ⟨c0, t0, h0⟩ := hG.blk0
  obtain ⟨c1, t1, h1⟩ := hG.blk1
  exact errIs_other a1 a0 c1 c0 t1 t0 w hG.ne.symm h1 h0
set_option maxRecDepth 100000 in
set_option maxHeartbeats 1600000 in
theorem execute_none (v : Value) (xs : List Int) (s : Int) (l : List UInt8) (w : World) {a0 a1 : Addr} (hG : GlobD w a0 a1) (hv : Ints w v xs) (hid0 : okIdeal xs s = true) (hlen : l.length ≤ 3000) (hq : rqK (w0D l) (tsD l) (tsD l).length = none) :
    Calls Tryz.prog 34 #[.agg #[v, .int .i64 s], .string (sB l)] w fun (r : Ending) w' => (∃ u, r = .returned (.tuple #[.agg #[u, .int .i64 (stepD xs s l).2.1], .agg #[(OutD a0 a1 (stepD xs s l).2.2.1 (stepD xs s l).2.2.2).1, (OutD a0 a1 (stepD xs s l).2.2.1 (stepD xs s l).2.2.2).2]]) ∧ ((u = v ∧ (stepD xs s l).1 = xs) ∨ OwnI 3 w' w.heap.size u (stepD xs s l).1)) ∧ Below w.heap.size w w' := by
  have HST : Hid (stepD xs s l = (xs, s, [119, 104, 97, 116], 2)) := hid (stepD_not (rdD_prog_none hq))
  have HQn := hid hq
  clear hq
  obtain ⟨z, -, hgx, -, -⟩ := okIdeal_all hid0
  have hl : xs.length ≤ 1048576 := by have := (good_length hgx).2; omega
  have hne : xs ≠ [] := by intro h; have := (good_length hgx).1; rw [h] at this; simp at this
  clear hgx z
  have HG := hid hG
  have HV := hid hv
  have HI := hid hid0
  have HBv := hid (hv.blockLt hne)
  obtain ⟨A, c, rfl, -⟩ := hv
  clear hG hid0 hne
  have HC := hid (EX.new w (.slice A xs.length c) s)
  go_enter Tryz.func34, Tryz.ntmps34
  go_wp2_with fail
  generalize (((w.alloc (.cells #[.slice A xs.length c, .int .i64 s] 30)).alloc (.cells #[.slice none 0 0, .int .i64 0] 30)).alloc (.cells #[.string { data := #[] }, .nilIface] 60)) = W at HC ⊢
  refine (requestIn_any l _ (HG.out.later HC.out.bel) hlen).mono ?_
  have hz := HC.out.size
  rintro e W1 ⟨hr, hb1⟩
  have HC1 := hid (HC.out.below hb1)
  have hz1 := HC1.out.size
  clear hb1 HC hlen
  rcases hr with ⟨-, rfl⟩ | ⟨f, ns, p, nv, pv, hq, -⟩
  · have HC2 := hid (HC1.out.below (below_alloc (Below.refl _ W1) (.cells #[.string { data := #[] }, .slice none 0 0, .slice none 0 0] 85)))
    go_upto_region 3 with (fail)
    generalize W1.alloc (.cells #[.string { data := #[] }, .slice none 0 0, .slice none 0 0] 85) = V at HC2 ⊢
    obtain ⟨c00, c01, c10, f10, c11, f11, c20, f20, c21, f21⟩ := HC2.out.all
    have hz2 := HC2.out.size
    go_wp2
    refine bodyPost_ret (v := .tuple #[.agg #[(.slice A xs.length c), .int .i64 s], .agg #[.string { data := #[] }, .iface 269 (.pointer (some a0))]]) (by simp [results, Tryz.results34, go_sem, c10, c11, c20, c21]) rfl ⟨⟨(.slice A xs.length c), by rw [HST.out]; rfl, .inl ⟨rfl, by rw [HST.out]⟩⟩, ?_⟩
    · exact below_put4 HC2.out.bel _ _ (by omega) (by omega) _ _ _ _
  · rw [HQn.out] at hq; cases hq
set_option maxRecDepth 100000 in
set_option maxHeartbeats 1600000 in
theorem execute_not (v : Value) (xs : List Int) (s : Int) (l : List UInt8) (w : World) {a0 a1 : Addr} (hG : GlobD w a0 a1) (hv : Ints w v xs) (hid0 : okIdeal xs s = true) (hlen : l.length ≤ 3000) {f : List UInt8} {ns p : List Int} (hq : rqK (w0D l) (tsD l) (tsD l).length = some (f, ns, p)) (hnof : ∀ c, 1 ≤ c → c < 22 → f ≠ fmD c) (hrd : lnD l = none) :
    Calls Tryz.prog 34 #[.agg #[v, .int .i64 s], .string (sB l)] w fun (r : Ending) w' => (∃ u, r = .returned (.tuple #[.agg #[u, .int .i64 (stepD xs s l).2.1], .agg #[(OutD a0 a1 (stepD xs s l).2.2.1 (stepD xs s l).2.2.2).1, (OutD a0 a1 (stepD xs s l).2.2.1 (stepD xs s l).2.2.2).2]]) ∧ ((u = v ∧ (stepD xs s l).1 = xs) ∨ OwnI 3 w' w.heap.size u (stepD xs s l).1)) ∧ Below w.heap.size w w' := by
  have HQs := hid hq
  have HST : Hid (stepD xs s l = (xs, s, [119, 104, 97, 116], 2)) := hid (stepD_not hrd)
  have HNF := hid hnof
  clear hrd hnof hq
  obtain ⟨z, -, hgx, -, -⟩ := okIdeal_all hid0
  have hl : xs.length ≤ 1048576 := by have := (good_length hgx).2; omega
  have hne : xs ≠ [] := by intro h; have := (good_length hgx).1; rw [h] at this; simp at this
  clear hgx z
  have HG := hid hG
  have HV := hid hv
  have HI := hid hid0
  have HBv := hid (hv.blockLt hne)
  obtain ⟨A, c, rfl, -⟩ := hv
  clear hG hid0 hne
  have HC := hid (EX.new w (.slice A xs.length c) s)
  go_enter Tryz.func34, Tryz.ntmps34
  go_wp2_with fail
  generalize (((w.alloc (.cells #[.slice A xs.length c, .int .i64 s] 30)).alloc (.cells #[.slice none 0 0, .int .i64 0] 30)).alloc (.cells #[.string { data := #[] }, .nilIface] 60)) = W at HC ⊢
  refine (requestIn_any l _ (HG.out.later HC.out.bel) hlen).mono ?_
  have hz := HC.out.size
  rintro e W1 ⟨hr, hb1⟩
  have HC1 := hid (HC.out.below hb1)
  have hz1 := HC1.out.size
  clear hb1 HC hlen
  rcases hr with ⟨hq, -⟩ | ⟨f', ns', p', nv, pv, hq, rfl, hn, hp, hsh⟩
  · rw [HQs.out] at hq; cases hq
  have hq0 := HQs.out
  rw [hq] at hq0
  simp only [Option.some.injEq, Prod.mk.injEq] at hq0
  obtain ⟨rfl, rfl, rfl⟩ := hq0
  have HN := hid hn
  obtain ⟨nA, nc, rfl, -⟩ := hn
  obtain ⟨pA, pn, pc, rfl⟩ := hsh
  have HP := hid hp
  have HR2 := hid (Blk.new W1 85 #[.string (sB f'), .slice nA ns'.length nc, .slice pA pn pc])
  have HC2 := hid (HC1.out.below (below_alloc (Below.refl _ W1) (.cells #[.string (sB f'), .slice nA ns'.length nc, .slice pA pn pc] 85)))
  have HB2 := hid (below_alloc (Below.refl _ W1) (.cells #[.string (sB f'), .slice nA ns'.length nc, .slice pA pn pc] 85))
  clear hp hq HQs
  go_upto_region 4 with (fail)
  generalize W1.alloc (.cells #[.string (sB f'), .slice nA ns'.length nc, .slice pA pn pc] 85) = W2 at HR2 HC2 HB2 ⊢
  have c00 : W2.cell? ⟨w.heap.size, 0, none⟩ = some (.slice A xs.length c) := HC2.out.k0.cell 0
  have c01 : W2.cell? ⟨w.heap.size, 1, none⟩ = some (.int .i64 s) := HC2.out.k0.cell 1
  have r0 : W2.cell? ⟨W1.heap.size, 0, none⟩ = some (.string (sB f')) := HR2.out.cell 0
  have r1 : W2.cell? ⟨W1.heap.size, 1, none⟩ = some (.slice nA ns'.length nc) := HR2.out.cell 1
  have r2 : W2.cell? ⟨W1.heap.size, 2, none⟩ = some (.slice pA pn pc) := HR2.out.cell 2
  go_wp2_with fail
  clear c00 c01 r0 r1 r2
  refine (changePoset_not _ xs s _ ns' _ p' _ (HG.out.later HC2.out.bel) (HV.out.below HC2.out.bel) hl (HN.out.below HB2.out) ⟨_, _, _, rfl⟩ f' HI.out (fun c h1 h2 => HNF.out c h1 (by omega))).mono ?_
  rintro e W3 ⟨rfl, hb3⟩
  have HR3 := hid (HR2.out.below hb3 HR2.out.lt)
  have HC3 := hid (HC2.out.below hb3)
  have HB3 := hid (below_to HB2.out hb3)
  have HY := hid (EY.new HC3.out HR3.out hz1 HB3.out (.slice none 0 0) (.int .i64 0))
  have hqz := HR3.out.lt
  have hb4 := below_alloc (Below.refl _ W3) (.cells #[.slice none 0 0, .int .i64 0] 30)
  go_upto_region 5 with (fail)
  obtain ⟨q, hq⟩ : ∃ q, W3.heap.size = q := ⟨_, rfl⟩
  rw [hq] at HY hqz
  generalize W3.alloc (.cells #[.slice none 0 0, .int .i64 0] 30) = V at HY hb4 ⊢
  have HV4 := hid hb4
  try rw [hq]
  clear hb3 hb4
  have g0 := (HG.out.later HY.out.ex.bel).what
  go_wp2_with fail
  refine (errIs_same _ _).mono ?_
  rintro e w' ⟨rfl, hw⟩
  rw [hw]
  clear hw w'
  clear g0
  have c00 : V.cell? ⟨w.heap.size, 0, none⟩ = some (.slice A xs.length c) := HY.out.ex.k0.cell 0
  have c01 : V.cell? ⟨w.heap.size, 1, none⟩ = some (.int .i64 s) := HY.out.ex.k0.cell 1
  have r0 : V.cell? ⟨W1.heap.size, 0, none⟩ = some (.string (sB f')) := HY.out.k3.cell 0
  have r1 : V.cell? ⟨W1.heap.size, 1, none⟩ = some (.slice nA ns'.length nc) := HY.out.k3.cell 1
  have r2 : V.cell? ⟨W1.heap.size, 2, none⟩ = some (.slice pA pn pc) := HY.out.k3.cell 2
  go_wp2_with fail
  clear c00 c01 r0 r1 r2
  refine (changeIdeal_not _ xs s _ ns' _ p' _ (HG.out.later HY.out.ex.bel) (HV.out.below HY.out.ex.bel) hl (HN.out.below HY.out.bel) ⟨_, _, _, rfl⟩ f' HI.out (fun c h1 h2 => HNF.out c (by omega) (by omega))).mono ?_
  rintro e W4 ⟨rfl, hb4⟩
  have HY4 := hid (HY.out.below hb4)
  have b0 : W4.cell? ⟨q, 0, none⟩ = some (.slice none 0 0) := HY4.out.k4.cell 0
  have fb0 := HY4.out.k4.frozen 0
  have b1 : W4.cell? ⟨q, 1, none⟩ = some (.int .i64 0) := HY4.out.k4.cell 1
  have fb1 := HY4.out.k4.frozen 1
  have HY5 := hid (HY4.out.put (.slice none 0 0) (.int .i64 0))
  clear hb4
  go_upto_region 7 with (fail)
  generalize (W4.setCell ⟨q, 0, none⟩ (.slice none 0 0)).setCell ⟨q, 1, none⟩ (.int .i64 0) = V5 at HY5 ⊢
  clear b0 b1 fb0 fb1
  have g0 := (HG.out.later HY5.out.ex.bel).what
  go_wp2_with fail
  refine (errIs_same _ _).mono ?_
  rintro e w' ⟨rfl, hw⟩
  rw [hw]
  clear hw w'
  clear g0
  have c00 : V5.cell? ⟨w.heap.size, 0, none⟩ = some (.slice A xs.length c) := HY5.out.ex.k0.cell 0
  have c01 : V5.cell? ⟨w.heap.size, 1, none⟩ = some (.int .i64 s) := HY5.out.ex.k0.cell 1
  have b0 : V5.cell? ⟨q, 0, none⟩ = some (.slice none 0 0) := HY5.out.k4.cell 0
  have fb0 := HY5.out.k4.frozen 0
  have b1 : V5.cell? ⟨q, 1, none⟩ = some (.int .i64 0) := HY5.out.k4.cell 1
  have fb1 := HY5.out.k4.frozen 1
  have HY6 := hid (HY5.out.put (.slice A xs.length c) (.int .i64 s))
  go_upto_region 9 with (fail)
  generalize (V5.setCell ⟨q, 0, none⟩ (.slice A xs.length c)).setCell ⟨q, 1, none⟩ (.int .i64 s) = V6 at HY6 ⊢
  clear c00 c01
  clear b0 b1 fb0 fb1
  have c00 : V6.cell? ⟨w.heap.size, 0, none⟩ = some (.slice A xs.length c) := HY6.out.ex.k0.cell 0
  have c01 : V6.cell? ⟨w.heap.size, 1, none⟩ = some (.int .i64 s) := HY6.out.ex.k0.cell 1
  have r0 : V6.cell? ⟨W1.heap.size, 0, none⟩ = some (.string (sB f')) := HY6.out.k3.cell 0
  have r1 : V6.cell? ⟨W1.heap.size, 1, none⟩ = some (.slice nA ns'.length nc) := HY6.out.k3.cell 1
  have r2 : V6.cell? ⟨W1.heap.size, 2, none⟩ = some (.slice pA pn pc) := HY6.out.k3.cell 2
  go_wp2_with fail
  clear c00 c01 r0 r1 r2
  refine (answer_not _ xs s _ ns' _ p' _ (HG.out.later HY6.out.ex.bel) (HV.out.below HY6.out.ex.bel) hl (HN.out.below HY6.out.bel) ⟨_, _, _, rfl⟩ f' HI.out (fun c h1 h2 => HNF.out c (by omega) (by omega))).mono ?_
  rintro e W7 ⟨rfl, hb7⟩
  have HY7 := hid (HY6.out.below hb7)
  clear hb7
  obtain ⟨c00, c01, c10, f10, c11, f11, c20, f20, c21, f21⟩ := HY7.out.ex.all
  have hz2 := HY7.out.ex.size
  go_wp2
  refine bodyPost_ret (v := .tuple #[.agg #[(.slice A xs.length c), .int .i64 s], .agg #[.string { data := #[] }, .iface 269 (.pointer (some a0))]]) (by simp [results, Tryz.results34, go_sem, c10, c11, c20, c21]) rfl ⟨⟨(.slice A xs.length c), by rw [HST.out]; rfl, .inl ⟨rfl, by rw [HST.out]⟩⟩, ?_⟩
  · exact below_put4 HY7.out.ex.bel _ _ (by omega) (by omega) _ _ _ _
set_option maxRecDepth 100000 in
set_option maxHeartbeats 1600000 in
theorem execute_cp (v : Value) (xs : List Int) (s : Int) (l : List UInt8) (w : World) {a0 a1 : Addr} (hG : GlobD w a0 a1) (hv : Ints w v xs) (hid0 : okIdeal xs s = true) (hlen : l.length ≤ 3000) {f : List UInt8} {ns p : List Int} (hq : rqK (w0D l) (tsD l) (tsD l).length = some (f, ns, p)) {cc : Nat} (hf : f = fmD cc) (hrd : lnD l = some (cc, ns, p)) (h1 : 1 ≤ cc) (h5 : cc ≤ 5) :
    Calls Tryz.prog 34 #[.agg #[v, .int .i64 s], .string (sB l)] w fun (r : Ending) w' => (∃ u, r = .returned (.tuple #[.agg #[u, .int .i64 (stepD xs s l).2.1], .agg #[(OutD a0 a1 (stepD xs s l).2.2.1 (stepD xs s l).2.2.2).1, (OutD a0 a1 (stepD xs s l).2.2.1 (stepD xs s l).2.2.2).2]]) ∧ ((u = v ∧ (stepD xs s l).1 = xs) ∨ OwnI 3 w' w.heap.size u (stepD xs s l).1)) ∧ Below w.heap.size w w' := by
  have HQs := hid hq
  have HRd := hid hrd
  have HFt := hid (rdD_fits hrd)
  subst hf
  clear hrd hq
  obtain ⟨z, -, hgx, -, -⟩ := okIdeal_all hid0
  have hl : xs.length ≤ 1048576 := by have := (good_length hgx).2; omega
  have hne : xs ≠ [] := by intro h; have := (good_length hgx).1; rw [h] at this; simp at this
  clear hgx z
  have HG := hid hG
  have HV := hid hv
  have HI := hid hid0
  have HBv := hid (hv.blockLt hne)
  obtain ⟨A, c, rfl, -⟩ := hv
  clear hG hid0 hne
  have HC := hid (EX.new w (.slice A xs.length c) s)
  go_enter Tryz.func34, Tryz.ntmps34
  go_wp2_with fail
  generalize (((w.alloc (.cells #[.slice A xs.length c, .int .i64 s] 30)).alloc (.cells #[.slice none 0 0, .int .i64 0] 30)).alloc (.cells #[.string { data := #[] }, .nilIface] 60)) = W at HC ⊢
  refine (requestIn_any l _ (HG.out.later HC.out.bel) hlen).mono ?_
  have hz := HC.out.size
  rintro e W1 ⟨hr, hb1⟩
  have HC1 := hid (HC.out.below hb1)
  have hz1 := HC1.out.size
  clear hb1 HC hlen
  rcases hr with ⟨hq, -⟩ | ⟨f', ns', p', nv, pv, hq, rfl, hn, hp, hsh⟩
  · rw [HQs.out] at hq; cases hq
  have hq0 := HQs.out
  rw [hq] at hq0
  simp only [Option.some.injEq, Prod.mk.injEq] at hq0
  obtain ⟨rfl, rfl, rfl⟩ := hq0
  have HN := hid hn
  obtain ⟨nA, nc, rfl, -⟩ := hn
  obtain ⟨pA, pn, pc, rfl⟩ := hsh
  have HP := hid hp
  have HR2 := hid (Blk.new W1 85 #[.string (sB (fmD cc)), .slice nA ns'.length nc, .slice pA pn pc])
  have HC2 := hid (HC1.out.below (below_alloc (Below.refl _ W1) (.cells #[.string (sB (fmD cc)), .slice nA ns'.length nc, .slice pA pn pc] 85)))
  have HB2 := hid (below_alloc (Below.refl _ W1) (.cells #[.string (sB (fmD cc)), .slice nA ns'.length nc, .slice pA pn pc] 85))
  clear hp hq HQs
  go_upto_region 4 with (fail)
  generalize W1.alloc (.cells #[.string (sB (fmD cc)), .slice nA ns'.length nc, .slice pA pn pc] 85) = W2 at HR2 HC2 HB2 ⊢
  have c00 : W2.cell? ⟨w.heap.size, 0, none⟩ = some (.slice A xs.length c) := HC2.out.k0.cell 0
  have c01 : W2.cell? ⟨w.heap.size, 1, none⟩ = some (.int .i64 s) := HC2.out.k0.cell 1
  have r0 : W2.cell? ⟨W1.heap.size, 0, none⟩ = some (.string (sB (fmD cc))) := HR2.out.cell 0
  have r1 : W2.cell? ⟨W1.heap.size, 1, none⟩ = some (.slice nA ns'.length nc) := HR2.out.cell 1
  have r2 : W2.cell? ⟨W1.heap.size, 2, none⟩ = some (.slice pA pn pc) := HR2.out.cell 2
  go_wp2_with fail
  clear c00 c01 r0 r1 r2
  refine (changePoset_at _ xs s _ ns' _ p' _ (HG.out.later HC2.out.bel) (HV.out.below HC2.out.bel) hl (HN.out.below HB2.out) ⟨_, _, _, rfl⟩ cc (fun e => (HP.out (rdD_one (by rw [← e]; exact HRd.out))).ints.below HB2.out) HI.out HFt.out.2.2.2.1 HFt.out.2.2.2.2.1 HFt.out.2.2.2.2.2 h1 h5).mono ?_
  rintro e W3 ⟨hr, hb3⟩
  rcases hr with ⟨ha, rfl⟩ | ⟨xs', s', tt, u, ha, rfl, hu⟩
  · have HST : Hid (stepD xs s l = (xs, s, [110, 111], 1)) := hid (stepD_no HRd.out ha)
    clear ha
    have HR3 := hid (HR2.out.below hb3 HR2.out.lt)
    have HC3 := hid (HC2.out.below hb3)
    have HB3 := hid (below_to HB2.out hb3)
    have HY := hid (EY.new HC3.out HR3.out hz1 HB3.out (.slice none 0 0) (.int .i64 0))
    have hqz := HR3.out.lt
    have hb4 := below_alloc (Below.refl _ W3) (.cells #[.slice none 0 0, .int .i64 0] 30)
    go_upto_region 5 with (fail)
    obtain ⟨q, hq⟩ : ∃ q, W3.heap.size = q := ⟨_, rfl⟩
    rw [hq] at HY hqz
    generalize W3.alloc (.cells #[.slice none 0 0, .int .i64 0] 30) = V at HY hb4 ⊢
    have HV4 := hid hb4
    try rw [hq]
    clear hb3 hb4
    have g0 := (HG.out.later HY.out.ex.bel).what
    go_wp2_with fail
    refine (errIs_two (HG.out.later HY.out.ex.bel)).mono ?_
    rintro e w' ⟨rfl, hw⟩
    rw [hw]
    clear hw w'
    go_wp2_with fail
    refine (errIs_two (HG.out.later HY.out.ex.bel)).mono ?_
    rintro e w' ⟨rfl, hw⟩
    rw [hw]
    clear hw w'
    clear g0
    obtain ⟨c00, c01, c10, f10, c11, f11, c20, f20, c21, f21⟩ := HY.out.ex.all
    have hz2 := HY.out.ex.size
    go_wp2
    refine bodyPost_ret (v := .tuple #[.agg #[(.slice A xs.length c), .int .i64 s], .agg #[.string { data := #[] }, .iface 269 (.pointer (some a1))]]) (by simp [results, Tryz.results34, go_sem, c10, c11, c20, c21]) rfl ⟨⟨(.slice A xs.length c), by rw [HST.out]; rfl, .inl ⟨rfl, by rw [HST.out]⟩⟩, ?_⟩
    · exact below_put4 HY.out.ex.bel _ _ (by omega) (by omega) _ _ _ _
  · have HST : Hid (stepD xs s l = (xs', s', tt, 0)) := hid (stepD_yes HRd.out ha)
    clear ha
    have hu2 : OwnI 3 W3 (w.heap.size + 3) u xs' := by
      rcases hu with ⟨h1, rfl, rfl⟩ | hu
      · exact (((HP.out (rdD_one (by rw [← h1]; exact HRd.out))).below HB2.out).below hb3).mono hz
      · exact hu.mono HC2.out.size
    have HU := hid hu2
    obtain ⟨uA, un, uc, rfl⟩ := hu2.shape3
    clear hu hu2
    have HR3 := hid (HR2.out.below hb3 HR2.out.lt)
    have HC3 := hid (HC2.out.below hb3)
    have HB3 := hid (below_to HB2.out hb3)
    have HY := hid (EY.new HC3.out HR3.out hz1 HB3.out (.slice uA un uc) (.int .i64 s'))
    have hqz := HR3.out.lt
    have hb4 := below_alloc (Below.refl _ W3) (.cells #[.slice uA un uc, .int .i64 s'] 30)
    go_upto_region 5 with (fail)
    obtain ⟨q, hq⟩ : ∃ q, W3.heap.size = q := ⟨_, rfl⟩
    rw [hq] at HY hqz
    generalize W3.alloc (.cells #[.slice uA un uc, .int .i64 s'] 30) = V at HY hb4 ⊢
    have HV4 := hid hb4
    try rw [hq]
    clear hb3 hb4
    have g0 := (HG.out.later HY.out.ex.bel).what
    go_wp2_with fail
    refine (errIs_nil _ _).mono ?_
    rintro e w' ⟨rfl, hw⟩
    rw [hw]
    clear hw w'
    go_wp2_with fail
    refine (errIs_nil _ _).mono ?_
    rintro e w' ⟨rfl, hw⟩
    rw [hw]
    clear hw w'
    clear g0
    obtain ⟨c00, c01, c10, f10, c11, f11, c20, f20, c21, f21⟩ := HY.out.ex.all
    have b0 : V.cell? ⟨q, 0, none⟩ = some (.slice uA un uc) := HY.out.k4.cell 0
    have fb0 := HY.out.k4.frozen 0
    have b1 : V.cell? ⟨q, 1, none⟩ = some (.int .i64 s') := HY.out.k4.cell 1
    have fb1 := HY.out.k4.frozen 1
    have hz2 := HY.out.ex.size
    go_wp2
    refine bodyPost_ret (v := .tuple #[.agg #[(.slice uA un uc), .int .i64 s'], .agg #[.string (sB tt), .nilIface]]) (by simp [results, Tryz.results34, go_sem, c10, c11, c20, c21]) rfl ⟨⟨(.slice uA un uc), by rw [HST.out]; rfl, .inr (by rw [HST.out]; exact own_put4 (HU.out.below HV4.out) _ _ _ _)⟩, ?_⟩
    · exact below_put4 HY.out.ex.bel _ _ (by omega) (by omega) _ _ _ _
set_option maxRecDepth 100000 in
set_option maxHeartbeats 1600000 in
theorem execute_ci (v : Value) (xs : List Int) (s : Int) (l : List UInt8) (w : World) {a0 a1 : Addr} (hG : GlobD w a0 a1) (hv : Ints w v xs) (hid0 : okIdeal xs s = true) (hlen : l.length ≤ 3000) {f : List UInt8} {ns p : List Int} (hq : rqK (w0D l) (tsD l) (tsD l).length = some (f, ns, p)) {cc : Nat} (hf : f = fmD cc) (hrd : lnD l = some (cc, ns, p)) (h6 : 6 ≤ cc) (h12 : cc ≤ 12) :
    Calls Tryz.prog 34 #[.agg #[v, .int .i64 s], .string (sB l)] w fun (r : Ending) w' => (∃ u, r = .returned (.tuple #[.agg #[u, .int .i64 (stepD xs s l).2.1], .agg #[(OutD a0 a1 (stepD xs s l).2.2.1 (stepD xs s l).2.2.2).1, (OutD a0 a1 (stepD xs s l).2.2.1 (stepD xs s l).2.2.2).2]]) ∧ ((u = v ∧ (stepD xs s l).1 = xs) ∨ OwnI 3 w' w.heap.size u (stepD xs s l).1)) ∧ Below w.heap.size w w' := by
  have HQs := hid hq
  have HRd := hid hrd
  have HFt := hid (rdD_fits hrd)
  subst hf
  clear hrd hq
  have HNF : Hid (∀ c, 1 ≤ c → c ≤ 5 → fmD cc ≠ fmD c) := hid (fun c h1 h2 => fm_ne (by omega) (by omega) (by omega))
  obtain ⟨z, -, hgx, -, -⟩ := okIdeal_all hid0
  have hl : xs.length ≤ 1048576 := by have := (good_length hgx).2; omega
  have hne : xs ≠ [] := by intro h; have := (good_length hgx).1; rw [h] at this; simp at this
  clear hgx z
  have HG := hid hG
  have HV := hid hv
  have HI := hid hid0
  have HBv := hid (hv.blockLt hne)
  obtain ⟨A, c, rfl, -⟩ := hv
  clear hG hid0 hne
  have HC := hid (EX.new w (.slice A xs.length c) s)
  go_enter Tryz.func34, Tryz.ntmps34
  go_wp2_with fail
  generalize (((w.alloc (.cells #[.slice A xs.length c, .int .i64 s] 30)).alloc (.cells #[.slice none 0 0, .int .i64 0] 30)).alloc (.cells #[.string { data := #[] }, .nilIface] 60)) = W at HC ⊢
  refine (requestIn_any l _ (HG.out.later HC.out.bel) hlen).mono ?_
  have hz := HC.out.size
  rintro e W1 ⟨hr, hb1⟩
  have HC1 := hid (HC.out.below hb1)
  have hz1 := HC1.out.size
  clear hb1 HC hlen
  rcases hr with ⟨hq, -⟩ | ⟨f', ns', p', nv, pv, hq, rfl, hn, hp, hsh⟩
  · rw [HQs.out] at hq; cases hq
  have hq0 := HQs.out
  rw [hq] at hq0
  simp only [Option.some.injEq, Prod.mk.injEq] at hq0
  obtain ⟨rfl, rfl, rfl⟩ := hq0
  have HN := hid hn
  obtain ⟨nA, nc, rfl, -⟩ := hn
  obtain ⟨pA, pn, pc, rfl⟩ := hsh
  have HP := hid hp
  have HR2 := hid (Blk.new W1 85 #[.string (sB (fmD cc)), .slice nA ns'.length nc, .slice pA pn pc])
  have HC2 := hid (HC1.out.below (below_alloc (Below.refl _ W1) (.cells #[.string (sB (fmD cc)), .slice nA ns'.length nc, .slice pA pn pc] 85)))
  have HB2 := hid (below_alloc (Below.refl _ W1) (.cells #[.string (sB (fmD cc)), .slice nA ns'.length nc, .slice pA pn pc] 85))
  clear hp hq HQs
  go_upto_region 4 with (fail)
  generalize W1.alloc (.cells #[.string (sB (fmD cc)), .slice nA ns'.length nc, .slice pA pn pc] 85) = W2 at HR2 HC2 HB2 ⊢
  have c00 : W2.cell? ⟨w.heap.size, 0, none⟩ = some (.slice A xs.length c) := HC2.out.k0.cell 0
  have c01 : W2.cell? ⟨w.heap.size, 1, none⟩ = some (.int .i64 s) := HC2.out.k0.cell 1
  have r0 : W2.cell? ⟨W1.heap.size, 0, none⟩ = some (.string (sB (fmD cc))) := HR2.out.cell 0
  have r1 : W2.cell? ⟨W1.heap.size, 1, none⟩ = some (.slice nA ns'.length nc) := HR2.out.cell 1
  have r2 : W2.cell? ⟨W1.heap.size, 2, none⟩ = some (.slice pA pn pc) := HR2.out.cell 2
  go_wp2_with fail
  clear c00 c01 r0 r1 r2
  refine (changePoset_not _ xs s _ ns' _ p' _ (HG.out.later HC2.out.bel) (HV.out.below HC2.out.bel) hl (HN.out.below HB2.out) ⟨_, _, _, rfl⟩ (fmD cc) HI.out (fun c h1 h2 => HNF.out c h1 h2)).mono ?_
  rintro e W3 ⟨rfl, hb3⟩
  have HR3 := hid (HR2.out.below hb3 HR2.out.lt)
  have HC3 := hid (HC2.out.below hb3)
  have HB3 := hid (below_to HB2.out hb3)
  have HY := hid (EY.new HC3.out HR3.out hz1 HB3.out (.slice none 0 0) (.int .i64 0))
  have hqz := HR3.out.lt
  have hb4 := below_alloc (Below.refl _ W3) (.cells #[.slice none 0 0, .int .i64 0] 30)
  go_upto_region 5 with (fail)
  obtain ⟨q, hq⟩ : ∃ q, W3.heap.size = q := ⟨_, rfl⟩
  rw [hq] at HY hqz
  generalize W3.alloc (.cells #[.slice none 0 0, .int .i64 0] 30) = V at HY hb4 ⊢
  have HV4 := hid hb4
  try rw [hq]
  clear hb3 hb4
  have g0 := (HG.out.later HY.out.ex.bel).what
  go_wp2_with fail
  refine (errIs_same _ _).mono ?_
  rintro e w' ⟨rfl, hw⟩
  rw [hw]
  clear hw w'
  clear g0
  have c00 : V.cell? ⟨w.heap.size, 0, none⟩ = some (.slice A xs.length c) := HY.out.ex.k0.cell 0
  have c01 : V.cell? ⟨w.heap.size, 1, none⟩ = some (.int .i64 s) := HY.out.ex.k0.cell 1
  have r0 : V.cell? ⟨W1.heap.size, 0, none⟩ = some (.string (sB (fmD cc))) := HY.out.k3.cell 0
  have r1 : V.cell? ⟨W1.heap.size, 1, none⟩ = some (.slice nA ns'.length nc) := HY.out.k3.cell 1
  have r2 : V.cell? ⟨W1.heap.size, 2, none⟩ = some (.slice pA pn pc) := HY.out.k3.cell 2
  go_wp2_with fail
  clear c00 c01 r0 r1 r2
  refine (changeIdeal_at _ xs s _ ns' _ p' _ (HG.out.later HY.out.ex.bel) (HV.out.below HY.out.ex.bel) hl (HN.out.below HY.out.bel) ⟨_, _, _, rfl⟩ cc (fun e => (HP.out (rdD_one (by rw [← e]; exact HRd.out))).ints.below HY.out.bel) HI.out HFt.out.2.2.2.1 HFt.out.2.2.2.2.1 HFt.out.2.2.2.2.2 h6 h12).mono ?_
  rintro e W4 ⟨hr, hb4⟩
  rcases hr with ⟨ha, rfl⟩ | ⟨s', tt, ha, rfl⟩
  · have HST : Hid (stepD xs s l = (xs, s, [110, 111], 1)) := hid (stepD_no HRd.out ha)
    clear ha
    have HY4 := hid (HY.out.below hb4)
    have b0 : W4.cell? ⟨q, 0, none⟩ = some (.slice none 0 0) := HY4.out.k4.cell 0
    have fb0 := HY4.out.k4.frozen 0
    have b1 : W4.cell? ⟨q, 1, none⟩ = some (.int .i64 0) := HY4.out.k4.cell 1
    have fb1 := HY4.out.k4.frozen 1
    have HY5 := hid (HY4.out.put (.slice none 0 0) (.int .i64 0))
    clear hb4
    go_upto_region 7 with (fail)
    generalize (W4.setCell ⟨q, 0, none⟩ (.slice none 0 0)).setCell ⟨q, 1, none⟩ (.int .i64 0) = V5 at HY5 ⊢
    clear b0 b1 fb0 fb1
    have g0 := (HG.out.later HY5.out.ex.bel).what
    go_wp2_with fail
    refine (errIs_two (HG.out.later HY5.out.ex.bel)).mono ?_
    rintro e w' ⟨rfl, hw⟩
    rw [hw]
    clear hw w'
    clear g0
    obtain ⟨c00, c01, c10, f10, c11, f11, c20, f20, c21, f21⟩ := HY5.out.ex.all
    have hz2 := HY5.out.ex.size
    go_wp2
    refine bodyPost_ret (v := .tuple #[.agg #[(.slice A xs.length c), .int .i64 s], .agg #[.string { data := #[] }, .iface 269 (.pointer (some a1))]]) (by simp [results, Tryz.results34, go_sem, c10, c11, c20, c21]) rfl ⟨⟨(.slice A xs.length c), by rw [HST.out]; rfl, .inl ⟨rfl, by rw [HST.out]⟩⟩, ?_⟩
    · exact below_put4 HY5.out.ex.bel _ _ (by omega) (by omega) _ _ _ _
  · have HST : Hid (stepD xs s l = (xs, s', tt, 0)) := hid (stepD_yes HRd.out ha)
    clear ha
    have HY4 := hid (HY.out.below hb4)
    have b0 : W4.cell? ⟨q, 0, none⟩ = some (.slice none 0 0) := HY4.out.k4.cell 0
    have fb0 := HY4.out.k4.frozen 0
    have b1 : W4.cell? ⟨q, 1, none⟩ = some (.int .i64 0) := HY4.out.k4.cell 1
    have fb1 := HY4.out.k4.frozen 1
    have HY5 := hid (HY4.out.put (.slice A xs.length c) (.int .i64 s'))
    clear hb4
    go_upto_region 7 with (fail)
    generalize (W4.setCell ⟨q, 0, none⟩ (.slice A xs.length c)).setCell ⟨q, 1, none⟩ (.int .i64 s') = V5 at HY5 ⊢
    clear b0 b1 fb0 fb1
    have g0 := (HG.out.later HY5.out.ex.bel).what
    go_wp2_with fail
    refine (errIs_nil _ _).mono ?_
    rintro e w' ⟨rfl, hw⟩
    rw [hw]
    clear hw w'
    clear g0
    obtain ⟨c00, c01, c10, f10, c11, f11, c20, f20, c21, f21⟩ := HY5.out.ex.all
    have b0 : V5.cell? ⟨q, 0, none⟩ = some (.slice A xs.length c) := HY5.out.k4.cell 0
    have fb0 := HY5.out.k4.frozen 0
    have b1 : V5.cell? ⟨q, 1, none⟩ = some (.int .i64 s') := HY5.out.k4.cell 1
    have fb1 := HY5.out.k4.frozen 1
    have hz2 := HY5.out.ex.size
    go_wp2
    refine bodyPost_ret (v := .tuple #[.agg #[(.slice A xs.length c), .int .i64 s'], .agg #[.string (sB tt), .nilIface]]) (by simp [results, Tryz.results34, go_sem, c10, c11, c20, c21]) rfl ⟨⟨(.slice A xs.length c), by rw [HST.out]; rfl, .inl ⟨rfl, by rw [HST.out]⟩⟩, ?_⟩
    · exact below_put4 HY5.out.ex.bel _ _ (by omega) (by omega) _ _ _ _
set_option maxRecDepth 100000 in
set_option maxHeartbeats 1600000 in
theorem execute_an (v : Value) (xs : List Int) (s : Int) (l : List UInt8) (w : World) {a0 a1 : Addr} (hG : GlobD w a0 a1) (hv : Ints w v xs) (hid0 : okIdeal xs s = true) (hlen : l.length ≤ 3000) {f : List UInt8} {ns p : List Int} (hq : rqK (w0D l) (tsD l) (tsD l).length = some (f, ns, p)) {cc : Nat} (hf : f = fmD cc) (hrd : lnD l = some (cc, ns, p)) (h13 : 13 ≤ cc) (h21 : cc ≤ 21) :
    Calls Tryz.prog 34 #[.agg #[v, .int .i64 s], .string (sB l)] w fun (r : Ending) w' => (∃ u, r = .returned (.tuple #[.agg #[u, .int .i64 (stepD xs s l).2.1], .agg #[(OutD a0 a1 (stepD xs s l).2.2.1 (stepD xs s l).2.2.2).1, (OutD a0 a1 (stepD xs s l).2.2.1 (stepD xs s l).2.2.2).2]]) ∧ ((u = v ∧ (stepD xs s l).1 = xs) ∨ OwnI 3 w' w.heap.size u (stepD xs s l).1)) ∧ Below w.heap.size w w' := by
  have HQs := hid hq
  have HRd := hid hrd
  have HFt := hid (rdD_fits hrd)
  subst hf
  clear hrd hq
  have HNF : Hid (∀ c, 1 ≤ c → c ≤ 12 → fmD cc ≠ fmD c) := hid (fun c h1 h2 => fm_ne (by omega) (by omega) (by omega))
  obtain ⟨z, -, hgx, -, -⟩ := okIdeal_all hid0
  have hl : xs.length ≤ 1048576 := by have := (good_length hgx).2; omega
  have hne : xs ≠ [] := by intro h; have := (good_length hgx).1; rw [h] at this; simp at this
  clear hgx z
  have HG := hid hG
  have HV := hid hv
  have HI := hid hid0
  have HBv := hid (hv.blockLt hne)
  obtain ⟨A, c, rfl, -⟩ := hv
  clear hG hid0 hne
  have HC := hid (EX.new w (.slice A xs.length c) s)
  go_enter Tryz.func34, Tryz.ntmps34
  go_wp2_with fail
  generalize (((w.alloc (.cells #[.slice A xs.length c, .int .i64 s] 30)).alloc (.cells #[.slice none 0 0, .int .i64 0] 30)).alloc (.cells #[.string { data := #[] }, .nilIface] 60)) = W at HC ⊢
  refine (requestIn_any l _ (HG.out.later HC.out.bel) hlen).mono ?_
  have hz := HC.out.size
  rintro e W1 ⟨hr, hb1⟩
  have HC1 := hid (HC.out.below hb1)
  have hz1 := HC1.out.size
  clear hb1 HC hlen
  rcases hr with ⟨hq, -⟩ | ⟨f', ns', p', nv, pv, hq, rfl, hn, hp, hsh⟩
  · rw [HQs.out] at hq; cases hq
  have hq0 := HQs.out
  rw [hq] at hq0
  simp only [Option.some.injEq, Prod.mk.injEq] at hq0
  obtain ⟨rfl, rfl, rfl⟩ := hq0
  have HN := hid hn
  obtain ⟨nA, nc, rfl, -⟩ := hn
  obtain ⟨pA, pn, pc, rfl⟩ := hsh
  have HP := hid hp
  have HR2 := hid (Blk.new W1 85 #[.string (sB (fmD cc)), .slice nA ns'.length nc, .slice pA pn pc])
  have HC2 := hid (HC1.out.below (below_alloc (Below.refl _ W1) (.cells #[.string (sB (fmD cc)), .slice nA ns'.length nc, .slice pA pn pc] 85)))
  have HB2 := hid (below_alloc (Below.refl _ W1) (.cells #[.string (sB (fmD cc)), .slice nA ns'.length nc, .slice pA pn pc] 85))
  clear hp hq HQs
  go_upto_region 4 with (fail)
  generalize W1.alloc (.cells #[.string (sB (fmD cc)), .slice nA ns'.length nc, .slice pA pn pc] 85) = W2 at HR2 HC2 HB2 ⊢
  have c00 : W2.cell? ⟨w.heap.size, 0, none⟩ = some (.slice A xs.length c) := HC2.out.k0.cell 0
  have c01 : W2.cell? ⟨w.heap.size, 1, none⟩ = some (.int .i64 s) := HC2.out.k0.cell 1
  have r0 : W2.cell? ⟨W1.heap.size, 0, none⟩ = some (.string (sB (fmD cc))) := HR2.out.cell 0
  have r1 : W2.cell? ⟨W1.heap.size, 1, none⟩ = some (.slice nA ns'.length nc) := HR2.out.cell 1
  have r2 : W2.cell? ⟨W1.heap.size, 2, none⟩ = some (.slice pA pn pc) := HR2.out.cell 2
  go_wp2_with fail
  clear c00 c01 r0 r1 r2
  refine (changePoset_not _ xs s _ ns' _ p' _ (HG.out.later HC2.out.bel) (HV.out.below HC2.out.bel) hl (HN.out.below HB2.out) ⟨_, _, _, rfl⟩ (fmD cc) HI.out (fun c h1 h2 => HNF.out c h1 (by omega))).mono ?_
  rintro e W3 ⟨rfl, hb3⟩
  have HR3 := hid (HR2.out.below hb3 HR2.out.lt)
  have HC3 := hid (HC2.out.below hb3)
  have HB3 := hid (below_to HB2.out hb3)
  have HY := hid (EY.new HC3.out HR3.out hz1 HB3.out (.slice none 0 0) (.int .i64 0))
  have hqz := HR3.out.lt
  have hb4 := below_alloc (Below.refl _ W3) (.cells #[.slice none 0 0, .int .i64 0] 30)
  go_upto_region 5 with (fail)
  obtain ⟨q, hq⟩ : ∃ q, W3.heap.size = q := ⟨_, rfl⟩
  rw [hq] at HY hqz
  generalize W3.alloc (.cells #[.slice none 0 0, .int .i64 0] 30) = V at HY hb4 ⊢
  have HV4 := hid hb4
  try rw [hq]
  clear hb3 hb4
  have g0 := (HG.out.later HY.out.ex.bel).what
  go_wp2_with fail
  refine (errIs_same _ _).mono ?_
  rintro e w' ⟨rfl, hw⟩
  rw [hw]
  clear hw w'
  clear g0
  have c00 : V.cell? ⟨w.heap.size, 0, none⟩ = some (.slice A xs.length c) := HY.out.ex.k0.cell 0
  have c01 : V.cell? ⟨w.heap.size, 1, none⟩ = some (.int .i64 s) := HY.out.ex.k0.cell 1
  have r0 : V.cell? ⟨W1.heap.size, 0, none⟩ = some (.string (sB (fmD cc))) := HY.out.k3.cell 0
  have r1 : V.cell? ⟨W1.heap.size, 1, none⟩ = some (.slice nA ns'.length nc) := HY.out.k3.cell 1
  have r2 : V.cell? ⟨W1.heap.size, 2, none⟩ = some (.slice pA pn pc) := HY.out.k3.cell 2
  go_wp2_with fail
  clear c00 c01 r0 r1 r2
  refine (changeIdeal_not _ xs s _ ns' _ p' _ (HG.out.later HY.out.ex.bel) (HV.out.below HY.out.ex.bel) hl (HN.out.below HY.out.bel) ⟨_, _, _, rfl⟩ (fmD cc) HI.out (fun c h1 h2 => HNF.out c (by omega) h2)).mono ?_
  rintro e W4 ⟨rfl, hb4⟩
  have HY4 := hid (HY.out.below hb4)
  have b0 : W4.cell? ⟨q, 0, none⟩ = some (.slice none 0 0) := HY4.out.k4.cell 0
  have fb0 := HY4.out.k4.frozen 0
  have b1 : W4.cell? ⟨q, 1, none⟩ = some (.int .i64 0) := HY4.out.k4.cell 1
  have fb1 := HY4.out.k4.frozen 1
  have HY5 := hid (HY4.out.put (.slice none 0 0) (.int .i64 0))
  clear hb4
  go_upto_region 7 with (fail)
  generalize (W4.setCell ⟨q, 0, none⟩ (.slice none 0 0)).setCell ⟨q, 1, none⟩ (.int .i64 0) = V5 at HY5 ⊢
  clear b0 b1 fb0 fb1
  have g0 := (HG.out.later HY5.out.ex.bel).what
  go_wp2_with fail
  refine (errIs_same _ _).mono ?_
  rintro e w' ⟨rfl, hw⟩
  rw [hw]
  clear hw w'
  clear g0
  have c00 : V5.cell? ⟨w.heap.size, 0, none⟩ = some (.slice A xs.length c) := HY5.out.ex.k0.cell 0
  have c01 : V5.cell? ⟨w.heap.size, 1, none⟩ = some (.int .i64 s) := HY5.out.ex.k0.cell 1
  have b0 : V5.cell? ⟨q, 0, none⟩ = some (.slice none 0 0) := HY5.out.k4.cell 0
  have fb0 := HY5.out.k4.frozen 0
  have b1 : V5.cell? ⟨q, 1, none⟩ = some (.int .i64 0) := HY5.out.k4.cell 1
  have fb1 := HY5.out.k4.frozen 1
  have HY6 := hid (HY5.out.put (.slice A xs.length c) (.int .i64 s))
  go_upto_region 9 with (fail)
  generalize (V5.setCell ⟨q, 0, none⟩ (.slice A xs.length c)).setCell ⟨q, 1, none⟩ (.int .i64 s) = V6 at HY6 ⊢
  clear c00 c01
  clear b0 b1 fb0 fb1
  have c00 : V6.cell? ⟨w.heap.size, 0, none⟩ = some (.slice A xs.length c) := HY6.out.ex.k0.cell 0
  have c01 : V6.cell? ⟨w.heap.size, 1, none⟩ = some (.int .i64 s) := HY6.out.ex.k0.cell 1
  have r0 : V6.cell? ⟨W1.heap.size, 0, none⟩ = some (.string (sB (fmD cc))) := HY6.out.k3.cell 0
  have r1 : V6.cell? ⟨W1.heap.size, 1, none⟩ = some (.slice nA ns'.length nc) := HY6.out.k3.cell 1
  have r2 : V6.cell? ⟨W1.heap.size, 2, none⟩ = some (.slice pA pn pc) := HY6.out.k3.cell 2
  go_wp2_with fail
  clear c00 c01 r0 r1 r2
  refine (answer_at _ xs s _ ns' _ p' _ (HG.out.later HY6.out.ex.bel) (HV.out.below HY6.out.ex.bel) hl (HN.out.below HY6.out.bel) ⟨_, _, _, rfl⟩ cc (fun e => (HP.out (rdD_one (by rw [← e]; exact HRd.out))).ints.below HY6.out.bel) HI.out HFt.out.2.2.2.1 HFt.out.2.2.2.2.1 HFt.out.2.2.2.2.2 h13 h21).mono ?_
  rintro e W7 ⟨⟨tt, ha, rfl⟩, hb7⟩
  have HY7 := hid (HY6.out.below hb7)
  clear hb7
  have HST : Hid (stepD xs s l = (xs, s, tt, 0)) := hid (stepD_yes HRd.out ha)
  clear ha
  obtain ⟨c00, c01, c10, f10, c11, f11, c20, f20, c21, f21⟩ := HY7.out.ex.all
  have b0 : W7.cell? ⟨q, 0, none⟩ = some (.slice A xs.length c) := HY7.out.k4.cell 0
  have fb0 := HY7.out.k4.frozen 0
  have b1 : W7.cell? ⟨q, 1, none⟩ = some (.int .i64 s) := HY7.out.k4.cell 1
  have fb1 := HY7.out.k4.frozen 1
  have hz2 := HY7.out.ex.size
  go_wp2
  refine bodyPost_ret (v := .tuple #[.agg #[(.slice A xs.length c), .int .i64 s], .agg #[.string (sB tt), .nilIface]]) (by simp [results, Tryz.results34, go_sem, c10, c11, c20, c21]) rfl ⟨⟨(.slice A xs.length c), by rw [HST.out]; rfl, .inl ⟨rfl, by rw [HST.out]⟩⟩, ?_⟩
  · exact below_put4 HY7.out.ex.bel _ _ (by omega) (by omega) _ _ _ _
set_option maxRecDepth 100000 in
set_option maxHeartbeats 1600000 in
theorem execute_any (v : Value) (xs : List Int) (s : Int) (l : List UInt8) (w : World) {a0 a1 : Addr} (hG : GlobD w a0 a1) (hv : Ints w v xs) (hid0 : okIdeal xs s = true) (hlen : l.length ≤ 3000)  :
    Calls Tryz.prog 34 #[.agg #[v, .int .i64 s], .string (sB l)] w fun (r : Ending) w' => (∃ u, r = .returned (.tuple #[.agg #[u, .int .i64 (stepD xs s l).2.1], .agg #[(OutD a0 a1 (stepD xs s l).2.2.1 (stepD xs s l).2.2.2).1, (OutD a0 a1 (stepD xs s l).2.2.1 (stepD xs s l).2.2.2).2]]) ∧ ((u = v ∧ (stepD xs s l).1 = xs) ∨ OwnI 3 w' w.heap.size u (stepD xs s l).1)) ∧ Below w.heap.size w w' := by
  cases hq : rqK (w0D l) (tsD l) (tsD l).length with
  | none => exact execute_none v xs s l w hG hv hid0 hlen hq
  | some x =>
    obtain ⟨f, ns, p⟩ := x
    rcases rdD_prog_some (w0D_free l) hq with ⟨cc, h1, h22, hf, hrd, -, -, -⟩ | ⟨hnof, hrd⟩
    · rcases (show cc ≤ 5 ∨ (6 ≤ cc ∧ cc ≤ 12) ∨ (13 ≤ cc ∧ cc ≤ 21) from by omega) with h | h | h
      · exact execute_cp v xs s l w hG hv hid0 hlen hq hf hrd h1 h
      · exact execute_ci v xs s l w hG hv hid0 hlen hq hf hrd h.1 h.2
      · exact execute_an v xs s l w hG hv hid0 hlen hq hf hrd h.1 h.2
    · exact execute_not v xs s l w hG hv hid0 hlen hq hnof hrd
end Go.Proofs.YtbmhaamenjhjfaaGreatDoor
