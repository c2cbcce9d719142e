/- DskD -/
import Derived.Test.YtbmhaamenjhjfaaGreatDoorPkD30
import Derived.Test.YtbmhaamenjhjfaaGreatDoorPkD33
namespace Go.Proofs.YtbmhaamenjhjfaaGreatDoor
open Go.RowKit Go.WideShapes Go.ChangeShapes
set_option linter.unusedVariables false
theorem l1SplitRow_any (c : UInt8) (i : Int) (hi : (c.toNat : Int) = i) (l : List UInt8) (w : World) (hl : l.length ≤ 1048576) :
    Calls Tryz.prog 28 #[.string (sB l), .int .u8 i] w fun (r : Ending) w' => ∃ b n cap, n = (splitL c l).length ∧ r = Ending.returned (.slice (some ⟨b, 0, none⟩) n cap) ∧ n ≤ cap ∧ b < w'.heap.size ∧ w.heap.size ≤ b ∧ (∀ j, j < n → w'.cell? ⟨b, j, none⟩ = some (.string (sB ((splitL c l).getD j [])))) ∧ Below w.heap.size w w' := by
  subst hi
  refine (l1Split_any l c w hl).mono ?_
  rintro r w' ⟨u, rfl, ho, hb⟩
  have h2 : w'.ownsRow w.heap.size 9 1 u (splitL c l).length (strs (splitL c l)) := ho
  have hR := h2.2
  rcases hR with ⟨-, h0⟩ | ⟨g, cap, cur, rfl, hB, hg, hc, hcm, -, -⟩
  · have := splitL_pos c l; omega
  · refine ⟨g, _, cap, rfl, rfl, hc, ?_, hB, fun j hj => ?_, hb⟩
    · rcases Nat.lt_or_ge g w'.heap.size with h | h
      · exact h
      · rw [Array.getElem?_eq_none h] at hg; cases hg
    · have hcell := h2.cellAt j (by omega)
      rw [hcell]
      unfold strs
      rw [List.getElem?_map, List.getElem?_eq_getElem hj]
      simp [List.getD, hj]
theorem rm_stays {ks : List Nat} {ts : List (List UInt8)} {k : Nat} (h : rmK ks ts k = none) : ∀ j, k ≤ j → rmK ks ts j = none := by
  intro j hj
  induction j with
  | zero => obtain rfl : k = 0 := by omega
            exact h
  | succ j ih =>
    rcases Nat.lt_or_ge j k with h1 | h1
    · obtain rfl : k = j + 1 := by omega
      exact h
    · rw [rmK, ih h1]
theorem rm_num {ks : List Nat} {ts : List (List UInt8)} {k : Nat} {ns p : List Int} (h : rmK ks ts k = some (ns, p)) (hk : ks.getD k 2 = 0) (hr : 0 ≤ readL (ts.getD k [])) : rmK ks ts (k + 1) = some (ns ++ [readL (ts.getD k [])], p) := by
  rw [rmK, h]; simp only []; rw [if_pos hk, if_pos hr]
theorem rm_numNo {ks : List Nat} {ts : List (List UInt8)} {k : Nat} {ns p : List Int} (h : rmK ks ts k = some (ns, p)) (hk : ks.getD k 2 = 0) (hr : ¬ 0 ≤ readL (ts.getD k [])) : rmK ks ts (k + 1) = none := by
  rw [rmK, h]; simp only []; rw [if_pos hk, if_neg hr]
theorem rm_pos {ks : List Nat} {ts : List (List UInt8)} {k : Nat} {ns p q : List Int} (h : rmK ks ts k = some (ns, p)) (hk : ks.getD k 2 = 1) (hq : prI (ts.getD k []) = some q) : rmK ks ts (k + 1) = some (ns, q) := by
  rw [rmK, h]; simp only []; rw [if_neg (by omega), if_pos hk, hq]
theorem rm_posNo {ks : List Nat} {ts : List (List UInt8)} {k : Nat} {ns p : List Int} (h : rmK ks ts k = some (ns, p)) (hk : ks.getD k 2 = 1) (hq : prI (ts.getD k []) = none) : rmK ks ts (k + 1) = none := by
  rw [rmK, h]; simp only []; rw [if_neg (by omega), if_pos hk, hq]
theorem kind_fin : ∀ c : Fin 22, ∀ k : Fin 2, k.val < (ksD c.val).length → (c.val = 1 ∧ k.val = 0 ∧ (ksD c.val).getD k.val 2 = 1) ∨ (c.val ≠ 1 ∧ (ksD c.val).getD k.val 2 = 0) := by decide
theorem kind_len : ∀ c : Fin 22, (ksD c.val).length ≤ 2 ∧ (c.val ≠ 0 → (shD c.val).length = (ksD c.val).length) ∧ (c.val = 1 → (ksD c.val).length = 1) := by decide
theorem shape_fin : ∀ c : Fin 22, ∀ k : Fin 2, k.val < (shD c.val).length → ((shD c.val).getD k.val 0).toNat = (if c.val = 0 then 63 else if c.val = 1 then 112 else 110) := by decide
theorem shD_len {c : Nat} (hc : c < 22) : (shD c).length ≤ 2 ∧ (c = 0 → (shD c).length = 1) ∧ (c ≠ 0 → (shD c).length = (ksD c).length) ∧ (c = 1 → (ksD c).length = 1) := by
  have h := kind_len ⟨c, hc⟩
  simp only at h
  by_cases h0 : c = 0
  · subst h0; decide
  · refine ⟨by rw [h.2.1 h0]; exact h.1, fun e => absurd e h0, h.2.1, h.2.2⟩
theorem kind_at {c k : Nat} (hc : c < 22) (h0 : c ≠ 0) (hk : k < (shD c).length) : (c = 1 ∧ k = 0 ∧ (ksD c).getD k 2 = 1) ∨ (c ≠ 1 ∧ (ksD c).getD k 2 = 0) := by
  have h := shD_len hc
  exact kind_fin ⟨c, hc⟩ ⟨k, by omega⟩ (by have := h.2.2.1 h0; simp only; omega)
theorem shape_at {c k : Nat} (hc : c < 22) (hk : k < (shD c).length) : ((shD c).getD k 0).toNat = (if c = 0 then 63 else if c = 1 then 112 else 110) := by
  have h := shD_len hc
  exact shape_fin ⟨c, hc⟩ ⟨k, by omega⟩ hk
theorem ln_zero {l : List UInt8} (h : ixD (w0D l) = 0) : lnD l = none := rdD_zero h
theorem ln_long {l : List UInt8} (h0 : ixD (w0D l) ≠ 0) (h : (ksD (ixD (w0D l))).length ≠ (tsD l).length) : lnD l = none := rdD_long h
theorem ln_none {l : List UInt8} (h0 : ixD (w0D l) ≠ 0) (h : (ksD (ixD (w0D l))).length = (tsD l).length) {k : Nat} (hk : k ≤ (tsD l).length) (hr : rmK (ksD (ixD (w0D l))) (tsD l) k = none) : lnD l = none := by
  unfold lnD
  rw [← rdD_model h0 h, rm_stays hr _ hk]; rfl
theorem ln_some {l : List UInt8} (h0 : ixD (w0D l) ≠ 0) (h : (ksD (ixD (w0D l))).length = (tsD l).length) {ns p : List Int} (hr : rmK (ksD (ixD (w0D l))) (tsD l) (tsD l).length = some (ns, p)) : lnD l = some (ixD (w0D l), ns, p) := by
  unfold lnD
  rw [← rdD_model h0 h, hr]; rfl
theorem own_setB {ti : TypeId} {W : World} {g B : Nat} {u : Value} {xs : List Int} (h : OwnI ti W B u xs) (hg : g < B) (i : Nat) (y : Value) : OwnI ti (W.setCell ⟨g, i, none⟩ y) B u xs := by
  have ht := (TurnedIn.refl g (g + 1) W).set_ ⟨g, i, none⟩ ⟨Nat.le_refl _, Nat.lt_succ_self _⟩ y
  exact h.turned ht (OwnI.blockLt h) (Or.inr hg)
structure RdW (w1 : World) (g c : Nat) (ts : List (List UInt8)) (k : Nat) (dv : Value) (s : Int) (ns p : List Int) (nv tv : Value) (wr : World) : Prop where
  rd : c ≠ 0 → rmK (ksD c) ts k = some (ns, p)
  nz : c = 0 → k = 0
  box : Blk wr g 79 #[dv, .int .i64 s, tv, nv]
  num : OwnI 3 wr w1.heap.size nv ns
  pos : OwnI 3 wr w1.heap.size tv p
  one : c = 1 → nv = .slice none 0 0
  oth : c ≠ 1 → p = [] ∧ tv = .slice none 0 0
  lt : g < w1.heap.size
  len : ns.length ≤ k
  tin : TurnedIn g (g + 1) w1 wr
theorem RdW.below {w1 : World} {g c : Nat} {ts : List (List UInt8)} {k : Nat} {dv : Value} {s : Int} {ns p : List Int} {nv tv : Value} {wr W : World} (h : RdW w1 g c ts k dv s ns p nv tv wr) (hb : Below wr.heap.size wr W) : RdW w1 g c ts k dv s ns p nv tv W :=
  ⟨h.rd, h.nz, h.box.below hb h.box.lt, h.num.below hb, h.pos.below hb, h.one, h.oth, h.lt, h.len, h.tin.belowB hb h.tin.size⟩
theorem RdW.cell {w1 : World} {g c : Nat} {ts : List (List UInt8)} {k : Nat} {dv : Value} {s : Int} {ns p : List Int} {nv tv : Value} {wr : World} (h : RdW w1 g c ts k dv s ns p nv tv wr) {b o : Nat} (hb : b < w1.heap.size) (hg : b < g ∨ g < b) : wr.cell? ⟨b, o, none⟩ = w1.cell? ⟨b, o, none⟩ :=
  World.cell?_of_block (a := ⟨b, o, none⟩) (h.tin.block b hb (by omega))
structure RdF (w1 : World) (g : Nat) (dv : Value) (s : Int) (nv tv : Value) (wr : World) : Prop where
  box : Blk wr g 79 #[dv, .int .i64 s, tv, nv]
  lt : g < w1.heap.size
  tin : TurnedIn g (g + 1) w1 wr
structure RdZ (w W : World) (g : Nat) (dv : Value) (s : Int) : Prop where
  k0 : Blk W w.heap.size 30 #[dv, .int .i64 s]
  k1 : Blk W (w.heap.size + 1) 79 #[.slice none 0 0, .int .i64 0, .slice none 0 0, .slice none 0 0]
  k2 : Blk W (w.heap.size + 2) 79 #[dv, .int .i64 s, .slice none 0 0, .slice none 0 0]
  bel : Below w.heap.size w W
theorem RdZ.below {w W W' : World} {g : Nat} {dv : Value} {s : Int} (h : RdZ w W g dv s) (hb : Below W.heap.size W W') : RdZ w W' g dv s :=
  ⟨h.k0.below hb h.k0.lt, h.k1.below hb h.k1.lt, h.k2.below hb h.k2.lt, below_to h.bel hb⟩
theorem RdZ.new (w : World) (dv : Value) (s : Int) : RdZ w (((w.alloc (.cells #[dv, .int .i64 s] 30)).alloc (.cells #[.slice none 0 0, .int .i64 0, .slice none 0 0, .slice none 0 0] 79)).alloc (.cells #[dv, .int .i64 s, .slice none 0 0, .slice none 0 0] 79)) (w.heap.size + 2) dv s where
  k0 := ((Blk.new w _ _).alloc _).alloc _
  k1 := (Blk.newAt _ _ _ _ (by simp)).alloc _
  k2 := Blk.newAt _ _ _ _ (by simp)
  bel := below_alloc (below_alloc (below_alloc (Below.refl _ _) _) _) _
theorem below_putC {a W : World} (h : Below a.heap.size a W) (b : Nat) (hb : a.heap.size ≤ b) (y0 y1 y2 y3 : Value) : Below a.heap.size a ((((W.setCell ⟨b, 0, none⟩ y0).setCell ⟨b, 1, none⟩ y1).setCell ⟨b, 2, none⟩ y2).setCell ⟨b, 3, none⟩ y3) :=
  (((h.setCell (p := ⟨b, 0, none⟩) hb _).setCell (p := ⟨b, 1, none⟩) hb _).setCell (p := ⟨b, 2, none⟩) hb _).setCell (p := ⟨b, 3, none⟩) hb _
theorem own_putC {W : World} {g B : Nat} {u : Value} {xs : List Int} {ti : TypeId} (h : OwnI ti W B u xs) (hg : g < B) (y0 y1 y2 y3 : Value) : OwnI ti ((((W.setCell ⟨g, 0, none⟩ y0).setCell ⟨g, 1, none⟩ y1).setCell ⟨g, 2, none⟩ y2).setCell ⟨g, 3, none⟩ y3) B u xs :=
  own_setB (own_setB (own_setB (own_setB h hg 0 y0) hg 1 y1) hg 2 y2) hg 3 y3
def EndR (w0 : Nat) (l : List UInt8) (dv : Value) (s : Int) (r : Ending) (w' : World) : Prop :=
  (lnD l = none ∧ ∃ tA tn tc nA nn nc, r = .returned (.tuple #[.string { data := #[] }, .agg #[dv, .int .i64 s, .slice tA tn tc, .slice nA nn nc], .bool false])) ∨
  ∃ c ns p tA tn tc nA nn nc, lnD l = some (c, ns, p) ∧ r = .returned (.tuple #[.string (sB (nmD c)), .agg #[dv, .int .i64 s, .slice tA tn tc, .slice nA nn nc], .bool true]) ∧ OwnI 3 w' w0 (.slice nA nn nc) ns ∧ OwnI 3 w' w0 (.slice tA tn tc) p
set_option maxRecDepth 100000 in
set_option maxHeartbeats 1600000 in
theorem coRead_any (v : Value) (xs : List Int) (s : Int) (l : List UInt8) (w : World) (hv : Ints w v xs) (hl : l.length ≤ 3000) :
    Calls Tryz.prog 46 #[.agg #[v, .int .i64 s], .string (sB l)] w fun (r : Ending) w' => EndR w.heap.size l v s r w' ∧ Below w.heap.size w w' := by
  have HV := hid hv
  obtain ⟨A, c0, rfl, -⟩ := hv
  have HZ := hid (RdZ.new w (.slice A xs.length c0) s)
  have hlen := tsD_length l
  have h0 : (splitL 32 l).getD 0 [] = w0D l := rfl
  have HT := hid (fun k => tsD_getD l k)
  have HPart := hid (fun k => tsD_part l k)
  have HFree := hid (w0D_free l)
  have hw0l : (w0D l).length ≤ 3000 := Nat.le_trans (splitL_part 32 l 0) hl
  have hnl := splitL_length 32 l
  have hc22 := ixD_lt (w0D l)
  have HZero := hid (ln_zero (l := l))
  have HLong := hid (ln_long (l := l))
  have HNone := hid (fun a b (k : Nat) d e => ln_none (l := l) a b (k := k) d e)
  have HSome := hid (fun a b ns p e => ln_some (l := l) a b (ns := ns) (p := p) e)
  have HAt := hid (fun h => ixD_at (l := w0D l) h)
  obtain ⟨W0, hW0⟩ : ∃ x, w0D l = x := ⟨_, rfl⟩
  obtain ⟨ts, hTS⟩ : ∃ x, tsD l = x := ⟨_, rfl⟩
  rw [hW0] at h0 hw0l hc22 HFree HZero HLong HNone HSome HAt
  rw [hTS] at hlen HT HPart HLong HNone HSome
  obtain ⟨m, hm⟩ : ∃ m, ts.length = m := ⟨_, rfl⟩
  have HM := hid hm
  rw [hm] at hlen HLong HNone HSome
  have HSh := hid (fun W => coShape_any W0 W HFree.out)
  obtain ⟨c, hc⟩ : ∃ c, ixD W0 = c := ⟨_, rfl⟩
  rw [hc] at hc22 HZero HLong HNone HSome HAt HSh
  have hSz := sB_size (shD c)
  have HGet := hid (sB_get (shD c))
  have HShL := hid (shD_len hc22)
  have HShA := hid (fun k hk => shape_at (c := c) (k := k) hc22 hk)
  have HKd := hid (fun h k hk => kind_at (c := c) (k := k) hc22 h hk)
  obtain ⟨M, hM⟩ : ∃ M, (shD c).length = M := ⟨_, rfl⟩
  rw [hM] at hSz HShL HShA HKd
  obtain ⟨S, hS⟩ : ∃ S, sB (shD c) = S := ⟨_, rfl⟩
  rw [hS] at hSz HGet HSh
  have hM2 : M ≤ 2 := HShL.out.1
  have H0 := hid h0
  have HLen := hid (show m + 1 = (splitL 32 l).length from hlen)
  clear hW0 hTS hm h0 hlen hc hM hS
  go_enter Tryz.func46, Tryz.ntmps46
  go_wp2_with fail
  generalize (((w.alloc (.cells #[.slice A xs.length c0, .int .i64 s] 30)).alloc (.cells #[.slice none 0 0, .int .i64 0, .slice none 0 0, .slice none 0 0] 79)).alloc (.cells #[.slice A xs.length c0, .int .i64 s, .slice none 0 0, .slice none 0 0] 79)) = W at HZ ⊢
  have hzW : w.heap.size + 3 ≤ W.heap.size := HZ.out.k2.lt
  refine (l1SplitRow_any 32 _ rfl l _ (by omega)).mono ?_
  rintro e w1 ⟨b, n, cap, hn, rfl, hcap, hbl, hbw, hcell, hb⟩
  have HZ1 := hid (HZ.out.below hb)
  rw [← HLen.out] at hn
  subst hn
  have k0 : w1.cell? ⟨b, 0, none⟩ = some (.string (sB W0)) := by rw [← H0.out]; exact hcell 0 (by omega)
  have HC2 : Hid (∀ k, k < m → w1.cell? ⟨b, k + 1, none⟩ = some (.string (sB (ts.getD k [])))) := hid (fun k hk => by
    rw [HT.out k]; exact hcell (k + 1) (by omega))
  have K0 := hid k0
  have hm1 : IntKind.i64.wrap ((((m + 1 : Nat) : Int)) - 1) = (m : Int) := by
    have hm3 : m ≤ 3000 := by have := HLen.out; omega
    rw [show (((m + 1 : Nat) : Int)) - 1 = (m : Int) by omega]
    exact wrap_small _ (by omega) (by omega)
  have hm3 : m ≤ 3000 := by have := HLen.out; omega
  clear hb hcell HT hnl H0 HLen
  go_wp2_with fail
  clear k0
  refine (HSh.out _).mono ?_
  rintro e w' ⟨rfl, hw⟩
  rw [hw]
  clear hw w'
  by_cases hM : M = m
  · subst hM
    have hMe : ((S.size : Int) != (M : Int)) = false := by rw [hSz]; simp
    by_cases hcp : cap = 1
    · have hM0 : M = 0 := by omega
      subst hM0
      subst hcp
      go_wp2
      have HE0 : Hid (RdW w1 (w.heap.size + 2) c ts 0 (.slice A xs.length c0) s [] [] (.slice none 0 0) (.slice none 0 0) w1) := hid ⟨fun _ => rfl, fun _ => rfl, HZ1.out.k2, OwnI.nil _ _ _, OwnI.nil _ _ _, fun _ => rfl, fun _ => ⟨rfl, rfl⟩, HZ1.out.k2.lt, Nat.le_refl _, TurnedIn.refl _ _ _⟩
      have hz1 : w.heap.size + 3 ≤ w1.heap.size := HZ1.out.k2.lt
      refine wp_loop_rounds 1 ?_
      rw [rounds_succ]
      obtain ⟨ns, hns⟩ : ∃ ns : List Int, ns = [] := ⟨_, rfl⟩
      obtain ⟨p, hp⟩ : ∃ p : List Int, p = [] := ⟨_, rfl⟩
      have HEz : Hid (RdW w1 (w.heap.size + 2) c ts 0 (.slice A xs.length c0) s ns p (.slice none 0 0) (.slice none 0 0) w1) := hid (by rw [hns, hp]; exact HE0.out)
      clear hns hp
      have b0 : w1.cell? ⟨w.heap.size + 2, 0, none⟩ = some (.slice A xs.length c0) := HEz.out.box.cell 0
      have b1 : w1.cell? ⟨w.heap.size + 2, 1, none⟩ = some (.int .i64 s) := HEz.out.box.cell 1
      have b2 : w1.cell? ⟨w.heap.size + 2, 2, none⟩ = some (.slice none 0 0) := HEz.out.box.cell 2
      have b3 : w1.cell? ⟨w.heap.size + 2, 3, none⟩ = some (.slice none 0 0) := HEz.out.box.cell 3
      have HK1 := hid (show Blk w1 (w.heap.size + 1) 79 #[.slice none 0 0, .int .i64 0, .slice none 0 0, .slice none 0 0] from (HEz.out.tin.block _ (by omega) (by omega)).trans HZ1.out.k1)
      have r0 : w1.cell? ⟨w.heap.size + 1, 0, none⟩ = some (.slice none 0 0) := HK1.out.cell 0
      have y0 := HK1.out.frozen 0
      have r1 : w1.cell? ⟨w.heap.size + 1, 1, none⟩ = some (.int .i64 0) := HK1.out.cell 1
      have y1 := HK1.out.frozen 1
      have r2 : w1.cell? ⟨w.heap.size + 1, 2, none⟩ = some (.slice none 0 0) := HK1.out.cell 2
      have y2 := HK1.out.frozen 2
      have r3 : w1.cell? ⟨w.heap.size + 1, 3, none⟩ = some (.slice none 0 0) := HK1.out.cell 3
      have y3 := HK1.out.frozen 3
      have hgz := HEz.out.lt
      have h0 : c ≠ 0 := fun e => by have h1 := HEz.out.nz e; have h2 := HShL.out.2.1 e; omega
      have HLe : Hid ((ksD c).length = 0) := hid (by have := HShL.out.2.2.1 h0; omega)
      have HS := hid (HSome.out h0 HLe.out ns p (HEz.out.rd h0))
      have HW0 := hid (HAt.out h0)
      clear h0
      have kc : w1.cell? ⟨b, 0, none⟩ = some (.string (sB W0)) := K0.out
      have hzw := HEz.out.tin.size
      go_upto_region 21 with (fail)
      go_region
      go_wp2
      refine bodyPost_ret (v := .tuple #[.string (sB W0), .agg #[.slice A xs.length c0, .int .i64 s, .slice none 0 0, .slice none 0 0], .bool true]) (by simp [results, Tryz.results46, go_sem, r0, r1, r2, r3]) rfl ⟨.inr ⟨c, ns, p, _, _, _, _, _, _, HS.out, by rw [HW0.out], ?_, ?_⟩, ?_⟩
      · exact ((own_putC HEz.out.num (by omega) _ _ _ _).below (below_drewN (Below.refl _ _) 1)).mono (by omega)
      · exact ((own_putC HEz.out.pos (by omega) _ _ _ _).below (below_drewN (Below.refl _ _) 1)).mono (by omega)
      · exact below_drewN (below_putC (below_turned HZ1.out.bel HEz.out.tin (by omega)) (w.heap.size + 1) (by omega) _ _ _ _) 1
    · have hcp1 : cap - 1 ≠ 0 := by omega
      go_wp2
      have HE0 : Hid (RdW w1 (w.heap.size + 2) c ts 0 (.slice A xs.length c0) s [] [] (.slice none 0 0) (.slice none 0 0) w1) := hid ⟨fun _ => rfl, fun _ => rfl, HZ1.out.k2, OwnI.nil _ _ _, OwnI.nil _ _ _, fun _ => rfl, fun _ => ⟨rfl, rfl⟩, HZ1.out.k2.lt, Nat.le_refl _, TurnedIn.refl _ _ _⟩
      have hz1 : w.heap.size + 3 ≤ w1.heap.size := HZ1.out.k2.lt
      go_loopw [32] (fun i wr => ∃ (k : Nat) (ns p : List Int) (nv tv : Value), k ≤ M ∧ i = .int .i64 k ∧ RdW w1 (w.heap.size + 2) c ts k (.slice A xs.length c0) s ns p nv tv wr) (fun i _ => M - (intOf i).toNat)
      case atStart => exact ⟨0, _, _, _, _, Nat.zero_le _, rfl, HE0.out⟩
      case round =>
        obtain ⟨k, ns, p, nv, tv, hk, rfl, hR⟩ := hrel
        have HE := hid hR
        obtain ⟨nA, nn, nc, rfl⟩ := hR.num.shape3
        obtain ⟨tA, tn, tc, rfl⟩ := hR.pos.shape3
        clear hR
        by_cases hlt : k < M
        · obtain ⟨t, ht⟩ : ∃ t, ts.getD k [] = t := ⟨_, rfl⟩
          have htl : t.length ≤ 3000 := by rw [← ht]; exact Nat.le_trans (HPart.out k) hl
          have kc : wr.cell? ⟨b, 1 + k, none⟩ = some (.string (sB t)) := by
            rw [Nat.add_comm 1 k, ← ht]; exact (HE.out.cell hbl (by omega)).trans (HC2.out k hlt)
          have HTt := hid ht
          have HSh0 := hid (HShA.out k hlt)
          have hkz : k < S.size := by omega
          have hgw : w.heap.size + 2 < wr.heap.size := HE.out.box.lt
          have hwz : w1.heap.size ≤ wr.heap.size := HE.out.tin.size
          clear ht
          by_cases h0 : c = 0
          · have hik : ∀ h, ((S[k]'h).toNat : Int) = 63 := fun h => by rw [HGet.out k h, HSh0.out, if_pos h0]; rfl
            have HN := hid (HZero.out h0)
            clear h0
            have b0 : wr.cell? ⟨w.heap.size + 2, 0, none⟩ = some (.slice A xs.length c0) := HE.out.box.cell 0
            have b1 : wr.cell? ⟨w.heap.size + 2, 1, none⟩ = some (.int .i64 s) := HE.out.box.cell 1
            have b2 : wr.cell? ⟨w.heap.size + 2, 2, none⟩ = some (.slice tA tn tc) := HE.out.box.cell 2
            have b3 : wr.cell? ⟨w.heap.size + 2, 3, none⟩ = some (.slice nA nn nc) := HE.out.box.cell 3
            have HK1 := hid (show Blk wr (w.heap.size + 1) 79 #[.slice none 0 0, .int .i64 0, .slice none 0 0, .slice none 0 0] from (HE.out.tin.block _ (by omega) (by omega)).trans HZ1.out.k1)
            have r0 : wr.cell? ⟨w.heap.size + 1, 0, none⟩ = some (.slice none 0 0) := HK1.out.cell 0
            have y0 := HK1.out.frozen 0
            have r1 : wr.cell? ⟨w.heap.size + 1, 1, none⟩ = some (.int .i64 0) := HK1.out.cell 1
            have y1 := HK1.out.frozen 1
            have r2 : wr.cell? ⟨w.heap.size + 1, 2, none⟩ = some (.slice none 0 0) := HK1.out.cell 2
            have y2 := HK1.out.frozen 2
            have r3 : wr.cell? ⟨w.heap.size + 1, 3, none⟩ = some (.slice none 0 0) := HK1.out.cell 3
            have y3 := HK1.out.frozen 3
            have hgz := HE.out.lt
            go_upto_region 19 with (fail)
            go_region
            go_wp2
            refine bodyPost_ret (v := .tuple #[.string { data := #[] }, .agg #[.slice A xs.length c0, .int .i64 s, .slice tA tn tc, .slice nA nn nc], .bool false]) (by simp [results, Tryz.results46, go_sem, r0, r1, r2, r3]) rfl ⟨.inl ⟨HN.out, _, _, _, _, _, _, rfl⟩, ?_⟩
            exact below_drewN (below_putC (below_turned HZ1.out.bel HE.out.tin (by omega)) (w.heap.size + 1) (by omega) _ _ _ _) 1
          · have HLe : Hid ((ksD c).length = M) := hid (by have := HShL.out.2.2.1 h0; omega)
            have H0c := hid h0
            rcases HKd.out h0 k hlt with ⟨hc1, hk0, hkd⟩ | ⟨hc1, hkd⟩
            · have hik : ∀ h, ((S[k]'h).toNat : Int) = 112 := fun h => by rw [HGet.out k h, HSh0.out, if_neg h0, if_pos hc1]; rfl
              have HNs := hid (fun q hq => rm_pos (HE.out.rd h0) hkd (q := q) (by rw [HTt.out]; exact hq))
              have HNo := hid (fun hq => rm_posNo (HE.out.rd h0) hkd (by rw [HTt.out]; exact hq))
              have HC1 := hid hc1
              clear h0 hc1 hk0 hkd
              go_wp2_with fail
              clear kc hik
              refine (poParse_any t _ (by omega)).mono ?_
              rintro e w3 ⟨q, rfl, ho, hb3⟩
              rw [prS_eq t] at ho ⊢
              have HE3 := hid (HE.out.below hb3)
              have HO3 := hid (OwnI.mono ho hwz)
              have hz3 : wr.heap.size ≤ w3.heap.size := hb3.size
              obtain ⟨qA, qn, qc, rfl⟩ := ho.shape3
              have HF4 : Hid (RdF w1 (w.heap.size + 2) (.slice A xs.length c0) s (.slice nA nn nc) (.slice qA qn qc) (w3.setCell ⟨w.heap.size + 2, 2, none⟩ (.slice qA qn qc))) := hid ⟨HE3.out.box.set_ 2 _, HE3.out.lt, HE3.out.tin.set_ _ ⟨Nat.le_refl _, Nat.lt_succ_self _⟩ _⟩
              have HN4 := hid (own_setB HE3.out.num HE3.out.lt 2 (.slice qA qn qc))
              have HO4 := hid (own_setB HO3.out HE3.out.lt 2 (.slice qA qn qc))
              have HOne := hid HE3.out.one
              have HLn := hid HE3.out.len
              have t2 : w3.cell? ⟨w.heap.size + 2, 2, none⟩ = some (.slice tA tn tc) := HE3.out.box.cell 2
              have tf := HE3.out.box.frozen 2
              clear ho hb3 HE
              cases hq : prI t with
              | none =>
                have HN := hid (HNone.out H0c.out HLe.out (k + 1) (by omega) (HNo.out hq))
                go_upto_region 18 with (fail)
                generalize w3.setCell ⟨w.heap.size + 2, 2, none⟩ (.slice qA qn qc) = W4 at HF4 ⊢
                clear t2 tf HNs HNo HO4 HN4
                have b0 : W4.cell? ⟨w.heap.size + 2, 0, none⟩ = some (.slice A xs.length c0) := HF4.out.box.cell 0
                have b1 : W4.cell? ⟨w.heap.size + 2, 1, none⟩ = some (.int .i64 s) := HF4.out.box.cell 1
                have b2 : W4.cell? ⟨w.heap.size + 2, 2, none⟩ = some (.slice qA qn qc) := HF4.out.box.cell 2
                have b3 : W4.cell? ⟨w.heap.size + 2, 3, none⟩ = some (.slice nA nn nc) := HF4.out.box.cell 3
                have HK1 := hid (show Blk W4 (w.heap.size + 1) 79 #[.slice none 0 0, .int .i64 0, .slice none 0 0, .slice none 0 0] from (HF4.out.tin.block _ (by omega) (by omega)).trans HZ1.out.k1)
                have r0 : W4.cell? ⟨w.heap.size + 1, 0, none⟩ = some (.slice none 0 0) := HK1.out.cell 0
                have y0 := HK1.out.frozen 0
                have r1 : W4.cell? ⟨w.heap.size + 1, 1, none⟩ = some (.int .i64 0) := HK1.out.cell 1
                have y1 := HK1.out.frozen 1
                have r2 : W4.cell? ⟨w.heap.size + 1, 2, none⟩ = some (.slice none 0 0) := HK1.out.cell 2
                have y2 := HK1.out.frozen 2
                have r3 : W4.cell? ⟨w.heap.size + 1, 3, none⟩ = some (.slice none 0 0) := HK1.out.cell 3
                have y3 := HK1.out.frozen 3
                have hgz := HF4.out.lt
                go_upto_region 19 with (fail)
                go_region
                go_wp2
                refine bodyPost_ret (v := .tuple #[.string { data := #[] }, .agg #[.slice A xs.length c0, .int .i64 s, .slice qA qn qc, .slice nA nn nc], .bool false]) (by simp [results, Tryz.results46, go_sem, r0, r1, r2, r3]) rfl ⟨.inl ⟨HN.out, _, _, _, _, _, _, rfl⟩, ?_⟩
                exact below_drewN (below_putC (below_turned HZ1.out.bel HF4.out.tin (by omega)) (w.heap.size + 1) (by omega) _ _ _ _) 1
              | some xq =>
                have HR := hid (HNs.out xq hq)
                rw [hq] at HO4
                go_upto_region 18 with (fail)
                generalize w3.setCell ⟨w.heap.size + 2, 2, none⟩ (.slice qA qn qc) = W4 at HF4 HO4 HN4 ⊢
                clear t2 tf HNs HNo hq
                go_wp2
                go_roundw
                case rel => exact ⟨k + 1, ns, xq, _, _, by omega, by go_num, fun _ => HR.out, fun h => absurd h H0c.out, HF4.out.box, HN4.out, HO4.out, HOne.out, fun h => absurd HC1.out h, HF4.out.lt, by have := HLn.out; omega, HF4.out.tin⟩
                case measure => simp [intOf] <;> omega
            · have hik : ∀ h, ((S[k]'h).toNat : Int) = 110 := fun h => by rw [HGet.out k h, HSh0.out, if_neg h0, if_neg hc1]; rfl
              have HNs := hid (fun (hq : 0 ≤ readL t) => rm_num (HE.out.rd h0) hkd (by rw [HTt.out]; exact hq))
              have HNo := hid (fun (hq : ¬ 0 ≤ readL t) => rm_numNo (HE.out.rd h0) hkd (by rw [HTt.out]; exact hq))
              rw [HTt.out] at HNs
              have HC1 := hid hc1
              obtain ⟨rfl, htv⟩ := HE.out.oth hc1
              injection htv with e1 e2 e3
              subst e1 e2 e3
              have HLn := hid HE.out.len
              have hnl : ns.length ≤ 3000 := by have := HE.out.len; omega
              clear h0 hc1 hkd
              go_wp2_with fail
              clear kc hik
              refine (l1Read_any t _ (by omega)).mono ?_
              rintro e w' ⟨rfl, hw⟩
              rw [← hw]
              clear hw w'
              obtain ⟨x, hx⟩ : ∃ x, readL t = x := ⟨_, rfl⟩
              rw [hx] at HNs HNo ⊢
              have n3 : wr.cell? ⟨w.heap.size + 2, 3, none⟩ = some (.slice nA nn nc) := HE.out.box.cell 3
              have nf := HE.out.box.frozen 3
              clear hx
              by_cases hx : 0 ≤ x
              · have HH := hid (HNs.out (by omega))
                have hge : (decide ((0 : Int) ≤ x)) = true := decide_eq_true hx
                have hx' : (0 : Int) ≤ x := hx
                clear HNs HNo hx
                have HNum := hid HE.out.num
                have HBx := hid HE.out.box
                have HLt := hid HE.out.lt
                have HTn := hid HE.out.tin
                obtain ⟨nA', nn', nc', hsh⟩ : ∃ A n c, Value.slice nA nn nc = .slice A n c := ⟨_, _, _, rfl⟩
                clear hsh nA' nn' nc'
                go_wp2_with (at_builtin; refine wpList_append_int rfl _ _ 22 3 rfl Tryz.underlying22 Tryz.info3 w1.heap.size _ ns x rfl HNum.out rfl rfl (by omega) hwz ?_; rintro q4 w4 ho4 hb4; obtain ⟨qA, qn, qc, rfl⟩ := ho4.shape3; have HB4 := hid (show Blk w4 (w.heap.size + 2) 79 #[(.slice A xs.length c0), .int .i64 s, .slice none 0 0, (.slice nA nn nc)] from (hb4.block _ HLt.out).trans HBx.out); have HT4 : Hid (TurnedIn (w.heap.size + 2) (w.heap.size + 2 + 1) w1 w4) := hid (HTn.out.belowB hb4 (Nat.le_refl _)); have m3 : w4.cell? ⟨w.heap.size + 2, 3, none⟩ = some (.slice nA nn nc) := HB4.out.cell 3; have mf := HB4.out.frozen 3)
                go_roundw
                case rel => exact ⟨k + 1, ns ++ [x], [], _, _, by omega, by go_num, fun _ => HH.out, fun h => absurd h H0c.out, HB4.out.set_ 3 _, own_setB ho4 HLt.out 3 _, OwnI.nil _ _ _, fun h => absurd h HC1.out, fun _ => ⟨rfl, rfl⟩, HLt.out, by simp; exact HLn.out, HT4.out.set_ _ ⟨Nat.le_refl _, Nat.lt_succ_self _⟩ _⟩
                case measure => simp [intOf] <;> omega
              · have HH := hid (HNo.out (by omega))
                have hge : (decide ((0 : Int) ≤ x)) = false := decide_eq_false hx
                have hx' : ¬ (0 : Int) ≤ x := hx
                clear HNs HNo hx
                have HNum := hid HE.out.num
                have HBx := hid HE.out.box
                have HLt := hid HE.out.lt
                have HTn := hid HE.out.tin
                obtain ⟨nA', nn', nc', hsh⟩ : ∃ A n c, Value.slice nA nn nc = .slice A n c := ⟨_, _, _, rfl⟩
                clear hsh nA' nn' nc'
                have HN := hid (HNone.out H0c.out HLe.out (k + 1) (by omega) HH.out)
                go_upto_region 18 with (at_builtin; refine wpList_append_int rfl _ _ 22 3 rfl Tryz.underlying22 Tryz.info3 w1.heap.size _ ns x rfl HNum.out rfl rfl (by omega) hwz ?_; rintro q4 w4 ho4 hb4; obtain ⟨qA, qn, qc, rfl⟩ := ho4.shape3; have HB4 := hid (show Blk w4 (w.heap.size + 2) 79 #[(.slice A xs.length c0), .int .i64 s, .slice none 0 0, (.slice nA nn nc)] from (hb4.block _ HLt.out).trans HBx.out); have HT4 : Hid (TurnedIn (w.heap.size + 2) (w.heap.size + 2 + 1) w1 w4) := hid (HTn.out.belowB hb4 (Nat.le_refl _)); have m3 : w4.cell? ⟨w.heap.size + 2, 3, none⟩ = some (.slice nA nn nc) := HB4.out.cell 3; have mf := HB4.out.frozen 3)
                have HF4 : Hid (RdF w1 (w.heap.size + 2) (.slice A xs.length c0) s (.slice qA qn qc) (.slice none 0 0) (w4.setCell ⟨w.heap.size + 2, 3, none⟩ (.slice qA qn qc))) := hid ⟨HB4.out.set_ 3 _, HLt.out, HT4.out.set_ _ ⟨Nat.le_refl _, Nat.lt_succ_self _⟩ _⟩
                clear m3 mf n3 nf
                generalize w4.setCell ⟨w.heap.size + 2, 3, none⟩ (.slice qA qn qc) = W4 at HF4 ⊢
                have b0 : W4.cell? ⟨w.heap.size + 2, 0, none⟩ = some (.slice A xs.length c0) := HF4.out.box.cell 0
                have b1 : W4.cell? ⟨w.heap.size + 2, 1, none⟩ = some (.int .i64 s) := HF4.out.box.cell 1
                have b2 : W4.cell? ⟨w.heap.size + 2, 2, none⟩ = some (.slice none 0 0) := HF4.out.box.cell 2
                have b3 : W4.cell? ⟨w.heap.size + 2, 3, none⟩ = some (.slice qA qn qc) := HF4.out.box.cell 3
                have HK1 := hid (show Blk W4 (w.heap.size + 1) 79 #[.slice none 0 0, .int .i64 0, .slice none 0 0, .slice none 0 0] from (HF4.out.tin.block _ (by omega) (by omega)).trans HZ1.out.k1)
                have r0 : W4.cell? ⟨w.heap.size + 1, 0, none⟩ = some (.slice none 0 0) := HK1.out.cell 0
                have y0 := HK1.out.frozen 0
                have r1 : W4.cell? ⟨w.heap.size + 1, 1, none⟩ = some (.int .i64 0) := HK1.out.cell 1
                have y1 := HK1.out.frozen 1
                have r2 : W4.cell? ⟨w.heap.size + 1, 2, none⟩ = some (.slice none 0 0) := HK1.out.cell 2
                have y2 := HK1.out.frozen 2
                have r3 : W4.cell? ⟨w.heap.size + 1, 3, none⟩ = some (.slice none 0 0) := HK1.out.cell 3
                have y3 := HK1.out.frozen 3
                have hgz := HF4.out.lt
                go_upto_region 19 with (fail)
                go_region
                go_wp2
                refine bodyPost_ret (v := .tuple #[.string { data := #[] }, .agg #[.slice A xs.length c0, .int .i64 s, .slice none 0 0, .slice qA qn qc], .bool false]) (by simp [results, Tryz.results46, go_sem, r0, r1, r2, r3]) rfl ⟨.inl ⟨HN.out, _, _, _, _, _, _, rfl⟩, ?_⟩
                exact below_drewN (below_putC (below_turned HZ1.out.bel HF4.out.tin (by omega)) (w.heap.size + 1) (by omega) _ _ _ _) 1
        · obtain rfl : k = M := by omega
          have b0 : wr.cell? ⟨w.heap.size + 2, 0, none⟩ = some (.slice A xs.length c0) := HE.out.box.cell 0
          have b1 : wr.cell? ⟨w.heap.size + 2, 1, none⟩ = some (.int .i64 s) := HE.out.box.cell 1
          have b2 : wr.cell? ⟨w.heap.size + 2, 2, none⟩ = some (.slice tA tn tc) := HE.out.box.cell 2
          have b3 : wr.cell? ⟨w.heap.size + 2, 3, none⟩ = some (.slice nA nn nc) := HE.out.box.cell 3
          have HK1 := hid (show Blk wr (w.heap.size + 1) 79 #[.slice none 0 0, .int .i64 0, .slice none 0 0, .slice none 0 0] from (HE.out.tin.block _ (by omega) (by omega)).trans HZ1.out.k1)
          have r0 : wr.cell? ⟨w.heap.size + 1, 0, none⟩ = some (.slice none 0 0) := HK1.out.cell 0
          have y0 := HK1.out.frozen 0
          have r1 : wr.cell? ⟨w.heap.size + 1, 1, none⟩ = some (.int .i64 0) := HK1.out.cell 1
          have y1 := HK1.out.frozen 1
          have r2 : wr.cell? ⟨w.heap.size + 1, 2, none⟩ = some (.slice none 0 0) := HK1.out.cell 2
          have y2 := HK1.out.frozen 2
          have r3 : wr.cell? ⟨w.heap.size + 1, 3, none⟩ = some (.slice none 0 0) := HK1.out.cell 3
          have y3 := HK1.out.frozen 3
          have hgz := HE.out.lt
          have h0 : c ≠ 0 := fun e => by have h1 := HE.out.nz e; have h2 := HShL.out.2.1 e; omega
          have HLe : Hid ((ksD c).length = k) := hid (by have := HShL.out.2.2.1 h0; omega)
          have HS := hid (HSome.out h0 HLe.out ns p (HE.out.rd h0))
          have HW0 := hid (HAt.out h0)
          clear h0
          have kc : wr.cell? ⟨b, 0, none⟩ = some (.string (sB W0)) := (HE.out.cell hbl (by omega)).trans K0.out
          have hzw := HE.out.tin.size
          go_upto_region 21 with (fail)
          go_region
          go_wp2
          refine bodyPost_ret (v := .tuple #[.string (sB W0), .agg #[.slice A xs.length c0, .int .i64 s, .slice tA tn tc, .slice nA nn nc], .bool true]) (by simp [results, Tryz.results46, go_sem, r0, r1, r2, r3]) rfl ⟨.inr ⟨c, ns, p, _, _, _, _, _, _, HS.out, by rw [HW0.out], ?_, ?_⟩, ?_⟩
          · exact ((own_putC HE.out.num (by omega) _ _ _ _).below (below_drewN (Below.refl _ _) 1)).mono (by omega)
          · exact ((own_putC HE.out.pos (by omega) _ _ _ _).below (below_drewN (Below.refl _ _) 1)).mono (by omega)
          · exact below_drewN (below_putC (below_turned HZ1.out.bel HE.out.tin (by omega)) (w.heap.size + 1) (by omega) _ _ _ _) 1
  · have hMe : ((S.size : Int) != (m : Int)) = true := by rw [bne_iff_ne]; omega
    have HN : Hid (lnD l = none) := hid (by
      by_cases h0 : c = 0
      · exact HZero.out h0
      · exact HLong.out h0 (by have := HShL.out.2.2.1 h0; omega))
    have b0 : w1.cell? ⟨w.heap.size + 2, 0, none⟩ = some (.slice A xs.length c0) := HZ1.out.k2.cell 0
    have b1 : w1.cell? ⟨w.heap.size + 2, 1, none⟩ = some (.int .i64 s) := HZ1.out.k2.cell 1
    have b2 : w1.cell? ⟨w.heap.size + 2, 2, none⟩ = some (.slice none 0 0) := HZ1.out.k2.cell 2
    have b3 : w1.cell? ⟨w.heap.size + 2, 3, none⟩ = some (.slice none 0 0) := HZ1.out.k2.cell 3
    have r0 : w1.cell? ⟨w.heap.size + 1, 0, none⟩ = some (.slice none 0 0) := HZ1.out.k1.cell 0
    have r1 : w1.cell? ⟨w.heap.size + 1, 1, none⟩ = some (.int .i64 0) := HZ1.out.k1.cell 1
    have r2 : w1.cell? ⟨w.heap.size + 1, 2, none⟩ = some (.slice none 0 0) := HZ1.out.k1.cell 2
    have r3 : w1.cell? ⟨w.heap.size + 1, 3, none⟩ = some (.slice none 0 0) := HZ1.out.k1.cell 3
    have y0 := HZ1.out.k1.frozen 0
    have y1 := HZ1.out.k1.frozen 1
    have y2 := HZ1.out.k1.frozen 2
    have y3 := HZ1.out.k1.frozen 3
    go_upto_region 5 with (fail)
    go_region
    go_wp2
    refine bodyPost_ret (v := .tuple #[.string { data := #[] }, .agg #[.slice A xs.length c0, .int .i64 s, .slice none 0 0, .slice none 0 0], .bool false]) (by simp [results, Tryz.results46, go_sem, r0, r1, r2, r3]) rfl ⟨.inl ⟨HN.out, _, _, _, _, _, _, rfl⟩, ?_⟩
    exact below_drewN (below_putC HZ1.out.bel (w.heap.size + 1) (by omega) _ _ _ _) 1
end Go.Proofs.YtbmhaamenjhjfaaGreatDoor
