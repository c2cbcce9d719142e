/- Arrays in the program: MirrorArray; layers, LayersOf. -/
import Derived.Test.YtgepbekdgocnpabArX
namespace Go.Proofs.Ytgepbekdgocnpab
open Go.RowKit Go.WideShapes Go.ChangeShapes
set_option linter.unusedVariables false

def revG (f : List Int) (i : Nat) : Nat := (f.getD (f.length - 1 - i) 0).toNat
theorem rev_mkL {f : List Int} (h : ∀ j, j < f.length → 0 ≤ f.getD j 0) : f.reverse = mkL f.length (revG f) := by
  refine List.ext_getElem (by rw [List.length_reverse, mkL_length]) fun i h1 h2 => ?_
  rw [mkL_length] at h2
  have h3 := h (f.length - 1 - i) (by omega)
  have e : f.getD (f.length - 1 - i) 0 = f[f.length - 1 - i]'(by omega) := by simp [List.getD, show f.length - 1 - i < f.length by omega]
  rw [List.getElem_reverse]
  simp only [mkL, List.getElem_map, List.getElem_range, revG]
  rw [Int.toNat_of_nonneg h3, e]
set_option maxHeartbeats 1600000 in
theorem implMirrorArray_any (v : Value) (xs : List Int) (u : Value) (f : List Int) (b : Int) (w : World) (hv : Ints w v xs) (hl : xs.length ≤ 1048576) (hu : Ints w u f) (hm : f.length ≤ 1048576) (wf : (Lit.int .i64 b).wf = true) :
    Calls Try.prog 27 #[.agg #[v], u, .int .i64 b] w fun (r : Ending) w' => ∃ q, r = Ending.returned (.tuple #[q, .bool (okAr xs f b)]) ∧ OwnI 3 w' w.heap.size q (ansMI xs f b) ∧ (ansMI xs f b).length ≤ 1048576 ∧ Below w.heap.size w w' := by
  have HV := hid hv
  have HU := hid hu
  have HFo := hid (fun W hW hU => fillingOf_any v u xs f b W hW hU hl hm wf)
  have HL := hid (ansMI_len xs f b)
  clear hv hu wf
  cases hq : okAr xs f b
  · have HN := hid (ansMI_no hq)
    rw [hq] at HFo
    simp only [Bool.false_eq_true, if_false] at HFo
    have HCs := hid (fc_size [] 0)
    have HCo := hid (fc_one [] 0)
    obtain ⟨Z, hZ⟩ : ∃ Z, fc [] 0 = Z := ⟨_, rfl⟩
    rw [hZ] at HCs HCo HFo
    clear hq hZ
    go_enter Try.func27, Try.ntmps27
    have HB := hid (below_alloc (Below.refl _ w) (.cells #[v] 28))
    have A0 := hid (At.newAt w v 28 w.heap.size (by simp))
    have ebox0 := A0.out.1
    go_wp2_with fail
    clear ebox0
    refine (HFo.out _ (HV.out.below HB.out) (HU.out.below HB.out)).mono ?_
    rintro e' w1 ⟨rfl, hb⟩
    replace HB := hid (below_to HB.out hb)
    have HA1 := hid (A0.out.below hb)
    have hz1 := HB.out.size
    have hx1 := HA1.out.2
    clear hb A0
    go_wp2_with (first | (refine fill_stN rfl _ _ rfl _ Z _ rfl rfl (Blk.new _ _ _) (fc_size [] 0) HCs.out HCo.out ?_; intro W5 HF5 HW5; have HB5 : Hid (Below w.heap.size w W5) := hid ((below_alloc HB.out _).trans (HW5.out.mono hz1)); have HA5 : Hid (At W5 w.heap.size v) := hid ((HA1.out.alloc _).under HW5.out hx1); have hbox5 := HA5.out.1))
    go_ret2
    exact ⟨_, rfl, by rw [HN.out]; exact OwnI.nil _ _ _, HL.out, HB5.out⟩
  · obtain ⟨m, hmb⟩ : ∃ m : Nat, b = m := Int.eq_ofNat_of_zero_le (okAr_all hq).2.1
    subst hmb
    have HN := hid (ansMI_yes hq)
    rw [hq] at HFo
    simp only [if_true] at HFo
    have HCs := hid (fc_size f m)
    have HCo := hid (fc_one f m)
    have HQ := hid hq
    obtain ⟨hg, b0, b1, hr⟩ := okAr_all hq
    have hl10 := (good_length hg).2
    have HG := hid hg
    have HR := hid hr
    obtain ⟨C, hC⟩ : ∃ C, fc f (m : Int) = C := ⟨_, rfl⟩
    have HC := hid hC
    rw [hC] at HCs HCo HFo
    clear hq hC hg hr
    have hfl := HR.out.len
    have HXn := hid hfl
    have HRv := hid (rev_mkL (f := f) (fun j hj => (HR.out.rng j (by rw [← HXn.out]; exact hj)).1))
    have HRn := hid (fun j (hj : j < f.length) => HR.out.rng j (by rw [← HXn.out]; exact hj))
    have HLs := hid (fun W hW => list_any v xs f m W hW hl10 HXn.out)
    rw [HC.out] at HLs
    rw [← hfl] at HN hl10
    have hn1 := (good_length HG.out).1
    rw [← hfl] at hn1
    obtain ⟨n, hn⟩ : ∃ n, f.length = n := ⟨_, rfl⟩
    have HNn := hid hn
    rw [hn] at HN hl10 hn1 HRv HRn
    clear hfl hn
    go_enter Try.func27, Try.ntmps27
    have HB := hid (below_alloc (Below.refl _ w) (.cells #[v] 28))
    have A0 := hid (At.newAt w v 28 w.heap.size (by simp))
    have ebox0 := A0.out.1
    go_wp2_with fail
    clear ebox0
    refine (HFo.out _ (HV.out.below HB.out) (HU.out.below HB.out)).mono ?_
    rintro e' w1 ⟨rfl, hb⟩
    replace HB := hid (below_to HB.out hb)
    have HA1 := hid (A0.out.below hb)
    have hz1 := HB.out.size
    have hx1 := HA1.out.2
    clear hb A0
    go_wp2_with (first | (refine fill_stN rfl _ _ rfl _ C _ rfl rfl (Blk.new _ _ _) (fc_size [] 0) HCs.out HCo.out ?_; intro W5 HF5 HW5; have HB5 : Hid (Below w.heap.size w W5) := hid ((below_alloc HB.out _).trans (HW5.out.mono hz1)); have HA5 : Hid (At W5 w.heap.size v) := hid ((HA1.out.alloc _).under HW5.out hx1); have hbox5 := HA5.out.1) | (refine fill_ldW rfl _ rfl w1.heap.size rfl _ HF5.out HCs.out ?_))
    clear hbox5
    refine (HLs.out W5 (HV.out.below HB5.out)).mono ?_
    rintro e6 w6 ⟨q, rfl, ho6, hb6⟩
    obtain ⟨g, cc, rfl, hg1, hg2⟩ := ho6.blockA (by rw [HNn.out]; exact hn1)
    rw [HNn.out] at ho6 ⊢
    have HO6 := hid ho6
    have HB65 := hid hb6
    have HB6 := hid (below_to HB5.out hb6)
    have hwg : w.heap.size ≤ g := Nat.le_trans HB5.out.size hg1
    clear ho6 hb6
    go_wp2_with fail
    refine (reverseA_any _ f _ _ HO6.out (by rw [HNn.out]; omega)).mono ?_
    rw [HRv.out]
    rintro e7 w7 ⟨rfl, ho7, hg7⟩
    have HB7 := hid (below_grown HB6.out hg7 (fun j hj => by simp only [Value.ownBlock, Option.some.injEq] at hj; omega))
    have HO7 : Hid (OwnI 3 w7 W5.heap.size (.slice (some ⟨g, 0, none⟩) n cc) (mkL n fun i => if i < 0 then mirG f m i else revG f i)) := hid (by
      rw [mkL_congr (h := revG f) (fun i hi => by simp)]; exact ho7)
    clear ho7 hg7 HO6 HB6 HB65
    go_wp2
    go_loopw [28] (fun i wr => ∃ t : Nat, t ≤ n ∧ i = .int .i64 t ∧ OwnI 3 wr W5.heap.size (.slice (some ⟨g, 0, none⟩) n cc) (mkL n fun i => if i < t then mirG f m i else revG f i) ∧ Below w.heap.size w wr) (fun i _ => n - (intOf i).toNat)
    case atStart => exact ⟨0, Nat.zero_le _, rfl, HO7.out, HB7.out⟩
    case round =>
      clear HO7 HB7
      obtain ⟨t, ht, rfl, ho, hb⟩ := hrel
      have HO1 := hid ho
      have HB1 := hid hb
      clear ho hb
      by_cases htl : t < n
      · obtain ⟨hc, hfz⟩ := HO1.out.cellA (j := t) (by rw [mkL_length]; exact htl)
        rw [mkL_getD htl, if_neg (by omega)] at hc
        have hxr := HRn.out (n - 1 - t) (by omega)
        have HGv : Hid (revG f t = (f.getD (n - 1 - t) 0).toNat) := hid (by unfold revG; rw [HNn.out])
        have HMv : Hid (mirG f m t = m - (f.getD (n - 1 - t) 0).toNat) := hid (by unfold mirG; rw [HNn.out])
        rw [HGv.out] at hc
        obtain ⟨x, hx⟩ : ∃ x, f.getD (n - 1 - t) 0 = x := ⟨_, rfl⟩
        rw [hx] at hc hxr HMv
        obtain ⟨x, rfl⟩ := Int.eq_ofNat_of_zero_le hxr.1
        rw [Int.toNat_natCast] at hc HMv
        have hsx : IntKind.i64.wrap ((m : Int) - (x : Int)) = ((m - x : Nat) : Int) := by rw [IntWalk.i64_in _ (by omega)]; omega
        obtain ⟨y, hy⟩ : ∃ y, m - x = y := ⟨_, rfl⟩
        rw [hy] at HMv hsx
        clear hx hy HGv
        go_wp2
        clear hsx hc hfz
        go_roundw
        case rel => exact ⟨t + 1, by omega, by go_num, (by
          rw [mkL_upd (g := fun i => if i < t then mirG f m i else revG f i) (h := fun i => if i < t + 1 then mirG f m i else revG f i) y htl (fun i hi => by
            by_cases e : i = t
            · subst e; rw [if_pos (by omega), if_pos rfl, HMv.out]
            · rw [if_neg e]
              by_cases e2 : i < t
              · rw [if_pos (by omega), if_pos e2]
              · rw [if_neg (by omega), if_neg e2])]
          exact HO1.out.storedA t _), HB1.out.setCell (p := ⟨g, t, none⟩) hwg _⟩
        case measure => simp [intOf]; omega
      · obtain rfl : t = n := by omega
        have HE := hid (show (mkL t fun i => if i < t then mirG f m i else revG f i) = mkL t (mirG f m) from mkL_congr fun i hi => by rw [if_pos hi])
        rw [HE.out] at HO1
        go_wp2
        go_ret2
        exact ⟨_, rfl, by rw [HN.out]; exact HO1.out.mono HB5.out.size, HL.out, HB1.out⟩
/-! ### layers -/
def lc (L : List Int) : Array Value := ((List.range 20).map fun j => Value.int .i64 (L.getD j 0)).toArray
theorem lc_size (L : List Int) : (lc L).size = 20 := by simp [lc]
theorem lc_get {L : List Int} {j : Nat} (h : j < 20) : (lc L)[j]? = some (.int .i64 (L.getD j 0)) := by
  simp [lc]
  rw [List.getElem?_range (by omega)]
  simp
theorem lc_one (L : List Int) : (lc L).all (·.oneCell') = true := by
  rw [Array.all_eq_true]
  intro i hi
  simp only [lc, List.getElem_toArray, List.getElem_map, List.getElem_range]
  rfl
theorem getD_snocL (L : List Int) (y : Int) (i : Nat) : (L ++ [y]).getD i 0 = if i = L.length then y else L.getD i 0 := by
  simp only [List.getD, List.getElem?_append]
  by_cases h : i < L.length
  · rw [if_pos h, if_neg (by omega)]
  · rw [if_neg h]
    by_cases e : i = L.length
    · subst e; simp
    · rw [if_neg e, List.getElem?_eq_none (by simp; omega), List.getElem?_eq_none (by omega)]
theorem lc_snoc {L : List Int} {y : Int} : (lc L).setIfInBounds L.length (.int .i64 y) = lc (L ++ [y]) := by
  unfold lc
  rw [List.setIfInBounds_toArray]
  congr 1
  refine List.ext_getElem (by simp) fun i h1 h2 => ?_
  rw [List.getElem_set, List.getElem_map, List.getElem_map, List.getElem_range, getD_snocL]
  by_cases e1 : L.length = i
  · rw [if_pos e1, if_pos e1.symm]
  · rw [if_neg e1, if_neg (fun h => e1 h.symm)]
theorem layInfo : (Try.prog.info? 60).map (·.size) = some 20 := by kernel_rfl
theorem lay_ldW {w : World} {ops : Array Oper} {rest : List Oper} {o : Oper} {a : Act} {Q : Exit → Act → World → Prop} (hgd : o.guard = none) (x : Operand) (ho : o.op = .load 60 x)
    (g : Nat) (hx : a.eval x = .pointer (some ⟨g, 0, none⟩)) (C : Array Value) (hg : Blk w g 60 C) (hs : C.size = 20)
    (h : wpList Try.prog ops Q rest (a.put o.dst (.agg C)) w) : wpList Try.prog ops Q (o :: rest) a w :=
  wpList_load_row hgd _ x ho g hx _ C (0, 0) _ hg Try.underlying60 rfl (by rw [layInfo, hs]) h
theorem lay_stN {w : World} {ops : Array Oper} {rest : List Oper} {o : Oper} {a : Act} {Q : Exit → Act → World → Prop} (hgd : o.guard = none) (x y : Operand) (ho : o.op = .store 60 x y)
    (g : Nat) (C D : Array Value) (hx : a.eval x = .pointer (some ⟨g, 0, none⟩)) (hy : a.eval y = .agg C) (hg : Blk w g 60 D) (hd : D.size = 20) (hs : C.size = 20) (h1 : C.all (·.oneCell') = true)
    (h : ∀ w2, Hid (Blk w2 g 60 C) → Hid (Below g w w2) → Hid (w.grownBy w2 (some g)) → wpList Try.prog ops Q rest (a.put o.dst undef) w2) : wpList Try.prog ops Q (o :: rest) a w :=
  wpList_store_row hgd _ x y ho g C hx hy _ D hg (by rw [layInfo, hs]) (by rw [hd, hs]) h1 (h _ hg.setRowA (below_setRow (Below.refl _ _) (Nat.le_refl _) C) ⟨rfl, rfl, rfl, by simp, fun k hk hne => setRow_other w g k C (fun e => hne (by rw [e]))⟩)
set_option maxHeartbeats 1600000 in
theorem layers_any (v : Value) (xs f : List Int) (m : Nat) (w : World) (hv : Ints w v xs) (hl10 : xs.length ≤ 10) (hm : m ≤ 20) :
    Calls Try.prog 46 #[.agg (fc f m), .agg #[v]] w fun r w' => r = .returned (.agg (lc (layL f xs.length m))) ∧ Below w.heap.size w w' := by
  have HV := hid hv
  have HLy := hid (fun W j hW => layer_any v xs f m j W hW hl10)
  have HCs := hid (fc_size f m)
  have HBd := hid (fc_bound f m)
  obtain ⟨C, hC⟩ : ∃ C, fc f (m : Int) = C := ⟨_, rfl⟩
  rw [hC] at HLy HCs HBd ⊢
  clear hv hC
  have HA0 := hid (show Obj.cells (lc []) 60 = Obj.cells #[Value.int .i64 0, Value.int .i64 0, Value.int .i64 0, Value.int .i64 0, Value.int .i64 0, Value.int .i64 0, Value.int .i64 0, Value.int .i64 0, Value.int .i64 0, Value.int .i64 0, Value.int .i64 0, Value.int .i64 0, Value.int .i64 0, Value.int .i64 0, Value.int .i64 0, Value.int .i64 0, Value.int .i64 0, Value.int .i64 0, Value.int .i64 0, Value.int .i64 0] 60 from rfl)
  obtain ⟨Z, hZ⟩ : ∃ Z, Obj.cells (lc []) 60 = Z := ⟨_, rfl⟩
  have HZ := hid hZ
  have HB := hid (below_alloc (below_alloc (below_alloc (below_alloc (Below.refl _ w) (.cells C 56)) (.cells #[v] 28)) Z) Z)
  have HF : Hid (Blk ((((w.alloc (.cells C 56)).alloc (.cells #[v] 28)).alloc Z).alloc Z) w.heap.size 56 C) := hid ((((Blk.new w _ C).alloc _).alloc _).alloc _)
  have HA : Hid (At ((((w.alloc (.cells C 56)).alloc (.cells #[v] 28)).alloc Z).alloc Z) (w.heap.size + 1) v) := hid (((At.newAt _ _ _ _ (by simp)).alloc _).alloc _)
  have HR : Hid (Blk ((((w.alloc (.cells C 56)).alloc (.cells #[v] 28)).alloc Z).alloc Z) (w.heap.size + 1 + 1) 60 (lc [])) := hid (by rw [← hZ]; exact (Blk.newAt _ _ _ _ (by simp)).alloc _)
  have HS : Hid (Blk ((((w.alloc (.cells C 56)).alloc (.cells #[v] 28)).alloc Z).alloc Z) (w.heap.size + 1 + 1 + 1) 60 (lc [])) := hid (by rw [← hZ]; exact Blk.newAt _ _ _ _ (by simp))
  have hb10 : ((((w.alloc (.cells C 56)).alloc (.cells #[v] 28)).alloc Z).alloc Z).cell? ⟨w.heap.size, 10, none⟩ = some (.int .i64 m) := by rw [HF.out.cell]; exact HBd.out
  have Hb10 := hid hb10
  obtain ⟨W0, hW0⟩ : ∃ W0, ((((w.alloc (.cells C 56)).alloc (.cells #[v] 28)).alloc Z).alloc Z) = W0 := ⟨_, rfl⟩
  have HW0 := hid hW0
  rw [hW0] at HB HF HA HR HS Hb10
  rw [← hZ, HA0.out] at hb10
  clear hZ hW0
  go_enter Try.func46, Try.ntmps46
  go_wp2_with fail
  clear hb10
  rw [show ((((w.alloc (.cells C 56)).alloc (.cells #[v] 28)).alloc (Obj.cells #[Value.int .i64 0, Value.int .i64 0, Value.int .i64 0, Value.int .i64 0, Value.int .i64 0, Value.int .i64 0, Value.int .i64 0, Value.int .i64 0, Value.int .i64 0, Value.int .i64 0, Value.int .i64 0, Value.int .i64 0, Value.int .i64 0, Value.int .i64 0, Value.int .i64 0, Value.int .i64 0, Value.int .i64 0, Value.int .i64 0, Value.int .i64 0, Value.int .i64 0] 60)).alloc (Obj.cells #[Value.int .i64 0, Value.int .i64 0, Value.int .i64 0, Value.int .i64 0, Value.int .i64 0, Value.int .i64 0, Value.int .i64 0, Value.int .i64 0, Value.int .i64 0, Value.int .i64 0, Value.int .i64 0, Value.int .i64 0, Value.int .i64 0, Value.int .i64 0, Value.int .i64 0, Value.int .i64 0, Value.int .i64 0, Value.int .i64 0, Value.int .i64 0, Value.int .i64 0] 60)) = W0 from by rw [← HA0.out, HZ.out]; exact HW0.out]
  go_loopw [9] (fun i wr => ∃ k : Nat, k ≤ m ∧ i = .int .i64 k ∧ Blk wr w.heap.size 56 C ∧ At wr (w.heap.size + 1) v ∧ Blk wr (w.heap.size + 1 + 1) 60 (lc []) ∧ Blk wr (w.heap.size + 1 + 1 + 1) 60 (lc (layL f xs.length k)) ∧ Below w.heap.size w wr) (fun i _ => m - (intOf i).toNat)
  case atStart => exact ⟨0, Nat.zero_le _, rfl, HF.out, HA.out, HR.out, HS.out, HB.out⟩
  case round =>
    clear HB HF HA HR HS Hb10 HW0 HZ
    obtain ⟨k, hk, rfl, hf, ha, hr, hs, hb⟩ := hrel
    have HF := hid hf
    have HA := hid ha
    have HR := hid hr
    have HS := hid hs
    have HB := hid hb
    have hbox := ha.1
    clear hf ha hr hs hb
    by_cases hlt : k < m
    · go_wp2_with (refine fill_ldW rfl _ rfl w.heap.size rfl _ HF.out HCs.out ?_)
      clear hbox
      refine (HLy.out wr k (HV.out.below HB.out)).mono ?_
      rintro e2 w2 ⟨rfl, hb2⟩
      have HF2 := hid (HF.out.below hb2 HF.out.lt)
      have HA2 := hid (HA.out.below hb2)
      have HR2 := hid (HR.out.below hb2 HR.out.lt)
      have HS2 := hid (HS.out.below hb2 HS.out.lt)
      have HB2 := hid (below_to HB.out hb2)
      have HSn : Hid (lc (layL f xs.length (k + 1)) = (lc (layL f xs.length k)).setIfInBounds k (.int .i64 (layN f k xs.length : Nat))) := hid (by
        have e : (layL f xs.length k).length = k := mkL_length _ _
        have h := lc_snoc (L := layL f xs.length k) (y := ((layN f k xs.length : Nat) : Int))
        rw [e] at h
        rw [h]; congr 1; exact mkL_succB k _)
      have hck : w2.cell? ⟨w.heap.size + 1 + 1 + 1, k, none⟩ = some (.int .i64 ((layL f xs.length k).getD k 0)) := by rw [HS2.out.cell]; exact lc_get (by omega)
      obtain ⟨x, hx⟩ : ∃ x, (layL f xs.length k).getD k 0 = x := ⟨_, rfl⟩
      rw [hx] at hck
      obtain ⟨y, hy⟩ : ∃ y, layN f k xs.length = y := ⟨_, rfl⟩
      rw [hy] at HSn ⊢
      have hfz := HS2.out.frozen k
      have hk20 : k < 20 := by omega
      clear hb2 hx hy
      go_wp2
      clear hck hfz
      go_roundw
      case rel => exact ⟨k + 1, by omega, by go_num, HF2.out.far (p := ⟨w.heap.size + 1 + 1 + 1, k, none⟩) (by show w.heap.size ≠ w.heap.size + 1 + 1 + 1; omega) _, HA2.out.far (p := ⟨w.heap.size + 1 + 1 + 1, k, none⟩) (by show w.heap.size + 1 ≠ w.heap.size + 1 + 1 + 1; omega) _, HR2.out.far (p := ⟨w.heap.size + 1 + 1 + 1, k, none⟩) (by show w.heap.size + 1 + 1 ≠ w.heap.size + 1 + 1 + 1; omega) _, by rw [HSn.out]; exact HS2.out.set_ k _, HB2.out.setCell (p := ⟨w.heap.size + 1 + 1 + 1, k, none⟩) (by show w.heap.size ≤ w.heap.size + 1 + 1 + 1; omega) _⟩
      case measure => simp [intOf]; try omega
    · obtain rfl : k = m := by omega
      clear hbox
      go_wp2_with (first | (refine lay_ldW rfl _ rfl (w.heap.size + 1 + 1 + 1) rfl _ HS.out (lc_size _) ?_) | (refine lay_stN rfl _ _ rfl (w.heap.size + 1 + 1) _ _ rfl rfl HR.out (lc_size []) (lc_size _) (lc_one _) ?_; intro w2 HR2 HW2 HG2))
      have HB2 := hid (below_grown HB.out HG2.out (fun j hj => by simp only [Option.some.injEq] at hj; omega))
      exact bodyPost_ret (results_cell_row rfl _ _ (w.heap.size + 1 + 1) 60 (lc (layL f xs.length k)) (0, 0) _ rfl HR2.out Try.underlying60 rfl (by rw [layInfo, lc_size])) rfl ⟨rfl, HB2.out⟩
theorem lay_ints {w : World} {g m : Nat} {L : List Int} (h : Blk w g 60 (lc L)) (hL : L.length = m) (hm : m ≤ 20) : Ints w (.slice (some ⟨g, 0, none⟩) m 20) L :=
  h.ints_n hL (fun j hj => lc_get (by omega))
theorem setsSlice (W : World) (b : Nat) (n : Nat) (h : n ≤ 20) : (Instr.sliceAt 60 (.pointer (some ⟨b, 0, none⟩)) none (some (.int .i64 (n : Int))) none).run Try.prog W = .ok (.slice (some ⟨b, 0, none⟩) n 20) W := by
  have hl : Try.prog.arrayLen 60 = 20 := by kernel_rfl
  have hs : (sizeOf (Try.prog.elem 60)).run Try.prog W = .ok 1 W := by kernel_rfl
  rw [run_sliceAt_array_h W 60 ⟨b, 0, none⟩ (by kernel_rfl) .i64 n (by omega) (by rw [hl]; omega), hs]
  simp [slicedAt, hl, Addr.add]
set_option maxHeartbeats 1600000 in
theorem implLayersOf_any (v : Value) (xs : List Int) (u : Value) (f : List Int) (b : Int) (w : World) (hv : Ints w v xs) (hl : xs.length ≤ 1048576) (hu : Ints w u f) (hm : f.length ≤ 1048576) (wf : (Lit.int .i64 b).wf = true) :
    Calls Try.prog 23 #[.agg #[v], u, .int .i64 b] w fun (r : Ending) w' => ∃ q, r = Ending.returned (.tuple #[q, .bool (okAr xs f b)]) ∧ OwnI 3 w' w.heap.size q (ansLO xs f b) ∧ (ansLO xs f b).length ≤ 1048576 ∧ Below w.heap.size w w' := by
  have HV := hid hv
  have HU := hid hu
  have HFo := hid (fun W hW hU => fillingOf_any v u xs f b W hW hU hl hm wf)
  have HL := hid (ansLO_len xs f b)
  clear hv hu wf
  cases hq : okAr xs f b
  · have HN := hid (ansLO_no hq)
    rw [hq] at HFo
    simp only [Bool.false_eq_true, if_false] at HFo
    have HCs := hid (fc_size [] 0)
    have HCo := hid (fc_one [] 0)
    obtain ⟨Z, hZ⟩ : ∃ Z, fc [] 0 = Z := ⟨_, rfl⟩
    rw [hZ] at HCs HCo HFo
    clear hq hZ
    go_enter Try.func23, Try.ntmps23
    have HB := hid (below_alloc (Below.refl _ w) (.cells #[v] 28))
    have A0 := hid (At.newAt w v 28 w.heap.size (by simp))
    have ebox0 := A0.out.1
    go_wp2_with fail
    clear ebox0
    refine (HFo.out _ (HV.out.below HB.out) (HU.out.below HB.out)).mono ?_
    rintro e' w1 ⟨rfl, hb⟩
    replace HB := hid (below_to HB.out hb)
    have HA1 := hid (A0.out.below hb)
    have hz1 := HB.out.size
    have hx1 := HA1.out.2
    clear hb A0
    go_wp2_with (first | (refine fill_stN rfl _ _ rfl _ Z _ rfl rfl (Blk.new _ _ _) (fc_size [] 0) HCs.out HCo.out ?_; intro W5 HF5 HW5; have HB5 : Hid (Below w.heap.size w W5) := hid ((below_alloc HB.out _).trans (HW5.out.mono hz1)); have HA5 : Hid (At W5 w.heap.size v) := hid ((HA1.out.alloc _).under HW5.out hx1); have hbox5 := HA5.out.1))
    go_ret2
    exact ⟨_, rfl, by rw [HN.out]; exact OwnI.nil _ _ _, HL.out, HB5.out⟩
  · obtain ⟨m, hmb⟩ : ∃ m : Nat, b = m := Int.eq_ofNat_of_zero_le (okAr_all hq).2.1
    subst hmb
    have HN := hid (ansLO_yes hq)
    rw [hq] at HFo
    simp only [if_true] at HFo
    have HCs := hid (fc_size f m)
    have HCo := hid (fc_one f m)
    have HQ := hid hq
    obtain ⟨hg, b0, b1, hr⟩ := okAr_all hq
    have hl10 := (good_length hg).2
    have HG := hid hg
    have HR := hid hr
    obtain ⟨C, hC⟩ : ∃ C, fc f (m : Int) = C := ⟨_, rfl⟩
    have HC := hid hC
    rw [hC] at HCs HCo HFo
    clear hq hC hg hr
    have HLy := hid (fun W hW => layers_any v xs f m W hW hl10 (by omega))
    rw [HC.out] at HLy
    have HLl := hid (show (layL f xs.length m).length = m from mkL_length _ _)
    obtain ⟨L, hL⟩ : ∃ L, layL f xs.length m = L := ⟨_, rfl⟩
    rw [hL] at HLy HN HLl
    clear hL
    go_enter Try.func23, Try.ntmps23
    have HB := hid (below_alloc (Below.refl _ w) (.cells #[v] 28))
    have A0 := hid (At.newAt w v 28 w.heap.size (by simp))
    have ebox0 := A0.out.1
    go_wp2_with fail
    clear ebox0
    refine (HFo.out _ (HV.out.below HB.out) (HU.out.below HB.out)).mono ?_
    rintro e' w1 ⟨rfl, hb⟩
    replace HB := hid (below_to HB.out hb)
    have HA1 := hid (A0.out.below hb)
    have hz1 := HB.out.size
    have hx1 := HA1.out.2
    clear hb A0
    go_wp2_with (first | (refine fill_stN rfl _ _ rfl _ C _ rfl rfl (Blk.new _ _ _) (fc_size [] 0) HCs.out HCo.out ?_; intro W5 HF5 HW5; have HB5 : Hid (Below w.heap.size w W5) := hid ((below_alloc HB.out _).trans (HW5.out.mono hz1)); have HA5 : Hid (At W5 w.heap.size v) := hid ((HA1.out.alloc _).under HW5.out hx1); have hbox5 := HA5.out.1) | (refine fill_ldW rfl _ rfl w1.heap.size rfl _ HF5.out HCs.out ?_))
    clear hbox5
    refine (HLy.out W5 (HV.out.below HB5.out)).mono ?_
    rintro e6 w6 ⟨rfl, hb6⟩
    have HB6 := hid (below_to HB5.out hb6)
    have hz6 := HB6.out.size
    have hsl := fun W => setsSlice W w6.heap.size m (by omega)
    clear hb6
    go_wp2_with (first | (refine lay_stN rfl _ _ rfl w6.heap.size (lc L) _ rfl rfl (Blk.new _ _ _) (lc_size []) (lc_size L) (lc_one L) ?_; intro w7 HF7 HW7 HG7; have HB7 : Hid (Below w.heap.size w w7) := hid ((below_alloc HB6.out _).trans (HW7.out.mono hz6))))
    clear hsl
    refine (cloneA_any _ L _ (lay_ints HF7.out HLl.out (by omega)) (by rw [HLl.out]; omega)).mono ?_
    rintro e8 w8 ⟨q8, rfl, ho8, hb8⟩
    have HO8 := hid (ho8.mono HB7.out.size)
    have HB8 := hid (below_to HB7.out hb8)
    clear ho8 hb8
    go_wp2
    go_ret2
    exact ⟨_, rfl, by rw [HN.out]; exact HO8.out, HL.out, HB8.out⟩
end Go.Proofs.Ytgepbekdgocnpab
