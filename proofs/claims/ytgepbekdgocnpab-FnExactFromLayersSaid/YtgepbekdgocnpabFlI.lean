/- FromLayers of the program. -/
import Derived.Test.YtgepbekdgocnpabArY
import Derived.Test.YtgepbekdgocnpabAq
import Derived.Test.YtgepbekdgocnpabFlC
namespace Go.Proofs.Ytgepbekdgocnpab
open Go.RowKit Go.WideShapes Go.ChangeShapes
set_option linter.unusedVariables false

theorem layEq (W : World) (L L' : List Int) (hl : L'.length = L.length) (h20 : L.length ≤ 20) :
    (Op.equalIn 10000 60 (.agg (lc L')) (.agg (lc L))).run Try.prog W = .ok (decide (L' = L)) W := by
  obtain ⟨i0, hi⟩ : ∃ i, Try.prog.info? 3 = some i := by
    cases h : Try.prog.info? 3 with
    | none => have := intSizeA; rw [h] at this; cases this
    | some i => exact ⟨i, rfl⟩
  rw [run_equalIn_array W 9999 (t := 60) (e := 3) (n := 20) _ _ (by kernel_rfl) hi]
  rw [show Try.prog.cellsOf 3 = 1 from by kernel_rfl]
  rw [eqItems_ints W 9998 _ _ (fun j => L'.getD j 0) (fun j => L.getD j 0) _ (fun i hi => ⟨lc_get (List.mem_range.1 hi), lc_get (List.mem_range.1 hi)⟩)]
  congr 1
  rw [Bool.eq_iff_iff, List.all_eq_true, decide_eq_true_eq]
  constructor
  · intro h
    refine List.ext_getElem hl fun i h1 h2 => ?_
    have := h i (List.mem_range.2 (by omega))
    rw [beq_iff_eq] at this
    simpa [List.getD, h1, h2] using this
  · rintro rfl i hi
    exact beq_self_eq_true _
theorem lc_copy {L : List Int} (h : L.length ≤ 20) : ((lc []).toList.take 0 ++ (L.map (Value.int .i64) ++ (lc []).toList.drop (0 + (L.map (Value.int .i64)).length))).toArray = lc L := by
  unfold lc
  congr 1
  refine List.ext_getElem (by simp; omega) fun i h1 h2 => ?_
  have h3 : i < 20 := by simpa using h2
  simp only [List.take_zero, List.nil_append]
  by_cases hi : i < L.length
  · rw [List.getElem_append_left (by simpa using hi)]
    simp [List.getD, hi]
  · rw [List.getElem_append_right (by simpa using hi)]
    simp [List.getD, hi]
theorem lay_cpW {w : World} {ops : Array Oper} {rest : List Oper} {o : Oper} {a : Act} {Q : Exit → Act → World → Prop} (hgd : o.guard = none) (x y : Operand)
    (ho : o.op = .call { callee := .builtin .copy, args := #[x, y], argTypes := #[22, 22] }) (g : Nat) (L : List Int) (sp : Option Addr) (n d : Nat)
    (hx : a.eval x = .slice (some ⟨g, 0, none⟩) 20 20) (hy : a.eval y = .slice sp n d) (hg : Blk w g 60 (lc [])) (hn : L.length = n) (hf : n ≤ 20)
    (hsrc : 0 < n → ∃ ad, sp = some ad ∧ ∀ j, j < n → w.cell? (ad.add j) = some (.int .i64 (L.getD j 0)))
    (h : ∀ w2, Hid (Blk w2 g 60 (lc L)) → Hid (Below g w w2) → ∀ z, wpList Try.prog ops Q rest (a.put o.dst (goInt z)) w2) : wpList Try.prog ops Q (o :: rest) a w := by
  by_cases h0 : n = 0
  · subst h0
    obtain rfl : L = [] := List.eq_nil_of_length_eq_zero hn
    exact wpList_copy_nothing hgd x y _ _ ho 3 Try.underlying22 intSizeA (some ⟨g, 0, none⟩) sp 20 20 0 d hx hy rfl (h _ hg (Below.refl _ _) 0)
  · obtain ⟨ad, rfl, hs⟩ := hsrc (by omega)
    have hsz := lc_size []
    refine wpList_copy_own hgd x y _ _ ho 3 Try.underlying22 intSizeA g 0 20 20 ad n d hx hy (lc []) 60 hg (L.map (Value.int .i64)) (by rw [List.length_map, hn]; exact (Nat.min_eq_left hf).symm) (fun j v hv => ?_) (by rw [List.length_map]; omega) (fun v hv => by obtain ⟨y, -, rfl⟩ := List.mem_map.1 hv; rfl) ?_
    · have hj : j < L.length := by have := (List.getElem?_eq_some_iff.1 hv).1; simpa using this
      rw [hs j (by omega), ← hv]
      simp [List.getD, hj]
    · rw [lc_copy (by omega)]
      exact h _ (hg.setRowA) (below_setRow (Below.refl _ _) (Nat.le_refl _) _) _
theorem rangeAt_blk2 {w : World} {g : Nat} {t : TypeId} {C : Array Value} {cs : List Value} (h : Blk w g t C) (hc : C.toList = cs) : w.rangeAt g 0 cs := fun j v hv => by
  rw [Nat.zero_add, h.cell, ← hv, ← hc]; simp
def xiG (L : List Int) (t e : Nat) : Nat := if e < t then cntF (fun j => bitI (L.getD j 0) e) L.length else 0
theorem okAr_flX {xs L : List Int} (h0 : okL0 xs L = true) : okAr xs (flX xs.length L) L.length = labB xs (flX xs.length L) L.length 0 := by
  simp only [okL0, Bool.and_eq_true, decide_eq_true_eq] at h0
  exact okAr_lab (okIA_yes h0.1 (by simp [hiB]; omega) (flX_len _ _))
set_option maxRecDepth 100000 in
set_option maxHeartbeats 6400000 in
theorem implFromLayers_any (v : Value) (xs : List Int) (u : Value) (L : List Int) (w : World) (hv : Ints w v xs) (hl : xs.length ≤ 1048576) (hu : Ints w u L) (hm : L.length ≤ 1048576) :
    Calls Try.prog 25 #[.agg #[v], u] w fun (r : Ending) w' => ∃ q, r = Ending.returned (.tuple #[q, .bool (okFL xs L)]) ∧ OwnI 3 w' w.heap.size q (ansFL xs L) ∧ (ansFL xs L).length ≤ 1048576 ∧ Below w.heap.size w w' := by
  have HV := hid hv
  have HU := hid hu
  have HL := hid (ansFL_len xs L)
  obtain ⟨A, c, rfl, -⟩ := hv
  obtain ⟨B, d, rfl, hB⟩ := hu
  have HBc := hid hB
  clear hB
  cases hg : good xs
  · have HG := hid hg
    have HO := hid (okFL_no0 (xs := xs) (L := L) (by simp [okL0, hg]))
    have HN := hid (ansFL_no HO.out)
    clear hg
    go_enter Try.func25, Try.ntmps25
    have HB := hid (below_alloc (Below.refl _ w) (.cells #[(.slice A xs.length c)] 28))
    have A0 := hid (At.newAt w (.slice A xs.length c) 28 w.heap.size (by simp))
    go_wp2_with fail
    refine (implIsPoset_any _ xs _ (HV.out.below HB.out) hl).mono ?_
    rw [HG.out]
    rintro e w' ⟨rfl, hb⟩
    replace HB := hid (below_to HB.out hb)
    replace A0 := hid (A0.out.below hb)
    clear hb
    have ebox0 := A0.out.1
    go_wp2
    go_ret2
    exact ⟨_, ret_vbA HO.out.symm, by rw [HN.out]; exact OwnI.nil _ _ _, HL.out, HB.out⟩
  cases hh : hiB (L.length : Int)
  · have HG := hid hg
    have HH := hid hh
    have HO := hid (okFL_no0 (xs := xs) (L := L) (by simp only [hiB] at hh; simp [okL0]; simp at hh; omega))
    have HN := hid (ansFL_no HO.out)
    clear hg hh
    go_enter Try.func25, Try.ntmps25
    have HB := hid (below_alloc (Below.refl _ w) (.cells #[(.slice A xs.length c)] 28))
    have A0 := hid (At.newAt w (.slice A xs.length c) 28 w.heap.size (by simp))
    go_wp2_with fail
    refine (implIsPoset_any _ xs _ (HV.out.below HB.out) hl).mono ?_
    rw [HG.out]
    rintro e w' ⟨rfl, hb⟩
    replace HB := hid (below_to HB.out hb)
    replace A0 := hid (A0.out.below hb)
    clear hb
    go_wp2_with (go_at_call 40; refine (isHigh_any (L.length : Int) _).mono ?_; rw [HH.out]; rintro e w' ⟨rfl, rfl⟩)
    go_ret2
    exact ⟨_, ret_vbA HO.out.symm, by rw [HN.out]; exact OwnI.nil _ _ _, HL.out, HB.out⟩
  · have HG := hid hg
    have HH := hid hh
    have h20 : L.length ≤ 20 := by have := (hiB_all hh).2; omega
    have h0 : okL0 xs L = true := by simp [okL0, hg]; omega
    have HT := hid (okFL_test h0)
    have HAr := hid (okAr_flX h0)
    have hl10 := (good_length hg).2
    have hn1 := (good_length hg).1
    have HCW := hid (fun W e hW (he : e < 10) => countWithout_any (.slice B L.length d) L e W hW (by omega) he)
    have HFo := hid (fun W q hW hU => fillingOf_any (.slice A xs.length c) q xs (flX xs.length L) (L.length : Int) W hW hU hl (by rw [flX_len]; omega) (by
      show (decide (IntKind.i64.min ≤ (L.length : Int)) && decide ((L.length : Int) ≤ IntKind.i64.max)) = true
      rw [show IntKind.i64.min = -9223372036854775808 from by decide, show IntKind.i64.max = 9223372036854775807 from by decide]
      simp; omega))
    have HXl := hid (flX_len xs.length L)
    obtain ⟨n, hn⟩ : ∃ n, xs.length = n := ⟨_, rfl⟩
    have HNn := hid hn
    obtain ⟨m, hmm⟩ : ∃ m, L.length = m := ⟨_, rfl⟩
    have HMm := hid hmm
    rw [hn] at HV hl10 hn1 hl HT HAr HFo HXl ⊢
    rw [hmm] at HU HBc h20 hm HT HAr HCW HFo HH ⊢
    have hmk := run_make_row' (P := Try.prog) 22 3 (.int .i64 0) 8 Try.underlying22 Try.info3 rfl .i64 .i64 n (by omega) (by omega)
    have Hmk := hid hmk
    clear hg hh h0 hmk hn hmm
    go_enter Try.func25, Try.ntmps25
    have HB := hid (below_alloc (Below.refl _ w) (.cells #[(.slice A n c)] 28))
    have A0 := hid (At.newAt w (.slice A n c) 28 w.heap.size (by simp))
    go_wp2_with fail
    refine (implIsPoset_any _ xs _ (HV.out.below HB.out) (by rw [HNn.out]; exact hl)).mono ?_
    rw [HG.out]
    rintro e w' ⟨rfl, hb⟩
    replace HB := hid (below_to HB.out hb)
    replace A0 := hid (A0.out.below hb)
    clear hb
    have HA1 := A0
    have hgs := HB.out.size
    have hgx := A0.out.2
    have HSrc : Hid (∀ W, Below w.heap.size w W → 0 < m → ∃ ad, B = some ad ∧ ∀ j, j < m → W.cell? (ad.add j) = some (.int .i64 (L.getD j 0))) := hid (fun W hW h0 => by
      obtain ⟨lb, lo, rfl, hlb, hlc⟩ := HBc.out (by intro h; have := HMm.out; rw [h] at this; simp at this; omega)
      refine ⟨_, rfl, fun j hj => ?_⟩
      have e1 : (⟨lb, lo, none⟩ : Addr).add j = ⟨lb, lo + j, none⟩ := by unfold Addr.add; split <;> simp_all
      rw [e1, hW.cell (p := ⟨lb, lo + j, none⟩) hlb]; exact hlc j hj)
    have hmk := Hmk.out
    have ebox0 := A0.out.1
    go_wp2_with (first
      | (go_at_call 40; refine (isHigh_any (m : Int) _).mono ?_; rw [HH.out]; rintro e w2 ⟨rfl, rfl⟩)
      | (refine lay_cpW rfl _ _ rfl w'.heap.size L B m d rfl rfl (Blk.new w' 60 (lc [])) HMm.out h20 (HSrc.out _ (HB.out.trans ((below_alloc (Below.refl _ w') _).mono hgs))) ?_; intro w3 HF3 HW3 z3; have HB3 : Hid (Below w.heap.size w w3) := hid ((below_alloc HB.out _).trans (HW3.out.mono hgs)); have HA3 : Hid (At w3 w.heap.size (.slice A n c)) := hid ((A0.out.alloc _).under HW3.out hgx); have hbox3 := HA3.out.1; have hz3 := HW3.out.size))
    clear hmk ebox0 hbox3
    rw [Vals_made]
    have HStart : Hid (Blk (w3.alloc (.cells (Vals (List.replicate n 0)) 3)) w3.heap.size 3 (Vals (mkL n (xiG L 0)))) := hid (by
      rw [show mkL n (xiG L 0) = List.replicate n 0 from (mkL_congr (fun i hi => by simp [xiG])).trans (mkL_zero n)]
      exact Blk.new _ _ _)
    have HB0 := hid (below_alloc (Below.refl _ w3) (.cells (Vals (List.replicate n 0)) 3))
    go_loopw [29] (fun i wr => ∃ t : Nat, t ≤ n ∧ i = .int .i64 t ∧ Blk wr w3.heap.size 3 (Vals (mkL n (xiG L t))) ∧ Below w3.heap.size w3 wr) (fun i _ => n - (intOf i).toNat)
    case atStart => exact ⟨0, Nat.zero_le _, rfl, HStart.out, HB0.out⟩
    case round =>
      clear HStart HB0
      obtain ⟨t, ht, rfl, hk, hb⟩ := hrel
      have HK1 := hid hk
      have HB1 := hid hb
      clear hk hb
      by_cases htl : t < n
      · have HCl := hid (HCW.out wr t (HU.out.below (below_to HB3.out HB1.out)) (by omega))
        have HXi : Hid (cntF (fun j => bitI (L.getD j 0) t) m = cntF (fun j => bitI (L.getD j 0) t) L.length) := hid (by rw [HMm.out])
        obtain ⟨y, hy⟩ : ∃ y, cntF (fun j => bitI (L.getD j 0) t) m = y := ⟨_, rfl⟩
        rw [hy] at HCl HXi
        clear hy
        go_wp2_with fail
        refine HCl.out.mono ?_
        rintro e5 w5 ⟨rfl, hb5⟩
        have HK5 := hid (HK1.out.below hb5 HK1.out.lt)
        have HB5 := hid (below_to HB1.out hb5)
        have hcj : w5.cell? ⟨w3.heap.size, t, none⟩ = some (.int .i64 0) := by
          rw [HK5.out.cell, Vals_get (by rw [mkL_length]; exact htl), mkL_getD htl]; simp [xiG]
        have hfz := HK5.out.frozen t
        clear hb5
        go_wp2
        clear hcj hfz
        go_roundw
        case rel => exact ⟨t + 1, by omega, by go_num, (by
          rw [mkL_upd (g := xiG L t) (h := xiG L (t + 1)) y htl (fun i hi => by
            unfold xiG
            by_cases e : i = t
            · subst e; rw [if_pos (by omega), if_pos rfl, HXi.out]
            · rw [if_neg e]
              by_cases e2 : i < t
              · rw [if_pos (by omega), if_pos e2]
              · rw [if_neg (by omega), if_neg e2]), ← Vals_set]
          exact HK5.out.set_ t (.int .i64 ((y : Nat) : Int))), HB5.out.setCell (p := ⟨w3.heap.size, t, none⟩) (Nat.le_refl _) _⟩
        case measure => simp [intOf]; omega
      · obtain rfl : t = n := by omega
        have HOw := hid (HK1.out.own (xs := mkL t (xiG L t)) (B := w3.heap.size) (Nat.le_refl _) (by rw [mkL_length]; omega))
        rw [show mkL t (xiG L t) = flX t L from mkL_congr fun i hi => by unfold xiG; rw [if_pos hi]] at HOw
        rw [flX_len] at HOw
        have HBw := hid (below_to HB3.out HB1.out)
        have hbox := (HA3.out.below HB1.out).1
        have HFs := hid (fc_size (flX t L) (m : Int))
        have HFo1 := hid (fc_one (flX t L) (m : Int))
        have hzw := HBw.out.size
        go_wp2_with fail
        clear hbox
        refine (HFo.out wr _ (HV.out.below HBw.out) HOw.out.ints).mono ?_
        rintro e6 w6 ⟨rfl, hb6⟩
        have HX6 := hid (HOw.out.below hb6)
        have HL6 := hid ((HF3.out.below HB1.out HF3.out.lt).below hb6 (Nat.lt_of_lt_of_le HF3.out.lt HB1.out.size))
        have HA6 := hid ((HA3.out.below HB1.out).below hb6)
        have HB6 := hid (below_to HBw.out hb6)
        have hz6 := HB6.out.size
        clear hb6
        cases hq : okAr xs (flX t L) (m : Int)
        · have HO : Hid (okFL xs L = false) := hid (by rw [HT.out, ← HAr.out, hq]; rfl)
          have HN := hid (ansFL_no HO.out)
          have HZs := hid (fc_size [] 0)
          have HZo := hid (fc_one [] 0)
          clear hq
          go_wp2_with (refine fill_stN rfl _ _ rfl _ (fc [] 0) _ rfl rfl (Blk.new _ _ _) (fc_size [] 0) HZs.out HZo.out ?_; intro w9 HF9 HW9; have HB9 : Hid (Below w.heap.size w w9) := hid ((below_alloc HB6.out _).trans (HW9.out.mono hz6)))
          go_quiet (fail)
          go_wp2
          go_ret2
          exact ⟨_, ret_vbA HO.out.symm, by rw [HN.out]; exact OwnI.nil _ _ _, HL.out, below_drewN HB9.out _⟩
        · obtain ⟨hgg, -, -, hrr⟩ := okAr_all hq
          have HQ := hid hq
          have HLy := hid (fun W hW => layers_any (.slice A t c) xs (flX t L) m W hW (by rw [HNn.out]; exact hl10) h20)
          rw [HNn.out] at HLy
          have HEq := hid (fun W => layEq W L (layL (flX t L) t m) (by rw [HMm.out]; exact mkL_length _ _) (by rw [HMm.out]; exact h20))
          obtain ⟨R, hR⟩ : ∃ R, decide (layL (flX t L) t m = L) = R := ⟨_, rfl⟩
          have HRr : Hid (okFL xs L = R) := hid (by rw [HT.out, ← HAr.out, hq, hR]; rfl)
          rw [hR] at HEq
          obtain ⟨D, hD⟩ : ∃ D, lc (layL (flX t L) t m) = D := ⟨_, rfl⟩
          rw [hD] at HLy HEq
          obtain ⟨X, hX⟩ : ∃ X, flX t L = X := ⟨_, rfl⟩
          have HXe := hid hX
          rw [hX] at HLy HFs HFo1 HX6 ⊢
          obtain ⟨a0, ha0⟩ : ∃ a, X.getD 0 0 = a := ⟨_, rfl⟩
          obtain ⟨a1, ha1⟩ : ∃ a, X.getD 1 0 = a := ⟨_, rfl⟩
          obtain ⟨a2, ha2⟩ : ∃ a, X.getD 2 0 = a := ⟨_, rfl⟩
          obtain ⟨a3, ha3⟩ : ∃ a, X.getD 3 0 = a := ⟨_, rfl⟩
          obtain ⟨a4, ha4⟩ : ∃ a, X.getD 4 0 = a := ⟨_, rfl⟩
          obtain ⟨a5, ha5⟩ : ∃ a, X.getD 5 0 = a := ⟨_, rfl⟩
          obtain ⟨a6, ha6⟩ : ∃ a, X.getD 6 0 = a := ⟨_, rfl⟩
          obtain ⟨a7, ha7⟩ : ∃ a, X.getD 7 0 = a := ⟨_, rfl⟩
          obtain ⟨a8, ha8⟩ : ∃ a, X.getD 8 0 = a := ⟨_, rfl⟩
          obtain ⟨a9, ha9⟩ : ∃ a, X.getD 9 0 = a := ⟨_, rfl⟩
          rw [if_pos rfl]
          have hCx : fc X (m : Int) = (#[Value.int .i64 a0, Value.int .i64 a1, Value.int .i64 a2, Value.int .i64 a3, Value.int .i64 a4, Value.int .i64 a5, Value.int .i64 a6, Value.int .i64 a7, Value.int .i64 a8, Value.int .i64 a9, Value.int .i64 (m : Int)] : Array Value) := by rw [← ha0, ← ha1, ← ha2, ← ha3, ← ha4, ← ha5, ← ha6, ← ha7, ← ha8, ← ha9]; rfl
          rw [hCx] at HLy HFs HFo1 ⊢
          obtain ⟨cs, hcs⟩ : ∃ cs, (lc L).toList = cs := ⟨_, rfl⟩
          have HCs := hid hcs
          have hla : lc L = cs.toArray := by rw [← hcs]
          rw [hla] at HEq
          have hlen : (Try.prog.info? 60).map (·.size) = some cs.length := by rw [layInfo, ← hcs, Array.length_toList, lc_size]
          have hund : Try.prog.underlying 60 = some (.array 20 3) := by kernel_rfl
          have hgd60 : Try.prog.eqGuardType Try.prog.depth 60 = false := by kernel_rfl
          clear hq hgg hrr hR hD hX hCx hcs hla ha0 ha1 ha2 ha3 ha4 ha5 ha6 ha7 ha8 ha9
          go_wp2_with (refine fill_stN rfl _ _ rfl _ _ _ rfl rfl (Blk.new _ _ _) (fc_size [] 0) HFs.out HFo1.out ?_; intro w9 HF9 HW9; have HB9 : Hid (Below w.heap.size w w9) := hid ((below_alloc HB6.out _).trans (HW9.out.mono hz6)))
          have HW69 := hid ((below_alloc (Below.refl _ w6) (.cells (fc [] 0) 56)).trans HW9.out)
          have HA9 := hid (HA6.out.below HW69.out)
          have HL9 := hid (HL6.out.below HW69.out HL6.out.lt)
          have HX9 := hid (HX6.out.below HW69.out)
          obtain ⟨gF, hgF⟩ : ∃ gF, w6.heap.size = gF := ⟨_, rfl⟩
          obtain ⟨gL, hgL⟩ : ∃ gL, w'.heap.size = gL := ⟨_, rfl⟩
          rw [hgF] at HF9 ⊢
          rw [hgL] at HL9 ⊢
          clear hgF hgL HW9
          have HKeep := hid (fun W (hW : Below w9.heap.size w9 W) => show W.cell? ⟨gF, 0, none⟩ = some (.int .i64 a0) ∧ W.cell? ⟨gF, 1, none⟩ = some (.int .i64 a1) ∧ W.cell? ⟨gF, 2, none⟩ = some (.int .i64 a2) ∧ W.cell? ⟨gF, 3, none⟩ = some (.int .i64 a3) ∧ W.cell? ⟨gF, 4, none⟩ = some (.int .i64 a4) ∧ W.cell? ⟨gF, 5, none⟩ = some (.int .i64 a5) ∧ W.cell? ⟨gF, 6, none⟩ = some (.int .i64 a6) ∧ W.cell? ⟨gF, 7, none⟩ = some (.int .i64 a7) ∧ W.cell? ⟨gF, 8, none⟩ = some (.int .i64 a8) ∧ W.cell? ⟨gF, 9, none⟩ = some (.int .i64 a9) ∧ W.cell? ⟨gF, 10, none⟩ = some (.int .i64 (m : Int)) ∧ W.cell? ⟨w.heap.size, 0, none⟩ = some (.slice A t c) ∧ W.rangeAt gL 0 cs ∧ Hid (Below w9.heap.size w9 W) from ⟨(HF9.out.below hW HF9.out.lt).cell 0, (HF9.out.below hW HF9.out.lt).cell 1, (HF9.out.below hW HF9.out.lt).cell 2, (HF9.out.below hW HF9.out.lt).cell 3, (HF9.out.below hW HF9.out.lt).cell 4, (HF9.out.below hW HF9.out.lt).cell 5, (HF9.out.below hW HF9.out.lt).cell 6, (HF9.out.below hW HF9.out.lt).cell 7, (HF9.out.below hW HF9.out.lt).cell 8, (HF9.out.below hW HF9.out.lt).cell 9, (HF9.out.below hW HF9.out.lt).cell 10, (HA9.out.below hW).1, rangeAt_blk2 (HL9.out.below hW HL9.out.lt) HCs.out, hid hW⟩)
          have heq := HEq.out
          go_region_held3 (fun W => W.cell? ⟨gF, 0, none⟩ = some (.int .i64 a0) ∧ W.cell? ⟨gF, 1, none⟩ = some (.int .i64 a1) ∧ W.cell? ⟨gF, 2, none⟩ = some (.int .i64 a2) ∧ W.cell? ⟨gF, 3, none⟩ = some (.int .i64 a3) ∧ W.cell? ⟨gF, 4, none⟩ = some (.int .i64 a4) ∧ W.cell? ⟨gF, 5, none⟩ = some (.int .i64 a5) ∧ W.cell? ⟨gF, 6, none⟩ = some (.int .i64 a6) ∧ W.cell? ⟨gF, 7, none⟩ = some (.int .i64 a7) ∧ W.cell? ⟨gF, 8, none⟩ = some (.int .i64 a8) ∧ W.cell? ⟨gF, 9, none⟩ = some (.int .i64 a9) ∧ W.cell? ⟨gF, 10, none⟩ = some (.int .i64 (m : Int)) ∧ W.cell? ⟨w.heap.size, 0, none⟩ = some (.slice A t c) ∧ W.rangeAt gL 0 cs ∧ Hid (Below w9.heap.size w9 W)) (first | exact HKeep.out _ (below_drewN (Below.refl _ _) 1) | exact HKeep.out _ HB10.out) (first | (go_at_call 46; refine (HLy.out _ (HV.out.below (below_drewN HB9.out 1))).mono ?_; rintro e10 w10 ⟨rfl, hb10⟩; have HB10 : Hid (Below w9.heap.size w9 w10) := hid (below_to (below_drewN (Below.refl _ _) 1) hb10); clear hb10))
          clear heq
          cases R
          · have HN := hid (ansFL_no HRr.out)
            go_wp2
            go_ret2
            exact ⟨_, ret_vbA HRr.out.symm, by rw [HN.out]; exact OwnI.nil _ _ _, HL.out, below_to HB9.out HB10.out⟩
          · have HN := hid (ansFL_yes HRr.out)
            rw [HNn.out, HXe.out] at HN
            go_wp2
            go_ret2
            exact ⟨_, ret_vbA HRr.out.symm, by rw [HN.out]; exact (HX9.out.below HB10.out).mono HB3.out.size, HL.out, below_to HB9.out HB10.out⟩
end Go.Proofs.Ytgepbekdgocnpab
