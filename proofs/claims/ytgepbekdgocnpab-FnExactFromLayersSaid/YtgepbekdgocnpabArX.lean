/- Arrays in the program: layers; IdealOfArray, ArrayOfIdeal, MirrorArray, LayersOf. -/
import Derived.Test.YtgepbekdgocnpabArL
import Derived.Test.YtgepbekdgocnpabArW
namespace Go.Proofs.Ytgepbekdgocnpab
open Go.RowKit Go.WideShapes Go.ChangeShapes
set_option linter.unusedVariables false

set_option maxHeartbeats 800000 in
theorem layer_any (v : Value) (xs f : List Int) (b j : Int) (w : World) (hv : Ints w v xs) (hl10 : xs.length ≤ 10) :
    Calls Try.prog 45 #[.agg (fc f b), .agg #[v], .int .i64 j] w fun r w' => r = .returned (.int .i64 (layN f j xs.length : Nat)) ∧ Below w.heap.size w w' := by
  obtain ⟨A, c, rfl, -⟩ := hv
  have HGet := hid (fun k (hk : k < 10) => fc_get (f := f) (b := b) hk)
  obtain ⟨C, hC⟩ : ∃ C, fc f b = C := ⟨_, rfl⟩
  rw [hC] at HGet ⊢
  obtain ⟨n, hnn⟩ : ∃ n, xs.length = n := ⟨_, rfl⟩
  rw [hnn] at hl10 ⊢
  clear hnn hC
  go_enter Try.func45, Try.ntmps45
  go_wp2_with fail
  have HB := hid (below_alloc (below_alloc (Below.refl _ w) (.cells C 56)) (.cells #[.slice A n c] 28))
  have HF : Hid (Blk ((w.alloc (.cells C 56)).alloc (.cells #[.slice A n c] 28)) w.heap.size 56 C) := hid ((Blk.new w _ C).alloc _)
  obtain ⟨W0, hW0⟩ : ∃ W0, (w.alloc (.cells C 56)).alloc (.cells #[.slice A n c] 28) = W0 := ⟨_, rfl⟩
  rw [hW0] at HB HF ⊢
  clear hW0
  go_loop [7, 12] (fun q i => ∃ (k t : Nat), k ≤ n ∧ i = .int .i64 k ∧ q = .int .i64 t ∧ Hid (layN f j k = t)) (fun _ i => n - (intOf i).toNat)
  case atStart => exact ⟨0, 0, Nat.zero_le _, rfl, rfl, hid rfl⟩
  case round =>
    obtain ⟨k, t, hk, rfl, rfl, HT⟩ := hrel
    by_cases hlt : k < n
    · have hcf : W0.cell? ⟨w.heap.size, k, none⟩ = some (.int .i64 (f.getD k 0)) := by rw [HF.out.cell]; exact HGet.out k (by omega)
      have HSt := layN_step (f := f) (j := j) (k := k)
      obtain ⟨x, hx⟩ : ∃ x, f.getD k 0 = x := ⟨_, rfl⟩
      rw [hx] at hcf HSt
      rw [HT.out] at HSt
      have htl : t < 1024 := by
        have h1 := layN_lt f j k
        rw [HT.out] at h1
        have : 2 ^ k ≤ 2 ^ 10 := Nat.pow_le_pow_right (by omega) (by omega)
        omega
      have hk10 : k < 10 := by omega
      clear hx
      by_cases hle : x ≤ j
      · rw [if_pos hle] at HSt
        have HS := hid HSt
        have wp := wrap_pow' k (by omega)
        have hor := or_pow t k htl (by omega)
        clear HSt htl
        go_wp2
        go_round
        case rel => exact ⟨k + 1, _, by omega, by go_num, rfl, HS⟩
        case measure => simp [intOf]; omega
      · rw [if_neg hle] at HSt
        have HS := hid HSt
        clear HSt htl
        go_wp2
        go_round
        case rel => exact ⟨k + 1, t, by omega, by go_num, rfl, HS⟩
        case measure => simp [intOf]; omega
    · obtain rfl : k = n := by omega
      go_wp2
      go_ret
      exact ⟨ret_int (by rw [HT.out]), HB.out⟩
theorem implIdealOfArray_any (v : Value) (xs : List Int) (u : Value) (f : List Int) (b : Int) (w : World) (hv : Ints w v xs) (hl : xs.length ≤ 1048576) (hu : Ints w u f) (hm : f.length ≤ 1048576) (wf : (Lit.int .i64 b).wf = true) :
    Calls Try.prog 21 #[.agg #[v], u, .int .i64 b] w fun r w' => r = .returned (.tuple #[.int .i64 (ansIA xs f b), .bool (okAr xs f b)]) ∧ Below w.heap.size w w' := by
  have HV := hid hv
  have HU := hid hu
  have HFo := hid (fun W hW hU => fillingOf_any v u xs f b W hW hU hl hm wf)
  clear hv hu wf
  cases hq : okAr xs f b
  · have HN := hid (ansIA_no hq)
    have HQ2 := hid hq
    rw [hq] at HFo
    simp only [Bool.false_eq_true, if_false] at HFo
    have HCs := hid (fc_size [] 0)
    have HCo := hid (fc_one [] 0)
    obtain ⟨Z, hZ⟩ : ∃ Z, fc [] 0 = Z := ⟨_, rfl⟩
    rw [hZ] at HCs HCo HFo
    clear hq hZ
    go_enter Try.func21, Try.ntmps21
    have HB := hid (below_alloc (Below.refl _ w) (.cells #[v] 28))
    have A0 := hid (At.newAt w v 28 w.heap.size (by simp))
    have ebox0 := A0.out.1
    go_wp2_with fail
    clear ebox0
    refine (HFo.out _ (HV.out.below HB.out) (HU.out.below HB.out)).mono ?_
    rintro e' w1 ⟨rfl, hb⟩
    replace HB := hid (below_to HB.out hb)
    have HA1 := hid (A0.out.below hb)
    have hz1 := HB.out.size
    have hx1 := HA1.out.2
    clear hb A0
    go_wp2_with (first | (refine fill_stN rfl _ _ rfl _ Z _ rfl rfl (Blk.new _ _ _) (fc_size [] 0) HCs.out HCo.out ?_; intro W5 HF5 HW5; have HB5 : Hid (Below w.heap.size w W5) := hid ((below_alloc HB.out _).trans (HW5.out.mono hz1)); have HA5 : Hid (At W5 w.heap.size v) := hid ((HA1.out.alloc _).under HW5.out hx1); have hbox5 := HA5.out.1))
    go_ret2
    exact ⟨ret_ib HN.out.symm rfl, HB5.out⟩
  · have HN := hid (ansIA_yes hq)
    rw [hq] at HFo
    simp only [if_true] at HFo
    have HCs := hid (fc_size f b)
    have HCo := hid (fc_one f b)
    have HQ := hid hq
    obtain ⟨hg, b0, b1, hr⟩ := okAr_all hq
    have hl10 := (good_length hg).2
    have HG := hid hg
    have HR := hid hr
    obtain ⟨C, hC⟩ : ∃ C, fc f b = C := ⟨_, rfl⟩
    have HC := hid hC
    rw [hC] at HCs HCo HFo
    clear hq hC hg hr
    go_enter Try.func21, Try.ntmps21
    have HB := hid (below_alloc (Below.refl _ w) (.cells #[v] 28))
    have A0 := hid (At.newAt w v 28 w.heap.size (by simp))
    have ebox0 := A0.out.1
    go_wp2_with fail
    clear ebox0
    refine (HFo.out _ (HV.out.below HB.out) (HU.out.below HB.out)).mono ?_
    rintro e' w1 ⟨rfl, hb⟩
    replace HB := hid (below_to HB.out hb)
    have HA1 := hid (A0.out.below hb)
    have hz1 := HB.out.size
    have hx1 := HA1.out.2
    clear hb A0
    go_wp2_with (first | (refine fill_stN rfl _ _ rfl _ C _ rfl rfl (Blk.new _ _ _) (fc_size [] 0) HCs.out HCo.out ?_; intro W5 HF5 HW5; have HB5 : Hid (Below w.heap.size w W5) := hid ((below_alloc HB.out _).trans (HW5.out.mono hz1)); have HA5 : Hid (At W5 w.heap.size v) := hid ((HA1.out.alloc _).under HW5.out hx1); have hbox5 := HA5.out.1) | (refine fill_ldW rfl _ rfl w1.heap.size rfl _ HF5.out HCs.out ?_))
    have HLy := hid (layer_any v xs f b 0 W5 (HV.out.below HB5.out) hl10)
    rw [HC.out] at HLy
    refine HLy.out.mono ?_
    rintro e7 w7 ⟨rfl, hb7⟩
    have HB7 := hid (below_to HB5.out hb7)
    clear hb7 hbox5
    go_wp2
    go_ret2
    exact ⟨ret_ib HN.out.symm rfl, HB7.out⟩
set_option maxHeartbeats 800000 in
theorem implArrayOfIdeal_any (v : Value) (xs : List Int) (s b : Int) (w : World) (hv : Ints w v xs) (hl : xs.length ≤ 1048576) (wf : (Lit.int .i64 s).wf = true) (wfb : (Lit.int .i64 b).wf = true) :
    Calls Try.prog 13 #[.agg #[v], .int .i64 s, .int .i64 b] w fun (r : Ending) w' => ∃ q, r = Ending.returned (.tuple #[q, .bool (okAI xs s b)]) ∧ OwnI 3 w' w.heap.size q (ansAI xs s b) ∧ (ansAI xs s b).length ≤ 1048576 ∧ Below w.heap.size w w' := by
  have HV := hid hv
  have HL := hid (ansAI_len xs s b)
  obtain ⟨A, c, rfl, -⟩ := hv
  clear wf wfb
  obtain ⟨n, hn⟩ : ∃ n, xs.length = n := ⟨_, rfl⟩
  have HNn := hid hn
  rw [hn] at HV hl ⊢
  go_enter Try.func13, Try.ntmps13
  have HB := hid (below_alloc (Below.refl _ w) (.cells #[(.slice A n c)] 28))
  have A0 := hid (At.newAt w (.slice A n c) 28 w.heap.size (by simp))
  go_wp2_with fail
  refine (hasIdeal_any _ xs s _ (HV.out.below HB.out) (by rw [HNn.out]; exact hl)).mono ?_
  rintro e w' ⟨rfl, hb⟩
  replace HB := hid (below_to HB.out hb)
  replace A0 := hid (A0.out.below hb)
  clear hb
  clear hn
  cases hq : okIdeal xs s
  · have HO := hid (okAI_no1 (b := b) hq)
    have HN := hid (ansAI_no HO.out)
    clear hq
    have ebox0 := A0.out.1
    go_wp2
    go_ret2
    exact ⟨_, ret_vbA HO.out.symm, by rw [HN.out]; exact OwnI.nil _ _ _, HL.out, HB.out⟩
  cases hbb : hiB b
  · have HO := hid (okAI_no2 (xs := xs) (s := s) hbb)
    have HN := hid (ansAI_no HO.out)
    have HD := hid hbb
    clear hq hbb
    have ebox0 := A0.out.1
    go_wp2_with (go_at_call 40; refine (isHigh_any b _).mono ?_; rw [HD.out]; rintro e w' ⟨rfl, rfl⟩)
    go_ret2
    exact ⟨_, ret_vbA HO.out.symm, by rw [HN.out]; exact OwnI.nil _ _ _, HL.out, HB.out⟩
  · have HO := hid (okAI_yes hq hbb)
    have HD := hid hbb
    obtain ⟨b0, b1⟩ := hiB_all hbb
    obtain ⟨m, rfl⟩ := Int.eq_ofNat_of_zero_le b0
    obtain ⟨z, rfl, h3, h4, -⟩ := okIdeal_all hq
    have HN := hid (ansAI_yes HO.out)
    rw [HNn.out] at HN h4
    have hl10 := (good_length h3).2
    have hl1 := (good_length h3).1
    rw [HNn.out] at hl10 hl1
    have hz10 : z < 1024 := by
      have : 2 ^ n ≤ 2 ^ 10 := Nat.pow_le_pow_right (by omega) hl10
      omega
    have hmk := run_make_row' (P := Try.prog) 22 3 (.int .i64 0) 8 Try.underlying22 Try.info3 rfl .i64 .i64 n (by omega) (by omega)
    have ebox0 := A0.out.1
    clear hq hbb h3 h4
    go_wp2_with (go_at_call 40; refine (isHigh_any (m : Int) _).mono ?_; rw [HD.out]; rintro e w2 ⟨rfl, rfl⟩)
    clear hmk ebox0
    rw [Vals_made]
    obtain ⟨g, hgz⟩ : ∃ g, w'.heap.size = g := ⟨_, rfl⟩
    have hwg : w.heap.size ≤ g := by have := HB.out.size; omega
    have HStart : Hid (Blk (w'.alloc (.cells (Vals (List.replicate n 0)) 3)) g 3 (Vals (mkL n fun i => if i < 0 then aiG z m i else 0))) := hid (by
      rw [show (mkL n fun i => if i < 0 then aiG z m i else 0) = List.replicate n 0 from (mkL_congr (fun i hi => by simp)).trans (mkL_zero n)]
      exact Blk.newAt _ _ _ _ hgz.symm)
    have HB0 := hid (below_alloc HB.out (.cells (Vals (List.replicate n 0)) 3))
    rw [hgz]
    clear hgz
    go_loopw [25] (fun i wr => ∃ t : Nat, t ≤ n ∧ i = .int .i64 t ∧ Blk wr g 3 (Vals (mkL n fun i => if i < t then aiG z m i else 0)) ∧ Below w.heap.size w wr) (fun i _ => n - (intOf i).toNat)
    case atStart => exact ⟨0, Nat.zero_le _, rfl, HStart.out, HB0.out⟩
    case round =>
      obtain ⟨t, ht, rfl, hk, hb⟩ := hrel
      have HK1 := hid hk
      have HB1 := hid hb
      clear hk hb
      by_cases htl : t < n
      · have hcj : wr.cell? ⟨g, t, none⟩ = some (.int .i64 0) := by
          rw [HK1.out.cell, Vals_get (by rw [mkL_length]; exact htl), mkL_getD htl, if_neg (by omega)]; rfl
        have hfz := HK1.out.frozen t
        have HG := hid (show aiG z m t = if z.testBit t then 0 else m from rfl)
        cases hbit : z.testBit t
        · have Hb := hid hbit
          have HY : Hid (aiG z m t = m) := hid (by rw [HG.out, hbit]; rfl)
          clear hbit
          go_wp2_with (go_at_call 41; refine (hasElement_any z t (by omega) (by omega) _).mono ?_; rw [Hb.out]; rintro e w2 ⟨rfl, rfl⟩)
          go_roundw
          case rel => exact ⟨t + 1, by omega, by go_num, (by
            rw [mkL_upd (g := fun i => if i < t then aiG z m i else 0) (h := fun i => if i < t + 1 then aiG z m i else 0) m htl (fun i hi => by
              by_cases e : i = t
              · subst e; rw [if_pos (by omega), if_pos rfl, HY.out]
              · rw [if_neg e]
                by_cases e2 : i < t
                · rw [if_pos (by omega), if_pos e2]
                · rw [if_neg (by omega), if_neg e2]), ← Vals_set]
            exact HK1.out.set_ t (.int .i64 ((m : Nat) : Int))), HB1.out.setCell (p := ⟨g, t, none⟩) hwg _⟩
          case measure => simp [intOf]; omega
        · have Hb := hid hbit
          have HY : Hid (aiG z m t = 0) := hid (by rw [HG.out, hbit]; rfl)
          clear hbit hcj hfz
          go_wp2_with (go_at_call 41; refine (hasElement_any z t (by omega) (by omega) _).mono ?_; rw [Hb.out]; rintro e w2 ⟨rfl, rfl⟩)
          go_roundw
          case rel => exact ⟨t + 1, by omega, by go_num, (by
            rw [show (mkL n fun i => if i < t + 1 then aiG z m i else 0) = mkL n fun i => if i < t then aiG z m i else 0 from mkL_congr (fun i hi => by
              by_cases e : i = t
              · subst e; rw [if_pos (by omega), if_neg (by omega), HY.out]
              · by_cases e2 : i < t
                · rw [if_pos (by omega), if_pos e2]
                · rw [if_neg (by omega), if_neg e2])]
            exact HK1.out), HB1.out⟩
          case measure => simp [intOf]; omega
      · obtain rfl : t = n := by omega
        have HOw := hid (HK1.out.own (xs := mkL t fun i => if i < t then aiG z m i else 0) (B := w.heap.size) hwg (by rw [mkL_length]; omega))
        have e : (mkL t fun i => if i < t then aiG z m i else 0) = mkL t (aiG z m) := mkL_congr fun i hi => by rw [if_pos hi]
        have HE := hid e
        clear e
        go_wp2
        go_ret2
        exact ⟨_, ret_vbA HO.out.symm, (by have h := HOw.out; rw [HE.out] at h; rw [HN.out]; rw [mkL_length] at h; exact h), HL.out, HB1.out⟩
end Go.Proofs.Ytgepbekdgocnpab
