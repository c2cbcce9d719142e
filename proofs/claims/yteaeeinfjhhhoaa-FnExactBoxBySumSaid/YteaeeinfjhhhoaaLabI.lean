/- IdealsOfLabels and ComplementLabels, both sides. -/
import Derived.Test.YteaeeinfjhhhoaaLabS
import Derived.Test.YteaeeinfjhhhoaaWhere
namespace Go.Proofs.Yteaeeinfjhhhoaa
open Go.RowKit Go.WideShapes Go.ChangeShapes
set_option linter.unusedVariables false

theorem ret_vbL {u : Value} {a b : Bool} (h : a = b) : Ending.returned (.tuple #[u, .bool a]) = .returned (.tuple #[u, .bool b]) := by rw [h]
/-- the set of the first n elements with a label less than k -/
def lowN (f : List Int) (k : Nat) (n : Nat) : Nat := rowN (fun e => decide (f.getD e 0 < (k : Int))) n
theorem lowN_yes {f : List Int} {k n : Nat} (h : f.getD n 0 < (k : Int)) : lowN f k (n + 1) = lowN f k n ||| 2 ^ n := by
  unfold lowN; rw [rowN, decide_eq_true h]; rfl
theorem lowN_no {f : List Int} {k n : Nat} (h : ¬ f.getD n 0 < (k : Int)) : lowN f k (n + 1) = lowN f k n := by
  unfold lowN; rw [rowN, decide_eq_false h]; rfl
theorem lowN_lt (f : List Int) (k n : Nat) (h : n ≤ 10) : lowN f k n < 1024 := Nat.lt_of_lt_of_le (rowN_lt _ n) (two_pow_le n h).2
def lowsL (f : List Int) (m : Nat) : List Int := mkL m fun i => lowN f (i + 1) f.length
def ansIL (xs f : List Int) (m : Int) : List Int := if okLab xs f m 0 then lowsL f m.toNat else []
theorem ansIL_no {xs f : List Int} {m : Int} (h : okLab xs f m 0 = false) : ansIL xs f m = [] := by simp [ansIL, h]
theorem ansIL_yes {xs f : List Int} {m : Int} (h : okLab xs f m 0 = true) : ansIL xs f m = lowsL f m.toNat := by simp [ansIL, h]
theorem ansIL_length (xs f : List Int) (m : Int) : (ansIL xs f m).length ≤ 1048576 := by
  cases h : okLab xs f m 0
  · rw [ansIL_no h]; simp
  · rw [ansIL_yes h, lowsL, mkL_length]; have := okLab_all h; omega
theorem mkL_succ (n : Nat) (g : Nat → Nat) : mkL (n + 1) g = mkL n g ++ [((g n : Nat) : Int)] := by
  unfold mkL; rw [List.range_succ, List.map_append]; rfl
set_option maxHeartbeats 1600000 in
theorem specIdealsOfLabels_any (v : Value) (xs : List Int) (u : Value) (f : List Int) (m : Int) (w : World) (hv : Ints w v xs) (hl : xs.length ≤ 1048576) (hu : Ints w u f) (hm : f.length ≤ 1048576) (wf : (Lit.int .i64 m).wf = true) :
    Calls Try.prog 19 #[.agg #[v], u, .int .i64 m] w fun (r : Ending) w' => ∃ q, r = Ending.returned (.tuple #[q, .bool (okLab xs f m 0)]) ∧ OwnI 3 w' w.heap.size q (ansIL xs f m) ∧ (ansIL xs f m).length ≤ 1048576 ∧ Below w.heap.size w w' := by
  have HV := hid hv
  have HU := hid hu
  have HL := hid (ansIL_length xs f m)
  clear hv hu wf
  cases hg : good xs
  · have HG := hid hg
    have HO := hid (okLab_no1 (f := f) (g := 0) (okBd_no1 (m := m) hg))
    have HN := hid (ansIL_no HO.out)
    clear hg
    go_enter Try.func19, Try.ntmps19
    have HB := hid (below_alloc (Below.refl _ w) (.cells #[v] 28))
    have A0 := hid (At.newAt w v 28 w.heap.size (by simp))
    go_wp2_with fail
    refine (poGood_any _ xs _ (HV.out.below HB.out) hl).mono ?_
    rw [HG.out]
    rintro e w' ⟨rfl, hb⟩
    replace HB := hid (below_to HB.out hb)
    replace A0 := hid (A0.out.below hb)
    clear hb
    have ebox0 := A0.out.1
    go_wp2
    go_ret2
    exact ⟨_, ret_vbL HO.out.symm, by rw [HN.out]; exact OwnI.nil _ _ _, HL.out, HB.out⟩
  cases hb : bdB m
  · have HG := hid hg
    have HD := hid hb
    have HO := hid (okLab_no1 (f := f) (g := 0) (okBd_no2 (xs := xs) hb))
    have HN := hid (ansIL_no HO.out)
    clear hg hb
    go_enter Try.func19, Try.ntmps19
    have HB := hid (below_alloc (Below.refl _ w) (.cells #[v] 28))
    have A0 := hid (At.newAt w v 28 w.heap.size (by simp))
    go_wp2_with fail
    refine (poGood_any _ xs _ (HV.out.below HB.out) hl).mono ?_
    rw [HG.out]
    rintro e w' ⟨rfl, hb⟩
    replace HB := hid (below_to HB.out hb)
    replace A0 := hid (A0.out.below hb)
    clear hb
    go_wp2_with (go_at_call 34; refine (laBound_any m _).mono ?_; rw [HD.out]; rintro e w' ⟨rfl, rfl⟩)
    go_ret2
    exact ⟨_, ret_vbL HO.out.symm, by rw [HN.out]; exact OwnI.nil _ _ _, HL.out, HB.out⟩
  obtain ⟨h1, h2⟩ := bdB_all hb
  obtain ⟨M, rfl⟩ := Int.eq_ofNat_of_zero_le h1
  have HG := hid hg
  have HD := hid hb
  have HO := hid (okLab_yes (f := f) (g := 0) (okBd_yes hg hb))
  have HLa := hid (fun W hW hU => laAre_any v u xs f M 0 W hW hU hg hm (by omega) (by omega) (by omega))
  clear hg hb h1
  cases hq : labB xs f M 0
  · rw [hq] at HO HLa
    have HN := hid (ansIL_no HO.out)
    clear hq
    go_enter Try.func19, Try.ntmps19
    have HB := hid (below_alloc (Below.refl _ w) (.cells #[v] 28))
    have A0 := hid (At.newAt w v 28 w.heap.size (by simp))
    go_wp2_with fail
    refine (poGood_any _ xs _ (HV.out.below HB.out) hl).mono ?_
    rw [HG.out]
    rintro e w' ⟨rfl, hb⟩
    replace HB := hid (below_to HB.out hb)
    replace A0 := hid (A0.out.below hb)
    clear hb
    have ebox0 := A0.out.1
    go_wp2_with (first | (go_at_call 34; refine (laBound_any _ _).mono ?_; rw [HD.out]; rintro e w' ⟨rfl, rfl⟩) | fail)
    clear ebox0
    refine (HLa.out _ (HV.out.below HB.out) (HU.out.below HB.out)).mono ?_
    rintro e w' ⟨rfl, hb⟩
    replace HB := hid (below_to HB.out hb)
    clear hb
    go_wp2
    go_ret2
    exact ⟨_, ret_vbL HO.out.symm, by rw [HN.out]; exact OwnI.nil _ _ _, HL.out, HB.out⟩
  rw [hq] at HO HLa
  have HY := hid (ansIL_yes HO.out)
  have HLen := hid (labB_all hq).1
  have HAt := hid (labB_all hq).2
  clear hq
  rw [Int.toNat_natCast] at HY
  have hf10 : f.length ≤ 10 := by have := HLen.out; have := (good_length HG.out).2; omega
  obtain ⟨B, d, rfl, hB⟩ := HU.out
  have HF := hid hB
  clear hB
  go_enter Try.func19, Try.ntmps19
  have HB := hid (below_alloc (Below.refl _ w) (.cells #[v] 28))
  have A0 := hid (At.newAt w v 28 w.heap.size (by simp))
  go_wp2_with fail
  refine (poGood_any _ xs _ (HV.out.below HB.out) hl).mono ?_
  rw [HG.out]
  rintro e w' ⟨rfl, hb⟩
  replace HB := hid (below_to HB.out hb)
  replace A0 := hid (A0.out.below hb)
  clear hb
  have ebox0 := A0.out.1
  go_wp2_with (first | (go_at_call 34; refine (laBound_any _ _).mono ?_; rw [HD.out]; rintro e w' ⟨rfl, rfl⟩) | fail)
  clear ebox0
  refine (HLa.out _ (HV.out.below HB.out) (HU.out.below HB.out)).mono ?_
  rintro e w1 ⟨rfl, hb⟩
  replace HB := hid (below_to HB.out hb)
  replace A0 := hid (A0.out.below hb)
  clear hb
  go_wp2
  go_loopw [8, 9] (fun q i wr => ∃ j k : Nat, k = j + 1 ∧ j ≤ M ∧ i = .int .i64 (k : Int) ∧ OwnI 3 wr w.heap.size q (mkL j fun i => lowN f (i + 1) f.length) ∧ Below w.heap.size w wr) (fun _ i _ => M + 1 - (intOf i).toNat)
  case atStart => exact ⟨0, 1, rfl, Nat.zero_le _, rfl, OwnI.nil _ _ _, HB.out⟩
  case round =>
    obtain ⟨j, k, hkj, hj, rfl, ho, hb⟩ := hrel
    have HO1 := hid ho
    have HB1 := hid hb
    have HKJ := hid hkj
    have hjk : j < k := by omega
    have hkj2 : k ≤ j + 1 := by omega
    clear ho hb hkj
    by_cases hlt : k ≤ M
    · obtain ⟨W1, rfl⟩ : ∃ x, x = wr := ⟨wr, rfl⟩
      go_wp2
      go_loop [10, 35] (fun q i => ∃ t : Nat, t ≤ f.length ∧ i = .int .i64 t ∧ q = .int .i64 (lowN f k t : Nat)) (fun _ i => f.length - (intOf i).toNat)
      case atStart => exact ⟨0, Nat.zero_le _, rfl, rfl⟩
      case round =>
        obtain ⟨t, ht, rfl, rfl⟩ := hrel
        by_cases htl : t < f.length
        · obtain ⟨b, o, rfl, hbl, hc⟩ := HF.out (by intro h; simp [h] at htl)
          have hcell := (HB1.out.cell (p := ⟨b, o + t, none⟩) hbl).trans (hc t htl)
          obtain ⟨x, hx⟩ : ∃ x, f.getD t 0 = x := ⟨_, rfl⟩
          rw [hx] at hcell
          have HX := hid hx
          clear hc hx
          by_cases hxk : x < (k : Int)
          · have HS := hid (lowN_yes (k := k) (by rw [HX.out]; exact hxk))
            have h3 := lowN_lt f k t (by omega)
            have wp := wrap_pow' t (by omega)
            have hor := or_pow (lowN f k t) t h3 (by omega)
            clear h3
            go_wp2
            go_round
            case rel => exact ⟨t + 1, by omega, by go_num, by rw [HS.out]⟩
            case measure => simp [intOf]; omega
          · have HS := hid (lowN_no (k := k) (by rw [HX.out]; exact hxk))
            go_wp2
            go_round
            case rel => exact ⟨t + 1, by omega, by go_num, by rw [HS.out]⟩
            case measure => simp [intOf]; omega
        · obtain rfl : t = f.length := by omega
          have hz1 := HB1.out.size
          have HSn := hid (mkL_succ j fun i => lowN f (i + 1) f.length)
          have hlen : (mkL j fun i => lowN f (i + 1) f.length).length < 1048576 := by rw [mkL_length]; omega
          go_wp2_with (at_builtin; refine wpList_append_int rfl _ _ 22 3 rfl Try.underlying22 Try.info3 w.heap.size _ _ (lowN f k f.length : Nat) rfl HO1.out rfl rfl hlen hz1 ?_; rintro q2 w3 ho2 hb3)
          go_roundw
          case rel => exact ⟨j + 1, k + 1, by have := HKJ.out; omega, by omega, by go_num, (by have hk2 := HKJ.out; subst hk2; rw [HSn.out]; exact ho2), HB1.out.trans hb3⟩
          case measure => simp [intOf]; omega
    · obtain rfl : j = M := by omega
      go_wp2
      go_ret2
      exact ⟨_, ret_vbL HO.out.symm, (by rw [HY.out]; exact HO1.out), HL.out, HB1.out⟩
set_option maxHeartbeats 1600000 in
theorem implIdealsOfLabels_any (v : Value) (xs : List Int) (u : Value) (f : List Int) (m : Int) (w : World) (hv : Ints w v xs) (hl : xs.length ≤ 1048576) (hu : Ints w u f) (hm : f.length ≤ 1048576) (wf : (Lit.int .i64 m).wf = true) :
    Calls Try.prog 20 #[.agg #[v], u, .int .i64 m] w fun (r : Ending) w' => ∃ q, r = Ending.returned (.tuple #[q, .bool (okLab xs f m 0)]) ∧ OwnI 3 w' w.heap.size q (ansIL xs f m) ∧ (ansIL xs f m).length ≤ 1048576 ∧ Below w.heap.size w w' := by
  have HV := hid hv
  have HU := hid hu
  have HL := hid (ansIL_length xs f m)
  clear hv hu wf
  cases hq : okLab xs f m 0
  · have HQ := hid hq
    have HN := hid (ansIL_no hq)
    clear hq
    go_enter Try.func20, Try.ntmps20
    have HB := hid (below_alloc (Below.refl _ w) (.cells #[v] 28))
    have A0 := hid (At.newAt w v 28 w.heap.size (by simp))
    go_wp2_with fail
    refine (hasLabels_any _ _ xs f m _ (HV.out.below HB.out) (HU.out.below HB.out) hl hm).mono ?_
    rw [HQ.out]
    rintro e w' ⟨rfl, hb⟩
    replace HB := hid (below_to HB.out hb)
    replace A0 := hid (A0.out.below hb)
    clear hb
    have ebox0 := A0.out.1
    go_wp2
    go_ret2
    exact ⟨_, rfl, by rw [HN.out]; exact OwnI.nil _ _ _, HL.out, HB.out⟩
  obtain ⟨hg, h1, h2, h3, h4⟩ := okLab_all hq
  obtain ⟨M, rfl⟩ := Int.eq_ofNat_of_zero_le h1
  have HQ := hid hq
  have HY := hid (ansIL_yes hq)
  rw [Int.toNat_natCast] at HY
  have hf10 : f.length ≤ 10 := by have := (good_length hg).2; omega
  have HAt := hid h4
  have HU0 := hid HU.out
  obtain ⟨B, d, rfl, hB⟩ := HU.out
  have HF := hid hB
  have hmk := run_make_row' (P := Try.prog) 22 3 (.int .i64 0) 8 Try.underlying22 Try.info3 rfl .i64 .i64 M (by omega) (by omega)
  have Hmk := hid hmk
  clear hB hg h1 h3 h4 hq hmk
  go_enter Try.func20, Try.ntmps20
  have HB := hid (below_alloc (Below.refl _ w) (.cells #[v] 28))
  have A0 := hid (At.newAt w v 28 w.heap.size (by simp))
  go_wp2_with fail
  refine (hasLabels_any _ _ xs f M _ (HV.out.below HB.out) (HU0.out.below HB.out) hl hm).mono ?_
  rw [HQ.out]
  rintro e w' ⟨rfl, hb⟩
  replace HB := hid (below_to HB.out hb)
  replace A0 := hid (A0.out.below hb)
  clear hb
  have hmk := Hmk.out
  go_wp2
  clear hmk
  rw [Vals_made]
  obtain ⟨g, hgz⟩ : ∃ g, w'.heap.size = g := ⟨_, rfl⟩
  have hwg : w.heap.size ≤ g := by have := HB.out.size; omega
  have HStart : Hid (Blk (w'.alloc (.cells (Vals (List.replicate M 0)) 3)) g 3 (Vals (mkL M fun i => lowN f (i + 1) 0))) := hid (by
    rw [show (mkL M fun i => lowN f (i + 1) 0) = List.replicate M 0 from mkL_zero M]
    exact Blk.newAt _ _ _ _ hgz.symm)
  have HB0 := hid (below_alloc HB.out (.cells (Vals (List.replicate M 0)) 3))
  rw [hgz]
  clear hgz
  go_loopw [21] (fun i wr => ∃ t : Nat, t ≤ f.length ∧ i = .int .i64 t ∧ Blk wr g 3 (Vals (mkL M fun i => lowN f (i + 1) t)) ∧ Below w.heap.size w wr) (fun i _ => f.length - (intOf i).toNat)
  case atStart => exact ⟨0, Nat.zero_le _, rfl, HStart.out, HB0.out⟩
  case round =>
    obtain ⟨t, ht, rfl, hk, hb⟩ := hrel
    have HK1 := hid hk
    have HB1 := hid hb
    clear hk hb
    by_cases htl : t < f.length
    · obtain ⟨b, o, rfl, hbl, hc⟩ := HF.out (by intro h; simp [h] at htl)
      have hcell := (HB1.out.cell (p := ⟨b, o + t, none⟩) hbl).trans (hc t htl)
      have hr := labAt_rng (HAt.out t htl) (by omega)
      obtain ⟨x0, hx⟩ : ∃ x, f.getD t 0 = x := ⟨_, rfl⟩
      rw [hx] at hcell hr
      obtain ⟨x, rfl⟩ := Int.eq_ofNat_of_zero_le hr.1
      have HX := hid hx
      clear hc hx
      have hx12 : x ≤ 12 := by omega
      obtain ⟨W1, rfl⟩ : ∃ x, x = wr := ⟨wr, rfl⟩
      go_wp2
      clear hcell
      go_loopw [11] (fun i wr => ∃ k : Nat, x + 1 ≤ k ∧ k ≤ M + 1 + x ∧ i = .int .i64 k ∧ Blk wr g 3 (Vals (mkL M fun i => if i + 1 < k then lowN f (i + 1) (t + 1) else lowN f (i + 1) t)) ∧ Below w.heap.size w wr) (fun i _ => M + 1 - (intOf i).toNat)
      case atStart => exact ⟨x + 1, Nat.le_refl _, by omega, by go_num, (by
        have e : (mkL M fun i => if i + 1 < x + 1 then lowN f (i + 1) (t + 1) else lowN f (i + 1) t) = mkL M fun i => lowN f (i + 1) t := mkL_congr fun i _ => by
          split
          · rw [lowN_no (by rw [HX.out]; omega)]
          · rfl
        rw [e]; exact HK1.out), HB1.out⟩
      case round =>
        obtain ⟨k, hk1, hk2, rfl, hk, hb⟩ := hrel
        have HK2 := hid hk
        have HB2 := hid hb
        clear hk hb
        by_cases hkM : k ≤ M
        · obtain ⟨j, hj⟩ : ∃ j, k = j + 1 := ⟨k - 1, by omega⟩
          subst hj
          have hjM : j < M := by omega
          have hjM2 : (j : Int) < M := by omega
          have hcj : wr.cell? ⟨g, j, none⟩ = some (.int .i64 (lowN f (j + 1) t : Nat)) := by
            rw [HK2.out.cell, Vals_get (by rw [mkL_length]; exact hjM), mkL_getD hjM, if_neg (by omega)]
          have hfz := HK2.out.frozen j
          have h3 := lowN_lt f (j + 1) t (by omega)
          obtain ⟨p, hp⟩ : ∃ p, lowN f (j + 1) t = p := ⟨_, rfl⟩
          rw [hp] at hcj h3
          have HS : Hid (lowN f (j + 1) (t + 1) = p ||| 2 ^ t) := hid (by rw [lowN_yes (by rw [HX.out]; omega), hp])
          have wp := wrap_pow' t (by omega)
          have hor := or_pow p t h3 (by omega)
          have hjw : IntKind.i64.wrap ((j : Int) + 1 - 1) = (j : Int) := by rw [IntWalk.i64_in _ (by omega)]; omega
          clear hp h3
          go_wp2
          go_region
          clear hjw
          go_wp2
          go_roundw
          case rel => exact ⟨j + 1 + 1, by omega, by omega, by go_num, (by
            rw [mkL_upd (g := fun i => if i + 1 < j + 1 then lowN f (i + 1) (t + 1) else lowN f (i + 1) t) (h := fun i => if i + 1 < j + 1 + 1 then lowN f (i + 1) (t + 1) else lowN f (i + 1) t) (p ||| 2 ^ t) hjM (fun i _ => by
              by_cases e : i = j
              · subst e; rw [if_pos (by omega), if_pos rfl, HS.out]
              · rw [if_neg e]
                by_cases e2 : i + 1 < j + 1
                · rw [if_pos (by omega), if_pos e2]
                · rw [if_neg (by omega), if_neg e2]), ← Vals_set]
            exact HK2.out.set_ j (.int .i64 ((p ||| 2 ^ t : Nat) : Int))), below_drewN (HB2.out.setCell (p := ⟨g, j, none⟩) hwg _) 1⟩
          case measure => simp [intOf]; omega
        · go_wp2
          go_roundw
          case rel => exact ⟨t + 1, by omega, by go_num, (by
            have e : (mkL M fun i => if i + 1 < k then lowN f (i + 1) (t + 1) else lowN f (i + 1) t) = mkL M fun i => lowN f (i + 1) (t + 1) := mkL_congr fun i hi => by rw [if_pos (by omega)]
            rw [← e]; exact HK2.out), HB2.out⟩
          case measure => simp [intOf]; omega
    · obtain rfl : t = f.length := by omega
      have HOw := hid (HK1.out.own (xs := lowsL f M) (B := w.heap.size) hwg (by unfold lowsL; rw [mkL_length]; omega))
      go_wp2
      go_ret2
      exact ⟨_, rfl, (by have h := HOw.out; rw [HY.out]; unfold lowsL at h ⊢; rw [mkL_length] at h; exact h), HL.out, HB1.out⟩
end Go.Proofs.Yteaeeinfjhhhoaa
