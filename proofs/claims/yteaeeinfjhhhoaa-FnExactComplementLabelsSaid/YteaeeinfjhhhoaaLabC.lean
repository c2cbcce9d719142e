/- ComplementLabels, both sides. -/
import Derived.Test.YteaeeinfjhhhoaaLabI
namespace Go.Proofs.Yteaeeinfjhhhoaa
open Go.RowKit Go.WideShapes Go.ChangeShapes
set_option linter.unusedVariables false

def cmpN (f : List Int) (m : Nat) (i : Nat) : Nat := m - (f.getD (f.length - 1 - i) 0).toNat
def compL (f : List Int) (m : Nat) : List Int := mkL f.length (cmpN f m)
def ansCL (xs f : List Int) (m : Int) : List Int := if okLab xs f m 0 then compL f m.toNat else []
theorem ansCL_no {xs f : List Int} {m : Int} (h : okLab xs f m 0 = false) : ansCL xs f m = [] := by simp [ansCL, h]
theorem ansCL_yes {xs f : List Int} {m : Int} (h : okLab xs f m 0 = true) : ansCL xs f m = compL f m.toNat := by simp [ansCL, h]
theorem ansCL_length (xs f : List Int) (m : Int) : (ansCL xs f m).length ≤ 1048576 := by
  cases h : okLab xs f m 0
  · rw [ansCL_no h]; simp
  · rw [ansCL_yes h, compL, mkL_length]; have := okLab_all h; have := good_length this.1; omega
theorem labAt_le {xs f : List Int} {m : Nat} {e : Nat} (h : labAt xs f m 0 e = true) : ∃ x : Nat, f.getD e 0 = (x : Int) ∧ x ≤ m := by
  obtain ⟨h1, h2⟩ := labAt_iff.1 h
  have := leN_zero_le xs f e 0 e
  exact ⟨(f.getD e 0).toNat, by omega, by omega⟩
set_option maxHeartbeats 1600000 in
theorem specComplementLabels_any (v : Value) (xs : List Int) (u : Value) (f : List Int) (m : Int) (w : World) (hv : Ints w v xs) (hl : xs.length ≤ 1048576) (hu : Ints w u f) (hm : f.length ≤ 1048576) (wf : (Lit.int .i64 m).wf = true) :
    Calls Try.prog 26 #[.agg #[v], u, .int .i64 m] w fun (r : Ending) w' => ∃ q, r = Ending.returned (.tuple #[q, .bool (okLab xs f m 0)]) ∧ OwnI 3 w' w.heap.size q (ansCL xs f m) ∧ (ansCL xs f m).length ≤ 1048576 ∧ Below w.heap.size w w' := by
  have HV := hid hv
  have HU := hid hu
  have HL := hid (ansCL_length xs f m)
  clear hv hu wf
  cases hg : good xs
  · have HG := hid hg
    have HO := hid (okLab_no1 (f := f) (g := 0) (okBd_no1 (m := m) hg))
    have HN := hid (ansCL_no HO.out)
    clear hg
    go_enter Try.func26, Try.ntmps26
    have HB := hid (below_alloc (Below.refl _ w) (.cells #[v] 28))
    have A0 := hid (At.newAt w v 28 w.heap.size (by simp))
    go_wp2_with fail
    refine (poGood_any _ xs _ (HV.out.below HB.out) hl).mono ?_
    rw [HG.out]
    rintro e w' ⟨rfl, hb⟩
    replace HB := hid (below_to HB.out hb)
    replace A0 := hid (A0.out.below hb)
    clear hb
    have ebox0 := A0.out.1
    go_wp2
    go_ret2
    exact ⟨_, ret_vbL HO.out.symm, by rw [HN.out]; exact OwnI.nil _ _ _, HL.out, HB.out⟩
  cases hb : bdB m
  · have HG := hid hg
    have HD := hid hb
    have HO := hid (okLab_no1 (f := f) (g := 0) (okBd_no2 (xs := xs) hb))
    have HN := hid (ansCL_no HO.out)
    clear hg hb
    go_enter Try.func26, Try.ntmps26
    have HB := hid (below_alloc (Below.refl _ w) (.cells #[v] 28))
    have A0 := hid (At.newAt w v 28 w.heap.size (by simp))
    go_wp2_with fail
    refine (poGood_any _ xs _ (HV.out.below HB.out) hl).mono ?_
    rw [HG.out]
    rintro e w' ⟨rfl, hb⟩
    replace HB := hid (below_to HB.out hb)
    replace A0 := hid (A0.out.below hb)
    clear hb
    go_wp2_with (go_at_call 34; refine (laBound_any m _).mono ?_; rw [HD.out]; rintro e w' ⟨rfl, rfl⟩)
    go_ret2
    exact ⟨_, ret_vbL HO.out.symm, by rw [HN.out]; exact OwnI.nil _ _ _, HL.out, HB.out⟩
  obtain ⟨h1, h2⟩ := bdB_all hb
  obtain ⟨M, rfl⟩ := Int.eq_ofNat_of_zero_le h1
  have HG := hid hg
  have HD := hid hb
  have HO := hid (okLab_yes (f := f) (g := 0) (okBd_yes hg hb))
  have HLa := hid (fun W hW hU => laAre_any v u xs f M 0 W hW hU hg hm (by omega) (by omega) (by omega))
  clear hg hb h1
  cases hq : labB xs f M 0
  · rw [hq] at HO HLa
    have HN := hid (ansCL_no HO.out)
    clear hq
    go_enter Try.func26, Try.ntmps26
    have HB := hid (below_alloc (Below.refl _ w) (.cells #[v] 28))
    have A0 := hid (At.newAt w v 28 w.heap.size (by simp))
    go_wp2_with fail
    refine (poGood_any _ xs _ (HV.out.below HB.out) hl).mono ?_
    rw [HG.out]
    rintro e w' ⟨rfl, hb⟩
    replace HB := hid (below_to HB.out hb)
    replace A0 := hid (A0.out.below hb)
    clear hb
    have ebox0 := A0.out.1
    go_wp2_with (first | (go_at_call 34; refine (laBound_any _ _).mono ?_; rw [HD.out]; rintro e w' ⟨rfl, rfl⟩) | fail)
    clear ebox0
    refine (HLa.out _ (HV.out.below HB.out) (HU.out.below HB.out)).mono ?_
    rintro e w' ⟨rfl, hb⟩
    replace HB := hid (below_to HB.out hb)
    clear hb
    go_wp2
    go_ret2
    exact ⟨_, ret_vbL HO.out.symm, by rw [HN.out]; exact OwnI.nil _ _ _, HL.out, HB.out⟩
  rw [hq] at HO HLa
  have HY := hid (ansCL_yes HO.out)
  have HLen := hid (labB_all hq).1
  have HAt := hid (labB_all hq).2
  clear hq
  rw [Int.toNat_natCast] at HY
  have hf10 : f.length ≤ 10 := by have := HLen.out; have := (good_length HG.out).2; omega
  have hf1 : 1 ≤ f.length := by have := HLen.out; have := (good_length HG.out).1; omega
  obtain ⟨B, d, rfl, hB⟩ := HU.out
  obtain ⟨b, o, rfl, hbl, hc⟩ := hB (by intro h; rw [h] at hf1; simp at hf1)
  have HC := hid hc
  obtain ⟨n, hn⟩ : ∃ n, f.length = n := ⟨_, rfl⟩
  have HNn := hid hn
  rw [hn] at HU HLa HC hf10 hf1 hm HLen HAt
  have hsub : IntKind.i64.wrap ((n : Int) - 1) = (n : Int) - 1 := IntWalk.i64_in _ (by omega)
  clear hB hc
  rw [hn]
  clear hn
  go_enter Try.func26, Try.ntmps26
  have HB := hid (below_alloc (Below.refl _ w) (.cells #[v] 28))
  have A0 := hid (At.newAt w v 28 w.heap.size (by simp))
  go_wp2_with fail
  refine (poGood_any _ xs _ (HV.out.below HB.out) hl).mono ?_
  rw [HG.out]
  rintro e w' ⟨rfl, hb⟩
  replace HB := hid (below_to HB.out hb)
  replace A0 := hid (A0.out.below hb)
  clear hb
  have ebox0 := A0.out.1
  go_wp2_with (first | (go_at_call 34; refine (laBound_any _ _).mono ?_; rw [HD.out]; rintro e w' ⟨rfl, rfl⟩) | fail)
  clear ebox0
  refine (HLa.out _ (HV.out.below HB.out) (HU.out.below HB.out)).mono ?_
  rintro e w1 ⟨rfl, hb⟩
  replace HB := hid (below_to HB.out hb)
  replace A0 := hid (A0.out.below hb)
  clear hb
  go_wp2
  go_loopw [8, 9] (fun q i wr => ∃ (j : Nat) (r : Int), r + 1 + j = n ∧ j ≤ n ∧ i = .int .i64 r ∧ OwnI 3 wr w.heap.size q (mkL j (cmpN f M)) ∧ Below w.heap.size w wr) (fun _ i _ => (intOf i + 1).toNat)
  case atStart => exact ⟨0, (n : Int) - 1, by omega, Nat.zero_le _, rfl, OwnI.nil _ _ _, HB.out⟩
  case round =>
    obtain ⟨j, r, hr, hj, rfl, ho, hb⟩ := hrel
    have HO1 := hid ho
    have HB1 := hid hb
    clear ho hb
    by_cases hlt : j < n
    · obtain ⟨e, rfl⟩ := Int.eq_ofNat_of_zero_le (show 0 ≤ r by omega)
      have hen : e < n := by omega
      have hcell := (HB1.out.cell (p := ⟨b, o + e, none⟩) hbl).trans (HC.out e hen)
      obtain ⟨x, hx, hxM⟩ := labAt_le (HAt.out e hen)
      rw [hx] at hcell
      have HS : Hid (mkL (j + 1) (cmpN f M) = mkL j (cmpN f M) ++ [((M - x : Nat) : Int)]) := hid (by
        rw [mkL_succ]
        have e1 : f.length - 1 - j = e := by rw [HNn.out]; omega
        unfold cmpN
        rw [e1, hx, Int.toNat_natCast])
      have hsx : IntKind.i64.wrap ((M : Int) - (x : Int)) = ((M - x : Nat) : Int) := by rw [IntWalk.i64_in _ (by omega)]; omega
      have hz1 := HB1.out.size
      have hlen : (mkL j (cmpN f M)).length < 1048576 := by rw [mkL_length]; omega
      have HR : Hid ((e : Int) - 1 + 1 + ((j + 1 : Nat) : Int) = n) := hid (by omega)
      obtain ⟨y, hy⟩ : ∃ y, M - x = y := ⟨_, rfl⟩
      rw [hy] at hsx HS
      clear hx hr hy
      go_wp2_with (at_builtin; refine wpList_append_int rfl _ _ 22 3 rfl Try.underlying22 Try.info3 w.heap.size _ _ (y : Int) rfl HO1.out rfl rfl hlen hz1 ?_; rintro q2 w3 ho2 hb3)
      clear hsx
      go_roundw
      case rel => exact ⟨j + 1, (e : Int) - 1, HR.out, by omega, by go_num, by rw [HS.out]; exact ho2, HB1.out.trans hb3⟩
      case measure => simp [intOf]; try omega
    · obtain rfl : j = n := by omega
      have hr1 : r = -1 := by omega
      subst hr1
      clear hr
      go_wp2
      go_ret2
      exact ⟨_, ret_vbL HO.out.symm, (by rw [HY.out, compL, HNn.out]; exact HO1.out), HL.out, HB1.out⟩
set_option maxHeartbeats 1600000 in
theorem implComplementLabels_any (v : Value) (xs : List Int) (u : Value) (f : List Int) (m : Int) (w : World) (hv : Ints w v xs) (hl : xs.length ≤ 1048576) (hu : Ints w u f) (hm : f.length ≤ 1048576) (wf : (Lit.int .i64 m).wf = true) :
    Calls Try.prog 27 #[.agg #[v], u, .int .i64 m] w fun (r : Ending) w' => ∃ q, r = Ending.returned (.tuple #[q, .bool (okLab xs f m 0)]) ∧ OwnI 3 w' w.heap.size q (ansCL xs f m) ∧ (ansCL xs f m).length ≤ 1048576 ∧ Below w.heap.size w w' := by
  have HV := hid hv
  have HU := hid hu
  have HL := hid (ansCL_length xs f m)
  clear hv hu wf
  cases hq : okLab xs f m 0
  · have HQ := hid hq
    have HN := hid (ansCL_no hq)
    clear hq
    go_enter Try.func27, Try.ntmps27
    have HB := hid (below_alloc (Below.refl _ w) (.cells #[v] 28))
    have A0 := hid (At.newAt w v 28 w.heap.size (by simp))
    go_wp2_with fail
    refine (hasLabels_any _ _ xs f m _ (HV.out.below HB.out) (HU.out.below HB.out) hl hm).mono ?_
    rw [HQ.out]
    rintro e w' ⟨rfl, hb⟩
    replace HB := hid (below_to HB.out hb)
    replace A0 := hid (A0.out.below hb)
    clear hb
    have ebox0 := A0.out.1
    go_wp2
    go_ret2
    exact ⟨_, rfl, by rw [HN.out]; exact OwnI.nil _ _ _, HL.out, HB.out⟩
  obtain ⟨hg, h1, h2, h3, h4⟩ := okLab_all hq
  obtain ⟨M, rfl⟩ := Int.eq_ofNat_of_zero_le h1
  have HQ := hid hq
  have HY := hid (ansCL_yes hq)
  rw [Int.toNat_natCast] at HY
  have hf10 : f.length ≤ 10 := by have := (good_length hg).2; omega
  have hf1 : 1 ≤ f.length := by have := (good_length hg).1; omega
  have HAt := hid h4
  have HU0 := hid HU.out
  obtain ⟨B, d, rfl, hB⟩ := HU.out
  obtain ⟨b, o, rfl, hbl, hc⟩ := hB (by intro h; rw [h] at hf1; simp at hf1)
  have HC := hid hc
  have HHas := hid (fun W hW hU => hasLabels_any v (.slice (some ⟨b, o, none⟩) f.length d) xs f M W hW hU hl hm)
  obtain ⟨n, hn⟩ : ∃ n, f.length = n := ⟨_, rfl⟩
  have HNn := hid hn
  rw [hn] at HU0 HC HAt HHas hf10 hf1 hm h3
  have hmk := run_make_row' (P := Try.prog) 22 3 (.int .i64 0) 8 Try.underlying22 Try.info3 rfl .i64 .i64 n (by omega) (by omega)
  have Hmk := hid hmk
  have hsub : IntKind.i64.wrap ((n : Int) - 1) = (n : Int) - 1 := IntWalk.i64_in _ (by omega)
  rw [hn]
  clear hB hc hg h1 h3 h4 hq hmk hn
  go_enter Try.func27, Try.ntmps27
  have HB := hid (below_alloc (Below.refl _ w) (.cells #[v] 28))
  have A0 := hid (At.newAt w v 28 w.heap.size (by simp))
  go_wp2_with fail
  refine (HHas.out _ (HV.out.below HB.out) (HU0.out.below HB.out)).mono ?_
  rw [HQ.out]
  rintro e w' ⟨rfl, hb⟩
  replace HB := hid (below_to HB.out hb)
  replace A0 := hid (A0.out.below hb)
  clear hb
  have hmk := Hmk.out
  go_wp2
  clear hmk
  rw [Vals_made]
  obtain ⟨g, hgz⟩ : ∃ g, w'.heap.size = g := ⟨_, rfl⟩
  have hwg : w.heap.size ≤ g := by have := HB.out.size; omega
  have HStart : Hid (Blk (w'.alloc (.cells (Vals (List.replicate n 0)) 3)) g 3 (Vals (mkL n fun i => if n - 1 - i < 0 then cmpN f M i else 0))) := hid (by
    rw [show (mkL n fun i => if n - 1 - i < 0 then cmpN f M i else 0) = List.replicate n 0 from mkL_zero n]
    exact Blk.newAt _ _ _ _ hgz.symm)
  have HB0 := hid (below_alloc HB.out (.cells (Vals (List.replicate n 0)) 3))
  rw [hgz]
  clear hgz hsub
  go_loopw [25] (fun i wr => ∃ t : Nat, t ≤ n ∧ i = .int .i64 t ∧ Blk wr g 3 (Vals (mkL n fun i => if n - 1 - i < t then cmpN f M i else 0)) ∧ Below w.heap.size w wr) (fun i _ => n - (intOf i).toNat)
  case atStart => exact ⟨0, Nat.zero_le _, rfl, HStart.out, HB0.out⟩
  case round =>
    obtain ⟨t, ht, rfl, hk, hb⟩ := hrel
    have HK1 := hid hk
    have HB1 := hid hb
    clear hk hb
    by_cases htl : t < n
    · have hcell := (HB1.out.cell (p := ⟨b, o + t, none⟩) hbl).trans (HC.out t htl)
      obtain ⟨x, hx, hxM⟩ := labAt_le (HAt.out t htl)
      rw [hx] at hcell
      obtain ⟨j, hj⟩ : ∃ j, n - 1 - t = j := ⟨_, rfl⟩
      have hjn : j < n := by omega
      have hjw : IntKind.i64.wrap ((n : Int) - 1 - (t : Int)) = (j : Int) := by rw [IntWalk.i64_in _ (by omega)]; omega
      have hsx : IntKind.i64.wrap ((M : Int) - (x : Int)) = ((M - x : Nat) : Int) := by rw [IntWalk.i64_in _ (by omega)]; omega
      have HS : Hid (cmpN f M j = M - x) := hid (by
        have e1 : f.length - 1 - j = t := by rw [HNn.out]; omega
        unfold cmpN
        rw [e1, hx, Int.toNat_natCast])
      have HJ : Hid (n - 1 - t = j) := hid hj
      have hfz := HK1.out.frozen j
      have hcj : wr.cell? ⟨g, j, none⟩ = some (.int .i64 0) := by
        rw [HK1.out.cell, Vals_get (by rw [mkL_length]; exact hjn), mkL_getD hjn, if_neg (by omega)]; rfl
      obtain ⟨y, hy⟩ : ∃ y, M - x = y := ⟨_, rfl⟩
      rw [hy] at hsx HS
      clear hx hj hy
      go_wp2
      clear hjw hsx
      go_roundw
      case rel => exact ⟨t + 1, by omega, by go_num, (by
        rw [mkL_upd (g := fun i => if n - 1 - i < t then cmpN f M i else 0) (h := fun i => if n - 1 - i < t + 1 then cmpN f M i else 0) y hjn (fun i hi => by
          have hJ := HJ.out
          by_cases e : i = j
          · subst e; rw [if_pos (by omega), if_pos rfl, HS.out]
          · rw [if_neg e]
            by_cases e2 : n - 1 - i < t
            · rw [if_pos (by omega), if_pos e2]
            · rw [if_neg (by omega), if_neg e2]), ← Vals_set]
        exact HK1.out.set_ j (.int .i64 ((y : Nat) : Int))), HB1.out.setCell (p := ⟨g, j, none⟩) hwg _⟩
      case measure => simp [intOf]; omega
    · obtain rfl : t = n := by omega
      have HOw := hid (HK1.out.own (xs := mkL t fun i => if t - 1 - i < t then cmpN f M i else 0) (B := w.heap.size) hwg (by rw [mkL_length]; omega))
      have e : (mkL t fun i => if t - 1 - i < t then cmpN f M i else 0) = compL f M := by
        unfold compL; rw [HNn.out]; exact mkL_congr fun i _ => by rw [if_pos (by omega)]
      have HE := hid e
      clear e
      go_wp2
      go_ret2
      exact ⟨_, rfl, (by have h := HOw.out; rw [HE.out] at h; rw [HY.out]; have e2 : (compL f M).length = t := by unfold compL; rw [mkL_length, HNn.out]
                         rw [e2] at h; exact h), HL.out, HB1.out⟩
end Go.Proofs.Yteaeeinfjhhhoaa
