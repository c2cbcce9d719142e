/- Arrays in the program: RangeAt, ToggleNumbers, ToggleNumber. -/
import Derived.Test.YtgepbekdgocnpaaArK
import Derived.Test.YtgepbekdgocnpaaArV
import Derived.Deep.RegionLaw
import Derived.Deep.RegionHeld3
namespace Go.Proofs.Ytgepbekdgocnpaa
open Go.RowKit Go.WideShapes Go.ChangeShapes
set_option linter.unusedVariables false

theorem step_fill_ld {ops : Array Oper} {o : Oper} {a : Act} {w : World} {K : Act → World → Prop} {Q : Exit → Act → World → Prop} {E : Prop} (hgd : o.guard = none) (x : Operand) (ho : o.op = .load 59 x)
    (g : Nat) (hx : a.eval x = .pointer (some ⟨g, 0, none⟩)) (C : Array Value) (hg : Blk w g 59 C) (hs : C.size = 11)
    (h : K (a.put o.dst (.agg C)) w) : if Region.wanted o (yielded ops a.tmps) = true then Oper.wp Try.prog o a w K Q else E := by
  have hw : Region.wanted o (yielded ops a.tmps) = true := by simp [Region.wanted, hgd]
  rw [if_pos hw]
  exact wp_load_row _ x ho g hx _ C (0, 0) _ hg Try.underlying59 rfl (by rw [fillInfo, hs]) h
theorem fill_stN {w : World} {ops : Array Oper} {rest : List Oper} {o : Oper} {a : Act} {Q : Exit → Act → World → Prop} (hgd : o.guard = none) (x y : Operand) (ho : o.op = .store 59 x y)
    (g : Nat) (C D : Array Value) (hx : a.eval x = .pointer (some ⟨g, 0, none⟩)) (hy : a.eval y = .agg C) (hg : Blk w g 59 D) (hd : D.size = 11) (hs : C.size = 11) (h1 : C.all (·.oneCell') = true)
    (h : ∀ w2, Hid (Blk w2 g 59 C) → Hid (Below g w w2) → wpList Try.prog ops Q rest (a.put o.dst undef) w2) : wpList Try.prog ops Q (o :: rest) a w :=
  fill_stW hgd x y ho g C D hx hy hg hd hs h1 (h _ hg.setRowA (below_setRow (Below.refl _ _) (Nat.le_refl _) C))
theorem At.under {w w2 : World} {b g : Nat} {v : Value} (h : At w b v) (hb : Below g w w2) (hg : b < g) : At w2 b v :=
  ⟨(hb.cell (p := ⟨b, 0, none⟩) hg).trans h.1, Nat.lt_of_lt_of_le h.2 hb.size⟩
theorem implRangeAt_any (v : Value) (xs : List Int) (u : Value) (f : List Int) (b e : Int) (w : World) (hv : Ints w v xs) (hl : xs.length ≤ 1048576) (hu : Ints w u f) (hm : f.length ≤ 1048576) (wf : (Lit.int .i64 b).wf = true) (wfe : (Lit.int .i64 e).wf = true) :
    Calls Try.prog 19 #[.agg #[v], u, .int .i64 b, .int .i64 e] w fun r w' => r = .returned (.tuple #[.int .i64 (ansLo xs f b e), .int .i64 (ansHi xs f b e), .bool (okRg xs f b e)]) ∧ Below w.heap.size w w' := by
  have HV := hid hv
  have HU := hid hu
  have HFo := hid (fun W hW hU => fillingOf_any v u xs f b W hW hU hl hm wf)
  clear hv hu wf wfe
  cases hq : okAr xs f b
  · have HO := hid (okRg_no1 (e := e) hq)
    rw [hq] at HFo
    simp only [Bool.false_eq_true, if_false] at HFo
    have HCs := hid (fc_size [] 0)
    have HCo := hid (fc_one [] 0)
    obtain ⟨Z, hZ⟩ : ∃ Z, fc [] 0 = Z := ⟨_, rfl⟩
    rw [hZ] at HCs HCo HFo
    clear hq hZ
    go_enter Try.func19, Try.ntmps19
    have HB := hid (below_alloc (Below.refl _ w) (.cells #[v] 28))
    have A0 := hid (At.newAt w v 28 w.heap.size (by simp))
    have ebox0 := A0.out.1
    go_wp2_with fail
    clear ebox0
    refine (HFo.out _ (HV.out.below HB.out) (HU.out.below HB.out)).mono ?_
    rintro e' w1 ⟨rfl, hb⟩
    replace HB := hid (below_to HB.out hb)
    have HA1 := hid (A0.out.below hb)
    have hz1 := HB.out.size
    have hx1 := HA1.out.2
    clear hb A0
    go_wp2_with (first | (refine fill_stN rfl _ _ rfl _ Z _ rfl rfl (Blk.new _ _ _) (fc_size [] 0) HCs.out HCo.out ?_; intro W5 HF5 HW5; have HB5 : Hid (Below w.heap.size w W5) := hid ((below_alloc HB.out _).trans (HW5.out.mono hz1)); have HA5 : Hid (At W5 w.heap.size v) := hid ((HA1.out.alloc _).under HW5.out hx1); have hbox5 := HA5.out.1))
    go_ret3
    exact ⟨ret_iib (ansLo_no HO.out).symm (ansHi_no HO.out).symm HO.out.symm, HB5.out⟩
  · have HOk := hid (fun h => okRg_yes (e := e) hq h)
    have HNo := hid (fun h => okRg_no2 (xs := xs) (f := f) (b := b) (e := e) h)
    rw [hq] at HFo
    simp only [if_true] at HFo
    have HCs := hid (fc_size f b)
    have HCo := hid (fc_one f b)
    have HQ := hid hq
    obtain ⟨hg, b0, b1, hr⟩ := okAr_all hq
    have hl10 := (good_length hg).2
    have HG := hid hg
    have HR := hid hr
    obtain ⟨C, hC⟩ : ∃ C, fc f b = C := ⟨_, rfl⟩
    have HC := hid hC
    rw [hC] at HCs HCo HFo
    clear hq hC hg hr
    go_enter Try.func19, Try.ntmps19
    have HB := hid (below_alloc (Below.refl _ w) (.cells #[v] 28))
    have A0 := hid (At.newAt w v 28 w.heap.size (by simp))
    have ebox0 := A0.out.1
    go_wp2_with fail
    clear ebox0
    refine (HFo.out _ (HV.out.below HB.out) (HU.out.below HB.out)).mono ?_
    rintro e' w1 ⟨rfl, hb⟩
    replace HB := hid (below_to HB.out hb)
    have HA1 := hid (A0.out.below hb)
    have hz1 := HB.out.size
    have hx1 := HA1.out.2
    clear hb A0
    go_wp2_with (first | (refine fill_stN rfl _ _ rfl _ C _ rfl rfl (Blk.new _ _ _) (fc_size [] 0) HCs.out HCo.out ?_; intro W5 HF5 HW5; have HB5 : Hid (Below w.heap.size w W5) := hid ((below_alloc HB.out _).trans (HW5.out.mono hz1)); have HA5 : Hid (At W5 w.heap.size v) := hid ((HA1.out.alloc _).under HW5.out hx1); have hbox5 := HA5.out.1))
    refine (hasIndex_any v xs e _ (HV.out.below HB5.out) hl).mono ?_
    rintro e' w6 ⟨rfl, hb6⟩
    have HF6 := hid (HF5.out.below hb6 HF5.out.lt)
    have HA6 := hid (HA5.out.below hb6)
    have HB6 := hid (below_to HB5.out hb6)
    have hbox6 := HA6.out.1
    clear hb6 hbox5
    cases hk : (decide (0 ≤ e) && decide (e < (xs.length : Int)))
    · have HO := hid (HNo.out hk)
      clear hk
      go_wp2
      go_ret3
      exact ⟨ret_iib (ansLo_no HO.out).symm (ansHi_no HO.out).symm HO.out.symm, HB6.out⟩
    · have HO := hid (HOk.out hk)
      have hk2 : 0 ≤ e ∧ e < xs.length := by simpa using hk
      clear hk
      obtain ⟨n, rfl⟩ := Int.eq_ofNat_of_zero_le hk2.1
      have HRg := hid (rangeAt_any v xs f b n w6 (HV.out.below HB6.out) HG.out (by omega))
      rw [HC.out] at HRg
      go_wp2_with (refine fill_ldW rfl _ rfl _ rfl _ HF6.out HCs.out ?_)
      refine HRg.out.mono ?_
      rintro e' w7 ⟨rfl, hb7⟩
      have HB7 := hid (below_to HB6.out hb7)
      clear hb7
      go_wp2
      go_ret3
      exact ⟨ret_iib (ansLo_yes HO.out).symm (ansHi_yes HO.out).symm HO.out.symm, HB7.out⟩
set_option maxHeartbeats 3200000 in
theorem implToggleNumbers_any (v : Value) (xs : List Int) (u : Value) (f : List Int) (b : Int) (t : Value) (ys : List Int) (w : World) (hv : Ints w v xs) (hl : xs.length ≤ 1048576) (hu : Ints w u f) (hm : f.length ≤ 1048576) (wf : (Lit.int .i64 b).wf = true) (ht : Ints w t ys) (hk : ys.length ≤ 1048576) :
    Calls Try.prog 26 #[.agg #[v], u, .int .i64 b, t] w fun (r : Ending) w' => ∃ q, r = Ending.returned (.tuple #[q, .bool (okTN xs f b ys)]) ∧ OwnI 3 w' w.heap.size q (ansTN xs f b ys) ∧ (ansTN xs f b ys).length ≤ 1048576 ∧ Below w.heap.size w w' := by
  have HV := hid hv
  have HU := hid hu
  have HFo := hid (fun W hW hU => fillingOf_any v u xs f b W hW hU hl hm wf)
  have HT := hid ht
  have HL := hid (ansTN_len xs f b ys)
  clear hv hu ht wf
  cases hq : okAr xs f b
  · have HO := hid (okTN_no1 (wd := ys) hq)
    have HN := hid (ansTN_no HO.out)
    rw [hq] at HFo
    simp only [Bool.false_eq_true, if_false] at HFo
    have HCs := hid (fc_size [] 0)
    have HCo := hid (fc_one [] 0)
    obtain ⟨Z, hZ⟩ : ∃ Z, fc [] 0 = Z := ⟨_, rfl⟩
    rw [hZ] at HCs HCo HFo
    clear hq hZ
    go_enter Try.func26, Try.ntmps26
    have HB := hid (below_alloc (Below.refl _ w) (.cells #[v] 28))
    have A0 := hid (At.newAt w v 28 w.heap.size (by simp))
    have ebox0 := A0.out.1
    go_wp2_with fail
    clear ebox0
    refine (HFo.out _ (HV.out.below HB.out) (HU.out.below HB.out)).mono ?_
    rintro e' w1 ⟨rfl, hb⟩
    replace HB := hid (below_to HB.out hb)
    have HA1 := hid (A0.out.below hb)
    have hz1 := HB.out.size
    have hx1 := HA1.out.2
    clear hb A0
    go_wp2_with (first | (refine fill_stN rfl _ _ rfl _ Z _ rfl rfl (Blk.new _ _ _) (fc_size [] 0) HCs.out HCo.out ?_; intro W5 HF5 HW5; have HB5 : Hid (Below w.heap.size w W5) := hid ((below_alloc HB.out _).trans (HW5.out.mono hz1)); have HA5 : Hid (At W5 w.heap.size v) := hid ((HA1.out.alloc _).under HW5.out hx1); have hbox5 := HA5.out.1))
    go_ret2
    exact ⟨_, ret_vbA HO.out.symm, by rw [HN.out]; exact OwnI.nil _ _ _, HL.out, HB5.out⟩
  · have HOk := hid (fun h => okTN_yes (wd := ys) hq h)
    have HNo := hid (fun h => okTN_no2 (xs := xs) (f := f) (b := b) (wd := ys) h)
    rw [hq] at HFo
    simp only [if_true] at HFo
    have HCs := hid (fc_size f b)
    have HCo := hid (fc_one f b)
    have HQ := hid hq
    obtain ⟨hg, b0, b1, hr⟩ := okAr_all hq
    have hl10 := (good_length hg).2
    have HG := hid hg
    have HR := hid hr
    obtain ⟨C, hC⟩ : ∃ C, fc f b = C := ⟨_, rfl⟩
    have HC := hid hC
    rw [hC] at HCs HCo HFo
    clear hq hC hg hr
    go_enter Try.func26, Try.ntmps26
    have HB := hid (below_alloc (Below.refl _ w) (.cells #[v] 28))
    have A0 := hid (At.newAt w v 28 w.heap.size (by simp))
    have ebox0 := A0.out.1
    go_wp2_with fail
    clear ebox0
    refine (HFo.out _ (HV.out.below HB.out) (HU.out.below HB.out)).mono ?_
    rintro e' w1 ⟨rfl, hb⟩
    replace HB := hid (below_to HB.out hb)
    have HA1 := hid (A0.out.below hb)
    have hz1 := HB.out.size
    have hx1 := HA1.out.2
    clear hb A0
    go_wp2_with (first | (refine fill_stN rfl _ _ rfl _ C _ rfl rfl (Blk.new _ _ _) (fc_size [] 0) HCs.out HCo.out ?_; intro W5 HF5 HW5; have HB5 : Hid (Below w.heap.size w W5) := hid ((below_alloc HB.out _).trans (HW5.out.mono hz1)); have HA5 : Hid (At W5 w.heap.size v) := hid ((HA1.out.alloc _).under HW5.out hx1); have hbox5 := HA5.out.1))
    refine (hasWord_any v t xs ys _ (HV.out.below HB5.out) (HT.out.below HB5.out) hl hk).mono ?_
    rintro e' w6 ⟨rfl, hb6⟩
    have HF6 := hid (HF5.out.below hb6 HF5.out.lt)
    have HA6 := hid (HA5.out.below hb6)
    have HB6 := hid (below_to HB5.out hb6)
    have hbox6 := HA6.out.1
    clear hb6 hbox5
    cases hw : okWord xs ys
    · have HO := hid (HNo.out hw)
      have HN := hid (ansTN_no HO.out)
      clear hw
      go_wp2
      go_ret2
      exact ⟨_, ret_vbA HO.out.symm, by rw [HN.out]; exact OwnI.nil _ _ _, HL.out, HB6.out⟩
    · have HO := hid (HOk.out hw)
      have HN := hid (ansTN_yes HO.out)
      have hw2 := hw
      simp only [okWord, Bool.and_eq_true, decide_eq_true_eq] at hw2
      have HW := hid (fun j (hj : j < ys.length) => inW_rng hw2.2 hj)
      have HTg := hid (fun W hW hT => toggled_any v t xs f ys b W hW hT HG.out HR.out b0 b1 HW.out hk)
      have HLs := hid (fun W hW => list_any v xs (wdK xs b f ys ys.length) b W hW hl10 (by rw [wdK_len]; exact HR.out.len))
      rw [HC.out] at HTg
      obtain ⟨D, hD⟩ : ∃ D, fc (wdK xs b f ys ys.length) b = D := ⟨_, rfl⟩
      rw [hD] at HTg HLs
      have HFl := hid (fun W (hW : Below w6.heap.size w6 W) => HF6.out.below hW HF6.out.lt)
      have HBx := hid (fun W (hW : Below w6.heap.size w6 W) => (HA6.out.below hW).1)
      have HVw := hid (fun W (hW : Below w6.heap.size w6 W) => HV.out.below (below_to HB6.out hW))
      have HTw := hid (fun W (hW : Below w6.heap.size w6 W) => HT.out.below (below_to HB6.out hW))
      have HD1 : Hid (Below w6.heap.size w6 w6.drew) := hid (below_drewN (Below.refl _ _) 1)
      have hbx1 := HBx.out _ HD1.out
      clear hw hw2 hD
      obtain ⟨a0, ha0⟩ : ∃ a, f.getD 0 0 = a := ⟨_, rfl⟩
      obtain ⟨a1, ha1⟩ : ∃ a, f.getD 1 0 = a := ⟨_, rfl⟩
      obtain ⟨a2, ha2⟩ : ∃ a, f.getD 2 0 = a := ⟨_, rfl⟩
      obtain ⟨a3, ha3⟩ : ∃ a, f.getD 3 0 = a := ⟨_, rfl⟩
      obtain ⟨a4, ha4⟩ : ∃ a, f.getD 4 0 = a := ⟨_, rfl⟩
      obtain ⟨a5, ha5⟩ : ∃ a, f.getD 5 0 = a := ⟨_, rfl⟩
      obtain ⟨a6, ha6⟩ : ∃ a, f.getD 6 0 = a := ⟨_, rfl⟩
      obtain ⟨a7, ha7⟩ : ∃ a, f.getD 7 0 = a := ⟨_, rfl⟩
      obtain ⟨a8, ha8⟩ : ∃ a, f.getD 8 0 = a := ⟨_, rfl⟩
      obtain ⟨a9, ha9⟩ : ∃ a, f.getD 9 0 = a := ⟨_, rfl⟩
      have hCx : C = (#[.int .i64 a0, .int .i64 a1, .int .i64 a2, .int .i64 a3, .int .i64 a4, .int .i64 a5, .int .i64 a6, .int .i64 a7, .int .i64 a8, .int .i64 a9, .int .i64 b] : Array Value) := by rw [← HC.out, ← ha0, ← ha1, ← ha2, ← ha3, ← ha4, ← ha5, ← ha6, ← ha7, ← ha8, ← ha9]; rfl
      subst hCx
      clear HC ha0 ha1 ha2 ha3 ha4 ha5 ha6 ha7 ha8 ha9
      have hc0 : w6.drew.cell? ⟨w1.heap.size, 0, none⟩ = some (.int .i64 a0) := (HFl.out _ HD1.out).cell 0
      have hc1 : w6.drew.cell? ⟨w1.heap.size, 1, none⟩ = some (.int .i64 a1) := (HFl.out _ HD1.out).cell 1
      have hc2 : w6.drew.cell? ⟨w1.heap.size, 2, none⟩ = some (.int .i64 a2) := (HFl.out _ HD1.out).cell 2
      have hc3 : w6.drew.cell? ⟨w1.heap.size, 3, none⟩ = some (.int .i64 a3) := (HFl.out _ HD1.out).cell 3
      have hc4 : w6.drew.cell? ⟨w1.heap.size, 4, none⟩ = some (.int .i64 a4) := (HFl.out _ HD1.out).cell 4
      have hc5 : w6.drew.cell? ⟨w1.heap.size, 5, none⟩ = some (.int .i64 a5) := (HFl.out _ HD1.out).cell 5
      have hc6 : w6.drew.cell? ⟨w1.heap.size, 6, none⟩ = some (.int .i64 a6) := (HFl.out _ HD1.out).cell 6
      have hc7 : w6.drew.cell? ⟨w1.heap.size, 7, none⟩ = some (.int .i64 a7) := (HFl.out _ HD1.out).cell 7
      have hc8 : w6.drew.cell? ⟨w1.heap.size, 8, none⟩ = some (.int .i64 a8) := (HFl.out _ HD1.out).cell 8
      have hc9 : w6.drew.cell? ⟨w1.heap.size, 9, none⟩ = some (.int .i64 a9) := (HFl.out _ HD1.out).cell 9
      have hc10 : w6.drew.cell? ⟨w1.heap.size, 10, none⟩ = some (.int .i64 b) := (HFl.out _ HD1.out).cell 10
      go_wp2_with fail
      go_region_law (first
        | ((with_reducible show if Region.wanted { dst := _, op := Op.call { callee := Callee.value _, args := _, argTypes := _ }, type := _, pos := _, after := _, guard := _ } _ = true then _ else _); go_simp; (first
            | (go_at_call 55; refine (HTg.out _ (HVw.out _ HD1.out) (HTw.out _ HD1.out)).mono ?_; rintro e7 w7 ⟨rfl, hb7⟩; have HB7 := hid (below_to HD1.out hb7); have hbx7 := HBx.out _ HB7.out; clear hb7)
            | (go_at_call 56; refine (HLs.out _ (HVw.out _ HB7.out)).mono ?_; rintro e8 w8 ⟨q8, rfl, ho8, hb8⟩; have HO8 := hid (ho8.mono HB7.out.size); have HB8 := hid (below_to HB7.out hb8); clear ho8 hb8)))
        | fail)
      all_goals go_wp2
      all_goals go_ret2
      all_goals exact ⟨_, ret_vbA HO.out.symm, by rw [HN.out]; exact HO8.out.mono HB6.out.size, HL.out, below_to HB6.out HB8.out⟩
theorem implToggleNumber_any (v : Value) (xs : List Int) (u : Value) (f : List Int) (b e : Int) (w : World) (hv : Ints w v xs) (hl : xs.length ≤ 1048576) (hu : Ints w u f) (hm : f.length ≤ 1048576) (wf : (Lit.int .i64 b).wf = true) (wfe : (Lit.int .i64 e).wf = true) :
    Calls Try.prog 21 #[.agg #[v], u, .int .i64 b, .int .i64 e] w fun (r : Ending) w' => ∃ q, r = Ending.returned (.tuple #[q, .bool (okTN xs f b [e])]) ∧ OwnI 3 w' w.heap.size q (ansTN xs f b [e]) ∧ (ansTN xs f b [e]).length ≤ 1048576 ∧ Below w.heap.size w w' := by
  have HV := hid hv
  have HU := hid hu
  have WF := hid wf
  clear hv hu wf wfe
  go_enter Try.func21, Try.ntmps21
  have HB := hid (below_alloc (Below.refl _ w) (.cells #[v] 28))
  have A0 := hid (At.newAt w v 28 w.heap.size (by simp))
  have hz := HB.out.size
  go_wp2_with fail
  refine (implToggleNumbers_any _ xs _ f b _ [e] _ ((HV.out.below HB.out).alloc _) hl ((HU.out.below HB.out).alloc _) hm WF.out (Blk.ints (xs := [e]) (c := 1) (Blk.newAt _ 3 _ _ (by first | rfl | simp))) (by simp)).mono ?_
  rintro e w' ⟨q, rfl, ho, hL, hb⟩
  replace HB := hid (below_to (below_alloc HB.out _) hb)
  replace A0 := hid ((A0.out.alloc _).below hb)
  clear hb
  have HQ2 := hid ho
  clear ho
  have ebox0 := A0.out.1
  go_wp2
  go_ret2
  exact ⟨_, rfl, HQ2.out.mono (by simp; omega), hL, HB.out⟩
end Go.Proofs.Ytgepbekdgocnpaa
