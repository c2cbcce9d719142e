/- Arrays in the program: RowArrayTimes, RowArray, RowArrayBack. -/
import Derived.Test.YtgepbekdgocnpaaArL
namespace Go.Proofs.Ytgepbekdgocnpaa
open Go.RowKit Go.WideShapes Go.ChangeShapes
set_option linter.unusedVariables false

theorem grown_setRowA {w : World} (g : Nat) (C : Array Value) : w.grownBy (w.setRow g C) (some g) := ⟨rfl, rfl, rfl, by simp, fun k hk hne => setRow_other w g k C (fun e => hne (by rw [e]))⟩
theorem fill_stG {w : World} {ops : Array Oper} {rest : List Oper} {o : Oper} {a : Act} {Q : Exit → Act → World → Prop} (hgd : o.guard = none) (x y : Operand) (ho : o.op = .store 59 x y)
    (g : Nat) (C D : Array Value) (hx : a.eval x = .pointer (some ⟨g, 0, none⟩)) (hy : a.eval y = .agg C) (hg : Blk w g 59 D) (hd : D.size = 11) (hs : C.size = 11) (h1 : C.all (·.oneCell') = true)
    (h : ∀ w2, Hid (Blk w2 g 59 C) → Hid (w.grownBy w2 (some g)) → wpList Try.prog ops Q rest (a.put o.dst undef) w2) : wpList Try.prog ops Q (o :: rest) a w :=
  fill_stW hgd x y ho g C D hx hy hg hd hs h1 (h _ hg.setRowA (grown_setRowA g C))
set_option maxHeartbeats 3200000 in
theorem implRowArrayTimes_any (v : Value) (xs : List Int) (u : Value) (f : List Int) (b k : Int) (w : World) (hv : Ints w v xs) (hl : xs.length ≤ 1048576) (hu : Ints w u f) (hm : f.length ≤ 1048576) (wf : (Lit.int .i64 b).wf = true) (wfk : (Lit.int .i64 k).wf = true) :
    Calls Try.prog 32 #[.agg #[v], u, .int .i64 b, .int .i64 k] w fun (r : Ending) w' => ∃ q, r = Ending.returned (.tuple #[q, .bool (okRA xs f b k)]) ∧ OwnI 3 w' w.heap.size q (ansRA xs f b k) ∧ (ansRA xs f b k).length ≤ 1048576 ∧ Below w.heap.size w w' := by
  have HV := hid hv
  have HU := hid hu
  have HFo := hid (fun W hW hU => fillingOf_any v u xs f b W hW hU hl hm wf)
  have HL := hid (ansRA_len xs f b k)
  clear hv hu wf wfk
  cases hq : okAr xs f b
  · have HO := hid (okRA_no1 (k := k) hq)
    have HN := hid (ansRA_no HO.out)
    rw [hq] at HFo
    simp only [Bool.false_eq_true, if_false] at HFo
    have HCs := hid (fc_size [] 0)
    have HCo := hid (fc_one [] 0)
    obtain ⟨Z, hZ⟩ : ∃ Z, fc [] 0 = Z := ⟨_, rfl⟩
    rw [hZ] at HCs HCo HFo
    clear hq hZ
    go_enter Try.func32, Try.ntmps32
    have HB := hid (below_alloc (Below.refl _ w) (.cells #[v] 28))
    have A0 := hid (At.newAt w v 28 w.heap.size (by simp))
    have ebox0 := A0.out.1
    go_wp2_with fail
    clear ebox0
    refine (HFo.out _ (HV.out.below HB.out) (HU.out.below HB.out)).mono ?_
    rintro e' w1 ⟨rfl, hb⟩
    replace HB := hid (below_to HB.out hb)
    have HA1 := hid (A0.out.below hb)
    have hz1 := HB.out.size
    have hx1 := HA1.out.2
    clear hb A0
    go_wp2_with (first | (refine fill_stN rfl _ _ rfl _ Z _ rfl rfl (Blk.new _ _ _) (fc_size [] 0) HCs.out HCo.out ?_; intro W5 HF5 HW5; have HB5 : Hid (Below w.heap.size w W5) := hid ((below_alloc HB.out _).trans (HW5.out.mono hz1)); have HA5 : Hid (At W5 w.heap.size v) := hid ((HA1.out.alloc _).under HW5.out hx1); have hbox5 := HA5.out.1))
    go_ret2
    exact ⟨_, ret_vbA HO.out.symm, by rw [HN.out]; exact OwnI.nil _ _ _, HL.out, HB5.out⟩
  have HOk := hid (fun h => okRA_yes (k := k) hq h)
  have HNo := hid (fun h => okRA_no2 (xs := xs) (f := f) (b := b) (k := k) h)
  by_cases hk1 : k < -1000
  · have HO := hid (HNo.out (by simp [okKR]; omega))
    have HN := hid (ansRA_no HO.out)
    rw [hq] at HFo
    simp only [if_true] at HFo
    have HCs := hid (fc_size f b)
    have HCo := hid (fc_one f b)
    have HQ := hid hq
    obtain ⟨hg, b0, b1, hr⟩ := okAr_all hq
    have hl10 := (good_length hg).2
    have HG := hid hg
    have HR := hid hr
    obtain ⟨C, hC⟩ : ∃ C, fc f b = C := ⟨_, rfl⟩
    have HC := hid hC
    rw [hC] at HCs HCo HFo
    clear hq hC hg hr
    go_enter Try.func32, Try.ntmps32
    have HB := hid (below_alloc (Below.refl _ w) (.cells #[v] 28))
    have A0 := hid (At.newAt w v 28 w.heap.size (by simp))
    have ebox0 := A0.out.1
    go_wp2_with fail
    clear ebox0
    refine (HFo.out _ (HV.out.below HB.out) (HU.out.below HB.out)).mono ?_
    rintro e' w1 ⟨rfl, hb⟩
    replace HB := hid (below_to HB.out hb)
    have HA1 := hid (A0.out.below hb)
    have hz1 := HB.out.size
    have hx1 := HA1.out.2
    clear hb A0
    go_wp2_with (first | (refine fill_stN rfl _ _ rfl _ C _ rfl rfl (Blk.new _ _ _) (fc_size [] 0) HCs.out HCo.out ?_; intro W5 HF5 HW5; have HB5 : Hid (Below w.heap.size w W5) := hid ((below_alloc HB.out _).trans (HW5.out.mono hz1)); have HA5 : Hid (At W5 w.heap.size v) := hid ((HA1.out.alloc _).under HW5.out hx1); have hbox5 := HA5.out.1))
    go_ret2
    exact ⟨_, ret_vbA HO.out.symm, by rw [HN.out]; exact OwnI.nil _ _ _, HL.out, HB5.out⟩
  by_cases hk2 : 1000 < k
  · have HO := hid (HNo.out (by simp [okKR]; omega))
    have HN := hid (ansRA_no HO.out)
    rw [hq] at HFo
    simp only [if_true] at HFo
    have HCs := hid (fc_size f b)
    have HCo := hid (fc_one f b)
    have HQ := hid hq
    obtain ⟨hg, b0, b1, hr⟩ := okAr_all hq
    have hl10 := (good_length hg).2
    have HG := hid hg
    have HR := hid hr
    obtain ⟨C, hC⟩ : ∃ C, fc f b = C := ⟨_, rfl⟩
    have HC := hid hC
    rw [hC] at HCs HCo HFo
    clear hq hC hg hr
    go_enter Try.func32, Try.ntmps32
    have HB := hid (below_alloc (Below.refl _ w) (.cells #[v] 28))
    have A0 := hid (At.newAt w v 28 w.heap.size (by simp))
    have ebox0 := A0.out.1
    go_wp2_with fail
    clear ebox0
    refine (HFo.out _ (HV.out.below HB.out) (HU.out.below HB.out)).mono ?_
    rintro e' w1 ⟨rfl, hb⟩
    replace HB := hid (below_to HB.out hb)
    have HA1 := hid (A0.out.below hb)
    have hz1 := HB.out.size
    have hx1 := HA1.out.2
    clear hb A0
    go_wp2_with (first | (refine fill_stN rfl _ _ rfl _ C _ rfl rfl (Blk.new _ _ _) (fc_size [] 0) HCs.out HCo.out ?_; intro W5 HF5 HW5; have HB5 : Hid (Below w.heap.size w W5) := hid ((below_alloc HB.out _).trans (HW5.out.mono hz1)); have HA5 : Hid (At W5 w.heap.size v) := hid ((HA1.out.alloc _).under HW5.out hx1); have hbox5 := HA5.out.1))
    go_ret2
    exact ⟨_, ret_vbA HO.out.symm, by rw [HN.out]; exact OwnI.nil _ _ _, HL.out, HB5.out⟩
  · have HO := hid (HOk.out (by simp [okKR]; omega))
    have HN := hid (ansRA_yes HO.out)
    rw [hq] at HFo
    simp only [if_true] at HFo
    have HCs := hid (fc_size f b)
    have HCo := hid (fc_one f b)
    have HQ := hid hq
    obtain ⟨hg, b0, b1, hr⟩ := okAr_all hq
    have hl10 := (good_length hg).2
    have HG := hid hg
    have HR := hid hr
    obtain ⟨C0, hC⟩ : ∃ C, fc f b = C := ⟨_, rfl⟩
    have HC := hid hC
    rw [hC] at HCs HCo HFo
    clear hq hC hg hr
    go_enter Try.func32, Try.ntmps32
    have HB := hid (below_alloc (Below.refl _ w) (.cells #[v] 28))
    have A0 := hid (At.newAt w v 28 w.heap.size (by simp))
    have ebox0 := A0.out.1
    go_wp2_with fail
    clear ebox0
    refine (HFo.out _ (HV.out.below HB.out) (HU.out.below HB.out)).mono ?_
    rintro e' w1 ⟨rfl, hb⟩
    replace HB := hid (below_to HB.out hb)
    have HA1 := hid (A0.out.below hb)
    have hz1 := HB.out.size
    have hx1 := HA1.out.2
    clear hb A0
    go_wp2_with (first | (refine fill_stN rfl _ _ rfl _ C0 _ rfl rfl (Blk.new _ _ _) (fc_size [] 0) HCs.out HCo.out ?_; intro W5 HF5 HW5; have HB5 : Hid (Below w.heap.size w W5) := hid ((below_alloc HB.out _).trans (HW5.out.mono hz1)); have HA5 : Hid (At W5 w.heap.size v) := hid ((HA1.out.alloc _).under HW5.out hx1); have hbox5 := HA5.out.1))
    refine (downWord_any v xs _ (HV.out.below HB5.out) hl10).mono ?_
    rintro e6 w6 ⟨q, rfl, ho6, hb6⟩
    have HO6 := hid ho6
    have HB65 := hid hb6
    have HF6 := hid (HF5.out.below hb6 HF5.out.lt)
    have HA6 := hid (HA5.out.below hb6)
    have HB6 := hid (below_to HB5.out hb6)
    have hg5 := HF5.out.lt
    have hn10 : xs.length ≤ 10 := hl10
    clear ho6 hb6 hbox5
    by_cases hneg : k < 0
    · obtain ⟨K, hK⟩ : ∃ K : Nat, -k = K := Int.eq_ofNat_of_zero_le (by omega)
      have HNa : Hid (k.natAbs = K) := hid (by omega)
      have HWd : Hid (wdOf xs.length k = upW xs.length) := hid (by unfold wdOf; rw [if_pos hneg])
      have HWr : Hid (∀ j, j < (upW xs.length).length → 0 ≤ (upW xs.length).getD j 0 ∧ (upW xs.length).getD j 0 < xs.length) := hid (fun j hj => by rw [upW_len] at hj; exact upW_rng hj)
      have HWl := hid (upW_len xs.length)
      rw [HNa.out, HWd.out] at HN
      have hK1 : K ≤ 1000 := by omega
      have hkw : IntKind.i64.wrap (-k) = (K : Int) := by rw [IntWalk.i64_in _ (by omega)]; exact hK
      have Hkw := hid hkw
      have HqB := hid HO6.out.blockLt
      clear hK hkw
      go_wp2_with fail
      refine (reverseA_any q (dnW xs.length) _ _ HO6.out (by rw [dnW_len]; omega)).mono ?_
      rw [dnW_rev]
      rintro e7 w7 ⟨rfl, ho7, hg7⟩
      have HB75 : Hid (Below W5.heap.size W5 w7) := hid (below_grown HB65.out hg7 (fun j hj => (HqB.out j hj).1))
      have HO7 := hid ho7
      have HF7 := hid (HF5.out.below HB75.out hg5)
      have HA7 := hid (HA5.out.below HB75.out)
      have HB7 := hid (below_to HB5.out HB75.out)
      clear ho7 hg7 HqB HB65 HO6 HF6 HA6 HB6
      have HRk := hid (fun t => tmK_rise (wd := upW xs.length) HG.out HR.out HWr.out t)
      have HTg0 := hid (fun W t hW hT => toggled_any v q xs (tmK xs b (upW xs.length) f t) (upW xs.length) b W hW hT HG.out (HRk.out t) b0 b1 HWr.out (by rw [HWl.out]; omega))
      have HLs0 := hid (fun W t hW => list_any v xs (tmK xs b (upW xs.length) f t) b W hW hl10 (HRk.out t).len)
      obtain ⟨C, hCC⟩ : ∃ C : Nat → Array Value, (fun t => fc (tmK xs b (upW xs.length) f t) b) = C := ⟨_, rfl⟩
      have hCk : ∀ t, fc (tmK xs b (upW xs.length) f t) b = C t := fun t => congrFun hCC t
      have HCs : Hid (∀ t, (C t).size = 11) := hid (fun t => by rw [← hCk]; exact fc_size _ _)
      have HCo : Hid (∀ t, (C t).all (·.oneCell') = true) := hid (fun t => by rw [← hCk]; exact fc_one _ _)
      have HLs : Hid (∀ W t, Ints W v xs → Calls Try.prog 56 #[.agg (C t), .agg #[v]] W fun (r : Ending) w' => ∃ q, r = Ending.returned q ∧ OwnI 3 w' W.heap.size q (tmK xs b (upW xs.length) f t) ∧ Below W.heap.size W w') := hid (fun W t hW => by rw [← hCk]; exact HLs0.out W t hW)
      have HTg : Hid (∀ W t, Ints W v xs → Ints W q (upW xs.length) → Calls Try.prog 55 #[.agg (C t), .agg #[v], q] W fun r w' => r = .returned (.agg (C (t + 1))) ∧ Below W.heap.size W w') := hid (fun W t hW hT => by rw [← hCk, ← hCk]; exact HTg0.out W t hW hT)
      rw [show C0 = C 0 from HC.out.symm.trans (hCk 0)] at HF7
      clear hCC hCk
      have hkw := Hkw.out
      go_wp2
      go_loopw [39] (fun i wr => ∃ t : Nat, t ≤ K ∧ i = .int .i64 t ∧ Blk wr w1.heap.size 59 (C t) ∧ At wr w.heap.size v ∧ OwnI 3 wr W5.heap.size q (upW xs.length) ∧ Below w.heap.size w wr) (fun i _ => K - (intOf i).toNat)
      case atStart => exact ⟨0, Nat.zero_le _, rfl, HF7.out, HA7.out, HO7.out, HB7.out⟩
      case round =>
        clear HF7 HA7 HO7 HB7
        obtain ⟨t, ht, rfl, hf, ha, ho, hb⟩ := hrel
        have HF8 := hid hf
        have HA8 := hid ha
        have HO8 := hid ho
        have HB8 := hid hb
        have hbox := ha.1
        clear hf ha ho hb
        by_cases hlt : t < K
        · have hqb := HO8.out.blockLt
          go_wp2_with (refine fill_ldW rfl _ rfl _ rfl _ HF8.out (HCs.out t) ?_)
          clear hbox
          refine (HTg.out wr t (HV.out.below HB8.out) HO8.out.ints).mono ?_
          rintro e9 w9 ⟨rfl, hb9⟩
          have HF9 := hid (HF8.out.below hb9 HF8.out.lt)
          have HA9 := hid (HA8.out.below hb9)
          have HO9 := hid (HO8.out.below hb9)
          have HB9 := hid (below_to HB8.out hb9)
          clear hb9
          go_wp2_with (refine fill_stG rfl _ _ rfl _ (C (t + 1)) _ rfl rfl HF9.out (HCs.out t) (HCs.out (t + 1)) (HCo.out (t + 1)) ?_; intro w10 HF10 HG10; have HA10 := hid (HA9.out.grown HG10.out (by intro e; simp only [Option.some.injEq] at e; omega)); have HO10 := hid (HO9.out.grown HG10.out (by rcases hq9 : q.ownBlock with _ | k; exact .inl rfl; right; intro e; simp only [Option.some.injEq] at e; have := (hqb k hq9).1; omega)); have HB10 := hid (below_grown HB9.out HG10.out (fun k hk => by simp only [Option.some.injEq] at hk; omega)))
          go_roundw
          case rel => exact ⟨t + 1, by omega, by go_num, HF10.out, HA10.out, HO10.out, HB10.out⟩
          case measure => simp [intOf]; try omega
        · obtain rfl : t = K := by omega
          go_wp2_with (refine fill_ldW rfl _ rfl _ rfl _ HF8.out (HCs.out t) ?_)
          clear hbox
          refine (HLs.out wr t (HV.out.below HB8.out)).mono ?_
          rintro e9 w9 ⟨q9, rfl, ho9, hb9⟩
          have HO9 := hid (ho9.mono HB8.out.size)
          have HB9 := hid (below_to HB8.out hb9)
          clear ho9 hb9
          go_wp2
          go_ret2
          exact ⟨_, ret_vbA HO.out.symm, by rw [HN.out]; exact HO9.out, HL.out, HB9.out⟩
    · obtain ⟨K, rfl⟩ : ∃ K : Nat, k = K := Int.eq_ofNat_of_zero_le (by omega)
      have HNa : Hid ((K : Int).natAbs = K) := hid (by omega)
      have HWd : Hid (wdOf xs.length (K : Int) = dnW xs.length) := hid (by unfold wdOf; rw [if_neg hneg])
      have HWr : Hid (∀ j, j < (dnW xs.length).length → 0 ≤ (dnW xs.length).getD j 0 ∧ (dnW xs.length).getD j 0 < xs.length) := hid (fun j hj => by rw [dnW_len] at hj; exact dnW_rng hj)
      have HWl := hid (dnW_len xs.length)
      rw [HNa.out, HWd.out] at HN
      have hK1 : K ≤ 1000 := by omega
      have HO7 := HO6
      have HF7 := HF6
      have HA7 := HA6
      have HB7 := HB6
      clear HO6 HF6 HA6 HB6
      have HRk := hid (fun t => tmK_rise (wd := dnW xs.length) HG.out HR.out HWr.out t)
      have HTg0 := hid (fun W t hW hT => toggled_any v q xs (tmK xs b (dnW xs.length) f t) (dnW xs.length) b W hW hT HG.out (HRk.out t) b0 b1 HWr.out (by rw [HWl.out]; omega))
      have HLs0 := hid (fun W t hW => list_any v xs (tmK xs b (dnW xs.length) f t) b W hW hl10 (HRk.out t).len)
      obtain ⟨C, hCC⟩ : ∃ C : Nat → Array Value, (fun t => fc (tmK xs b (dnW xs.length) f t) b) = C := ⟨_, rfl⟩
      have hCk : ∀ t, fc (tmK xs b (dnW xs.length) f t) b = C t := fun t => congrFun hCC t
      have HCs : Hid (∀ t, (C t).size = 11) := hid (fun t => by rw [← hCk]; exact fc_size _ _)
      have HCo : Hid (∀ t, (C t).all (·.oneCell') = true) := hid (fun t => by rw [← hCk]; exact fc_one _ _)
      have HLs : Hid (∀ W t, Ints W v xs → Calls Try.prog 56 #[.agg (C t), .agg #[v]] W fun (r : Ending) w' => ∃ q, r = Ending.returned q ∧ OwnI 3 w' W.heap.size q (tmK xs b (dnW xs.length) f t) ∧ Below W.heap.size W w') := hid (fun W t hW => by rw [← hCk]; exact HLs0.out W t hW)
      have HTg : Hid (∀ W t, Ints W v xs → Ints W q (dnW xs.length) → Calls Try.prog 55 #[.agg (C t), .agg #[v], q] W fun r w' => r = .returned (.agg (C (t + 1))) ∧ Below W.heap.size W w') := hid (fun W t hW hT => by rw [← hCk, ← hCk]; exact HTg0.out W t hW hT)
      rw [show C0 = C 0 from HC.out.symm.trans (hCk 0)] at HF7
      clear hCC hCk
      go_wp2
      go_loopw [39] (fun i wr => ∃ t : Nat, t ≤ K ∧ i = .int .i64 t ∧ Blk wr w1.heap.size 59 (C t) ∧ At wr w.heap.size v ∧ OwnI 3 wr W5.heap.size q (dnW xs.length) ∧ Below w.heap.size w wr) (fun i _ => K - (intOf i).toNat)
      case atStart => exact ⟨0, Nat.zero_le _, rfl, HF7.out, HA7.out, HO7.out, HB7.out⟩
      case round =>
        clear HF7 HA7 HO7 HB7
        obtain ⟨t, ht, rfl, hf, ha, ho, hb⟩ := hrel
        have HF8 := hid hf
        have HA8 := hid ha
        have HO8 := hid ho
        have HB8 := hid hb
        have hbox := ha.1
        clear hf ha ho hb
        by_cases hlt : t < K
        · have hqb := HO8.out.blockLt
          go_wp2_with (refine fill_ldW rfl _ rfl _ rfl _ HF8.out (HCs.out t) ?_)
          clear hbox
          refine (HTg.out wr t (HV.out.below HB8.out) HO8.out.ints).mono ?_
          rintro e9 w9 ⟨rfl, hb9⟩
          have HF9 := hid (HF8.out.below hb9 HF8.out.lt)
          have HA9 := hid (HA8.out.below hb9)
          have HO9 := hid (HO8.out.below hb9)
          have HB9 := hid (below_to HB8.out hb9)
          clear hb9
          go_wp2_with (refine fill_stG rfl _ _ rfl _ (C (t + 1)) _ rfl rfl HF9.out (HCs.out t) (HCs.out (t + 1)) (HCo.out (t + 1)) ?_; intro w10 HF10 HG10; have HA10 := hid (HA9.out.grown HG10.out (by intro e; simp only [Option.some.injEq] at e; omega)); have HO10 := hid (HO9.out.grown HG10.out (by rcases hq9 : q.ownBlock with _ | k; exact .inl rfl; right; intro e; simp only [Option.some.injEq] at e; have := (hqb k hq9).1; omega)); have HB10 := hid (below_grown HB9.out HG10.out (fun k hk => by simp only [Option.some.injEq] at hk; omega)))
          go_roundw
          case rel => exact ⟨t + 1, by omega, by go_num, HF10.out, HA10.out, HO10.out, HB10.out⟩
          case measure => simp [intOf]; try omega
        · obtain rfl : t = K := by omega
          go_wp2_with (refine fill_ldW rfl _ rfl _ rfl _ HF8.out (HCs.out t) ?_)
          clear hbox
          refine (HLs.out wr t (HV.out.below HB8.out)).mono ?_
          rintro e9 w9 ⟨q9, rfl, ho9, hb9⟩
          have HO9 := hid (ho9.mono HB8.out.size)
          have HB9 := hid (below_to HB8.out hb9)
          clear ho9 hb9
          go_wp2
          go_ret2
          exact ⟨_, ret_vbA HO.out.symm, by rw [HN.out]; exact HO9.out, HL.out, HB9.out⟩
theorem implRowArray_any (v : Value) (xs : List Int) (u : Value) (f : List Int) (b : Int) (w : World) (hv : Ints w v xs) (hl : xs.length ≤ 1048576) (hu : Ints w u f) (hm : f.length ≤ 1048576) (wf : (Lit.int .i64 b).wf = true) :
    Calls Try.prog 28 #[.agg #[v], u, .int .i64 b] w fun (r : Ending) w' => ∃ q, r = Ending.returned (.tuple #[q, .bool (okRA xs f b 1)]) ∧ OwnI 3 w' w.heap.size q (ansRA xs f b 1) ∧ (ansRA xs f b 1).length ≤ 1048576 ∧ Below w.heap.size w w' := by
  have HV := hid hv
  have HU := hid hu
  have WF := hid wf
  clear hv hu wf
  go_enter Try.func28, Try.ntmps28
  have HB := hid (below_alloc (Below.refl _ w) (.cells #[v] 28))
  have A0 := hid (At.newAt w v 28 w.heap.size (by simp))
  have hz := HB.out.size
  go_wp2_with fail
  refine (implRowArrayTimes_any _ xs _ f b 1 _ (HV.out.below HB.out) hl (HU.out.below HB.out) hm WF.out (by decide)).mono ?_
  rintro e w' ⟨q, rfl, ho, hL, hb⟩
  replace HB := hid (below_to HB.out hb)
  replace A0 := hid (A0.out.below hb)
  clear hb
  have HQ2 := hid ho
  clear ho
  have ebox0 := A0.out.1
  go_wp2
  go_ret2
  exact ⟨_, rfl, HQ2.out.mono hz, hL, HB.out⟩
theorem implRowArrayBack_any (v : Value) (xs : List Int) (u : Value) (f : List Int) (b : Int) (w : World) (hv : Ints w v xs) (hl : xs.length ≤ 1048576) (hu : Ints w u f) (hm : f.length ≤ 1048576) (wf : (Lit.int .i64 b).wf = true) :
    Calls Try.prog 30 #[.agg #[v], u, .int .i64 b] w fun (r : Ending) w' => ∃ q, r = Ending.returned (.tuple #[q, .bool (okRA xs f b (-1))]) ∧ OwnI 3 w' w.heap.size q (ansRA xs f b (-1)) ∧ (ansRA xs f b (-1)).length ≤ 1048576 ∧ Below w.heap.size w w' := by
  have HV := hid hv
  have HU := hid hu
  have WF := hid wf
  clear hv hu wf
  go_enter Try.func30, Try.ntmps30
  have HB := hid (below_alloc (Below.refl _ w) (.cells #[v] 28))
  have A0 := hid (At.newAt w v 28 w.heap.size (by simp))
  have hz := HB.out.size
  go_wp2_with fail
  refine (implRowArrayTimes_any _ xs _ f b (-1) _ (HV.out.below HB.out) hl (HU.out.below HB.out) hm WF.out (by decide)).mono ?_
  rintro e w' ⟨q, rfl, ho, hL, hb⟩
  replace HB := hid (below_to HB.out hb)
  replace A0 := hid (A0.out.below hb)
  clear hb
  have HQ2 := hid ho
  clear ho
  have ebox0 := A0.out.1
  go_wp2
  go_ret2
  exact ⟨_, rfl, HQ2.out.mono hz, hL, HB.out⟩
end Go.Proofs.Ytgepbekdgocnpaa
