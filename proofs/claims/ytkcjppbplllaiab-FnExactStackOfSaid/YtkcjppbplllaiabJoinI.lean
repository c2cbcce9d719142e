/- Sums and stacks: the program's functions. -/
import Derived.Test.YtkcjppbplllaiabJoin
import Derived.Test.YtkcjppbplllaiabPoset
import Derived.Test.YtkcjppbplllaiabApi
import Derived.Lib.SliceRun
namespace Go.Proofs.Ytkcjppbplllaiab
open Go.RowKit Go.WideShapes Go.ChangeShapes
set_option linter.unusedVariables false

theorem cloneI_any (v : Value) (xs : List Int) (w : World) (hv : Ints w v xs) (hl : xs.length ≤ 1048576) :
    Calls Try.prog 95 #[v] w fun (r : Ending) w' => ∃ u, r = Ending.returned u ∧ OwnI 3 w' w.heap.size u xs ∧ Below w.heap.size w w' := by
  have HV := hid hv
  obtain ⟨A, c, rfl, hA⟩ := hv
  have HA := hid hA
  clear hA
  have qT : ∀ (w : World) (a : Option Addr) (n c n' c' : Nat), (binOp .eql 22 (.slice a n c) (.slice none n' c')).run Try.prog w = .ok (.bool a.isNone) w := fun w a n c n' c' => Lib.run_eql_slice_nil w _ _ a n c n' c' Try.underlying22
  rcases A with _ | ⟨b, o, pt⟩
  · by_cases hx : xs = []
    · subst hx
      go_enter Try.func95, Try.ntmps95
      go_wp2
      go_ret
      exact ⟨_, rfl, OwnI.nil _ _ _, Below.refl _ _⟩
    · obtain ⟨b, o, h, -⟩ := HA.out hx
      cases h
  · skip
    go_enter Try.func95, Try.ntmps95
    go_wp2_with (at_builtin; refine wpList_append_ints rfl _ _ 22 3 rfl Try.underlying22 Try.info3 w.heap.size _ [] rfl (OwnI.empty 3 w) _ xs rfl (HV.out.alloc _) (by simpa using hl) (by simp) ?_; rintro u w1 ho hb)
    go_ret
    exact ⟨_, rfl, by simpa using ho, (below_alloc (Below.refl _ w) _).trans hb⟩
theorem fitTogether_any (v u : Value) (xs ys : List Int) (w : World) (hv : Ints w v xs) (hu : Ints w u ys) (hl : xs.length ≤ 1048576) (hm : ys.length ≤ 1048576) :
    Calls Try.prog 65 #[.agg #[v], .agg #[u]] w fun r w' => r = .returned (.bool (fits xs ys)) ∧ Below w.heap.size w w' := by
  have HV := hid hv
  have HU := hid hu
  obtain ⟨A, c, rfl, -⟩ := hv
  obtain ⟨A2, c2, rfl, -⟩ := hu
  go_enter Try.func65, Try.ntmps65
  have HB := hid (below_alloc (below_alloc (Below.refl _ w) (.cells #[(.slice A xs.length c)] 38)) (.cells #[(.slice A2 ys.length c2)] 38))
  have A0 := hid ((At.newAt w (.slice A xs.length c) 38 w.heap.size (by simp)).alloc (.cells #[(.slice A2 ys.length c2)] 38))
  have A1 := hid (At.newAt (w.alloc (.cells #[(.slice A xs.length c)] 38)) (.slice A2 ys.length c2) 38 (w.heap.size + 1) (by simp))
  go_wp2_with fail
  refine (implIsPoset_any _ xs _ (HV.out.below HB.out) hl).mono ?_
  rintro e w' ⟨rfl, hb⟩
  replace HB := hid (below_to HB.out hb)
  replace A0 := hid (A0.out.below hb)
  replace A1 := hid (A1.out.below hb)
  clear hb
  cases hg : good xs
  · have HF : Hid (fits xs ys = false) := hid (by simp [fits, hg])
    clear hg
    have ebox0 := A0.out.1
    have ebox1 := A1.out.1
    go_wp2
    go_ret
    exact ⟨ret_bool HF.out.symm, HB.out⟩
  · have HG := hid hg
    have h1 := good_length hg
    clear hg
    have ebox0 := A0.out.1
    have ebox1 := A1.out.1
    go_wp2_with fail
    clear ebox0 ebox1
    refine (implIsPoset_any _ ys _ (HU.out.below HB.out) hm).mono ?_
    rintro e w' ⟨rfl, hb⟩
    replace HB := hid (below_to HB.out hb)
    replace A0 := hid (A0.out.below hb)
    replace A1 := hid (A1.out.below hb)
    clear hb
    cases hy : good ys
    · have HF : Hid (fits xs ys = false) := hid (by simp [fits, hy])
      clear hy
      have ebox0 := A0.out.1
      have ebox1 := A1.out.1
      go_wp2
      go_ret
      exact ⟨ret_bool HF.out.symm, HB.out⟩
    · have h2 := good_length hy
      have HF : Hid (fits xs ys = (decide ((1 : Int) ≤ (xs.length : Int) + ys.length) && decide ((xs.length : Int) + ys.length ≤ 10))) := hid (by
        simp only [fits, HG.out, hy, Bool.true_and]
        rw [decide_eq_true (show (1 : Int) ≤ (xs.length : Int) + ys.length by omega), Bool.true_and]
        exact decide_eq_decide.2 (by omega))
      clear hy
      have ebx0 := A0.out.1
      have ebx1 := A1.out.1
      go_wp2_with (go_at_call 61; refine (isSize_any _ _).mono ?_; rw [← HF.out]; rintro e w2 ⟨rfl, rfl⟩)
      go_ret
      exact ⟨rfl, HB.out⟩

set_option maxHeartbeats 3200000 in
theorem closSum_any (n z a : Nat) (A : Option Addr) (c : Nat) (w : World) (hn : n ≤ 10) (hz : z < 1024) (h1 : At w a (.slice A n c)) :
    Calls Try.prog 66 #[.int .i64 z, .pointer (some ⟨a, 0, none⟩)] w fun r w' => r = .returned (.int .i64 (shl n (0) z)) ∧ Below w.heap.size w w' := by
  have hbox := h1.1
  have hpw := two_pow_le n hn
  have hzb : z * 2 ^ n ≤ 1024 * 1024 := Nat.mul_le_mul (by omega) hpw.2
  have hsh : shl n (0) (z : Int) = ((z * 2 ^ n ||| (0) : Nat) : Int) := by simp [shl]
  have HS := hid hsh
  obtain ⟨m, hm⟩ : ∃ m, z * 2 ^ n = m := ⟨_, rfl⟩
  have hmI : ((z : Int) * 2 ^ n) = (m : Int) := by rw [← hm]; simp
  rw [hm] at HS hzb
  have hw1 : IntKind.i64.wrap (m : Int) = (m : Int) := IntWalk.i64_in _ (by omega)
  have hw2 : wrap64 (m : Int) = (m : Int) := by unfold wrap64; omega
  clear h1 hm hsh hpw
  go_enter Try.func66, Try.ntmps66
  go_wp2
  all_goals go_ret
  all_goals exact ⟨ret_int (by rw [HS.out]; simp), Below.refl _ _⟩
set_option maxHeartbeats 1600000 in
theorem joinedSum_any (v u : Value) (xs ys : List Int) (a : Nat) (w : World) (hv : Ints w v xs) (hu : Ints w u ys) (hg : good xs = true) (hy : good ys = true) (h1 : At w a v) :
    Calls Try.prog 67 #[v, u, .func (.func 66) #[] #[.pointer (some ⟨a, 0, none⟩)]] w fun (r : Ending) w' => ∃ q, r = Ending.returned q ∧ OwnI 3 w' w.heap.size q (joinL xs ys (0)) ∧ Below w.heap.size w w' := by
  have HV := hid hv
  have HY := hid hy
  have H1 := hid h1
  obtain ⟨A, c, rfl, -⟩ := hv
  obtain ⟨A2, c2, rfl, hA2⟩ := hu
  have HA2 := hid hA2
  have hx10 := (good_length hg).2
  have hy10 := (good_length hy).2
  clear hA2 hg hy h1
  go_enter Try.func67, Try.ntmps67
  go_wp2_with fail
  refine (cloneI_any _ xs _ HV.out (by omega)).mono ?_
  rintro e w1 ⟨q0, rfl, ho, hb1⟩
  have HO := hid ho
  have HB := hid hb1
  clear ho hb1
  go_wp2
  go_loopw [7, 14] (fun q i wr => ∃ k : Nat, k ≤ ys.length ∧ i = .int .i64 k ∧ OwnI 3 wr w.heap.size q (joinL xs (ys.take k) (0)) ∧ Below w.heap.size w wr) (fun _ i _ => ys.length - (intOf i).toNat)
  case atStart => exact ⟨0, Nat.zero_le _, rfl, by simpa [joinL] using HO.out, HB.out⟩
  case round =>
    obtain ⟨k, hk, rfl, ho, hb⟩ := hrel
    by_cases hlt : k < ys.length
    · obtain ⟨b, o, rfl, hbl, hc⟩ := HA2.out (by intro h; simp [h] at hlt)
      have hcell : wr.cell? ⟨b, o + k, none⟩ = some (.int .i64 (ys.getD k 0)) := (hb.cell (p := ⟨b, o + k, none⟩) hbl).trans (hc k hlt)
      have hr := row_lt HY.out hlt
      have hr10 := row_lt10 HY.out hlt
      obtain ⟨z, hz'⟩ : ∃ z, row ys k = z := ⟨_, rfl⟩
      rw [hz'] at hr hr10
      have HJ := hid (joinL_take xs ys (0) hlt)
      rw [hr.1] at hcell HJ
      obtain ⟨y, hy⟩ : ∃ y, shl xs.length (0) (z : Int) = y := ⟨_, rfl⟩
      have HC := hid (closSum_any xs.length z a A c wr hx10 hr10 (H1.out.below hb))
      rw [hy] at HC HJ
      have HOw := hid ho
      have Hb := hid hb
      have hjl : (joinL xs (ys.take k) (0)).length < 1048576 := by rw [joinL_length, List.length_take]; omega
      clear hc hr hz' hy ho hb
      go_wp2_with fail
      refine HC.out.mono ?_
      rintro e' w2 ⟨rfl, hb2⟩
      have HO2 := hid (HOw.out.below hb2)
      have Hb2 := hid (below_to Hb.out hb2)
      have hz2 := Hb2.out.size
      clear hb2 hcell
      go_wp2_with (at_builtin; refine wpList_append_int rfl _ _ 22 3 rfl Try.underlying22 Try.info3 w.heap.size _ _ y rfl HO2.out rfl rfl hjl hz2 ?_; rintro q3 w3 ho3 hb3)
      go_roundw
      case rel => exact ⟨k + 1, by omega, by go_num, (by rw [HJ.out]; exact ho3), Hb2.out.trans hb3⟩
      case measure => simp [intOf]; omega
    · obtain rfl : k = ys.length := by omega
      rw [List.take_length] at ho
      have HOw := hid ho
      have Hb := hid hb
      clear ho hb
      go_wp2
      go_ret
      exact ⟨_, rfl, HOw.out, Hb.out⟩
theorem sumL_yes {xs ys : List Int} (h : fits xs ys = true) : sumL xs ys = joinL xs ys (0) := by unfold sumL; rw [if_pos h]
theorem sumL_no {xs ys : List Int} (h : fits xs ys = false) : sumL xs ys = [] := by simp [sumL, h]
theorem sumL_length (xs ys : List Int) : (sumL xs ys).length ≤ 1048576 := by
  unfold sumL
  split
  · rename_i h
    have := fits_good h
    rw [joinL_length]; omega
  · simp
set_option maxHeartbeats 800000 in
theorem implSumOf_any (v : Value) (xs : List Int) (u : Value) (ys : List Int) (w : World) (hv : Ints w v xs) (hl : xs.length ≤ 1048576) (hu : Ints w u ys) (hm : ys.length ≤ 1048576) :
    Calls Try.prog 34 #[.agg #[v], .agg #[u]] w fun (r : Ending) w' => ∃ q, r = Ending.returned (.tuple #[.agg #[q], .bool (fits xs ys)]) ∧ OwnI 3 w' w.heap.size q (sumL xs ys) ∧ (sumL xs ys).length ≤ 1048576 ∧ Below w.heap.size w w' := by
  have HV := hid hv
  have HU := hid hu
  have HL := hid (sumL_length xs ys)
  clear hv hu
  go_enter Try.func34, Try.ntmps34
  go_wp2_with fail
  refine (fitTogether_any _ _ xs ys _ (((HV.out.alloc _).alloc _).alloc _) (((HU.out.alloc _).alloc _).alloc _) hl hm).mono ?_
  rintro e w1 ⟨rfl, hb1⟩
  have HP0 := hid ((((At.new w v 38).alloc (.cells #[u] 38)).alloc (.cells #[.slice none 0 0] 38)).below hb1)
  have HP1 := hid (((At.newAt (w.alloc (.cells #[v] 38)) u 38 (w.heap.size + 1) (by simp)).alloc (.cells #[.slice none 0 0] 38)).below hb1)
  have HP2 := hid ((Blk.newAt ((w.alloc (.cells #[v] 38)).alloc (.cells #[u] 38)) 38 #[.slice none 0 0] (w.heap.size + 1 + 1) (by simp)).below hb1 (by simp))
  have HB := hid (below_to (below_alloc (below_alloc (below_alloc (Below.refl _ w) _) _) _) hb1)
  clear hb1
  cases hf : fits xs ys
  · have HF := hid hf
    have t1 := HP2.out.cell 0
    have t2 := HP2.out.frozen 0
    clear hf
    go_wp2
    refine bodyPost_ret (v := .tuple #[.agg #[.slice none 0 0], .bool false]) (by simp [results, Try.results34, go_sem, t1]) rfl ⟨_, by rw [HF.out], by rw [sumL_no HF.out]; exact OwnI.nil _ _ _, HL.out, ?_⟩
    exact HB.out.setCell (p := ⟨w.heap.size + 1 + 1, 0, none⟩) (by show w.heap.size ≤ w.heap.size + 1 + 1; omega) _
  · have HF := hid hf
    obtain ⟨hg, hy, hxy⟩ := fits_good hf
    have HG := hid hg
    have HY := hid hy
    have hbx0 := HP0.out.1
    have hbx1 := HP1.out.1
    clear hf hg hy
    go_wp2_with fail
    refine (joinedSum_any _ _ xs ys w.heap.size _ (HV.out.below HB.out) (HU.out.below HB.out) HG.out HY.out HP0.out).mono ?_
    rintro e w2 ⟨q, rfl, ho, hb2⟩
    have hr := HP2.out.below hb2 HP2.out.lt
    have t1 := hr.cell 0
    have t2 := hr.frozen 0
    obtain ⟨uA, un, uc, rfl⟩ := ho.shape3
    have HO := hid ho
    have HB3 := hid (below_to HB.out hb2)
    have hz : w.heap.size + 1 + 1 < w1.heap.size := HP2.out.lt
    clear hr ho hb2 hbx0 hbx1
    go_wp2
    refine bodyPost_ret (v := .tuple #[.agg #[.slice uA un uc], .bool true]) (by simp [results, Try.results34, go_sem, t1]) rfl ⟨_, by rw [HF.out], ?_, HL.out, ?_⟩
    · rw [sumL_yes HF.out]
      refine (HO.out.grown (grown_setCell (g := w.heap.size + 1 + 1) (World.grownBy.refl _ _) 0 _) ?_).mono (by omega)
      exact HO.out.apart (.inl (by omega))
    · exact HB3.out.setCell (p := ⟨w.heap.size + 1 + 1, 0, none⟩) (by show w.heap.size ≤ w.heap.size + 1 + 1; omega) _
set_option maxHeartbeats 1600000 in
theorem specSumOf_any (v : Value) (xs : List Int) (u : Value) (ys : List Int) (w : World) (hv : Ints w v xs) (hl : xs.length ≤ 1048576) (hu : Ints w u ys) (hm : ys.length ≤ 1048576) :
    Calls Try.prog 32 #[.agg #[v], .agg #[u]] w fun (r : Ending) w' => ∃ q, r = Ending.returned (.tuple #[.agg #[q], .bool (fits xs ys)]) ∧ OwnI 3 w' w.heap.size q (sumL xs ys) ∧ (sumL xs ys).length ≤ 1048576 ∧ Below w.heap.size w w' := by
  have HV := hid hv
  have HU := hid hu
  have HL := hid (sumL_length xs ys)
  obtain ⟨A, c, rfl, -⟩ := hv
  obtain ⟨A2, c2, rfl, -⟩ := hu
  go_enter Try.func32, Try.ntmps32
  go_wp2_with fail
  refine (poGood_any _ xs _ (((HV.out.alloc _).alloc _).alloc _) hl).mono ?_
  rintro e w1 ⟨rfl, hb1⟩
  have HP0 := hid ((((At.new w (.slice A xs.length c) 38).alloc (.cells #[.slice A2 ys.length c2] 38)).alloc (.cells #[.slice none 0 0] 38)).below hb1)
  have HP1 := hid (((At.newAt (w.alloc (.cells #[.slice A xs.length c] 38)) (.slice A2 ys.length c2) 38 (w.heap.size + 1) (by simp)).alloc (.cells #[.slice none 0 0] 38)).below hb1)
  have HP2 := hid ((Blk.newAt ((w.alloc (.cells #[.slice A xs.length c] 38)).alloc (.cells #[.slice A2 ys.length c2] 38)) 38 #[.slice none 0 0] (w.heap.size + 1 + 1) (by simp)).below hb1 (by simp))
  have HB := hid (below_to (below_alloc (below_alloc (below_alloc (Below.refl _ w) _) _) _) hb1)
  clear hb1
  have hx1 := HP1.out.1
  cases hg : good xs
  · have HF : Hid (fits xs ys = false) := hid (by simp [fits, hg])
    have t1 := HP2.out.cell 0
    have t2 := HP2.out.frozen 0
    clear hg
    go_wp2
    refine bodyPost_ret (v := .tuple #[.agg #[.slice none 0 0], .bool false]) (by simp [results, Try.results32, go_sem, t1]) rfl ⟨_, by rw [HF.out], by rw [sumL_no HF.out]; exact OwnI.nil _ _ _, HL.out, ?_⟩
    exact HB.out.setCell (p := ⟨w.heap.size + 1 + 1, 0, none⟩) (by show w.heap.size ≤ w.heap.size + 1 + 1; omega) _
  · have HG := hid hg
    have hg10 := good_length hg
    clear hg
    go_wp2_with fail
    clear hx1
    refine (poGood_any _ ys _ (HU.out.below HB.out) hm).mono ?_
    rintro e w2 ⟨rfl, hb2⟩
    have HQ0 := hid (HP0.out.below hb2)
    have HQ1 := hid (HP1.out.below hb2)
    have HQ2 := hid (HP2.out.below hb2 HP2.out.lt)
    have HB2 := hid (below_to HB.out hb2)
    have t1 := HQ2.out.cell 0
    have t2 := HQ2.out.frozen 0
    clear hb2
    cases hy : good ys
    · have HF : Hid (fits xs ys = false) := hid (by simp [fits, hy])
      clear hy
      go_wp2
      refine bodyPost_ret (v := .tuple #[.agg #[.slice none 0 0], .bool false]) (by simp [results, Try.results32, go_sem, t1]) rfl ⟨_, by rw [HF.out], by rw [sumL_no HF.out]; exact OwnI.nil _ _ _, HL.out, ?_⟩
      exact HB2.out.setCell (p := ⟨w.heap.size + 1 + 1, 0, none⟩) (by show w.heap.size ≤ w.heap.size + 1 + 1; omega) _
    · have HY := hid hy
      have hy10 := good_length hy
      have q0 := HQ0.out.1
      have q1 := HQ1.out.1
      clear hy
      by_cases hbig : 10 < xs.length + ys.length
      · have HF : Hid (fits xs ys = false) := hid (by simp [fits, hbig])
        have hbI : (10 : Int) < (xs.length : Int) + ys.length := by omega
        clear hbig
        go_wp2
        refine bodyPost_ret (v := .tuple #[.agg #[.slice none 0 0], .bool false]) (by simp [results, Try.results32, go_sem, t1]) rfl ⟨_, by rw [HF.out], by rw [sumL_no HF.out]; exact OwnI.nil _ _ _, HL.out, ?_⟩
        exact HB2.out.setCell (p := ⟨w.heap.size + 1 + 1, 0, none⟩) (by show w.heap.size ≤ w.heap.size + 1 + 1; omega) _
      · have HF : Hid (fits xs ys = true) := hid (by simp [fits, HG.out, HY.out]; omega)
        have hbI : ¬ (10 : Int) < (xs.length : Int) + ys.length := by omega
        have hxy : xs.length + ys.length ≤ 10 := by omega
        clear hbig
        go_wp2_with fail
        clear t1 t2 q0 q1
        refine (poJoin_any _ _ xs ys 0 _ (HV.out.below HB2.out) (HU.out.below HB2.out) HG.out HY.out hxy (by omega)).mono ?_
        rintro e w3 ⟨q, rfl, ho, hb3⟩
        have hr := HQ2.out.below hb3 HQ2.out.lt
        have t1 := hr.cell 0
        have t2 := hr.frozen 0
        obtain ⟨uA, un, uc, rfl⟩ := ho.shape3
        have HO := hid ho
        have HB3 := hid (below_to HB2.out hb3)
        have hz : w.heap.size + 1 + 1 < w2.heap.size := HQ2.out.lt
        clear hr ho hb3
        go_wp2
        refine bodyPost_ret (v := .tuple #[.agg #[.slice uA un uc], .bool true]) (by simp [results, Try.results32, go_sem, t1]) rfl ⟨_, by rw [HF.out], ?_, HL.out, ?_⟩
        · rw [sumL_yes HF.out]
          refine (HO.out.grown (grown_setCell (g := w.heap.size + 1 + 1) (World.grownBy.refl _ _) 0 _) ?_).mono (by omega)
          exact HO.out.apart (.inl (by omega))
        · exact HB3.out.setCell (p := ⟨w.heap.size + 1 + 1, 0, none⟩) (by show w.heap.size ≤ w.heap.size + 1 + 1; omega) _

set_option maxHeartbeats 3200000 in
theorem closStack_any (n z a : Nat) (A : Option Addr) (c : Nat) (w : World) (hn : n ≤ 10) (hz : z < 1024) (h1 : At w a (.slice A n c)) :
    Calls Try.prog 68 #[.int .i64 z, .pointer (some ⟨a, 0, none⟩)] w fun r w' => r = .returned (.int .i64 (shl n (2 ^ n - 1) z)) ∧ Below w.heap.size w w' := by
  have hbox := h1.1
  have hpw := two_pow_le n hn
  have hzb : z * 2 ^ n ≤ 1024 * 1024 := Nat.mul_le_mul (by omega) hpw.2
  have hsh : shl n (2 ^ n - 1) (z : Int) = ((z * 2 ^ n ||| (2 ^ n - 1) : Nat) : Int) := by simp [shl]
  have HS := hid hsh
  obtain ⟨m, hm⟩ : ∃ m, z * 2 ^ n = m := ⟨_, rfl⟩
  have hmI : ((z : Int) * 2 ^ n) = (m : Int) := by rw [← hm]; simp
  rw [hm] at HS hzb
  have hw1 : IntKind.i64.wrap (m : Int) = (m : Int) := IntWalk.i64_in _ (by omega)
  have hw2 : wrap64 (m : Int) = (m : Int) := by unfold wrap64; omega
  have hp3 := two_pow_le n hn
  have hor := i64_or_nat m (2 ^ n - 1) (by omega) (by omega)
  obtain ⟨NN, hNN⟩ : ∃ NN, 2 ^ n - 1 = NN := ⟨_, rfl⟩
  rw [hNN] at hor HS
  have hNN2 : NN < 1024 := by omega
  have hnn : ¬ (n : Int) < 0 := by omega
  have hnn2 : (0 : Int) ≤ (n : Int) := by omega
  clear h1 hm hsh hpw
  go_enter Try.func68, Try.ntmps68
  go_wp2_with fail
  go_region_with (go_at_call 53; refine (wholeSet_any n hn _).mono ?_; rw [hNN]; rintro e w2 ⟨rfl, rfl⟩)
  all_goals go_wp2
  all_goals go_ret
  all_goals exact ⟨ret_int (by rw [hNN, HS.out]), (Below.refl _ _).drew⟩
set_option maxHeartbeats 1600000 in
theorem joinedStack_any (v u : Value) (xs ys : List Int) (a : Nat) (w : World) (hv : Ints w v xs) (hu : Ints w u ys) (hg : good xs = true) (hy : good ys = true) (h1 : At w a v) :
    Calls Try.prog 67 #[v, u, .func (.func 68) #[] #[.pointer (some ⟨a, 0, none⟩)]] w fun (r : Ending) w' => ∃ q, r = Ending.returned q ∧ OwnI 3 w' w.heap.size q (joinL xs ys (2 ^ xs.length - 1)) ∧ Below w.heap.size w w' := by
  have HV := hid hv
  have HY := hid hy
  have H1 := hid h1
  obtain ⟨A, c, rfl, -⟩ := hv
  obtain ⟨A2, c2, rfl, hA2⟩ := hu
  have HA2 := hid hA2
  have hx10 := (good_length hg).2
  have hy10 := (good_length hy).2
  clear hA2 hg hy h1
  go_enter Try.func67, Try.ntmps67
  go_wp2_with fail
  refine (cloneI_any _ xs _ HV.out (by omega)).mono ?_
  rintro e w1 ⟨q0, rfl, ho, hb1⟩
  have HO := hid ho
  have HB := hid hb1
  clear ho hb1
  go_wp2
  go_loopw [7, 14] (fun q i wr => ∃ k : Nat, k ≤ ys.length ∧ i = .int .i64 k ∧ OwnI 3 wr w.heap.size q (joinL xs (ys.take k) (2 ^ xs.length - 1)) ∧ Below w.heap.size w wr) (fun _ i _ => ys.length - (intOf i).toNat)
  case atStart => exact ⟨0, Nat.zero_le _, rfl, by simpa [joinL] using HO.out, HB.out⟩
  case round =>
    obtain ⟨k, hk, rfl, ho, hb⟩ := hrel
    by_cases hlt : k < ys.length
    · obtain ⟨b, o, rfl, hbl, hc⟩ := HA2.out (by intro h; simp [h] at hlt)
      have hcell : wr.cell? ⟨b, o + k, none⟩ = some (.int .i64 (ys.getD k 0)) := (hb.cell (p := ⟨b, o + k, none⟩) hbl).trans (hc k hlt)
      have hr := row_lt HY.out hlt
      have hr10 := row_lt10 HY.out hlt
      obtain ⟨z, hz'⟩ : ∃ z, row ys k = z := ⟨_, rfl⟩
      rw [hz'] at hr hr10
      have HJ := hid (joinL_take xs ys (2 ^ xs.length - 1) hlt)
      rw [hr.1] at hcell HJ
      obtain ⟨y, hy⟩ : ∃ y, shl xs.length (2 ^ xs.length - 1) (z : Int) = y := ⟨_, rfl⟩
      have HC := hid (closStack_any xs.length z a A c wr hx10 hr10 (H1.out.below hb))
      rw [hy] at HC HJ
      have HOw := hid ho
      have Hb := hid hb
      have hjl : (joinL xs (ys.take k) (2 ^ xs.length - 1)).length < 1048576 := by rw [joinL_length, List.length_take]; omega
      clear hc hr hz' hy ho hb
      go_wp2_with fail
      refine HC.out.mono ?_
      rintro e' w2 ⟨rfl, hb2⟩
      have HO2 := hid (HOw.out.below hb2)
      have Hb2 := hid (below_to Hb.out hb2)
      have hz2 := Hb2.out.size
      clear hb2 hcell
      go_wp2_with (at_builtin; refine wpList_append_int rfl _ _ 22 3 rfl Try.underlying22 Try.info3 w.heap.size _ _ y rfl HO2.out rfl rfl hjl hz2 ?_; rintro q3 w3 ho3 hb3)
      go_roundw
      case rel => exact ⟨k + 1, by omega, by go_num, (by rw [HJ.out]; exact ho3), Hb2.out.trans hb3⟩
      case measure => simp [intOf]; omega
    · obtain rfl : k = ys.length := by omega
      rw [List.take_length] at ho
      have HOw := hid ho
      have Hb := hid hb
      clear ho hb
      go_wp2
      go_ret
      exact ⟨_, rfl, HOw.out, Hb.out⟩
theorem stackL_yes {xs ys : List Int} (h : fits xs ys = true) : stackL xs ys = joinL xs ys (2 ^ xs.length - 1) := by unfold stackL; rw [if_pos h]
theorem stackL_no {xs ys : List Int} (h : fits xs ys = false) : stackL xs ys = [] := by simp [stackL, h]
theorem stackL_length (xs ys : List Int) : (stackL xs ys).length ≤ 1048576 := by
  unfold stackL
  split
  · rename_i h
    have := fits_good h
    rw [joinL_length]; omega
  · simp
set_option maxHeartbeats 800000 in
theorem implStackOf_any (v : Value) (xs : List Int) (u : Value) (ys : List Int) (w : World) (hv : Ints w v xs) (hl : xs.length ≤ 1048576) (hu : Ints w u ys) (hm : ys.length ≤ 1048576) :
    Calls Try.prog 36 #[.agg #[v], .agg #[u]] w fun (r : Ending) w' => ∃ q, r = Ending.returned (.tuple #[.agg #[q], .bool (fits xs ys)]) ∧ OwnI 3 w' w.heap.size q (stackL xs ys) ∧ (stackL xs ys).length ≤ 1048576 ∧ Below w.heap.size w w' := by
  have HV := hid hv
  have HU := hid hu
  have HL := hid (stackL_length xs ys)
  clear hv hu
  go_enter Try.func36, Try.ntmps36
  go_wp2_with fail
  refine (fitTogether_any _ _ xs ys _ (((HV.out.alloc _).alloc _).alloc _) (((HU.out.alloc _).alloc _).alloc _) hl hm).mono ?_
  rintro e w1 ⟨rfl, hb1⟩
  have HP0 := hid ((((At.new w v 38).alloc (.cells #[u] 38)).alloc (.cells #[.slice none 0 0] 38)).below hb1)
  have HP1 := hid (((At.newAt (w.alloc (.cells #[v] 38)) u 38 (w.heap.size + 1) (by simp)).alloc (.cells #[.slice none 0 0] 38)).below hb1)
  have HP2 := hid ((Blk.newAt ((w.alloc (.cells #[v] 38)).alloc (.cells #[u] 38)) 38 #[.slice none 0 0] (w.heap.size + 1 + 1) (by simp)).below hb1 (by simp))
  have HB := hid (below_to (below_alloc (below_alloc (below_alloc (Below.refl _ w) _) _) _) hb1)
  clear hb1
  cases hf : fits xs ys
  · have HF := hid hf
    have t1 := HP2.out.cell 0
    have t2 := HP2.out.frozen 0
    clear hf
    go_wp2
    refine bodyPost_ret (v := .tuple #[.agg #[.slice none 0 0], .bool false]) (by simp [results, Try.results36, go_sem, t1]) rfl ⟨_, by rw [HF.out], by rw [stackL_no HF.out]; exact OwnI.nil _ _ _, HL.out, ?_⟩
    exact HB.out.setCell (p := ⟨w.heap.size + 1 + 1, 0, none⟩) (by show w.heap.size ≤ w.heap.size + 1 + 1; omega) _
  · have HF := hid hf
    obtain ⟨hg, hy, hxy⟩ := fits_good hf
    have HG := hid hg
    have HY := hid hy
    have hbx0 := HP0.out.1
    have hbx1 := HP1.out.1
    clear hf hg hy
    go_wp2_with fail
    refine (joinedStack_any _ _ xs ys w.heap.size _ (HV.out.below HB.out) (HU.out.below HB.out) HG.out HY.out HP0.out).mono ?_
    rintro e w2 ⟨q, rfl, ho, hb2⟩
    have hr := HP2.out.below hb2 HP2.out.lt
    have t1 := hr.cell 0
    have t2 := hr.frozen 0
    obtain ⟨uA, un, uc, rfl⟩ := ho.shape3
    have HO := hid ho
    have HB3 := hid (below_to HB.out hb2)
    have hz : w.heap.size + 1 + 1 < w1.heap.size := HP2.out.lt
    clear hr ho hb2 hbx0 hbx1
    go_wp2
    refine bodyPost_ret (v := .tuple #[.agg #[.slice uA un uc], .bool true]) (by simp [results, Try.results36, go_sem, t1]) rfl ⟨_, by rw [HF.out], ?_, HL.out, ?_⟩
    · rw [stackL_yes HF.out]
      refine (HO.out.grown (grown_setCell (g := w.heap.size + 1 + 1) (World.grownBy.refl _ _) 0 _) ?_).mono (by omega)
      exact HO.out.apart (.inl (by omega))
    · exact HB3.out.setCell (p := ⟨w.heap.size + 1 + 1, 0, none⟩) (by show w.heap.size ≤ w.heap.size + 1 + 1; omega) _
set_option maxHeartbeats 1600000 in
theorem specStackOf_any (v : Value) (xs : List Int) (u : Value) (ys : List Int) (w : World) (hv : Ints w v xs) (hl : xs.length ≤ 1048576) (hu : Ints w u ys) (hm : ys.length ≤ 1048576) :
    Calls Try.prog 35 #[.agg #[v], .agg #[u]] w fun (r : Ending) w' => ∃ q, r = Ending.returned (.tuple #[.agg #[q], .bool (fits xs ys)]) ∧ OwnI 3 w' w.heap.size q (stackL xs ys) ∧ (stackL xs ys).length ≤ 1048576 ∧ Below w.heap.size w w' := by
  have HV := hid hv
  have HU := hid hu
  have HL := hid (stackL_length xs ys)
  obtain ⟨A, c, rfl, -⟩ := hv
  obtain ⟨A2, c2, rfl, -⟩ := hu
  go_enter Try.func35, Try.ntmps35
  go_wp2_with fail
  refine (poGood_any _ xs _ (((HV.out.alloc _).alloc _).alloc _) hl).mono ?_
  rintro e w1 ⟨rfl, hb1⟩
  have HP0 := hid ((((At.new w (.slice A xs.length c) 38).alloc (.cells #[.slice A2 ys.length c2] 38)).alloc (.cells #[.slice none 0 0] 38)).below hb1)
  have HP1 := hid (((At.newAt (w.alloc (.cells #[.slice A xs.length c] 38)) (.slice A2 ys.length c2) 38 (w.heap.size + 1) (by simp)).alloc (.cells #[.slice none 0 0] 38)).below hb1)
  have HP2 := hid ((Blk.newAt ((w.alloc (.cells #[.slice A xs.length c] 38)).alloc (.cells #[.slice A2 ys.length c2] 38)) 38 #[.slice none 0 0] (w.heap.size + 1 + 1) (by simp)).below hb1 (by simp))
  have HB := hid (below_to (below_alloc (below_alloc (below_alloc (Below.refl _ w) _) _) _) hb1)
  clear hb1
  have hx1 := HP1.out.1
  cases hg : good xs
  · have HF : Hid (fits xs ys = false) := hid (by simp [fits, hg])
    have t1 := HP2.out.cell 0
    have t2 := HP2.out.frozen 0
    clear hg
    go_wp2
    refine bodyPost_ret (v := .tuple #[.agg #[.slice none 0 0], .bool false]) (by simp [results, Try.results35, go_sem, t1]) rfl ⟨_, by rw [HF.out], by rw [stackL_no HF.out]; exact OwnI.nil _ _ _, HL.out, ?_⟩
    exact HB.out.setCell (p := ⟨w.heap.size + 1 + 1, 0, none⟩) (by show w.heap.size ≤ w.heap.size + 1 + 1; omega) _
  · have HG := hid hg
    have hg10 := good_length hg
    clear hg
    go_wp2_with fail
    clear hx1
    refine (poGood_any _ ys _ (HU.out.below HB.out) hm).mono ?_
    rintro e w2 ⟨rfl, hb2⟩
    have HQ0 := hid (HP0.out.below hb2)
    have HQ1 := hid (HP1.out.below hb2)
    have HQ2 := hid (HP2.out.below hb2 HP2.out.lt)
    have HB2 := hid (below_to HB.out hb2)
    have t1 := HQ2.out.cell 0
    have t2 := HQ2.out.frozen 0
    clear hb2
    cases hy : good ys
    · have HF : Hid (fits xs ys = false) := hid (by simp [fits, hy])
      clear hy
      go_wp2
      refine bodyPost_ret (v := .tuple #[.agg #[.slice none 0 0], .bool false]) (by simp [results, Try.results35, go_sem, t1]) rfl ⟨_, by rw [HF.out], by rw [stackL_no HF.out]; exact OwnI.nil _ _ _, HL.out, ?_⟩
      exact HB2.out.setCell (p := ⟨w.heap.size + 1 + 1, 0, none⟩) (by show w.heap.size ≤ w.heap.size + 1 + 1; omega) _
    · have HY := hid hy
      have hy10 := good_length hy
      have q0 := HQ0.out.1
      have q1 := HQ1.out.1
      clear hy
      by_cases hbig : 10 < xs.length + ys.length
      · have HF : Hid (fits xs ys = false) := hid (by simp [fits, hbig])
        have hbI : (10 : Int) < (xs.length : Int) + ys.length := by omega
        clear hbig
        go_wp2
        refine bodyPost_ret (v := .tuple #[.agg #[.slice none 0 0], .bool false]) (by simp [results, Try.results35, go_sem, t1]) rfl ⟨_, by rw [HF.out], by rw [stackL_no HF.out]; exact OwnI.nil _ _ _, HL.out, ?_⟩
        exact HB2.out.setCell (p := ⟨w.heap.size + 1 + 1, 0, none⟩) (by show w.heap.size ≤ w.heap.size + 1 + 1; omega) _
      · have HF : Hid (fits xs ys = true) := hid (by simp [fits, HG.out, HY.out]; omega)
        have hbI : ¬ (10 : Int) < (xs.length : Int) + ys.length := by omega
        have hxy : xs.length + ys.length ≤ 10 := by omega
        clear hbig
        obtain ⟨N, hN⟩ : ∃ N, 2 ^ xs.length = N := ⟨_, rfl⟩
        have hpw := two_pow_le xs.length hg10.2
        have wp : wrap64 ((2 : Int) ^ xs.length) = (N : Int) := by rw [wrap_pow xs.length hg10.2, hN]
        rw [hN] at hpw
        have hN1 : ((N : Int) - 1) = ((N - 1 : Nat) : Int) := by omega
        have HJ := hid (fun W h1 h2 => poJoin_any (.slice A xs.length c) (.slice A2 ys.length c2) xs ys (2 ^ xs.length - 1) W h1 h2 HG.out HY.out hxy (by rw [hN]; omega))
        rw [hN] at HJ
        have hpow : (2 : Int) ^ xs.length = (N : Int) := by rw [← hN]; simp
        have hwk1 : IntKind.i64.wrap ((2 : Int) ^ xs.length) = (N : Int) := by rw [hpow]; exact IntWalk.i64_in _ (by omega)
        have hwk2 : IntKind.i64.wrap ((N : Int) - 1) = ((N - 1 : Nat) : Int) := by rw [← hN1]; exact IntWalk.i64_in _ (by omega)
        have hwk3 : IntKind.i64.wrap ((N - 1 : Nat) : Int) = ((N - 1 : Nat) : Int) := IntWalk.i64_in _ (by omega)
        have HN := hid hN
        clear hN hpow
        go_wp2_with fail
        go_region_with (go_at_call 64; refine (HJ.out _ (HV.out.below HB2.out).drew (HU.out.below HB2.out).drew).mono ?_; rintro e w3 ⟨q, rfl, ho, hb3⟩; have hr := Blk.below (show Blk w2.drew (w.heap.size + 1 + 1) 38 #[.slice none 0 0] from HQ2.out) hb3 HQ2.out.lt; have t3 := hr.cell 0; have t4 := hr.frozen 0; obtain ⟨uA, un, uc, rfl⟩ := ho.shape3; have HO := hid ho; have HB3 := hid (below_to HB2.out.drew hb3); clear hr ho hb3)
        all_goals clear t1 t2 q0 q1 wp hN1 hwk1 hwk2 hwk3
        all_goals go_wp2
        all_goals (refine bodyPost_ret (v := .tuple #[.agg #[.slice uA un uc], .bool true]) (by simp [results, Try.results35, go_sem, t3]) rfl ⟨_, by rw [HF.out], ?_, HL.out, ?_⟩)
        all_goals first
          | exact HB3.out.setCell (p := ⟨w.heap.size + 1 + 1, 0, none⟩) (by show w.heap.size ≤ w.heap.size + 1 + 1; omega) _
          | (rw [stackL_yes HF.out, HN.out]; exact (HO.out.grown (grown_setCell (g := w.heap.size + 1 + 1) (World.grownBy.refl _ _) 0 _) (HO.out.apart (.inl HQ2.out.lt))).mono (Nat.le_of_lt (Nat.lt_trans (by omega : w.heap.size < w.heap.size + 1 + 1) HQ2.out.lt)))
end Go.Proofs.Ytkcjppbplllaiab
