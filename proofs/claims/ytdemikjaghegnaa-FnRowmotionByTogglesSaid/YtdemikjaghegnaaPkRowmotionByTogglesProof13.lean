/- Texts Row2, Row3, Comm, one behind the other. -/
import Derived.Test.YtdemikjaghegnaaPkRowmotionByTogglesProof06
import Derived.Test.YtdemikjaghegnaaPkRowmotionByTogglesProof07
import Derived.Test.YtdemikjaghegnaaPkRowmotionByTogglesProof11
/- Rowmotion, RowmotionBack, RowmotionTimes. -/
namespace Go.Proofs.Ytdemikjaghegnaa
open Go.RowKit Go.WideShapes Go.ChangeShapes
set_option linter.unusedVariables false

/-! ### what is asked of the number of motions -/
def okK (k : Int) : Bool := decide (-1000 ≤ k) && decide (k ≤ 1000)
def okRT (xs : List Int) (s k : Int) : Bool := okIdeal xs s && okK k
def rowKt (xs : List Int) (s : Nat) (k : Int) : Nat := if 0 ≤ k then iter (rowmo xs) k.toNat s else iter (rowba xs) (-k).toNat s
def ansRT (xs : List Int) (s k : Int) : Int := if okRT xs s k then (rowKt xs s.toNat k : Int) else 0
theorem okRT_no1 {xs : List Int} {s k : Int} (h : okIdeal xs s = false) : okRT xs s k = false := by simp [okRT, h]
theorem okRT_no2 {xs : List Int} {s k : Int} (h : okK k = false) : okRT xs s k = false := by simp [okRT, h]
theorem okRT_yes {xs : List Int} {s k : Int} (h : okIdeal xs s = true) (g : okK k = true) : okRT xs s k = true := by simp [okRT, h, g]
theorem ansRT_no {xs : List Int} {s k : Int} (h : okRT xs s k = false) : ansRT xs s k = 0 := by simp [ansRT, h]
theorem ansRT_pos {xs : List Int} {z n : Nat} (h : okRT xs z n = true) : ansRT xs z n = (iter (rowmo xs) n z : Int) := by
  simp [ansRT, h, rowKt]
theorem ansRT_neg {xs : List Int} {z : Nat} {k : Int} {n : Nat} (h : okRT xs z k = true) (hk : k < 0) (hn : -k = n) : ansRT xs z k = (iter (rowba xs) n z : Int) := by
  have h2 : ¬ 0 ≤ k := by omega
  simp [ansRT, h, rowKt, h2, hn]
theorem okK_no {k : Int} (h : ¬ (-1000 ≤ k ∧ k ≤ 1000)) : okK k = false := by
  rw [Bool.eq_false_iff]; simp only [okK, ne_eq, Bool.and_eq_true, decide_eq_true_eq]; exact h
theorem okK_yes {k : Int} (h : -1000 ≤ k ∧ k ≤ 1000) : okK k = true := by
  simp only [okK, Bool.and_eq_true, decide_eq_true_eq]; exact h
theorem okK_of {k : Int} (h : okK k = true) : -1000 ≤ k ∧ k ≤ 1000 := by simpa [okK] using h
set_option maxHeartbeats 800000 in
theorem implRowmotionTimes_any (v : Value) (xs : List Int) (s k : Int) (w : World) (hv : Ints w v xs) (hl : xs.length ≤ 1048576) (wf : (Lit.int .i64 s).wf = true) (wfk : (Lit.int .i64 k).wf = true) :
    Calls Try.prog 19 #[.agg #[v], .int .i64 s, .int .i64 k] w fun r w' => r = .returned (.tuple #[.int .i64 (ansRT xs s k), .bool (okRT xs s k)]) ∧ Below w.heap.size w w' := by
  have HV := hid hv
  clear hv wf wfk
  go_enter Try.func19, Try.ntmps19
  have HB := hid (below_alloc (Below.refl _ w) (.cells #[v] 26))
  have A0 := hid (At.newAt w v 26 w.heap.size (by simp))
  go_wp2_with fail
  refine (hasIdeal_any _ xs s _ (HV.out.below HB.out) hl).mono ?_
  rintro e w' ⟨rfl, hb⟩
  replace HB := hid (below_to HB.out hb)
  replace A0 := hid (A0.out.below hb)
  clear hb
  cases hq : okIdeal xs s
  · have HO := hid (okRT_no1 (k := k) hq)
    clear hq
    have ebox0 := A0.out.1
    go_wp2
    go_ret2
    exact ⟨ret_ib (ansRT_no HO.out).symm HO.out.symm, HB.out⟩
  · have HQ := hid hq
    clear hq
    obtain ⟨z, rfl, h3, h4, h5⟩ := okIdeal_all HQ.out
    have HG := hid h3
    have HN := hid h4
    clear h3 h4 h5
    by_cases h1 : k < -1000
    · have HO := hid (okRT_no2 (xs := xs) (s := z) (okK_no (show ¬ (-1000 ≤ k ∧ k ≤ 1000) by omega)))
      have ebox0 := A0.out.1
      go_wp2
      go_ret2
      exact ⟨ret_ib (ansRT_no HO.out).symm HO.out.symm, HB.out⟩
    · by_cases h2 : 1000 < k
      · have HO := hid (okRT_no2 (xs := xs) (s := z) (okK_no (show ¬ (-1000 ≤ k ∧ k ≤ 1000) by omega)))
        have ebox0 := A0.out.1
        go_wp2
        go_ret2
        exact ⟨ret_ib (ansRT_no HO.out).symm HO.out.symm, HB.out⟩
      · have HO := hid (okRT_yes HQ.out (okK_yes (show -1000 ≤ k ∧ k ≤ 1000 by omega)))
        by_cases h3 : k < 0
        · obtain ⟨n, hn⟩ := Int.eq_ofNat_of_zero_le (show 0 ≤ -k by omega)
          have HA := hid (ansRT_neg HO.out h3 hn)
          have hn1 : n ≤ 1000 := by omega
          have hw : IntKind.i64.wrap (-k) = (n : Int) := by rw [IntWalk.i64_in _ (by omega)]; exact hn
          have hneg : k = -(n : Int) := by omega
          clear hn
          subst hneg
          have hnn : - -(n : Int) = (n : Int) := by omega
          rw [hnn] at hw
          have ebox0 := A0.out.1
          go_wp2
          have hbx0 := A0.out.1
          go_region_with (first | (go_at_call 54; refine (undoneRow_any _).mono ?_; rintro e w1 ⟨rfl, hb1⟩; have H1 := hid (below_to HB.out.drew hb1); have hbx := (A0.out.drew.below hb1).1; clear hb1) | (go_at_call 68; refine (repeatedBack_any _ xs z n _ (HV.out.below H1.out) HG.out HN.out hn1).mono ?_; rintro e w2 ⟨rfl, hb2⟩; have H2 := hid (below_to H1.out hb2); clear hb2))
          all_goals go_wp2
          all_goals go_ret2
          all_goals exact ⟨ret_ib HA.out.symm HO.out.symm, H2.out⟩
        · obtain ⟨n, rfl⟩ := Int.eq_ofNat_of_zero_le (show 0 ≤ k by omega)
          have HA := hid (ansRT_pos HO.out)
          have ebox0 := A0.out.1
          go_wp2_with fail
          clear ebox0
          refine (repeatedRow_any _ xs z n _ (HV.out.below HB.out) HG.out HN.out (by omega)).mono ?_
          rintro e w' ⟨rfl, hb⟩
          replace HB := hid (below_to HB.out hb)
          replace A0 := hid (A0.out.below hb)
          clear hb
          have ebox0 := A0.out.1
          go_wp2
          go_ret2
          exact ⟨ret_ib HA.out.symm HO.out.symm, HB.out⟩

/-! ### one motion -/
def ansRow (xs : List Int) (s : Int) (f : List Int → Nat → Nat) : Int := if okIdeal xs s then (f xs s.toNat : Int) else 0
theorem ansRow_no {xs : List Int} {s : Int} {f : List Int → Nat → Nat} (h : okIdeal xs s = false) : ansRow xs s f = 0 := by simp [ansRow, h]
theorem ansRow_yes {xs : List Int} {z : Nat} {f : List Int → Nat → Nat} (h : okIdeal xs z = true) : ansRow xs z f = (f xs z : Int) := by simp [ansRow, h]
theorem ansRT_one (xs : List Int) (s : Int) : ansRT xs s 1 = ansRow xs s rowmo ∧ okRT xs s 1 = okIdeal xs s := by
  have : okRT xs s 1 = okIdeal xs s := by simp [okRT, okK]
  refine ⟨?_, this⟩
  unfold ansRT ansRow
  rw [this]
  rfl
theorem ansRT_mone (xs : List Int) (s : Int) : ansRT xs s (-1) = ansRow xs s rowba ∧ okRT xs s (-1) = okIdeal xs s := by
  have : okRT xs s (-1) = okIdeal xs s := by simp [okRT, okK]
  refine ⟨?_, this⟩
  unfold ansRT ansRow
  rw [this]
  rfl
theorem implRowmotion_any (v : Value) (xs : List Int) (s : Int) (w : World) (hv : Ints w v xs) (hl : xs.length ≤ 1048576) (wf : (Lit.int .i64 s).wf = true) :
    Calls Try.prog 9 #[.agg #[v], .int .i64 s] w fun r w' => r = .returned (.tuple #[.int .i64 (ansRow xs s rowmo), .bool (okIdeal xs s)]) ∧ Below w.heap.size w w' := by
  have HV := hid hv
  have WF := hid wf
  have H1 := hid (ansRT_one xs s)
  clear hv wf
  go_enter Try.func9, Try.ntmps9
  have HB := hid (below_alloc (Below.refl _ w) (.cells #[v] 26))
  have A0 := hid (At.newAt w v 26 w.heap.size (by simp))
  go_wp2_with fail
  refine (implRowmotionTimes_any _ xs s 1 _ (HV.out.below HB.out) hl WF.out (by decide)).mono ?_
  rintro e w' ⟨rfl, hb⟩
  replace HB := hid (below_to HB.out hb)
  replace A0 := hid (A0.out.below hb)
  clear hb
  have ebox0 := A0.out.1
  go_wp2
  go_ret2
  exact ⟨ret_ib H1.out.1 H1.out.2, HB.out⟩
theorem implRowmotionBack_any (v : Value) (xs : List Int) (s : Int) (w : World) (hv : Ints w v xs) (hl : xs.length ≤ 1048576) (wf : (Lit.int .i64 s).wf = true) :
    Calls Try.prog 12 #[.agg #[v], .int .i64 s] w fun r w' => r = .returned (.tuple #[.int .i64 (ansRow xs s rowba), .bool (okIdeal xs s)]) ∧ Below w.heap.size w w' := by
  have HV := hid hv
  have WF := hid wf
  have H1 := hid (ansRT_mone xs s)
  clear hv wf
  go_enter Try.func12, Try.ntmps12
  have HB := hid (below_alloc (Below.refl _ w) (.cells #[v] 26))
  have A0 := hid (At.newAt w v 26 w.heap.size (by simp))
  go_wp2_with fail
  refine (implRowmotionTimes_any _ xs s (-1) _ (HV.out.below HB.out) hl WF.out (by decide)).mono ?_
  rintro e w' ⟨rfl, hb⟩
  replace HB := hid (below_to HB.out hb)
  replace A0 := hid (A0.out.below hb)
  clear hb
  have ebox0 := A0.out.1
  go_wp2
  go_ret2
  exact ⟨ret_ib H1.out.1 H1.out.2, HB.out⟩
theorem specRowmotion_any (v : Value) (xs : List Int) (s : Int) (w : World) (hv : Ints w v xs) (hl : xs.length ≤ 1048576) (wf : (Lit.int .i64 s).wf = true) :
    Calls Try.prog 11 #[.agg #[v], .int .i64 s] w fun r w' => r = .returned (.tuple #[.int .i64 (ansRow xs s rowmo), .bool (okIdeal xs s)]) ∧ Below w.heap.size w w' := by
  have HV := hid hv
  clear hv wf
  go_enter Try.func11, Try.ntmps11
  have HB := hid (below_alloc (Below.refl _ w) (.cells #[v] 26))
  have A0 := hid (At.newAt w v 26 w.heap.size (by simp))
  go_wp2_with fail
  refine (tgIn_any _ xs s _ (HV.out.below HB.out) hl).mono ?_
  rintro e w' ⟨rfl, hb⟩
  replace HB := hid (below_to HB.out hb)
  replace A0 := hid (A0.out.below hb)
  clear hb
  cases hq : okIdeal xs s
  · have HQ := hid hq
    clear hq
    have ebox0 := A0.out.1
    go_wp2
    go_ret2
    exact ⟨ret_ib (ansRow_no HQ.out).symm HQ.out.symm, HB.out⟩
  · have HQ := hid hq
    clear hq
    obtain ⟨z, rfl, h3, h4, h5⟩ := okIdeal_all HQ.out
    have HG := hid h3
    have HN := hid h4
    clear h3 h4 h5
    have ebox0 := A0.out.1
    go_wp2_with fail
    clear ebox0
    refine (tgRow_any _ xs z _ (HV.out.below HB.out) HG.out HN.out).mono ?_
    rintro e w' ⟨rfl, hb⟩
    replace HB := hid (below_to HB.out hb)
    replace A0 := hid (A0.out.below hb)
    clear hb
    have ebox0 := A0.out.1
    go_wp2
    go_ret2
    exact ⟨ret_ib (ansRow_yes HQ.out).symm HQ.out.symm, HB.out⟩
theorem tgBack_any (v : Value) (xs : List Int) (s : Nat) (w : World) (hv : Ints w v xs) (hg : good xs = true) (hs : s < 2 ^ xs.length) :
    Calls Try.prog 59 #[.agg #[v], .int .i64 s] w fun r w' => r = .returned (.int .i64 (rowba xs s : Nat)) ∧ Below w.heap.size w w' := by
  have hl10 := (good_length hg).2
  have hs10 := lt1024 hs hl10
  have HG := hid hg
  have HS := hid (good_small hg s)
  have HV := hid hv
  obtain ⟨A, c, rfl, hA⟩ := hv
  have HA := hid hA
  have hT10 : top xs s < 1024 := Nat.lt_of_le_of_lt (sub_le _ _) hs10
  clear hA hg hs
  go_enter Try.func59, Try.ntmps59
  have HB := hid (below_alloc (Below.refl _ w) (.cells #[(.slice A xs.length c)] 26))
  have A0 := hid (At.newAt w (.slice A xs.length c) 26 w.heap.size (by simp))
  go_wp2_with fail
  refine (poTop_any _ xs s _ (HV.out.below HB.out) hl10 hs10 HS.out).mono ?_
  rintro e w' ⟨rfl, hb⟩
  replace HB := hid (below_to HB.out hb)
  replace A0 := hid (A0.out.below hb)
  clear hb
  have hbox := A0.out.1
  obtain ⟨T, hT⟩ : ∃ T, top xs s = T := ⟨_, rfl⟩
  rw [hT] at hT10 ⊢
  have HTop := hid hT
  clear hT
  go_wp2
  go_loop [6, 15] (fun q i => ∃ k t : Nat, k ≤ xs.length ∧ i = .int .i64 k ∧ q = .int .i64 t ∧ Hid (orN (backP xs T) (fun e => 2 ^ e) k = t)) (fun _ i => xs.length - (intOf i).toNat)
  case atStart => exact ⟨0, 0, Nat.zero_le _, rfl, rfl, hid rfl⟩
  case round =>
    obtain ⟨k, t, hk, rfl, rfl, HT⟩ := hrel
    by_cases hlt : k < xs.length
    · obtain ⟨b, o, rfl, hb, hc⟩ := HA.out (by intro h; simp [h] at hlt)
      have hcell : w'.cell? ⟨b, o + k, none⟩ = some (.int .i64 (xs.getD k 0)) := (HB.out.cell (p := ⟨b, o + k, none⟩) hb).trans (hc k hlt)
      have hr := row_lt HG.out hlt
      have hr10 := row_lt10 HG.out hlt
      obtain ⟨z, hz⟩ : ∃ z, row xs k = z := ⟨_, rfl⟩
      rw [hz] at hr hr10
      rw [hr.1] at hcell
      have HZ := hid hz
      clear hc hr hz
      cases hbit : T.testBit k
      · have HBit := hid hbit
        have han := i64_and_nat z T (by omega) (by omega)
        clear hbit
        by_cases h0 : z &&& T = 0
        · have h0' : (((z &&& T : Nat) : Int) == 0) = true := by rw [h0]; rfl
          have HP : Hid (backP xs T k = true) := hid (by simp [backP, HBit.out, HZ.out, h0])
          have ht10 := lt1024 (Nat.lt_of_le_of_lt (Nat.le_of_eq HT.out.symm) (rowbaN_lt xs T hk)) hl10
          have HN : Hid (orN (backP xs T) (fun e => 2 ^ e) (k + 1) = t ||| 2 ^ k) := hid (by rw [orN_yes HP.out, HT.out])
          have wp := wrap_pow' k (by omega)
          have hor := or_pow t k ht10 (by omega)
          clear h0
          go_wp2_with (go_at_call 96; refine (poIn_any T k (by omega) _).mono ?_; rw [HBit.out]; rintro e w' ⟨rfl, rfl⟩)
          go_round
          case rel => exact ⟨k + 1, _, by omega, by go_num, rfl, hid (by rw [HN.out])⟩
          case measure => simp [intOf]; omega
        · have h0' : (((z &&& T : Nat) : Int) == 0) = false := by rw [beq_eq_false_iff_ne]; omega
          have HP : Hid (backP xs T k = false) := hid (by simp [backP, HBit.out, HZ.out, h0])
          clear h0
          go_wp2_with (go_at_call 96; refine (poIn_any T k (by omega) _).mono ?_; rw [HBit.out]; rintro e w' ⟨rfl, rfl⟩)
          go_round
          case rel => exact ⟨k + 1, t, by omega, by go_num, rfl, hid (by rw [orN_no HP.out, HT.out])⟩
          case measure => simp [intOf]; omega
      · have HBit := hid hbit
        have HP : Hid (backP xs T k = false) := hid (by simp [backP, hbit])
        clear hbit
        go_wp2_with (go_at_call 96; refine (poIn_any T k (by omega) _).mono ?_; rw [HBit.out]; rintro e w' ⟨rfl, rfl⟩)
        go_round
        case rel => exact ⟨k + 1, t, by omega, by go_num, rfl, hid (by rw [orN_no HP.out, HT.out])⟩
        case measure => simp [intOf]; omega
    · obtain rfl : k = xs.length := by omega
      go_wp2
      go_ret
      exact ⟨ret_int (by rw [← HT.out, ← HTop.out]; rfl), HB.out⟩
theorem specRowmotionBack_any (v : Value) (xs : List Int) (s : Int) (w : World) (hv : Ints w v xs) (hl : xs.length ≤ 1048576) (wf : (Lit.int .i64 s).wf = true) :
    Calls Try.prog 13 #[.agg #[v], .int .i64 s] w fun r w' => r = .returned (.tuple #[.int .i64 (ansRow xs s rowba), .bool (okIdeal xs s)]) ∧ Below w.heap.size w w' := by
  have HV := hid hv
  clear hv wf
  go_enter Try.func13, Try.ntmps13
  have HB := hid (below_alloc (Below.refl _ w) (.cells #[v] 26))
  have A0 := hid (At.newAt w v 26 w.heap.size (by simp))
  go_wp2_with fail
  refine (tgIn_any _ xs s _ (HV.out.below HB.out) hl).mono ?_
  rintro e w' ⟨rfl, hb⟩
  replace HB := hid (below_to HB.out hb)
  replace A0 := hid (A0.out.below hb)
  clear hb
  cases hq : okIdeal xs s
  · have HQ := hid hq
    clear hq
    have ebox0 := A0.out.1
    go_wp2
    go_ret2
    exact ⟨ret_ib (ansRow_no HQ.out).symm HQ.out.symm, HB.out⟩
  · have HQ := hid hq
    clear hq
    obtain ⟨z, rfl, h3, h4, h5⟩ := okIdeal_all HQ.out
    have HG := hid h3
    have HN := hid h4
    clear h3 h4 h5
    have ebox0 := A0.out.1
    go_wp2_with fail
    clear ebox0
    refine (tgBack_any _ xs z _ (HV.out.below HB.out) HG.out HN.out).mono ?_
    rintro e w' ⟨rfl, hb⟩
    replace HB := hid (below_to HB.out hb)
    replace A0 := hid (A0.out.below hb)
    clear hb
    have ebox0 := A0.out.1
    go_wp2
    go_ret2
    exact ⟨ret_ib (ansRow_yes HQ.out).symm HQ.out.symm, HB.out⟩
end Go.Proofs.Ytdemikjaghegnaa

/- RowmotionTimes of the model; RowByToggles. -/
namespace Go.Proofs.Ytdemikjaghegnaa
open Go.RowKit Go.WideShapes Go.ChangeShapes
set_option linter.unusedVariables false

theorem iter_comm (f : Nat → Nat) (k s : Nat) : iter f k (f s) = f (iter f k s) := by
  induction k with
  | zero => rfl
  | succ k ih => simp only [iter, ih]
set_option maxHeartbeats 1600000 in
theorem specRowmotionTimes_any (v : Value) (xs : List Int) (s k : Int) (w : World) (hv : Ints w v xs) (hl : xs.length ≤ 1048576) (wf : (Lit.int .i64 s).wf = true) (wfk : (Lit.int .i64 k).wf = true) :
    Calls Try.prog 20 #[.agg #[v], .int .i64 s, .int .i64 k] w fun r w' => r = .returned (.tuple #[.int .i64 (ansRT xs s k), .bool (okRT xs s k)]) ∧ Below w.heap.size w w' := by
  have HV := hid hv
  clear hv wf wfk
  go_enter Try.func20, Try.ntmps20
  have HB := hid (below_alloc (Below.refl _ w) (.cells #[v] 26))
  have A0 := hid (At.newAt w v 26 w.heap.size (by simp))
  go_wp2_with fail
  refine (tgIn_any _ xs s _ (HV.out.below HB.out) hl).mono ?_
  rintro e w' ⟨rfl, hb⟩
  replace HB := hid (below_to HB.out hb)
  replace A0 := hid (A0.out.below hb)
  clear hb
  cases hq : okIdeal xs s
  · have HO := hid (okRT_no1 (k := k) hq)
    clear hq
    have ebox0 := A0.out.1
    go_wp2
    go_ret2
    exact ⟨ret_ib (ansRT_no HO.out).symm HO.out.symm, HB.out⟩
  · have HQ := hid hq
    clear hq
    obtain ⟨z, rfl, h3, h4, h5⟩ := okIdeal_all HQ.out
    have HG := hid h3
    have HN := hid h4
    clear h3 h4 h5
    have ebox0 := A0.out.1
    cases hk : okK k
    · have HO := hid (okRT_no2 (xs := xs) (s := z) hk)
      have HK : Hid ((decide (-1000 ≤ k) && decide (k ≤ 1000)) = false) := hid hk
      clear hk
      go_wp2_with (go_at_call 69; refine (l1In_any _ _ _ _).mono ?_; rw [HK.out]; rintro e w' ⟨rfl, rfl⟩)
      go_ret2
      exact ⟨ret_ib (ansRT_no HO.out).symm HO.out.symm, HB.out⟩
    · have HO := hid (okRT_yes HQ.out hk)
      have HK : Hid ((decide (-1000 ≤ k) && decide (k ≤ 1000)) = true) := hid hk
      have hkk := okK_of hk
      clear hk
      go_wp2_with (go_at_call 69; refine (l1In_any _ _ _ _).mono ?_; rw [HK.out]; rintro e w' ⟨rfl, rfl⟩)
      clear ebox0
      by_cases h0 : 0 ≤ k
      · obtain ⟨n, rfl⟩ := Int.eq_ofNat_of_zero_le h0
        have HAns := hid (ansRT_pos HO.out)
        have HL := hid (fun k => iter_lt (f := rowmo xs) (m := 2 ^ xs.length) (fun s _ => rowmo_lt HG.out s) HN.out k)
        have hn : n ≤ 1000 := by omega
        clear hkk h0
        go_loopw [1, 2] (fun q i wr => ∃ j t : Nat, j ≤ n ∧ i = .int .i64 ((n - j : Nat) : Int) ∧ q = .int .i64 t ∧ Hid (iter (rowmo xs) j z = t) ∧ Below w.heap.size w wr ∧ At wr w.heap.size v) (fun _ i _ => (intOf i).toNat)
        case atStart => exact ⟨0, z, Nat.zero_le _, rfl, rfl, hid rfl, HB.out, A0.out⟩
        case round =>
          obtain ⟨j, t, hj, rfl, rfl, HT, hb, ha⟩ := hrel
          have hbox := ha.1
          have HB1 := hid hb
          have HA1 := hid ha
          clear hb ha
          obtain ⟨m, hm⟩ : ∃ m, n - j = m := ⟨_, rfl⟩
          rw [hm]
          by_cases hlt : 0 < m
          · have ht : t < 2 ^ xs.length := by rw [← HT.out]; exact HL.out j
            have HT2 := hid ht
            have hj2 : j + 1 ≤ n := by omega
            have HM : Hid (n - (j + 1) = m - 1) := hid (by omega)
            have hm1 : m ≤ 1000 := by omega
            clear ht hm
            go_wp2_with fail
            clear hbox
            refine (tgRow_any _ xs t _ (HV.out.below HB1.out) HG.out HT2.out).mono ?_
            rintro e' w' ⟨rfl, hb⟩
            have HB2 := hid (below_to HB1.out hb)
            have HA2 := hid (HA1.out.below hb)
            clear hb
            go_wp2
            go_roundw
            case rel => exact ⟨j + 1, _, by omega, (by rw [HM.out]; congr 1; omega), rfl, hid (by rw [iter, HT.out]), HB2.out, HA2.out⟩
            case measure => simp [intOf]; omega
          · obtain rfl : m = 0 := by omega
            have hjn : j = n := by omega
            subst hjn
            clear hm hlt
            go_wp2
            go_loopw [1, 2] (fun q i wr => i = .int .i64 0 ∧ q = .int .i64 t ∧ Below w.heap.size w wr) (fun _ _ _ => 0)
            case atStart => exact ⟨rfl, rfl, HB1.out⟩
            case round =>
              obtain ⟨rfl, rfl, hb⟩ := hrel
              have HB3 := hid hb
              clear hb
              go_wp2
              go_ret2
              exact ⟨ret_ib (by rw [HAns.out, ← HT.out]) HO.out.symm, HB3.out⟩
      · obtain ⟨n, hn⟩ := Int.eq_ofNat_of_zero_le (show 0 ≤ -k by omega)
        have HAns := hid (ansRT_neg HO.out (by omega) hn)
        have HL := hid (fun k => iter_lt (f := rowba xs) (m := 2 ^ xs.length) (fun s _ => rowba_lt xs s) HN.out k)
        have hneg : k = -(n : Int) := by omega
        have hn2 : n ≤ 1000 := by omega
        clear hn
        subst hneg
        clear hkk
        go_loopw [1, 2] (fun q i wr => i = .int .i64 (-(n : Int)) ∧ q = .int .i64 z ∧ Below w.heap.size w wr ∧ At wr w.heap.size v) (fun _ _ _ => 0)
        case atStart => exact ⟨rfl, rfl, HB.out, A0.out⟩
        case round =>
          obtain ⟨rfl, rfl, hb, ha⟩ := hrel
          have HB1 := hid hb
          have HA1 := hid ha
          clear hb ha
          have h0' : ¬ (0 : Int) < -(n : Int) := by omega
          go_wp2
          go_loopw [1, 2] (fun q i wr => ∃ (j t : Nat) (x : Int), j ≤ n ∧ i = .int .i64 x ∧ x + n = j ∧ q = .int .i64 t ∧ Hid (iter (rowba xs) j z = t) ∧ Below w.heap.size w wr ∧ At wr w.heap.size v) (fun _ i _ => (-(intOf i)).toNat)
          case atStart => exact ⟨0, z, _, Nat.zero_le _, rfl, by omega, rfl, hid rfl, HB1.out, HA1.out⟩
          case round =>
            obtain ⟨j, t, x, hj, rfl, hx, rfl, HT, hb, ha⟩ := hrel
            have hbox := ha.1
            have HB1 := hid hb
            have HA1 := hid ha
            have HX := hid hx
            clear hb ha
            by_cases hlt : x < 0
            · have ht : t < 2 ^ xs.length := by rw [← HT.out]; exact HL.out j
              have HT2 := hid ht
              have hxl : -1000 ≤ x := by omega
              clear ht hx
              go_wp2_with fail
              clear hbox
              refine (tgBack_any _ xs t _ (HV.out.below HB1.out) HG.out HT2.out).mono ?_
              rintro e' w' ⟨rfl, hb⟩
              have HB2 := hid (below_to HB1.out hb)
              have HA2 := hid (HA1.out.below hb)
              clear hb
              go_wp2
              go_roundw
              case rel => exact ⟨j + 1, _, x + 1, by have := HX.out; omega, rfl, by have := HX.out; omega, rfl, hid (by rw [iter, HT.out]), HB2.out, HA2.out⟩
              case measure => simp [intOf]; omega
            · have hjn : j = n := by omega
              subst hjn
              clear hx
              go_wp2
              go_ret2
              exact ⟨ret_ib (by rw [HAns.out, ← HT.out]) HO.out.symm, HB1.out⟩

/-! ### RowByToggles -/
def okRB (xs ys : List Int) (s : Int) : Bool := okIdeal xs s && orderB xs ys
def ansRB (xs ys : List Int) (s : Int) : Int := if okRB xs ys s then (togW xs s.toNat ys.reverse : Int) else 0
theorem okRB_no1 {xs ys : List Int} {s : Int} (h : okIdeal xs s = false) : okRB xs ys s = false := by simp [okRB, h]
theorem okRB_no2 {xs ys : List Int} {s : Int} (h : orderB xs ys = false) : okRB xs ys s = false := by simp [okRB, h]
theorem okRB_yes {xs ys : List Int} {s : Int} (h : okIdeal xs s = true) (k : orderB xs ys = true) : okRB xs ys s = true := by simp [okRB, h, k]
theorem ansRB_no {xs ys : List Int} {s : Int} (h : okRB xs ys s = false) : ansRB xs ys s = 0 := by simp [ansRB, h]
theorem ansRB_yes {xs ys : List Int} {z : Nat} (h : okRB xs ys z = true) : ansRB xs ys z = (togW xs z ys.reverse : Int) := by simp [ansRB, h]
theorem inW_reverse {n : Nat} {ys : List Int} (h : inW n ys = true) : inW n ys.reverse = true :=
  List.all_eq_true.2 fun y hy => List.all_eq_true.1 h y (List.mem_reverse.1 hy)
theorem reverse_getD (ys : List Int) (j : Nat) (hj : j < ys.length) : ys.reverse.getD j 0 = ys.getD (ys.length - 1 - j) 0 := by
  rw [List.getD_eq_getElem?_getD, List.getElem?_reverse hj, List.getD_eq_getElem?_getD]
set_option maxHeartbeats 1600000 in
theorem specRowByToggles_any (v : Value) (xs : List Int) (s : Int) (u : Value) (ys : List Int) (w : World) (hv : Ints w v xs) (hl : xs.length ≤ 1048576) (wf : (Lit.int .i64 s).wf = true) (hu : Ints w u ys) (hm : ys.length ≤ 1048576) :
    Calls Try.prog 8 #[.agg #[v], .int .i64 s, u] w fun r w' => r = .returned (.tuple #[.int .i64 (ansRB xs ys s), .bool (okRB xs ys s)]) ∧ Below w.heap.size w w' := by
  have HV := hid hv
  have HU := hid hu
  obtain ⟨A2, c2, rfl, hA2⟩ := hu
  have HA2 := hid hA2
  clear hv hA2 wf
  go_enter Try.func8, Try.ntmps8
  have HB := hid (below_alloc (Below.refl _ w) (.cells #[v] 26))
  have A0 := hid (At.newAt w v 26 w.heap.size (by simp))
  go_wp2_with fail
  refine (tgIn_any _ xs s _ (HV.out.below HB.out) hl).mono ?_
  rintro e w' ⟨rfl, hb⟩
  replace HB := hid (below_to HB.out hb)
  replace A0 := hid (A0.out.below hb)
  clear hb
  cases hq : okIdeal xs s
  · have HO := hid (okRB_no1 (ys := ys) hq)
    clear hq
    have ebox0 := A0.out.1
    go_wp2
    go_ret2
    exact ⟨ret_ib (ansRB_no HO.out).symm HO.out.symm, HB.out⟩
  · have HQ := hid hq
    clear hq
    obtain ⟨z, rfl, h3, h4, h5⟩ := okIdeal_all HQ.out
    have HG := hid h3
    have HN := hid h4
    clear h3 h4 h5
    have ebox0 := A0.out.1
    go_wp2_with fail
    clear ebox0
    refine (tgOrder_any _ _ xs ys _ (HV.out.below HB.out) (HU.out.below HB.out) HG.out hm).mono ?_
    rintro e w' ⟨rfl, hb⟩
    replace HB := hid (below_to HB.out hb)
    replace A0 := hid (A0.out.below hb)
    clear hb
    cases hk : orderB xs ys
    · have HO := hid (okRB_no2 (s := z) hk)
      clear hk
      have ebox0 := A0.out.1
      go_wp2
      go_ret2
      exact ⟨ret_ib (ansRB_no HO.out).symm HO.out.symm, HB.out⟩
    · have HO := hid (okRB_yes HQ.out hk)
      have HAns := hid (ansRB_yes HO.out)
      have HW := hid (orderB_word hk)
      clear hk
      have ebox0 := A0.out.1
      go_wp2
      go_loopw [1, 8] (fun q i wr => ∃ (j t : Nat) (x : Int), j ≤ ys.length ∧ i = .int .i64 x ∧ Hid (x + 1 + j = ys.length) ∧ q = .int .i64 t ∧ Hid (togW xs z (ys.reverse.take j) = t) ∧ Below w.heap.size w wr ∧ At wr w.heap.size v) (fun _ i _ => (intOf i + 1).toNat)
      case atStart => exact ⟨0, z, _, Nat.zero_le _, rfl, hid (by omega), rfl, hid rfl, HB.out, A0.out⟩
      case round =>
        obtain ⟨j, t, x, hj, rfl, HX, rfl, HT, hb, ha⟩ := hrel
        by_cases hlt : 0 ≤ x
        · obtain ⟨m, rfl⟩ := Int.eq_ofNat_of_zero_le hlt
          have hml : m < ys.length := by have := HX.out; omega
          obtain ⟨b, o, rfl, hbl, hc⟩ := HA2.out (by intro h; simp [h] at hml)
          have hcell : wr.cell? ⟨b, o + m, none⟩ = some (.int .i64 (ys.getD m 0)) := (hb.cell (p := ⟨b, o + m, none⟩) hbl).trans (hc m hml)
          have hin := inW_at HW.out.2 hml
          have hjl : j < ys.length := by have := HX.out; omega
          have HK := hid (togW_take xs z ys.reverse j (by rw [List.length_reverse]; exact hjl))
          have HR := hid (reverse_getD ys j hjl)
          have hjm : ys.length - 1 - j = m := by have := HX.out; omega
          have hl2 : togW xs z (ys.reverse.take j) < 2 ^ xs.length := togW_lt HN.out (inW_take j (inW_reverse HW.out.2))
          obtain ⟨y, hy⟩ : ∃ y, ys.getD m 0 = y := ⟨_, rfl⟩
          rw [hy] at hcell hin
          obtain ⟨e, rfl⟩ := Int.eq_ofNat_of_zero_le hin.1
          have HL := hid (show t < 2 ^ xs.length by rw [← HT.out]; exact hl2)
          have HY : Hid (ys.reverse.getD j 0 = (e : Int)) := hid (by rw [HR.out, hjm, hy])
          have HB1 := hid hb
          have HA1 := hid ha
          have he : e < xs.length := by omega
          have hbox := ha.1
          have hj2 : j + 1 ≤ ys.length := hjl
          clear hc hl2 hy hb ha hjm
          go_wp2_with fail
          go_region_with (go_at_call 57; refine (tgAt_any _ xs t e _ (HV.out.below HB1.out).drew HG.out HL.out he).mono ?_; rintro e' w' ⟨rfl, hb⟩; have HB2 := hid (below_to HB1.out.drew hb); have HA2 := hid (HA1.out.drew.below hb); clear hb)
          all_goals go_wp2
          all_goals go_roundw
          all_goals first | (show (_ : Nat) < _; simp [intOf]; done) | exact ⟨j + 1, _, (m : Int) - 1, hj2, rfl, hid (by have := HX.out; omega), rfl, hid (by rw [HK.out, HY.out, HT.out]; rfl), HB2.out, HA2.out⟩ | (simp [intOf]; omega)
        · have hjl : j = ys.length := by have := HX.out; omega
          subst hjl
          have HB1 := hid hb
          clear hb ha
          go_wp2
          go_ret2
          exact ⟨ret_ib (by rw [HAns.out, ← HT.out, ← List.length_reverse, List.take_length]) HO.out.symm, HB1.out⟩
set_option maxHeartbeats 1600000 in
theorem implRowByToggles_any (v : Value) (xs : List Int) (s : Int) (u : Value) (ys : List Int) (w : World) (hv : Ints w v xs) (hl : xs.length ≤ 1048576) (wf : (Lit.int .i64 s).wf = true) (hu : Ints w u ys) (hm : ys.length ≤ 1048576) :
    Calls Try.prog 7 #[.agg #[v], .int .i64 s, u] w fun r w' => r = .returned (.tuple #[.int .i64 (ansRB xs ys s), .bool (okRB xs ys s)]) ∧ Below w.heap.size w w' := by
  have HV := hid hv
  have HU := hid hu
  clear hv hu wf
  go_enter Try.func7, Try.ntmps7
  have HB := hid (below_alloc (Below.refl _ w) (.cells #[v] 26))
  have A0 := hid (At.newAt w v 26 w.heap.size (by simp))
  go_wp2_with fail
  refine (hasIdeal_any _ xs s _ (HV.out.below HB.out) hl).mono ?_
  rintro e w' ⟨rfl, hb⟩
  replace HB := hid (below_to HB.out hb)
  replace A0 := hid (A0.out.below hb)
  clear hb
  cases hq : okIdeal xs s
  · have HO := hid (okRB_no1 (ys := ys) hq)
    clear hq
    have ebox0 := A0.out.1
    go_wp2
    go_ret2
    exact ⟨ret_ib (ansRB_no HO.out).symm HO.out.symm, HB.out⟩
  · have HQ := hid hq
    clear hq
    obtain ⟨z, rfl, h3, h4, h5⟩ := okIdeal_all HQ.out
    have HG := hid h3
    have HN := hid h4
    clear h3 h4 h5
    have ebox0 := A0.out.1
    go_wp2_with fail
    clear ebox0
    refine (hasOrder_any _ _ xs ys _ (HV.out.below HB.out) (HU.out.below HB.out) HG.out hm).mono ?_
    rintro e w' ⟨rfl, hb⟩
    replace HB := hid (below_to HB.out hb)
    replace A0 := hid (A0.out.below hb)
    clear hb
    cases hk : orderB xs ys
    · have HO := hid (okRB_no2 (s := z) hk)
      clear hk
      have ebox0 := A0.out.1
      go_wp2
      go_ret2
      exact ⟨ret_ib (ansRB_no HO.out).symm HO.out.symm, HB.out⟩
    · have HO := hid (okRB_yes HQ.out hk)
      have HAns := hid (ansRB_yes HO.out)
      have HW := hid (inW_reverse (orderB_word hk).2)
      have hrl : ys.reverse.length ≤ 1048576 := by rw [List.length_reverse]; exact hm
      clear hk
      have ebox0 := A0.out.1
      go_wp2
      have hbx0 := A0.out.1
      go_region_with (first | (go_at_call 54; refine (undoneWord_any _ ys _ (HU.out.below HB.out).drew hm).mono ?_; rintro e w1 ⟨u1, rfl, hu1, hb1⟩; have H1 := hid (below_to HB.out.drew hb1); have HU1 := hid hu1; have hbx := (A0.out.drew.below hb1).1; clear hb1 hu1) | (go_at_call 83; refine (step_any _ _ xs ys.reverse z _ (HV.out.below H1.out) HU1.out HG.out HN.out HW.out hrl).mono ?_; rintro e w2 ⟨rfl, hb2⟩; have H2 := hid (below_to H1.out hb2); clear hb2))
      all_goals go_wp2
      all_goals go_ret2
      all_goals exact ⟨ret_ib HAns.out.symm HO.out.symm, H2.out⟩
end Go.Proofs.Ytdemikjaghegnaa

/- When two toggles commute. No program is named here. -/
namespace Go.Proofs.Ytdemikjaghegnaa
set_option linter.unusedVariables false

/-- would toggling at e turn s? -/
def can (xs : List Int) (s e : Nat) : Bool := holdsIdeal xs (s ^^^ 2 ^ e)
theorem tog_can {xs : List Int} {s e : Nat} (h : can xs s e = true) : tog xs s e = s ^^^ 2 ^ e := tog_yes h
theorem tog_cant {xs : List Int} {s e : Nat} (h : can xs s e = false) : tog xs s e = s := tog_no h
/-- an element that is there can go if nothing above it is there; one that isn't can come if all below are there -/
theorem can_in {xs : List Int} (hg : good xs = true) {s e : Nat} (hs : holdsIdeal xs s = true) (he : e < xs.length) (hb : s.testBit e = true) :
    can xs s e = true ↔ ∀ i, i < xs.length → s.testBit i = true → (row xs i).testBit e = false := by
  unfold can
  rw [holdsIdeal_row]
  have hI := holdsIdeal_row.1 hs
  constructor
  · intro h i hi hbi
    cases hr : (row xs i).testBit e
    · rfl
    · exfalso
      have hei : e < i := testBit_lt (row_lt hg hi).2 hr
      have := h i hi (by rw [xor_bit, if_neg (by omega)]; exact hbi) e hr
      rw [xor_bit, if_pos rfl, hb] at this; cases this
  · intro h i hi hbi j hj
    rw [xor_bit] at hbi ⊢
    split at hbi
    · rw [hb] at hbi; cases hbi
    · split
      · rename_i hje
        subst hje
        rw [h i hi hbi] at hj; cases hj
      · exact hI i hi hbi j hj
theorem can_out {xs : List Int} (hg : good xs = true) {s e : Nat} (hs : holdsIdeal xs s = true) (he : e < xs.length) (hb : s.testBit e = false) :
    can xs s e = true ↔ ∀ j, (row xs e).testBit j = true → s.testBit j = true := by
  unfold can
  rw [holdsIdeal_row]
  have hI := holdsIdeal_row.1 hs
  constructor
  · intro h j hj
    have hje : j < e := testBit_lt (row_lt hg he).2 hj
    have := h e he (by rw [xor_bit, if_pos rfl, hb]; rfl) j hj
    rw [xor_bit, if_neg (by omega)] at this
    exact this
  · intro h i hi hbi j hj
    rw [xor_bit] at hbi ⊢
    split at hbi
    · rename_i hie
      subst hie
      have hje : j < i := testBit_lt (row_lt hg hi).2 hj
      rw [if_neg (by omega)]
      exact h j hj
    · have := hI i hi hbi j hj
      split
      · rename_i hje
        subst hje
        rw [hb] at this; cases this
      · exact this
/-- no cover between d and e, neither way -/
def Apart (xs : List Int) (d e : Nat) : Prop :=
  ((row xs e).testBit d = true → ∃ m, m < xs.length ∧ (row xs e).testBit m = true ∧ (row xs m).testBit d = true) ∧
  ((row xs d).testBit e = true → ∃ m, m < xs.length ∧ (row xs d).testBit m = true ∧ (row xs m).testBit e = true)
theorem Apart.symm {xs : List Int} {d e : Nat} (h : Apart xs d e) : Apart xs e d := ⟨h.2, h.1⟩
theorem can_stays {xs : List Int} (hg : good xs = true) {s d e : Nat} (hs : holdsIdeal xs s = true) (hd : d < xs.length) (he : e < xs.length) (hne : d ≠ e) (hap : Apart xs d e) (hce : can xs s e = true) :
    can xs (s ^^^ 2 ^ e) d = can xs s d := by
  have hs' : holdsIdeal xs (s ^^^ 2 ^ e) = true := hce
  have hI := holdsIdeal_row.1 hs
  have hbd : (s ^^^ 2 ^ e).testBit d = s.testBit d := by rw [xor_bit, if_neg hne]
  rw [Bool.eq_iff_iff]
  cases hb : s.testBit d
  · rw [can_out hg hs hd hb, can_out hg hs' hd (by rw [hbd, hb])]
    -- e below d: by an m between
    cases hr : (row xs d).testBit e
    · constructor
      · intro h j hj
        have := h j hj
        rw [xor_bit] at this
        split at this
        · rename_i hje; subst hje; rw [hr] at hj; cases hj
        · exact this
      · intro h j hj
        rw [xor_bit]
        split
        · rename_i hje; subst hje; rw [hr] at hj; cases hj
        · exact h j hj
    · obtain ⟨m, hm, h1, h2⟩ := hap.2 hr
      have hem : e < m := testBit_lt (row_lt hg hm).2 h2
      -- m isn't there, now and then
      have hms : s.testBit m = false := by
        cases hse : s.testBit e
        · cases hsm : s.testBit m
          · rfl
          · rw [hI m hm hsm e h2] at hse; cases hse
        · have := (can_in hg hs he hse).1 hce
          cases hsm : s.testBit m
          · rfl
          · rw [this m hm hsm] at h2; cases h2
      constructor
      · intro h
        have := h m h1
        rw [xor_bit, if_neg (by omega), hms] at this; cases this
      · intro h
        have := h m h1
        rw [hms] at this; cases this
  · rw [can_in hg hs hd hb, can_in hg hs' hd (by rw [hbd, hb])]
    cases hr : (row xs e).testBit d
    · constructor
      · intro h i hi hbi
        by_cases hie : i = e
        · subst hie; exact hr
        · exact h i hi (by rw [xor_bit, if_neg hie]; exact hbi)
      · intro h i hi hbi
        by_cases hie : i = e
        · subst hie; exact hr
        · rw [xor_bit, if_neg hie] at hbi
          exact h i hi hbi
    · obtain ⟨m, hm, h1, h2⟩ := hap.1 hr
      have hdm : d < m := testBit_lt (row_lt hg hm).2 h2
      have hme : m < e := testBit_lt (row_lt hg he).2 h1
      have hms : s.testBit m = true := by
        cases hse : s.testBit e
        · exact (can_out hg hs he hse).1 hce m h1
        · exact hI e he hse m h1
      constructor
      · intro h
        have := h m hm (by rw [xor_bit, if_neg (by omega)]; exact hms)
        rw [h2] at this; cases this
      · intro h
        have := h m hm hms
        rw [h2] at this; cases this
theorem xor_swap (s d e : Nat) : s ^^^ 2 ^ d ^^^ 2 ^ e = s ^^^ 2 ^ e ^^^ 2 ^ d := by
  rw [Nat.xor_assoc, Nat.xor_comm (2 ^ d), ← Nat.xor_assoc]
theorem tog_swap {xs : List Int} (hg : good xs = true) {s d e : Nat} (hs : holdsIdeal xs s = true) (hd : d < xs.length) (he : e < xs.length) (hap : Apart xs d e) :
    tog xs (tog xs s d) e = tog xs (tog xs s e) d := by
  by_cases hne : d = e
  · subst hne; rfl
  · cases h1 : can xs s d
    · cases h2 : can xs s e
      · rw [tog_cant h1, tog_cant h2, tog_cant h1]
      · rw [tog_cant h1, tog_can h2, tog_cant]
        rw [can_stays hg hs hd he hne hap h2, h1]
    · cases h2 : can xs s e
      · rw [tog_can h1, tog_cant h2, tog_can h1, tog_cant]
        rw [can_stays hg hs he hd (fun h => hne h.symm) hap.symm h1, h2]
      · rw [tog_can h1, tog_can h2, tog_can, tog_can, xor_swap]
        · rw [can_stays hg hs hd he hne hap h2, h1]
        · rw [can_stays hg hs he hd (fun h => hne h.symm) hap.symm h1, h2]
/-- d covered by e: the elements below e, without d, tell the toggles apart -/
theorem tog_apart {xs : List Int} (hg : good xs = true) {d e : Nat} (he : e < xs.length) (hr : (row xs e).testBit d = true)
    (hno : ∀ m, m < xs.length → (row xs e).testBit m = true → (row xs m).testBit d = false) :
    holdsIdeal xs (row xs e ^^^ 2 ^ d) = true ∧ row xs e ^^^ 2 ^ d < 2 ^ xs.length ∧
      (tog xs (tog xs (row xs e ^^^ 2 ^ d) d) e).testBit e = true ∧ (tog xs (tog xs (row xs e ^^^ 2 ^ d) e) d).testBit e = false := by
  have hde : d < e := testBit_lt (row_lt hg he).2 hr
  have hd : d < xs.length := by omega
  have hrow : holdsIdeal xs (row xs e) = true := holdsIdeal_row.2 fun i hi hbi j hj => row_closed hg he hbi hj
  have hI : holdsIdeal xs (row xs e ^^^ 2 ^ d) = true := (can_in hg hrow hd hr).2 fun i hi hbi => hno i hi hbi
  have hee : (row xs e).testBit e = false := Nat.testBit_lt_two_pow (row_lt hg he).2
  have hb : (row xs e ^^^ 2 ^ d).testBit d = false := by rw [xor_bit, if_pos rfl, hr]; rfl
  have h1 : tog xs (row xs e ^^^ 2 ^ d) d = row xs e := by
    rw [tog_can (show can xs (row xs e ^^^ 2 ^ d) d = true by unfold can; rw [xor_xor]; exact hrow), xor_xor]
  have h2 : tog xs (row xs e) e = row xs e ^^^ 2 ^ e := tog_can ((can_out hg hrow he hee).2 fun j hj => hj)
  have hee2 : (row xs e ^^^ 2 ^ d).testBit e = false := by rw [xor_bit, if_neg (by omega)]; exact hee
  have h3 : tog xs (row xs e ^^^ 2 ^ d) e = row xs e ^^^ 2 ^ d := tog_cant (by
    cases hc : can xs (row xs e ^^^ 2 ^ d) e
    · rfl
    · have := (can_out hg hI he hee2).1 hc d hr
      rw [hb] at this; cases this)
  refine ⟨hI, ?_, ?_, ?_⟩
  · exact xor_lt_len (row_lt_len hg he) hd
  · rw [h1, h2, xor_bit, if_pos rfl, hee]; rfl
  · rw [h3, h1]; exact hee
/-- is one of them covered by the other? -/
def covered (xs : List Int) (d e : Nat) : Bool := (top xs (row xs (max d e))).testBit (min d e)
theorem top_row {xs : List Int} {i j : Nat} : (top xs (row xs i)).testBit j = true ↔ (row xs i).testBit j = true ∧ ∀ m, m < xs.length → (row xs i).testBit m = true → (row xs m).testBit j = false := by
  unfold top
  rw [sub_testBit, Bool.and_eq_true, Bool.not_eq_true']
  constructor
  · rintro ⟨h1, h2⟩
    refine ⟨h1, fun m hm hb => ?_⟩
    cases hr : (row xs m).testBit j
    · rfl
    · have := (underN_testBit xs (row xs i) xs.length j).2 ⟨m, hm, hb, hr⟩
      unfold under at h2
      rw [this] at h2; cases h2
  · rintro ⟨h1, h2⟩
    refine ⟨h1, ?_⟩
    cases hu : (under xs (row xs i)).testBit j
    · rfl
    · obtain ⟨m, hm, hb, hr⟩ := (underN_testBit xs (row xs i) xs.length j).1 hu
      have := h2 m hm hb
      unfold row at this
      rw [this] at hr; cases hr
theorem covered_no {xs : List Int} (hg : good xs = true) {d e : Nat} (hd : d < xs.length) (he : e < xs.length) (h : covered xs d e = false) : Apart xs d e := by
  have key : ∀ {a b : Nat}, a < xs.length → b < xs.length → (top xs (row xs b)).testBit a = false → (row xs b).testBit a = true → ∃ m, m < xs.length ∧ (row xs b).testBit m = true ∧ (row xs m).testBit a = true := by
    intro a b ha hb ht hr
    apply Classical.byContradiction
    intro hn
    rw [Bool.eq_false_iff] at ht
    apply ht
    refine top_row.2 ⟨hr, fun m hm hbm => ?_⟩
    cases hc : (row xs m).testBit a
    · rfl
    · exact absurd ⟨m, hm, hbm, hc⟩ hn
  unfold covered at h
  constructor
  · intro hr
    have hde : d < e := testBit_lt (row_lt hg he).2 hr
    rw [Nat.max_eq_right (by omega), Nat.min_eq_left (by omega)] at h
    exact key hd he h hr
  · intro hr
    have hde : e < d := testBit_lt (row_lt hg hd).2 hr
    rw [Nat.max_eq_left (by omega), Nat.min_eq_right (by omega)] at h
    exact key he hd h hr
/-- do the two toggles commute on s? -/
def swapAt (xs : List Int) (d e s : Nat) : Bool := tog xs (tog xs s d) e == tog xs (tog xs s e) d
theorem covered_yes {xs : List Int} (hg : good xs = true) {d e : Nat} (hd : d < xs.length) (he : e < xs.length) (h : covered xs d e = true) : ∃ s, s < 2 ^ xs.length ∧ holdsIdeal xs s = true ∧ swapAt xs d e s = false := by
  unfold covered at h
  rcases Nat.lt_trichotomy d e with hde | hde | hde
  · rw [Nat.max_eq_right (by omega), Nat.min_eq_left (by omega)] at h
    obtain ⟨h1, h2⟩ := top_row.1 h
    obtain ⟨h3, h4, h5, h6⟩ := tog_apart hg he h1 h2
    refine ⟨_, h4, h3, ?_⟩
    unfold swapAt
    rw [beq_eq_false_iff_ne]
    intro hc
    rw [hc, h6] at h5; cases h5
  · subst hde
    rw [Nat.max_self, Nat.min_self] at h
    obtain ⟨h1, -⟩ := top_row.1 h
    have := testBit_lt (row_lt hg hd).2 h1
    omega
  · rw [Nat.max_eq_left (by omega), Nat.min_eq_right (by omega)] at h
    obtain ⟨h1, h2⟩ := top_row.1 h
    obtain ⟨h3, h4, h5, h6⟩ := tog_apart hg hd h1 h2
    refine ⟨_, h4, h3, ?_⟩
    unfold swapAt
    rw [beq_eq_false_iff_ne]
    intro hc
    rw [← hc, h6] at h5; cases h5
theorem covered_all {xs : List Int} (hg : good xs = true) {d e s : Nat} (hd : d < xs.length) (he : e < xs.length) (h : covered xs d e = false) (hs : holdsIdeal xs s = true) : swapAt xs d e s = true := by
  unfold swapAt
  rw [beq_iff_eq]
  exact tog_swap hg hs hd he (covered_no hg hd he h)
end Go.Proofs.Ytdemikjaghegnaa
