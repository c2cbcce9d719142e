/- Texts Row2, one behind the other. -/
import Derived.Test.YtdemikjaghegnaaGreatPkRanksMakeRowmotionProof06
/- Rowmotion, RowmotionBack, RowmotionTimes. -/
namespace Go.Proofs.YtdemikjaghegnaaGreat
open Go.RowKit Go.WideShapes Go.ChangeShapes
set_option linter.unusedVariables false

/-! ### what is asked of the number of motions -/
def okK (k : Int) : Bool := decide (-1000 ≤ k) && decide (k ≤ 1000)
def okRT (xs : List Int) (s k : Int) : Bool := okIdeal xs s && okK k
def rowKt (xs : List Int) (s : Nat) (k : Int) : Nat := if 0 ≤ k then iter (rowmo xs) k.toNat s else iter (rowba xs) (-k).toNat s
def ansRT (xs : List Int) (s k : Int) : Int := if okRT xs s k then (rowKt xs s.toNat k : Int) else 0
theorem okRT_no1 {xs : List Int} {s k : Int} (h : okIdeal xs s = false) : okRT xs s k = false := by simp [okRT, h]
theorem okRT_no2 {xs : List Int} {s k : Int} (h : okK k = false) : okRT xs s k = false := by simp [okRT, h]
theorem okRT_yes {xs : List Int} {s k : Int} (h : okIdeal xs s = true) (g : okK k = true) : okRT xs s k = true := by simp [okRT, h, g]
theorem ansRT_no {xs : List Int} {s k : Int} (h : okRT xs s k = false) : ansRT xs s k = 0 := by simp [ansRT, h]
theorem ansRT_pos {xs : List Int} {z n : Nat} (h : okRT xs z n = true) : ansRT xs z n = (iter (rowmo xs) n z : Int) := by
  simp [ansRT, h, rowKt]
theorem ansRT_neg {xs : List Int} {z : Nat} {k : Int} {n : Nat} (h : okRT xs z k = true) (hk : k < 0) (hn : -k = n) : ansRT xs z k = (iter (rowba xs) n z : Int) := by
  have h2 : ¬ 0 ≤ k := by omega
  simp [ansRT, h, rowKt, h2, hn]
theorem okK_no {k : Int} (h : ¬ (-1000 ≤ k ∧ k ≤ 1000)) : okK k = false := by
  rw [Bool.eq_false_iff]; simp only [okK, ne_eq, Bool.and_eq_true, decide_eq_true_eq]; exact h
theorem okK_yes {k : Int} (h : -1000 ≤ k ∧ k ≤ 1000) : okK k = true := by
  simp only [okK, Bool.and_eq_true, decide_eq_true_eq]; exact h
theorem okK_of {k : Int} (h : okK k = true) : -1000 ≤ k ∧ k ≤ 1000 := by simpa [okK] using h
set_option maxHeartbeats 800000 in
theorem implRowmotionTimes_any (v : Value) (xs : List Int) (s k : Int) (w : World) (hv : Ints w v xs) (hl : xs.length ≤ 1048576) (wf : (Lit.int .i64 s).wf = true) (wfk : (Lit.int .i64 k).wf = true) :
    Calls Tryz.prog 35 #[.agg #[v], .int .i64 s, .int .i64 k] w fun r w' => r = .returned (.tuple #[.int .i64 (ansRT xs s k), .bool (okRT xs s k)]) ∧ Below w.heap.size w w' := by
  have HV := hid hv
  clear hv wf wfk
  go_enter Tryz.func35, Tryz.ntmps35
  have HB := hid (below_alloc (Below.refl _ w) (.cells #[v] 26))
  have A0 := hid (At.newAt w v 26 w.heap.size (by simp))
  go_wp2_with fail
  refine (hasIdeal_any _ xs s _ (HV.out.below HB.out) hl).mono ?_
  rintro e w' ⟨rfl, hb⟩
  replace HB := hid (below_to HB.out hb)
  replace A0 := hid (A0.out.below hb)
  clear hb
  cases hq : okIdeal xs s
  · have HO := hid (okRT_no1 (k := k) hq)
    clear hq
    have ebox0 := A0.out.1
    go_wp2
    go_ret2
    exact ⟨ret_ib (ansRT_no HO.out).symm HO.out.symm, HB.out⟩
  · have HQ := hid hq
    clear hq
    obtain ⟨z, rfl, h3, h4, h5⟩ := okIdeal_all HQ.out
    have HG := hid h3
    have HN := hid h4
    clear h3 h4 h5
    by_cases h1 : k < -1000
    · have HO := hid (okRT_no2 (xs := xs) (s := z) (okK_no (show ¬ (-1000 ≤ k ∧ k ≤ 1000) by omega)))
      have ebox0 := A0.out.1
      go_wp2
      go_ret2
      exact ⟨ret_ib (ansRT_no HO.out).symm HO.out.symm, HB.out⟩
    · by_cases h2 : 1000 < k
      · have HO := hid (okRT_no2 (xs := xs) (s := z) (okK_no (show ¬ (-1000 ≤ k ∧ k ≤ 1000) by omega)))
        have ebox0 := A0.out.1
        go_wp2
        go_ret2
        exact ⟨ret_ib (ansRT_no HO.out).symm HO.out.symm, HB.out⟩
      · have HO := hid (okRT_yes HQ.out (okK_yes (show -1000 ≤ k ∧ k ≤ 1000 by omega)))
        by_cases h3 : k < 0
        · obtain ⟨n, hn⟩ := Int.eq_ofNat_of_zero_le (show 0 ≤ -k by omega)
          have HA := hid (ansRT_neg HO.out h3 hn)
          have hn1 : n ≤ 1000 := by omega
          have hw : IntKind.i64.wrap (-k) = (n : Int) := by rw [IntWalk.i64_in _ (by omega)]; exact hn
          have hneg : k = -(n : Int) := by omega
          clear hn
          subst hneg
          have hnn : - -(n : Int) = (n : Int) := by omega
          rw [hnn] at hw
          have ebox0 := A0.out.1
          go_wp2
          have hbx0 := A0.out.1
          go_region_with (first | (go_at_call 72; refine (undoneRow_any _).mono ?_; rintro e w1 ⟨rfl, hb1⟩; have H1 := hid (below_to HB.out.drew hb1); have hbx := (A0.out.drew.below hb1).1; clear hb1) | (go_at_call 82; refine (repeatedBack_any _ xs z n _ (HV.out.below H1.out) HG.out HN.out hn1).mono ?_; rintro e w2 ⟨rfl, hb2⟩; have H2 := hid (below_to H1.out hb2); clear hb2))
          all_goals go_wp2
          all_goals go_ret2
          all_goals exact ⟨ret_ib HA.out.symm HO.out.symm, H2.out⟩
        · obtain ⟨n, rfl⟩ := Int.eq_ofNat_of_zero_le (show 0 ≤ k by omega)
          have HA := hid (ansRT_pos HO.out)
          have ebox0 := A0.out.1
          go_wp2_with fail
          clear ebox0
          refine (repeatedRow_any _ xs z n _ (HV.out.below HB.out) HG.out HN.out (by omega)).mono ?_
          rintro e w' ⟨rfl, hb⟩
          replace HB := hid (below_to HB.out hb)
          replace A0 := hid (A0.out.below hb)
          clear hb
          have ebox0 := A0.out.1
          go_wp2
          go_ret2
          exact ⟨ret_ib HA.out.symm HO.out.symm, HB.out⟩

/-! ### one motion -/
def ansRow (xs : List Int) (s : Int) (f : List Int → Nat → Nat) : Int := if okIdeal xs s then (f xs s.toNat : Int) else 0
theorem ansRow_no {xs : List Int} {s : Int} {f : List Int → Nat → Nat} (h : okIdeal xs s = false) : ansRow xs s f = 0 := by simp [ansRow, h]
theorem ansRow_yes {xs : List Int} {z : Nat} {f : List Int → Nat → Nat} (h : okIdeal xs z = true) : ansRow xs z f = (f xs z : Int) := by simp [ansRow, h]
theorem ansRT_one (xs : List Int) (s : Int) : ansRT xs s 1 = ansRow xs s rowmo ∧ okRT xs s 1 = okIdeal xs s := by
  have : okRT xs s 1 = okIdeal xs s := by simp [okRT, okK]
  refine ⟨?_, this⟩
  unfold ansRT ansRow
  rw [this]
  rfl
theorem ansRT_mone (xs : List Int) (s : Int) : ansRT xs s (-1) = ansRow xs s rowba ∧ okRT xs s (-1) = okIdeal xs s := by
  have : okRT xs s (-1) = okIdeal xs s := by simp [okRT, okK]
  refine ⟨?_, this⟩
  unfold ansRT ansRow
  rw [this]
  rfl
theorem implRowmotion_any (v : Value) (xs : List Int) (s : Int) (w : World) (hv : Ints w v xs) (hl : xs.length ≤ 1048576) (wf : (Lit.int .i64 s).wf = true) :
    Calls Tryz.prog 9 #[.agg #[v], .int .i64 s] w fun r w' => r = .returned (.tuple #[.int .i64 (ansRow xs s rowmo), .bool (okIdeal xs s)]) ∧ Below w.heap.size w w' := by
  have HV := hid hv
  have WF := hid wf
  have H1 := hid (ansRT_one xs s)
  clear hv wf
  go_enter Tryz.func9, Tryz.ntmps9
  have HB := hid (below_alloc (Below.refl _ w) (.cells #[v] 26))
  have A0 := hid (At.newAt w v 26 w.heap.size (by simp))
  go_wp2_with fail
  refine (implRowmotionTimes_any _ xs s 1 _ (HV.out.below HB.out) hl WF.out (by decide)).mono ?_
  rintro e w' ⟨rfl, hb⟩
  replace HB := hid (below_to HB.out hb)
  replace A0 := hid (A0.out.below hb)
  clear hb
  have ebox0 := A0.out.1
  go_wp2
  go_ret2
  exact ⟨ret_ib H1.out.1 H1.out.2, HB.out⟩
theorem implRowmotionBack_any (v : Value) (xs : List Int) (s : Int) (w : World) (hv : Ints w v xs) (hl : xs.length ≤ 1048576) (wf : (Lit.int .i64 s).wf = true) :
    Calls Tryz.prog 90 #[.agg #[v], .int .i64 s] w fun r w' => r = .returned (.tuple #[.int .i64 (ansRow xs s rowba), .bool (okIdeal xs s)]) ∧ Below w.heap.size w w' := by
  have HV := hid hv
  have WF := hid wf
  have H1 := hid (ansRT_mone xs s)
  clear hv wf
  go_enter Tryz.func90, Tryz.ntmps90
  have HB := hid (below_alloc (Below.refl _ w) (.cells #[v] 26))
  have A0 := hid (At.newAt w v 26 w.heap.size (by simp))
  go_wp2_with fail
  refine (implRowmotionTimes_any _ xs s (-1) _ (HV.out.below HB.out) hl WF.out (by decide)).mono ?_
  rintro e w' ⟨rfl, hb⟩
  replace HB := hid (below_to HB.out hb)
  replace A0 := hid (A0.out.below hb)
  clear hb
  have ebox0 := A0.out.1
  go_wp2
  go_ret2
  exact ⟨ret_ib H1.out.1 H1.out.2, HB.out⟩
theorem tgBack_any (v : Value) (xs : List Int) (s : Nat) (w : World) (hv : Ints w v xs) (hg : good xs = true) (hs : s < 2 ^ xs.length) :
    Calls Tryz.prog 91 #[.agg #[v], .int .i64 s] w fun r w' => r = .returned (.int .i64 (rowba xs s : Nat)) ∧ Below w.heap.size w w' := by
  have hl10 := (good_length hg).2
  have hs10 := lt1024 hs hl10
  have HG := hid hg
  have HS := hid (good_small hg s)
  have HV := hid hv
  obtain ⟨A, c, rfl, hA⟩ := hv
  have HA := hid hA
  have hT10 : top xs s < 1024 := Nat.lt_of_le_of_lt (sub_le _ _) hs10
  clear hA hg hs
  go_enter Tryz.func91, Tryz.ntmps91
  have HB := hid (below_alloc (Below.refl _ w) (.cells #[(.slice A xs.length c)] 26))
  have A0 := hid (At.newAt w (.slice A xs.length c) 26 w.heap.size (by simp))
  go_wp2_with fail
  refine (poTop_any _ xs s _ (HV.out.below HB.out) hl10 hs10 HS.out).mono ?_
  rintro e w' ⟨rfl, hb⟩
  replace HB := hid (below_to HB.out hb)
  replace A0 := hid (A0.out.below hb)
  clear hb
  have hbox := A0.out.1
  obtain ⟨T, hT⟩ : ∃ T, top xs s = T := ⟨_, rfl⟩
  rw [hT] at hT10 ⊢
  have HTop := hid hT
  clear hT
  go_wp2
  go_loop [6, 15] (fun q i => ∃ k t : Nat, k ≤ xs.length ∧ i = .int .i64 k ∧ q = .int .i64 t ∧ Hid (orN (backP xs T) (fun e => 2 ^ e) k = t)) (fun _ i => xs.length - (intOf i).toNat)
  case atStart => exact ⟨0, 0, Nat.zero_le _, rfl, rfl, hid rfl⟩
  case round =>
    obtain ⟨k, t, hk, rfl, rfl, HT⟩ := hrel
    by_cases hlt : k < xs.length
    · obtain ⟨b, o, rfl, hb, hc⟩ := HA.out (by intro h; simp [h] at hlt)
      have hcell : w'.cell? ⟨b, o + k, none⟩ = some (.int .i64 (xs.getD k 0)) := (HB.out.cell (p := ⟨b, o + k, none⟩) hb).trans (hc k hlt)
      have hr := row_lt HG.out hlt
      have hr10 := row_lt10 HG.out hlt
      obtain ⟨z, hz⟩ : ∃ z, row xs k = z := ⟨_, rfl⟩
      rw [hz] at hr hr10
      rw [hr.1] at hcell
      have HZ := hid hz
      clear hc hr hz
      cases hbit : T.testBit k
      · have HBit := hid hbit
        have han := i64_and_nat z T (by omega) (by omega)
        clear hbit
        by_cases h0 : z &&& T = 0
        · have h0' : (((z &&& T : Nat) : Int) == 0) = true := by rw [h0]; rfl
          have HP : Hid (backP xs T k = true) := hid (by simp [backP, HBit.out, HZ.out, h0])
          have ht10 := lt1024 (Nat.lt_of_le_of_lt (Nat.le_of_eq HT.out.symm) (rowbaN_lt xs T hk)) hl10
          have HN : Hid (orN (backP xs T) (fun e => 2 ^ e) (k + 1) = t ||| 2 ^ k) := hid (by rw [orN_yes HP.out, HT.out])
          have wp := wrap_pow' k (by omega)
          have hor := or_pow t k ht10 (by omega)
          clear h0
          go_wp2_with (go_at_call 127; refine (poIn_any T k (by omega) _).mono ?_; rw [HBit.out]; rintro e w' ⟨rfl, rfl⟩)
          go_round
          case rel => exact ⟨k + 1, _, by omega, by go_num, rfl, hid (by rw [HN.out])⟩
          case measure => simp [intOf]; omega
        · have h0' : (((z &&& T : Nat) : Int) == 0) = false := by rw [beq_eq_false_iff_ne]; omega
          have HP : Hid (backP xs T k = false) := hid (by simp [backP, HBit.out, HZ.out, h0])
          clear h0
          go_wp2_with (go_at_call 127; refine (poIn_any T k (by omega) _).mono ?_; rw [HBit.out]; rintro e w' ⟨rfl, rfl⟩)
          go_round
          case rel => exact ⟨k + 1, t, by omega, by go_num, rfl, hid (by rw [orN_no HP.out, HT.out])⟩
          case measure => simp [intOf]; omega
      · have HBit := hid hbit
        have HP : Hid (backP xs T k = false) := hid (by simp [backP, hbit])
        clear hbit
        go_wp2_with (go_at_call 127; refine (poIn_any T k (by omega) _).mono ?_; rw [HBit.out]; rintro e w' ⟨rfl, rfl⟩)
        go_round
        case rel => exact ⟨k + 1, t, by omega, by go_num, rfl, hid (by rw [orN_no HP.out, HT.out])⟩
        case measure => simp [intOf]; omega
    · obtain rfl : k = xs.length := by omega
      go_wp2
      go_ret
      exact ⟨ret_int (by rw [← HT.out, ← HTop.out]; rfl), HB.out⟩
end Go.Proofs.YtdemikjaghegnaaGreat
