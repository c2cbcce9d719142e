/- What the exported functions of the model and of the program answer: a poset, and sets in it. -/
import Derived.Test.YtclhebpkpmholaaSpec2
namespace Go.Proofs.Ytclhebpkpmholaa
open Go.RowKit Go.WideShapes Go.ChangeShapes
set_option linter.unusedVariables false
theorem specIsPoset_any (v : Value) (xs : List Int) (w : World) (hv : Ints w v xs) (hl : xs.length ≤ 1048576) :
    Calls Try.prog 16 #[.agg #[v]] w fun r w' => r = .returned (.bool (good xs)) ∧ Below w.heap.size w w' := by
  have HV := hid hv
  clear hv
  go_enter Try.func16, Try.ntmps16
  go_wp2_with (go_at_call 89; refine (poGood_any _ xs _ (HV.out.alloc _) hl).mono ?_; rintro e w1 ⟨rfl, hb1⟩)
  go_ret
  exact ⟨rfl, ((Below.refl _ _).alloc (Nat.le_refl _) _).trans (hb1.mono (by simp))⟩

/-- the answers, and 0 or false where the arguments are none -/
def ansB (xs : List Int) (s : Int) (f : List Int → Nat → Bool) : Bool := okSet xs s && f xs s.toNat
def ansI (xs : List Int) (s : Int) (f : List Int → Nat → Nat) : Int := if okSet xs s then (f xs s.toNat : Int) else 0
theorem ret_bb {a b c d : Bool} (h : a = c) (k : b = d) : Ending.returned (.tuple #[.bool a, .bool b]) = .returned (.tuple #[.bool c, .bool d]) := by rw [h, k]
theorem ret_ib {a c : Int} {b d : Bool} (h : a = c) (k : b = d) : Ending.returned (.tuple #[.int .i64 a, .bool b]) = .returned (.tuple #[.int .i64 c, .bool d]) := by rw [h, k]
theorem specIsIdeal_any (v : Value) (xs : List Int) (s : Int) (w : World) (hv : Ints w v xs) (hl : xs.length ≤ 1048576) (wf : (Lit.int .i64 s).wf = true) :
    Calls Try.prog 27 #[.agg #[v], .int .i64 s] w fun r w' => r = .returned (.tuple #[.bool (ansB xs s holdsIdeal), .bool (okSet xs s)]) ∧ Below w.heap.size w w' := by
  have HV := hid hv
  clear hv wf
  cases hg : good xs
  · have HO : Hid (okSet xs s = false) := hid (by simp [okSet, hg])
    have HG := hid hg
    clear hg
    go_enter Try.func27, Try.ntmps27
    go_wp2_with (go_at_call 89; refine (poGood_any _ xs _ (HV.out.alloc _) hl).mono ?_; rw [HG.out]; rintro e w1 ⟨rfl, hb1⟩)
    go_ret2
    exact ⟨ret_bb (by simp [ansB, HO.out]) HO.out.symm, ((Below.refl _ _).alloc (Nat.le_refl _) _).trans (hb1.mono (by simp))⟩
  · have hl10 := (good_length hg).2
    cases ho : okSet xs s
    · have HD : Hid ((decide (0 ≤ s) && decide (s ≤ (2 ^ xs.length - 1 : Nat))) = false) := hid (by simpa [okSet, hg] using ho)
      have HO := hid ho
      have HG := hid hg
      clear hg ho
      go_enter Try.func27, Try.ntmps27
      go_wp2_with fail
      refine (poGood_any _ xs _ (HV.out.alloc _) hl).mono ?_
      rw [HG.out]
      rintro e w1 ⟨rfl, hb1⟩
      have hbox := ((At.new w v 26).below hb1).1
      have HB1 := hid (below_to (below_alloc (Below.refl _ w) _) hb1)
      have HV1 := hid ((HV.out.alloc _).below hb1)
      clear hb1
      go_wp2_with (go_at_call 99; refine (poSet_any _ xs s _ HV1.out hl10).mono ?_; rw [HD.out]; rintro e w2 ⟨rfl, hb2⟩)
      go_ret2
      exact ⟨ret_bb (by simp [ansB, HO.out]) rfl, below_to HB1.out hb2⟩
    · have hs2 := okSet_lt ho
      have HS := hid (good_small hg s.toNat)
      have HD : Hid ((decide (0 ≤ s) && decide (s ≤ (2 ^ xs.length - 1 : Nat))) = true) := hid (by simpa [okSet, hg] using ho)
      obtain ⟨z, rfl⟩ := Int.eq_ofNat_of_zero_le hs2.1
      have HO := hid ho
      have HG := hid hg
      clear hg ho
      go_enter Try.func27, Try.ntmps27
      go_wp2_with fail
      refine (poGood_any _ xs _ (HV.out.alloc _) hl).mono ?_
      rw [HG.out]
      rintro e w1 ⟨rfl, hb1⟩
      have hbox := ((At.new w v 26).below hb1).1
      have HA1 := hid ((At.new w v 26).below hb1)
      have HB1 := hid (below_to (below_alloc (Below.refl _ w) _) hb1)
      have HV1 := hid ((HV.out.alloc _).below hb1)
      clear hb1
      go_wp2_with fail
      clear hbox
      refine (poSet_any _ xs z _ HV1.out hl10).mono ?_
      rw [HD.out]
      rintro e w2 ⟨rfl, hb2⟩
      have hbox := (HA1.out.below hb2).1
      have HA2 := hid (HA1.out.below hb2)
      have HB2 := hid (below_to HB1.out hb2)
      have HV2 := hid (HV1.out.below hb2)
      clear hb2 HA1 HB1 HV1
      go_wp2_with (go_at_call 103; refine (poIdeal_any _ xs z _ HV2.out hl10 (by omega) HS.out).mono ?_; rintro e w3 ⟨rfl, hb3⟩)
      go_ret2
      exact ⟨ret_bb (by simp [ansB, HO.out]) rfl, below_to HB2.out hb3⟩
theorem implIsIdeal_any (v : Value) (xs : List Int) (s : Int) (w : World) (hv : Ints w v xs) (hl : xs.length ≤ 1048576) (wf : (Lit.int .i64 s).wf = true) :
    Calls Try.prog 26 #[.agg #[v], .int .i64 s] w fun r w' => r = .returned (.tuple #[.bool (ansB xs s holdsIdeal), .bool (okSet xs s)]) ∧ Below w.heap.size w w' := by
  have HV := hid hv
  clear wf
  cases ho : okSet xs s
  · have HO := hid ho
    clear ho hv
    go_enter Try.func26, Try.ntmps26
    go_wp2_with (go_at_call 95; refine (hasSet_any _ xs s _ (HV.out.alloc _) hl).mono ?_; rw [HO.out]; rintro e w1 ⟨rfl, hb1⟩)
    go_ret2
    exact ⟨ret_bb (by simp [ansB, HO.out]) rfl, ((Below.refl _ _).alloc (Nat.le_refl _) _).trans (hb1.mono (by simp))⟩
  · have hs2 := okSet_lt ho
    have hl10 := (good_length (okSet_good ho).1).2
    have HS := hid (good_small (okSet_good ho).1 s.toNat)
    obtain ⟨z, rfl⟩ := Int.eq_ofNat_of_zero_le hs2.1
    have HO := hid ho
    clear ho hv
    go_enter Try.func26, Try.ntmps26
    go_wp2_with fail
    refine (hasSet_any _ xs z _ (HV.out.alloc _) hl).mono ?_
    rw [HO.out]
    rintro e w1 ⟨rfl, hb1⟩
    have hbox := ((At.new w v 26).below hb1).1
    have HB1 := hid (below_to (below_alloc (Below.refl _ w) _) hb1)
    have HV1 := hid ((HV.out.alloc _).below hb1)
    clear hb1
    go_wp2_with (go_at_call 88; refine (holdsIdeal_any _ xs z _ HV1.out hl10 (by omega) HS.out).mono ?_; rintro e w3 ⟨rfl, hb3⟩)
    go_ret2
    exact ⟨ret_bb (by simp [ansB, HO.out]) rfl, below_to HB1.out hb3⟩

theorem specTopOf_any (v : Value) (xs : List Int) (s : Int) (w : World) (hv : Ints w v xs) (hl : xs.length ≤ 1048576) (wf : (Lit.int .i64 s).wf = true) :
    Calls Try.prog 23 #[.agg #[v], .int .i64 s] w fun r w' => r = .returned (.tuple #[.int .i64 (ansI xs s top), .bool (okSet xs s)]) ∧ Below w.heap.size w w' := by
  have HV := hid hv
  clear hv wf
  cases hg : good xs
  · have HO : Hid (okSet xs s = false) := hid (by simp [okSet, hg])
    have HG := hid hg
    clear hg
    go_enter Try.func23, Try.ntmps23
    go_wp2_with (go_at_call 89; refine (poGood_any _ xs _ (HV.out.alloc _) hl).mono ?_; rw [HG.out]; rintro e w1 ⟨rfl, hb1⟩)
    go_ret2
    exact ⟨ret_ib (by simp [ansI, HO.out]) HO.out.symm, ((Below.refl _ _).alloc (Nat.le_refl _) _).trans (hb1.mono (by simp))⟩
  · have hl10 := (good_length hg).2
    cases ho : okSet xs s
    · have HD : Hid ((decide (0 ≤ s) && decide (s ≤ (2 ^ xs.length - 1 : Nat))) = false) := hid (by simpa [okSet, hg] using ho)
      have HO := hid ho
      have HG := hid hg
      clear hg ho
      go_enter Try.func23, Try.ntmps23
      go_wp2_with fail
      refine (poGood_any _ xs _ (HV.out.alloc _) hl).mono ?_
      rw [HG.out]
      rintro e w1 ⟨rfl, hb1⟩
      have hbox := ((At.new w v 26).below hb1).1
      have HB1 := hid (below_to (below_alloc (Below.refl _ w) _) hb1)
      have HV1 := hid ((HV.out.alloc _).below hb1)
      clear hb1
      go_wp2_with (go_at_call 99; refine (poSet_any _ xs s _ HV1.out hl10).mono ?_; rw [HD.out]; rintro e w2 ⟨rfl, hb2⟩)
      go_ret2
      exact ⟨ret_ib (by simp [ansI, HO.out]) rfl, below_to HB1.out hb2⟩
    · have hs2 := okSet_lt ho
      have HS := hid (good_small hg s.toNat)
      have HD : Hid ((decide (0 ≤ s) && decide (s ≤ (2 ^ xs.length - 1 : Nat))) = true) := hid (by simpa [okSet, hg] using ho)
      obtain ⟨z, rfl⟩ := Int.eq_ofNat_of_zero_le hs2.1
      have HO := hid ho
      have HG := hid hg
      clear hg ho
      go_enter Try.func23, Try.ntmps23
      go_wp2_with fail
      refine (poGood_any _ xs _ (HV.out.alloc _) hl).mono ?_
      rw [HG.out]
      rintro e w1 ⟨rfl, hb1⟩
      have hbox := ((At.new w v 26).below hb1).1
      have HA1 := hid ((At.new w v 26).below hb1)
      have HB1 := hid (below_to (below_alloc (Below.refl _ w) _) hb1)
      have HV1 := hid ((HV.out.alloc _).below hb1)
      clear hb1
      go_wp2_with fail
      clear hbox
      refine (poSet_any _ xs z _ HV1.out hl10).mono ?_
      rw [HD.out]
      rintro e w2 ⟨rfl, hb2⟩
      have hbox := (HA1.out.below hb2).1
      have HA2 := hid (HA1.out.below hb2)
      have HB2 := hid (below_to HB1.out hb2)
      have HV2 := hid (HV1.out.below hb2)
      clear hb2 HA1 HB1 HV1
      go_wp2_with (go_at_call 92; refine (poTop_any _ xs z _ HV2.out hl10 (by omega) HS.out).mono ?_; rintro e w3 ⟨rfl, hb3⟩)
      go_ret2
      exact ⟨ret_ib (by simp [ansI, HO.out]) rfl, below_to HB2.out hb3⟩
theorem implTopOf_any (v : Value) (xs : List Int) (s : Int) (w : World) (hv : Ints w v xs) (hl : xs.length ≤ 1048576) (wf : (Lit.int .i64 s).wf = true) :
    Calls Try.prog 17 #[.agg #[v], .int .i64 s] w fun r w' => r = .returned (.tuple #[.int .i64 (ansI xs s top), .bool (okSet xs s)]) ∧ Below w.heap.size w w' := by
  have HV := hid hv
  clear wf
  cases ho : okSet xs s
  · have HO := hid ho
    clear ho hv
    go_enter Try.func17, Try.ntmps17
    go_wp2_with (go_at_call 95; refine (hasSet_any _ xs s _ (HV.out.alloc _) hl).mono ?_; rw [HO.out]; rintro e w1 ⟨rfl, hb1⟩)
    go_ret2
    exact ⟨ret_ib (by simp [ansI, HO.out]) rfl, ((Below.refl _ _).alloc (Nat.le_refl _) _).trans (hb1.mono (by simp))⟩
  · have hs2 := okSet_lt ho
    have hl10 := (good_length (okSet_good ho).1).2
    have HS := hid (good_small (okSet_good ho).1 s.toNat)
    obtain ⟨z, rfl⟩ := Int.eq_ofNat_of_zero_le hs2.1
    have HO := hid ho
    clear ho hv
    go_enter Try.func17, Try.ntmps17
    go_wp2_with fail
    refine (hasSet_any _ xs z _ (HV.out.alloc _) hl).mono ?_
    rw [HO.out]
    rintro e w1 ⟨rfl, hb1⟩
    have hbox := ((At.new w v 26).below hb1).1
    have HB1 := hid (below_to (below_alloc (Below.refl _ w) _) hb1)
    have HV1 := hid ((HV.out.alloc _).below hb1)
    clear hb1
    go_wp2_with (go_at_call 96; refine (top_any _ xs z _ HV1.out hl10 (by omega) HS.out).mono ?_; rintro e w3 ⟨rfl, hb3⟩)
    go_ret2
    exact ⟨ret_ib (by simp [ansI, HO.out]) rfl, below_to HB1.out hb3⟩

theorem specIdealOf_any (v : Value) (xs : List Int) (s : Int) (w : World) (hv : Ints w v xs) (hl : xs.length ≤ 1048576) (wf : (Lit.int .i64 s).wf = true) :
    Calls Try.prog 22 #[.agg #[v], .int .i64 s] w fun r w' => r = .returned (.tuple #[.int .i64 (ansI xs s down), .bool (okSet xs s)]) ∧ Below w.heap.size w w' := by
  have HV := hid hv
  clear hv wf
  cases hg : good xs
  · have HO : Hid (okSet xs s = false) := hid (by simp [okSet, hg])
    have HG := hid hg
    clear hg
    go_enter Try.func22, Try.ntmps22
    go_wp2_with (go_at_call 89; refine (poGood_any _ xs _ (HV.out.alloc _) hl).mono ?_; rw [HG.out]; rintro e w1 ⟨rfl, hb1⟩)
    go_ret2
    exact ⟨ret_ib (by simp [ansI, HO.out]) HO.out.symm, ((Below.refl _ _).alloc (Nat.le_refl _) _).trans (hb1.mono (by simp))⟩
  · have hl10 := (good_length hg).2
    cases ho : okSet xs s
    · have HD : Hid ((decide (0 ≤ s) && decide (s ≤ (2 ^ xs.length - 1 : Nat))) = false) := hid (by simpa [okSet, hg] using ho)
      have HO := hid ho
      have HG := hid hg
      clear hg ho
      go_enter Try.func22, Try.ntmps22
      go_wp2_with fail
      refine (poGood_any _ xs _ (HV.out.alloc _) hl).mono ?_
      rw [HG.out]
      rintro e w1 ⟨rfl, hb1⟩
      have hbox := ((At.new w v 26).below hb1).1
      have HB1 := hid (below_to (below_alloc (Below.refl _ w) _) hb1)
      have HV1 := hid ((HV.out.alloc _).below hb1)
      clear hb1
      go_wp2_with (go_at_call 99; refine (poSet_any _ xs s _ HV1.out hl10).mono ?_; rw [HD.out]; rintro e w2 ⟨rfl, hb2⟩)
      go_ret2
      exact ⟨ret_ib (by simp [ansI, HO.out]) rfl, below_to HB1.out hb2⟩
    · have hs2 := okSet_lt ho
      have HS := hid (good_small hg s.toNat)
      have HD : Hid ((decide (0 ≤ s) && decide (s ≤ (2 ^ xs.length - 1 : Nat))) = true) := hid (by simpa [okSet, hg] using ho)
      obtain ⟨z, rfl⟩ := Int.eq_ofNat_of_zero_le hs2.1
      have HO := hid ho
      have HG := hid hg
      clear hg ho
      go_enter Try.func22, Try.ntmps22
      go_wp2_with fail
      refine (poGood_any _ xs _ (HV.out.alloc _) hl).mono ?_
      rw [HG.out]
      rintro e w1 ⟨rfl, hb1⟩
      have hbox := ((At.new w v 26).below hb1).1
      have HA1 := hid ((At.new w v 26).below hb1)
      have HB1 := hid (below_to (below_alloc (Below.refl _ w) _) hb1)
      have HV1 := hid ((HV.out.alloc _).below hb1)
      clear hb1
      go_wp2_with fail
      clear hbox
      refine (poSet_any _ xs z _ HV1.out hl10).mono ?_
      rw [HD.out]
      rintro e w2 ⟨rfl, hb2⟩
      have hbox := (HA1.out.below hb2).1
      have HA2 := hid (HA1.out.below hb2)
      have HB2 := hid (below_to HB1.out hb2)
      have HV2 := hid (HV1.out.below hb2)
      clear hb2 HA1 HB1 HV1
      go_wp2_with (go_at_call 100; refine (poDown_any _ xs z _ HV2.out hl10 (by omega) HS.out).mono ?_; rintro e w3 ⟨rfl, hb3⟩)
      go_ret2
      exact ⟨ret_ib (by simp [ansI, HO.out]) rfl, below_to HB2.out hb3⟩
theorem implIdealOf_any (v : Value) (xs : List Int) (s : Int) (w : World) (hv : Ints w v xs) (hl : xs.length ≤ 1048576) (wf : (Lit.int .i64 s).wf = true) :
    Calls Try.prog 18 #[.agg #[v], .int .i64 s] w fun r w' => r = .returned (.tuple #[.int .i64 (ansI xs s down), .bool (okSet xs s)]) ∧ Below w.heap.size w w' := by
  have HV := hid hv
  clear wf
  cases ho : okSet xs s
  · have HO := hid ho
    clear ho hv
    go_enter Try.func18, Try.ntmps18
    go_wp2_with (go_at_call 95; refine (hasSet_any _ xs s _ (HV.out.alloc _) hl).mono ?_; rw [HO.out]; rintro e w1 ⟨rfl, hb1⟩)
    go_ret2
    exact ⟨ret_ib (by simp [ansI, HO.out]) rfl, ((Below.refl _ _).alloc (Nat.le_refl _) _).trans (hb1.mono (by simp))⟩
  · have hs2 := okSet_lt ho
    have hl10 := (good_length (okSet_good ho).1).2
    have HS := hid (good_small (okSet_good ho).1 s.toNat)
    obtain ⟨z, rfl⟩ := Int.eq_ofNat_of_zero_le hs2.1
    have HO := hid ho
    have hor := i64_or_nat z (under xs z) (by omega) (Nat.lt_trans (underN_lt xs z HS.out xs.length (Nat.le_refl _)) (by decide))
    clear ho hv
    go_enter Try.func18, Try.ntmps18
    go_wp2_with fail
    refine (hasSet_any _ xs z _ (HV.out.alloc _) hl).mono ?_
    rw [HO.out]
    rintro e w1 ⟨rfl, hb1⟩
    have hbox := ((At.new w v 26).below hb1).1
    have HB1 := hid (below_to (below_alloc (Below.refl _ w) _) hb1)
    have HV1 := hid ((HV.out.alloc _).below hb1)
    clear hb1
    go_wp2_with (go_at_call 97; refine (under_any _ xs z _ HV1.out hl10 (by omega) HS.out).mono ?_; rintro e w3 ⟨rfl, hb3⟩)
    go_ret2
    exact ⟨ret_ib (by simp [ansI, HO.out, down]) rfl, below_to HB1.out hb3⟩

theorem specBottomOf_any (v : Value) (xs : List Int) (s : Int) (w : World) (hv : Ints w v xs) (hl : xs.length ≤ 1048576) (wf : (Lit.int .i64 s).wf = true) :
    Calls Try.prog 25 #[.agg #[v], .int .i64 s] w fun r w' => r = .returned (.tuple #[.int .i64 (ansI xs s bottom), .bool (okSet xs s)]) ∧ Below w.heap.size w w' := by
  have HV := hid hv
  clear hv wf
  cases hg : good xs
  · have HO : Hid (okSet xs s = false) := hid (by simp [okSet, hg])
    have HG := hid hg
    clear hg
    go_enter Try.func25, Try.ntmps25
    go_wp2_with (go_at_call 89; refine (poGood_any _ xs _ (HV.out.alloc _) hl).mono ?_; rw [HG.out]; rintro e w1 ⟨rfl, hb1⟩)
    go_ret2
    exact ⟨ret_ib (by simp [ansI, HO.out]) HO.out.symm, ((Below.refl _ _).alloc (Nat.le_refl _) _).trans (hb1.mono (by simp))⟩
  · have hl10 := (good_length hg).2
    cases ho : okSet xs s
    · have HD : Hid ((decide (0 ≤ s) && decide (s ≤ (2 ^ xs.length - 1 : Nat))) = false) := hid (by simpa [okSet, hg] using ho)
      have HO := hid ho
      have HG := hid hg
      clear hg ho
      go_enter Try.func25, Try.ntmps25
      go_wp2_with fail
      refine (poGood_any _ xs _ (HV.out.alloc _) hl).mono ?_
      rw [HG.out]
      rintro e w1 ⟨rfl, hb1⟩
      have hbox := ((At.new w v 26).below hb1).1
      have HB1 := hid (below_to (below_alloc (Below.refl _ w) _) hb1)
      have HV1 := hid ((HV.out.alloc _).below hb1)
      clear hb1
      go_wp2_with (go_at_call 99; refine (poSet_any _ xs s _ HV1.out hl10).mono ?_; rw [HD.out]; rintro e w2 ⟨rfl, hb2⟩)
      go_ret2
      exact ⟨ret_ib (by simp [ansI, HO.out]) rfl, below_to HB1.out hb2⟩
    · have hs2 := okSet_lt ho
      have HS := hid (good_small hg s.toNat)
      have HD : Hid ((decide (0 ≤ s) && decide (s ≤ (2 ^ xs.length - 1 : Nat))) = true) := hid (by simpa [okSet, hg] using ho)
      obtain ⟨z, rfl⟩ := Int.eq_ofNat_of_zero_le hs2.1
      have HO := hid ho
      have HG := hid hg
      clear hg ho
      go_enter Try.func25, Try.ntmps25
      go_wp2_with fail
      refine (poGood_any _ xs _ (HV.out.alloc _) hl).mono ?_
      rw [HG.out]
      rintro e w1 ⟨rfl, hb1⟩
      have hbox := ((At.new w v 26).below hb1).1
      have HA1 := hid ((At.new w v 26).below hb1)
      have HB1 := hid (below_to (below_alloc (Below.refl _ w) _) hb1)
      have HV1 := hid ((HV.out.alloc _).below hb1)
      clear hb1
      go_wp2_with fail
      clear hbox
      refine (poSet_any _ xs z _ HV1.out hl10).mono ?_
      rw [HD.out]
      rintro e w2 ⟨rfl, hb2⟩
      have hbox := (HA1.out.below hb2).1
      have HA2 := hid (HA1.out.below hb2)
      have HB2 := hid (below_to HB1.out hb2)
      have HV2 := hid (HV1.out.below hb2)
      clear hb2 HA1 HB1 HV1
      go_wp2_with (go_at_call 102; refine (poBottom_any _ xs z _ HV2.out hl10 (by omega) HS.out).mono ?_; rintro e w3 ⟨rfl, hb3⟩)
      go_ret2
      exact ⟨ret_ib (by simp [ansI, HO.out]) rfl, below_to HB2.out hb3⟩
theorem implBottomOf_any (v : Value) (xs : List Int) (s : Int) (w : World) (hv : Ints w v xs) (hl : xs.length ≤ 1048576) (wf : (Lit.int .i64 s).wf = true) :
    Calls Try.prog 24 #[.agg #[v], .int .i64 s] w fun r w' => r = .returned (.tuple #[.int .i64 (ansI xs s bottom), .bool (okSet xs s)]) ∧ Below w.heap.size w w' := by
  have HV := hid hv
  clear wf
  cases ho : okSet xs s
  · have HO := hid ho
    clear ho hv
    go_enter Try.func24, Try.ntmps24
    go_wp2_with (go_at_call 95; refine (hasSet_any _ xs s _ (HV.out.alloc _) hl).mono ?_; rw [HO.out]; rintro e w1 ⟨rfl, hb1⟩)
    go_ret2
    exact ⟨ret_ib (by simp [ansI, HO.out]) rfl, ((Below.refl _ _).alloc (Nat.le_refl _) _).trans (hb1.mono (by simp))⟩
  · have hs2 := okSet_lt ho
    have hl10 := (good_length (okSet_good ho).1).2
    have HS := hid (good_small (okSet_good ho).1 s.toNat)
    obtain ⟨z, rfl⟩ := Int.eq_ofNat_of_zero_le hs2.1
    have HO := hid ho
    clear ho hv
    go_enter Try.func24, Try.ntmps24
    go_wp2_with fail
    refine (hasSet_any _ xs z _ (HV.out.alloc _) hl).mono ?_
    rw [HO.out]
    rintro e w1 ⟨rfl, hb1⟩
    have hbox := ((At.new w v 26).below hb1).1
    have HB1 := hid (below_to (below_alloc (Below.refl _ w) _) hb1)
    have HV1 := hid ((HV.out.alloc _).below hb1)
    clear hb1
    obtain ⟨A, c, rfl, hA⟩ := HV1.out
    have HA := hid hA
    clear hA
    go_wp2
    clear hbox
    go_loop [6, 16] (fun f i => ∃ k : Nat, k ≤ xs.length ∧ i = .int .i64 k ∧ f = .int .i64 (bottomN xs z k : Nat)) (fun _ i => xs.length - (intOf i).toNat)
    case atStart => exact ⟨0, Nat.zero_le _, rfl, rfl⟩
    case round =>
      obtain ⟨k, hk, rfl, rfl⟩ := hrel
      by_cases hlt : k < xs.length
      · obtain ⟨b, o, rfl, hb, hc⟩ := HA.out (by intro h; simp [h] at hlt)
        have hcell := hc k hlt
        clear hc
        obtain ⟨x, hx⟩ : ∃ x, xs.getD k 0 = x := ⟨_, rfl⟩
        rw [hx] at hcell
        cases hbit : z.testBit k
        · have Hbit := hid hbit
          clear hbit hx
          go_wp2_with (go_at_call 101; refine (hasElement_any z k (by omega) (by omega) _).mono ?_; rw [Hbit.out]; rintro e w' ⟨rfl, rfl⟩)
          go_round
          case rel => exact ⟨k + 1, by omega, by go_num, by rw [bottomN, Hbit.out]; rfl⟩
          case measure => simp [intOf]; omega
        · have h2 := HS.out k hlt hbit
          rw [hx] at h2
          obtain ⟨y, rfl⟩ := Int.eq_ofNat_of_zero_le h2.1
          have han := i64_and_nat y z (by omega) (by omega)
          have Hz := hid hx
          have Hbit := hid hbit
          have h3 := bottomN_lt xs z k (by omega)
          have wp := wrap_pow' k (by omega)
          have hor := or_pow (bottomN xs z k) k h3 (by omega)
          clear hx hbit h2 h3
          by_cases h0 : y &&& z = 0
          · have hs' : (((y &&& z : Nat) : Int) == 0) = true := by rw [h0]; rfl
            have H0 := hid h0
            clear h0
            go_wp2_with (go_at_call 101; refine (hasElement_any z k (by omega) (by omega) _).mono ?_; rw [Hbit.out]; rintro e w' ⟨rfl, rfl⟩)
            go_round
            case rel => exact ⟨k + 1, by omega, by go_num, by rw [bottomN, Hbit.out, Hz.out, Int.toNat_natCast, H0.out]; rfl⟩
            case measure => simp [intOf]; omega
          · have hs' : (((y &&& z : Nat) : Int) == 0) = false := by rw [beq_eq_false_iff_ne]; omega
            have H0 : Hid ((y &&& z == 0) = false) := hid (by rw [beq_eq_false_iff_ne]; exact h0)
            clear h0
            go_wp2_with (go_at_call 101; refine (hasElement_any z k (by omega) (by omega) _).mono ?_; rw [Hbit.out]; rintro e w' ⟨rfl, rfl⟩)
            go_round
            case rel => exact ⟨k + 1, by omega, by go_num, by rw [bottomN, Hbit.out, Hz.out, Int.toNat_natCast, H0.out]; rfl⟩
            case measure => simp [intOf]; omega
      · obtain rfl : k = xs.length := by omega
        go_wp2
        go_ret2
        exact ⟨ret_ib (by simp [ansI, HO.out, bottom]) rfl, HB1.out⟩

theorem top_eq (xs : List Int) (z : Nat) : ((top xs z : Int) == (z : Int)) = holdsAntichain xs z := by
  unfold top holdsAntichain
  rw [Bool.eq_iff_iff, beq_iff_eq, beq_iff_eq]
  constructor
  · intro h
    have h : sub z (under xs z) = z := by omega
    apply Nat.eq_of_testBit_eq
    intro i
    have := congrArg (fun n => Nat.testBit n i) h
    simp only [sub_testBit] at this
    rw [Nat.testBit_and, Nat.zero_testBit]
    revert this
    cases z.testBit i <;> cases (under xs z).testBit i <;> simp
  · intro h
    suffices sub z (under xs z) = z by omega
    apply Nat.eq_of_testBit_eq
    intro i
    have := congrArg (fun n => Nat.testBit n i) h
    simp only [Nat.testBit_and, Nat.zero_testBit] at this
    rw [sub_testBit]
    revert this
    cases z.testBit i <;> cases (under xs z).testBit i <;> simp
theorem specIsAntichain_any (v : Value) (xs : List Int) (s : Int) (w : World) (hv : Ints w v xs) (hl : xs.length ≤ 1048576) (wf : (Lit.int .i64 s).wf = true) :
    Calls Try.prog 31 #[.agg #[v], .int .i64 s] w fun r w' => r = .returned (.tuple #[.bool (ansB xs s holdsAntichain), .bool (okSet xs s)]) ∧ Below w.heap.size w w' := by
  have HV := hid hv
  clear hv wf
  cases hg : good xs
  · have HO : Hid (okSet xs s = false) := hid (by simp [okSet, hg])
    have HG := hid hg
    clear hg
    go_enter Try.func31, Try.ntmps31
    go_wp2_with (go_at_call 89; refine (poGood_any _ xs _ (HV.out.alloc _) hl).mono ?_; rw [HG.out]; rintro e w1 ⟨rfl, hb1⟩)
    go_ret2
    exact ⟨ret_bb (by simp [ansB, HO.out]) HO.out.symm, ((Below.refl _ _).alloc (Nat.le_refl _) _).trans (hb1.mono (by simp))⟩
  · have hl10 := (good_length hg).2
    cases ho : okSet xs s
    · have HD : Hid ((decide (0 ≤ s) && decide (s ≤ (2 ^ xs.length - 1 : Nat))) = false) := hid (by simpa [okSet, hg] using ho)
      have HO := hid ho
      have HG := hid hg
      clear hg ho
      go_enter Try.func31, Try.ntmps31
      go_wp2_with fail
      refine (poGood_any _ xs _ (HV.out.alloc _) hl).mono ?_
      rw [HG.out]
      rintro e w1 ⟨rfl, hb1⟩
      have hbox := ((At.new w v 26).below hb1).1
      have HB1 := hid (below_to (below_alloc (Below.refl _ w) _) hb1)
      have HV1 := hid ((HV.out.alloc _).below hb1)
      clear hb1
      go_wp2_with (go_at_call 99; refine (poSet_any _ xs s _ HV1.out hl10).mono ?_; rw [HD.out]; rintro e w2 ⟨rfl, hb2⟩)
      go_ret2
      exact ⟨ret_bb (by simp [ansB, HO.out]) rfl, below_to HB1.out hb2⟩
    · have hs2 := okSet_lt ho
      have HS := hid (good_small hg s.toNat)
      have HD : Hid ((decide (0 ≤ s) && decide (s ≤ (2 ^ xs.length - 1 : Nat))) = true) := hid (by simpa [okSet, hg] using ho)
      obtain ⟨z, rfl⟩ := Int.eq_ofNat_of_zero_le hs2.1
      have HO := hid ho
      have HG := hid hg
      clear hg ho
      go_enter Try.func31, Try.ntmps31
      go_wp2_with fail
      refine (poGood_any _ xs _ (HV.out.alloc _) hl).mono ?_
      rw [HG.out]
      rintro e w1 ⟨rfl, hb1⟩
      have hbox := ((At.new w v 26).below hb1).1
      have HA1 := hid ((At.new w v 26).below hb1)
      have HB1 := hid (below_to (below_alloc (Below.refl _ w) _) hb1)
      have HV1 := hid ((HV.out.alloc _).below hb1)
      clear hb1
      go_wp2_with fail
      clear hbox
      refine (poSet_any _ xs z _ HV1.out hl10).mono ?_
      rw [HD.out]
      rintro e w2 ⟨rfl, hb2⟩
      have hbox := (HA1.out.below hb2).1
      have HA2 := hid (HA1.out.below hb2)
      have HB2 := hid (below_to HB1.out hb2)
      have HV2 := hid (HV1.out.below hb2)
      clear hb2 HA1 HB1 HV1
      go_wp2_with (go_at_call 92; refine (poTop_any _ xs z _ HV2.out hl10 (by omega) HS.out).mono ?_; rintro e w3 ⟨rfl, hb3⟩)
      go_ret2
      exact ⟨ret_bb (by simp only [ansB, HO.out, Int.toNat_natCast, Bool.true_and]; exact top_eq xs z) rfl, below_to HB2.out hb3⟩
theorem implIsAntichain_any (v : Value) (xs : List Int) (s : Int) (w : World) (hv : Ints w v xs) (hl : xs.length ≤ 1048576) (wf : (Lit.int .i64 s).wf = true) :
    Calls Try.prog 28 #[.agg #[v], .int .i64 s] w fun r w' => r = .returned (.tuple #[.bool (ansB xs s holdsAntichain), .bool (okSet xs s)]) ∧ Below w.heap.size w w' := by
  have HV := hid hv
  clear wf
  cases ho : okSet xs s
  · have HO := hid ho
    clear ho hv
    go_enter Try.func28, Try.ntmps28
    go_wp2_with (go_at_call 95; refine (hasSet_any _ xs s _ (HV.out.alloc _) hl).mono ?_; rw [HO.out]; rintro e w1 ⟨rfl, hb1⟩)
    go_ret2
    exact ⟨ret_bb (by simp [ansB, HO.out]) rfl, ((Below.refl _ _).alloc (Nat.le_refl _) _).trans (hb1.mono (by simp))⟩
  · have hs2 := okSet_lt ho
    have hl10 := (good_length (okSet_good ho).1).2
    have HS := hid (good_small (okSet_good ho).1 s.toNat)
    obtain ⟨z, rfl⟩ := Int.eq_ofNat_of_zero_le hs2.1
    have HO := hid ho
    clear ho hv
    go_enter Try.func28, Try.ntmps28
    go_wp2_with fail
    refine (hasSet_any _ xs z _ (HV.out.alloc _) hl).mono ?_
    rw [HO.out]
    rintro e w1 ⟨rfl, hb1⟩
    have hbox := ((At.new w v 26).below hb1).1
    have HB1 := hid (below_to (below_alloc (Below.refl _ w) _) hb1)
    have HV1 := hid ((HV.out.alloc _).below hb1)
    clear hb1
    go_wp2_with (go_at_call 91; refine (holdsAntichain_any _ xs z _ HV1.out hl10 (by omega) HS.out).mono ?_; rintro e w3 ⟨rfl, hb3⟩)
    go_ret2
    exact ⟨ret_bb (by simp [ansB, HO.out]) rfl, below_to HB1.out hb3⟩

end Go.Proofs.Ytclhebpkpmholaa
