/- AntichainRow. -/
import Derived.Test.YtbjidoihnbjjdabComC
import Derived.Test.YtbjidoihnbjjdabRow3
namespace Go.Proofs.Ytbjidoihnbjjdab
open Go.RowKit Go.WideShapes Go.ChangeShapes
set_option linter.unusedVariables false

theorem under_lt {xs : List Int} (hg : good xs = true) (s : Nat) : under xs s < 2 ^ xs.length := by
  apply Nat.lt_pow_two_of_testBit
  intro i hi
  rw [Bool.eq_false_iff]
  intro h
  obtain ⟨e, he, hb, hr⟩ := (underN_testBit xs s xs.length i).1 h
  have := testBit_lt (row_lt_len hg he) hr
  omega
theorem down_lt {xs : List Int} (hg : good xs = true) {s : Nat} (hs : s < 2 ^ xs.length) : down xs s < 2 ^ xs.length := Nat.or_lt_two_pow hs (under_lt hg s)
def okAC (xs : List Int) (s : Int) : Bool := okSet xs s && holdsAntichain xs s.toNat
def acRow (xs : List Int) (s : Nat) : Nat := top xs (rowmo xs (down xs s))
def ansAC (xs : List Int) (s : Int) : Int := if okAC xs s then (acRow xs s.toNat : Int) else 0
theorem okAC_no1 {xs : List Int} {s : Int} (h : okSet xs s = false) : okAC xs s = false := by simp [okAC, h]
theorem okAC_no2 {xs : List Int} {z : Nat} (h : holdsAntichain xs z = false) : okAC xs z = false := by simp [okAC, h]
theorem okAC_yes {xs : List Int} {z : Nat} (h : okSet xs z = true) (k : holdsAntichain xs z = true) : okAC xs z = true := by simp [okAC, h, k]
theorem ansAC_no {xs : List Int} {s : Int} (h : okAC xs s = false) : ansAC xs s = 0 := by simp [ansAC, h]
theorem ansAC_yes {xs : List Int} {z : Nat} (h : okAC xs z = true) : ansAC xs z = (acRow xs z : Int) := by simp [ansAC, h]
theorem poDown_SW (v : Value) (xs : List Int) (w0 : World) (b s : Nat) (W : World) (hv : Ints w0 v xs) (hl : xs.length ≤ 10) (hs : s < 1024) (hsm : Small xs s) (hS : SW w0 b v W) :
    Calls Try.prog 55 #[.agg #[v], .int .i64 s] W fun r w' => r = .returned (.int .i64 (down xs s : Nat)) ∧ SW w0 b v w' :=
  (poDown_any v xs s W (hv.below hS.below) hl hs hsm).mono fun _ _ ⟨h1, h2⟩ => ⟨h1, hS.to h2⟩
theorem poTop_SW (v : Value) (xs : List Int) (w0 : World) (b s : Nat) (W : World) (hv : Ints w0 v xs) (hl : xs.length ≤ 10) (hs : s < 1024) (hsm : Small xs s) (hS : SW w0 b v W) :
    Calls Try.prog 54 #[.agg #[v], .int .i64 s] W fun r w' => r = .returned (.int .i64 (top xs s : Nat)) ∧ SW w0 b v w' :=
  (poTop_any v xs s W (hv.below hS.below) hl hs hsm).mono fun _ _ ⟨h1, h2⟩ => ⟨h1, hS.to h2⟩
theorem tgRow_SW (v : Value) (xs : List Int) (w0 : World) (b s : Nat) (W : World) (hv : Ints w0 v xs) (hg : good xs = true) (hs : s < 2 ^ xs.length) (hS : SW w0 b v W) :
    Calls Try.prog 45 #[.agg #[v], .int .i64 s] W fun r w' => r = .returned (.int .i64 (rowmo xs s : Nat)) ∧ SW w0 b v w' :=
  (tgRow_any v xs s W (hv.below hS.below) hg hs).mono fun _ _ ⟨h1, h2⟩ => ⟨h1, hS.to h2⟩
theorem under_SW (v : Value) (xs : List Int) (w0 : World) (b s : Nat) (W : World) (hv : Ints w0 v xs) (hl : xs.length ≤ 10) (hs : s < 1024) (hsm : Small xs s) (hS : SW w0 b v W) :
    Calls Try.prog 60 #[.agg #[v], .int .i64 s] W fun r w' => r = .returned (.int .i64 (under xs s : Nat)) ∧ SW w0 b v w' :=
  (under_any v xs s W (hv.below hS.below) hl hs hsm).mono fun _ _ ⟨h1, h2⟩ => ⟨h1, hS.to h2⟩
theorem top_SW (v : Value) (xs : List Int) (w0 : World) (b s : Nat) (W : World) (hv : Ints w0 v xs) (hl : xs.length ≤ 10) (hs : s < 1024) (hsm : Small xs s) (hS : SW w0 b v W) :
    Calls Try.prog 58 #[.agg #[v], .int .i64 s] W fun r w' => r = .returned (.int .i64 (top xs s : Nat)) ∧ SW w0 b v w' :=
  (top_any v xs s W (hv.below hS.below) hl hs hsm).mono fun _ _ ⟨h1, h2⟩ => ⟨h1, hS.to h2⟩
theorem rowStep_SW (v : Value) (xs : List Int) (w0 : World) (b s : Nat) (W : World) (hv : Ints w0 v xs) (hg : good xs = true) (hs : s < 2 ^ xs.length) (hS : SW w0 b v W) :
    Calls Try.prog 59 #[.agg #[], .agg #[v], .int .i64 s] W fun r w' => r = .returned (.int .i64 (rowmo xs s : Nat)) ∧ SW w0 b v w' :=
  (rowStep_any v xs s W (hv.below hS.below) hg hs).mono fun _ _ ⟨h1, h2⟩ => ⟨h1, hS.to h2⟩
set_option maxHeartbeats 1600000 in
theorem specAntichainRow_any (v : Value) (xs : List Int) (s : Int) (w : World) (hv : Ints w v xs) (hl : xs.length ≤ 1048576) (wf : (Lit.int .i64 s).wf = true) :
    Calls Try.prog 24 #[.agg #[v], .int .i64 s] w fun r w' => r = .returned (.tuple #[.int .i64 (ansAC xs s), .bool (okAC xs s)]) ∧ Below w.heap.size w w' := by
  have HV := hid hv
  clear hv wf
  go_enter Try.func24, Try.ntmps24
  have HB := hid (below_alloc (Below.refl _ w) (.cells #[v] 28))
  have A0 := hid (At.newAt w v 28 w.heap.size (by simp))
  go_wp2_with fail
  refine (poGood_any _ xs _ (HV.out.below HB.out) hl).mono ?_
  rintro e w' ⟨rfl, hb⟩
  replace HB := hid (below_to HB.out hb)
  replace A0 := hid (A0.out.below hb)
  clear hb
  cases hq : good xs
  · have HO := hid (okAC_no1 (okSet_no (s := s) hq))
    clear hq
    have ebox0 := A0.out.1
    go_wp2
    go_ret2
    exact ⟨ret_ib (ansAC_no HO.out).symm HO.out.symm, HB.out⟩
  · have HQ := hid hq
    have hl10 := (good_length hq).2
    clear hq
    have ebox0 := A0.out.1
    go_wp2_with fail
    clear ebox0
    refine (poSet_ok _ xs s _ (HV.out.below HB.out) HQ.out).mono ?_
    rintro e w' ⟨rfl, hb⟩
    replace HB := hid (below_to HB.out hb)
    replace A0 := hid (A0.out.below hb)
    clear hb
    cases ho : okSet xs s
    · have HO := hid (okAC_no1 ho)
      clear ho
      have ebox0 := A0.out.1
      go_wp2
      go_ret2
      exact ⟨ret_ib (ansAC_no HO.out).symm HO.out.symm, HB.out⟩
    · have HS := hid ho
      obtain ⟨h1, h2, h3⟩ := okSet_good ho
      obtain ⟨z, rfl⟩ := Int.eq_ofNat_of_zero_le h2
      have hp := Nat.one_le_two_pow (n := xs.length)
      have hz : z < 2 ^ xs.length := by omega
      have HZ := hid hz
      have hz10 := lt1024 hz hl10
      have hd := down_lt HQ.out hz
      have HD := hid hd
      have hr10 := lt1024 (rowmo_lt HQ.out (down xs z)) hl10
      have HSm := hid (good_small HQ.out)
      clear ho h1 h3 hp hz hd h2
      have ebox0 := A0.out.1
      go_wp2_with fail
      clear ebox0
      refine (poTop_any _ xs z _ (HV.out.below HB.out) hl10 hz10 (HSm.out z)).mono ?_
      rintro e w' ⟨rfl, hb⟩
      replace HB := hid (below_to HB.out hb)
      replace A0 := hid (A0.out.below hb)
      clear hb
      have HTE := hid (top_eq xs z)
      cases ha : holdsAntichain xs z
      · have HO := hid (okAC_no2 ha)
        have hne : (((top xs z : Nat) : Int) != (z : Int)) = true := by
          have := HTE.out
          rw [ha] at this
          rw [bne, this]; rfl
        clear ha
        have ebox0 := A0.out.1
        go_wp2
        go_ret2
        exact ⟨ret_ib (ansAC_no HO.out).symm HO.out.symm, HB.out⟩
      · have HO := hid (okAC_yes HS.out ha)
        have HAns := hid (ansAC_yes HO.out)
        have hne : (((top xs z : Nat) : Int) != (z : Int)) = false := by
          have := HTE.out
          rw [ha] at this
          rw [bne, this]; rfl
        have hr := HSm.out
        have HSW := hid (show SW w w.heap.size v w' from ⟨A0.out, HB.out⟩)
        clear ha hr
        have ebox0 := A0.out.1
        go_wp2
        clear hne
        have hbx := HSW.out.at_.1
        go_region_held3 (fun W => W.cell? ⟨w.heap.size, 0, none⟩ = some v ∧ Hid (SW w w.heap.size v W)) (first | exact ⟨HSW.out.drew.at_.1, hid HSW.out.drew⟩ | exact ⟨HS2.out.at_.1, HS2⟩) (first | (go_at_call 55; refine (poDown_SW v xs w w.heap.size _ _ HV.out hl10 (by assumption) (HSm.out _) (Hid.out (by first | assumption | exact hid HSW.out.drew))).mono ?_; rintro e' w4 ⟨rfl, hs4⟩; have HS2 := hid hs4; clear hs4) | (go_at_call 45; refine (tgRow_SW v xs w w.heap.size _ _ HV.out HQ.out HD.out (Hid.out (by first | assumption | exact hid HSW.out.drew))).mono ?_; rintro e' w4 ⟨rfl, hs4⟩; have HS2 := hid hs4; clear hs4) | (go_at_call 54; refine (poTop_SW v xs w w.heap.size _ _ HV.out hl10 (by assumption) (HSm.out _) (Hid.out (by first | assumption | exact hid HSW.out.drew))).mono ?_; rintro e' w4 ⟨rfl, hs4⟩; have HS2 := hid hs4; clear hs4))
        all_goals go_wp2
        all_goals go_ret2
        all_goals exact ⟨ret_ib (by rw [HAns.out]; rfl) HO.out.symm, HS2.out.below⟩
set_option maxHeartbeats 1600000 in
theorem implAntichainRow_any (v : Value) (xs : List Int) (s : Int) (w : World) (hv : Ints w v xs) (hl : xs.length ≤ 1048576) (wf : (Lit.int .i64 s).wf = true) :
    Calls Try.prog 25 #[.agg #[v], .int .i64 s] w fun r w' => r = .returned (.tuple #[.int .i64 (ansAC xs s), .bool (okAC xs s)]) ∧ Below w.heap.size w w' := by
  have HV := hid hv
  clear hv wf
  go_enter Try.func25, Try.ntmps25
  have HB := hid (below_alloc (Below.refl _ w) (.cells #[v] 28))
  have A0 := hid (At.newAt w v 28 w.heap.size (by simp))
  go_wp2_with fail
  refine (hasSet_any _ xs s _ (HV.out.below HB.out) hl).mono ?_
  rintro e w' ⟨rfl, hb⟩
  replace HB := hid (below_to HB.out hb)
  replace A0 := hid (A0.out.below hb)
  clear hb
  cases ho : okSet xs s
  · have HO := hid (okAC_no1 ho)
    clear ho
    have ebox0 := A0.out.1
    go_wp2
    go_ret2
    exact ⟨ret_ib (ansAC_no HO.out).symm HO.out.symm, HB.out⟩
  · have HS := hid ho
    obtain ⟨h1, h2, h3⟩ := okSet_good ho
    have HQ := hid h1
    have hl10 := (good_length h1).2
    obtain ⟨z, rfl⟩ := Int.eq_ofNat_of_zero_le h2
    have hp := Nat.one_le_two_pow (n := xs.length)
    have hz : z < 2 ^ xs.length := by omega
    have HZ := hid hz
    have hz10 := lt1024 hz hl10
    have HD := hid (down_lt HQ.out hz)
    have hu10 := lt1024 (under_lt HQ.out z) hl10
    have hr10 := lt1024 (rowmo_lt HQ.out (down xs z)) hl10
    have HSm := hid (good_small HQ.out)
    clear ho h1 h3 hp hz h2
    have ebox0 := A0.out.1
    go_wp2_with fail
    clear ebox0
    refine (holdsAntichain_any _ xs z _ (HV.out.below HB.out) hl10 hz10 (HSm.out z)).mono ?_
    rintro e w' ⟨rfl, hb⟩
    replace HB := hid (below_to HB.out hb)
    replace A0 := hid (A0.out.below hb)
    clear hb
    cases ha : holdsAntichain xs z
    · have HO := hid (okAC_no2 ha)
      clear ha
      have ebox0 := A0.out.1
      go_wp2
      go_ret2
      exact ⟨ret_ib (ansAC_no HO.out).symm HO.out.symm, HB.out⟩
    · have HO := hid (okAC_yes HS.out ha)
      have HAns := hid (ansAC_yes HO.out)
      have HSW := hid (show SW w w.heap.size v w' from ⟨A0.out, HB.out⟩)
      clear ha
      have ebox0 := A0.out.1
      go_wp2
      have hbx := HSW.out.at_.1
      have hor := i64_or_nat z (under xs z) (by omega) (by omega)
      rw [show z ||| under xs z = down xs z from rfl] at hor
      go_region_held3 (fun W => W.cell? ⟨w.heap.size, 0, none⟩ = some v ∧ Hid (SW w w.heap.size v W)) (first | exact ⟨HSW.out.drew.at_.1, hid HSW.out.drew⟩ | exact ⟨HS2.out.at_.1, HS2⟩) (first | (go_at_call 60; refine (under_SW v xs w w.heap.size _ _ HV.out hl10 (by assumption) (HSm.out _) (Hid.out (by first | assumption | exact hid HSW.out.drew))).mono ?_; rintro e' w4 ⟨rfl, hs4⟩; have HS2 := hid hs4; clear hs4) | (go_at_call 59; refine (rowStep_SW v xs w w.heap.size _ _ HV.out HQ.out HD.out (Hid.out (by first | assumption | exact hid HSW.out.drew))).mono ?_; rintro e' w4 ⟨rfl, hs4⟩; have HS2 := hid hs4; clear hs4) | (go_at_call 58; refine (top_SW v xs w w.heap.size _ _ HV.out hl10 (by assumption) (HSm.out _) (Hid.out (by first | assumption | exact hid HSW.out.drew))).mono ?_; rintro e' w4 ⟨rfl, hs4⟩; have HS2 := hid hs4; clear hs4))
      all_goals go_wp2
      all_goals go_ret2
      all_goals exact ⟨ret_ib (by rw [HAns.out]; rfl) HO.out.symm, HS2.out.below⟩
end Go.Proofs.Ytbjidoihnbjjdab
