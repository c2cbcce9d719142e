/- ToggleAt, CanToggle. -/
import Derived.Test.YtbjidoihnbjjdaaTg2
namespace Go.Proofs.Ytbjidoihnbjjdaa
open Go.RowKit Go.WideShapes Go.ChangeShapes
set_option linter.unusedVariables false

theorem okWord_one (xs : List Int) (e : Int) : okWord xs [e] = (decide (0 ≤ e) && decide (e < xs.length)) := by
  simp [okWord, inW]
theorem togW_one (xs : List Int) (s : Nat) (e : Nat) : togW xs s [(e : Int)] = tog xs s e := by simp [togW]
theorem specToggleAt_any (v : Value) (xs : List Int) (s e : Int) (w : World) (hv : Ints w v xs) (hl : xs.length ≤ 1048576) (wf : (Lit.int .i64 s).wf = true) (wfe : (Lit.int .i64 e).wf = true) :
    Calls Try.prog 36 #[.agg #[v], .int .i64 s, .int .i64 e] w fun r w' => r = .returned (.tuple #[.int .i64 (ansTW xs [e] s), .bool (okTW xs [e] s)]) ∧ Below w.heap.size w w' := by
  have HV := hid hv
  clear hv wf wfe
  go_enter Try.func36, Try.ntmps36
  have HB := hid (below_alloc (Below.refl _ w) (.cells #[v] 28))
  have A0 := hid (At.newAt w v 28 w.heap.size (by simp))
  go_wp2_with fail
  refine (tgIn_any _ xs s _ (HV.out.below HB.out) hl).mono ?_
  rintro e w' ⟨rfl, hb⟩
  replace HB := hid (below_to HB.out hb)
  replace A0 := hid (A0.out.below hb)
  clear hb
  cases hq : okIdeal xs s
  · have HO := hid (okTW_no1 (ys := [e]) hq)
    clear hq
    have ebox0 := A0.out.1
    go_wp2
    go_ret2
    exact ⟨ret_ib (ansTW_no HO.out).symm HO.out.symm, HB.out⟩
  · have HQ := hid hq
    clear hq
    have ebox0 := A0.out.1
    go_wp2_with fail
    clear ebox0
    refine (tgElement_any _ xs e _ (HV.out.below HB.out) hl).mono ?_
    rintro e w' ⟨rfl, hb⟩
    replace HB := hid (below_to HB.out hb)
    replace A0 := hid (A0.out.below hb)
    clear hb
    cases hk : (decide (0 ≤ e) && decide (e < (xs.length : Int)))
    · have HO := hid (okTW_no2 (s := s) ((okWord_one xs e).trans hk))
      clear hk
      have ebox0 := A0.out.1
      go_wp2
      go_ret2
      exact ⟨ret_ib (ansTW_no HO.out).symm HO.out.symm, HB.out⟩
    · have HO := hid (okTW_yes HQ.out ((okWord_one xs e).trans hk))
      have hk2 : 0 ≤ e ∧ e < xs.length := by simpa using hk
      clear hk
      obtain ⟨z, rfl, h3, h4, h5⟩ := okIdeal_all HQ.out
      obtain ⟨n, rfl⟩ := Int.eq_ofNat_of_zero_le hk2.1
      have HG := hid h3
      have HN := hid h4
      clear h3 h4 h5
      have ebox0 := A0.out.1
      go_wp2_with fail
      clear ebox0
      refine (tgAt_any _ xs z n _ (HV.out.below HB.out) HG.out HN.out (by omega)).mono ?_
      rintro e w' ⟨rfl, hb⟩
      replace HB := hid (below_to HB.out hb)
      replace A0 := hid (A0.out.below hb)
      clear hb
      have ebox0 := A0.out.1
      go_wp2
      go_ret2
      exact ⟨ret_ib ((ansTW_yes HO.out).trans (by rw [togW_one])).symm HO.out.symm, HB.out⟩
theorem implToggleAt_any (v : Value) (xs : List Int) (s e : Int) (w : World) (hv : Ints w v xs) (hl : xs.length ≤ 1048576) (wf : (Lit.int .i64 s).wf = true) (wfe : (Lit.int .i64 e).wf = true) :
    Calls Try.prog 37 #[.agg #[v], .int .i64 s, .int .i64 e] w fun r w' => r = .returned (.tuple #[.int .i64 (ansTW xs [e] s), .bool (okTW xs [e] s)]) ∧ Below w.heap.size w w' := by
  have HV := hid hv
  have WF := hid wf
  clear hv wf wfe
  go_enter Try.func37, Try.ntmps37
  have HB := hid (below_alloc (Below.refl _ w) (.cells #[v] 28))
  have A0 := hid (At.newAt w v 28 w.heap.size (by simp))
  go_wp2_with fail
  refine (implToggleWord_any _ xs s _ [e] _ ((HV.out.below HB.out).alloc _) hl WF.out (Blk.ints (xs := [e]) (c := 1) (Blk.newAt _ 3 _ _ (by first | rfl | simp))) (by simp)).mono ?_
  rintro e w' ⟨rfl, hb⟩
  replace HB := hid (below_to (below_alloc HB.out _) hb)
  replace A0 := hid ((A0.out.alloc _).below hb)
  clear hb
  have ebox0 := A0.out.1
  go_wp2
  go_ret2
  exact ⟨rfl, HB.out⟩

/-! ### CanToggle -/
def ansCT (xs : List Int) (s : Int) : Int := if okIdeal xs s then (canT xs s.toNat xs.length : Int) else 0
theorem ansCT_no {xs : List Int} {s : Int} (h : okIdeal xs s = false) : ansCT xs s = 0 := by simp [ansCT, h]
theorem ansCT_yes {xs : List Int} {z : Nat} (h : okIdeal xs z = true) : ansCT xs z = (canT xs z xs.length : Int) := by simp [ansCT, h]
theorem specCanToggle_any (v : Value) (xs : List Int) (s : Int) (w : World) (hv : Ints w v xs) (hl : xs.length ≤ 1048576) (wf : (Lit.int .i64 s).wf = true) :
    Calls Try.prog 40 #[.agg #[v], .int .i64 s] w fun r w' => r = .returned (.tuple #[.int .i64 (ansCT xs s), .bool (okIdeal xs s)]) ∧ Below w.heap.size w w' := by
  have HV := hid hv
  clear wf
  obtain ⟨A, c, rfl, -⟩ := hv
  go_enter Try.func40, Try.ntmps40
  have HB := hid (below_alloc (Below.refl _ w) (.cells #[(.slice A xs.length c)] 28))
  have A0 := hid (At.newAt w (.slice A xs.length c) 28 w.heap.size (by simp))
  go_wp2_with fail
  refine (tgIn_any _ xs s _ (HV.out.below HB.out) hl).mono ?_
  rintro e w' ⟨rfl, hb⟩
  replace HB := hid (below_to HB.out hb)
  replace A0 := hid (A0.out.below hb)
  clear hb
  cases hq : okIdeal xs s
  · have HO := hid hq
    clear hq
    have ebox0 := A0.out.1
    go_wp2
    go_ret2
    exact ⟨ret_ib (ansCT_no HO.out).symm HO.out.symm, HB.out⟩
  · have HO := hid hq
    clear hq
    obtain ⟨z, rfl, h3, h4, h5⟩ := okIdeal_all HO.out
    have HG := hid h3
    have HN := hid h4
    have hl10 := (good_length h3).2
    have hz10 := lt1024 h4 hl10
    clear h3 h4 h5
    have ebox0 := A0.out.1
    go_wp2
    go_loopw [6, 15] (fun q i wr => ∃ k : Nat, k ≤ xs.length ∧ i = .int .i64 k ∧ q = .int .i64 (canT xs z k : Nat) ∧ Below w.heap.size w wr ∧ At wr w.heap.size (.slice A xs.length c)) (fun _ i _ => xs.length - (intOf i).toNat)
    case atStart => exact ⟨0, Nat.zero_le _, rfl, rfl, HB.out, A0.out⟩
    case round =>
      obtain ⟨k, hk, rfl, rfl, hb, ha⟩ := hrel
      have hbox := ha.1
      have HB1 := hid hb
      have HA1 := hid ha
      clear hb ha
      by_cases hlt : k < xs.length
      · have HS := hid (canT_step xs z k)
        have hc10 := canT_lt (xs := xs) (s := z) (k := k) (by omega)
        have htx := hid (tog_xor xs z k)
        go_wp2_with fail
        clear hbox
        refine (tgAt_any _ xs z k _ (HV.out.below HB1.out) HG.out HN.out hlt).mono ?_
        rintro e' w' ⟨rfl, hb⟩
        have HB2 := hid (below_to HB1.out hb)
        have HA2 := hid (HA1.out.below hb)
        clear hb
        have wp := wrap_pow' k (by omega)
        have hor := or_pow (canT xs z k) k hc10 (by omega)
        cases hne : (tog xs z k != z)
        · have hne' : (((tog xs z k : Nat) : Int) != (z : Int)) = false := by
            rw [bne_eq_false_iff_eq] at hne ⊢
            rw [hne]
          have HE : Hid (canT xs z (k + 1) = canT xs z k) := hid (by rw [HS.out, htx.out, hne]; simp)
          clear hne
          go_wp2
          go_roundw
          case rel => exact ⟨k + 1, by omega, by go_num, by rw [HE.out], HB2.out, HA2.out⟩
          case measure => simp [intOf]; omega
        · have hne' : (((tog xs z k : Nat) : Int) != (z : Int)) = true := by
            rw [bne_iff_ne] at hne ⊢
            omega
          have HE : Hid (canT xs z (k + 1) = canT xs z k ||| 2 ^ k) := hid (by rw [HS.out, htx.out, hne]; rfl)
          clear hne
          go_wp2
          go_roundw
          case rel => exact ⟨k + 1, by omega, by go_num, by rw [HE.out], HB2.out, HA2.out⟩
          case measure => simp [intOf]; omega
      · obtain rfl : k = xs.length := by omega
        go_wp2
        go_ret2
        exact ⟨ret_ib (ansCT_yes HO.out).symm HO.out.symm, HB1.out⟩
theorem implCanToggle_any (v : Value) (xs : List Int) (s : Int) (w : World) (hv : Ints w v xs) (hl : xs.length ≤ 1048576) (wf : (Lit.int .i64 s).wf = true) :
    Calls Try.prog 41 #[.agg #[v], .int .i64 s] w fun r w' => r = .returned (.tuple #[.int .i64 (ansCT xs s), .bool (okIdeal xs s)]) ∧ Below w.heap.size w w' := by
  have HV := hid hv
  clear wf
  obtain ⟨A, c, rfl, -⟩ := hv
  go_enter Try.func41, Try.ntmps41
  have HB := hid (below_alloc (Below.refl _ w) (.cells #[(.slice A xs.length c)] 28))
  have A0 := hid (At.newAt w (.slice A xs.length c) 28 w.heap.size (by simp))
  go_wp2_with fail
  refine (hasIdeal_any _ xs s _ (HV.out.below HB.out) hl).mono ?_
  rintro e w' ⟨rfl, hb⟩
  replace HB := hid (below_to HB.out hb)
  replace A0 := hid (A0.out.below hb)
  clear hb
  cases hq : okIdeal xs s
  · have HO := hid hq
    clear hq
    have ebox0 := A0.out.1
    go_wp2
    go_ret2
    exact ⟨ret_ib (ansCT_no HO.out).symm HO.out.symm, HB.out⟩
  · have HO := hid hq
    clear hq
    obtain ⟨z, rfl, h3, h4, h5⟩ := okIdeal_all HO.out
    have HG := hid h3
    have HN := hid h4
    have hl10 := (good_length h3).2
    have hz10 := lt1024 h4 hl10
    clear h3 h4 h5
    have ebox0 := A0.out.1
    go_wp2
    go_loopw [6, 15] (fun q i wr => ∃ k : Nat, k ≤ xs.length ∧ i = .int .i64 k ∧ q = .int .i64 (canT xs z k : Nat) ∧ Below w.heap.size w wr ∧ At wr w.heap.size (.slice A xs.length c)) (fun _ i _ => xs.length - (intOf i).toNat)
    case atStart => exact ⟨0, Nat.zero_le _, rfl, rfl, HB.out, A0.out⟩
    case round =>
      obtain ⟨k, hk, rfl, rfl, hb, ha⟩ := hrel
      have hbox := ha.1
      have hbz := ha.2
      have HB1 := hid hb
      have HA1 := hid ha
      clear hb ha
      by_cases hlt : k < xs.length
      · have HS := hid (canT_step xs z k)
        have hc10 := canT_lt (xs := xs) (s := z) (k := k) (by omega)
        have ht10 := lt1024 (tog_lt (xs := xs) HN.out hlt) hl10
        have hx10 : z ^^^ tog xs z k < 1024 := Nat.xor_lt_two_pow (n := 10) hz10 ht10
        go_wp2_with fail
        clear hbox
        refine (step_any _ _ xs [(k : Int)] z _ ((HV.out.below HB1.out).alloc _) (Blk.ints (xs := [(k : Int)]) (c := 1) (Blk.newAt _ 3 _ _ (by first | rfl | simp))) HG.out HN.out (by simp [inW]; omega) (by simp)).mono ?_
        rw [togW_one]
        rintro e' w' ⟨rfl, hb⟩
        have HB2 := hid (below_to (below_alloc HB1.out _) hb)
        have HA2 := hid ((HA1.out.alloc _).below hb)
        clear hb
        have hxor := i64_xor_nat z (tog xs z k) (by omega) (by omega)
        have hor := i64_or_nat (canT xs z k) (z ^^^ tog xs z k) (by omega) (by omega)
        go_wp2
        go_roundw
        case rel => exact ⟨k + 1, by omega, by go_num, by rw [HS.out], HB2.out, HA2.out⟩
        case measure => simp [intOf]; omega
      · obtain rfl : k = xs.length := by omega
        go_wp2
        go_ret2
        exact ⟨ret_ib (ansCT_yes HO.out).symm HO.out.symm, HB1.out⟩
end Go.Proofs.Ytbjidoihnbjjdaa
