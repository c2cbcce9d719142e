/- Toggles of the model and of the program: ideals, words, one toggle. -/
import Derived.Test.YtkalpichninncabSpec2
import Derived.Test.YtkalpichninncabTog
namespace Go.Proofs.Ytkalpichninncab
open Go.RowKit Go.WideShapes Go.ChangeShapes
set_option linter.unusedVariables false

theorem okIdeal_no {xs : List Int} {s : Int} (h : okSet xs s = false) : okIdeal xs s = false := by simp [okIdeal, h]
theorem okSet_no {xs : List Int} {s : Int} (h : good xs = false) : okSet xs s = false := by simp [okSet, h]
theorem okIdeal_nat {xs : List Int} {z : Nat} (h : okSet xs (z : Int) = true) : okIdeal xs (z : Int) = holdsIdeal xs z := by simp [okIdeal, h]
theorem poSet_ok (v : Value) (xs : List Int) (s : Int) (w : World) (hv : Ints w v xs) (hg : good xs = true) :
    Calls Try.prog 72 #[.agg #[v], .int .i64 s] w fun r w' => r = .returned (.bool (okSet xs s)) ∧ Below w.heap.size w w' :=
  (poSet_any v xs s w hv (good_length hg).2).mono fun e w' ⟨h1, h2⟩ => ⟨by rw [h1]; exact ret_bool (by simp [okSet, hg]), h2⟩
theorem tgIn_any (v : Value) (xs : List Int) (s : Int) (w : World) (hv : Ints w v xs) (hl : xs.length ≤ 1048576) :
    Calls Try.prog 47 #[.agg #[v], .int .i64 s] w fun r w' => r = .returned (.bool (okIdeal xs s)) ∧ Below w.heap.size w w' := by
  have HV := hid hv
  clear hv
  cases hg : good xs
  · have HG := hid hg
    have HO := hid (okIdeal_no (s := s) (okSet_no hg))
    clear hg
    go_enter Try.func47, Try.ntmps47
    have HB := hid (below_alloc (Below.refl _ w) (.cells #[v] 28))
    have A0 := hid (At.newAt w v 28 w.heap.size (by simp))
    go_wp2_with fail
    refine (poGood_any _ xs _ (HV.out.below HB.out) hl).mono ?_
    rw [HG.out]
    rintro e w' ⟨rfl, hb⟩
    replace HB := hid (below_to HB.out hb)
    replace A0 := hid (A0.out.below hb)
    clear hb
    have ebox0 := A0.out.1
    go_wp2
    go_ret
    exact ⟨ret_bool HO.out.symm, HB.out⟩
  · cases hs : okSet xs s
    · have HG := hid hg
      have HO := hid (okIdeal_no hs)
      have HS := hid hs
      clear hg hs
      go_enter Try.func47, Try.ntmps47
      have HB := hid (below_alloc (Below.refl _ w) (.cells #[v] 28))
      have A0 := hid (At.newAt w v 28 w.heap.size (by simp))
      go_wp2_with fail
      refine (poGood_any _ xs _ (HV.out.below HB.out) hl).mono ?_
      rw [HG.out]
      rintro e w' ⟨rfl, hb⟩
      replace HB := hid (below_to HB.out hb)
      replace A0 := hid (A0.out.below hb)
      clear hb
      have ebox0 := A0.out.1
      go_wp2_with fail
      clear ebox0
      refine (poSet_ok _ xs s _ (HV.out.below HB.out) HG.out).mono ?_
      rw [HS.out]
      rintro e w' ⟨rfl, hb⟩
      replace HB := hid (below_to HB.out hb)
      replace A0 := hid (A0.out.below hb)
      clear hb
      have ebox0 := A0.out.1
      go_wp2
      go_ret
      exact ⟨ret_bool HO.out.symm, HB.out⟩
    · obtain ⟨h1, h2⟩ := okSet_lt hs
      obtain ⟨z, rfl⟩ := Int.eq_ofNat_of_zero_le h1
      have HG := hid hg
      have HO := hid (okIdeal_nat hs)
      have HS := hid hs
      have HM := hid (good_small hg z)
      have hl10 := (good_length hg).2
      clear hg hs
      go_enter Try.func47, Try.ntmps47
      have HB := hid (below_alloc (Below.refl _ w) (.cells #[v] 28))
      have A0 := hid (At.newAt w v 28 w.heap.size (by simp))
      go_wp2_with fail
      refine (poGood_any _ xs _ (HV.out.below HB.out) hl).mono ?_
      rw [HG.out]
      rintro e w' ⟨rfl, hb⟩
      replace HB := hid (below_to HB.out hb)
      replace A0 := hid (A0.out.below hb)
      clear hb
      have ebox0 := A0.out.1
      go_wp2_with fail
      clear ebox0
      refine (poSet_ok _ xs z _ (HV.out.below HB.out) HG.out).mono ?_
      rw [HS.out]
      rintro e w' ⟨rfl, hb⟩
      replace HB := hid (below_to HB.out hb)
      replace A0 := hid (A0.out.below hb)
      clear hb
      have ebox0 := A0.out.1
      go_wp2_with fail
      clear ebox0
      refine (poIdeal_any _ xs z _ (HV.out.below HB.out) hl10 (by omega) HM.out).mono ?_
      rintro e w' ⟨rfl, hb⟩
      replace HB := hid (below_to HB.out hb)
      replace A0 := hid (A0.out.below hb)
      clear hb
      have ebox0 := A0.out.1
      go_wp2
      go_ret
      exact ⟨ret_bool HO.out.symm, HB.out⟩
theorem hasIdeal_any (v : Value) (xs : List Int) (s : Int) (w : World) (hv : Ints w v xs) (hl : xs.length ≤ 1048576) :
    Calls Try.prog 49 #[.agg #[v], .int .i64 s] w fun r w' => r = .returned (.bool (okIdeal xs s)) ∧ Below w.heap.size w w' := by
  have HV := hid hv
  clear hv
  cases hs : okSet xs s
  · have HO := hid (okIdeal_no hs)
    have HS := hid hs
    clear hs
    go_enter Try.func49, Try.ntmps49
    have HB := hid (below_alloc (Below.refl _ w) (.cells #[v] 28))
    have A0 := hid (At.newAt w v 28 w.heap.size (by simp))
    go_wp2_with fail
    refine (hasSet_any _ xs s _ (HV.out.below HB.out) hl).mono ?_
    rw [HS.out]
    rintro e w' ⟨rfl, hb⟩
    replace HB := hid (below_to HB.out hb)
    replace A0 := hid (A0.out.below hb)
    clear hb
    have ebox0 := A0.out.1
    go_wp2
    go_ret
    exact ⟨ret_bool HO.out.symm, HB.out⟩
  · obtain ⟨h1, h2⟩ := okSet_lt hs
    obtain ⟨hg, -⟩ := okSet_good hs
    obtain ⟨z, rfl⟩ := Int.eq_ofNat_of_zero_le h1
    have HO := hid (okIdeal_nat hs)
    have HS := hid hs
    have HM := hid (good_small hg z)
    have hl10 := (good_length hg).2
    clear hg hs
    go_enter Try.func49, Try.ntmps49
    have HB := hid (below_alloc (Below.refl _ w) (.cells #[v] 28))
    have A0 := hid (At.newAt w v 28 w.heap.size (by simp))
    go_wp2_with fail
    refine (hasSet_any _ xs z _ (HV.out.below HB.out) hl).mono ?_
    rw [HS.out]
    rintro e w' ⟨rfl, hb⟩
    replace HB := hid (below_to HB.out hb)
    replace A0 := hid (A0.out.below hb)
    clear hb
    have ebox0 := A0.out.1
    go_wp2_with fail
    clear ebox0
    refine (holdsIdeal_any _ xs z _ (HV.out.below HB.out) hl10 (by omega) HM.out).mono ?_
    rintro e w' ⟨rfl, hb⟩
    replace HB := hid (below_to HB.out hb)
    replace A0 := hid (A0.out.below hb)
    clear hb
    have ebox0 := A0.out.1
    go_wp2
    go_ret
    exact ⟨ret_bool HO.out.symm, HB.out⟩
theorem tgAt_any (v : Value) (xs : List Int) (s e : Nat) (w : World) (hv : Ints w v xs) (hg : good xs = true) (hs : s < 2 ^ xs.length) (he : e < xs.length) :
    Calls Try.prog 84 #[.agg #[v], .int .i64 s, .int .i64 e] w fun r w' => r = .returned (.int .i64 (tog xs s e : Nat)) ∧ Below w.heap.size w w' := by
  have HV := hid hv
  have HS := hid (good_small hg (s ^^^ 2 ^ e))
  have hl10 := (good_length hg).2
  have hx := lt1024 (xor_lt_len hs he) hl10
  have hs10 := lt1024 hs hl10
  have wp := wrap_pow' e (by omega)
  have hxor := xor_pow s e hs10 (by omega)
  clear hv hg hs
  obtain ⟨x, hxe⟩ : ∃ x, s ^^^ 2 ^ e = x := ⟨_, rfl⟩
  rw [hxe] at HS hx hxor
  cases hI : holdsIdeal xs x
  · have HT := hid (show tog xs s e = s from tog_no (by rw [hxe]; exact hI))
    have HI := hid hI
    clear hI hxe
    go_enter Try.func84, Try.ntmps84
    have HB := hid (below_alloc (Below.refl _ w) (.cells #[v] 28))
    have A0 := hid (At.newAt w v 28 w.heap.size (by simp))
    go_wp2_with fail
    refine (poIdeal_any _ xs x _ (HV.out.below HB.out) hl10 hx HS.out).mono ?_
    rw [HI.out]
    rintro e w' ⟨rfl, hb⟩
    replace HB := hid (below_to HB.out hb)
    replace A0 := hid (A0.out.below hb)
    clear hb
    have ebox0 := A0.out.1
    go_wp2
    go_ret
    exact ⟨ret_int (by rw [HT.out]), HB.out⟩
  · have HT := hid (show tog xs s e = x from by rw [tog_yes (by rw [hxe]; exact hI), hxe])
    have HI := hid hI
    clear hI hxe
    go_enter Try.func84, Try.ntmps84
    have HB := hid (below_alloc (Below.refl _ w) (.cells #[v] 28))
    have A0 := hid (At.newAt w v 28 w.heap.size (by simp))
    go_wp2_with fail
    refine (poIdeal_any _ xs x _ (HV.out.below HB.out) hl10 hx HS.out).mono ?_
    rw [HI.out]
    rintro e w' ⟨rfl, hb⟩
    replace HB := hid (below_to HB.out hb)
    replace A0 := hid (A0.out.below hb)
    clear hb
    have ebox0 := A0.out.1
    go_wp2
    go_ret
    exact ⟨ret_int (by rw [HT.out]), HB.out⟩
end Go.Proofs.Ytkalpichninncab
