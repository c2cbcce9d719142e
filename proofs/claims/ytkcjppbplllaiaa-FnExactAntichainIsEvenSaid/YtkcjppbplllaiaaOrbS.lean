/- OrbitOf, SizeOf, OrbitSum, AntichainSum: contracts. -/
import Derived.Test.YtkcjppbplllaiaaOrbC
import Derived.Test.YtkcjppbplllaiaaSize
import Derived.Test.YtkcjppbplllaiaaTg2
namespace Go.Proofs.Ytkcjppbplllaiaa
open Go.RowKit Go.WideShapes Go.ChangeShapes
set_option linter.unusedVariables false

theorem ret_vb' {u : Value} {a b : Bool} (h : a = b) : Ending.returned (.tuple #[u, .bool a]) = .returned (.tuple #[u, .bool b]) := by rw [h]
def orbXs (xs : List Int) (s : Nat) : List Int := orbL (rowmo xs) (2 ^ xs.length) s
def ansOO (xs : List Int) (s : Int) : List Int := if okIdeal xs s then orbXs xs s.toNat else []
theorem ansOO_no {xs : List Int} {s : Int} (h : okIdeal xs s = false) : ansOO xs s = [] := by simp [ansOO, h]
theorem ansOO_yes {xs : List Int} {z : Nat} (h : okIdeal xs z = true) : ansOO xs z = orbXs xs z := by simp [ansOO, h]
theorem okIdeal_idB {xs : List Int} {s : Int} (h : okIdeal xs s = true) : ∃ z : Nat, s = (z : Int) ∧ good xs = true ∧ idB xs z = true := by
  obtain ⟨z, rfl, h1, h2, h3⟩ := okIdeal_all h
  exact ⟨z, rfl, h1, idB_iff.2 ⟨h2, h3⟩⟩
theorem orbXs_length {xs : List Int} {z : Nat} (hg : good xs = true) (hz : idB xs z = true) : 1 ≤ (orbXs xs z).length ∧ (orbXs xs z).length ≤ 1024 := by
  obtain ⟨h1, h2, h3, h4⟩ := (rowMov hg).perS hz
  have := (two_pow_le _ (good_length hg).2).2
  unfold orbXs
  rw [orbL_length]
  omega
theorem orbXs_at {xs : List Int} {z : Nat} (hg : good xs = true) (hz : idB xs z = true) (j : Nat) (hj : j < (orbXs xs z).length) : ∃ s : Nat, (orbXs xs z).getD j 0 = (s : Int) ∧ s < 1024 := by
  have := (two_pow_le _ (good_length hg).2).2
  unfold orbXs at hj ⊢
  rw [orbL_length] at hj
  have h1 := (idB_iff.1 ((rowMov hg).it hz j)).1
  exact ⟨_, orbTL_get _ _ hj, by omega⟩
theorem ansOO_length (xs : List Int) (s : Int) : (ansOO xs s).length ≤ 1024 := by
  cases h : okIdeal xs s
  · rw [ansOO_no h]; simp
  · obtain ⟨z, rfl, h1, h2⟩ := okIdeal_idB h
    rw [ansOO_yes h]; exact (orbXs_length h1 h2).2
theorem ansOO_at (xs : List Int) (s : Int) (j : Nat) (hj : j < (ansOO xs s).length) : ∃ t : Nat, (ansOO xs s).getD j 0 = (t : Int) ∧ t < 1024 := by
  cases h : okIdeal xs s
  · rw [ansOO_no h] at hj; simp at hj
  · obtain ⟨z, rfl, h1, h2⟩ := okIdeal_idB h
    rw [ansOO_yes h] at hj ⊢; exact orbXs_at h1 h2 j hj
theorem specOrbitOf_any (v : Value) (xs : List Int) (s : Int) (w : World) (hv : Ints w v xs) (hl : xs.length ≤ 1048576) (wf : (Lit.int .i64 s).wf = true) :
    Calls Try.prog 16 #[.agg #[v], .int .i64 s] w fun (r : Ending) w' => ∃ q, r = Ending.returned (.tuple #[q, .bool (okIdeal xs s)]) ∧ OwnI 3 w' w.heap.size q (ansOO xs s) ∧ (ansOO xs s).length ≤ 1048576 ∧ Below w.heap.size w w' := by
  have HV := hid hv
  have HL := hid (Nat.le_trans (ansOO_length xs s) (by omega : 1024 ≤ 1048576))
  clear hv wf
  go_enter Try.func16, Try.ntmps16
  have HB := hid (below_alloc (Below.refl _ w) (.cells #[v] 28))
  have A0 := hid (At.newAt w v 28 w.heap.size (by simp))
  go_wp2_with fail
  refine (tgIn_any _ xs s _ (HV.out.below HB.out) hl).mono ?_
  rintro e w' ⟨rfl, hb⟩
  replace HB := hid (below_to HB.out hb)
  replace A0 := hid (A0.out.below hb)
  clear hb
  cases hq : okIdeal xs s
  · have HO := hid hq
    clear hq
    have ebox0 := A0.out.1
    go_wp2
    go_ret2
    exact ⟨_, ret_vb' HO.out.symm, by rw [ansOO_no HO.out]; exact OwnI.nil _ _ _, HL.out, HB.out⟩
  · have HO := hid hq
    clear hq
    obtain ⟨z, rfl, h1, h2⟩ := okIdeal_idB HO.out
    have HG := hid h1
    have HI := hid h2
    have hz := HB.out.size
    clear h1 h2
    have ebox0 := A0.out.1
    go_wp2_with fail
    clear ebox0
    refine (obOrbit_any _ xs z _ (HV.out.below HB.out) HG.out HI.out).mono ?_
    rintro e w' ⟨q, rfl, ho, hb⟩
    replace HB := hid (below_to HB.out hb)
    replace A0 := hid (A0.out.below hb)
    clear hb
    have ebox0 := A0.out.1
    go_wp2
    go_ret2
    exact ⟨_, ret_vb' HO.out.symm, by rw [ansOO_yes HO.out]; exact ho.mono hz, HL.out, HB.out⟩
theorem implOrbitOf_any (v : Value) (xs : List Int) (s : Int) (w : World) (hv : Ints w v xs) (hl : xs.length ≤ 1048576) (wf : (Lit.int .i64 s).wf = true) :
    Calls Try.prog 18 #[.agg #[v], .int .i64 s] w fun (r : Ending) w' => ∃ q, r = Ending.returned (.tuple #[q, .bool (okIdeal xs s)]) ∧ OwnI 3 w' w.heap.size q (ansOO xs s) ∧ (ansOO xs s).length ≤ 1048576 ∧ Below w.heap.size w w' := by
  have HV := hid hv
  have HL := hid (Nat.le_trans (ansOO_length xs s) (by omega : 1024 ≤ 1048576))
  clear hv wf
  go_enter Try.func18, Try.ntmps18
  have HB := hid (below_alloc (Below.refl _ w) (.cells #[v] 28))
  have A0 := hid (At.newAt w v 28 w.heap.size (by simp))
  go_wp2_with fail
  refine (hasIdeal_any _ xs s _ (HV.out.below HB.out) hl).mono ?_
  rintro e w' ⟨rfl, hb⟩
  replace HB := hid (below_to HB.out hb)
  replace A0 := hid (A0.out.below hb)
  clear hb
  cases hq : okIdeal xs s
  · have HO := hid hq
    clear hq
    have ebox0 := A0.out.1
    go_wp2
    go_ret2
    exact ⟨_, ret_vb' HO.out.symm, by rw [ansOO_no HO.out]; exact OwnI.nil _ _ _, HL.out, HB.out⟩
  · have HO := hid hq
    clear hq
    obtain ⟨z, rfl, h1, h2⟩ := okIdeal_idB HO.out
    have HG := hid h1
    have HI := hid h2
    have hz := HB.out.size
    clear h1 h2
    have ebox0 := A0.out.1
    go_wp2_with fail
    clear ebox0
    refine (orbitRow_any _ xs z _ (HV.out.below HB.out) HG.out HI.out).mono ?_
    rintro e w' ⟨q, rfl, ho, hb⟩
    replace HB := hid (below_to HB.out hb)
    replace A0 := hid (A0.out.below hb)
    clear hb
    have ebox0 := A0.out.1
    go_wp2
    go_ret2
    exact ⟨_, ret_vb' HO.out.symm, by rw [ansOO_yes HO.out]; exact ho.mono hz, HL.out, HB.out⟩

/-! ### sizes -/
def ansSz (xs : List Int) (s : Int) : Int := if okSet xs s then (pc s.toNat : Int) else 0
theorem ansSz_no {xs : List Int} {s : Int} (h : okSet xs s = false) : ansSz xs s = 0 := by simp [ansSz, h]
theorem ansSz_yes {xs : List Int} {z : Nat} (h : okSet xs z = true) : ansSz xs z = (pc z : Int) := by simp [ansSz, h]
theorem specSizeOf_any (v : Value) (xs : List Int) (s : Int) (w : World) (hv : Ints w v xs) (hl : xs.length ≤ 1048576) (wf : (Lit.int .i64 s).wf = true) :
    Calls Try.prog 33 #[.agg #[v], .int .i64 s] w fun r w' => r = .returned (.tuple #[.int .i64 (ansSz xs s), .bool (okSet xs s)]) ∧ Below w.heap.size w w' := by
  have HV := hid hv
  clear hv wf
  go_enter Try.func33, Try.ntmps33
  have HB := hid (below_alloc (Below.refl _ w) (.cells #[v] 28))
  have A0 := hid (At.newAt w v 28 w.heap.size (by simp))
  go_wp2_with fail
  refine (poGood_any _ xs _ (HV.out.below HB.out) hl).mono ?_
  rintro e w' ⟨rfl, hb⟩
  replace HB := hid (below_to HB.out hb)
  replace A0 := hid (A0.out.below hb)
  clear hb
  cases hq : good xs
  · have HO := hid (okSet_no (s := s) hq)
    clear hq
    have ebox0 := A0.out.1
    go_wp2
    go_ret2
    exact ⟨ret_ib (ansSz_no HO.out).symm HO.out.symm, HB.out⟩
  · have HG := hid hq
    clear hq
    have ebox0 := A0.out.1
    go_wp2_with fail
    clear ebox0
    refine (poSet_ok _ xs s _ (HV.out.below HB.out) HG.out).mono ?_
    rintro e w' ⟨rfl, hb⟩
    replace HB := hid (below_to HB.out hb)
    replace A0 := hid (A0.out.below hb)
    clear hb
    cases hk : okSet xs s
    · have HO := hid hk
      clear hk
      have ebox0 := A0.out.1
      go_wp2
      go_ret2
      exact ⟨ret_ib (ansSz_no HO.out).symm (by rw [HO.out]), HB.out⟩
    · have HO := hid hk
      obtain ⟨h1, h2⟩ := okSet_lt hk
      clear hk
      obtain ⟨z, rfl⟩ := Int.eq_ofNat_of_zero_le h1
      go_wp2_with (go_at_call 66; refine (obSize_any z _ (by omega)).mono ?_; rintro e w' ⟨rfl, rfl⟩)
      go_ret2
      exact ⟨ret_ib (ansSz_yes HO.out).symm (by rw [HO.out]), HB.out⟩
theorem implSizeOf_any (v : Value) (xs : List Int) (s : Int) (w : World) (hv : Ints w v xs) (hl : xs.length ≤ 1048576) (wf : (Lit.int .i64 s).wf = true) :
    Calls Try.prog 34 #[.agg #[v], .int .i64 s] w fun r w' => r = .returned (.tuple #[.int .i64 (ansSz xs s), .bool (okSet xs s)]) ∧ Below w.heap.size w w' := by
  have HV := hid hv
  clear hv wf
  go_enter Try.func34, Try.ntmps34
  have HB := hid (below_alloc (Below.refl _ w) (.cells #[v] 28))
  have A0 := hid (At.newAt w v 28 w.heap.size (by simp))
  go_wp2_with fail
  refine (hasSet_any _ xs s _ (HV.out.below HB.out) hl).mono ?_
  rintro e w' ⟨rfl, hb⟩
  replace HB := hid (below_to HB.out hb)
  replace A0 := hid (A0.out.below hb)
  clear hb
  cases hk : okSet xs s
  · have HO := hid hk
    clear hk
    have ebox0 := A0.out.1
    go_wp2
    go_ret2
    exact ⟨ret_ib (ansSz_no HO.out).symm (by rw [HO.out]), HB.out⟩
  · have HO := hid hk
    obtain ⟨h1, h2⟩ := okSet_lt hk
    clear hk
    obtain ⟨z, rfl⟩ := Int.eq_ofNat_of_zero_le h1
    go_wp2_with (go_at_call 68; refine (sizeOf_any z _ (by omega)).mono ?_; rintro e w' ⟨rfl, rfl⟩)
    go_ret2
    exact ⟨ret_ib (ansSz_yes HO.out).symm (by rw [HO.out]), HB.out⟩
end Go.Proofs.Ytkcjppbplllaiaa
