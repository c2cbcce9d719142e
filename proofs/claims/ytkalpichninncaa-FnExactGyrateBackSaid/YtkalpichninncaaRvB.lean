/- GyrateBack in the program. -/
import Derived.Test.YtkalpichninncaaRvK
import Derived.Test.YtkalpichninncaaRvV
namespace Go.Proofs.Ytkalpichninncaa
open Go.RowKit Go.WideShapes Go.ChangeShapes
set_option linter.unusedVariables false

theorem und_SR (v : Value) (ys : List Int) (w0 : World) (b : Nat) (W : World) (hv : Ints W v ys) (hl : ys.length ≤ 1048576) (vp : Value) (hS : SR w0 b vp W) :
    Calls Try.prog 56 #[.iface 52 v] W fun (r : Ending) w' => ∃ u, r = Ending.returned (.iface 52 u) ∧ Ints w' u ys.reverse ∧ SR w0 b vp w' :=
  (undoneWord_any v ys W hv hl).mono fun _ _ ⟨u, h1, h2, h3⟩ => ⟨u, h1, h2, hS.to h3⟩
theorem inW_rev {n : Nat} {ys : List Int} (h : inW n ys = true) : inW n ys.reverse = true := by
  unfold inW at *
  rw [List.all_reverse]; exact h
set_option maxHeartbeats 1600000 in
theorem implGyrateBack_any (v : Value) (xs : List Int) (s : Int) (w : World) (hv : Ints w v xs) (hl : xs.length ≤ 1048576) (wf : (Lit.int .i64 s).wf = true) :
    Calls Try.prog 34 #[.agg #[v], .int .i64 s] w fun r w' => r = .returned (.tuple #[.int .i64 (ansGB xs s), .bool (okRI xs s)]) ∧ Below w.heap.size w w' := by
  have HV := hid hv
  clear hv wf
  go_enter Try.func34, Try.ntmps34
  have HB := hid (below_alloc (Below.refl _ w) (.cells #[v] 28))
  have A0 := hid (At.newAt w v 28 w.heap.size (by simp))
  go_wp2_with fail
  refine (implRanksOf_any _ xs _ (HV.out.below HB.out) hl).mono ?_
  rintro e w' ⟨q, rfl, ho, -, hb⟩
  replace HB := hid (below_to HB.out hb)
  replace A0 := hid (A0.out.below hb)
  clear hb
  cases hk : okRk xs
  · have HO := hid (okRI_no (s := s) hk)
    clear hk
    obtain ⟨qA, qn, qc, rfl⟩ := ho.shape3
    clear ho
    have ebox0 := A0.out.1
    go_wp2
    go_ret2
    exact ⟨ret_ib (ansGB_no HO.out).symm HO.out.symm, HB.out⟩
  · have HK := hid hk
    rw [ansRO_yes hk] at ho
    obtain ⟨hg, hr⟩ := okRk_good hk
    obtain ⟨h, hh, h9⟩ := rkN_some hg
    have HQ := hid ho.ints
    have HG := hid hg
    have HH := hid hh
    clear hk ho hg hr hh
    have ebox0 := A0.out.1
    go_wp2_with fail
    clear ebox0
    refine (hasIdeal_any _ xs s _ (HV.out.below HB.out) hl).mono ?_
    rintro e w' ⟨rfl, hb⟩
    replace HB := hid (below_to HB.out hb)
    replace A0 := hid (A0.out.below hb)
    replace HQ := hid (HQ.out.below hb)
    clear hb
    cases hi : okIdeal xs s
    · have HO : Hid (okRI xs s = false) := hid (by rw [okRI_yes HK.out]; exact hi)
      clear hi
      have ebox0 := A0.out.1
      go_wp2
      go_ret2
      exact ⟨ret_ib (ansGB_no HO.out).symm HO.out.symm, HB.out⟩
    · have HO : Hid (okRI xs s = true) := hid (by rw [okRI_yes HK.out]; exact hi)
      obtain ⟨z, rfl, _, hz, _⟩ := okIdeal_all hi
      have HZ := hid hz
      have HAn := hid (ansGB_yes HO.out HH.out)
      have HEl := hid (inW_rev (inW_rkW HG.out (show inW (rkN xs) (wGyr h) = true from inW_wGyr (by rw [HH.out]; omega))))
      have HLn := hid (rkW_length (rankL xs) (wGyr h))
      have HLw := hid (wGyr_length h9)
      have HSm := hid (rank_small HG.out)
      have HRl : Hid ((rankL xs).length = h + 1) := hid (by rw [rankL_length, HH.out])
      have HV1 := hid (HV.out.below HB.out)
      have HS := hid (show SR w' w.heap.size v w' from ⟨A0.out, Below.refl _ _⟩)
      have hbx := A0.out.1
      clear hi hz
      go_wp2_with fail
      go_region_held3 (fun W => W.cell? ⟨w.heap.size, 0, none⟩ = some v ∧ Hid (SR w' w.heap.size v W)) (first | exact ⟨HS4.out.at_.1, HS4⟩ | exact ⟨HS3.out.at_.1, HS3⟩ | exact ⟨HS2.out.at_.1, HS2⟩ | exact ⟨HS.out.drew.at_.1, hid HS.out.drew⟩) (first | (go_at_call 57; refine (sTGyr_SR _ (rankL xs) h w' w.heap.size _ HQ.out HRl.out h9 HSm.out v (Hid.out (by first | assumption | exact hid HS.out.drew))).mono ?_; rintro e' w4 ⟨q4, rfl, hu4, hs4⟩; have HU4 := hid hu4; have HS2 := hid hs4; clear hu4 hs4) | (go_at_call 56; refine (und_SR _ _ w' w.heap.size _ HU4.out (by have := HLn.out; have := HLw.out; omega) v HS2.out).mono ?_; rintro e' w5 ⟨q5, rfl, hu5, hs5⟩; have HU5 := hid hu5; have HS3 := hid hs5; clear hu5 hs5) | (go_at_call 48; refine (step_SR v _ xs _ w' w.heap.size z _ HV1.out HU5.out HG.out HZ.out HEl.out (by rw [List.length_reverse]; have := HLn.out; have := HLw.out; omega) HS3.out).mono ?_; rintro e' w6 ⟨rfl, hs6⟩; have HS4 := hid hs6; clear hs6))
      have HB3 := hid (below_to HB.out HS4.out.below)
      clear hbx
      go_wp2
      go_ret2
      exact ⟨ret_ib HAn.out.symm HO.out.symm, HB3.out⟩
end Go.Proofs.Ytkalpichninncaa
