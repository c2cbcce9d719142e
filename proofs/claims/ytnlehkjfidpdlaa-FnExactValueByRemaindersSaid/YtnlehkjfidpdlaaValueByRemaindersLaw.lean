/- FnExactValueByRemainders: the law's walk (by genlaw.py). -/
import Derived.Test.YtnlehkjfidpdlaaSvV
import Derived.Deep.DeepCutAuto
namespace Go.Proofs.Ytnlehkjfidpdlaa.lawValueByRemainders
open Go.RowKit Go.WideShapes Go.ChangeShapes
set_option linter.unusedVariables false
set_option maxHeartbeats 1000000 in
theorem walkLen0 (v0 : Value) (xs0 : List Int) (n1 : Int) (w : World) (hv0 : Ints w v0 xs0) (hm0 : xs0.length ≤ maxLen) (wf1 : (Lit.int .i64 n1).wf = true) (hbig : 1048576 < xs0.length) :
    Calls Try.prog 7 #[v0, .int .i64 n1] w fun e w' => e = .returned (.bool true) ∧ Below w.heap.size w w' := by
  obtain ⟨A0, c0, rfl, -⟩ := hv0
  unfold maxLen at hm0
  go_enter Try.func7, Try.ntmps7
  go_wp2
  go_ret
  exact ⟨rfl, (Below.refl _ w)⟩
set_option maxRecDepth 100000 in
set_option maxHeartbeats 8000000 in
theorem walkSmall (v0 : Value) (xs0 : List Int) (n1 : Int) (w : World) (hv0 : Ints w v0 xs0) (hm0 : xs0.length ≤ maxLen) (wf1 : (Lit.int .i64 n1).wf = true) (hl0 : xs0.length ≤ 1048576) :
    Calls Try.prog 7 #[v0, .int .i64 n1] w fun e w' => e = .returned (.bool true) ∧ Below w.heap.size w w' := by
  have hv0q := hv0
  obtain ⟨A0, c0, hsh0, -⟩ := hv0q
  subst hsh0
  have HV0 := hid hv0
  clear hv0
  have WF1 := hid wf1
  clear wf1
  go_enter Try.func7, Try.ntmps7
  go_wp2_with fail
  refine (toIntS_own (.slice A0 xs0.length c0) xs0 _ HV0.out hl0).mono ?_
  rintro e w_1 ⟨u2, rfl, ho4, hb3⟩
  have G5 := hid (below_to (Below.refl _ w) hb3)
  have Z6 := hid (show w.heap.size + 0 ≤ w_1.heap.size by have := hb3.size; first | omega | (simp at this; omega))
  have hn7 := ho4
  obtain ⟨u2A, u2n, u2c, rfl⟩ := hn7.shape3
  have U8 := hid (OwnI.blockLt hn7)
  have F9 := hid hn7
  clear hb3 ho4 hn7
  go_wp2_with fail
  refine (specValueByRemainders_any (Value.slice u2A u2n u2c) xs0 n1 _ F9.out.ints hl0 WF1.out).mono ?_
  rintro e w_10 ⟨rfl, hb11⟩
  have F12 := hid (F9.out.below hb11)
  have G13 := hid (below_to G5.out hb11)
  have Z14 := hid (show w_1.heap.size + 0 ≤ w_10.heap.size by have := hb11.size; first | omega | (simp at this; omega))
  clear F9 G5 hb11
  go_wp2_with fail
  refine (toIntS_own (.slice A0 xs0.length c0) xs0 _ (HV0.out.later G13.out) hl0).mono ?_
  rintro e w_15 ⟨u16, rfl, ho18, hb17⟩
  have F19 := hid (F12.out.below hb17)
  have G20 := hid (below_to G13.out hb17)
  have Z21 := hid (show w_10.heap.size + 0 ≤ w_15.heap.size by have := hb17.size; first | omega | (simp at this; omega))
  have hn22 := ho18
  obtain ⟨u16A, u16n, u16c, rfl⟩ := hn22.shape3
  have U23 := hid (OwnI.blockLt hn22)
  have F24 := hid hn22
  clear F12 G13 hb17 ho18 hn22
  go_wp2_with fail
  refine (implValueByRemainders_any (Value.slice u16A u16n u16c) xs0 n1 _ F24.out.ints hl0 WF1.out).mono ?_
  rintro e w_25 ⟨rfl, hb26⟩
  have F27 := hid (F19.out.below hb26)
  have F28 := hid (F24.out.below hb26)
  have G29 := hid (below_to G20.out hb26)
  have Z30 := hid (show w_15.heap.size + 0 ≤ w_25.heap.size by have := hb26.size; first | omega | (simp at this; omega))
  clear F19 F24 G20 hb26
  go_wp2_with fail
  refine (toIntS_own (.slice A0 xs0.length c0) xs0 _ (HV0.out.later G29.out) hl0).mono ?_
  rintro e w_31 ⟨u32, rfl, ho34, hb33⟩
  have F35 := hid (F27.out.below hb33)
  have F36 := hid (F28.out.below hb33)
  have G37 := hid (below_to G29.out hb33)
  have Z38 := hid (show w_25.heap.size + 0 ≤ w_31.heap.size by have := hb33.size; first | omega | (simp at this; omega))
  have hn39 := ho34
  obtain ⟨u32A, u32n, u32c, rfl⟩ := hn39.shape3
  have U40 := hid (OwnI.blockLt hn39)
  have F41 := hid hn39
  clear F27 F28 G29 hb33 ho34 hn39
  go_wp2_with fail
  refine (eqIntS_any _ _ (xs0) _ F36.out.ints F41.out.ints hl0).mono ?_
  rintro e w_42 ⟨rfl, hb43⟩
  have F44 := hid (F35.out.below hb43)
  have F45 := hid (F36.out.below hb43)
  have F46 := hid (F41.out.below hb43)
  have G47 := hid (below_to G37.out hb43)
  have Z48 := hid (show w_31.heap.size + 0 ≤ w_42.heap.size by have := hb43.size; first | omega | (simp at this; omega))
  clear F35 F36 F41 G37 hb43
  go_wp2
  go_ret
  exact ⟨rfl, G47.out⟩
theorem walk (v0 : Value) (xs0 : List Int) (n1 : Int) (w : World) (hv0 : Ints w v0 xs0) (hm0 : xs0.length ≤ maxLen) (wf1 : (Lit.int .i64 n1).wf = true) :
    Calls Try.prog 7 #[v0, .int .i64 n1] w fun e w' => e = .returned (.bool true) ∧ Below w.heap.size w w' := by
  by_cases hl0 : 1048576 < xs0.length
  · exact walkLen0 v0 xs0 n1 w hv0 hm0 wf1  hl0
  exact walkSmall v0 xs0 n1 w hv0 hm0 wf1 (by omega) 
end Go.Proofs.Ytnlehkjfidpdlaa.lawValueByRemainders
