/- FnExactIsSieved: the law's walk (by genlaw.py). -/
import Derived.Test.YtnlehkjfidpdlaaSvI
import Derived.Deep.DeepCutAuto
namespace Go.Proofs.Ytnlehkjfidpdlaa.lawIsSieved
open Go.RowKit Go.WideShapes Go.ChangeShapes
set_option linter.unusedVariables false
set_option maxHeartbeats 1000000 in
theorem walkLen0 (v0 : Value) (xs0 : List Int) (v1 : Value) (xs1 : List Int) (w : World) (hv0 : Ints w v0 xs0) (hm0 : xs0.length ≤ maxLen) (hv1 : Ints w v1 xs1) (hm1 : xs1.length ≤ maxLen) (hbig : 1048576 < xs0.length) :
    Calls Try.prog 9 #[v0, v1] w fun e w' => e = .returned (.bool true) ∧ Below w.heap.size w w' := by
  obtain ⟨A0, c0, rfl, -⟩ := hv0
  obtain ⟨A1, c1, rfl, -⟩ := hv1
  unfold maxLen at hm0 hm1
  go_enter Try.func9, Try.ntmps9
  go_wp2
  go_ret
  exact ⟨rfl, (Below.refl _ w)⟩
set_option maxHeartbeats 1000000 in
theorem walkLen1 (v0 : Value) (xs0 : List Int) (v1 : Value) (xs1 : List Int) (w : World) (hv0 : Ints w v0 xs0) (hm0 : xs0.length ≤ maxLen) (hv1 : Ints w v1 xs1) (hm1 : xs1.length ≤ maxLen) (hl0 : xs0.length ≤ 1048576) (hbig : 1048576 < xs1.length) :
    Calls Try.prog 9 #[v0, v1] w fun e w' => e = .returned (.bool true) ∧ Below w.heap.size w w' := by
  obtain ⟨A0, c0, rfl, -⟩ := hv0
  obtain ⟨A1, c1, rfl, -⟩ := hv1
  unfold maxLen at hm0 hm1
  go_enter Try.func9, Try.ntmps9
  go_wp2
  go_ret
  exact ⟨rfl, (Below.refl _ w)⟩
set_option maxRecDepth 100000 in
set_option maxHeartbeats 8000000 in
theorem walkSmall (v0 : Value) (xs0 : List Int) (v1 : Value) (xs1 : List Int) (w : World) (hv0 : Ints w v0 xs0) (hm0 : xs0.length ≤ maxLen) (hv1 : Ints w v1 xs1) (hm1 : xs1.length ≤ maxLen) (hl0 : xs0.length ≤ 1048576) (hl1 : xs1.length ≤ 1048576) :
    Calls Try.prog 9 #[v0, v1] w fun e w' => e = .returned (.bool true) ∧ Below w.heap.size w w' := by
  have hv0q := hv0
  obtain ⟨A0, c0, hsh0, -⟩ := hv0q
  subst hsh0
  have hv1q := hv1
  obtain ⟨A1, c1, hsh1, -⟩ := hv1q
  subst hsh1
  have HV0 := hid hv0
  clear hv0
  have HV1 := hid hv1
  clear hv1
  go_enter Try.func9, Try.ntmps9
  go_wp2_with fail
  refine (toIntS_own (.slice A0 xs0.length c0) xs0 _ HV0.out hl0).mono ?_
  rintro e w_1 ⟨u2, rfl, ho4, hb3⟩
  have G5 := hid (below_to (Below.refl _ w) hb3)
  have Z6 := hid (show w.heap.size + 0 ≤ w_1.heap.size by have := hb3.size; first | omega | (simp at this; omega))
  have hn7 := ho4
  obtain ⟨u2A, u2n, u2c, rfl⟩ := hn7.shape3
  have U8 := hid (OwnI.blockLt hn7)
  have F9 := hid hn7
  clear hb3 ho4 hn7
  go_wp2_with fail
  refine (toIntS_own (.slice A1 xs1.length c1) xs1 _ (HV1.out.later G5.out) hl1).mono ?_
  rintro e w_10 ⟨u11, rfl, ho13, hb12⟩
  have F14 := hid (F9.out.below hb12)
  have G15 := hid (below_to G5.out hb12)
  have Z16 := hid (show w_1.heap.size + 0 ≤ w_10.heap.size by have := hb12.size; first | omega | (simp at this; omega))
  have hn17 := ho13
  obtain ⟨u11A, u11n, u11c, rfl⟩ := hn17.shape3
  have U18 := hid (OwnI.blockLt hn17)
  have F19 := hid hn17
  clear F9 G5 hb12 ho13 hn17
  go_wp2_with fail
  refine (specIsSieved_any (Value.slice u2A u2n u2c) xs0 (Value.slice u11A u11n u11c) xs1 _ F14.out.ints hl0 F19.out.ints hl1).mono ?_
  rintro e w_20 ⟨rfl, hb21⟩
  have F22 := hid (F14.out.below hb21)
  have F23 := hid (F19.out.below hb21)
  have G24 := hid (below_to G15.out hb21)
  have Z25 := hid (show w_10.heap.size + 0 ≤ w_20.heap.size by have := hb21.size; first | omega | (simp at this; omega))
  clear F14 F19 G15 hb21
  go_wp2_with fail
  refine (toIntS_own (.slice A0 xs0.length c0) xs0 _ (HV0.out.later G24.out) hl0).mono ?_
  rintro e w_26 ⟨u27, rfl, ho29, hb28⟩
  have F30 := hid (F22.out.below hb28)
  have F31 := hid (F23.out.below hb28)
  have G32 := hid (below_to G24.out hb28)
  have Z33 := hid (show w_20.heap.size + 0 ≤ w_26.heap.size by have := hb28.size; first | omega | (simp at this; omega))
  have hn34 := ho29
  obtain ⟨u27A, u27n, u27c, rfl⟩ := hn34.shape3
  have U35 := hid (OwnI.blockLt hn34)
  have F36 := hid hn34
  clear F22 F23 G24 hb28 ho29 hn34
  go_wp2_with fail
  refine (toIntS_own (.slice A1 xs1.length c1) xs1 _ (HV1.out.later G32.out) hl1).mono ?_
  rintro e w_37 ⟨u38, rfl, ho40, hb39⟩
  have F41 := hid (F30.out.below hb39)
  have F42 := hid (F31.out.below hb39)
  have F43 := hid (F36.out.below hb39)
  have G44 := hid (below_to G32.out hb39)
  have Z45 := hid (show w_26.heap.size + 0 ≤ w_37.heap.size by have := hb39.size; first | omega | (simp at this; omega))
  have hn46 := ho40
  obtain ⟨u38A, u38n, u38c, rfl⟩ := hn46.shape3
  have U47 := hid (OwnI.blockLt hn46)
  have F48 := hid hn46
  clear F30 F31 F36 G32 hb39 ho40 hn46
  go_wp2_with fail
  refine (implIsSieved_any (Value.slice u27A u27n u27c) xs0 (Value.slice u38A u38n u38c) xs1 _ F43.out.ints hl0 F48.out.ints hl1).mono ?_
  rintro e w_49 ⟨rfl, hb50⟩
  have F51 := hid (F41.out.below hb50)
  have F52 := hid (F42.out.below hb50)
  have F53 := hid (F43.out.below hb50)
  have F54 := hid (F48.out.below hb50)
  have G55 := hid (below_to G44.out hb50)
  have Z56 := hid (show w_37.heap.size + 0 ≤ w_49.heap.size by have := hb50.size; first | omega | (simp at this; omega))
  clear F41 F42 F43 F48 G44 hb50
  go_wp2_with fail
  refine (toIntS_own (.slice A0 xs0.length c0) xs0 _ (HV0.out.later G55.out) hl0).mono ?_
  rintro e w_57 ⟨u58, rfl, ho60, hb59⟩
  have F61 := hid (F51.out.below hb59)
  have F62 := hid (F52.out.below hb59)
  have F63 := hid (F53.out.below hb59)
  have F64 := hid (F54.out.below hb59)
  have G65 := hid (below_to G55.out hb59)
  have Z66 := hid (show w_49.heap.size + 0 ≤ w_57.heap.size by have := hb59.size; first | omega | (simp at this; omega))
  have hn67 := ho60
  obtain ⟨u58A, u58n, u58c, rfl⟩ := hn67.shape3
  have U68 := hid (OwnI.blockLt hn67)
  have F69 := hid hn67
  clear F51 F52 F53 F54 G55 hb59 ho60 hn67
  go_wp2_with fail
  refine (eqIntS_any _ _ (xs0) _ F63.out.ints F69.out.ints hl0).mono ?_
  rintro e w_70 ⟨rfl, hb71⟩
  have F72 := hid (F61.out.below hb71)
  have F73 := hid (F62.out.below hb71)
  have F74 := hid (F63.out.below hb71)
  have F75 := hid (F64.out.below hb71)
  have F76 := hid (F69.out.below hb71)
  have G77 := hid (below_to G65.out hb71)
  have Z78 := hid (show w_57.heap.size + 0 ≤ w_70.heap.size by have := hb71.size; first | omega | (simp at this; omega))
  clear F61 F62 F63 F64 F69 G65 hb71
  go_wp2_with fail
  refine (toIntS_own (.slice A1 xs1.length c1) xs1 _ (HV1.out.later G77.out) hl1).mono ?_
  rintro e w_79 ⟨u80, rfl, ho82, hb81⟩
  have F83 := hid (F72.out.below hb81)
  have F84 := hid (F73.out.below hb81)
  have F85 := hid (F74.out.below hb81)
  have F86 := hid (F75.out.below hb81)
  have F87 := hid (F76.out.below hb81)
  have G88 := hid (below_to G77.out hb81)
  have Z89 := hid (show w_70.heap.size + 0 ≤ w_79.heap.size by have := hb81.size; first | omega | (simp at this; omega))
  have hn90 := ho82
  obtain ⟨u80A, u80n, u80c, rfl⟩ := hn90.shape3
  have U91 := hid (OwnI.blockLt hn90)
  have F92 := hid hn90
  clear F72 F73 F74 F75 F76 G77 hb81 ho82 hn90
  go_wp2_with fail
  refine (eqIntS_any _ _ (xs1) _ F86.out.ints F92.out.ints hl1).mono ?_
  rintro e w_93 ⟨rfl, hb94⟩
  have F95 := hid (F83.out.below hb94)
  have F96 := hid (F84.out.below hb94)
  have F97 := hid (F85.out.below hb94)
  have F98 := hid (F86.out.below hb94)
  have F99 := hid (F87.out.below hb94)
  have F100 := hid (F92.out.below hb94)
  have G101 := hid (below_to G88.out hb94)
  have Z102 := hid (show w_79.heap.size + 0 ≤ w_93.heap.size by have := hb94.size; first | omega | (simp at this; omega))
  clear F83 F84 F85 F86 F87 F92 G88 hb94
  go_wp2
  go_ret
  exact ⟨rfl, G101.out⟩
theorem walk (v0 : Value) (xs0 : List Int) (v1 : Value) (xs1 : List Int) (w : World) (hv0 : Ints w v0 xs0) (hm0 : xs0.length ≤ maxLen) (hv1 : Ints w v1 xs1) (hm1 : xs1.length ≤ maxLen) :
    Calls Try.prog 9 #[v0, v1] w fun e w' => e = .returned (.bool true) ∧ Below w.heap.size w w' := by
  by_cases hl0 : 1048576 < xs0.length
  · exact walkLen0 v0 xs0 v1 xs1 w hv0 hm0 hv1 hm1  hl0
  by_cases hl1 : 1048576 < xs1.length
  · exact walkLen1 v0 xs0 v1 xs1 w hv0 hm0 hv1 hm1 (by omega) hl1
  exact walkSmall v0 xs0 v1 xs1 w hv0 hm0 hv1 hm1 (by omega) (by omega) 
end Go.Proofs.Ytnlehkjfidpdlaa.lawIsSieved
