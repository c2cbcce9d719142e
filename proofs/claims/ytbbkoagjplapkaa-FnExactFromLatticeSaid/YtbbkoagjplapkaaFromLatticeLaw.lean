/- FnExactFromLattice: the law's walk (by genlaw.py). -/
import Derived.Test.YtbbkoagjplapkaaLatS
import Derived.Test.YtbbkoagjplapkaaLatI
import Derived.Test.YtbbkoagjplapkaaNest2
import Derived.Deep.DeepCutAuto
namespace Go.Proofs.Ytbbkoagjplapkaa.lawFromLattice
open Go.RowKit Go.WideShapes Go.ChangeShapes
set_option linter.unusedVariables false
set_option maxHeartbeats 1000000 in
theorem walkLen0 (v0 : Value) (xs0 : List Int) (w : World) (hv0 : Ints w v0 xs0) (hm0 : xs0.length ≤ maxLen) (hbig : 1048576 < xs0.length) :
    Calls Try.prog 14 #[v0] w fun e w' => e = .returned (.bool true) ∧ Below w.heap.size w w' := by
  obtain ⟨A0, c0, rfl, -⟩ := hv0
  unfold maxLen at hm0
  go_enter Try.func14, Try.ntmps14
  go_wp2
  go_ret
  exact ⟨rfl, (Below.refl _ w)⟩
set_option maxRecDepth 100000 in
set_option maxHeartbeats 8000000 in
theorem walkSmall (v0 : Value) (xs0 : List Int) (w : World) (hv0 : Ints w v0 xs0) (hm0 : xs0.length ≤ maxLen) (hl0 : xs0.length ≤ 1048576) :
    Calls Try.prog 14 #[v0] w fun e w' => e = .returned (.bool true) ∧ Below w.heap.size w w' := by
  have hv0q := hv0
  obtain ⟨A0, c0, hsh0, -⟩ := hv0q
  subst hsh0
  have HV0 := hid hv0
  clear hv0
  go_enter Try.func14, Try.ntmps14
  go_wp2_with fail
  refine (toIntS_own (.slice A0 xs0.length c0) xs0 _ HV0.out hl0).mono ?_
  rintro e w_1 ⟨u2, rfl, ho4, hb3⟩
  have G5 := hid (below_to (Below.refl _ w) hb3)
  have Z6 := hid (show w.heap.size + 0 ≤ w_1.heap.size by have := hb3.size; first | omega | (simp at this; omega))
  have hn7 := ho4
  obtain ⟨u2A, u2n, u2c, rfl⟩ := hn7.shape3
  have U8 := hid (OwnI.blockLt hn7)
  have F9 := hid hn7
  clear hb3 ho4 hn7
  go_wp2_with fail
  refine (specFromLattice_any (Value.slice u2A u2n u2c) xs0 _ F9.out.ints hl0).mono ?_
  rintro e w_10 ⟨u12, rfl, ho13, hl14, hb11⟩
  have F15 := hid (F9.out.below hb11)
  have G16 := hid (below_to G5.out hb11)
  have Z17 := hid (show w_1.heap.size + 0 ≤ w_10.heap.size by have := hb11.size; first | omega | (simp at this; omega))
  have hn18 := ho13
  have HL19 := hid hl14
  obtain ⟨u12A, u12n, u12c, rfl⟩ := hn18.shape3
  have F20 := hid hn18
  clear F9 G5 hb11 hn18 ho13 hl14
  go_wp2_with fail
  refine (toIntS_own (.slice A0 xs0.length c0) xs0 _ (HV0.out.later G16.out) hl0).mono ?_
  rintro e w_21 ⟨u22, rfl, ho24, hb23⟩
  have F25 := hid (F15.out.below hb23)
  have F26 := hid (F20.out.below hb23)
  have G27 := hid (below_to G16.out hb23)
  have Z28 := hid (show w_10.heap.size + 0 ≤ w_21.heap.size by have := hb23.size; first | omega | (simp at this; omega))
  have hn29 := ho24
  obtain ⟨u22A, u22n, u22c, rfl⟩ := hn29.shape3
  have U30 := hid (OwnI.blockLt hn29)
  have F31 := hid hn29
  clear F15 F20 G16 hb23 ho24 hn29
  go_wp2_with fail
  refine (implFromLattice_any (Value.slice u22A u22n u22c) xs0 _ F31.out.ints hl0).mono ?_
  rintro e w_32 ⟨u34, rfl, ho35, hl36, hb33⟩
  have F37 := hid (F25.out.below hb33)
  have F38 := hid (F26.out.below hb33)
  have F39 := hid (F31.out.below hb33)
  have G40 := hid (below_to G27.out hb33)
  have Z41 := hid (show w_21.heap.size + 0 ≤ w_32.heap.size by have := hb33.size; first | omega | (simp at this; omega))
  have hn42 := ho35
  have HL43 := hid hl36
  obtain ⟨u34A, u34n, u34c, rfl⟩ := hn42.shape3
  have F44 := hid hn42
  clear F25 F26 F31 G27 hb33 hn42 ho35 hl36
  go_wp2_with fail
  refine (eqIntSS_any _ _ ((ansFL xs0)) _ F44.out.ints F38.out.ints HL43.out.1 HL43.out.2.1).mono ?_
  rintro e w_45 ⟨rfl, hb46⟩
  have F47 := hid (F37.out.below hb46)
  have F48 := hid (F38.out.below hb46)
  have F49 := hid (F39.out.below hb46)
  have F50 := hid (F44.out.below hb46)
  have G51 := hid (below_to G40.out hb46)
  have Z52 := hid (show w_32.heap.size + 0 ≤ w_45.heap.size by have := hb46.size; first | omega | (simp at this; omega))
  clear F37 F38 F39 F44 G40 hb46
  go_wp2_with fail
  refine (toIntS_own (.slice A0 xs0.length c0) xs0 _ (HV0.out.later G51.out) hl0).mono ?_
  rintro e w_53 ⟨u54, rfl, ho56, hb55⟩
  have F57 := hid (F47.out.below hb55)
  have F58 := hid (F48.out.below hb55)
  have F59 := hid (F49.out.below hb55)
  have F60 := hid (F50.out.below hb55)
  have G61 := hid (below_to G51.out hb55)
  have Z62 := hid (show w_45.heap.size + 0 ≤ w_53.heap.size by have := hb55.size; first | omega | (simp at this; omega))
  have hn63 := ho56
  obtain ⟨u54A, u54n, u54c, rfl⟩ := hn63.shape3
  have U64 := hid (OwnI.blockLt hn63)
  have F65 := hid hn63
  clear F47 F48 F49 F50 G51 hb55 ho56 hn63
  go_wp2_with fail
  refine (eqIntS_any _ _ (xs0) _ F59.out.ints F65.out.ints hl0).mono ?_
  rintro e w_66 ⟨rfl, hb67⟩
  have F68 := hid (F57.out.below hb67)
  have F69 := hid (F58.out.below hb67)
  have F70 := hid (F59.out.below hb67)
  have F71 := hid (F60.out.below hb67)
  have F72 := hid (F65.out.below hb67)
  have G73 := hid (below_to G61.out hb67)
  have Z74 := hid (show w_53.heap.size + 0 ≤ w_66.heap.size by have := hb67.size; first | omega | (simp at this; omega))
  clear F57 F58 F59 F60 F65 G61 hb67
  go_wp2_with fail
  refine (markIntS_any _ (xs0) _ _ _ F70.out hl0 (by omega) (by first | omega | (have := hl0; omega))).mono ?_
  rintro e w_75 ⟨rfl, ho76, hg77⟩
  have qZ6 := Z6.out
  have qZ17 := Z17.out
  have qZ28 := Z28.out
  have qZ41 := Z41.out
  have qZ52 := Z52.out
  have qZ62 := Z62.out
  have qZ74 := Z74.out
  have hg77t := TurnedIn.of_grown hg77 (U30.out)
  have F78 := hid (F68.out.turned hg77t (U8.out) (by omega))
  have F79 := hid (F69.out.turned hg77t (by omega))
  have F80 := hid (F71.out.turned hg77t (by omega))
  have F81 := hid (F72.out.turned hg77t (U64.out) (by omega))
  have G82 := hid (below_turned G73.out hg77t (by omega))
  have Z83 := hid (show w_66.heap.size + 0 ≤ w_75.heap.size by have := hg77.size; first | omega | (simp at this; omega))
  clear qZ6 qZ17 qZ28 qZ41 qZ52 qZ62 qZ74
  have F84 := hid ho76
  clear F68 F69 F71 F72 G73 hg77t F70 ho76 hg77
  go_wp2_with fail
  refine (eqIntSS_any _ _ ((ansFL xs0)) _ F80.out.ints F79.out.ints HL43.out.1 HL43.out.2.1).mono ?_
  rintro e w_85 ⟨rfl, hb86⟩
  have F87 := hid (F78.out.below hb86)
  have F88 := hid (F79.out.below hb86)
  have F89 := hid (F80.out.below hb86)
  have F90 := hid (F81.out.below hb86)
  have F91 := hid (F84.out.below hb86)
  have G92 := hid (below_to G82.out hb86)
  have Z93 := hid (show w_75.heap.size + 0 ≤ w_85.heap.size by have := hb86.size; first | omega | (simp at this; omega))
  clear F78 F79 F80 F81 F84 G82 hb86
  go_wp2_with fail
  refine (markIntSS_any _ ((ansFL xs0)) _ _ _ _ F89.out HL43.out (by omega) (by omega)).mono ?_
  rintro e w_94 ⟨rfl, ho95, ht96⟩
  have qZ6 := Z6.out
  have qZ17 := Z17.out
  have qZ28 := Z28.out
  have qZ41 := Z41.out
  have qZ52 := Z52.out
  have qZ62 := Z62.out
  have qZ74 := Z74.out
  have qZ83 := Z83.out
  have qZ93 := Z93.out
  have F97 := hid (F87.out.turned ht96 (U8.out) (by omega))
  have F98 := hid (F88.out.turned ht96 (by omega))
  have F99 := hid (F90.out.turned ht96 (U64.out) (by omega))
  have F100 := hid (F91.out.turned ht96 (U30.out) (by omega))
  have G101 := hid (below_turned G92.out ht96 (by omega))
  have Z102 := hid (show w_85.heap.size + 0 ≤ w_94.heap.size by have := ht96.size; first | omega | (simp at this; omega))
  clear qZ6 qZ17 qZ28 qZ41 qZ52 qZ62 qZ74 qZ83 qZ93
  have F103 := hid ho95
  clear F87 F88 F90 F91 G92 F89 ho95 ht96
  go_wp2_with fail
  refine (heldIntSS_any _ ((ansFL xs0)) _ _ F103.out.ints HL43.out (by omega) (by omega)).mono ?_
  rintro e w_104 ⟨rfl, hb105⟩
  have F106 := hid (F97.out.below hb105)
  have F107 := hid (F98.out.below hb105)
  have F108 := hid (F99.out.below hb105)
  have F109 := hid (F100.out.below hb105)
  have F110 := hid (F103.out.below hb105)
  have G111 := hid (below_to G101.out hb105)
  have Z112 := hid (show w_94.heap.size + 0 ≤ w_104.heap.size by have := hb105.size; first | omega | (simp at this; omega))
  clear F97 F98 F99 F100 F103 G101 hb105
  go_wp2_with fail
  refine (toIntS_own (.slice A0 xs0.length c0) xs0 _ (HV0.out.later G111.out) hl0).mono ?_
  rintro e w_113 ⟨u114, rfl, ho116, hb115⟩
  have F117 := hid (F106.out.below hb115)
  have F118 := hid (F107.out.below hb115)
  have F119 := hid (F108.out.below hb115)
  have F120 := hid (F109.out.below hb115)
  have F121 := hid (F110.out.below hb115)
  have G122 := hid (below_to G111.out hb115)
  have Z123 := hid (show w_104.heap.size + 0 ≤ w_113.heap.size by have := hb115.size; first | omega | (simp at this; omega))
  have hn124 := ho116
  obtain ⟨u114A, u114n, u114c, rfl⟩ := hn124.shape3
  have U125 := hid (OwnI.blockLt hn124)
  have F126 := hid hn124
  clear F106 F107 F108 F109 F110 G111 hb115 ho116 hn124
  go_wp2_with fail
  refine (implFromLattice_any (Value.slice u114A u114n u114c) xs0 _ F126.out.ints hl0).mono ?_
  rintro e w_127 ⟨u129, rfl, ho130, hl131, hb128⟩
  have F132 := hid (F117.out.below hb128)
  have F133 := hid (F118.out.below hb128)
  have F134 := hid (F119.out.below hb128)
  have F135 := hid (F120.out.below hb128)
  have F136 := hid (F121.out.below hb128)
  have F137 := hid (F126.out.below hb128)
  have G138 := hid (below_to G122.out hb128)
  have Z139 := hid (show w_113.heap.size + 0 ≤ w_127.heap.size by have := hb128.size; first | omega | (simp at this; omega))
  have hn140 := ho130
  have HL141 := hid hl131
  obtain ⟨u129A, u129n, u129c, rfl⟩ := hn140.shape3
  have F142 := hid hn140
  clear F117 F118 F119 F120 F121 F126 G122 hb128 hn140 ho130 hl131
  go_wp2_with fail
  refine (eqIntSS_any _ _ ((ansFL xs0)) _ F142.out.ints F133.out.ints HL141.out.1 HL141.out.2.1).mono ?_
  rintro e w_143 ⟨rfl, hb144⟩
  have F145 := hid (F132.out.below hb144)
  have F146 := hid (F133.out.below hb144)
  have F147 := hid (F134.out.below hb144)
  have F148 := hid (F135.out.below hb144)
  have F149 := hid (F136.out.below hb144)
  have F150 := hid (F137.out.below hb144)
  have F151 := hid (F142.out.below hb144)
  have G152 := hid (below_to G138.out hb144)
  have Z153 := hid (show w_127.heap.size + 0 ≤ w_143.heap.size by have := hb144.size; first | omega | (simp at this; omega))
  clear F132 F133 F134 F135 F136 F137 F142 G138 hb144
  go_wp2_with fail
  refine (heldIntSS_any _ ((ansFL xs0)) _ _ F149.out.ints HL43.out (by omega) (by omega)).mono ?_
  rintro e w_154 ⟨rfl, hb155⟩
  have F156 := hid (F145.out.below hb155)
  have F157 := hid (F146.out.below hb155)
  have F158 := hid (F147.out.below hb155)
  have F159 := hid (F148.out.below hb155)
  have F160 := hid (F149.out.below hb155)
  have F161 := hid (F150.out.below hb155)
  have F162 := hid (F151.out.below hb155)
  have G163 := hid (below_to G152.out hb155)
  have Z164 := hid (show w_143.heap.size + 0 ≤ w_154.heap.size by have := hb155.size; first | omega | (simp at this; omega))
  clear F145 F146 F147 F148 F149 F150 F151 G152 hb155
  go_wp2
  go_ret
  exact ⟨rfl, G163.out⟩
theorem walk (v0 : Value) (xs0 : List Int) (w : World) (hv0 : Ints w v0 xs0) (hm0 : xs0.length ≤ maxLen) :
    Calls Try.prog 14 #[v0] w fun e w' => e = .returned (.bool true) ∧ Below w.heap.size w w' := by
  by_cases hl0 : 1048576 < xs0.length
  · exact walkLen0 v0 xs0 w hv0 hm0  hl0
  exact walkSmall v0 xs0 w hv0 hm0 (by omega) 
end Go.Proofs.Ytbbkoagjplapkaa.lawFromLattice
