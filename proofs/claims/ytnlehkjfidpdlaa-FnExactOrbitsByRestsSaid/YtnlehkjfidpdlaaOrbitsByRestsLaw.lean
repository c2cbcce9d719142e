/- FnExactOrbitsByRests: the law's walk (by genlaw.py). -/
import Derived.Test.YtnlehkjfidpdlaaSvO
import Derived.Deep.DeepCutAuto
namespace Go.Proofs.Ytnlehkjfidpdlaa.lawOrbitsByRests
open Go.RowKit Go.WideShapes Go.ChangeShapes
set_option linter.unusedVariables false
set_option maxHeartbeats 1000000 in
theorem walkLen0 (v0 : Value) (xs0 : List Int) (w : World) (hv0 : Ints w v0 xs0) (hm0 : xs0.length ≤ maxLen) (hbig : 1048576 < xs0.length) :
    Calls Try.prog 8 #[v0] w fun e w' => e = .returned (.bool true) ∧ Below w.heap.size w w' := by
  obtain ⟨A0, c0, rfl, -⟩ := hv0
  unfold maxLen at hm0
  go_enter Try.func8, Try.ntmps8
  go_wp2
  go_ret
  exact ⟨rfl, (Below.refl _ w)⟩
set_option maxRecDepth 100000 in
set_option maxHeartbeats 8000000 in
theorem walkSmall (v0 : Value) (xs0 : List Int) (w : World) (hv0 : Ints w v0 xs0) (hm0 : xs0.length ≤ maxLen) (hl0 : xs0.length ≤ 1048576) :
    Calls Try.prog 8 #[v0] w fun e w' => e = .returned (.bool true) ∧ Below w.heap.size w w' := by
  have hv0q := hv0
  obtain ⟨A0, c0, hsh0, -⟩ := hv0q
  subst hsh0
  have HV0 := hid hv0
  clear hv0
  go_enter Try.func8, Try.ntmps8
  go_wp2_with fail
  refine (toIntS_own (.slice A0 xs0.length c0) xs0 _ HV0.out hl0).mono ?_
  rintro e w_1 ⟨u2, rfl, ho4, hb3⟩
  have G5 := hid (below_to (Below.refl _ w) hb3)
  have Z6 := hid (show w.heap.size + 0 ≤ w_1.heap.size by have := hb3.size; first | omega | (simp at this; omega))
  have hn7 := ho4
  obtain ⟨u2A, u2n, u2c, rfl⟩ := hn7.shape3
  have U8 := hid (OwnI.blockLt hn7)
  have F9 := hid hn7
  clear hb3 ho4 hn7
  go_wp2_with fail
  refine (specOrbitsByRests_any (Value.slice u2A u2n u2c) xs0 _ F9.out.ints hl0).mono ?_
  rintro e w_10 ⟨u12, rfl, ho13, hl14, hb11⟩
  have F15 := hid (F9.out.below hb11)
  have G16 := hid (below_to G5.out hb11)
  have Z17 := hid (show w_1.heap.size + 0 ≤ w_10.heap.size by have := hb11.size; first | omega | (simp at this; omega))
  have hn18 := ho13
  have HL19 := hid hl14
  obtain ⟨u12A, u12n, u12c, rfl⟩ := hn18.shape3
  have U20 := hid (OwnI.blockLt hn18)
  have F21 := hid hn18
  clear F9 G5 hb11 hn18 ho13 hl14
  go_wp2_with fail
  refine (toIntS_own (.slice A0 xs0.length c0) xs0 _ (HV0.out.later G16.out) hl0).mono ?_
  rintro e w_22 ⟨u23, rfl, ho25, hb24⟩
  have F26 := hid (F15.out.below hb24)
  have F27 := hid (F21.out.below hb24)
  have G28 := hid (below_to G16.out hb24)
  have Z29 := hid (show w_10.heap.size + 0 ≤ w_22.heap.size by have := hb24.size; first | omega | (simp at this; omega))
  have hn30 := ho25
  obtain ⟨u23A, u23n, u23c, rfl⟩ := hn30.shape3
  have U31 := hid (OwnI.blockLt hn30)
  have F32 := hid hn30
  clear F15 F21 G16 hb24 ho25 hn30
  go_wp2_with fail
  refine (implOrbitsByRests_any (Value.slice u23A u23n u23c) xs0 _ F32.out.ints hl0).mono ?_
  rintro e w_33 ⟨u35, rfl, ho36, hl37, hb34⟩
  have F38 := hid (F26.out.below hb34)
  have F39 := hid (F27.out.below hb34)
  have F40 := hid (F32.out.below hb34)
  have G41 := hid (below_to G28.out hb34)
  have Z42 := hid (show w_22.heap.size + 0 ≤ w_33.heap.size by have := hb34.size; first | omega | (simp at this; omega))
  have hn43 := ho36
  have HL44 := hid hl37
  obtain ⟨u35A, u35n, u35c, rfl⟩ := hn43.shape3
  have U45 := hid (OwnI.blockLt hn43)
  have F46 := hid hn43
  clear F26 F27 F32 G28 hb34 hn43 ho36 hl37
  go_wp2_with fail
  refine (eqIntS_any _ _ ((ansOB xs0)) _ F46.out.ints F39.out.ints HL44.out).mono ?_
  rintro e w_47 ⟨rfl, hb48⟩
  have F49 := hid (F38.out.below hb48)
  have F50 := hid (F39.out.below hb48)
  have F51 := hid (F40.out.below hb48)
  have F52 := hid (F46.out.below hb48)
  have G53 := hid (below_to G41.out hb48)
  have Z54 := hid (show w_33.heap.size + 0 ≤ w_47.heap.size by have := hb48.size; first | omega | (simp at this; omega))
  clear F38 F39 F40 F46 G41 hb48
  go_wp2_with fail
  refine (toIntS_own (.slice A0 xs0.length c0) xs0 _ (HV0.out.later G53.out) hl0).mono ?_
  rintro e w_55 ⟨u56, rfl, ho58, hb57⟩
  have F59 := hid (F49.out.below hb57)
  have F60 := hid (F50.out.below hb57)
  have F61 := hid (F51.out.below hb57)
  have F62 := hid (F52.out.below hb57)
  have G63 := hid (below_to G53.out hb57)
  have Z64 := hid (show w_47.heap.size + 0 ≤ w_55.heap.size by have := hb57.size; first | omega | (simp at this; omega))
  have hn65 := ho58
  obtain ⟨u56A, u56n, u56c, rfl⟩ := hn65.shape3
  have U66 := hid (OwnI.blockLt hn65)
  have F67 := hid hn65
  clear F49 F50 F51 F52 G53 hb57 ho58 hn65
  go_wp2_with fail
  refine (eqIntS_any _ _ (xs0) _ F61.out.ints F67.out.ints hl0).mono ?_
  rintro e w_68 ⟨rfl, hb69⟩
  have F70 := hid (F59.out.below hb69)
  have F71 := hid (F60.out.below hb69)
  have F72 := hid (F61.out.below hb69)
  have F73 := hid (F62.out.below hb69)
  have F74 := hid (F67.out.below hb69)
  have G75 := hid (below_to G63.out hb69)
  have Z76 := hid (show w_55.heap.size + 0 ≤ w_68.heap.size by have := hb69.size; first | omega | (simp at this; omega))
  clear F59 F60 F61 F62 F67 G63 hb69
  go_wp2_with fail
  refine (markIntS_any _ (xs0) _ _ _ F72.out hl0 (by omega) (by first | omega | (have := hl0; omega))).mono ?_
  rintro e w_77 ⟨rfl, ho78, hg79⟩
  have qZ6 := Z6.out
  have qZ17 := Z17.out
  have qZ29 := Z29.out
  have qZ42 := Z42.out
  have qZ54 := Z54.out
  have qZ64 := Z64.out
  have qZ76 := Z76.out
  have F80 := hid (F70.out.grown hg79 (row_ne_row (U8.out) (U31.out) (by omega)))
  have F81 := hid (F71.out.grown hg79 (row_ne_row (U20.out) (U31.out) (by omega)))
  have F82 := hid (F73.out.grown hg79 (row_ne_row (U45.out) (U31.out) (by omega)))
  have F83 := hid (F74.out.grown hg79 (row_ne_row (U66.out) (U31.out) (by omega)))
  have G84 := hid (below_grown G75.out hg79 (fun k hk => by have := U31.out k hk; omega))
  have Z85 := hid (show w_68.heap.size + 0 ≤ w_77.heap.size by have := hg79.size; first | omega | (simp at this; omega))
  clear qZ6 qZ17 qZ29 qZ42 qZ54 qZ64 qZ76
  have F86 := hid ho78
  clear F70 F71 F73 F74 G75 F72 ho78 hg79
  go_wp2_with fail
  refine (eqIntS_any _ _ ((ansOB xs0)) _ F82.out.ints F81.out.ints HL44.out).mono ?_
  rintro e w_87 ⟨rfl, hb88⟩
  have F89 := hid (F80.out.below hb88)
  have F90 := hid (F81.out.below hb88)
  have F91 := hid (F82.out.below hb88)
  have F92 := hid (F83.out.below hb88)
  have F93 := hid (F86.out.below hb88)
  have G94 := hid (below_to G84.out hb88)
  have Z95 := hid (show w_77.heap.size + 0 ≤ w_87.heap.size by have := hb88.size; first | omega | (simp at this; omega))
  clear F80 F81 F82 F83 F86 G84 hb88
  go_wp2_with fail
  refine (markIntS_any _ ((ansOB xs0)) _ _ _ F91.out HL44.out (by omega) (by first | omega | (have := HL44.out; omega))).mono ?_
  rintro e w_96 ⟨rfl, ho97, hg98⟩
  have qZ6 := Z6.out
  have qZ17 := Z17.out
  have qZ29 := Z29.out
  have qZ42 := Z42.out
  have qZ54 := Z54.out
  have qZ64 := Z64.out
  have qZ76 := Z76.out
  have qZ85 := Z85.out
  have qZ95 := Z95.out
  have F99 := hid (F89.out.grown hg98 (row_ne_row (U8.out) (U45.out) (by omega)))
  have F100 := hid (F90.out.grown hg98 (row_ne_row (U20.out) (U45.out) (by omega)))
  have F101 := hid (F92.out.grown hg98 (row_ne_row (U66.out) (U45.out) (by omega)))
  have F102 := hid (F93.out.grown hg98 (row_ne_row (U31.out) (U45.out) (by omega)))
  have G103 := hid (below_grown G94.out hg98 (fun k hk => by have := U45.out k hk; omega))
  have Z104 := hid (show w_87.heap.size + 0 ≤ w_96.heap.size by have := hg98.size; first | omega | (simp at this; omega))
  clear qZ6 qZ17 qZ29 qZ42 qZ54 qZ64 qZ76 qZ85 qZ95
  have F105 := hid ho97
  clear F89 F90 F92 F93 G94 F91 ho97 hg98
  go_wp2_with fail
  refine (heldIntS_any _ _ _ _ F105.out.ints HL44.out (by omega) (by omega)).mono ?_
  rintro e w_106 ⟨rfl, hb107⟩
  have F108 := hid (F99.out.below hb107)
  have F109 := hid (F100.out.below hb107)
  have F110 := hid (F101.out.below hb107)
  have F111 := hid (F102.out.below hb107)
  have F112 := hid (F105.out.below hb107)
  have G113 := hid (below_to G103.out hb107)
  have Z114 := hid (show w_96.heap.size + 0 ≤ w_106.heap.size by have := hb107.size; first | omega | (simp at this; omega))
  clear F99 F100 F101 F102 F105 G103 hb107
  go_wp2_with fail
  refine (toIntS_own (.slice A0 xs0.length c0) xs0 _ (HV0.out.later G113.out) hl0).mono ?_
  rintro e w_115 ⟨u116, rfl, ho118, hb117⟩
  have F119 := hid (F108.out.below hb117)
  have F120 := hid (F109.out.below hb117)
  have F121 := hid (F110.out.below hb117)
  have F122 := hid (F111.out.below hb117)
  have F123 := hid (F112.out.below hb117)
  have G124 := hid (below_to G113.out hb117)
  have Z125 := hid (show w_106.heap.size + 0 ≤ w_115.heap.size by have := hb117.size; first | omega | (simp at this; omega))
  have hn126 := ho118
  obtain ⟨u116A, u116n, u116c, rfl⟩ := hn126.shape3
  have U127 := hid (OwnI.blockLt hn126)
  have F128 := hid hn126
  clear F108 F109 F110 F111 F112 G113 hb117 ho118 hn126
  go_wp2_with fail
  refine (implOrbitsByRests_any (Value.slice u116A u116n u116c) xs0 _ F128.out.ints hl0).mono ?_
  rintro e w_129 ⟨u131, rfl, ho132, hl133, hb130⟩
  have F134 := hid (F119.out.below hb130)
  have F135 := hid (F120.out.below hb130)
  have F136 := hid (F121.out.below hb130)
  have F137 := hid (F122.out.below hb130)
  have F138 := hid (F123.out.below hb130)
  have F139 := hid (F128.out.below hb130)
  have G140 := hid (below_to G124.out hb130)
  have Z141 := hid (show w_115.heap.size + 0 ≤ w_129.heap.size by have := hb130.size; first | omega | (simp at this; omega))
  have hn142 := ho132
  have HL143 := hid hl133
  obtain ⟨u131A, u131n, u131c, rfl⟩ := hn142.shape3
  have U144 := hid (OwnI.blockLt hn142)
  have F145 := hid hn142
  clear F119 F120 F121 F122 F123 F128 G124 hb130 hn142 ho132 hl133
  go_wp2_with fail
  refine (eqIntS_any _ _ ((ansOB xs0)) _ F145.out.ints F135.out.ints HL143.out).mono ?_
  rintro e w_146 ⟨rfl, hb147⟩
  have F148 := hid (F134.out.below hb147)
  have F149 := hid (F135.out.below hb147)
  have F150 := hid (F136.out.below hb147)
  have F151 := hid (F137.out.below hb147)
  have F152 := hid (F138.out.below hb147)
  have F153 := hid (F139.out.below hb147)
  have F154 := hid (F145.out.below hb147)
  have G155 := hid (below_to G140.out hb147)
  have Z156 := hid (show w_129.heap.size + 0 ≤ w_146.heap.size by have := hb147.size; first | omega | (simp at this; omega))
  clear F134 F135 F136 F137 F138 F139 F145 G140 hb147
  go_wp2_with fail
  refine (heldIntS_any _ _ _ _ F152.out.ints HL44.out (by omega) (by omega)).mono ?_
  rintro e w_157 ⟨rfl, hb158⟩
  have F159 := hid (F148.out.below hb158)
  have F160 := hid (F149.out.below hb158)
  have F161 := hid (F150.out.below hb158)
  have F162 := hid (F151.out.below hb158)
  have F163 := hid (F152.out.below hb158)
  have F164 := hid (F153.out.below hb158)
  have F165 := hid (F154.out.below hb158)
  have G166 := hid (below_to G155.out hb158)
  have Z167 := hid (show w_146.heap.size + 0 ≤ w_157.heap.size by have := hb158.size; first | omega | (simp at this; omega))
  clear F148 F149 F150 F151 F152 F153 F154 G155 hb158
  go_wp2
  go_ret
  exact ⟨rfl, G166.out⟩
theorem walk (v0 : Value) (xs0 : List Int) (w : World) (hv0 : Ints w v0 xs0) (hm0 : xs0.length ≤ maxLen) :
    Calls Try.prog 8 #[v0] w fun e w' => e = .returned (.bool true) ∧ Below w.heap.size w w' := by
  by_cases hl0 : 1048576 < xs0.length
  · exact walkLen0 v0 xs0 w hv0 hm0  hl0
  exact walkSmall v0 xs0 w hv0 hm0 (by omega) 
end Go.Proofs.Ytnlehkjfidpdlaa.lawOrbitsByRests
