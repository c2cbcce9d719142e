/- FnExactFromCovers: the law's walk (by genlaw.py). -/
import Derived.Test.YtkcjppbplllaiabFcovI
import Derived.Test.YtkcjppbplllaiabLaw
import Derived.Deep.DeepCutAuto
namespace Go.Proofs.Ytkcjppbplllaiab.lawFromCovers
open Go.RowKit Go.WideShapes Go.ChangeShapes
set_option linter.unusedVariables false
set_option maxRecDepth 100000 in
set_option maxHeartbeats 1000000 in
theorem walkBig1 (n0 : Int) (v1 : Value) (xs1 : List (List Int)) (w : World) (wf0 : (Lit.int .i64 n0).wf = true) (hv1 : IntsSS w v1 xs1) (hm1 : xs1.length ≤ maxLen) (hr1 : ∀ j, j < xs1.length → (xs1.getD j []).length ≤ maxLen) (q1 : Int) (HS1 : Hid (szAll (1048576 : Int) xs1 = q1)) (hq1 : q1 < 0) :
    Calls Try.prog 7 #[.int .i64 n0, v1] w fun e w' => e = .returned (.bool true) ∧ Below w.heap.size w w' := by
  have HV1 := hid hv1
  clear hv1
  have WF0 := hid wf0
  clear wf0
  go_enter Try.func7, Try.ntmps7
  go_wp2_with fail
  refine (szIntSS_any v1 xs1 _ _ HV1.out hm1 hr1 (by omega) (by omega)).mono ?_
  rw [HS1.out]
  rintro e w_1 ⟨rfl, hb2⟩
  have G3 := hid (below_to (Below.refl _ w) hb2)
  have Z4 := hid (show w.heap.size + 0 ≤ w_1.heap.size by have := hb2.size; first | omega | (simp at this; omega))
  clear hb2
  go_wp2
  go_ret
  exact ⟨rfl, G3.out⟩
set_option maxRecDepth 100000 in
set_option maxHeartbeats 8000000 in
theorem walkSmall (n0 : Int) (v1 : Value) (xs1 : List (List Int)) (w : World) (wf0 : (Lit.int .i64 n0).wf = true) (hv1 : IntsSS w v1 xs1) (hm1 : xs1.length ≤ maxLen) (hr1 : ∀ j, j < xs1.length → (xs1.getD j []).length ≤ maxLen) (q1 : Int) (HS1 : Hid (szAll (1048576 : Int) xs1 = q1)) (hq1 : ¬ q1 < 0) (hl1 : SSmall xs1) :
    Calls Try.prog 7 #[.int .i64 n0, v1] w fun e w' => e = .returned (.bool true) ∧ Below w.heap.size w w' := by
  have HV1 := hid hv1
  clear hv1
  have WF0 := hid wf0
  clear wf0
  go_enter Try.func7, Try.ntmps7
  go_wp2_with fail
  refine (szIntSS_any v1 xs1 _ _ HV1.out hm1 hr1 (by omega) (by omega)).mono ?_
  rw [HS1.out]
  rintro e w_5 ⟨rfl, hb6⟩
  have G7 := hid (below_to (Below.refl _ w) hb6)
  have Z8 := hid (show w.heap.size + 0 ≤ w_5.heap.size by have := hb6.size; first | omega | (simp at this; omega))
  clear hb6
  go_wp2_with fail
  refine (toIntSS_own v1 xs1 _ (HV1.out.below G7.out) hl1).mono ?_
  rintro e w_9 ⟨u10, rfl, ho12, hb11⟩
  have G15 := hid (below_to G7.out hb11)
  have Z16 := hid (show w_5.heap.size + 0 ≤ w_9.heap.size by have := hb11.size; first | omega | (simp at this; omega))
  have hn13 := ho12
  obtain ⟨u10A, u10n, u10c, rfl⟩ := hn13.shape3
  have F14 := hid hn13
  clear G7 hb11 ho12 hn13
  go_wp2_with fail
  refine (specFromCovers_any n0 (Value.slice u10A u10n u10c) xs1 _ WF0.out F14.out.ints hl1).mono ?_
  rintro e w_17 ⟨u19, rfl, ho20, hl21, hb18⟩
  have F22 := hid (F14.out.below hb18)
  have G23 := hid (below_to G15.out hb18)
  have Z24 := hid (show w_9.heap.size + 0 ≤ w_17.heap.size by have := hb18.size; first | omega | (simp at this; omega))
  have hn25 := ho20
  have HL26 := hid hl21
  obtain ⟨u19A, u19n, u19c, rfl⟩ := hn25.shape3
  have U27 := hid (OwnI.blockLt hn25)
  have F28 := hid hn25
  clear F14 G15 hb18 hn25 ho20 hl21
  go_wp2_with fail
  refine (toIntSS_own v1 xs1 _ (HV1.out.below (below_alloc G23.out _)) hl1).mono ?_
  rintro e w_29 ⟨u30, rfl, ho32, hb31⟩
  have F35 := hid ((F22.out.alloc _).below hb31)
  have F36 := hid ((F28.out.alloc _).below hb31)
  have F37 := hid ((At.new w_17 (Value.slice u19A u19n u19c) 38).below hb31)
  have G38 := hid (below_to (below_alloc G23.out _) hb31)
  have Z39 := hid (show w_17.heap.size + 1 ≤ w_29.heap.size by have := hb31.size; first | omega | (simp at this; omega))
  have hn33 : OwnSS 3 22 w_29 (w_17.heap.size + 1) w_29.heap.size u30 xs1 := by simpa using ho32
  obtain ⟨u30A, u30n, u30c, rfl⟩ := hn33.shape3
  have F34 := hid hn33
  clear F22 F28 G23 hb31 ho32 hn33
  have e40 := F37.out.1
  have e40z := F37.out.2
  go_wp2_with fail
  clear e40 e40z
  refine (implFromCovers_any n0 (Value.slice u30A u30n u30c) xs1 _ WF0.out F34.out.ints hl1).mono ?_
  rintro e w_41 ⟨u43, rfl, ho44, hl45, hb42⟩
  have F46 := hid (F35.out.below hb42)
  have F47 := hid (F36.out.below hb42)
  have F48 := hid (F37.out.below hb42)
  have F49 := hid (F34.out.below hb42)
  have G50 := hid (below_to G38.out hb42)
  have Z51 := hid (show w_29.heap.size + 0 ≤ w_41.heap.size by have := hb42.size; first | omega | (simp at this; omega))
  have hn52 := ho44
  have HL53 := hid hl45
  obtain ⟨u43A, u43n, u43c, rfl⟩ := hn52.shape3
  have U54 := hid (OwnI.blockLt hn52)
  have F55 := hid hn52
  clear F35 F36 F37 F34 G38 hb42 hn52 ho44 hl45
  have e56 := F48.out.1
  have e56z := F48.out.2
  go_wp2_with fail
  clear e56 e56z
  refine (eqPoset_any _ _ ((fcL n0 xs1)) _ (F55.out.alloc _).ints (F47.out.alloc _).ints HL53.out).mono ?_
  rintro e w_57 ⟨rfl, hb58⟩
  have F59 := hid ((F46.out.alloc _).below hb58)
  have F60 := hid ((F47.out.alloc _).below hb58)
  have F61 := hid ((F48.out.alloc _).below hb58)
  have F62 := hid ((F49.out.alloc _).below hb58)
  have F63 := hid ((F55.out.alloc _).below hb58)
  have F64 := hid ((At.new w_41 (Value.slice u43A u43n u43c) 38).below hb58)
  have G65 := hid (below_to (below_alloc G50.out _) hb58)
  have Z66 := hid (show w_41.heap.size + 1 ≤ w_57.heap.size by have := hb58.size; first | omega | (simp at this; omega))
  clear F46 F47 F48 F49 F55 G50 hb58
  have e67 := F61.out.1
  have e67z := F61.out.2
  have e68 := F64.out.1
  have e68z := F64.out.2
  go_wp2_with fail
  clear e67 e67z e68 e68z
  refine (toIntSS_own v1 xs1 _ (HV1.out.below G65.out) hl1).mono ?_
  rintro e w_69 ⟨u70, rfl, ho72, hb71⟩
  have F75 := hid (F59.out.below hb71)
  have F76 := hid (F60.out.below hb71)
  have F77 := hid (F61.out.below hb71)
  have F78 := hid (F62.out.below hb71)
  have F79 := hid (F63.out.below hb71)
  have F80 := hid (F64.out.below hb71)
  have G81 := hid (below_to G65.out hb71)
  have Z82 := hid (show w_57.heap.size + 0 ≤ w_69.heap.size by have := hb71.size; first | omega | (simp at this; omega))
  have hn73 := ho72
  obtain ⟨u70A, u70n, u70c, rfl⟩ := hn73.shape3
  have F74 := hid hn73
  clear F59 F60 F61 F62 F63 F64 G65 hb71 ho72 hn73
  have e83 := F77.out.1
  have e83z := F77.out.2
  have e84 := F80.out.1
  have e84z := F80.out.2
  go_wp2_with fail
  clear e83 e83z e84 e84z
  refine (eqIntSS_any _ _ (xs1) _ F78.out.ints F74.out.ints hl1.1 hl1.2.1).mono ?_
  rintro e w_85 ⟨rfl, hb86⟩
  have F87 := hid (F75.out.below hb86)
  have F88 := hid (F76.out.below hb86)
  have F89 := hid (F77.out.below hb86)
  have F90 := hid (F78.out.below hb86)
  have F91 := hid (F79.out.below hb86)
  have F92 := hid (F80.out.below hb86)
  have F93 := hid (F74.out.below hb86)
  have G94 := hid (below_to G81.out hb86)
  have Z95 := hid (show w_69.heap.size + 0 ≤ w_85.heap.size by have := hb86.size; first | omega | (simp at this; omega))
  clear F75 F76 F77 F78 F79 F80 F74 G81 hb86
  have e96 := F89.out.1
  have e96z := F89.out.2
  have e97 := F92.out.1
  have e97z := F92.out.2
  go_wp2_with fail
  clear e96 e96z e97 e97z
  refine (markIntSS_any _ (xs1) _ _ _ _ F90.out hl1 (by omega) (by omega)).mono ?_
  rintro e w_98 ⟨rfl, ho99, ht100⟩
  have qZ8 := Z8.out
  have qZ16 := Z16.out
  have qZ24 := Z24.out
  have qZ39 := Z39.out
  have qZ51 := Z51.out
  have qZ66 := Z66.out
  have qZ82 := Z82.out
  have qZ95 := Z95.out
  have F101 := hid (F87.out.turned ht100 (by omega))
  have F102 := hid (F88.out.turned ht100 (U27.out) (by omega))
  have F103 := hid (F89.out.turned ht100 (by omega))
  have F104 := hid (F91.out.turned ht100 (U54.out) (by omega))
  have F105 := hid (F92.out.turned ht100 (by omega))
  have F106 := hid (F93.out.turned ht100 (by omega))
  have G107 := hid (below_turned G94.out ht100 (by omega))
  have Z108 := hid (show w_85.heap.size + 0 ≤ w_98.heap.size by have := ht100.size; first | omega | (simp at this; omega))
  clear qZ8 qZ16 qZ24 qZ39 qZ51 qZ66 qZ82 qZ95
  have F109 := hid ho99
  clear F87 F88 F89 F91 F92 F93 G94 F90 ho99 ht100
  have e110 := F103.out.1
  have e110z := F103.out.2
  have e111 := F105.out.1
  have e111z := F105.out.2
  go_wp2_with fail
  clear e110 e110z e111 e111z
  refine (eqPoset_any _ _ ((fcL n0 xs1)) _ F104.out.ints F102.out.ints HL53.out).mono ?_
  rintro e w_112 ⟨rfl, hb113⟩
  have F114 := hid (F101.out.below hb113)
  have F115 := hid (F102.out.below hb113)
  have F116 := hid (F103.out.below hb113)
  have F117 := hid (F104.out.below hb113)
  have F118 := hid (F105.out.below hb113)
  have F119 := hid (F106.out.below hb113)
  have F120 := hid (F109.out.below hb113)
  have G121 := hid (below_to G107.out hb113)
  have Z122 := hid (show w_98.heap.size + 0 ≤ w_112.heap.size by have := hb113.size; first | omega | (simp at this; omega))
  clear F101 F102 F103 F104 F105 F106 F109 G107 hb113
  have e123 := F116.out.1
  have e123z := F116.out.2
  have e124 := F118.out.1
  have e124z := F118.out.2
  go_wp2_with fail
  clear e123 e123z e124 e124z
  refine (markPoset_any _ ((fcL n0 xs1)) _ _ _ F117.out HL53.out (by omega) (by first | omega | (have := HL53.out; omega))).mono ?_
  rintro e w_125 ⟨rfl, ho126, hg127⟩
  have qZ8 := Z8.out
  have qZ16 := Z16.out
  have qZ24 := Z24.out
  have qZ39 := Z39.out
  have qZ51 := Z51.out
  have qZ66 := Z66.out
  have qZ82 := Z82.out
  have qZ95 := Z95.out
  have qZ108 := Z108.out
  have qZ122 := Z122.out
  have hg127t := TurnedIn.of_grown hg127 (U54.out)
  have F128 := hid (F114.out.turned hg127t (by omega))
  have F129 := hid (F115.out.turned hg127t (U27.out) (by omega))
  have F130 := hid (F116.out.turned hg127t (by omega))
  have F131 := hid (F118.out.turned hg127t (by omega))
  have F132 := hid (F119.out.turned hg127t (by omega))
  have F133 := hid (F120.out.turned hg127t (by omega))
  have G134 := hid (below_turned G121.out hg127t (by omega))
  have Z135 := hid (show w_112.heap.size + 0 ≤ w_125.heap.size by have := hg127.size; first | omega | (simp at this; omega))
  clear qZ8 qZ16 qZ24 qZ39 qZ51 qZ66 qZ82 qZ95 qZ108 qZ122
  have F136 := hid ho126
  clear F114 F115 F116 F118 F119 F120 G121 hg127t F117 ho126 hg127
  have e137 := F130.out.1
  have e137z := F130.out.2
  have e138 := F131.out.1
  have e138z := F131.out.2
  go_wp2_with fail
  clear e137 e137z e138 e138z
  refine (heldPoset_any _ _ _ _ F136.out.ints HL53.out (by omega) (by omega)).mono ?_
  rintro e w_139 ⟨rfl, hb140⟩
  have F141 := hid (F128.out.below hb140)
  have F142 := hid (F129.out.below hb140)
  have F143 := hid (F130.out.below hb140)
  have F144 := hid (F131.out.below hb140)
  have F145 := hid (F132.out.below hb140)
  have F146 := hid (F133.out.below hb140)
  have F147 := hid (F136.out.below hb140)
  have G148 := hid (below_to G134.out hb140)
  have Z149 := hid (show w_125.heap.size + 0 ≤ w_139.heap.size by have := hb140.size; first | omega | (simp at this; omega))
  clear F128 F129 F130 F131 F132 F133 F136 G134 hb140
  have e150 := F143.out.1
  have e150z := F143.out.2
  have e151 := F144.out.1
  have e151z := F144.out.2
  go_wp2_with fail
  clear e150 e150z e151 e151z
  refine (toIntSS_own v1 xs1 _ (HV1.out.below G148.out) hl1).mono ?_
  rintro e w_152 ⟨u153, rfl, ho155, hb154⟩
  have F158 := hid (F141.out.below hb154)
  have F159 := hid (F142.out.below hb154)
  have F160 := hid (F143.out.below hb154)
  have F161 := hid (F144.out.below hb154)
  have F162 := hid (F145.out.below hb154)
  have F163 := hid (F146.out.below hb154)
  have F164 := hid (F147.out.below hb154)
  have G165 := hid (below_to G148.out hb154)
  have Z166 := hid (show w_139.heap.size + 0 ≤ w_152.heap.size by have := hb154.size; first | omega | (simp at this; omega))
  have hn156 := ho155
  obtain ⟨u153A, u153n, u153c, rfl⟩ := hn156.shape3
  have F157 := hid hn156
  clear F141 F142 F143 F144 F145 F146 F147 G148 hb154 ho155 hn156
  have e167 := F160.out.1
  have e167z := F160.out.2
  have e168 := F161.out.1
  have e168z := F161.out.2
  go_wp2_with fail
  clear e167 e167z e168 e168z
  refine (implFromCovers_any n0 (Value.slice u153A u153n u153c) xs1 _ WF0.out F157.out.ints hl1).mono ?_
  rintro e w_169 ⟨u171, rfl, ho172, hl173, hb170⟩
  have F174 := hid (F158.out.below hb170)
  have F175 := hid (F159.out.below hb170)
  have F176 := hid (F160.out.below hb170)
  have F177 := hid (F161.out.below hb170)
  have F178 := hid (F162.out.below hb170)
  have F179 := hid (F163.out.below hb170)
  have F180 := hid (F164.out.below hb170)
  have F181 := hid (F157.out.below hb170)
  have G182 := hid (below_to G165.out hb170)
  have Z183 := hid (show w_152.heap.size + 0 ≤ w_169.heap.size by have := hb170.size; first | omega | (simp at this; omega))
  have hn184 := ho172
  have HL185 := hid hl173
  obtain ⟨u171A, u171n, u171c, rfl⟩ := hn184.shape3
  have U186 := hid (OwnI.blockLt hn184)
  have F187 := hid hn184
  clear F158 F159 F160 F161 F162 F163 F164 F157 G165 hb170 hn184 ho172 hl173
  have e188 := F176.out.1
  have e188z := F176.out.2
  have e189 := F177.out.1
  have e189z := F177.out.2
  go_wp2_with fail
  clear e188 e188z e189 e189z
  refine (eqPoset_any _ _ ((fcL n0 xs1)) _ (F187.out.alloc _).ints (F175.out.alloc _).ints HL185.out).mono ?_
  rintro e w_190 ⟨rfl, hb191⟩
  have F192 := hid ((F174.out.alloc _).below hb191)
  have F193 := hid ((F175.out.alloc _).below hb191)
  have F194 := hid ((F176.out.alloc _).below hb191)
  have F195 := hid ((F177.out.alloc _).below hb191)
  have F196 := hid ((F178.out.alloc _).below hb191)
  have F197 := hid ((F179.out.alloc _).below hb191)
  have F198 := hid ((F180.out.alloc _).below hb191)
  have F199 := hid ((F181.out.alloc _).below hb191)
  have F200 := hid ((F187.out.alloc _).below hb191)
  have F201 := hid ((At.new w_169 (Value.slice u171A u171n u171c) 38).below hb191)
  have G202 := hid (below_to (below_alloc G182.out _) hb191)
  have Z203 := hid (show w_169.heap.size + 1 ≤ w_190.heap.size by have := hb191.size; first | omega | (simp at this; omega))
  clear F174 F175 F176 F177 F178 F179 F180 F181 F187 G182 hb191
  have e204 := F194.out.1
  have e204z := F194.out.2
  have e205 := F195.out.1
  have e205z := F195.out.2
  have e206 := F201.out.1
  have e206z := F201.out.2
  go_wp2_with fail
  clear e204 e204z e205 e205z e206 e206z
  refine (heldPoset_any _ _ _ _ F198.out.ints HL53.out (by omega) (by omega)).mono ?_
  rintro e w_207 ⟨rfl, hb208⟩
  have F209 := hid (F192.out.below hb208)
  have F210 := hid (F193.out.below hb208)
  have F211 := hid (F194.out.below hb208)
  have F212 := hid (F195.out.below hb208)
  have F213 := hid (F196.out.below hb208)
  have F214 := hid (F197.out.below hb208)
  have F215 := hid (F198.out.below hb208)
  have F216 := hid (F199.out.below hb208)
  have F217 := hid (F200.out.below hb208)
  have F218 := hid (F201.out.below hb208)
  have G219 := hid (below_to G202.out hb208)
  have Z220 := hid (show w_190.heap.size + 0 ≤ w_207.heap.size by have := hb208.size; first | omega | (simp at this; omega))
  clear F192 F193 F194 F195 F196 F197 F198 F199 F200 F201 G202 hb208
  go_wp2
  go_ret
  exact ⟨rfl, G219.out⟩
theorem walk (n0 : Int) (v1 : Value) (xs1 : List (List Int)) (w : World) (wf0 : (Lit.int .i64 n0).wf = true) (hv1 : IntsSS w v1 xs1) (hm1 : xs1.length ≤ maxLen) (hr1 : ∀ j, j < xs1.length → (xs1.getD j []).length ≤ maxLen) :
    Calls Try.prog 7 #[.int .i64 n0, v1] w fun e w' => e = .returned (.bool true) ∧ Below w.heap.size w w' := by
  by_cases hq1 : szAll (1048576 : Int) xs1 < 0
  · exact walkBig1 n0 v1 xs1 w wf0 hv1 hm1 hr1  _ (hid rfl) hq1
  exact walkSmall n0 v1 xs1 w wf0 hv1 hm1 hr1  _ (hid rfl) hq1 (szAll_small (left := 1048576) (by omega) (by omega))
end Go.Proofs.Ytkcjppbplllaiab.lawFromCovers
