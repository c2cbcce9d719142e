/- FnExactPromoteTableau: the law's walk (by genlaw.py). -/
import Derived.Test.YtbbkoagjplapkaaSldS
import Derived.Test.YtbbkoagjplapkaaSldI
import Derived.Test.YtbbkoagjplapkaaNest2
import Derived.Deep.DeepCutAuto
namespace Go.Proofs.Ytbbkoagjplapkaa.lawPromoteTableau
open Go.RowKit Go.WideShapes Go.ChangeShapes
set_option linter.unusedVariables false
set_option maxRecDepth 100000 in
set_option maxHeartbeats 1000000 in
theorem walkBig0 (v0 : Value) (xs0 : List (List Int)) (w : World) (hv0 : IntsSS w v0 xs0) (hm0 : xs0.length ≤ maxLen) (hr0 : ∀ j, j < xs0.length → (xs0.getD j []).length ≤ maxLen) (q0 : Int) (HS0 : Hid (szAll (1048576 : Int) xs0 = q0)) (hq0 : q0 < 0) :
    Calls Try.prog 7 #[v0] w fun e w' => e = .returned (.bool true) ∧ Below w.heap.size w w' := by
  have HV0 := hid hv0
  clear hv0
  go_enter Try.func7, Try.ntmps7
  go_wp2_with fail
  refine (szIntSS_any v0 xs0 _ _ HV0.out hm0 hr0 (by omega) (by omega)).mono ?_
  rw [HS0.out]
  rintro e w_1 ⟨rfl, hb2⟩
  have G3 := hid (below_to (Below.refl _ w) hb2)
  have Z4 := hid (show w.heap.size + 0 ≤ w_1.heap.size by have := hb2.size; first | omega | (simp at this; omega))
  clear hb2
  go_wp2
  go_ret
  exact ⟨rfl, G3.out⟩
set_option maxRecDepth 100000 in
set_option maxHeartbeats 8000000 in
theorem walkSmall (v0 : Value) (xs0 : List (List Int)) (w : World) (hv0 : IntsSS w v0 xs0) (hm0 : xs0.length ≤ maxLen) (hr0 : ∀ j, j < xs0.length → (xs0.getD j []).length ≤ maxLen) (q0 : Int) (HS0 : Hid (szAll (1048576 : Int) xs0 = q0)) (hq0 : ¬ q0 < 0) (hl0 : SSmall xs0) :
    Calls Try.prog 7 #[v0] w fun e w' => e = .returned (.bool true) ∧ Below w.heap.size w w' := by
  have HV0 := hid hv0
  clear hv0
  go_enter Try.func7, Try.ntmps7
  go_wp2_with fail
  refine (szIntSS_any v0 xs0 _ _ HV0.out hm0 hr0 (by omega) (by omega)).mono ?_
  rw [HS0.out]
  rintro e w_5 ⟨rfl, hb6⟩
  have G7 := hid (below_to (Below.refl _ w) hb6)
  have Z8 := hid (show w.heap.size + 0 ≤ w_5.heap.size by have := hb6.size; first | omega | (simp at this; omega))
  clear hb6
  go_wp2_with fail
  refine (toIntSS_own v0 xs0 _ (HV0.out.below G7.out) hl0).mono ?_
  rintro e w_9 ⟨u10, rfl, ho12, hb11⟩
  have G15 := hid (below_to G7.out hb11)
  have Z16 := hid (show w_5.heap.size + 0 ≤ w_9.heap.size by have := hb11.size; first | omega | (simp at this; omega))
  have hn13 := ho12
  obtain ⟨u10A, u10n, u10c, rfl⟩ := hn13.shape3
  have F14 := hid hn13
  clear G7 hb11 ho12 hn13
  go_wp2_with fail
  refine (specPromoteTableau_any (Value.slice u10A u10n u10c) xs0 _ F14.out.ints hl0).mono ?_
  rintro e w_17 ⟨u19, rfl, ho20, hl21, hb18⟩
  have F22 := hid (F14.out.below hb18)
  have G23 := hid (below_to G15.out hb18)
  have Z24 := hid (show w_9.heap.size + 0 ≤ w_17.heap.size by have := hb18.size; first | omega | (simp at this; omega))
  have hn25 := ho20
  have HL26 := hid hl21
  obtain ⟨u19A, u19n, u19c, rfl⟩ := hn25.shape3
  have F27 := hid hn25
  clear F14 G15 hb18 hn25 ho20 hl21
  go_wp2_with fail
  refine (toIntSS_own v0 xs0 _ (HV0.out.below G23.out) hl0).mono ?_
  rintro e w_28 ⟨u29, rfl, ho31, hb30⟩
  have F34 := hid (F22.out.below hb30)
  have F35 := hid (F27.out.below hb30)
  have G36 := hid (below_to G23.out hb30)
  have Z37 := hid (show w_17.heap.size + 0 ≤ w_28.heap.size by have := hb30.size; first | omega | (simp at this; omega))
  have hn32 := ho31
  obtain ⟨u29A, u29n, u29c, rfl⟩ := hn32.shape3
  have F33 := hid hn32
  clear F22 F27 G23 hb30 ho31 hn32
  go_wp2_with fail
  refine (implPromoteTableau_any (Value.slice u29A u29n u29c) xs0 _ F33.out.ints hl0).mono ?_
  rintro e w_38 ⟨u40, rfl, ho41, hl42, hb39⟩
  have F43 := hid (F34.out.below hb39)
  have F44 := hid (F35.out.below hb39)
  have F45 := hid (F33.out.below hb39)
  have G46 := hid (below_to G36.out hb39)
  have Z47 := hid (show w_28.heap.size + 0 ≤ w_38.heap.size by have := hb39.size; first | omega | (simp at this; omega))
  have hn48 := ho41
  have HL49 := hid hl42
  obtain ⟨u40A, u40n, u40c, rfl⟩ := hn48.shape3
  have F50 := hid hn48
  clear F34 F35 F33 G36 hb39 hn48 ho41 hl42
  go_wp2_with fail
  refine (eqIntSS_any _ _ ((ansPT xs0)) _ F50.out.ints F44.out.ints HL49.out.1 HL49.out.2.1).mono ?_
  rintro e w_51 ⟨rfl, hb52⟩
  have F53 := hid (F43.out.below hb52)
  have F54 := hid (F44.out.below hb52)
  have F55 := hid (F45.out.below hb52)
  have F56 := hid (F50.out.below hb52)
  have G57 := hid (below_to G46.out hb52)
  have Z58 := hid (show w_38.heap.size + 0 ≤ w_51.heap.size by have := hb52.size; first | omega | (simp at this; omega))
  clear F43 F44 F45 F50 G46 hb52
  go_wp2_with fail
  refine (toIntSS_own v0 xs0 _ (HV0.out.below G57.out) hl0).mono ?_
  rintro e w_59 ⟨u60, rfl, ho62, hb61⟩
  have F65 := hid (F53.out.below hb61)
  have F66 := hid (F54.out.below hb61)
  have F67 := hid (F55.out.below hb61)
  have F68 := hid (F56.out.below hb61)
  have G69 := hid (below_to G57.out hb61)
  have Z70 := hid (show w_51.heap.size + 0 ≤ w_59.heap.size by have := hb61.size; first | omega | (simp at this; omega))
  have hn63 := ho62
  obtain ⟨u60A, u60n, u60c, rfl⟩ := hn63.shape3
  have F64 := hid hn63
  clear F53 F54 F55 F56 G57 hb61 ho62 hn63
  go_wp2_with fail
  refine (eqIntSS_any _ _ (xs0) _ F67.out.ints F64.out.ints hl0.1 hl0.2.1).mono ?_
  rintro e w_71 ⟨rfl, hb72⟩
  have F73 := hid (F65.out.below hb72)
  have F74 := hid (F66.out.below hb72)
  have F75 := hid (F67.out.below hb72)
  have F76 := hid (F68.out.below hb72)
  have F77 := hid (F64.out.below hb72)
  have G78 := hid (below_to G69.out hb72)
  have Z79 := hid (show w_59.heap.size + 0 ≤ w_71.heap.size by have := hb72.size; first | omega | (simp at this; omega))
  clear F65 F66 F67 F68 F64 G69 hb72
  go_wp2_with fail
  refine (markIntSS_any _ (xs0) _ _ _ _ F75.out hl0 (by omega) (by omega)).mono ?_
  rintro e w_80 ⟨rfl, ho81, ht82⟩
  have qZ8 := Z8.out
  have qZ16 := Z16.out
  have qZ24 := Z24.out
  have qZ37 := Z37.out
  have qZ47 := Z47.out
  have qZ58 := Z58.out
  have qZ70 := Z70.out
  have qZ79 := Z79.out
  have F83 := hid (F73.out.turned ht82 (by omega))
  have F84 := hid (F74.out.turned ht82 (by omega))
  have F85 := hid (F76.out.turned ht82 (by omega))
  have F86 := hid (F77.out.turned ht82 (by omega))
  have G87 := hid (below_turned G78.out ht82 (by omega))
  have Z88 := hid (show w_71.heap.size + 0 ≤ w_80.heap.size by have := ht82.size; first | omega | (simp at this; omega))
  clear qZ8 qZ16 qZ24 qZ37 qZ47 qZ58 qZ70 qZ79
  have F89 := hid ho81
  clear F73 F74 F76 F77 G78 F75 ho81 ht82
  go_wp2_with fail
  refine (eqIntSS_any _ _ ((ansPT xs0)) _ F85.out.ints F84.out.ints HL49.out.1 HL49.out.2.1).mono ?_
  rintro e w_90 ⟨rfl, hb91⟩
  have F92 := hid (F83.out.below hb91)
  have F93 := hid (F84.out.below hb91)
  have F94 := hid (F85.out.below hb91)
  have F95 := hid (F86.out.below hb91)
  have F96 := hid (F89.out.below hb91)
  have G97 := hid (below_to G87.out hb91)
  have Z98 := hid (show w_80.heap.size + 0 ≤ w_90.heap.size by have := hb91.size; first | omega | (simp at this; omega))
  clear F83 F84 F85 F86 F89 G87 hb91
  go_wp2_with fail
  refine (markIntSS_any _ ((ansPT xs0)) _ _ _ _ F94.out HL49.out (by omega) (by omega)).mono ?_
  rintro e w_99 ⟨rfl, ho100, ht101⟩
  have qZ8 := Z8.out
  have qZ16 := Z16.out
  have qZ24 := Z24.out
  have qZ37 := Z37.out
  have qZ47 := Z47.out
  have qZ58 := Z58.out
  have qZ70 := Z70.out
  have qZ79 := Z79.out
  have qZ88 := Z88.out
  have qZ98 := Z98.out
  have F102 := hid (F92.out.turned ht101 (by omega))
  have F103 := hid (F93.out.turned ht101 (by omega))
  have F104 := hid (F95.out.turned ht101 (by omega))
  have F105 := hid (F96.out.turned ht101 (by omega))
  have G106 := hid (below_turned G97.out ht101 (by omega))
  have Z107 := hid (show w_90.heap.size + 0 ≤ w_99.heap.size by have := ht101.size; first | omega | (simp at this; omega))
  clear qZ8 qZ16 qZ24 qZ37 qZ47 qZ58 qZ70 qZ79 qZ88 qZ98
  have F108 := hid ho100
  clear F92 F93 F95 F96 G97 F94 ho100 ht101
  go_wp2_with fail
  refine (heldIntSS_any _ ((ansPT xs0)) _ _ F108.out.ints HL49.out (by omega) (by omega)).mono ?_
  rintro e w_109 ⟨rfl, hb110⟩
  have F111 := hid (F102.out.below hb110)
  have F112 := hid (F103.out.below hb110)
  have F113 := hid (F104.out.below hb110)
  have F114 := hid (F105.out.below hb110)
  have F115 := hid (F108.out.below hb110)
  have G116 := hid (below_to G106.out hb110)
  have Z117 := hid (show w_99.heap.size + 0 ≤ w_109.heap.size by have := hb110.size; first | omega | (simp at this; omega))
  clear F102 F103 F104 F105 F108 G106 hb110
  go_wp2_with fail
  refine (toIntSS_own v0 xs0 _ (HV0.out.below G116.out) hl0).mono ?_
  rintro e w_118 ⟨u119, rfl, ho121, hb120⟩
  have F124 := hid (F111.out.below hb120)
  have F125 := hid (F112.out.below hb120)
  have F126 := hid (F113.out.below hb120)
  have F127 := hid (F114.out.below hb120)
  have F128 := hid (F115.out.below hb120)
  have G129 := hid (below_to G116.out hb120)
  have Z130 := hid (show w_109.heap.size + 0 ≤ w_118.heap.size by have := hb120.size; first | omega | (simp at this; omega))
  have hn122 := ho121
  obtain ⟨u119A, u119n, u119c, rfl⟩ := hn122.shape3
  have F123 := hid hn122
  clear F111 F112 F113 F114 F115 G116 hb120 ho121 hn122
  go_wp2_with fail
  refine (implPromoteTableau_any (Value.slice u119A u119n u119c) xs0 _ F123.out.ints hl0).mono ?_
  rintro e w_131 ⟨u133, rfl, ho134, hl135, hb132⟩
  have F136 := hid (F124.out.below hb132)
  have F137 := hid (F125.out.below hb132)
  have F138 := hid (F126.out.below hb132)
  have F139 := hid (F127.out.below hb132)
  have F140 := hid (F128.out.below hb132)
  have F141 := hid (F123.out.below hb132)
  have G142 := hid (below_to G129.out hb132)
  have Z143 := hid (show w_118.heap.size + 0 ≤ w_131.heap.size by have := hb132.size; first | omega | (simp at this; omega))
  have hn144 := ho134
  have HL145 := hid hl135
  obtain ⟨u133A, u133n, u133c, rfl⟩ := hn144.shape3
  have F146 := hid hn144
  clear F124 F125 F126 F127 F128 F123 G129 hb132 hn144 ho134 hl135
  go_wp2_with fail
  refine (eqIntSS_any _ _ ((ansPT xs0)) _ F146.out.ints F137.out.ints HL145.out.1 HL145.out.2.1).mono ?_
  rintro e w_147 ⟨rfl, hb148⟩
  have F149 := hid (F136.out.below hb148)
  have F150 := hid (F137.out.below hb148)
  have F151 := hid (F138.out.below hb148)
  have F152 := hid (F139.out.below hb148)
  have F153 := hid (F140.out.below hb148)
  have F154 := hid (F141.out.below hb148)
  have F155 := hid (F146.out.below hb148)
  have G156 := hid (below_to G142.out hb148)
  have Z157 := hid (show w_131.heap.size + 0 ≤ w_147.heap.size by have := hb148.size; first | omega | (simp at this; omega))
  clear F136 F137 F138 F139 F140 F141 F146 G142 hb148
  go_wp2_with fail
  refine (heldIntSS_any _ ((ansPT xs0)) _ _ F153.out.ints HL49.out (by omega) (by omega)).mono ?_
  rintro e w_158 ⟨rfl, hb159⟩
  have F160 := hid (F149.out.below hb159)
  have F161 := hid (F150.out.below hb159)
  have F162 := hid (F151.out.below hb159)
  have F163 := hid (F152.out.below hb159)
  have F164 := hid (F153.out.below hb159)
  have F165 := hid (F154.out.below hb159)
  have F166 := hid (F155.out.below hb159)
  have G167 := hid (below_to G156.out hb159)
  have Z168 := hid (show w_147.heap.size + 0 ≤ w_158.heap.size by have := hb159.size; first | omega | (simp at this; omega))
  clear F149 F150 F151 F152 F153 F154 F155 G156 hb159
  go_wp2
  go_ret
  exact ⟨rfl, G167.out⟩
theorem walk (v0 : Value) (xs0 : List (List Int)) (w : World) (hv0 : IntsSS w v0 xs0) (hm0 : xs0.length ≤ maxLen) (hr0 : ∀ j, j < xs0.length → (xs0.getD j []).length ≤ maxLen) :
    Calls Try.prog 7 #[v0] w fun e w' => e = .returned (.bool true) ∧ Below w.heap.size w w' := by
  by_cases hq0 : szAll (1048576 : Int) xs0 < 0
  · exact walkBig0 v0 xs0 w hv0 hm0 hr0  _ (hid rfl) hq0
  exact walkSmall v0 xs0 w hv0 hm0 hr0  _ (hid rfl) hq0 (szAll_small (left := 1048576) (by omega) (by omega))
end Go.Proofs.Ytbbkoagjplapkaa.lawPromoteTableau
