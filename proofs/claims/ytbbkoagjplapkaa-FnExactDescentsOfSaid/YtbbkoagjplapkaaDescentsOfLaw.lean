/- FnExactDescentsOf: the law's walk (by genlaw.py). -/
import Derived.Test.YtbbkoagjplapkaaTabL
import Derived.Test.YtbbkoagjplapkaaTabK
import Derived.Test.YtbbkoagjplapkaaNest2
import Derived.Deep.DeepCutAuto
namespace Go.Proofs.Ytbbkoagjplapkaa.lawDescentsOf
open Go.RowKit Go.WideShapes Go.ChangeShapes
set_option linter.unusedVariables false
set_option maxRecDepth 100000 in
set_option maxHeartbeats 1000000 in
theorem walkBig0 (v0 : Value) (xs0 : List (List Int)) (w : World) (hv0 : IntsSS w v0 xs0) (hm0 : xs0.length ≤ maxLen) (hr0 : ∀ j, j < xs0.length → (xs0.getD j []).length ≤ maxLen) (q0 : Int) (HS0 : Hid (szAll (1048576 : Int) xs0 = q0)) (hq0 : q0 < 0) :
    Calls Try.prog 10 #[v0] w fun e w' => e = .returned (.bool true) ∧ Below w.heap.size w w' := by
  have HV0 := hid hv0
  clear hv0
  go_enter Try.func10, Try.ntmps10
  go_wp2_with fail
  refine (szIntSS_any v0 xs0 _ _ HV0.out hm0 hr0 (by omega) (by omega)).mono ?_
  rw [HS0.out]
  rintro e w_1 ⟨rfl, hb2⟩
  have G3 := hid (below_to (Below.refl _ w) hb2)
  have Z4 := hid (show w.heap.size + 0 ≤ w_1.heap.size by have := hb2.size; first | omega | (simp at this; omega))
  clear hb2
  go_wp2
  go_ret
  exact ⟨rfl, G3.out⟩
set_option maxRecDepth 100000 in
set_option maxHeartbeats 8000000 in
theorem walkSmall (v0 : Value) (xs0 : List (List Int)) (w : World) (hv0 : IntsSS w v0 xs0) (hm0 : xs0.length ≤ maxLen) (hr0 : ∀ j, j < xs0.length → (xs0.getD j []).length ≤ maxLen) (q0 : Int) (HS0 : Hid (szAll (1048576 : Int) xs0 = q0)) (hq0 : ¬ q0 < 0) (hl0 : SSmall xs0) :
    Calls Try.prog 10 #[v0] w fun e w' => e = .returned (.bool true) ∧ Below w.heap.size w w' := by
  have HV0 := hid hv0
  clear hv0
  go_enter Try.func10, Try.ntmps10
  go_wp2_with fail
  refine (szIntSS_any v0 xs0 _ _ HV0.out hm0 hr0 (by omega) (by omega)).mono ?_
  rw [HS0.out]
  rintro e w_5 ⟨rfl, hb6⟩
  have G7 := hid (below_to (Below.refl _ w) hb6)
  have Z8 := hid (show w.heap.size + 0 ≤ w_5.heap.size by have := hb6.size; first | omega | (simp at this; omega))
  clear hb6
  go_wp2_with fail
  refine (toIntSS_own v0 xs0 _ (HV0.out.below G7.out) hl0).mono ?_
  rintro e w_9 ⟨u10, rfl, ho12, hb11⟩
  have G15 := hid (below_to G7.out hb11)
  have Z16 := hid (show w_5.heap.size + 0 ≤ w_9.heap.size by have := hb11.size; first | omega | (simp at this; omega))
  have hn13 := ho12
  obtain ⟨u10A, u10n, u10c, rfl⟩ := hn13.shape3
  have F14 := hid hn13
  clear G7 hb11 ho12 hn13
  go_wp2_with fail
  refine (specDescentsOf_any (Value.slice u10A u10n u10c) xs0 _ F14.out.ints hl0).mono ?_
  rintro e w_17 ⟨u19, rfl, ho20, hl21, hb18⟩
  have F22 := hid (F14.out.below hb18)
  have G23 := hid (below_to G15.out hb18)
  have Z24 := hid (show w_9.heap.size + 0 ≤ w_17.heap.size by have := hb18.size; first | omega | (simp at this; omega))
  have hn25 := ho20
  have HL26 := hid hl21
  obtain ⟨u19A, u19n, u19c, rfl⟩ := hn25.shape3
  have U27 := hid (OwnI.blockLt hn25)
  have F28 := hid hn25
  clear F14 G15 hb18 hn25 ho20 hl21
  go_wp2_with fail
  refine (toIntSS_own v0 xs0 _ (HV0.out.below G23.out) hl0).mono ?_
  rintro e w_29 ⟨u30, rfl, ho32, hb31⟩
  have F35 := hid (F22.out.below hb31)
  have F36 := hid (F28.out.below hb31)
  have G37 := hid (below_to G23.out hb31)
  have Z38 := hid (show w_17.heap.size + 0 ≤ w_29.heap.size by have := hb31.size; first | omega | (simp at this; omega))
  have hn33 := ho32
  obtain ⟨u30A, u30n, u30c, rfl⟩ := hn33.shape3
  have F34 := hid hn33
  clear F22 F28 G23 hb31 ho32 hn33
  go_wp2_with fail
  refine (implDescentsOf_any (Value.slice u30A u30n u30c) xs0 _ F34.out.ints hl0).mono ?_
  rintro e w_39 ⟨u41, rfl, ho42, hl43, hb40⟩
  have F44 := hid (F35.out.below hb40)
  have F45 := hid (F36.out.below hb40)
  have F46 := hid (F34.out.below hb40)
  have G47 := hid (below_to G37.out hb40)
  have Z48 := hid (show w_29.heap.size + 0 ≤ w_39.heap.size by have := hb40.size; first | omega | (simp at this; omega))
  have hn49 := ho42
  have HL50 := hid hl43
  obtain ⟨u41A, u41n, u41c, rfl⟩ := hn49.shape3
  have U51 := hid (OwnI.blockLt hn49)
  have F52 := hid hn49
  clear F35 F36 F34 G37 hb40 hn49 ho42 hl43
  go_wp2_with fail
  refine (eqIntS_any _ _ ((ansDE xs0)) _ F52.out.ints F45.out.ints HL50.out).mono ?_
  rintro e w_53 ⟨rfl, hb54⟩
  have F55 := hid (F44.out.below hb54)
  have F56 := hid (F45.out.below hb54)
  have F57 := hid (F46.out.below hb54)
  have F58 := hid (F52.out.below hb54)
  have G59 := hid (below_to G47.out hb54)
  have Z60 := hid (show w_39.heap.size + 0 ≤ w_53.heap.size by have := hb54.size; first | omega | (simp at this; omega))
  clear F44 F45 F46 F52 G47 hb54
  go_wp2_with fail
  refine (toIntSS_own v0 xs0 _ (HV0.out.below G59.out) hl0).mono ?_
  rintro e w_61 ⟨u62, rfl, ho64, hb63⟩
  have F67 := hid (F55.out.below hb63)
  have F68 := hid (F56.out.below hb63)
  have F69 := hid (F57.out.below hb63)
  have F70 := hid (F58.out.below hb63)
  have G71 := hid (below_to G59.out hb63)
  have Z72 := hid (show w_53.heap.size + 0 ≤ w_61.heap.size by have := hb63.size; first | omega | (simp at this; omega))
  have hn65 := ho64
  obtain ⟨u62A, u62n, u62c, rfl⟩ := hn65.shape3
  have F66 := hid hn65
  clear F55 F56 F57 F58 G59 hb63 ho64 hn65
  go_wp2_with fail
  refine (eqIntSS_any _ _ (xs0) _ F69.out.ints F66.out.ints hl0.1 hl0.2.1).mono ?_
  rintro e w_73 ⟨rfl, hb74⟩
  have F75 := hid (F67.out.below hb74)
  have F76 := hid (F68.out.below hb74)
  have F77 := hid (F69.out.below hb74)
  have F78 := hid (F70.out.below hb74)
  have F79 := hid (F66.out.below hb74)
  have G80 := hid (below_to G71.out hb74)
  have Z81 := hid (show w_61.heap.size + 0 ≤ w_73.heap.size by have := hb74.size; first | omega | (simp at this; omega))
  clear F67 F68 F69 F70 F66 G71 hb74
  go_wp2_with fail
  refine (markIntSS_any _ (xs0) _ _ _ _ F77.out hl0 (by omega) (by omega)).mono ?_
  rintro e w_82 ⟨rfl, ho83, ht84⟩
  have qZ8 := Z8.out
  have qZ16 := Z16.out
  have qZ24 := Z24.out
  have qZ38 := Z38.out
  have qZ48 := Z48.out
  have qZ60 := Z60.out
  have qZ72 := Z72.out
  have qZ81 := Z81.out
  have F85 := hid (F75.out.turned ht84 (by omega))
  have F86 := hid (F76.out.turned ht84 (U27.out) (by omega))
  have F87 := hid (F78.out.turned ht84 (U51.out) (by omega))
  have F88 := hid (F79.out.turned ht84 (by omega))
  have G89 := hid (below_turned G80.out ht84 (by omega))
  have Z90 := hid (show w_73.heap.size + 0 ≤ w_82.heap.size by have := ht84.size; first | omega | (simp at this; omega))
  clear qZ8 qZ16 qZ24 qZ38 qZ48 qZ60 qZ72 qZ81
  have F91 := hid ho83
  clear F75 F76 F78 F79 G80 F77 ho83 ht84
  go_wp2_with fail
  refine (eqIntS_any _ _ ((ansDE xs0)) _ F87.out.ints F86.out.ints HL50.out).mono ?_
  rintro e w_92 ⟨rfl, hb93⟩
  have F94 := hid (F85.out.below hb93)
  have F95 := hid (F86.out.below hb93)
  have F96 := hid (F87.out.below hb93)
  have F97 := hid (F88.out.below hb93)
  have F98 := hid (F91.out.below hb93)
  have G99 := hid (below_to G89.out hb93)
  have Z100 := hid (show w_82.heap.size + 0 ≤ w_92.heap.size by have := hb93.size; first | omega | (simp at this; omega))
  clear F85 F86 F87 F88 F91 G89 hb93
  go_wp2_with fail
  refine (markIntS_any _ ((ansDE xs0)) _ _ _ F96.out HL50.out (by omega) (by first | omega | (have := HL50.out; omega))).mono ?_
  rintro e w_101 ⟨rfl, ho102, hg103⟩
  have qZ8 := Z8.out
  have qZ16 := Z16.out
  have qZ24 := Z24.out
  have qZ38 := Z38.out
  have qZ48 := Z48.out
  have qZ60 := Z60.out
  have qZ72 := Z72.out
  have qZ81 := Z81.out
  have qZ90 := Z90.out
  have qZ100 := Z100.out
  have hg103t := TurnedIn.of_grown hg103 (U51.out)
  have F104 := hid (F94.out.turned hg103t (by omega))
  have F105 := hid (F95.out.turned hg103t (U27.out) (by omega))
  have F106 := hid (F97.out.turned hg103t (by omega))
  have F107 := hid (F98.out.turned hg103t (by omega))
  have G108 := hid (below_turned G99.out hg103t (by omega))
  have Z109 := hid (show w_92.heap.size + 0 ≤ w_101.heap.size by have := hg103.size; first | omega | (simp at this; omega))
  clear qZ8 qZ16 qZ24 qZ38 qZ48 qZ60 qZ72 qZ81 qZ90 qZ100
  have F110 := hid ho102
  clear F94 F95 F97 F98 G99 hg103t F96 ho102 hg103
  go_wp2_with fail
  refine (heldIntS_any _ _ _ _ F110.out.ints HL50.out (by omega) (by omega)).mono ?_
  rintro e w_111 ⟨rfl, hb112⟩
  have F113 := hid (F104.out.below hb112)
  have F114 := hid (F105.out.below hb112)
  have F115 := hid (F106.out.below hb112)
  have F116 := hid (F107.out.below hb112)
  have F117 := hid (F110.out.below hb112)
  have G118 := hid (below_to G108.out hb112)
  have Z119 := hid (show w_101.heap.size + 0 ≤ w_111.heap.size by have := hb112.size; first | omega | (simp at this; omega))
  clear F104 F105 F106 F107 F110 G108 hb112
  go_wp2_with fail
  refine (toIntSS_own v0 xs0 _ (HV0.out.below G118.out) hl0).mono ?_
  rintro e w_120 ⟨u121, rfl, ho123, hb122⟩
  have F126 := hid (F113.out.below hb122)
  have F127 := hid (F114.out.below hb122)
  have F128 := hid (F115.out.below hb122)
  have F129 := hid (F116.out.below hb122)
  have F130 := hid (F117.out.below hb122)
  have G131 := hid (below_to G118.out hb122)
  have Z132 := hid (show w_111.heap.size + 0 ≤ w_120.heap.size by have := hb122.size; first | omega | (simp at this; omega))
  have hn124 := ho123
  obtain ⟨u121A, u121n, u121c, rfl⟩ := hn124.shape3
  have F125 := hid hn124
  clear F113 F114 F115 F116 F117 G118 hb122 ho123 hn124
  go_wp2_with fail
  refine (implDescentsOf_any (Value.slice u121A u121n u121c) xs0 _ F125.out.ints hl0).mono ?_
  rintro e w_133 ⟨u135, rfl, ho136, hl137, hb134⟩
  have F138 := hid (F126.out.below hb134)
  have F139 := hid (F127.out.below hb134)
  have F140 := hid (F128.out.below hb134)
  have F141 := hid (F129.out.below hb134)
  have F142 := hid (F130.out.below hb134)
  have F143 := hid (F125.out.below hb134)
  have G144 := hid (below_to G131.out hb134)
  have Z145 := hid (show w_120.heap.size + 0 ≤ w_133.heap.size by have := hb134.size; first | omega | (simp at this; omega))
  have hn146 := ho136
  have HL147 := hid hl137
  obtain ⟨u135A, u135n, u135c, rfl⟩ := hn146.shape3
  have U148 := hid (OwnI.blockLt hn146)
  have F149 := hid hn146
  clear F126 F127 F128 F129 F130 F125 G131 hb134 hn146 ho136 hl137
  go_wp2_with fail
  refine (eqIntS_any _ _ ((ansDE xs0)) _ F149.out.ints F139.out.ints HL147.out).mono ?_
  rintro e w_150 ⟨rfl, hb151⟩
  have F152 := hid (F138.out.below hb151)
  have F153 := hid (F139.out.below hb151)
  have F154 := hid (F140.out.below hb151)
  have F155 := hid (F141.out.below hb151)
  have F156 := hid (F142.out.below hb151)
  have F157 := hid (F143.out.below hb151)
  have F158 := hid (F149.out.below hb151)
  have G159 := hid (below_to G144.out hb151)
  have Z160 := hid (show w_133.heap.size + 0 ≤ w_150.heap.size by have := hb151.size; first | omega | (simp at this; omega))
  clear F138 F139 F140 F141 F142 F143 F149 G144 hb151
  go_wp2_with fail
  refine (heldIntS_any _ _ _ _ F156.out.ints HL50.out (by omega) (by omega)).mono ?_
  rintro e w_161 ⟨rfl, hb162⟩
  have F163 := hid (F152.out.below hb162)
  have F164 := hid (F153.out.below hb162)
  have F165 := hid (F154.out.below hb162)
  have F166 := hid (F155.out.below hb162)
  have F167 := hid (F156.out.below hb162)
  have F168 := hid (F157.out.below hb162)
  have F169 := hid (F158.out.below hb162)
  have G170 := hid (below_to G159.out hb162)
  have Z171 := hid (show w_150.heap.size + 0 ≤ w_161.heap.size by have := hb162.size; first | omega | (simp at this; omega))
  clear F152 F153 F154 F155 F156 F157 F158 G159 hb162
  go_wp2
  go_ret
  exact ⟨rfl, G170.out⟩
theorem walk (v0 : Value) (xs0 : List (List Int)) (w : World) (hv0 : IntsSS w v0 xs0) (hm0 : xs0.length ≤ maxLen) (hr0 : ∀ j, j < xs0.length → (xs0.getD j []).length ≤ maxLen) :
    Calls Try.prog 10 #[v0] w fun e w' => e = .returned (.bool true) ∧ Below w.heap.size w w' := by
  by_cases hq0 : szAll (1048576 : Int) xs0 < 0
  · exact walkBig0 v0 xs0 w hv0 hm0 hr0  _ (hid rfl) hq0
  exact walkSmall v0 xs0 w hv0 hm0 hr0  _ (hid rfl) hq0 (szAll_small (left := 1048576) (by omega) (by omega))
end Go.Proofs.Ytbbkoagjplapkaa.lawDescentsOf
