/- FnExactCoversOf: the law's walk (by genlaw.py). -/
import Derived.Test.YtgoghgkpmmgcgabCovers
import Derived.Deep.DeepCutAuto
namespace Go.Proofs.Ytgoghgkpmmgcgab.lawCoversOf
open Go.RowKit Go.WideShapes Go.ChangeShapes
set_option linter.unusedVariables false
set_option maxRecDepth 100000 in
set_option maxHeartbeats 1000000 in
theorem walkBig0 (v0 : Value) (xs0 : List Int) (w : World) (hv0 : Ints w v0 xs0) (hm0 : xs0.length ≤ maxLen) (HS0 : Hid (szRes (1048576 : Int) xs0.length = -1)) :
    Calls Try.prog 3 #[.agg #[v0]] w fun e w' => e = .returned (.bool true) ∧ Below w.heap.size w w' := by
  have HV0 := hid hv0
  clear hv0
  go_enter Try.func3, Try.ntmps3
  go_wp2_with fail
  refine (szPoset_any v0 xs0 _ _ (HV0.out.later (below_alloc (Below.refl _ w) _)) hm0 (by omega) (by omega)).mono ?_
  rw [HS0.out]
  rintro e w_1 ⟨rfl, hb2⟩
  have F3 := hid ((At.new w v0 24).below hb2)
  have G4 := hid (below_to (below_alloc (Below.refl _ w) _) hb2)
  have Z5 := hid (show w.heap.size + 1 ≤ w_1.heap.size by have := hb2.size; first | omega | (simp at this; omega))
  clear hb2
  go_wp2
  go_ret
  exact ⟨rfl, G4.out⟩
set_option maxRecDepth 100000 in
set_option maxHeartbeats 8000000 in
theorem walkSmall (v0 : Value) (xs0 : List Int) (w : World) (hv0 : Ints w v0 xs0) (hm0 : xs0.length ≤ maxLen) (HS0 : Hid (szRes (1048576 : Int) xs0.length = (1048576 : Int) - xs0.length)) (hq0 : ¬ (1048576 : Int) < xs0.length) (hl0 : xs0.length ≤ 1048576) :
    Calls Try.prog 3 #[.agg #[v0]] w fun e w' => e = .returned (.bool true) ∧ Below w.heap.size w w' := by
  have HV0 := hid hv0
  clear hv0
  go_enter Try.func3, Try.ntmps3
  go_wp2_with fail
  refine (szPoset_any v0 xs0 _ _ (HV0.out.later (below_alloc (Below.refl _ w) _)) hm0 (by omega) (by omega)).mono ?_
  rw [HS0.out]
  rintro e w_6 ⟨rfl, hb7⟩
  have F8 := hid ((At.new w v0 24).below hb7)
  have G9 := hid (below_to (below_alloc (Below.refl _ w) _) hb7)
  have Z10 := hid (show w.heap.size + 1 ≤ w_6.heap.size by have := hb7.size; first | omega | (simp at this; omega))
  clear hb7
  have e11 := F8.out.1
  have e11z := F8.out.2
  go_wp2_with fail
  clear e11 e11z
  refine (toPoset_own v0 xs0 _ (HV0.out.later G9.out) hl0).mono ?_
  rintro e w_12 ⟨u13, rfl, ho15, hb14⟩
  have F16 := hid (F8.out.below hb14)
  have G17 := hid (below_to G9.out hb14)
  have Z18 := hid (show w_6.heap.size + 0 ≤ w_12.heap.size by have := hb14.size; first | omega | (simp at this; omega))
  have hn19 := ho15
  obtain ⟨u13A, u13n, u13c, rfl⟩ := hn19.shape3
  have U20 := hid (OwnI.blockLt hn19)
  have F21 := hid hn19
  clear F8 G9 hb14 ho15 hn19
  have e22 := F16.out.1
  have e22z := F16.out.2
  go_wp2_with fail
  clear e22 e22z
  refine (specCoversOf_any (Value.slice u13A u13n u13c) xs0 _ F21.out.ints hl0).mono ?_
  rintro e w_23 ⟨u25, rfl, ho26, hl27, hb24⟩
  have F28 := hid (F16.out.below hb24)
  have F29 := hid (F21.out.below hb24)
  have G30 := hid (below_to G17.out hb24)
  have Z31 := hid (show w_12.heap.size + 0 ≤ w_23.heap.size by have := hb24.size; first | omega | (simp at this; omega))
  have hn32 := ho26
  have HL33 := hid hl27
  obtain ⟨u25A, u25n, u25c, rfl⟩ := hn32.shape3
  have F34 := hid hn32
  clear F16 F21 G17 hb24 hn32 ho26 hl27
  have e35 := F28.out.1
  have e35z := F28.out.2
  go_wp2_with fail
  clear e35 e35z
  refine (toPoset_own v0 xs0 _ (HV0.out.later G30.out) hl0).mono ?_
  rintro e w_36 ⟨u37, rfl, ho39, hb38⟩
  have F40 := hid (F28.out.below hb38)
  have F41 := hid (F29.out.below hb38)
  have F42 := hid (F34.out.below hb38)
  have G43 := hid (below_to G30.out hb38)
  have Z44 := hid (show w_23.heap.size + 0 ≤ w_36.heap.size by have := hb38.size; first | omega | (simp at this; omega))
  have hn45 := ho39
  obtain ⟨u37A, u37n, u37c, rfl⟩ := hn45.shape3
  have U46 := hid (OwnI.blockLt hn45)
  have F47 := hid hn45
  clear F28 F29 F34 G30 hb38 ho39 hn45
  have e48 := F40.out.1
  have e48z := F40.out.2
  go_wp2_with fail
  clear e48 e48z
  refine (implCoversOf_any (Value.slice u37A u37n u37c) xs0 _ (F47.out.alloc _).ints hl0).mono ?_
  rintro e w_49 ⟨u51, rfl, ho52, hl53, hb50⟩
  have F54 := hid ((F40.out.alloc _).below hb50)
  have F55 := hid ((F41.out.alloc _).below hb50)
  have F56 := hid ((F42.out.alloc _).below hb50)
  have F57 := hid ((F47.out.alloc _).below hb50)
  have F58 := hid ((At.new w_36 (Value.slice u37A u37n u37c) 29).below hb50)
  have G59 := hid (below_to (below_alloc G43.out _) hb50)
  have Z60 := hid (show w_36.heap.size + 1 ≤ w_49.heap.size by have := hb50.size; first | omega | (simp at this; omega))
  have hn61 : OwnSS 3 22 w_49 (w_36.heap.size + 1) w_49.heap.size u51 (coversL xs0) := by simpa using ho52
  have HL62 := hid hl53
  obtain ⟨u51A, u51n, u51c, rfl⟩ := hn61.shape3
  have F63 := hid hn61
  clear F40 F41 F42 F47 G43 hb50 hn61 ho52 hl53
  have e64 := F54.out.1
  have e64z := F54.out.2
  have e65 := F58.out.1
  have e65z := F58.out.2
  go_wp2_with fail
  clear e64 e64z e65 e65z
  refine (eqIntSS_any _ _ ((coversL xs0)) _ F63.out.ints F56.out.ints HL62.out.1 HL62.out.2.1).mono ?_
  rintro e w_66 ⟨rfl, hb67⟩
  have F68 := hid (F54.out.below hb67)
  have F69 := hid (F55.out.below hb67)
  have F70 := hid (F56.out.below hb67)
  have F71 := hid (F57.out.below hb67)
  have F72 := hid (F58.out.below hb67)
  have F73 := hid (F63.out.below hb67)
  have G74 := hid (below_to G59.out hb67)
  have Z75 := hid (show w_49.heap.size + 0 ≤ w_66.heap.size by have := hb67.size; first | omega | (simp at this; omega))
  clear F54 F55 F56 F57 F58 F63 G59 hb67
  have e76 := F68.out.1
  have e76z := F68.out.2
  have e77 := F72.out.1
  have e77z := F72.out.2
  go_upto_region 10 with fail
  go_cut [45] (fun s wx => s = .bool false ∧ At wx (w.heap.size) (v0) ∧ OwnI 3 wx (w_6.heap.size) (Value.slice u13A u13n u13c) xs0 ∧ OwnSS 3 22 wx (w_12.heap.size) (w_23.heap.size) (Value.slice u25A u25n u25c) ((coversL xs0)) ∧ OwnI 3 wx (w_23.heap.size) (Value.slice u37A u37n u37c) xs0 ∧ At wx (w_36.heap.size) ((Value.slice u37A u37n u37c)) ∧ OwnSS 3 22 wx (w_36.heap.size + 1) (w_49.heap.size) (Value.slice u51A u51n u51c) ((coversL xs0)) ∧ w_66.heap.size ≤ wx.heap.size ∧ Below w.heap.size w wx)
  case first =>
    go_region_with (first | (go_at_call 14; refine (toPoset_own v0 xs0 _ (((HV0.out.later G74.out)).drew) hl0).mono ?_; rintro e w_78 ⟨u79, rfl, ho3, hb80⟩; have K0 := hid (F68.out.drew.below hb80); have K1 := hid (F69.out.drew.below hb80); have K2 := hid (F70.out.drew.below hb80); have K3 := hid (F71.out.drew.below hb80); have K4 := hid (F72.out.drew.below hb80); have K5 := hid (F73.out.drew.below hb80); have KZ := hid (show w_66.heap.size ≤ w_78.heap.size by have := hb80.size; simpa using this); have KB := hid (below_to G74.out.drew hb80); have KO := hid ho3; have hx6 := K4.out.1; clear ho3 hb80) | (go_at_call 17; refine (eqPoset_any _ _ (xs0) _ K3.out.ints KO.out.ints hl0).mono ?_; rintro e w_81 ⟨rfl, hb82⟩; have M0 := hid (K0.out.below hb82); have M1 := hid (K1.out.below hb82); have M2 := hid (K2.out.below hb82); have M3 := hid (K3.out.below hb82); have M4 := hid (K4.out.below hb82); have M5 := hid (K5.out.below hb82); have MZ := hid (show w_66.heap.size ≤ w_81.heap.size by have := hb82.size; have := KZ.out; omega); have MB := hid (below_to KB.out hb82); clear hb82))
    all_goals (go_wp2_with fail; go_meet; exact ⟨rfl, M0.out, M1.out, M2.out, M3.out, M4.out, M5.out, MZ.out, MB.out⟩)
  case rest =>
    clear e76 e76z e77 e77z
    obtain ⟨rfl, c0, c1, c2, c3, c4, c5, hzc, hbc⟩ := hcut
    have F83 := hid c0
    have F84 := hid c1
    have F85 := hid c2
    have F86 := hid c3
    have F87 := hid c4
    have F88 := hid c5
    have Z89 := hid hzc
    have G90 := hid hbc
    clear c0 F68 c1 F69 c2 F70 c3 F71 c4 F72 c5 F73 hzc hbc G74
    have e91 := F83.out.1
    have e91z := F83.out.2
    have e92 := F87.out.1
    have e92z := F87.out.2
    go_wp2_with fail
    clear e91 e91z e92 e92z
    refine (markPoset_any _ (xs0) _ _ _ F86.out hl0 (by omega) (by first | omega | (have := hl0; omega))).mono ?_
    rintro e w_93 ⟨rfl, ho94, hg95⟩
    have qZ10 := Z10.out
    have qZ18 := Z18.out
    have qZ31 := Z31.out
    have qZ44 := Z44.out
    have qZ60 := Z60.out
    have qZ75 := Z75.out
    have qZ89 := Z89.out
    have hg95t := TurnedIn.of_grown hg95 (U46.out)
    have F96 := hid (F83.out.turned hg95t (by omega))
    have F97 := hid (F84.out.turned hg95t (U20.out) (by omega))
    have F98 := hid (F85.out.turned hg95t (by omega))
    have F99 := hid (F87.out.turned hg95t (by omega))
    have F100 := hid (F88.out.turned hg95t (by omega))
    have G101 := hid (below_turned G90.out hg95t (by omega))
    have Z102 := hid (show wc.heap.size + 0 ≤ w_93.heap.size by have := hg95.size; first | omega | (simp at this; omega))
    clear qZ10 qZ18 qZ31 qZ44 qZ60 qZ75 qZ89
    have F103 := hid ho94
    clear F83 F84 F85 F87 F88 G90 hg95t F86 ho94 hg95
    have e104 := F96.out.1
    have e104z := F96.out.2
    have e105 := F99.out.1
    have e105z := F99.out.2
    go_wp2_with fail
    clear e104 e104z e105 e105z
    refine (eqIntSS_any _ _ ((coversL xs0)) _ F100.out.ints F98.out.ints HL62.out.1 HL62.out.2.1).mono ?_
    rintro e w_106 ⟨rfl, hb107⟩
    have F108 := hid (F96.out.below hb107)
    have F109 := hid (F97.out.below hb107)
    have F110 := hid (F98.out.below hb107)
    have F111 := hid (F99.out.below hb107)
    have F112 := hid (F100.out.below hb107)
    have F113 := hid (F103.out.below hb107)
    have G114 := hid (below_to G101.out hb107)
    have Z115 := hid (show w_93.heap.size + 0 ≤ w_106.heap.size by have := hb107.size; first | omega | (simp at this; omega))
    clear F96 F97 F98 F99 F100 F103 G101 hb107
    have e116 := F108.out.1
    have e116z := F108.out.2
    have e117 := F111.out.1
    have e117z := F111.out.2
    go_wp2_with fail
    clear e116 e116z e117 e117z
    refine (markIntSS_any _ ((coversL xs0)) _ _ _ _ F112.out HL62.out (by omega) (by omega)).mono ?_
    rintro e w_118 ⟨rfl, ho119, ht120⟩
    have qZ10 := Z10.out
    have qZ18 := Z18.out
    have qZ31 := Z31.out
    have qZ44 := Z44.out
    have qZ60 := Z60.out
    have qZ75 := Z75.out
    have qZ89 := Z89.out
    have qZ102 := Z102.out
    have qZ115 := Z115.out
    have F121 := hid (F108.out.turned ht120 (by omega))
    have F122 := hid (F109.out.turned ht120 (U20.out) (by omega))
    have F123 := hid (F110.out.turned ht120 (by omega))
    have F124 := hid (F111.out.turned ht120 (by omega))
    have F125 := hid (F113.out.turned ht120 (U46.out) (by omega))
    have G126 := hid (below_turned G114.out ht120 (by omega))
    have Z127 := hid (show w_106.heap.size + 0 ≤ w_118.heap.size by have := ht120.size; first | omega | (simp at this; omega))
    clear qZ10 qZ18 qZ31 qZ44 qZ60 qZ75 qZ89 qZ102 qZ115
    have F128 := hid ho119
    clear F108 F109 F110 F111 F113 G114 F112 ho119 ht120
    have e129 := F121.out.1
    have e129z := F121.out.2
    have e130 := F124.out.1
    have e130z := F124.out.2
    go_wp2_with fail
    clear e129 e129z e130 e130z
    refine (heldIntSS_any _ ((coversL xs0)) _ _ F128.out.ints HL62.out (by omega) (by omega)).mono ?_
    rintro e w_131 ⟨rfl, hb132⟩
    have F133 := hid (F121.out.below hb132)
    have F134 := hid (F122.out.below hb132)
    have F135 := hid (F123.out.below hb132)
    have F136 := hid (F124.out.below hb132)
    have F137 := hid (F125.out.below hb132)
    have F138 := hid (F128.out.below hb132)
    have G139 := hid (below_to G126.out hb132)
    have Z140 := hid (show w_118.heap.size + 0 ≤ w_131.heap.size by have := hb132.size; first | omega | (simp at this; omega))
    clear F121 F122 F123 F124 F125 F128 G126 hb132
    have e141 := F133.out.1
    have e141z := F133.out.2
    have e142 := F136.out.1
    have e142z := F136.out.2
    go_wp2_with fail
    clear e141 e141z e142 e142z
    refine (toPoset_own v0 xs0 _ (HV0.out.later G139.out) hl0).mono ?_
    rintro e w_143 ⟨u144, rfl, ho146, hb145⟩
    have F147 := hid (F133.out.below hb145)
    have F148 := hid (F134.out.below hb145)
    have F149 := hid (F135.out.below hb145)
    have F150 := hid (F136.out.below hb145)
    have F151 := hid (F137.out.below hb145)
    have F152 := hid (F138.out.below hb145)
    have G153 := hid (below_to G139.out hb145)
    have Z154 := hid (show w_131.heap.size + 0 ≤ w_143.heap.size by have := hb145.size; first | omega | (simp at this; omega))
    have hn155 := ho146
    obtain ⟨u144A, u144n, u144c, rfl⟩ := hn155.shape3
    have U156 := hid (OwnI.blockLt hn155)
    have F157 := hid hn155
    clear F133 F134 F135 F136 F137 F138 G139 hb145 ho146 hn155
    have e158 := F147.out.1
    have e158z := F147.out.2
    have e159 := F150.out.1
    have e159z := F150.out.2
    go_wp2_with fail
    clear e158 e158z e159 e159z
    refine (implCoversOf_any (Value.slice u144A u144n u144c) xs0 _ F157.out.ints hl0).mono ?_
    rintro e w_160 ⟨u162, rfl, ho163, hl164, hb161⟩
    have F165 := hid (F147.out.below hb161)
    have F166 := hid (F148.out.below hb161)
    have F167 := hid (F149.out.below hb161)
    have F168 := hid (F150.out.below hb161)
    have F169 := hid (F151.out.below hb161)
    have F170 := hid (F152.out.below hb161)
    have F171 := hid (F157.out.below hb161)
    have G172 := hid (below_to G153.out hb161)
    have Z173 := hid (show w_143.heap.size + 0 ≤ w_160.heap.size by have := hb161.size; first | omega | (simp at this; omega))
    have hn174 := ho163
    have HL175 := hid hl164
    obtain ⟨u162A, u162n, u162c, rfl⟩ := hn174.shape3
    have F176 := hid hn174
    clear F147 F148 F149 F150 F151 F152 F157 G153 hb161 hn174 ho163 hl164
    have e177 := F165.out.1
    have e177z := F165.out.2
    have e178 := F168.out.1
    have e178z := F168.out.2
    go_wp2_with fail
    clear e177 e177z e178 e178z
    refine (eqIntSS_any _ _ ((coversL xs0)) _ F176.out.ints F167.out.ints HL175.out.1 HL175.out.2.1).mono ?_
    rintro e w_179 ⟨rfl, hb180⟩
    have F181 := hid (F165.out.below hb180)
    have F182 := hid (F166.out.below hb180)
    have F183 := hid (F167.out.below hb180)
    have F184 := hid (F168.out.below hb180)
    have F185 := hid (F169.out.below hb180)
    have F186 := hid (F170.out.below hb180)
    have F187 := hid (F171.out.below hb180)
    have F188 := hid (F176.out.below hb180)
    have G189 := hid (below_to G172.out hb180)
    have Z190 := hid (show w_160.heap.size + 0 ≤ w_179.heap.size by have := hb180.size; first | omega | (simp at this; omega))
    clear F165 F166 F167 F168 F169 F170 F171 F176 G172 hb180
    have e191 := F181.out.1
    have e191z := F181.out.2
    have e192 := F184.out.1
    have e192z := F184.out.2
    go_wp2_with fail
    clear e191 e191z e192 e192z
    refine (heldIntSS_any _ ((coversL xs0)) _ _ F186.out.ints HL62.out (by omega) (by omega)).mono ?_
    rintro e w_193 ⟨rfl, hb194⟩
    have F195 := hid (F181.out.below hb194)
    have F196 := hid (F182.out.below hb194)
    have F197 := hid (F183.out.below hb194)
    have F198 := hid (F184.out.below hb194)
    have F199 := hid (F185.out.below hb194)
    have F200 := hid (F186.out.below hb194)
    have F201 := hid (F187.out.below hb194)
    have F202 := hid (F188.out.below hb194)
    have G203 := hid (below_to G189.out hb194)
    have Z204 := hid (show w_179.heap.size + 0 ≤ w_193.heap.size by have := hb194.size; first | omega | (simp at this; omega))
    clear F181 F182 F183 F184 F185 F186 F187 F188 G189 hb194
    go_wp2
    go_ret
    exact ⟨rfl, G203.out⟩
theorem walk (v0 : Value) (xs0 : List Int) (w : World) (hv0 : Ints w v0 xs0) (hm0 : xs0.length ≤ maxLen) :
    Calls Try.prog 3 #[.agg #[v0]] w fun e w' => e = .returned (.bool true) ∧ Below w.heap.size w w' := by
  by_cases hq0 : (1048576 : Int) < xs0.length
  · exact walkBig0 v0 xs0 w hv0 hm0   (hid (szRes_neg hq0))
  exact walkSmall v0 xs0 w hv0 hm0  (hid (szRes_pos hq0)) hq0 (by omega)
end Go.Proofs.Ytgoghgkpmmgcgab.lawCoversOf
