/- FnExactAllArrays: the law's walk (by genlaw.py). -/
import Derived.Test.YtgepbekdgocnpabPcA
import Derived.Test.YtgepbekdgocnpabNest2
import Derived.Deep.DeepCutAuto
namespace Go.Proofs.Ytgepbekdgocnpab.lawAllArrays
open Go.RowKit Go.WideShapes Go.ChangeShapes
set_option linter.unusedVariables false
set_option maxRecDepth 100000 in
set_option maxHeartbeats 1000000 in
theorem walkBig0 (v0 : Value) (xs0 : List Int) (n1 : Int) (w : World) (hv0 : Ints w v0 xs0) (hm0 : xs0.length ≤ maxLen) (wf1 : (Lit.int .i64 n1).wf = true) (HS0 : Hid (szRes (1048576 : Int) xs0.length = -1)) :
    Calls Try.prog 8 #[.agg #[v0], .int .i64 n1] w fun e w' => e = .returned (.bool true) ∧ Below w.heap.size w w' := by
  have HV0 := hid hv0
  clear hv0
  have WF1 := hid wf1
  clear wf1
  go_enter Try.func8, Try.ntmps8
  go_wp2_with fail
  refine (szPoset_any v0 xs0 _ _ (HV0.out.later (below_alloc (Below.refl _ w) _)) hm0 (by omega) (by omega)).mono ?_
  rw [HS0.out]
  rintro e w_1 ⟨rfl, hb2⟩
  have F3 := hid ((At.new w v0 24).below hb2)
  have G4 := hid (below_to (below_alloc (Below.refl _ w) _) hb2)
  have Z5 := hid (show w.heap.size + 1 ≤ w_1.heap.size by have := hb2.size; first | omega | (simp at this; omega))
  clear hb2
  go_wp2
  go_ret
  exact ⟨rfl, G4.out⟩
set_option maxRecDepth 100000 in
set_option maxHeartbeats 8000000 in
theorem walkSmall (v0 : Value) (xs0 : List Int) (n1 : Int) (w : World) (hv0 : Ints w v0 xs0) (hm0 : xs0.length ≤ maxLen) (wf1 : (Lit.int .i64 n1).wf = true) (HS0 : Hid (szRes (1048576 : Int) xs0.length = (1048576 : Int) - xs0.length)) (hq0 : ¬ (1048576 : Int) < xs0.length) (hl0 : xs0.length ≤ 1048576) :
    Calls Try.prog 8 #[.agg #[v0], .int .i64 n1] w fun e w' => e = .returned (.bool true) ∧ Below w.heap.size w w' := by
  have HV0 := hid hv0
  clear hv0
  have WF1 := hid wf1
  clear wf1
  go_enter Try.func8, Try.ntmps8
  go_wp2_with fail
  refine (szPoset_any v0 xs0 _ _ (HV0.out.later (below_alloc (Below.refl _ w) _)) hm0 (by omega) (by omega)).mono ?_
  rw [HS0.out]
  rintro e w_6 ⟨rfl, hb7⟩
  have F8 := hid ((At.new w v0 24).below hb7)
  have G9 := hid (below_to (below_alloc (Below.refl _ w) _) hb7)
  have Z10 := hid (show w.heap.size + 1 ≤ w_6.heap.size by have := hb7.size; first | omega | (simp at this; omega))
  clear hb7
  have e11 := F8.out.1
  have e11z := F8.out.2
  go_wp2_with fail
  clear e11 e11z
  refine (toPoset_own v0 xs0 _ (HV0.out.later G9.out) hl0).mono ?_
  rintro e w_12 ⟨u13, rfl, ho15, hb14⟩
  have F16 := hid (F8.out.below hb14)
  have G17 := hid (below_to G9.out hb14)
  have Z18 := hid (show w_6.heap.size + 0 ≤ w_12.heap.size by have := hb14.size; first | omega | (simp at this; omega))
  have hn19 := ho15
  obtain ⟨u13A, u13n, u13c, rfl⟩ := hn19.shape3
  have U20 := hid (OwnI.blockLt hn19)
  have F21 := hid hn19
  clear F8 G9 hb14 ho15 hn19
  have e22 := F16.out.1
  have e22z := F16.out.2
  go_wp2_with fail
  clear e22 e22z
  refine (specAllArrays_any (Value.slice u13A u13n u13c) xs0 n1 _ F21.out.ints hl0 WF1.out).mono ?_
  rintro e w_23 ⟨u25, rfl, ho26, hl27, hb24⟩
  have F28 := hid (F16.out.below hb24)
  have F29 := hid (F21.out.below hb24)
  have G30 := hid (below_to G17.out hb24)
  have Z31 := hid (show w_12.heap.size + 0 ≤ w_23.heap.size by have := hb24.size; first | omega | (simp at this; omega))
  have hn32 := ho26
  have HL33 := hid hl27
  obtain ⟨u25A, u25n, u25c, rfl⟩ := hn32.shape3
  have F34 := hid hn32
  clear F16 F21 G17 hb24 hn32 ho26 hl27
  have e35 := F28.out.1
  have e35z := F28.out.2
  go_wp2_with fail
  clear e35 e35z
  refine (toPoset_own v0 xs0 _ (HV0.out.later G30.out) hl0).mono ?_
  rintro e w_36 ⟨u37, rfl, ho39, hb38⟩
  have F40 := hid (F28.out.below hb38)
  have F41 := hid (F29.out.below hb38)
  have F42 := hid (F34.out.below hb38)
  have G43 := hid (below_to G30.out hb38)
  have Z44 := hid (show w_23.heap.size + 0 ≤ w_36.heap.size by have := hb38.size; first | omega | (simp at this; omega))
  have hn45 := ho39
  obtain ⟨u37A, u37n, u37c, rfl⟩ := hn45.shape3
  have U46 := hid (OwnI.blockLt hn45)
  have F47 := hid hn45
  clear F28 F29 F34 G30 hb38 ho39 hn45
  have e48 := F40.out.1
  have e48z := F40.out.2
  go_wp2_with fail
  clear e48 e48z
  refine (implAllArrays_any (Value.slice u37A u37n u37c) xs0 n1 _ (F47.out.alloc _).ints hl0 WF1.out).mono ?_
  rintro e w_49 ⟨u51, rfl, ho52, hl53, hb50⟩
  have F54 := hid ((F40.out.alloc _).below hb50)
  have F55 := hid ((F41.out.alloc _).below hb50)
  have F56 := hid ((F42.out.alloc _).below hb50)
  have F57 := hid ((F47.out.alloc _).below hb50)
  have F58 := hid ((At.new w_36 (Value.slice u37A u37n u37c) 28).below hb50)
  have G59 := hid (below_to (below_alloc G43.out _) hb50)
  have Z60 := hid (show w_36.heap.size + 1 ≤ w_49.heap.size by have := hb50.size; first | omega | (simp at this; omega))
  have hn61 : OwnSS 3 22 w_49 (w_36.heap.size + 1) w_49.heap.size u51 (ansAA xs0 n1) := by simpa using ho52
  have HL62 := hid hl53
  obtain ⟨u51A, u51n, u51c, rfl⟩ := hn61.shape3
  have F63 := hid hn61
  clear F40 F41 F42 F47 G43 hb50 hn61 ho52 hl53
  have e64 := F54.out.1
  have e64z := F54.out.2
  have e65 := F58.out.1
  have e65z := F58.out.2
  go_wp2_with fail
  clear e64 e64z e65 e65z
  refine (eqIntSS_any _ _ ((ansAA xs0 n1)) _ F63.out.ints F56.out.ints HL62.out.1 HL62.out.2.1).mono ?_
  rintro e w_66 ⟨rfl, hb67⟩
  have F68 := hid (F54.out.below hb67)
  have F69 := hid (F55.out.below hb67)
  have F70 := hid (F56.out.below hb67)
  have F71 := hid (F57.out.below hb67)
  have F72 := hid (F58.out.below hb67)
  have F73 := hid (F63.out.below hb67)
  have G74 := hid (below_to G59.out hb67)
  have Z75 := hid (show w_49.heap.size + 0 ≤ w_66.heap.size by have := hb67.size; first | omega | (simp at this; omega))
  clear F54 F55 F56 F57 F58 F63 G59 hb67
  have e76 := F68.out.1
  have e76z := F68.out.2
  have e77 := F72.out.1
  have e77z := F72.out.2
  go_upto_region 10 with fail
  go_cut [49] (fun s wx => s = .bool false ∧ At wx (w.heap.size) (v0) ∧ OwnI 3 wx (w_6.heap.size) (Value.slice u13A u13n u13c) xs0 ∧ OwnSS 3 22 wx (w_12.heap.size) (w_23.heap.size) (Value.slice u25A u25n u25c) ((ansAA xs0 n1)) ∧ OwnI 3 wx (w_23.heap.size) (Value.slice u37A u37n u37c) xs0 ∧ At wx (w_36.heap.size) ((Value.slice u37A u37n u37c)) ∧ OwnSS 3 22 wx (w_36.heap.size + 1) (w_49.heap.size) (Value.slice u51A u51n u51c) ((ansAA xs0 n1)) ∧ w_66.heap.size ≤ wx.heap.size ∧ Below w.heap.size w wx)
  case first =>
    go_region_with (first | (go_at_call 12; refine (toPoset_own v0 xs0 _ (((HV0.out.later G74.out)).drew) hl0).mono ?_; rintro e w_78 ⟨u79, rfl, ho3, hb80⟩; have K0 := hid (F68.out.drew.below hb80); have K1 := hid (F69.out.drew.below hb80); have K2 := hid (F70.out.drew.below hb80); have K3 := hid (F71.out.drew.below hb80); have K4 := hid (F72.out.drew.below hb80); have K5 := hid (F73.out.drew.below hb80); have KZ := hid (show w_66.heap.size ≤ w_78.heap.size by have := hb80.size; simpa using this); have KB := hid (below_to G74.out.drew hb80); have KO := hid ho3; have hx6 := K4.out.1; clear ho3 hb80) | (go_at_call 15; refine (eqPoset_any _ _ (xs0) _ K3.out.ints KO.out.ints hl0).mono ?_; rintro e w_81 ⟨rfl, hb82⟩; have M0 := hid (K0.out.below hb82); have M1 := hid (K1.out.below hb82); have M2 := hid (K2.out.below hb82); have M3 := hid (K3.out.below hb82); have M4 := hid (K4.out.below hb82); have M5 := hid (K5.out.below hb82); have MZ := hid (show w_66.heap.size ≤ w_81.heap.size by have := hb82.size; have := KZ.out; omega); have MB := hid (below_to KB.out hb82); clear hb82))
    all_goals (go_wp2_with fail; go_meet; exact ⟨rfl, M0.out, M1.out, M2.out, M3.out, M4.out, M5.out, MZ.out, MB.out⟩)
  case rest =>
    clear e76 e76z e77 e77z
    obtain ⟨rfl, c0, c1, c2, c3, c4, c5, hzc, hbc⟩ := hcut
    obtain ⟨wc83, rfl⟩ : ∃ x, x = wc := ⟨wc, rfl⟩
    have F84 := hid c0
    have F85 := hid c1
    have F86 := hid c2
    have F87 := hid c3
    have F88 := hid c4
    have F89 := hid c5
    have Z90 := hid hzc
    have G91 := hid hbc
    clear c0 F68 c1 F69 c2 F70 c3 F71 c4 F72 c5 F73 hzc hbc G74
    have e92 := F84.out.1
    have e92z := F84.out.2
    have e93 := F88.out.1
    have e93z := F88.out.2
    go_wp2_with fail
    clear e92 e92z e93 e93z
    refine (markPoset_any _ (xs0) _ _ _ F87.out hl0 (by omega) (by first | omega | (have := hl0; omega))).mono ?_
    rintro e w_94 ⟨rfl, ho95, hg96⟩
    have qZ10 := Z10.out
    have qZ18 := Z18.out
    have qZ31 := Z31.out
    have qZ44 := Z44.out
    have qZ60 := Z60.out
    have qZ75 := Z75.out
    have qZ90 := Z90.out
    have hg96t := TurnedIn.of_grown hg96 (U46.out)
    have F97 := hid (F84.out.turned hg96t (by omega))
    have F98 := hid (F85.out.turned hg96t (U20.out) (by omega))
    have F99 := hid (F86.out.turned hg96t (by omega))
    have F100 := hid (F88.out.turned hg96t (by omega))
    have F101 := hid (F89.out.turned hg96t (by omega))
    have G102 := hid (below_turned G91.out hg96t (by omega))
    have Z103 := hid (show wc83.heap.size + 0 ≤ w_94.heap.size by have := hg96.size; first | omega | (simp at this; omega))
    clear qZ10 qZ18 qZ31 qZ44 qZ60 qZ75 qZ90
    have F104 := hid ho95
    clear F84 F85 F86 F88 F89 G91 hg96t F87 ho95 hg96
    have e105 := F97.out.1
    have e105z := F97.out.2
    have e106 := F100.out.1
    have e106z := F100.out.2
    go_wp2_with fail
    clear e105 e105z e106 e106z
    refine (eqIntSS_any _ _ ((ansAA xs0 n1)) _ F101.out.ints F99.out.ints HL62.out.1 HL62.out.2.1).mono ?_
    rintro e w_107 ⟨rfl, hb108⟩
    have F109 := hid (F97.out.below hb108)
    have F110 := hid (F98.out.below hb108)
    have F111 := hid (F99.out.below hb108)
    have F112 := hid (F100.out.below hb108)
    have F113 := hid (F101.out.below hb108)
    have F114 := hid (F104.out.below hb108)
    have G115 := hid (below_to G102.out hb108)
    have Z116 := hid (show w_94.heap.size + 0 ≤ w_107.heap.size by have := hb108.size; first | omega | (simp at this; omega))
    clear F97 F98 F99 F100 F101 F104 G102 hb108
    have e117 := F109.out.1
    have e117z := F109.out.2
    have e118 := F112.out.1
    have e118z := F112.out.2
    go_wp2_with fail
    clear e117 e117z e118 e118z
    refine (markIntSS_any _ ((ansAA xs0 n1)) _ _ _ _ F113.out HL62.out (by omega) (by omega)).mono ?_
    rintro e w_119 ⟨rfl, ho120, ht121⟩
    have qZ10 := Z10.out
    have qZ18 := Z18.out
    have qZ31 := Z31.out
    have qZ44 := Z44.out
    have qZ60 := Z60.out
    have qZ75 := Z75.out
    have qZ90 := Z90.out
    have qZ103 := Z103.out
    have qZ116 := Z116.out
    have F122 := hid (F109.out.turned ht121 (by omega))
    have F123 := hid (F110.out.turned ht121 (U20.out) (by omega))
    have F124 := hid (F111.out.turned ht121 (by omega))
    have F125 := hid (F112.out.turned ht121 (by omega))
    have F126 := hid (F114.out.turned ht121 (U46.out) (by omega))
    have G127 := hid (below_turned G115.out ht121 (by omega))
    have Z128 := hid (show w_107.heap.size + 0 ≤ w_119.heap.size by have := ht121.size; first | omega | (simp at this; omega))
    clear qZ10 qZ18 qZ31 qZ44 qZ60 qZ75 qZ90 qZ103 qZ116
    have F129 := hid ho120
    clear F109 F110 F111 F112 F114 G115 F113 ho120 ht121
    have e130 := F122.out.1
    have e130z := F122.out.2
    have e131 := F125.out.1
    have e131z := F125.out.2
    go_wp2_with fail
    clear e130 e130z e131 e131z
    refine (heldIntSS_any _ ((ansAA xs0 n1)) _ _ F129.out.ints HL62.out (by omega) (by omega)).mono ?_
    rintro e w_132 ⟨rfl, hb133⟩
    have F134 := hid (F122.out.below hb133)
    have F135 := hid (F123.out.below hb133)
    have F136 := hid (F124.out.below hb133)
    have F137 := hid (F125.out.below hb133)
    have F138 := hid (F126.out.below hb133)
    have F139 := hid (F129.out.below hb133)
    have G140 := hid (below_to G127.out hb133)
    have Z141 := hid (show w_119.heap.size + 0 ≤ w_132.heap.size by have := hb133.size; first | omega | (simp at this; omega))
    clear F122 F123 F124 F125 F126 F129 G127 hb133
    have e142 := F134.out.1
    have e142z := F134.out.2
    have e143 := F137.out.1
    have e143z := F137.out.2
    go_wp2_with fail
    clear e142 e142z e143 e143z
    refine (toPoset_own v0 xs0 _ (HV0.out.later G140.out) hl0).mono ?_
    rintro e w_144 ⟨u145, rfl, ho147, hb146⟩
    have F148 := hid (F134.out.below hb146)
    have F149 := hid (F135.out.below hb146)
    have F150 := hid (F136.out.below hb146)
    have F151 := hid (F137.out.below hb146)
    have F152 := hid (F138.out.below hb146)
    have F153 := hid (F139.out.below hb146)
    have G154 := hid (below_to G140.out hb146)
    have Z155 := hid (show w_132.heap.size + 0 ≤ w_144.heap.size by have := hb146.size; first | omega | (simp at this; omega))
    have hn156 := ho147
    obtain ⟨u145A, u145n, u145c, rfl⟩ := hn156.shape3
    have U157 := hid (OwnI.blockLt hn156)
    have F158 := hid hn156
    clear F134 F135 F136 F137 F138 F139 G140 hb146 ho147 hn156
    have e159 := F148.out.1
    have e159z := F148.out.2
    have e160 := F151.out.1
    have e160z := F151.out.2
    go_wp2_with fail
    clear e159 e159z e160 e160z
    refine (implAllArrays_any (Value.slice u145A u145n u145c) xs0 n1 _ F158.out.ints hl0 WF1.out).mono ?_
    rintro e w_161 ⟨u163, rfl, ho164, hl165, hb162⟩
    have F166 := hid (F148.out.below hb162)
    have F167 := hid (F149.out.below hb162)
    have F168 := hid (F150.out.below hb162)
    have F169 := hid (F151.out.below hb162)
    have F170 := hid (F152.out.below hb162)
    have F171 := hid (F153.out.below hb162)
    have F172 := hid (F158.out.below hb162)
    have G173 := hid (below_to G154.out hb162)
    have Z174 := hid (show w_144.heap.size + 0 ≤ w_161.heap.size by have := hb162.size; first | omega | (simp at this; omega))
    have hn175 := ho164
    have HL176 := hid hl165
    obtain ⟨u163A, u163n, u163c, rfl⟩ := hn175.shape3
    have F177 := hid hn175
    clear F148 F149 F150 F151 F152 F153 F158 G154 hb162 hn175 ho164 hl165
    have e178 := F166.out.1
    have e178z := F166.out.2
    have e179 := F169.out.1
    have e179z := F169.out.2
    go_wp2_with fail
    clear e178 e178z e179 e179z
    refine (eqIntSS_any _ _ ((ansAA xs0 n1)) _ F177.out.ints F168.out.ints HL176.out.1 HL176.out.2.1).mono ?_
    rintro e w_180 ⟨rfl, hb181⟩
    have F182 := hid (F166.out.below hb181)
    have F183 := hid (F167.out.below hb181)
    have F184 := hid (F168.out.below hb181)
    have F185 := hid (F169.out.below hb181)
    have F186 := hid (F170.out.below hb181)
    have F187 := hid (F171.out.below hb181)
    have F188 := hid (F172.out.below hb181)
    have F189 := hid (F177.out.below hb181)
    have G190 := hid (below_to G173.out hb181)
    have Z191 := hid (show w_161.heap.size + 0 ≤ w_180.heap.size by have := hb181.size; first | omega | (simp at this; omega))
    clear F166 F167 F168 F169 F170 F171 F172 F177 G173 hb181
    have e192 := F182.out.1
    have e192z := F182.out.2
    have e193 := F185.out.1
    have e193z := F185.out.2
    go_wp2_with fail
    clear e192 e192z e193 e193z
    refine (heldIntSS_any _ ((ansAA xs0 n1)) _ _ F187.out.ints HL62.out (by omega) (by omega)).mono ?_
    rintro e w_194 ⟨rfl, hb195⟩
    have F196 := hid (F182.out.below hb195)
    have F197 := hid (F183.out.below hb195)
    have F198 := hid (F184.out.below hb195)
    have F199 := hid (F185.out.below hb195)
    have F200 := hid (F186.out.below hb195)
    have F201 := hid (F187.out.below hb195)
    have F202 := hid (F188.out.below hb195)
    have F203 := hid (F189.out.below hb195)
    have G204 := hid (below_to G190.out hb195)
    have Z205 := hid (show w_180.heap.size + 0 ≤ w_194.heap.size by have := hb195.size; first | omega | (simp at this; omega))
    clear F182 F183 F184 F185 F186 F187 F188 F189 G190 hb195
    go_wp2
    go_ret
    exact ⟨rfl, G204.out⟩
theorem walk (v0 : Value) (xs0 : List Int) (n1 : Int) (w : World) (hv0 : Ints w v0 xs0) (hm0 : xs0.length ≤ maxLen) (wf1 : (Lit.int .i64 n1).wf = true) :
    Calls Try.prog 8 #[.agg #[v0], .int .i64 n1] w fun e w' => e = .returned (.bool true) ∧ Below w.heap.size w w' := by
  by_cases hq0 : (1048576 : Int) < xs0.length
  · exact walkBig0 v0 xs0 n1 w hv0 hm0 wf1   (hid (szRes_neg hq0))
  exact walkSmall v0 xs0 n1 w hv0 hm0 wf1  (hid (szRes_pos hq0)) hq0 (by omega)
end Go.Proofs.Ytgepbekdgocnpab.lawAllArrays
