/- FnExactArrayOrbit: the law's walk (by genlaw.py). -/
import Derived.Test.YtgepbekdgocnpaaAp
import Derived.Test.YtgepbekdgocnpaaNest2
import Derived.Deep.DeepCutAuto
namespace Go.Proofs.Ytgepbekdgocnpaa.lawArrayOrbit
open Go.RowKit Go.WideShapes Go.ChangeShapes
set_option linter.unusedVariables false
set_option maxHeartbeats 1000000 in
theorem walkLen1 (v0 : Value) (xs0 : List Int) (v1 : Value) (xs1 : List Int) (n2 : Int) (w : World) (hv0 : Ints w v0 xs0) (hm0 : xs0.length ≤ maxLen) (hv1 : Ints w v1 xs1) (hm1 : xs1.length ≤ maxLen) (wf2 : (Lit.int .i64 n2).wf = true) (hbig : 1048576 < xs1.length) :
    Calls Try.prog 10 #[.agg #[v0], v1, .int .i64 n2] w fun e w' => e = .returned (.bool true) ∧ Below w.heap.size w w' := by
  obtain ⟨A1, c1, rfl, -⟩ := hv1
  unfold maxLen at hm1
  go_enter Try.func10, Try.ntmps10
  go_wp2
  go_ret
  exact ⟨rfl, (below_alloc (Below.refl _ w) _)⟩
set_option maxRecDepth 100000 in
set_option maxHeartbeats 1000000 in
theorem walkBig0 (v0 : Value) (xs0 : List Int) (v1 : Value) (xs1 : List Int) (n2 : Int) (w : World) (hv0 : Ints w v0 xs0) (hm0 : xs0.length ≤ maxLen) (hv1 : Ints w v1 xs1) (hm1 : xs1.length ≤ maxLen) (wf2 : (Lit.int .i64 n2).wf = true) (hl1 : xs1.length ≤ 1048576) (HS0 : Hid (szRes (1048576 : Int) xs0.length = -1)) :
    Calls Try.prog 10 #[.agg #[v0], v1, .int .i64 n2] w fun e w' => e = .returned (.bool true) ∧ Below w.heap.size w w' := by
  have hv1q := hv1
  obtain ⟨A1, c1, hsh1, -⟩ := hv1q
  subst hsh1
  have HV0 := hid hv0
  clear hv0
  have HV1 := hid hv1
  clear hv1
  have WF2 := hid wf2
  clear wf2
  go_enter Try.func10, Try.ntmps10
  go_wp2_with fail
  refine (szPoset_any v0 xs0 _ _ (HV0.out.later (below_alloc (Below.refl _ w) _)) hm0 (by omega) (by omega)).mono ?_
  rw [HS0.out]
  rintro e w_1 ⟨rfl, hb2⟩
  have F3 := hid ((At.new w v0 24).below hb2)
  have G4 := hid (below_to (below_alloc (Below.refl _ w) _) hb2)
  have Z5 := hid (show w.heap.size + 1 ≤ w_1.heap.size by have := hb2.size; first | omega | (simp at this; omega))
  clear hb2
  go_wp2
  go_ret
  exact ⟨rfl, G4.out⟩
set_option maxRecDepth 100000 in
set_option maxHeartbeats 8000000 in
theorem walkSmall (v0 : Value) (xs0 : List Int) (v1 : Value) (xs1 : List Int) (n2 : Int) (w : World) (hv0 : Ints w v0 xs0) (hm0 : xs0.length ≤ maxLen) (hv1 : Ints w v1 xs1) (hm1 : xs1.length ≤ maxLen) (wf2 : (Lit.int .i64 n2).wf = true) (hl1 : xs1.length ≤ 1048576) (HS0 : Hid (szRes (1048576 : Int) xs0.length = (1048576 : Int) - xs0.length)) (hq0 : ¬ (1048576 : Int) < xs0.length) (hl0 : xs0.length ≤ 1048576) :
    Calls Try.prog 10 #[.agg #[v0], v1, .int .i64 n2] w fun e w' => e = .returned (.bool true) ∧ Below w.heap.size w w' := by
  have hv1q := hv1
  obtain ⟨A1, c1, hsh1, -⟩ := hv1q
  subst hsh1
  have HV0 := hid hv0
  clear hv0
  have HV1 := hid hv1
  clear hv1
  have WF2 := hid wf2
  clear wf2
  go_enter Try.func10, Try.ntmps10
  go_wp2_with fail
  refine (szPoset_any v0 xs0 _ _ (HV0.out.later (below_alloc (Below.refl _ w) _)) hm0 (by omega) (by omega)).mono ?_
  rw [HS0.out]
  rintro e w_6 ⟨rfl, hb7⟩
  have F8 := hid ((At.new w v0 24).below hb7)
  have G9 := hid (below_to (below_alloc (Below.refl _ w) _) hb7)
  have Z10 := hid (show w.heap.size + 1 ≤ w_6.heap.size by have := hb7.size; first | omega | (simp at this; omega))
  clear hb7
  have e11 := F8.out.1
  have e11z := F8.out.2
  go_wp2_with fail
  clear e11 e11z
  refine (toPoset_own v0 xs0 _ (HV0.out.later G9.out) hl0).mono ?_
  rintro e w_12 ⟨u13, rfl, ho15, hb14⟩
  have F16 := hid (F8.out.below hb14)
  have G17 := hid (below_to G9.out hb14)
  have Z18 := hid (show w_6.heap.size + 0 ≤ w_12.heap.size by have := hb14.size; first | omega | (simp at this; omega))
  have hn19 := ho15
  obtain ⟨u13A, u13n, u13c, rfl⟩ := hn19.shape3
  have U20 := hid (OwnI.blockLt hn19)
  have F21 := hid hn19
  clear F8 G9 hb14 ho15 hn19
  have e22 := F16.out.1
  have e22z := F16.out.2
  go_wp2_with fail
  clear e22 e22z
  refine (toIntS_own (.slice A1 xs1.length c1) xs1 _ (HV1.out.later G17.out) hl1).mono ?_
  rintro e w_23 ⟨u24, rfl, ho26, hb25⟩
  have F27 := hid (F16.out.below hb25)
  have F28 := hid (F21.out.below hb25)
  have G29 := hid (below_to G17.out hb25)
  have Z30 := hid (show w_12.heap.size + 0 ≤ w_23.heap.size by have := hb25.size; first | omega | (simp at this; omega))
  have hn31 := ho26
  obtain ⟨u24A, u24n, u24c, rfl⟩ := hn31.shape3
  have U32 := hid (OwnI.blockLt hn31)
  have F33 := hid hn31
  clear F16 F21 G17 hb25 ho26 hn31
  have e34 := F27.out.1
  have e34z := F27.out.2
  go_wp2_with fail
  clear e34 e34z
  refine (specArrayOrbit_any (Value.slice u13A u13n u13c) xs0 (Value.slice u24A u24n u24c) xs1 n2 _ F28.out.ints hl0 F33.out.ints hl1 WF2.out).mono ?_
  rintro e w_35 ⟨u37, rfl, ho38, hl39, hb36⟩
  have F40 := hid (F27.out.below hb36)
  have F41 := hid (F28.out.below hb36)
  have F42 := hid (F33.out.below hb36)
  have G43 := hid (below_to G29.out hb36)
  have Z44 := hid (show w_23.heap.size + 0 ≤ w_35.heap.size by have := hb36.size; first | omega | (simp at this; omega))
  have hn45 := ho38
  have HL46 := hid hl39
  obtain ⟨u37A, u37n, u37c, rfl⟩ := hn45.shape3
  have F47 := hid hn45
  clear F27 F28 F33 G29 hb36 hn45 ho38 hl39
  have e48 := F40.out.1
  have e48z := F40.out.2
  go_wp2_with fail
  clear e48 e48z
  refine (toPoset_own v0 xs0 _ (HV0.out.later G43.out) hl0).mono ?_
  rintro e w_49 ⟨u50, rfl, ho52, hb51⟩
  have F53 := hid (F40.out.below hb51)
  have F54 := hid (F41.out.below hb51)
  have F55 := hid (F42.out.below hb51)
  have F56 := hid (F47.out.below hb51)
  have G57 := hid (below_to G43.out hb51)
  have Z58 := hid (show w_35.heap.size + 0 ≤ w_49.heap.size by have := hb51.size; first | omega | (simp at this; omega))
  have hn59 := ho52
  obtain ⟨u50A, u50n, u50c, rfl⟩ := hn59.shape3
  have U60 := hid (OwnI.blockLt hn59)
  have F61 := hid hn59
  clear F40 F41 F42 F47 G43 hb51 ho52 hn59
  have e62 := F53.out.1
  have e62z := F53.out.2
  go_wp2_with fail
  clear e62 e62z
  refine (toIntS_own (.slice A1 xs1.length c1) xs1 _ (HV1.out.later (below_alloc G57.out _)) hl1).mono ?_
  rintro e w_63 ⟨u64, rfl, ho66, hb65⟩
  have F67 := hid ((F53.out.alloc _).below hb65)
  have F68 := hid ((F54.out.alloc _).below hb65)
  have F69 := hid ((F55.out.alloc _).below hb65)
  have F70 := hid ((F56.out.alloc _).below hb65)
  have F71 := hid ((F61.out.alloc _).below hb65)
  have F72 := hid ((At.new w_49 (Value.slice u50A u50n u50c) 28).below hb65)
  have G73 := hid (below_to (below_alloc G57.out _) hb65)
  have Z74 := hid (show w_49.heap.size + 1 ≤ w_63.heap.size by have := hb65.size; first | omega | (simp at this; omega))
  have hn75 : OwnI 3 w_63 (w_49.heap.size + 1) u64 xs1 := by simpa using ho66
  obtain ⟨u64A, u64n, u64c, rfl⟩ := hn75.shape3
  have U76 := hid (OwnI.blockLt hn75)
  have F77 := hid hn75
  clear F53 F54 F55 F56 F61 G57 hb65 ho66 hn75
  have e78 := F67.out.1
  have e78z := F67.out.2
  have e79 := F72.out.1
  have e79z := F72.out.2
  go_wp2_with fail
  clear e78 e78z e79 e79z
  refine (implArrayOrbit_any (Value.slice u50A u50n u50c) xs0 (Value.slice u64A u64n u64c) xs1 n2 _ F71.out.ints hl0 F77.out.ints hl1 WF2.out).mono ?_
  rintro e w_80 ⟨u82, rfl, ho83, hl84, hb81⟩
  have F85 := hid (F67.out.below hb81)
  have F86 := hid (F68.out.below hb81)
  have F87 := hid (F69.out.below hb81)
  have F88 := hid (F70.out.below hb81)
  have F89 := hid (F71.out.below hb81)
  have F90 := hid (F72.out.below hb81)
  have F91 := hid (F77.out.below hb81)
  have G92 := hid (below_to G73.out hb81)
  have Z93 := hid (show w_63.heap.size + 0 ≤ w_80.heap.size by have := hb81.size; first | omega | (simp at this; omega))
  have hn94 := ho83
  have HL95 := hid hl84
  obtain ⟨u82A, u82n, u82c, rfl⟩ := hn94.shape3
  have F96 := hid hn94
  clear F67 F68 F69 F70 F71 F72 F77 G73 hb81 hn94 ho83 hl84
  have e97 := F85.out.1
  have e97z := F85.out.2
  have e98 := F90.out.1
  have e98z := F90.out.2
  go_wp2_with fail
  clear e97 e97z e98 e98z
  refine (eqIntSS_any _ _ ((ansAO xs0 xs1 n2)) _ F96.out.ints F88.out.ints HL95.out.1 HL95.out.2.1).mono ?_
  rintro e w_99 ⟨rfl, hb100⟩
  have F101 := hid (F85.out.below hb100)
  have F102 := hid (F86.out.below hb100)
  have F103 := hid (F87.out.below hb100)
  have F104 := hid (F88.out.below hb100)
  have F105 := hid (F89.out.below hb100)
  have F106 := hid (F90.out.below hb100)
  have F107 := hid (F91.out.below hb100)
  have F108 := hid (F96.out.below hb100)
  have G109 := hid (below_to G92.out hb100)
  have Z110 := hid (show w_80.heap.size + 0 ≤ w_99.heap.size by have := hb100.size; first | omega | (simp at this; omega))
  clear F85 F86 F87 F88 F89 F90 F91 F96 G92 hb100
  have e111 := F101.out.1
  have e111z := F101.out.2
  have e112 := F106.out.1
  have e112z := F106.out.2
  go_upto_region 13 with fail
  go_cut [60] (fun s wx => s = .bool false ∧ At wx (w.heap.size) (v0) ∧ OwnI 3 wx (w_6.heap.size) (Value.slice u13A u13n u13c) xs0 ∧ OwnI 3 wx (w_12.heap.size) (Value.slice u24A u24n u24c) xs1 ∧ OwnSS 3 22 wx (w_23.heap.size) (w_35.heap.size) (Value.slice u37A u37n u37c) ((ansAO xs0 xs1 n2)) ∧ OwnI 3 wx (w_35.heap.size) (Value.slice u50A u50n u50c) xs0 ∧ At wx (w_49.heap.size) ((Value.slice u50A u50n u50c)) ∧ OwnI 3 wx (w_49.heap.size + 1) (Value.slice u64A u64n u64c) xs1 ∧ OwnSS 3 22 wx (w_63.heap.size) (w_80.heap.size) (Value.slice u82A u82n u82c) ((ansAO xs0 xs1 n2)) ∧ w_99.heap.size ≤ wx.heap.size ∧ Below w.heap.size w wx)
  case first =>
    go_region_with (first | (go_at_call 13; refine (toPoset_own v0 xs0 _ (((HV0.out.later G109.out)).drew) hl0).mono ?_; rintro e w_113 ⟨u114, rfl, ho3, hb115⟩; have K0 := hid (F101.out.drew.below hb115); have K1 := hid (F102.out.drew.below hb115); have K2 := hid (F103.out.drew.below hb115); have K3 := hid (F104.out.drew.below hb115); have K4 := hid (F105.out.drew.below hb115); have K5 := hid (F106.out.drew.below hb115); have K6 := hid (F107.out.drew.below hb115); have K7 := hid (F108.out.drew.below hb115); have KZ := hid (show w_99.heap.size ≤ w_113.heap.size by have := hb115.size; simpa using this); have KB := hid (below_to G109.out.drew hb115); have KO := hid ho3; have hx6 := K5.out.1; clear ho3 hb115) | (go_at_call 16; refine (eqPoset_any _ _ (xs0) _ K4.out.ints KO.out.ints hl0).mono ?_; rintro e w_116 ⟨rfl, hb117⟩; have M0 := hid (K0.out.below hb117); have M1 := hid (K1.out.below hb117); have M2 := hid (K2.out.below hb117); have M3 := hid (K3.out.below hb117); have M4 := hid (K4.out.below hb117); have M5 := hid (K5.out.below hb117); have M6 := hid (K6.out.below hb117); have M7 := hid (K7.out.below hb117); have MZ := hid (show w_99.heap.size ≤ w_116.heap.size by have := hb117.size; have := KZ.out; omega); have MB := hid (below_to KB.out hb117); clear hb117))
    all_goals (go_wp2_with fail; go_meet; exact ⟨rfl, M0.out, M1.out, M2.out, M3.out, M4.out, M5.out, M6.out, M7.out, MZ.out, MB.out⟩)
  case rest =>
    clear e111 e111z e112 e112z
    obtain ⟨rfl, c0, c1, c2, c3, c4, c5, c6, c7, hzc, hbc⟩ := hcut
    obtain ⟨wc118, rfl⟩ : ∃ x, x = wc := ⟨wc, rfl⟩
    have F119 := hid c0
    have F120 := hid c1
    have F121 := hid c2
    have F122 := hid c3
    have F123 := hid c4
    have F124 := hid c5
    have F125 := hid c6
    have F126 := hid c7
    have Z127 := hid hzc
    have G128 := hid hbc
    clear c0 F101 c1 F102 c2 F103 c3 F104 c4 F105 c5 F106 c6 F107 c7 F108 hzc hbc G109
    have e129 := F119.out.1
    have e129z := F119.out.2
    have e130 := F124.out.1
    have e130z := F124.out.2
    go_wp2_with fail
    clear e129 e129z e130 e130z
    refine (toIntS_own (.slice A1 xs1.length c1) xs1 _ (HV1.out.later G128.out) hl1).mono ?_
    rintro e w_131 ⟨u132, rfl, ho134, hb133⟩
    have F135 := hid (F119.out.below hb133)
    have F136 := hid (F120.out.below hb133)
    have F137 := hid (F121.out.below hb133)
    have F138 := hid (F122.out.below hb133)
    have F139 := hid (F123.out.below hb133)
    have F140 := hid (F124.out.below hb133)
    have F141 := hid (F125.out.below hb133)
    have F142 := hid (F126.out.below hb133)
    have G143 := hid (below_to G128.out hb133)
    have Z144 := hid (show wc118.heap.size + 0 ≤ w_131.heap.size by have := hb133.size; first | omega | (simp at this; omega))
    have hn145 := ho134
    obtain ⟨u132A, u132n, u132c, rfl⟩ := hn145.shape3
    have U146 := hid (OwnI.blockLt hn145)
    have F147 := hid hn145
    clear F119 F120 F121 F122 F123 F124 F125 F126 G128 hb133 ho134 hn145
    have e148 := F135.out.1
    have e148z := F135.out.2
    have e149 := F140.out.1
    have e149z := F140.out.2
    go_wp2_with fail
    clear e148 e148z e149 e149z
    refine (eqIntS_any _ _ (xs1) _ F141.out.ints F147.out.ints hl1).mono ?_
    rintro e w_150 ⟨rfl, hb151⟩
    have F152 := hid (F135.out.below hb151)
    have F153 := hid (F136.out.below hb151)
    have F154 := hid (F137.out.below hb151)
    have F155 := hid (F138.out.below hb151)
    have F156 := hid (F139.out.below hb151)
    have F157 := hid (F140.out.below hb151)
    have F158 := hid (F141.out.below hb151)
    have F159 := hid (F142.out.below hb151)
    have F160 := hid (F147.out.below hb151)
    have G161 := hid (below_to G143.out hb151)
    have Z162 := hid (show w_131.heap.size + 0 ≤ w_150.heap.size by have := hb151.size; first | omega | (simp at this; omega))
    clear F135 F136 F137 F138 F139 F140 F141 F142 F147 G143 hb151
    have e163 := F152.out.1
    have e163z := F152.out.2
    have e164 := F157.out.1
    have e164z := F157.out.2
    go_wp2_with fail
    clear e163 e163z e164 e164z
    refine (markPoset_any _ (xs0) _ _ _ F156.out hl0 (by omega) (by first | omega | (have := hl0; omega))).mono ?_
    rintro e w_165 ⟨rfl, ho166, hg167⟩
    have qZ10 := Z10.out
    have qZ18 := Z18.out
    have qZ30 := Z30.out
    have qZ44 := Z44.out
    have qZ58 := Z58.out
    have qZ74 := Z74.out
    have qZ93 := Z93.out
    have qZ110 := Z110.out
    have qZ127 := Z127.out
    have qZ144 := Z144.out
    have qZ162 := Z162.out
    have hg167t := TurnedIn.of_grown hg167 (U60.out)
    have F168 := hid (F152.out.turned hg167t (by omega))
    have F169 := hid (F153.out.turned hg167t (U20.out) (by omega))
    have F170 := hid (F154.out.turned hg167t (U32.out) (by omega))
    have F171 := hid (F155.out.turned hg167t (by omega))
    have F172 := hid (F157.out.turned hg167t (by omega))
    have F173 := hid (F158.out.turned hg167t (U76.out) (by omega))
    have F174 := hid (F159.out.turned hg167t (by omega))
    have F175 := hid (F160.out.turned hg167t (U146.out) (by omega))
    have G176 := hid (below_turned G161.out hg167t (by omega))
    have Z177 := hid (show w_150.heap.size + 0 ≤ w_165.heap.size by have := hg167.size; first | omega | (simp at this; omega))
    clear qZ10 qZ18 qZ30 qZ44 qZ58 qZ74 qZ93 qZ110 qZ127 qZ144 qZ162
    have F178 := hid ho166
    clear F152 F153 F154 F155 F157 F158 F159 F160 G161 hg167t F156 ho166 hg167
    have e179 := F168.out.1
    have e179z := F168.out.2
    have e180 := F172.out.1
    have e180z := F172.out.2
    go_wp2_with fail
    clear e179 e179z e180 e180z
    refine (markIntS_any _ (xs1) _ _ _ F173.out hl1 (by omega) (by first | omega | (have := hl1; omega))).mono ?_
    rintro e w_181 ⟨rfl, ho182, hg183⟩
    have qZ10 := Z10.out
    have qZ18 := Z18.out
    have qZ30 := Z30.out
    have qZ44 := Z44.out
    have qZ58 := Z58.out
    have qZ74 := Z74.out
    have qZ93 := Z93.out
    have qZ110 := Z110.out
    have qZ127 := Z127.out
    have qZ144 := Z144.out
    have qZ162 := Z162.out
    have qZ177 := Z177.out
    have hg183t := TurnedIn.of_grown hg183 (U76.out)
    have F184 := hid (F168.out.turned hg183t (by omega))
    have F185 := hid (F169.out.turned hg183t (U20.out) (by omega))
    have F186 := hid (F170.out.turned hg183t (U32.out) (by omega))
    have F187 := hid (F171.out.turned hg183t (by omega))
    have F188 := hid (F172.out.turned hg183t (by omega))
    have F189 := hid (F174.out.turned hg183t (by omega))
    have F190 := hid (F175.out.turned hg183t (U146.out) (by omega))
    have F191 := hid (F178.out.turned hg183t (U60.out) (by omega))
    have G192 := hid (below_turned G176.out hg183t (by omega))
    have Z193 := hid (show w_165.heap.size + 0 ≤ w_181.heap.size by have := hg183.size; first | omega | (simp at this; omega))
    clear qZ10 qZ18 qZ30 qZ44 qZ58 qZ74 qZ93 qZ110 qZ127 qZ144 qZ162 qZ177
    have F194 := hid ho182
    clear F168 F169 F170 F171 F172 F174 F175 F178 G176 hg183t F173 ho182 hg183
    have e195 := F184.out.1
    have e195z := F184.out.2
    have e196 := F188.out.1
    have e196z := F188.out.2
    go_wp2_with fail
    clear e195 e195z e196 e196z
    refine (eqIntSS_any _ _ ((ansAO xs0 xs1 n2)) _ F189.out.ints F187.out.ints HL95.out.1 HL95.out.2.1).mono ?_
    rintro e w_197 ⟨rfl, hb198⟩
    have F199 := hid (F184.out.below hb198)
    have F200 := hid (F185.out.below hb198)
    have F201 := hid (F186.out.below hb198)
    have F202 := hid (F187.out.below hb198)
    have F203 := hid (F188.out.below hb198)
    have F204 := hid (F189.out.below hb198)
    have F205 := hid (F190.out.below hb198)
    have F206 := hid (F191.out.below hb198)
    have F207 := hid (F194.out.below hb198)
    have G208 := hid (below_to G192.out hb198)
    have Z209 := hid (show w_181.heap.size + 0 ≤ w_197.heap.size by have := hb198.size; first | omega | (simp at this; omega))
    clear F184 F185 F186 F187 F188 F189 F190 F191 F194 G192 hb198
    have e210 := F199.out.1
    have e210z := F199.out.2
    have e211 := F203.out.1
    have e211z := F203.out.2
    go_wp2_with fail
    clear e210 e210z e211 e211z
    refine (markIntSS_any _ ((ansAO xs0 xs1 n2)) _ _ _ _ F204.out HL95.out (by omega) (by omega)).mono ?_
    rintro e w_212 ⟨rfl, ho213, ht214⟩
    have qZ10 := Z10.out
    have qZ18 := Z18.out
    have qZ30 := Z30.out
    have qZ44 := Z44.out
    have qZ58 := Z58.out
    have qZ74 := Z74.out
    have qZ93 := Z93.out
    have qZ110 := Z110.out
    have qZ127 := Z127.out
    have qZ144 := Z144.out
    have qZ162 := Z162.out
    have qZ177 := Z177.out
    have qZ193 := Z193.out
    have qZ209 := Z209.out
    have F215 := hid (F199.out.turned ht214 (by omega))
    have F216 := hid (F200.out.turned ht214 (U20.out) (by omega))
    have F217 := hid (F201.out.turned ht214 (U32.out) (by omega))
    have F218 := hid (F202.out.turned ht214 (by omega))
    have F219 := hid (F203.out.turned ht214 (by omega))
    have F220 := hid (F205.out.turned ht214 (U146.out) (by omega))
    have F221 := hid (F206.out.turned ht214 (U60.out) (by omega))
    have F222 := hid (F207.out.turned ht214 (U76.out) (by omega))
    have G223 := hid (below_turned G208.out ht214 (by omega))
    have Z224 := hid (show w_197.heap.size + 0 ≤ w_212.heap.size by have := ht214.size; first | omega | (simp at this; omega))
    clear qZ10 qZ18 qZ30 qZ44 qZ58 qZ74 qZ93 qZ110 qZ127 qZ144 qZ162 qZ177 qZ193 qZ209
    have F225 := hid ho213
    clear F199 F200 F201 F202 F203 F205 F206 F207 G208 F204 ho213 ht214
    have e226 := F215.out.1
    have e226z := F215.out.2
    have e227 := F219.out.1
    have e227z := F219.out.2
    go_wp2_with fail
    clear e226 e226z e227 e227z
    refine (heldIntSS_any _ ((ansAO xs0 xs1 n2)) _ _ F225.out.ints HL95.out (by omega) (by omega)).mono ?_
    rintro e w_228 ⟨rfl, hb229⟩
    have F230 := hid (F215.out.below hb229)
    have F231 := hid (F216.out.below hb229)
    have F232 := hid (F217.out.below hb229)
    have F233 := hid (F218.out.below hb229)
    have F234 := hid (F219.out.below hb229)
    have F235 := hid (F220.out.below hb229)
    have F236 := hid (F221.out.below hb229)
    have F237 := hid (F222.out.below hb229)
    have F238 := hid (F225.out.below hb229)
    have G239 := hid (below_to G223.out hb229)
    have Z240 := hid (show w_212.heap.size + 0 ≤ w_228.heap.size by have := hb229.size; first | omega | (simp at this; omega))
    clear F215 F216 F217 F218 F219 F220 F221 F222 F225 G223 hb229
    have e241 := F230.out.1
    have e241z := F230.out.2
    have e242 := F234.out.1
    have e242z := F234.out.2
    go_wp2_with fail
    clear e241 e241z e242 e242z
    refine (toPoset_own v0 xs0 _ (HV0.out.later G239.out) hl0).mono ?_
    rintro e w_243 ⟨u244, rfl, ho246, hb245⟩
    have F247 := hid (F230.out.below hb245)
    have F248 := hid (F231.out.below hb245)
    have F249 := hid (F232.out.below hb245)
    have F250 := hid (F233.out.below hb245)
    have F251 := hid (F234.out.below hb245)
    have F252 := hid (F235.out.below hb245)
    have F253 := hid (F236.out.below hb245)
    have F254 := hid (F237.out.below hb245)
    have F255 := hid (F238.out.below hb245)
    have G256 := hid (below_to G239.out hb245)
    have Z257 := hid (show w_228.heap.size + 0 ≤ w_243.heap.size by have := hb245.size; first | omega | (simp at this; omega))
    have hn258 := ho246
    obtain ⟨u244A, u244n, u244c, rfl⟩ := hn258.shape3
    have U259 := hid (OwnI.blockLt hn258)
    have F260 := hid hn258
    clear F230 F231 F232 F233 F234 F235 F236 F237 F238 G239 hb245 ho246 hn258
    have e261 := F247.out.1
    have e261z := F247.out.2
    have e262 := F251.out.1
    have e262z := F251.out.2
    go_wp2_with fail
    clear e261 e261z e262 e262z
    refine (toIntS_own (.slice A1 xs1.length c1) xs1 _ (HV1.out.later G256.out) hl1).mono ?_
    rintro e w_263 ⟨u264, rfl, ho266, hb265⟩
    have F267 := hid (F247.out.below hb265)
    have F268 := hid (F248.out.below hb265)
    have F269 := hid (F249.out.below hb265)
    have F270 := hid (F250.out.below hb265)
    have F271 := hid (F251.out.below hb265)
    have F272 := hid (F252.out.below hb265)
    have F273 := hid (F253.out.below hb265)
    have F274 := hid (F254.out.below hb265)
    have F275 := hid (F255.out.below hb265)
    have F276 := hid (F260.out.below hb265)
    have G277 := hid (below_to G256.out hb265)
    have Z278 := hid (show w_243.heap.size + 0 ≤ w_263.heap.size by have := hb265.size; first | omega | (simp at this; omega))
    have hn279 := ho266
    obtain ⟨u264A, u264n, u264c, rfl⟩ := hn279.shape3
    have U280 := hid (OwnI.blockLt hn279)
    have F281 := hid hn279
    clear F247 F248 F249 F250 F251 F252 F253 F254 F255 F260 G256 hb265 ho266 hn279
    have e282 := F267.out.1
    have e282z := F267.out.2
    have e283 := F271.out.1
    have e283z := F271.out.2
    go_wp2_with fail
    clear e282 e282z e283 e283z
    refine (implArrayOrbit_any (Value.slice u244A u244n u244c) xs0 (Value.slice u264A u264n u264c) xs1 n2 _ F276.out.ints hl0 F281.out.ints hl1 WF2.out).mono ?_
    rintro e w_284 ⟨u286, rfl, ho287, hl288, hb285⟩
    have F289 := hid (F267.out.below hb285)
    have F290 := hid (F268.out.below hb285)
    have F291 := hid (F269.out.below hb285)
    have F292 := hid (F270.out.below hb285)
    have F293 := hid (F271.out.below hb285)
    have F294 := hid (F272.out.below hb285)
    have F295 := hid (F273.out.below hb285)
    have F296 := hid (F274.out.below hb285)
    have F297 := hid (F275.out.below hb285)
    have F298 := hid (F276.out.below hb285)
    have F299 := hid (F281.out.below hb285)
    have G300 := hid (below_to G277.out hb285)
    have Z301 := hid (show w_263.heap.size + 0 ≤ w_284.heap.size by have := hb285.size; first | omega | (simp at this; omega))
    have hn302 := ho287
    have HL303 := hid hl288
    obtain ⟨u286A, u286n, u286c, rfl⟩ := hn302.shape3
    have F304 := hid hn302
    clear F267 F268 F269 F270 F271 F272 F273 F274 F275 F276 F281 G277 hb285 hn302 ho287 hl288
    have e305 := F289.out.1
    have e305z := F289.out.2
    have e306 := F293.out.1
    have e306z := F293.out.2
    go_wp2_with fail
    clear e305 e305z e306 e306z
    refine (eqIntSS_any _ _ ((ansAO xs0 xs1 n2)) _ F304.out.ints F292.out.ints HL303.out.1 HL303.out.2.1).mono ?_
    rintro e w_307 ⟨rfl, hb308⟩
    have F309 := hid (F289.out.below hb308)
    have F310 := hid (F290.out.below hb308)
    have F311 := hid (F291.out.below hb308)
    have F312 := hid (F292.out.below hb308)
    have F313 := hid (F293.out.below hb308)
    have F314 := hid (F294.out.below hb308)
    have F315 := hid (F295.out.below hb308)
    have F316 := hid (F296.out.below hb308)
    have F317 := hid (F297.out.below hb308)
    have F318 := hid (F298.out.below hb308)
    have F319 := hid (F299.out.below hb308)
    have F320 := hid (F304.out.below hb308)
    have G321 := hid (below_to G300.out hb308)
    have Z322 := hid (show w_284.heap.size + 0 ≤ w_307.heap.size by have := hb308.size; first | omega | (simp at this; omega))
    clear F289 F290 F291 F292 F293 F294 F295 F296 F297 F298 F299 F304 G300 hb308
    have e323 := F309.out.1
    have e323z := F309.out.2
    have e324 := F313.out.1
    have e324z := F313.out.2
    go_wp2_with fail
    clear e323 e323z e324 e324z
    refine (heldIntSS_any _ ((ansAO xs0 xs1 n2)) _ _ F317.out.ints HL95.out (by omega) (by omega)).mono ?_
    rintro e w_325 ⟨rfl, hb326⟩
    have F327 := hid (F309.out.below hb326)
    have F328 := hid (F310.out.below hb326)
    have F329 := hid (F311.out.below hb326)
    have F330 := hid (F312.out.below hb326)
    have F331 := hid (F313.out.below hb326)
    have F332 := hid (F314.out.below hb326)
    have F333 := hid (F315.out.below hb326)
    have F334 := hid (F316.out.below hb326)
    have F335 := hid (F317.out.below hb326)
    have F336 := hid (F318.out.below hb326)
    have F337 := hid (F319.out.below hb326)
    have F338 := hid (F320.out.below hb326)
    have G339 := hid (below_to G321.out hb326)
    have Z340 := hid (show w_307.heap.size + 0 ≤ w_325.heap.size by have := hb326.size; first | omega | (simp at this; omega))
    clear F309 F310 F311 F312 F313 F314 F315 F316 F317 F318 F319 F320 G321 hb326
    go_wp2
    go_ret
    exact ⟨rfl, G339.out⟩
theorem walk (v0 : Value) (xs0 : List Int) (v1 : Value) (xs1 : List Int) (n2 : Int) (w : World) (hv0 : Ints w v0 xs0) (hm0 : xs0.length ≤ maxLen) (hv1 : Ints w v1 xs1) (hm1 : xs1.length ≤ maxLen) (wf2 : (Lit.int .i64 n2).wf = true) :
    Calls Try.prog 10 #[.agg #[v0], v1, .int .i64 n2] w fun e w' => e = .returned (.bool true) ∧ Below w.heap.size w w' := by
  by_cases hl1 : 1048576 < xs1.length
  · exact walkLen1 v0 xs0 v1 xs1 n2 w hv0 hm0 hv1 hm1 wf2  hl1
  by_cases hq0 : (1048576 : Int) < xs0.length
  · exact walkBig0 v0 xs0 v1 xs1 n2 w hv0 hm0 hv1 hm1 wf2 (by omega)  (hid (szRes_neg hq0))
  exact walkSmall v0 xs0 v1 xs1 n2 w hv0 hm0 hv1 hm1 wf2 (by omega) (hid (szRes_pos hq0)) hq0 (by omega)
end Go.Proofs.Ytgepbekdgocnpaa.lawArrayOrbit
