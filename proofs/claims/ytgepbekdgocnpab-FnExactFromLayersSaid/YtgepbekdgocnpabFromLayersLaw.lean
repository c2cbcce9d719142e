/- FnExactFromLayers: the law's walk (by genlaw.py). -/
import Derived.Test.YtgepbekdgocnpabFlS
import Derived.Test.YtgepbekdgocnpabFlI
import Derived.Deep.DeepCutAuto
namespace Go.Proofs.Ytgepbekdgocnpab.lawFromLayers
open Go.RowKit Go.WideShapes Go.ChangeShapes
set_option linter.unusedVariables false
set_option maxHeartbeats 1000000 in
theorem walkLen1 (v0 : Value) (xs0 : List Int) (v1 : Value) (xs1 : List Int) (w : World) (hv0 : Ints w v0 xs0) (hm0 : xs0.length ≤ maxLen) (hv1 : Ints w v1 xs1) (hm1 : xs1.length ≤ maxLen) (hbig : 1048576 < xs1.length) :
    Calls Try.prog 6 #[.agg #[v0], v1] w fun e w' => e = .returned (.bool true) ∧ Below w.heap.size w w' := by
  obtain ⟨A1, c1, rfl, -⟩ := hv1
  unfold maxLen at hm1
  go_enter Try.func6, Try.ntmps6
  go_wp2
  go_ret
  exact ⟨rfl, (below_alloc (Below.refl _ w) _)⟩
set_option maxRecDepth 100000 in
set_option maxHeartbeats 1000000 in
theorem walkBig0 (v0 : Value) (xs0 : List Int) (v1 : Value) (xs1 : List Int) (w : World) (hv0 : Ints w v0 xs0) (hm0 : xs0.length ≤ maxLen) (hv1 : Ints w v1 xs1) (hm1 : xs1.length ≤ maxLen) (hl1 : xs1.length ≤ 1048576) (HS0 : Hid (szRes (1048576 : Int) xs0.length = -1)) :
    Calls Try.prog 6 #[.agg #[v0], v1] w fun e w' => e = .returned (.bool true) ∧ Below w.heap.size w w' := by
  have hv1q := hv1
  obtain ⟨A1, c1, hsh1, -⟩ := hv1q
  subst hsh1
  have HV0 := hid hv0
  clear hv0
  have HV1 := hid hv1
  clear hv1
  go_enter Try.func6, Try.ntmps6
  go_wp2_with fail
  refine (szPoset_any v0 xs0 _ _ (HV0.out.later (below_alloc (Below.refl _ w) _)) hm0 (by omega) (by omega)).mono ?_
  rw [HS0.out]
  rintro e w_1 ⟨rfl, hb2⟩
  have F3 := hid ((At.new w v0 24).below hb2)
  have G4 := hid (below_to (below_alloc (Below.refl _ w) _) hb2)
  have Z5 := hid (show w.heap.size + 1 ≤ w_1.heap.size by have := hb2.size; first | omega | (simp at this; omega))
  clear hb2
  go_wp2
  go_ret
  exact ⟨rfl, G4.out⟩
set_option maxRecDepth 100000 in
set_option maxHeartbeats 8000000 in
theorem walkSmall (v0 : Value) (xs0 : List Int) (v1 : Value) (xs1 : List Int) (w : World) (hv0 : Ints w v0 xs0) (hm0 : xs0.length ≤ maxLen) (hv1 : Ints w v1 xs1) (hm1 : xs1.length ≤ maxLen) (hl1 : xs1.length ≤ 1048576) (HS0 : Hid (szRes (1048576 : Int) xs0.length = (1048576 : Int) - xs0.length)) (hq0 : ¬ (1048576 : Int) < xs0.length) (hl0 : xs0.length ≤ 1048576) :
    Calls Try.prog 6 #[.agg #[v0], v1] w fun e w' => e = .returned (.bool true) ∧ Below w.heap.size w w' := by
  have hv1q := hv1
  obtain ⟨A1, c1, hsh1, -⟩ := hv1q
  subst hsh1
  have HV0 := hid hv0
  clear hv0
  have HV1 := hid hv1
  clear hv1
  go_enter Try.func6, Try.ntmps6
  go_wp2_with fail
  refine (szPoset_any v0 xs0 _ _ (HV0.out.later (below_alloc (Below.refl _ w) _)) hm0 (by omega) (by omega)).mono ?_
  rw [HS0.out]
  rintro e w_6 ⟨rfl, hb7⟩
  have F8 := hid ((At.new w v0 24).below hb7)
  have G9 := hid (below_to (below_alloc (Below.refl _ w) _) hb7)
  have Z10 := hid (show w.heap.size + 1 ≤ w_6.heap.size by have := hb7.size; first | omega | (simp at this; omega))
  clear hb7
  have e11 := F8.out.1
  have e11z := F8.out.2
  go_wp2_with fail
  clear e11 e11z
  refine (toPoset_own v0 xs0 _ (HV0.out.later G9.out) hl0).mono ?_
  rintro e w_12 ⟨u13, rfl, ho15, hb14⟩
  have F16 := hid (F8.out.below hb14)
  have G17 := hid (below_to G9.out hb14)
  have Z18 := hid (show w_6.heap.size + 0 ≤ w_12.heap.size by have := hb14.size; first | omega | (simp at this; omega))
  have hn19 := ho15
  obtain ⟨u13A, u13n, u13c, rfl⟩ := hn19.shape3
  have U20 := hid (OwnI.blockLt hn19)
  have F21 := hid hn19
  clear F8 G9 hb14 ho15 hn19
  have e22 := F16.out.1
  have e22z := F16.out.2
  go_wp2_with fail
  clear e22 e22z
  refine (toIntS_own (.slice A1 xs1.length c1) xs1 _ (HV1.out.later G17.out) hl1).mono ?_
  rintro e w_23 ⟨u24, rfl, ho26, hb25⟩
  have F27 := hid (F16.out.below hb25)
  have F28 := hid (F21.out.below hb25)
  have G29 := hid (below_to G17.out hb25)
  have Z30 := hid (show w_12.heap.size + 0 ≤ w_23.heap.size by have := hb25.size; first | omega | (simp at this; omega))
  have hn31 := ho26
  obtain ⟨u24A, u24n, u24c, rfl⟩ := hn31.shape3
  have U32 := hid (OwnI.blockLt hn31)
  have F33 := hid hn31
  clear F16 F21 G17 hb25 ho26 hn31
  have e34 := F27.out.1
  have e34z := F27.out.2
  go_wp2_with fail
  clear e34 e34z
  refine (specFromLayers_any (Value.slice u13A u13n u13c) xs0 (Value.slice u24A u24n u24c) xs1 _ F28.out.ints hl0 F33.out.ints hl1).mono ?_
  rintro e w_35 ⟨u37, rfl, ho38, hl39, hb36⟩
  have F40 := hid (F27.out.below hb36)
  have F41 := hid (F28.out.below hb36)
  have F42 := hid (F33.out.below hb36)
  have G43 := hid (below_to G29.out hb36)
  have Z44 := hid (show w_23.heap.size + 0 ≤ w_35.heap.size by have := hb36.size; first | omega | (simp at this; omega))
  have hn45 := ho38
  have HL46 := hid hl39
  obtain ⟨u37A, u37n, u37c, rfl⟩ := hn45.shape3
  have U47 := hid (OwnI.blockLt hn45)
  have F48 := hid hn45
  clear F27 F28 F33 G29 hb36 hn45 ho38 hl39
  have e49 := F40.out.1
  have e49z := F40.out.2
  go_wp2_with fail
  clear e49 e49z
  refine (toPoset_own v0 xs0 _ (HV0.out.later G43.out) hl0).mono ?_
  rintro e w_50 ⟨u51, rfl, ho53, hb52⟩
  have F54 := hid (F40.out.below hb52)
  have F55 := hid (F41.out.below hb52)
  have F56 := hid (F42.out.below hb52)
  have F57 := hid (F48.out.below hb52)
  have G58 := hid (below_to G43.out hb52)
  have Z59 := hid (show w_35.heap.size + 0 ≤ w_50.heap.size by have := hb52.size; first | omega | (simp at this; omega))
  have hn60 := ho53
  obtain ⟨u51A, u51n, u51c, rfl⟩ := hn60.shape3
  have U61 := hid (OwnI.blockLt hn60)
  have F62 := hid hn60
  clear F40 F41 F42 F48 G43 hb52 ho53 hn60
  have e63 := F54.out.1
  have e63z := F54.out.2
  go_wp2_with fail
  clear e63 e63z
  refine (toIntS_own (.slice A1 xs1.length c1) xs1 _ (HV1.out.later (below_alloc G58.out _)) hl1).mono ?_
  rintro e w_64 ⟨u65, rfl, ho67, hb66⟩
  have F68 := hid ((F54.out.alloc _).below hb66)
  have F69 := hid ((F55.out.alloc _).below hb66)
  have F70 := hid ((F56.out.alloc _).below hb66)
  have F71 := hid ((F57.out.alloc _).below hb66)
  have F72 := hid ((F62.out.alloc _).below hb66)
  have F73 := hid ((At.new w_50 (Value.slice u51A u51n u51c) 28).below hb66)
  have G74 := hid (below_to (below_alloc G58.out _) hb66)
  have Z75 := hid (show w_50.heap.size + 1 ≤ w_64.heap.size by have := hb66.size; first | omega | (simp at this; omega))
  have hn76 : OwnI 3 w_64 (w_50.heap.size + 1) u65 xs1 := by simpa using ho67
  obtain ⟨u65A, u65n, u65c, rfl⟩ := hn76.shape3
  have U77 := hid (OwnI.blockLt hn76)
  have F78 := hid hn76
  clear F54 F55 F56 F57 F62 G58 hb66 ho67 hn76
  have e79 := F68.out.1
  have e79z := F68.out.2
  have e80 := F73.out.1
  have e80z := F73.out.2
  go_wp2_with fail
  clear e79 e79z e80 e80z
  refine (implFromLayers_any (Value.slice u51A u51n u51c) xs0 (Value.slice u65A u65n u65c) xs1 _ F72.out.ints hl0 F78.out.ints hl1).mono ?_
  rintro e w_81 ⟨u83, rfl, ho84, hl85, hb82⟩
  have F86 := hid (F68.out.below hb82)
  have F87 := hid (F69.out.below hb82)
  have F88 := hid (F70.out.below hb82)
  have F89 := hid (F71.out.below hb82)
  have F90 := hid (F72.out.below hb82)
  have F91 := hid (F73.out.below hb82)
  have F92 := hid (F78.out.below hb82)
  have G93 := hid (below_to G74.out hb82)
  have Z94 := hid (show w_64.heap.size + 0 ≤ w_81.heap.size by have := hb82.size; first | omega | (simp at this; omega))
  have hn95 := ho84
  have HL96 := hid hl85
  obtain ⟨u83A, u83n, u83c, rfl⟩ := hn95.shape3
  have U97 := hid (OwnI.blockLt hn95)
  have F98 := hid hn95
  clear F68 F69 F70 F71 F72 F73 F78 G74 hb82 hn95 ho84 hl85
  have e99 := F86.out.1
  have e99z := F86.out.2
  have e100 := F91.out.1
  have e100z := F91.out.2
  go_wp2_with fail
  clear e99 e99z e100 e100z
  refine (eqIntS_any _ _ ((ansFL xs0 xs1)) _ F98.out.ints F89.out.ints HL96.out).mono ?_
  rintro e w_101 ⟨rfl, hb102⟩
  have F103 := hid (F86.out.below hb102)
  have F104 := hid (F87.out.below hb102)
  have F105 := hid (F88.out.below hb102)
  have F106 := hid (F89.out.below hb102)
  have F107 := hid (F90.out.below hb102)
  have F108 := hid (F91.out.below hb102)
  have F109 := hid (F92.out.below hb102)
  have F110 := hid (F98.out.below hb102)
  have G111 := hid (below_to G93.out hb102)
  have Z112 := hid (show w_81.heap.size + 0 ≤ w_101.heap.size by have := hb102.size; first | omega | (simp at this; omega))
  clear F86 F87 F88 F89 F90 F91 F92 F98 G93 hb102
  have e113 := F103.out.1
  have e113z := F103.out.2
  have e114 := F108.out.1
  have e114z := F108.out.2
  go_upto_region 13 with fail
  go_cut [56] (fun s wx => s = .bool false ∧ At wx (w.heap.size) (v0) ∧ OwnI 3 wx (w_6.heap.size) (Value.slice u13A u13n u13c) xs0 ∧ OwnI 3 wx (w_12.heap.size) (Value.slice u24A u24n u24c) xs1 ∧ OwnI 3 wx (w_23.heap.size) (Value.slice u37A u37n u37c) (ansFL xs0 xs1) ∧ OwnI 3 wx (w_35.heap.size) (Value.slice u51A u51n u51c) xs0 ∧ At wx (w_50.heap.size) ((Value.slice u51A u51n u51c)) ∧ OwnI 3 wx (w_50.heap.size + 1) (Value.slice u65A u65n u65c) xs1 ∧ OwnI 3 wx (w_64.heap.size) (Value.slice u83A u83n u83c) (ansFL xs0 xs1) ∧ w_101.heap.size ≤ wx.heap.size ∧ Below w.heap.size w wx)
  case first =>
    go_region_with (first | (go_at_call 12; refine (toPoset_own v0 xs0 _ (((HV0.out.later G111.out)).drew) hl0).mono ?_; rintro e w_115 ⟨u116, rfl, ho3, hb117⟩; have K0 := hid (F103.out.drew.below hb117); have K1 := hid (F104.out.drew.below hb117); have K2 := hid (F105.out.drew.below hb117); have K3 := hid (F106.out.drew.below hb117); have K4 := hid (F107.out.drew.below hb117); have K5 := hid (F108.out.drew.below hb117); have K6 := hid (F109.out.drew.below hb117); have K7 := hid (F110.out.drew.below hb117); have KZ := hid (show w_101.heap.size ≤ w_115.heap.size by have := hb117.size; simpa using this); have KB := hid (below_to G111.out.drew hb117); have KO := hid ho3; have hx6 := K5.out.1; clear ho3 hb117) | (go_at_call 15; refine (eqPoset_any _ _ (xs0) _ K4.out.ints KO.out.ints hl0).mono ?_; rintro e w_118 ⟨rfl, hb119⟩; have M0 := hid (K0.out.below hb119); have M1 := hid (K1.out.below hb119); have M2 := hid (K2.out.below hb119); have M3 := hid (K3.out.below hb119); have M4 := hid (K4.out.below hb119); have M5 := hid (K5.out.below hb119); have M6 := hid (K6.out.below hb119); have M7 := hid (K7.out.below hb119); have MZ := hid (show w_101.heap.size ≤ w_118.heap.size by have := hb119.size; have := KZ.out; omega); have MB := hid (below_to KB.out hb119); clear hb119))
    all_goals (go_wp2_with fail; go_meet; exact ⟨rfl, M0.out, M1.out, M2.out, M3.out, M4.out, M5.out, M6.out, M7.out, MZ.out, MB.out⟩)
  case rest =>
    clear e113 e113z e114 e114z
    obtain ⟨rfl, c0, c1, c2, c3, c4, c5, c6, c7, hzc, hbc⟩ := hcut
    obtain ⟨wc120, rfl⟩ : ∃ x, x = wc := ⟨wc, rfl⟩
    have F121 := hid c0
    have F122 := hid c1
    have F123 := hid c2
    have F124 := hid c3
    have F125 := hid c4
    have F126 := hid c5
    have F127 := hid c6
    have F128 := hid c7
    have Z129 := hid hzc
    have G130 := hid hbc
    clear c0 F103 c1 F104 c2 F105 c3 F106 c4 F107 c5 F108 c6 F109 c7 F110 hzc hbc G111
    have e131 := F121.out.1
    have e131z := F121.out.2
    have e132 := F126.out.1
    have e132z := F126.out.2
    go_wp2_with fail
    clear e131 e131z e132 e132z
    refine (toIntS_own (.slice A1 xs1.length c1) xs1 _ (HV1.out.later G130.out) hl1).mono ?_
    rintro e w_133 ⟨u134, rfl, ho136, hb135⟩
    have F137 := hid (F121.out.below hb135)
    have F138 := hid (F122.out.below hb135)
    have F139 := hid (F123.out.below hb135)
    have F140 := hid (F124.out.below hb135)
    have F141 := hid (F125.out.below hb135)
    have F142 := hid (F126.out.below hb135)
    have F143 := hid (F127.out.below hb135)
    have F144 := hid (F128.out.below hb135)
    have G145 := hid (below_to G130.out hb135)
    have Z146 := hid (show wc120.heap.size + 0 ≤ w_133.heap.size by have := hb135.size; first | omega | (simp at this; omega))
    have hn147 := ho136
    obtain ⟨u134A, u134n, u134c, rfl⟩ := hn147.shape3
    have U148 := hid (OwnI.blockLt hn147)
    have F149 := hid hn147
    clear F121 F122 F123 F124 F125 F126 F127 F128 G130 hb135 ho136 hn147
    have e150 := F137.out.1
    have e150z := F137.out.2
    have e151 := F142.out.1
    have e151z := F142.out.2
    go_wp2_with fail
    clear e150 e150z e151 e151z
    refine (eqIntS_any _ _ (xs1) _ F143.out.ints F149.out.ints hl1).mono ?_
    rintro e w_152 ⟨rfl, hb153⟩
    have F154 := hid (F137.out.below hb153)
    have F155 := hid (F138.out.below hb153)
    have F156 := hid (F139.out.below hb153)
    have F157 := hid (F140.out.below hb153)
    have F158 := hid (F141.out.below hb153)
    have F159 := hid (F142.out.below hb153)
    have F160 := hid (F143.out.below hb153)
    have F161 := hid (F144.out.below hb153)
    have F162 := hid (F149.out.below hb153)
    have G163 := hid (below_to G145.out hb153)
    have Z164 := hid (show w_133.heap.size + 0 ≤ w_152.heap.size by have := hb153.size; first | omega | (simp at this; omega))
    clear F137 F138 F139 F140 F141 F142 F143 F144 F149 G145 hb153
    have e165 := F154.out.1
    have e165z := F154.out.2
    have e166 := F159.out.1
    have e166z := F159.out.2
    go_wp2_with fail
    clear e165 e165z e166 e166z
    refine (markPoset_any _ (xs0) _ _ _ F158.out hl0 (by omega) (by first | omega | (have := hl0; omega))).mono ?_
    rintro e w_167 ⟨rfl, ho168, hg169⟩
    have qZ10 := Z10.out
    have qZ18 := Z18.out
    have qZ30 := Z30.out
    have qZ44 := Z44.out
    have qZ59 := Z59.out
    have qZ75 := Z75.out
    have qZ94 := Z94.out
    have qZ112 := Z112.out
    have qZ129 := Z129.out
    have qZ146 := Z146.out
    have qZ164 := Z164.out
    have F170 := hid (F154.out.grown hg169 (row_ne_box (U61.out) (by omega)))
    have F171 := hid (F155.out.grown hg169 (row_ne_row (U20.out) (U61.out) (by omega)))
    have F172 := hid (F156.out.grown hg169 (row_ne_row (U32.out) (U61.out) (by omega)))
    have F173 := hid (F157.out.grown hg169 (row_ne_row (U47.out) (U61.out) (by omega)))
    have F174 := hid (F159.out.grown hg169 (row_ne_box (U61.out) (by omega)))
    have F175 := hid (F160.out.grown hg169 (row_ne_row (U77.out) (U61.out) (by omega)))
    have F176 := hid (F161.out.grown hg169 (row_ne_row (U97.out) (U61.out) (by omega)))
    have F177 := hid (F162.out.grown hg169 (row_ne_row (U148.out) (U61.out) (by omega)))
    have G178 := hid (below_grown G163.out hg169 (fun k hk => by have := U61.out k hk; omega))
    have Z179 := hid (show w_152.heap.size + 0 ≤ w_167.heap.size by have := hg169.size; first | omega | (simp at this; omega))
    clear qZ10 qZ18 qZ30 qZ44 qZ59 qZ75 qZ94 qZ112 qZ129 qZ146 qZ164
    have F180 := hid ho168
    clear F154 F155 F156 F157 F159 F160 F161 F162 G163 F158 ho168 hg169
    have e181 := F170.out.1
    have e181z := F170.out.2
    have e182 := F174.out.1
    have e182z := F174.out.2
    go_wp2_with fail
    clear e181 e181z e182 e182z
    refine (markIntS_any _ (xs1) _ _ _ F175.out hl1 (by omega) (by first | omega | (have := hl1; omega))).mono ?_
    rintro e w_183 ⟨rfl, ho184, hg185⟩
    have qZ10 := Z10.out
    have qZ18 := Z18.out
    have qZ30 := Z30.out
    have qZ44 := Z44.out
    have qZ59 := Z59.out
    have qZ75 := Z75.out
    have qZ94 := Z94.out
    have qZ112 := Z112.out
    have qZ129 := Z129.out
    have qZ146 := Z146.out
    have qZ164 := Z164.out
    have qZ179 := Z179.out
    have F186 := hid (F170.out.grown hg185 (row_ne_box (U77.out) (by omega)))
    have F187 := hid (F171.out.grown hg185 (row_ne_row (U20.out) (U77.out) (by omega)))
    have F188 := hid (F172.out.grown hg185 (row_ne_row (U32.out) (U77.out) (by omega)))
    have F189 := hid (F173.out.grown hg185 (row_ne_row (U47.out) (U77.out) (by omega)))
    have F190 := hid (F174.out.grown hg185 (row_ne_box (U77.out) (by omega)))
    have F191 := hid (F176.out.grown hg185 (row_ne_row (U97.out) (U77.out) (by omega)))
    have F192 := hid (F177.out.grown hg185 (row_ne_row (U148.out) (U77.out) (by omega)))
    have F193 := hid (F180.out.grown hg185 (row_ne_row (U61.out) (U77.out) (by omega)))
    have G194 := hid (below_grown G178.out hg185 (fun k hk => by have := U77.out k hk; omega))
    have Z195 := hid (show w_167.heap.size + 0 ≤ w_183.heap.size by have := hg185.size; first | omega | (simp at this; omega))
    clear qZ10 qZ18 qZ30 qZ44 qZ59 qZ75 qZ94 qZ112 qZ129 qZ146 qZ164 qZ179
    have F196 := hid ho184
    clear F170 F171 F172 F173 F174 F176 F177 F180 G178 F175 ho184 hg185
    have e197 := F186.out.1
    have e197z := F186.out.2
    have e198 := F190.out.1
    have e198z := F190.out.2
    go_wp2_with fail
    clear e197 e197z e198 e198z
    refine (eqIntS_any _ _ ((ansFL xs0 xs1)) _ F191.out.ints F189.out.ints HL96.out).mono ?_
    rintro e w_199 ⟨rfl, hb200⟩
    have F201 := hid (F186.out.below hb200)
    have F202 := hid (F187.out.below hb200)
    have F203 := hid (F188.out.below hb200)
    have F204 := hid (F189.out.below hb200)
    have F205 := hid (F190.out.below hb200)
    have F206 := hid (F191.out.below hb200)
    have F207 := hid (F192.out.below hb200)
    have F208 := hid (F193.out.below hb200)
    have F209 := hid (F196.out.below hb200)
    have G210 := hid (below_to G194.out hb200)
    have Z211 := hid (show w_183.heap.size + 0 ≤ w_199.heap.size by have := hb200.size; first | omega | (simp at this; omega))
    clear F186 F187 F188 F189 F190 F191 F192 F193 F196 G194 hb200
    have e212 := F201.out.1
    have e212z := F201.out.2
    have e213 := F205.out.1
    have e213z := F205.out.2
    go_wp2_with fail
    clear e212 e212z e213 e213z
    refine (markIntS_any _ ((ansFL xs0 xs1)) _ _ _ F206.out HL96.out (by omega) (by first | omega | (have := HL96.out; omega))).mono ?_
    rintro e w_214 ⟨rfl, ho215, hg216⟩
    have qZ10 := Z10.out
    have qZ18 := Z18.out
    have qZ30 := Z30.out
    have qZ44 := Z44.out
    have qZ59 := Z59.out
    have qZ75 := Z75.out
    have qZ94 := Z94.out
    have qZ112 := Z112.out
    have qZ129 := Z129.out
    have qZ146 := Z146.out
    have qZ164 := Z164.out
    have qZ179 := Z179.out
    have qZ195 := Z195.out
    have qZ211 := Z211.out
    have F217 := hid (F201.out.grown hg216 (row_ne_box (U97.out) (by omega)))
    have F218 := hid (F202.out.grown hg216 (row_ne_row (U20.out) (U97.out) (by omega)))
    have F219 := hid (F203.out.grown hg216 (row_ne_row (U32.out) (U97.out) (by omega)))
    have F220 := hid (F204.out.grown hg216 (row_ne_row (U47.out) (U97.out) (by omega)))
    have F221 := hid (F205.out.grown hg216 (row_ne_box (U97.out) (by omega)))
    have F222 := hid (F207.out.grown hg216 (row_ne_row (U148.out) (U97.out) (by omega)))
    have F223 := hid (F208.out.grown hg216 (row_ne_row (U61.out) (U97.out) (by omega)))
    have F224 := hid (F209.out.grown hg216 (row_ne_row (U77.out) (U97.out) (by omega)))
    have G225 := hid (below_grown G210.out hg216 (fun k hk => by have := U97.out k hk; omega))
    have Z226 := hid (show w_199.heap.size + 0 ≤ w_214.heap.size by have := hg216.size; first | omega | (simp at this; omega))
    clear qZ10 qZ18 qZ30 qZ44 qZ59 qZ75 qZ94 qZ112 qZ129 qZ146 qZ164 qZ179 qZ195 qZ211
    have F227 := hid ho215
    clear F201 F202 F203 F204 F205 F207 F208 F209 G210 F206 ho215 hg216
    have e228 := F217.out.1
    have e228z := F217.out.2
    have e229 := F221.out.1
    have e229z := F221.out.2
    go_wp2_with fail
    clear e228 e228z e229 e229z
    refine (heldIntS_any _ _ _ _ F227.out.ints HL96.out (by omega) (by omega)).mono ?_
    rintro e w_230 ⟨rfl, hb231⟩
    have F232 := hid (F217.out.below hb231)
    have F233 := hid (F218.out.below hb231)
    have F234 := hid (F219.out.below hb231)
    have F235 := hid (F220.out.below hb231)
    have F236 := hid (F221.out.below hb231)
    have F237 := hid (F222.out.below hb231)
    have F238 := hid (F223.out.below hb231)
    have F239 := hid (F224.out.below hb231)
    have F240 := hid (F227.out.below hb231)
    have G241 := hid (below_to G225.out hb231)
    have Z242 := hid (show w_214.heap.size + 0 ≤ w_230.heap.size by have := hb231.size; first | omega | (simp at this; omega))
    clear F217 F218 F219 F220 F221 F222 F223 F224 F227 G225 hb231
    have e243 := F232.out.1
    have e243z := F232.out.2
    have e244 := F236.out.1
    have e244z := F236.out.2
    go_wp2_with fail
    clear e243 e243z e244 e244z
    refine (toPoset_own v0 xs0 _ (HV0.out.later G241.out) hl0).mono ?_
    rintro e w_245 ⟨u246, rfl, ho248, hb247⟩
    have F249 := hid (F232.out.below hb247)
    have F250 := hid (F233.out.below hb247)
    have F251 := hid (F234.out.below hb247)
    have F252 := hid (F235.out.below hb247)
    have F253 := hid (F236.out.below hb247)
    have F254 := hid (F237.out.below hb247)
    have F255 := hid (F238.out.below hb247)
    have F256 := hid (F239.out.below hb247)
    have F257 := hid (F240.out.below hb247)
    have G258 := hid (below_to G241.out hb247)
    have Z259 := hid (show w_230.heap.size + 0 ≤ w_245.heap.size by have := hb247.size; first | omega | (simp at this; omega))
    have hn260 := ho248
    obtain ⟨u246A, u246n, u246c, rfl⟩ := hn260.shape3
    have U261 := hid (OwnI.blockLt hn260)
    have F262 := hid hn260
    clear F232 F233 F234 F235 F236 F237 F238 F239 F240 G241 hb247 ho248 hn260
    have e263 := F249.out.1
    have e263z := F249.out.2
    have e264 := F253.out.1
    have e264z := F253.out.2
    go_wp2_with fail
    clear e263 e263z e264 e264z
    refine (toIntS_own (.slice A1 xs1.length c1) xs1 _ (HV1.out.later G258.out) hl1).mono ?_
    rintro e w_265 ⟨u266, rfl, ho268, hb267⟩
    have F269 := hid (F249.out.below hb267)
    have F270 := hid (F250.out.below hb267)
    have F271 := hid (F251.out.below hb267)
    have F272 := hid (F252.out.below hb267)
    have F273 := hid (F253.out.below hb267)
    have F274 := hid (F254.out.below hb267)
    have F275 := hid (F255.out.below hb267)
    have F276 := hid (F256.out.below hb267)
    have F277 := hid (F257.out.below hb267)
    have F278 := hid (F262.out.below hb267)
    have G279 := hid (below_to G258.out hb267)
    have Z280 := hid (show w_245.heap.size + 0 ≤ w_265.heap.size by have := hb267.size; first | omega | (simp at this; omega))
    have hn281 := ho268
    obtain ⟨u266A, u266n, u266c, rfl⟩ := hn281.shape3
    have U282 := hid (OwnI.blockLt hn281)
    have F283 := hid hn281
    clear F249 F250 F251 F252 F253 F254 F255 F256 F257 F262 G258 hb267 ho268 hn281
    have e284 := F269.out.1
    have e284z := F269.out.2
    have e285 := F273.out.1
    have e285z := F273.out.2
    go_wp2_with fail
    clear e284 e284z e285 e285z
    refine (implFromLayers_any (Value.slice u246A u246n u246c) xs0 (Value.slice u266A u266n u266c) xs1 _ F278.out.ints hl0 F283.out.ints hl1).mono ?_
    rintro e w_286 ⟨u288, rfl, ho289, hl290, hb287⟩
    have F291 := hid (F269.out.below hb287)
    have F292 := hid (F270.out.below hb287)
    have F293 := hid (F271.out.below hb287)
    have F294 := hid (F272.out.below hb287)
    have F295 := hid (F273.out.below hb287)
    have F296 := hid (F274.out.below hb287)
    have F297 := hid (F275.out.below hb287)
    have F298 := hid (F276.out.below hb287)
    have F299 := hid (F277.out.below hb287)
    have F300 := hid (F278.out.below hb287)
    have F301 := hid (F283.out.below hb287)
    have G302 := hid (below_to G279.out hb287)
    have Z303 := hid (show w_265.heap.size + 0 ≤ w_286.heap.size by have := hb287.size; first | omega | (simp at this; omega))
    have hn304 := ho289
    have HL305 := hid hl290
    obtain ⟨u288A, u288n, u288c, rfl⟩ := hn304.shape3
    have U306 := hid (OwnI.blockLt hn304)
    have F307 := hid hn304
    clear F269 F270 F271 F272 F273 F274 F275 F276 F277 F278 F283 G279 hb287 hn304 ho289 hl290
    have e308 := F291.out.1
    have e308z := F291.out.2
    have e309 := F295.out.1
    have e309z := F295.out.2
    go_wp2_with fail
    clear e308 e308z e309 e309z
    refine (eqIntS_any _ _ ((ansFL xs0 xs1)) _ F307.out.ints F294.out.ints HL305.out).mono ?_
    rintro e w_310 ⟨rfl, hb311⟩
    have F312 := hid (F291.out.below hb311)
    have F313 := hid (F292.out.below hb311)
    have F314 := hid (F293.out.below hb311)
    have F315 := hid (F294.out.below hb311)
    have F316 := hid (F295.out.below hb311)
    have F317 := hid (F296.out.below hb311)
    have F318 := hid (F297.out.below hb311)
    have F319 := hid (F298.out.below hb311)
    have F320 := hid (F299.out.below hb311)
    have F321 := hid (F300.out.below hb311)
    have F322 := hid (F301.out.below hb311)
    have F323 := hid (F307.out.below hb311)
    have G324 := hid (below_to G302.out hb311)
    have Z325 := hid (show w_286.heap.size + 0 ≤ w_310.heap.size by have := hb311.size; first | omega | (simp at this; omega))
    clear F291 F292 F293 F294 F295 F296 F297 F298 F299 F300 F301 F307 G302 hb311
    have e326 := F312.out.1
    have e326z := F312.out.2
    have e327 := F316.out.1
    have e327z := F316.out.2
    go_wp2_with fail
    clear e326 e326z e327 e327z
    refine (heldIntS_any _ _ _ _ F320.out.ints HL96.out (by omega) (by omega)).mono ?_
    rintro e w_328 ⟨rfl, hb329⟩
    have F330 := hid (F312.out.below hb329)
    have F331 := hid (F313.out.below hb329)
    have F332 := hid (F314.out.below hb329)
    have F333 := hid (F315.out.below hb329)
    have F334 := hid (F316.out.below hb329)
    have F335 := hid (F317.out.below hb329)
    have F336 := hid (F318.out.below hb329)
    have F337 := hid (F319.out.below hb329)
    have F338 := hid (F320.out.below hb329)
    have F339 := hid (F321.out.below hb329)
    have F340 := hid (F322.out.below hb329)
    have F341 := hid (F323.out.below hb329)
    have G342 := hid (below_to G324.out hb329)
    have Z343 := hid (show w_310.heap.size + 0 ≤ w_328.heap.size by have := hb329.size; first | omega | (simp at this; omega))
    clear F312 F313 F314 F315 F316 F317 F318 F319 F320 F321 F322 F323 G324 hb329
    go_wp2
    go_ret
    exact ⟨rfl, G342.out⟩
theorem walk (v0 : Value) (xs0 : List Int) (v1 : Value) (xs1 : List Int) (w : World) (hv0 : Ints w v0 xs0) (hm0 : xs0.length ≤ maxLen) (hv1 : Ints w v1 xs1) (hm1 : xs1.length ≤ maxLen) :
    Calls Try.prog 6 #[.agg #[v0], v1] w fun e w' => e = .returned (.bool true) ∧ Below w.heap.size w w' := by
  by_cases hl1 : 1048576 < xs1.length
  · exact walkLen1 v0 xs0 v1 xs1 w hv0 hm0 hv1 hm1  hl1
  by_cases hq0 : (1048576 : Int) < xs0.length
  · exact walkBig0 v0 xs0 v1 xs1 w hv0 hm0 hv1 hm1 (by omega)  (hid (szRes_neg hq0))
  exact walkSmall v0 xs0 v1 xs1 w hv0 hm0 hv1 hm1 (by omega) (hid (szRes_pos hq0)) hq0 (by omega)
end Go.Proofs.Ytgepbekdgocnpab.lawFromLayers
