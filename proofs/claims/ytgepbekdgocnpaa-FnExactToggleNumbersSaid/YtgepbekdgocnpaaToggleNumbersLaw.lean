/- FnExactToggleNumbers: the law's walk (by genlaw.py). -/
import Derived.Test.YtgepbekdgocnpaaArL
import Derived.Deep.DeepCutAuto
namespace Go.Proofs.Ytgepbekdgocnpaa.lawToggleNumbers
open Go.RowKit Go.WideShapes Go.ChangeShapes
set_option linter.unusedVariables false
set_option maxHeartbeats 1000000 in
theorem walkLen1 (v0 : Value) (xs0 : List Int) (v1 : Value) (xs1 : List Int) (n2 : Int) (v3 : Value) (xs3 : List Int) (w : World) (hv0 : Ints w v0 xs0) (hm0 : xs0.length ≤ maxLen) (hv1 : Ints w v1 xs1) (hm1 : xs1.length ≤ maxLen) (wf2 : (Lit.int .i64 n2).wf = true) (hv3 : Ints w v3 xs3) (hm3 : xs3.length ≤ maxLen) (hbig : 1048576 < xs1.length) :
    Calls Try.prog 6 #[.agg #[v0], v1, .int .i64 n2, v3] w fun e w' => e = .returned (.bool true) ∧ Below w.heap.size w w' := by
  obtain ⟨A1, c1, rfl, -⟩ := hv1
  obtain ⟨A3, c3, rfl, -⟩ := hv3
  unfold maxLen at hm1 hm3
  go_enter Try.func6, Try.ntmps6
  go_wp2
  go_ret
  exact ⟨rfl, (below_alloc (Below.refl _ w) _)⟩
set_option maxHeartbeats 1000000 in
theorem walkLen3 (v0 : Value) (xs0 : List Int) (v1 : Value) (xs1 : List Int) (n2 : Int) (v3 : Value) (xs3 : List Int) (w : World) (hv0 : Ints w v0 xs0) (hm0 : xs0.length ≤ maxLen) (hv1 : Ints w v1 xs1) (hm1 : xs1.length ≤ maxLen) (wf2 : (Lit.int .i64 n2).wf = true) (hv3 : Ints w v3 xs3) (hm3 : xs3.length ≤ maxLen) (hl1 : xs1.length ≤ 1048576) (hbig : 1048576 < xs3.length) :
    Calls Try.prog 6 #[.agg #[v0], v1, .int .i64 n2, v3] w fun e w' => e = .returned (.bool true) ∧ Below w.heap.size w w' := by
  obtain ⟨A1, c1, rfl, -⟩ := hv1
  obtain ⟨A3, c3, rfl, -⟩ := hv3
  unfold maxLen at hm1 hm3
  go_enter Try.func6, Try.ntmps6
  go_wp2
  go_ret
  exact ⟨rfl, (below_alloc (Below.refl _ w) _)⟩
set_option maxRecDepth 100000 in
set_option maxHeartbeats 1000000 in
theorem walkBig0 (v0 : Value) (xs0 : List Int) (v1 : Value) (xs1 : List Int) (n2 : Int) (v3 : Value) (xs3 : List Int) (w : World) (hv0 : Ints w v0 xs0) (hm0 : xs0.length ≤ maxLen) (hv1 : Ints w v1 xs1) (hm1 : xs1.length ≤ maxLen) (wf2 : (Lit.int .i64 n2).wf = true) (hv3 : Ints w v3 xs3) (hm3 : xs3.length ≤ maxLen) (hl1 : xs1.length ≤ 1048576) (hl3 : xs3.length ≤ 1048576) (HS0 : Hid (szRes (1048576 : Int) xs0.length = -1)) :
    Calls Try.prog 6 #[.agg #[v0], v1, .int .i64 n2, v3] w fun e w' => e = .returned (.bool true) ∧ Below w.heap.size w w' := by
  have hv1q := hv1
  obtain ⟨A1, c1, hsh1, -⟩ := hv1q
  subst hsh1
  have hv3q := hv3
  obtain ⟨A3, c3, hsh3, -⟩ := hv3q
  subst hsh3
  have HV0 := hid hv0
  clear hv0
  have HV1 := hid hv1
  clear hv1
  have HV3 := hid hv3
  clear hv3
  have WF2 := hid wf2
  clear wf2
  go_enter Try.func6, Try.ntmps6
  go_wp2_with fail
  refine (szPoset_any v0 xs0 _ _ (HV0.out.later (below_alloc (Below.refl _ w) _)) hm0 (by omega) (by omega)).mono ?_
  rw [HS0.out]
  rintro e w_1 ⟨rfl, hb2⟩
  have F3 := hid ((At.new w v0 24).below hb2)
  have G4 := hid (below_to (below_alloc (Below.refl _ w) _) hb2)
  have Z5 := hid (show w.heap.size + 1 ≤ w_1.heap.size by have := hb2.size; first | omega | (simp at this; omega))
  clear hb2
  go_wp2
  go_ret
  exact ⟨rfl, G4.out⟩
set_option maxRecDepth 100000 in
set_option maxHeartbeats 8000000 in
theorem walkSmall (v0 : Value) (xs0 : List Int) (v1 : Value) (xs1 : List Int) (n2 : Int) (v3 : Value) (xs3 : List Int) (w : World) (hv0 : Ints w v0 xs0) (hm0 : xs0.length ≤ maxLen) (hv1 : Ints w v1 xs1) (hm1 : xs1.length ≤ maxLen) (wf2 : (Lit.int .i64 n2).wf = true) (hv3 : Ints w v3 xs3) (hm3 : xs3.length ≤ maxLen) (hl1 : xs1.length ≤ 1048576) (hl3 : xs3.length ≤ 1048576) (HS0 : Hid (szRes (1048576 : Int) xs0.length = (1048576 : Int) - xs0.length)) (hq0 : ¬ (1048576 : Int) < xs0.length) (hl0 : xs0.length ≤ 1048576) :
    Calls Try.prog 6 #[.agg #[v0], v1, .int .i64 n2, v3] w fun e w' => e = .returned (.bool true) ∧ Below w.heap.size w w' := by
  have hv1q := hv1
  obtain ⟨A1, c1, hsh1, -⟩ := hv1q
  subst hsh1
  have hv3q := hv3
  obtain ⟨A3, c3, hsh3, -⟩ := hv3q
  subst hsh3
  have HV0 := hid hv0
  clear hv0
  have HV1 := hid hv1
  clear hv1
  have HV3 := hid hv3
  clear hv3
  have WF2 := hid wf2
  clear wf2
  go_enter Try.func6, Try.ntmps6
  go_wp2_with fail
  refine (szPoset_any v0 xs0 _ _ (HV0.out.later (below_alloc (Below.refl _ w) _)) hm0 (by omega) (by omega)).mono ?_
  rw [HS0.out]
  rintro e w_6 ⟨rfl, hb7⟩
  have F8 := hid ((At.new w v0 24).below hb7)
  have G9 := hid (below_to (below_alloc (Below.refl _ w) _) hb7)
  have Z10 := hid (show w.heap.size + 1 ≤ w_6.heap.size by have := hb7.size; first | omega | (simp at this; omega))
  clear hb7
  have e11 := F8.out.1
  have e11z := F8.out.2
  go_wp2_with fail
  clear e11 e11z
  refine (toPoset_own v0 xs0 _ (HV0.out.later G9.out) hl0).mono ?_
  rintro e w_12 ⟨u13, rfl, ho15, hb14⟩
  have F16 := hid (F8.out.below hb14)
  have G17 := hid (below_to G9.out hb14)
  have Z18 := hid (show w_6.heap.size + 0 ≤ w_12.heap.size by have := hb14.size; first | omega | (simp at this; omega))
  have hn19 := ho15
  obtain ⟨u13A, u13n, u13c, rfl⟩ := hn19.shape3
  have U20 := hid (OwnI.blockLt hn19)
  have F21 := hid hn19
  clear F8 G9 hb14 ho15 hn19
  have e22 := F16.out.1
  have e22z := F16.out.2
  go_wp2_with fail
  clear e22 e22z
  refine (toIntS_own (.slice A1 xs1.length c1) xs1 _ (HV1.out.later G17.out) hl1).mono ?_
  rintro e w_23 ⟨u24, rfl, ho26, hb25⟩
  have F27 := hid (F16.out.below hb25)
  have F28 := hid (F21.out.below hb25)
  have G29 := hid (below_to G17.out hb25)
  have Z30 := hid (show w_12.heap.size + 0 ≤ w_23.heap.size by have := hb25.size; first | omega | (simp at this; omega))
  have hn31 := ho26
  obtain ⟨u24A, u24n, u24c, rfl⟩ := hn31.shape3
  have U32 := hid (OwnI.blockLt hn31)
  have F33 := hid hn31
  clear F16 F21 G17 hb25 ho26 hn31
  have e34 := F27.out.1
  have e34z := F27.out.2
  go_wp2_with fail
  clear e34 e34z
  refine (toIntS_own (.slice A3 xs3.length c3) xs3 _ (HV3.out.later G29.out) hl3).mono ?_
  rintro e w_35 ⟨u36, rfl, ho38, hb37⟩
  have F39 := hid (F27.out.below hb37)
  have F40 := hid (F28.out.below hb37)
  have F41 := hid (F33.out.below hb37)
  have G42 := hid (below_to G29.out hb37)
  have Z43 := hid (show w_23.heap.size + 0 ≤ w_35.heap.size by have := hb37.size; first | omega | (simp at this; omega))
  have hn44 := ho38
  obtain ⟨u36A, u36n, u36c, rfl⟩ := hn44.shape3
  have U45 := hid (OwnI.blockLt hn44)
  have F46 := hid hn44
  clear F27 F28 F33 G29 hb37 ho38 hn44
  have e47 := F39.out.1
  have e47z := F39.out.2
  go_wp2_with fail
  clear e47 e47z
  refine (specToggleNumbers_any (Value.slice u13A u13n u13c) xs0 (Value.slice u24A u24n u24c) xs1 n2 (Value.slice u36A u36n u36c) xs3 _ F40.out.ints hl0 F41.out.ints hl1 WF2.out F46.out.ints hl3).mono ?_
  rintro e w_48 ⟨u50, rfl, ho51, hl52, hb49⟩
  have F53 := hid (F39.out.below hb49)
  have F54 := hid (F40.out.below hb49)
  have F55 := hid (F41.out.below hb49)
  have F56 := hid (F46.out.below hb49)
  have G57 := hid (below_to G42.out hb49)
  have Z58 := hid (show w_35.heap.size + 0 ≤ w_48.heap.size by have := hb49.size; first | omega | (simp at this; omega))
  have hn59 := ho51
  have HL60 := hid hl52
  obtain ⟨u50A, u50n, u50c, rfl⟩ := hn59.shape3
  have U61 := hid (OwnI.blockLt hn59)
  have F62 := hid hn59
  clear F39 F40 F41 F46 G42 hb49 hn59 ho51 hl52
  have e63 := F53.out.1
  have e63z := F53.out.2
  go_wp2_with fail
  clear e63 e63z
  refine (toPoset_own v0 xs0 _ (HV0.out.later G57.out) hl0).mono ?_
  rintro e w_64 ⟨u65, rfl, ho67, hb66⟩
  have F68 := hid (F53.out.below hb66)
  have F69 := hid (F54.out.below hb66)
  have F70 := hid (F55.out.below hb66)
  have F71 := hid (F56.out.below hb66)
  have F72 := hid (F62.out.below hb66)
  have G73 := hid (below_to G57.out hb66)
  have Z74 := hid (show w_48.heap.size + 0 ≤ w_64.heap.size by have := hb66.size; first | omega | (simp at this; omega))
  have hn75 := ho67
  obtain ⟨u65A, u65n, u65c, rfl⟩ := hn75.shape3
  have U76 := hid (OwnI.blockLt hn75)
  have F77 := hid hn75
  clear F53 F54 F55 F56 F62 G57 hb66 ho67 hn75
  have e78 := F68.out.1
  have e78z := F68.out.2
  go_wp2_with fail
  clear e78 e78z
  refine (toIntS_own (.slice A1 xs1.length c1) xs1 _ (HV1.out.later (below_alloc G73.out _)) hl1).mono ?_
  rintro e w_79 ⟨u80, rfl, ho82, hb81⟩
  have F83 := hid ((F68.out.alloc _).below hb81)
  have F84 := hid ((F69.out.alloc _).below hb81)
  have F85 := hid ((F70.out.alloc _).below hb81)
  have F86 := hid ((F71.out.alloc _).below hb81)
  have F87 := hid ((F72.out.alloc _).below hb81)
  have F88 := hid ((F77.out.alloc _).below hb81)
  have F89 := hid ((At.new w_64 (Value.slice u65A u65n u65c) 28).below hb81)
  have G90 := hid (below_to (below_alloc G73.out _) hb81)
  have Z91 := hid (show w_64.heap.size + 1 ≤ w_79.heap.size by have := hb81.size; first | omega | (simp at this; omega))
  have hn92 : OwnI 3 w_79 (w_64.heap.size + 1) u80 xs1 := by simpa using ho82
  obtain ⟨u80A, u80n, u80c, rfl⟩ := hn92.shape3
  have U93 := hid (OwnI.blockLt hn92)
  have F94 := hid hn92
  clear F68 F69 F70 F71 F72 F77 G73 hb81 ho82 hn92
  have e95 := F83.out.1
  have e95z := F83.out.2
  have e96 := F89.out.1
  have e96z := F89.out.2
  go_wp2_with fail
  clear e95 e95z e96 e96z
  refine (toIntS_own (.slice A3 xs3.length c3) xs3 _ (HV3.out.later G90.out) hl3).mono ?_
  rintro e w_97 ⟨u98, rfl, ho100, hb99⟩
  have F101 := hid (F83.out.below hb99)
  have F102 := hid (F84.out.below hb99)
  have F103 := hid (F85.out.below hb99)
  have F104 := hid (F86.out.below hb99)
  have F105 := hid (F87.out.below hb99)
  have F106 := hid (F88.out.below hb99)
  have F107 := hid (F89.out.below hb99)
  have F108 := hid (F94.out.below hb99)
  have G109 := hid (below_to G90.out hb99)
  have Z110 := hid (show w_79.heap.size + 0 ≤ w_97.heap.size by have := hb99.size; first | omega | (simp at this; omega))
  have hn111 := ho100
  obtain ⟨u98A, u98n, u98c, rfl⟩ := hn111.shape3
  have U112 := hid (OwnI.blockLt hn111)
  have F113 := hid hn111
  clear F83 F84 F85 F86 F87 F88 F89 F94 G90 hb99 ho100 hn111
  have e114 := F101.out.1
  have e114z := F101.out.2
  have e115 := F107.out.1
  have e115z := F107.out.2
  go_wp2_with fail
  clear e114 e114z e115 e115z
  refine (implToggleNumbers_any (Value.slice u65A u65n u65c) xs0 (Value.slice u80A u80n u80c) xs1 n2 (Value.slice u98A u98n u98c) xs3 _ F106.out.ints hl0 F108.out.ints hl1 WF2.out F113.out.ints hl3).mono ?_
  rintro e w_116 ⟨u118, rfl, ho119, hl120, hb117⟩
  have F121 := hid (F101.out.below hb117)
  have F122 := hid (F102.out.below hb117)
  have F123 := hid (F103.out.below hb117)
  have F124 := hid (F104.out.below hb117)
  have F125 := hid (F105.out.below hb117)
  have F126 := hid (F106.out.below hb117)
  have F127 := hid (F107.out.below hb117)
  have F128 := hid (F108.out.below hb117)
  have F129 := hid (F113.out.below hb117)
  have G130 := hid (below_to G109.out hb117)
  have Z131 := hid (show w_97.heap.size + 0 ≤ w_116.heap.size by have := hb117.size; first | omega | (simp at this; omega))
  have hn132 := ho119
  have HL133 := hid hl120
  obtain ⟨u118A, u118n, u118c, rfl⟩ := hn132.shape3
  have U134 := hid (OwnI.blockLt hn132)
  have F135 := hid hn132
  clear F101 F102 F103 F104 F105 F106 F107 F108 F113 G109 hb117 hn132 ho119 hl120
  have e136 := F121.out.1
  have e136z := F121.out.2
  have e137 := F127.out.1
  have e137z := F127.out.2
  go_wp2_with fail
  clear e136 e136z e137 e137z
  refine (eqIntS_any _ _ ((ansTN xs0 xs1 n2 xs3)) _ F135.out.ints F125.out.ints HL133.out).mono ?_
  rintro e w_138 ⟨rfl, hb139⟩
  have F140 := hid (F121.out.below hb139)
  have F141 := hid (F122.out.below hb139)
  have F142 := hid (F123.out.below hb139)
  have F143 := hid (F124.out.below hb139)
  have F144 := hid (F125.out.below hb139)
  have F145 := hid (F126.out.below hb139)
  have F146 := hid (F127.out.below hb139)
  have F147 := hid (F128.out.below hb139)
  have F148 := hid (F129.out.below hb139)
  have F149 := hid (F135.out.below hb139)
  have G150 := hid (below_to G130.out hb139)
  have Z151 := hid (show w_116.heap.size + 0 ≤ w_138.heap.size by have := hb139.size; first | omega | (simp at this; omega))
  clear F121 F122 F123 F124 F125 F126 F127 F128 F129 F135 G130 hb139
  have e152 := F140.out.1
  have e152z := F140.out.2
  have e153 := F146.out.1
  have e153z := F146.out.2
  go_upto_region 16 with fail
  go_cut [71] (fun s wx => s = .bool false ∧ At wx (w.heap.size) (v0) ∧ OwnI 3 wx (w_6.heap.size) (Value.slice u13A u13n u13c) xs0 ∧ OwnI 3 wx (w_12.heap.size) (Value.slice u24A u24n u24c) xs1 ∧ OwnI 3 wx (w_23.heap.size) (Value.slice u36A u36n u36c) xs3 ∧ OwnI 3 wx (w_35.heap.size) (Value.slice u50A u50n u50c) (ansTN xs0 xs1 n2 xs3) ∧ OwnI 3 wx (w_48.heap.size) (Value.slice u65A u65n u65c) xs0 ∧ At wx (w_64.heap.size) ((Value.slice u65A u65n u65c)) ∧ OwnI 3 wx (w_64.heap.size + 1) (Value.slice u80A u80n u80c) xs1 ∧ OwnI 3 wx (w_79.heap.size) (Value.slice u98A u98n u98c) xs3 ∧ OwnI 3 wx (w_97.heap.size) (Value.slice u118A u118n u118c) (ansTN xs0 xs1 n2 xs3) ∧ w_138.heap.size ≤ wx.heap.size ∧ Below w.heap.size w wx)
  case first =>
    go_region_with (first | (go_at_call 13; refine (toPoset_own v0 xs0 _ (((HV0.out.later G150.out)).drew) hl0).mono ?_; rintro e w_154 ⟨u155, rfl, ho3, hb156⟩; have K0 := hid (F140.out.drew.below hb156); have K1 := hid (F141.out.drew.below hb156); have K2 := hid (F142.out.drew.below hb156); have K3 := hid (F143.out.drew.below hb156); have K4 := hid (F144.out.drew.below hb156); have K5 := hid (F145.out.drew.below hb156); have K6 := hid (F146.out.drew.below hb156); have K7 := hid (F147.out.drew.below hb156); have K8 := hid (F148.out.drew.below hb156); have K9 := hid (F149.out.drew.below hb156); have KZ := hid (show w_138.heap.size ≤ w_154.heap.size by have := hb156.size; simpa using this); have KB := hid (below_to G150.out.drew hb156); have KO := hid ho3; have hx6 := K6.out.1; clear ho3 hb156) | (go_at_call 16; refine (eqPoset_any _ _ (xs0) _ K5.out.ints KO.out.ints hl0).mono ?_; rintro e w_157 ⟨rfl, hb158⟩; have M0 := hid (K0.out.below hb158); have M1 := hid (K1.out.below hb158); have M2 := hid (K2.out.below hb158); have M3 := hid (K3.out.below hb158); have M4 := hid (K4.out.below hb158); have M5 := hid (K5.out.below hb158); have M6 := hid (K6.out.below hb158); have M7 := hid (K7.out.below hb158); have M8 := hid (K8.out.below hb158); have M9 := hid (K9.out.below hb158); have MZ := hid (show w_138.heap.size ≤ w_157.heap.size by have := hb158.size; have := KZ.out; omega); have MB := hid (below_to KB.out hb158); clear hb158))
    all_goals (go_wp2_with fail; go_meet; exact ⟨rfl, M0.out, M1.out, M2.out, M3.out, M4.out, M5.out, M6.out, M7.out, M8.out, M9.out, MZ.out, MB.out⟩)
  case rest =>
    clear e152 e152z e153 e153z
    obtain ⟨rfl, c0, c1, c2, c3, c4, c5, c6, c7, c8, c9, hzc, hbc⟩ := hcut
    obtain ⟨wc159, rfl⟩ : ∃ x, x = wc := ⟨wc, rfl⟩
    have F160 := hid c0
    have F161 := hid c1
    have F162 := hid c2
    have F163 := hid c3
    have F164 := hid c4
    have F165 := hid c5
    have F166 := hid c6
    have F167 := hid c7
    have F168 := hid c8
    have F169 := hid c9
    have Z170 := hid hzc
    have G171 := hid hbc
    clear c0 F140 c1 F141 c2 F142 c3 F143 c4 F144 c5 F145 c6 F146 c7 F147 c8 F148 c9 F149 hzc hbc G150
    have e172 := F160.out.1
    have e172z := F160.out.2
    have e173 := F166.out.1
    have e173z := F166.out.2
    go_wp2_with fail
    clear e172 e172z e173 e173z
    refine (toIntS_own (.slice A1 xs1.length c1) xs1 _ (HV1.out.later G171.out) hl1).mono ?_
    rintro e w_174 ⟨u175, rfl, ho177, hb176⟩
    have F178 := hid (F160.out.below hb176)
    have F179 := hid (F161.out.below hb176)
    have F180 := hid (F162.out.below hb176)
    have F181 := hid (F163.out.below hb176)
    have F182 := hid (F164.out.below hb176)
    have F183 := hid (F165.out.below hb176)
    have F184 := hid (F166.out.below hb176)
    have F185 := hid (F167.out.below hb176)
    have F186 := hid (F168.out.below hb176)
    have F187 := hid (F169.out.below hb176)
    have G188 := hid (below_to G171.out hb176)
    have Z189 := hid (show wc159.heap.size + 0 ≤ w_174.heap.size by have := hb176.size; first | omega | (simp at this; omega))
    have hn190 := ho177
    obtain ⟨u175A, u175n, u175c, rfl⟩ := hn190.shape3
    have U191 := hid (OwnI.blockLt hn190)
    have F192 := hid hn190
    clear F160 F161 F162 F163 F164 F165 F166 F167 F168 F169 G171 hb176 ho177 hn190
    have e193 := F178.out.1
    have e193z := F178.out.2
    have e194 := F184.out.1
    have e194z := F184.out.2
    go_wp2_with fail
    clear e193 e193z e194 e194z
    refine (eqIntS_any _ _ (xs1) _ F185.out.ints F192.out.ints hl1).mono ?_
    rintro e w_195 ⟨rfl, hb196⟩
    have F197 := hid (F178.out.below hb196)
    have F198 := hid (F179.out.below hb196)
    have F199 := hid (F180.out.below hb196)
    have F200 := hid (F181.out.below hb196)
    have F201 := hid (F182.out.below hb196)
    have F202 := hid (F183.out.below hb196)
    have F203 := hid (F184.out.below hb196)
    have F204 := hid (F185.out.below hb196)
    have F205 := hid (F186.out.below hb196)
    have F206 := hid (F187.out.below hb196)
    have F207 := hid (F192.out.below hb196)
    have G208 := hid (below_to G188.out hb196)
    have Z209 := hid (show w_174.heap.size + 0 ≤ w_195.heap.size by have := hb196.size; first | omega | (simp at this; omega))
    clear F178 F179 F180 F181 F182 F183 F184 F185 F186 F187 F192 G188 hb196
    have e210 := F197.out.1
    have e210z := F197.out.2
    have e211 := F203.out.1
    have e211z := F203.out.2
    go_wp2_with fail
    clear e210 e210z e211 e211z
    refine (toIntS_own (.slice A3 xs3.length c3) xs3 _ (HV3.out.later G208.out) hl3).mono ?_
    rintro e w_212 ⟨u213, rfl, ho215, hb214⟩
    have F216 := hid (F197.out.below hb214)
    have F217 := hid (F198.out.below hb214)
    have F218 := hid (F199.out.below hb214)
    have F219 := hid (F200.out.below hb214)
    have F220 := hid (F201.out.below hb214)
    have F221 := hid (F202.out.below hb214)
    have F222 := hid (F203.out.below hb214)
    have F223 := hid (F204.out.below hb214)
    have F224 := hid (F205.out.below hb214)
    have F225 := hid (F206.out.below hb214)
    have F226 := hid (F207.out.below hb214)
    have G227 := hid (below_to G208.out hb214)
    have Z228 := hid (show w_195.heap.size + 0 ≤ w_212.heap.size by have := hb214.size; first | omega | (simp at this; omega))
    have hn229 := ho215
    obtain ⟨u213A, u213n, u213c, rfl⟩ := hn229.shape3
    have U230 := hid (OwnI.blockLt hn229)
    have F231 := hid hn229
    clear F197 F198 F199 F200 F201 F202 F203 F204 F205 F206 F207 G208 hb214 ho215 hn229
    have e232 := F216.out.1
    have e232z := F216.out.2
    have e233 := F222.out.1
    have e233z := F222.out.2
    go_wp2_with fail
    clear e232 e232z e233 e233z
    refine (eqIntS_any _ _ (xs3) _ F224.out.ints F231.out.ints hl3).mono ?_
    rintro e w_234 ⟨rfl, hb235⟩
    have F236 := hid (F216.out.below hb235)
    have F237 := hid (F217.out.below hb235)
    have F238 := hid (F218.out.below hb235)
    have F239 := hid (F219.out.below hb235)
    have F240 := hid (F220.out.below hb235)
    have F241 := hid (F221.out.below hb235)
    have F242 := hid (F222.out.below hb235)
    have F243 := hid (F223.out.below hb235)
    have F244 := hid (F224.out.below hb235)
    have F245 := hid (F225.out.below hb235)
    have F246 := hid (F226.out.below hb235)
    have F247 := hid (F231.out.below hb235)
    have G248 := hid (below_to G227.out hb235)
    have Z249 := hid (show w_212.heap.size + 0 ≤ w_234.heap.size by have := hb235.size; first | omega | (simp at this; omega))
    clear F216 F217 F218 F219 F220 F221 F222 F223 F224 F225 F226 F231 G227 hb235
    have e250 := F236.out.1
    have e250z := F236.out.2
    have e251 := F242.out.1
    have e251z := F242.out.2
    go_wp2_with fail
    clear e250 e250z e251 e251z
    refine (markPoset_any _ (xs0) _ _ _ F241.out hl0 (by omega) (by first | omega | (have := hl0; omega))).mono ?_
    rintro e w_252 ⟨rfl, ho253, hg254⟩
    have qZ10 := Z10.out
    have qZ18 := Z18.out
    have qZ30 := Z30.out
    have qZ43 := Z43.out
    have qZ58 := Z58.out
    have qZ74 := Z74.out
    have qZ91 := Z91.out
    have qZ110 := Z110.out
    have qZ131 := Z131.out
    have qZ151 := Z151.out
    have qZ170 := Z170.out
    have qZ189 := Z189.out
    have qZ209 := Z209.out
    have qZ228 := Z228.out
    have qZ249 := Z249.out
    have F255 := hid (F236.out.grown hg254 (row_ne_box (U76.out) (by omega)))
    have F256 := hid (F237.out.grown hg254 (row_ne_row (U20.out) (U76.out) (by omega)))
    have F257 := hid (F238.out.grown hg254 (row_ne_row (U32.out) (U76.out) (by omega)))
    have F258 := hid (F239.out.grown hg254 (row_ne_row (U45.out) (U76.out) (by omega)))
    have F259 := hid (F240.out.grown hg254 (row_ne_row (U61.out) (U76.out) (by omega)))
    have F260 := hid (F242.out.grown hg254 (row_ne_box (U76.out) (by omega)))
    have F261 := hid (F243.out.grown hg254 (row_ne_row (U93.out) (U76.out) (by omega)))
    have F262 := hid (F244.out.grown hg254 (row_ne_row (U112.out) (U76.out) (by omega)))
    have F263 := hid (F245.out.grown hg254 (row_ne_row (U134.out) (U76.out) (by omega)))
    have F264 := hid (F246.out.grown hg254 (row_ne_row (U191.out) (U76.out) (by omega)))
    have F265 := hid (F247.out.grown hg254 (row_ne_row (U230.out) (U76.out) (by omega)))
    have G266 := hid (below_grown G248.out hg254 (fun k hk => by have := U76.out k hk; omega))
    have Z267 := hid (show w_234.heap.size + 0 ≤ w_252.heap.size by have := hg254.size; first | omega | (simp at this; omega))
    clear qZ10 qZ18 qZ30 qZ43 qZ58 qZ74 qZ91 qZ110 qZ131 qZ151 qZ170 qZ189 qZ209 qZ228 qZ249
    have F268 := hid ho253
    clear F236 F237 F238 F239 F240 F242 F243 F244 F245 F246 F247 G248 F241 ho253 hg254
    have e269 := F255.out.1
    have e269z := F255.out.2
    have e270 := F260.out.1
    have e270z := F260.out.2
    go_wp2_with fail
    clear e269 e269z e270 e270z
    refine (markIntS_any _ (xs1) _ _ _ F261.out hl1 (by omega) (by first | omega | (have := hl1; omega))).mono ?_
    rintro e w_271 ⟨rfl, ho272, hg273⟩
    have qZ10 := Z10.out
    have qZ18 := Z18.out
    have qZ30 := Z30.out
    have qZ43 := Z43.out
    have qZ58 := Z58.out
    have qZ74 := Z74.out
    have qZ91 := Z91.out
    have qZ110 := Z110.out
    have qZ131 := Z131.out
    have qZ151 := Z151.out
    have qZ170 := Z170.out
    have qZ189 := Z189.out
    have qZ209 := Z209.out
    have qZ228 := Z228.out
    have qZ249 := Z249.out
    have qZ267 := Z267.out
    have F274 := hid (F255.out.grown hg273 (row_ne_box (U93.out) (by omega)))
    have F275 := hid (F256.out.grown hg273 (row_ne_row (U20.out) (U93.out) (by omega)))
    have F276 := hid (F257.out.grown hg273 (row_ne_row (U32.out) (U93.out) (by omega)))
    have F277 := hid (F258.out.grown hg273 (row_ne_row (U45.out) (U93.out) (by omega)))
    have F278 := hid (F259.out.grown hg273 (row_ne_row (U61.out) (U93.out) (by omega)))
    have F279 := hid (F260.out.grown hg273 (row_ne_box (U93.out) (by omega)))
    have F280 := hid (F262.out.grown hg273 (row_ne_row (U112.out) (U93.out) (by omega)))
    have F281 := hid (F263.out.grown hg273 (row_ne_row (U134.out) (U93.out) (by omega)))
    have F282 := hid (F264.out.grown hg273 (row_ne_row (U191.out) (U93.out) (by omega)))
    have F283 := hid (F265.out.grown hg273 (row_ne_row (U230.out) (U93.out) (by omega)))
    have F284 := hid (F268.out.grown hg273 (row_ne_row (U76.out) (U93.out) (by omega)))
    have G285 := hid (below_grown G266.out hg273 (fun k hk => by have := U93.out k hk; omega))
    have Z286 := hid (show w_252.heap.size + 0 ≤ w_271.heap.size by have := hg273.size; first | omega | (simp at this; omega))
    clear qZ10 qZ18 qZ30 qZ43 qZ58 qZ74 qZ91 qZ110 qZ131 qZ151 qZ170 qZ189 qZ209 qZ228 qZ249 qZ267
    have F287 := hid ho272
    clear F255 F256 F257 F258 F259 F260 F262 F263 F264 F265 F268 G266 F261 ho272 hg273
    have e288 := F274.out.1
    have e288z := F274.out.2
    have e289 := F279.out.1
    have e289z := F279.out.2
    go_wp2_with fail
    clear e288 e288z e289 e289z
    refine (markIntS_any _ (xs3) _ _ _ F280.out hl3 (by omega) (by first | omega | (have := hl3; omega))).mono ?_
    rintro e w_290 ⟨rfl, ho291, hg292⟩
    have qZ10 := Z10.out
    have qZ18 := Z18.out
    have qZ30 := Z30.out
    have qZ43 := Z43.out
    have qZ58 := Z58.out
    have qZ74 := Z74.out
    have qZ91 := Z91.out
    have qZ110 := Z110.out
    have qZ131 := Z131.out
    have qZ151 := Z151.out
    have qZ170 := Z170.out
    have qZ189 := Z189.out
    have qZ209 := Z209.out
    have qZ228 := Z228.out
    have qZ249 := Z249.out
    have qZ267 := Z267.out
    have qZ286 := Z286.out
    have F293 := hid (F274.out.grown hg292 (row_ne_box (U112.out) (by omega)))
    have F294 := hid (F275.out.grown hg292 (row_ne_row (U20.out) (U112.out) (by omega)))
    have F295 := hid (F276.out.grown hg292 (row_ne_row (U32.out) (U112.out) (by omega)))
    have F296 := hid (F277.out.grown hg292 (row_ne_row (U45.out) (U112.out) (by omega)))
    have F297 := hid (F278.out.grown hg292 (row_ne_row (U61.out) (U112.out) (by omega)))
    have F298 := hid (F279.out.grown hg292 (row_ne_box (U112.out) (by omega)))
    have F299 := hid (F281.out.grown hg292 (row_ne_row (U134.out) (U112.out) (by omega)))
    have F300 := hid (F282.out.grown hg292 (row_ne_row (U191.out) (U112.out) (by omega)))
    have F301 := hid (F283.out.grown hg292 (row_ne_row (U230.out) (U112.out) (by omega)))
    have F302 := hid (F284.out.grown hg292 (row_ne_row (U76.out) (U112.out) (by omega)))
    have F303 := hid (F287.out.grown hg292 (row_ne_row (U93.out) (U112.out) (by omega)))
    have G304 := hid (below_grown G285.out hg292 (fun k hk => by have := U112.out k hk; omega))
    have Z305 := hid (show w_271.heap.size + 0 ≤ w_290.heap.size by have := hg292.size; first | omega | (simp at this; omega))
    clear qZ10 qZ18 qZ30 qZ43 qZ58 qZ74 qZ91 qZ110 qZ131 qZ151 qZ170 qZ189 qZ209 qZ228 qZ249 qZ267 qZ286
    have F306 := hid ho291
    clear F274 F275 F276 F277 F278 F279 F281 F282 F283 F284 F287 G285 F280 ho291 hg292
    have e307 := F293.out.1
    have e307z := F293.out.2
    have e308 := F298.out.1
    have e308z := F298.out.2
    go_wp2_with fail
    clear e307 e307z e308 e308z
    refine (eqIntS_any _ _ ((ansTN xs0 xs1 n2 xs3)) _ F299.out.ints F297.out.ints HL133.out).mono ?_
    rintro e w_309 ⟨rfl, hb310⟩
    have F311 := hid (F293.out.below hb310)
    have F312 := hid (F294.out.below hb310)
    have F313 := hid (F295.out.below hb310)
    have F314 := hid (F296.out.below hb310)
    have F315 := hid (F297.out.below hb310)
    have F316 := hid (F298.out.below hb310)
    have F317 := hid (F299.out.below hb310)
    have F318 := hid (F300.out.below hb310)
    have F319 := hid (F301.out.below hb310)
    have F320 := hid (F302.out.below hb310)
    have F321 := hid (F303.out.below hb310)
    have F322 := hid (F306.out.below hb310)
    have G323 := hid (below_to G304.out hb310)
    have Z324 := hid (show w_290.heap.size + 0 ≤ w_309.heap.size by have := hb310.size; first | omega | (simp at this; omega))
    clear F293 F294 F295 F296 F297 F298 F299 F300 F301 F302 F303 F306 G304 hb310
    have e325 := F311.out.1
    have e325z := F311.out.2
    have e326 := F316.out.1
    have e326z := F316.out.2
    go_wp2_with fail
    clear e325 e325z e326 e326z
    refine (markIntS_any _ ((ansTN xs0 xs1 n2 xs3)) _ _ _ F317.out HL133.out (by omega) (by first | omega | (have := HL133.out; omega))).mono ?_
    rintro e w_327 ⟨rfl, ho328, hg329⟩
    have qZ10 := Z10.out
    have qZ18 := Z18.out
    have qZ30 := Z30.out
    have qZ43 := Z43.out
    have qZ58 := Z58.out
    have qZ74 := Z74.out
    have qZ91 := Z91.out
    have qZ110 := Z110.out
    have qZ131 := Z131.out
    have qZ151 := Z151.out
    have qZ170 := Z170.out
    have qZ189 := Z189.out
    have qZ209 := Z209.out
    have qZ228 := Z228.out
    have qZ249 := Z249.out
    have qZ267 := Z267.out
    have qZ286 := Z286.out
    have qZ305 := Z305.out
    have qZ324 := Z324.out
    have F330 := hid (F311.out.grown hg329 (row_ne_box (U134.out) (by omega)))
    have F331 := hid (F312.out.grown hg329 (row_ne_row (U20.out) (U134.out) (by omega)))
    have F332 := hid (F313.out.grown hg329 (row_ne_row (U32.out) (U134.out) (by omega)))
    have F333 := hid (F314.out.grown hg329 (row_ne_row (U45.out) (U134.out) (by omega)))
    have F334 := hid (F315.out.grown hg329 (row_ne_row (U61.out) (U134.out) (by omega)))
    have F335 := hid (F316.out.grown hg329 (row_ne_box (U134.out) (by omega)))
    have F336 := hid (F318.out.grown hg329 (row_ne_row (U191.out) (U134.out) (by omega)))
    have F337 := hid (F319.out.grown hg329 (row_ne_row (U230.out) (U134.out) (by omega)))
    have F338 := hid (F320.out.grown hg329 (row_ne_row (U76.out) (U134.out) (by omega)))
    have F339 := hid (F321.out.grown hg329 (row_ne_row (U93.out) (U134.out) (by omega)))
    have F340 := hid (F322.out.grown hg329 (row_ne_row (U112.out) (U134.out) (by omega)))
    have G341 := hid (below_grown G323.out hg329 (fun k hk => by have := U134.out k hk; omega))
    have Z342 := hid (show w_309.heap.size + 0 ≤ w_327.heap.size by have := hg329.size; first | omega | (simp at this; omega))
    clear qZ10 qZ18 qZ30 qZ43 qZ58 qZ74 qZ91 qZ110 qZ131 qZ151 qZ170 qZ189 qZ209 qZ228 qZ249 qZ267 qZ286 qZ305 qZ324
    have F343 := hid ho328
    clear F311 F312 F313 F314 F315 F316 F318 F319 F320 F321 F322 G323 F317 ho328 hg329
    have e344 := F330.out.1
    have e344z := F330.out.2
    have e345 := F335.out.1
    have e345z := F335.out.2
    go_wp2_with fail
    clear e344 e344z e345 e345z
    refine (heldIntS_any _ _ _ _ F343.out.ints HL133.out (by omega) (by omega)).mono ?_
    rintro e w_346 ⟨rfl, hb347⟩
    have F348 := hid (F330.out.below hb347)
    have F349 := hid (F331.out.below hb347)
    have F350 := hid (F332.out.below hb347)
    have F351 := hid (F333.out.below hb347)
    have F352 := hid (F334.out.below hb347)
    have F353 := hid (F335.out.below hb347)
    have F354 := hid (F336.out.below hb347)
    have F355 := hid (F337.out.below hb347)
    have F356 := hid (F338.out.below hb347)
    have F357 := hid (F339.out.below hb347)
    have F358 := hid (F340.out.below hb347)
    have F359 := hid (F343.out.below hb347)
    have G360 := hid (below_to G341.out hb347)
    have Z361 := hid (show w_327.heap.size + 0 ≤ w_346.heap.size by have := hb347.size; first | omega | (simp at this; omega))
    clear F330 F331 F332 F333 F334 F335 F336 F337 F338 F339 F340 F343 G341 hb347
    have e362 := F348.out.1
    have e362z := F348.out.2
    have e363 := F353.out.1
    have e363z := F353.out.2
    go_wp2_with fail
    clear e362 e362z e363 e363z
    refine (toPoset_own v0 xs0 _ (HV0.out.later G360.out) hl0).mono ?_
    rintro e w_364 ⟨u365, rfl, ho367, hb366⟩
    have F368 := hid (F348.out.below hb366)
    have F369 := hid (F349.out.below hb366)
    have F370 := hid (F350.out.below hb366)
    have F371 := hid (F351.out.below hb366)
    have F372 := hid (F352.out.below hb366)
    have F373 := hid (F353.out.below hb366)
    have F374 := hid (F354.out.below hb366)
    have F375 := hid (F355.out.below hb366)
    have F376 := hid (F356.out.below hb366)
    have F377 := hid (F357.out.below hb366)
    have F378 := hid (F358.out.below hb366)
    have F379 := hid (F359.out.below hb366)
    have G380 := hid (below_to G360.out hb366)
    have Z381 := hid (show w_346.heap.size + 0 ≤ w_364.heap.size by have := hb366.size; first | omega | (simp at this; omega))
    have hn382 := ho367
    obtain ⟨u365A, u365n, u365c, rfl⟩ := hn382.shape3
    have U383 := hid (OwnI.blockLt hn382)
    have F384 := hid hn382
    clear F348 F349 F350 F351 F352 F353 F354 F355 F356 F357 F358 F359 G360 hb366 ho367 hn382
    have e385 := F368.out.1
    have e385z := F368.out.2
    have e386 := F373.out.1
    have e386z := F373.out.2
    go_wp2_with fail
    clear e385 e385z e386 e386z
    refine (toIntS_own (.slice A1 xs1.length c1) xs1 _ (HV1.out.later G380.out) hl1).mono ?_
    rintro e w_387 ⟨u388, rfl, ho390, hb389⟩
    have F391 := hid (F368.out.below hb389)
    have F392 := hid (F369.out.below hb389)
    have F393 := hid (F370.out.below hb389)
    have F394 := hid (F371.out.below hb389)
    have F395 := hid (F372.out.below hb389)
    have F396 := hid (F373.out.below hb389)
    have F397 := hid (F374.out.below hb389)
    have F398 := hid (F375.out.below hb389)
    have F399 := hid (F376.out.below hb389)
    have F400 := hid (F377.out.below hb389)
    have F401 := hid (F378.out.below hb389)
    have F402 := hid (F379.out.below hb389)
    have F403 := hid (F384.out.below hb389)
    have G404 := hid (below_to G380.out hb389)
    have Z405 := hid (show w_364.heap.size + 0 ≤ w_387.heap.size by have := hb389.size; first | omega | (simp at this; omega))
    have hn406 := ho390
    obtain ⟨u388A, u388n, u388c, rfl⟩ := hn406.shape3
    have U407 := hid (OwnI.blockLt hn406)
    have F408 := hid hn406
    clear F368 F369 F370 F371 F372 F373 F374 F375 F376 F377 F378 F379 F384 G380 hb389 ho390 hn406
    have e409 := F391.out.1
    have e409z := F391.out.2
    have e410 := F396.out.1
    have e410z := F396.out.2
    go_wp2_with fail
    clear e409 e409z e410 e410z
    refine (toIntS_own (.slice A3 xs3.length c3) xs3 _ (HV3.out.later G404.out) hl3).mono ?_
    rintro e w_411 ⟨u412, rfl, ho414, hb413⟩
    have F415 := hid (F391.out.below hb413)
    have F416 := hid (F392.out.below hb413)
    have F417 := hid (F393.out.below hb413)
    have F418 := hid (F394.out.below hb413)
    have F419 := hid (F395.out.below hb413)
    have F420 := hid (F396.out.below hb413)
    have F421 := hid (F397.out.below hb413)
    have F422 := hid (F398.out.below hb413)
    have F423 := hid (F399.out.below hb413)
    have F424 := hid (F400.out.below hb413)
    have F425 := hid (F401.out.below hb413)
    have F426 := hid (F402.out.below hb413)
    have F427 := hid (F403.out.below hb413)
    have F428 := hid (F408.out.below hb413)
    have G429 := hid (below_to G404.out hb413)
    have Z430 := hid (show w_387.heap.size + 0 ≤ w_411.heap.size by have := hb413.size; first | omega | (simp at this; omega))
    have hn431 := ho414
    obtain ⟨u412A, u412n, u412c, rfl⟩ := hn431.shape3
    have U432 := hid (OwnI.blockLt hn431)
    have F433 := hid hn431
    clear F391 F392 F393 F394 F395 F396 F397 F398 F399 F400 F401 F402 F403 F408 G404 hb413 ho414 hn431
    have e434 := F415.out.1
    have e434z := F415.out.2
    have e435 := F420.out.1
    have e435z := F420.out.2
    go_wp2_with fail
    clear e434 e434z e435 e435z
    refine (implToggleNumbers_any (Value.slice u365A u365n u365c) xs0 (Value.slice u388A u388n u388c) xs1 n2 (Value.slice u412A u412n u412c) xs3 _ F427.out.ints hl0 F428.out.ints hl1 WF2.out F433.out.ints hl3).mono ?_
    rintro e w_436 ⟨u438, rfl, ho439, hl440, hb437⟩
    have F441 := hid (F415.out.below hb437)
    have F442 := hid (F416.out.below hb437)
    have F443 := hid (F417.out.below hb437)
    have F444 := hid (F418.out.below hb437)
    have F445 := hid (F419.out.below hb437)
    have F446 := hid (F420.out.below hb437)
    have F447 := hid (F421.out.below hb437)
    have F448 := hid (F422.out.below hb437)
    have F449 := hid (F423.out.below hb437)
    have F450 := hid (F424.out.below hb437)
    have F451 := hid (F425.out.below hb437)
    have F452 := hid (F426.out.below hb437)
    have F453 := hid (F427.out.below hb437)
    have F454 := hid (F428.out.below hb437)
    have F455 := hid (F433.out.below hb437)
    have G456 := hid (below_to G429.out hb437)
    have Z457 := hid (show w_411.heap.size + 0 ≤ w_436.heap.size by have := hb437.size; first | omega | (simp at this; omega))
    have hn458 := ho439
    have HL459 := hid hl440
    obtain ⟨u438A, u438n, u438c, rfl⟩ := hn458.shape3
    have U460 := hid (OwnI.blockLt hn458)
    have F461 := hid hn458
    clear F415 F416 F417 F418 F419 F420 F421 F422 F423 F424 F425 F426 F427 F428 F433 G429 hb437 hn458 ho439 hl440
    have e462 := F441.out.1
    have e462z := F441.out.2
    have e463 := F446.out.1
    have e463z := F446.out.2
    go_wp2_with fail
    clear e462 e462z e463 e463z
    refine (eqIntS_any _ _ ((ansTN xs0 xs1 n2 xs3)) _ F461.out.ints F445.out.ints HL459.out).mono ?_
    rintro e w_464 ⟨rfl, hb465⟩
    have F466 := hid (F441.out.below hb465)
    have F467 := hid (F442.out.below hb465)
    have F468 := hid (F443.out.below hb465)
    have F469 := hid (F444.out.below hb465)
    have F470 := hid (F445.out.below hb465)
    have F471 := hid (F446.out.below hb465)
    have F472 := hid (F447.out.below hb465)
    have F473 := hid (F448.out.below hb465)
    have F474 := hid (F449.out.below hb465)
    have F475 := hid (F450.out.below hb465)
    have F476 := hid (F451.out.below hb465)
    have F477 := hid (F452.out.below hb465)
    have F478 := hid (F453.out.below hb465)
    have F479 := hid (F454.out.below hb465)
    have F480 := hid (F455.out.below hb465)
    have F481 := hid (F461.out.below hb465)
    have G482 := hid (below_to G456.out hb465)
    have Z483 := hid (show w_436.heap.size + 0 ≤ w_464.heap.size by have := hb465.size; first | omega | (simp at this; omega))
    clear F441 F442 F443 F444 F445 F446 F447 F448 F449 F450 F451 F452 F453 F454 F455 F461 G456 hb465
    have e484 := F466.out.1
    have e484z := F466.out.2
    have e485 := F471.out.1
    have e485z := F471.out.2
    go_wp2_with fail
    clear e484 e484z e485 e485z
    refine (heldIntS_any _ _ _ _ F477.out.ints HL133.out (by omega) (by omega)).mono ?_
    rintro e w_486 ⟨rfl, hb487⟩
    have F488 := hid (F466.out.below hb487)
    have F489 := hid (F467.out.below hb487)
    have F490 := hid (F468.out.below hb487)
    have F491 := hid (F469.out.below hb487)
    have F492 := hid (F470.out.below hb487)
    have F493 := hid (F471.out.below hb487)
    have F494 := hid (F472.out.below hb487)
    have F495 := hid (F473.out.below hb487)
    have F496 := hid (F474.out.below hb487)
    have F497 := hid (F475.out.below hb487)
    have F498 := hid (F476.out.below hb487)
    have F499 := hid (F477.out.below hb487)
    have F500 := hid (F478.out.below hb487)
    have F501 := hid (F479.out.below hb487)
    have F502 := hid (F480.out.below hb487)
    have F503 := hid (F481.out.below hb487)
    have G504 := hid (below_to G482.out hb487)
    have Z505 := hid (show w_464.heap.size + 0 ≤ w_486.heap.size by have := hb487.size; first | omega | (simp at this; omega))
    clear F466 F467 F468 F469 F470 F471 F472 F473 F474 F475 F476 F477 F478 F479 F480 F481 G482 hb487
    go_wp2
    go_ret
    exact ⟨rfl, G504.out⟩
theorem walk (v0 : Value) (xs0 : List Int) (v1 : Value) (xs1 : List Int) (n2 : Int) (v3 : Value) (xs3 : List Int) (w : World) (hv0 : Ints w v0 xs0) (hm0 : xs0.length ≤ maxLen) (hv1 : Ints w v1 xs1) (hm1 : xs1.length ≤ maxLen) (wf2 : (Lit.int .i64 n2).wf = true) (hv3 : Ints w v3 xs3) (hm3 : xs3.length ≤ maxLen) :
    Calls Try.prog 6 #[.agg #[v0], v1, .int .i64 n2, v3] w fun e w' => e = .returned (.bool true) ∧ Below w.heap.size w w' := by
  by_cases hl1 : 1048576 < xs1.length
  · exact walkLen1 v0 xs0 v1 xs1 n2 v3 xs3 w hv0 hm0 hv1 hm1 wf2 hv3 hm3  hl1
  by_cases hl3 : 1048576 < xs3.length
  · exact walkLen3 v0 xs0 v1 xs1 n2 v3 xs3 w hv0 hm0 hv1 hm1 wf2 hv3 hm3 (by omega) hl3
  by_cases hq0 : (1048576 : Int) < xs0.length
  · exact walkBig0 v0 xs0 v1 xs1 n2 v3 xs3 w hv0 hm0 hv1 hm1 wf2 hv3 hm3 (by omega) (by omega)  (hid (szRes_neg hq0))
  exact walkSmall v0 xs0 v1 xs1 n2 v3 xs3 w hv0 hm0 hv1 hm1 wf2 hv3 hm3 (by omega) (by omega) (hid (szRes_pos hq0)) hq0 (by omega)
end Go.Proofs.Ytgepbekdgocnpaa.lawToggleNumbers
