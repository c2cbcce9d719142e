/- FnExactHeightsOf: the law's walk (by genlaw.py). -/
import Derived.Test.YtgoghgkpmmgcgabHeights
import Derived.Deep.DeepCutAuto
namespace Go.Proofs.Ytgoghgkpmmgcgab.lawHeightsOf
open Go.RowKit Go.WideShapes Go.ChangeShapes
set_option linter.unusedVariables false
set_option maxRecDepth 100000 in
set_option maxHeartbeats 8000000 in
theorem walkSmall (v0 : Value) (xs0 : List Int) (w : World) (hv0 : Ints w v0 xs0) (hm0 : xs0.length ≤ maxLen) (hl0 : xs0.length ≤ 1048576) (HS0 : Hid (szRes (1048576 : Int) xs0.length = (1048576 : Int) - xs0.length)) (hq0 : ¬ (1048576 : Int) < xs0.length) :
    Calls Try.prog 5 #[.agg #[v0]] w fun e w' => e = .returned (.bool true) ∧ Below w.heap.size w w' := by
  have HV0 := hid hv0
  clear hv0
  go_enter Try.func5, Try.ntmps5
  go_wp2_with fail
  refine (szPoset_any v0 xs0 _ _ (HV0.out.later (below_alloc (Below.refl _ w) _)) hm0 (by omega) (by omega)).mono ?_
  rw [HS0.out]
  rintro e w_1 ⟨rfl, hb2⟩
  have F3 := hid ((At.new w v0 24).below hb2)
  have G4 := hid (below_to (below_alloc (Below.refl _ w) _) hb2)
  have Z5 := hid (show w.heap.size + 1 ≤ w_1.heap.size by have := hb2.size; first | omega | (simp at this; omega))
  clear hb2
  have e6 := F3.out.1
  have e6z := F3.out.2
  go_wp2_with fail
  clear e6 e6z
  refine (toPoset_own v0 xs0 _ (HV0.out.later G4.out) hl0).mono ?_
  rintro e w_7 ⟨u8, rfl, ho10, hb9⟩
  have F11 := hid (F3.out.below hb9)
  have G12 := hid (below_to G4.out hb9)
  have Z13 := hid (show w_1.heap.size + 0 ≤ w_7.heap.size by have := hb9.size; first | omega | (simp at this; omega))
  have hn14 := ho10
  obtain ⟨u8A, u8n, u8c, rfl⟩ := hn14.shape3
  have U15 := hid (OwnI.blockLt hn14)
  have F16 := hid hn14
  clear F3 G4 hb9 ho10 hn14
  have e17 := F11.out.1
  have e17z := F11.out.2
  go_wp2_with fail
  clear e17 e17z
  refine (specHeightsOf_any (Value.slice u8A u8n u8c) xs0 _ F16.out.ints hl0).mono ?_
  rintro e w_18 ⟨u20, rfl, ho21, hl22, hb19⟩
  have F23 := hid (F11.out.below hb19)
  have F24 := hid (F16.out.below hb19)
  have G25 := hid (below_to G12.out hb19)
  have Z26 := hid (show w_7.heap.size + 0 ≤ w_18.heap.size by have := hb19.size; first | omega | (simp at this; omega))
  have hn27 := ho21
  have HL28 := hid hl22
  obtain ⟨u20A, u20n, u20c, rfl⟩ := hn27.shape3
  have U29 := hid (OwnI.blockLt hn27)
  have F30 := hid hn27
  clear F11 F16 G12 hb19 hn27 ho21 hl22
  have e31 := F23.out.1
  have e31z := F23.out.2
  go_wp2_with fail
  clear e31 e31z
  refine (toPoset_own v0 xs0 _ (HV0.out.later G25.out) hl0).mono ?_
  rintro e w_32 ⟨u33, rfl, ho35, hb34⟩
  have F36 := hid (F23.out.below hb34)
  have F37 := hid (F24.out.below hb34)
  have F38 := hid (F30.out.below hb34)
  have G39 := hid (below_to G25.out hb34)
  have Z40 := hid (show w_18.heap.size + 0 ≤ w_32.heap.size by have := hb34.size; first | omega | (simp at this; omega))
  have hn41 := ho35
  obtain ⟨u33A, u33n, u33c, rfl⟩ := hn41.shape3
  have U42 := hid (OwnI.blockLt hn41)
  have F43 := hid hn41
  clear F23 F24 F30 G25 hb34 ho35 hn41
  have e44 := F36.out.1
  have e44z := F36.out.2
  go_wp2_with fail
  clear e44 e44z
  refine (implHeightsOf_any (Value.slice u33A u33n u33c) xs0 _ (F43.out.alloc _).ints hl0).mono ?_
  rintro e w_45 ⟨u47, rfl, ho48, hl49, hb46⟩
  have F50 := hid ((F36.out.alloc _).below hb46)
  have F51 := hid ((F37.out.alloc _).below hb46)
  have F52 := hid ((F38.out.alloc _).below hb46)
  have F53 := hid ((F43.out.alloc _).below hb46)
  have F54 := hid ((At.new w_32 (Value.slice u33A u33n u33c) 29).below hb46)
  have G55 := hid (below_to (below_alloc G39.out _) hb46)
  have Z56 := hid (show w_32.heap.size + 1 ≤ w_45.heap.size by have := hb46.size; first | omega | (simp at this; omega))
  have hn57 : OwnI 3 w_45 (w_32.heap.size + 1) u47 (heightsL xs0) := by simpa using ho48
  have HL58 := hid hl49
  obtain ⟨u47A, u47n, u47c, rfl⟩ := hn57.shape3
  have U59 := hid (OwnI.blockLt hn57)
  have F60 := hid hn57
  clear F36 F37 F38 F43 G39 hb46 hn57 ho48 hl49
  have e61 := F50.out.1
  have e61z := F50.out.2
  have e62 := F54.out.1
  have e62z := F54.out.2
  go_wp2_with fail
  clear e61 e61z e62 e62z
  refine (eqIntS_any _ _ ((heightsL xs0)) _ F60.out.ints F52.out.ints HL58.out).mono ?_
  rintro e w_63 ⟨rfl, hb64⟩
  have F65 := hid (F50.out.below hb64)
  have F66 := hid (F51.out.below hb64)
  have F67 := hid (F52.out.below hb64)
  have F68 := hid (F53.out.below hb64)
  have F69 := hid (F54.out.below hb64)
  have F70 := hid (F60.out.below hb64)
  have G71 := hid (below_to G55.out hb64)
  have Z72 := hid (show w_45.heap.size + 0 ≤ w_63.heap.size by have := hb64.size; first | omega | (simp at this; omega))
  clear F50 F51 F52 F53 F54 F60 G55 hb64
  have e73 := F65.out.1
  have e73z := F65.out.2
  have e74 := F69.out.1
  have e74z := F69.out.2
  go_upto_region 10 with fail
  go_cut [45] (fun s wx => s = .bool false ∧ At wx (w.heap.size) (v0) ∧ OwnI 3 wx (w_1.heap.size) (Value.slice u8A u8n u8c) xs0 ∧ OwnI 3 wx (w_7.heap.size) (Value.slice u20A u20n u20c) (heightsL xs0) ∧ OwnI 3 wx (w_18.heap.size) (Value.slice u33A u33n u33c) xs0 ∧ At wx (w_32.heap.size) ((Value.slice u33A u33n u33c)) ∧ OwnI 3 wx (w_32.heap.size + 1) (Value.slice u47A u47n u47c) (heightsL xs0) ∧ w_63.heap.size ≤ wx.heap.size ∧ Below w.heap.size w wx)
  case first =>
    go_region_with (first | (go_at_call 14; refine (toPoset_own v0 xs0 _ (((HV0.out.later G71.out)).drew) hl0).mono ?_; rintro e w_75 ⟨u76, rfl, ho3, hb77⟩; have K0 := hid (F65.out.drew.below hb77); have K1 := hid (F66.out.drew.below hb77); have K2 := hid (F67.out.drew.below hb77); have K3 := hid (F68.out.drew.below hb77); have K4 := hid (F69.out.drew.below hb77); have K5 := hid (F70.out.drew.below hb77); have KZ := hid (show w_63.heap.size ≤ w_75.heap.size by have := hb77.size; simpa using this); have KB := hid (below_to G71.out.drew hb77); have KO := hid ho3; have hx6 := K4.out.1; clear ho3 hb77) | (go_at_call 17; refine (eqPoset_any _ _ (xs0) _ K3.out.ints KO.out.ints hl0).mono ?_; rintro e w_78 ⟨rfl, hb79⟩; have M0 := hid (K0.out.below hb79); have M1 := hid (K1.out.below hb79); have M2 := hid (K2.out.below hb79); have M3 := hid (K3.out.below hb79); have M4 := hid (K4.out.below hb79); have M5 := hid (K5.out.below hb79); have MZ := hid (show w_63.heap.size ≤ w_78.heap.size by have := hb79.size; have := KZ.out; omega); have MB := hid (below_to KB.out hb79); clear hb79))
    all_goals (go_wp2_with fail; go_meet; exact ⟨rfl, M0.out, M1.out, M2.out, M3.out, M4.out, M5.out, MZ.out, MB.out⟩)
  case rest =>
    clear e73 e73z e74 e74z
    obtain ⟨rfl, c0, c1, c2, c3, c4, c5, hzc, hbc⟩ := hcut
    have F80 := hid c0
    have F81 := hid c1
    have F82 := hid c2
    have F83 := hid c3
    have F84 := hid c4
    have F85 := hid c5
    have Z86 := hid hzc
    have G87 := hid hbc
    clear c0 F65 c1 F66 c2 F67 c3 F68 c4 F69 c5 F70 hzc hbc G71
    have e88 := F80.out.1
    have e88z := F80.out.2
    have e89 := F84.out.1
    have e89z := F84.out.2
    go_wp2_with fail
    clear e88 e88z e89 e89z
    refine (markPoset_any _ (xs0) _ _ _ F83.out hl0 (by omega) (by first | omega | (have := hl0; omega))).mono ?_
    rintro e w_90 ⟨rfl, ho91, hg92⟩
    have qZ5 := Z5.out
    have qZ13 := Z13.out
    have qZ26 := Z26.out
    have qZ40 := Z40.out
    have qZ56 := Z56.out
    have qZ72 := Z72.out
    have qZ86 := Z86.out
    have F93 := hid (F80.out.grown hg92 (row_ne_box (U42.out) (by omega)))
    have F94 := hid (F81.out.grown hg92 (row_ne_row (U15.out) (U42.out) (by omega)))
    have F95 := hid (F82.out.grown hg92 (row_ne_row (U29.out) (U42.out) (by omega)))
    have F96 := hid (F84.out.grown hg92 (row_ne_box (U42.out) (by omega)))
    have F97 := hid (F85.out.grown hg92 (row_ne_row (U59.out) (U42.out) (by omega)))
    have G98 := hid (below_grown G87.out hg92 (fun k hk => by have := U42.out k hk; omega))
    have Z99 := hid (show wc.heap.size + 0 ≤ w_90.heap.size by have := hg92.size; first | omega | (simp at this; omega))
    clear qZ5 qZ13 qZ26 qZ40 qZ56 qZ72 qZ86
    have F100 := hid ho91
    clear F80 F81 F82 F84 F85 G87 F83 ho91 hg92
    have e101 := F93.out.1
    have e101z := F93.out.2
    have e102 := F96.out.1
    have e102z := F96.out.2
    go_wp2_with fail
    clear e101 e101z e102 e102z
    refine (eqIntS_any _ _ ((heightsL xs0)) _ F97.out.ints F95.out.ints HL58.out).mono ?_
    rintro e w_103 ⟨rfl, hb104⟩
    have F105 := hid (F93.out.below hb104)
    have F106 := hid (F94.out.below hb104)
    have F107 := hid (F95.out.below hb104)
    have F108 := hid (F96.out.below hb104)
    have F109 := hid (F97.out.below hb104)
    have F110 := hid (F100.out.below hb104)
    have G111 := hid (below_to G98.out hb104)
    have Z112 := hid (show w_90.heap.size + 0 ≤ w_103.heap.size by have := hb104.size; first | omega | (simp at this; omega))
    clear F93 F94 F95 F96 F97 F100 G98 hb104
    have e113 := F105.out.1
    have e113z := F105.out.2
    have e114 := F108.out.1
    have e114z := F108.out.2
    go_wp2_with fail
    clear e113 e113z e114 e114z
    refine (markIntS_any _ ((heightsL xs0)) _ _ _ F109.out HL58.out (by omega) (by first | omega | (have := HL58.out; omega))).mono ?_
    rintro e w_115 ⟨rfl, ho116, hg117⟩
    have qZ5 := Z5.out
    have qZ13 := Z13.out
    have qZ26 := Z26.out
    have qZ40 := Z40.out
    have qZ56 := Z56.out
    have qZ72 := Z72.out
    have qZ86 := Z86.out
    have qZ99 := Z99.out
    have qZ112 := Z112.out
    have F118 := hid (F105.out.grown hg117 (row_ne_box (U59.out) (by omega)))
    have F119 := hid (F106.out.grown hg117 (row_ne_row (U15.out) (U59.out) (by omega)))
    have F120 := hid (F107.out.grown hg117 (row_ne_row (U29.out) (U59.out) (by omega)))
    have F121 := hid (F108.out.grown hg117 (row_ne_box (U59.out) (by omega)))
    have F122 := hid (F110.out.grown hg117 (row_ne_row (U42.out) (U59.out) (by omega)))
    have G123 := hid (below_grown G111.out hg117 (fun k hk => by have := U59.out k hk; omega))
    have Z124 := hid (show w_103.heap.size + 0 ≤ w_115.heap.size by have := hg117.size; first | omega | (simp at this; omega))
    clear qZ5 qZ13 qZ26 qZ40 qZ56 qZ72 qZ86 qZ99 qZ112
    have F125 := hid ho116
    clear F105 F106 F107 F108 F110 G111 F109 ho116 hg117
    have e126 := F118.out.1
    have e126z := F118.out.2
    have e127 := F121.out.1
    have e127z := F121.out.2
    go_wp2_with fail
    clear e126 e126z e127 e127z
    refine (heldIntS_any _ _ _ _ F125.out.ints HL58.out (by omega) (by omega)).mono ?_
    rintro e w_128 ⟨rfl, hb129⟩
    have F130 := hid (F118.out.below hb129)
    have F131 := hid (F119.out.below hb129)
    have F132 := hid (F120.out.below hb129)
    have F133 := hid (F121.out.below hb129)
    have F134 := hid (F122.out.below hb129)
    have F135 := hid (F125.out.below hb129)
    have G136 := hid (below_to G123.out hb129)
    have Z137 := hid (show w_115.heap.size + 0 ≤ w_128.heap.size by have := hb129.size; first | omega | (simp at this; omega))
    clear F118 F119 F120 F121 F122 F125 G123 hb129
    have e138 := F130.out.1
    have e138z := F130.out.2
    have e139 := F133.out.1
    have e139z := F133.out.2
    go_wp2_with fail
    clear e138 e138z e139 e139z
    refine (toPoset_own v0 xs0 _ (HV0.out.later G136.out) hl0).mono ?_
    rintro e w_140 ⟨u141, rfl, ho143, hb142⟩
    have F144 := hid (F130.out.below hb142)
    have F145 := hid (F131.out.below hb142)
    have F146 := hid (F132.out.below hb142)
    have F147 := hid (F133.out.below hb142)
    have F148 := hid (F134.out.below hb142)
    have F149 := hid (F135.out.below hb142)
    have G150 := hid (below_to G136.out hb142)
    have Z151 := hid (show w_128.heap.size + 0 ≤ w_140.heap.size by have := hb142.size; first | omega | (simp at this; omega))
    have hn152 := ho143
    obtain ⟨u141A, u141n, u141c, rfl⟩ := hn152.shape3
    have U153 := hid (OwnI.blockLt hn152)
    have F154 := hid hn152
    clear F130 F131 F132 F133 F134 F135 G136 hb142 ho143 hn152
    have e155 := F144.out.1
    have e155z := F144.out.2
    have e156 := F147.out.1
    have e156z := F147.out.2
    go_wp2_with fail
    clear e155 e155z e156 e156z
    refine (implHeightsOf_any (Value.slice u141A u141n u141c) xs0 _ F154.out.ints hl0).mono ?_
    rintro e w_157 ⟨u159, rfl, ho160, hl161, hb158⟩
    have F162 := hid (F144.out.below hb158)
    have F163 := hid (F145.out.below hb158)
    have F164 := hid (F146.out.below hb158)
    have F165 := hid (F147.out.below hb158)
    have F166 := hid (F148.out.below hb158)
    have F167 := hid (F149.out.below hb158)
    have F168 := hid (F154.out.below hb158)
    have G169 := hid (below_to G150.out hb158)
    have Z170 := hid (show w_140.heap.size + 0 ≤ w_157.heap.size by have := hb158.size; first | omega | (simp at this; omega))
    have hn171 := ho160
    have HL172 := hid hl161
    obtain ⟨u159A, u159n, u159c, rfl⟩ := hn171.shape3
    have U173 := hid (OwnI.blockLt hn171)
    have F174 := hid hn171
    clear F144 F145 F146 F147 F148 F149 F154 G150 hb158 hn171 ho160 hl161
    have e175 := F162.out.1
    have e175z := F162.out.2
    have e176 := F165.out.1
    have e176z := F165.out.2
    go_wp2_with fail
    clear e175 e175z e176 e176z
    refine (eqIntS_any _ _ ((heightsL xs0)) _ F174.out.ints F164.out.ints HL172.out).mono ?_
    rintro e w_177 ⟨rfl, hb178⟩
    have F179 := hid (F162.out.below hb178)
    have F180 := hid (F163.out.below hb178)
    have F181 := hid (F164.out.below hb178)
    have F182 := hid (F165.out.below hb178)
    have F183 := hid (F166.out.below hb178)
    have F184 := hid (F167.out.below hb178)
    have F185 := hid (F168.out.below hb178)
    have F186 := hid (F174.out.below hb178)
    have G187 := hid (below_to G169.out hb178)
    have Z188 := hid (show w_157.heap.size + 0 ≤ w_177.heap.size by have := hb178.size; first | omega | (simp at this; omega))
    clear F162 F163 F164 F165 F166 F167 F168 F174 G169 hb178
    have e189 := F179.out.1
    have e189z := F179.out.2
    have e190 := F182.out.1
    have e190z := F182.out.2
    go_wp2_with fail
    clear e189 e189z e190 e190z
    refine (heldIntS_any _ _ _ _ F184.out.ints HL58.out (by omega) (by omega)).mono ?_
    rintro e w_191 ⟨rfl, hb192⟩
    have F193 := hid (F179.out.below hb192)
    have F194 := hid (F180.out.below hb192)
    have F195 := hid (F181.out.below hb192)
    have F196 := hid (F182.out.below hb192)
    have F197 := hid (F183.out.below hb192)
    have F198 := hid (F184.out.below hb192)
    have F199 := hid (F185.out.below hb192)
    have F200 := hid (F186.out.below hb192)
    have G201 := hid (below_to G187.out hb192)
    have Z202 := hid (show w_177.heap.size + 0 ≤ w_191.heap.size by have := hb192.size; first | omega | (simp at this; omega))
    clear F179 F180 F181 F182 F183 F184 F185 F186 G187 hb192
    have e203 := F193.out.1
    have e203z := F193.out.2
    have e204 := F196.out.1
    have e204z := F196.out.2
    go_wp2
    go_ret
    exact ⟨rfl, G201.out⟩
set_option maxHeartbeats 1000000 in
theorem walk (v0 : Value) (xs0 : List Int) (w : World) (hv0 : Ints w v0 xs0) (hm0 : xs0.length ≤ maxLen) :
    Calls Try.prog 5 #[.agg #[v0]] w fun e w' => e = .returned (.bool true) ∧ Below w.heap.size w w' := by
  by_cases hbig : 1048576 < xs0.length
  · have Hs := hid (szRes_neg (show (1048576 : Int) < xs0.length by omega))
    have HV := hid hv0
    clear hv0
    go_enter Try.func5, Try.ntmps5
    go_wp2_with (go_at_call 12; refine (szPoset_any v0 xs0 _ _ (HV.out.alloc _) hm0 (by omega) (by omega)).mono ?_; rw [Hs.out]; rintro e w1 ⟨rfl, hb1⟩)
    go_ret
    exact ⟨rfl, ((Below.refl _ _).alloc (Nat.le_refl _) _).trans (hb1.mono (by simp))⟩
  · exact walkSmall v0 xs0 w hv0 hm0 (by omega) (hid (szRes_pos (show ¬ (1048576 : Int) < xs0.length by omega))) (by omega)
end Go.Proofs.Ytgoghgkpmmgcgab.lawHeightsOf
