/- FnExactDualOf: the law's walk (by genlaw.py). -/
import Derived.Test.YtgoghgkpmmgcgabDual
import Derived.Deep.DeepCutAuto
namespace Go.Proofs.Ytgoghgkpmmgcgab.lawDualOf
open Go.RowKit Go.WideShapes Go.ChangeShapes
set_option linter.unusedVariables false
set_option maxRecDepth 100000 in
set_option maxHeartbeats 8000000 in
theorem walkSmall (v0 : Value) (xs0 : List Int) (w : World) (hv0 : Ints w v0 xs0) (hm0 : xs0.length ≤ maxLen) (hl0 : xs0.length ≤ 1048576) (HS0 : Hid (szRes (1048576 : Int) xs0.length = (1048576 : Int) - xs0.length)) (hq0 : ¬ (1048576 : Int) < xs0.length) :
    Calls Try.prog 7 #[.agg #[v0]] w fun e w' => e = .returned (.bool true) ∧ Below w.heap.size w w' := by
  have HV0 := hid hv0
  clear hv0
  go_enter Try.func7, Try.ntmps7
  go_wp2_with fail
  refine (szPoset_any v0 xs0 _ _ (HV0.out.later (below_alloc (Below.refl _ w) _)) hm0 (by omega) (by omega)).mono ?_
  rw [HS0.out]
  rintro e w_1 ⟨rfl, hb2⟩
  have F3 := hid ((At.new w v0 24).below hb2)
  have G4 := hid (below_to (below_alloc (Below.refl _ w) _) hb2)
  have Z5 := hid (show w.heap.size + 1 ≤ w_1.heap.size by have := hb2.size; first | omega | (simp at this; omega))
  clear hb2
  have e6 := F3.out.1
  have e6z := F3.out.2
  go_wp2_with fail
  clear e6 e6z
  refine (toPoset_own v0 xs0 _ (HV0.out.later G4.out) hl0).mono ?_
  rintro e w_7 ⟨u8, rfl, ho10, hb9⟩
  have F11 := hid (F3.out.below hb9)
  have G12 := hid (below_to G4.out hb9)
  have Z13 := hid (show w_1.heap.size + 0 ≤ w_7.heap.size by have := hb9.size; first | omega | (simp at this; omega))
  have hn14 := ho10
  obtain ⟨u8A, u8n, u8c, rfl⟩ := hn14.shape3
  have U15 := hid (OwnI.blockLt hn14)
  have F16 := hid hn14
  clear F3 G4 hb9 ho10 hn14
  have e17 := F11.out.1
  have e17z := F11.out.2
  go_wp2_with fail
  clear e17 e17z
  refine (specDualOf_any (Value.slice u8A u8n u8c) xs0 _ F16.out.ints hl0).mono ?_
  rintro e w_18 ⟨u20, rfl, ho21, hl22, hb19⟩
  have F23 := hid (F11.out.below hb19)
  have F24 := hid (F16.out.below hb19)
  have G25 := hid (below_to G12.out hb19)
  have Z26 := hid (show w_7.heap.size + 0 ≤ w_18.heap.size by have := hb19.size; first | omega | (simp at this; omega))
  have hn27 := ho21
  have HL28 := hid hl22
  obtain ⟨u20A, u20n, u20c, rfl⟩ := hn27.shape3
  have U29 := hid (OwnI.blockLt hn27)
  have F30 := hid hn27
  clear F11 F16 G12 hb19 hn27 ho21 hl22
  have e31 := F23.out.1
  have e31z := F23.out.2
  go_wp2_with fail
  clear e31 e31z
  refine (toPoset_own v0 xs0 _ (HV0.out.later (below_alloc G25.out _)) hl0).mono ?_
  rintro e w_32 ⟨u33, rfl, ho35, hb34⟩
  have F36 := hid ((F23.out.alloc _).below hb34)
  have F37 := hid ((F24.out.alloc _).below hb34)
  have F38 := hid ((F30.out.alloc _).below hb34)
  have F39 := hid ((At.new w_18 (Value.slice u20A u20n u20c) 29).below hb34)
  have G40 := hid (below_to (below_alloc G25.out _) hb34)
  have Z41 := hid (show w_18.heap.size + 1 ≤ w_32.heap.size by have := hb34.size; first | omega | (simp at this; omega))
  have hn42 : OwnI 3 w_32 (w_18.heap.size + 1) u33 xs0 := by simpa using ho35
  obtain ⟨u33A, u33n, u33c, rfl⟩ := hn42.shape3
  have U43 := hid (OwnI.blockLt hn42)
  have F44 := hid hn42
  clear F23 F24 F30 G25 hb34 ho35 hn42
  have e45 := F36.out.1
  have e45z := F36.out.2
  have e46 := F39.out.1
  have e46z := F39.out.2
  go_wp2_with fail
  clear e45 e45z e46 e46z
  refine (implDualOf_any (Value.slice u33A u33n u33c) xs0 _ (F44.out.alloc _).ints hl0).mono ?_
  rintro e w_47 ⟨u49, rfl, ho50, hl51, hb48⟩
  have F52 := hid ((F36.out.alloc _).below hb48)
  have F53 := hid ((F37.out.alloc _).below hb48)
  have F54 := hid ((F38.out.alloc _).below hb48)
  have F55 := hid ((F39.out.alloc _).below hb48)
  have F56 := hid ((F44.out.alloc _).below hb48)
  have F57 := hid ((At.new w_32 (Value.slice u33A u33n u33c) 29).below hb48)
  have G58 := hid (below_to (below_alloc G40.out _) hb48)
  have Z59 := hid (show w_32.heap.size + 1 ≤ w_47.heap.size by have := hb48.size; first | omega | (simp at this; omega))
  have hn60 : OwnI 3 w_47 (w_32.heap.size + 1) u49 (dualL xs0) := by simpa using ho50
  have HL61 := hid hl51
  obtain ⟨u49A, u49n, u49c, rfl⟩ := hn60.shape3
  have U62 := hid (OwnI.blockLt hn60)
  have F63 := hid hn60
  clear F36 F37 F38 F39 F44 G40 hb48 hn60 ho50 hl51
  have e64 := F52.out.1
  have e64z := F52.out.2
  have e65 := F55.out.1
  have e65z := F55.out.2
  have e66 := F57.out.1
  have e66z := F57.out.2
  go_wp2_with fail
  clear e64 e64z e65 e65z e66 e66z
  refine (eqPoset_any _ _ ((dualL xs0)) _ (F63.out.alloc _).ints (F54.out.alloc _).ints HL61.out).mono ?_
  rintro e w_67 ⟨rfl, hb68⟩
  have F69 := hid ((F52.out.alloc _).below hb68)
  have F70 := hid ((F53.out.alloc _).below hb68)
  have F71 := hid ((F54.out.alloc _).below hb68)
  have F72 := hid ((F55.out.alloc _).below hb68)
  have F73 := hid ((F56.out.alloc _).below hb68)
  have F74 := hid ((F57.out.alloc _).below hb68)
  have F75 := hid ((F63.out.alloc _).below hb68)
  have F76 := hid ((At.new w_47 (Value.slice u49A u49n u49c) 29).below hb68)
  have G77 := hid (below_to (below_alloc G58.out _) hb68)
  have Z78 := hid (show w_47.heap.size + 1 ≤ w_67.heap.size by have := hb68.size; first | omega | (simp at this; omega))
  clear F52 F53 F54 F55 F56 F57 F63 G58 hb68
  have e79 := F69.out.1
  have e79z := F69.out.2
  have e80 := F72.out.1
  have e80z := F72.out.2
  have e81 := F74.out.1
  have e81z := F74.out.2
  have e82 := F76.out.1
  have e82z := F76.out.2
  go_upto_region 10 with fail
  go_cut [45] (fun s wx => s = .bool false ∧ At wx (w.heap.size) (v0) ∧ OwnI 3 wx (w_1.heap.size) (Value.slice u8A u8n u8c) xs0 ∧ OwnI 3 wx (w_7.heap.size) (Value.slice u20A u20n u20c) (dualL xs0) ∧ At wx (w_18.heap.size) ((Value.slice u20A u20n u20c)) ∧ OwnI 3 wx (w_18.heap.size + 1) (Value.slice u33A u33n u33c) xs0 ∧ At wx (w_32.heap.size) ((Value.slice u33A u33n u33c)) ∧ OwnI 3 wx (w_32.heap.size + 1) (Value.slice u49A u49n u49c) (dualL xs0) ∧ At wx (w_47.heap.size) ((Value.slice u49A u49n u49c)) ∧ w_67.heap.size ≤ wx.heap.size ∧ Below w.heap.size w wx)
  case first =>
    go_region_with (first | (go_at_call 14; refine (toPoset_own v0 xs0 _ (((HV0.out.later G77.out)).drew) hl0).mono ?_; rintro e w_83 ⟨u84, rfl, ho3, hb85⟩; have K0 := hid (F69.out.drew.below hb85); have K1 := hid (F70.out.drew.below hb85); have K2 := hid (F71.out.drew.below hb85); have K3 := hid (F72.out.drew.below hb85); have K4 := hid (F73.out.drew.below hb85); have K5 := hid (F74.out.drew.below hb85); have K6 := hid (F75.out.drew.below hb85); have K7 := hid (F76.out.drew.below hb85); have KZ := hid (show w_67.heap.size ≤ w_83.heap.size by have := hb85.size; simpa using this); have KB := hid (below_to G77.out.drew hb85); have KO := hid ho3; have hx6 := K5.out.1; clear ho3 hb85) | (go_at_call 17; refine (eqPoset_any _ _ (xs0) _ K4.out.ints KO.out.ints hl0).mono ?_; rintro e w_86 ⟨rfl, hb87⟩; have M0 := hid (K0.out.below hb87); have M1 := hid (K1.out.below hb87); have M2 := hid (K2.out.below hb87); have M3 := hid (K3.out.below hb87); have M4 := hid (K4.out.below hb87); have M5 := hid (K5.out.below hb87); have M6 := hid (K6.out.below hb87); have M7 := hid (K7.out.below hb87); have MZ := hid (show w_67.heap.size ≤ w_86.heap.size by have := hb87.size; have := KZ.out; omega); have MB := hid (below_to KB.out hb87); clear hb87))
    all_goals (go_wp2_with fail; go_meet; exact ⟨rfl, M0.out, M1.out, M2.out, M3.out, M4.out, M5.out, M6.out, M7.out, MZ.out, MB.out⟩)
  case rest =>
    clear e79 e79z e80 e80z e81 e81z e82 e82z
    obtain ⟨rfl, c0, c1, c2, c3, c4, c5, c6, c7, hzc, hbc⟩ := hcut
    have F88 := hid c0
    have F89 := hid c1
    have F90 := hid c2
    have F91 := hid c3
    have F92 := hid c4
    have F93 := hid c5
    have F94 := hid c6
    have F95 := hid c7
    have Z96 := hid hzc
    have G97 := hid hbc
    clear c0 F69 c1 F70 c2 F71 c3 F72 c4 F73 c5 F74 c6 F75 c7 F76 hzc hbc G77
    have e98 := F88.out.1
    have e98z := F88.out.2
    have e99 := F91.out.1
    have e99z := F91.out.2
    have e100 := F93.out.1
    have e100z := F93.out.2
    have e101 := F95.out.1
    have e101z := F95.out.2
    go_wp2_with fail
    clear e98 e98z e99 e99z e100 e100z e101 e101z
    refine (markPoset_any _ (xs0) _ _ _ F92.out hl0 (by omega) (by first | omega | (have := hl0; omega))).mono ?_
    rintro e w_102 ⟨rfl, ho103, hg104⟩
    have qZ5 := Z5.out
    have qZ13 := Z13.out
    have qZ26 := Z26.out
    have qZ41 := Z41.out
    have qZ59 := Z59.out
    have qZ78 := Z78.out
    have qZ96 := Z96.out
    have F105 := hid (F88.out.grown hg104 (row_ne_box (U43.out) (by omega)))
    have F106 := hid (F89.out.grown hg104 (row_ne_row (U15.out) (U43.out) (by omega)))
    have F107 := hid (F90.out.grown hg104 (row_ne_row (U29.out) (U43.out) (by omega)))
    have F108 := hid (F91.out.grown hg104 (row_ne_box (U43.out) (by omega)))
    have F109 := hid (F93.out.grown hg104 (row_ne_box (U43.out) (by omega)))
    have F110 := hid (F94.out.grown hg104 (row_ne_row (U62.out) (U43.out) (by omega)))
    have F111 := hid (F95.out.grown hg104 (row_ne_box (U43.out) (by omega)))
    have G112 := hid (below_grown G97.out hg104 (fun k hk => by have := U43.out k hk; omega))
    have Z113 := hid (show wc.heap.size + 0 ≤ w_102.heap.size by have := hg104.size; first | omega | (simp at this; omega))
    clear qZ5 qZ13 qZ26 qZ41 qZ59 qZ78 qZ96
    have F114 := hid ho103
    clear F88 F89 F90 F91 F93 F94 F95 G97 F92 ho103 hg104
    have e115 := F105.out.1
    have e115z := F105.out.2
    have e116 := F108.out.1
    have e116z := F108.out.2
    have e117 := F109.out.1
    have e117z := F109.out.2
    have e118 := F111.out.1
    have e118z := F111.out.2
    go_wp2_with fail
    clear e115 e115z e116 e116z e117 e117z e118 e118z
    refine (eqPoset_any _ _ ((dualL xs0)) _ F110.out.ints F107.out.ints HL61.out).mono ?_
    rintro e w_119 ⟨rfl, hb120⟩
    have F121 := hid (F105.out.below hb120)
    have F122 := hid (F106.out.below hb120)
    have F123 := hid (F107.out.below hb120)
    have F124 := hid (F108.out.below hb120)
    have F125 := hid (F109.out.below hb120)
    have F126 := hid (F110.out.below hb120)
    have F127 := hid (F111.out.below hb120)
    have F128 := hid (F114.out.below hb120)
    have G129 := hid (below_to G112.out hb120)
    have Z130 := hid (show w_102.heap.size + 0 ≤ w_119.heap.size by have := hb120.size; first | omega | (simp at this; omega))
    clear F105 F106 F107 F108 F109 F110 F111 F114 G112 hb120
    have e131 := F121.out.1
    have e131z := F121.out.2
    have e132 := F124.out.1
    have e132z := F124.out.2
    have e133 := F125.out.1
    have e133z := F125.out.2
    have e134 := F127.out.1
    have e134z := F127.out.2
    go_wp2_with fail
    clear e131 e131z e132 e132z e133 e133z e134 e134z
    refine (markPoset_any _ ((dualL xs0)) _ _ _ F126.out HL61.out (by omega) (by first | omega | (have := HL61.out; omega))).mono ?_
    rintro e w_135 ⟨rfl, ho136, hg137⟩
    have qZ5 := Z5.out
    have qZ13 := Z13.out
    have qZ26 := Z26.out
    have qZ41 := Z41.out
    have qZ59 := Z59.out
    have qZ78 := Z78.out
    have qZ96 := Z96.out
    have qZ113 := Z113.out
    have qZ130 := Z130.out
    have F138 := hid (F121.out.grown hg137 (row_ne_box (U62.out) (by omega)))
    have F139 := hid (F122.out.grown hg137 (row_ne_row (U15.out) (U62.out) (by omega)))
    have F140 := hid (F123.out.grown hg137 (row_ne_row (U29.out) (U62.out) (by omega)))
    have F141 := hid (F124.out.grown hg137 (row_ne_box (U62.out) (by omega)))
    have F142 := hid (F125.out.grown hg137 (row_ne_box (U62.out) (by omega)))
    have F143 := hid (F127.out.grown hg137 (row_ne_box (U62.out) (by omega)))
    have F144 := hid (F128.out.grown hg137 (row_ne_row (U43.out) (U62.out) (by omega)))
    have G145 := hid (below_grown G129.out hg137 (fun k hk => by have := U62.out k hk; omega))
    have Z146 := hid (show w_119.heap.size + 0 ≤ w_135.heap.size by have := hg137.size; first | omega | (simp at this; omega))
    clear qZ5 qZ13 qZ26 qZ41 qZ59 qZ78 qZ96 qZ113 qZ130
    have F147 := hid ho136
    clear F121 F122 F123 F124 F125 F127 F128 G129 F126 ho136 hg137
    have e148 := F138.out.1
    have e148z := F138.out.2
    have e149 := F141.out.1
    have e149z := F141.out.2
    have e150 := F142.out.1
    have e150z := F142.out.2
    have e151 := F143.out.1
    have e151z := F143.out.2
    go_wp2_with fail
    clear e148 e148z e149 e149z e150 e150z e151 e151z
    refine (heldPoset_any _ _ _ _ F147.out.ints HL61.out (by omega) (by omega)).mono ?_
    rintro e w_152 ⟨rfl, hb153⟩
    have F154 := hid (F138.out.below hb153)
    have F155 := hid (F139.out.below hb153)
    have F156 := hid (F140.out.below hb153)
    have F157 := hid (F141.out.below hb153)
    have F158 := hid (F142.out.below hb153)
    have F159 := hid (F143.out.below hb153)
    have F160 := hid (F144.out.below hb153)
    have F161 := hid (F147.out.below hb153)
    have G162 := hid (below_to G145.out hb153)
    have Z163 := hid (show w_135.heap.size + 0 ≤ w_152.heap.size by have := hb153.size; first | omega | (simp at this; omega))
    clear F138 F139 F140 F141 F142 F143 F144 F147 G145 hb153
    have e164 := F154.out.1
    have e164z := F154.out.2
    have e165 := F157.out.1
    have e165z := F157.out.2
    have e166 := F158.out.1
    have e166z := F158.out.2
    have e167 := F159.out.1
    have e167z := F159.out.2
    go_wp2_with fail
    clear e164 e164z e165 e165z e166 e166z e167 e167z
    refine (toPoset_own v0 xs0 _ (HV0.out.later G162.out) hl0).mono ?_
    rintro e w_168 ⟨u169, rfl, ho171, hb170⟩
    have F172 := hid (F154.out.below hb170)
    have F173 := hid (F155.out.below hb170)
    have F174 := hid (F156.out.below hb170)
    have F175 := hid (F157.out.below hb170)
    have F176 := hid (F158.out.below hb170)
    have F177 := hid (F159.out.below hb170)
    have F178 := hid (F160.out.below hb170)
    have F179 := hid (F161.out.below hb170)
    have G180 := hid (below_to G162.out hb170)
    have Z181 := hid (show w_152.heap.size + 0 ≤ w_168.heap.size by have := hb170.size; first | omega | (simp at this; omega))
    have hn182 := ho171
    obtain ⟨u169A, u169n, u169c, rfl⟩ := hn182.shape3
    have U183 := hid (OwnI.blockLt hn182)
    have F184 := hid hn182
    clear F154 F155 F156 F157 F158 F159 F160 F161 G162 hb170 ho171 hn182
    have e185 := F172.out.1
    have e185z := F172.out.2
    have e186 := F175.out.1
    have e186z := F175.out.2
    have e187 := F176.out.1
    have e187z := F176.out.2
    have e188 := F177.out.1
    have e188z := F177.out.2
    go_wp2_with fail
    clear e185 e185z e186 e186z e187 e187z e188 e188z
    refine (implDualOf_any (Value.slice u169A u169n u169c) xs0 _ F184.out.ints hl0).mono ?_
    rintro e w_189 ⟨u191, rfl, ho192, hl193, hb190⟩
    have F194 := hid (F172.out.below hb190)
    have F195 := hid (F173.out.below hb190)
    have F196 := hid (F174.out.below hb190)
    have F197 := hid (F175.out.below hb190)
    have F198 := hid (F176.out.below hb190)
    have F199 := hid (F177.out.below hb190)
    have F200 := hid (F178.out.below hb190)
    have F201 := hid (F179.out.below hb190)
    have F202 := hid (F184.out.below hb190)
    have G203 := hid (below_to G180.out hb190)
    have Z204 := hid (show w_168.heap.size + 0 ≤ w_189.heap.size by have := hb190.size; first | omega | (simp at this; omega))
    have hn205 := ho192
    have HL206 := hid hl193
    obtain ⟨u191A, u191n, u191c, rfl⟩ := hn205.shape3
    have U207 := hid (OwnI.blockLt hn205)
    have F208 := hid hn205
    clear F172 F173 F174 F175 F176 F177 F178 F179 F184 G180 hb190 hn205 ho192 hl193
    have e209 := F194.out.1
    have e209z := F194.out.2
    have e210 := F197.out.1
    have e210z := F197.out.2
    have e211 := F198.out.1
    have e211z := F198.out.2
    have e212 := F199.out.1
    have e212z := F199.out.2
    go_wp2_with fail
    clear e209 e209z e210 e210z e211 e211z e212 e212z
    refine (eqPoset_any _ _ ((dualL xs0)) _ (F208.out.alloc _).ints (F196.out.alloc _).ints HL206.out).mono ?_
    rintro e w_213 ⟨rfl, hb214⟩
    have F215 := hid ((F194.out.alloc _).below hb214)
    have F216 := hid ((F195.out.alloc _).below hb214)
    have F217 := hid ((F196.out.alloc _).below hb214)
    have F218 := hid ((F197.out.alloc _).below hb214)
    have F219 := hid ((F198.out.alloc _).below hb214)
    have F220 := hid ((F199.out.alloc _).below hb214)
    have F221 := hid ((F200.out.alloc _).below hb214)
    have F222 := hid ((F201.out.alloc _).below hb214)
    have F223 := hid ((F202.out.alloc _).below hb214)
    have F224 := hid ((F208.out.alloc _).below hb214)
    have F225 := hid ((At.new w_189 (Value.slice u191A u191n u191c) 29).below hb214)
    have G226 := hid (below_to (below_alloc G203.out _) hb214)
    have Z227 := hid (show w_189.heap.size + 1 ≤ w_213.heap.size by have := hb214.size; first | omega | (simp at this; omega))
    clear F194 F195 F196 F197 F198 F199 F200 F201 F202 F208 G203 hb214
    have e228 := F215.out.1
    have e228z := F215.out.2
    have e229 := F218.out.1
    have e229z := F218.out.2
    have e230 := F219.out.1
    have e230z := F219.out.2
    have e231 := F220.out.1
    have e231z := F220.out.2
    have e232 := F225.out.1
    have e232z := F225.out.2
    go_wp2_with fail
    clear e228 e228z e229 e229z e230 e230z e231 e231z e232 e232z
    refine (heldPoset_any _ _ _ _ F222.out.ints HL61.out (by omega) (by omega)).mono ?_
    rintro e w_233 ⟨rfl, hb234⟩
    have F235 := hid (F215.out.below hb234)
    have F236 := hid (F216.out.below hb234)
    have F237 := hid (F217.out.below hb234)
    have F238 := hid (F218.out.below hb234)
    have F239 := hid (F219.out.below hb234)
    have F240 := hid (F220.out.below hb234)
    have F241 := hid (F221.out.below hb234)
    have F242 := hid (F222.out.below hb234)
    have F243 := hid (F223.out.below hb234)
    have F244 := hid (F224.out.below hb234)
    have F245 := hid (F225.out.below hb234)
    have G246 := hid (below_to G226.out hb234)
    have Z247 := hid (show w_213.heap.size + 0 ≤ w_233.heap.size by have := hb234.size; first | omega | (simp at this; omega))
    clear F215 F216 F217 F218 F219 F220 F221 F222 F223 F224 F225 G226 hb234
    have e248 := F235.out.1
    have e248z := F235.out.2
    have e249 := F238.out.1
    have e249z := F238.out.2
    have e250 := F239.out.1
    have e250z := F239.out.2
    have e251 := F240.out.1
    have e251z := F240.out.2
    have e252 := F245.out.1
    have e252z := F245.out.2
    go_wp2
    go_ret
    exact ⟨rfl, G246.out⟩
set_option maxHeartbeats 1000000 in
theorem walk (v0 : Value) (xs0 : List Int) (w : World) (hv0 : Ints w v0 xs0) (hm0 : xs0.length ≤ maxLen) :
    Calls Try.prog 7 #[.agg #[v0]] w fun e w' => e = .returned (.bool true) ∧ Below w.heap.size w w' := by
  by_cases hbig : 1048576 < xs0.length
  · have Hs := hid (szRes_neg (show (1048576 : Int) < xs0.length by omega))
    have HV := hid hv0
    clear hv0
    go_enter Try.func7, Try.ntmps7
    go_wp2_with (go_at_call 12; refine (szPoset_any v0 xs0 _ _ (HV.out.alloc _) hm0 (by omega) (by omega)).mono ?_; rw [Hs.out]; rintro e w1 ⟨rfl, hb1⟩)
    go_ret
    exact ⟨rfl, ((Below.refl _ _).alloc (Nat.le_refl _) _).trans (hb1.mono (by simp))⟩
  · exact walkSmall v0 xs0 w hv0 hm0 (by omega) (hid (szRes_pos (show ¬ (1048576 : Int) < xs0.length by omega))) (by omega)
end Go.Proofs.Ytgoghgkpmmgcgab.lawDualOf
