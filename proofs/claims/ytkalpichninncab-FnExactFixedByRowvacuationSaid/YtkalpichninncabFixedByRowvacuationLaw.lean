/- FnExactFixedByRowvacuation: the law's walk (by genlaw.py). -/
import Derived.Test.YtkalpichninncabRvX
import Derived.Deep.DeepCutAuto
namespace Go.Proofs.Ytkalpichninncab.lawFixedByRowvacuation
open Go.RowKit Go.WideShapes Go.ChangeShapes
set_option linter.unusedVariables false
set_option maxRecDepth 100000 in
set_option maxHeartbeats 1000000 in
theorem walkBig0 (v0 : Value) (xs0 : List Int) (w : World) (hv0 : Ints w v0 xs0) (hm0 : xs0.length ≤ maxLen) (HS0 : Hid (szRes (1048576 : Int) xs0.length = -1)) :
    Calls Try.prog 4 #[.agg #[v0]] w fun e w' => e = .returned (.bool true) ∧ Below w.heap.size w w' := by
  have HV0 := hid hv0
  clear hv0
  go_enter Try.func4, Try.ntmps4
  go_wp2_with fail
  refine (szPoset_any v0 xs0 _ _ (HV0.out.later (below_alloc (Below.refl _ w) _)) hm0 (by omega) (by omega)).mono ?_
  rw [HS0.out]
  rintro e w_1 ⟨rfl, hb2⟩
  have F3 := hid ((At.new w v0 24).below hb2)
  have G4 := hid (below_to (below_alloc (Below.refl _ w) _) hb2)
  have Z5 := hid (show w.heap.size + 1 ≤ w_1.heap.size by have := hb2.size; first | omega | (simp at this; omega))
  clear hb2
  go_wp2
  go_ret
  exact ⟨rfl, G4.out⟩
set_option maxRecDepth 100000 in
set_option maxHeartbeats 8000000 in
theorem walkSmall (v0 : Value) (xs0 : List Int) (w : World) (hv0 : Ints w v0 xs0) (hm0 : xs0.length ≤ maxLen) (HS0 : Hid (szRes (1048576 : Int) xs0.length = (1048576 : Int) - xs0.length)) (hq0 : ¬ (1048576 : Int) < xs0.length) (hl0 : xs0.length ≤ 1048576) :
    Calls Try.prog 4 #[.agg #[v0]] w fun e w' => e = .returned (.bool true) ∧ Below w.heap.size w w' := by
  have HV0 := hid hv0
  clear hv0
  go_enter Try.func4, Try.ntmps4
  go_wp2_with fail
  refine (szPoset_any v0 xs0 _ _ (HV0.out.later (below_alloc (Below.refl _ w) _)) hm0 (by omega) (by omega)).mono ?_
  rw [HS0.out]
  rintro e w_6 ⟨rfl, hb7⟩
  have F8 := hid ((At.new w v0 24).below hb7)
  have G9 := hid (below_to (below_alloc (Below.refl _ w) _) hb7)
  have Z10 := hid (show w.heap.size + 1 ≤ w_6.heap.size by have := hb7.size; first | omega | (simp at this; omega))
  clear hb7
  have e11 := F8.out.1
  have e11z := F8.out.2
  go_wp2_with fail
  clear e11 e11z
  refine (toPoset_own v0 xs0 _ (HV0.out.later G9.out) hl0).mono ?_
  rintro e w_12 ⟨u13, rfl, ho15, hb14⟩
  have F16 := hid (F8.out.below hb14)
  have G17 := hid (below_to G9.out hb14)
  have Z18 := hid (show w_6.heap.size + 0 ≤ w_12.heap.size by have := hb14.size; first | omega | (simp at this; omega))
  have hn19 := ho15
  obtain ⟨u13A, u13n, u13c, rfl⟩ := hn19.shape3
  have U20 := hid (OwnI.blockLt hn19)
  have F21 := hid hn19
  clear F8 G9 hb14 ho15 hn19
  have e22 := F16.out.1
  have e22z := F16.out.2
  go_wp2_with fail
  clear e22 e22z
  refine (specFixedByRowvacuation_any (Value.slice u13A u13n u13c) xs0 _ F21.out.ints hl0).mono ?_
  rintro e w_23 ⟨u25, rfl, ho26, hl27, hb24⟩
  have F28 := hid (F16.out.below hb24)
  have F29 := hid (F21.out.below hb24)
  have G30 := hid (below_to G17.out hb24)
  have Z31 := hid (show w_12.heap.size + 0 ≤ w_23.heap.size by have := hb24.size; first | omega | (simp at this; omega))
  have hn32 := ho26
  have HL33 := hid hl27
  obtain ⟨u25A, u25n, u25c, rfl⟩ := hn32.shape3
  have U34 := hid (OwnI.blockLt hn32)
  have F35 := hid hn32
  clear F16 F21 G17 hb24 hn32 ho26 hl27
  have e36 := F28.out.1
  have e36z := F28.out.2
  go_wp2_with fail
  clear e36 e36z
  refine (toPoset_own v0 xs0 _ (HV0.out.later G30.out) hl0).mono ?_
  rintro e w_37 ⟨u38, rfl, ho40, hb39⟩
  have F41 := hid (F28.out.below hb39)
  have F42 := hid (F29.out.below hb39)
  have F43 := hid (F35.out.below hb39)
  have G44 := hid (below_to G30.out hb39)
  have Z45 := hid (show w_23.heap.size + 0 ≤ w_37.heap.size by have := hb39.size; first | omega | (simp at this; omega))
  have hn46 := ho40
  obtain ⟨u38A, u38n, u38c, rfl⟩ := hn46.shape3
  have U47 := hid (OwnI.blockLt hn46)
  have F48 := hid hn46
  clear F28 F29 F35 G30 hb39 ho40 hn46
  have e49 := F41.out.1
  have e49z := F41.out.2
  go_wp2_with fail
  clear e49 e49z
  refine (implFixedByRowvacuation_any (Value.slice u38A u38n u38c) xs0 _ (F48.out.alloc _).ints hl0).mono ?_
  rintro e w_50 ⟨u52, rfl, ho53, hl54, hb51⟩
  have F55 := hid ((F41.out.alloc _).below hb51)
  have F56 := hid ((F42.out.alloc _).below hb51)
  have F57 := hid ((F43.out.alloc _).below hb51)
  have F58 := hid ((F48.out.alloc _).below hb51)
  have F59 := hid ((At.new w_37 (Value.slice u38A u38n u38c) 28).below hb51)
  have G60 := hid (below_to (below_alloc G44.out _) hb51)
  have Z61 := hid (show w_37.heap.size + 1 ≤ w_50.heap.size by have := hb51.size; first | omega | (simp at this; omega))
  have hn62 : OwnI 3 w_50 (w_37.heap.size + 1) u52 (ansFR xs0) := by simpa using ho53
  have HL63 := hid hl54
  obtain ⟨u52A, u52n, u52c, rfl⟩ := hn62.shape3
  have U64 := hid (OwnI.blockLt hn62)
  have F65 := hid hn62
  clear F41 F42 F43 F48 G44 hb51 hn62 ho53 hl54
  have e66 := F55.out.1
  have e66z := F55.out.2
  have e67 := F59.out.1
  have e67z := F59.out.2
  go_wp2_with fail
  clear e66 e66z e67 e67z
  refine (eqIntS_any _ _ ((ansFR xs0)) _ F65.out.ints F57.out.ints HL63.out).mono ?_
  rintro e w_68 ⟨rfl, hb69⟩
  have F70 := hid (F55.out.below hb69)
  have F71 := hid (F56.out.below hb69)
  have F72 := hid (F57.out.below hb69)
  have F73 := hid (F58.out.below hb69)
  have F74 := hid (F59.out.below hb69)
  have F75 := hid (F65.out.below hb69)
  have G76 := hid (below_to G60.out hb69)
  have Z77 := hid (show w_50.heap.size + 0 ≤ w_68.heap.size by have := hb69.size; first | omega | (simp at this; omega))
  clear F55 F56 F57 F58 F59 F65 G60 hb69
  have e78 := F70.out.1
  have e78z := F70.out.2
  have e79 := F74.out.1
  have e79z := F74.out.2
  go_upto_region 10 with fail
  go_cut [45] (fun s wx => s = .bool false ∧ At wx (w.heap.size) (v0) ∧ OwnI 3 wx (w_6.heap.size) (Value.slice u13A u13n u13c) xs0 ∧ OwnI 3 wx (w_12.heap.size) (Value.slice u25A u25n u25c) (ansFR xs0) ∧ OwnI 3 wx (w_23.heap.size) (Value.slice u38A u38n u38c) xs0 ∧ At wx (w_37.heap.size) ((Value.slice u38A u38n u38c)) ∧ OwnI 3 wx (w_37.heap.size + 1) (Value.slice u52A u52n u52c) (ansFR xs0) ∧ w_68.heap.size ≤ wx.heap.size ∧ Below w.heap.size w wx)
  case first =>
    go_region_with (first | (go_at_call 11; refine (toPoset_own v0 xs0 _ (((HV0.out.later G76.out)).drew) hl0).mono ?_; rintro e w_80 ⟨u81, rfl, ho3, hb82⟩; have K0 := hid (F70.out.drew.below hb82); have K1 := hid (F71.out.drew.below hb82); have K2 := hid (F72.out.drew.below hb82); have K3 := hid (F73.out.drew.below hb82); have K4 := hid (F74.out.drew.below hb82); have K5 := hid (F75.out.drew.below hb82); have KZ := hid (show w_68.heap.size ≤ w_80.heap.size by have := hb82.size; simpa using this); have KB := hid (below_to G76.out.drew hb82); have KO := hid ho3; have hx6 := K4.out.1; clear ho3 hb82) | (go_at_call 14; refine (eqPoset_any _ _ (xs0) _ K3.out.ints KO.out.ints hl0).mono ?_; rintro e w_83 ⟨rfl, hb84⟩; have M0 := hid (K0.out.below hb84); have M1 := hid (K1.out.below hb84); have M2 := hid (K2.out.below hb84); have M3 := hid (K3.out.below hb84); have M4 := hid (K4.out.below hb84); have M5 := hid (K5.out.below hb84); have MZ := hid (show w_68.heap.size ≤ w_83.heap.size by have := hb84.size; have := KZ.out; omega); have MB := hid (below_to KB.out hb84); clear hb84))
    all_goals (go_wp2_with fail; go_meet; exact ⟨rfl, M0.out, M1.out, M2.out, M3.out, M4.out, M5.out, MZ.out, MB.out⟩)
  case rest =>
    clear e78 e78z e79 e79z
    obtain ⟨rfl, c0, c1, c2, c3, c4, c5, hzc, hbc⟩ := hcut
    obtain ⟨wc85, rfl⟩ : ∃ x, x = wc := ⟨wc, rfl⟩
    have F86 := hid c0
    have F87 := hid c1
    have F88 := hid c2
    have F89 := hid c3
    have F90 := hid c4
    have F91 := hid c5
    have Z92 := hid hzc
    have G93 := hid hbc
    clear c0 F70 c1 F71 c2 F72 c3 F73 c4 F74 c5 F75 hzc hbc G76
    have e94 := F86.out.1
    have e94z := F86.out.2
    have e95 := F90.out.1
    have e95z := F90.out.2
    go_wp2_with fail
    clear e94 e94z e95 e95z
    refine (markPoset_any _ (xs0) _ _ _ F89.out hl0 (by omega) (by first | omega | (have := hl0; omega))).mono ?_
    rintro e w_96 ⟨rfl, ho97, hg98⟩
    have qZ10 := Z10.out
    have qZ18 := Z18.out
    have qZ31 := Z31.out
    have qZ45 := Z45.out
    have qZ61 := Z61.out
    have qZ77 := Z77.out
    have qZ92 := Z92.out
    have F99 := hid (F86.out.grown hg98 (row_ne_box (U47.out) (by omega)))
    have F100 := hid (F87.out.grown hg98 (row_ne_row (U20.out) (U47.out) (by omega)))
    have F101 := hid (F88.out.grown hg98 (row_ne_row (U34.out) (U47.out) (by omega)))
    have F102 := hid (F90.out.grown hg98 (row_ne_box (U47.out) (by omega)))
    have F103 := hid (F91.out.grown hg98 (row_ne_row (U64.out) (U47.out) (by omega)))
    have G104 := hid (below_grown G93.out hg98 (fun k hk => by have := U47.out k hk; omega))
    have Z105 := hid (show wc85.heap.size + 0 ≤ w_96.heap.size by have := hg98.size; first | omega | (simp at this; omega))
    clear qZ10 qZ18 qZ31 qZ45 qZ61 qZ77 qZ92
    have F106 := hid ho97
    clear F86 F87 F88 F90 F91 G93 F89 ho97 hg98
    have e107 := F99.out.1
    have e107z := F99.out.2
    have e108 := F102.out.1
    have e108z := F102.out.2
    go_wp2_with fail
    clear e107 e107z e108 e108z
    refine (eqIntS_any _ _ ((ansFR xs0)) _ F103.out.ints F101.out.ints HL63.out).mono ?_
    rintro e w_109 ⟨rfl, hb110⟩
    have F111 := hid (F99.out.below hb110)
    have F112 := hid (F100.out.below hb110)
    have F113 := hid (F101.out.below hb110)
    have F114 := hid (F102.out.below hb110)
    have F115 := hid (F103.out.below hb110)
    have F116 := hid (F106.out.below hb110)
    have G117 := hid (below_to G104.out hb110)
    have Z118 := hid (show w_96.heap.size + 0 ≤ w_109.heap.size by have := hb110.size; first | omega | (simp at this; omega))
    clear F99 F100 F101 F102 F103 F106 G104 hb110
    have e119 := F111.out.1
    have e119z := F111.out.2
    have e120 := F114.out.1
    have e120z := F114.out.2
    go_wp2_with fail
    clear e119 e119z e120 e120z
    refine (markIntS_any _ ((ansFR xs0)) _ _ _ F115.out HL63.out (by omega) (by first | omega | (have := HL63.out; omega))).mono ?_
    rintro e w_121 ⟨rfl, ho122, hg123⟩
    have qZ10 := Z10.out
    have qZ18 := Z18.out
    have qZ31 := Z31.out
    have qZ45 := Z45.out
    have qZ61 := Z61.out
    have qZ77 := Z77.out
    have qZ92 := Z92.out
    have qZ105 := Z105.out
    have qZ118 := Z118.out
    have F124 := hid (F111.out.grown hg123 (row_ne_box (U64.out) (by omega)))
    have F125 := hid (F112.out.grown hg123 (row_ne_row (U20.out) (U64.out) (by omega)))
    have F126 := hid (F113.out.grown hg123 (row_ne_row (U34.out) (U64.out) (by omega)))
    have F127 := hid (F114.out.grown hg123 (row_ne_box (U64.out) (by omega)))
    have F128 := hid (F116.out.grown hg123 (row_ne_row (U47.out) (U64.out) (by omega)))
    have G129 := hid (below_grown G117.out hg123 (fun k hk => by have := U64.out k hk; omega))
    have Z130 := hid (show w_109.heap.size + 0 ≤ w_121.heap.size by have := hg123.size; first | omega | (simp at this; omega))
    clear qZ10 qZ18 qZ31 qZ45 qZ61 qZ77 qZ92 qZ105 qZ118
    have F131 := hid ho122
    clear F111 F112 F113 F114 F116 G117 F115 ho122 hg123
    have e132 := F124.out.1
    have e132z := F124.out.2
    have e133 := F127.out.1
    have e133z := F127.out.2
    go_wp2_with fail
    clear e132 e132z e133 e133z
    refine (heldIntS_any _ _ _ _ F131.out.ints HL63.out (by omega) (by omega)).mono ?_
    rintro e w_134 ⟨rfl, hb135⟩
    have F136 := hid (F124.out.below hb135)
    have F137 := hid (F125.out.below hb135)
    have F138 := hid (F126.out.below hb135)
    have F139 := hid (F127.out.below hb135)
    have F140 := hid (F128.out.below hb135)
    have F141 := hid (F131.out.below hb135)
    have G142 := hid (below_to G129.out hb135)
    have Z143 := hid (show w_121.heap.size + 0 ≤ w_134.heap.size by have := hb135.size; first | omega | (simp at this; omega))
    clear F124 F125 F126 F127 F128 F131 G129 hb135
    have e144 := F136.out.1
    have e144z := F136.out.2
    have e145 := F139.out.1
    have e145z := F139.out.2
    go_wp2_with fail
    clear e144 e144z e145 e145z
    refine (toPoset_own v0 xs0 _ (HV0.out.later G142.out) hl0).mono ?_
    rintro e w_146 ⟨u147, rfl, ho149, hb148⟩
    have F150 := hid (F136.out.below hb148)
    have F151 := hid (F137.out.below hb148)
    have F152 := hid (F138.out.below hb148)
    have F153 := hid (F139.out.below hb148)
    have F154 := hid (F140.out.below hb148)
    have F155 := hid (F141.out.below hb148)
    have G156 := hid (below_to G142.out hb148)
    have Z157 := hid (show w_134.heap.size + 0 ≤ w_146.heap.size by have := hb148.size; first | omega | (simp at this; omega))
    have hn158 := ho149
    obtain ⟨u147A, u147n, u147c, rfl⟩ := hn158.shape3
    have U159 := hid (OwnI.blockLt hn158)
    have F160 := hid hn158
    clear F136 F137 F138 F139 F140 F141 G142 hb148 ho149 hn158
    have e161 := F150.out.1
    have e161z := F150.out.2
    have e162 := F153.out.1
    have e162z := F153.out.2
    go_wp2_with fail
    clear e161 e161z e162 e162z
    refine (implFixedByRowvacuation_any (Value.slice u147A u147n u147c) xs0 _ F160.out.ints hl0).mono ?_
    rintro e w_163 ⟨u165, rfl, ho166, hl167, hb164⟩
    have F168 := hid (F150.out.below hb164)
    have F169 := hid (F151.out.below hb164)
    have F170 := hid (F152.out.below hb164)
    have F171 := hid (F153.out.below hb164)
    have F172 := hid (F154.out.below hb164)
    have F173 := hid (F155.out.below hb164)
    have F174 := hid (F160.out.below hb164)
    have G175 := hid (below_to G156.out hb164)
    have Z176 := hid (show w_146.heap.size + 0 ≤ w_163.heap.size by have := hb164.size; first | omega | (simp at this; omega))
    have hn177 := ho166
    have HL178 := hid hl167
    obtain ⟨u165A, u165n, u165c, rfl⟩ := hn177.shape3
    have U179 := hid (OwnI.blockLt hn177)
    have F180 := hid hn177
    clear F150 F151 F152 F153 F154 F155 F160 G156 hb164 hn177 ho166 hl167
    have e181 := F168.out.1
    have e181z := F168.out.2
    have e182 := F171.out.1
    have e182z := F171.out.2
    go_wp2_with fail
    clear e181 e181z e182 e182z
    refine (eqIntS_any _ _ ((ansFR xs0)) _ F180.out.ints F170.out.ints HL178.out).mono ?_
    rintro e w_183 ⟨rfl, hb184⟩
    have F185 := hid (F168.out.below hb184)
    have F186 := hid (F169.out.below hb184)
    have F187 := hid (F170.out.below hb184)
    have F188 := hid (F171.out.below hb184)
    have F189 := hid (F172.out.below hb184)
    have F190 := hid (F173.out.below hb184)
    have F191 := hid (F174.out.below hb184)
    have F192 := hid (F180.out.below hb184)
    have G193 := hid (below_to G175.out hb184)
    have Z194 := hid (show w_163.heap.size + 0 ≤ w_183.heap.size by have := hb184.size; first | omega | (simp at this; omega))
    clear F168 F169 F170 F171 F172 F173 F174 F180 G175 hb184
    have e195 := F185.out.1
    have e195z := F185.out.2
    have e196 := F188.out.1
    have e196z := F188.out.2
    go_wp2_with fail
    clear e195 e195z e196 e196z
    refine (heldIntS_any _ _ _ _ F190.out.ints HL63.out (by omega) (by omega)).mono ?_
    rintro e w_197 ⟨rfl, hb198⟩
    have F199 := hid (F185.out.below hb198)
    have F200 := hid (F186.out.below hb198)
    have F201 := hid (F187.out.below hb198)
    have F202 := hid (F188.out.below hb198)
    have F203 := hid (F189.out.below hb198)
    have F204 := hid (F190.out.below hb198)
    have F205 := hid (F191.out.below hb198)
    have F206 := hid (F192.out.below hb198)
    have G207 := hid (below_to G193.out hb198)
    have Z208 := hid (show w_183.heap.size + 0 ≤ w_197.heap.size by have := hb198.size; first | omega | (simp at this; omega))
    clear F185 F186 F187 F188 F189 F190 F191 F192 G193 hb198
    go_wp2
    go_ret
    exact ⟨rfl, G207.out⟩
theorem walk (v0 : Value) (xs0 : List Int) (w : World) (hv0 : Ints w v0 xs0) (hm0 : xs0.length ≤ maxLen) :
    Calls Try.prog 4 #[.agg #[v0]] w fun e w' => e = .returned (.bool true) ∧ Below w.heap.size w w' := by
  by_cases hq0 : (1048576 : Int) < xs0.length
  · exact walkBig0 v0 xs0 w hv0 hm0   (hid (szRes_neg hq0))
  exact walkSmall v0 xs0 w hv0 hm0  (hid (szRes_pos hq0)) hq0 (by omega)
end Go.Proofs.Ytkalpichninncab.lawFixedByRowvacuation
