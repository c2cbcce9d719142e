/- FnExactToggleRanks: the law's walk (by genlaw.py). -/
import Derived.Test.YtkalpichninncaaRvV
import Derived.Test.YtkalpichninncaaRvK
import Derived.Deep.DeepCutAuto
namespace Go.Proofs.Ytkalpichninncaa.lawToggleRanks
open Go.RowKit Go.WideShapes Go.ChangeShapes
set_option linter.unusedVariables false
set_option maxHeartbeats 1000000 in
theorem walkLen2 (v0 : Value) (xs0 : List Int) (n1 : Int) (v2 : Value) (xs2 : List Int) (w : World) (hv0 : Ints w v0 xs0) (hm0 : xs0.length ≤ maxLen) (wf1 : (Lit.int .i64 n1).wf = true) (hv2 : Ints w v2 xs2) (hm2 : xs2.length ≤ maxLen) (hbig : 1048576 < xs2.length) :
    Calls Try.prog 5 #[.agg #[v0], .int .i64 n1, v2] w fun e w' => e = .returned (.bool true) ∧ Below w.heap.size w w' := by
  obtain ⟨A2, c2, rfl, -⟩ := hv2
  unfold maxLen at hm2
  go_enter Try.func5, Try.ntmps5
  go_wp2
  go_ret
  exact ⟨rfl, (below_alloc (Below.refl _ w) _)⟩
set_option maxRecDepth 100000 in
set_option maxHeartbeats 1000000 in
theorem walkBig0 (v0 : Value) (xs0 : List Int) (n1 : Int) (v2 : Value) (xs2 : List Int) (w : World) (hv0 : Ints w v0 xs0) (hm0 : xs0.length ≤ maxLen) (wf1 : (Lit.int .i64 n1).wf = true) (hv2 : Ints w v2 xs2) (hm2 : xs2.length ≤ maxLen) (hl2 : xs2.length ≤ 1048576) (HS0 : Hid (szRes (1048576 : Int) xs0.length = -1)) :
    Calls Try.prog 5 #[.agg #[v0], .int .i64 n1, v2] w fun e w' => e = .returned (.bool true) ∧ Below w.heap.size w w' := by
  have hv2q := hv2
  obtain ⟨A2, c2, hsh2, -⟩ := hv2q
  subst hsh2
  have HV0 := hid hv0
  clear hv0
  have HV2 := hid hv2
  clear hv2
  have WF1 := hid wf1
  clear wf1
  go_enter Try.func5, Try.ntmps5
  go_wp2_with fail
  refine (szPoset_any v0 xs0 _ _ (HV0.out.later (below_alloc (Below.refl _ w) _)) hm0 (by omega) (by omega)).mono ?_
  rw [HS0.out]
  rintro e w_1 ⟨rfl, hb2⟩
  have F3 := hid ((At.new w v0 24).below hb2)
  have G4 := hid (below_to (below_alloc (Below.refl _ w) _) hb2)
  have Z5 := hid (show w.heap.size + 1 ≤ w_1.heap.size by have := hb2.size; first | omega | (simp at this; omega))
  clear hb2
  go_wp2
  go_ret
  exact ⟨rfl, G4.out⟩
set_option maxRecDepth 100000 in
set_option maxHeartbeats 8000000 in
theorem walkSmall (v0 : Value) (xs0 : List Int) (n1 : Int) (v2 : Value) (xs2 : List Int) (w : World) (hv0 : Ints w v0 xs0) (hm0 : xs0.length ≤ maxLen) (wf1 : (Lit.int .i64 n1).wf = true) (hv2 : Ints w v2 xs2) (hm2 : xs2.length ≤ maxLen) (hl2 : xs2.length ≤ 1048576) (HS0 : Hid (szRes (1048576 : Int) xs0.length = (1048576 : Int) - xs0.length)) (hq0 : ¬ (1048576 : Int) < xs0.length) (hl0 : xs0.length ≤ 1048576) :
    Calls Try.prog 5 #[.agg #[v0], .int .i64 n1, v2] w fun e w' => e = .returned (.bool true) ∧ Below w.heap.size w w' := by
  have hv2q := hv2
  obtain ⟨A2, c2, hsh2, -⟩ := hv2q
  subst hsh2
  have HV0 := hid hv0
  clear hv0
  have HV2 := hid hv2
  clear hv2
  have WF1 := hid wf1
  clear wf1
  go_enter Try.func5, Try.ntmps5
  go_wp2_with fail
  refine (szPoset_any v0 xs0 _ _ (HV0.out.later (below_alloc (Below.refl _ w) _)) hm0 (by omega) (by omega)).mono ?_
  rw [HS0.out]
  rintro e w_6 ⟨rfl, hb7⟩
  have F8 := hid ((At.new w v0 24).below hb7)
  have G9 := hid (below_to (below_alloc (Below.refl _ w) _) hb7)
  have Z10 := hid (show w.heap.size + 1 ≤ w_6.heap.size by have := hb7.size; first | omega | (simp at this; omega))
  clear hb7
  have e11 := F8.out.1
  have e11z := F8.out.2
  go_wp2_with fail
  clear e11 e11z
  refine (toPoset_own v0 xs0 _ (HV0.out.later G9.out) hl0).mono ?_
  rintro e w_12 ⟨u13, rfl, ho15, hb14⟩
  have F16 := hid (F8.out.below hb14)
  have G17 := hid (below_to G9.out hb14)
  have Z18 := hid (show w_6.heap.size + 0 ≤ w_12.heap.size by have := hb14.size; first | omega | (simp at this; omega))
  have hn19 := ho15
  obtain ⟨u13A, u13n, u13c, rfl⟩ := hn19.shape3
  have U20 := hid (OwnI.blockLt hn19)
  have F21 := hid hn19
  clear F8 G9 hb14 ho15 hn19
  have e22 := F16.out.1
  have e22z := F16.out.2
  go_wp2_with fail
  clear e22 e22z
  refine (toIntS_own (.slice A2 xs2.length c2) xs2 _ (HV2.out.later G17.out) hl2).mono ?_
  rintro e w_23 ⟨u24, rfl, ho26, hb25⟩
  have F27 := hid (F16.out.below hb25)
  have F28 := hid (F21.out.below hb25)
  have G29 := hid (below_to G17.out hb25)
  have Z30 := hid (show w_12.heap.size + 0 ≤ w_23.heap.size by have := hb25.size; first | omega | (simp at this; omega))
  have hn31 := ho26
  obtain ⟨u24A, u24n, u24c, rfl⟩ := hn31.shape3
  have U32 := hid (OwnI.blockLt hn31)
  have F33 := hid hn31
  clear F16 F21 G17 hb25 ho26 hn31
  have e34 := F27.out.1
  have e34z := F27.out.2
  go_wp2_with fail
  clear e34 e34z
  refine (specToggleRanks_any (Value.slice u13A u13n u13c) xs0 n1 (Value.slice u24A u24n u24c) xs2 _ F28.out.ints hl0 WF1.out F33.out.ints hl2).mono ?_
  rintro e w_35 ⟨rfl, hb36⟩
  have F37 := hid (F27.out.below hb36)
  have F38 := hid (F28.out.below hb36)
  have F39 := hid (F33.out.below hb36)
  have G40 := hid (below_to G29.out hb36)
  have Z41 := hid (show w_23.heap.size + 0 ≤ w_35.heap.size by have := hb36.size; first | omega | (simp at this; omega))
  clear F27 F28 F33 G29 hb36
  have e42 := F37.out.1
  have e42z := F37.out.2
  go_wp2_with fail
  clear e42 e42z
  refine (toPoset_own v0 xs0 _ (HV0.out.later G40.out) hl0).mono ?_
  rintro e w_43 ⟨u44, rfl, ho46, hb45⟩
  have F47 := hid (F37.out.below hb45)
  have F48 := hid (F38.out.below hb45)
  have F49 := hid (F39.out.below hb45)
  have G50 := hid (below_to G40.out hb45)
  have Z51 := hid (show w_35.heap.size + 0 ≤ w_43.heap.size by have := hb45.size; first | omega | (simp at this; omega))
  have hn52 := ho46
  obtain ⟨u44A, u44n, u44c, rfl⟩ := hn52.shape3
  have U53 := hid (OwnI.blockLt hn52)
  have F54 := hid hn52
  clear F37 F38 F39 G40 hb45 ho46 hn52
  have e55 := F47.out.1
  have e55z := F47.out.2
  go_wp2_with fail
  clear e55 e55z
  refine (toIntS_own (.slice A2 xs2.length c2) xs2 _ (HV2.out.later (below_alloc G50.out _)) hl2).mono ?_
  rintro e w_56 ⟨u57, rfl, ho59, hb58⟩
  have F60 := hid ((F47.out.alloc _).below hb58)
  have F61 := hid ((F48.out.alloc _).below hb58)
  have F62 := hid ((F49.out.alloc _).below hb58)
  have F63 := hid ((F54.out.alloc _).below hb58)
  have F64 := hid ((At.new w_43 (Value.slice u44A u44n u44c) 28).below hb58)
  have G65 := hid (below_to (below_alloc G50.out _) hb58)
  have Z66 := hid (show w_43.heap.size + 1 ≤ w_56.heap.size by have := hb58.size; first | omega | (simp at this; omega))
  have hn67 : OwnI 3 w_56 (w_43.heap.size + 1) u57 xs2 := by simpa using ho59
  obtain ⟨u57A, u57n, u57c, rfl⟩ := hn67.shape3
  have U68 := hid (OwnI.blockLt hn67)
  have F69 := hid hn67
  clear F47 F48 F49 F54 G50 hb58 ho59 hn67
  have e70 := F60.out.1
  have e70z := F60.out.2
  have e71 := F64.out.1
  have e71z := F64.out.2
  go_wp2_with fail
  clear e70 e70z e71 e71z
  refine (implToggleRanks_any (Value.slice u44A u44n u44c) xs0 n1 (Value.slice u57A u57n u57c) xs2 _ F63.out.ints hl0 WF1.out F69.out.ints hl2).mono ?_
  rintro e w_72 ⟨rfl, hb73⟩
  have F74 := hid (F60.out.below hb73)
  have F75 := hid (F61.out.below hb73)
  have F76 := hid (F62.out.below hb73)
  have F77 := hid (F63.out.below hb73)
  have F78 := hid (F64.out.below hb73)
  have F79 := hid (F69.out.below hb73)
  have G80 := hid (below_to G65.out hb73)
  have Z81 := hid (show w_56.heap.size + 0 ≤ w_72.heap.size by have := hb73.size; first | omega | (simp at this; omega))
  clear F60 F61 F62 F63 F64 F69 G65 hb73
  have e82 := F74.out.1
  have e82z := F74.out.2
  have e83 := F78.out.1
  have e83z := F78.out.2
  go_upto_region 13 with fail
  go_cut [54] (fun s wx => s = .bool false ∧ At wx (w.heap.size) (v0) ∧ OwnI 3 wx (w_6.heap.size) (Value.slice u13A u13n u13c) xs0 ∧ OwnI 3 wx (w_12.heap.size) (Value.slice u24A u24n u24c) xs2 ∧ OwnI 3 wx (w_35.heap.size) (Value.slice u44A u44n u44c) xs0 ∧ At wx (w_43.heap.size) ((Value.slice u44A u44n u44c)) ∧ OwnI 3 wx (w_43.heap.size + 1) (Value.slice u57A u57n u57c) xs2 ∧ w_72.heap.size ≤ wx.heap.size ∧ Below w.heap.size w wx)
  case first =>
    go_region_with (first | (go_at_call 13; refine (toPoset_own v0 xs0 _ (((HV0.out.later G80.out)).drew) hl0).mono ?_; rintro e w_84 ⟨u85, rfl, ho3, hb86⟩; have K0 := hid (F74.out.drew.below hb86); have K1 := hid (F75.out.drew.below hb86); have K2 := hid (F76.out.drew.below hb86); have K3 := hid (F77.out.drew.below hb86); have K4 := hid (F78.out.drew.below hb86); have K5 := hid (F79.out.drew.below hb86); have KZ := hid (show w_72.heap.size ≤ w_84.heap.size by have := hb86.size; simpa using this); have KB := hid (below_to G80.out.drew hb86); have KO := hid ho3; have hx6 := K4.out.1; clear ho3 hb86) | (go_at_call 16; refine (eqPoset_any _ _ (xs0) _ K3.out.ints KO.out.ints hl0).mono ?_; rintro e w_87 ⟨rfl, hb88⟩; have M0 := hid (K0.out.below hb88); have M1 := hid (K1.out.below hb88); have M2 := hid (K2.out.below hb88); have M3 := hid (K3.out.below hb88); have M4 := hid (K4.out.below hb88); have M5 := hid (K5.out.below hb88); have MZ := hid (show w_72.heap.size ≤ w_87.heap.size by have := hb88.size; have := KZ.out; omega); have MB := hid (below_to KB.out hb88); clear hb88))
    all_goals (go_wp2_with fail; go_meet; exact ⟨rfl, M0.out, M1.out, M2.out, M3.out, M4.out, M5.out, MZ.out, MB.out⟩)
  case rest =>
    clear e82 e82z e83 e83z
    obtain ⟨rfl, c0, c1, c2, c3, c4, c5, hzc, hbc⟩ := hcut
    obtain ⟨wc89, rfl⟩ : ∃ x, x = wc := ⟨wc, rfl⟩
    have F90 := hid c0
    have F91 := hid c1
    have F92 := hid c2
    have F93 := hid c3
    have F94 := hid c4
    have F95 := hid c5
    have Z96 := hid hzc
    have G97 := hid hbc
    clear c0 F74 c1 F75 c2 F76 c3 F77 c4 F78 c5 F79 hzc hbc G80
    have e98 := F90.out.1
    have e98z := F90.out.2
    have e99 := F94.out.1
    have e99z := F94.out.2
    go_wp2_with fail
    clear e98 e98z e99 e99z
    refine (toIntS_own (.slice A2 xs2.length c2) xs2 _ (HV2.out.later G97.out) hl2).mono ?_
    rintro e w_100 ⟨u101, rfl, ho103, hb102⟩
    have F104 := hid (F90.out.below hb102)
    have F105 := hid (F91.out.below hb102)
    have F106 := hid (F92.out.below hb102)
    have F107 := hid (F93.out.below hb102)
    have F108 := hid (F94.out.below hb102)
    have F109 := hid (F95.out.below hb102)
    have G110 := hid (below_to G97.out hb102)
    have Z111 := hid (show wc89.heap.size + 0 ≤ w_100.heap.size by have := hb102.size; first | omega | (simp at this; omega))
    have hn112 := ho103
    obtain ⟨u101A, u101n, u101c, rfl⟩ := hn112.shape3
    have U113 := hid (OwnI.blockLt hn112)
    have F114 := hid hn112
    clear F90 F91 F92 F93 F94 F95 G97 hb102 ho103 hn112
    have e115 := F104.out.1
    have e115z := F104.out.2
    have e116 := F108.out.1
    have e116z := F108.out.2
    go_wp2_with fail
    clear e115 e115z e116 e116z
    refine (eqIntS_any _ _ (xs2) _ F109.out.ints F114.out.ints hl2).mono ?_
    rintro e w_117 ⟨rfl, hb118⟩
    have F119 := hid (F104.out.below hb118)
    have F120 := hid (F105.out.below hb118)
    have F121 := hid (F106.out.below hb118)
    have F122 := hid (F107.out.below hb118)
    have F123 := hid (F108.out.below hb118)
    have F124 := hid (F109.out.below hb118)
    have F125 := hid (F114.out.below hb118)
    have G126 := hid (below_to G110.out hb118)
    have Z127 := hid (show w_100.heap.size + 0 ≤ w_117.heap.size by have := hb118.size; first | omega | (simp at this; omega))
    clear F104 F105 F106 F107 F108 F109 F114 G110 hb118
    go_wp2
    go_ret
    exact ⟨rfl, G126.out⟩
theorem walk (v0 : Value) (xs0 : List Int) (n1 : Int) (v2 : Value) (xs2 : List Int) (w : World) (hv0 : Ints w v0 xs0) (hm0 : xs0.length ≤ maxLen) (wf1 : (Lit.int .i64 n1).wf = true) (hv2 : Ints w v2 xs2) (hm2 : xs2.length ≤ maxLen) :
    Calls Try.prog 5 #[.agg #[v0], .int .i64 n1, v2] w fun e w' => e = .returned (.bool true) ∧ Below w.heap.size w w' := by
  by_cases hl2 : 1048576 < xs2.length
  · exact walkLen2 v0 xs0 n1 v2 xs2 w hv0 hm0 wf1 hv2 hm2  hl2
  by_cases hq0 : (1048576 : Int) < xs0.length
  · exact walkBig0 v0 xs0 n1 v2 xs2 w hv0 hm0 wf1 hv2 hm2 (by omega)  (hid (szRes_neg hq0))
  exact walkSmall v0 xs0 n1 v2 xs2 w hv0 hm0 wf1 hv2 hm2 (by omega) (hid (szRes_pos hq0)) hq0 (by omega)
end Go.Proofs.Ytkalpichninncaa.lawToggleRanks
