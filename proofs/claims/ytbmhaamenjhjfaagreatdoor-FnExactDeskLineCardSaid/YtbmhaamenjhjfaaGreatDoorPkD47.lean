/- DeskLineLaw -/
import Derived.Deep.DeepCutAuto
import Derived.Test.YtbmhaamenjhjfaaGreatDoorPkD46
namespace Go.Proofs.YtbmhaamenjhjfaaGreatDoor.lawDeskLine
open Go.RowKit Go.WideShapes Go.ChangeShapes
set_option linter.unusedVariables false
set_option maxRecDepth 100000 in
set_option maxHeartbeats 1000000 in
theorem walkBig0 (v0 : Value) (xs0 : List Int) (n0 : Int) (s1 : ByteArray) (w : World) (hv0 : Ints w v0 xs0) (hm0 : xs0.length ≤ maxLen) (wf0 : (Lit.int .i64 n0).wf = true) (hs1 : s1.size ≤ maxLen) (hbI : ¬ (1048576 : Int) < (s1.size : Int)) (HS0 : Hid (szRes (1048576 : Int) xs0.length = -1)) :
    Calls Tryz.prog 3 #[.agg #[v0, .int .i64 n0], .string s1] w fun e w' => e = .returned (.bool true) ∧ Below w.heap.size w w' := by
  have hv0q := hv0
  obtain ⟨A0, c0, hsh0, -⟩ := hv0q
  subst hsh0
  have HV0 := hid hv0
  clear hv0
  have WF0 := hid wf0
  clear wf0
  go_enter Tryz.func3, Tryz.ntmps3
  go_wp2_with fail
  refine (szDesk_any (.slice A0 xs0.length c0) xs0 _ _ _ (HV0.out.later (below_alloc (Below.refl _ w) _)) hm0 (by omega) (by omega)).mono ?_
  rw [HS0.out]
  rintro e w_1 ⟨rfl, hb2⟩
  have F3 := hid ((At2.new w (.slice A0 xs0.length c0) (.int .i64 (n0)) 26).below hb2)
  have G4 := hid (below_to (below_alloc (Below.refl _ w) _) hb2)
  have Z5 := hid (show w.heap.size + 1 ≤ w_1.heap.size by have := hb2.size; first | omega | (simp at this; omega))
  clear hb2
  go_wp2
  go_ret
  exact ⟨rfl, G4.out⟩
set_option maxRecDepth 100000 in
set_option maxHeartbeats 8000000 in
theorem walkSmall (v0 : Value) (xs0 : List Int) (n0 : Int) (s1 : ByteArray) (w : World) (hv0 : Ints w v0 xs0) (hm0 : xs0.length ≤ maxLen) (wf0 : (Lit.int .i64 n0).wf = true) (hs1 : s1.size ≤ maxLen) (hbI : ¬ (1048576 : Int) < (s1.size : Int)) {a0 a1 : Addr} (X : List Int) (D : Int) (T : ByteArray) (b : Bool) (HS : Hid (∀ (v : Value) (W : World), Ints W v xs0 → Calls Tryz.prog 8 #[.agg #[v, .int .i64 n0], .string s1] W fun (r : Ending) w' => ∃ u, r = Ending.returned (.tuple #[.agg #[u, .int .i64 D], .string T, .bool b]) ∧ OwnI 3 w' W.heap.size u X ∧ X.length ≤ 1048576 ∧ Below W.heap.size W w')) (HI : Hid (∀ (v : Value) (W : World), GlobD W a0 a1 → Ints W v xs0 → Calls Tryz.prog 10 #[.agg #[v, .int .i64 n0], .string s1] W fun (r : Ending) w' => ∃ u, r = Ending.returned (.tuple #[.agg #[u, .int .i64 D], .string T, .bool b]) ∧ OwnI 3 w' W.heap.size u X ∧ X.length ≤ 1048576 ∧ Below W.heap.size W w')) (HG : Hid (GlobD w a0 a1)) (HS0 : Hid (szRes (1048576 : Int) xs0.length = (1048576 : Int) - xs0.length)) (hq0 : ¬ (1048576 : Int) < xs0.length) (hl0 : xs0.length ≤ 1048576) :
    Calls Tryz.prog 3 #[.agg #[v0, .int .i64 n0], .string s1] w fun e w' => e = .returned (.bool true) ∧ Below w.heap.size w w' := by
  have hv0q := hv0
  obtain ⟨A0, c0, hsh0, -⟩ := hv0q
  subst hsh0
  have HV0 := hid hv0
  clear hv0
  have WF0 := hid wf0
  clear wf0
  go_enter Tryz.func3, Tryz.ntmps3
  go_wp2_with fail
  refine (szDesk_any (.slice A0 xs0.length c0) xs0 _ _ _ (HV0.out.later (below_alloc (Below.refl _ w) _)) hm0 (by omega) (by omega)).mono ?_
  rw [HS0.out]
  rintro e w_6 ⟨rfl, hb7⟩
  have F8 := hid ((At2.new w (.slice A0 xs0.length c0) (.int .i64 (n0)) 26).below hb7)
  have G9 := hid (below_to (below_alloc (Below.refl _ w) _) hb7)
  have Z10 := hid (show w.heap.size + 1 ≤ w_6.heap.size by have := hb7.size; first | omega | (simp at this; omega))
  clear hb7
  have e11 := F8.out.1
  have e11z := F8.out.2.1
  have e11y := F8.out.2.2
  go_wp2_with fail
  clear e11 e11z e11y
  refine (toDesk_own (.slice A0 xs0.length c0) xs0 (n0) _ (HV0.out.later G9.out) hl0).mono ?_
  rintro e w_12 ⟨u13, rfl, ho15, hb14⟩
  have F16 := hid (F8.out.below hb14)
  have G17 := hid (below_to G9.out hb14)
  have Z18 := hid (show w_6.heap.size + 0 ≤ w_12.heap.size by have := hb14.size; first | omega | (simp at this; omega))
  have hn19 := ho15
  obtain ⟨u13A, u13n, u13c, rfl⟩ := hn19.shape3
  have U20 := hid (OwnI.blockLt hn19)
  have F21 := hid hn19
  clear F8 G9 hb14 ho15 hn19
  have e22 := F16.out.1
  have e22z := F16.out.2.1
  have e22y := F16.out.2.2
  go_wp2_with fail
  clear e22 e22z e22y
  refine (HS.out (Value.slice u13A u13n u13c) _ F21.out.ints).mono ?_
  rintro e w_23 ⟨u25, rfl, ho26, hl27, hb24⟩
  have F28 := hid (F16.out.below hb24)
  have F29 := hid (F21.out.below hb24)
  have G30 := hid (below_to G17.out hb24)
  have Z31 := hid (show w_12.heap.size + 0 ≤ w_23.heap.size by have := hb24.size; first | omega | (simp at this; omega))
  have hn32 := ho26
  have HL33 := hid hl27
  obtain ⟨u25A, u25n, u25c, rfl⟩ := hn32.shape3
  have U34 := hid (OwnI.blockLt hn32)
  have F35 := hid hn32
  clear F16 F21 G17 hb24 hn32 ho26 hl27
  have e36 := F28.out.1
  have e36z := F28.out.2.1
  have e36y := F28.out.2.2
  go_wp2_with fail
  clear e36 e36z e36y
  refine (toDesk_own (.slice A0 xs0.length c0) xs0 (n0) _ (HV0.out.later (below_alloc G30.out _)) hl0).mono ?_
  rintro e w_37 ⟨u38, rfl, ho40, hb39⟩
  have F41 := hid ((F28.out.alloc _).below hb39)
  have F42 := hid ((F29.out.alloc _).below hb39)
  have F43 := hid ((F35.out.alloc _).below hb39)
  have F44 := hid ((At2.new w_23 (Value.slice u25A u25n u25c) (.int .i64 (D)) 30).below hb39)
  have G45 := hid (below_to (below_alloc G30.out _) hb39)
  have Z46 := hid (show w_23.heap.size + 1 ≤ w_37.heap.size by have := hb39.size; first | omega | (simp at this; omega))
  have hn47 : OwnI 3 w_37 (w_23.heap.size + 1) u38 xs0 := by simpa using ho40
  obtain ⟨u38A, u38n, u38c, rfl⟩ := hn47.shape3
  have U48 := hid (OwnI.blockLt hn47)
  have F49 := hid hn47
  clear F28 F29 F35 G30 hb39 ho40 hn47
  have e50 := F41.out.1
  have e50z := F41.out.2.1
  have e50y := F41.out.2.2
  have e51 := F44.out.1
  have e51z := F44.out.2.1
  have e51y := F44.out.2.2
  go_wp2_with fail
  clear e50 e50z e50y e51 e51z e51y
  refine (HI.out (Value.slice u38A u38n u38c) _ (HG.out.later (below_alloc G45.out _)) (F49.out.alloc _).ints).mono ?_
  rintro e w_52 ⟨u54, rfl, ho55, hl56, hb53⟩
  have F57 := hid ((F41.out.alloc _).below hb53)
  have F58 := hid ((F42.out.alloc _).below hb53)
  have F59 := hid ((F43.out.alloc _).below hb53)
  have F60 := hid ((F44.out.alloc _).below hb53)
  have F61 := hid ((F49.out.alloc _).below hb53)
  have F62 := hid ((At2.new w_37 (Value.slice u38A u38n u38c) (.int .i64 (n0)) 30).below hb53)
  have G63 := hid (below_to (below_alloc G45.out _) hb53)
  have Z64 := hid (show w_37.heap.size + 1 ≤ w_52.heap.size by have := hb53.size; first | omega | (simp at this; omega))
  have hn65 : OwnI 3 w_52 (w_37.heap.size + 1) u54 X := by simpa using ho55
  have HL66 := hid hl56
  obtain ⟨u54A, u54n, u54c, rfl⟩ := hn65.shape3
  have U67 := hid (OwnI.blockLt hn65)
  have F68 := hid hn65
  clear F41 F42 F43 F44 F49 G45 hb53 hn65 ho55 hl56
  have e69 := F57.out.1
  have e69z := F57.out.2.1
  have e69y := F57.out.2.2
  have e70 := F60.out.1
  have e70z := F60.out.2.1
  have e70y := F60.out.2.2
  have e71 := F62.out.1
  have e71z := F62.out.2.1
  have e71y := F62.out.2.2
  go_wp2_with fail
  clear e69 e69z e69y e70 e70z e70y e71 e71z e71y
  refine (eqDesk_any _ _ (X) (D) _ (F68.out.alloc _).ints (F59.out.alloc _).ints HL66.out).mono ?_
  rintro e w_72 ⟨rfl, hb73⟩
  have F74 := hid ((F57.out.alloc _).below hb73)
  have F75 := hid ((F58.out.alloc _).below hb73)
  have F76 := hid ((F59.out.alloc _).below hb73)
  have F77 := hid ((F60.out.alloc _).below hb73)
  have F78 := hid ((F61.out.alloc _).below hb73)
  have F79 := hid ((F62.out.alloc _).below hb73)
  have F80 := hid ((F68.out.alloc _).below hb73)
  have F81 := hid ((At2.new w_52 (Value.slice u54A u54n u54c) (.int .i64 (D)) 30).below hb73)
  have G82 := hid (below_to (below_alloc G63.out _) hb73)
  have Z83 := hid (show w_52.heap.size + 1 ≤ w_72.heap.size by have := hb73.size; first | omega | (simp at this; omega))
  clear F57 F58 F59 F60 F61 F62 F68 G63 hb73
  have e84 := F74.out.1
  have e84z := F74.out.2.1
  have e84y := F74.out.2.2
  have e85 := F77.out.1
  have e85z := F77.out.2.1
  have e85y := F77.out.2.2
  have e86 := F79.out.1
  have e86z := F79.out.2.1
  have e86y := F79.out.2.2
  have e87 := F81.out.1
  have e87z := F81.out.2.1
  have e87y := F81.out.2.2
  go_upto_region 12 with fail
  go_cut [62] (fun s wx => s = .bool false ∧ At2 wx (w.heap.size) (.slice A0 xs0.length c0) (.int .i64 (n0)) ∧ OwnI 3 wx (w_6.heap.size) (Value.slice u13A u13n u13c) xs0 ∧ OwnI 3 wx (w_12.heap.size) (Value.slice u25A u25n u25c) X ∧ At2 wx (w_23.heap.size) (Value.slice u25A u25n u25c) (.int .i64 (D)) ∧ OwnI 3 wx (w_23.heap.size + 1) (Value.slice u38A u38n u38c) xs0 ∧ At2 wx (w_37.heap.size) (Value.slice u38A u38n u38c) (.int .i64 (n0)) ∧ OwnI 3 wx (w_37.heap.size + 1) (Value.slice u54A u54n u54c) X ∧ At2 wx (w_52.heap.size) (Value.slice u54A u54n u54c) (.int .i64 (D)) ∧ w_72.heap.size ≤ wx.heap.size ∧ Below w.heap.size w wx)
  case first =>
    go_region_with (first | (go_at_call 9; refine (toDesk_own (.slice A0 xs0.length c0) xs0 (n0) _ (((HV0.out.later G82.out)).drew) hl0).mono ?_; rintro e w_88 ⟨u89, rfl, ho3, hb90⟩; have K0 := hid (F74.out.drew.below hb90); have K1 := hid (F75.out.drew.below hb90); have K2 := hid (F76.out.drew.below hb90); have K3 := hid (F77.out.drew.below hb90); have K4 := hid (F78.out.drew.below hb90); have K5 := hid (F79.out.drew.below hb90); have K6 := hid (F80.out.drew.below hb90); have K7 := hid (F81.out.drew.below hb90); have KZ := hid (show w_72.heap.size ≤ w_88.heap.size by have := hb90.size; simpa using this); have KB := hid (below_to G82.out.drew hb90); have KO := hid ho3; have hx6 := K5.out.1; have hx6b := K5.out.2.1; clear ho3 hb90) | (go_at_call 11; refine (eqDesk_any _ _ (xs0) (n0) _ K4.out.ints KO.out.ints hl0).mono ?_; rintro e w_91 ⟨rfl, hb92⟩; have M0 := hid (K0.out.below hb92); have M1 := hid (K1.out.below hb92); have M2 := hid (K2.out.below hb92); have M3 := hid (K3.out.below hb92); have M4 := hid (K4.out.below hb92); have M5 := hid (K5.out.below hb92); have M6 := hid (K6.out.below hb92); have M7 := hid (K7.out.below hb92); have MZ := hid (show w_72.heap.size ≤ w_91.heap.size by have := hb92.size; have := KZ.out; omega); have MB := hid (below_to KB.out hb92); clear hb92))
    all_goals (go_wp2_with fail; go_meet; exact ⟨rfl, M0.out, M1.out, M2.out, M3.out, M4.out, M5.out, M6.out, M7.out, MZ.out, MB.out⟩)
  case rest =>
    clear e84 e84z e84y e85 e85z e85y e86 e86z e86y e87 e87z e87y
    obtain ⟨rfl, c0, c1, c2, c3, c4, c5, c6, c7, hzc, hbc⟩ := hcut
    obtain ⟨wc93, rfl⟩ : ∃ x, x = wc := ⟨wc, rfl⟩
    have F94 := hid c0
    have F95 := hid c1
    have F96 := hid c2
    have F97 := hid c3
    have F98 := hid c4
    have F99 := hid c5
    have F100 := hid c6
    have F101 := hid c7
    have Z102 := hid hzc
    have G103 := hid hbc
    clear c0 F74 c1 F75 c2 F76 c3 F77 c4 F78 c5 F79 c6 F80 c7 F81 hzc hbc G82
    have e104 := F94.out.1
    have e104z := F94.out.2.1
    have e104y := F94.out.2.2
    have e105 := F97.out.1
    have e105z := F97.out.2.1
    have e105y := F97.out.2.2
    have e106 := F99.out.1
    have e106z := F99.out.2.1
    have e106y := F99.out.2.2
    have e107 := F101.out.1
    have e107z := F101.out.2.1
    have e107y := F101.out.2.2
    go_wp2_with fail
    clear e104 e104z e104y e105 e105z e105y e106 e106z e106y e107 e107z e107y
    refine (markDesk_any _ (xs0) _ _ _ _ F98.out hl0 (by omega) (by first | omega | (have := hl0; omega))).mono ?_
    rintro e w_108 ⟨rfl, ho109, hg110⟩
    have qZ10 := Z10.out
    have qZ18 := Z18.out
    have qZ31 := Z31.out
    have qZ46 := Z46.out
    have qZ64 := Z64.out
    have qZ83 := Z83.out
    have qZ102 := Z102.out
    have F111 := hid (F94.out.grown hg110 (row_ne_box (U48.out) (by omega)))
    have F112 := hid (F95.out.grown hg110 (row_ne_row (U20.out) (U48.out) (by omega)))
    have F113 := hid (F96.out.grown hg110 (row_ne_row (U34.out) (U48.out) (by omega)))
    have F114 := hid (F97.out.grown hg110 (row_ne_box (U48.out) (by omega)))
    have F115 := hid (F99.out.grown hg110 (row_ne_box (U48.out) (by omega)))
    have F116 := hid (F100.out.grown hg110 (row_ne_row (U67.out) (U48.out) (by omega)))
    have F117 := hid (F101.out.grown hg110 (row_ne_box (U48.out) (by omega)))
    have G118 := hid (below_grown G103.out hg110 (fun k hk => by have := U48.out k hk; omega))
    have Z119 := hid (show wc93.heap.size + 0 ≤ w_108.heap.size by have := hg110.size; first | omega | (simp at this; omega))
    clear qZ10 qZ18 qZ31 qZ46 qZ64 qZ83 qZ102
    have F120 := hid ho109
    clear F94 F95 F96 F97 F99 F100 F101 G103 F98 ho109 hg110
    have e121 := F111.out.1
    have e121z := F111.out.2.1
    have e121y := F111.out.2.2
    have e122 := F114.out.1
    have e122z := F114.out.2.1
    have e122y := F114.out.2.2
    have e123 := F115.out.1
    have e123z := F115.out.2.1
    have e123y := F115.out.2.2
    have e124 := F117.out.1
    have e124z := F117.out.2.1
    have e124y := F117.out.2.2
    go_wp2_with fail
    clear e121 e121z e121y e122 e122z e122y e123 e123z e123y e124 e124z e124y
    refine (eqDesk_any _ _ (X) (D) _ F116.out.ints F113.out.ints HL66.out).mono ?_
    rintro e w_125 ⟨rfl, hb126⟩
    have F127 := hid (F111.out.below hb126)
    have F128 := hid (F112.out.below hb126)
    have F129 := hid (F113.out.below hb126)
    have F130 := hid (F114.out.below hb126)
    have F131 := hid (F115.out.below hb126)
    have F132 := hid (F116.out.below hb126)
    have F133 := hid (F117.out.below hb126)
    have F134 := hid (F120.out.below hb126)
    have G135 := hid (below_to G118.out hb126)
    have Z136 := hid (show w_108.heap.size + 0 ≤ w_125.heap.size by have := hb126.size; first | omega | (simp at this; omega))
    clear F111 F112 F113 F114 F115 F116 F117 F120 G118 hb126
    have e137 := F127.out.1
    have e137z := F127.out.2.1
    have e137y := F127.out.2.2
    have e138 := F130.out.1
    have e138z := F130.out.2.1
    have e138y := F130.out.2.2
    have e139 := F131.out.1
    have e139z := F131.out.2.1
    have e139y := F131.out.2.2
    have e140 := F133.out.1
    have e140z := F133.out.2.1
    have e140y := F133.out.2.2
    go_wp2_with fail
    clear e137 e137z e137y e138 e138z e138y e139 e139z e139y e140 e140z e140y
    refine (markDesk_any _ (X) _ _ _ _ F132.out HL66.out (by omega) (by first | omega | (have := HL66.out; omega))).mono ?_
    rintro e w_141 ⟨rfl, ho142, hg143⟩
    have qZ10 := Z10.out
    have qZ18 := Z18.out
    have qZ31 := Z31.out
    have qZ46 := Z46.out
    have qZ64 := Z64.out
    have qZ83 := Z83.out
    have qZ102 := Z102.out
    have qZ119 := Z119.out
    have qZ136 := Z136.out
    have F144 := hid (F127.out.grown hg143 (row_ne_box (U67.out) (by omega)))
    have F145 := hid (F128.out.grown hg143 (row_ne_row (U20.out) (U67.out) (by omega)))
    have F146 := hid (F129.out.grown hg143 (row_ne_row (U34.out) (U67.out) (by omega)))
    have F147 := hid (F130.out.grown hg143 (row_ne_box (U67.out) (by omega)))
    have F148 := hid (F131.out.grown hg143 (row_ne_box (U67.out) (by omega)))
    have F149 := hid (F133.out.grown hg143 (row_ne_box (U67.out) (by omega)))
    have F150 := hid (F134.out.grown hg143 (row_ne_row (U48.out) (U67.out) (by omega)))
    have G151 := hid (below_grown G135.out hg143 (fun k hk => by have := U67.out k hk; omega))
    have Z152 := hid (show w_125.heap.size + 0 ≤ w_141.heap.size by have := hg143.size; first | omega | (simp at this; omega))
    clear qZ10 qZ18 qZ31 qZ46 qZ64 qZ83 qZ102 qZ119 qZ136
    have F153 := hid ho142
    clear F127 F128 F129 F130 F131 F133 F134 G135 F132 ho142 hg143
    have e154 := F144.out.1
    have e154z := F144.out.2.1
    have e154y := F144.out.2.2
    have e155 := F147.out.1
    have e155z := F147.out.2.1
    have e155y := F147.out.2.2
    have e156 := F148.out.1
    have e156z := F148.out.2.1
    have e156y := F148.out.2.2
    have e157 := F149.out.1
    have e157z := F149.out.2.1
    have e157y := F149.out.2.2
    go_wp2_with fail
    clear e154 e154z e154y e155 e155z e155y e156 e156z e156y e157 e157z e157y
    refine (heldDesk_any _ _ _ _ _ F153.out.ints HL66.out (by omega) (by omega)).mono ?_
    rintro e w_158 ⟨rfl, hb159⟩
    have F160 := hid (F144.out.below hb159)
    have F161 := hid (F145.out.below hb159)
    have F162 := hid (F146.out.below hb159)
    have F163 := hid (F147.out.below hb159)
    have F164 := hid (F148.out.below hb159)
    have F165 := hid (F149.out.below hb159)
    have F166 := hid (F150.out.below hb159)
    have F167 := hid (F153.out.below hb159)
    have G168 := hid (below_to G151.out hb159)
    have Z169 := hid (show w_141.heap.size + 0 ≤ w_158.heap.size by have := hb159.size; first | omega | (simp at this; omega))
    clear F144 F145 F146 F147 F148 F149 F150 F153 G151 hb159
    have e170 := F160.out.1
    have e170z := F160.out.2.1
    have e170y := F160.out.2.2
    have e171 := F163.out.1
    have e171z := F163.out.2.1
    have e171y := F163.out.2.2
    have e172 := F164.out.1
    have e172z := F164.out.2.1
    have e172y := F164.out.2.2
    have e173 := F165.out.1
    have e173z := F165.out.2.1
    have e173y := F165.out.2.2
    go_wp2_with fail
    clear e170 e170z e170y e171 e171z e171y e172 e172z e172y e173 e173z e173y
    refine (toDesk_own (.slice A0 xs0.length c0) xs0 (n0) _ (HV0.out.later G168.out) hl0).mono ?_
    rintro e w_174 ⟨u175, rfl, ho177, hb176⟩
    have F178 := hid (F160.out.below hb176)
    have F179 := hid (F161.out.below hb176)
    have F180 := hid (F162.out.below hb176)
    have F181 := hid (F163.out.below hb176)
    have F182 := hid (F164.out.below hb176)
    have F183 := hid (F165.out.below hb176)
    have F184 := hid (F166.out.below hb176)
    have F185 := hid (F167.out.below hb176)
    have G186 := hid (below_to G168.out hb176)
    have Z187 := hid (show w_158.heap.size + 0 ≤ w_174.heap.size by have := hb176.size; first | omega | (simp at this; omega))
    have hn188 := ho177
    obtain ⟨u175A, u175n, u175c, rfl⟩ := hn188.shape3
    have U189 := hid (OwnI.blockLt hn188)
    have F190 := hid hn188
    clear F160 F161 F162 F163 F164 F165 F166 F167 G168 hb176 ho177 hn188
    have e191 := F178.out.1
    have e191z := F178.out.2.1
    have e191y := F178.out.2.2
    have e192 := F181.out.1
    have e192z := F181.out.2.1
    have e192y := F181.out.2.2
    have e193 := F182.out.1
    have e193z := F182.out.2.1
    have e193y := F182.out.2.2
    have e194 := F183.out.1
    have e194z := F183.out.2.1
    have e194y := F183.out.2.2
    go_wp2_with fail
    clear e191 e191z e191y e192 e192z e192y e193 e193z e193y e194 e194z e194y
    refine (HI.out (Value.slice u175A u175n u175c) _ (HG.out.later G186.out) F190.out.ints).mono ?_
    rintro e w_195 ⟨u197, rfl, ho198, hl199, hb196⟩
    have F200 := hid (F178.out.below hb196)
    have F201 := hid (F179.out.below hb196)
    have F202 := hid (F180.out.below hb196)
    have F203 := hid (F181.out.below hb196)
    have F204 := hid (F182.out.below hb196)
    have F205 := hid (F183.out.below hb196)
    have F206 := hid (F184.out.below hb196)
    have F207 := hid (F185.out.below hb196)
    have F208 := hid (F190.out.below hb196)
    have G209 := hid (below_to G186.out hb196)
    have Z210 := hid (show w_174.heap.size + 0 ≤ w_195.heap.size by have := hb196.size; first | omega | (simp at this; omega))
    have hn211 := ho198
    have HL212 := hid hl199
    obtain ⟨u197A, u197n, u197c, rfl⟩ := hn211.shape3
    have U213 := hid (OwnI.blockLt hn211)
    have F214 := hid hn211
    clear F178 F179 F180 F181 F182 F183 F184 F185 F190 G186 hb196 hn211 ho198 hl199
    have e215 := F200.out.1
    have e215z := F200.out.2.1
    have e215y := F200.out.2.2
    have e216 := F203.out.1
    have e216z := F203.out.2.1
    have e216y := F203.out.2.2
    have e217 := F204.out.1
    have e217z := F204.out.2.1
    have e217y := F204.out.2.2
    have e218 := F205.out.1
    have e218z := F205.out.2.1
    have e218y := F205.out.2.2
    go_wp2_with fail
    clear e215 e215z e215y e216 e216z e216y e217 e217z e217y e218 e218z e218y
    refine (eqDesk_any _ _ (X) (D) _ (F214.out.alloc _).ints (F202.out.alloc _).ints HL212.out).mono ?_
    rintro e w_219 ⟨rfl, hb220⟩
    have F221 := hid ((F200.out.alloc _).below hb220)
    have F222 := hid ((F201.out.alloc _).below hb220)
    have F223 := hid ((F202.out.alloc _).below hb220)
    have F224 := hid ((F203.out.alloc _).below hb220)
    have F225 := hid ((F204.out.alloc _).below hb220)
    have F226 := hid ((F205.out.alloc _).below hb220)
    have F227 := hid ((F206.out.alloc _).below hb220)
    have F228 := hid ((F207.out.alloc _).below hb220)
    have F229 := hid ((F208.out.alloc _).below hb220)
    have F230 := hid ((F214.out.alloc _).below hb220)
    have F231 := hid ((At2.new w_195 (Value.slice u197A u197n u197c) (.int .i64 (D)) 30).below hb220)
    have G232 := hid (below_to (below_alloc G209.out _) hb220)
    have Z233 := hid (show w_195.heap.size + 1 ≤ w_219.heap.size by have := hb220.size; first | omega | (simp at this; omega))
    clear F200 F201 F202 F203 F204 F205 F206 F207 F208 F214 G209 hb220
    have e234 := F221.out.1
    have e234z := F221.out.2.1
    have e234y := F221.out.2.2
    have e235 := F224.out.1
    have e235z := F224.out.2.1
    have e235y := F224.out.2.2
    have e236 := F225.out.1
    have e236z := F225.out.2.1
    have e236y := F225.out.2.2
    have e237 := F226.out.1
    have e237z := F226.out.2.1
    have e237y := F226.out.2.2
    have e238 := F231.out.1
    have e238z := F231.out.2.1
    have e238y := F231.out.2.2
    go_wp2_with fail
    clear e234 e234z e234y e235 e235z e235y e236 e236z e236y e237 e237z e237y e238 e238z e238y
    refine (heldDesk_any _ _ _ _ _ F228.out.ints HL66.out (by omega) (by omega)).mono ?_
    rintro e w_239 ⟨rfl, hb240⟩
    have F241 := hid (F221.out.below hb240)
    have F242 := hid (F222.out.below hb240)
    have F243 := hid (F223.out.below hb240)
    have F244 := hid (F224.out.below hb240)
    have F245 := hid (F225.out.below hb240)
    have F246 := hid (F226.out.below hb240)
    have F247 := hid (F227.out.below hb240)
    have F248 := hid (F228.out.below hb240)
    have F249 := hid (F229.out.below hb240)
    have F250 := hid (F230.out.below hb240)
    have F251 := hid (F231.out.below hb240)
    have G252 := hid (below_to G232.out hb240)
    have Z253 := hid (show w_219.heap.size + 0 ≤ w_239.heap.size by have := hb240.size; first | omega | (simp at this; omega))
    clear F221 F222 F223 F224 F225 F226 F227 F228 F229 F230 F231 G232 hb240
    go_wp2
    go_ret
    exact ⟨rfl, G252.out⟩
theorem walk {a0 a1 : Addr} (v0 : Value) (xs0 : List Int) (n0 : Int) (s1 : ByteArray) (w : World) (hv0 : Ints w v0 xs0) (hm0 : xs0.length ≤ maxLen) (wf0 : (Lit.int .i64 n0).wf = true) (hs1 : s1.size ≤ maxLen) (hG : GlobD w a0 a1) :
    Calls Tryz.prog 3 #[.agg #[v0, .int .i64 n0], .string s1] w fun e w' => e = .returned (.bool true) ∧ Below w.heap.size w w' := by
  by_cases hbig : 1048576 < s1.size
  · have hbI : (1048576 : Int) < (s1.size : Int) := by omega
    clear hG
    have hv0q := hv0
    obtain ⟨A0, c0, hsh0, -⟩ := hv0q
    subst hsh0
    have HB := hid (below_alloc (Below.refl _ w) (.cells #[.slice A0 xs0.length c0, .int .i64 n0] 26))
    clear hv0
    go_enter Tryz.func3, Tryz.ntmps3
    go_wp2
    go_ret
    exact ⟨rfl, HB.out⟩
  have hbI : ¬ (1048576 : Int) < (s1.size : Int) := by omega
  by_cases hq0 : (1048576 : Int) < xs0.length
  · exact walkBig0 v0 xs0 n0 s1 w hv0 hm0 wf0 hs1 hbI (hid (szRes_neg hq0))
  have hl0 : xs0.length ≤ 1048576 := by omega
  obtain ⟨l, rfl⟩ : ∃ l, s1 = sB l := ⟨s1.data.toList, (sB_of s1).symm⟩
  have hll : l.length ≤ 1048576 := by rw [sB_size] at hbig; omega
  exact walkSmall v0 xs0 n0 (sB l) w hv0 hm0 wf0 hs1 hbI (dlX xs0 n0 l) (dlS xs0 n0 l) (sB (dlT xs0 n0 l)) (okDL xs0 n0 l) (hid fun v W hv => specDeskLine_any v xs0 n0 l W hv hl0 hll) (hid fun v W hW hv => implDeskLine_any v xs0 n0 l W hW hv hl0) (hid hG) (hid (szRes_pos hq0)) hq0 hl0
end Go.Proofs.YtbmhaamenjhjfaaGreatDoor.lawDeskLine
