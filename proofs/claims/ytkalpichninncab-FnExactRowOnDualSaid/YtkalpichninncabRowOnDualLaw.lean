/- FnExactRowOnDual: the law's walk (by genlaw.py). -/
import Derived.Test.YtkalpichninncabRvD
import Derived.Deep.DeepCutAuto
namespace Go.Proofs.Ytkalpichninncab.lawRowOnDual
open Go.RowKit Go.WideShapes Go.ChangeShapes
set_option linter.unusedVariables false
set_option maxRecDepth 100000 in
set_option maxHeartbeats 1000000 in
theorem walkBig0 (v0 : Value) (xs0 : List Int) (n1 : Int) (w : World) (hv0 : Ints w v0 xs0) (hm0 : xs0.length ≤ maxLen) (wf1 : (Lit.int .i64 n1).wf = true) (HS0 : Hid (szRes (1048576 : Int) xs0.length = -1)) :
    Calls Try.prog 7 #[.agg #[v0], .int .i64 n1] w fun e w' => e = .returned (.bool true) ∧ Below w.heap.size w w' := by
  have HV0 := hid hv0
  clear hv0
  have WF1 := hid wf1
  clear wf1
  go_enter Try.func7, Try.ntmps7
  go_wp2_with fail
  refine (szPoset_any v0 xs0 _ _ (HV0.out.later (below_alloc (Below.refl _ w) _)) hm0 (by omega) (by omega)).mono ?_
  rw [HS0.out]
  rintro e w_1 ⟨rfl, hb2⟩
  have F3 := hid ((At.new w v0 24).below hb2)
  have G4 := hid (below_to (below_alloc (Below.refl _ w) _) hb2)
  have Z5 := hid (show w.heap.size + 1 ≤ w_1.heap.size by have := hb2.size; first | omega | (simp at this; omega))
  clear hb2
  go_wp2
  go_ret
  exact ⟨rfl, G4.out⟩
set_option maxRecDepth 100000 in
set_option maxHeartbeats 8000000 in
theorem walkSmall (v0 : Value) (xs0 : List Int) (n1 : Int) (w : World) (hv0 : Ints w v0 xs0) (hm0 : xs0.length ≤ maxLen) (wf1 : (Lit.int .i64 n1).wf = true) (HS0 : Hid (szRes (1048576 : Int) xs0.length = (1048576 : Int) - xs0.length)) (hq0 : ¬ (1048576 : Int) < xs0.length) (hl0 : xs0.length ≤ 1048576) :
    Calls Try.prog 7 #[.agg #[v0], .int .i64 n1] w fun e w' => e = .returned (.bool true) ∧ Below w.heap.size w w' := by
  have HV0 := hid hv0
  clear hv0
  have WF1 := hid wf1
  clear wf1
  go_enter Try.func7, Try.ntmps7
  go_wp2_with fail
  refine (szPoset_any v0 xs0 _ _ (HV0.out.later (below_alloc (Below.refl _ w) _)) hm0 (by omega) (by omega)).mono ?_
  rw [HS0.out]
  rintro e w_6 ⟨rfl, hb7⟩
  have F8 := hid ((At.new w v0 24).below hb7)
  have G9 := hid (below_to (below_alloc (Below.refl _ w) _) hb7)
  have Z10 := hid (show w.heap.size + 1 ≤ w_6.heap.size by have := hb7.size; first | omega | (simp at this; omega))
  clear hb7
  have e11 := F8.out.1
  have e11z := F8.out.2
  go_wp2_with fail
  clear e11 e11z
  refine (toPoset_own v0 xs0 _ (HV0.out.later G9.out) hl0).mono ?_
  rintro e w_12 ⟨u13, rfl, ho15, hb14⟩
  have F16 := hid (F8.out.below hb14)
  have G17 := hid (below_to G9.out hb14)
  have Z18 := hid (show w_6.heap.size + 0 ≤ w_12.heap.size by have := hb14.size; first | omega | (simp at this; omega))
  have hn19 := ho15
  obtain ⟨u13A, u13n, u13c, rfl⟩ := hn19.shape3
  have U20 := hid (OwnI.blockLt hn19)
  have F21 := hid hn19
  clear F8 G9 hb14 ho15 hn19
  have e22 := F16.out.1
  have e22z := F16.out.2
  go_wp2_with fail
  clear e22 e22z
  refine (specRowOnDual_any (Value.slice u13A u13n u13c) xs0 n1 _ F21.out.ints hl0 WF1.out).mono ?_
  rintro e w_23 ⟨rfl, hb24⟩
  have F25 := hid (F16.out.below hb24)
  have F26 := hid (F21.out.below hb24)
  have G27 := hid (below_to G17.out hb24)
  have Z28 := hid (show w_12.heap.size + 0 ≤ w_23.heap.size by have := hb24.size; first | omega | (simp at this; omega))
  clear F16 F21 G17 hb24
  have e29 := F25.out.1
  have e29z := F25.out.2
  go_wp2_with fail
  clear e29 e29z
  refine (toPoset_own v0 xs0 _ (HV0.out.later G27.out) hl0).mono ?_
  rintro e w_30 ⟨u31, rfl, ho33, hb32⟩
  have F34 := hid (F25.out.below hb32)
  have F35 := hid (F26.out.below hb32)
  have G36 := hid (below_to G27.out hb32)
  have Z37 := hid (show w_23.heap.size + 0 ≤ w_30.heap.size by have := hb32.size; first | omega | (simp at this; omega))
  have hn38 := ho33
  obtain ⟨u31A, u31n, u31c, rfl⟩ := hn38.shape3
  have U39 := hid (OwnI.blockLt hn38)
  have F40 := hid hn38
  clear F25 F26 G27 hb32 ho33 hn38
  have e41 := F34.out.1
  have e41z := F34.out.2
  go_wp2_with fail
  clear e41 e41z
  refine (implRowOnDual_any (Value.slice u31A u31n u31c) xs0 n1 _ (F40.out.alloc _).ints hl0 WF1.out).mono ?_
  rintro e w_42 ⟨rfl, hb43⟩
  have F44 := hid ((F34.out.alloc _).below hb43)
  have F45 := hid ((F35.out.alloc _).below hb43)
  have F46 := hid ((F40.out.alloc _).below hb43)
  have F47 := hid ((At.new w_30 (Value.slice u31A u31n u31c) 28).below hb43)
  have G48 := hid (below_to (below_alloc G36.out _) hb43)
  have Z49 := hid (show w_30.heap.size + 1 ≤ w_42.heap.size by have := hb43.size; first | omega | (simp at this; omega))
  clear F34 F35 F40 G36 hb43
  have e50 := F44.out.1
  have e50z := F44.out.2
  have e51 := F47.out.1
  have e51z := F47.out.2
  go_upto_region 10 with fail
  go_cut [43] (fun s wx => s = .bool false ∧ At wx (w.heap.size) (v0) ∧ OwnI 3 wx (w_6.heap.size) (Value.slice u13A u13n u13c) xs0 ∧ OwnI 3 wx (w_23.heap.size) (Value.slice u31A u31n u31c) xs0 ∧ At wx (w_30.heap.size) ((Value.slice u31A u31n u31c)) ∧ w_42.heap.size ≤ wx.heap.size ∧ Below w.heap.size w wx)
  case first =>
    go_region_with (first | (go_at_call 11; refine (toPoset_own v0 xs0 _ (((HV0.out.later G48.out)).drew) hl0).mono ?_; rintro e w_52 ⟨u53, rfl, ho3, hb54⟩; have K0 := hid (F44.out.drew.below hb54); have K1 := hid (F45.out.drew.below hb54); have K2 := hid (F46.out.drew.below hb54); have K3 := hid (F47.out.drew.below hb54); have KZ := hid (show w_42.heap.size ≤ w_52.heap.size by have := hb54.size; simpa using this); have KB := hid (below_to G48.out.drew hb54); have KO := hid ho3; have hx6 := K3.out.1; clear ho3 hb54) | (go_at_call 14; refine (eqPoset_any _ _ (xs0) _ K2.out.ints KO.out.ints hl0).mono ?_; rintro e w_55 ⟨rfl, hb56⟩; have M0 := hid (K0.out.below hb56); have M1 := hid (K1.out.below hb56); have M2 := hid (K2.out.below hb56); have M3 := hid (K3.out.below hb56); have MZ := hid (show w_42.heap.size ≤ w_55.heap.size by have := hb56.size; have := KZ.out; omega); have MB := hid (below_to KB.out hb56); clear hb56))
    all_goals (go_wp2_with fail; go_meet; exact ⟨rfl, M0.out, M1.out, M2.out, M3.out, MZ.out, MB.out⟩)
  case rest =>
    clear e50 e50z e51 e51z
    obtain ⟨rfl, c0, c1, c2, c3, hzc, hbc⟩ := hcut
    obtain ⟨wc57, rfl⟩ : ∃ x, x = wc := ⟨wc, rfl⟩
    have F58 := hid c0
    have F59 := hid c1
    have F60 := hid c2
    have F61 := hid c3
    have Z62 := hid hzc
    have G63 := hid hbc
    clear c0 F44 c1 F45 c2 F46 c3 F47 hzc hbc G48
    go_wp2
    go_ret
    exact ⟨rfl, G63.out⟩
theorem walk (v0 : Value) (xs0 : List Int) (n1 : Int) (w : World) (hv0 : Ints w v0 xs0) (hm0 : xs0.length ≤ maxLen) (wf1 : (Lit.int .i64 n1).wf = true) :
    Calls Try.prog 7 #[.agg #[v0], .int .i64 n1] w fun e w' => e = .returned (.bool true) ∧ Below w.heap.size w w' := by
  by_cases hq0 : (1048576 : Int) < xs0.length
  · exact walkBig0 v0 xs0 n1 w hv0 hm0 wf1   (hid (szRes_neg hq0))
  exact walkSmall v0 xs0 n1 w hv0 hm0 wf1  (hid (szRes_pos hq0)) hq0 (by omega)
end Go.Proofs.Ytkalpichninncab.lawRowOnDual
