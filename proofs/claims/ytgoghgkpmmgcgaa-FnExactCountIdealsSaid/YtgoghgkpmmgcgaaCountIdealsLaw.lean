/- FnExactCountIdeals: the law's walk (by genlaw.py). -/
import Derived.Test.YtgoghgkpmmgcgaaIdeals
import Derived.Deep.DeepCutAuto
namespace Go.Proofs.Ytgoghgkpmmgcgaa.lawCountIdeals
open Go.RowKit Go.WideShapes Go.ChangeShapes
set_option linter.unusedVariables false
set_option maxHeartbeats 4000000 in
theorem walkSmall (v0 : Value) (xs0 : List Int) (w : World) (hv0 : Ints w v0 xs0) (hm0 : xs0.length ≤ maxLen) (hl0 : xs0.length ≤ 1048576) (HS0 : Hid (szRes (1048576 : Int) xs0.length = (1048576 : Int) - xs0.length)) (hq0 : ¬ (1048576 : Int) < xs0.length) :
    Calls Try.prog 10 #[.agg #[v0]] w fun e w' => e = .returned (.bool true) ∧ Below w.heap.size w w' := by
  have HV0 := hid hv0
  clear hv0
  go_enter Try.func10, Try.ntmps10
  go_wp2_with fail
  refine (szPoset_any v0 xs0 _ _ (HV0.out.later (below_alloc (Below.refl _ w) _)) hm0 (by omega) (by omega)).mono ?_
  rw [HS0.out]
  rintro e w_1 ⟨rfl, hb2⟩
  have F3 := hid ((At.new w v0 24).below hb2)
  have G4 := hid (below_to (below_alloc (Below.refl _ w) _) hb2)
  have Z5 := hid (show w.heap.size + 1 ≤ w_1.heap.size by have := hb2.size; first | omega | (simp at this; omega))
  clear hb2
  have e6 := F3.out.1
  have e6z := F3.out.2
  go_wp2_with fail
  clear e6 e6z
  refine (toPoset_own v0 xs0 _ (HV0.out.later G4.out) hl0).mono ?_
  rintro e w_7 ⟨u8, rfl, ho10, hb9⟩
  have F11 := hid (F3.out.below hb9)
  have G12 := hid (below_to G4.out hb9)
  have Z13 := hid (show w_1.heap.size + 0 ≤ w_7.heap.size by have := hb9.size; first | omega | (simp at this; omega))
  have hn14 := ho10
  obtain ⟨u8A, u8n, u8c, rfl⟩ := hn14.shape3
  have U15 := hid (OwnI.blockLt hn14)
  have F16 := hid hn14
  clear F3 G4 hb9 ho10 hn14
  have e17 := F11.out.1
  have e17z := F11.out.2
  go_wp2_with fail
  clear e17 e17z
  refine (specCountIdeals_any (Value.slice u8A u8n u8c) xs0 _ F16.out.ints hl0).mono ?_
  rintro e w_18 ⟨rfl, hb19⟩
  have F20 := hid (F11.out.below hb19)
  have F21 := hid (F16.out.below hb19)
  have G22 := hid (below_to G12.out hb19)
  have Z23 := hid (show w_7.heap.size + 0 ≤ w_18.heap.size by have := hb19.size; first | omega | (simp at this; omega))
  clear F11 F16 G12 hb19
  have e24 := F20.out.1
  have e24z := F20.out.2
  go_wp2_with fail
  clear e24 e24z
  refine (toPoset_own v0 xs0 _ (HV0.out.later G22.out) hl0).mono ?_
  rintro e w_25 ⟨u26, rfl, ho28, hb27⟩
  have F29 := hid (F20.out.below hb27)
  have F30 := hid (F21.out.below hb27)
  have G31 := hid (below_to G22.out hb27)
  have Z32 := hid (show w_18.heap.size + 0 ≤ w_25.heap.size by have := hb27.size; first | omega | (simp at this; omega))
  have hn33 := ho28
  obtain ⟨u26A, u26n, u26c, rfl⟩ := hn33.shape3
  have U34 := hid (OwnI.blockLt hn33)
  have F35 := hid hn33
  clear F20 F21 G22 hb27 ho28 hn33
  have e36 := F29.out.1
  have e36z := F29.out.2
  go_wp2_with fail
  clear e36 e36z
  refine (implCountIdeals_any (Value.slice u26A u26n u26c) xs0 _ (F35.out.alloc _).ints hl0).mono ?_
  rintro e w_37 ⟨rfl, hb38⟩
  have F39 := hid ((F29.out.alloc _).below hb38)
  have F40 := hid ((F30.out.alloc _).below hb38)
  have F41 := hid ((F35.out.alloc _).below hb38)
  have F42 := hid ((At.new w_25 (Value.slice u26A u26n u26c) 27).below hb38)
  have G43 := hid (below_to (below_alloc G31.out _) hb38)
  have Z44 := hid (show w_25.heap.size + 1 ≤ w_37.heap.size by have := hb38.size; first | omega | (simp at this; omega))
  clear F29 F30 F35 G31 hb38
  have e45 := F39.out.1
  have e45z := F39.out.2
  have e46 := F42.out.1
  have e46z := F42.out.2
  go_upto_region 10 with fail
  go_cut [39] (fun s wx => s = .bool false ∧ At wx (w.heap.size) (v0) ∧ OwnI 3 wx (w_1.heap.size) (Value.slice u8A u8n u8c) xs0 ∧ OwnI 3 wx (w_18.heap.size) (Value.slice u26A u26n u26c) xs0 ∧ At wx (w_25.heap.size) ((Value.slice u26A u26n u26c)) ∧ w_37.heap.size ≤ wx.heap.size ∧ Below w.heap.size w wx)
  case first =>
    go_region_with (first | (go_at_call 14; refine (toPoset_own v0 xs0 _ (((HV0.out.later G43.out)).drew) hl0).mono ?_; rintro e w_47 ⟨u48, rfl, ho3, hb49⟩; have K0 := hid (F39.out.drew.below hb49); have K1 := hid (F40.out.drew.below hb49); have K2 := hid (F41.out.drew.below hb49); have K3 := hid (F42.out.drew.below hb49); have KZ := hid (show w_37.heap.size ≤ w_47.heap.size by have := hb49.size; simpa using this); have KB := hid (below_to G43.out.drew hb49); have KO := hid ho3; have hx6 := K3.out.1; clear ho3 hb49) | (go_at_call 16; refine (eqPoset_any _ _ (xs0) _ K2.out.ints KO.out.ints hl0).mono ?_; rintro e w_50 ⟨rfl, hb51⟩; have M0 := hid (K0.out.below hb51); have M1 := hid (K1.out.below hb51); have M2 := hid (K2.out.below hb51); have M3 := hid (K3.out.below hb51); have MZ := hid (show w_37.heap.size ≤ w_50.heap.size by have := hb51.size; have := KZ.out; omega); have MB := hid (below_to KB.out hb51); clear hb51))
    all_goals (go_wp2_with fail; go_meet; exact ⟨rfl, M0.out, M1.out, M2.out, M3.out, MZ.out, MB.out⟩)
  case rest =>
    clear e45 e45z e46 e46z
    obtain ⟨rfl, c0, c1, c2, c3, hzc, hbc⟩ := hcut
    have F52 := hid c0
    have F53 := hid c1
    have F54 := hid c2
    have F55 := hid c3
    have Z56 := hid hzc
    have G57 := hid hbc
    clear c0 F39 c1 F40 c2 F41 c3 F42 hzc hbc G43
    have e58 := F52.out.1
    have e58z := F52.out.2
    have e59 := F55.out.1
    have e59z := F55.out.2
    go_wp2
    go_ret
    exact ⟨rfl, G57.out⟩
set_option maxHeartbeats 1000000 in
theorem walk (v0 : Value) (xs0 : List Int) (w : World) (hv0 : Ints w v0 xs0) (hm0 : xs0.length ≤ maxLen) :
    Calls Try.prog 10 #[.agg #[v0]] w fun e w' => e = .returned (.bool true) ∧ Below w.heap.size w w' := by
  by_cases hbig : 1048576 < xs0.length
  · have Hs := hid (szRes_neg (show (1048576 : Int) < xs0.length by omega))
    have HV := hid hv0
    clear hv0
    go_enter Try.func10, Try.ntmps10
    go_wp2_with (go_at_call 12; refine (szPoset_any v0 xs0 _ _ (HV.out.alloc _) hm0 (by omega) (by omega)).mono ?_; rw [Hs.out]; rintro e w1 ⟨rfl, hb1⟩)
    go_ret
    exact ⟨rfl, ((Below.refl _ _).alloc (Nat.le_refl _) _).trans (hb1.mono (by simp))⟩
  · exact walkSmall v0 xs0 w hv0 hm0 (by omega) (hid (szRes_pos (show ¬ (1048576 : Int) < xs0.length by omega))) (by omega)
end Go.Proofs.Ytgoghgkpmmgcgaa.lawCountIdeals
