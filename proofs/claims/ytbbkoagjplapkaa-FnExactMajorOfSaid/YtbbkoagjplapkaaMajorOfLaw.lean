/- FnExactMajorOf: the law's walk (by genlaw.py). -/
import Derived.Test.YtbbkoagjplapkaaTabL
import Derived.Test.YtbbkoagjplapkaaTabK
import Derived.Test.YtbbkoagjplapkaaNest2
import Derived.Deep.DeepCutAuto
namespace Go.Proofs.Ytbbkoagjplapkaa.lawMajorOf
open Go.RowKit Go.WideShapes Go.ChangeShapes
set_option linter.unusedVariables false
set_option maxRecDepth 100000 in
set_option maxHeartbeats 1000000 in
theorem walkBig0 (v0 : Value) (xs0 : List (List Int)) (w : World) (hv0 : IntsSS w v0 xs0) (hm0 : xs0.length ≤ maxLen) (hr0 : ∀ j, j < xs0.length → (xs0.getD j []).length ≤ maxLen) (q0 : Int) (HS0 : Hid (szAll (1048576 : Int) xs0 = q0)) (hq0 : q0 < 0) :
    Calls Try.prog 11 #[v0] w fun e w' => e = .returned (.bool true) ∧ Below w.heap.size w w' := by
  have HV0 := hid hv0
  clear hv0
  go_enter Try.func11, Try.ntmps11
  go_wp2_with fail
  refine (szIntSS_any v0 xs0 _ _ HV0.out hm0 hr0 (by omega) (by omega)).mono ?_
  rw [HS0.out]
  rintro e w_1 ⟨rfl, hb2⟩
  have G3 := hid (below_to (Below.refl _ w) hb2)
  have Z4 := hid (show w.heap.size + 0 ≤ w_1.heap.size by have := hb2.size; first | omega | (simp at this; omega))
  clear hb2
  go_wp2
  go_ret
  exact ⟨rfl, G3.out⟩
set_option maxRecDepth 100000 in
set_option maxHeartbeats 8000000 in
theorem walkSmall (v0 : Value) (xs0 : List (List Int)) (w : World) (hv0 : IntsSS w v0 xs0) (hm0 : xs0.length ≤ maxLen) (hr0 : ∀ j, j < xs0.length → (xs0.getD j []).length ≤ maxLen) (q0 : Int) (HS0 : Hid (szAll (1048576 : Int) xs0 = q0)) (hq0 : ¬ q0 < 0) (hl0 : SSmall xs0) :
    Calls Try.prog 11 #[v0] w fun e w' => e = .returned (.bool true) ∧ Below w.heap.size w w' := by
  have HV0 := hid hv0
  clear hv0
  go_enter Try.func11, Try.ntmps11
  go_wp2_with fail
  refine (szIntSS_any v0 xs0 _ _ HV0.out hm0 hr0 (by omega) (by omega)).mono ?_
  rw [HS0.out]
  rintro e w_5 ⟨rfl, hb6⟩
  have G7 := hid (below_to (Below.refl _ w) hb6)
  have Z8 := hid (show w.heap.size + 0 ≤ w_5.heap.size by have := hb6.size; first | omega | (simp at this; omega))
  clear hb6
  go_wp2_with fail
  refine (toIntSS_own v0 xs0 _ (HV0.out.below G7.out) hl0).mono ?_
  rintro e w_9 ⟨u10, rfl, ho12, hb11⟩
  have G15 := hid (below_to G7.out hb11)
  have Z16 := hid (show w_5.heap.size + 0 ≤ w_9.heap.size by have := hb11.size; first | omega | (simp at this; omega))
  have hn13 := ho12
  obtain ⟨u10A, u10n, u10c, rfl⟩ := hn13.shape3
  have F14 := hid hn13
  clear G7 hb11 ho12 hn13
  go_wp2_with fail
  refine (specMajorOf_any (Value.slice u10A u10n u10c) xs0 _ F14.out.ints hl0).mono ?_
  rintro e w_17 ⟨rfl, hb18⟩
  have F19 := hid (F14.out.below hb18)
  have G20 := hid (below_to G15.out hb18)
  have Z21 := hid (show w_9.heap.size + 0 ≤ w_17.heap.size by have := hb18.size; first | omega | (simp at this; omega))
  clear F14 G15 hb18
  go_wp2_with fail
  refine (toIntSS_own v0 xs0 _ (HV0.out.below G20.out) hl0).mono ?_
  rintro e w_22 ⟨u23, rfl, ho25, hb24⟩
  have F28 := hid (F19.out.below hb24)
  have G29 := hid (below_to G20.out hb24)
  have Z30 := hid (show w_17.heap.size + 0 ≤ w_22.heap.size by have := hb24.size; first | omega | (simp at this; omega))
  have hn26 := ho25
  obtain ⟨u23A, u23n, u23c, rfl⟩ := hn26.shape3
  have F27 := hid hn26
  clear F19 G20 hb24 ho25 hn26
  go_wp2_with fail
  refine (implMajorOf_any (Value.slice u23A u23n u23c) xs0 _ F27.out.ints hl0).mono ?_
  rintro e w_31 ⟨rfl, hb32⟩
  have F33 := hid (F28.out.below hb32)
  have F34 := hid (F27.out.below hb32)
  have G35 := hid (below_to G29.out hb32)
  have Z36 := hid (show w_22.heap.size + 0 ≤ w_31.heap.size by have := hb32.size; first | omega | (simp at this; omega))
  clear F28 F27 G29 hb32
  go_wp2_with fail
  refine (toIntSS_own v0 xs0 _ (HV0.out.below G35.out) hl0).mono ?_
  rintro e w_37 ⟨u38, rfl, ho40, hb39⟩
  have F43 := hid (F33.out.below hb39)
  have F44 := hid (F34.out.below hb39)
  have G45 := hid (below_to G35.out hb39)
  have Z46 := hid (show w_31.heap.size + 0 ≤ w_37.heap.size by have := hb39.size; first | omega | (simp at this; omega))
  have hn41 := ho40
  obtain ⟨u38A, u38n, u38c, rfl⟩ := hn41.shape3
  have F42 := hid hn41
  clear F33 F34 G35 hb39 ho40 hn41
  go_wp2_with fail
  refine (eqIntSS_any _ _ (xs0) _ F44.out.ints F42.out.ints hl0.1 hl0.2.1).mono ?_
  rintro e w_47 ⟨rfl, hb48⟩
  have F49 := hid (F43.out.below hb48)
  have F50 := hid (F44.out.below hb48)
  have F51 := hid (F42.out.below hb48)
  have G52 := hid (below_to G45.out hb48)
  have Z53 := hid (show w_37.heap.size + 0 ≤ w_47.heap.size by have := hb48.size; first | omega | (simp at this; omega))
  clear F43 F44 F42 G45 hb48
  go_wp2
  go_ret
  exact ⟨rfl, G52.out⟩
theorem walk (v0 : Value) (xs0 : List (List Int)) (w : World) (hv0 : IntsSS w v0 xs0) (hm0 : xs0.length ≤ maxLen) (hr0 : ∀ j, j < xs0.length → (xs0.getD j []).length ≤ maxLen) :
    Calls Try.prog 11 #[v0] w fun e w' => e = .returned (.bool true) ∧ Below w.heap.size w w' := by
  by_cases hq0 : szAll (1048576 : Int) xs0 < 0
  · exact walkBig0 v0 xs0 w hv0 hm0 hr0  _ (hid rfl) hq0
  exact walkSmall v0 xs0 w hv0 hm0 hr0  _ (hid rfl) hq0 (szAll_small (left := 1048576) (by omega) (by omega))
end Go.Proofs.Ytbbkoagjplapkaa.lawMajorOf
