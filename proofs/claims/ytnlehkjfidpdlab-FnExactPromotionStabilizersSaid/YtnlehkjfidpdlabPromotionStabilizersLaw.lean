/- FnExactPromotionStabilizers: the law's walk (by genlaw.py). -/
import Derived.Test.YtnlehkjfidpdlabSvA
import Derived.Deep.DeepCutAuto
namespace Go.Proofs.Ytnlehkjfidpdlab.lawPromotionStabilizers
open Go.RowKit Go.WideShapes Go.ChangeShapes
set_option linter.unusedVariables false
set_option maxRecDepth 100000 in
set_option maxHeartbeats 8000000 in
theorem walk (n0 : Int) (n1 : Int) (w : World) (wf0 : (Lit.int .i64 n0).wf = true) (wf1 : (Lit.int .i64 n1).wf = true) :
    Calls Try.prog 6 #[.int .i64 n0, .int .i64 n1] w fun e w' => e = .returned (.bool true) ∧ Below w.heap.size w w' := by
  have WF0 := hid wf0
  clear wf0
  have WF1 := hid wf1
  clear wf1
  go_enter Try.func6, Try.ntmps6
  go_wp2_with fail
  refine (specPromotionStabilizers_any n0 n1 _ WF0.out WF1.out).mono ?_
  rintro e w_1 ⟨u3, rfl, ho4, hl5, hb2⟩
  have G6 := hid (below_to (Below.refl _ w) hb2)
  have Z7 := hid (show w.heap.size + 0 ≤ w_1.heap.size by have := hb2.size; first | omega | (simp at this; omega))
  have hn8 := ho4
  have HL9 := hid hl5
  obtain ⟨u3A, u3n, u3c, rfl⟩ := hn8.shape3
  have U10 := hid (OwnI.blockLt hn8)
  have F11 := hid hn8
  clear hb2 hn8 ho4 hl5
  go_wp2_with fail
  refine (implPromotionStabilizers_any n0 n1 _ WF0.out WF1.out).mono ?_
  rintro e w_12 ⟨u14, rfl, ho15, hl16, hb13⟩
  have F17 := hid (F11.out.below hb13)
  have G18 := hid (below_to G6.out hb13)
  have Z19 := hid (show w_1.heap.size + 0 ≤ w_12.heap.size by have := hb13.size; first | omega | (simp at this; omega))
  have hn20 := ho15
  have HL21 := hid hl16
  obtain ⟨u14A, u14n, u14c, rfl⟩ := hn20.shape3
  have U22 := hid (OwnI.blockLt hn20)
  have F23 := hid hn20
  clear F11 G6 hb13 hn20 ho15 hl16
  go_wp2_with fail
  refine (eqIntS_any _ _ ((ansPS n0 n1)) _ F23.out.ints F17.out.ints HL21.out).mono ?_
  rintro e w_24 ⟨rfl, hb25⟩
  have F26 := hid (F17.out.below hb25)
  have F27 := hid (F23.out.below hb25)
  have G28 := hid (below_to G18.out hb25)
  have Z29 := hid (show w_12.heap.size + 0 ≤ w_24.heap.size by have := hb25.size; first | omega | (simp at this; omega))
  clear F17 F23 G18 hb25
  go_wp2_with fail
  refine (markIntS_any _ ((ansPS n0 n1)) _ _ _ F27.out HL21.out (by omega) (by first | omega | (have := HL21.out; omega))).mono ?_
  rintro e w_30 ⟨rfl, ho31, hg32⟩
  have qZ7 := Z7.out
  have qZ19 := Z19.out
  have qZ29 := Z29.out
  have F33 := hid (F26.out.grown hg32 (row_ne_row (U10.out) (U22.out) (by omega)))
  have G34 := hid (below_grown G28.out hg32 (fun k hk => by have := U22.out k hk; omega))
  have Z35 := hid (show w_24.heap.size + 0 ≤ w_30.heap.size by have := hg32.size; first | omega | (simp at this; omega))
  clear qZ7 qZ19 qZ29
  have F36 := hid ho31
  clear F26 G28 F27 ho31 hg32
  go_wp2_with fail
  refine (heldIntS_any _ _ _ _ F36.out.ints HL21.out (by omega) (by omega)).mono ?_
  rintro e w_37 ⟨rfl, hb38⟩
  have F39 := hid (F33.out.below hb38)
  have F40 := hid (F36.out.below hb38)
  have G41 := hid (below_to G34.out hb38)
  have Z42 := hid (show w_30.heap.size + 0 ≤ w_37.heap.size by have := hb38.size; first | omega | (simp at this; omega))
  clear F33 F36 G34 hb38
  go_wp2_with fail
  refine (implPromotionStabilizers_any n0 n1 _ WF0.out WF1.out).mono ?_
  rintro e w_43 ⟨u45, rfl, ho46, hl47, hb44⟩
  have F48 := hid (F39.out.below hb44)
  have F49 := hid (F40.out.below hb44)
  have G50 := hid (below_to G41.out hb44)
  have Z51 := hid (show w_37.heap.size + 0 ≤ w_43.heap.size by have := hb44.size; first | omega | (simp at this; omega))
  have hn52 := ho46
  have HL53 := hid hl47
  obtain ⟨u45A, u45n, u45c, rfl⟩ := hn52.shape3
  have U54 := hid (OwnI.blockLt hn52)
  have F55 := hid hn52
  clear F39 F40 G41 hb44 hn52 ho46 hl47
  go_wp2_with fail
  refine (eqIntS_any _ _ ((ansPS n0 n1)) _ F55.out.ints F48.out.ints HL53.out).mono ?_
  rintro e w_56 ⟨rfl, hb57⟩
  have F58 := hid (F48.out.below hb57)
  have F59 := hid (F49.out.below hb57)
  have F60 := hid (F55.out.below hb57)
  have G61 := hid (below_to G50.out hb57)
  have Z62 := hid (show w_43.heap.size + 0 ≤ w_56.heap.size by have := hb57.size; first | omega | (simp at this; omega))
  clear F48 F49 F55 G50 hb57
  go_wp2_with fail
  refine (heldIntS_any _ _ _ _ F59.out.ints HL21.out (by omega) (by omega)).mono ?_
  rintro e w_63 ⟨rfl, hb64⟩
  have F65 := hid (F58.out.below hb64)
  have F66 := hid (F59.out.below hb64)
  have F67 := hid (F60.out.below hb64)
  have G68 := hid (below_to G61.out hb64)
  have Z69 := hid (show w_56.heap.size + 0 ≤ w_63.heap.size by have := hb64.size; first | omega | (simp at this; omega))
  clear F58 F59 F60 G61 hb64
  go_wp2
  go_ret
  exact ⟨rfl, G68.out⟩

end Go.Proofs.Ytnlehkjfidpdlab.lawPromotionStabilizers
