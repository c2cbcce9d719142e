/- FnExactParsePoset: the law's walk (by genlaw.py). -/
import Derived.Test.YtiodligebnnodaaDoorPsV
import Derived.Test.YtiodligebnnodaaDoorLaw
import Derived.Deep.DeepCutAuto
namespace Go.Proofs.YtiodligebnnodaaDoor.lawParsePoset
open Go.RowKit Go.WideShapes Go.ChangeShapes
set_option linter.unusedVariables false
set_option maxRecDepth 100000 in
set_option maxHeartbeats 8000000 in
theorem walk (s0 : ByteArray) (w : World) (hs0 : s0.size ≤ maxLen) (hG : Glob w) :
    Calls Tryd.prog 3 #[.string s0] w fun e w' => e = .returned (.bool true) ∧ Below w.heap.size w w' := by
  by_cases hbig : 1048576 < s0.size
  · have hbI : (1048576 : Int) < (s0.size : Int) := by omega
    clear hG
    go_enter Tryd.func3, Tryd.ntmps3
    go_wp2
    go_ret
    exact ⟨rfl, Below.refl _ _⟩
  have hbI : ¬ (1048576 : Int) < (s0.size : Int) := by omega
  obtain ⟨pb, px, hpl, hS, hI⟩ := parse_s s0 (by omega)
  have HS := hid hS
  have HI := hid hI
  have HG := hid hG
  clear hS hI hG
  go_enter Tryd.func3, Tryd.ntmps3
  go_wp2_with fail
  refine (HS.out _).mono ?_
  rintro e w_1 ⟨u3, rfl, ho4, hl5, hb2⟩
  have G6 := hid (below_to (Below.refl _ w) hb2)
  have Z7 := hid (show w.heap.size + 0 ≤ w_1.heap.size by have := hb2.size; first | omega | (simp at this; omega))
  have hn8 := ho4
  have HL9 := hid hl5
  obtain ⟨u3A, u3n, u3c, rfl⟩ := hn8.shape3
  have U10 := hid (OwnI.blockLt hn8)
  have F11 := hid hn8
  clear hb2 hn8 ho4 hl5
  go_wp2_with fail
  refine (HI.out _ (HG.out.later (below_alloc G6.out _))).mono ?_
  rintro e w_12 ⟨u14, rfl, ho15, hl16, hb13⟩
  have F17 := hid ((F11.out.alloc _).below hb13)
  have F18 := hid ((At.new w_1 (Value.slice u3A u3n u3c) 24).below hb13)
  have G19 := hid (below_to (below_alloc G6.out _) hb13)
  have Z20 := hid (show w_1.heap.size + 1 ≤ w_12.heap.size by have := hb13.size; first | omega | (simp at this; omega))
  have hn21 : OwnI 3 w_12 (w_1.heap.size + 1) u14 px := by simpa using ho15
  have HL22 := hid hl16
  obtain ⟨u14A, u14n, u14c, rfl⟩ := hn21.shape3
  have U23 := hid (OwnI.blockLt hn21)
  have F24 := hid hn21
  clear F11 G6 hb13 hn21 ho15 hl16
  have e25 := F18.out.1
  have e25z := F18.out.2
  go_wp2_with fail
  clear e25 e25z
  refine (eqPoset_any _ _ px _ (F24.out.alloc _).ints (F17.out.alloc _).ints HL22.out).mono ?_
  rintro e w_26 ⟨rfl, hb27⟩
  have F28 := hid ((F17.out.alloc _).below hb27)
  have F29 := hid ((F18.out.alloc _).below hb27)
  have F30 := hid ((F24.out.alloc _).below hb27)
  have F31 := hid ((At.new w_12 (Value.slice u14A u14n u14c) 24).below hb27)
  have G32 := hid (below_to (below_alloc G19.out _) hb27)
  have Z33 := hid (show w_12.heap.size + 1 ≤ w_26.heap.size by have := hb27.size; first | omega | (simp at this; omega))
  clear F17 F18 F24 G19 hb27
  have e34 := F29.out.1
  have e34z := F29.out.2
  have e35 := F31.out.1
  have e35z := F31.out.2
  go_wp2_with fail
  clear e34 e34z e35 e35z
  refine (markPoset_any _ px _ _ _ F30.out HL22.out (by omega) (by first | omega | (have := HL22.out; omega))).mono ?_
  rintro e w_36 ⟨rfl, ho37, hg38⟩
  have qZ7 := Z7.out
  have qZ20 := Z20.out
  have qZ33 := Z33.out
  have F39 := hid (F28.out.grown hg38 (row_ne_row (U10.out) (U23.out) (by omega)))
  have F40 := hid (F29.out.grown hg38 (row_ne_box (U23.out) (by omega)))
  have F41 := hid (F31.out.grown hg38 (row_ne_box (U23.out) (by omega)))
  have G42 := hid (below_grown G32.out hg38 (fun k hk => by have := U23.out k hk; omega))
  have Z43 := hid (show w_26.heap.size + 0 ≤ w_36.heap.size by have := hg38.size; first | omega | (simp at this; omega))
  clear qZ7 qZ20 qZ33
  have F44 := hid ho37
  clear F28 F29 F31 G32 F30 ho37 hg38
  have e45 := F40.out.1
  have e45z := F40.out.2
  have e46 := F41.out.1
  have e46z := F41.out.2
  go_wp2_with fail
  clear e45 e45z e46 e46z
  refine (heldPoset_any _ _ _ _ F44.out.ints HL22.out (by omega) (by omega)).mono ?_
  rintro e w_47 ⟨rfl, hb48⟩
  have F49 := hid (F39.out.below hb48)
  have F50 := hid (F40.out.below hb48)
  have F51 := hid (F41.out.below hb48)
  have F52 := hid (F44.out.below hb48)
  have G53 := hid (below_to G42.out hb48)
  have Z54 := hid (show w_36.heap.size + 0 ≤ w_47.heap.size by have := hb48.size; first | omega | (simp at this; omega))
  clear F39 F40 F41 F44 G42 hb48
  have e55 := F50.out.1
  have e55z := F50.out.2
  have e56 := F51.out.1
  have e56z := F51.out.2
  go_wp2_with fail
  clear e55 e55z e56 e56z
  refine (HI.out _ (HG.out.later G53.out)).mono ?_
  rintro e w_57 ⟨u59, rfl, ho60, hl61, hb58⟩
  have F62 := hid (F49.out.below hb58)
  have F63 := hid (F50.out.below hb58)
  have F64 := hid (F51.out.below hb58)
  have F65 := hid (F52.out.below hb58)
  have G66 := hid (below_to G53.out hb58)
  have Z67 := hid (show w_47.heap.size + 0 ≤ w_57.heap.size by have := hb58.size; first | omega | (simp at this; omega))
  have hn68 := ho60
  have HL69 := hid hl61
  obtain ⟨u59A, u59n, u59c, rfl⟩ := hn68.shape3
  have U70 := hid (OwnI.blockLt hn68)
  have F71 := hid hn68
  clear F49 F50 F51 F52 G53 hb58 hn68 ho60 hl61
  have e72 := F63.out.1
  have e72z := F63.out.2
  have e73 := F64.out.1
  have e73z := F64.out.2
  go_wp2_with fail
  clear e72 e72z e73 e73z
  refine (eqPoset_any _ _ px _ (F71.out.alloc _).ints (F62.out.alloc _).ints HL69.out).mono ?_
  rintro e w_74 ⟨rfl, hb75⟩
  have F76 := hid ((F62.out.alloc _).below hb75)
  have F77 := hid ((F63.out.alloc _).below hb75)
  have F78 := hid ((F64.out.alloc _).below hb75)
  have F79 := hid ((F65.out.alloc _).below hb75)
  have F80 := hid ((F71.out.alloc _).below hb75)
  have F81 := hid ((At.new w_57 (Value.slice u59A u59n u59c) 24).below hb75)
  have G82 := hid (below_to (below_alloc G66.out _) hb75)
  have Z83 := hid (show w_57.heap.size + 1 ≤ w_74.heap.size by have := hb75.size; first | omega | (simp at this; omega))
  clear F62 F63 F64 F65 F71 G66 hb75
  have e84 := F77.out.1
  have e84z := F77.out.2
  have e85 := F78.out.1
  have e85z := F78.out.2
  have e86 := F81.out.1
  have e86z := F81.out.2
  go_wp2_with fail
  clear e84 e84z e85 e85z e86 e86z
  refine (heldPoset_any _ _ _ _ F79.out.ints HL22.out (by omega) (by omega)).mono ?_
  rintro e w_87 ⟨rfl, hb88⟩
  have F89 := hid (F76.out.below hb88)
  have F90 := hid (F77.out.below hb88)
  have F91 := hid (F78.out.below hb88)
  have F92 := hid (F79.out.below hb88)
  have F93 := hid (F80.out.below hb88)
  have F94 := hid (F81.out.below hb88)
  have G95 := hid (below_to G82.out hb88)
  have Z96 := hid (show w_74.heap.size + 0 ≤ w_87.heap.size by have := hb88.size; first | omega | (simp at this; omega))
  clear F76 F77 F78 F79 F80 F81 G82 hb88
  go_wp2
  go_ret
  exact ⟨rfl, G95.out⟩

end Go.Proofs.YtiodligebnnodaaDoor.lawParsePoset
