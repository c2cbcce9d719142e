/- FnExactStackOf: the law's walk (by genlaw.py). -/
import Derived.Test.YtkcjppbplllaiabJoinI
import Derived.Test.YtkcjppbplllaiabLaw
import Derived.Deep.DeepCutAuto
namespace Go.Proofs.Ytkcjppbplllaiab.lawStackOf
open Go.RowKit Go.WideShapes Go.ChangeShapes
set_option linter.unusedVariables false
set_option maxRecDepth 100000 in
set_option maxHeartbeats 1000000 in
theorem walkBig0 (v0 : Value) (xs0 : List Int) (v1 : Value) (xs1 : List Int) (w : World) (hv0 : Ints w v0 xs0) (hm0 : xs0.length ≤ maxLen) (hv1 : Ints w v1 xs1) (hm1 : xs1.length ≤ maxLen) (HS0 : Hid (szRes (1048576 : Int) xs0.length = -1)) :
    Calls Try.prog 9 #[.agg #[v0], .agg #[v1]] w fun e w' => e = .returned (.bool true) ∧ Below w.heap.size w w' := by
  have HV0 := hid hv0
  clear hv0
  have HV1 := hid hv1
  clear hv1
  go_enter Try.func9, Try.ntmps9
  go_wp2_with fail
  refine (szPoset_any v0 xs0 _ _ (HV0.out.later (below_alloc (below_alloc (Below.refl _ w) _) _)) hm0 (by omega) (by omega)).mono ?_
  rw [HS0.out]
  rintro e w_1 ⟨rfl, hb2⟩
  have F3 := hid (((At.new w v0 46).alloc _).below hb2)
  have F4 := hid ((At.newAt _ v1 46 (w.heap.size + 1) (by simp)).below hb2)
  have G5 := hid (below_to (below_alloc (below_alloc (Below.refl _ w) _) _) hb2)
  have Z6 := hid (show w.heap.size + 2 ≤ w_1.heap.size by have := hb2.size; first | omega | (simp at this; omega))
  clear hb2
  go_wp2
  go_ret
  exact ⟨rfl, G5.out⟩
set_option maxRecDepth 100000 in
set_option maxHeartbeats 1000000 in
theorem walkBig1 (v0 : Value) (xs0 : List Int) (v1 : Value) (xs1 : List Int) (w : World) (hv0 : Ints w v0 xs0) (hm0 : xs0.length ≤ maxLen) (hv1 : Ints w v1 xs1) (hm1 : xs1.length ≤ maxLen) (HS0 : Hid (szRes (1048576 : Int) xs0.length = (1048576 : Int) - xs0.length)) (hq0 : ¬ (1048576 : Int) < xs0.length) (hl0 : xs0.length ≤ 1048576) (HS1 : Hid (szRes ((1048576 : Int) - xs0.length) xs1.length = -1)) :
    Calls Try.prog 9 #[.agg #[v0], .agg #[v1]] w fun e w' => e = .returned (.bool true) ∧ Below w.heap.size w w' := by
  have HV0 := hid hv0
  clear hv0
  have HV1 := hid hv1
  clear hv1
  go_enter Try.func9, Try.ntmps9
  go_wp2_with fail
  refine (szPoset_any v0 xs0 _ _ (HV0.out.later (below_alloc (below_alloc (Below.refl _ w) _) _)) hm0 (by omega) (by omega)).mono ?_
  rw [HS0.out]
  rintro e w_7 ⟨rfl, hb8⟩
  have F9 := hid (((At.new w v0 46).alloc _).below hb8)
  have F10 := hid ((At.newAt _ v1 46 (w.heap.size + 1) (by simp)).below hb8)
  have G11 := hid (below_to (below_alloc (below_alloc (Below.refl _ w) _) _) hb8)
  have Z12 := hid (show w.heap.size + 2 ≤ w_7.heap.size by have := hb8.size; first | omega | (simp at this; omega))
  clear hb8
  have e15 := F9.out.1
  have e15z := F9.out.2
  have e16 := F10.out.1
  have e16z := F10.out.2
  go_wp2_with fail
  clear e15 e15z e16 e16z
  refine (szPoset_any v1 xs1 _ _ (HV1.out.later G11.out) hm1 (by omega) (by omega)).mono ?_
  rw [HS1.out]
  rintro e w_13 ⟨rfl, hb14⟩
  have F17 := hid (F9.out.below hb14)
  have F18 := hid (F10.out.below hb14)
  have G19 := hid (below_to G11.out hb14)
  have Z20 := hid (show w_7.heap.size + 0 ≤ w_13.heap.size by have := hb14.size; first | omega | (simp at this; omega))
  clear F9 F10 G11 hb14
  go_wp2
  go_ret
  exact ⟨rfl, G19.out⟩
set_option maxRecDepth 100000 in
set_option maxHeartbeats 8000000 in
theorem walkSmall (v0 : Value) (xs0 : List Int) (v1 : Value) (xs1 : List Int) (w : World) (hv0 : Ints w v0 xs0) (hm0 : xs0.length ≤ maxLen) (hv1 : Ints w v1 xs1) (hm1 : xs1.length ≤ maxLen) (HS0 : Hid (szRes (1048576 : Int) xs0.length = (1048576 : Int) - xs0.length)) (hq0 : ¬ (1048576 : Int) < xs0.length) (hl0 : xs0.length ≤ 1048576) (HS1 : Hid (szRes ((1048576 : Int) - xs0.length) xs1.length = ((1048576 : Int) - xs0.length) - xs1.length)) (hq1 : ¬ ((1048576 : Int) - xs0.length) < xs1.length) (hl1 : xs1.length ≤ 1048576) :
    Calls Try.prog 9 #[.agg #[v0], .agg #[v1]] w fun e w' => e = .returned (.bool true) ∧ Below w.heap.size w w' := by
  have HV0 := hid hv0
  clear hv0
  have HV1 := hid hv1
  clear hv1
  go_enter Try.func9, Try.ntmps9
  go_wp2_with fail
  refine (szPoset_any v0 xs0 _ _ (HV0.out.later (below_alloc (below_alloc (Below.refl _ w) _) _)) hm0 (by omega) (by omega)).mono ?_
  rw [HS0.out]
  rintro e w_21 ⟨rfl, hb22⟩
  have F23 := hid (((At.new w v0 46).alloc _).below hb22)
  have F24 := hid ((At.newAt _ v1 46 (w.heap.size + 1) (by simp)).below hb22)
  have G25 := hid (below_to (below_alloc (below_alloc (Below.refl _ w) _) _) hb22)
  have Z26 := hid (show w.heap.size + 2 ≤ w_21.heap.size by have := hb22.size; first | omega | (simp at this; omega))
  clear hb22
  have e29 := F23.out.1
  have e29z := F23.out.2
  have e30 := F24.out.1
  have e30z := F24.out.2
  go_wp2_with fail
  clear e29 e29z e30 e30z
  refine (szPoset_any v1 xs1 _ _ (HV1.out.later G25.out) hm1 (by omega) (by omega)).mono ?_
  rw [HS1.out]
  rintro e w_27 ⟨rfl, hb28⟩
  have F31 := hid (F23.out.below hb28)
  have F32 := hid (F24.out.below hb28)
  have G33 := hid (below_to G25.out hb28)
  have Z34 := hid (show w_21.heap.size + 0 ≤ w_27.heap.size by have := hb28.size; first | omega | (simp at this; omega))
  clear F23 F24 G25 hb28
  have e35 := F31.out.1
  have e35z := F31.out.2
  have e36 := F32.out.1
  have e36z := F32.out.2
  go_upto_region 8 with fail
  go_cut [6, 7] (fun s6 s7 wx => ∃ (b : Nat) (uA : Option Addr) (un uc B E : Nat), s6 = .pointer (some ⟨b, 0, none⟩) ∧ s7 = .bool (fits xs0 xs1) ∧ At wx b (.slice uA un uc) ∧ OwnI 3 wx B (.slice uA un uc) (stackL xs0 xs1) ∧ Hid (∀ k, (Value.slice uA un uc).ownBlock = some k → B ≤ k ∧ k < E) ∧ (b < B ∨ E ≤ b) ∧ w_27.heap.size ≤ B ∧ E ≤ wx.heap.size ∧ w_27.heap.size ≤ b ∧ Below w_27.heap.size w_27 wx)
  case first =>
    go_region_with (first | (go_at_call 33; (with_reducible refine (toPoset_own v0 xs0 _ ?_ hl0).mono ?_); (first | exact ((HV0.out.later G33.out)).below HRr37.out | exact (((HV0.out.later G33.out)).below HRr37.out).alloc _ | exact ((HV0.out.later G33.out)).drew | exact (((HV0.out.later G33.out)).drew).alloc _ | exact (((HV0.out.later G33.out)).alloc _).drew); rintro e w_38 ⟨u39, rfl, ho40, hb41⟩; (first | (have HU1r37 := hid (HU1r37.out.below hb41)) | (have HU1r37 := hid ((HU1r37.out.alloc _).below hb41)) | skip); (first | (have HZr37 := hid (Blk.below HZr37.out hb41 HZr37.out.lt)) | (have HZr37 := hid (Blk.below (Blk.new _ 38 #[.slice none 0 0]) hb41 (by simp))) | (have HZr37 := hid (Blk.below (w := (w_27.alloc (.cells #[.slice none 0 0] 38)).drew) (g := w_27.heap.size) (Blk.new w_27 38 #[.slice none 0 0]) hb41 (by simp))) | skip); (first | (have HRr37 := hid (below_to HRr37.out hb41)) | (have HRr37 := hid (below_to (below_alloc HRr37.out _) hb41)) | (have HRr37 := hid (below_to (Below.refl w_27.heap.size w_27).drew hb41)) | (have HRr37 := hid (below_to (below_alloc (Below.refl w_27.heap.size w_27).drew _) hb41)) | (have HRr37 := hid (below_to (below_alloc (Below.refl w_27.heap.size w_27) _).drew hb41))); have HU0r37 := hid ho40.ints; have bx0r37 := (F31.out.below HRr37.out).1; have bz0r37 := (F31.out.below HRr37.out).2; have bx1r37 := (F32.out.below HRr37.out).1; have bz1r37 := (F32.out.below HRr37.out).2; have hsw_38 := HRr37.out.size; clear ho40 hb41) | (go_at_call 33; (with_reducible refine (toPoset_own v1 xs1 _ ?_ hl1).mono ?_); (first | exact ((HV1.out.later G33.out)).below HRr37.out | exact (((HV1.out.later G33.out)).below HRr37.out).alloc _ | exact ((HV1.out.later G33.out)).drew | exact (((HV1.out.later G33.out)).drew).alloc _ | exact (((HV1.out.later G33.out)).alloc _).drew); rintro e w_42 ⟨u43, rfl, ho44, hb45⟩; (first | (have HU0r37 := hid (HU0r37.out.below hb45)) | (have HU0r37 := hid ((HU0r37.out.alloc _).below hb45)) | skip); (first | (have HZr37 := hid (Blk.below HZr37.out hb45 HZr37.out.lt)) | (have HZr37 := hid (Blk.below (Blk.new _ 38 #[.slice none 0 0]) hb45 (by simp))) | (have HZr37 := hid (Blk.below (w := (w_27.alloc (.cells #[.slice none 0 0] 38)).drew) (g := w_27.heap.size) (Blk.new w_27 38 #[.slice none 0 0]) hb45 (by simp))) | skip); (first | (have HRr37 := hid (below_to HRr37.out hb45)) | (have HRr37 := hid (below_to (below_alloc HRr37.out _) hb45)) | (have HRr37 := hid (below_to (Below.refl w_27.heap.size w_27).drew hb45)) | (have HRr37 := hid (below_to (below_alloc (Below.refl w_27.heap.size w_27).drew _) hb45)) | (have HRr37 := hid (below_to (below_alloc (Below.refl w_27.heap.size w_27) _).drew hb45))); have HU1r37 := hid ho44.ints; have bx0r37 := (F31.out.below HRr37.out).1; have bz0r37 := (F31.out.below HRr37.out).2; have bx1r37 := (F32.out.below HRr37.out).1; have bz1r37 := (F32.out.below HRr37.out).2; have hsw_42 := HRr37.out.size; clear ho44 hb45) | (go_at_call 35; refine (specStackOf_any _ xs0 _ xs1 _ (by first | exact HU0r37.out | exact HU0r37.out.alloc _) hl0 (by first | exact HU1r37.out | exact HU1r37.out.alloc _) hl1).mono ?_; (first | have zpr37 := HZr37.out.lt | skip); rintro e w_46 ⟨u47, rfl, ho48, hl49, hb50⟩; have HB0r37 := hid ho48.blockLt; have HOu47 := hid ho48; obtain ⟨u47A, u47n, u47c, rfl⟩ := ho48.shape3; (first | (have HZr37 := hid (Blk.below HZr37.out hb50 HZr37.out.lt)) | (have HZr37 := hid (Blk.below (Blk.new _ 38 #[.slice none 0 0]) hb50 (by simp))) | (have HZr37 := hid (Blk.below (w := (w_27.alloc (.cells #[.slice none 0 0] 38)).drew) (g := w_27.heap.size) (Blk.new w_27 38 #[.slice none 0 0]) hb50 (by simp))) | skip); have HPr37 := hb50.size; (first | (have HRr37 := hid (below_to HRr37.out hb50)) | (have HRr37 := hid (below_to (below_alloc HRr37.out _) hb50)) | (have HRr37 := hid (below_to (Below.refl w_27.heap.size w_27).drew hb50)) | (have HRr37 := hid (below_to (below_alloc (Below.refl w_27.heap.size w_27).drew _) hb50)) | (have HRr37 := hid (below_to (below_alloc (Below.refl w_27.heap.size w_27) _).drew hb50))); have hsw_46 := HRr37.out.size; (first | (have zcr37 := HZr37.out.cell 0; have zfr37 := HZr37.out.frozen 0; have zlr37 := HZr37.out.lt) | skip); clear hb50 ho48 hl49))
    all_goals (go_wp2_with fail; go_meet)
    all_goals first
      | (refine ⟨_, u47A, u47n, u47c, _, w_46.heap.size, rfl, rfl, ?_, HOu47.out.grown (grown_setCell (World.grownBy.refl _ _) 0 _) (HOu47.out.apart (.inl ?_)), HB0r37, .inl ?_, ?_, ?_, ?_, HRr37.out.setCell ?_ _⟩; (exact ⟨by rw [((HZr37.out).set_ 0 _).cell 0]; rfl, by simpa [World.setCell] using zlr37⟩); all_goals first | omega | (simp at HPr37 ⊢; omega) | (simp [World.setCell] at HPr37 ⊢ <;> omega))
      | (refine ⟨_, u47A, u47n, u47c, _, w_46.heap.size, rfl, rfl, At.new _ _ _, HOu47.out.alloc _, HB0r37, .inr (Nat.le_refl _), ?_, ?_, ?_, below_alloc HRr37.out _⟩; all_goals first | omega | (simp at HPr37 ⊢ <;> omega))
  case rest =>
    clear e35 e35z e36 e36z
    obtain ⟨b51, u52A, u52n, u52c, B53, E54, rfl, rfl, cAt, cOwn, cNb, cSep, cB, cE, cb, cBel⟩ := hcut
    have cSz := cBel.size
    obtain ⟨wc55, rfl⟩ : ∃ x, x = wc := ⟨wc, rfl⟩
    have F56 := hid (F31.out.below cBel)
    have F57 := hid (F32.out.below cBel)
    have G58 := hid (below_to G33.out cBel)
    have Z59 := hid (show w_27.heap.size ≤ wc55.heap.size from cSz)
    have Z60 := hid (show w_27.heap.size ≤ B53 ∧ E54 ≤ wc55.heap.size ∧ w_27.heap.size ≤ b51 ∧ (b51 < B53 ∨ E54 ≤ b51) ∧ b51 < wc55.heap.size from ⟨cB, cE, cb, cSep, cAt.2⟩)
    have F61 := hid cAt
    have F62 := hid cOwn
    have U63 := cNb
    clear F31 F32 G33 cAt cOwn cNb cSep cB cE cb cBel cSz
    have e65 := F56.out.1
    have e65z := F56.out.2
    have e66 := F57.out.1
    have e66z := F57.out.2
    have e67 := F61.out.1
    have e67z := F61.out.2
    go_wp2_with fail
    clear e65 e65z e66 e66z e67 e67z
    refine (toPoset_own v0 xs0 _ (HV0.out.later G58.out) hl0).mono ?_
    rintro e w_68 ⟨u69, rfl, ho71, hb70⟩
    have F72 := hid (F56.out.below hb70)
    have F73 := hid (F57.out.below hb70)
    have F74 := hid (F61.out.below hb70)
    have F75 := hid (F62.out.below hb70)
    have G76 := hid (below_to G58.out hb70)
    have Z77 := hid (show wc55.heap.size + 0 ≤ w_68.heap.size by have := hb70.size; first | omega | (simp at this; omega))
    have hn78 := ho71
    obtain ⟨u69A, u69n, u69c, rfl⟩ := hn78.shape3
    have U79 := hid (OwnI.blockLt hn78)
    have F80 := hid hn78
    clear F56 F57 F61 F62 G58 hb70 ho71 hn78
    have e81 := F72.out.1
    have e81z := F72.out.2
    have e82 := F73.out.1
    have e82z := F73.out.2
    have e83 := F74.out.1
    have e83z := F74.out.2
    go_wp2_with fail
    clear e81 e81z e82 e82z e83 e83z
    refine (toPoset_own v1 xs1 _ (HV1.out.later (below_alloc G76.out _)) hl1).mono ?_
    rintro e w_84 ⟨u85, rfl, ho87, hb86⟩
    have F88 := hid ((F72.out.alloc _).below hb86)
    have F89 := hid ((F73.out.alloc _).below hb86)
    have F90 := hid ((F74.out.alloc _).below hb86)
    have F91 := hid ((F75.out.alloc _).below hb86)
    have F92 := hid ((F80.out.alloc _).below hb86)
    have F93 := hid ((At.new w_68 (Value.slice u69A u69n u69c) 38).below hb86)
    have G94 := hid (below_to (below_alloc G76.out _) hb86)
    have Z95 := hid (show w_68.heap.size + 1 ≤ w_84.heap.size by have := hb86.size; first | omega | (simp at this; omega))
    have hn96 : OwnI 3 w_84 (w_68.heap.size + 1) u85 xs1 := by simpa using ho87
    obtain ⟨u85A, u85n, u85c, rfl⟩ := hn96.shape3
    have U97 := hid (OwnI.blockLt hn96)
    have F98 := hid hn96
    clear F72 F73 F74 F75 F80 G76 hb86 ho87 hn96
    have e99 := F88.out.1
    have e99z := F88.out.2
    have e100 := F89.out.1
    have e100z := F89.out.2
    have e101 := F90.out.1
    have e101z := F90.out.2
    have e102 := F93.out.1
    have e102z := F93.out.2
    go_wp2_with fail
    clear e99 e99z e100 e100z e101 e101z e102 e102z
    refine (implStackOf_any (Value.slice u69A u69n u69c) xs0 (Value.slice u85A u85n u85c) xs1 _ (F92.out.alloc _).ints hl0 (F98.out.alloc _).ints hl1).mono ?_
    rintro e w_103 ⟨u105, rfl, ho106, hl107, hb104⟩
    have F108 := hid ((F88.out.alloc _).below hb104)
    have F109 := hid ((F89.out.alloc _).below hb104)
    have F110 := hid ((F90.out.alloc _).below hb104)
    have F111 := hid ((F91.out.alloc _).below hb104)
    have F112 := hid ((F92.out.alloc _).below hb104)
    have F113 := hid ((F93.out.alloc _).below hb104)
    have F114 := hid ((F98.out.alloc _).below hb104)
    have F115 := hid ((At.new w_84 (Value.slice u85A u85n u85c) 38).below hb104)
    have G116 := hid (below_to (below_alloc G94.out _) hb104)
    have Z117 := hid (show w_84.heap.size + 1 ≤ w_103.heap.size by have := hb104.size; first | omega | (simp at this; omega))
    have hn118 : OwnI 3 w_103 (w_84.heap.size + 1) u105 (stackL xs0 xs1) := by simpa using ho106
    have HL119 := hid hl107
    obtain ⟨u105A, u105n, u105c, rfl⟩ := hn118.shape3
    have U120 := hid (OwnI.blockLt hn118)
    have F121 := hid hn118
    clear F88 F89 F90 F91 F92 F93 F98 G94 hb104 hn118 ho106 hl107
    have e122 := F108.out.1
    have e122z := F108.out.2
    have e123 := F109.out.1
    have e123z := F109.out.2
    have e124 := F110.out.1
    have e124z := F110.out.2
    have e125 := F113.out.1
    have e125z := F113.out.2
    have e126 := F115.out.1
    have e126z := F115.out.2
    go_wp2_with fail
    clear e122 e122z e123 e123z e124 e124z e125 e125z e126 e126z
    refine (eqPoset_any _ _ ((stackL xs0 xs1)) _ (F121.out.alloc _).ints (F111.out.alloc _).ints HL119.out).mono ?_
    rintro e w_127 ⟨rfl, hb128⟩
    have F129 := hid ((F108.out.alloc _).below hb128)
    have F130 := hid ((F109.out.alloc _).below hb128)
    have F131 := hid ((F110.out.alloc _).below hb128)
    have F132 := hid ((F111.out.alloc _).below hb128)
    have F133 := hid ((F112.out.alloc _).below hb128)
    have F134 := hid ((F113.out.alloc _).below hb128)
    have F135 := hid ((F114.out.alloc _).below hb128)
    have F136 := hid ((F115.out.alloc _).below hb128)
    have F137 := hid ((F121.out.alloc _).below hb128)
    have F138 := hid ((At.new w_103 (Value.slice u105A u105n u105c) 38).below hb128)
    have G139 := hid (below_to (below_alloc G116.out _) hb128)
    have Z140 := hid (show w_103.heap.size + 1 ≤ w_127.heap.size by have := hb128.size; first | omega | (simp at this; omega))
    clear F108 F109 F110 F111 F112 F113 F114 F115 F121 G116 hb128
    have e141 := F129.out.1
    have e141z := F129.out.2
    have e142 := F130.out.1
    have e142z := F130.out.2
    have e143 := F131.out.1
    have e143z := F131.out.2
    have e144 := F134.out.1
    have e144z := F134.out.2
    have e145 := F136.out.1
    have e145z := F136.out.2
    have e146 := F138.out.1
    have e146z := F138.out.2
    go_upto_region 14 with fail
    go_cut [58] (fun s wx => s = .bool false ∧ At wx (w.heap.size) (v0) ∧ At wx (w.heap.size + 1) (v1) ∧ At wx (b51) ((Value.slice u52A u52n u52c)) ∧ OwnI 3 wx (B53) (Value.slice u52A u52n u52c) (stackL xs0 xs1) ∧ OwnI 3 wx (wc55.heap.size) (Value.slice u69A u69n u69c) xs0 ∧ At wx (w_68.heap.size) ((Value.slice u69A u69n u69c)) ∧ OwnI 3 wx (w_68.heap.size + 1) (Value.slice u85A u85n u85c) xs1 ∧ At wx (w_84.heap.size) ((Value.slice u85A u85n u85c)) ∧ OwnI 3 wx (w_84.heap.size + 1) (Value.slice u105A u105n u105c) (stackL xs0 xs1) ∧ At wx (w_103.heap.size) ((Value.slice u105A u105n u105c)) ∧ w_127.heap.size ≤ wx.heap.size ∧ Below w.heap.size w wx)
    case first =>
      go_region_with (first | (go_at_call 33; refine (toPoset_own v0 xs0 _ (((HV0.out.later G139.out)).drew) hl0).mono ?_; rintro e w_147 ⟨u148, rfl, ho3, hb149⟩; have K0 := hid (F129.out.drew.below hb149); have K1 := hid (F130.out.drew.below hb149); have K2 := hid (F131.out.drew.below hb149); have K3 := hid (F132.out.drew.below hb149); have K4 := hid (F133.out.drew.below hb149); have K5 := hid (F134.out.drew.below hb149); have K6 := hid (F135.out.drew.below hb149); have K7 := hid (F136.out.drew.below hb149); have K8 := hid (F137.out.drew.below hb149); have K9 := hid (F138.out.drew.below hb149); have KZ := hid (show w_127.heap.size ≤ w_147.heap.size by have := hb149.size; simpa using this); have KB := hid (below_to G139.out.drew hb149); have KO := hid ho3; have hx6 := K5.out.1; clear ho3 hb149) | (go_at_call 26; refine (eqPoset_any _ _ (xs0) _ K4.out.ints KO.out.ints hl0).mono ?_; rintro e w_150 ⟨rfl, hb151⟩; have M0 := hid (K0.out.below hb151); have M1 := hid (K1.out.below hb151); have M2 := hid (K2.out.below hb151); have M3 := hid (K3.out.below hb151); have M4 := hid (K4.out.below hb151); have M5 := hid (K5.out.below hb151); have M6 := hid (K6.out.below hb151); have M7 := hid (K7.out.below hb151); have M8 := hid (K8.out.below hb151); have M9 := hid (K9.out.below hb151); have MZ := hid (show w_127.heap.size ≤ w_150.heap.size by have := hb151.size; have := KZ.out; omega); have MB := hid (below_to KB.out hb151); clear hb151))
      all_goals (go_wp2_with fail; go_meet; exact ⟨rfl, M0.out, M1.out, M2.out, M3.out, M4.out, M5.out, M6.out, M7.out, M8.out, M9.out, MZ.out, MB.out⟩)
    case rest =>
      clear e141 e141z e142 e142z e143 e143z e144 e144z e145 e145z e146 e146z
      obtain ⟨rfl, c0, c1, c2, c3, c4, c5, c6, c7, c8, c9, hzc, hbc⟩ := hcut
      obtain ⟨wc152, rfl⟩ : ∃ x, x = wc := ⟨wc, rfl⟩
      have F153 := hid c0
      have F154 := hid c1
      have F155 := hid c2
      have F156 := hid c3
      have F157 := hid c4
      have F158 := hid c5
      have F159 := hid c6
      have F160 := hid c7
      have F161 := hid c8
      have F162 := hid c9
      have Z163 := hid hzc
      have G164 := hid hbc
      clear c0 F129 c1 F130 c2 F131 c3 F132 c4 F133 c5 F134 c6 F135 c7 F136 c8 F137 c9 F138 hzc hbc G139
      have e165 := F153.out.1
      have e165z := F153.out.2
      have e166 := F154.out.1
      have e166z := F154.out.2
      have e167 := F155.out.1
      have e167z := F155.out.2
      have e168 := F158.out.1
      have e168z := F158.out.2
      have e169 := F160.out.1
      have e169z := F160.out.2
      have e170 := F162.out.1
      have e170z := F162.out.2
      go_upto_region 16 with fail
      go_cut [63] (fun s wx => s = .bool false ∧ At wx (w.heap.size) (v0) ∧ At wx (w.heap.size + 1) (v1) ∧ At wx (b51) ((Value.slice u52A u52n u52c)) ∧ OwnI 3 wx (B53) (Value.slice u52A u52n u52c) (stackL xs0 xs1) ∧ OwnI 3 wx (wc55.heap.size) (Value.slice u69A u69n u69c) xs0 ∧ At wx (w_68.heap.size) ((Value.slice u69A u69n u69c)) ∧ OwnI 3 wx (w_68.heap.size + 1) (Value.slice u85A u85n u85c) xs1 ∧ At wx (w_84.heap.size) ((Value.slice u85A u85n u85c)) ∧ OwnI 3 wx (w_84.heap.size + 1) (Value.slice u105A u105n u105c) (stackL xs0 xs1) ∧ At wx (w_103.heap.size) ((Value.slice u105A u105n u105c)) ∧ wc152.heap.size ≤ wx.heap.size ∧ Below w.heap.size w wx)
      case first =>
        go_region_with (first | (go_at_call 33; refine (toPoset_own v1 xs1 _ (((HV1.out.later G164.out)).drew) hl1).mono ?_; rintro e w_171 ⟨u172, rfl, ho3, hb173⟩; have K0 := hid (F153.out.drew.below hb173); have K1 := hid (F154.out.drew.below hb173); have K2 := hid (F155.out.drew.below hb173); have K3 := hid (F156.out.drew.below hb173); have K4 := hid (F157.out.drew.below hb173); have K5 := hid (F158.out.drew.below hb173); have K6 := hid (F159.out.drew.below hb173); have K7 := hid (F160.out.drew.below hb173); have K8 := hid (F161.out.drew.below hb173); have K9 := hid (F162.out.drew.below hb173); have KZ := hid (show wc152.heap.size ≤ w_171.heap.size by have := hb173.size; simpa using this); have KB := hid (below_to G164.out.drew hb173); have KO := hid ho3; have hx6 := K7.out.1; clear ho3 hb173) | (go_at_call 26; refine (eqPoset_any _ _ (xs1) _ K6.out.ints KO.out.ints hl1).mono ?_; rintro e w_174 ⟨rfl, hb175⟩; have M0 := hid (K0.out.below hb175); have M1 := hid (K1.out.below hb175); have M2 := hid (K2.out.below hb175); have M3 := hid (K3.out.below hb175); have M4 := hid (K4.out.below hb175); have M5 := hid (K5.out.below hb175); have M6 := hid (K6.out.below hb175); have M7 := hid (K7.out.below hb175); have M8 := hid (K8.out.below hb175); have M9 := hid (K9.out.below hb175); have MZ := hid (show wc152.heap.size ≤ w_174.heap.size by have := hb175.size; have := KZ.out; omega); have MB := hid (below_to KB.out hb175); clear hb175))
        all_goals (go_wp2_with fail; go_meet; exact ⟨rfl, M0.out, M1.out, M2.out, M3.out, M4.out, M5.out, M6.out, M7.out, M8.out, M9.out, MZ.out, MB.out⟩)
      case rest =>
        clear e165 e165z e166 e166z e167 e167z e168 e168z e169 e169z e170 e170z
        obtain ⟨rfl, c0, c1, c2, c3, c4, c5, c6, c7, c8, c9, hzc, hbc⟩ := hcut
        obtain ⟨wc176, rfl⟩ : ∃ x, x = wc := ⟨wc, rfl⟩
        have F177 := hid c0
        have F178 := hid c1
        have F179 := hid c2
        have F180 := hid c3
        have F181 := hid c4
        have F182 := hid c5
        have F183 := hid c6
        have F184 := hid c7
        have F185 := hid c8
        have F186 := hid c9
        have Z187 := hid hzc
        have G188 := hid hbc
        clear c0 F153 c1 F154 c2 F155 c3 F156 c4 F157 c5 F158 c6 F159 c7 F160 c8 F161 c9 F162 hzc hbc G164
        have e189 := F177.out.1
        have e189z := F177.out.2
        have e190 := F178.out.1
        have e190z := F178.out.2
        have e191 := F179.out.1
        have e191z := F179.out.2
        have e192 := F182.out.1
        have e192z := F182.out.2
        have e193 := F184.out.1
        have e193z := F184.out.2
        have e194 := F186.out.1
        have e194z := F186.out.2
        go_wp2_with fail
        clear e189 e189z e190 e190z e191 e191z e192 e192z e193 e193z e194 e194z
        refine (markPoset_any _ (xs0) _ _ _ F181.out hl0 (by omega) (by first | omega | (have := hl0; omega))).mono ?_
        rintro e w_195 ⟨rfl, ho196, hg197⟩
        have qZ26 := Z26.out
        have qZ34 := Z34.out
        have qZ59 := Z59.out
        have qZ60 := Z60.out
        have qZ77 := Z77.out
        have qZ95 := Z95.out
        have qZ117 := Z117.out
        have qZ140 := Z140.out
        have qZ163 := Z163.out
        have qZ187 := Z187.out
        have F198 := hid (F177.out.grown hg197 (row_ne_box (U79.out) (by omega)))
        have F199 := hid (F178.out.grown hg197 (row_ne_box (U79.out) (by omega)))
        have F200 := hid (F179.out.grown hg197 (row_ne_box (U79.out) (by omega)))
        have F201 := hid (F180.out.grown hg197 (row_ne_row (U63.out) (U79.out) (by omega)))
        have F202 := hid (F182.out.grown hg197 (row_ne_box (U79.out) (by omega)))
        have F203 := hid (F183.out.grown hg197 (row_ne_row (U97.out) (U79.out) (by omega)))
        have F204 := hid (F184.out.grown hg197 (row_ne_box (U79.out) (by omega)))
        have F205 := hid (F185.out.grown hg197 (row_ne_row (U120.out) (U79.out) (by omega)))
        have F206 := hid (F186.out.grown hg197 (row_ne_box (U79.out) (by omega)))
        have G207 := hid (below_grown G188.out hg197 (fun k hk => by have := U79.out k hk; omega))
        have Z208 := hid (show wc176.heap.size + 0 ≤ w_195.heap.size by have := hg197.size; first | omega | (simp at this; omega))
        clear qZ26 qZ34 qZ59 qZ60 qZ77 qZ95 qZ117 qZ140 qZ163 qZ187
        have F209 := hid ho196
        clear F177 F178 F179 F180 F182 F183 F184 F185 F186 G188 F181 ho196 hg197
        have e210 := F198.out.1
        have e210z := F198.out.2
        have e211 := F199.out.1
        have e211z := F199.out.2
        have e212 := F200.out.1
        have e212z := F200.out.2
        have e213 := F202.out.1
        have e213z := F202.out.2
        have e214 := F204.out.1
        have e214z := F204.out.2
        have e215 := F206.out.1
        have e215z := F206.out.2
        go_wp2_with fail
        clear e210 e210z e211 e211z e212 e212z e213 e213z e214 e214z e215 e215z
        refine (markPoset_any _ (xs1) _ _ _ F203.out hl1 (by omega) (by first | omega | (have := hl1; omega))).mono ?_
        rintro e w_216 ⟨rfl, ho217, hg218⟩
        have qZ26 := Z26.out
        have qZ34 := Z34.out
        have qZ59 := Z59.out
        have qZ60 := Z60.out
        have qZ77 := Z77.out
        have qZ95 := Z95.out
        have qZ117 := Z117.out
        have qZ140 := Z140.out
        have qZ163 := Z163.out
        have qZ187 := Z187.out
        have qZ208 := Z208.out
        have F219 := hid (F198.out.grown hg218 (row_ne_box (U97.out) (by omega)))
        have F220 := hid (F199.out.grown hg218 (row_ne_box (U97.out) (by omega)))
        have F221 := hid (F200.out.grown hg218 (row_ne_box (U97.out) (by omega)))
        have F222 := hid (F201.out.grown hg218 (row_ne_row (U63.out) (U97.out) (by omega)))
        have F223 := hid (F202.out.grown hg218 (row_ne_box (U97.out) (by omega)))
        have F224 := hid (F204.out.grown hg218 (row_ne_box (U97.out) (by omega)))
        have F225 := hid (F205.out.grown hg218 (row_ne_row (U120.out) (U97.out) (by omega)))
        have F226 := hid (F206.out.grown hg218 (row_ne_box (U97.out) (by omega)))
        have F227 := hid (F209.out.grown hg218 (row_ne_row (U79.out) (U97.out) (by omega)))
        have G228 := hid (below_grown G207.out hg218 (fun k hk => by have := U97.out k hk; omega))
        have Z229 := hid (show w_195.heap.size + 0 ≤ w_216.heap.size by have := hg218.size; first | omega | (simp at this; omega))
        clear qZ26 qZ34 qZ59 qZ60 qZ77 qZ95 qZ117 qZ140 qZ163 qZ187 qZ208
        have F230 := hid ho217
        clear F198 F199 F200 F201 F202 F204 F205 F206 F209 G207 F203 ho217 hg218
        have e231 := F219.out.1
        have e231z := F219.out.2
        have e232 := F220.out.1
        have e232z := F220.out.2
        have e233 := F221.out.1
        have e233z := F221.out.2
        have e234 := F223.out.1
        have e234z := F223.out.2
        have e235 := F224.out.1
        have e235z := F224.out.2
        have e236 := F226.out.1
        have e236z := F226.out.2
        go_wp2_with fail
        clear e231 e231z e232 e232z e233 e233z e234 e234z e235 e235z e236 e236z
        refine (eqPoset_any _ _ ((stackL xs0 xs1)) _ F225.out.ints F222.out.ints HL119.out).mono ?_
        rintro e w_237 ⟨rfl, hb238⟩
        have F239 := hid (F219.out.below hb238)
        have F240 := hid (F220.out.below hb238)
        have F241 := hid (F221.out.below hb238)
        have F242 := hid (F222.out.below hb238)
        have F243 := hid (F223.out.below hb238)
        have F244 := hid (F224.out.below hb238)
        have F245 := hid (F225.out.below hb238)
        have F246 := hid (F226.out.below hb238)
        have F247 := hid (F227.out.below hb238)
        have F248 := hid (F230.out.below hb238)
        have G249 := hid (below_to G228.out hb238)
        have Z250 := hid (show w_216.heap.size + 0 ≤ w_237.heap.size by have := hb238.size; first | omega | (simp at this; omega))
        clear F219 F220 F221 F222 F223 F224 F225 F226 F227 F230 G228 hb238
        have e251 := F239.out.1
        have e251z := F239.out.2
        have e252 := F240.out.1
        have e252z := F240.out.2
        have e253 := F241.out.1
        have e253z := F241.out.2
        have e254 := F243.out.1
        have e254z := F243.out.2
        have e255 := F244.out.1
        have e255z := F244.out.2
        have e256 := F246.out.1
        have e256z := F246.out.2
        go_wp2_with fail
        clear e251 e251z e252 e252z e253 e253z e254 e254z e255 e255z e256 e256z
        refine (markPoset_any _ ((stackL xs0 xs1)) _ _ _ F245.out HL119.out (by omega) (by first | omega | (have := HL119.out; omega))).mono ?_
        rintro e w_257 ⟨rfl, ho258, hg259⟩
        have qZ26 := Z26.out
        have qZ34 := Z34.out
        have qZ59 := Z59.out
        have qZ60 := Z60.out
        have qZ77 := Z77.out
        have qZ95 := Z95.out
        have qZ117 := Z117.out
        have qZ140 := Z140.out
        have qZ163 := Z163.out
        have qZ187 := Z187.out
        have qZ208 := Z208.out
        have qZ229 := Z229.out
        have qZ250 := Z250.out
        have F260 := hid (F239.out.grown hg259 (row_ne_box (U120.out) (by omega)))
        have F261 := hid (F240.out.grown hg259 (row_ne_box (U120.out) (by omega)))
        have F262 := hid (F241.out.grown hg259 (row_ne_box (U120.out) (by omega)))
        have F263 := hid (F242.out.grown hg259 (row_ne_row (U63.out) (U120.out) (by omega)))
        have F264 := hid (F243.out.grown hg259 (row_ne_box (U120.out) (by omega)))
        have F265 := hid (F244.out.grown hg259 (row_ne_box (U120.out) (by omega)))
        have F266 := hid (F246.out.grown hg259 (row_ne_box (U120.out) (by omega)))
        have F267 := hid (F247.out.grown hg259 (row_ne_row (U79.out) (U120.out) (by omega)))
        have F268 := hid (F248.out.grown hg259 (row_ne_row (U97.out) (U120.out) (by omega)))
        have G269 := hid (below_grown G249.out hg259 (fun k hk => by have := U120.out k hk; omega))
        have Z270 := hid (show w_237.heap.size + 0 ≤ w_257.heap.size by have := hg259.size; first | omega | (simp at this; omega))
        clear qZ26 qZ34 qZ59 qZ60 qZ77 qZ95 qZ117 qZ140 qZ163 qZ187 qZ208 qZ229 qZ250
        have F271 := hid ho258
        clear F239 F240 F241 F242 F243 F244 F246 F247 F248 G249 F245 ho258 hg259
        have e272 := F260.out.1
        have e272z := F260.out.2
        have e273 := F261.out.1
        have e273z := F261.out.2
        have e274 := F262.out.1
        have e274z := F262.out.2
        have e275 := F264.out.1
        have e275z := F264.out.2
        have e276 := F265.out.1
        have e276z := F265.out.2
        have e277 := F266.out.1
        have e277z := F266.out.2
        go_wp2_with fail
        clear e272 e272z e273 e273z e274 e274z e275 e275z e276 e276z e277 e277z
        refine (heldPoset_any _ _ _ _ F271.out.ints HL119.out (by omega) (by omega)).mono ?_
        rintro e w_278 ⟨rfl, hb279⟩
        have F280 := hid (F260.out.below hb279)
        have F281 := hid (F261.out.below hb279)
        have F282 := hid (F262.out.below hb279)
        have F283 := hid (F263.out.below hb279)
        have F284 := hid (F264.out.below hb279)
        have F285 := hid (F265.out.below hb279)
        have F286 := hid (F266.out.below hb279)
        have F287 := hid (F267.out.below hb279)
        have F288 := hid (F268.out.below hb279)
        have F289 := hid (F271.out.below hb279)
        have G290 := hid (below_to G269.out hb279)
        have Z291 := hid (show w_257.heap.size + 0 ≤ w_278.heap.size by have := hb279.size; first | omega | (simp at this; omega))
        clear F260 F261 F262 F263 F264 F265 F266 F267 F268 F271 G269 hb279
        have e292 := F280.out.1
        have e292z := F280.out.2
        have e293 := F281.out.1
        have e293z := F281.out.2
        have e294 := F282.out.1
        have e294z := F282.out.2
        have e295 := F284.out.1
        have e295z := F284.out.2
        have e296 := F285.out.1
        have e296z := F285.out.2
        have e297 := F286.out.1
        have e297z := F286.out.2
        go_upto_region 31 with fail
        go_cut [15, 16] (fun s6 s7 wx => ∃ (b : Nat) (uA : Option Addr) (un uc B E : Nat), s6 = .pointer (some ⟨b, 0, none⟩) ∧ s7 = .bool (fits xs0 xs1) ∧ At wx b (.slice uA un uc) ∧ OwnI 3 wx B (.slice uA un uc) (stackL xs0 xs1) ∧ Hid (∀ k, (Value.slice uA un uc).ownBlock = some k → B ≤ k ∧ k < E) ∧ (b < B ∨ E ≤ b) ∧ w_278.heap.size ≤ B ∧ E ≤ wx.heap.size ∧ w_278.heap.size ≤ b ∧ Below w_278.heap.size w_278 wx)
        case first =>
          go_region_with (first | (go_at_call 33; (with_reducible refine (toPoset_own v0 xs0 _ ?_ hl0).mono ?_); (first | exact ((HV0.out.later G290.out)).below HRr298.out | exact (((HV0.out.later G290.out)).below HRr298.out).alloc _ | exact ((HV0.out.later G290.out)).drew | exact (((HV0.out.later G290.out)).drew).alloc _ | exact (((HV0.out.later G290.out)).alloc _).drew); rintro e w_299 ⟨u300, rfl, ho301, hb302⟩; (first | (have HU1r298 := hid (HU1r298.out.below hb302)) | (have HU1r298 := hid ((HU1r298.out.alloc _).below hb302)) | skip); (first | (have HZr298 := hid (Blk.below HZr298.out hb302 HZr298.out.lt)) | (have HZr298 := hid (Blk.below (Blk.new _ 38 #[.slice none 0 0]) hb302 (by simp))) | (have HZr298 := hid (Blk.below (w := (w_278.alloc (.cells #[.slice none 0 0] 38)).drew) (g := w_278.heap.size) (Blk.new w_278 38 #[.slice none 0 0]) hb302 (by simp))) | skip); (first | (have HRr298 := hid (below_to HRr298.out hb302)) | (have HRr298 := hid (below_to (below_alloc HRr298.out _) hb302)) | (have HRr298 := hid (below_to (Below.refl w_278.heap.size w_278).drew hb302)) | (have HRr298 := hid (below_to (below_alloc (Below.refl w_278.heap.size w_278).drew _) hb302)) | (have HRr298 := hid (below_to (below_alloc (Below.refl w_278.heap.size w_278) _).drew hb302))); have HU0r298 := hid ho301.ints; have bx0r298 := (F280.out.below HRr298.out).1; have bz0r298 := (F280.out.below HRr298.out).2; have bx1r298 := (F281.out.below HRr298.out).1; have bz1r298 := (F281.out.below HRr298.out).2; have bx2r298 := (F282.out.below HRr298.out).1; have bz2r298 := (F282.out.below HRr298.out).2; have bx3r298 := (F284.out.below HRr298.out).1; have bz3r298 := (F284.out.below HRr298.out).2; have bx4r298 := (F285.out.below HRr298.out).1; have bz4r298 := (F285.out.below HRr298.out).2; have bx5r298 := (F286.out.below HRr298.out).1; have bz5r298 := (F286.out.below HRr298.out).2; have hsw_299 := HRr298.out.size; clear ho301 hb302) | (go_at_call 33; (with_reducible refine (toPoset_own v1 xs1 _ ?_ hl1).mono ?_); (first | exact ((HV1.out.later G290.out)).below HRr298.out | exact (((HV1.out.later G290.out)).below HRr298.out).alloc _ | exact ((HV1.out.later G290.out)).drew | exact (((HV1.out.later G290.out)).drew).alloc _ | exact (((HV1.out.later G290.out)).alloc _).drew); rintro e w_303 ⟨u304, rfl, ho305, hb306⟩; (first | (have HU0r298 := hid (HU0r298.out.below hb306)) | (have HU0r298 := hid ((HU0r298.out.alloc _).below hb306)) | skip); (first | (have HZr298 := hid (Blk.below HZr298.out hb306 HZr298.out.lt)) | (have HZr298 := hid (Blk.below (Blk.new _ 38 #[.slice none 0 0]) hb306 (by simp))) | (have HZr298 := hid (Blk.below (w := (w_278.alloc (.cells #[.slice none 0 0] 38)).drew) (g := w_278.heap.size) (Blk.new w_278 38 #[.slice none 0 0]) hb306 (by simp))) | skip); (first | (have HRr298 := hid (below_to HRr298.out hb306)) | (have HRr298 := hid (below_to (below_alloc HRr298.out _) hb306)) | (have HRr298 := hid (below_to (Below.refl w_278.heap.size w_278).drew hb306)) | (have HRr298 := hid (below_to (below_alloc (Below.refl w_278.heap.size w_278).drew _) hb306)) | (have HRr298 := hid (below_to (below_alloc (Below.refl w_278.heap.size w_278) _).drew hb306))); have HU1r298 := hid ho305.ints; have bx0r298 := (F280.out.below HRr298.out).1; have bz0r298 := (F280.out.below HRr298.out).2; have bx1r298 := (F281.out.below HRr298.out).1; have bz1r298 := (F281.out.below HRr298.out).2; have bx2r298 := (F282.out.below HRr298.out).1; have bz2r298 := (F282.out.below HRr298.out).2; have bx3r298 := (F284.out.below HRr298.out).1; have bz3r298 := (F284.out.below HRr298.out).2; have bx4r298 := (F285.out.below HRr298.out).1; have bz4r298 := (F285.out.below HRr298.out).2; have bx5r298 := (F286.out.below HRr298.out).1; have bz5r298 := (F286.out.below HRr298.out).2; have hsw_303 := HRr298.out.size; clear ho305 hb306) | (go_at_call 36; refine (implStackOf_any _ xs0 _ xs1 _ (by first | exact HU0r298.out | exact HU0r298.out.alloc _) hl0 (by first | exact HU1r298.out | exact HU1r298.out.alloc _) hl1).mono ?_; (first | have zpr298 := HZr298.out.lt | skip); rintro e w_307 ⟨u308, rfl, ho309, hl310, hb311⟩; have HB0r298 := hid ho309.blockLt; have HOu308 := hid ho309; obtain ⟨u308A, u308n, u308c, rfl⟩ := ho309.shape3; (first | (have HZr298 := hid (Blk.below HZr298.out hb311 HZr298.out.lt)) | (have HZr298 := hid (Blk.below (Blk.new _ 38 #[.slice none 0 0]) hb311 (by simp))) | (have HZr298 := hid (Blk.below (w := (w_278.alloc (.cells #[.slice none 0 0] 38)).drew) (g := w_278.heap.size) (Blk.new w_278 38 #[.slice none 0 0]) hb311 (by simp))) | skip); have HPr298 := hb311.size; (first | (have HRr298 := hid (below_to HRr298.out hb311)) | (have HRr298 := hid (below_to (below_alloc HRr298.out _) hb311)) | (have HRr298 := hid (below_to (Below.refl w_278.heap.size w_278).drew hb311)) | (have HRr298 := hid (below_to (below_alloc (Below.refl w_278.heap.size w_278).drew _) hb311)) | (have HRr298 := hid (below_to (below_alloc (Below.refl w_278.heap.size w_278) _).drew hb311))); have hsw_307 := HRr298.out.size; (first | (have zcr298 := HZr298.out.cell 0; have zfr298 := HZr298.out.frozen 0; have zlr298 := HZr298.out.lt) | skip); clear hb311 ho309 hl310))
          all_goals (go_wp2_with fail; go_meet)
          all_goals first
            | (refine ⟨_, u308A, u308n, u308c, _, w_307.heap.size, rfl, rfl, ?_, HOu308.out.grown (grown_setCell (World.grownBy.refl _ _) 0 _) (HOu308.out.apart (.inl ?_)), HB0r298, .inl ?_, ?_, ?_, ?_, HRr298.out.setCell ?_ _⟩; (exact ⟨by rw [((HZr298.out).set_ 0 _).cell 0]; rfl, by simpa [World.setCell] using zlr298⟩); all_goals first | omega | (simp at HPr298 ⊢; omega) | (simp [World.setCell] at HPr298 ⊢ <;> omega))
            | (refine ⟨_, u308A, u308n, u308c, _, w_307.heap.size, rfl, rfl, At.new _ _ _, HOu308.out.alloc _, HB0r298, .inr (Nat.le_refl _), ?_, ?_, ?_, below_alloc HRr298.out _⟩; all_goals first | omega | (simp at HPr298 ⊢ <;> omega))
        case rest =>
          clear e292 e292z e293 e293z e294 e294z e295 e295z e296 e296z e297 e297z
          obtain ⟨b312, u313A, u313n, u313c, B314, E315, rfl, rfl, cAt, cOwn, cNb, cSep, cB, cE, cb, cBel⟩ := hcut
          have cSz := cBel.size
          obtain ⟨wc316, rfl⟩ : ∃ x, x = wc := ⟨wc, rfl⟩
          have F317 := hid (F280.out.below cBel)
          have F318 := hid (F281.out.below cBel)
          have F319 := hid (F282.out.below cBel)
          have F320 := hid (F283.out.below cBel)
          have F321 := hid (F284.out.below cBel)
          have F322 := hid (F285.out.below cBel)
          have F323 := hid (F286.out.below cBel)
          have F324 := hid (F287.out.below cBel)
          have F325 := hid (F288.out.below cBel)
          have F326 := hid (F289.out.below cBel)
          have G327 := hid (below_to G290.out cBel)
          have Z328 := hid (show w_278.heap.size ≤ wc316.heap.size from cSz)
          have Z329 := hid (show w_278.heap.size ≤ B314 ∧ E315 ≤ wc316.heap.size ∧ w_278.heap.size ≤ b312 ∧ (b312 < B314 ∨ E315 ≤ b312) ∧ b312 < wc316.heap.size from ⟨cB, cE, cb, cSep, cAt.2⟩)
          have F330 := hid cAt
          have F331 := hid cOwn
          have U332 := cNb
          clear F280 F281 F282 F283 F284 F285 F286 F287 F288 F289 G290 cAt cOwn cNb cSep cB cE cb cBel cSz
          have e334 := F317.out.1
          have e334z := F317.out.2
          have e335 := F318.out.1
          have e335z := F318.out.2
          have e336 := F319.out.1
          have e336z := F319.out.2
          have e337 := F321.out.1
          have e337z := F321.out.2
          have e338 := F322.out.1
          have e338z := F322.out.2
          have e339 := F323.out.1
          have e339z := F323.out.2
          have e340 := F330.out.1
          have e340z := F330.out.2
          go_wp2_with fail
          clear e334 e334z e335 e335z e336 e336z e337 e337z e338 e338z e339 e339z e340 e340z
          refine (eqPoset_any _ _ ((stackL xs0 xs1)) _ F331.out.ints F320.out.ints ((stackL_length xs0 xs1))).mono ?_
          rintro e w_341 ⟨rfl, hb342⟩
          have F343 := hid (F317.out.below hb342)
          have F344 := hid (F318.out.below hb342)
          have F345 := hid (F319.out.below hb342)
          have F346 := hid (F320.out.below hb342)
          have F347 := hid (F321.out.below hb342)
          have F348 := hid (F322.out.below hb342)
          have F349 := hid (F323.out.below hb342)
          have F350 := hid (F324.out.below hb342)
          have F351 := hid (F325.out.below hb342)
          have F352 := hid (F326.out.below hb342)
          have F353 := hid (F330.out.below hb342)
          have F354 := hid (F331.out.below hb342)
          have G355 := hid (below_to G327.out hb342)
          have Z356 := hid (show wc316.heap.size + 0 ≤ w_341.heap.size by have := hb342.size; first | omega | (simp at this; omega))
          clear F317 F318 F319 F320 F321 F322 F323 F324 F325 F326 F330 F331 G327 hb342
          have e357 := F343.out.1
          have e357z := F343.out.2
          have e358 := F344.out.1
          have e358z := F344.out.2
          have e359 := F345.out.1
          have e359z := F345.out.2
          have e360 := F347.out.1
          have e360z := F347.out.2
          have e361 := F348.out.1
          have e361z := F348.out.2
          have e362 := F349.out.1
          have e362z := F349.out.2
          have e363 := F353.out.1
          have e363z := F353.out.2
          go_wp2_with fail
          clear e357 e357z e358 e358z e359 e359z e360 e360z e361 e361z e362 e362z e363 e363z
          refine (heldPoset_any _ _ _ _ F352.out.ints HL119.out (by omega) (by omega)).mono ?_
          rintro e w_364 ⟨rfl, hb365⟩
          have F366 := hid (F343.out.below hb365)
          have F367 := hid (F344.out.below hb365)
          have F368 := hid (F345.out.below hb365)
          have F369 := hid (F346.out.below hb365)
          have F370 := hid (F347.out.below hb365)
          have F371 := hid (F348.out.below hb365)
          have F372 := hid (F349.out.below hb365)
          have F373 := hid (F350.out.below hb365)
          have F374 := hid (F351.out.below hb365)
          have F375 := hid (F352.out.below hb365)
          have F376 := hid (F353.out.below hb365)
          have F377 := hid (F354.out.below hb365)
          have G378 := hid (below_to G355.out hb365)
          have Z379 := hid (show w_341.heap.size + 0 ≤ w_364.heap.size by have := hb365.size; first | omega | (simp at this; omega))
          clear F343 F344 F345 F346 F347 F348 F349 F350 F351 F352 F353 F354 G355 hb365
          go_wp2
          go_ret
          exact ⟨rfl, G378.out⟩
theorem walk (v0 : Value) (xs0 : List Int) (v1 : Value) (xs1 : List Int) (w : World) (hv0 : Ints w v0 xs0) (hm0 : xs0.length ≤ maxLen) (hv1 : Ints w v1 xs1) (hm1 : xs1.length ≤ maxLen) :
    Calls Try.prog 9 #[.agg #[v0], .agg #[v1]] w fun e w' => e = .returned (.bool true) ∧ Below w.heap.size w w' := by
  by_cases hq0 : (1048576 : Int) < xs0.length
  · exact walkBig0 v0 xs0 v1 xs1 w hv0 hm0 hv1 hm1   (hid (szRes_neg hq0))
  by_cases hq1 : ((1048576 : Int) - xs0.length) < xs1.length
  · exact walkBig1 v0 xs0 v1 xs1 w hv0 hm0 hv1 hm1  (hid (szRes_pos hq0)) hq0 (by omega) (hid (szRes_neg hq1))
  exact walkSmall v0 xs0 v1 xs1 w hv0 hm0 hv1 hm1  (hid (szRes_pos hq0)) hq0 (by omega) (hid (szRes_pos hq1)) hq1 (by omega)
end Go.Proofs.Ytkcjppbplllaiab.lawStackOf
