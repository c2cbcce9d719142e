/- DskZ DskVa DskUa DeskAfterLaw -/
import Derived.Deep.RegionWith
import Derived.Deep.DeepCutAuto
import Derived.Test.YtbmhaamenjhjfaaGreatDoorPkD39
import Derived.Test.YtbmhaamenjhjfaaGreatDoorPkD41
namespace Go.Proofs.YtbmhaamenjhjfaaGreatDoor
open Go.RowKit Go.WideShapes Go.ChangeShapes
set_option linter.unusedVariables false
def daX (l : List UInt8) : List Int := if okSc l then (runD (lnsD l) (nlD l)).1 else []
def daS (l : List UInt8) : Int := if okSc l then (runD (lnsD l) (nlD l)).2 else 0
theorem da_no {l : List UInt8} (h : okSc l = false) : daX l = [] ∧ daS l = 0 := by simp [daX, daS, h]
theorem da_yes {l : List UInt8} (h : okSc l = true) : daX l = (runD (lnsD l) (nlD l)).1 ∧ daS l = (runD (lnsD l) (nlD l)).2 := by simp [daX, daS, h]
theorem daX_len (l : List UInt8) : (daX l).length ≤ 1048576 := by
  cases h : okSc l
  · rw [(da_no h).1]; simp
  · rw [(da_yes h).1]
    obtain ⟨z, -, hg, -, -⟩ := okIdeal_all (runD_ok (lnsD l) (nlD l))
    have := (good_length hg).2; omega
end Go.Proofs.YtbmhaamenjhjfaaGreatDoor
namespace Go.Proofs.YtbmhaamenjhjfaaGreatDoor
open Go.RowKit Go.WideShapes Go.ChangeShapes
set_option linter.unusedVariables false
theorem implDeskAfter_any (l : List UInt8) (w : World) {a0 a1 : Addr} (hG : GlobD w a0 a1) (hs : l.length ≤ 1048576) :
    Calls Tryz.prog 20 #[.string (sB l)] w fun (r : Ending) w' => ∃ u, r = Ending.returned (.tuple #[.agg #[u, .int .i64 (daS l)], .bool (okSc l)]) ∧ OwnI 3 w' w.heap.size u (daX l) ∧ (daX l).length ≤ 1048576 ∧ Below w.heap.size w w' := by
  have HG := hid hG
  have HZ := hid (Blk.new w 30 #[.slice none 0 0, .int .i64 0])
  have HB0 := hid (below_alloc (Below.refl _ w) (.cells #[.slice none 0 0, .int .i64 0] 30))
  have HNo := hid (da_no (l := l))
  have HYes := hid (da_yes (l := l))
  have HL := hid (daX_len l)
  clear hG
  go_enter Tryz.func20, Tryz.ntmps20
  go_wp2_with fail
  refine (runLines_any l _ (HG.out.later HB0.out) hs).mono ?_
  rintro e w1 ⟨hr, hb⟩
  have HZ1 := hid (HZ.out.below hb (by simp))
  have HB1 := hid (below_to HB0.out hb)
  have hz1 : w.heap.size < w1.heap.size := HZ1.out.lt
  have hbz : (w.alloc (.cells #[.slice none 0 0, .int .i64 0] 30)).heap.size = w.heap.size + 1 := by simp
  rw [hbz] at hr
  have hex : ∃ u ov, e = .returned (.tuple #[.agg #[u, .int .i64 (daS l)], ov, .bool (okSc l)]) ∧ OwnI 3 w1 (w.heap.size + 1) u (daX l) := by
    rcases hr with ⟨hok, rfl⟩ | ⟨hok, u, ov, rfl, ho, -⟩
    · exact ⟨.slice none 0 0, .slice none 0 0, by rw [hok, (HNo.out hok).2], by rw [(HNo.out hok).1]; exact OwnI.nil _ _ _⟩
    · exact ⟨u, ov, by rw [hok, (HYes.out hok).2], by rw [(HYes.out hok).1]; exact ho⟩
  obtain ⟨u, ov, rfl, ho⟩ := hex
  have HO := hid ho
  obtain ⟨uA, un, uc, rfl⟩ := ho.shape3
  clear hr ho hb HZ HB0 HNo HYes hbz
  obtain ⟨S, hS⟩ : ∃ S, daS l = S := ⟨_, rfl⟩
  obtain ⟨b, hbk⟩ : ∃ b, okSc l = b := ⟨_, rfl⟩
  rw [hS, hbk]
  have HS := hid hS
  have HBk := hid hbk
  clear hS hbk
  have HZ2 := hid (HZ1.out.alloc (.cells #[.slice uA un uc, .int .i64 S] 30))
  have HK := hid (Blk.new w1 30 #[.slice uA un uc, .int .i64 S])
  have HB2 := hid (below_alloc HB1.out (.cells #[.slice uA un uc, .int .i64 S] 30))
  have HO2 := hid (OwnI.below HO.out (below_alloc (Below.refl _ w1) (.cells #[.slice uA un uc, .int .i64 S] 30)))
  go_upto_region 2 with (fail)
  generalize w1.alloc (.cells #[.slice uA un uc, .int .i64 S] 30) = W at HZ2 HK HB2 HO2 ⊢
  have z0 : W.cell? ⟨w.heap.size, 0, none⟩ = some (.slice none 0 0) := HZ2.out.cell 0
  have z1 : W.cell? ⟨w.heap.size, 1, none⟩ = some (.int .i64 0) := HZ2.out.cell 1
  have y0 := HZ2.out.frozen 0
  have y1 := HZ2.out.frozen 1
  have k0 : W.cell? ⟨w1.heap.size, 0, none⟩ = some (.slice uA un uc) := HK.out.cell 0
  have k1 : W.cell? ⟨w1.heap.size, 1, none⟩ = some (.int .i64 S) := HK.out.cell 1
  go_wp2
  refine bodyPost_ret (v := .tuple #[.agg #[.slice uA un uc, .int .i64 S], .bool b]) (by simp [results, Tryz.results20, go_sem, z0, z1]) rfl ⟨_, by rw [HS.out, HBk.out], ?_, HL.out, ?_⟩
  · exact (own_setX (own_setX HO2.out (Nat.lt_succ_self _) 0 _) (Nat.lt_succ_self _) 1 _).mono (by omega)
  · exact below_put2 HB2.out _ (Nat.le_refl _) _ _
end Go.Proofs.YtbmhaamenjhjfaaGreatDoor
namespace Go.Proofs.YtbmhaamenjhjfaaGreatDoor
open Go.RowKit Go.WideShapes Go.ChangeShapes
set_option linter.unusedVariables false
theorem specDeskAfter_any (l : List UInt8) (w : World) (hs : l.length ≤ 1048576) :
    Calls Tryz.prog 19 #[.string (sB l)] w fun (r : Ending) w' => ∃ u, r = Ending.returned (.tuple #[.agg #[u, .int .i64 (daS l)], .bool (okSc l)]) ∧ OwnI 3 w' w.heap.size u (daX l) ∧ (daX l).length ≤ 1048576 ∧ Below w.heap.size w w' := by
  have HZ := hid (Blk.new w 30 #[.slice none 0 0, .int .i64 0])
  have HB0 := hid (below_alloc (Below.refl _ w) (.cells #[.slice none 0 0, .int .i64 0] 30))
  have HNo := hid (da_no (l := l))
  have HYes := hid (da_yes (l := l))
  have HL := hid (daX_len l)
  go_enter Tryz.func19, Tryz.ntmps19
  go_wp2_with fail
  refine (coRun_any l _ hs).mono ?_
  rintro e w1 ⟨hr, hb⟩
  have HZ1 := hid (HZ.out.below hb (by simp))
  have HB1 := hid (below_to HB0.out hb)
  have hz1 : w.heap.size < w1.heap.size := HZ1.out.lt
  clear hb HZ HB0
  rcases hr with ⟨hok, rfl⟩ | ⟨hok, u, rv, rfl, ho, hrv⟩
  · have HOk := hid hok
    have HZ2 := hid (HZ1.out.alloc (.cells #[.slice none 0 0, .int .i64 0] 30))
    have HB2 := hid (below_alloc HB1.out (.cells #[.slice none 0 0, .int .i64 0] 30))
    clear hok
    go_upto_region 2 with (fail)
    generalize w1.alloc (.cells #[.slice none 0 0, .int .i64 0] 30) = W at HZ2 HB2 ⊢
    have z0 : W.cell? ⟨w.heap.size, 0, none⟩ = some (.slice none 0 0) := HZ2.out.cell 0
    have z1 : W.cell? ⟨w.heap.size, 1, none⟩ = some (.int .i64 0) := HZ2.out.cell 1
    have y0 := HZ2.out.frozen 0
    have y1 := HZ2.out.frozen 1
    go_wp2
    refine bodyPost_ret (v := .tuple #[.agg #[.slice none 0 0, .int .i64 0], .bool false]) (by simp [results, Tryz.results19, go_sem, z0, z1]) rfl ⟨.slice none 0 0, by rw [HOk.out, (HNo.out HOk.out).2], by rw [(HNo.out HOk.out).1]; exact OwnI.nil _ _ _, HL.out, ?_⟩
    exact below_put2 HB2.out _ (Nat.le_refl _) _ _
  · have HOk := hid hok
    have HO := hid ho
    have hlen := HL.out
    rw [(HYes.out hok).1] at hlen
    obtain ⟨uA, un, uc, rfl⟩ := ho.shape3
    obtain ⟨rA, rc, rfl⟩ := hrv.shape3
    obtain ⟨S, hS⟩ : ∃ S, (runD (lnsD l) (nlD l)).2 = S := ⟨_, rfl⟩
    have HS := hid hS
    rw [hS]
    have HZ2 := hid (HZ1.out.alloc (.cells #[.slice uA un uc, .int .i64 S] 30))
    have HK := hid (Blk.new w1 30 #[.slice uA un uc, .int .i64 S])
    have HB2 := hid (below_alloc HB1.out (.cells #[.slice uA un uc, .int .i64 S] 30))
    have HO2 := hid (OwnI.below HO.out (below_alloc (Below.refl _ w1) (.cells #[.slice uA un uc, .int .i64 S] 30)))
    clear ho hrv hok hS
    go_upto_region 2 with (fail)
    generalize w1.alloc (.cells #[.slice uA un uc, .int .i64 S] 30) = W at HZ2 HK HB2 HO2 ⊢
    have k0 : W.cell? ⟨w1.heap.size, 0, none⟩ = some (.slice uA un uc) := HK.out.cell 0
    have k1 : W.cell? ⟨w1.heap.size, 1, none⟩ = some (.int .i64 S) := HK.out.cell 1
    go_wp2_with fail
    clear k0 k1
    refine (coOwn_any _ _ S _ HO2.out.ints hlen).mono ?_
    rintro e w3 ⟨q, rfl, ho, hb⟩
    have HZ3 := hid (HZ2.out.below hb HZ2.out.lt)
    have HB3 := hid (below_to HB2.out hb)
    have hWz : w.heap.size < W.heap.size := HZ2.out.lt
    have HO3 := hid ho
    obtain ⟨qA, qn, qc, rfl⟩ := ho.shape3
    clear ho hb
    have z0 : w3.cell? ⟨w.heap.size, 0, none⟩ = some (.slice none 0 0) := HZ3.out.cell 0
    have z1 : w3.cell? ⟨w.heap.size, 1, none⟩ = some (.int .i64 0) := HZ3.out.cell 1
    have y0 := HZ3.out.frozen 0
    have y1 := HZ3.out.frozen 1
    go_wp2
    refine bodyPost_ret (v := .tuple #[.agg #[.slice qA qn qc, .int .i64 S], .bool true]) (by simp [results, Tryz.results19, go_sem, z0, z1]) rfl ⟨.slice qA qn qc, by rw [HOk.out, (HYes.out HOk.out).2, HS.out], ?_, HL.out, ?_⟩
    · rw [(HYes.out HOk.out).1]; exact (own_setX (own_setX HO3.out hWz 0 _) hWz 1 _).mono (by omega)
    · exact below_put2 HB3.out _ (Nat.le_refl _) _ _
end Go.Proofs.YtbmhaamenjhjfaaGreatDoor
namespace Go.Proofs.YtbmhaamenjhjfaaGreatDoor.lawDeskAfter
open Go.RowKit Go.WideShapes Go.ChangeShapes
set_option linter.unusedVariables false
set_option maxRecDepth 100000 in
set_option maxHeartbeats 8000000 in
theorem walk {a0 a1 : Addr} (s0 : ByteArray) (w : World) (hs0 : s0.size ≤ maxLen) (hG : GlobD w a0 a1) :
    Calls Tryz.prog 5 #[.string s0] w fun e w' => e = .returned (.bool true) ∧ Below w.heap.size w w' := by
  by_cases hbig : 1048576 < s0.size
  · have hbI : (1048576 : Int) < (s0.size : Int) := by omega
    clear hG
    go_enter Tryz.func5, Tryz.ntmps5
    go_wp2
    go_ret
    exact ⟨rfl, Below.refl _ _⟩
  have hbI : ¬ (1048576 : Int) < (s0.size : Int) := by omega
  have HG := hid hG
  clear hG
  obtain ⟨l, rfl⟩ : ∃ l, s0 = sB l := ⟨s0.data.toList, (sB_of s0).symm⟩
  have hll : l.length ≤ 1048576 := by rw [sB_size] at hbig; omega
  have HS := hid (fun W => specDeskAfter_any l W hll)
  have HI := hid (fun W (hW : GlobD W a0 a1) => implDeskAfter_any l W hW hll)
  obtain ⟨S, hS⟩ : ∃ S, sB l = S := ⟨_, rfl⟩
  obtain ⟨X, hX⟩ : ∃ X, daX l = X := ⟨_, rfl⟩
  obtain ⟨D, hD⟩ : ∃ D, daS l = D := ⟨_, rfl⟩
  obtain ⟨b, hb⟩ : ∃ b, okSc l = b := ⟨_, rfl⟩
  simp only [hS, hX, hD, hb] at HS HI hbI ⊢
  clear hs0 hbig hll hS hX hD hb
  go_enter Tryz.func5, Tryz.ntmps5
  go_wp2_with fail
  refine (HS.out _ ).mono ?_
  rintro e w_1 ⟨u3, rfl, ho4, hl5, hb2⟩
  have G6 := hid (below_to (Below.refl _ w) hb2)
  have Z7 := hid (show w.heap.size + 0 ≤ w_1.heap.size by have := hb2.size; first | omega | (simp at this; omega))
  have hn8 := ho4
  have HL9 := hid hl5
  obtain ⟨u3A, u3n, u3c, rfl⟩ := hn8.shape3
  have U10 := hid (OwnI.blockLt hn8)
  have F11 := hid hn8
  clear hb2 hn8 ho4 hl5
  go_wp2_with fail
  refine (HI.out _ (HG.out.later (below_alloc G6.out _)) ).mono ?_
  rintro e w_12 ⟨u14, rfl, ho15, hl16, hb13⟩
  have F17 := hid ((F11.out.alloc _).below hb13)
  have F18 := hid ((At2.new w_1 (Value.slice u3A u3n u3c) (.int .i64 (D)) 30).below hb13)
  have G19 := hid (below_to (below_alloc G6.out _) hb13)
  have Z20 := hid (show w_1.heap.size + 1 ≤ w_12.heap.size by have := hb13.size; first | omega | (simp at this; omega))
  have hn21 : OwnI 3 w_12 (w_1.heap.size + 1) u14 X := by simpa using ho15
  have HL22 := hid hl16
  obtain ⟨u14A, u14n, u14c, rfl⟩ := hn21.shape3
  have U23 := hid (OwnI.blockLt hn21)
  have F24 := hid hn21
  clear F11 G6 hb13 hn21 ho15 hl16
  have e25 := F18.out.1
  have e25z := F18.out.2.1
  have e25y := F18.out.2.2
  go_wp2_with fail
  clear e25 e25z e25y
  refine (eqDesk_any _ _ (X) (D) _ (F24.out.alloc _).ints (F17.out.alloc _).ints HL22.out).mono ?_
  rintro e w_26 ⟨rfl, hb27⟩
  have F28 := hid ((F17.out.alloc _).below hb27)
  have F29 := hid ((F18.out.alloc _).below hb27)
  have F30 := hid ((F24.out.alloc _).below hb27)
  have F31 := hid ((At2.new w_12 (Value.slice u14A u14n u14c) (.int .i64 (D)) 30).below hb27)
  have G32 := hid (below_to (below_alloc G19.out _) hb27)
  have Z33 := hid (show w_12.heap.size + 1 ≤ w_26.heap.size by have := hb27.size; first | omega | (simp at this; omega))
  clear F17 F18 F24 G19 hb27
  have e34 := F29.out.1
  have e34z := F29.out.2.1
  have e34y := F29.out.2.2
  have e35 := F31.out.1
  have e35z := F31.out.2.1
  have e35y := F31.out.2.2
  go_wp2_with fail
  clear e34 e34z e34y e35 e35z e35y
  refine (markDesk_any _ (X) _ _ _ _ F30.out HL22.out (by omega) (by first | omega | (have := HL22.out; omega))).mono ?_
  rintro e w_36 ⟨rfl, ho37, hg38⟩
  have qZ7 := Z7.out
  have qZ20 := Z20.out
  have qZ33 := Z33.out
  have F39 := hid (F28.out.grown hg38 (row_ne_row (U10.out) (U23.out) (by omega)))
  have F40 := hid (F29.out.grown hg38 (row_ne_box (U23.out) (by omega)))
  have F41 := hid (F31.out.grown hg38 (row_ne_box (U23.out) (by omega)))
  have G42 := hid (below_grown G32.out hg38 (fun k hk => by have := U23.out k hk; omega))
  have Z43 := hid (show w_26.heap.size + 0 ≤ w_36.heap.size by have := hg38.size; first | omega | (simp at this; omega))
  clear qZ7 qZ20 qZ33
  have F44 := hid ho37
  clear F28 F29 F31 G32 F30 ho37 hg38
  have e45 := F40.out.1
  have e45z := F40.out.2.1
  have e45y := F40.out.2.2
  have e46 := F41.out.1
  have e46z := F41.out.2.1
  have e46y := F41.out.2.2
  go_wp2_with fail
  clear e45 e45z e45y e46 e46z e46y
  refine (heldDesk_any _ _ _ _ _ F44.out.ints HL22.out (by omega) (by omega)).mono ?_
  rintro e w_47 ⟨rfl, hb48⟩
  have F49 := hid (F39.out.below hb48)
  have F50 := hid (F40.out.below hb48)
  have F51 := hid (F41.out.below hb48)
  have F52 := hid (F44.out.below hb48)
  have G53 := hid (below_to G42.out hb48)
  have Z54 := hid (show w_36.heap.size + 0 ≤ w_47.heap.size by have := hb48.size; first | omega | (simp at this; omega))
  clear F39 F40 F41 F44 G42 hb48
  have e55 := F50.out.1
  have e55z := F50.out.2.1
  have e55y := F50.out.2.2
  have e56 := F51.out.1
  have e56z := F51.out.2.1
  have e56y := F51.out.2.2
  go_wp2_with fail
  clear e55 e55z e55y e56 e56z e56y
  refine (HI.out _ (HG.out.later G53.out) ).mono ?_
  rintro e w_57 ⟨u59, rfl, ho60, hl61, hb58⟩
  have F62 := hid (F49.out.below hb58)
  have F63 := hid (F50.out.below hb58)
  have F64 := hid (F51.out.below hb58)
  have F65 := hid (F52.out.below hb58)
  have G66 := hid (below_to G53.out hb58)
  have Z67 := hid (show w_47.heap.size + 0 ≤ w_57.heap.size by have := hb58.size; first | omega | (simp at this; omega))
  have hn68 := ho60
  have HL69 := hid hl61
  obtain ⟨u59A, u59n, u59c, rfl⟩ := hn68.shape3
  have U70 := hid (OwnI.blockLt hn68)
  have F71 := hid hn68
  clear F49 F50 F51 F52 G53 hb58 hn68 ho60 hl61
  have e72 := F63.out.1
  have e72z := F63.out.2.1
  have e72y := F63.out.2.2
  have e73 := F64.out.1
  have e73z := F64.out.2.1
  have e73y := F64.out.2.2
  go_wp2_with fail
  clear e72 e72z e72y e73 e73z e73y
  refine (eqDesk_any _ _ (X) (D) _ (F71.out.alloc _).ints (F62.out.alloc _).ints HL69.out).mono ?_
  rintro e w_74 ⟨rfl, hb75⟩
  have F76 := hid ((F62.out.alloc _).below hb75)
  have F77 := hid ((F63.out.alloc _).below hb75)
  have F78 := hid ((F64.out.alloc _).below hb75)
  have F79 := hid ((F65.out.alloc _).below hb75)
  have F80 := hid ((F71.out.alloc _).below hb75)
  have F81 := hid ((At2.new w_57 (Value.slice u59A u59n u59c) (.int .i64 (D)) 30).below hb75)
  have G82 := hid (below_to (below_alloc G66.out _) hb75)
  have Z83 := hid (show w_57.heap.size + 1 ≤ w_74.heap.size by have := hb75.size; first | omega | (simp at this; omega))
  clear F62 F63 F64 F65 F71 G66 hb75
  have e84 := F77.out.1
  have e84z := F77.out.2.1
  have e84y := F77.out.2.2
  have e85 := F78.out.1
  have e85z := F78.out.2.1
  have e85y := F78.out.2.2
  have e86 := F81.out.1
  have e86z := F81.out.2.1
  have e86y := F81.out.2.2
  go_wp2_with fail
  clear e84 e84z e84y e85 e85z e85y e86 e86z e86y
  refine (heldDesk_any _ _ _ _ _ F79.out.ints HL22.out (by omega) (by omega)).mono ?_
  rintro e w_87 ⟨rfl, hb88⟩
  have F89 := hid (F76.out.below hb88)
  have F90 := hid (F77.out.below hb88)
  have F91 := hid (F78.out.below hb88)
  have F92 := hid (F79.out.below hb88)
  have F93 := hid (F80.out.below hb88)
  have F94 := hid (F81.out.below hb88)
  have G95 := hid (below_to G82.out hb88)
  have Z96 := hid (show w_74.heap.size + 0 ≤ w_87.heap.size by have := hb88.size; first | omega | (simp at this; omega))
  clear F76 F77 F78 F79 F80 F81 G82 hb88
  go_wp2
  go_ret
  exact ⟨rfl, G95.out⟩
end Go.Proofs.YtbmhaamenjhjfaaGreatDoor.lawDeskAfter
