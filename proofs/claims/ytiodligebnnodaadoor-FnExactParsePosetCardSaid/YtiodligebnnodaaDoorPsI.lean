/- ParsePoset of the program. -/
import Derived.Test.YtiodligebnnodaaDoorPsR
import Derived.Test.YtiodligebnnodaaDoorTextI
import Derived.Test.YtiodligebnnodaaDoorFcovI
namespace Go.Proofs.YtiodligebnnodaaDoor
open Go.RowKit Go.WideShapes Go.ChangeShapes
set_option linter.unusedVariables false

theorem prI_no1 {l : List UInt8} (h : ∀ v, Lib.atoiAll (cutL 58 l).1 ≠ .ok v) : prI l = none := by
  unfold prI
  split
  · rename_i h1 h2; exact absurd h1 (h _)
  · rfl
theorem prI_no2 {l : List UInt8} (h : relL (cutL 58 l).2.1 = none) : prI l = none := by
  unfold prI
  split
  · rename_i h1 h2; rw [h] at h2; cases h2
  · rfl
theorem prI_at {l : List UInt8} {n : Int} {ls : List (List Int)} (h1 : Lib.atoiAll (cutL 58 l).1 = .ok n) (h2 : relL (cutL 58 l).2.1 = some ls) :
    prI l = if (good (fcL n ls) && decide (ansPT (fcL n ls) = l)) = true then some (fcL n ls) else none := by
  unfold prI
  rw [h1, h2]
  cases hg : good (fcL n ls)
  · simp [hg]
  · simp [hg, ansPT_yes hg]
theorem prI_no3 {l : List UInt8} {n : Int} {ls : List (List Int)} (h1 : Lib.atoiAll (cutL 58 l).1 = .ok n) (h2 : relL (cutL 58 l).2.1 = some ls) (h : good (fcL n ls) = false) : prI l = none := by
  rw [prI_at h1 h2, h]; rfl
theorem prI_no4 {l : List UInt8} {n : Int} {ls : List (List Int)} (h1 : Lib.atoiAll (cutL 58 l).1 = .ok n) (h2 : relL (cutL 58 l).2.1 = some ls) (h : ansPT (fcL n ls) ≠ l) : prI l = none := by
  rw [prI_at h1 h2, decide_eq_false h, Bool.and_false]; rfl
theorem prI_yes {l : List UInt8} {n : Int} {ls : List (List Int)} (h1 : Lib.atoiAll (cutL 58 l).1 = .ok n) (h2 : relL (cutL 58 l).2.1 = some ls) (hg : good (fcL n ls) = true) (h : ansPT (fcL n ls) = l) : prI l = some (fcL n ls) := by
  rw [prI_at h1 h2, hg, decide_eq_true h]; rfl
set_option maxRecDepth 100000 in
set_option maxHeartbeats 3200000 in
theorem implParsePoset_any (l : List UInt8) (w : World) (hG : Glob w) (hl : l.length ≤ 1048576) :
    Calls Tryd.prog 5 #[.string (sB l)] w fun (r : Ending) w' => ∃ q, r = Ending.returned (.tuple #[.agg #[q], .bool (prI l).isSome]) ∧ OwnI 3 w' w.heap.size q ((prI l).getD []) ∧ Below w.heap.size w w' := by
  have HL := hid hl
  have hc1 := (cutL_length 58 l).1
  have hc2 := (cutL_length 58 l).2
  have HZ0 := hid (Blk.new w 24 #[.slice none 0 0])
  have HB0 := hid (below_alloc (Below.refl _ w) (.cells #[.slice none 0 0] 24))
  have HG0 := hid (hG.later (below_alloc (Below.refl _ w) (.cells #[.slice none 0 0] 24)))
  clear hG
  go_enter Tryd.func5, Tryd.ntmps5
  go_wp2_with fail
  refine (cut_any 58 l _ HG0.out hl).mono ?_
  rintro e w1 ⟨rfl, hb⟩
  have HZ1 := hid (HZ0.out.below hb HZ0.out.lt)
  have HB1 := hid (below_to HB0.out hb)
  have HG1 := hid (HG0.out.later hb)
  clear hb
  go_wp2_with fail
  refine (atoi_any (cutL 58 l).1 _ HG1.out (by omega)).mono ?_
  rintro e w2 ⟨n, ex, rfl, hx, hb⟩
  have HZ2 := hid (HZ1.out.below hb HZ1.out.lt)
  have HB2 := hid (below_to HB1.out hb)
  have HG2 := hid (HG1.out.later hb)
  have HX := hid hx
  clear hb hx
  go_wp2_with fail
  refine (relationsIn_any (cutL 58 l).2.1 _ HG2.out (by omega)).mono ?_
  rintro e w3 ⟨u, rfl, ho, hb⟩
  have HZ := hid (HZ2.out.below hb HZ2.out.lt)
  have HB := hid (below_to HB2.out hb)
  have HO := hid ho
  obtain ⟨uA, un, uc, rfl⟩ := ho.shape3
  have z1 := HZ.out.cell 0
  have z2 := HZ.out.frozen 0
  have z3 := HZ.out.lt
  have hz3 := HB.out.size
  have HS := hid (relL_small (cutL 58 l).2.1)
  clear hb ho HZ0 HZ1 HZ2 HB0 HB1 HB2 HG0 HG1 HG2
  rcases HX.out with ⟨hx1, rfl, hwf⟩ | ⟨hx1, tx, px, rfl⟩
  · cases hr : relL (cutL 58 l).2.1 with
    | none =>
      have HE := hid (prI_no2 hr)
      clear hr hx1 hwf
      go_wp2
      refine bodyPost_ret (v := .tuple #[.agg #[.slice none 0 0], .bool false]) (by simp [results, Tryd.results5, go_sem, z1]) rfl ⟨_, by rw [HE.out]; rfl, by rw [HE.out]; exact OwnI.nil _ _ _, ?_⟩
      exact HB.out.setCell (p := ⟨w.heap.size, 0, none⟩) (Nat.le_refl _) _
    | some ls =>
      have HO2 : Hid (IntsSS w3 (.slice uA un uc) ls) := hid (by have := HO.out.ints; rw [hr] at this; exact this)
      have HS2 : Hid (SSmall ls) := hid (by have := HS.out; rw [hr] at this; exact this)
      have HN3 := hid (fun h => prI_no3 (n := n) hx1 hr h)
      have HN4 := hid (fun h => prI_no4 (n := n) hx1 hr h)
      have HYs := hid (fun h h' => prI_yes (n := n) hx1 hr h h')
      have Hwf := hid hwf
      clear hr hx1 hwf HO HS HX
      go_wp2_with fail
      refine (implFromCovers_any n _ ls _ Hwf.out HO2.out HS2.out).mono ?_
      rintro e w4 ⟨q, rfl, hq, hql, hb⟩
      have HZ4 := hid (HZ.out.below hb HZ.out.lt)
      have HB4 := hid (below_to HB.out hb)
      have hz4 := hb.size
      have HQ := hid hq
      obtain ⟨qA, qn, qc, rfl⟩ := hq.shape3
      obtain ⟨xs, hxs⟩ : ∃ xs, fcL n ls = xs := ⟨_, rfl⟩
      rw [hxs] at HN3 HN4 HYs HQ hql
      have HBx := hid (Blk.newAt w4 24 #[.slice qA qn qc] w4.heap.size rfl)
      clear hb hq hxs z1 z2 z3 HO2 HS2
      have HBl := hid (below_alloc (Below.refl _ w4) (.cells #[.slice qA qn qc] 24))
      have HQb := hid (HQ.out.below HBl.out)
      go_wp2_with fail
      refine (implPosetText_any _ xs _ HQb.out.ints hql).mono ?_
      rintro e w5 ⟨rfl, hb⟩
      have HZ5 := hid (((HZ4.out.below HBl.out HZ4.out.lt)).below hb (by have := HZ4.out.lt; simp; omega))
      have HBx5 := hid (HBx.out.below hb HBx.out.lt)
      have HB5 := hid (below_to (below_to HB4.out HBl.out) hb)
      have HQ5 := hid (HQb.out.below hb)
      have z1 := HZ5.out.cell 0
      have z2 := HZ5.out.frozen 0
      have b1 := HBx5.out.cell 0
      have b2 := HBx5.out.frozen 0
      have zlt := HZ5.out.lt
      clear hb
      by_cases hg : good xs = true
      · by_cases ht : ansPT xs = l
        · have HE := hid (HYs.out hg ht)
          rw [hg, ht]
          go_wp2
          refine bodyPost_ret (v := .tuple #[.agg #[.slice qA qn qc], .bool true]) (by simp [results, Tryd.results5, go_sem, z1]) rfl ⟨_, by rw [HE.out]; rfl, ?_, ?_⟩
          · rw [HE.out]
            refine (HQ5.out.grown (grown_setCell (g := w.heap.size) (World.grownBy.refl _ _) 0 _) ?_).mono hz3
            exact HQ5.out.apart (.inl HZ.out.lt)
          · exact HB5.out.setCell (p := ⟨w.heap.size, 0, none⟩) (Nat.le_refl _) _
        · have HE := hid (HN4.out ht)
          have hne : ((sB (ansPT xs)).toList == (sB l).toList) = false := by rw [sB_toList, sB_toList, beq_eq_false_iff_ne]; exact ht
          rw [hg]
          go_wp2
          refine bodyPost_ret (v := .tuple #[.agg #[.slice none 0 0], .bool false]) (by simp [results, Tryd.results5, go_sem, z1]) rfl ⟨_, by rw [HE.out]; rfl, by rw [HE.out]; exact OwnI.nil _ _ _, ?_⟩
          exact HB5.out.setCell (p := ⟨w.heap.size, 0, none⟩) (Nat.le_refl _) _
      · have HE := hid (HN3.out (by simpa using hg))
        have hg2 : good xs = false := by simpa using hg
        rw [hg2]
        go_wp2
        refine bodyPost_ret (v := .tuple #[.agg #[.slice none 0 0], .bool false]) (by simp [results, Tryd.results5, go_sem, z1]) rfl ⟨_, by rw [HE.out]; rfl, by rw [HE.out]; exact OwnI.nil _ _ _, ?_⟩
        exact HB5.out.setCell (p := ⟨w.heap.size, 0, none⟩) (Nat.le_refl _) _
  · have HE := hid (prI_no1 hx1)
    clear hx1
    go_wp2
    refine bodyPost_ret (v := .tuple #[.agg #[.slice none 0 0], .bool false]) (by simp [results, Tryd.results5, go_sem, z1]) rfl ⟨_, by rw [HE.out]; rfl, by rw [HE.out]; exact OwnI.nil _ _ _, ?_⟩
    exact HB.out.setCell (p := ⟨w.heap.size, 0, none⟩) (Nat.le_refl _) _
end Go.Proofs.YtiodligebnnodaaDoor
