/- Tableaux promoted by the program. -/
import Derived.Test.YtbbkoagjplapkaaSld
import Derived.StillTailTactics
namespace Go.Proofs.Ytbbkoagjplapkaa
open Go.RowKit Go.WideShapes Go.ChangeShapes
set_option linter.unusedVariables false

set_option maxHeartbeats 1600000 in
theorem slidesUp_any (x : Value) (a b r c : Nat) (F : Nat → Nat → Int) (w : World) (h : GridR w x a b F) (ha : a ≤ 10) (hb : b ≤ 10) (hr : r < a) (hc : c < b) (hm : r + 1 < a ∨ c + 1 < b) :
    Calls Try.prog 91 #[x, .int .i64 (r : Int), .int .i64 (c : Int)] w fun res w' => res = .returned (.bool (slB a b F r c)) ∧ Below w.heap.size w w' := by
  have HH := hid (height_any x a b F w h)
  have HW := hid (fun W (hW : Below w.heap.size w W) => width_any x a b F W (h.below hW) (by omega))
  obtain ⟨ab, ao, cv, rfl, hl, hrow⟩ := h
  by_cases h1 : r + 1 < a
  · have hne : (((r : Int) + 1) == (a : Int)) = false := by rw [beq_eq_false_iff_ne]; omega
    have hne2 : ¬ (r : Int) + 1 = (a : Int) := by omega
    by_cases h2 : c + 1 = b
    · have H : Hid (slB a b F r c = true) := hid (by simp [slB, h1, h2])
      have heq : (((c : Int) + 1) == (b : Int)) = true := by rw [beq_iff_eq]; omega
      have heq2 : (c : Int) + 1 = (b : Int) := by omega
      have wc : IntKind.i64.wrap (b : Int) = (b : Int) := IntWalk.i64_in _ (by omega)
      have wc2 : IntKind.i64.wrap ((c : Int) + 1) = (b : Int) := by rw [heq2]; exact wc
      have hbb : ((b : Int) == (b : Int)) = true := by simp
      clear h2 hrow heq
      go_enter Try.func91, Try.ntmps91
      go_wp2_with (go_at_call 63; refine HH.out.mono ?_; rintro e w' ⟨rfl, rfl⟩)
      go_quiet ((go_at_call 64; exact Calls.quiet_of_same ((HW.out _ (by first | exact Below.refl _ _ | exact below_drewN (Below.refl _ _) _)).mono fun _ _ ⟨a, b⟩ => ⟨a, b.symm⟩)))
      go_wp2
      go_ret
      exact ⟨ret_bool H.out.symm, below_drewN (Below.refl _ _) _⟩
    · have H : Hid (slB a b F r c = decide (F (r + 1) c < F r (c + 1))) := hid (by simp [slB, h1, h2])
      have heq2 : ¬ (c : Int) + 1 = (b : Int) := by omega
      obtain ⟨r1, hr1⟩ : ∃ r1, r + 1 = r1 := ⟨_, rfl⟩
      obtain ⟨c1, hc1⟩ : ∃ c1, c + 1 = c1 := ⟨_, rfl⟩
      have hri : (r : Int) + 1 = (r1 : Int) := by omega
      have hci : (c : Int) + 1 = (c1 : Int) := by omega
      rw [hr1, hc1] at H
      rw [hri] at hne
      rw [hci] at heq2
      have hcb : ((c1 : Int) == (b : Int)) = false := by rw [beq_eq_false_iff_ne]; exact heq2
      obtain ⟨g1, o1, k1, hx1, hg1, hy1⟩ := hrow r1 (by omega)
      obtain ⟨g2, o2, k2, hx2, hg2, hy2⟩ := hrow r hr
      have hz1 := hy1 c hc
      have hz2 := hy2 c1 (by omega)
      obtain ⟨z1, hf1⟩ : ∃ z, F r1 c = z := ⟨_, rfl⟩
      obtain ⟨z2, hf2⟩ : ∃ z, F r c1 = z := ⟨_, rfl⟩
      rw [hf1] at hz1 H
      rw [hf2] at hz2 H
      have w1 : IntKind.i64.wrap (r1 : Int) = (r1 : Int) := IntWalk.i64_in _ (by omega)
      have w2 : IntKind.i64.wrap (c1 : Int) = (c1 : Int) := IntWalk.i64_in _ (by omega)
      have w3 : IntKind.i64.wrap ((r : Int) + 1) = (r1 : Int) := by rw [hri]; exact w1
      have w4 : IntKind.i64.wrap ((c : Int) + 1) = (c1 : Int) := by rw [hci]; exact w2
      have v1 : (r1 : Int) < (a : Int) := by omega
      have v2 : (r : Int) < (a : Int) := by omega
      have v3 : (c : Int) < (b : Int) := by omega
      have v4 : (c1 : Int) < (b : Int) := by omega
      clear h2 hrow hy1 hy2 hf1 hf2 hr1 hc1 hne2
      go_enter Try.func91, Try.ntmps91
      go_wp2_with (go_at_call 63; refine HH.out.mono ?_; rintro e w' ⟨rfl, rfl⟩)
      go_quiet ((go_at_call 64; exact Calls.quiet_of_same ((HW.out _ (by first | exact Below.refl _ _ | exact below_drewN (Below.refl _ _) _)).mono fun _ _ ⟨a, b⟩ => ⟨a, b.symm⟩)))
      go_wp2
      go_ret
      exact ⟨ret_bool H.out.symm, below_drewN (Below.refl _ _) _⟩
  · have H : Hid (slB a b F r c = false) := hid (by simp [slB, h1])
    have heq2 : (r : Int) + 1 = (a : Int) := by omega
    have heq : (((r : Int) + 1) == (a : Int)) = true := by rw [beq_iff_eq]; omega
    clear h1 hrow
    go_enter Try.func91, Try.ntmps91
    go_wp2_with (go_at_call 63; refine HH.out.mono ?_; rintro e w' ⟨rfl, rfl⟩)
    go_ret
    exact ⟨ret_bool H.out.symm, Below.refl _ _⟩
set_option maxRecDepth 100000 in
set_option maxHeartbeats 3200000 in
theorem slide_any (v : Value) (a b B E : Nat) (F : Nat → Nat → Int) (last : Int) (w : World) (hv : OwnSS 3 27 w B E v (gridL a b F)) (ha1 : 1 ≤ a) (ha : a ≤ 10) (hb1 : 1 ≤ b) (hb : b ≤ 10) (hBw : B ≤ w.heap.size) :
    Calls Try.prog 67 #[v, .int .i64 last] w fun (r : Ending) w' => r = Ending.returned (.tuple #[]) ∧ OwnSS 3 27 w' B E v (gridL a b (updF (slN a b F (a + b - 2)).F (a - 1) (b - 1) last)) ∧ Below B w w' := by
  obtain ⟨o, cv, rfl, ho, hBo⟩ := hv.gform ha1
  have HV := hid hv
  have HOk := hid (fun k hk => slN_ok (P := fun _ => True) (F := F) ha1 hb1 (fun _ _ _ _ => trivial) k hk)
  have HLs := hid (slN_last (F := F) ha1 hb1)
  clear hv
  go_enter Try.func67, Try.ntmps67
  go_wp2
  go_loopw [4, 5] (fun r c wr => ∃ k : Nat, k ≤ a + b - 2 ∧ r = .int .i64 ((slN a b F k).r : Nat) ∧ c = .int .i64 ((slN a b F k).c : Nat) ∧ OwnSS 3 27 wr B E (.slice (some ⟨o, 0, none⟩) a cv) (gridL a b (slN a b F k).F) ∧ Below B w wr) (fun r c _ => a + b - ((intOf r).toNat + (intOf c).toNat))
  case atStart => exact ⟨0, Nat.zero_le _, rfl, rfl, HV.out, Below.refl _ _⟩
  case round =>
    obtain ⟨k, hk, rfl, rfl, hg, hbl⟩ := hrel
    have HG := hid hg
    have Hb := hid hbl
    have hok := HOk.out k hk
    have HNx := hid (slN_succ a b F k)
    have HEnd : Hid (k = a + b - 2 → (slN a b F k).r = a - 1 ∧ (slN a b F k).c = b - 1) := hid (fun h => by rw [h]; exact HLs.out)
    have HEq : Hid (k = a + b - 2 → (slN a b F (a + b - 2)).F = (slN a b F k).F) := hid (fun h => by rw [h])
    obtain ⟨s, hs⟩ : ∃ s, slN a b F k = s := ⟨_, rfl⟩
    rw [hs] at HG hok HNx HEnd HEq
    rw [hs]
    obtain ⟨G, r, c⟩ := s
    obtain ⟨hsum, hrl, hcl, -⟩ := hok
    simp only at hsum hrl hcl HG HEnd HEq ⊢
    have HGr := hid (HG.out.gridR (by decide) (by omega) (by omega))
    have HGr2 : Hid (GridR wr (.slice (some ⟨o, 0, none⟩) a cv) a b G) := HGr
    have HH := hid (height_any _ a b G wr HGr2.out)
    have HW := hid (width_any _ a b G wr HGr2.out (by omega))
    clear hg hbl hs HGr
    by_cases hlt : k < a + b - 2
    · have hm : r + 1 < a ∨ c + 1 < b := by omega
      have HSl := hid (slidesUp_any _ a b r c G wr HGr2.out ha hb hrl hcl hm)
      by_cases hra : r + 1 < a
      · have hcond : (r : Int) + 1 < (a : Int) := by omega
        cases hq : slB a b G r c
        · have HQ := hid hq
          have hcb1 : c + 1 < b := by
            rcases Nat.lt_or_ge (c + 1) b with h | h
            · exact h
            · exfalso; simp [slB, hra, show c + 1 = b by omega] at hq
          clear hq hra
          go_wp2_with (first | (go_at_call 63; refine HH.out.mono ?_; rintro e w' ⟨rfl, rfl⟩) | (go_at_call 64; refine HW.out.mono ?_; rintro e w' ⟨rfl, rfl⟩))
          refine HSl.out.mono ?_
          rintro e w2 ⟨rfl, hb2⟩
          rw [HQ.out]
          have HB2 := hid hb2
          have HG2 := hid (HG.out.below hb2)
          have Hb2 := hid (Hb.out.trans (hb2.mono (Nat.le_trans hBw Hb.out.size)))
          clear hb2 hcond
          obtain ⟨g1, k1, hx1, hB1, hl1, hy1, hf1, hst1⟩ := HG2.out.gcell (by decide) (by omega) hrl
          obtain ⟨c1, hc1⟩ : ∃ c1, c + 1 = c1 := ⟨_, rfl⟩
          have hci : (c : Int) + 1 = (c1 : Int) := by omega
          have wr1 : IntKind.i64.wrap (c1 : Int) = (c1 : Int) := IntWalk.i64_in _ (by omega)
          have wr2 : IntKind.i64.wrap ((c : Int) + 1) = (c1 : Int) := by rw [hci]; exact wr1
          have hz2 := hy1 c1 (by omega)
          have HSt2 := hid (hst1 c (G r c1) hcl)
          have HNx2 : Hid (slN a b F (k + 1) = ⟨updF G r c (G r c1), r, c1⟩) := hid (by rw [HNx.out]; unfold slS; rw [if_neg (by rw [HQ.out]; decide), ← hc1])
          obtain ⟨z, hz⟩ : ∃ z, G r c1 = z := ⟨_, rfl⟩
          have v4 : (c1 : Int) < (b : Int) := by omega
          rw [hz] at hz2 HSt2 HNx2
          have hz1 := hy1 c hcl
          obtain ⟨z0, hz0⟩ : ∃ z, G r c = z := ⟨_, rfl⟩
          rw [hz0] at hz1
          have hft := hf1 c
          have v2 : (r : Int) < (a : Int) := by omega
          have v3 : (c : Int) < (b : Int) := by omega
          clear hy1 hf1 hst1 hz hz0 hc1
          go_wp2
          go_region
          go_wp2
          go_roundw
          case rel => exact ⟨k + 1, by omega, by rw [HNx2.out], by rw [HNx2.out], by rw [HNx2.out]; exact HSt2.out.drew, (Hb2.out.setCell (p := ⟨g1, c, none⟩) hB1 _).drew⟩
          case measure => simp [intOf]; omega
        · have HQ := hid hq
          clear hq
          go_wp2_with (first | (go_at_call 63; refine HH.out.mono ?_; rintro e w' ⟨rfl, rfl⟩) | (go_at_call 64; refine HW.out.mono ?_; rintro e w' ⟨rfl, rfl⟩))
          refine HSl.out.mono ?_
          rintro e w2 ⟨rfl, hb2⟩
          rw [HQ.out]
          have HB2 := hid hb2
          have HG2 := hid (HG.out.below hb2)
          have Hb2 := hid (Hb.out.trans (hb2.mono (Nat.le_trans hBw Hb.out.size)))
          clear hb2 hcond
          obtain ⟨g1, k1, hx1, hB1, hl1, hy1, hf1, hst1⟩ := HG2.out.gcell (by decide) (by omega) hrl
          obtain ⟨r1, hr1⟩ : ∃ r1, r + 1 = r1 := ⟨_, rfl⟩
          have hri : (r : Int) + 1 = (r1 : Int) := by omega
          have wr1 : IntKind.i64.wrap (r1 : Int) = (r1 : Int) := IntWalk.i64_in _ (by omega)
          have wr2 : IntKind.i64.wrap ((r : Int) + 1) = (r1 : Int) := by rw [hri]; exact wr1
          obtain ⟨g2, k2, hx2, hB2, hl2, hy2, hf2, -⟩ := HG2.out.gcell (by decide) (by omega) (show r1 < a by omega)
          have hz2 := hy2 c hcl
          have HSt2 := hid (hst1 c (G r1 c) hcl)
          have HNx2 : Hid (slN a b F (k + 1) = ⟨updF G r c (G r1 c), r1, c⟩) := hid (by rw [HNx.out]; unfold slS; rw [if_pos HQ.out, ← hr1])
          obtain ⟨z, hz⟩ : ∃ z, G r1 c = z := ⟨_, rfl⟩
          have v4 : (r1 : Int) < (a : Int) := by omega
          rw [hz] at hz2 HSt2 HNx2
          have hz1 := hy1 c hcl
          obtain ⟨z0, hz0⟩ : ∃ z, G r c = z := ⟨_, rfl⟩
          rw [hz0] at hz1
          have hft := hf1 c
          have v2 : (r : Int) < (a : Int) := by omega
          have v3 : (c : Int) < (b : Int) := by omega
          clear hy1 hf1 hst1 hz hz0 hy2 hf2 hr1
          go_wp2
          go_region
          go_wp2
          go_roundw
          case rel => exact ⟨k + 1, by omega, by rw [HNx2.out], by rw [HNx2.out], by rw [HNx2.out]; exact HSt2.out.drew, (Hb2.out.setCell (p := ⟨g1, c, none⟩) hB1 _).drew⟩
          case measure => simp [intOf]; omega
      · have hcond : ¬ (r : Int) + 1 < (a : Int) := by omega
        have hcb1 : c + 1 < b := by omega
        have hcond2 : (c : Int) + 1 < (b : Int) := by omega
        have HQ : Hid (slB a b G r c = false) := hid (by simp [slB, hra])
        clear hra
        go_wp2_with (first | (go_at_call 63; refine HH.out.mono ?_; rintro e w' ⟨rfl, rfl⟩) | (go_at_call 64; refine HW.out.mono ?_; rintro e w' ⟨rfl, rfl⟩))
        refine HSl.out.mono ?_
        rintro e w2 ⟨rfl, hb2⟩
        rw [HQ.out]
        have HB2 := hid hb2
        have HG2 := hid (HG.out.below hb2)
        have Hb2 := hid (Hb.out.trans (hb2.mono (Nat.le_trans hBw Hb.out.size)))
        clear hb2 hcond
        obtain ⟨g1, k1, hx1, hB1, hl1, hy1, hf1, hst1⟩ := HG2.out.gcell (by decide) (by omega) hrl
        obtain ⟨c1, hc1⟩ : ∃ c1, c + 1 = c1 := ⟨_, rfl⟩
        have hci : (c : Int) + 1 = (c1 : Int) := by omega
        have wr1 : IntKind.i64.wrap (c1 : Int) = (c1 : Int) := IntWalk.i64_in _ (by omega)
        have wr2 : IntKind.i64.wrap ((c : Int) + 1) = (c1 : Int) := by rw [hci]; exact wr1
        have hz2 := hy1 c1 (by omega)
        have HSt2 := hid (hst1 c (G r c1) hcl)
        have HNx2 : Hid (slN a b F (k + 1) = ⟨updF G r c (G r c1), r, c1⟩) := hid (by rw [HNx.out]; unfold slS; rw [if_neg (by rw [HQ.out]; decide), ← hc1])
        obtain ⟨z, hz⟩ : ∃ z, G r c1 = z := ⟨_, rfl⟩
        have v4 : (c1 : Int) < (b : Int) := by omega
        rw [hz] at hz2 HSt2 HNx2
        have hz1 := hy1 c hcl
        obtain ⟨z0, hz0⟩ : ∃ z, G r c = z := ⟨_, rfl⟩
        rw [hz0] at hz1
        have hft := hf1 c
        have v2 : (r : Int) < (a : Int) := by omega
        have v3 : (c : Int) < (b : Int) := by omega
        clear hy1 hf1 hst1 hz hz0 hc1
        go_wp2
        go_region
        go_wp2
        go_roundw
        case rel => exact ⟨k + 1, by omega, by rw [HNx2.out], by rw [HNx2.out], by rw [HNx2.out]; exact HSt2.out.drew, (Hb2.out.setCell (p := ⟨g1, c, none⟩) hB1 _).drew⟩
        case measure => simp [intOf]; omega
    · have hk2 : k = a + b - 2 := by omega
      obtain ⟨hr9, hc9⟩ := HEnd.out hk2
      have HF := hid (HEq.out hk2)
      have hc1' : ¬ (r : Int) + 1 < (a : Int) := by omega
      have hc2' : ¬ (c : Int) + 1 < (b : Int) := by omega
      obtain ⟨g1, k1, hx1, hB1, hl1, hy1, hf1, hst1⟩ := HG.out.gcell (by decide) (by omega) hrl
      have HSt2 := hid (hst1 c last hcl)
      have hz1 := hy1 c hcl
      obtain ⟨z0, hz0⟩ : ∃ z, G r c = z := ⟨_, rfl⟩
      rw [hz0] at hz1
      have hft := hf1 c
      have v2 : (r : Int) < (a : Int) := by omega
      have v3 : (c : Int) < (b : Int) := by omega
      have HR9 := hid hr9
      have HC9 := hid hc9
      clear hy1 hf1 hst1 hz0 hk2 hlt hr9 hc9
      go_wp2_with (first | (go_at_call 63; refine HH.out.mono ?_; rintro e w' ⟨rfl, rfl⟩) | (go_at_call 64; refine HW.out.mono ?_; rintro e w' ⟨rfl, rfl⟩))
      go_end0
      refine ⟨rfl, ?_, Hb.out.setCell (p := ⟨g1, c, none⟩) hB1 _⟩
      rw [HF.out, ← HR9.out, ← HC9.out]
      exact HSt2.out
set_option maxRecDepth 100000 in
set_option maxHeartbeats 3200000 in
theorem implPromoteTableau_any (v : Value) (ls : List (List Int)) (w : World) (hv : IntsSS w v ls) (hs : SSmall ls) :
    Calls Try.prog 33 #[v] w fun (r : Ending) w' => ∃ q, r = Ending.returned (.tuple #[q, .bool (tabB ls)]) ∧ OwnSS 3 27 w' w.heap.size w'.heap.size q (ansPT ls) ∧ SSmall (ansPT ls) ∧ Below w.heap.size w w' := by
  have HP := hid (tableauIn_any v ls w hv hs)
  have HV := hid hv
  have HL := hid (ansPT_small ls)
  clear hv hs
  go_enter Try.func33, Try.ntmps33
  go_wp2_with fail
  refine HP.out.mono ?_
  rintro e w1 ⟨xA, xn, xc, y, rfl, hx, ho, hb⟩
  obtain ⟨yA, yn, yc, rfl⟩ := ho.shape3
  have HB := hid (below_alloc hb (.cells #[.slice xA xn xc, .slice yA yn yc] 47))
  cases hq : tabB ls
  · have HQ := hid hq
    clear hb hx ho hq
    go_wp2
    go_ret2
    exact ⟨_, ret_vbT HQ.out.symm, by rw [ansPT_no HQ.out]; exact OwnSS.nil _ _ _ _ _, HL.out, HB.out⟩
  · have HQ := hid hq
    have hL := (tabB_all hq).1
    have a1 := hL.a1
    have a2 := hL.a2
    have b1 := hL.b1
    have b2 := hL.b2
    have hG : GridR w1 (.slice xA xn xc) ls.length (wid ls) (cel ls) := by rw [hx hq]; exact GridR.of (HV.out.below hb) hL
    have HBlk := hid (Blk.new w1 47 #[.slice xA xn xc, .slice yA yn yc])
    have HG := hid (hG.alloc (.cells #[.slice xA xn xc, .slice yA yn yc] 47))
    obtain ⟨W2, hW2⟩ : ∃ W2 : World, W2 = w1.alloc (.cells #[.slice xA xn xc, .slice yA yn yc] 47) := ⟨_, rfl⟩
    clear hb hx ho hq hL hG
    go_wp2
    rw [← hW2] at HB HG HBlk ⊢
    clear hW2
    have hn10 := (tabB_all HQ.out).1.n
    have hzW : w1.heap.size < W2.heap.size := HBlk.out.lt
    have HRg : Hid (∀ r c, r < ls.length → c < wid ls → 0 ≤ cel ls r c ∧ cel ls r c < 10) := hid (fun r c hr hc => by have := cel_rng HQ.out hr hc; omega)
    have t0 := HBlk.out.cell 0
    have H1 := hid ((height_any _ ls.length (wid ls) (cel ls) W2.drew (HG.out.below (Below.refl _ W2).drew)).mono fun _ _ h => (⟨h.1, h.2.symm⟩ : _ ∧ _))
    have H2 := hid ((width_any _ ls.length (wid ls) (cel ls) W2.drew (HG.out.below (Below.refl _ W2).drew) a1).mono fun _ _ h => (⟨h.1, h.2.symm⟩ : _ ∧ _))
    refine wp_region_still_tail 7 (by kernel_rfl) (by kernel_rfl) ?_
    simp only [List.take_succ_cons, List.take_zero, List.drop_succ_cons, List.drop_zero]
    still_step
    still_step
    still_call H1.out
    still_step
    still_step
    still_call H2.out
    still_step
    refine wpStill_nil ?_
    change wpList _ _ _ _ _ W2.drew
    have HGd := hid (show GridR W2.drew (.slice xA xn xc) ls.length (wid ls) (cel ls) from HG.out.below (Below.refl _ W2).drew)
    have HBd := hid (show Blk W2.drew w1.heap.size 47 #[.slice xA xn xc, .slice yA yn yc] from HBlk.out)
    clear t0
    go_wp2_with fail
    refine (gridOfPromoteTableau_any ls.length (wid ls) _ _ _ (promClo _ _ _ ls.length (wid ls) (cel ls) _ HBd.out HGd.out HRg.out) a1 a2 b1 b2).mono ?_
    rintro e w2 ⟨q, rfl, ho, hb⟩
    have HO := hid (ho.monoG (show w.heap.size ≤ W2.drew.heap.size from HB.out.size))
    have HB2 := hid (below_to HB.out.drew hb)
    have HBlk2 := hid (HBd.out.below hb (by exact hzW))
    have HG2 := hid (HGd.out.below hb)
    obtain ⟨qA, qn, qc, rfl⟩ := ho.shape3
    have t2 := HBlk2.out.cell 0
    have HSz := hid (size_any _ ls.length (wid ls) (ls.length * wid ls) (cel ls) w2 HG2.out a1 rfl hn10)
    clear ho hb
    go_wp2_with fail
    refine HSz.out.mono ?_
    rintro e w3 ⟨rfl, rfl⟩
    clear t2
    go_wp2_with fail
    have HEq : Hid ((((ls.length * wid ls : Nat) : Int) - 1) = (((ls.length * wid ls : Nat) : Int) - 1)) := hid rfl
    refine (slide_any _ ls.length (wid ls) w.heap.size w2.heap.size _ (((ls.length * wid ls : Nat) : Int) - 1) w2 HO.out a1 a2 b1 b2 HB2.out.size).mono ?_
    rintro e w4 ⟨rfl, ho4, hb4⟩
    have HL1 := hid (slN_less ls.length (wid ls) (cel ls) (ls.length + wid ls - 2))
    rw [HL1.out.1] at ho4
    have HO4 := hid (ho4.mono (Nat.le_trans (Nat.le_refl _) hb4.size))
    have HB4 := hid (HB2.out.trans hb4)
    clear ho4 hb4
    go_wp2
    go_ret2
    exact ⟨_, ret_vbT HQ.out.symm, by rw [ansPT_yes HQ.out]; exact HO4.out, HL.out, HB4.out⟩
end Go.Proofs.Ytbbkoagjplapkaa
