/- Tableaux turned and evacuated by the program. -/
import Derived.Test.YtbbkoagjplapkaaClo
import Derived.StillTailTactics
namespace Go.Proofs.Ytbbkoagjplapkaa
open Go.RowKit Go.WideShapes Go.ChangeShapes
set_option linter.unusedVariables false

set_option maxRecDepth 100000 in
set_option maxHeartbeats 3200000 in
theorem implTurnTableau_any (v : Value) (ls : List (List Int)) (w : World) (hv : IntsSS w v ls) (hs : SSmall ls) :
    Calls Try.prog 37 #[v] w fun (r : Ending) w' => ∃ q, r = Ending.returned (.tuple #[q, .bool (tabB ls)]) ∧ OwnSS 3 27 w' w.heap.size w'.heap.size q (ansTU ls) ∧ SSmall (ansTU ls) ∧ Below w.heap.size w w' := by
  have HP := hid (tableauIn_any v ls w hv hs)
  have HV := hid hv
  have HL := hid (ansTU_small ls)
  clear hv hs
  go_enter Try.func37, Try.ntmps37
  go_wp2_with fail
  refine HP.out.mono ?_
  rintro e w1 ⟨xA, xn, xc, y, rfl, hx, ho, hb⟩
  obtain ⟨yA, yn, yc, rfl⟩ := ho.shape3
  have HB := hid (below_alloc hb (.cells #[.slice xA xn xc, .slice yA yn yc] 47))
  cases hq : tabB ls
  · have HQ := hid hq
    clear hb hx ho hq
    go_wp2
    go_ret2
    exact ⟨_, ret_vbT HQ.out.symm, by rw [ansTU_no HQ.out]; exact OwnSS.nil _ _ _ _ _, HL.out, HB.out⟩
  · have HQ := hid hq
    have hL := (tabB_all hq).1
    have a1 := hL.a1
    have a2 := hL.a2
    have b1 := hL.b1
    have b2 := hL.b2
    have hG : GridR w1 (.slice xA xn xc) ls.length (wid ls) (cel ls) := by rw [hx hq]; exact GridR.of (HV.out.below hb) hL
    have HBlk := hid (Blk.new w1 47 #[.slice xA xn xc, .slice yA yn yc])
    have HG := hid (hG.alloc (.cells #[.slice xA xn xc, .slice yA yn yc] 47))
    obtain ⟨W2, hW2⟩ : ∃ W2 : World, W2 = w1.alloc (.cells #[.slice xA xn xc, .slice yA yn yc] 47) := ⟨_, rfl⟩
    clear hb hx ho hq hL hG
    go_wp2
    rw [← hW2] at HB HG HBlk ⊢
    clear hW2
    have t0 := HBlk.out.cell 0
    have H1 := hid ((width_any _ ls.length (wid ls) (cel ls) W2.drew (HG.out.below (Below.refl _ W2).drew) a1).mono fun _ _ h => (⟨h.1, h.2.symm⟩ : _ ∧ _))
    have H2 := hid ((height_any _ ls.length (wid ls) (cel ls) W2.drew (HG.out.below (Below.refl _ W2).drew)).mono fun _ _ h => (⟨h.1, h.2.symm⟩ : _ ∧ _))
    refine wp_region_still_tail 7 (by kernel_rfl) (by kernel_rfl) ?_
    simp only [List.take_succ_cons, List.take_zero, List.drop_succ_cons, List.drop_zero]
    still_step
    still_step
    still_call H1.out
    still_step
    still_step
    still_call H2.out
    still_step
    refine wpStill_nil ?_
    change wpList _ _ _ _ _ W2.drew
    have HGd := hid (show GridR W2.drew (.slice xA xn xc) ls.length (wid ls) (cel ls) from HG.out.below (Below.refl _ W2).drew)
    have HBd := hid (show Blk W2.drew w1.heap.size 47 #[.slice xA xn xc, .slice yA yn yc] from HBlk.out)
    clear t0
    go_wp2_with fail
    refine (gridOfTurnTableau_any (wid ls) ls.length _ _ _ (turnClo _ _ _ ls.length (wid ls) (cel ls) _ HBd.out HGd.out) b1 b2 a1 a2).mono ?_
    rintro e w2 ⟨q, rfl, ho, hb⟩
    have HO := hid (ho.monoG (show w.heap.size ≤ W2.drew.heap.size from HB.out.size))
    have HB2 := hid (below_to HB.out.drew hb)
    obtain ⟨qA, qn, qc, rfl⟩ := ho.shape3
    clear ho hb
    go_wp2
    go_ret2
    exact ⟨_, ret_vbT HQ.out.symm, by rw [ansTU_yes HQ.out]; exact HO.out, HL.out, HB2.out⟩
end Go.Proofs.Ytbbkoagjplapkaa
