/- Tableaux evacuated by the program. -/
import Derived.Test.YtbbkoagjplapkaaClo
import Derived.StillTailTactics
import Derived.Deep.RegionHeld3
namespace Go.Proofs.Ytbbkoagjplapkaa
open Go.RowKit Go.WideShapes Go.ChangeShapes
set_option linter.unusedVariables false

set_option maxRecDepth 100000 in
set_option maxHeartbeats 3200000 in
theorem implEvacuateTableau_any (v : Value) (ls : List (List Int)) (w : World) (hv : IntsSS w v ls) (hs : SSmall ls) :
    Calls Try.prog 35 #[v] w fun (r : Ending) w' => ∃ q, r = Ending.returned (.tuple #[q, .bool (tabB ls)]) ∧ OwnSS 3 27 w' w.heap.size w'.heap.size q (ansEV ls) ∧ SSmall (ansEV ls) ∧ Below w.heap.size w w' := by
  have HP := hid (tableauIn_any v ls w hv hs)
  have HV := hid hv
  have HL := hid (ansEV_small ls)
  clear hv hs
  go_enter Try.func35, Try.ntmps35
  go_wp2_with fail
  refine HP.out.mono ?_
  rintro e w1 ⟨xA, xn, xc, y, rfl, hx, ho, hb⟩
  obtain ⟨yA, yn, yc, rfl⟩ := ho.shape3
  have HB := hid (below_alloc hb (.cells #[.slice xA xn xc, .slice yA yn yc] 47))
  cases hq : tabB ls
  · have HQ := hid hq
    clear hb hx ho hq
    go_wp2
    go_ret2
    exact ⟨_, ret_vbT HQ.out.symm, by rw [ansEV_no HQ.out]; exact OwnSS.nil _ _ _ _ _, HL.out, HB.out⟩
  · have HQ := hid hq
    have hL := (tabB_all hq).1
    have a1 := hL.a1
    have a2 := hL.a2
    have b1 := hL.b1
    have b2 := hL.b2
    have hG : GridR w1 (.slice xA xn xc) ls.length (wid ls) (cel ls) := by rw [hx hq]; exact GridR.of (HV.out.below hb) hL
    have HBlk := hid (Blk.new w1 47 #[.slice xA xn xc, .slice yA yn yc])
    have HG := hid (hG.alloc (.cells #[.slice xA xn xc, .slice yA yn yc] 47))
    obtain ⟨W2, hW2⟩ : ∃ W2 : World, W2 = w1.alloc (.cells #[.slice xA xn xc, .slice yA yn yc] 47) := ⟨_, rfl⟩
    have hzW : w1.heap.size < W2.heap.size := by subst hW2; simp
    clear hb hx ho hq hL hG
    go_wp2
    rw [← hW2] at HB HG HBlk ⊢
    clear hW2
    have hn10 := (tabB_all HQ.out).1.n
    have t0 := HBlk.out.cell 0
    have HGd := hid (show GridR W2.drew (.slice xA xn xc) ls.length (wid ls) (cel ls) from HG.out.below (Below.refl _ W2).drew)
    have HBd := hid (show Blk W2.drew w1.heap.size 47 #[.slice xA xn xc, .slice yA yn yc] from HBlk.out)
    have HH := hid (fun W h => height_any (.slice xA xn xc) ls.length (wid ls) (cel ls) W h)
    have HW := hid (fun W h => width_any (.slice xA xn xc) ls.length (wid ls) (cel ls) W h a1)
    have HN : Hid (∀ r c, r < ls.length → c < wid ls → 0 ≤ cel ls r c ∧ cel ls r c < (ls.length * wid ls : Nat)) := hid (fun r c hr hc => cel_rng HQ.out hr hc)
    obtain ⟨WA, hWA⟩ : ∃ W' : World, W' = (((W2.alloc (.cells #[.int .i64 (ls.length : Int)] 3)).alloc (.cells #[.int .i64 (wid ls : Int)] 3)).drew) := ⟨_, rfl⟩
    have q1A : At WA W2.heap.size (.int .i64 (ls.length : Int)) := by rw [hWA]; exact ((At.new W2 _ _).alloc _).drew
    have q2A : At WA (W2.heap.size + 1) (.int .i64 (wid ls : Int)) := by rw [hWA]; exact (At.newAt _ _ _ _ (by simp)).drew
    have q3A : Blk WA w1.heap.size 47 #[.slice xA xn xc, .slice yA yn yc] := by rw [hWA]; exact ((HBlk.out.alloc _).alloc _)
    have q4A : GridR WA (.slice xA xn xc) ls.length (wid ls) (cel ls) := by rw [hWA]; exact ((HG.out.alloc _).alloc _)
    have HCA := hid (evacClo W2.heap.size (W2.heap.size + 1) w1.heap.size (.slice xA xn xc) (.slice yA yn yc) ls.length (wid ls) (ls.length * wid ls) (cel ls) WA q1A q2A q3A q4A rfl hn10 a2 b2 HN.out)
    have HBA : Hid (Below w.heap.size w WA) := hid (by rw [hWA]; exact (below_alloc (below_alloc HB.out _) _).drew)
    rw [hWA] at HCA HBA
    clear q1A q2A q3A q4A hWA
    obtain ⟨WB, hWB⟩ : ∃ W' : World, W' = (((W2.alloc (.cells #[.int .i64 (wid ls : Int)] 3)).alloc (.cells #[.int .i64 (ls.length : Int)] 3)).drew) := ⟨_, rfl⟩
    have q1B : At WB W2.heap.size (.int .i64 (wid ls : Int)) := by rw [hWB]; exact ((At.new W2 _ _).alloc _).drew
    have q2B : At WB (W2.heap.size + 1) (.int .i64 (ls.length : Int)) := by rw [hWB]; exact (At.newAt _ _ _ _ (by simp)).drew
    have q3B : Blk WB w1.heap.size 47 #[.slice xA xn xc, .slice yA yn yc] := by rw [hWB]; exact ((HBlk.out.alloc _).alloc _)
    have q4B : GridR WB (.slice xA xn xc) ls.length (wid ls) (cel ls) := by rw [hWB]; exact ((HG.out.alloc _).alloc _)
    have HCB := hid (evacClo (W2.heap.size + 1) W2.heap.size w1.heap.size (.slice xA xn xc) (.slice yA yn yc) ls.length (wid ls) (ls.length * wid ls) (cel ls) WB q2B q1B q3B q4B rfl hn10 a2 b2 HN.out)
    have HBB : Hid (Below w.heap.size w WB) := hid (by rw [hWB]; exact (below_alloc (below_alloc HB.out _) _).drew)
    rw [hWB] at HCB HBB
    clear q1B q2B q3B q4B hWB
    go_region_held3 (fun W => W.cell? ⟨w1.heap.size, 0, none⟩ = some (.slice xA xn xc) ∧ Hid (GridR W (.slice xA xn xc) ls.length (wid ls) (cel ls))) (first | exact ⟨HBd.out.cell 0, HGd⟩ | exact ⟨(HBd.out.alloc _).cell 0, hid (HGd.out.alloc _)⟩ | exact ⟨((HBd.out.alloc _).alloc _).cell 0, hid ((HGd.out.alloc _).alloc _)⟩) (first | (go_at_call 64; refine (HW.out _ (by first | exact HGd.out | exact HGd.out.alloc _ | exact (HGd.out.alloc _).alloc _)).mono ?_; rintro e w2 ⟨rfl, rfl⟩) | (go_at_call 63; refine (HH.out _ (by first | exact HGd.out | exact HGd.out.alloc _ | exact (HGd.out.alloc _).alloc _)).mono ?_; rintro e w2 ⟨rfl, rfl⟩))
    all_goals clear t0
    all_goals go_wp2_with fail
    all_goals first
      | (with_reducible refine (gridOfEvacuateTableau_any ls.length (wid ls) _ _ _ _ _ HCA.out a1 a2 b1 b2).mono ?_; rintro e w3 ⟨q, rfl, ho, hb⟩; have HO := hid (ho.monoG HBA.out.size); have HB2 := hid (below_to HBA.out hb); obtain ⟨qA, qn, qc, rfl⟩ := ho.shape3; clear ho hb)
      | (with_reducible refine (gridOfEvacuateTableau_any ls.length (wid ls) _ _ _ _ _ HCB.out a1 a2 b1 b2).mono ?_; rintro e w3 ⟨q, rfl, ho, hb⟩; have HO := hid (ho.monoG HBB.out.size); have HB2 := hid (below_to HBB.out hb); obtain ⟨qA, qn, qc, rfl⟩ := ho.shape3; clear ho hb)
    all_goals go_wp2
    all_goals go_ret2
    all_goals exact ⟨_, ret_vbT HQ.out.symm, by rw [ansEV_yes HQ.out]; exact HO.out, HL.out, HB2.out⟩
end Go.Proofs.Ytbbkoagjplapkaa
