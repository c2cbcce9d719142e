/- DskF -/
import Derived.Test.YtbmhaamenjhjfaaGreatDoorPkD13
import Derived.Test.YtbmhaamenjhjfaaGreatDoorPkD17
namespace Go.Proofs.YtbmhaamenjhjfaaGreatDoor
open Go.RowKit Go.WideShapes Go.ChangeShapes
set_option linter.unusedVariables false
theorem rectL22 : rectL 2 2 = whereL (rectF 2) (2 * 2) := by decide +kernel
set_option maxRecDepth 100000 in
theorem specFirstDesk_any (w : World) :
    Calls Tryz.prog 58 #[] w fun (r : Ending) w' => ∃ u, r = Ending.returned (.agg #[u, .int .i64 0]) ∧ OwnI 3 w' w.heap.size u (rectL 2 2) ∧ (rectL 2 2).length ≤ 1048576 ∧ Below w.heap.size w w' := by
  have HL := hid rectL22
  have HN := hid (show (rectL 2 2).length ≤ 1048576 from by rw [rectL22]; decide)
  go_enter Tryz.func58, Tryz.ntmps58
  have HA := hid (Blk.new w 30 #[.slice none 0 0, .int .i64 0])
  go_wp2_with fail
  refine (poRectangle_any 2 2 _ (by decide) (by decide) (by decide) (by decide) (by decide)).mono ?_
  rintro e w1 ⟨u, rfl, ho, hb⟩
  rw [← HL.out] at ho
  obtain ⟨uA, uc, rfl, -⟩ := ho.ints
  have h3 : OwnI 3 w1 (w.heap.size + 1) (.slice uA (rectL 2 2).length uc) (rectL 2 2) := by simpa using ho
  have HO := hid h3
  have HA1 := hid (HA.out.below hb (by simp))
  have HB := hid (below_to (below_alloc (Below.refl _ w) _) hb)
  have c0 : w1.cell? ⟨w.heap.size, 0, none⟩ = some (.slice none 0 0) := HA1.out.cell 0
  have c1 : w1.cell? ⟨w.heap.size, 1, none⟩ = some (.int .i64 0) := HA1.out.cell 1
  have f0 := HA1.out.frozen 0
  have f1 := HA1.out.frozen 1
  obtain ⟨n, hn⟩ : ∃ n, (rectL 2 2).length = n := ⟨_, rfl⟩
  rw [hn] at HO ⊢
  clear ho hb h3
  go_wp2
  have HT := (((TurnedIn.refl w.heap.size (w.heap.size + 1) w1).set_ ⟨w.heap.size, 0, none⟩ ⟨Nat.le_refl _, Nat.lt_succ_self _⟩ (.slice uA n uc)).set_ ⟨w.heap.size, 1, none⟩ ⟨Nat.le_refl _, Nat.lt_succ_self _⟩ (.int .i64 0))
  refine bodyPost_ret (v := .agg #[.slice uA n uc, .int .i64 0]) (by simp [results, Tryz.results58, go_sem, c0, c1]) rfl ⟨_, rfl, (HO.out.turned HT (OwnI.blockLt HO.out) (Or.inr (by omega))).mono (by omega), HN.out, ?_⟩
  exact ((HB.out.setCell (p := ⟨w.heap.size, 0, none⟩) (Nat.le_refl _) _).setCell (p := ⟨w.heap.size, 1, none⟩) (Nat.le_refl _) _)
set_option maxRecDepth 100000 in
theorem implFirstDesk_any (w : World) :
    Calls Tryz.prog 60 #[] w fun (r : Ending) w' => ∃ u, r = Ending.returned (.agg #[u, .int .i64 0]) ∧ OwnI 3 w' w.heap.size u (rectL 2 2) ∧ (rectL 2 2).length ≤ 1048576 ∧ Below w.heap.size w w' := by
  have HN := hid (show (rectL 2 2).length ≤ 1048576 from by rw [rectL22]; decide)
  go_enter Tryz.func60, Tryz.ntmps60
  have HA := hid (Blk.new w 30 #[.slice none 0 0, .int .i64 0])
  go_wp2_with fail
  refine (implRectangle_yes 2 2 _ (by decide +kernel) (by decide) (by decide) (by decide) (by decide) (by decide)).mono ?_
  rintro e w1 ⟨u, rfl, ho, -, hb⟩
  rw [show rectL ((2 : Nat) : Int) ((2 : Nat) : Int) = rectL 2 2 from rfl] at ho
  obtain ⟨uA, uc, rfl, -⟩ := ho.ints
  have h3 : OwnI 3 w1 (w.heap.size + 1) (.slice uA (rectL 2 2).length uc) (rectL 2 2) := by simpa using ho
  have HO := hid h3
  have HA1 := hid (HA.out.below hb (by simp))
  have hz : w.heap.size + 1 ≤ w1.heap.size := by have := hb.size; simp at this; omega
  have HB := hid (below_to (below_alloc (Below.refl _ w) _) hb)
  obtain ⟨n, hn⟩ : ∃ n, (rectL 2 2).length = n := ⟨_, rfl⟩
  rw [hn] at HO ⊢
  have HA2 := hid (HA1.out.alloc (.cells #[.slice uA n uc] 28))
  have c0 : (w1.alloc (.cells #[.slice uA n uc] 28)).cell? ⟨w.heap.size, 0, none⟩ = some (.slice none 0 0) := HA2.out.cell 0
  have c1 : (w1.alloc (.cells #[.slice uA n uc] 28)).cell? ⟨w.heap.size, 1, none⟩ = some (.int .i64 0) := HA2.out.cell 1
  have f0 := HA2.out.frozen 0
  have f1 := HA2.out.frozen 1
  clear ho hb h3
  go_wp2
  have HT := (((TurnedIn.refl w.heap.size (w.heap.size + 1) (w1.alloc (.cells #[.slice uA n uc] 28))).set_ ⟨w.heap.size, 0, none⟩ ⟨Nat.le_refl _, Nat.lt_succ_self _⟩ (.slice uA n uc)).set_ ⟨w.heap.size, 1, none⟩ ⟨Nat.le_refl _, Nat.lt_succ_self _⟩ (.int .i64 0))
  have HO2 := HO.out.alloc (.cells #[.slice uA n uc] 28)
  refine bodyPost_ret (v := .agg #[.slice uA n uc, .int .i64 0]) (by simp [results, Tryz.results60, go_sem, c0, c1]) rfl ⟨_, rfl, (HO2.turned HT (OwnI.blockLt HO2) (Or.inr (by omega))).mono (by omega), HN.out, ?_⟩
  exact (((below_alloc HB.out _).setCell (p := ⟨w.heap.size, 0, none⟩) (Nat.le_refl _) _).setCell (p := ⟨w.heap.size, 1, none⟩) (Nat.le_refl _) _)
end Go.Proofs.YtbmhaamenjhjfaaGreatDoor
