/- DskUo -/
import Derived.Test.YtbmhaamenjhjfaaGreatDoorPkD35
import Derived.Test.YtbmhaamenjhjfaaGreatDoorPkD40
namespace Go.Proofs.YtbmhaamenjhjfaaGreatDoor
open Go.RowKit Go.WideShapes Go.ChangeShapes
set_option linter.unusedVariables false
theorem coOwn_any (v : Value) (xs : List Int) (n : Int) (w : World) (hv : Ints w v xs) (hl : xs.length ≤ 1048576) :
    Calls Tryz.prog 30 #[.agg #[v, .int .i64 n]] w fun (r : Ending) w' => ∃ u, r = Ending.returned (.agg #[u, .int .i64 n]) ∧ OwnI 3 w' w.heap.size u xs ∧ Below w.heap.size w w' := by
  have HV := hid hv
  obtain ⟨A, c, rfl, -⟩ := hv
  obtain ⟨m, hm⟩ : ∃ m, xs.length = m := ⟨_, rfl⟩
  rw [hm] at HV ⊢
  have HZ := hid (CZ.new w (.slice A m c) n)
  clear hm
  go_enter Tryz.func30, Tryz.ntmps30
  go_upto_region 1 with (fail)
  generalize ((w.alloc (.cells #[.slice A m c, .int .i64 n] 30)).alloc (.cells #[.slice none 0 0, .int .i64 0] 30)) = W at HZ ⊢
  have hzW : w.heap.size + 2 ≤ W.heap.size := HZ.out.k1.lt
  have HZd := hid (show CZ w W.drew _ _ from HZ.out.below (below_drewN (Below.refl _ W) 1))
  have hdz : W.drew.heap.size = W.heap.size := rfl
  have k0 : W.cell? ⟨w.heap.size, 0, none⟩ = some (.slice A m c) := HZ.out.k0.cell 0
  have k1 : W.cell? ⟨w.heap.size, 1, none⟩ = some (.int .i64 n) := HZ.out.k0.cell 1
  go_region_with (first | (go_at_call 49; refine (l1Own_any _ xs _ (HV.out.below HZd.out.bel) hl).mono ?_; rintro e W2 ⟨q, rfl, ho, hb⟩; have HO := hid ho; obtain ⟨qA, qn, qc, rfl⟩ := ho.shape3; have HZ2 := hid (HZd.out.below hb); have g0 : W2.cell? ⟨w.heap.size, 0, none⟩ = some (.slice A m c) := HZ2.out.k0.cell 0; have g1 : W2.cell? ⟨w.heap.size, 1, none⟩ = some (.int .i64 n) := HZ2.out.k0.cell 1; have q0 : W2.cell? ⟨w.heap.size + 1, 0, none⟩ = some (.slice none 0 0) := HZ2.out.k1.cell 0; have q1 : W2.cell? ⟨w.heap.size + 1, 1, none⟩ = some (.int .i64 0) := HZ2.out.k1.cell 1; have y0 := HZ2.out.k1.frozen 0; have y1 := HZ2.out.k1.frozen 1; clear ho hb))
  all_goals
    go_wp2
    refine bodyPost_ret (v := .agg #[.slice qA qn qc, .int .i64 n]) (by simp [results, Tryz.results30, go_sem, q0, q1]) rfl ⟨_, rfl, ?_, ?_⟩
    · exact (own_setX (own_setX HO.out (by omega) 0 _) (by omega) 1 _).mono (by omega)
    · exact below_put2 HZ2.out.bel (w.heap.size + 1) (by omega) _ _
end Go.Proofs.YtbmhaamenjhjfaaGreatDoor
