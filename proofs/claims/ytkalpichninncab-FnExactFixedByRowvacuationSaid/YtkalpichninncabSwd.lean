/- slices.Reverse at lists of ints. -/
import Derived.Test.YtkalpichninncabRev
namespace Go.Proofs.Ytkalpichninncab
open Go.RowKit Go.WideShapes Go.ChangeShapes
set_option linter.unusedVariables false

set_option maxHeartbeats 1600000 in
theorem reverseI_any (v : Value) (xs : List Int) (B : Nat) (w : World) (hv : OwnI 3 w B v xs) (hl : xs.length ≤ 1048576) :
    Calls Try.prog 83 #[v] w fun r w' => r = .returned (.tuple #[]) ∧ OwnI 3 w' B v xs.reverse ∧ w.grownBy w' v.ownBlock := by
  have HO := hid hv
  obtain ⟨A, c, rfl, hA⟩ := hv.shape
  have HA := hid hA
  clear hA hv
  go_enter Try.func83, Try.ntmps83
  go_wp2
  go_loopw [2, 3] (fun i j wr => ∃ (k : Nat) (x : Int), i = .int .i64 k ∧ j = .int .i64 x ∧ k ≤ xs.length ∧ x + k + 1 = xs.length ∧ wr.ownsRow B 3 1 (.slice A xs.length c) xs.length ((revK xs k).map (Value.int .i64)) ∧ w.grownBy wr (Value.slice A xs.length c).ownBlock) (fun i _ _ => xs.length - (intOf i).toNat)
  case atStart => exact ⟨0, (xs.length : Int) - 1, rfl, rfl, Nat.zero_le _, by omega, by rw [revK_zero]; exact HO.out, World.grownBy.refl _ _⟩
  case round =>
    obtain ⟨k, x, rfl, rfl, hk, hx, ho, hg⟩ := hrel
    by_cases hlt : (k : Int) < x
    · obtain ⟨m, rfl⟩ := Int.eq_ofNat_of_zero_le (show 0 ≤ x by omega)
      obtain ⟨g, rfl, hgl, hgB⟩ := HA.out (by intro h; simp [h] at hx; omega)
      have hm : xs.length - 1 - k = m := by omega
      obtain ⟨h1, h2⟩ := revK_mid xs k (by omega)
      have h3 := revK_step xs k (by omega)
      rw [hm] at h2 h3
      have hck : wr.cell? ⟨g, k, none⟩ = some (.int .i64 (xs.getD k 0)) := by
        rw [ho.cellAt k (by omega), List.getElem?_map, getD_eq (revK xs k) k (by rw [revK_length]; omega), h1]; rfl
      have hcm : wr.cell? ⟨g, m, none⟩ = some (.int .i64 (xs.getD m 0)) := by
        rw [ho.cellAt m (by omega), List.getElem?_map, getD_eq (revK xs k) m (by rw [revK_length]; omega), h2]; rfl
      have hfk := ho.frozenAt k
      have hfm := ho.frozenAt m
      obtain ⟨p, hp⟩ : ∃ p, xs.getD k 0 = p := ⟨_, rfl⟩
      obtain ⟨q, hq⟩ : ∃ q, xs.getD m 0 = q := ⟨_, rfl⟩
      rw [hp, hq] at h3
      rw [hp] at hck
      rw [hq] at hcm
      have H3 := hid h3
      have Ho := hid ho
      have Hg := hid hg
      have hm1 : m < xs.length := by omega
      have hk1 : k < xs.length := by omega
      have hkm : k < m := by omega
      have HX := hid hx
      clear hp hq h1 h2 h3 ho hg hm hx
      go_wp2_with fail
      go_region
      go_wp2
      go_roundw
      case rel => exact ⟨k + 1, (m : Int) - 1, by go_num, rfl, by omega, by have := HX.out; omega, (by rw [← H3.out, List.map_set, List.map_set]; exact ((Ho.out.stored k (.int .i64 q)).1.stored m (.int .i64 p)).1), grown_drew (grown_setCell (grown_setCell Hg.out k _) m _)⟩
      case measure => simp [intOf]; omega
    · have hr := hid (revK_full xs k (by omega))
      have Ho := hid ho
      have Hg := hid hg
      clear ho hg
      go_wp2
      go_end0
      refine ⟨rfl, ?_, Hg.out⟩
      unfold OwnI
      rw [List.length_reverse, ← hr.out]
      exact Ho.out
end Go.Proofs.Ytkalpichninncab
