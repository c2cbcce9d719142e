/- Law -/
import Derived.Test.YtbmhaamenjhjfaaGreatDoorRows
import Derived.Outline
import Derived.Test.YtbmhaamenjhjfaaGreatDoorPkD01
namespace Go.Proofs.YtbmhaamenjhjfaaGreatDoor
open Go.RowKit Go.WideShapes Go.ChangeShapes
theorem eqIntS_any (v u : Value) (xs : List Int) (w : World) (hv : Ints w v xs) (hu : Ints w u xs) (hl : xs.length ≤ 1048576) :
    Calls Tryz.prog 23 #[v, u] w fun r w' => r = .returned (.bool true) ∧ Below w.heap.size w w' := by
  obtain ⟨A, c, rfl, hA⟩ := hv
  obtain ⟨B, d, rfl, hB⟩ := hu
  have HA := hid hA
  have HB := hid hB
  clear hA hB
  go_enter Tryz.func23, Tryz.ntmps23
  go_wp2
  go_loopw [5] (fun i wr => ∃ k : Nat, k ≤ xs.length ∧ i = .int .i64 k ∧ Below w.heap.size w wr) (fun i _ => xs.length - (intOf i).toNat)
  case atStart => exact ⟨0, Nat.zero_le _, rfl, Below.refl _ _⟩
  case round =>
    obtain ⟨k, hk, rfl, hb⟩ := hrel
    by_cases hlt : k < xs.length
    · obtain ⟨b, o, rfl, hbl, hc⟩ := HA.out (by intro h; simp [h] at hlt)
      obtain ⟨b2, o2, rfl, hbl2, hc2⟩ := HB.out (by intro h; simp [h] at hlt)
      have hcell : wr.cell? ⟨b, o + k, none⟩ = some (.int .i64 (xs.getD k 0)) := by
        rw [hb.cell (p := ⟨b, o + k, none⟩) hbl]; exact hc k hlt
      have hcell2 : wr.cell? ⟨b2, o2 + k, none⟩ = some (.int .i64 (xs.getD k 0)) := by
        rw [hb.cell (p := ⟨b2, o2 + k, none⟩) hbl2]; exact hc2 k hlt
      obtain ⟨x, hx⟩ : ∃ x, xs.getD k 0 = x := ⟨_, rfl⟩
      rw [hx] at hcell hcell2
      have Hb := hid hb
      have hlt' : (k : Int) < xs.length := by omega
      clear hc hb hc2 hx
      go_wp2
      go_quiet (fail)
      go_wp2
      go_roundw
      case rel => exact ⟨k + 1, by omega, by go_num, below_drewN Hb.out _⟩
      case measure => simp [intOf]; omega
    · obtain rfl : k = xs.length := by omega
      have Hb := hid hb
      clear hb
      go_wp2
      go_ret
      exact ⟨rfl, Hb.out⟩
def markL (xs : List Int) (k : Int) (j : Nat) : List Int := (List.range xs.length).map fun i => if i < j then k + i else xs.getD i 0
def marks (n : Nat) (k : Int) : List Int := (List.range n).map fun (i : Nat) => k + (i : Int)
theorem markL_length (xs : List Int) (k : Int) (j : Nat) : (markL xs k j).length = xs.length := by simp [markL]
theorem marks_length (n : Nat) (k : Int) : (marks n k).length = n := by simp [marks]
theorem markL_zero (xs : List Int) (k : Int) : markL xs k 0 = xs := by
  apply List.ext_getElem?
  intro i
  simp only [markL, Nat.not_lt_zero, if_false, List.getElem?_map]
  by_cases hi : i < xs.length <;> simp [hi]
theorem markL_full (xs : List Int) (k : Int) : markL xs k xs.length = marks xs.length k := by
  apply List.ext_getElem?
  intro i
  simp only [markL, marks, List.getElem?_map]
  by_cases hi : i < xs.length <;> simp [hi]
theorem markL_at (xs : List Int) (k : Int) (j i : Nat) (hi : i < xs.length) : (markL xs k j)[i]? = some (if i < j then k + i else xs.getD i 0) := by
  simp [markL, hi]
theorem markL_set (xs : List Int) (k : Int) (j : Nat) (hj : j < xs.length) : ((markL xs k j).map (Value.int .i64)).set j (.int .i64 (k + j)) = (markL xs k (j + 1)).map (Value.int .i64) := by
  apply List.ext_getElem?
  intro i
  rw [List.getElem?_set, List.length_map, markL_length]
  by_cases hi : i < xs.length
  · rw [List.getElem?_map, List.getElem?_map, markL_at xs k j i hi, markL_at xs k (j + 1) i hi]
    by_cases h : j = i
    · subst h; simp [hj]
    · simp only [h, if_false, Option.map_some]
      by_cases h2 : i < j
      · rw [if_pos h2, if_pos (by omega)]
      · rw [if_neg h2, if_neg (by omega)]
  · have h1 : ∀ j', ((markL xs k j').map (Value.int .i64))[i]? = none := fun j' => List.getElem?_eq_none (by rw [List.length_map, markL_length]; omega)
    rw [h1, h1, if_neg (by omega)]
theorem marks_at (n : Nat) (k : Int) (i : Nat) (hi : i < n) : (marks n k).getD i 0 = k + i := by
  simp [marks, List.getD, hi]
theorem markIntS_any (v : Value) (xs : List Int) (k : Int) (B : Nat) (w : World) (hv : OwnI 3 w B v xs) (hl : xs.length ≤ 1048576) (h0 : 0 ≤ k) (h1 : k ≤ 1000000000000) :
    Calls Tryz.prog 24 #[v, .int .i64 k] w fun r w' => r = .returned (.int .i64 (k + xs.length)) ∧ OwnI 3 w' B v (marks xs.length k) ∧ w.grownBy w' v.ownBlock := by
  have HO := hid hv
  obtain ⟨A, c, rfl, hA⟩ := hv.shape
  have HA := hid hA
  clear hA hv
  go_enter Tryz.func24, Tryz.ntmps24
  go_wp2
  go_loopw [1, 5] (fun q i wr => ∃ j : Nat, j ≤ xs.length ∧ i = .int .i64 j ∧ q = .int .i64 (k + j) ∧ wr.ownsRow B 3 1 (.slice A xs.length c) xs.length ((markL xs k j).map (Value.int .i64)) ∧ w.grownBy wr (Value.slice A xs.length c).ownBlock) (fun _ i _ => xs.length - (intOf i).toNat)
  case atStart => exact ⟨0, Nat.zero_le _, rfl, by simp, by rw [markL_zero]; exact HO.out, World.grownBy.refl _ _⟩
  case round =>
    obtain ⟨j, hj, rfl, rfl, ho, hg⟩ := hrel
    by_cases hlt : j < xs.length
    · obtain ⟨g, rfl, hgl, hgB⟩ := HA.out (by intro h; simp [h] at hlt)
      have hcell : wr.cell? ⟨g, j, none⟩ = some (.int .i64 (xs.getD j 0)) := by
        rw [ho.cellAt j (by omega), List.getElem?_map, markL_at xs k j j hlt]; simp
      have hfz := ho.frozenAt j
      have Ho := hid ho
      have Hg := hid hg
      obtain ⟨x, hx⟩ : ∃ x, xs.getD j 0 = x := ⟨_, rfl⟩
      rw [hx] at hcell
      have hj2 : k + (j : Int) + 1 ≤ 1000001048576 := by omega
      clear hx ho hg
      go_wp2
      go_roundw
      case rel => exact ⟨j + 1, by omega, by go_num, by go_num, by rw [← markL_set xs k j hlt]; exact (Ho.out.stored j _).1, grown_setCell Hg.out j _⟩
      case measure => simp [intOf]; omega
    · obtain rfl : j = xs.length := by omega
      have Ho := hid ho
      have Hg := hid hg
      clear ho hg
      go_wp2
      go_ret
      refine ⟨rfl, ?_, Hg.out⟩
      unfold OwnI
      rw [marks_length, ← markL_full]
      exact Ho.out
theorem heldIntS_any (v : Value) (n : Nat) (k : Int) (w : World) (hv : Ints w v (marks n k)) (hl : n ≤ 1048576) (h0 : 0 ≤ k) (h1 : k ≤ 1000000000000) :
    Calls Tryz.prog 25 #[v, .int .i64 k] w fun r w' => r = .returned (.int .i64 (k + n)) ∧ Below w.heap.size w w' := by
  obtain ⟨A, c, rfl, hA⟩ := hv
  rw [marks_length] at hA ⊢
  have HA := hid hA
  clear hA
  go_enter Tryz.func25, Tryz.ntmps25
  go_wp2
  go_loop [1, 5] (fun q i => ∃ j : Nat, j ≤ n ∧ i = .int .i64 j ∧ q = .int .i64 (k + j)) (fun _ i => n - (intOf i).toNat)
  case atStart => exact ⟨0, Nat.zero_le _, rfl, by simp⟩
  case round =>
    obtain ⟨j, hj, rfl, rfl⟩ := hrel
    by_cases hlt : j < n
    · obtain ⟨b, o, rfl, hb, hc⟩ := HA.out (by intro h; have := congrArg List.length h; rw [marks_length] at this; simp at this; omega)
      have hcell := hc j hlt
      rw [marks_at n k j hlt] at hcell
      have hj2 : k + (j : Int) + 1 ≤ 1000001048576 := by omega
      clear hc
      go_wp2
      go_round
      case rel => exact ⟨j + 1, by omega, by go_num, by go_num⟩
      case measure => simp [intOf]; omega
    · obtain rfl : j = n := by omega
      go_wp2
      go_ret
      exact ⟨rfl, Below.refl _ _⟩
end Go.Proofs.YtbmhaamenjhjfaaGreatDoor
