/- The contracts of the laws' own helpers: sizes, copies, comparisons. -/
import Derived.Test.YtkalpichninncabRows
import Derived.Test.YtkalpichninncabBase
import Derived.Outline
namespace Go.Proofs.Ytkalpichninncab
open Go.RowKit Go.WideShapes Go.ChangeShapes
theorem Try.info3 : (Try.prog.info? 3).map (fun i => (i.zero, i.size, i.bytes)) = some (some (.int .i64 0), 1, 8) := by kernel_rfl

/-- what is left of a size -/
def szRes (left : Int) (n : Nat) : Int := if left < n then -1 else left - n
theorem szRes_neg {left : Int} {n : Nat} (h : left < n) : szRes left n = -1 := if_pos h
theorem szRes_pos {left : Int} {n : Nat} (h : ¬ left < n) : szRes left n = left - n := if_neg h
theorem Try.laidOut : laidOutB Try.prog = true := by kernel_rfl
theorem szIntS_any (v : Value) (xs : List Int) (left : Int) (w : World) (hv : Ints w v xs) (hl : xs.length ≤ maxLen) (h0 : 0 ≤ left) (h1 : left ≤ 1048576) :
    Calls Try.prog 28 #[v, .int .i64 left] w fun r w' => r = .returned (.int .i64 (szRes left xs.length)) ∧ Below w.heap.size w w' := by
  obtain ⟨A, c, rfl, hA⟩ := hv
  unfold maxLen at hl
  clear hA
  by_cases hlt : left < xs.length
  · have H := hid (szRes_neg hlt)
    go_enter Try.func28, Try.ntmps28
    go_wp2
    go_ret
    exact ⟨ret_int H.out.symm, Below.refl _ _⟩
  · have H := hid (szRes_pos hlt)
    go_enter Try.func28, Try.ntmps28
    go_wp2
    go_ret
    exact ⟨ret_int H.out.symm, Below.refl _ _⟩
theorem szPoset_any (v : Value) (xs : List Int) (left : Int) (w : World) (hv : Ints w v xs) (hl : xs.length ≤ maxLen) (h0 : 0 ≤ left) (h1 : left ≤ 1048576) :
    Calls Try.prog 9 #[.agg #[v], .int .i64 left] w fun r w' => r = .returned (.int .i64 (szRes left xs.length)) ∧ Below w.heap.size w w' := by
  have HV := hid hv
  clear hv
  by_cases hlt : left < xs.length
  · have H := hid (szRes_neg hlt)
    go_enter Try.func9, Try.ntmps9
    go_wp2_with (go_at_call 28; refine (szIntS_any v xs left _ (HV.out.alloc _) hl h0 h1).mono ?_; rw [H.out]; rintro e w1 ⟨rfl, hb1⟩)
    go_ret
    exact ⟨ret_int H.out.symm, ((Below.refl _ _).alloc (Nat.le_refl _) _).trans (hb1.mono (by simp))⟩
  · have H := hid (szRes_pos hlt)
    go_enter Try.func9, Try.ntmps9
    go_wp2_with (go_at_call 28; refine (szIntS_any v xs left _ (HV.out.alloc _) hl h0 h1).mono ?_; rw [H.out]; rintro e w1 ⟨rfl, hb1⟩)
    go_ret
    exact ⟨ret_int H.out.symm, ((Below.refl _ _).alloc (Nat.le_refl _) _).trans (hb1.mono (by simp))⟩
/-- k cells filled of n -/
def fillI (xs : List Int) (k : Nat) : Array Value := ((List.range xs.length).map fun j => Value.int .i64 (if j < k then xs.getD j 0 else 0)).toArray
theorem fillI_get (xs : List Int) (k i : Nat) (hi : i < xs.length) : (fillI xs k)[i]? = some (.int .i64 (if i < k then xs.getD i 0 else 0)) := by
  simp [fillI, hi]
theorem fillI_size (xs : List Int) (k : Nat) : (fillI xs k).size = xs.length := by simp [fillI]
theorem fillI_set (xs : List Int) (k : Nat) (hk : k < xs.length) : (fillI xs k).setIfInBounds k (.int .i64 (xs.getD k 0)) = fillI xs (k + 1) := by
  apply Array.ext_getElem?
  intro i
  rw [Array.getElem?_setIfInBounds, fillI_size]
  by_cases hi : i < xs.length
  · rw [fillI_get xs _ i hi, fillI_get xs _ i hi]
    by_cases h : k = i
    · subst h; simp [hk]
    · simp only [h, if_false]
      by_cases h2 : i < k
      · rw [if_pos h2, if_pos (by omega)]
      · rw [if_neg h2, if_neg (by omega)]
  · rw [Array.getElem?_eq_none (by rw [fillI_size]; omega), Array.getElem?_eq_none (by rw [fillI_size]; omega)]
    split
    · omega
    · rfl
theorem fillI_full (xs : List Int) : fillI xs xs.length = (xs.map (Value.int .i64)).toArray := by
  apply Array.ext_getElem?
  intro i
  by_cases hi : i < xs.length
  · rw [fillI_get xs _ i hi]; simp [hi]
  · rw [Array.getElem?_eq_none (by rw [fillI_size]; omega)]; simp [hi]
theorem fillI_zero (xs : List Int) : fillI xs 0 = madeCells #[.int .i64 0] xs.length := by
  have := toList_madeCells_one (.int .i64 0) xs.length
  rw [← Array.toList_inj, this]
  apply List.ext_getElem?
  intro i
  simp only [fillI, Nat.not_lt_zero, if_false, List.getElem?_map, List.getElem?_replicate]
  by_cases hi : i < xs.length <;> simp [hi]
theorem toIntS_any (v : Value) (xs : List Int) (w : World) (hv : Ints w v xs) (hl : xs.length ≤ 1048576) :
    Calls Try.prog 31 #[v] w fun (r : Ending) w' => ∃ g, r = Ending.returned (.slice (some ⟨g, 0, none⟩) xs.length xs.length) ∧ w.heap.size ≤ g ∧ Blk w' g 3 (xs.map (Value.int .i64)).toArray ∧ Below w.heap.size w w' := by
  obtain ⟨A, c, rfl, hA⟩ := hv
  have HA := hid hA
  clear hA
  have hmk := run_make_row' (P := Try.prog) 22 3 (.int .i64 0) 8 Try.underlying22 Try.info3 rfl .i64 .i64 xs.length (by omega) (by omega)
  have hz := hid (fillI_zero xs)
  go_enter Try.func31, Try.ntmps31
  go_wp2
  rw [← hz.out]
  clear hmk
  go_loopw [4] (fun i wr => ∃ k : Nat, k ≤ xs.length ∧ i = .int .i64 k ∧ Blk wr w.heap.size 3 (fillI xs k) ∧ Below w.heap.size w wr) (fun i _ => xs.length - (intOf i).toNat)
  case atStart => exact ⟨0, Nat.zero_le _, rfl, Blk.new _ _ _, (Below.refl _ _).alloc (Nat.le_refl _) _⟩
  case round =>
    obtain ⟨k, hk, rfl, hB, hb⟩ := hrel
    by_cases hlt : k < xs.length
    · obtain ⟨b, o, rfl, hbl, hc⟩ := HA.out (by intro h; simp [h] at hlt)
      have hcell : wr.cell? ⟨b, o + k, none⟩ = some (.int .i64 (xs.getD k 0)) := by
        rw [hb.cell (p := ⟨b, o + k, none⟩) hbl]; exact hc k hlt
      have hst : wr.cell? ⟨w.heap.size, k, none⟩ = some (.int .i64 0) := by rw [hB.cell, fillI_get xs k k hlt]; simp
      have hfz := hB.frozen k
      have HB := hid hB
      have Hb := hid hb
      clear hc hB hb
      obtain ⟨x, hx⟩ : ∃ x, xs.getD k 0 = x := ⟨_, rfl⟩
      rw [hx] at hcell
      have Hx := hid hx
      clear hx
      go_wp2
      go_roundw
      case rel => exact ⟨k + 1, by omega, by go_num, by rw [← fillI_set xs k hlt, Hx.out]; exact HB.out.set_ k _, Hb.out.setCell (Nat.le_refl _) _⟩
      case measure => simp [intOf]; omega
    · obtain rfl : k = xs.length := by omega
      have HB := hid hB
      have Hb := hid hb
      clear hB hb
      go_wp2
      go_ret
      exact ⟨_, rfl, Nat.le_refl _, by rw [← fillI_full]; exact HB.out, Hb.out⟩

theorem toPoset_any (v : Value) (xs : List Int) (w : World) (hv : Ints w v xs) (hl : xs.length ≤ 1048576) :
    Calls Try.prog 11 #[.agg #[v]] w fun (r : Ending) w' => ∃ g, r = Ending.returned (.agg #[.slice (some ⟨g, 0, none⟩) xs.length xs.length]) ∧ w.heap.size ≤ g ∧ Blk w' g 3 (xs.map (Value.int .i64)).toArray ∧ Below w.heap.size w w' := by
  have HV := hid hv
  clear hv
  go_enter Try.func11, Try.ntmps11
  go_wp2_with fail
  refine (toIntS_any v xs _ (((HV.out.alloc _).alloc _).alloc _) hl).mono ?_
  rintro e w1 ⟨g, rfl, hg, hB, hb1⟩
  obtain ⟨hc, hf⟩ := bcell hb1
  have hz : w.heap.size + 2 < w1.heap.size := by have := hb1.size; simp at this; omega
  have hg2 : w.heap.size + 3 ≤ g := by simp at hg; omega
  have HB := hid hB
  have HB1 := hid hb1
  clear hB hb1 hg
  go_wp2
  refine bodyPost_ret (v := .agg #[.slice (some ⟨g, 0, none⟩) xs.length xs.length]) (by simp [results, Try.results11, go_sem, hc]) rfl ⟨g, rfl, by omega, ?_, ?_⟩
  · exact (HB.out.far (by simp; omega) _).far (by simp; omega) _
  · exact (((((((Below.refl _ _).alloc (Nat.le_refl _) _).alloc (by simp) _).alloc (by simp; omega) _).trans (HB1.out.mono (by simp; omega))).setCell (by simp; omega) _).setCell (by simp) _)
theorem eqIntS_any (v u : Value) (xs : List Int) (w : World) (hv : Ints w v xs) (hu : Ints w u xs) (hl : xs.length ≤ 1048576) :
    Calls Try.prog 13 #[v, u] w fun r w' => r = .returned (.bool true) ∧ Below w.heap.size w w' := by
  obtain ⟨A, c, rfl, hA⟩ := hv
  obtain ⟨B, d, rfl, hB⟩ := hu
  have HA := hid hA
  have HB := hid hB
  clear hA hB
  go_enter Try.func13, Try.ntmps13
  go_wp2
  go_loopw [5] (fun i wr => ∃ k : Nat, k ≤ xs.length ∧ i = .int .i64 k ∧ Below w.heap.size w wr) (fun i _ => xs.length - (intOf i).toNat)
  case atStart => exact ⟨0, Nat.zero_le _, rfl, Below.refl _ _⟩
  case round =>
    obtain ⟨k, hk, rfl, hb⟩ := hrel
    by_cases hlt : k < xs.length
    · obtain ⟨b, o, rfl, hbl, hc⟩ := HA.out (by intro h; simp [h] at hlt)
      obtain ⟨b2, o2, rfl, hbl2, hc2⟩ := HB.out (by intro h; simp [h] at hlt)
      have hcell : wr.cell? ⟨b, o + k, none⟩ = some (.int .i64 (xs.getD k 0)) := by
        rw [hb.cell (p := ⟨b, o + k, none⟩) hbl]; exact hc k hlt
      have hcell2 : wr.cell? ⟨b2, o2 + k, none⟩ = some (.int .i64 (xs.getD k 0)) := by
        rw [hb.cell (p := ⟨b2, o2 + k, none⟩) hbl2]; exact hc2 k hlt
      obtain ⟨x, hx⟩ : ∃ x, xs.getD k 0 = x := ⟨_, rfl⟩
      rw [hx] at hcell hcell2
      have Hb := hid hb
      have hlt' : (k : Int) < xs.length := by omega
      clear hc hb hc2 hx
      go_wp2
      go_quiet (fail)
      go_wp2
      go_roundw
      case rel => exact ⟨k + 1, by omega, by go_num, below_drewN Hb.out _⟩
      case measure => simp [intOf]; omega
    · obtain rfl : k = xs.length := by omega
      have Hb := hid hb
      clear hb
      go_wp2
      go_ret
      exact ⟨rfl, Hb.out⟩
theorem eqPoset_any (v u : Value) (xs : List Int) (w : World) (hv : Ints w v xs) (hu : Ints w u xs) (hl : xs.length ≤ 1048576) :
    Calls Try.prog 14 #[.agg #[v], .agg #[u]] w fun r w' => r = .returned (.bool true) ∧ Below w.heap.size w w' := by
  have HV := hid hv
  have HU := hid hu
  clear hv hu
  go_enter Try.func14, Try.ntmps14
  go_wp2_with (go_at_call 13; refine (eqIntS_any v u xs _ ((HV.out.alloc _).alloc _) ((HU.out.alloc _).alloc _) hl).mono ?_; rintro e w1 ⟨rfl, hb1⟩)
  go_ret
  exact ⟨rfl, (((Below.refl _ _).alloc (Nat.le_refl _) _).alloc (by simp) _).trans (hb1.mono (by simp; omega))⟩

/-! ### marks: what the law writes into a slice, and reads again -/
def markL (xs : List Int) (k : Int) (j : Nat) : List Int := (List.range xs.length).map fun i => if i < j then k + i else xs.getD i 0
def marks (n : Nat) (k : Int) : List Int := (List.range n).map fun (i : Nat) => k + (i : Int)
theorem markL_length (xs : List Int) (k : Int) (j : Nat) : (markL xs k j).length = xs.length := by simp [markL]
theorem marks_length (n : Nat) (k : Int) : (marks n k).length = n := by simp [marks]
theorem markL_zero (xs : List Int) (k : Int) : markL xs k 0 = xs := by
  apply List.ext_getElem?
  intro i
  simp only [markL, Nat.not_lt_zero, if_false, List.getElem?_map]
  by_cases hi : i < xs.length <;> simp [hi]
theorem markL_full (xs : List Int) (k : Int) : markL xs k xs.length = marks xs.length k := by
  apply List.ext_getElem?
  intro i
  simp only [markL, marks, List.getElem?_map]
  by_cases hi : i < xs.length <;> simp [hi]
theorem markL_at (xs : List Int) (k : Int) (j i : Nat) (hi : i < xs.length) : (markL xs k j)[i]? = some (if i < j then k + i else xs.getD i 0) := by
  simp [markL, hi]
theorem markL_set (xs : List Int) (k : Int) (j : Nat) (hj : j < xs.length) : ((markL xs k j).map (Value.int .i64)).set j (.int .i64 (k + j)) = (markL xs k (j + 1)).map (Value.int .i64) := by
  apply List.ext_getElem?
  intro i
  rw [List.getElem?_set, List.length_map, markL_length]
  by_cases hi : i < xs.length
  · rw [List.getElem?_map, List.getElem?_map, markL_at xs k j i hi, markL_at xs k (j + 1) i hi]
    by_cases h : j = i
    · subst h; simp [hj]
    · simp only [h, if_false, Option.map_some]
      by_cases h2 : i < j
      · rw [if_pos h2, if_pos (by omega)]
      · rw [if_neg h2, if_neg (by omega)]
  · have h1 : ∀ j', ((markL xs k j').map (Value.int .i64))[i]? = none := fun j' => List.getElem?_eq_none (by rw [List.length_map, markL_length]; omega)
    rw [h1, h1, if_neg (by omega)]
theorem marks_at (n : Nat) (k : Int) (i : Nat) (hi : i < n) : (marks n k).getD i 0 = k + i := by
  simp [marks, List.getD, hi]

theorem markIntS_any (v : Value) (xs : List Int) (k : Int) (B : Nat) (w : World) (hv : OwnI 3 w B v xs) (hl : xs.length ≤ 1048576) (h0 : 0 ≤ k) (h1 : k ≤ 1000000000000) :
    Calls Try.prog 16 #[v, .int .i64 k] w fun r w' => r = .returned (.int .i64 (k + xs.length)) ∧ OwnI 3 w' B v (marks xs.length k) ∧ w.grownBy w' v.ownBlock := by
  have HO := hid hv
  obtain ⟨A, c, rfl, hA⟩ := hv.shape
  have HA := hid hA
  clear hA hv
  go_enter Try.func16, Try.ntmps16
  go_wp2
  go_loopw [1, 5] (fun q i wr => ∃ j : Nat, j ≤ xs.length ∧ i = .int .i64 j ∧ q = .int .i64 (k + j) ∧ wr.ownsRow B 3 1 (.slice A xs.length c) xs.length ((markL xs k j).map (Value.int .i64)) ∧ w.grownBy wr (Value.slice A xs.length c).ownBlock) (fun _ i _ => xs.length - (intOf i).toNat)
  case atStart => exact ⟨0, Nat.zero_le _, rfl, by simp, by rw [markL_zero]; exact HO.out, World.grownBy.refl _ _⟩
  case round =>
    obtain ⟨j, hj, rfl, rfl, ho, hg⟩ := hrel
    by_cases hlt : j < xs.length
    · obtain ⟨g, rfl, hgl, hgB⟩ := HA.out (by intro h; simp [h] at hlt)
      have hcell : wr.cell? ⟨g, j, none⟩ = some (.int .i64 (xs.getD j 0)) := by
        rw [ho.cellAt j (by omega), List.getElem?_map, markL_at xs k j j hlt]; simp
      have hfz := ho.frozenAt j
      have Ho := hid ho
      have Hg := hid hg
      obtain ⟨x, hx⟩ : ∃ x, xs.getD j 0 = x := ⟨_, rfl⟩
      rw [hx] at hcell
      have hj2 : k + (j : Int) + 1 ≤ 1000001048576 := by omega
      clear hx ho hg
      go_wp2
      go_roundw
      case rel => exact ⟨j + 1, by omega, by go_num, by go_num, by rw [← markL_set xs k j hlt]; exact (Ho.out.stored j _).1, grown_setCell Hg.out j _⟩
      case measure => simp [intOf]; omega
    · obtain rfl : j = xs.length := by omega
      have Ho := hid ho
      have Hg := hid hg
      clear ho hg
      go_wp2
      go_ret
      refine ⟨rfl, ?_, Hg.out⟩
      unfold OwnI
      rw [marks_length, ← markL_full]
      exact Ho.out
theorem heldIntS_any (v : Value) (n : Nat) (k : Int) (w : World) (hv : Ints w v (marks n k)) (hl : n ≤ 1048576) (h0 : 0 ≤ k) (h1 : k ≤ 1000000000000) :
    Calls Try.prog 17 #[v, .int .i64 k] w fun r w' => r = .returned (.int .i64 (k + n)) ∧ Below w.heap.size w w' := by
  obtain ⟨A, c, rfl, hA⟩ := hv
  rw [marks_length] at hA ⊢
  have HA := hid hA
  clear hA
  go_enter Try.func17, Try.ntmps17
  go_wp2
  go_loop [1, 5] (fun q i => ∃ j : Nat, j ≤ n ∧ i = .int .i64 j ∧ q = .int .i64 (k + j)) (fun _ i => n - (intOf i).toNat)
  case atStart => exact ⟨0, Nat.zero_le _, rfl, by simp⟩
  case round =>
    obtain ⟨j, hj, rfl, rfl⟩ := hrel
    by_cases hlt : j < n
    · obtain ⟨b, o, rfl, hb, hc⟩ := HA.out (by intro h; have := congrArg List.length h; rw [marks_length] at this; simp at this; omega)
      have hcell := hc j hlt
      rw [marks_at n k j hlt] at hcell
      have hj2 : k + (j : Int) + 1 ≤ 1000001048576 := by omega
      clear hc
      go_wp2
      go_round
      case rel => exact ⟨j + 1, by omega, by go_num, by go_num⟩
      case measure => simp [intOf]; omega
    · obtain rfl : j = n := by omega
      go_wp2
      go_ret
      exact ⟨rfl, Below.refl _ _⟩
theorem markPoset_any (v : Value) (xs : List Int) (k : Int) (B : Nat) (w : World) (hv : OwnI 3 w B v xs) (hl : xs.length ≤ 1048576) (h0 : 0 ≤ k) (h1 : k ≤ 1000000000000) :
    Calls Try.prog 15 #[.agg #[v], .int .i64 k] w fun r w' => r = .returned (.int .i64 (k + xs.length)) ∧ OwnI 3 w' B v (marks xs.length k) ∧ w.grownBy w' v.ownBlock := by
  have HO := hid hv
  clear hv
  go_enter Try.func15, Try.ntmps15
  go_wp2_with (go_at_call 16; refine (markIntS_any v xs k B _ (HO.out.alloc _) hl h0 h1).mono ?_; rintro e w1 ⟨rfl, ho, hg⟩)
  go_ret
  exact ⟨rfl, ho, grown_trans (grown_of_below ((Below.refl _ _).alloc (Nat.le_refl _) _) _) hg⟩

/-! ### the copies as slices of the call's own -/
theorem toIntS_own (v : Value) (xs : List Int) (w : World) (hv : Ints w v xs) (hl : xs.length ≤ 1048576) :
    Calls Try.prog 31 #[v] w fun (r : Ending) w' => ∃ u, r = Ending.returned u ∧ OwnI 3 w' w.heap.size u xs ∧ Below w.heap.size w w' :=
  (toIntS_any v xs w hv hl).mono fun _ _ ⟨_, he, hg, hB, hb⟩ => ⟨_, he, hB.own hg hl, hb⟩
theorem toPoset_own (v : Value) (xs : List Int) (w : World) (hv : Ints w v xs) (hl : xs.length ≤ 1048576) :
    Calls Try.prog 11 #[.agg #[v]] w fun (r : Ending) w' => ∃ u, r = Ending.returned (.agg #[u]) ∧ OwnI 3 w' w.heap.size u xs ∧ Below w.heap.size w w' :=
  (toPoset_any v xs w hv hl).mono fun _ _ ⟨_, he, hg, hB, hb⟩ => ⟨_, he, hB.own hg hl, hb⟩
end Go.Proofs.Ytkalpichninncab
