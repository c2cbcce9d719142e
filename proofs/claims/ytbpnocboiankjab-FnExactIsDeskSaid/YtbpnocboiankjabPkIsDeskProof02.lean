/- Texts Law, Heights, Where, Pairs, one behind the other. -/
import Derived.Test.YtbpnocboiankjabRows
import Derived.Outline
import Derived.ChangeAlike
import Derived.RegionTactic
import Derived.Test.YtbpnocboiankjabPkIsDeskProof00
import Derived.Test.YtbpnocboiankjabPkIsDeskProof01
/- The contracts of the laws' own helpers: sizes, copies, comparisons. -/
namespace Go.Proofs.Ytbpnocboiankjab
open Go.RowKit Go.WideShapes Go.ChangeShapes
theorem Try.info3 : (Try.prog.info? 3).map (fun i => (i.zero, i.size, i.bytes)) = some (some (.int .i64 0), 1, 8) := by kernel_rfl

/-- what is left of a size -/
def szRes (left : Int) (n : Nat) : Int := if left < n then -1 else left - n
theorem szRes_neg {left : Int} {n : Nat} (h : left < n) : szRes left n = -1 := if_pos h
theorem szRes_pos {left : Int} {n : Nat} (h : ¬ left < n) : szRes left n = left - n := if_neg h
theorem Try.laidOut : laidOutB Try.prog = true := by kernel_rfl
theorem szIntS_any (v : Value) (xs : List Int) (left : Int) (w : World) (hv : Ints w v xs) (hl : xs.length ≤ maxLen) (h0 : 0 ≤ left) (h1 : left ≤ 1048576) :
    Calls Try.prog 29 #[v, .int .i64 left] w fun r w' => r = .returned (.int .i64 (szRes left xs.length)) ∧ Below w.heap.size w w' := by
  obtain ⟨A, c, rfl, hA⟩ := hv
  unfold maxLen at hl
  clear hA
  by_cases hlt : left < xs.length
  · have H := hid (szRes_neg hlt)
    go_enter Try.func29, Try.ntmps29
    go_wp2
    go_ret
    exact ⟨ret_int H.out.symm, Below.refl _ _⟩
  · have H := hid (szRes_pos hlt)
    go_enter Try.func29, Try.ntmps29
    go_wp2
    go_ret
    exact ⟨ret_int H.out.symm, Below.refl _ _⟩
theorem szPoset_any (v : Value) (xs : List Int) (left : Int) (w : World) (hv : Ints w v xs) (hl : xs.length ≤ maxLen) (h0 : 0 ≤ left) (h1 : left ≤ 1048576) :
    Calls Try.prog 19 #[.agg #[v], .int .i64 left] w fun r w' => r = .returned (.int .i64 (szRes left xs.length)) ∧ Below w.heap.size w w' := by
  have HV := hid hv
  clear hv
  by_cases hlt : left < xs.length
  · have H := hid (szRes_neg hlt)
    go_enter Try.func19, Try.ntmps19
    go_wp2_with (go_at_call 29; refine (szIntS_any v xs left _ (HV.out.alloc _) hl h0 h1).mono ?_; rw [H.out]; rintro e w1 ⟨rfl, hb1⟩)
    go_ret
    exact ⟨ret_int H.out.symm, ((Below.refl _ _).alloc (Nat.le_refl _) _).trans (hb1.mono (by simp))⟩
  · have H := hid (szRes_pos hlt)
    go_enter Try.func19, Try.ntmps19
    go_wp2_with (go_at_call 29; refine (szIntS_any v xs left _ (HV.out.alloc _) hl h0 h1).mono ?_; rw [H.out]; rintro e w1 ⟨rfl, hb1⟩)
    go_ret
    exact ⟨ret_int H.out.symm, ((Below.refl _ _).alloc (Nat.le_refl _) _).trans (hb1.mono (by simp))⟩
/-- k cells filled of n -/
def fillI (xs : List Int) (k : Nat) : Array Value := ((List.range xs.length).map fun j => Value.int .i64 (if j < k then xs.getD j 0 else 0)).toArray
theorem fillI_get (xs : List Int) (k i : Nat) (hi : i < xs.length) : (fillI xs k)[i]? = some (.int .i64 (if i < k then xs.getD i 0 else 0)) := by
  simp [fillI, hi]
theorem fillI_size (xs : List Int) (k : Nat) : (fillI xs k).size = xs.length := by simp [fillI]
theorem fillI_set (xs : List Int) (k : Nat) (hk : k < xs.length) : (fillI xs k).setIfInBounds k (.int .i64 (xs.getD k 0)) = fillI xs (k + 1) := by
  apply Array.ext_getElem?
  intro i
  rw [Array.getElem?_setIfInBounds, fillI_size]
  by_cases hi : i < xs.length
  · rw [fillI_get xs _ i hi, fillI_get xs _ i hi]
    by_cases h : k = i
    · subst h; simp [hk]
    · simp only [h, if_false]
      by_cases h2 : i < k
      · rw [if_pos h2, if_pos (by omega)]
      · rw [if_neg h2, if_neg (by omega)]
  · rw [Array.getElem?_eq_none (by rw [fillI_size]; omega), Array.getElem?_eq_none (by rw [fillI_size]; omega)]
    split
    · omega
    · rfl
theorem fillI_full (xs : List Int) : fillI xs xs.length = (xs.map (Value.int .i64)).toArray := by
  apply Array.ext_getElem?
  intro i
  by_cases hi : i < xs.length
  · rw [fillI_get xs _ i hi]; simp [hi]
  · rw [Array.getElem?_eq_none (by rw [fillI_size]; omega)]; simp [hi]
theorem fillI_zero (xs : List Int) : fillI xs 0 = madeCells #[.int .i64 0] xs.length := by
  have := toList_madeCells_one (.int .i64 0) xs.length
  rw [← Array.toList_inj, this]
  apply List.ext_getElem?
  intro i
  simp only [fillI, Nat.not_lt_zero, if_false, List.getElem?_map, List.getElem?_replicate]
  by_cases hi : i < xs.length <;> simp [hi]
theorem toIntS_any (v : Value) (xs : List Int) (w : World) (hv : Ints w v xs) (hl : xs.length ≤ 1048576) :
    Calls Try.prog 31 #[v] w fun (r : Ending) w' => ∃ g, r = Ending.returned (.slice (some ⟨g, 0, none⟩) xs.length xs.length) ∧ w.heap.size ≤ g ∧ Blk w' g 3 (xs.map (Value.int .i64)).toArray ∧ Below w.heap.size w w' := by
  obtain ⟨A, c, rfl, hA⟩ := hv
  have HA := hid hA
  clear hA
  have hmk := run_make_row' (P := Try.prog) 22 3 (.int .i64 0) 8 Try.underlying22 Try.info3 rfl .i64 .i64 xs.length (by omega) (by omega)
  have hz := hid (fillI_zero xs)
  go_enter Try.func31, Try.ntmps31
  go_wp2
  rw [← hz.out]
  clear hmk
  go_loopw [4] (fun i wr => ∃ k : Nat, k ≤ xs.length ∧ i = .int .i64 k ∧ Blk wr w.heap.size 3 (fillI xs k) ∧ Below w.heap.size w wr) (fun i _ => xs.length - (intOf i).toNat)
  case atStart => exact ⟨0, Nat.zero_le _, rfl, Blk.new _ _ _, (Below.refl _ _).alloc (Nat.le_refl _) _⟩
  case round =>
    obtain ⟨k, hk, rfl, hB, hb⟩ := hrel
    by_cases hlt : k < xs.length
    · obtain ⟨b, o, rfl, hbl, hc⟩ := HA.out (by intro h; simp [h] at hlt)
      have hcell : wr.cell? ⟨b, o + k, none⟩ = some (.int .i64 (xs.getD k 0)) := by
        rw [hb.cell (p := ⟨b, o + k, none⟩) hbl]; exact hc k hlt
      have hst : wr.cell? ⟨w.heap.size, k, none⟩ = some (.int .i64 0) := by rw [hB.cell, fillI_get xs k k hlt]; simp
      have hfz := hB.frozen k
      have HB := hid hB
      have Hb := hid hb
      clear hc hB hb
      obtain ⟨x, hx⟩ : ∃ x, xs.getD k 0 = x := ⟨_, rfl⟩
      rw [hx] at hcell
      have Hx := hid hx
      clear hx
      go_wp2
      go_roundw
      case rel => exact ⟨k + 1, by omega, by go_num, by rw [← fillI_set xs k hlt, Hx.out]; exact HB.out.set_ k _, Hb.out.setCell (Nat.le_refl _) _⟩
      case measure => simp [intOf]; omega
    · obtain rfl : k = xs.length := by omega
      have HB := hid hB
      have Hb := hid hb
      clear hB hb
      go_wp2
      go_ret
      exact ⟨_, rfl, Nat.le_refl _, by rw [← fillI_full]; exact HB.out, Hb.out⟩

theorem toPoset_any (v : Value) (xs : List Int) (w : World) (hv : Ints w v xs) (hl : xs.length ≤ 1048576) :
    Calls Try.prog 21 #[.agg #[v]] w fun (r : Ending) w' => ∃ g, r = Ending.returned (.agg #[.slice (some ⟨g, 0, none⟩) xs.length xs.length]) ∧ w.heap.size ≤ g ∧ Blk w' g 3 (xs.map (Value.int .i64)).toArray ∧ Below w.heap.size w w' := by
  have HV := hid hv
  clear hv
  go_enter Try.func21, Try.ntmps21
  go_wp2_with fail
  refine (toIntS_any v xs _ (((HV.out.alloc _).alloc _).alloc _) hl).mono ?_
  rintro e w1 ⟨g, rfl, hg, hB, hb1⟩
  obtain ⟨hc, hf⟩ := bcell hb1
  have hz : w.heap.size + 2 < w1.heap.size := by have := hb1.size; simp at this; omega
  have hg2 : w.heap.size + 3 ≤ g := by simp at hg; omega
  have HB := hid hB
  have HB1 := hid hb1
  clear hB hb1 hg
  go_wp2
  refine bodyPost_ret (v := .agg #[.slice (some ⟨g, 0, none⟩) xs.length xs.length]) (by simp [results, Try.results21, go_sem, hc]) rfl ⟨g, rfl, by omega, ?_, ?_⟩
  · exact (HB.out.far (by simp; omega) _).far (by simp; omega) _
  · exact (((((((Below.refl _ _).alloc (Nat.le_refl _) _).alloc (by simp) _).alloc (by simp; omega) _).trans (HB1.out.mono (by simp; omega))).setCell (by simp; omega) _).setCell (by simp) _)
theorem eqIntS_any (v u : Value) (xs : List Int) (w : World) (hv : Ints w v xs) (hu : Ints w u xs) (hl : xs.length ≤ 1048576) :
    Calls Try.prog 26 #[v, u] w fun r w' => r = .returned (.bool true) ∧ Below w.heap.size w w' := by
  obtain ⟨A, c, rfl, hA⟩ := hv
  obtain ⟨B, d, rfl, hB⟩ := hu
  have HA := hid hA
  have HB := hid hB
  clear hA hB
  go_enter Try.func26, Try.ntmps26
  go_wp2
  go_loopw [5] (fun i wr => ∃ k : Nat, k ≤ xs.length ∧ i = .int .i64 k ∧ Below w.heap.size w wr) (fun i _ => xs.length - (intOf i).toNat)
  case atStart => exact ⟨0, Nat.zero_le _, rfl, Below.refl _ _⟩
  case round =>
    obtain ⟨k, hk, rfl, hb⟩ := hrel
    by_cases hlt : k < xs.length
    · obtain ⟨b, o, rfl, hbl, hc⟩ := HA.out (by intro h; simp [h] at hlt)
      obtain ⟨b2, o2, rfl, hbl2, hc2⟩ := HB.out (by intro h; simp [h] at hlt)
      have hcell : wr.cell? ⟨b, o + k, none⟩ = some (.int .i64 (xs.getD k 0)) := by
        rw [hb.cell (p := ⟨b, o + k, none⟩) hbl]; exact hc k hlt
      have hcell2 : wr.cell? ⟨b2, o2 + k, none⟩ = some (.int .i64 (xs.getD k 0)) := by
        rw [hb.cell (p := ⟨b2, o2 + k, none⟩) hbl2]; exact hc2 k hlt
      obtain ⟨x, hx⟩ : ∃ x, xs.getD k 0 = x := ⟨_, rfl⟩
      rw [hx] at hcell hcell2
      have Hb := hid hb
      have hlt' : (k : Int) < xs.length := by omega
      clear hc hb hc2 hx
      go_wp2
      go_quiet (fail)
      go_wp2
      go_roundw
      case rel => exact ⟨k + 1, by omega, by go_num, below_drewN Hb.out _⟩
      case measure => simp [intOf]; omega
    · obtain rfl : k = xs.length := by omega
      have Hb := hid hb
      clear hb
      go_wp2
      go_ret
      exact ⟨rfl, Hb.out⟩
theorem eqPoset_any (v u : Value) (xs : List Int) (w : World) (hv : Ints w v xs) (hu : Ints w u xs) (hl : xs.length ≤ 1048576) :
    Calls Try.prog 16 #[.agg #[v], .agg #[u]] w fun r w' => r = .returned (.bool true) ∧ Below w.heap.size w w' := by
  have HV := hid hv
  have HU := hid hu
  clear hv hu
  go_enter Try.func16, Try.ntmps16
  go_wp2_with (go_at_call 26; refine (eqIntS_any v u xs _ ((HV.out.alloc _).alloc _) ((HU.out.alloc _).alloc _) hl).mono ?_; rintro e w1 ⟨rfl, hb1⟩)
  go_ret
  exact ⟨rfl, (((Below.refl _ _).alloc (Nat.le_refl _) _).alloc (by simp) _).trans (hb1.mono (by simp; omega))⟩

/-! ### marks: what the law writes into a slice, and reads again -/
def markL (xs : List Int) (k : Int) (j : Nat) : List Int := (List.range xs.length).map fun i => if i < j then k + i else xs.getD i 0
def marks (n : Nat) (k : Int) : List Int := (List.range n).map fun (i : Nat) => k + (i : Int)
theorem markL_length (xs : List Int) (k : Int) (j : Nat) : (markL xs k j).length = xs.length := by simp [markL]
theorem marks_length (n : Nat) (k : Int) : (marks n k).length = n := by simp [marks]
theorem markL_zero (xs : List Int) (k : Int) : markL xs k 0 = xs := by
  apply List.ext_getElem?
  intro i
  simp only [markL, Nat.not_lt_zero, if_false, List.getElem?_map]
  by_cases hi : i < xs.length <;> simp [hi]
theorem markL_full (xs : List Int) (k : Int) : markL xs k xs.length = marks xs.length k := by
  apply List.ext_getElem?
  intro i
  simp only [markL, marks, List.getElem?_map]
  by_cases hi : i < xs.length <;> simp [hi]
theorem markL_at (xs : List Int) (k : Int) (j i : Nat) (hi : i < xs.length) : (markL xs k j)[i]? = some (if i < j then k + i else xs.getD i 0) := by
  simp [markL, hi]
theorem markL_set (xs : List Int) (k : Int) (j : Nat) (hj : j < xs.length) : ((markL xs k j).map (Value.int .i64)).set j (.int .i64 (k + j)) = (markL xs k (j + 1)).map (Value.int .i64) := by
  apply List.ext_getElem?
  intro i
  rw [List.getElem?_set, List.length_map, markL_length]
  by_cases hi : i < xs.length
  · rw [List.getElem?_map, List.getElem?_map, markL_at xs k j i hi, markL_at xs k (j + 1) i hi]
    by_cases h : j = i
    · subst h; simp [hj]
    · simp only [h, if_false, Option.map_some]
      by_cases h2 : i < j
      · rw [if_pos h2, if_pos (by omega)]
      · rw [if_neg h2, if_neg (by omega)]
  · have h1 : ∀ j', ((markL xs k j').map (Value.int .i64))[i]? = none := fun j' => List.getElem?_eq_none (by rw [List.length_map, markL_length]; omega)
    rw [h1, h1, if_neg (by omega)]
theorem marks_at (n : Nat) (k : Int) (i : Nat) (hi : i < n) : (marks n k).getD i 0 = k + i := by
  simp [marks, List.getD, hi]

theorem markIntS_any (v : Value) (xs : List Int) (k : Int) (B : Nat) (w : World) (hv : OwnI 3 w B v xs) (hl : xs.length ≤ 1048576) (h0 : 0 ≤ k) (h1 : k ≤ 1000000000000) :
    Calls Try.prog 27 #[v, .int .i64 k] w fun r w' => r = .returned (.int .i64 (k + xs.length)) ∧ OwnI 3 w' B v (marks xs.length k) ∧ w.grownBy w' v.ownBlock := by
  have HO := hid hv
  obtain ⟨A, c, rfl, hA⟩ := hv.shape
  have HA := hid hA
  clear hA hv
  go_enter Try.func27, Try.ntmps27
  go_wp2
  go_loopw [1, 5] (fun q i wr => ∃ j : Nat, j ≤ xs.length ∧ i = .int .i64 j ∧ q = .int .i64 (k + j) ∧ wr.ownsRow B 3 1 (.slice A xs.length c) xs.length ((markL xs k j).map (Value.int .i64)) ∧ w.grownBy wr (Value.slice A xs.length c).ownBlock) (fun _ i _ => xs.length - (intOf i).toNat)
  case atStart => exact ⟨0, Nat.zero_le _, rfl, by simp, by rw [markL_zero]; exact HO.out, World.grownBy.refl _ _⟩
  case round =>
    obtain ⟨j, hj, rfl, rfl, ho, hg⟩ := hrel
    by_cases hlt : j < xs.length
    · obtain ⟨g, rfl, hgl, hgB⟩ := HA.out (by intro h; simp [h] at hlt)
      have hcell : wr.cell? ⟨g, j, none⟩ = some (.int .i64 (xs.getD j 0)) := by
        rw [ho.cellAt j (by omega), List.getElem?_map, markL_at xs k j j hlt]; simp
      have hfz := ho.frozenAt j
      have Ho := hid ho
      have Hg := hid hg
      obtain ⟨x, hx⟩ : ∃ x, xs.getD j 0 = x := ⟨_, rfl⟩
      rw [hx] at hcell
      have hj2 : k + (j : Int) + 1 ≤ 1000001048576 := by omega
      clear hx ho hg
      go_wp2
      go_roundw
      case rel => exact ⟨j + 1, by omega, by go_num, by go_num, by rw [← markL_set xs k j hlt]; exact (Ho.out.stored j _).1, grown_setCell Hg.out j _⟩
      case measure => simp [intOf]; omega
    · obtain rfl : j = xs.length := by omega
      have Ho := hid ho
      have Hg := hid hg
      clear ho hg
      go_wp2
      go_ret
      refine ⟨rfl, ?_, Hg.out⟩
      unfold OwnI
      rw [marks_length, ← markL_full]
      exact Ho.out
theorem heldIntS_any (v : Value) (n : Nat) (k : Int) (w : World) (hv : Ints w v (marks n k)) (hl : n ≤ 1048576) (h0 : 0 ≤ k) (h1 : k ≤ 1000000000000) :
    Calls Try.prog 28 #[v, .int .i64 k] w fun r w' => r = .returned (.int .i64 (k + n)) ∧ Below w.heap.size w w' := by
  obtain ⟨A, c, rfl, hA⟩ := hv
  rw [marks_length] at hA ⊢
  have HA := hid hA
  clear hA
  go_enter Try.func28, Try.ntmps28
  go_wp2
  go_loop [1, 5] (fun q i => ∃ j : Nat, j ≤ n ∧ i = .int .i64 j ∧ q = .int .i64 (k + j)) (fun _ i => n - (intOf i).toNat)
  case atStart => exact ⟨0, Nat.zero_le _, rfl, by simp⟩
  case round =>
    obtain ⟨j, hj, rfl, rfl⟩ := hrel
    by_cases hlt : j < n
    · obtain ⟨b, o, rfl, hb, hc⟩ := HA.out (by intro h; have := congrArg List.length h; rw [marks_length] at this; simp at this; omega)
      have hcell := hc j hlt
      rw [marks_at n k j hlt] at hcell
      have hj2 : k + (j : Int) + 1 ≤ 1000001048576 := by omega
      clear hc
      go_wp2
      go_round
      case rel => exact ⟨j + 1, by omega, by go_num, by go_num⟩
      case measure => simp [intOf]; omega
    · obtain rfl : j = n := by omega
      go_wp2
      go_ret
      exact ⟨rfl, Below.refl _ _⟩
theorem markPoset_any (v : Value) (xs : List Int) (k : Int) (B : Nat) (w : World) (hv : OwnI 3 w B v xs) (hl : xs.length ≤ 1048576) (h0 : 0 ≤ k) (h1 : k ≤ 1000000000000) :
    Calls Try.prog 17 #[.agg #[v], .int .i64 k] w fun r w' => r = .returned (.int .i64 (k + xs.length)) ∧ OwnI 3 w' B v (marks xs.length k) ∧ w.grownBy w' v.ownBlock := by
  have HO := hid hv
  clear hv
  go_enter Try.func17, Try.ntmps17
  go_wp2_with (go_at_call 27; refine (markIntS_any v xs k B _ (HO.out.alloc _) hl h0 h1).mono ?_; rintro e w1 ⟨rfl, ho, hg⟩)
  go_ret
  exact ⟨rfl, ho, grown_trans (grown_of_below ((Below.refl _ _).alloc (Nat.le_refl _) _) _) hg⟩

/-! ### the copies as slices of the call's own -/
theorem toIntS_own (v : Value) (xs : List Int) (w : World) (hv : Ints w v xs) (hl : xs.length ≤ 1048576) :
    Calls Try.prog 31 #[v] w fun (r : Ending) w' => ∃ u, r = Ending.returned u ∧ OwnI 3 w' w.heap.size u xs ∧ Below w.heap.size w w' :=
  (toIntS_any v xs w hv hl).mono fun _ _ ⟨_, he, hg, hB, hb⟩ => ⟨_, he, hB.own hg hl, hb⟩
theorem toPoset_own (v : Value) (xs : List Int) (w : World) (hv : Ints w v xs) (hl : xs.length ≤ 1048576) :
    Calls Try.prog 21 #[.agg #[v]] w fun (r : Ending) w' => ∃ u, r = Ending.returned (.agg #[u]) ∧ OwnI 3 w' w.heap.size u xs ∧ Below w.heap.size w w' :=
  (toPoset_any v xs w hv hl).mono fun _ _ ⟨_, he, hg, hB, hb⟩ => ⟨_, he, hB.own hg hl, hb⟩
theorem heldPoset_any (v : Value) (n : Nat) (k : Int) (w : World) (hv : Ints w v (marks n k)) (hl : n ≤ 1048576) (h0 : 0 ≤ k) (h1 : k ≤ 1000000000000) :
    Calls Try.prog 18 #[.agg #[v], .int .i64 k] w fun r w' => r = .returned (.int .i64 (k + n)) ∧ Below w.heap.size w w' := by
  have HV := hid hv
  clear hv
  go_enter Try.func18, Try.ntmps18
  go_wp2_with (go_at_call 28; refine (heldIntS_any v n k _ (HV.out.alloc _) hl h0 h1).mono ?_; rintro e w1 ⟨rfl, hb1⟩)
  go_ret
  exact ⟨rfl, ((Below.refl _ _).alloc (Nat.le_refl _) _).trans (hb1.mono (by simp))⟩
end Go.Proofs.Ytbpnocboiankjab

/- Heights. -/
namespace Go.Proofs.Ytbpnocboiankjab
open Go.RowKit Go.WideShapes Go.ChangeShapes
set_option linter.unusedVariables false

/-- the cells of a list of numbers -/
def Vals (l : List Int) : Array Value := (l.map (Value.int .i64)).toArray
theorem pow_lt10 (n : Nat) (h : n ≤ 9) : 2 ^ n ≤ 512 := by
  have := Nat.pow_le_pow_right (n := 2) (by decide) h
  simpa using this
theorem Vals_get {l : List Int} {i : Nat} (h : i < l.length) : (Vals l)[i]? = some (.int .i64 (l.getD i 0)) := by
  simp [Vals, h]
theorem Vals_set (l : List Int) (i : Nat) (y : Int) : (Vals l).setIfInBounds i (.int .i64 y) = Vals (l.set i y) := by
  unfold Vals
  rw [List.setIfInBounds_toArray, List.map_set]
theorem Vals_made (n : Nat) : madeCells #[.int .i64 0] n = Vals (List.replicate n 0) := by
  have := toList_madeCells_one (.int .i64 0) n
  rw [← Array.toList_inj, this]
  simp [Vals]

/-! ### heights -/
def hstep (xs : List Int) (i : Nat) (out : List Int) (j : Nat) : List Int :=
  if (xs.getD i 0).toNat.testBit j then out.set i (max (out.getD i 0) (out.getD j 0 + 1)) else out
def hin (xs : List Int) (i : Nat) (out : List Int) : Nat → List Int
  | 0 => out
  | j + 1 => hstep xs i (hin xs i out j) j
def hout (xs : List Int) (n : Nat) : Nat → List Int
  | 0 => List.replicate n 0
  | i + 1 => hin xs i (hout xs n i) i
def HB (out : List Int) (n : Nat) : Prop := out.length = n ∧ ∀ e, 0 ≤ out.getD e 0 ∧ out.getD e 0 ≤ e
theorem getD_set (l : List Int) (i e : Nat) (y : Int) (hi : i < l.length) : (l.set i y).getD e 0 = if i = e then y else l.getD e 0 := by
  simp only [List.getD, List.getElem?_set]
  by_cases h : i = e
  · subst h; simp [hi]
  · simp [h]
theorem HB_step {xs : List Int} {out : List Int} {n i j : Nat} (h : HB out n) (hi : i < n) (hj : j < i) : HB (hstep xs i out j) n := by
  unfold hstep
  split
  · refine ⟨by rw [List.length_set]; exact h.1, fun e => ?_⟩
    rw [getD_set _ _ _ _ (by rw [h.1]; exact hi)]
    have h1 := h.2 i
    have h2 := h.2 j
    split
    · rename_i he; subst he; omega
    · exact h.2 e
  · exact h
theorem HB_in {xs : List Int} {out : List Int} {n i : Nat} (h : HB out n) (hi : i < n) (j : Nat) (hj : j ≤ i) : HB (hin xs i out j) n := by
  induction j with
  | zero => exact h
  | succ j ih => exact HB_step (ih (by omega)) hi (by omega)
theorem HB_out (xs : List Int) (n i : Nat) (hi : i ≤ n) : HB (hout xs n i) n := by
  induction i with
  | zero =>
    refine ⟨by simp [hout], fun e => ?_⟩
    by_cases he : e < n
    · simp [hout, List.getD, he]
    · simp [hout, List.getD, he]
  | succ i ih => exact HB_in (ih (by omega)) (by omega) i (Nat.le_refl _)
def heightsL (xs : List Int) : List Int := if good xs then hout xs xs.length xs.length else []
theorem heightsL_yes {xs : List Int} (h : good xs = true) : heightsL xs = hout xs xs.length xs.length := if_pos h
theorem heightsL_no {xs : List Int} (h : good xs = false) : heightsL xs = [] := by simp [heightsL, h]
theorem heightsL_length (xs : List Int) : (heightsL xs).length ≤ 1048576 := by
  unfold heightsL
  split
  · rename_i h
    rw [(HB_out xs xs.length xs.length (Nat.le_refl _)).1]
    have := (good_length h).2
    omega
  · simp

theorem max_if (p q : Int) : (if p < q then q else p) = max p q := by split <;> omega
end Go.Proofs.Ytbpnocboiankjab

/- posetWhere: a poset out of a test. -/
namespace Go.Proofs.Ytbpnocboiankjab
open Go.RowKit Go.WideShapes Go.ChangeShapes
set_option linter.unusedVariables false

def rowN (f : Nat → Bool) : Nat → Nat
  | 0 => 0
  | j + 1 => if f j then rowN f j ||| 2 ^ j else rowN f j
theorem rowN_testBit (f : Nat → Bool) (k s : Nat) : (rowN f k).testBit s = (decide (s < k) && f s) := by
  induction k with
  | zero => simp [rowN]
  | succ k ih =>
    unfold rowN
    by_cases h : s = k
    · subst h
      split
      · rename_i hf; rw [Nat.testBit_or, ih, Nat.testBit_two_pow_self]; simp [hf]
      · rename_i hf; rw [ih]; simp [hf]
    · have e : decide (s < k + 1) = decide (s < k) := by
        by_cases h2 : s < k
        · rw [decide_eq_true h2, decide_eq_true (by omega)]
        · rw [decide_eq_false h2, decide_eq_false (by omega)]
      rw [e]
      split
      · rw [Nat.testBit_or, ih, Nat.testBit_two_pow_of_ne (by omega)]; simp
      · exact ih
theorem rowN_lt (f : Nat → Bool) (k : Nat) : rowN f k < 2 ^ k := by
  apply Nat.lt_pow_two_of_testBit
  intro i hi
  rw [rowN_testBit, decide_eq_false (by omega)]; rfl
/-- the list of n numbers that g tells -/
def mkL (n : Nat) (g : Nat → Nat) : List Int := (List.range n).map fun (i : Nat) => ((g i : Nat) : Int)
theorem mkL_length (n : Nat) (g : Nat → Nat) : (mkL n g).length = n := by simp [mkL]
theorem mkL_getD {n : Nat} {g : Nat → Nat} {i : Nat} (h : i < n) : (mkL n g).getD i 0 = (g i : Int) := by simp [mkL, List.getD, h]
theorem mkL_congr {n : Nat} {g h : Nat → Nat} (e : ∀ i, i < n → g i = h i) : mkL n g = mkL n h := by
  apply List.map_congr_left
  intro i hi
  rw [e i (List.mem_range.1 hi)]
theorem mkL_set {n : Nat} {g : Nat → Nat} {k : Nat} (y : Nat) (h : k < n) : (mkL n g).set k (y : Int) = mkL n (fun i => if i = k then y else g i) := by
  apply List.ext_getElem?
  intro i
  rw [List.getElem?_set, mkL_length]
  simp only [mkL, List.getElem?_map]
  by_cases hi : i < n
  · by_cases e : k = i
    · subst e; simp [h]
    · simp [e, hi, Ne.symm e]
  · simp [hi]
    intro e; omega
theorem mkL_zero (n : Nat) : mkL n (fun _ => 0) = List.replicate n 0 := by
  apply List.ext_getElem?
  intro i
  simp only [mkL, List.getElem?_map]
  by_cases hi : i < n <;> simp [hi]
theorem mkL_upd {n : Nat} {g h : Nat → Nat} {k : Nat} (y : Nat) (hk : k < n) (e : ∀ i, i < n → h i = if i = k then y else g i) : mkL n h = (mkL n g).set k (y : Int) := by
  rw [mkL_set y hk]; exact mkL_congr e
def whereG (f : Nat → Nat → Bool) (k : Nat) (i : Nat) : Nat := if i < k then rowN (fun j => f j i) i else 0
def whereH (f : Nat → Nat → Bool) (k t : Nat) (i : Nat) : Nat := if i < k then rowN (fun j => f j i) i else if i = k then rowN (fun j => f j k) t else 0
def whereL (f : Nat → Nat → Bool) (n : Nat) : List Int := mkL n (fun i => rowN (fun j => f j i) i)


theorem posetWhereRectangle_any (n : Nat) (c1 : Addr) (f : Nat → Nat → Bool) (w : World) (hn : n ≤ 10)
    (hF : ∀ (j i : Nat) (W : World), j < i → i < n → Below w.heap.size w W → Calls Try.prog 25 #[.int .i64 j, .int .i64 i, .pointer (some c1)] W fun r W' => r = .returned (.bool (f j i)) ∧ Below W.heap.size W W') :
    Calls Try.prog 24 #[.int .i64 n, .func (.func 25) #[] #[.pointer (some c1)]] w fun (r : Ending) w' => ∃ u, r = Ending.returned (.agg #[u]) ∧ OwnI 3 w' w.heap.size u (whereL f n) ∧ Below w.heap.size w w' := by
  have HF := hid hF
  clear hF
  have hmk := run_make_row' (P := Try.prog) 22 3 (.int .i64 0) 8 Try.underlying22 Try.info3 rfl .i64 .i64 n (by omega) (by omega)
  go_enter Try.func24, Try.ntmps24
  go_wp2
  clear hmk
  rw [Vals_made]
  go_loopw [12] (fun i wr => ∃ k : Nat, k ≤ n ∧ i = .int .i64 k ∧ Blk wr (w.heap.size + 1) 3 (Vals (mkL n (whereG f k))) ∧ Below (w.heap.size + 1) (w.alloc (.cells #[.slice none 0 0] 24)) wr) (fun i _ => n - (intOf i).toNat)
  case atStart => exact ⟨0, Nat.zero_le _, rfl, (by have := Blk.new (w.alloc (.cells #[.slice none 0 0] 24)) 3 (Vals (List.replicate n 0)); (have e : mkL n (whereG f 0) = List.replicate n 0 := by rw [← mkL_zero]; exact mkL_congr (fun i _ => by simp [whereG])); rw [e]; simpa using this), (Below.refl _ _).alloc (by simp) _⟩
  case round =>
    obtain ⟨k, hk, rfl, hB, hb⟩ := hrel
    have HBk := hid hB
    have HBb := hid hb
    clear hB hb
    by_cases hlt : k < n
    · go_wp2
      go_loopw [16] (fun j wi => ∃ t : Nat, t ≤ k ∧ j = .int .i64 t ∧ Blk wi (w.heap.size + 1) 3 (Vals (mkL n (whereH f k t))) ∧ Below (w.heap.size + 1) (w.alloc (.cells #[.slice none 0 0] 24)) wi) (fun j _ => k - (intOf j).toNat)
      case atStart => exact ⟨0, Nat.zero_le _, rfl, (by rw [mkL_congr (h := whereG f k) (fun i _ => by unfold whereH whereG; split; rfl; split <;> simp [rowN])]; exact HBk.out), HBb.out⟩
      case round =>
        obtain ⟨t, ht, rfl, hB, hb⟩ := hrel
        have HBt := hid hB
        have HBc := hid hb
        clear hB hb
        by_cases htk : t < k
        · have hsz : w.heap.size + 1 < wr.heap.size := HBt.out.lt
          cases hft : f t k
          · have Hft := hid hft
            clear hft
            go_wp2_with fail
            refine (HF.out t k _ htk hlt (below_box HBc.out)).mono ?_
            rw [Hft.out]
            rintro e w2 ⟨rfl, hb2⟩
            have HB2 := hid hb2
            clear hb2
            go_wp2
            go_roundw
            case rel => exact ⟨t + 1, by omega, by go_num, (by rw [mkL_congr (h := whereH f k t) (fun i _ => by unfold whereH; split; rfl; split; (rw [rowN, Hft.out]; rfl); rfl)]; exact HBt.out.below HB2.out hsz), HBc.out.trans (HB2.out.mono (by omega))⟩
            case measure => simp [intOf]; omega
          · have Hft := hid hft
            clear hft
            go_wp2_with fail
            refine (HF.out t k _ htk hlt (below_box HBc.out)).mono ?_
            rw [Hft.out]
            rintro e w2 ⟨rfl, hb2⟩
            have HBt2 := hid (HBt.out.below hb2 hsz)
            have HBc2 := hid (HBc.out.trans (hb2.mono (by omega)))
            clear hb2
            obtain ⟨p, hp⟩ : ∃ p, rowN (fun j => f j k) t = p := ⟨_, rfl⟩
            have hp2 := rowN_lt (fun j => f j k) t
            have hp3 := pow_lt10 t (by omega)
            rw [hp] at hp2
            have t1 : w2.cell? ⟨w.heap.size + 1, k, none⟩ = some (.int .i64 p) := by
              rw [HBt2.out.cell, Vals_get (by rw [mkL_length]; exact hlt), mkL_getD hlt, ← hp]; simp [whereH]
            have t2 := HBt2.out.frozen k
            have wp := wrap_pow' t (by omega)
            have hor := or_pow p t (by omega) (by omega)
            have hkz : (k : Int) < n := by omega
            have Hp := hid hp
            clear hp hp2 hp3
            go_wp2
            go_region
            go_wp2
            go_roundw
            case rel => exact ⟨t + 1, by omega, by go_num, (by rw [mkL_congr (h := fun i => if i = k then p ||| 2 ^ t else whereH f k t i) (fun i _ => by unfold whereH; split; (rw [if_neg (by omega)]); split; (rw [rowN, if_pos Hft.out, Hp.out]); rfl), ← mkL_set _ hlt, ← Vals_set]; exact HBt2.out.set_ k _), (HBc2.out.setCell (p := ⟨w.heap.size + 1, k, none⟩) (Nat.le_refl _) _).drew⟩
            case measure => simp [intOf]; omega
        · obtain rfl : t = k := by omega
          go_wp2
          go_roundw
          case rel => exact ⟨t + 1, by omega, by go_num, (by rw [mkL_congr (h := whereH f t t) (fun i _ => by unfold whereH whereG; by_cases h : i < t; (rw [if_pos h, if_pos (by omega)]); by_cases h2 : i = t; (subst h2; simp); (rw [if_neg h, if_neg h2, if_neg (by omega)]))]; exact HBt.out), HBc.out⟩
          case measure => simp [intOf]; omega
    · obtain rfl : k = n := by omega
      have e : mkL k (whereG f k) = whereL f k := mkL_congr (fun i hi => by simp [whereG, hi])
      rw [e] at HBk
      have HOw := hid (HBk.out.own (xs := whereL f k) (B := w.heap.size) (by omega) (by unfold whereL; rw [mkL_length]; omega))
      have hbz := HBb.out.size
      have hbx := box_cell HBb.out 0
      have hbf : wr.frozen? ⟨w.heap.size, 0, none⟩ = false := by rw [HBb.out.frozen (p := ⟨w.heap.size, 0, none⟩) (Nat.lt_succ_self _)]; exact (Blk.new w 24 #[.slice none 0 0]).frozen 0
      simp at hbz
      have hwl : (whereL f k).length = k := by unfold whereL; rw [mkL_length]
      clear e
      go_wp2
      refine bodyPost_ret (v := .agg #[.slice (some ⟨w.heap.size + 1, 0, none⟩) k k]) (by simp [results, Try.results24, go_sem, hbx]) rfl ⟨_, rfl, ?_, ?_⟩
      · have := HOw.out
        rw [hwl] at this
        exact this.grown (grown_setCell (World.grownBy.refl _ _) 0 _) (.inr (by simp [Value.ownBlock]))
      · exact (below_box HBb.out).setCell (Nat.le_refl _) _

end Go.Proofs.Ytbpnocboiankjab

/- Lists of pairs of numbers: slices of slices of two. -/
namespace Go.Proofs.Ytbpnocboiankjab
open Go.RowKit Go.WideShapes Go.ChangeShapes
set_option linter.unusedVariables false

theorem Try.info22 : (Try.prog.info? 22).map (fun i => (i.zero, i.size, i.bytes)) = some (some (.slice none 0 0), 1, 24) := by kernel_rfl

/-- 'u' is a slice of just the two numbers a and b, in a block of its own -/
def PairAt (ti : TypeId) (w : World) (B : Nat) (u : Value) (p : Nat × Nat) : Prop := ∃ g, u = .slice (some ⟨g, 0, none⟩) 2 2 ∧ B ≤ g ∧ Blk w g ti #[.int .i64 (p.1 : Int), .int .i64 (p.2 : Int)]
theorem PairAt.below {ti : TypeId} {w w' : World} {B : Nat} {u : Value} {p : Nat × Nat} (h : PairAt ti w B u p) (hb : Below w.heap.size w w') : PairAt ti w' B u p := by
  obtain ⟨g, rfl, hB, hg⟩ := h
  exact ⟨g, rfl, hB, hg.below hb hg.lt⟩
/-- 'v' is a slice of the pairs ps -/
def Pairs (ti ts : TypeId) (w : World) (B : Nat) (v : Value) (ps : List (Nat × Nat)) : Prop :=
  ∃ us : List Value, us.length = ps.length ∧ w.ownsRow B ts 1 v ps.length us ∧ (∀ (j : Nat) (u : Value) (p : Nat × Nat), us[j]? = some u → ps[j]? = some p → PairAt ti w B u p) ∧ ∀ (i j : Nat) (u : Value), us[i]? = some u → us[j]? = some u → i = j
theorem Pairs.nil (ti ts : TypeId) (w : World) (B : Nat) : Pairs ti ts w B (.slice none 0 0) [] := ⟨[], rfl, World.ownsRow_nil w B ts 1, by simp, by simp⟩
theorem Pairs.below {ti ts : TypeId} {w w' : World} {B : Nat} {v : Value} {ps : List (Nat × Nat)} (h : Pairs ti ts w B v ps) (hb : Below w.heap.size w w') : Pairs ti ts w' B v ps := by
  obtain ⟨us, h1, h2, h3, h4⟩ := h
  refine ⟨us, h1, ?_, fun j u p hu hp => (h3 j u p hu hp).below hb, h4⟩
  by_cases hv : v.ownBlock = none
  · exact h2.kept (grown_of_below hb none) (.inl hv)
  · exact h2.kept (grown_of_below hb none) (.inr hv)
theorem Pairs.shape {ti ts : TypeId} {w : World} {B : Nat} {v : Value} {ps : List (Nat × Nat)} (h : Pairs ti ts w B v ps) :
    ∃ A c, v = .slice A ps.length c ∧ ∀ j, j < ps.length → ∃ b g, A = some ⟨b, 0, none⟩ ∧ b < w.heap.size ∧ g < w.heap.size ∧ w.cell? ⟨b, j, none⟩ = some (.slice (some ⟨g, 0, none⟩) 2 2) ∧ w.cell? ⟨g, 0, none⟩ = some (.int .i64 ((ps.getD j (0, 0)).1 : Int)) ∧ w.cell? ⟨g, 1, none⟩ = some (.int .i64 ((ps.getD j (0, 0)).2 : Int)) := by
  obtain ⟨us, h1, h2, h3, -⟩ := h
  rcases h2.2 with ⟨rfl, hn⟩ | ⟨b, cap, cur, rfl, hB, hh, _⟩
  · exact ⟨none, 0, by rw [hn], fun j hj => by omega⟩
  · refine ⟨_, cap, rfl, fun j hj => ?_⟩
    have hu : us[j]? = some us[j] := List.getElem?_eq_getElem (by omega)
    have hp : ps[j]? = some ps[j] := List.getElem?_eq_getElem hj
    obtain ⟨g, e, -, hg⟩ := h3 j _ _ hu hp
    have hc := h2.cellAt j (by omega)
    rw [hu, e] at hc
    have hbl : b < w.heap.size := by
      rcases Nat.lt_or_ge b w.heap.size with hlt | hge
      · exact hlt
      · rw [Array.getElem?_eq_none hge] at hh; cases hh
    have e2 : ps.getD j (0, 0) = ps[j] := by simp [List.getD, hp]
    refine ⟨b, g, rfl, hbl, hg.lt, hc, ?_, ?_⟩
    · rw [hg.cell, e2]; rfl
    · rw [hg.cell, e2]; rfl
/-- 'pairs = append(pairs, []int{a, b})' -/
theorem wpList_append_pair {P : Program} {w W : World} {ops : Array Oper} {rest : List Oper} {o : Oper} {ac : Act} {Q : Exit → Act → World → Prop} (hgd : o.guard = none) (s x : Operand) (t ts ti : TypeId)
    (ho : o.op = .call { callee := .builtin .append, args := #[s, x], argTypes := #[t, t] }) (ht : P.underlying t = some (.slice ts)) (hinfo : (P.info? ts).map (fun i => (i.zero, i.size, i.bytes)) = some (some (.slice none 0 0), 1, 24))
    (hne : ti ≠ ts) (B : Nat) (v : Value) (ps : List (Nat × Nat)) (a b : Nat) (hs : ac.eval s = v) (hown : Pairs ti ts w B v ps)
    (hW : W = (w.alloc (.cells #[.int .i64 (a : Int), .int .i64 (b : Int)] ti)).alloc (.cells #[.slice (some ⟨w.heap.size, 0, none⟩) 2 2] ts)) (hx : ac.eval x = .slice (some ⟨w.heap.size + 1, 0, none⟩) 1 1) (hlen : ps.length < 1048576) (hB : B ≤ w.heap.size)
    (h : ∀ v' w', Pairs ti ts w' B v' (ps ++ [(a, b)]) → Below B w w' → wpList P ops Q rest (ac.put o.dst v') w') : wpList P ops Q (o :: rest) ac W := by
  subst hW
  obtain ⟨i0, hi, hz0, hz1, hz2⟩ := info_parts hinfo
  obtain ⟨us, h1, h2, h3, hdis⟩ := hown
  refine wpList_append_own _ hgd s x t ho B ts i0 (.slice none 0 0) 1 24 ht hi hz0 hz1 hz2 rfl (by decide) v ps.length us hs ((h2.alloc _).alloc _) ⟨w.heap.size + 1, 0, none⟩ 1 1 [.slice (some ⟨w.heap.size, 0, none⟩) 2 2] hx rfl ?_ ?_ ?_ ?_ ?_ ?_
  · intro j u hj
    match j, hj with
    | 0, hj =>
      simp only [List.getElem?_cons_zero, Option.some.injEq] at hj
      subst hj
      exact (Blk.newAt (w.alloc (.cells #[.int .i64 (a : Int), .int .i64 (b : Int)] ti)) ts #[.slice (some ⟨w.heap.size, 0, none⟩) 2 2] (w.heap.size + 1) (by simp)).cell 0
    | j + 1, hj => simp at hj
  · intro u hu
    simp only [List.mem_singleton] at hu
    subst hu; rfl
  · unfold maxLen; omega
  · omega
  · simp; omega
  · intro v' w' h4 h5 _
    have hnew := Blk.alloc (Blk.new w ti #[.int .i64 (a : Int), .int .i64 (b : Int)]) (.cells #[.slice (some ⟨w.heap.size, 0, none⟩) 2 2] ts)
    have keep : ∀ g cs, Blk ((w.alloc (.cells #[.int .i64 (a : Int), .int .i64 (b : Int)] ti)).alloc (.cells #[.slice (some ⟨w.heap.size, 0, none⟩) 2 2] ts)) g ti cs → Blk w' g ti cs := by
      intro g cs hg
      refine (h5.block g hg.lt ?_).trans hg
      intro e
      rcases ((h2.alloc (.cells #[.int .i64 (a : Int), .int .i64 (b : Int)] ti)).alloc (.cells #[.slice (some ⟨w.heap.size, 0, none⟩) 2 2] ts)).2 with ⟨rfl, _⟩ | ⟨g', cap, cur, rfl, _, hh, _⟩
      · simp [Value.ownBlock] at e
      · simp only [Value.ownBlock, Option.some.injEq] at e
        subst e
        unfold Blk at hg
        rw [hh] at hg
        injection hg with hg
        injection hg with _ hg
        exact hne hg.symm
    refine h v' w' ⟨us ++ [.slice (some ⟨w.heap.size, 0, none⟩) 2 2], by simp [h1], by simpa using h4, ?_, ?_⟩ ?_
    · intro j u p hu hp
      rw [List.getElem?_append] at hu hp
      by_cases hj : j < ps.length
      · rw [if_pos (by omega)] at hu
        rw [if_pos hj] at hp
        obtain ⟨g, e, hgB, hg⟩ := h3 j u p hu hp
        exact ⟨g, e, hgB, keep g _ (Blk.alloc (Blk.alloc hg _) _)⟩
      · rw [if_neg (by omega)] at hu
        rw [if_neg hj] at hp
        rcases Nat.eq_zero_or_pos (j - ps.length) with h0 | h0
        · rw [h0] at hp
          rw [h1, h0] at hu
          simp only [List.getElem?_cons_zero, Option.some.injEq] at hu hp
          subst hu; subst hp
          exact ⟨w.heap.size, rfl, hB, keep _ _ hnew⟩
        · rw [List.getElem?_eq_none (by simp; omega)] at hp; cases hp
    · have old : ∀ i u, i < us.length → us[i]? = some u → u ≠ .slice (some ⟨w.heap.size, 0, none⟩) 2 2 := by
        intro i u hi hu e
        have hp : ps[i]? = some ps[i] := List.getElem?_eq_getElem (by omega)
        obtain ⟨g, e', _, hg⟩ := h3 i u _ hu hp
        rw [e'] at e
        injection e with e
        injection e with e
        injection e with e
        have := hg.lt
        omega
      intro i j u hu hu'
      rw [List.getElem?_append] at hu hu'
      by_cases hi : i < us.length
      · rw [if_pos hi] at hu
        by_cases hj : j < us.length
        · rw [if_pos hj] at hu'
          exact hdis i j u hu hu'
        · rw [if_neg hj] at hu'
          rcases Nat.eq_zero_or_pos (j - us.length) with h0 | h0
          · rw [h0] at hu'
            simp only [List.getElem?_cons_zero, Option.some.injEq] at hu'
            exact absurd hu'.symm (old i u hi hu)
          · rw [List.getElem?_eq_none (by simp; omega)] at hu'; cases hu'
      · rw [if_neg hi] at hu
        rcases Nat.eq_zero_or_pos (i - us.length) with h0 | h0
        · rw [h0] at hu
          simp only [List.getElem?_cons_zero, Option.some.injEq] at hu
          by_cases hj : j < us.length
          · rw [if_pos hj] at hu'
            exact absurd hu.symm (old j u hj hu')
          · rw [if_neg hj] at hu'
            rcases Nat.eq_zero_or_pos (j - us.length) with h0' | h0'
            · omega
            · rw [List.getElem?_eq_none (by simp; omega)] at hu'; cases hu'
        · rw [List.getElem?_eq_none (by simp; omega)] at hu; cases hu
    · have hb : Below B w ((w.alloc (.cells #[.int .i64 (a : Int), .int .i64 (b : Int)] ti)).alloc (.cells #[.slice (some ⟨w.heap.size, 0, none⟩) 2 2] ts)) := ((Below.refl _ _).alloc hB _).alloc (by simp; omega) _
      exact hb.grown h5 (by simp; omega) fun k hk => (h2.lt k hk).1
end Go.Proofs.Ytbpnocboiankjab
