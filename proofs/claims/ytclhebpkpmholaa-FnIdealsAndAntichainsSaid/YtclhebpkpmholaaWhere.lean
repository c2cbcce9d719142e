/- posetWhere: a poset out of a test. -/
import Derived.Test.YtclhebpkpmholaaHeights
namespace Go.Proofs.Ytclhebpkpmholaa
open Go.RowKit Go.WideShapes Go.ChangeShapes
set_option linter.unusedVariables false

def rowN (f : Nat → Bool) : Nat → Nat
  | 0 => 0
  | j + 1 => if f j then rowN f j ||| 2 ^ j else rowN f j
theorem rowN_testBit (f : Nat → Bool) (k s : Nat) : (rowN f k).testBit s = (decide (s < k) && f s) := by
  induction k with
  | zero => simp [rowN]
  | succ k ih =>
    unfold rowN
    by_cases h : s = k
    · subst h
      split
      · rename_i hf; rw [Nat.testBit_or, ih, Nat.testBit_two_pow_self]; simp [hf]
      · rename_i hf; rw [ih]; simp [hf]
    · have e : decide (s < k + 1) = decide (s < k) := by
        by_cases h2 : s < k
        · rw [decide_eq_true h2, decide_eq_true (by omega)]
        · rw [decide_eq_false h2, decide_eq_false (by omega)]
      rw [e]
      split
      · rw [Nat.testBit_or, ih, Nat.testBit_two_pow_of_ne (by omega)]; simp
      · exact ih
theorem rowN_lt (f : Nat → Bool) (k : Nat) : rowN f k < 2 ^ k := by
  apply Nat.lt_pow_two_of_testBit
  intro i hi
  rw [rowN_testBit, decide_eq_false (by omega)]; rfl
/-- the list of n numbers that g tells -/
def mkL (n : Nat) (g : Nat → Nat) : List Int := (List.range n).map fun (i : Nat) => ((g i : Nat) : Int)
theorem mkL_length (n : Nat) (g : Nat → Nat) : (mkL n g).length = n := by simp [mkL]
theorem mkL_getD {n : Nat} {g : Nat → Nat} {i : Nat} (h : i < n) : (mkL n g).getD i 0 = (g i : Int) := by simp [mkL, List.getD, h]
theorem mkL_congr {n : Nat} {g h : Nat → Nat} (e : ∀ i, i < n → g i = h i) : mkL n g = mkL n h := by
  apply List.map_congr_left
  intro i hi
  rw [e i (List.mem_range.1 hi)]
theorem mkL_set {n : Nat} {g : Nat → Nat} {k : Nat} (y : Nat) (h : k < n) : (mkL n g).set k (y : Int) = mkL n (fun i => if i = k then y else g i) := by
  apply List.ext_getElem?
  intro i
  rw [List.getElem?_set, mkL_length]
  simp only [mkL, List.getElem?_map]
  by_cases hi : i < n
  · by_cases e : k = i
    · subst e; simp [h]
    · simp [e, hi, Ne.symm e]
  · simp [hi]
    intro e; omega
theorem mkL_zero (n : Nat) : mkL n (fun _ => 0) = List.replicate n 0 := by
  apply List.ext_getElem?
  intro i
  simp only [mkL, List.getElem?_map]
  by_cases hi : i < n <;> simp [hi]
theorem mkL_upd {n : Nat} {g h : Nat → Nat} {k : Nat} (y : Nat) (hk : k < n) (e : ∀ i, i < n → h i = if i = k then y else g i) : mkL n h = (mkL n g).set k (y : Int) := by
  rw [mkL_set y hk]; exact mkL_congr e
def whereG (f : Nat → Nat → Bool) (k : Nat) (i : Nat) : Nat := if i < k then rowN (fun j => f j i) i else 0
def whereH (f : Nat → Nat → Bool) (k t : Nat) (i : Nat) : Nat := if i < k then rowN (fun j => f j i) i else if i = k then rowN (fun j => f j k) t else 0
def whereL (f : Nat → Nat → Bool) (n : Nat) : List Int := mkL n (fun i => rowN (fun j => f j i) i)


theorem posetWhereRectangle_any (n : Nat) (c1 : Addr) (f : Nat → Nat → Bool) (w : World) (hn : n ≤ 10)
    (hF : ∀ (j i : Nat) (W : World), j < i → i < n → Below w.heap.size w W → Calls Try.prog 134 #[.int .i64 j, .int .i64 i, .pointer (some c1)] W fun r W' => r = .returned (.bool (f j i)) ∧ Below W.heap.size W W') :
    Calls Try.prog 133 #[.int .i64 n, .func (.func 134) #[] #[.pointer (some c1)]] w fun (r : Ending) w' => ∃ u, r = Ending.returned (.agg #[u]) ∧ OwnI 3 w' w.heap.size u (whereL f n) ∧ Below w.heap.size w w' := by
  have HF := hid hF
  clear hF
  have hmk := run_make_row' (P := Try.prog) 24 3 (.int .i64 0) 8 Try.underlying24 Try.info3 rfl .i64 .i64 n (by omega) (by omega)
  go_enter Try.func133, Try.ntmps133
  go_wp2
  clear hmk
  rw [Vals_made]
  go_loopw [12] (fun i wr => ∃ k : Nat, k ≤ n ∧ i = .int .i64 k ∧ Blk wr (w.heap.size + 1) 3 (Vals (mkL n (whereG f k))) ∧ Below (w.heap.size + 1) (w.alloc (.cells #[.slice none 0 0] 26)) wr) (fun i _ => n - (intOf i).toNat)
  case atStart => exact ⟨0, Nat.zero_le _, rfl, (by have := Blk.new (w.alloc (.cells #[.slice none 0 0] 26)) 3 (Vals (List.replicate n 0)); (have e : mkL n (whereG f 0) = List.replicate n 0 := by rw [← mkL_zero]; exact mkL_congr (fun i _ => by simp [whereG])); rw [e]; simpa using this), (Below.refl _ _).alloc (by simp) _⟩
  case round =>
    obtain ⟨k, hk, rfl, hB, hb⟩ := hrel
    have HBk := hid hB
    have HBb := hid hb
    clear hB hb
    by_cases hlt : k < n
    · go_wp2
      go_loopw [16] (fun j wi => ∃ t : Nat, t ≤ k ∧ j = .int .i64 t ∧ Blk wi (w.heap.size + 1) 3 (Vals (mkL n (whereH f k t))) ∧ Below (w.heap.size + 1) (w.alloc (.cells #[.slice none 0 0] 26)) wi) (fun j _ => k - (intOf j).toNat)
      case atStart => exact ⟨0, Nat.zero_le _, rfl, (by rw [mkL_congr (h := whereG f k) (fun i _ => by unfold whereH whereG; split; rfl; split <;> simp [rowN])]; exact HBk.out), HBb.out⟩
      case round =>
        obtain ⟨t, ht, rfl, hB, hb⟩ := hrel
        have HBt := hid hB
        have HBc := hid hb
        clear hB hb
        by_cases htk : t < k
        · have hsz : w.heap.size + 1 < wr.heap.size := HBt.out.lt
          cases hft : f t k
          · have Hft := hid hft
            clear hft
            go_wp2_with fail
            refine (HF.out t k _ htk hlt (below_box HBc.out)).mono ?_
            rw [Hft.out]
            rintro e w2 ⟨rfl, hb2⟩
            have HB2 := hid hb2
            clear hb2
            go_wp2
            go_roundw
            case rel => exact ⟨t + 1, by omega, by go_num, (by rw [mkL_congr (h := whereH f k t) (fun i _ => by unfold whereH; split; rfl; split; (rw [rowN, Hft.out]; rfl); rfl)]; exact HBt.out.below HB2.out hsz), HBc.out.trans (HB2.out.mono (by omega))⟩
            case measure => simp [intOf]; omega
          · have Hft := hid hft
            clear hft
            go_wp2_with fail
            refine (HF.out t k _ htk hlt (below_box HBc.out)).mono ?_
            rw [Hft.out]
            rintro e w2 ⟨rfl, hb2⟩
            have HBt2 := hid (HBt.out.below hb2 hsz)
            have HBc2 := hid (HBc.out.trans (hb2.mono (by omega)))
            clear hb2
            obtain ⟨p, hp⟩ : ∃ p, rowN (fun j => f j k) t = p := ⟨_, rfl⟩
            have hp2 := rowN_lt (fun j => f j k) t
            have hp3 := pow_lt10 t (by omega)
            rw [hp] at hp2
            have t1 : w2.cell? ⟨w.heap.size + 1, k, none⟩ = some (.int .i64 p) := by
              rw [HBt2.out.cell, Vals_get (by rw [mkL_length]; exact hlt), mkL_getD hlt, ← hp]; simp [whereH]
            have t2 := HBt2.out.frozen k
            have wp := wrap_pow' t (by omega)
            have hor := or_pow p t (by omega) (by omega)
            have hkz : (k : Int) < n := by omega
            have Hp := hid hp
            clear hp hp2 hp3
            go_wp2
            go_region
            go_wp2
            go_roundw
            case rel => exact ⟨t + 1, by omega, by go_num, (by rw [mkL_congr (h := fun i => if i = k then p ||| 2 ^ t else whereH f k t i) (fun i _ => by unfold whereH; split; (rw [if_neg (by omega)]); split; (rw [rowN, if_pos Hft.out, Hp.out]); rfl), ← mkL_set _ hlt, ← Vals_set]; exact HBt2.out.set_ k _), (HBc2.out.setCell (p := ⟨w.heap.size + 1, k, none⟩) (Nat.le_refl _) _).drew⟩
            case measure => simp [intOf]; omega
        · obtain rfl : t = k := by omega
          go_wp2
          go_roundw
          case rel => exact ⟨t + 1, by omega, by go_num, (by rw [mkL_congr (h := whereH f t t) (fun i _ => by unfold whereH whereG; by_cases h : i < t; (rw [if_pos h, if_pos (by omega)]); by_cases h2 : i = t; (subst h2; simp); (rw [if_neg h, if_neg h2, if_neg (by omega)]))]; exact HBt.out), HBc.out⟩
          case measure => simp [intOf]; omega
    · obtain rfl : k = n := by omega
      have e : mkL k (whereG f k) = whereL f k := mkL_congr (fun i hi => by simp [whereG, hi])
      rw [e] at HBk
      have HOw := hid (HBk.out.own (xs := whereL f k) (B := w.heap.size) (by omega) (by unfold whereL; rw [mkL_length]; omega))
      have hbz := HBb.out.size
      have hbx := box_cell HBb.out 0
      have hbf : wr.frozen? ⟨w.heap.size, 0, none⟩ = false := by rw [HBb.out.frozen (p := ⟨w.heap.size, 0, none⟩) (Nat.lt_succ_self _)]; exact (Blk.new w 26 #[.slice none 0 0]).frozen 0
      simp at hbz
      have hwl : (whereL f k).length = k := by unfold whereL; rw [mkL_length]
      clear e
      go_wp2
      refine bodyPost_ret (v := .agg #[.slice (some ⟨w.heap.size + 1, 0, none⟩) k k]) (by simp [results, Try.results133, go_sem, hbx]) rfl ⟨_, rfl, ?_, ?_⟩
      · have := HOw.out
        rw [hwl] at this
        exact this.grown (grown_setCell (World.grownBy.refl _ _) 0 _) (.inr (by simp [Value.ownBlock]))
      · exact (below_box HBb.out).setCell (Nat.le_refl _) _

theorem posetWhereFence_any (n : Nat) (c1 : Addr) (f : Nat → Nat → Bool) (w : World) (hn : n ≤ 10)
    (hF : ∀ (j i : Nat) (W : World), j < i → i < n → Below w.heap.size w W → Calls Try.prog 138 #[.int .i64 j, .int .i64 i, .pointer (some c1)] W fun r W' => r = .returned (.bool (f j i)) ∧ Below W.heap.size W W') :
    Calls Try.prog 133 #[.int .i64 n, .func (.func 138) #[] #[.pointer (some c1)]] w fun (r : Ending) w' => ∃ u, r = Ending.returned (.agg #[u]) ∧ OwnI 3 w' w.heap.size u (whereL f n) ∧ Below w.heap.size w w' := by
  have HF := hid hF
  clear hF
  have hmk := run_make_row' (P := Try.prog) 24 3 (.int .i64 0) 8 Try.underlying24 Try.info3 rfl .i64 .i64 n (by omega) (by omega)
  go_enter Try.func133, Try.ntmps133
  go_wp2
  clear hmk
  rw [Vals_made]
  go_loopw [12] (fun i wr => ∃ k : Nat, k ≤ n ∧ i = .int .i64 k ∧ Blk wr (w.heap.size + 1) 3 (Vals (mkL n (whereG f k))) ∧ Below (w.heap.size + 1) (w.alloc (.cells #[.slice none 0 0] 26)) wr) (fun i _ => n - (intOf i).toNat)
  case atStart => exact ⟨0, Nat.zero_le _, rfl, (by have := Blk.new (w.alloc (.cells #[.slice none 0 0] 26)) 3 (Vals (List.replicate n 0)); (have e : mkL n (whereG f 0) = List.replicate n 0 := by rw [← mkL_zero]; exact mkL_congr (fun i _ => by simp [whereG])); rw [e]; simpa using this), (Below.refl _ _).alloc (by simp) _⟩
  case round =>
    obtain ⟨k, hk, rfl, hB, hb⟩ := hrel
    have HBk := hid hB
    have HBb := hid hb
    clear hB hb
    by_cases hlt : k < n
    · go_wp2
      go_loopw [16] (fun j wi => ∃ t : Nat, t ≤ k ∧ j = .int .i64 t ∧ Blk wi (w.heap.size + 1) 3 (Vals (mkL n (whereH f k t))) ∧ Below (w.heap.size + 1) (w.alloc (.cells #[.slice none 0 0] 26)) wi) (fun j _ => k - (intOf j).toNat)
      case atStart => exact ⟨0, Nat.zero_le _, rfl, (by rw [mkL_congr (h := whereG f k) (fun i _ => by unfold whereH whereG; split; rfl; split <;> simp [rowN])]; exact HBk.out), HBb.out⟩
      case round =>
        obtain ⟨t, ht, rfl, hB, hb⟩ := hrel
        have HBt := hid hB
        have HBc := hid hb
        clear hB hb
        by_cases htk : t < k
        · have hsz : w.heap.size + 1 < wr.heap.size := HBt.out.lt
          cases hft : f t k
          · have Hft := hid hft
            clear hft
            go_wp2_with fail
            refine (HF.out t k _ htk hlt (below_box HBc.out)).mono ?_
            rw [Hft.out]
            rintro e w2 ⟨rfl, hb2⟩
            have HB2 := hid hb2
            clear hb2
            go_wp2
            go_roundw
            case rel => exact ⟨t + 1, by omega, by go_num, (by rw [mkL_congr (h := whereH f k t) (fun i _ => by unfold whereH; split; rfl; split; (rw [rowN, Hft.out]; rfl); rfl)]; exact HBt.out.below HB2.out hsz), HBc.out.trans (HB2.out.mono (by omega))⟩
            case measure => simp [intOf]; omega
          · have Hft := hid hft
            clear hft
            go_wp2_with fail
            refine (HF.out t k _ htk hlt (below_box HBc.out)).mono ?_
            rw [Hft.out]
            rintro e w2 ⟨rfl, hb2⟩
            have HBt2 := hid (HBt.out.below hb2 hsz)
            have HBc2 := hid (HBc.out.trans (hb2.mono (by omega)))
            clear hb2
            obtain ⟨p, hp⟩ : ∃ p, rowN (fun j => f j k) t = p := ⟨_, rfl⟩
            have hp2 := rowN_lt (fun j => f j k) t
            have hp3 := pow_lt10 t (by omega)
            rw [hp] at hp2
            have t1 : w2.cell? ⟨w.heap.size + 1, k, none⟩ = some (.int .i64 p) := by
              rw [HBt2.out.cell, Vals_get (by rw [mkL_length]; exact hlt), mkL_getD hlt, ← hp]; simp [whereH]
            have t2 := HBt2.out.frozen k
            have wp := wrap_pow' t (by omega)
            have hor := or_pow p t (by omega) (by omega)
            have hkz : (k : Int) < n := by omega
            have Hp := hid hp
            clear hp hp2 hp3
            go_wp2
            go_region
            go_wp2
            go_roundw
            case rel => exact ⟨t + 1, by omega, by go_num, (by rw [mkL_congr (h := fun i => if i = k then p ||| 2 ^ t else whereH f k t i) (fun i _ => by unfold whereH; split; (rw [if_neg (by omega)]); split; (rw [rowN, if_pos Hft.out, Hp.out]); rfl), ← mkL_set _ hlt, ← Vals_set]; exact HBt2.out.set_ k _), (HBc2.out.setCell (p := ⟨w.heap.size + 1, k, none⟩) (Nat.le_refl _) _).drew⟩
            case measure => simp [intOf]; omega
        · obtain rfl : t = k := by omega
          go_wp2
          go_roundw
          case rel => exact ⟨t + 1, by omega, by go_num, (by rw [mkL_congr (h := whereH f t t) (fun i _ => by unfold whereH whereG; by_cases h : i < t; (rw [if_pos h, if_pos (by omega)]); by_cases h2 : i = t; (subst h2; simp); (rw [if_neg h, if_neg h2, if_neg (by omega)]))]; exact HBt.out), HBc.out⟩
          case measure => simp [intOf]; omega
    · obtain rfl : k = n := by omega
      have e : mkL k (whereG f k) = whereL f k := mkL_congr (fun i hi => by simp [whereG, hi])
      rw [e] at HBk
      have HOw := hid (HBk.out.own (xs := whereL f k) (B := w.heap.size) (by omega) (by unfold whereL; rw [mkL_length]; omega))
      have hbz := HBb.out.size
      have hbx := box_cell HBb.out 0
      have hbf : wr.frozen? ⟨w.heap.size, 0, none⟩ = false := by rw [HBb.out.frozen (p := ⟨w.heap.size, 0, none⟩) (Nat.lt_succ_self _)]; exact (Blk.new w 26 #[.slice none 0 0]).frozen 0
      simp at hbz
      have hwl : (whereL f k).length = k := by unfold whereL; rw [mkL_length]
      clear e
      go_wp2
      refine bodyPost_ret (v := .agg #[.slice (some ⟨w.heap.size + 1, 0, none⟩) k k]) (by simp [results, Try.results133, go_sem, hbx]) rfl ⟨_, rfl, ?_, ?_⟩
      · have := HOw.out
        rw [hwl] at this
        exact this.grown (grown_setCell (World.grownBy.refl _ _) 0 _) (.inr (by simp [Value.ownBlock]))
      · exact (below_box HBb.out).setCell (Nat.le_refl _) _

theorem posetWhereStaircase_any (n : Nat) (c1 : Addr) (f : Nat → Nat → Bool) (w : World) (hn : n ≤ 10)
    (hF : ∀ (j i : Nat) (W : World), j < i → i < n → Below w.heap.size w W → Calls Try.prog 137 #[.int .i64 j, .int .i64 i, .pointer (some c1)] W fun r W' => r = .returned (.bool (f j i)) ∧ Below W.heap.size W W') :
    Calls Try.prog 133 #[.int .i64 n, .func (.func 137) #[] #[.pointer (some c1)]] w fun (r : Ending) w' => ∃ u, r = Ending.returned (.agg #[u]) ∧ OwnI 3 w' w.heap.size u (whereL f n) ∧ Below w.heap.size w w' := by
  have HF := hid hF
  clear hF
  have hmk := run_make_row' (P := Try.prog) 24 3 (.int .i64 0) 8 Try.underlying24 Try.info3 rfl .i64 .i64 n (by omega) (by omega)
  go_enter Try.func133, Try.ntmps133
  go_wp2
  clear hmk
  rw [Vals_made]
  go_loopw [12] (fun i wr => ∃ k : Nat, k ≤ n ∧ i = .int .i64 k ∧ Blk wr (w.heap.size + 1) 3 (Vals (mkL n (whereG f k))) ∧ Below (w.heap.size + 1) (w.alloc (.cells #[.slice none 0 0] 26)) wr) (fun i _ => n - (intOf i).toNat)
  case atStart => exact ⟨0, Nat.zero_le _, rfl, (by have := Blk.new (w.alloc (.cells #[.slice none 0 0] 26)) 3 (Vals (List.replicate n 0)); (have e : mkL n (whereG f 0) = List.replicate n 0 := by rw [← mkL_zero]; exact mkL_congr (fun i _ => by simp [whereG])); rw [e]; simpa using this), (Below.refl _ _).alloc (by simp) _⟩
  case round =>
    obtain ⟨k, hk, rfl, hB, hb⟩ := hrel
    have HBk := hid hB
    have HBb := hid hb
    clear hB hb
    by_cases hlt : k < n
    · go_wp2
      go_loopw [16] (fun j wi => ∃ t : Nat, t ≤ k ∧ j = .int .i64 t ∧ Blk wi (w.heap.size + 1) 3 (Vals (mkL n (whereH f k t))) ∧ Below (w.heap.size + 1) (w.alloc (.cells #[.slice none 0 0] 26)) wi) (fun j _ => k - (intOf j).toNat)
      case atStart => exact ⟨0, Nat.zero_le _, rfl, (by rw [mkL_congr (h := whereG f k) (fun i _ => by unfold whereH whereG; split; rfl; split <;> simp [rowN])]; exact HBk.out), HBb.out⟩
      case round =>
        obtain ⟨t, ht, rfl, hB, hb⟩ := hrel
        have HBt := hid hB
        have HBc := hid hb
        clear hB hb
        by_cases htk : t < k
        · have hsz : w.heap.size + 1 < wr.heap.size := HBt.out.lt
          cases hft : f t k
          · have Hft := hid hft
            clear hft
            go_wp2_with fail
            refine (HF.out t k _ htk hlt (below_box HBc.out)).mono ?_
            rw [Hft.out]
            rintro e w2 ⟨rfl, hb2⟩
            have HB2 := hid hb2
            clear hb2
            go_wp2
            go_roundw
            case rel => exact ⟨t + 1, by omega, by go_num, (by rw [mkL_congr (h := whereH f k t) (fun i _ => by unfold whereH; split; rfl; split; (rw [rowN, Hft.out]; rfl); rfl)]; exact HBt.out.below HB2.out hsz), HBc.out.trans (HB2.out.mono (by omega))⟩
            case measure => simp [intOf]; omega
          · have Hft := hid hft
            clear hft
            go_wp2_with fail
            refine (HF.out t k _ htk hlt (below_box HBc.out)).mono ?_
            rw [Hft.out]
            rintro e w2 ⟨rfl, hb2⟩
            have HBt2 := hid (HBt.out.below hb2 hsz)
            have HBc2 := hid (HBc.out.trans (hb2.mono (by omega)))
            clear hb2
            obtain ⟨p, hp⟩ : ∃ p, rowN (fun j => f j k) t = p := ⟨_, rfl⟩
            have hp2 := rowN_lt (fun j => f j k) t
            have hp3 := pow_lt10 t (by omega)
            rw [hp] at hp2
            have t1 : w2.cell? ⟨w.heap.size + 1, k, none⟩ = some (.int .i64 p) := by
              rw [HBt2.out.cell, Vals_get (by rw [mkL_length]; exact hlt), mkL_getD hlt, ← hp]; simp [whereH]
            have t2 := HBt2.out.frozen k
            have wp := wrap_pow' t (by omega)
            have hor := or_pow p t (by omega) (by omega)
            have hkz : (k : Int) < n := by omega
            have Hp := hid hp
            clear hp hp2 hp3
            go_wp2
            go_region
            go_wp2
            go_roundw
            case rel => exact ⟨t + 1, by omega, by go_num, (by rw [mkL_congr (h := fun i => if i = k then p ||| 2 ^ t else whereH f k t i) (fun i _ => by unfold whereH; split; (rw [if_neg (by omega)]); split; (rw [rowN, if_pos Hft.out, Hp.out]); rfl), ← mkL_set _ hlt, ← Vals_set]; exact HBt2.out.set_ k _), (HBc2.out.setCell (p := ⟨w.heap.size + 1, k, none⟩) (Nat.le_refl _) _).drew⟩
            case measure => simp [intOf]; omega
        · obtain rfl : t = k := by omega
          go_wp2
          go_roundw
          case rel => exact ⟨t + 1, by omega, by go_num, (by rw [mkL_congr (h := whereH f t t) (fun i _ => by unfold whereH whereG; by_cases h : i < t; (rw [if_pos h, if_pos (by omega)]); by_cases h2 : i = t; (subst h2; simp); (rw [if_neg h, if_neg h2, if_neg (by omega)]))]; exact HBt.out), HBc.out⟩
          case measure => simp [intOf]; omega
    · obtain rfl : k = n := by omega
      have e : mkL k (whereG f k) = whereL f k := mkL_congr (fun i hi => by simp [whereG, hi])
      rw [e] at HBk
      have HOw := hid (HBk.out.own (xs := whereL f k) (B := w.heap.size) (by omega) (by unfold whereL; rw [mkL_length]; omega))
      have hbz := HBb.out.size
      have hbx := box_cell HBb.out 0
      have hbf : wr.frozen? ⟨w.heap.size, 0, none⟩ = false := by rw [HBb.out.frozen (p := ⟨w.heap.size, 0, none⟩) (Nat.lt_succ_self _)]; exact (Blk.new w 26 #[.slice none 0 0]).frozen 0
      simp at hbz
      have hwl : (whereL f k).length = k := by unfold whereL; rw [mkL_length]
      clear e
      go_wp2
      refine bodyPost_ret (v := .agg #[.slice (some ⟨w.heap.size + 1, 0, none⟩) k k]) (by simp [results, Try.results133, go_sem, hbx]) rfl ⟨_, rfl, ?_, ?_⟩
      · have := HOw.out
        rw [hwl] at this
        exact this.grown (grown_setCell (World.grownBy.refl _ _) 0 _) (.inr (by simp [Value.ownBlock]))
      · exact (below_box HBb.out).setCell (Nat.le_refl _) _

end Go.Proofs.Ytclhebpkpmholaa
