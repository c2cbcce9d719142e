/- Where Pairs Nest -/
import Derived.Test.YtbmhaamenjhjfaaGreatDoorPkD01
namespace Go.Proofs.YtbmhaamenjhjfaaGreatDoor
open Go.RowKit Go.WideShapes Go.ChangeShapes
set_option linter.unusedVariables false
def rowN (f : Nat → Bool) : Nat → Nat
  | 0 => 0
  | j + 1 => if f j then rowN f j ||| 2 ^ j else rowN f j
theorem rowN_testBit (f : Nat → Bool) (k s : Nat) : (rowN f k).testBit s = (decide (s < k) && f s) := by
  induction k with
  | zero => simp [rowN]
  | succ k ih =>
    unfold rowN
    by_cases h : s = k
    · subst h
      split
      · rename_i hf; rw [Nat.testBit_or, ih, Nat.testBit_two_pow_self]; simp [hf]
      · rename_i hf; rw [ih]; simp [hf]
    · have e : decide (s < k + 1) = decide (s < k) := by
        by_cases h2 : s < k
        · rw [decide_eq_true h2, decide_eq_true (by omega)]
        · rw [decide_eq_false h2, decide_eq_false (by omega)]
      rw [e]
      split
      · rw [Nat.testBit_or, ih, Nat.testBit_two_pow_of_ne (by omega)]; simp
      · exact ih
theorem rowN_lt (f : Nat → Bool) (k : Nat) : rowN f k < 2 ^ k := by
  apply Nat.lt_pow_two_of_testBit
  intro i hi
  rw [rowN_testBit, decide_eq_false (by omega)]; rfl
def mkL (n : Nat) (g : Nat → Nat) : List Int := (List.range n).map fun (i : Nat) => ((g i : Nat) : Int)
theorem mkL_length (n : Nat) (g : Nat → Nat) : (mkL n g).length = n := by simp [mkL]
theorem mkL_getD {n : Nat} {g : Nat → Nat} {i : Nat} (h : i < n) : (mkL n g).getD i 0 = (g i : Int) := by simp [mkL, List.getD, h]
theorem mkL_congr {n : Nat} {g h : Nat → Nat} (e : ∀ i, i < n → g i = h i) : mkL n g = mkL n h := by
  apply List.map_congr_left
  intro i hi
  rw [e i (List.mem_range.1 hi)]
theorem mkL_set {n : Nat} {g : Nat → Nat} {k : Nat} (y : Nat) (h : k < n) : (mkL n g).set k (y : Int) = mkL n (fun i => if i = k then y else g i) := by
  apply List.ext_getElem?
  intro i
  rw [List.getElem?_set, mkL_length]
  simp only [mkL, List.getElem?_map]
  by_cases hi : i < n
  · by_cases e : k = i
    · subst e; simp [h]
    · simp [e, hi, Ne.symm e]
  · simp [hi]
    intro e; omega
theorem mkL_zero (n : Nat) : mkL n (fun _ => 0) = List.replicate n 0 := by
  apply List.ext_getElem?
  intro i
  simp only [mkL, List.getElem?_map]
  by_cases hi : i < n <;> simp [hi]
theorem mkL_upd {n : Nat} {g h : Nat → Nat} {k : Nat} (y : Nat) (hk : k < n) (e : ∀ i, i < n → h i = if i = k then y else g i) : mkL n h = (mkL n g).set k (y : Int) := by
  rw [mkL_set y hk]; exact mkL_congr e
def whereG (f : Nat → Nat → Bool) (k : Nat) (i : Nat) : Nat := if i < k then rowN (fun j => f j i) i else 0
def whereH (f : Nat → Nat → Bool) (k t : Nat) (i : Nat) : Nat := if i < k then rowN (fun j => f j i) i else if i = k then rowN (fun j => f j k) t else 0
def whereL (f : Nat → Nat → Bool) (n : Nat) : List Int := mkL n (fun i => rowN (fun j => f j i) i)
theorem posetWhereDual_any (n : Nat) (c1 c2 : Addr) (f : Nat → Nat → Bool) (w : World) (hn : n ≤ 10)
    (hF : ∀ (j i : Nat) (W : World), j < i → i < n → Below w.heap.size w W → Calls Tryz.prog 164 #[.int .i64 j, .int .i64 i, .pointer (some c1), .pointer (some c2)] W fun r W' => r = .returned (.bool (f j i)) ∧ Below W.heap.size W W') :
    Calls Tryz.prog 159 #[.int .i64 n, .func (.func 164) #[] #[.pointer (some c1), .pointer (some c2)]] w fun (r : Ending) w' => ∃ u, r = Ending.returned (.agg #[u]) ∧ OwnI 3 w' w.heap.size u (whereL f n) ∧ Below w.heap.size w w' := by
  have HF := hid hF
  clear hF
  have hmk := run_make_row' (P := Tryz.prog) 22 3 (.int .i64 0) 8 Tryz.underlying22 Tryz.info3 rfl .i64 .i64 n (by omega) (by omega)
  go_enter Tryz.func159, Tryz.ntmps159
  go_wp2
  clear hmk
  rw [Vals_made]
  go_loopw [12] (fun i wr => ∃ k : Nat, k ≤ n ∧ i = .int .i64 k ∧ Blk wr (w.heap.size + 1) 3 (Vals (mkL n (whereG f k))) ∧ Below (w.heap.size + 1) (w.alloc (.cells #[.slice none 0 0] 28)) wr) (fun i _ => n - (intOf i).toNat)
  case atStart => exact ⟨0, Nat.zero_le _, rfl, (by have := Blk.new (w.alloc (.cells #[.slice none 0 0] 28)) 3 (Vals (List.replicate n 0)); (have e : mkL n (whereG f 0) = List.replicate n 0 := by rw [← mkL_zero]; exact mkL_congr (fun i _ => by simp [whereG])); rw [e]; simpa using this), (Below.refl _ _).alloc (by simp) _⟩
  case round =>
    obtain ⟨k, hk, rfl, hB, hb⟩ := hrel
    have HBk := hid hB
    have HBb := hid hb
    clear hB hb
    by_cases hlt : k < n
    · go_wp2
      go_loopw [16] (fun j wi => ∃ t : Nat, t ≤ k ∧ j = .int .i64 t ∧ Blk wi (w.heap.size + 1) 3 (Vals (mkL n (whereH f k t))) ∧ Below (w.heap.size + 1) (w.alloc (.cells #[.slice none 0 0] 28)) wi) (fun j _ => k - (intOf j).toNat)
      case atStart => exact ⟨0, Nat.zero_le _, rfl, (by rw [mkL_congr (h := whereG f k) (fun i _ => by unfold whereH whereG; split; rfl; split <;> simp [rowN])]; exact HBk.out), HBb.out⟩
      case round =>
        obtain ⟨t, ht, rfl, hB, hb⟩ := hrel
        have HBt := hid hB
        have HBc := hid hb
        clear hB hb
        by_cases htk : t < k
        · have hsz : w.heap.size + 1 < wr.heap.size := HBt.out.lt
          cases hft : f t k
          · have Hft := hid hft
            clear hft
            go_wp2_with fail
            refine (HF.out t k _ htk hlt (below_box HBc.out)).mono ?_
            rw [Hft.out]
            rintro e w2 ⟨rfl, hb2⟩
            have HB2 := hid hb2
            clear hb2
            go_wp2
            go_roundw
            case rel => exact ⟨t + 1, by omega, by go_num, (by rw [mkL_congr (h := whereH f k t) (fun i _ => by unfold whereH; split; rfl; split; (rw [rowN, Hft.out]; rfl); rfl)]; exact HBt.out.below HB2.out hsz), HBc.out.trans (HB2.out.mono (by omega))⟩
            case measure => simp [intOf]; omega
          · have Hft := hid hft
            clear hft
            go_wp2_with fail
            refine (HF.out t k _ htk hlt (below_box HBc.out)).mono ?_
            rw [Hft.out]
            rintro e w2 ⟨rfl, hb2⟩
            have HBt2 := hid (HBt.out.below hb2 hsz)
            have HBc2 := hid (HBc.out.trans (hb2.mono (by omega)))
            clear hb2
            obtain ⟨p, hp⟩ : ∃ p, rowN (fun j => f j k) t = p := ⟨_, rfl⟩
            have hp2 := rowN_lt (fun j => f j k) t
            have hp3 := pow_lt10 t (by omega)
            rw [hp] at hp2
            have t1 : w2.cell? ⟨w.heap.size + 1, k, none⟩ = some (.int .i64 p) := by
              rw [HBt2.out.cell, Vals_get (by rw [mkL_length]; exact hlt), mkL_getD hlt, ← hp]; simp [whereH]
            have t2 := HBt2.out.frozen k
            have wp := wrap_pow' t (by omega)
            have hor := or_pow p t (by omega) (by omega)
            have hkz : (k : Int) < n := by omega
            have Hp := hid hp
            clear hp hp2 hp3
            go_wp2
            go_region
            go_wp2
            go_roundw
            case rel => exact ⟨t + 1, by omega, by go_num, (by rw [mkL_congr (h := fun i => if i = k then p ||| 2 ^ t else whereH f k t i) (fun i _ => by unfold whereH; split; (rw [if_neg (by omega)]); split; (rw [rowN, if_pos Hft.out, Hp.out]); rfl), ← mkL_set _ hlt, ← Vals_set]; exact HBt2.out.set_ k _), (HBc2.out.setCell (p := ⟨w.heap.size + 1, k, none⟩) (Nat.le_refl _) _).drew⟩
            case measure => simp [intOf]; omega
        · obtain rfl : t = k := by omega
          go_wp2
          go_roundw
          case rel => exact ⟨t + 1, by omega, by go_num, (by rw [mkL_congr (h := whereH f t t) (fun i _ => by unfold whereH whereG; by_cases h : i < t; (rw [if_pos h, if_pos (by omega)]); by_cases h2 : i = t; (subst h2; simp); (rw [if_neg h, if_neg h2, if_neg (by omega)]))]; exact HBt.out), HBc.out⟩
          case measure => simp [intOf]; omega
    · obtain rfl : k = n := by omega
      have e : mkL k (whereG f k) = whereL f k := mkL_congr (fun i hi => by simp [whereG, hi])
      rw [e] at HBk
      have HOw := hid (HBk.out.own (xs := whereL f k) (B := w.heap.size) (by omega) (by unfold whereL; rw [mkL_length]; omega))
      have hbz := HBb.out.size
      have hbx := box_cell HBb.out 0
      have hbf : wr.frozen? ⟨w.heap.size, 0, none⟩ = false := by rw [HBb.out.frozen (p := ⟨w.heap.size, 0, none⟩) (Nat.lt_succ_self _)]; exact (Blk.new w 28 #[.slice none 0 0]).frozen 0
      simp at hbz
      have hwl : (whereL f k).length = k := by unfold whereL; rw [mkL_length]
      clear e
      go_wp2
      refine bodyPost_ret (v := .agg #[.slice (some ⟨w.heap.size + 1, 0, none⟩) k k]) (by simp [results, Tryz.results159, go_sem, hbx]) rfl ⟨_, rfl, ?_, ?_⟩
      · have := HOw.out
        rw [hwl] at this
        exact this.grown (grown_setCell (World.grownBy.refl _ _) 0 _) (.inr (by simp [Value.ownBlock]))
      · exact (below_box HBb.out).setCell (Nat.le_refl _) _
theorem posetWhereRectangle_any (n : Nat) (c1 : Addr) (f : Nat → Nat → Bool) (w : World) (hn : n ≤ 10)
    (hF : ∀ (j i : Nat) (W : World), j < i → i < n → Below w.heap.size w W → Calls Tryz.prog 160 #[.int .i64 j, .int .i64 i, .pointer (some c1)] W fun r W' => r = .returned (.bool (f j i)) ∧ Below W.heap.size W W') :
    Calls Tryz.prog 159 #[.int .i64 n, .func (.func 160) #[] #[.pointer (some c1)]] w fun (r : Ending) w' => ∃ u, r = Ending.returned (.agg #[u]) ∧ OwnI 3 w' w.heap.size u (whereL f n) ∧ Below w.heap.size w w' := by
  have HF := hid hF
  clear hF
  have hmk := run_make_row' (P := Tryz.prog) 22 3 (.int .i64 0) 8 Tryz.underlying22 Tryz.info3 rfl .i64 .i64 n (by omega) (by omega)
  go_enter Tryz.func159, Tryz.ntmps159
  go_wp2
  clear hmk
  rw [Vals_made]
  go_loopw [12] (fun i wr => ∃ k : Nat, k ≤ n ∧ i = .int .i64 k ∧ Blk wr (w.heap.size + 1) 3 (Vals (mkL n (whereG f k))) ∧ Below (w.heap.size + 1) (w.alloc (.cells #[.slice none 0 0] 28)) wr) (fun i _ => n - (intOf i).toNat)
  case atStart => exact ⟨0, Nat.zero_le _, rfl, (by have := Blk.new (w.alloc (.cells #[.slice none 0 0] 28)) 3 (Vals (List.replicate n 0)); (have e : mkL n (whereG f 0) = List.replicate n 0 := by rw [← mkL_zero]; exact mkL_congr (fun i _ => by simp [whereG])); rw [e]; simpa using this), (Below.refl _ _).alloc (by simp) _⟩
  case round =>
    obtain ⟨k, hk, rfl, hB, hb⟩ := hrel
    have HBk := hid hB
    have HBb := hid hb
    clear hB hb
    by_cases hlt : k < n
    · go_wp2
      go_loopw [16] (fun j wi => ∃ t : Nat, t ≤ k ∧ j = .int .i64 t ∧ Blk wi (w.heap.size + 1) 3 (Vals (mkL n (whereH f k t))) ∧ Below (w.heap.size + 1) (w.alloc (.cells #[.slice none 0 0] 28)) wi) (fun j _ => k - (intOf j).toNat)
      case atStart => exact ⟨0, Nat.zero_le _, rfl, (by rw [mkL_congr (h := whereG f k) (fun i _ => by unfold whereH whereG; split; rfl; split <;> simp [rowN])]; exact HBk.out), HBb.out⟩
      case round =>
        obtain ⟨t, ht, rfl, hB, hb⟩ := hrel
        have HBt := hid hB
        have HBc := hid hb
        clear hB hb
        by_cases htk : t < k
        · have hsz : w.heap.size + 1 < wr.heap.size := HBt.out.lt
          cases hft : f t k
          · have Hft := hid hft
            clear hft
            go_wp2_with fail
            refine (HF.out t k _ htk hlt (below_box HBc.out)).mono ?_
            rw [Hft.out]
            rintro e w2 ⟨rfl, hb2⟩
            have HB2 := hid hb2
            clear hb2
            go_wp2
            go_roundw
            case rel => exact ⟨t + 1, by omega, by go_num, (by rw [mkL_congr (h := whereH f k t) (fun i _ => by unfold whereH; split; rfl; split; (rw [rowN, Hft.out]; rfl); rfl)]; exact HBt.out.below HB2.out hsz), HBc.out.trans (HB2.out.mono (by omega))⟩
            case measure => simp [intOf]; omega
          · have Hft := hid hft
            clear hft
            go_wp2_with fail
            refine (HF.out t k _ htk hlt (below_box HBc.out)).mono ?_
            rw [Hft.out]
            rintro e w2 ⟨rfl, hb2⟩
            have HBt2 := hid (HBt.out.below hb2 hsz)
            have HBc2 := hid (HBc.out.trans (hb2.mono (by omega)))
            clear hb2
            obtain ⟨p, hp⟩ : ∃ p, rowN (fun j => f j k) t = p := ⟨_, rfl⟩
            have hp2 := rowN_lt (fun j => f j k) t
            have hp3 := pow_lt10 t (by omega)
            rw [hp] at hp2
            have t1 : w2.cell? ⟨w.heap.size + 1, k, none⟩ = some (.int .i64 p) := by
              rw [HBt2.out.cell, Vals_get (by rw [mkL_length]; exact hlt), mkL_getD hlt, ← hp]; simp [whereH]
            have t2 := HBt2.out.frozen k
            have wp := wrap_pow' t (by omega)
            have hor := or_pow p t (by omega) (by omega)
            have hkz : (k : Int) < n := by omega
            have Hp := hid hp
            clear hp hp2 hp3
            go_wp2
            go_region
            go_wp2
            go_roundw
            case rel => exact ⟨t + 1, by omega, by go_num, (by rw [mkL_congr (h := fun i => if i = k then p ||| 2 ^ t else whereH f k t i) (fun i _ => by unfold whereH; split; (rw [if_neg (by omega)]); split; (rw [rowN, if_pos Hft.out, Hp.out]); rfl), ← mkL_set _ hlt, ← Vals_set]; exact HBt2.out.set_ k _), (HBc2.out.setCell (p := ⟨w.heap.size + 1, k, none⟩) (Nat.le_refl _) _).drew⟩
            case measure => simp [intOf]; omega
        · obtain rfl : t = k := by omega
          go_wp2
          go_roundw
          case rel => exact ⟨t + 1, by omega, by go_num, (by rw [mkL_congr (h := whereH f t t) (fun i _ => by unfold whereH whereG; by_cases h : i < t; (rw [if_pos h, if_pos (by omega)]); by_cases h2 : i = t; (subst h2; simp); (rw [if_neg h, if_neg h2, if_neg (by omega)]))]; exact HBt.out), HBc.out⟩
          case measure => simp [intOf]; omega
    · obtain rfl : k = n := by omega
      have e : mkL k (whereG f k) = whereL f k := mkL_congr (fun i hi => by simp [whereG, hi])
      rw [e] at HBk
      have HOw := hid (HBk.out.own (xs := whereL f k) (B := w.heap.size) (by omega) (by unfold whereL; rw [mkL_length]; omega))
      have hbz := HBb.out.size
      have hbx := box_cell HBb.out 0
      have hbf : wr.frozen? ⟨w.heap.size, 0, none⟩ = false := by rw [HBb.out.frozen (p := ⟨w.heap.size, 0, none⟩) (Nat.lt_succ_self _)]; exact (Blk.new w 28 #[.slice none 0 0]).frozen 0
      simp at hbz
      have hwl : (whereL f k).length = k := by unfold whereL; rw [mkL_length]
      clear e
      go_wp2
      refine bodyPost_ret (v := .agg #[.slice (some ⟨w.heap.size + 1, 0, none⟩) k k]) (by simp [results, Tryz.results159, go_sem, hbx]) rfl ⟨_, rfl, ?_, ?_⟩
      · have := HOw.out
        rw [hwl] at this
        exact this.grown (grown_setCell (World.grownBy.refl _ _) 0 _) (.inr (by simp [Value.ownBlock]))
      · exact (below_box HBb.out).setCell (Nat.le_refl _) _
theorem posetWhereFence_any (n : Nat) (c1 : Addr) (f : Nat → Nat → Bool) (w : World) (hn : n ≤ 10)
    (hF : ∀ (j i : Nat) (W : World), j < i → i < n → Below w.heap.size w W → Calls Tryz.prog 163 #[.int .i64 j, .int .i64 i, .pointer (some c1)] W fun r W' => r = .returned (.bool (f j i)) ∧ Below W.heap.size W W') :
    Calls Tryz.prog 159 #[.int .i64 n, .func (.func 163) #[] #[.pointer (some c1)]] w fun (r : Ending) w' => ∃ u, r = Ending.returned (.agg #[u]) ∧ OwnI 3 w' w.heap.size u (whereL f n) ∧ Below w.heap.size w w' := by
  have HF := hid hF
  clear hF
  have hmk := run_make_row' (P := Tryz.prog) 22 3 (.int .i64 0) 8 Tryz.underlying22 Tryz.info3 rfl .i64 .i64 n (by omega) (by omega)
  go_enter Tryz.func159, Tryz.ntmps159
  go_wp2
  clear hmk
  rw [Vals_made]
  go_loopw [12] (fun i wr => ∃ k : Nat, k ≤ n ∧ i = .int .i64 k ∧ Blk wr (w.heap.size + 1) 3 (Vals (mkL n (whereG f k))) ∧ Below (w.heap.size + 1) (w.alloc (.cells #[.slice none 0 0] 28)) wr) (fun i _ => n - (intOf i).toNat)
  case atStart => exact ⟨0, Nat.zero_le _, rfl, (by have := Blk.new (w.alloc (.cells #[.slice none 0 0] 28)) 3 (Vals (List.replicate n 0)); (have e : mkL n (whereG f 0) = List.replicate n 0 := by rw [← mkL_zero]; exact mkL_congr (fun i _ => by simp [whereG])); rw [e]; simpa using this), (Below.refl _ _).alloc (by simp) _⟩
  case round =>
    obtain ⟨k, hk, rfl, hB, hb⟩ := hrel
    have HBk := hid hB
    have HBb := hid hb
    clear hB hb
    by_cases hlt : k < n
    · go_wp2
      go_loopw [16] (fun j wi => ∃ t : Nat, t ≤ k ∧ j = .int .i64 t ∧ Blk wi (w.heap.size + 1) 3 (Vals (mkL n (whereH f k t))) ∧ Below (w.heap.size + 1) (w.alloc (.cells #[.slice none 0 0] 28)) wi) (fun j _ => k - (intOf j).toNat)
      case atStart => exact ⟨0, Nat.zero_le _, rfl, (by rw [mkL_congr (h := whereG f k) (fun i _ => by unfold whereH whereG; split; rfl; split <;> simp [rowN])]; exact HBk.out), HBb.out⟩
      case round =>
        obtain ⟨t, ht, rfl, hB, hb⟩ := hrel
        have HBt := hid hB
        have HBc := hid hb
        clear hB hb
        by_cases htk : t < k
        · have hsz : w.heap.size + 1 < wr.heap.size := HBt.out.lt
          cases hft : f t k
          · have Hft := hid hft
            clear hft
            go_wp2_with fail
            refine (HF.out t k _ htk hlt (below_box HBc.out)).mono ?_
            rw [Hft.out]
            rintro e w2 ⟨rfl, hb2⟩
            have HB2 := hid hb2
            clear hb2
            go_wp2
            go_roundw
            case rel => exact ⟨t + 1, by omega, by go_num, (by rw [mkL_congr (h := whereH f k t) (fun i _ => by unfold whereH; split; rfl; split; (rw [rowN, Hft.out]; rfl); rfl)]; exact HBt.out.below HB2.out hsz), HBc.out.trans (HB2.out.mono (by omega))⟩
            case measure => simp [intOf]; omega
          · have Hft := hid hft
            clear hft
            go_wp2_with fail
            refine (HF.out t k _ htk hlt (below_box HBc.out)).mono ?_
            rw [Hft.out]
            rintro e w2 ⟨rfl, hb2⟩
            have HBt2 := hid (HBt.out.below hb2 hsz)
            have HBc2 := hid (HBc.out.trans (hb2.mono (by omega)))
            clear hb2
            obtain ⟨p, hp⟩ : ∃ p, rowN (fun j => f j k) t = p := ⟨_, rfl⟩
            have hp2 := rowN_lt (fun j => f j k) t
            have hp3 := pow_lt10 t (by omega)
            rw [hp] at hp2
            have t1 : w2.cell? ⟨w.heap.size + 1, k, none⟩ = some (.int .i64 p) := by
              rw [HBt2.out.cell, Vals_get (by rw [mkL_length]; exact hlt), mkL_getD hlt, ← hp]; simp [whereH]
            have t2 := HBt2.out.frozen k
            have wp := wrap_pow' t (by omega)
            have hor := or_pow p t (by omega) (by omega)
            have hkz : (k : Int) < n := by omega
            have Hp := hid hp
            clear hp hp2 hp3
            go_wp2
            go_region
            go_wp2
            go_roundw
            case rel => exact ⟨t + 1, by omega, by go_num, (by rw [mkL_congr (h := fun i => if i = k then p ||| 2 ^ t else whereH f k t i) (fun i _ => by unfold whereH; split; (rw [if_neg (by omega)]); split; (rw [rowN, if_pos Hft.out, Hp.out]); rfl), ← mkL_set _ hlt, ← Vals_set]; exact HBt2.out.set_ k _), (HBc2.out.setCell (p := ⟨w.heap.size + 1, k, none⟩) (Nat.le_refl _) _).drew⟩
            case measure => simp [intOf]; omega
        · obtain rfl : t = k := by omega
          go_wp2
          go_roundw
          case rel => exact ⟨t + 1, by omega, by go_num, (by rw [mkL_congr (h := whereH f t t) (fun i _ => by unfold whereH whereG; by_cases h : i < t; (rw [if_pos h, if_pos (by omega)]); by_cases h2 : i = t; (subst h2; simp); (rw [if_neg h, if_neg h2, if_neg (by omega)]))]; exact HBt.out), HBc.out⟩
          case measure => simp [intOf]; omega
    · obtain rfl : k = n := by omega
      have e : mkL k (whereG f k) = whereL f k := mkL_congr (fun i hi => by simp [whereG, hi])
      rw [e] at HBk
      have HOw := hid (HBk.out.own (xs := whereL f k) (B := w.heap.size) (by omega) (by unfold whereL; rw [mkL_length]; omega))
      have hbz := HBb.out.size
      have hbx := box_cell HBb.out 0
      have hbf : wr.frozen? ⟨w.heap.size, 0, none⟩ = false := by rw [HBb.out.frozen (p := ⟨w.heap.size, 0, none⟩) (Nat.lt_succ_self _)]; exact (Blk.new w 28 #[.slice none 0 0]).frozen 0
      simp at hbz
      have hwl : (whereL f k).length = k := by unfold whereL; rw [mkL_length]
      clear e
      go_wp2
      refine bodyPost_ret (v := .agg #[.slice (some ⟨w.heap.size + 1, 0, none⟩) k k]) (by simp [results, Tryz.results159, go_sem, hbx]) rfl ⟨_, rfl, ?_, ?_⟩
      · have := HOw.out
        rw [hwl] at this
        exact this.grown (grown_setCell (World.grownBy.refl _ _) 0 _) (.inr (by simp [Value.ownBlock]))
      · exact (below_box HBb.out).setCell (Nat.le_refl _) _
theorem posetWhereStaircase_any (n : Nat) (c1 : Addr) (f : Nat → Nat → Bool) (w : World) (hn : n ≤ 10)
    (hF : ∀ (j i : Nat) (W : World), j < i → i < n → Below w.heap.size w W → Calls Tryz.prog 161 #[.int .i64 j, .int .i64 i, .pointer (some c1)] W fun r W' => r = .returned (.bool (f j i)) ∧ Below W.heap.size W W') :
    Calls Tryz.prog 159 #[.int .i64 n, .func (.func 161) #[] #[.pointer (some c1)]] w fun (r : Ending) w' => ∃ u, r = Ending.returned (.agg #[u]) ∧ OwnI 3 w' w.heap.size u (whereL f n) ∧ Below w.heap.size w w' := by
  have HF := hid hF
  clear hF
  have hmk := run_make_row' (P := Tryz.prog) 22 3 (.int .i64 0) 8 Tryz.underlying22 Tryz.info3 rfl .i64 .i64 n (by omega) (by omega)
  go_enter Tryz.func159, Tryz.ntmps159
  go_wp2
  clear hmk
  rw [Vals_made]
  go_loopw [12] (fun i wr => ∃ k : Nat, k ≤ n ∧ i = .int .i64 k ∧ Blk wr (w.heap.size + 1) 3 (Vals (mkL n (whereG f k))) ∧ Below (w.heap.size + 1) (w.alloc (.cells #[.slice none 0 0] 28)) wr) (fun i _ => n - (intOf i).toNat)
  case atStart => exact ⟨0, Nat.zero_le _, rfl, (by have := Blk.new (w.alloc (.cells #[.slice none 0 0] 28)) 3 (Vals (List.replicate n 0)); (have e : mkL n (whereG f 0) = List.replicate n 0 := by rw [← mkL_zero]; exact mkL_congr (fun i _ => by simp [whereG])); rw [e]; simpa using this), (Below.refl _ _).alloc (by simp) _⟩
  case round =>
    obtain ⟨k, hk, rfl, hB, hb⟩ := hrel
    have HBk := hid hB
    have HBb := hid hb
    clear hB hb
    by_cases hlt : k < n
    · go_wp2
      go_loopw [16] (fun j wi => ∃ t : Nat, t ≤ k ∧ j = .int .i64 t ∧ Blk wi (w.heap.size + 1) 3 (Vals (mkL n (whereH f k t))) ∧ Below (w.heap.size + 1) (w.alloc (.cells #[.slice none 0 0] 28)) wi) (fun j _ => k - (intOf j).toNat)
      case atStart => exact ⟨0, Nat.zero_le _, rfl, (by rw [mkL_congr (h := whereG f k) (fun i _ => by unfold whereH whereG; split; rfl; split <;> simp [rowN])]; exact HBk.out), HBb.out⟩
      case round =>
        obtain ⟨t, ht, rfl, hB, hb⟩ := hrel
        have HBt := hid hB
        have HBc := hid hb
        clear hB hb
        by_cases htk : t < k
        · have hsz : w.heap.size + 1 < wr.heap.size := HBt.out.lt
          cases hft : f t k
          · have Hft := hid hft
            clear hft
            go_wp2_with fail
            refine (HF.out t k _ htk hlt (below_box HBc.out)).mono ?_
            rw [Hft.out]
            rintro e w2 ⟨rfl, hb2⟩
            have HB2 := hid hb2
            clear hb2
            go_wp2
            go_roundw
            case rel => exact ⟨t + 1, by omega, by go_num, (by rw [mkL_congr (h := whereH f k t) (fun i _ => by unfold whereH; split; rfl; split; (rw [rowN, Hft.out]; rfl); rfl)]; exact HBt.out.below HB2.out hsz), HBc.out.trans (HB2.out.mono (by omega))⟩
            case measure => simp [intOf]; omega
          · have Hft := hid hft
            clear hft
            go_wp2_with fail
            refine (HF.out t k _ htk hlt (below_box HBc.out)).mono ?_
            rw [Hft.out]
            rintro e w2 ⟨rfl, hb2⟩
            have HBt2 := hid (HBt.out.below hb2 hsz)
            have HBc2 := hid (HBc.out.trans (hb2.mono (by omega)))
            clear hb2
            obtain ⟨p, hp⟩ : ∃ p, rowN (fun j => f j k) t = p := ⟨_, rfl⟩
            have hp2 := rowN_lt (fun j => f j k) t
            have hp3 := pow_lt10 t (by omega)
            rw [hp] at hp2
            have t1 : w2.cell? ⟨w.heap.size + 1, k, none⟩ = some (.int .i64 p) := by
              rw [HBt2.out.cell, Vals_get (by rw [mkL_length]; exact hlt), mkL_getD hlt, ← hp]; simp [whereH]
            have t2 := HBt2.out.frozen k
            have wp := wrap_pow' t (by omega)
            have hor := or_pow p t (by omega) (by omega)
            have hkz : (k : Int) < n := by omega
            have Hp := hid hp
            clear hp hp2 hp3
            go_wp2
            go_region
            go_wp2
            go_roundw
            case rel => exact ⟨t + 1, by omega, by go_num, (by rw [mkL_congr (h := fun i => if i = k then p ||| 2 ^ t else whereH f k t i) (fun i _ => by unfold whereH; split; (rw [if_neg (by omega)]); split; (rw [rowN, if_pos Hft.out, Hp.out]); rfl), ← mkL_set _ hlt, ← Vals_set]; exact HBt2.out.set_ k _), (HBc2.out.setCell (p := ⟨w.heap.size + 1, k, none⟩) (Nat.le_refl _) _).drew⟩
            case measure => simp [intOf]; omega
        · obtain rfl : t = k := by omega
          go_wp2
          go_roundw
          case rel => exact ⟨t + 1, by omega, by go_num, (by rw [mkL_congr (h := whereH f t t) (fun i _ => by unfold whereH whereG; by_cases h : i < t; (rw [if_pos h, if_pos (by omega)]); by_cases h2 : i = t; (subst h2; simp); (rw [if_neg h, if_neg h2, if_neg (by omega)]))]; exact HBt.out), HBc.out⟩
          case measure => simp [intOf]; omega
    · obtain rfl : k = n := by omega
      have e : mkL k (whereG f k) = whereL f k := mkL_congr (fun i hi => by simp [whereG, hi])
      rw [e] at HBk
      have HOw := hid (HBk.out.own (xs := whereL f k) (B := w.heap.size) (by omega) (by unfold whereL; rw [mkL_length]; omega))
      have hbz := HBb.out.size
      have hbx := box_cell HBb.out 0
      have hbf : wr.frozen? ⟨w.heap.size, 0, none⟩ = false := by rw [HBb.out.frozen (p := ⟨w.heap.size, 0, none⟩) (Nat.lt_succ_self _)]; exact (Blk.new w 28 #[.slice none 0 0]).frozen 0
      simp at hbz
      have hwl : (whereL f k).length = k := by unfold whereL; rw [mkL_length]
      clear e
      go_wp2
      refine bodyPost_ret (v := .agg #[.slice (some ⟨w.heap.size + 1, 0, none⟩) k k]) (by simp [results, Tryz.results159, go_sem, hbx]) rfl ⟨_, rfl, ?_, ?_⟩
      · have := HOw.out
        rw [hwl] at this
        exact this.grown (grown_setCell (World.grownBy.refl _ _) 0 _) (.inr (by simp [Value.ownBlock]))
      · exact (below_box HBb.out).setCell (Nat.le_refl _) _
end Go.Proofs.YtbmhaamenjhjfaaGreatDoor
namespace Go.Proofs.YtbmhaamenjhjfaaGreatDoor
open Go.RowKit Go.WideShapes Go.ChangeShapes
set_option linter.unusedVariables false
theorem Tryz.info22 : (Tryz.prog.info? 22).map (fun i => (i.zero, i.size, i.bytes)) = some (some (.slice none 0 0), 1, 24) := by kernel_rfl
def PairAt (ti : TypeId) (w : World) (B : Nat) (u : Value) (p : Nat × Nat) : Prop := ∃ g, u = .slice (some ⟨g, 0, none⟩) 2 2 ∧ B ≤ g ∧ Blk w g ti #[.int .i64 (p.1 : Int), .int .i64 (p.2 : Int)]
theorem PairAt.below {ti : TypeId} {w w' : World} {B : Nat} {u : Value} {p : Nat × Nat} (h : PairAt ti w B u p) (hb : Below w.heap.size w w') : PairAt ti w' B u p := by
  obtain ⟨g, rfl, hB, hg⟩ := h
  exact ⟨g, rfl, hB, hg.below hb hg.lt⟩
def Pairs (ti ts : TypeId) (w : World) (B : Nat) (v : Value) (ps : List (Nat × Nat)) : Prop :=
  ∃ us : List Value, us.length = ps.length ∧ w.ownsRow B ts 1 v ps.length us ∧ (∀ (j : Nat) (u : Value) (p : Nat × Nat), us[j]? = some u → ps[j]? = some p → PairAt ti w B u p) ∧ ∀ (i j : Nat) (u : Value), us[i]? = some u → us[j]? = some u → i = j
theorem Pairs.nil (ti ts : TypeId) (w : World) (B : Nat) : Pairs ti ts w B (.slice none 0 0) [] := ⟨[], rfl, World.ownsRow_nil w B ts 1, by simp, by simp⟩
theorem Pairs.below {ti ts : TypeId} {w w' : World} {B : Nat} {v : Value} {ps : List (Nat × Nat)} (h : Pairs ti ts w B v ps) (hb : Below w.heap.size w w') : Pairs ti ts w' B v ps := by
  obtain ⟨us, h1, h2, h3, h4⟩ := h
  refine ⟨us, h1, ?_, fun j u p hu hp => (h3 j u p hu hp).below hb, h4⟩
  by_cases hv : v.ownBlock = none
  · exact h2.kept (grown_of_below hb none) (.inl hv)
  · exact h2.kept (grown_of_below hb none) (.inr hv)
theorem Pairs.shape {ti ts : TypeId} {w : World} {B : Nat} {v : Value} {ps : List (Nat × Nat)} (h : Pairs ti ts w B v ps) :
    ∃ A c, v = .slice A ps.length c ∧ ∀ j, j < ps.length → ∃ b g, A = some ⟨b, 0, none⟩ ∧ b < w.heap.size ∧ g < w.heap.size ∧ w.cell? ⟨b, j, none⟩ = some (.slice (some ⟨g, 0, none⟩) 2 2) ∧ w.cell? ⟨g, 0, none⟩ = some (.int .i64 ((ps.getD j (0, 0)).1 : Int)) ∧ w.cell? ⟨g, 1, none⟩ = some (.int .i64 ((ps.getD j (0, 0)).2 : Int)) := by
  obtain ⟨us, h1, h2, h3, -⟩ := h
  rcases h2.2 with ⟨rfl, hn⟩ | ⟨b, cap, cur, rfl, hB, hh, _⟩
  · exact ⟨none, 0, by rw [hn], fun j hj => by omega⟩
  · refine ⟨_, cap, rfl, fun j hj => ?_⟩
    have hu : us[j]? = some us[j] := List.getElem?_eq_getElem (by omega)
    have hp : ps[j]? = some ps[j] := List.getElem?_eq_getElem hj
    obtain ⟨g, e, -, hg⟩ := h3 j _ _ hu hp
    have hc := h2.cellAt j (by omega)
    rw [hu, e] at hc
    have hbl : b < w.heap.size := by
      rcases Nat.lt_or_ge b w.heap.size with hlt | hge
      · exact hlt
      · rw [Array.getElem?_eq_none hge] at hh; cases hh
    have e2 : ps.getD j (0, 0) = ps[j] := by simp [List.getD, hp]
    refine ⟨b, g, rfl, hbl, hg.lt, hc, ?_, ?_⟩
    · rw [hg.cell, e2]; rfl
    · rw [hg.cell, e2]; rfl
theorem wpList_append_pair {P : Program} {w W : World} {ops : Array Oper} {rest : List Oper} {o : Oper} {ac : Act} {Q : Exit → Act → World → Prop} (hgd : o.guard = none) (s x : Operand) (t ts ti : TypeId)
    (ho : o.op = .call { callee := .builtin .append, args := #[s, x], argTypes := #[t, t] }) (ht : P.underlying t = some (.slice ts)) (hinfo : (P.info? ts).map (fun i => (i.zero, i.size, i.bytes)) = some (some (.slice none 0 0), 1, 24))
    (hne : ti ≠ ts) (B : Nat) (v : Value) (ps : List (Nat × Nat)) (a b : Nat) (hs : ac.eval s = v) (hown : Pairs ti ts w B v ps)
    (hW : W = (w.alloc (.cells #[.int .i64 (a : Int), .int .i64 (b : Int)] ti)).alloc (.cells #[.slice (some ⟨w.heap.size, 0, none⟩) 2 2] ts)) (hx : ac.eval x = .slice (some ⟨w.heap.size + 1, 0, none⟩) 1 1) (hlen : ps.length < 1048576) (hB : B ≤ w.heap.size)
    (h : ∀ v' w', Pairs ti ts w' B v' (ps ++ [(a, b)]) → Below B w w' → wpList P ops Q rest (ac.put o.dst v') w') : wpList P ops Q (o :: rest) ac W := by
  subst hW
  obtain ⟨i0, hi, hz0, hz1, hz2⟩ := info_parts hinfo
  obtain ⟨us, h1, h2, h3, hdis⟩ := hown
  refine wpList_append_own _ hgd s x t ho B ts i0 (.slice none 0 0) 1 24 ht hi hz0 hz1 hz2 rfl (by decide) v ps.length us hs ((h2.alloc _).alloc _) ⟨w.heap.size + 1, 0, none⟩ 1 1 [.slice (some ⟨w.heap.size, 0, none⟩) 2 2] hx rfl ?_ ?_ ?_ ?_ ?_ ?_
  · intro j u hj
    match j, hj with
    | 0, hj =>
      simp only [List.getElem?_cons_zero, Option.some.injEq] at hj
      subst hj
      exact (Blk.newAt (w.alloc (.cells #[.int .i64 (a : Int), .int .i64 (b : Int)] ti)) ts #[.slice (some ⟨w.heap.size, 0, none⟩) 2 2] (w.heap.size + 1) (by simp)).cell 0
    | j + 1, hj => simp at hj
  · intro u hu
    simp only [List.mem_singleton] at hu
    subst hu; rfl
  · unfold maxLen; omega
  · omega
  · simp; omega
  · intro v' w' h4 h5 _
    have hnew := Blk.alloc (Blk.new w ti #[.int .i64 (a : Int), .int .i64 (b : Int)]) (.cells #[.slice (some ⟨w.heap.size, 0, none⟩) 2 2] ts)
    have keep : ∀ g cs, Blk ((w.alloc (.cells #[.int .i64 (a : Int), .int .i64 (b : Int)] ti)).alloc (.cells #[.slice (some ⟨w.heap.size, 0, none⟩) 2 2] ts)) g ti cs → Blk w' g ti cs := by
      intro g cs hg
      refine (h5.block g hg.lt ?_).trans hg
      intro e
      rcases ((h2.alloc (.cells #[.int .i64 (a : Int), .int .i64 (b : Int)] ti)).alloc (.cells #[.slice (some ⟨w.heap.size, 0, none⟩) 2 2] ts)).2 with ⟨rfl, _⟩ | ⟨g', cap, cur, rfl, _, hh, _⟩
      · simp [Value.ownBlock] at e
      · simp only [Value.ownBlock, Option.some.injEq] at e
        subst e
        unfold Blk at hg
        rw [hh] at hg
        injection hg with hg
        injection hg with _ hg
        exact hne hg.symm
    refine h v' w' ⟨us ++ [.slice (some ⟨w.heap.size, 0, none⟩) 2 2], by simp [h1], by simpa using h4, ?_, ?_⟩ ?_
    · intro j u p hu hp
      rw [List.getElem?_append] at hu hp
      by_cases hj : j < ps.length
      · rw [if_pos (by omega)] at hu
        rw [if_pos hj] at hp
        obtain ⟨g, e, hgB, hg⟩ := h3 j u p hu hp
        exact ⟨g, e, hgB, keep g _ (Blk.alloc (Blk.alloc hg _) _)⟩
      · rw [if_neg (by omega)] at hu
        rw [if_neg hj] at hp
        rcases Nat.eq_zero_or_pos (j - ps.length) with h0 | h0
        · rw [h0] at hp
          rw [h1, h0] at hu
          simp only [List.getElem?_cons_zero, Option.some.injEq] at hu hp
          subst hu; subst hp
          exact ⟨w.heap.size, rfl, hB, keep _ _ hnew⟩
        · rw [List.getElem?_eq_none (by simp; omega)] at hp; cases hp
    · have old : ∀ i u, i < us.length → us[i]? = some u → u ≠ .slice (some ⟨w.heap.size, 0, none⟩) 2 2 := by
        intro i u hi hu e
        have hp : ps[i]? = some ps[i] := List.getElem?_eq_getElem (by omega)
        obtain ⟨g, e', _, hg⟩ := h3 i u _ hu hp
        rw [e'] at e
        injection e with e
        injection e with e
        injection e with e
        have := hg.lt
        omega
      intro i j u hu hu'
      rw [List.getElem?_append] at hu hu'
      by_cases hi : i < us.length
      · rw [if_pos hi] at hu
        by_cases hj : j < us.length
        · rw [if_pos hj] at hu'
          exact hdis i j u hu hu'
        · rw [if_neg hj] at hu'
          rcases Nat.eq_zero_or_pos (j - us.length) with h0 | h0
          · rw [h0] at hu'
            simp only [List.getElem?_cons_zero, Option.some.injEq] at hu'
            exact absurd hu'.symm (old i u hi hu)
          · rw [List.getElem?_eq_none (by simp; omega)] at hu'; cases hu'
      · rw [if_neg hi] at hu
        rcases Nat.eq_zero_or_pos (i - us.length) with h0 | h0
        · rw [h0] at hu
          simp only [List.getElem?_cons_zero, Option.some.injEq] at hu
          by_cases hj : j < us.length
          · rw [if_pos hj] at hu'
            exact absurd hu.symm (old j u hj hu')
          · rw [if_neg hj] at hu'
            rcases Nat.eq_zero_or_pos (j - us.length) with h0' | h0'
            · omega
            · rw [List.getElem?_eq_none (by simp; omega)] at hu'; cases hu'
        · rw [List.getElem?_eq_none (by simp; omega)] at hu; cases hu
    · have hb : Below B w ((w.alloc (.cells #[.int .i64 (a : Int), .int .i64 (b : Int)] ti)).alloc (.cells #[.slice (some ⟨w.heap.size, 0, none⟩) 2 2] ts)) := ((Below.refl _ _).alloc hB _).alloc (by simp; omega) _
      exact hb.grown h5 (by simp; omega) fun k hk => (h2.lt k hk).1
end Go.Proofs.YtbmhaamenjhjfaaGreatDoor
namespace Go.Proofs.YtbmhaamenjhjfaaGreatDoor
open Go.RowKit Go.WideShapes Go.ChangeShapes
set_option linter.unusedVariables false
structure TurnedIn (B E : Nat) (w w' : World) : Prop where
  os : w'.os = w.os
  tape : w'.tape = w.tape
  output : w'.output = w.output
  size : w.heap.size ≤ w'.heap.size
  block : ∀ k, k < w.heap.size → k < B ∨ E ≤ k → w'.heap[k]? = w.heap[k]?
theorem TurnedIn.refl (B E : Nat) (w : World) : TurnedIn B E w w := ⟨rfl, rfl, rfl, Nat.le_refl _, fun _ _ _ => rfl⟩
theorem TurnedIn.trans {B E : Nat} {a b c : World} (h : TurnedIn B E a b) (k : TurnedIn B E b c) : TurnedIn B E a c :=
  ⟨k.os.trans h.os, k.tape.trans h.tape, k.output.trans h.output, Nat.le_trans h.size k.size, fun i hi ho => (k.block i (Nat.lt_of_lt_of_le hi h.size) ho).trans (h.block i hi ho)⟩
theorem TurnedIn.of_below {B E : Nat} {a b : World} (h : Below a.heap.size a b) : TurnedIn B E a b := ⟨h.os, h.tape, h.output, h.size, fun i hi _ => h.block i hi⟩
theorem TurnedIn.of_grown {B E : Nat} {a b : World} {row : Option Nat} (h : a.grownBy b row) (hr : ∀ k, row = some k → B ≤ k ∧ k < E) : TurnedIn B E a b :=
  ⟨h.os, h.tape, h.output, h.size, fun i hi ho => h.block i hi (fun e => by have := hr i e.symm; omega)⟩
theorem At.turned {w w' : World} {b : Nat} {v : Value} {B E : Nat} (h : At w b v) (hg : TurnedIn B E w w') (hb : b < B ∨ E ≤ b) : At w' b v :=
  ⟨(World.cell?_of_block (a := ⟨b, 0, none⟩) (hg.block b h.2 hb)).trans h.1, Nat.lt_of_lt_of_le h.2 hg.size⟩
theorem below_turned {a w w' : World} {B E : Nat} (h : Below a.heap.size a w) (hg : TurnedIn B E w w') (hB : a.heap.size ≤ B) : Below a.heap.size a w' :=
  h.trans ⟨hg.os, hg.tape, hg.output, hg.size, fun k hk => hg.block k (Nat.lt_of_lt_of_le hk h.size) (.inl (by omega))⟩
theorem OwnI.turned {e : TypeId} {w w' : World} {B B' E E' : Nat} {v : Value} {xs : List Int} (h : OwnI e w B v xs) (hg : TurnedIn B' E' w w') (hv : ∀ k, v.ownBlock = some k → B ≤ k ∧ k < E) (hs : E ≤ B' ∨ E' ≤ B) : OwnI e w' B v xs := by
  obtain ⟨h1, h2⟩ := h
  refine ⟨h1, ?_⟩
  rcases h2 with h2 | ⟨g, cap, cur, rfl, hB, hh, r⟩
  · exact .inl h2
  · refine .inr ⟨g, cap, cur, rfl, hB, ?_, r⟩
    have := hv g rfl
    have hlt : g < w.heap.size := by
      rcases Nat.lt_or_ge g w.heap.size with hlt | hge
      · exact hlt
      · rw [Array.getElem?_eq_none hge] at hh; cases hh
    rw [hg.block g hlt (by omega)]; exact hh
def IntsSS (w : World) (v : Value) (ls : List (List Int)) : Prop :=
  ∃ A c, v = .slice A ls.length c ∧ ∀ j, j < ls.length → ∃ b o u, A = some ⟨b, o, none⟩ ∧ b < w.heap.size ∧ w.cell? ⟨b, o + j, none⟩ = some u ∧ Ints w u (ls.getD j [])
theorem IntsSS.below {w w' : World} {v : Value} {ls : List (List Int)} (h : IntsSS w v ls) (hb : Below w.heap.size w w') : IntsSS w' v ls := by
  obtain ⟨A, c, rfl, h⟩ := h
  refine ⟨A, c, rfl, fun j hj => ?_⟩
  obtain ⟨b, o, u, rfl, hlt, hc, hi⟩ := h j hj
  exact ⟨b, o, u, rfl, Nat.lt_of_lt_of_le hlt hb.size, (hb.cell (p := ⟨b, o + j, none⟩) hlt).trans hc, hi.below hb⟩
theorem IntsSS.alloc {w : World} {v : Value} {ls : List (List Int)} (h : IntsSS w v ls) (o : Obj) : IntsSS (w.alloc o) v ls := h.below ((Below.refl _ _).alloc (Nat.le_refl _) o)
def OwnSS (ti ts : TypeId) (w : World) (B E : Nat) (v : Value) (ls : List (List Int)) : Prop :=
  ∃ us : List Value, us.length = ls.length ∧ w.ownsRow B ts 1 v ls.length us ∧ (∀ k, v.ownBlock = some k → k < E) ∧
    (∀ (j : Nat) (u : Value) (l : List Int), us[j]? = some u → ls[j]? = some l → OwnI ti w B u l ∧ ∀ k, u.ownBlock = some k → k < E) ∧
    (∀ (i j : Nat) (u u' : Value), i ≠ j → us[i]? = some u → us[j]? = some u' → u.ownBlock = none ∨ u.ownBlock ≠ u'.ownBlock)
theorem OwnSS.nil (ti ts : TypeId) (w : World) (B E : Nat) : OwnSS ti ts w B E (.slice none 0 0) [] :=
  ⟨[], rfl, World.ownsRow_nil w B ts 1, by simp [Value.ownBlock], by simp, by simp⟩
theorem OwnSS.rows {ti ts : TypeId} {w : World} {B E : Nat} {v : Value} {ls : List (List Int)} (h : OwnSS ti ts w B E v ls) :
    ∃ A c, v = .slice A ls.length c ∧ ∀ j, j < ls.length → ∃ b u, A = some ⟨b, 0, none⟩ ∧ b < w.heap.size ∧ w.cell? ⟨b, j, none⟩ = some u ∧ OwnI ti w B u (ls.getD j []) ∧ (∀ k, u.ownBlock = some k → k < E) := by
  obtain ⟨us, h1, h2, h3, h4, h5⟩ := h
  rcases h2.2 with ⟨rfl, hn⟩ | ⟨b, cap, cur, rfl, hB, hh, _⟩
  · exact ⟨none, 0, by rw [hn], fun j hj => by omega⟩
  · refine ⟨_, cap, rfl, fun j hj => ?_⟩
    have hu : us[j]? = some us[j] := List.getElem?_eq_getElem (by omega)
    have hl : ls[j]? = some ls[j] := List.getElem?_eq_getElem hj
    obtain ⟨hi, hk⟩ := h4 j _ _ hu hl
    have hc := h2.cellAt j (by omega)
    rw [hu] at hc
    have hbl : b < w.heap.size := by
      rcases Nat.lt_or_ge b w.heap.size with hlt | hge
      · exact hlt
      · rw [Array.getElem?_eq_none hge] at hh; cases hh
    have e2 : ls.getD j [] = ls[j] := by simp [List.getD, hl]
    exact ⟨b, us[j], rfl, hbl, hc, by rw [e2]; exact hi, hk⟩
theorem OwnSS.ints {ti ts : TypeId} {w : World} {B E : Nat} {v : Value} {ls : List (List Int)} (h : OwnSS ti ts w B E v ls) : IntsSS w v ls := by
  obtain ⟨A, c, rfl, hr⟩ := h.rows
  refine ⟨A, c, rfl, fun j hj => ?_⟩
  obtain ⟨b, u, rfl, hb, hc, hi, -⟩ := hr j hj
  exact ⟨b, 0, u, rfl, hb, by rw [Nat.zero_add]; exact hc, hi.ints⟩
theorem OwnSS.turned {ti ts : TypeId} {w w' : World} {B E B' E' : Nat} {v : Value} {ls : List (List Int)} (h : OwnSS ti ts w B E v ls) (hg : TurnedIn B' E' w w') (hs : E ≤ B' ∨ E' ≤ B) : OwnSS ti ts w' B E v ls := by
  obtain ⟨us, h1, h2, h3, h4, h5⟩ := h
  refine ⟨us, h1, ?_, h3, ?_, h5⟩
  · obtain ⟨a1, a2⟩ := h2
    refine ⟨a1, ?_⟩
    rcases a2 with a2 | ⟨g, cap, cur, rfl, hB, hh, r⟩
    · exact .inl a2
    · refine .inr ⟨g, cap, cur, rfl, hB, ?_, r⟩
      have := h3 g rfl
      have hlt : g < w.heap.size := by
        rcases Nat.lt_or_ge g w.heap.size with hlt | hge
        · exact hlt
        · rw [Array.getElem?_eq_none hge] at hh; cases hh
      rw [hg.block g hlt (by omega)]; exact hh
  · intro j u l hu hl
    obtain ⟨hi, hk⟩ := h4 j u l hu hl
    exact ⟨hi.turned hg (fun k e => ⟨(hi.blockLt k e).1, hk k e⟩) hs, hk⟩
theorem OwnSS.below {ti ts : TypeId} {w w' : World} {B E : Nat} {v : Value} {ls : List (List Int)} (h : OwnSS ti ts w B E v ls) (hb : Below w.heap.size w w') : OwnSS ti ts w' B E v ls := by
  obtain ⟨us, h1, h2, h3, h4, h5⟩ := h
  refine ⟨us, h1, ?_, h3, fun j u l hu hl => ⟨(h4 j u l hu hl).1.below hb, (h4 j u l hu hl).2⟩, h5⟩
  by_cases hv : v.ownBlock = none
  · exact h2.kept (grown_of_below hb none) (.inl hv)
  · exact h2.kept (grown_of_below hb none) (.inr hv)
theorem OwnSS.alloc {ti ts : TypeId} {w : World} {B E : Nat} {v : Value} {ls : List (List Int)} (h : OwnSS ti ts w B E v ls) (o : Obj) : OwnSS ti ts (w.alloc o) B E v ls := h.below ((Below.refl _ _).alloc (Nat.le_refl _) o)
theorem OwnSS.drew {ti ts : TypeId} {w : World} {B E : Nat} {v : Value} {ls : List (List Int)} (h : OwnSS ti ts w B E v ls) : OwnSS ti ts w.drew B E v ls := h.below (Go.Joins.below_draws _ _ 1)
theorem OwnSS.shape3 {ti ts : TypeId} {w : World} {B E : Nat} {v : Value} {ls : List (List Int)} (h : OwnSS ti ts w B E v ls) : ∃ A n c, v = .slice A n c := by
  obtain ⟨A, c, h, _⟩ := h.rows
  exact ⟨A, _, c, h⟩
def offL (ls : List (List Int)) : Nat → Nat
  | 0 => 0
  | i + 1 => offL ls i + (ls.getD i []).length
def SSmall (ls : List (List Int)) : Prop := ls.length ≤ 1048576 ∧ (∀ j, j < ls.length → (ls.getD j []).length ≤ 1048576) ∧ offL ls ls.length ≤ 1000000000
end Go.Proofs.YtbmhaamenjhjfaaGreatDoor
