/- Spec Law Heights -/
import Derived.Test.YtbmhaamenjhjfaaGreatDoorRows
import Derived.Outline
import Derived.ChangeAlike
import Derived.RegionTactic
import Derived.Test.YtbmhaamenjhjfaaGreatDoorPkD00
namespace Go.Proofs.YtbmhaamenjhjfaaGreatDoor
open Go.RowKit Go.WideShapes Go.ChangeShapes
theorem range_true {n : Nat} (h : 1 ≤ n ∧ n ≤ 10) : (decide ((1 : Int) ≤ (n : Int)) && decide ((n : Int) ≤ 10)) = true := by simp; omega
theorem range_false {n : Nat} (h : ¬ (1 ≤ n ∧ n ≤ 10)) : (decide ((1 : Int) ≤ (n : Int)) && decide ((n : Int) ≤ 10)) = false := by rw [Bool.eq_false_iff]; simp; omega
theorem closed_of {xs : List Int} {i z : Nat} (hx : xs.getD i 0 = (z : Int)) (hz : z < 2 ^ i) (h : ∀ j, j < i → z.testBit j = true → sub (xs.getD j 0).toNat z = 0) : okAt xs i = true := by
  simp only [okAt, hx, Int.toNat_natCast, Bool.and_eq_true, decide_eq_true_eq]
  refine ⟨⟨by omega, by omega⟩, (holdsIdeal_iff xs z).2 fun e _ hb => h e (testBit_lt hz hb) hb⟩
theorem not_closed {xs : List Int} {i j z : Nat} (hx : xs.getD i 0 = (z : Int)) (hj : j < xs.length) (hb : z.testBit j = true) (h : sub (xs.getD j 0).toNat z ≠ 0) : okAt xs i = false := by
  cases hc : okAt xs i
  · rfl
  · simp only [okAt, hx, Int.toNat_natCast, Bool.and_eq_true, decide_eq_true_eq] at hc
    exact absurd ((holdsIdeal_iff xs z).1 hc.2 j hj hb) h
theorem poGood_any (v : Value) (xs : List Int) (w : World) (hv : Ints w v xs) (hl : xs.length ≤ 1048576) :
    Calls Tryz.prog 65 #[.agg #[v]] w fun r w' => r = .returned (.bool (good xs)) ∧ Below w.heap.size w w' := by
  obtain ⟨A, c, rfl, hA⟩ := hv
  have HA := hid hA
  clear hA
  by_cases hn : 1 ≤ xs.length ∧ xs.length ≤ 10
  · have Hd := hid (range_true hn)
    obtain ⟨hn1, hn2⟩ := hn
    go_enter Tryz.func65, Tryz.ntmps65
    go_wp2_with (go_at_call 129; refine (l1In_any _ _ _ _).mono ?_; rw [Hd.out]; rintro e w' ⟨rfl, rfl⟩)
    go_loop [16] (fun i => ∃ k : Nat, k ≤ xs.length ∧ i = .int .i64 k ∧ Hid (∀ j, j < k → okAt xs j = true)) (fun i => xs.length - (intOf i).toNat)
    case atStart => exact ⟨0, Nat.zero_le _, rfl, hid (fun j hj => absurd hj (Nat.not_lt_zero _))⟩
    case round =>
      obtain ⟨k, hk, rfl, Hok⟩ := hrel
      by_cases hlt : k < xs.length
      · obtain ⟨b, o, rfl, hbl, hc⟩ := HA.out (by intro h; simp [h] at hlt)
        have hcell := hc k hlt
        obtain ⟨x, hx⟩ : ∃ x, xs.getD k 0 = x := ⟨_, rfl⟩
        rw [hx] at hcell
        have hp := two_pow_le k (by omega)
        have Wm := hid (wrap_mask k (by omega))
        by_cases hr : 0 ≤ x ∧ x ≤ (2 ^ k - 1 : Nat)
        · obtain ⟨z, rfl⟩ := Int.eq_ofNat_of_zero_le hr.1
          have Hr := hid (show (decide ((0 : Int) ≤ (z : Int)) && decide ((z : Int) ≤ ((2 ^ k - 1 : Nat) : Int))) = true by simp only [Bool.and_eq_true, decide_eq_true_eq]; exact hr)
          have hz : z < 2 ^ k := by omega
          have Hz := hid hz
          have Hx := hid hx
          have Hc := hid hc
          have hz10 : z < 1024 := by omega
          have hk10 : k < 10 := by omega
          clear hr hx hz hp hc
          go_wp2_with (go_at_call 129; rw [Wm.out]; refine (l1In_any _ _ _ _).mono ?_; rw [Hr.out]; rintro e w' ⟨rfl, rfl⟩)
          go_loop [6] (fun j => ∃ t : Nat, t ≤ k ∧ j = .int .i64 t ∧ Hid (∀ e, e < t → z.testBit e = true → sub (xs.getD e 0).toNat z = 0)) (fun j => k - (intOf j).toNat)
          case atStart => exact ⟨0, Nat.zero_le _, rfl, hid (fun j hj => absurd hj (Nat.not_lt_zero _))⟩
          case round =>
            obtain ⟨t, ht, rfl, Ht⟩ := hrel
            by_cases htk : t < k
            · have hbt := bit_tmod z t
              cases hbit : z.testBit t
              · have Hbit := hid hbit
                rw [hbit] at hbt
                clear hbit
                go_wp2
                go_round
                case rel => exact ⟨t + 1, by omega, by go_num, hid (fun e he hb => by
                  by_cases h : e = t
                  · subst h; rw [Hbit.out] at hb; cases hb
                  · exact Ht.out e (by omega) hb)⟩
                case measure => simp [intOf]; omega
              · obtain ⟨y, hy⟩ : ∃ y, xs.getD t 0 = y := ⟨_, rfl⟩
                have hsm := okAt_small (Hok.out t htk) (by omega)
                rw [hy] at hsm
                obtain ⟨q, rfl⟩ := Int.eq_ofNat_of_zero_le hsm.1
                have hct := Hc.out t (by omega)
                rw [hy] at hct
                have han := i64_andNot_nat q z (by omega) (by omega)
                have Hy := hid hy
                have Hbit := hid hbit
                rw [hbit] at hbt
                clear hbit hy hsm
                by_cases hs : sub q z = 0
                · have hs' : (((sub q z : Nat) : Int) != 0) = false := by rw [hs]; rfl
                  have Hs := hid hs
                  clear hs
                  go_wp2
                  go_round
                  case rel => exact ⟨t + 1, by omega, by go_num, hid (fun e he hb => by
                    by_cases h : e = t
                    · subst h; rw [Hy.out]; exact Hs.out
                    · exact Ht.out e (by omega) hb)⟩
                  case measure => simp [intOf]; omega
                · have hs' : (((sub q z : Nat) : Int) != 0) = true := by rw [bne_iff_ne]; omega
                  have Hg := hid (not_good hlt (not_closed Hx.out (by omega) Hbit.out (by rw [Hy.out]; exact hs)))
                  clear hs
                  go_wp2
                  go_ret
                  exact ⟨ret_bool Hg.out.symm, (Below.refl _ _).alloc (Nat.le_refl _) _⟩
            · obtain rfl : t = k := by omega
              have Hk := hid (closed_of Hx.out Hz.out Ht.out)
              go_wp2
              go_round
              case rel => exact ⟨t + 1, by omega, by go_num, hid (fun j hj => by
                by_cases h : j = t
                · subst h; exact Hk.out
                · exact Hok.out j (by omega))⟩
              case measure => simp [intOf]; omega
        · have Hr := hid (show (decide ((0 : Int) ≤ x) && decide (x ≤ ((2 ^ k - 1 : Nat) : Int))) = false by
            rw [Bool.eq_false_iff]; simp only [ne_eq, Bool.and_eq_true, decide_eq_true_eq]; exact hr)
          have Hg := hid (not_good hlt (okAt_not (by rw [hx]; exact hr)))
          clear hx hc hr hp
          go_wp2_with (go_at_call 129; rw [Wm.out]; refine (l1In_any _ _ _ _).mono ?_; rw [Hr.out]; rintro e w' ⟨rfl, rfl⟩)
          go_ret
          exact ⟨ret_bool Hg.out.symm, (Below.refl _ _).alloc (Nat.le_refl _) _⟩
      · obtain rfl : k = xs.length := by omega
        have Hg := hid (good_of hn1 hn2 Hok.out)
        go_wp2
        go_ret
        exact ⟨ret_bool Hg.out.symm, (Below.refl _ _).alloc (Nat.le_refl _) _⟩
  · have Hd := hid (range_false hn)
    have Hg := hid (not_good_length hn)
    clear hn
    go_enter Tryz.func65, Tryz.ntmps65
    go_wp2_with (go_at_call 129; refine (l1In_any _ _ _ _).mono ?_; rw [Hd.out]; rintro e w' ⟨rfl, rfl⟩)
    go_ret
    exact ⟨ret_bool Hg.out.symm, (Below.refl _ _).alloc (Nat.le_refl _) _⟩
end Go.Proofs.YtbmhaamenjhjfaaGreatDoor
namespace Go.Proofs.YtbmhaamenjhjfaaGreatDoor
open Go.RowKit Go.WideShapes Go.ChangeShapes
theorem Tryz.info3 : (Tryz.prog.info? 3).map (fun i => (i.zero, i.size, i.bytes)) = some (some (.int .i64 0), 1, 8) := by kernel_rfl
theorem Tryz.laidOut : laidOutB Tryz.prog = true := by kernel_rfl
end Go.Proofs.YtbmhaamenjhjfaaGreatDoor
namespace Go.Proofs.YtbmhaamenjhjfaaGreatDoor
open Go.RowKit Go.WideShapes Go.ChangeShapes
set_option linter.unusedVariables false
def Vals (l : List Int) : Array Value := (l.map (Value.int .i64)).toArray
theorem pow_lt10 (n : Nat) (h : n ≤ 9) : 2 ^ n ≤ 512 := by
  have := Nat.pow_le_pow_right (n := 2) (by decide) h
  simpa using this
theorem Vals_get {l : List Int} {i : Nat} (h : i < l.length) : (Vals l)[i]? = some (.int .i64 (l.getD i 0)) := by
  simp [Vals, h]
theorem Vals_set (l : List Int) (i : Nat) (y : Int) : (Vals l).setIfInBounds i (.int .i64 y) = Vals (l.set i y) := by
  unfold Vals
  rw [List.setIfInBounds_toArray, List.map_set]
theorem Vals_made (n : Nat) : madeCells #[.int .i64 0] n = Vals (List.replicate n 0) := by
  have := toList_madeCells_one (.int .i64 0) n
  rw [← Array.toList_inj, this]
  simp [Vals]
def hstep (xs : List Int) (i : Nat) (out : List Int) (j : Nat) : List Int :=
  if (xs.getD i 0).toNat.testBit j then out.set i (max (out.getD i 0) (out.getD j 0 + 1)) else out
def hin (xs : List Int) (i : Nat) (out : List Int) : Nat → List Int
  | 0 => out
  | j + 1 => hstep xs i (hin xs i out j) j
def hout (xs : List Int) (n : Nat) : Nat → List Int
  | 0 => List.replicate n 0
  | i + 1 => hin xs i (hout xs n i) i
def HB (out : List Int) (n : Nat) : Prop := out.length = n ∧ ∀ e, 0 ≤ out.getD e 0 ∧ out.getD e 0 ≤ e
theorem getD_set (l : List Int) (i e : Nat) (y : Int) (hi : i < l.length) : (l.set i y).getD e 0 = if i = e then y else l.getD e 0 := by
  simp only [List.getD, List.getElem?_set]
  by_cases h : i = e
  · subst h; simp [hi]
  · simp [h]
theorem HB_step {xs : List Int} {out : List Int} {n i j : Nat} (h : HB out n) (hi : i < n) (hj : j < i) : HB (hstep xs i out j) n := by
  unfold hstep
  split
  · refine ⟨by rw [List.length_set]; exact h.1, fun e => ?_⟩
    rw [getD_set _ _ _ _ (by rw [h.1]; exact hi)]
    have h1 := h.2 i
    have h2 := h.2 j
    split
    · rename_i he; subst he; omega
    · exact h.2 e
  · exact h
theorem HB_in {xs : List Int} {out : List Int} {n i : Nat} (h : HB out n) (hi : i < n) (j : Nat) (hj : j ≤ i) : HB (hin xs i out j) n := by
  induction j with
  | zero => exact h
  | succ j ih => exact HB_step (ih (by omega)) hi (by omega)
theorem HB_out (xs : List Int) (n i : Nat) (hi : i ≤ n) : HB (hout xs n i) n := by
  induction i with
  | zero =>
    refine ⟨by simp [hout], fun e => ?_⟩
    by_cases he : e < n
    · simp [hout, List.getD, he]
    · simp [hout, List.getD, he]
  | succ i ih => exact HB_in (ih (by omega)) (by omega) i (Nat.le_refl _)
def heightsL (xs : List Int) : List Int := if good xs then hout xs xs.length xs.length else []
theorem heightsL_yes {xs : List Int} (h : good xs = true) : heightsL xs = hout xs xs.length xs.length := if_pos h
theorem heightsL_no {xs : List Int} (h : good xs = false) : heightsL xs = [] := by simp [heightsL, h]
theorem heightsL_length (xs : List Int) : (heightsL xs).length ≤ 1048576 := by
  unfold heightsL
  split
  · rename_i h
    rw [(HB_out xs xs.length xs.length (Nat.le_refl _)).1]
    have := (good_length h).2
    omega
  · simp
theorem max_if (p q : Int) : (if p < q then q else p) = max p q := by split <;> omega
theorem l1Most_any (a b : Int) (w : World) : Calls Tryz.prog 242 #[.int .i64 a, .int .i64 b] w fun r w' => r = .returned (.int .i64 (max a b)) ∧ w = w' := by
  by_cases h : b < a
  · have H := hid (Int.max_eq_left (Int.le_of_lt h))
    go_enter Tryz.func242, Tryz.ntmps242
    go_wp2
    go_ret
    exact ⟨ret_int H.out.symm, rfl⟩
  · have H := hid (Int.max_eq_right (by omega : a ≤ b))
    go_enter Tryz.func242, Tryz.ntmps242
    go_wp2
    go_ret
    exact ⟨ret_int H.out.symm, rfl⟩
theorem implHeights_loop (v : Value) (xs : List Int) (w : World) (hv : Ints w v xs) (hg : good xs = true) :
    Calls Tryz.prog 231 #[.agg #[v]] w fun (r : Ending) w' => ∃ u, r = Ending.returned (.tuple #[u, .bool true]) ∧ OwnI 3 w' w.heap.size u (heightsL xs) ∧ (heightsL xs).length ≤ 1048576 ∧ Below w.heap.size w w' := by
  have hl10 := (good_length hg).2
  have HV := hid hv
  have HG := hid hg
  have HY := hid (heightsL_yes hg)
  have HL := hid (heightsL_length xs)
  obtain ⟨A, c, rfl, hA⟩ := hv
  have HA := hid hA
  clear hA hg
  have hmk := run_make_row' (P := Tryz.prog) 22 3 (.int .i64 0) 8 Tryz.underlying22 Tryz.info3 rfl .i64 .i64 xs.length (by omega) (by omega)
  have Hmk := hid hmk
  clear hmk
  go_enter Tryz.func231, Tryz.ntmps231
  go_wp2_with fail
  refine (implIsPoset_any _ xs _ (HV.out.alloc _) (by omega)).mono ?_
  rw [HG.out]
  rintro e w1 ⟨rfl, hb1⟩
  have hbox := ((At.new w (.slice A xs.length c) 28).below hb1).1
  have hbx2 := ((At.new w (.slice A xs.length c) 28).below hb1).2
  have hmk := Hmk.out
  have HB1 := hid (hb1.mono (show w.heap.size + 1 ≤ _ by simp))
  clear hb1
  go_wp2
  clear hbox hmk
  rw [Vals_made]
  go_loopw [18] (fun i wr => ∃ k : Nat, k ≤ xs.length ∧ i = .int .i64 k ∧ Blk wr w1.heap.size 3 (Vals (hout xs xs.length k)) ∧ Below (w.heap.size + 1) (w.alloc (.cells #[.slice A xs.length c] 28)) wr) (fun i _ => xs.length - (intOf i).toNat)
  case atStart => exact ⟨0, Nat.zero_le _, rfl, Blk.new _ _ _, HB1.out.alloc (by omega) _⟩
  case round =>
    obtain ⟨k, hk, rfl, hB, hb⟩ := hrel
    have HBk := hid hB
    have HBb := hid hb
    by_cases hlt : k < xs.length
    · obtain ⟨b, o, rfl, hbl, hc⟩ := HA.out (by intro h; simp [h] at hlt)
      have hcell : wr.cell? ⟨b, o + k, none⟩ = some (.int .i64 (xs.getD k 0)) := by
        rw [(below_box hb).cell (p := ⟨b, o + k, none⟩) hbl]; exact hc k hlt
      have hok := okAt_small (good_at HG.out hlt) (by omega)
      obtain ⟨x, hx⟩ : ∃ x, xs.getD k 0 = x := ⟨_, rfl⟩
      rw [hx] at hcell hok
      obtain ⟨z, rfl⟩ := Int.eq_ofNat_of_zero_le hok.1
      have Hx := hid hx
      clear hc hx hB hb
      go_wp2
      go_loopw [24] (fun j wi => ∃ t : Nat, t ≤ k ∧ j = .int .i64 t ∧ Blk wi w1.heap.size 3 (Vals (hin xs k (hout xs xs.length k) t)) ∧ Below (w.heap.size + 1) (w.alloc (.cells #[.slice (some ⟨b, o, none⟩) xs.length c] 28)) wi) (fun j _ => k - (intOf j).toNat)
      case atStart => exact ⟨0, Nat.zero_le _, rfl, HBk.out, HBb.out⟩
      case round =>
        obtain ⟨t, ht, rfl, hB, hb⟩ := hrel
        have HBt := hid hB
        have HBc := hid hb
        clear hB hb
        by_cases htk : t < k
        · cases hbit : z.testBit t
          · have Hbit := hid hbit
            clear hbit
            go_wp2_with (go_at_call 165; refine (hasElement_any z t (by omega) (by omega) _).mono ?_; rw [Hbit.out]; rintro e w' ⟨rfl, rfl⟩)
            go_roundw
            case rel => exact ⟨t + 1, by omega, by go_num, by rw [hin, hstep, Hx.out, Int.toNat_natCast, Hbit.out]; exact HBt.out, HBc.out⟩
            case measure => simp [intOf]; omega
          · have Hbit := hid hbit
            have hHB := HB_in (xs := xs) (HB_out xs xs.length k (by omega)) hlt t (by omega)
            obtain ⟨L, hL⟩ : ∃ L, hin xs k (hout xs xs.length k) t = L := ⟨_, rfl⟩
            rw [hL] at HBt hHB
            have HL1 := hid hL
            have q1 := hHB.2 k
            have q2 := hHB.2 t
            have t1 : wr.cell? ⟨w1.heap.size, k, none⟩ = some (.int .i64 (L.getD k 0)) := by rw [HBt.out.cell, Vals_get (by rw [hHB.1]; exact hlt)]
            have t2 : wr.cell? ⟨w1.heap.size, t, none⟩ = some (.int .i64 (L.getD t 0)) := by rw [HBt.out.cell, Vals_get (by rw [hHB.1]; omega)]
            have t3 := HBt.out.frozen k
            obtain ⟨p, hp⟩ : ∃ p, L.getD k 0 = p := ⟨_, rfl⟩
            obtain ⟨q, hq⟩ : ∃ q, L.getD t 0 = q := ⟨_, rfl⟩
            rw [hp] at t1 q1
            rw [hq] at t2 q2
            have Hp := hid hp
            have Hq := hid hq
            have hkz : (k : Int) < xs.length := by omega
            have htz : (t : Int) < xs.length := by omega
            clear hbit hL hp hq hHB
            go_wp2_with (go_at_call 165; refine (hasElement_any z t (by omega) (by omega) _).mono ?_; rw [Hbit.out]; rintro e w' ⟨rfl, rfl⟩)
            go_region
            go_wp2
            go_roundw
            case rel =>
              refine ⟨t + 1, by omega, by go_num, ?_, ?_⟩
              · rw [hin, HL1.out, hstep, Hx.out, Int.toNat_natCast, if_pos Hbit.out, Hp.out, Hq.out, max_if, ← Vals_set]
                exact HBt.out.set_ k _
              · exact (HBc.out.setCell (by show w.heap.size + 1 ≤ w1.heap.size; omega) _).drew
            case measure => simp [intOf]; omega
        · obtain rfl : t = k := by omega
          go_wp2
          go_roundw
          case rel => exact ⟨t + 1, by omega, by go_num, HBt.out, HBc.out⟩
          case measure => simp [intOf]; omega
    · obtain rfl : k = xs.length := by omega
      clear hB hb
      go_wp2
      go_ret2
      refine ⟨_, rfl, ?_, HL.out, below_box HBb.out⟩
      rw [HY.out]
      have hlen := (HB_out xs xs.length xs.length (Nat.le_refl _)).1
      have := Blk.own (B := w.heap.size) (xs := hout xs xs.length xs.length) (e := 3) HBk.out (by omega) (by rw [hlen]; omega)
      rw [hlen] at this
      exact this
theorem poHeights_any (v : Value) (xs : List Int) (w : World) (hv : Ints w v xs) (hg : good xs = true) :
    Calls Tryz.prog 216 #[.agg #[v]] w fun (r : Ending) w' => ∃ u, r = Ending.returned u ∧ OwnI 3 w' w.heap.size u (heightsL xs) ∧ Below w.heap.size w w' := by
  have hl10 := (good_length hg).2
  have HV := hid hv
  have HG := hid hg
  have HY := hid (heightsL_yes hg)
  obtain ⟨A, c, rfl, hA⟩ := hv
  have HA := hid hA
  clear hA hg
  have hmk := run_make_row' (P := Tryz.prog) 22 3 (.int .i64 0) 8 Tryz.underlying22 Tryz.info3 rfl .i64 .i64 xs.length (by omega) (by omega)
  have Hmk := hid hmk
  clear hmk
  go_enter Tryz.func216, Tryz.ntmps216
  have hmk := Hmk.out
  go_wp2
  clear hmk
  rw [Vals_made]
  go_loopw [14] (fun i wr => ∃ k : Nat, k ≤ xs.length ∧ i = .int .i64 k ∧ Blk wr (w.heap.size + 1) 3 (Vals (hout xs xs.length k)) ∧ Below (w.heap.size + 1) (w.alloc (.cells #[.slice A xs.length c] 28)) wr) (fun i _ => xs.length - (intOf i).toNat)
  case atStart => exact ⟨0, Nat.zero_le _, rfl, (by have := Blk.new (w.alloc (.cells #[.slice A xs.length c] 28)) 3 (Vals (hout xs xs.length 0)); simpa [hout] using this), (Below.refl _ _).alloc (by simp) _⟩
  case round =>
    obtain ⟨k, hk, rfl, hB, hb⟩ := hrel
    have HBk := hid hB
    have HBb := hid hb
    by_cases hlt : k < xs.length
    · obtain ⟨b, o, rfl, hbl, hc⟩ := HA.out (by intro h; simp [h] at hlt)
      have hcell : wr.cell? ⟨b, o + k, none⟩ = some (.int .i64 (xs.getD k 0)) := by
        rw [(below_box hb).cell (p := ⟨b, o + k, none⟩) hbl]; exact hc k hlt
      have hok := okAt_small (good_at HG.out hlt) (by omega)
      obtain ⟨x, hx⟩ : ∃ x, xs.getD k 0 = x := ⟨_, rfl⟩
      rw [hx] at hcell hok
      obtain ⟨z, rfl⟩ := Int.eq_ofNat_of_zero_le hok.1
      have Hx := hid hx
      clear hc hx hB hb
      go_wp2
      go_loopw [6] (fun j wi => ∃ t : Nat, t ≤ k ∧ j = .int .i64 t ∧ Blk wi (w.heap.size + 1) 3 (Vals (hin xs k (hout xs xs.length k) t)) ∧ Below (w.heap.size + 1) (w.alloc (.cells #[.slice (some ⟨b, o, none⟩) xs.length c] 28)) wi) (fun j _ => k - (intOf j).toNat)
      case atStart => exact ⟨0, Nat.zero_le _, rfl, HBk.out, HBb.out⟩
      case round =>
        obtain ⟨t, ht, rfl, hB, hb⟩ := hrel
        have HBt := hid hB
        have HBc := hid hb
        clear hB hb
        by_cases htk : t < k
        · cases hbit : z.testBit t
          · have Hbit := hid hbit
            clear hbit
            go_wp2_with (go_at_call 130; refine (poIn_any z t (by omega) _).mono ?_; rw [Hbit.out]; rintro e w' ⟨rfl, rfl⟩)
            go_roundw
            case rel => exact ⟨t + 1, by omega, by go_num, by rw [hin, hstep, Hx.out, Int.toNat_natCast, Hbit.out]; exact HBt.out, HBc.out⟩
            case measure => simp [intOf]; omega
          · have Hbit := hid hbit
            have hHB := HB_in (xs := xs) (HB_out xs xs.length k (by omega)) hlt t (by omega)
            obtain ⟨L, hL⟩ : ∃ L, hin xs k (hout xs xs.length k) t = L := ⟨_, rfl⟩
            rw [hL] at HBt hHB
            have HL1 := hid hL
            have q1 := hHB.2 k
            have q2 := hHB.2 t
            have t1 : wr.cell? ⟨(w.heap.size + 1), k, none⟩ = some (.int .i64 (L.getD k 0)) := by rw [HBt.out.cell, Vals_get (by rw [hHB.1]; exact hlt)]
            have t2 : wr.cell? ⟨(w.heap.size + 1), t, none⟩ = some (.int .i64 (L.getD t 0)) := by rw [HBt.out.cell, Vals_get (by rw [hHB.1]; omega)]
            have t3 := HBt.out.frozen k
            obtain ⟨p, hp⟩ : ∃ p, L.getD k 0 = p := ⟨_, rfl⟩
            obtain ⟨q, hq⟩ : ∃ q, L.getD t 0 = q := ⟨_, rfl⟩
            rw [hp] at t1 q1
            rw [hq] at t2 q2
            have Hp := hid hp
            have Hq := hid hq
            have hkz : (k : Int) < xs.length := by omega
            have htz : (t : Int) < xs.length := by omega
            clear hbit hL hp hq hHB
            go_wp2_with (go_at_call 130; refine (poIn_any z t (by omega) _).mono ?_; rw [Hbit.out]; rintro e w' ⟨rfl, rfl⟩)
            go_region_with (go_at_call 242; refine (l1Most_any _ _ _).mono ?_; rintro e w' ⟨rfl, rfl⟩)
            all_goals (go_wp2; go_roundw)
            all_goals first
              | exact ⟨t + 1, by omega, by go_num, by (rw [hin, HL1.out, hstep, Hx.out, Int.toNat_natCast, if_pos Hbit.out, Hp.out, Hq.out, ← Vals_set]; exact HBt.out.set_ k _), (HBc.out.setCell (p := ⟨w.heap.size + 1, k, none⟩) (Nat.le_refl _) _).drew⟩
              | (simp [intOf]; omega)
        · obtain rfl : t = k := by omega
          go_wp2
          go_roundw
          case rel => exact ⟨t + 1, by omega, by go_num, HBt.out, HBc.out⟩
          case measure => simp [intOf]; omega
    · obtain rfl : k = xs.length := by omega
      clear hB hb
      go_wp2
      go_ret
      refine ⟨_, rfl, ?_, below_box HBb.out⟩
      rw [HY.out]
      have hlen := (HB_out xs xs.length xs.length (Nat.le_refl _)).1
      have := Blk.own (B := w.heap.size) (xs := hout xs xs.length xs.length) (e := 3) HBk.out (by omega) (by rw [hlen]; omega)
      rw [hlen] at this
      exact this
theorem implHeightsOf_any (v : Value) (xs : List Int) (w : World) (hv : Ints w v xs) (hl : xs.length ≤ 1048576) :
    Calls Tryz.prog 231 #[.agg #[v]] w fun (r : Ending) w' => ∃ u, r = Ending.returned (.tuple #[u, .bool (good xs)]) ∧ OwnI 3 w' w.heap.size u (heightsL xs) ∧ (heightsL xs).length ≤ 1048576 ∧ Below w.heap.size w w' := by
  cases hg : good xs
  · have HV := hid hv
    have HG := hid hg
    have HN := hid (heightsL_no hg)
    have HL := hid (heightsL_length xs)
    clear hv hg
    go_enter Tryz.func231, Tryz.ntmps231
    go_wp2_with (go_at_call 147; refine (implIsPoset_any _ xs _ (HV.out.alloc _) hl).mono ?_; rw [HG.out]; rintro e w1 ⟨rfl, hb1⟩)
    go_ret2
    exact ⟨_, rfl, by rw [HN.out]; exact OwnI.nil _ _ _, HL.out, ((Below.refl _ _).alloc (Nat.le_refl _) _).trans (hb1.mono (by simp))⟩
  · exact implHeights_loop v xs w hv hg
end Go.Proofs.YtbmhaamenjhjfaaGreatDoor
