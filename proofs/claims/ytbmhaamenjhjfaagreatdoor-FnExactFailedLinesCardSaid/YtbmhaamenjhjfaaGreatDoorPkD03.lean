/- Covers TextA TextR -/
import Derived.Laws.Concat
import Derived.Laws.IdiomStrings
import Derived.BigQuiet
import Derived.Test.YtbmhaamenjhjfaaGreatDoorPkD02
namespace Go.Proofs.YtbmhaamenjhjfaaGreatDoor
open Go.RowKit Go.WideShapes Go.ChangeShapes
set_option linter.unusedVariables false
theorem Pairs.mono {ti ts : TypeId} {w : World} {B B' : Nat} {v : Value} {ps : List (Nat × Nat)} (h : Pairs ti ts w B v ps) (hB : B' ≤ B) : Pairs ti ts w B' v ps := by
  obtain ⟨us, h1, h2, h3, h4⟩ := h
  refine ⟨us, h1, ⟨h2.1, ?_⟩, fun j u p hu hp => ?_, h4⟩
  · rcases h2.2 with h2 | ⟨g, cap, cur, hv, hg, r⟩
    · exact .inl h2
    · exact .inr ⟨g, cap, cur, hv, by omega, r⟩
  · obtain ⟨g, e, hg, hb⟩ := h3 j u p hu hp
    exact ⟨g, e, by omega, hb⟩
def bitAt (xs : List Int) (i j : Nat) : Bool := (xs.getD i 0).toNat.testBit j
def coverB (xs : List Int) (j i : Nat) : Bool := bitAt xs i j && !((List.range i).any fun k => decide (j < k) && (bitAt xs i k && bitAt xs k j))
theorem coverB_true {xs : List Int} {j i : Nat} (h1 : bitAt xs i j = true) (h2 : ∀ k, j < k → k < i → (bitAt xs i k && bitAt xs k j) = false) : coverB xs j i = true := by
  unfold coverB
  rw [h1, Bool.true_and, Bool.not_eq_true', List.any_eq_false]
  intro k hk
  rw [List.mem_range] at hk
  by_cases hjk : j < k
  · rw [h2 k hjk hk]; simp
  · simp [hjk]
theorem coverB_false {xs : List Int} {j i k : Nat} (h1 : j < k) (h2 : k < i) (h3 : (bitAt xs i k && bitAt xs k j) = true) : coverB xs j i = false := by
  unfold coverB
  have : ((List.range i).any fun k => decide (j < k) && (bitAt xs i k && bitAt xs k j)) = true := List.any_eq_true.2 ⟨k, List.mem_range.2 h2, by rw [h3]; simp [h1]⟩
  rw [this]; simp
theorem good_bit {xs : List Int} (hg : good xs = true) {i j : Nat} (hi : i < xs.length) (h : bitAt xs i j = true) : j < i := by
  have h1 := okAt_range (good_at hg hi)
  refine testBit_lt (n := i) ?_ h
  have := Nat.one_le_two_pow (n := i)
  omega
theorem coverB_lt {xs : List Int} (hg : good xs = true) {i j : Nat} (hi : i < xs.length) (h : i ≤ j) : coverB xs j i = false := by
  unfold coverB
  cases hb : bitAt xs i j
  · rfl
  · have := good_bit hg hi hb
    omega
theorem cover_top {xs : List Int} (hg : good xs = true) {i j : Nat} (hi : i < xs.length) : (top xs (xs.getD i 0).toNat).testBit j = coverB xs j i := by
  unfold top
  rw [sub_testBit, Bool.eq_iff_iff]
  simp only [Bool.and_eq_true, Bool.not_eq_true']
  constructor
  · rintro ⟨h1, h2⟩
    refine coverB_true h1 fun k hjk hki => ?_
    cases hc : (bitAt xs i k && bitAt xs k j)
    · rfl
    · simp only [Bool.and_eq_true] at hc
      have : (under xs (xs.getD i 0).toNat).testBit j = true := (underN_testBit _ _ _ _).2 ⟨k, by omega, hc.1, hc.2⟩
      rw [this] at h2; cases h2
  · intro h
    have h1 : bitAt xs i j = true := by
      unfold coverB at h
      simp only [Bool.and_eq_true] at h
      exact h.1
    refine ⟨h1, ?_⟩
    cases hu : (under xs (xs.getD i 0).toNat).testBit j
    · rfl
    · obtain ⟨k, hk, ha, hb⟩ := (underN_testBit _ _ _ _).1 hu
      have h3 := good_bit hg hi ha
      have h4 := good_bit hg hk hb
      rw [coverB_false h4 h3 (by simp only [Bool.and_eq_true]; exact ⟨ha, hb⟩)] at h
      cases h
def covIn (xs : List Int) (j : Nat) : Nat → List (Nat × Nat)
  | 0 => []
  | i + 1 => if coverB xs j i then covIn xs j i ++ [(j, i)] else covIn xs j i
def covPS (xs : List Int) (n : Nat) : Nat → List (Nat × Nat)
  | 0 => []
  | j + 1 => covPS xs n j ++ covIn xs j n
theorem covIn_length (xs : List Int) (j i : Nat) : (covIn xs j i).length ≤ i := by
  induction i with
  | zero => simp [covIn]
  | succ i ih =>
    unfold covIn
    split
    · rw [List.length_append, List.length_singleton]; omega
    · omega
theorem covPS_length (xs : List Int) (n j : Nat) : (covPS xs n j).length ≤ n * j := by
  induction j with
  | zero => simp [covPS]
  | succ j ih =>
    unfold covPS
    have := covIn_length xs j n
    rw [List.length_append, Nat.mul_succ]
    omega
theorem covIn_start {xs : List Int} (hg : good xs = true) {j : Nat} (i : Nat) (hi : i ≤ j + 1) (hj : i ≤ xs.length) : covIn xs j i = [] := by
  induction i with
  | zero => rfl
  | succ i ih =>
    unfold covIn
    rw [coverB_lt hg (by omega) (by omega)]
    exact ih (by omega) (by omega)
def coversP (xs : List Int) : List (Nat × Nat) := if good xs then covPS xs xs.length xs.length else []
theorem coversP_length (xs : List Int) : (coversP xs).length ≤ 100 := by
  unfold coversP
  split
  · rename_i h
    have h1 := covPS_length xs xs.length xs.length
    have h2 := (good_length h).2
    have h3 : xs.length * xs.length ≤ 10 * 10 := Nat.mul_le_mul h2 h2
    omega
  · simp
theorem poCovers_any (v : Value) (xs : List Int) (j i : Nat) (w : World) (hv : Ints w v xs) (hg : good xs = true) (hj : j < xs.length) (hi : i < xs.length) :
    Calls Tryz.prog 185 #[.agg #[v], .int .i64 j, .int .i64 i] w fun r w' => r = .returned (.bool (coverB xs j i)) ∧ Below w.heap.size w w' := by
  have hl10 := (good_length hg).2
  obtain ⟨A, c, rfl, hA⟩ := hv
  obtain ⟨b, o, rfl, hbl, hc⟩ := hA (by intro h; simp [h] at hi)
  have hci := hc i hi
  have hok := okAt_small (good_at hg hi) (by omega)
  obtain ⟨x, hx⟩ : ∃ x, xs.getD i 0 = x := ⟨_, rfl⟩
  rw [hx] at hci hok
  obtain ⟨z, rfl⟩ := Int.eq_ofNat_of_zero_le hok.1
  have HG := hid hg
  have HC := hid hc
  have hb0 : bitAt xs i j = z.testBit j := by unfold bitAt; rw [hx, Int.toNat_natCast]
  have hbk : ∀ k, bitAt xs i k = z.testBit k := fun k => by unfold bitAt; rw [hx, Int.toNat_natCast]
  have HBK := hid hbk
  have hz10 : z < 1024 := by omega
  have hiz : (i : Int) < xs.length := by omega
  cases hbit : z.testBit j
  · have H : Hid (coverB xs j i = false) := hid (by unfold coverB; rw [hb0, hbit]; rfl)
    have Hbit := hid hbit
    clear hA hc hx hg hb0 hbk hbit hok
    go_enter Tryz.func185, Tryz.ntmps185
    go_wp2_with (go_at_call 130; refine (poIn_any z j (by omega) _).mono ?_; rw [Hbit.out]; rintro e w' ⟨rfl, rfl⟩)
    go_ret
    exact ⟨ret_bool H.out.symm, (Below.refl _ _).alloc (Nat.le_refl _) _⟩
  · have hji : j < i := good_bit hg hi (by rw [hb0]; exact hbit)
    have Hb0 := hid (hb0.trans hbit)
    have Hbit := hid hbit
    clear hA hc hx hg hb0 hbk hbit hok
    go_enter Tryz.func185, Tryz.ntmps185
    go_wp2_with (go_at_call 130; refine (poIn_any z j (by omega) _).mono ?_; rw [Hbit.out]; rintro e w' ⟨rfl, rfl⟩)
    go_loop [7] (fun q => ∃ k : Nat, j + 1 ≤ k ∧ k ≤ i ∧ q = .int .i64 k ∧ Hid (∀ e, j < e → e < k → (bitAt xs i e && bitAt xs e j) = false)) (fun q => i - (intOf q).toNat)
    case atStart => exact ⟨j + 1, Nat.le_refl _, by omega, by go_num, hid (fun e h1 h2 => by omega)⟩
    case round =>
      obtain ⟨k, hjk, hki, rfl, Hk⟩ := hrel
      by_cases hlt : k < i
      · have hlt' : (k : Int) < i := by omega
        have hkn : (k : Int) < xs.length := by omega
        cases hbk : z.testBit k
        · have Hbk := hid hbk
          clear hbk
          go_wp2_with (go_at_call 130; refine (poIn_any z k (by omega) _).mono ?_; rw [Hbk.out]; rintro e w' ⟨rfl, rfl⟩)
          go_round
          case rel => exact ⟨k + 1, by omega, by omega, by go_num, hid (fun e h1 h2 => by
            by_cases h : e = k
            · subst h; rw [HBK.out, Hbk.out]; rfl
            · exact Hk.out e h1 (by omega))⟩
          case measure => simp [intOf]; omega
        · have hck := HC.out k (by omega)
          have hok := okAt_small (good_at HG.out (show k < xs.length by omega)) (by omega)
          obtain ⟨y, hy⟩ : ∃ y, xs.getD k 0 = y := ⟨_, rfl⟩
          rw [hy] at hck hok
          obtain ⟨t, rfl⟩ := Int.eq_ofNat_of_zero_le hok.1
          have Hbk := hid hbk
          have Hkj : Hid (bitAt xs k j = t.testBit j) := hid (by unfold bitAt; rw [hy, Int.toNat_natCast])
          have tok1 : True := trivial
          clear hbk hy hok
          cases hbt : t.testBit j
          · have Hbt := hid hbt
            clear hbt
            go_wp2_with fail
            refine (poIn_any z k (by omega) _).mono ?_
            rw [Hbk.out]
            rintro e w' ⟨rfl, rfl⟩
            go_wp2_with fail
            refine (poIn_any t j (by omega) _).mono ?_
            rw [Hbt.out]
            rintro e w' ⟨rfl, rfl⟩
            go_wp2
            go_round
            case rel => exact ⟨k + 1, by omega, by omega, by go_num, hid (fun e h1 h2 => by
              by_cases h : e = k
              · subst h; rw [Hkj.out, Hbt.out, Bool.and_false]
              · exact Hk.out e h1 (by omega))⟩
            case measure => simp [intOf]; omega
          · have Hbt := hid hbt
            have H : Hid (coverB xs j i = false) := hid (coverB_false (k := k) (by omega) hlt (by rw [HBK.out, Hbk.out, Hkj.out, hbt]; rfl))
            clear hbt
            go_wp2_with fail
            refine (poIn_any z k (by omega) _).mono ?_
            rw [Hbk.out]
            rintro e w' ⟨rfl, rfl⟩
            go_wp2_with fail
            refine (poIn_any t j (by omega) _).mono ?_
            rw [Hbt.out]
            rintro e w' ⟨rfl, rfl⟩
            go_wp2
            go_ret
            exact ⟨ret_bool H.out.symm, (Below.refl _ _).alloc (Nat.le_refl _) _⟩
      · obtain rfl : k = i := by omega
        have H := hid (coverB_true Hb0.out Hk.out)
        go_wp2
        go_ret
        exact ⟨ret_bool H.out.symm, (Below.refl _ _).alloc (Nat.le_refl _) _⟩
theorem poPairs_any (v : Value) (xs : List Int) (w : World) (hv : Ints w v xs) (hg : good xs = true) :
    Calls Tryz.prog 134 #[.agg #[v]] w fun (r : Ending) w' => ∃ u, r = Ending.returned u ∧ Pairs 3 22 w' (w.heap.size + 1) u (covPS xs xs.length xs.length) ∧ Below w.heap.size w w' := by
  have hl10 := (good_length hg).2
  have HV := hid hv
  have HG := hid hg
  obtain ⟨A, c, rfl, -⟩ := hv
  obtain ⟨n, hn⟩ : ∃ n, xs.length = n := ⟨_, rfl⟩
  have Hn := hid hn
  rw [hn] at hl10 HV ⊢
  clear hg hn
  go_enter Tryz.func134, Tryz.ntmps134
  go_wp2
  go_loopw [3, 9] (fun q jj wr => ∃ j : Nat, j ≤ n ∧ jj = .int .i64 j ∧ Pairs 3 22 wr (w.heap.size + 1) q (covPS xs n j) ∧ Below (w.heap.size + 1) (w.alloc (.cells #[.slice A n c] 28)) wr) (fun _ jj _ => n - (intOf jj).toNat)
  case atStart => exact ⟨0, Nat.zero_le _, rfl, Pairs.nil _ _ _ _, Below.refl _ _⟩
  case round =>
    obtain ⟨j, hj, rfl, hP, hb⟩ := hrel
    have hbox := box_cell hb 0
    have hbz : w.heap.size < wr.heap.size := by have := hb.size; simp at this; omega
    have HPo := hid hP
    have HBo := hid hb
    clear hP hb
    by_cases hjn : j < n
    · have hl1 := covPS_length xs n j
      have hl3 : n * j ≤ 100 := by
        have : n * j ≤ 10 * 10 := Nat.mul_le_mul hl10 (by omega)
        omega
      go_wp2
      clear hbox hbz
      go_loopw [3, 15] (fun q ii wi => ∃ i : Nat, i ≤ n ∧ ii = .int .i64 i ∧ Pairs 3 22 wi (w.heap.size + 1) q (covPS xs n j ++ covIn xs j i) ∧ Below (w.heap.size + 1) (w.alloc (.cells #[.slice A n c] 28)) wi) (fun _ ii _ => n - (intOf ii).toNat)
      case atStart => exact ⟨0, Nat.zero_le _, rfl, by simpa [covIn] using HPo.out, HBo.out⟩
      case round =>
        obtain ⟨i, hi, rfl, hP, hb⟩ := hrel
        have hbox := box_cell hb 0
        have hbz : w.heap.size < wr.heap.size := by have := hb.size; simp at this; omega
        have hl2 := covIn_length xs j i
        obtain ⟨L, hL⟩ : ∃ L, covPS xs n j ++ covIn xs j i = L := ⟨_, rfl⟩
        have hll : L.length ≤ 200 := by rw [← hL, List.length_append]; omega
        rw [hL] at hP
        have HP := hid hP
        have HB := hid hb
        have HLL := hid hL
        clear hP hb hL hl2
        by_cases hin : i < n
        · have HIN : Hid (Ints wr (.slice A n c) xs) := hid (Ints.box HV.out HB.out)
          cases hcv : coverB xs j i
          · have Hcv := hid hcv
            clear hcv
            go_wp2_with (go_at_call 185; refine (poCovers_any _ xs j i _ HIN.out HG.out (by rw [Hn.out]; exact hjn) (by rw [Hn.out]; exact hin)).mono ?_; rw [Hcv.out]; rintro e w2 ⟨rfl, hb2⟩)
            go_roundw
            case rel => exact ⟨i + 1, by omega, by go_num, by (rw [covIn, if_neg (by rw [Hcv.out]; decide), HLL.out]; exact HP.out.below hb2), HB.out.trans (hb2.mono (by omega))⟩
            case measure => simp [intOf]; omega
          · have Hcv := hid hcv
            clear hcv
            go_wp2_with fail
            refine (poCovers_any _ xs j i _ HIN.out HG.out (by rw [Hn.out]; exact hjn) (by rw [Hn.out]; exact hin)).mono ?_
            rw [Hcv.out]
            rintro e w2 ⟨rfl, hb2⟩
            have HP1 := hid (HP.out.below hb2)
            have HB1 := hid (HB.out.trans (hb2.mono (by omega)))
            have hz1 : w.heap.size + 1 ≤ w2.heap.size := by have := hb2.size; omega
            clear hb2 hbox
            go_wp2_with (at_builtin; refine wpList_append_pair rfl _ _ 163 22 3 rfl Tryz.underlying163 Tryz.info22 (by decide) (w.heap.size + 1) _ _ j i rfl HP1.out rfl rfl (by omega) (by omega) ?_; intro q2 w3 hp2 hb3)
            go_roundw
            case rel => exact ⟨i + 1, by omega, by go_num, by (rw [covIn, if_pos Hcv.out, ← List.append_assoc, HLL.out]; exact hp2), HB1.out.trans hb3⟩
            case measure => simp [intOf]; omega
        · obtain rfl : i = n := by omega
          go_wp2
          go_roundw
          case rel => exact ⟨j + 1, by omega, by go_num, by (rw [covPS, HLL.out]; exact HP.out), HB.out⟩
          case measure => simp [intOf]; omega
    · obtain rfl : j = n := by omega
      go_wp2
      go_ret
      exact ⟨_, rfl, HPo.out, below_box HBo.out⟩
theorem coversP_yes {xs : List Int} (h : good xs = true) : coversP xs = covPS xs xs.length xs.length := if_pos h
theorem coversP_no {xs : List Int} (h : good xs = false) : coversP xs = [] := by simp [coversP, h]
set_option maxHeartbeats 4000000 in
theorem implCoversP_any (v : Value) (xs : List Int) (w : World) (hv : Ints w v xs) (hl : xs.length ≤ 1048576) :
    Calls Tryz.prog 166 #[.agg #[v]] w fun (r : Ending) w' => ∃ u, r = Ending.returned (.tuple #[u, .bool (good xs)]) ∧ Pairs 3 22 w' (w.heap.size + 1) u (coversP xs) ∧ Below w.heap.size w w' := by
  have HV := hid hv
  cases hg : good xs
  · have HG := hid hg
    have HN := hid (coversP_no hg)
    clear hv hg
    go_enter Tryz.func166, Tryz.ntmps166
    go_wp2_with (go_at_call 147; refine (implIsPoset_any _ xs _ (HV.out.alloc _) hl).mono ?_; rw [HG.out]; rintro e w1 ⟨rfl, hb1⟩)
    go_ret2
    exact ⟨_, rfl, by rw [HN.out]; exact Pairs.nil _ _ _ _, ((Below.refl _ _).alloc (Nat.le_refl _) _).trans (hb1.mono (by simp))⟩
  · have hl10 := (good_length hg).2
    have HG := hid hg
    have HY := hid (coversP_yes hg)
    have HSM := hid (good_small hg)
    have HCT : Hid (∀ i j, i < xs.length → (top xs (xs.getD i 0).toNat).testBit j = coverB xs j i) := hid (fun i j hi => cover_top hg hi)
    have HST : Hid (∀ j, j < xs.length → covIn xs j (j + 1) = []) := hid (fun j hj => covIn_start hg (j + 1) (Nat.le_refl _) hj)
    have HOK : Hid (∀ i, i < xs.length → 0 ≤ xs.getD i 0 ∧ xs.getD i 0 < 512) := hid (fun i hi => okAt_small (good_at hg hi) (by omega))
    obtain ⟨A, c, rfl, hA⟩ := hv
    have HA := hid hA
    obtain ⟨n, hn⟩ : ∃ n, xs.length = n := ⟨_, rfl⟩
    have Hn := hid hn
    rw [hn] at hl10 HV HA HY HCT HST HOK ⊢
    clear hg hn hA
    go_enter Tryz.func166, Tryz.ntmps166
    go_wp2_with fail
    refine (implIsPoset_any _ xs _ (HV.out.alloc _) hl).mono ?_
    rw [HG.out]
    rintro e w1 ⟨rfl, hb1⟩
    have hbox := ((At.new w (.slice A n c) 28).below hb1).1
    have hbx2 := ((At.new w (.slice A n c) 28).below hb1).2
    have HB1 := hid (hb1.mono (show w.heap.size + 1 ≤ _ by simp))
    clear hb1
    go_wp2
    clear hbox hbx2
    go_loopw [4, 13] (fun q jj wr => ∃ j : Nat, j ≤ n ∧ jj = .int .i64 j ∧ Pairs 3 22 wr (w.heap.size + 1) q (covPS xs n j) ∧ Below (w.heap.size + 1) (w.alloc (.cells #[.slice A n c] 28)) wr) (fun _ jj _ => n - (intOf jj).toNat)
    case atStart => exact ⟨0, Nat.zero_le _, rfl, Pairs.nil _ _ _ _, HB1.out⟩
    case round =>
      obtain ⟨j, hj, rfl, hP, hb⟩ := hrel
      have HPo := hid hP
      have HBo := hid hb
      clear hP hb
      by_cases hjn : j < n
      · have hl1 := covPS_length xs n j
        have hl3 : n * j ≤ 100 := by
          have : n * j ≤ 10 * 10 := Nat.mul_le_mul hl10 (by omega)
          omega
        go_wp2
        go_loopw [4, 6] (fun q ii wi => ∃ i : Nat, j + 1 ≤ i ∧ i ≤ n ∧ ii = .int .i64 i ∧ Pairs 3 22 wi (w.heap.size + 1) q (covPS xs n j ++ covIn xs j i) ∧ Below (w.heap.size + 1) (w.alloc (.cells #[.slice A n c] 28)) wi) (fun _ ii _ => n - (intOf ii).toNat)
        case atStart => exact ⟨j + 1, Nat.le_refl _, by omega, by go_num, by (rw [HST.out j hjn, List.append_nil]; exact HPo.out), HBo.out⟩
        case round =>
          obtain ⟨i, hji, hi, rfl, hP, hb⟩ := hrel
          have hbox := box_cell hb 0
          have hbz : w.heap.size < wr.heap.size := by have := hb.size; simp at this; omega
          have hl2 := covIn_length xs j i
          obtain ⟨L, hL⟩ : ∃ L, covPS xs n j ++ covIn xs j i = L := ⟨_, rfl⟩
          have hll : L.length ≤ 200 := by rw [← hL, List.length_append]; omega
          rw [hL] at hP
          have HP := hid hP
          have HB := hid hb
          have HLL := hid hL
          clear hP hL hl2
          by_cases hin : i < n
          · obtain ⟨b, o, rfl, hbl, hc⟩ := HA.out (by intro h; have := Hn.out; rw [h] at this; simp at this; omega)
            have hcell : wr.cell? ⟨b, o + i, none⟩ = some (.int .i64 (xs.getD i 0)) := by
              rw [(below_box hb).cell (p := ⟨b, o + i, none⟩) hbl]; exact hc i hin
            have hok := HOK.out i hin
            have hct := HCT.out i j hin
            obtain ⟨x, hx⟩ : ∃ x, xs.getD i 0 = x := ⟨_, rfl⟩
            rw [hx] at hcell hok hct
            obtain ⟨z, rfl⟩ := Int.eq_ofNat_of_zero_le hok.1
            rw [Int.toNat_natCast] at hct
            have HIN : Hid (Ints wr (.slice (some ⟨b, o, none⟩) n c) xs) := hid (Ints.box HV.out HB.out)
            obtain ⟨t, ht⟩ : ∃ t, top xs z = t := ⟨_, rfl⟩
            have ht10 : t < 1024 := by rw [← ht]; exact Nat.lt_of_le_of_lt (sub_le _ _) (by omega)
            have HT : Hid (t.testBit j = coverB xs j i) := hid (by rw [← ht]; exact hct)
            have HTT := hid ht
            have hz3 : z < 1024 := by omega
            have hin' : (i : Int) < n := by omega
            clear hb hc hx hct ht
            cases hcv : coverB xs j i
            · have Hcv := hid (HT.out.trans hcv)
              have Hc2 := hid hcv
              clear hcv
              go_wp2
              go_region_with (first | (go_at_call 178; refine (top_any _ xs z _ HIN.out.drew (by rw [Hn.out]; exact hl10) hz3 (HSM.out z)).mono ?_; rw [HTT.out]; rintro e w2 ⟨rfl, hb2⟩; have HP2 := hid ((HP.out.below (Go.Joins.below_draws _ _ 1)).below hb2); have HB2 := hid (HB.out.drew.trans (hb2.mono (by simp; omega))); clear hb2) | (go_at_call 165; refine (hasElement_any t j (by omega) (by omega) _).mono ?_; rw [Hcv.out]; rintro e w' ⟨rfl, rfl⟩))
              all_goals (go_wp2; go_roundw)
              all_goals first
                | exact ⟨i + 1, by omega, by omega, by go_num, by (rw [covIn, if_neg (by rw [Hc2.out]; decide), HLL.out]; exact HP2.out), HB2.out⟩
                | (simp [intOf]; omega)
            · have Hcv := hid (HT.out.trans hcv)
              have Hc2 := hid hcv
              clear hcv
              go_wp2
              go_region_with (first | (go_at_call 178; refine (top_any _ xs z _ HIN.out.drew (by rw [Hn.out]; exact hl10) hz3 (HSM.out z)).mono ?_; rw [HTT.out]; rintro e w2 ⟨rfl, hb2⟩; have HP1 := hid ((HP.out.below (Go.Joins.below_draws _ _ 1)).below hb2); have HB1' := hid (HB.out.drew.trans (hb2.mono (by simp; omega))); have hz1 : w.heap.size + 1 ≤ w2.heap.size := Nat.le_trans (Nat.succ_le_of_lt hbz) hb2.size; clear hb2) | (go_at_call 165; refine (hasElement_any t j (by omega) (by omega) _).mono ?_; rw [Hcv.out]; rintro e w' ⟨rfl, rfl⟩))
              all_goals (go_wp2_with (at_builtin; refine wpList_append_pair rfl _ _ 163 22 3 rfl Tryz.underlying163 Tryz.info22 (by decide) (w.heap.size + 1) _ _ j i rfl HP1.out rfl rfl (by omega) (by omega) ?_; intro q2 w3 hp2 hb3))
              all_goals go_roundw
              all_goals first
                | exact ⟨i + 1, by omega, by omega, by go_num, by (rw [covIn, if_pos Hc2.out, ← List.append_assoc, HLL.out]; exact hp2), HB1'.out.trans hb3⟩
                | (simp [intOf]; omega)
          · obtain rfl : i = n := by omega
            clear hb
            go_wp2
            go_roundw
            case rel => exact ⟨j + 1, by omega, by go_num, by (rw [covPS, HLL.out]; exact HP.out), HB.out⟩
            case measure => simp [intOf]; omega
      · obtain rfl : j = n := by omega
        go_wp2
        go_ret2
        exact ⟨_, rfl, by rw [HY.out]; exact HPo.out, below_box HBo.out⟩
end Go.Proofs.YtbmhaamenjhjfaaGreatDoor
namespace Go.Proofs.YtbmhaamenjhjfaaGreatDoor
open Go.RowKit Go.WideShapes Go.ChangeShapes
set_option linter.unusedVariables false
def sB (l : List UInt8) : ByteArray := ⟨l.toArray⟩
theorem sB_size (l : List UInt8) : (sB l).size = l.length := by show l.toArray.size = _; simp
theorem sB_app (a b : List UInt8) : sB a ++ sB b = sB (a ++ b) := by
  unfold sB
  rw [ByteArray.mk_append_mk] <;> simp
theorem run_sB (a b : List UInt8) (h : a.length + b.length ≤ 1000000) (w : World) : (Op.stringOp .add (sB a) (sB b)).run Tryz.prog w = .ok (.string (sB (a ++ b))) w := by
  rw [run_string_add_sum w _ _ (by rw [sB_size, sB_size]; omega), sB_app]
theorem run_sB1 (a : List UInt8) (c : UInt8) (h : a.length ≤ 900000) (w : World) : (Op.stringOp .add (sB a) ⟨#[c]⟩).run Tryz.prog w = .ok (.string (sB (a ++ [c]))) w := run_sB a [c] (by simp <;> omega) w
def numL (n : Nat) : List UInt8 := if n < 10 then [UInt8.ofNat (48 + n)] else [49, 48]
theorem numL_length (n : Nat) : (numL n).length ≤ 2 := by unfold numL; split <;> simp
theorem ret_s {a b : ByteArray} (h : a = b) : Ending.returned (.string a) = .returned (.string b) := by rw [h]
set_option maxRecDepth 100000 in
theorem small_lo (n : Nat) (w : World) (h : n ≤ 10) :
    Calls Tryz.prog 236 #[.int .i64 n] w fun r w' => r = .returned (.string (sB (numL n))) ∧ w = w' := by
  rcases (by omega : n = 0 ∨ n = 1 ∨ n = 2 ∨ n = 3 ∨ n = 4 ∨ n = 5 ∨ n = 6 ∨ n = 7 ∨ n = 8 ∨ n = 9 ∨ n = 10) with rfl | rfl | rfl | rfl | rfl | rfl | rfl | rfl | rfl | rfl | rfl
  all_goals clear h
  all_goals go_enter Tryz.func236, Tryz.ntmps236
  all_goals go_wp2
  all_goals go_ret
  all_goals exact ⟨ret_s rfl, rfl⟩
set_option maxRecDepth 100000 in
theorem formatInt_lo (n : Nat) (w : World) (h : n ≤ 10) :
    Calls Tryz.prog 210 #[.int .i64 n, .int .i64 10] w fun r w' => r = .returned (.string (sB (numL n))) ∧ w = w' := by
  have h0 : (0 : Int) ≤ (n : Int) := by omega
  have h1 : (n : Int) < 100 := by omega
  have H := hid (small_lo n w h)
  go_enter Tryz.func210, Tryz.ntmps210
  go_wp2_with (go_at_call 236; refine H.out.mono ?_; rintro e w' ⟨rfl, rfl⟩)
  go_ret
  exact ⟨rfl, rfl⟩
set_option maxRecDepth 100000 in
theorem itoaI_lo (n : Nat) (w : World) (h : n ≤ 10) :
    Calls Tryz.prog 174 #[.int .i64 n] w fun r w' => r = .returned (.string (sB (numL n))) ∧ w = w' := by
  have H := hid (formatInt_lo n w h)
  go_enter Tryz.func174, Tryz.ntmps174
  go_wp2_with (go_at_call 210; refine H.out.mono ?_; rintro e w' ⟨rfl, rfl⟩)
  go_ret
  exact ⟨rfl, rfl⟩
set_option maxRecDepth 100000 in
theorem itoa_lo (n : Nat) (w : World) (h : n ≤ 10) :
    Calls Tryz.prog 114 #[.int .i64 n] w fun r w' => r = .returned (.string (sB (numL n))) ∧ w = w' := by
  have H := hid (itoaI_lo n w h)
  go_enter Tryz.func114, Tryz.ntmps114
  go_wp2_with (go_at_call 174; refine H.out.mono ?_; rintro e w' ⟨rfl, rfl⟩)
  go_ret
  exact ⟨rfl, rfl⟩
theorem convAt (n : Nat) (h : n < 10) (w : World) (b : Nat) (hc : w.cell? ⟨b, 0, none⟩ = some (.int .u8 (48 + (n : Int)))) :
    (convert 94 9 (.slice (some ⟨b, 0, none⟩) 1 1)).run Tryz.prog w = .ok (.string (sB [UInt8.ofNat (48 + n)])) w :=
  run_convert_bytes_back (P := Tryz.prog) _ 94 9 5 ⟨b, 0, none⟩ 1 [UInt8.ofNat (48 + n)] Tryz.underlying94 Tryz.underlying5 Tryz.underlying9 (by
    intro j hj
    have h0 : j = 0 := by simpa using hj
    subst h0
    have e : ([UInt8.ofNat (48 + n)][0].toNat : Int) = 48 + (n : Int) := by
      show (((48 + n) % 256 : Nat) : Int) = _
      omega
    rw [e]
    exact hc)
theorem conv1 (n : Nat) (h : n < 10) (w : World) :
    (convert 94 9 (.slice (some ⟨w.heap.size, 0, none⟩) 1 1)).run Tryz.prog (w.alloc (.cells #[.int .u8 (48 + (n : Int))] 5)) = .ok (.string (sB [UInt8.ofNat (48 + n)])) (w.alloc (.cells #[.int .u8 (48 + (n : Int))] 5)) :=
  convAt n h _ _ ((Blk.new w 5 #[.int .u8 (48 + (n : Int))]).cell 0)
set_option maxRecDepth 100000 in
theorem l1Num_lo (n : Nat) (w : World) (h : n < 10) :
    Calls Tryz.prog 85 #[.int .i64 n] w fun r w' => r = .returned (.string (sB (numL n))) ∧ Below w.heap.size w w' := by
  have h' : (n : Int) < 10 := by omega
  have hcv := conv1 n h w
  have HL : Hid (numL n = [UInt8.ofNat (48 + n)]) := hid (if_pos h)
  go_enter Tryz.func85, Tryz.ntmps85
  go_wp2
  go_ret
  exact ⟨ret_s (by rw [HL.out]; simp), below_alloc (Below.refl _ _) _⟩
set_option maxRecDepth 100000 in
theorem l1Num_ten (w : World) :
    Calls Tryz.prog 85 #[.int .i64 (10 : Nat)] w fun r w' => r = .returned (.string (sB (numL 10))) ∧ Below w.heap.size w w' := by
  have hcv : ∀ W : World, (convert 94 9 (.slice (some ⟨W.heap.size, 0, none⟩) 1 1)).run Tryz.prog (W.alloc (.cells #[.int .u8 48] 5)) = .ok (.string (sB [48])) (W.alloc (.cells #[.int .u8 48] 5)) := fun W => conv1 0 (by decide) W
  have hcv2 : ∀ W : World, (convert 94 9 (.slice (some ⟨W.heap.size, 0, none⟩) 1 1)).run Tryz.prog (W.alloc (.cells #[.int .u8 48] 5)).drew = .ok (.string (sB [48])) (W.alloc (.cells #[.int .u8 48] 5)).drew := fun W => convAt 0 (by decide) _ _ ((Blk.new W 5 #[.int .u8 48]).cell 0)
  have hadd := fun W => run_sB (numL 1) [48] (by decide) W
  have hw1 : IntKind.i64.wrap 48 = 48 := by decide
  have hw2 : IntKind.u8.wrap 48 = 48 := by decide
  have hw3 : IntKind.i64.wrap 1 = 1 := by decide
  go_enter Tryz.func85, Tryz.ntmps85
  go_wp2_with fail
  go_region_with (first | (go_at_call 85; refine (l1Num_lo 1 _ (by decide)).mono ?_; rintro e w2 ⟨rfl, hb2⟩; (first | (have HB2 := hid (below_to (Below.refl w.heap.size w).drew hb2)) | (have HB2 := hid (below_to (below_alloc (Below.refl w.heap.size w).drew _) hb2))); (first | (have hcvb : (convert 94 9 (.slice (some ⟨w.heap.size, 0, none⟩) 1 1)).run Tryz.prog w2 = .ok (.string (sB [48])) w2 := convAt 0 (by decide) w2 w.heap.size (((Blk.new w.drew 5 #[.int .u8 48]).below hb2 (by simp)).cell 0)) | skip); clear hb2))
  all_goals go_wp2
  all_goals go_ret
  all_goals refine ⟨rfl, ?_⟩
  all_goals first | exact HB2.out | exact below_alloc HB2.out _ | exact HB2.out.drew | exact (below_alloc HB2.out _).drew | exact below_alloc HB2.out.drew _
theorem l1Num_any (n : Nat) (w : World) (h : n ≤ 10) :
    Calls Tryz.prog 85 #[.int .i64 n] w fun r w' => r = .returned (.string (sB (numL n))) ∧ Below w.heap.size w w' := by
  by_cases hn : n < 10
  · exact l1Num_lo n w hn
  · obtain rfl : n = 10 := by omega
    exact l1Num_ten w
end Go.Proofs.YtbmhaamenjhjfaaGreatDoor
namespace Go.Proofs.YtbmhaamenjhjfaaGreatDoor
open Go.RowKit Go.WideShapes Go.ChangeShapes
set_option linter.unusedVariables false
def isDig (c : UInt8) : Bool := decide (48 ≤ c.toNat) && decide (c.toNat ≤ 57)
def digN (l : List UInt8) : Nat → Nat
  | 0 => 0
  | k + 1 => 10 * digN l k + ((l.getD k 0).toNat - 48)
def readOk (l : List UInt8) : Bool := (decide (1 ≤ l.length) && decide (l.length ≤ 6)) && (!(decide ((l.getD 0 0).toNat = 48) && decide (1 < l.length)) && l.all isDig)
def readL (l : List UInt8) : Int := if readOk l then (digN l l.length : Int) else -1
theorem readL_yes {l : List UInt8} (h : readOk l = true) : readL l = (digN l l.length : Int) := if_pos h
theorem readL_no {l : List UInt8} (h : readOk l = false) : readL l = -1 := by unfold readL; rw [h]; rfl
theorem sB_get (l : List UInt8) (i : Nat) (h : i < (sB l).size) : (sB l)[i]'h = l.getD i 0 := by
  have hi : i < l.length := by rw [sB_size] at h; exact h
  show l.toArray[i]'(by simpa using hi) = _
  simp [List.getD, hi]
theorem digN_lt {l : List UInt8} (k : Nat) (h : ∀ j, j < k → isDig (l.getD j 0) = true) : digN l k < 10 ^ k := by
  induction k with
  | zero => simp [digN]
  | succ k ih =>
    have h1 := ih (fun j hj => h j (by omega))
    have h2 := h k (by omega)
    simp only [isDig, Bool.and_eq_true, decide_eq_true_eq] at h2
    rw [digN, Nat.pow_succ]
    omega
set_option maxRecDepth 100000 in
theorem l1Read_any (l : List UInt8) (w : World) (hl : l.length ≤ 1048576) :
    Calls Tryz.prog 69 #[.string (sB l)] w fun r w' => r = .returned (.int .i64 (readL l)) ∧ w = w' := by
  have hsz := sB_size l
  have HG := hid (sB_get l)
  obtain ⟨s, hs⟩ : ∃ s, sB l = s := ⟨_, rfl⟩
  rw [hs] at hsz HG ⊢
  clear hs
  by_cases h1 : 1 ≤ l.length ∧ l.length ≤ 6
  · have hd : (decide ((1 : Int) ≤ (l.length : Int)) && decide ((l.length : Int) ≤ 6)) = true := by simp; omega
    have Hd := hid hd
    have h1b : (decide (1 ≤ l.length) && decide (l.length ≤ 6)) = true := by simp; omega
    have H1b := hid h1b
    clear hd h1b
    obtain ⟨c0, hc0⟩ : ∃ c0, (l.getD 0 0).toNat = c0 := ⟨_, rfl⟩
    have hi0 : ∀ h, ((s[0]'h).toNat : Int) = (c0 : Int) := fun h => by rw [HG.out 0 h, hc0]
    by_cases hA : c0 = 48 ∧ 1 < l.length
    · have HN := hid (readL_no (l := l) (by unfold readOk; rw [hc0, decide_eq_true hA.1, decide_eq_true hA.2]; simp))
      have hlt : (1 : Int) < (l.length : Int) := by omega
      obtain ⟨rfl, -⟩ := hA
      have hz0 : 0 < s.size := by omega
      clear hc0
      go_enter Tryz.func69, Tryz.ntmps69
      go_wp2_with (go_at_call 129; refine (l1In_any _ _ _ _).mono ?_; rw [Hd.out]; rintro e w' ⟨rfl, rfl⟩)
      go_ret
      exact ⟨ret_int HN.out.symm, rfl⟩
    · have hOk1 : Hid (readOk l = l.all isDig) := hid (by
        unfold readOk
        rw [H1b.out, hc0]
        have : (decide (c0 = 48) && decide (1 < l.length)) = false := by
          rw [Bool.eq_false_iff]; intro h; simp at h; exact hA h
        rw [this]; rfl)
      have hz0 : 0 < s.size := by omega
      clear hc0
      by_cases hB : c0 = 48
      · have hlt : ¬ (1 : Int) < (l.length : Int) := by omega
        subst hB
        clear hA
        go_enter Tryz.func69, Tryz.ntmps69
        go_wp2_with (go_at_call 129; refine (l1In_any _ _ _ _).mono ?_; rw [Hd.out]; rintro e w' ⟨rfl, rfl⟩)
        clear hi0
        go_loopw [3, 4] (fun q i wr => ∃ k n : Nat, k ≤ l.length ∧ q = .int .i64 n ∧ i = .int .i64 k ∧ Hid (digN l k = n) ∧ Hid (∀ j, j < k → isDig (l.getD j 0) = true) ∧ wr = w) (fun _ i _ => l.length - (intOf i).toNat)
        case atStart => exact ⟨0, 0, Nat.zero_le _, rfl, rfl, hid rfl, hid (fun j hj => absurd hj (Nat.not_lt_zero _)), rfl⟩
        case round =>
          obtain ⟨k, n, hk, rfl, rfl, HD, HJ, rfl⟩ := hrel
          have hn := digN_lt k HJ.out
          rw [HD.out] at hn
          have hp : 10 ^ k ≤ 10 ^ 6 := Nat.pow_le_pow_right (by decide) (by omega)
          have hn6 : n < 1000000 := by omega
          clear hn hp
          by_cases hkl : k < l.length
          · obtain ⟨c, hc⟩ : ∃ c, (l.getD k 0).toNat = c := ⟨_, rfl⟩
            have hc8 : c < 256 := by rw [← hc]; exact (l.getD k 0).toNat_lt
            have hik : ∀ h, ((s[k]'h).toNat : Int) = (c : Int) := fun h => by rw [HG.out k h, hc]
            have hkz : k < s.size := by omega
            have HDg : Hid (isDig (l.getD k 0) = (decide (48 ≤ c) && decide (c ≤ 57))) := hid (by unfold isDig; rw [hc])
            have HDn : Hid (digN l (k + 1) = 10 * n + (c - 48)) := hid (by rw [digN, HD.out, hc])
            clear hc
            by_cases hd1 : c < 48
            · have HN := hid (readL_no (l := l) (by rw [hOk1.out, List.all_eq_false]; exact ⟨l.getD k 0, by simp [List.getD, hkl], by rw [HDg.out, decide_eq_false (by omega)]; simp⟩))
              have hd1' : (c : Int) < 48 := by omega
              go_wp2
              go_ret
              exact ⟨ret_int HN.out.symm, rfl⟩
            · have hd1' : ¬ (c : Int) < 48 := by omega
              by_cases hd2 : 57 < c
              · have HN := hid (readL_no (l := l) (by rw [hOk1.out, List.all_eq_false]; exact ⟨l.getD k 0, by simp [List.getD, hkl], by rw [HDg.out, decide_eq_false (show ¬ c ≤ 57 by omega)]; simp⟩))
                have hd2' : (57 : Int) < (c : Int) := by omega
                go_wp2
                go_ret
                exact ⟨ret_int HN.out.symm, rfl⟩
              · have hd2' : ¬ (57 : Int) < (c : Int) := by omega
                obtain ⟨d, rfl⟩ : ∃ d, c = d + 48 := ⟨c - 48, by omega⟩
                have HJ2 : Hid (∀ j, j < k + 1 → isDig (l.getD j 0) = true) := hid (fun j hj => by
                  by_cases e : j = k
                  · subst e; rw [HDg.out, decide_eq_true (by omega), decide_eq_true (by omega)]; rfl
                  · exact HJ.out j (by omega))
                have HD2 : Hid (digN l (k + 1) = 10 * n + d) := hid (by rw [HDn.out, Nat.add_sub_cancel])
                go_wp2
                go_roundw
                case rel => exact ⟨k + 1, 10 * n + d, by omega, by first | rfl | (simp; omega), by go_num, HD2, HJ2, by first | trivial | rfl⟩
                case measure => simp [intOf]; omega
          · obtain rfl : k = l.length := by omega
            have HY := hid (readL_yes (l := l) (by
              rw [hOk1.out, List.all_eq_true]
              intro x hx
              obtain ⟨j, hj, rfl⟩ := List.mem_iff_getElem.1 hx
              have := HJ.out j hj
              simpa [List.getD, hj] using this))
            go_wp2
            go_ret
            exact ⟨ret_int (by rw [HY.out, HD.out]), rfl⟩
      · have hne : ((c0 : Int) == 48) = false := by rw [beq_eq_false_iff_ne]; omega
        clear hA
        go_enter Tryz.func69, Tryz.ntmps69
        go_wp2_with (go_at_call 129; refine (l1In_any _ _ _ _).mono ?_; rw [Hd.out]; rintro e w' ⟨rfl, rfl⟩)
        clear hi0 hne
        go_loopw [3, 4] (fun q i wr => ∃ k n : Nat, k ≤ l.length ∧ q = .int .i64 n ∧ i = .int .i64 k ∧ Hid (digN l k = n) ∧ Hid (∀ j, j < k → isDig (l.getD j 0) = true) ∧ wr = w) (fun _ i _ => l.length - (intOf i).toNat)
        case atStart => exact ⟨0, 0, Nat.zero_le _, rfl, rfl, hid rfl, hid (fun j hj => absurd hj (Nat.not_lt_zero _)), rfl⟩
        case round =>
          obtain ⟨k, n, hk, rfl, rfl, HD, HJ, rfl⟩ := hrel
          have hn := digN_lt k HJ.out
          rw [HD.out] at hn
          have hp : 10 ^ k ≤ 10 ^ 6 := Nat.pow_le_pow_right (by decide) (by omega)
          have hn6 : n < 1000000 := by omega
          clear hn hp
          by_cases hkl : k < l.length
          · obtain ⟨c, hc⟩ : ∃ c, (l.getD k 0).toNat = c := ⟨_, rfl⟩
            have hc8 : c < 256 := by rw [← hc]; exact (l.getD k 0).toNat_lt
            have hik : ∀ h, ((s[k]'h).toNat : Int) = (c : Int) := fun h => by rw [HG.out k h, hc]
            have hkz : k < s.size := by omega
            have HDg : Hid (isDig (l.getD k 0) = (decide (48 ≤ c) && decide (c ≤ 57))) := hid (by unfold isDig; rw [hc])
            have HDn : Hid (digN l (k + 1) = 10 * n + (c - 48)) := hid (by rw [digN, HD.out, hc])
            clear hc
            by_cases hd1 : c < 48
            · have HN := hid (readL_no (l := l) (by rw [hOk1.out, List.all_eq_false]; exact ⟨l.getD k 0, by simp [List.getD, hkl], by rw [HDg.out, decide_eq_false (by omega)]; simp⟩))
              have hd1' : (c : Int) < 48 := by omega
              go_wp2
              go_ret
              exact ⟨ret_int HN.out.symm, rfl⟩
            · have hd1' : ¬ (c : Int) < 48 := by omega
              by_cases hd2 : 57 < c
              · have HN := hid (readL_no (l := l) (by rw [hOk1.out, List.all_eq_false]; exact ⟨l.getD k 0, by simp [List.getD, hkl], by rw [HDg.out, decide_eq_false (show ¬ c ≤ 57 by omega)]; simp⟩))
                have hd2' : (57 : Int) < (c : Int) := by omega
                go_wp2
                go_ret
                exact ⟨ret_int HN.out.symm, rfl⟩
              · have hd2' : ¬ (57 : Int) < (c : Int) := by omega
                obtain ⟨d, rfl⟩ : ∃ d, c = d + 48 := ⟨c - 48, by omega⟩
                have HJ2 : Hid (∀ j, j < k + 1 → isDig (l.getD j 0) = true) := hid (fun j hj => by
                  by_cases e : j = k
                  · subst e; rw [HDg.out, decide_eq_true (by omega), decide_eq_true (by omega)]; rfl
                  · exact HJ.out j (by omega))
                have HD2 : Hid (digN l (k + 1) = 10 * n + d) := hid (by rw [HDn.out, Nat.add_sub_cancel])
                go_wp2
                go_roundw
                case rel => exact ⟨k + 1, 10 * n + d, by omega, by first | rfl | (simp; omega), by go_num, HD2, HJ2, by first | trivial | rfl⟩
                case measure => simp [intOf]; omega
          · obtain rfl : k = l.length := by omega
            have HY := hid (readL_yes (l := l) (by
              rw [hOk1.out, List.all_eq_true]
              intro x hx
              obtain ⟨j, hj, rfl⟩ := List.mem_iff_getElem.1 hx
              have := HJ.out j hj
              simpa [List.getD, hj] using this))
            go_wp2
            go_ret
            exact ⟨ret_int (by rw [HY.out, HD.out]), rfl⟩
  · have hd : (decide ((1 : Int) ≤ (l.length : Int)) && decide ((l.length : Int) ≤ 6)) = false := by rw [Bool.eq_false_iff]; simp; omega
    have Hd := hid hd
    have HN := hid (readL_no (l := l) (by unfold readOk; rw [show (decide (1 ≤ l.length) && decide (l.length ≤ 6)) = false by rw [Bool.eq_false_iff]; simp; omega]; rfl))
    clear hd
    go_enter Tryz.func69, Tryz.ntmps69
    go_wp2_with (go_at_call 129; refine (l1In_any _ _ _ _).mono ?_; rw [Hd.out]; rintro e w' ⟨rfl, rfl⟩)
    go_ret
    exact ⟨ret_int HN.out.symm, rfl⟩
end Go.Proofs.YtbmhaamenjhjfaaGreatDoor
