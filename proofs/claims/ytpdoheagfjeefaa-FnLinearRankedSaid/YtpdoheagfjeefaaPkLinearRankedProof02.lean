/- Texts Spec, Heights, Where, Pairs, From, one behind the other. -/
import Derived.ChangeAlike
import Derived.RegionTactic
import Derived.Test.YtpdoheagfjeefaaPkLinearRankedProof00
import Derived.Test.YtpdoheagfjeefaaPkLinearRankedProof01
/- The model's own functions over posets and sets. -/
namespace Go.Proofs.Ytpdoheagfjeefaa
open Go.RowKit Go.WideShapes Go.ChangeShapes

theorem range_true {n : Nat} (h : 1 ≤ n ∧ n ≤ 10) : (decide ((1 : Int) ≤ (n : Int)) && decide ((n : Int) ≤ 10)) = true := by simp; omega
theorem range_false {n : Nat} (h : ¬ (1 ≤ n ∧ n ≤ 10)) : (decide ((1 : Int) ≤ (n : Int)) && decide ((n : Int) ≤ 10)) = false := by rw [Bool.eq_false_iff]; simp; omega

/-- the rows below i are right, and row i's number has all that the first j of its elements have below them -/
theorem closed_of {xs : List Int} {i z : Nat} (hx : xs.getD i 0 = (z : Int)) (hz : z < 2 ^ i) (h : ∀ j, j < i → z.testBit j = true → sub (xs.getD j 0).toNat z = 0) : okAt xs i = true := by
  simp only [okAt, hx, Int.toNat_natCast, Bool.and_eq_true, decide_eq_true_eq]
  refine ⟨⟨by omega, by omega⟩, (holdsIdeal_iff xs z).2 fun e _ hb => h e (testBit_lt hz hb) hb⟩
theorem not_closed {xs : List Int} {i j z : Nat} (hx : xs.getD i 0 = (z : Int)) (hj : j < xs.length) (hb : z.testBit j = true) (h : sub (xs.getD j 0).toNat z ≠ 0) : okAt xs i = false := by
  cases hc : okAt xs i
  · rfl
  · simp only [okAt, hx, Int.toNat_natCast, Bool.and_eq_true, decide_eq_true_eq] at hc
    exact absurd ((holdsIdeal_iff xs z).1 hc.2 j hj hb) h

theorem poGood_any (v : Value) (xs : List Int) (w : World) (hv : Ints w v xs) (hl : xs.length ≤ 1048576) :
    Calls Try.prog 86 #[.agg #[v]] w fun r w' => r = .returned (.bool (good xs)) ∧ Below w.heap.size w w' := by
  obtain ⟨A, c, rfl, hA⟩ := hv
  have HA := hid hA
  clear hA
  by_cases hn : 1 ≤ xs.length ∧ xs.length ≤ 10
  · have Hd := hid (range_true hn)
    obtain ⟨hn1, hn2⟩ := hn
    go_enter Try.func86, Try.ntmps86
    go_wp2_with (go_at_call 119; refine (l1In_any _ _ _ _).mono ?_; rw [Hd.out]; rintro e w' ⟨rfl, rfl⟩)
    go_loop [16] (fun i => ∃ k : Nat, k ≤ xs.length ∧ i = .int .i64 k ∧ Hid (∀ j, j < k → okAt xs j = true)) (fun i => xs.length - (intOf i).toNat)
    case atStart => exact ⟨0, Nat.zero_le _, rfl, hid (fun j hj => absurd hj (Nat.not_lt_zero _))⟩
    case round =>
      obtain ⟨k, hk, rfl, Hok⟩ := hrel
      by_cases hlt : k < xs.length
      · obtain ⟨b, o, rfl, hbl, hc⟩ := HA.out (by intro h; simp [h] at hlt)
        have hcell := hc k hlt
        obtain ⟨x, hx⟩ : ∃ x, xs.getD k 0 = x := ⟨_, rfl⟩
        rw [hx] at hcell
        have hp := two_pow_le k (by omega)
        have Wm := hid (wrap_mask k (by omega))
        by_cases hr : 0 ≤ x ∧ x ≤ (2 ^ k - 1 : Nat)
        · obtain ⟨z, rfl⟩ := Int.eq_ofNat_of_zero_le hr.1
          have Hr := hid (show (decide ((0 : Int) ≤ (z : Int)) && decide ((z : Int) ≤ ((2 ^ k - 1 : Nat) : Int))) = true by simp only [Bool.and_eq_true, decide_eq_true_eq]; exact hr)
          have hz : z < 2 ^ k := by omega
          have Hz := hid hz
          have Hx := hid hx
          have Hc := hid hc
          have hz10 : z < 1024 := by omega
          have hk10 : k < 10 := by omega
          clear hr hx hz hp hc
          go_wp2_with (go_at_call 119; rw [Wm.out]; refine (l1In_any _ _ _ _).mono ?_; rw [Hr.out]; rintro e w' ⟨rfl, rfl⟩)
          go_loop [6] (fun j => ∃ t : Nat, t ≤ k ∧ j = .int .i64 t ∧ Hid (∀ e, e < t → z.testBit e = true → sub (xs.getD e 0).toNat z = 0)) (fun j => k - (intOf j).toNat)
          case atStart => exact ⟨0, Nat.zero_le _, rfl, hid (fun j hj => absurd hj (Nat.not_lt_zero _))⟩
          case round =>
            obtain ⟨t, ht, rfl, Ht⟩ := hrel
            by_cases htk : t < k
            · have hbt := bit_tmod z t
              cases hbit : z.testBit t
              · have Hbit := hid hbit
                rw [hbit] at hbt
                clear hbit
                go_wp2
                go_round
                case rel => exact ⟨t + 1, by omega, by go_num, hid (fun e he hb => by
                  by_cases h : e = t
                  · subst h; rw [Hbit.out] at hb; cases hb
                  · exact Ht.out e (by omega) hb)⟩
                case measure => simp [intOf]; omega
              · obtain ⟨y, hy⟩ : ∃ y, xs.getD t 0 = y := ⟨_, rfl⟩
                have hsm := okAt_small (Hok.out t htk) (by omega)
                rw [hy] at hsm
                obtain ⟨q, rfl⟩ := Int.eq_ofNat_of_zero_le hsm.1
                have hct := Hc.out t (by omega)
                rw [hy] at hct
                have han := i64_andNot_nat q z (by omega) (by omega)
                have Hy := hid hy
                have Hbit := hid hbit
                rw [hbit] at hbt
                clear hbit hy hsm
                by_cases hs : sub q z = 0
                · have hs' : (((sub q z : Nat) : Int) != 0) = false := by rw [hs]; rfl
                  have Hs := hid hs
                  clear hs
                  go_wp2
                  go_round
                  case rel => exact ⟨t + 1, by omega, by go_num, hid (fun e he hb => by
                    by_cases h : e = t
                    · subst h; rw [Hy.out]; exact Hs.out
                    · exact Ht.out e (by omega) hb)⟩
                  case measure => simp [intOf]; omega
                · have hs' : (((sub q z : Nat) : Int) != 0) = true := by rw [bne_iff_ne]; omega
                  have Hg := hid (not_good hlt (not_closed Hx.out (by omega) Hbit.out (by rw [Hy.out]; exact hs)))
                  clear hs
                  go_wp2
                  go_ret
                  exact ⟨ret_bool Hg.out.symm, (Below.refl _ _).alloc (Nat.le_refl _) _⟩
            · obtain rfl : t = k := by omega
              have Hk := hid (closed_of Hx.out Hz.out Ht.out)
              go_wp2
              go_round
              case rel => exact ⟨t + 1, by omega, by go_num, hid (fun j hj => by
                by_cases h : j = t
                · subst h; exact Hk.out
                · exact Hok.out j (by omega))⟩
              case measure => simp [intOf]; omega
        · have Hr := hid (show (decide ((0 : Int) ≤ x) && decide (x ≤ ((2 ^ k - 1 : Nat) : Int))) = false by
            rw [Bool.eq_false_iff]; simp only [ne_eq, Bool.and_eq_true, decide_eq_true_eq]; exact hr)
          have Hg := hid (not_good hlt (okAt_not (by rw [hx]; exact hr)))
          clear hx hc hr hp
          go_wp2_with (go_at_call 119; rw [Wm.out]; refine (l1In_any _ _ _ _).mono ?_; rw [Hr.out]; rintro e w' ⟨rfl, rfl⟩)
          go_ret
          exact ⟨ret_bool Hg.out.symm, (Below.refl _ _).alloc (Nat.le_refl _) _⟩
      · obtain rfl : k = xs.length := by omega
        have Hg := hid (good_of hn1 hn2 Hok.out)
        go_wp2
        go_ret
        exact ⟨ret_bool Hg.out.symm, (Below.refl _ _).alloc (Nat.le_refl _) _⟩
  · have Hd := hid (range_false hn)
    have Hg := hid (not_good_length hn)
    clear hn
    go_enter Try.func86, Try.ntmps86
    go_wp2_with (go_at_call 119; refine (l1In_any _ _ _ _).mono ?_; rw [Hd.out]; rintro e w' ⟨rfl, rfl⟩)
    go_ret
    exact ⟨ret_bool Hg.out.symm, (Below.refl _ _).alloc (Nat.le_refl _) _⟩
end Go.Proofs.Ytpdoheagfjeefaa

/- Heights. -/
namespace Go.Proofs.Ytpdoheagfjeefaa
open Go.RowKit Go.WideShapes Go.ChangeShapes
set_option linter.unusedVariables false

/-- the cells of a list of numbers -/
def Vals (l : List Int) : Array Value := (l.map (Value.int .i64)).toArray
theorem pow_lt10 (n : Nat) (h : n ≤ 9) : 2 ^ n ≤ 512 := by
  have := Nat.pow_le_pow_right (n := 2) (by decide) h
  simpa using this
theorem Vals_get {l : List Int} {i : Nat} (h : i < l.length) : (Vals l)[i]? = some (.int .i64 (l.getD i 0)) := by
  simp [Vals, h]
theorem Vals_set (l : List Int) (i : Nat) (y : Int) : (Vals l).setIfInBounds i (.int .i64 y) = Vals (l.set i y) := by
  unfold Vals
  rw [List.setIfInBounds_toArray, List.map_set]
theorem Vals_made (n : Nat) : madeCells #[.int .i64 0] n = Vals (List.replicate n 0) := by
  have := toList_madeCells_one (.int .i64 0) n
  rw [← Array.toList_inj, this]
  simp [Vals]

/-! ### heights -/
def hstep (xs : List Int) (i : Nat) (out : List Int) (j : Nat) : List Int :=
  if (xs.getD i 0).toNat.testBit j then out.set i (max (out.getD i 0) (out.getD j 0 + 1)) else out
def hin (xs : List Int) (i : Nat) (out : List Int) : Nat → List Int
  | 0 => out
  | j + 1 => hstep xs i (hin xs i out j) j
def hout (xs : List Int) (n : Nat) : Nat → List Int
  | 0 => List.replicate n 0
  | i + 1 => hin xs i (hout xs n i) i
def HB (out : List Int) (n : Nat) : Prop := out.length = n ∧ ∀ e, 0 ≤ out.getD e 0 ∧ out.getD e 0 ≤ e
theorem getD_set (l : List Int) (i e : Nat) (y : Int) (hi : i < l.length) : (l.set i y).getD e 0 = if i = e then y else l.getD e 0 := by
  simp only [List.getD, List.getElem?_set]
  by_cases h : i = e
  · subst h; simp [hi]
  · simp [h]
theorem HB_step {xs : List Int} {out : List Int} {n i j : Nat} (h : HB out n) (hi : i < n) (hj : j < i) : HB (hstep xs i out j) n := by
  unfold hstep
  split
  · refine ⟨by rw [List.length_set]; exact h.1, fun e => ?_⟩
    rw [getD_set _ _ _ _ (by rw [h.1]; exact hi)]
    have h1 := h.2 i
    have h2 := h.2 j
    split
    · rename_i he; subst he; omega
    · exact h.2 e
  · exact h
theorem HB_in {xs : List Int} {out : List Int} {n i : Nat} (h : HB out n) (hi : i < n) (j : Nat) (hj : j ≤ i) : HB (hin xs i out j) n := by
  induction j with
  | zero => exact h
  | succ j ih => exact HB_step (ih (by omega)) hi (by omega)
theorem HB_out (xs : List Int) (n i : Nat) (hi : i ≤ n) : HB (hout xs n i) n := by
  induction i with
  | zero =>
    refine ⟨by simp [hout], fun e => ?_⟩
    by_cases he : e < n
    · simp [hout, List.getD, he]
    · simp [hout, List.getD, he]
  | succ i ih => exact HB_in (ih (by omega)) (by omega) i (Nat.le_refl _)
def heightsL (xs : List Int) : List Int := if good xs then hout xs xs.length xs.length else []
theorem heightsL_yes {xs : List Int} (h : good xs = true) : heightsL xs = hout xs xs.length xs.length := if_pos h
theorem heightsL_no {xs : List Int} (h : good xs = false) : heightsL xs = [] := by simp [heightsL, h]
theorem heightsL_length (xs : List Int) : (heightsL xs).length ≤ 1048576 := by
  unfold heightsL
  split
  · rename_i h
    rw [(HB_out xs xs.length xs.length (Nat.le_refl _)).1]
    have := (good_length h).2
    omega
  · simp

theorem max_if (p q : Int) : (if p < q then q else p) = max p q := by split <;> omega
theorem l1Most_any (a b : Int) (w : World) : Calls Try.prog 152 #[.int .i64 a, .int .i64 b] w fun r w' => r = .returned (.int .i64 (max a b)) ∧ w = w' := by
  by_cases h : b < a
  · have H := hid (Int.max_eq_left (Int.le_of_lt h))
    go_enter Try.func152, Try.ntmps152
    go_wp2
    go_ret
    exact ⟨ret_int H.out.symm, rfl⟩
  · have H := hid (Int.max_eq_right (by omega : a ≤ b))
    go_enter Try.func152, Try.ntmps152
    go_wp2
    go_ret
    exact ⟨ret_int H.out.symm, rfl⟩

end Go.Proofs.Ytpdoheagfjeefaa

/- posetWhere: a poset out of a test. -/
namespace Go.Proofs.Ytpdoheagfjeefaa
open Go.RowKit Go.WideShapes Go.ChangeShapes
set_option linter.unusedVariables false

def rowN (f : Nat → Bool) : Nat → Nat
  | 0 => 0
  | j + 1 => if f j then rowN f j ||| 2 ^ j else rowN f j
theorem rowN_testBit (f : Nat → Bool) (k s : Nat) : (rowN f k).testBit s = (decide (s < k) && f s) := by
  induction k with
  | zero => simp [rowN]
  | succ k ih =>
    unfold rowN
    by_cases h : s = k
    · subst h
      split
      · rename_i hf; rw [Nat.testBit_or, ih, Nat.testBit_two_pow_self]; simp [hf]
      · rename_i hf; rw [ih]; simp [hf]
    · have e : decide (s < k + 1) = decide (s < k) := by
        by_cases h2 : s < k
        · rw [decide_eq_true h2, decide_eq_true (by omega)]
        · rw [decide_eq_false h2, decide_eq_false (by omega)]
      rw [e]
      split
      · rw [Nat.testBit_or, ih, Nat.testBit_two_pow_of_ne (by omega)]; simp
      · exact ih
theorem rowN_lt (f : Nat → Bool) (k : Nat) : rowN f k < 2 ^ k := by
  apply Nat.lt_pow_two_of_testBit
  intro i hi
  rw [rowN_testBit, decide_eq_false (by omega)]; rfl
/-- the list of n numbers that g tells -/
def mkL (n : Nat) (g : Nat → Nat) : List Int := (List.range n).map fun (i : Nat) => ((g i : Nat) : Int)
theorem mkL_length (n : Nat) (g : Nat → Nat) : (mkL n g).length = n := by simp [mkL]
theorem mkL_getD {n : Nat} {g : Nat → Nat} {i : Nat} (h : i < n) : (mkL n g).getD i 0 = (g i : Int) := by simp [mkL, List.getD, h]
theorem mkL_congr {n : Nat} {g h : Nat → Nat} (e : ∀ i, i < n → g i = h i) : mkL n g = mkL n h := by
  apply List.map_congr_left
  intro i hi
  rw [e i (List.mem_range.1 hi)]
theorem mkL_set {n : Nat} {g : Nat → Nat} {k : Nat} (y : Nat) (h : k < n) : (mkL n g).set k (y : Int) = mkL n (fun i => if i = k then y else g i) := by
  apply List.ext_getElem?
  intro i
  rw [List.getElem?_set, mkL_length]
  simp only [mkL, List.getElem?_map]
  by_cases hi : i < n
  · by_cases e : k = i
    · subst e; simp [h]
    · simp [e, hi, Ne.symm e]
  · simp [hi]
    intro e; omega
theorem mkL_zero (n : Nat) : mkL n (fun _ => 0) = List.replicate n 0 := by
  apply List.ext_getElem?
  intro i
  simp only [mkL, List.getElem?_map]
  by_cases hi : i < n <;> simp [hi]
theorem mkL_upd {n : Nat} {g h : Nat → Nat} {k : Nat} (y : Nat) (hk : k < n) (e : ∀ i, i < n → h i = if i = k then y else g i) : mkL n h = (mkL n g).set k (y : Int) := by
  rw [mkL_set y hk]; exact mkL_congr e
def whereG (f : Nat → Nat → Bool) (k : Nat) (i : Nat) : Nat := if i < k then rowN (fun j => f j i) i else 0
def whereH (f : Nat → Nat → Bool) (k t : Nat) (i : Nat) : Nat := if i < k then rowN (fun j => f j i) i else if i = k then rowN (fun j => f j k) t else 0
def whereL (f : Nat → Nat → Bool) (n : Nat) : List Int := mkL n (fun i => rowN (fun j => f j i) i)


theorem posetWhereDual_any (n : Nat) (c1 c2 : Addr) (f : Nat → Nat → Bool) (w : World) (hn : n ≤ 10)
    (hF : ∀ (j i : Nat) (W : World), j < i → i < n → Below w.heap.size w W → Calls Try.prog 93 #[.int .i64 j, .int .i64 i, .pointer (some c1), .pointer (some c2)] W fun r W' => r = .returned (.bool (f j i)) ∧ Below W.heap.size W W') :
    Calls Try.prog 92 #[.int .i64 n, .func (.func 93) #[] #[.pointer (some c1), .pointer (some c2)]] w fun (r : Ending) w' => ∃ u, r = Ending.returned (.agg #[u]) ∧ OwnI 3 w' w.heap.size u (whereL f n) ∧ Below w.heap.size w w' := by
  have HF := hid hF
  clear hF
  have hmk := run_make_row' (P := Try.prog) 24 3 (.int .i64 0) 8 Try.underlying24 Try.info3 rfl .i64 .i64 n (by omega) (by omega)
  go_enter Try.func92, Try.ntmps92
  go_wp2
  clear hmk
  rw [Vals_made]
  go_loopw [12] (fun i wr => ∃ k : Nat, k ≤ n ∧ i = .int .i64 k ∧ Blk wr (w.heap.size + 1) 3 (Vals (mkL n (whereG f k))) ∧ Below (w.heap.size + 1) (w.alloc (.cells #[.slice none 0 0] 26)) wr) (fun i _ => n - (intOf i).toNat)
  case atStart => exact ⟨0, Nat.zero_le _, rfl, (by have := Blk.new (w.alloc (.cells #[.slice none 0 0] 26)) 3 (Vals (List.replicate n 0)); (have e : mkL n (whereG f 0) = List.replicate n 0 := by rw [← mkL_zero]; exact mkL_congr (fun i _ => by simp [whereG])); rw [e]; simpa using this), (Below.refl _ _).alloc (by simp) _⟩
  case round =>
    obtain ⟨k, hk, rfl, hB, hb⟩ := hrel
    have HBk := hid hB
    have HBb := hid hb
    clear hB hb
    by_cases hlt : k < n
    · go_wp2
      go_loopw [16] (fun j wi => ∃ t : Nat, t ≤ k ∧ j = .int .i64 t ∧ Blk wi (w.heap.size + 1) 3 (Vals (mkL n (whereH f k t))) ∧ Below (w.heap.size + 1) (w.alloc (.cells #[.slice none 0 0] 26)) wi) (fun j _ => k - (intOf j).toNat)
      case atStart => exact ⟨0, Nat.zero_le _, rfl, (by rw [mkL_congr (h := whereG f k) (fun i _ => by unfold whereH whereG; split; rfl; split <;> simp [rowN])]; exact HBk.out), HBb.out⟩
      case round =>
        obtain ⟨t, ht, rfl, hB, hb⟩ := hrel
        have HBt := hid hB
        have HBc := hid hb
        clear hB hb
        by_cases htk : t < k
        · have hsz : w.heap.size + 1 < wr.heap.size := HBt.out.lt
          cases hft : f t k
          · have Hft := hid hft
            clear hft
            go_wp2_with fail
            refine (HF.out t k _ htk hlt (below_box HBc.out)).mono ?_
            rw [Hft.out]
            rintro e w2 ⟨rfl, hb2⟩
            have HB2 := hid hb2
            clear hb2
            go_wp2
            go_roundw
            case rel => exact ⟨t + 1, by omega, by go_num, (by rw [mkL_congr (h := whereH f k t) (fun i _ => by unfold whereH; split; rfl; split; (rw [rowN, Hft.out]; rfl); rfl)]; exact HBt.out.below HB2.out hsz), HBc.out.trans (HB2.out.mono (by omega))⟩
            case measure => simp [intOf]; omega
          · have Hft := hid hft
            clear hft
            go_wp2_with fail
            refine (HF.out t k _ htk hlt (below_box HBc.out)).mono ?_
            rw [Hft.out]
            rintro e w2 ⟨rfl, hb2⟩
            have HBt2 := hid (HBt.out.below hb2 hsz)
            have HBc2 := hid (HBc.out.trans (hb2.mono (by omega)))
            clear hb2
            obtain ⟨p, hp⟩ : ∃ p, rowN (fun j => f j k) t = p := ⟨_, rfl⟩
            have hp2 := rowN_lt (fun j => f j k) t
            have hp3 := pow_lt10 t (by omega)
            rw [hp] at hp2
            have t1 : w2.cell? ⟨w.heap.size + 1, k, none⟩ = some (.int .i64 p) := by
              rw [HBt2.out.cell, Vals_get (by rw [mkL_length]; exact hlt), mkL_getD hlt, ← hp]; simp [whereH]
            have t2 := HBt2.out.frozen k
            have wp := wrap_pow' t (by omega)
            have hor := or_pow p t (by omega) (by omega)
            have hkz : (k : Int) < n := by omega
            have Hp := hid hp
            clear hp hp2 hp3
            go_wp2
            go_region
            go_wp2
            go_roundw
            case rel => exact ⟨t + 1, by omega, by go_num, (by rw [mkL_congr (h := fun i => if i = k then p ||| 2 ^ t else whereH f k t i) (fun i _ => by unfold whereH; split; (rw [if_neg (by omega)]); split; (rw [rowN, if_pos Hft.out, Hp.out]); rfl), ← mkL_set _ hlt, ← Vals_set]; exact HBt2.out.set_ k _), (HBc2.out.setCell (p := ⟨w.heap.size + 1, k, none⟩) (Nat.le_refl _) _).drew⟩
            case measure => simp [intOf]; omega
        · obtain rfl : t = k := by omega
          go_wp2
          go_roundw
          case rel => exact ⟨t + 1, by omega, by go_num, (by rw [mkL_congr (h := whereH f t t) (fun i _ => by unfold whereH whereG; by_cases h : i < t; (rw [if_pos h, if_pos (by omega)]); by_cases h2 : i = t; (subst h2; simp); (rw [if_neg h, if_neg h2, if_neg (by omega)]))]; exact HBt.out), HBc.out⟩
          case measure => simp [intOf]; omega
    · obtain rfl : k = n := by omega
      have e : mkL k (whereG f k) = whereL f k := mkL_congr (fun i hi => by simp [whereG, hi])
      rw [e] at HBk
      have HOw := hid (HBk.out.own (xs := whereL f k) (B := w.heap.size) (by omega) (by unfold whereL; rw [mkL_length]; omega))
      have hbz := HBb.out.size
      have hbx := box_cell HBb.out 0
      have hbf : wr.frozen? ⟨w.heap.size, 0, none⟩ = false := by rw [HBb.out.frozen (p := ⟨w.heap.size, 0, none⟩) (Nat.lt_succ_self _)]; exact (Blk.new w 26 #[.slice none 0 0]).frozen 0
      simp at hbz
      have hwl : (whereL f k).length = k := by unfold whereL; rw [mkL_length]
      clear e
      go_wp2
      refine bodyPost_ret (v := .agg #[.slice (some ⟨w.heap.size + 1, 0, none⟩) k k]) (by simp [results, Try.results92, go_sem, hbx]) rfl ⟨_, rfl, ?_, ?_⟩
      · have := HOw.out
        rw [hwl] at this
        exact this.grown (grown_setCell (World.grownBy.refl _ _) 0 _) (.inr (by simp [Value.ownBlock]))
      · exact (below_box HBb.out).setCell (Nat.le_refl _) _

end Go.Proofs.Ytpdoheagfjeefaa

/- Lists of pairs of numbers: slices of slices of two. -/
namespace Go.Proofs.Ytpdoheagfjeefaa
open Go.RowKit Go.WideShapes Go.ChangeShapes
set_option linter.unusedVariables false

theorem Try.info24 : (Try.prog.info? 24).map (fun i => (i.zero, i.size, i.bytes)) = some (some (.slice none 0 0), 1, 24) := by kernel_rfl

/-- 'u' is a slice of just the two numbers a and b, in a block of its own -/
def PairAt (ti : TypeId) (w : World) (B : Nat) (u : Value) (p : Nat × Nat) : Prop := ∃ g, u = .slice (some ⟨g, 0, none⟩) 2 2 ∧ B ≤ g ∧ Blk w g ti #[.int .i64 (p.1 : Int), .int .i64 (p.2 : Int)]
theorem PairAt.below {ti : TypeId} {w w' : World} {B : Nat} {u : Value} {p : Nat × Nat} (h : PairAt ti w B u p) (hb : Below w.heap.size w w') : PairAt ti w' B u p := by
  obtain ⟨g, rfl, hB, hg⟩ := h
  exact ⟨g, rfl, hB, hg.below hb hg.lt⟩
/-- 'v' is a slice of the pairs ps -/
def Pairs (ti ts : TypeId) (w : World) (B : Nat) (v : Value) (ps : List (Nat × Nat)) : Prop :=
  ∃ us : List Value, us.length = ps.length ∧ w.ownsRow B ts 1 v ps.length us ∧ (∀ (j : Nat) (u : Value) (p : Nat × Nat), us[j]? = some u → ps[j]? = some p → PairAt ti w B u p) ∧ ∀ (i j : Nat) (u : Value), us[i]? = some u → us[j]? = some u → i = j
theorem Pairs.nil (ti ts : TypeId) (w : World) (B : Nat) : Pairs ti ts w B (.slice none 0 0) [] := ⟨[], rfl, World.ownsRow_nil w B ts 1, by simp, by simp⟩
theorem Pairs.below {ti ts : TypeId} {w w' : World} {B : Nat} {v : Value} {ps : List (Nat × Nat)} (h : Pairs ti ts w B v ps) (hb : Below w.heap.size w w') : Pairs ti ts w' B v ps := by
  obtain ⟨us, h1, h2, h3, h4⟩ := h
  refine ⟨us, h1, ?_, fun j u p hu hp => (h3 j u p hu hp).below hb, h4⟩
  by_cases hv : v.ownBlock = none
  · exact h2.kept (grown_of_below hb none) (.inl hv)
  · exact h2.kept (grown_of_below hb none) (.inr hv)
theorem Pairs.shape {ti ts : TypeId} {w : World} {B : Nat} {v : Value} {ps : List (Nat × Nat)} (h : Pairs ti ts w B v ps) :
    ∃ A c, v = .slice A ps.length c ∧ ∀ j, j < ps.length → ∃ b g, A = some ⟨b, 0, none⟩ ∧ b < w.heap.size ∧ g < w.heap.size ∧ w.cell? ⟨b, j, none⟩ = some (.slice (some ⟨g, 0, none⟩) 2 2) ∧ w.cell? ⟨g, 0, none⟩ = some (.int .i64 ((ps.getD j (0, 0)).1 : Int)) ∧ w.cell? ⟨g, 1, none⟩ = some (.int .i64 ((ps.getD j (0, 0)).2 : Int)) := by
  obtain ⟨us, h1, h2, h3, -⟩ := h
  rcases h2.2 with ⟨rfl, hn⟩ | ⟨b, cap, cur, rfl, hB, hh, _⟩
  · exact ⟨none, 0, by rw [hn], fun j hj => by omega⟩
  · refine ⟨_, cap, rfl, fun j hj => ?_⟩
    have hu : us[j]? = some us[j] := List.getElem?_eq_getElem (by omega)
    have hp : ps[j]? = some ps[j] := List.getElem?_eq_getElem hj
    obtain ⟨g, e, -, hg⟩ := h3 j _ _ hu hp
    have hc := h2.cellAt j (by omega)
    rw [hu, e] at hc
    have hbl : b < w.heap.size := by
      rcases Nat.lt_or_ge b w.heap.size with hlt | hge
      · exact hlt
      · rw [Array.getElem?_eq_none hge] at hh; cases hh
    have e2 : ps.getD j (0, 0) = ps[j] := by simp [List.getD, hp]
    refine ⟨b, g, rfl, hbl, hg.lt, hc, ?_, ?_⟩
    · rw [hg.cell, e2]; rfl
    · rw [hg.cell, e2]; rfl
/-- 'pairs = append(pairs, []int{a, b})' -/
theorem wpList_append_pair {P : Program} {w W : World} {ops : Array Oper} {rest : List Oper} {o : Oper} {ac : Act} {Q : Exit → Act → World → Prop} (hgd : o.guard = none) (s x : Operand) (t ts ti : TypeId)
    (ho : o.op = .call { callee := .builtin .append, args := #[s, x], argTypes := #[t, t] }) (ht : P.underlying t = some (.slice ts)) (hinfo : (P.info? ts).map (fun i => (i.zero, i.size, i.bytes)) = some (some (.slice none 0 0), 1, 24))
    (hne : ti ≠ ts) (B : Nat) (v : Value) (ps : List (Nat × Nat)) (a b : Nat) (hs : ac.eval s = v) (hown : Pairs ti ts w B v ps)
    (hW : W = (w.alloc (.cells #[.int .i64 (a : Int), .int .i64 (b : Int)] ti)).alloc (.cells #[.slice (some ⟨w.heap.size, 0, none⟩) 2 2] ts)) (hx : ac.eval x = .slice (some ⟨w.heap.size + 1, 0, none⟩) 1 1) (hlen : ps.length < 1048576) (hB : B ≤ w.heap.size)
    (h : ∀ v' w', Pairs ti ts w' B v' (ps ++ [(a, b)]) → Below B w w' → wpList P ops Q rest (ac.put o.dst v') w') : wpList P ops Q (o :: rest) ac W := by
  subst hW
  obtain ⟨i0, hi, hz0, hz1, hz2⟩ := info_parts hinfo
  obtain ⟨us, h1, h2, h3, hdis⟩ := hown
  refine wpList_append_own _ hgd s x t ho B ts i0 (.slice none 0 0) 1 24 ht hi hz0 hz1 hz2 rfl (by decide) v ps.length us hs ((h2.alloc _).alloc _) ⟨w.heap.size + 1, 0, none⟩ 1 1 [.slice (some ⟨w.heap.size, 0, none⟩) 2 2] hx rfl ?_ ?_ ?_ ?_ ?_ ?_
  · intro j u hj
    match j, hj with
    | 0, hj =>
      simp only [List.getElem?_cons_zero, Option.some.injEq] at hj
      subst hj
      exact (Blk.newAt (w.alloc (.cells #[.int .i64 (a : Int), .int .i64 (b : Int)] ti)) ts #[.slice (some ⟨w.heap.size, 0, none⟩) 2 2] (w.heap.size + 1) (by simp)).cell 0
    | j + 1, hj => simp at hj
  · intro u hu
    simp only [List.mem_singleton] at hu
    subst hu; rfl
  · unfold maxLen; omega
  · omega
  · simp; omega
  · intro v' w' h4 h5 _
    have hnew := Blk.alloc (Blk.new w ti #[.int .i64 (a : Int), .int .i64 (b : Int)]) (.cells #[.slice (some ⟨w.heap.size, 0, none⟩) 2 2] ts)
    have keep : ∀ g cs, Blk ((w.alloc (.cells #[.int .i64 (a : Int), .int .i64 (b : Int)] ti)).alloc (.cells #[.slice (some ⟨w.heap.size, 0, none⟩) 2 2] ts)) g ti cs → Blk w' g ti cs := by
      intro g cs hg
      refine (h5.block g hg.lt ?_).trans hg
      intro e
      rcases ((h2.alloc (.cells #[.int .i64 (a : Int), .int .i64 (b : Int)] ti)).alloc (.cells #[.slice (some ⟨w.heap.size, 0, none⟩) 2 2] ts)).2 with ⟨rfl, _⟩ | ⟨g', cap, cur, rfl, _, hh, _⟩
      · simp [Value.ownBlock] at e
      · simp only [Value.ownBlock, Option.some.injEq] at e
        subst e
        unfold Blk at hg
        rw [hh] at hg
        injection hg with hg
        injection hg with _ hg
        exact hne hg.symm
    refine h v' w' ⟨us ++ [.slice (some ⟨w.heap.size, 0, none⟩) 2 2], by simp [h1], by simpa using h4, ?_, ?_⟩ ?_
    · intro j u p hu hp
      rw [List.getElem?_append] at hu hp
      by_cases hj : j < ps.length
      · rw [if_pos (by omega)] at hu
        rw [if_pos hj] at hp
        obtain ⟨g, e, hgB, hg⟩ := h3 j u p hu hp
        exact ⟨g, e, hgB, keep g _ (Blk.alloc (Blk.alloc hg _) _)⟩
      · rw [if_neg (by omega)] at hu
        rw [if_neg hj] at hp
        rcases Nat.eq_zero_or_pos (j - ps.length) with h0 | h0
        · rw [h0] at hp
          rw [h1, h0] at hu
          simp only [List.getElem?_cons_zero, Option.some.injEq] at hu hp
          subst hu; subst hp
          exact ⟨w.heap.size, rfl, hB, keep _ _ hnew⟩
        · rw [List.getElem?_eq_none (by simp; omega)] at hp; cases hp
    · have old : ∀ i u, i < us.length → us[i]? = some u → u ≠ .slice (some ⟨w.heap.size, 0, none⟩) 2 2 := by
        intro i u hi hu e
        have hp : ps[i]? = some ps[i] := List.getElem?_eq_getElem (by omega)
        obtain ⟨g, e', _, hg⟩ := h3 i u _ hu hp
        rw [e'] at e
        injection e with e
        injection e with e
        injection e with e
        have := hg.lt
        omega
      intro i j u hu hu'
      rw [List.getElem?_append] at hu hu'
      by_cases hi : i < us.length
      · rw [if_pos hi] at hu
        by_cases hj : j < us.length
        · rw [if_pos hj] at hu'
          exact hdis i j u hu hu'
        · rw [if_neg hj] at hu'
          rcases Nat.eq_zero_or_pos (j - us.length) with h0 | h0
          · rw [h0] at hu'
            simp only [List.getElem?_cons_zero, Option.some.injEq] at hu'
            exact absurd hu'.symm (old i u hi hu)
          · rw [List.getElem?_eq_none (by simp; omega)] at hu'; cases hu'
      · rw [if_neg hi] at hu
        rcases Nat.eq_zero_or_pos (i - us.length) with h0 | h0
        · rw [h0] at hu
          simp only [List.getElem?_cons_zero, Option.some.injEq] at hu
          by_cases hj : j < us.length
          · rw [if_pos hj] at hu'
            exact absurd hu.symm (old j u hj hu')
          · rw [if_neg hj] at hu'
            rcases Nat.eq_zero_or_pos (j - us.length) with h0' | h0'
            · omega
            · rw [List.getElem?_eq_none (by simp; omega)] at hu'; cases hu'
        · rw [List.getElem?_eq_none (by simp; omega)] at hu; cases hu
    · have hb : Below B w ((w.alloc (.cells #[.int .i64 (a : Int), .int .i64 (b : Int)] ti)).alloc (.cells #[.slice (some ⟨w.heap.size, 0, none⟩) 2 2] ts)) := ((Below.refl _ _).alloc hB _).alloc (by simp; omega) _
      exact hb.grown h5 (by simp; omega) fun k hk => (h2.lt k hk).1
end Go.Proofs.Ytpdoheagfjeefaa

/- poFrom: a poset out of relations, as the model makes it. -/
namespace Go.Proofs.Ytpdoheagfjeefaa
open Go.RowKit Go.WideShapes Go.ChangeShapes
set_option linter.unusedVariables false

def fstep (g : Nat → Nat) (i : Nat) (p : Nat × Nat) (r : Nat) : Nat := if p.2 = i then (if r = i then g i ||| (2 ^ p.1 ||| g p.1) else g r) else g r
def fin_ (ps : List (Nat × Nat)) (i : Nat) (g : Nat → Nat) : Nat → Nat → Nat
  | 0 => g
  | k + 1 => fstep (fin_ ps i g k) i (ps.getD k (0, 0))
def fout (ps : List (Nat × Nat)) : Nat → Nat → Nat
  | 0 => fun _ => 0
  | i + 1 => fin_ ps i (fout ps i) ps.length
theorem fin_lt {ps : List (Nat × Nat)} {i : Nat} {g : Nat → Nat} (hp : ∀ k, k < ps.length → (ps.getD k (0, 0)).1 < 10) (hg : ∀ r, g r < 1024) (k : Nat) (hk : k ≤ ps.length) : ∀ r, fin_ ps i g k r < 1024 := by
  induction k with
  | zero => exact hg
  | succ k ih =>
    have ih := ih (by omega)
    intro r
    unfold fin_ fstep
    split
    · split
      · exact Nat.or_lt_two_pow (n := 10) (ih _) (Nat.or_lt_two_pow (n := 10) (Nat.pow_lt_pow_right (by decide) (hp k (by omega))) (ih _))
      · exact ih r
    · exact ih r
theorem fout_lt {ps : List (Nat × Nat)} (hp : ∀ k, k < ps.length → (ps.getD k (0, 0)).1 < 10) (i : Nat) : ∀ r, fout ps i r < 1024 := by
  induction i with
  | zero => intro r; simp [fout]
  | succ i ih => exact fin_lt hp ih ps.length (Nat.le_refl _)
def fromL (n : Nat) (ps : List (Nat × Nat)) : List Int := mkL n (fout ps n)
def PairsOk (n : Nat) (ps : List (Nat × Nat)) : Prop := ∀ k, k < ps.length → (ps.getD k (0, 0)).1 < n ∧ (ps.getD k (0, 0)).2 < n

structure FromW (ti tp : TypeId) (n : Nat) (w : World) (g : Nat → Nat) (wr : World) : Prop where
  row : Blk wr (w.heap.size + 1) ti (Vals (mkL n g))
  out : Blk wr (w.heap.size + 1 + 1) tp #[.slice (some ⟨w.heap.size + 1, 0, none⟩) n n]
  res : Blk wr w.heap.size tp #[.slice none 0 0]
  below : Below w.heap.size w wr
theorem FromW.start (ti tp : TypeId) (n : Nat) (w : World) (g : Nat → Nat) :
    FromW ti tp n w g (((w.alloc (.cells #[.slice none 0 0] tp)).alloc (.cells (Vals (mkL n g)) ti)).alloc (.cells #[.slice (some ⟨w.heap.size + 1, 0, none⟩) n n] tp)) :=
  ⟨(Blk.newAt _ _ _ _ (by simp)).alloc _, Blk.newAt _ _ _ _ (by simp), ((Blk.new _ _ _).alloc _).alloc _, ((((Below.refl _ _).alloc (Nat.le_refl _) _).alloc (by simp) _).alloc (by simp; omega) _)⟩
theorem FromW.step {ti tp : TypeId} {n : Nat} {w wr : World} {g g' : Nat → Nat} {q : Nat} {y : Int} (h : FromW ti tp n w g wr) (e : mkL n g' = (mkL n g).set q y) :
    FromW ti tp n w g' ((wr.setCell ⟨w.heap.size + 1, q, none⟩ (.int .i64 y)).drew) := by
  refine ⟨?_, ?_, ?_, ?_⟩
  · rw [e, ← Vals_set]; exact h.row.set_ q _
  · exact h.out.far (p := ⟨w.heap.size + 1, q, none⟩) (by show w.heap.size + 1 + 1 ≠ w.heap.size + 1; omega) _
  · exact h.res.far (p := ⟨w.heap.size + 1, q, none⟩) (by show w.heap.size ≠ w.heap.size + 1; omega) _
  · exact (h.below.setCell (p := ⟨w.heap.size + 1, q, none⟩) (by show w.heap.size ≤ w.heap.size + 1; omega) _).drew

/-- 'v' reads as a list of pairs -/
def PairsR (w : World) (v : Value) (ps : List (Nat × Nat)) : Prop :=
  ∃ A c, v = .slice A ps.length c ∧ ∀ j, j < ps.length → ∃ b o g p m, A = some ⟨b, o, none⟩ ∧ b < w.heap.size ∧ g < w.heap.size ∧ w.cell? ⟨b, o + j, none⟩ = some (.slice (some ⟨g, p, none⟩) 2 m) ∧ w.cell? ⟨g, p, none⟩ = some (.int .i64 ((ps.getD j (0, 0)).1 : Int)) ∧ w.cell? ⟨g, p + 1, none⟩ = some (.int .i64 ((ps.getD j (0, 0)).2 : Int))
theorem Pairs.read {ti ts : TypeId} {w : World} {B : Nat} {v : Value} {ps : List (Nat × Nat)} (h : Pairs ti ts w B v ps) : PairsR w v ps := by
  obtain ⟨A, c, rfl, hA⟩ := h.shape
  refine ⟨A, c, rfl, fun j hj => ?_⟩
  obtain ⟨b, g, rfl, hb, hg, h0, h1, h2⟩ := hA j hj
  exact ⟨b, 0, g, 0, 2, rfl, hb, hg, by rw [Nat.zero_add]; exact h0, h1, by rw [Nat.zero_add]; exact h2⟩
theorem poFromR_any (v : Value) (ps : List (Nat × Nat)) (n : Nat) (w : World) (hv : PairsR w v ps) (hn : n ≤ 10) (hok : PairsOk n ps) (hl : ps.length ≤ 1048576) :
    Calls Try.prog 172 #[.int .i64 n, v] w fun (r : Ending) w' => ∃ u, r = Ending.returned (.agg #[u]) ∧ OwnI 3 w' w.heap.size u (fromL n ps) ∧ Below w.heap.size w w' := by
  obtain ⟨A, c, rfl, hA⟩ := hv
  have HA := hid hA
  have HK := hid hok
  clear hA hok
  have hmk := run_make_row' (P := Try.prog) 24 3 (.int .i64 0) 8 Try.underlying24 Try.info3 rfl .i64 .i64 n (by omega) (by omega)
  go_enter Try.func172, Try.ntmps172
  go_wp2
  clear hmk
  rw [Vals_made]
  go_loopw [6] (fun i wr => ∃ k : Nat, k ≤ n ∧ i = .int .i64 k ∧ FromW 3 26 n w (fout ps k) wr) (fun i _ => n - (intOf i).toNat)
  case atStart => exact ⟨0, Nat.zero_le _, rfl, by rw [← mkL_zero]; exact FromW.start _ _ _ _ _⟩
  case round =>
    obtain ⟨k, hk, rfl, hD⟩ := hrel
    have HD := hid hD
    clear hD
    by_cases hlt : k < n
    · go_wp2
      go_loopw [19] (fun j wi => ∃ t : Nat, t ≤ ps.length ∧ j = .int .i64 t ∧ FromW 3 26 n w (fin_ ps k (fout ps k) t) wi) (fun j _ => ps.length - (intOf j).toNat)
      case atStart => exact ⟨0, Nat.zero_le _, rfl, HD.out⟩
      case round =>
        obtain ⟨t, ht, rfl, hT⟩ := hrel
        have HT := hid hT
        clear hT
        by_cases htk : t < ps.length
        · obtain ⟨b, o, g, pp, m, rfl, hb, hg, hc0, hc1, hc2⟩ := HA.out t htk
          obtain ⟨p1, p2⟩ := HK.out t htk
          obtain ⟨a, ha⟩ : ∃ a, (ps.getD t (0, 0)).1 = a := ⟨_, rfl⟩
          obtain ⟨y, hy⟩ : ∃ y, (ps.getD t (0, 0)).2 = y := ⟨_, rfl⟩
          rw [ha] at hc1 p1
          rw [hy] at hc2 p2
          have t1 : wr.cell? ⟨b, o + t, none⟩ = some (.slice (some ⟨g, pp, none⟩) 2 m) := by rw [HT.out.below.cell (p := ⟨b, o + t, none⟩) hb]; exact hc0
          have t2 : wr.cell? ⟨g, pp, none⟩ = some (.int .i64 (a : Int)) := by rw [HT.out.below.cell (p := ⟨g, pp, none⟩) hg]; exact hc1
          have t3 : wr.cell? ⟨g, pp + 1, none⟩ = some (.int .i64 (y : Int)) := by rw [HT.out.below.cell (p := ⟨g, pp + 1, none⟩) hg]; exact hc2
          have hlp : ∀ k, k < ps.length → (ps.getD k (0, 0)).1 < 10 := fun k hk => by have := (HK.out k hk).1; omega
          have hlt2 := fin_lt (i := k) hlp (fout_lt hlp k) t (by omega)
          have Ha := hid ha
          have Hy := hid hy
          have Hlt2 := hid hlt2
          clear hc0 hc1 hc2 ha hy hlp hlt2
          by_cases hyk : y = k
          · subst hyk
            have hp := Hlt2.out y
            have hq := Hlt2.out a
            obtain ⟨p, hpp⟩ : ∃ p, fin_ ps y (fout ps y) t y = p := ⟨_, rfl⟩
            obtain ⟨q, hqq⟩ : ∃ q, fin_ ps y (fout ps y) t a = q := ⟨_, rfl⟩
            rw [hpp] at hp
            rw [hqq] at hq
            have t0 := HT.out.out.cell 0
            have t4 : wr.cell? ⟨w.heap.size + 1, y, none⟩ = some (.int .i64 p) := by rw [HT.out.row.cell, Vals_get (by rw [mkL_length]; exact hlt), mkL_getD hlt, hpp]
            have t5 : wr.cell? ⟨w.heap.size + 1, a, none⟩ = some (.int .i64 q) := by rw [HT.out.row.cell, Vals_get (by rw [mkL_length]; exact p1), mkL_getD p1, hqq]
            have t6 := HT.out.row.frozen y
            have wp := wrap_pow' a (by omega)
            have o1 := pow_or q a hq (by omega)
            have o3 : 2 ^ a ||| q < 1024 := Nat.or_lt_two_pow (n := 10) (Nat.pow_lt_pow_right (by decide) (by omega)) hq
            have o2 := i64_or_nat p (2 ^ a ||| q) (by omega) (Nat.lt_trans o3 (by decide))
            have h1 : (y : Int) < n := by omega
            have h2 : (a : Int) < n := by omega
            have Hp := hid hpp
            have Hq := hid hqq
            clear hpp hqq hp hq o3
            obtain ⟨z, hz⟩ : ∃ z, 2 ^ a ||| q = z := ⟨_, rfl⟩
            rw [hz] at o1 o2
            have Hz := hid hz
            clear hz
            go_wp2
            go_region
            go_wp2
            go_roundw
            case rel => exact ⟨t + 1, by omega, by go_num, (by
              have e : mkL n (fin_ ps y (fout ps y) (t + 1)) = (mkL n (fin_ ps y (fout ps y) t)).set y ((p ||| z : Nat) : Int) := by
                rw [mkL_set _ hlt]
                refine mkL_congr fun r _ => ?_
                rw [fin_, fstep, Hy.out, if_pos rfl, Ha.out, Hp.out, Hq.out, Hz.out]
              exact HT.out.step e)⟩
            case measure => simp [intOf]; omega
          · have hyz : ((y : Int) == (k : Int)) = false := by rw [beq_eq_false_iff_ne]; omega
            have Hyk := hid hyk
            clear hyk
            go_wp2
            go_roundw
            case rel => exact ⟨t + 1, by omega, by go_num, (by
              have e : fin_ ps k (fout ps k) (t + 1) = fin_ ps k (fout ps k) t := by
                funext r
                rw [fin_, fstep, Hy.out, if_neg Hyk.out]
              rw [e]; exact HT.out)⟩
            case measure => simp [intOf]; omega
        · obtain rfl : t = ps.length := by omega
          go_wp2
          go_roundw
          case rel => exact ⟨k + 1, by omega, by go_num, HT.out⟩
          case measure => simp [intOf]; omega
    · obtain rfl : k = n := by omega
      have t0 := HD.out.out.cell 0
      have t1 := HD.out.res.cell 0
      have t2 := HD.out.res.frozen 0
      go_wp2
      refine bodyPost_ret (v := .agg #[.slice (some ⟨w.heap.size + 1, 0, none⟩) k k]) (by simp [results, Try.results172, go_sem, t1]) rfl ⟨_, rfl, ?_, ?_⟩
      · have h := HD.out.row
        have hlen : (fromL k ps).length = k := mkL_length _ _
        have h2 : OwnI 3 wr w.heap.size (.slice (some ⟨w.heap.size + 1, 0, none⟩) (fromL k ps).length (fromL k ps).length) (fromL k ps) := Blk.own h (by omega) (by omega)
        rw [hlen] at h2
        exact h2.grown (grown_setCell (World.grownBy.refl _ _) 0 _) (.inr (by simp [Value.ownBlock]))
      · exact HD.out.below.setCell (p := ⟨w.heap.size, 0, none⟩) (Nat.le_refl _) _
theorem poFrom_any (v : Value) (ps : List (Nat × Nat)) (n B : Nat) (w : World) (hv : Pairs 3 24 w B v ps) (hn : n ≤ 10) (hok : PairsOk n ps) (hl : ps.length ≤ 1048576) :
    Calls Try.prog 172 #[.int .i64 n, v] w fun (r : Ending) w' => ∃ u, r = Ending.returned (.agg #[u]) ∧ OwnI 3 w' w.heap.size u (fromL n ps) ∧ Below w.heap.size w w' :=
  poFromR_any v ps n w hv.read hn hok hl
end Go.Proofs.Ytpdoheagfjeefaa
