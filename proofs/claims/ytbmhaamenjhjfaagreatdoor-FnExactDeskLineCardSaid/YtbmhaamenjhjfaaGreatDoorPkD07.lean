/- Dual Cyc Orb Order -/
import Derived.Test.YtbmhaamenjhjfaaGreatDoorPkD06
namespace Go.Proofs.YtbmhaamenjhjfaaGreatDoor
open Go.RowKit Go.WideShapes Go.ChangeShapes
set_option linter.unusedVariables false
def dualF (xs : List Int) (j i : Nat) : Bool := (xs.getD (xs.length - 1 - j) 0).toNat.testBit (xs.length - 1 - i)
def dstep (xs : List Int) (n i : Nat) (g : Nat → Nat) (j : Nat) (r : Nat) : Nat := if (xs.getD i 0).toNat.testBit j then (if r = n - 1 - j then g (n - 1 - j) ||| 2 ^ (n - 1 - i) else g r) else g r
def din (xs : List Int) (n i : Nat) (g : Nat → Nat) : Nat → Nat → Nat
  | 0 => g
  | j + 1 => dstep xs n i (din xs n i g j) j
def dout (xs : List Int) (n : Nat) : Nat → Nat → Nat
  | 0 => fun _ => 0
  | i + 1 => din xs n i (dout xs n i) i
theorem din_lt {xs : List Int} {n i : Nat} {g : Nat → Nat} (hn : n ≤ 10) (hg : ∀ r, g r < 1024) (t : Nat) : ∀ r, din xs n i g t r < 1024 := by
  induction t with
  | zero => exact hg
  | succ t ih =>
    intro r
    unfold din dstep
    split
    · split
      · exact Nat.or_lt_two_pow (n := 10) (ih _) (Nat.pow_lt_pow_right (by decide) (by omega))
      · exact ih r
    · exact ih r
theorem dout_lt {xs : List Int} {n : Nat} (hn : n ≤ 10) (k : Nat) : ∀ r, dout xs n k r < 1024 := by
  induction k with
  | zero => intro r; simp [dout]
  | succ k ih => exact din_lt hn ih k
theorem din_testBit {xs : List Int} {n i : Nat} {g : Nat → Nat} (t : Nat) (ht : t ≤ n) (r s : Nat) (hr : r < n) :
    (din xs n i g t r).testBit s = true ↔ (g r).testBit s = true ∨ (n - 1 - r < t ∧ (xs.getD i 0).toNat.testBit (n - 1 - r) = true ∧ s = n - 1 - i) := by
  induction t with
  | zero => simp [din]
  | succ t ih =>
    have ih := ih (by omega)
    unfold din dstep
    by_cases hb : (xs.getD i 0).toNat.testBit t = true
    · rw [if_pos hb]
      by_cases e : r = n - 1 - t
      · rw [if_pos e, ← e, Nat.testBit_or, Bool.or_eq_true, ih]
        have e2 : n - 1 - r = t := by omega
        rw [e2]
        constructor
        · rintro ((h | h) | h)
          · exact .inl h
          · exact .inr ⟨by omega, h.2.1, h.2.2⟩
          · rw [Nat.testBit_two_pow] at h
            exact .inr ⟨by omega, hb, by simpa using (of_decide_eq_true h).symm⟩
        · rintro (h | ⟨-, -, h⟩)
          · exact .inl (.inl h)
          · exact .inr (by rw [h]; exact Nat.testBit_two_pow_self)
      · rw [if_neg e, ih]
        constructor
        · rintro (h | ⟨h1, h2⟩)
          · exact .inl h
          · exact .inr ⟨by omega, h2⟩
        · rintro (h | ⟨h1, h2⟩)
          · exact .inl h
          · exact .inr ⟨by omega, h2⟩
    · rw [if_neg hb, ih]
      constructor
      · rintro (h | ⟨h1, h2⟩)
        · exact .inl h
        · exact .inr ⟨by omega, h2⟩
      · rintro (h | ⟨h1, h2, h3⟩)
        · exact .inl h
        · by_cases e : n - 1 - r = t
          · rw [e] at h2; exact absurd h2 hb
          · exact .inr ⟨by omega, h2, h3⟩
theorem dout_testBit {xs : List Int} {n : Nat} (k : Nat) (hk : k ≤ n) (r s : Nat) (hr : r < n) :
    (dout xs n k r).testBit s = true ↔ ∃ i, i < k ∧ n - 1 - r < i ∧ (xs.getD i 0).toNat.testBit (n - 1 - r) = true ∧ s = n - 1 - i := by
  induction k with
  | zero => simp [dout]
  | succ k ih =>
    unfold dout
    rw [din_testBit k (by omega) r s hr, ih (by omega)]
    constructor
    · rintro (⟨i, h1, h2⟩ | h)
      · exact ⟨i, by omega, h2⟩
      · exact ⟨k, by omega, h⟩
    · rintro ⟨i, h1, h2⟩
      by_cases e : i = k
      · subst e; exact .inr h2
      · exact .inl ⟨i, by omega, h2⟩
theorem dout_full (xs : List Int) : mkL xs.length (dout xs xs.length xs.length) = whereL (dualF xs) xs.length := by
  unfold whereL
  refine mkL_congr fun r hr => Nat.eq_of_testBit_eq fun s => ?_
  rw [Bool.eq_iff_iff, dout_testBit _ (Nat.le_refl _) r s hr, rowN_testBit, Bool.and_eq_true, decide_eq_true_eq]
  unfold dualF
  constructor
  · rintro ⟨i, h1, h2, h3, rfl⟩
    refine ⟨by omega, ?_⟩
    rw [show xs.length - 1 - (xs.length - 1 - i) = i by omega]
    exact h3
  · rintro ⟨h1, h2⟩
    exact ⟨xs.length - 1 - s, by omega, by omega, h2, by omega⟩
def dualL (xs : List Int) : List Int := if good xs then whereL (dualF xs) xs.length else []
theorem dualL_yes {xs : List Int} (h : good xs = true) : dualL xs = whereL (dualF xs) xs.length := if_pos h
theorem dualL_no {xs : List Int} (h : good xs = false) : dualL xs = [] := by simp [dualL, h]
theorem dualL_length (xs : List Int) : (dualL xs).length ≤ 1048576 := by
  unfold dualL
  split
  · rename_i h
    unfold whereL
    rw [mkL_length]
    have := (good_length h).2
    omega
  · simp
theorem dualClosure_any (v : Value) (xs : List Int) (a1 a2 j i : Nat) (w : World) (hv : Ints w v xs) (hg : good xs = true) (h1 : At w a1 v) (h2 : At w a2 (.int .i64 ((xs.length - 1 : Nat) : Int))) (hj : j < i) (hi : i < xs.length) :
    Calls Tryz.prog 164 #[.int .i64 j, .int .i64 i, .pointer (some ⟨a1, 0, none⟩), .pointer (some ⟨a2, 0, none⟩)] w fun r w' => r = .returned (.bool (dualF xs j i)) ∧ Below w.heap.size w w' := by
  have hl10 := (good_length hg).2
  have hok := okAt_small (good_at hg (show xs.length - 1 - j < xs.length by omega)) (by omega)
  obtain ⟨A, c, rfl, hA⟩ := hv
  obtain ⟨b, o, rfl, hbl, hc⟩ := hA (by intro h; simp [h] at hi)
  have hcell := hc (xs.length - 1 - j) (by omega)
  obtain ⟨x, hx⟩ : ∃ x, xs.getD (xs.length - 1 - j) 0 = x := ⟨_, rfl⟩
  rw [hx] at hcell hok
  obtain ⟨z, rfl⟩ := Int.eq_ofNat_of_zero_le hok.1
  obtain ⟨R, hR⟩ : ∃ R, dualF xs j i = R := ⟨_, rfl⟩
  have HR : Hid (z.testBit (xs.length - 1 - i) = R) := by unfold dualF at hR; rw [hx, Int.toNat_natCast] at hR; exact hR
  rw [hR]
  obtain ⟨h1, -⟩ := h1
  obtain ⟨h2, -⟩ := h2
  obtain ⟨p, hp⟩ : ∃ p, xs.length - 1 - j = p := ⟨_, rfl⟩
  obtain ⟨q, hq⟩ : ∃ q, xs.length - 1 - i = q := ⟨_, rfl⟩
  rw [hp] at hcell
  rw [hq] at HR
  have e1 : IntKind.i64.wrap (((xs.length - 1 : Nat) : Int) - (j : Int)) = (p : Int) := by rw [IntWalk.i64_in _ (by omega)]; omega
  have e2 : IntKind.i64.wrap (((xs.length - 1 : Nat) : Int) - (i : Int)) = (q : Int) := by rw [IntWalk.i64_in _ (by omega)]; omega
  have hp3 : (p : Int) < xs.length := by omega
  have hp4 : p < xs.length := by omega
  have hq3 : q < 64 := by omega
  have hz3 : z < 1024 := by omega
  clear hc hA hx hR hp hq hg hok hj hi
  go_enter Tryz.func164, Tryz.ntmps164
  go_wp2
  go_quiet ((go_at_call 165; exact Calls.quiet_of_same ((hasElement_any z q (by omega) hq3 _).mono fun _ _ ⟨a, b⟩ => ⟨a, b.symm⟩)))
  go_wp2
  go_ret
  exact ⟨ret_bool HR.out, below_drewN (Below.refl _ _) _⟩
structure DualW (ti tp : TypeId) (n : Nat) (w : World) (g : Nat → Nat) (wr : World) : Prop where
  row : Blk wr (w.heap.size + 1 + 1) ti (Vals (mkL n g))
  out : Blk wr (w.heap.size + 1 + 1 + 1) tp #[.slice (some ⟨w.heap.size + 1 + 1, 0, none⟩) n n]
  res : Blk wr (w.heap.size + 1) tp #[.slice none 0 0]
  below : Below w.heap.size w wr
theorem DualW.start (ti tp : TypeId) (n : Nat) (w : World) (u : Value) (g : Nat → Nat) :
    DualW ti tp n w g ((((w.alloc (.cells #[u] tp)).alloc (.cells #[.slice none 0 0] tp)).alloc (.cells (Vals (mkL n g)) ti)).alloc (.cells #[.slice (some ⟨w.heap.size + 1 + 1, 0, none⟩) n n] tp)) :=
  ⟨(Blk.newAt _ _ _ _ (by simp)).alloc _, Blk.newAt _ _ _ _ (by simp), ((Blk.newAt _ _ _ _ (by simp)).alloc _).alloc _, (((((Below.refl _ _).alloc (Nat.le_refl _) _).alloc (by simp) _).alloc (by simp; omega) _).alloc (by simp; omega) _)⟩
theorem DualW.step {ti tp : TypeId} {n : Nat} {w wr : World} {g g' : Nat → Nat} {q : Nat} {y : Int} (h : DualW ti tp n w g wr) (e : mkL n g' = (mkL n g).set q y) :
    DualW ti tp n w g' ((wr.setCell ⟨w.heap.size + 1 + 1, q, none⟩ (.int .i64 y)).drew) := by
  refine ⟨?_, ?_, ?_, ?_⟩
  · rw [e, ← Vals_set]; exact h.row.set_ q _
  · exact h.out.far (p := ⟨w.heap.size + 1 + 1, q, none⟩) (by show w.heap.size + 1 + 1 + 1 ≠ w.heap.size + 1 + 1; omega) _
  · exact h.res.far (p := ⟨w.heap.size + 1 + 1, q, none⟩) (by show w.heap.size + 1 ≠ w.heap.size + 1 + 1; omega) _
  · exact (h.below.setCell (p := ⟨w.heap.size + 1 + 1, q, none⟩) (by show w.heap.size ≤ w.heap.size + 1 + 1; omega) _).drew
theorem poDual_any (v : Value) (xs : List Int) (w : World) (hv : Ints w v xs) (hg : good xs = true) :
    Calls Tryz.prog 75 #[.agg #[v]] w fun (r : Ending) w' => ∃ u, r = Ending.returned (.agg #[u]) ∧ OwnI 3 w' w.heap.size u (dualL xs) ∧ Below w.heap.size w w' := by
  have hl10 := (good_length hg).2
  have HG := hid hg
  have HY := hid (dualL_yes hg)
  obtain ⟨A, c, rfl, hA⟩ := hv
  have HA := hid hA
  obtain ⟨n, hn⟩ : ∃ n, xs.length = n := ⟨_, rfl⟩
  rw [hn] at HY hl10
  have Hn := hid hn
  rw [hn]
  clear hA hg hn
  have hmk := run_make_row' (P := Tryz.prog) 22 3 (.int .i64 0) 8 Tryz.underlying22 Tryz.info3 rfl .i64 .i64 n (by omega) (by omega)
  go_enter Tryz.func75, Tryz.ntmps75
  go_wp2
  clear hmk
  rw [Vals_made]
  go_loopw [17] (fun i wr => ∃ k : Nat, k ≤ n ∧ i = .int .i64 k ∧ DualW 3 28 n w (dout xs n k) wr) (fun i _ => n - (intOf i).toNat)
  case atStart => exact ⟨0, Nat.zero_le _, rfl, by rw [← mkL_zero]; exact DualW.start _ _ _ _ _ _⟩
  case round =>
    obtain ⟨k, hk, rfl, hD⟩ := hrel
    have HD := hid hD
    clear hD
    by_cases hlt : k < n
    · obtain ⟨b, o, rfl, hbl, hc⟩ := HA.out (by intro h; have := Hn.out; rw [h] at this; simp at this; omega)
      have hcell : wr.cell? ⟨b, o + k, none⟩ = some (.int .i64 (xs.getD k 0)) := by
        rw [HD.out.below.cell (p := ⟨b, o + k, none⟩) hbl]; exact hc k (by rw [Hn.out]; exact hlt)
      have hok := okAt_small (good_at HG.out (show k < xs.length by rw [Hn.out]; exact hlt)) (by omega)
      obtain ⟨x, hx⟩ : ∃ x, xs.getD k 0 = x := ⟨_, rfl⟩
      rw [hx] at hcell hok
      obtain ⟨z, rfl⟩ := Int.eq_ofNat_of_zero_le hok.1
      have Hx := hid hx
      clear hc hx
      go_wp2
      go_loopw [7] (fun j wi => ∃ t : Nat, t ≤ k ∧ j = .int .i64 t ∧ DualW 3 28 n w (din xs n k (dout xs n k) t) wi) (fun j _ => k - (intOf j).toNat)
      case atStart => exact ⟨0, Nat.zero_le _, rfl, HD.out⟩
      case round =>
        obtain ⟨t, ht, rfl, hT⟩ := hrel
        have HT := hid hT
        clear hT
        by_cases htk : t < k
        · cases hbit : z.testBit t
          · have Hbit := hid hbit
            clear hbit
            go_wp2_with (go_at_call 130; refine (poIn_any z t (by omega) _).mono ?_; rw [Hbit.out]; rintro e w' ⟨rfl, rfl⟩)
            go_roundw
            case rel => exact ⟨t + 1, by omega, by go_num, (by
              have e : din xs n k (dout xs n k) (t + 1) = din xs n k (dout xs n k) t := by
                funext r
                rw [din, dstep, Hx.out, Int.toNat_natCast, Hbit.out]; rfl
              rw [e]; exact HT.out)⟩
            case measure => simp [intOf]; omega
          · have Hbit := hid hbit
            have hlt2 := din_lt (xs := xs) (i := k) hl10 (dout_lt (xs := xs) hl10 k) t (n - 1 - t)
            obtain ⟨p, hp⟩ : ∃ p, din xs n k (dout xs n k) t (n - 1 - t) = p := ⟨_, rfl⟩
            rw [hp] at hlt2
            obtain ⟨q, hq⟩ : ∃ q, n - 1 - t = q := ⟨_, rfl⟩
            obtain ⟨y, hy⟩ : ∃ y, n - 1 - k = y := ⟨_, rfl⟩
            have t0 := HT.out.out.cell 0
            have t1 : wr.cell? ⟨w.heap.size + 1 + 1, q, none⟩ = some (.int .i64 p) := by
              rw [HT.out.row.cell, Vals_get (by rw [mkL_length]; omega), mkL_getD (by omega), ← hp, hq]
            have t2 := HT.out.row.frozen q
            have wp := wrap_pow' y (by omega)
            have hor := or_pow p y hlt2 (by omega)
            have e1 : (n : Int) - 1 - (t : Int) = (q : Int) := by omega
            have e2 : (n : Int) - 1 - (k : Int) = (y : Int) := by omega
            have hqn : (q : Int) < n := by omega
            have hqn2 : q < n := by omega
            have Hp := hid hp
            have Hq := hid hq
            have Hy := hid hy
            clear hp hq hy hlt2 hbit
            go_wp2_with (go_at_call 130; refine (poIn_any z t (by omega) _).mono ?_; rw [Hbit.out]; rintro e w' ⟨rfl, rfl⟩)
            go_region
            go_wp2
            go_roundw
            case rel => exact ⟨t + 1, by omega, by go_num, (by
              have e : mkL n (din xs n k (dout xs n k) (t + 1)) = (mkL n (din xs n k (dout xs n k) t)).set q ((p ||| 2 ^ y : Nat) : Int) := by
                rw [mkL_set _ hqn2]
                refine mkL_congr fun r _ => ?_
                rw [din, dstep, Hx.out, Int.toNat_natCast, if_pos Hbit.out, Hp.out, Hq.out, Hy.out]
              exact HT.out.step e)⟩
            case measure => simp [intOf]; omega
        · obtain rfl : t = k := by omega
          go_wp2
          go_roundw
          case rel => exact ⟨t + 1, by omega, by go_num, HT.out⟩
          case measure => simp [intOf]; omega
    · obtain rfl : k = n := by omega
      have t0 := HD.out.out.cell 0
      have t1 := HD.out.res.cell 0
      have t2 := HD.out.res.frozen 0
      go_wp2
      refine bodyPost_ret (v := .agg #[.slice (some ⟨w.heap.size + 1 + 1, 0, none⟩) k k]) (by simp [results, Tryz.results75, go_sem, t1]) rfl ⟨_, rfl, ?_, ?_⟩
      · have h := HD.out.row
        have e : mkL k (dout xs k k) = dualL xs := by rw [HY.out, ← Hn.out]; exact dout_full xs
        rw [e] at h
        have hlen : (dualL xs).length = k := by rw [← e, mkL_length]
        have h2 := h.own (B := w.heap.size) (xs := dualL xs) (by omega) (dualL_length xs)
        rw [hlen] at h2
        exact h2.grown (grown_setCell (World.grownBy.refl _ _) 0 _) (.inr (by simp [Value.ownBlock]))
      · exact HD.out.below.setCell (p := ⟨w.heap.size + 1, 0, none⟩) (by show w.heap.size ≤ w.heap.size + 1; omega) _
theorem twoBoxes {w w1 : World} {t t' : TypeId} {a b : Array Value} (hb : Below ((w.alloc (.cells a t)).alloc (.cells b t')).heap.size ((w.alloc (.cells a t)).alloc (.cells b t')) w1) :
    Blk w1 w.heap.size t a ∧ Blk w1 (w.heap.size + 1) t' b ∧ w.heap.size + 2 ≤ w1.heap.size ∧ Below w.heap.size w w1 := by
  refine ⟨?_, ?_, ?_, ?_⟩
  · exact ((Blk.new w t a).alloc _).below hb (by simp; omega)
  · exact (Blk.newAt _ t' b (w.heap.size + 1) (by simp)).below hb (by simp)
  · have := hb.size; simp at this; omega
  · exact below_to (below_alloc (below_alloc (Below.refl _ _) _) _) hb
theorem implDualOf_any (v : Value) (xs : List Int) (w : World) (hv : Ints w v xs) (hl : xs.length ≤ 1048576) :
    Calls Tryz.prog 103 #[.agg #[v]] w fun (r : Ending) w' => ∃ u, r = Ending.returned (.tuple #[.agg #[u], .bool (good xs)]) ∧ OwnI 3 w' w.heap.size u (dualL xs) ∧ (dualL xs).length ≤ 1048576 ∧ Below w.heap.size w w' := by
  have HV := hid hv
  have HL := hid (dualL_length xs)
  obtain ⟨A, c, rfl, -⟩ := hv
  cases hg : good xs
  · have HG := hid hg
    have HN := hid (dualL_no hg)
    clear hg
    go_enter Tryz.func103, Tryz.ntmps103
    go_wp2_with fail
    refine (implIsPoset_any _ xs _ ((HV.out.alloc _).alloc _) hl).mono ?_
    rw [HG.out]
    rintro e w1 ⟨rfl, hb1⟩
    obtain ⟨hp, hr, hz, hB⟩ := twoBoxes hb1
    have t1 := hr.cell 0
    have t2 := hr.frozen 0
    have HB := hid hB
    clear hb1 hp hr hB
    go_wp2
    refine bodyPost_ret (v := .tuple #[.agg #[.slice none 0 0], .bool false]) (by simp [results, Tryz.results103, go_sem, t1]) rfl ⟨_, rfl, by rw [HN.out]; exact OwnI.nil _ _ _, HL.out, ?_⟩
    exact HB.out.setCell (p := ⟨w.heap.size + 1, 0, none⟩) (by show w.heap.size ≤ w.heap.size + 1; omega) _
  · have HG := hid hg
    have hl10 := (good_length hg).2
    have hn1 := (good_length hg).1
    have HY := hid (dualL_yes hg)
    clear hg
    go_enter Tryz.func103, Tryz.ntmps103
    go_wp2_with fail
    refine (implIsPoset_any _ xs _ ((HV.out.alloc _).alloc _) hl).mono ?_
    rw [HG.out]
    rintro e w1 ⟨rfl, hb1⟩
    obtain ⟨hp, hr, hz, hB⟩ := twoBoxes hb1
    have t0 := hp.cell 0
    have hz0 : w.heap.size < w1.heap.size := by omega
    have HP := hid hp
    have HR := hid hr
    have HB := hid hB
    have HV1 := hid (HV.out.below hB)
    clear hb1 hp hr hB
    go_wp2_with fail
    obtain ⟨W, hW⟩ : ∃ W : World, W = w1.alloc (.cells #[.int .i64 ((xs.length : Int) - 1)] 3) := ⟨_, rfl⟩
    have HA2 : Hid (At W w1.heap.size (.int .i64 ((xs.length - 1 : Nat) : Int))) := hid (by
      subst hW
      have e : ((xs.length : Int) - 1) = ((xs.length - 1 : Nat) : Int) := by omega
      rw [e]; exact At.new _ _ _)
    have HA1 : Hid (At W w.heap.size (.slice A xs.length c)) := hid (by subst hW; exact At.alloc ⟨HP.out.cell 0, HP.out.lt⟩ _)
    have HV2 : Hid (Ints W (.slice A xs.length c) xs) := hid (by subst hW; exact HV1.out.alloc _)
    have HR2 : Hid (Blk W (w.heap.size + 1) 28 #[.slice none 0 0]) := hid (by subst hW; exact HR.out.alloc _)
    have HB2 : Hid (Below w.heap.size w W) := hid (by subst hW; exact below_alloc HB.out _)
    have hzW : w.heap.size + 2 < W.heap.size := by subst hW; simp; omega
    rw [← hW]
    clear hW t0
    refine (posetWhereDual_any xs.length _ _ (dualF xs) W hl10 (fun j i W' hj hi hb => dualClosure_any _ xs w.heap.size w1.heap.size j i W' (HV2.out.below hb) HG.out (HA1.out.below hb) (HA2.out.below hb) hj hi)).mono ?_
    rintro e w2 ⟨u, rfl, ho, hb2⟩
    have hr := HR2.out.below hb2 (by omega)
    have t1 := hr.cell 0
    have t2 := hr.frozen 0
    obtain ⟨uA, un, uc, rfl⟩ := ho.shape3
    have HO := hid ho
    have HB3 := hid (below_to HB2.out hb2)
    clear hr ho hb2
    go_wp2
    refine bodyPost_ret (v := .tuple #[.agg #[.slice uA un uc], .bool true]) (by simp [results, Tryz.results103, go_sem, t1]) rfl ⟨_, rfl, ?_, HL.out, ?_⟩
    · rw [HY.out]
      refine (HO.out.grown (grown_setCell (World.grownBy.refl _ _) 0 _) ?_).mono (by omega)
      exact HO.out.apart (.inl (by omega))
    · exact HB3.out.setCell (p := ⟨w.heap.size + 1, 0, none⟩) (by show w.heap.size ≤ w.heap.size + 1; omega) _
end Go.Proofs.YtbmhaamenjhjfaaGreatDoor
namespace Go.Proofs.YtbmhaamenjhjfaaGreatDoor
set_option linter.unusedVariables false
def cntF (seen : List Bool) : Nat := seen.count false
theorem cntF_set {seen : List Bool} {s : Nat} (hs : s < seen.length) (h : seen.getD s true = false) : cntF (seen.set s true) + 1 = cntF seen := by
  unfold cntF
  induction seen generalizing s with
  | nil => simp at hs
  | cons b l ih =>
    match s with
    | 0 =>
      simp [List.getD] at h
      subst h
      simp
    | s + 1 =>
      have h1 : s < l.length := by simpa using hs
      have h2 : l.getD s true = false := by simpa [List.getD] using h
      have := ih h1 h2
      rw [List.set_cons_succ, List.count_cons, List.count_cons]
      omega
theorem cntF_le (seen : List Bool) : cntF seen ≤ seen.length := List.count_le_length
def cycIn (f : Nat → Nat) : Nat → List Bool → Nat → Nat → List Bool × Nat
  | 0, seen, _, n => (seen, n)
  | c + 1, seen, s, n => if seen.getD s true = true then (seen, n) else cycIn f c (seen.set s true) (f s) (n + 1)
def cyc1 (f : Nat → Nat) (seen : List Bool) (s n : Nat) : List Bool × Nat := cycIn f (cntF seen) seen s n
theorem cyc1_stop {f : Nat → Nat} {seen : List Bool} {s n : Nat} (h : seen.getD s true = true) : cyc1 f seen s n = (seen, n) := by
  unfold cyc1
  cases hc : cntF seen
  · rfl
  · unfold cycIn; rw [if_pos h]
theorem cyc1_go {f : Nat → Nat} {seen : List Bool} {s n : Nat} (hs : s < seen.length) (h : seen.getD s true = false) : cyc1 f seen s n = cyc1 f (seen.set s true) (f s) (n + 1) := by
  unfold cyc1
  have := cntF_set hs h
  rw [← this, cycIn, if_neg (by rw [h]; decide)]
theorem cyc1_length (f : Nat → Nat) (seen : List Bool) (s n : Nat) : (cyc1 f seen s n).1.length = seen.length := by
  unfold cyc1
  generalize cntF seen = c
  induction c generalizing seen s n with
  | zero => rfl
  | succ c ih =>
    unfold cycIn
    split
    · rfl
    · rw [ih, List.length_set]
theorem cyc1_le (f : Nat → Nat) (seen : List Bool) (s n : Nat) : (cyc1 f seen s n).2 ≤ n + seen.length := by
  have key : ∀ c (seen : List Bool) (s n : Nat), (cycIn f c seen s n).2 ≤ n + c := by
    intro c
    induction c with
    | zero => intro seen s n; exact Nat.le_refl _
    | succ c ih =>
      intro seen s n
      unfold cycIn
      split
      · exact Nat.le_add_right _ _
      · have := ih (seen.set s true) (f s) (n + 1)
        omega
  have h1 := key (cntF seen) seen s n
  have h2 := cntF_le seen
  unfold cyc1
  omega
def cycSt (f : Nat → Nat) (N : Nat) (ids : List Int) : Nat → List Bool × List Int
  | 0 => (List.replicate N false, [])
  | k + 1 =>
    let st := cycSt f N ids k
    let r := cyc1 f st.1 (ids.getD k 0).toNat 0
    (r.1, if 0 < r.2 then st.2 ++ [(r.2 : Int)] else st.2)
theorem cycSt_length (f : Nat → Nat) (N : Nat) (ids : List Int) (k : Nat) : (cycSt f N ids k).1.length = N ∧ (cycSt f N ids k).2.length ≤ k := by
  induction k with
  | zero => simp [cycSt]
  | succ k ih =>
    simp only [cycSt]
    rw [cyc1_length]
    refine ⟨ih.1, ?_⟩
    split
    · rw [List.length_append]; simp only [List.length_singleton]; omega
    · omega
theorem cycSt_pos (f : Nat → Nat) (N : Nat) (ids : List Int) (k : Nat) : ∀ x ∈ (cycSt f N ids k).2, 1 ≤ x ∧ x ≤ N := by
  induction k with
  | zero => simp [cycSt]
  | succ k ih =>
    simp only [cycSt]
    split
    · rename_i h
      intro x hx
      rw [List.mem_append] at hx
      rcases hx with hx | hx
      · exact ih x hx
      · rw [List.mem_singleton] at hx
        subst hx
        have := cyc1_le f (cycSt f N ids k).1 (ids.getD k 0).toNat 0
        rw [(cycSt_length f N ids k).1] at this
        omega
    · exact ih
def cyclesL (f : Nat → Nat) (N : Nat) (ids : List Int) : List Int := (cycSt f N ids ids.length).2
theorem tmod_nat (m n : Nat) : ((m : Int).tmod (n : Int)) = ((m % n : Nat) : Int) := by
  rw [Int.tmod_eq_emod_of_nonneg (Int.natCast_nonneg _)]; simp
theorem tdiv_nat (m n : Nat) : ((m : Int).tdiv (n : Int)) = ((m / n : Nat) : Int) := by
  rw [Int.tdiv_eq_ediv_of_nonneg (Int.natCast_nonneg _)]; simp
end Go.Proofs.YtbmhaamenjhjfaaGreatDoor
namespace Go.Proofs.YtbmhaamenjhjfaaGreatDoor
set_option linter.unusedVariables false
structure Mov (f : Nat → Nat) (D : Nat → Bool) (N : Nat) : Prop where
  lt : ∀ s, D s = true → s < N
  ins : ∀ s, D s = true → D (f s) = true
  inj : ∀ s t, D s = true → D t = true → f s = f t → s = t
theorem Mov.it {f : Nat → Nat} {D : Nat → Bool} {N : Nat} (h : Mov f D N) {s : Nat} (hs : D s = true) (k : Nat) : D (iter f k s) = true := by
  induction k with
  | zero => exact hs
  | succ k ih => exact h.ins _ ih
theorem iter_add (f : Nat → Nat) (j k s : Nat) : iter f (j + k) s = iter f j (iter f k s) := by
  induction j with
  | zero => rw [Nat.zero_add]; rfl
  | succ j ih => rw [Nat.succ_add]; simp only [iter]; rw [ih]
theorem Mov.back {f : Nat → Nat} {D : Nat → Bool} {N : Nat} (h : Mov f D N) {s t : Nat} (hs : D s = true) (ht : D t = true) (k : Nat) (e : iter f k s = iter f k t) : s = t := by
  induction k with
  | zero => exact e
  | succ k ih => exact ih (h.inj _ _ (h.it hs k) (h.it ht k) e)
theorem nodup_map_range {g : Nat → Nat} (n : Nat) (h : ∀ i j, i < j → j < n → g i ≠ g j) : ((List.range n).map g).Nodup := by
  rw [List.nodup_iff_pairwise_ne, List.pairwise_map]
  refine List.Pairwise.imp_of_mem ?_ (List.pairwise_lt_range (n := n))
  intro a b ha hb hab
  exact h a b hab (List.mem_range.1 hb)
theorem Mov.some_back {f : Nat → Nat} {D : Nat → Bool} {N : Nat} (h : Mov f D N) {s : Nat} (hs : D s = true) : ∃ n, 1 ≤ n ∧ n ≤ N ∧ iter f n s = s := by
  by_cases hc : ∃ i j, i < j ∧ j < N + 1 ∧ iter f i s = iter f j s
  · obtain ⟨i, j, h1, h2, h3⟩ := hc
    refine ⟨j - i, by omega, by omega, ?_⟩
    have e : i + (j - i) = j := by omega
    have h4 : iter f i s = iter f i (iter f (j - i) s) := by rw [← iter_add, e]; exact h3
    exact (h.back hs (h.it hs _) i h4).symm
  · exfalso
    have hn : ((List.range (N + 1)).map fun k => iter f k s).Nodup :=
      nodup_map_range (N + 1) fun i j h1 h2 h3 => hc ⟨i, j, h1, h2, h3⟩
    have hsub : ((List.range (N + 1)).map fun k => iter f k s) ⊆ List.range N := by
      intro x hx
      rw [List.mem_map] at hx
      obtain ⟨k, _, rfl⟩ := hx
      exact List.mem_range.2 (h.lt _ (h.it hs k))
    have := hn.length_le_of_subset hsub
    simp at this
    omega
def perF (f : Nat → Nat) (s : Nat) : Nat → Nat → Nat
  | 0, n => n
  | c + 1, n => if iter f n s = s then n else perF f s c (n + 1)
def per (f : Nat → Nat) (N s : Nat) : Nat := perF f s N 1
theorem perF_spec (f : Nat → Nat) (s : Nat) (c n m : Nat) (hm : n ≤ m) (hc : m ≤ n + c) (h : iter f m s = s) :
    iter f (perF f s c n) s = s ∧ n ≤ perF f s c n ∧ perF f s c n ≤ m ∧ ∀ k, n ≤ k → k < perF f s c n → iter f k s ≠ s := by
  induction c generalizing n with
  | zero =>
    have : m = n := by omega
    subst this
    exact ⟨h, Nat.le_refl _, Nat.le_refl _, fun k h1 h2 => by simp only [perF] at h2; omega⟩
  | succ c ih =>
    unfold perF
    split
    · rename_i hq
      exact ⟨hq, Nat.le_refl _, hm, fun k h1 h2 => by omega⟩
    · rename_i hq
      have hne : n ≠ m := by rintro rfl; exact hq h
      obtain ⟨h1, h2, h3, h4⟩ := ih (n + 1) (by omega) (by omega)
      refine ⟨h1, by omega, h3, fun k h5 h6 => ?_⟩
      by_cases e : k = n
      · subst e; exact hq
      · exact h4 k (by omega) h6
theorem Mov.perS {f : Nat → Nat} {D : Nat → Bool} {N : Nat} (h : Mov f D N) {s : Nat} (hs : D s = true) :
    iter f (per f N s) s = s ∧ 1 ≤ per f N s ∧ per f N s ≤ N ∧ ∀ k, 1 ≤ k → k < per f N s → iter f k s ≠ s := by
  obtain ⟨m, h1, h2, h3⟩ := h.some_back hs
  obtain ⟨a, b, c, d⟩ := perF_spec f s N 1 m h1 (by omega) h3
  exact ⟨a, b, by unfold per; omega, d⟩
def orbT (f : Nat → Nat) (s k : Nat) : List Nat := (List.range k).map fun j => iter f j s
def orbN (f : Nat → Nat) (N s : Nat) : List Nat := orbT f s (per f N s)
theorem orbT_length (f : Nat → Nat) (s k : Nat) : (orbT f s k).length = k := by simp [orbT]
theorem orbT_succ (f : Nat → Nat) (s k : Nat) : orbT f s (k + 1) = orbT f s k ++ [iter f k s] := by simp [orbT, List.range_succ]
theorem iter_mul {f : Nat → Nat} {s n : Nat} (h : iter f n s = s) (q : Nat) : iter f (n * q) s = s := by
  induction q with
  | zero => rfl
  | succ q ih => rw [Nat.mul_succ, Nat.add_comm, iter_add, ih, h]
theorem Mov.md {f : Nat → Nat} {D : Nat → Bool} {N : Nat} (h : Mov f D N) {s : Nat} (hs : D s = true) (k : Nat) : iter f k s = iter f (k % per f N s) s := by
  obtain ⟨h1, -, -, -⟩ := h.perS hs
  have e : k = k % per f N s + per f N s * (k / per f N s) := (Nat.mod_add_div k _).symm
  rw [e, iter_add, iter_mul h1]
  rw [← e]
theorem mem_orbN {f : Nat → Nat} {D : Nat → Bool} {N : Nat} (h : Mov f D N) {s : Nat} (hs : D s = true) (t : Nat) : t ∈ orbN f N s ↔ ∃ k, iter f k s = t := by
  unfold orbN orbT
  rw [List.mem_map]
  constructor
  · rintro ⟨k, -, hk⟩; exact ⟨k, hk⟩
  · rintro ⟨k, hk⟩
    obtain ⟨-, h2, -, -⟩ := h.perS hs
    exact ⟨k % per f N s, List.mem_range.2 (Nat.mod_lt _ (by omega)), by rw [← h.md hs k]; exact hk⟩
theorem Mov.reach_symm {f : Nat → Nat} {D : Nat → Bool} {N : Nat} (h : Mov f D N) {s : Nat} (hs : D s = true) (k : Nat) : ∃ j, iter f j (iter f k s) = s := by
  obtain ⟨h1, h2, h3, h4⟩ := h.perS (h.it hs k)
  obtain ⟨h1, h2, h3, h4⟩ := h.perS hs
  refine ⟨per f N s * k - k, ?_⟩
  rw [← iter_add]
  have : k ≤ per f N s * k := Nat.le_mul_of_pos_left k (by omega)
  rw [show per f N s * k - k + k = per f N s * k by omega]
  exact iter_mul h1 k
theorem mem_orbN_D {f : Nat → Nat} {D : Nat → Bool} {N : Nat} (h : Mov f D N) {s t : Nat} (hs : D s = true) (ht : t ∈ orbN f N s) : D t = true := by
  obtain ⟨k, rfl⟩ := (mem_orbN h hs t).1 ht
  exact h.it hs k
theorem mem_orbN_symm {f : Nat → Nat} {D : Nat → Bool} {N : Nat} (h : Mov f D N) {s t : Nat} (hs : D s = true) (ht : t ∈ orbN f N s) : s ∈ orbN f N t := by
  have hd := mem_orbN_D h hs ht
  obtain ⟨k, rfl⟩ := (mem_orbN h hs t).1 ht
  exact (mem_orbN h hd s).2 (h.reach_symm hs k)
theorem mem_orbN_trans {f : Nat → Nat} {D : Nat → Bool} {N : Nat} (h : Mov f D N) {r s t : Nat} (hr : D r = true) (h1 : s ∈ orbN f N r) (h2 : t ∈ orbN f N s) : t ∈ orbN f N r := by
  have hd := mem_orbN_D h hr h1
  obtain ⟨k, rfl⟩ := (mem_orbN h hr s).1 h1
  obtain ⟨j, rfl⟩ := (mem_orbN h hd t).1 h2
  exact (mem_orbN h hr _).2 ⟨j + k, by rw [iter_add]⟩
theorem self_mem_orbN {f : Nat → Nat} {D : Nat → Bool} {N : Nat} (h : Mov f D N) {s : Nat} (hs : D s = true) : s ∈ orbN f N s := (mem_orbN h hs s).2 ⟨0, rfl⟩
theorem Mov.orb_ne {f : Nat → Nat} {D : Nat → Bool} {N : Nat} (h : Mov f D N) {s : Nat} (hs : D s = true) {i j : Nat} (hij : i < j) (hj : j < per f N s) : iter f i s ≠ iter f j s := by
  intro e
  obtain ⟨h1, h2, h3, h4⟩ := h.perS hs
  have h5 : iter f i s = iter f i (iter f (j - i) s) := by rw [← iter_add, show i + (j - i) = j by omega]; exact e
  exact h4 (j - i) (by omega) (by omega) (h.back hs (h.it hs _) i h5).symm
def seenB (f : Nat → Nat) (N : Nat) (st : List Nat) (t : Nat) : Bool := st.any fun s => (orbN f N s).contains t
def startsN (f : Nat → Nat) (N : Nat) (ids : List Int) : Nat → List Nat
  | 0 => []
  | k + 1 => if seenB f N (startsN f N ids k) (ids.getD k 0).toNat then startsN f N ids k else startsN f N ids k ++ [(ids.getD k 0).toNat]
theorem startsN_yes {f : Nat → Nat} {N : Nat} {ids : List Int} {k : Nat} (h : seenB f N (startsN f N ids k) (ids.getD k 0).toNat = true) : startsN f N ids (k + 1) = startsN f N ids k := if_pos h
theorem startsN_no {f : Nat → Nat} {N : Nat} {ids : List Int} {k : Nat} (h : seenB f N (startsN f N ids k) (ids.getD k 0).toNat = false) : startsN f N ids (k + 1) = startsN f N ids k ++ [(ids.getD k 0).toNat] := by
  exact if_neg (by rw [h]; decide)
theorem seenB_snoc (f : Nat → Nat) (N : Nat) (st : List Nat) (s t : Nat) : seenB f N (st ++ [s]) t = (seenB f N st t || (orbN f N s).contains t) := by
  simp [seenB, List.any_append]
theorem startsN_length (f : Nat → Nat) (N : Nat) (ids : List Int) (k : Nat) : (startsN f N ids k).length ≤ k := by
  induction k with
  | zero => simp [startsN]
  | succ k ih =>
    unfold startsN
    split
    · omega
    · rw [List.length_append]; simp; omega
theorem startsN_mem {f : Nat → Nat} {N : Nat} {ids : List Int} {k s : Nat} (hk : k ≤ ids.length) (h : s ∈ startsN f N ids k) : ∃ j, j < k ∧ (ids.getD j 0).toNat = s := by
  induction k with
  | zero => simp [startsN] at h
  | succ k ih =>
    unfold startsN at h
    split at h
    · obtain ⟨j, h1, h2⟩ := ih (by omega) h; exact ⟨j, by omega, h2⟩
    · rw [List.mem_append, List.mem_singleton] at h
      rcases h with h | h
      · obtain ⟨j, h1, h2⟩ := ih (by omega) h; exact ⟨j, by omega, h2⟩
      · exact ⟨k, by omega, h.symm⟩
theorem startsN_D {f : Nat → Nat} {D : Nat → Bool} {N : Nat} {ids : List Int} (hD : ∀ j, j < ids.length → D (ids.getD j 0).toNat = true) {k s : Nat} (hk : k ≤ ids.length) (h : s ∈ startsN f N ids k) : D s = true := by
  obtain ⟨j, h1, rfl⟩ := startsN_mem hk h
  exact hD j (by omega)
theorem seenB_orb {f : Nat → Nat} {D : Nat → Bool} {N : Nat} (h : Mov f D N) {st : List Nat} (hst : ∀ s ∈ st, D s = true) {t : Nat} (ht : D t = true) (hs : seenB f N st t = false) {u : Nat} (hu : u ∈ orbN f N t) : seenB f N st u = false := by
  cases hc : seenB f N st u
  · rfl
  · unfold seenB at hc hs
    rw [List.any_eq_true] at hc
    obtain ⟨s, h1, h2⟩ := hc
    have h2' : u ∈ orbN f N s := by simpa using h2
    have h3 := mem_orbN_symm h ht hu
    have h4 := mem_orbN_trans h (hst s h1) h2' h3
    have : (st.any fun s => (orbN f N s).contains t) = true := List.any_eq_true.2 ⟨s, h1, by simpa using h4⟩
    rw [this] at hs; cases hs
theorem startsN_seen {f : Nat → Nat} {D : Nat → Bool} {N : Nat} (h : Mov f D N) {ids : List Int} (hD : ∀ j, j < ids.length → D (ids.getD j 0).toNat = true) {k : Nat} (hk : k ≤ ids.length) {j : Nat} (hj : j < k) : seenB f N (startsN f N ids k) (ids.getD j 0).toNat = true := by
  induction k with
  | zero => omega
  | succ k ih =>
    by_cases e : j = k
    · subst e
      cases hq : seenB f N (startsN f N ids j) (ids.getD j 0).toNat
      · rw [startsN_no hq, seenB_snoc]
        have := self_mem_orbN h (hD j (by omega))
        rw [Bool.or_eq_true]; exact .inr (List.contains_iff_mem.2 this)
      · rw [startsN_yes hq]; exact hq
    · have h1 := ih (by omega) (by omega)
      cases hq : seenB f N (startsN f N ids k) (ids.getD k 0).toNat
      · rw [startsN_no hq, seenB_snoc, h1]; rfl
      · rw [startsN_yes hq]; exact h1
def starts (f : Nat → Nat) (N : Nat) (ids : List Int) : List Nat := startsN f N ids ids.length
def marksB (g : Nat → Bool) (N : Nat) : List Bool := (List.range N).map g
theorem marksB_length (g : Nat → Bool) (N : Nat) : (marksB g N).length = N := by simp [marksB]
theorem marksB_get (g : Nat → Bool) {N t : Nat} (h : t < N) : (marksB g N).getD t true = g t := by simp [marksB, List.getD, h]
theorem marksB_set (g : Nat → Bool) (N t : Nat) : (marksB g N).set t true = marksB (fun x => g x || x == t) N := by
  apply List.ext_getElem?
  intro i
  rw [List.getElem?_set, marksB_length]
  by_cases hi : i < N
  · by_cases e : t = i
    · subst e; simp [marksB, hi]
    · simp [marksB, hi, e, show ¬ i = t from fun h => e h.symm]
  · have h1 : (marksB g N)[i]? = none := List.getElem?_eq_none (by rw [marksB_length]; omega)
    have h2 : (marksB (fun x => g x || x == t) N)[i]? = none := List.getElem?_eq_none (by rw [marksB_length]; omega)
    rw [h1, h2]
    by_cases e : t = i
    · subst e; simp [hi]
    · simp [e]
theorem marksB_congr {g h : Nat → Bool} {N : Nat} (e : ∀ t, t < N → g t = h t) : marksB g N = marksB h N := by
  unfold marksB
  exact List.map_congr_left fun t ht => e t (List.mem_range.1 ht)
theorem marksB_none (N : Nat) : marksB (fun _ => false) N = List.replicate N false := by
  apply List.ext_getElem?
  intro i
  by_cases hi : i < N <;> simp [marksB, hi]
theorem orbT_contains_succ (f : Nat → Nat) (s k x : Nat) : (orbT f s (k + 1)).contains x = ((orbT f s k).contains x || x == iter f k s) := by
  rw [orbT_succ, List.contains_eq_any_beq, List.contains_eq_any_beq, List.any_append]; simp
theorem not_orbT {f : Nat → Nat} {D : Nat → Bool} {N : Nat} (h : Mov f D N) {s : Nat} (hs : D s = true) {k : Nat} (hk : k < per f N s) : (orbT f s k).contains (iter f k s) = false := by
  rw [Bool.eq_false_iff]
  intro hc
  have hm : iter f k s ∈ orbT f s k := List.contains_iff_mem.1 hc
  unfold orbT at hm
  rw [List.mem_map] at hm
  obtain ⟨i, hi, he⟩ := hm
  exact h.orb_ne hs (List.mem_range.1 hi) hk he
theorem cyc1_orb {f : Nat → Nat} {D : Nat → Bool} {N : Nat} (h : Mov f D N) {s : Nat} (hs : D s = true) {g : Nat → Bool} (hg : ∀ t, t ∈ orbN f N s → g t = false) (c j : Nat) (hj : j + c = per f N s) :
    cyc1 f (marksB (fun x => g x || (orbT f s j).contains x) N) (iter f j s) j = (marksB (fun x => g x || (orbN f N s).contains x) N, per f N s) := by
  obtain ⟨h1, h2, h3, h4⟩ := h.perS hs
  induction c generalizing j with
  | zero =>
    have : j = per f N s := by omega
    subst this
    have hm : (orbT f s (per f N s)).contains s = true := List.contains_iff_mem.2 (self_mem_orbN h hs)
    rw [h1, cyc1_stop (by rw [marksB_get _ (h.lt s hs), hm, Bool.or_true])]
    rfl
  | succ c ih =>
    have hlt := h.lt _ (h.it hs j)
    have hmem : iter f j s ∈ orbN f N s := (mem_orbN h hs _).2 ⟨j, rfl⟩
    have hno := not_orbT h hs (show j < per f N s by omega)
    rw [cyc1_go (by rw [marksB_length]; exact hlt) (by rw [marksB_get _ hlt, hg _ hmem, hno]; rfl), marksB_set]
    rw [← ih (j + 1) (by omega)]
    rw [marksB_congr (g := fun x => (g x || (orbT f s j).contains x) || x == iter f j s) (h := fun x => g x || (orbT f s (j + 1)).contains x) (fun t _ => by rw [orbT_contains_succ, Bool.or_assoc])]
    rfl
theorem cycSt_starts {f : Nat → Nat} {D : Nat → Bool} {N : Nat} (h : Mov f D N) {ids : List Int} (hD : ∀ j, j < ids.length → D (ids.getD j 0).toNat = true) (k : Nat) (hk : k ≤ ids.length) :
    cycSt f N ids k = (marksB (seenB f N (startsN f N ids k)) N, (startsN f N ids k).map fun s => ((per f N s : Nat) : Int)) := by
  induction k with
  | zero =>
    simp only [cycSt, startsN, List.map_nil]
    rw [← marksB_none]; rfl
  | succ k ih =>
    have hd := hD k (by omega)
    have hst : ∀ s ∈ startsN f N ids k, D s = true := fun s hs => startsN_D hD (by omega) hs
    simp only [cycSt, ih (by omega)]
    obtain ⟨s, hs⟩ : ∃ s, (ids.getD k 0).toNat = s := ⟨_, rfl⟩
    rw [hs] at hd ⊢
    cases hq : seenB f N (startsN f N ids k) s
    · have hc := cyc1_orb h hd (g := seenB f N (startsN f N ids k)) (fun t ht => seenB_orb h hst hd hq ht) (per f N s) 0 (by omega)
      have e0 : marksB (fun x => seenB f N (startsN f N ids k) x || (orbT f s 0).contains x) N = marksB (seenB f N (startsN f N ids k)) N := marksB_congr fun t _ => by simp [orbT]
      rw [e0] at hc
      simp only [iter] at hc
      rw [hc, startsN_no (by rw [hs]; exact hq), hs]
      have hp := (h.perS hd).2.1
      simp only [show 0 < per f N s by omega, if_true]
      rw [List.map_append]
      refine Prod.ext ?_ rfl
      exact marksB_congr fun t _ => (seenB_snoc _ _ _ _ _).symm
    · rw [cyc1_stop (by rw [marksB_get _ (h.lt s hd)]; exact hq), startsN_yes (by rw [hs]; exact hq)]
      rfl
theorem cyclesL_starts {f : Nat → Nat} {D : Nat → Bool} {N : Nat} (h : Mov f D N) {ids : List Int} (hD : ∀ j, j < ids.length → D (ids.getD j 0).toNat = true) :
    cyclesL f N ids = (starts f N ids).map fun s => ((per f N s : Nat) : Int) := by
  unfold cyclesL starts
  rw [cycSt_starts h hD ids.length (Nat.le_refl _)]
def idB (xs : List Int) (s : Nat) : Bool := decide (s < 2 ^ xs.length) && holdsIdeal xs s
theorem idB_iff {xs : List Int} {s : Nat} : idB xs s = true ↔ s < 2 ^ xs.length ∧ holdsIdeal xs s = true := by simp [idB]
theorem rowP_iff {xs : List Int} {s e : Nat} : rowP xs s e = true ↔ s.testBit e = false ∧ ∀ j, (row xs e).testBit j = true → s.testBit j = true := by
  simp only [rowP, Bool.and_eq_true, Bool.not_eq_true', beq_iff_eq, sub_eq_zero]
theorem rowmo_top {xs : List Int} (hg : good xs = true) {s : Nat} (hs : holdsIdeal xs s = true) {e : Nat} (he : e < xs.length) :
    rowP xs s e = true ↔ (rowmo xs s).testBit e = true ∧ ∀ i, i < xs.length → (rowmo xs s).testBit i = true → (row xs i).testBit e = false := by
  have hid := holdsIdeal_row.1 hs
  have hm : ∀ i, (rowmo xs s).testBit i = true ↔ ∃ m, m < xs.length ∧ rowP xs s m = true ∧ (m = i ∨ (row xs m).testBit i = true) := by
    intro i
    unfold rowmo
    rw [orN_testBit]
    constructor
    · rintro ⟨m, h1, h2, h3⟩
      refine ⟨m, h1, h2, ?_⟩
      unfold rowG at h3
      rw [Nat.testBit_or, Bool.or_eq_true, Nat.testBit_two_pow] at h3
      rcases h3 with h3 | h3
      · exact .inl (by simpa using h3)
      · exact .inr h3
    · rintro ⟨m, h1, h2, h3⟩
      refine ⟨m, h1, h2, ?_⟩
      unfold rowG
      rw [Nat.testBit_or, Bool.or_eq_true, Nat.testBit_two_pow]
      rcases h3 with h3 | h3
      · exact .inl (by simpa using h3)
      · exact .inr h3
  constructor
  · intro hp
    refine ⟨(hm e).2 ⟨e, he, hp, .inl rfl⟩, fun i hi hb => ?_⟩
    rw [Bool.eq_false_iff]
    intro hr
    obtain ⟨h1, h2⟩ := rowP_iff.1 hp
    obtain ⟨m, hm1, hm2, hm3⟩ := (hm i).1 hb
    obtain ⟨h3, h4⟩ := rowP_iff.1 hm2
    rcases hm3 with rfl | hm3
    · rw [h4 e hr] at h1; cases h1
    · have := hid i hi (h4 i hm3) e hr
      rw [this] at h1; cases h1
  · rintro ⟨hb, hno⟩
    obtain ⟨m, hm1, hm2, hm3⟩ := (hm e).1 hb
    rcases hm3 with rfl | hm3
    · exact hm2
    · have := hno m hm1 ((hm m).2 ⟨m, hm1, hm2, .inl rfl⟩)
      rw [this] at hm3; cases hm3
theorem out_iff {xs : List Int} (hg : good xs = true) {s : Nat} (hs : holdsIdeal xs s = true) : ∀ n e, e < n → e < xs.length → (s.testBit e = false ↔ rowP xs s e = true ∨ ∃ j, (row xs e).testBit j = true ∧ rowP xs s j = true) := by
  have hid := holdsIdeal_row.1 hs
  intro n
  induction n with
  | zero => intro e h; omega
  | succ n ih =>
    intro e hn he
    constructor
    · intro hb
      by_cases hall : ∀ j, (row xs e).testBit j = true → s.testBit j = true
      · exact .inl (rowP_iff.2 ⟨hb, hall⟩)
      · have ⟨j, hj⟩ := Classical.not_forall.1 hall
        have ⟨hj1, hj2⟩ := Classical.not_imp.1 hj
        have hj3 : s.testBit j = false := by simpa using hj2
        have hlt : j < e := testBit_lt (row_lt hg he).2 hj1
        rcases (ih j (by omega) (by omega)).1 hj3 with h | ⟨i, h1, h2⟩
        · exact .inr ⟨j, hj1, h⟩
        · exact .inr ⟨i, row_closed hg he hj1 h1, h2⟩
    · rintro (h | ⟨j, h1, h2⟩)
      · exact (rowP_iff.1 h).1
      · rw [Bool.eq_false_iff]
        intro hb
        have h3 := hid e he hb j h1
        rw [(rowP_iff.1 h2).1] at h3; cases h3
theorem rowmo_inj {xs : List Int} (hg : good xs = true) {s t : Nat} (hs : holdsIdeal xs s = true) (ht : holdsIdeal xs t = true) (hsl : s < 2 ^ xs.length) (htl : t < 2 ^ xs.length) (h : rowmo xs s = rowmo xs t) : s = t := by
  have hP : ∀ e, e < xs.length → rowP xs s e = rowP xs t e := by
    intro e he
    rw [Bool.eq_iff_iff, rowmo_top hg hs he, rowmo_top hg ht he, h]
  have hq : ∀ e, e < xs.length → (s.testBit e = false ↔ t.testBit e = false) := by
    intro e he
    rw [out_iff hg hs (e + 1) e (by omega) he, out_iff hg ht (e + 1) e (by omega) he, hP e he]
    constructor
    · rintro (h1 | ⟨j, h1, h2⟩)
      · exact .inl h1
      · have hlt : j < e := testBit_lt (row_lt hg he).2 h1
        exact .inr ⟨j, h1, by rw [← hP j (by omega)]; exact h2⟩
    · rintro (h1 | ⟨j, h1, h2⟩)
      · exact .inl h1
      · have hlt : j < e := testBit_lt (row_lt hg he).2 h1
        exact .inr ⟨j, h1, by rw [hP j (by omega)]; exact h2⟩
  apply Nat.eq_of_testBit_eq
  intro i
  by_cases hi : i < xs.length
  · have := hq i hi
    cases h1 : s.testBit i <;> cases h2 : t.testBit i <;> simp_all
  · have hz : ∀ z, z < 2 ^ xs.length → z.testBit i = false := fun z hz => by
      rw [Bool.eq_false_iff]; intro hb; exact hi (testBit_lt hz hb)
    rw [hz s hsl, hz t htl]
theorem rowMov {xs : List Int} (hg : good xs = true) : Mov (rowmo xs) (idB xs) (2 ^ xs.length) where
  lt s h := (idB_iff.1 h).1
  ins s h := idB_iff.2 ⟨rowmo_lt hg s, rowmo_ideal hg s⟩
  inj s t h k e := rowmo_inj hg (idB_iff.1 h).2 (idB_iff.1 k).2 (idB_iff.1 h).1 (idB_iff.1 k).1 e
def orbTL (f : Nat → Nat) (s k : Nat) : List Int := (orbT f s k).map fun (x : Nat) => (x : Int)
def orbL (f : Nat → Nat) (N s : Nat) : List Int := orbTL f s (per f N s)
theorem orbTL_length (f : Nat → Nat) (s k : Nat) : (orbTL f s k).length = k := by simp [orbTL, orbT_length]
theorem orbL_length (f : Nat → Nat) (N s : Nat) : (orbL f N s).length = per f N s := orbTL_length _ _ _
theorem orbTL_succ (f : Nat → Nat) (s k : Nat) : orbTL f s (k + 1) = orbTL f s k ++ [((iter f k s : Nat) : Int)] := by simp [orbTL, orbT_succ]
theorem orbTL_get (f : Nat → Nat) (s : Nat) {k j : Nat} (hj : j < k) : (orbTL f s k).getD j 0 = ((iter f j s : Nat) : Int) := by simp [orbTL, orbT, List.getD, hj]
end Go.Proofs.YtbmhaamenjhjfaaGreatDoor
namespace Go.Proofs.YtbmhaamenjhjfaaGreatDoor
open Go.RowKit Go.WideShapes Go.ChangeShapes
set_option linter.unusedVariables false
def ordP (xs : List Int) (m : Nat) (y : Int) : Bool := (decide (0 ≤ y) && decide (y < xs.length)) && (!m.testBit y.toNat && (sub (row xs y.toNat) m == 0))
def ordSt (xs ys : List Int) : Nat → Option Nat
  | 0 => some 0
  | k + 1 => (ordSt xs ys k).bind fun m => if ordP xs m (ys.getD k 0) then some (m ||| 2 ^ (ys.getD k 0).toNat) else none
theorem ordSt_yes {xs ys : List Int} {k m : Nat} (h : ordSt xs ys k = some m) (hp : ordP xs m (ys.getD k 0) = true) : ordSt xs ys (k + 1) = some (m ||| 2 ^ (ys.getD k 0).toNat) := by
  simp only [ordSt, h, Option.bind_some, hp, if_true]
end Go.Proofs.YtbmhaamenjhjfaaGreatDoor
