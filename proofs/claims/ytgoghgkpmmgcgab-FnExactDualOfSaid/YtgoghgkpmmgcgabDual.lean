/- DualOf. -/
import Derived.Test.YtgoghgkpmmgcgabWhere
namespace Go.Proofs.Ytgoghgkpmmgcgab
open Go.RowKit Go.WideShapes Go.ChangeShapes
set_option linter.unusedVariables false

def dualF (xs : List Int) (j i : Nat) : Bool := (xs.getD (xs.length - 1 - j) 0).toNat.testBit (xs.length - 1 - i)
def dstep (xs : List Int) (n i : Nat) (g : Nat → Nat) (j : Nat) (r : Nat) : Nat := if (xs.getD i 0).toNat.testBit j then (if r = n - 1 - j then g (n - 1 - j) ||| 2 ^ (n - 1 - i) else g r) else g r
def din (xs : List Int) (n i : Nat) (g : Nat → Nat) : Nat → Nat → Nat
  | 0 => g
  | j + 1 => dstep xs n i (din xs n i g j) j
def dout (xs : List Int) (n : Nat) : Nat → Nat → Nat
  | 0 => fun _ => 0
  | i + 1 => din xs n i (dout xs n i) i
theorem din_lt {xs : List Int} {n i : Nat} {g : Nat → Nat} (hn : n ≤ 10) (hg : ∀ r, g r < 1024) (t : Nat) : ∀ r, din xs n i g t r < 1024 := by
  induction t with
  | zero => exact hg
  | succ t ih =>
    intro r
    unfold din dstep
    split
    · split
      · exact Nat.or_lt_two_pow (n := 10) (ih _) (Nat.pow_lt_pow_right (by decide) (by omega))
      · exact ih r
    · exact ih r
theorem dout_lt {xs : List Int} {n : Nat} (hn : n ≤ 10) (k : Nat) : ∀ r, dout xs n k r < 1024 := by
  induction k with
  | zero => intro r; simp [dout]
  | succ k ih => exact din_lt hn ih k
theorem din_testBit {xs : List Int} {n i : Nat} {g : Nat → Nat} (t : Nat) (ht : t ≤ n) (r s : Nat) (hr : r < n) :
    (din xs n i g t r).testBit s = true ↔ (g r).testBit s = true ∨ (n - 1 - r < t ∧ (xs.getD i 0).toNat.testBit (n - 1 - r) = true ∧ s = n - 1 - i) := by
  induction t with
  | zero => simp [din]
  | succ t ih =>
    have ih := ih (by omega)
    unfold din dstep
    by_cases hb : (xs.getD i 0).toNat.testBit t = true
    · rw [if_pos hb]
      by_cases e : r = n - 1 - t
      · rw [if_pos e, ← e, Nat.testBit_or, Bool.or_eq_true, ih]
        have e2 : n - 1 - r = t := by omega
        rw [e2]
        constructor
        · rintro ((h | h) | h)
          · exact .inl h
          · exact .inr ⟨by omega, h.2.1, h.2.2⟩
          · rw [Nat.testBit_two_pow] at h
            exact .inr ⟨by omega, hb, by simpa using (of_decide_eq_true h).symm⟩
        · rintro (h | ⟨-, -, h⟩)
          · exact .inl (.inl h)
          · exact .inr (by rw [h]; exact Nat.testBit_two_pow_self)
      · rw [if_neg e, ih]
        constructor
        · rintro (h | ⟨h1, h2⟩)
          · exact .inl h
          · exact .inr ⟨by omega, h2⟩
        · rintro (h | ⟨h1, h2⟩)
          · exact .inl h
          · exact .inr ⟨by omega, h2⟩
    · rw [if_neg hb, ih]
      constructor
      · rintro (h | ⟨h1, h2⟩)
        · exact .inl h
        · exact .inr ⟨by omega, h2⟩
      · rintro (h | ⟨h1, h2, h3⟩)
        · exact .inl h
        · by_cases e : n - 1 - r = t
          · rw [e] at h2; exact absurd h2 hb
          · exact .inr ⟨by omega, h2, h3⟩
theorem dout_testBit {xs : List Int} {n : Nat} (k : Nat) (hk : k ≤ n) (r s : Nat) (hr : r < n) :
    (dout xs n k r).testBit s = true ↔ ∃ i, i < k ∧ n - 1 - r < i ∧ (xs.getD i 0).toNat.testBit (n - 1 - r) = true ∧ s = n - 1 - i := by
  induction k with
  | zero => simp [dout]
  | succ k ih =>
    unfold dout
    rw [din_testBit k (by omega) r s hr, ih (by omega)]
    constructor
    · rintro (⟨i, h1, h2⟩ | h)
      · exact ⟨i, by omega, h2⟩
      · exact ⟨k, by omega, h⟩
    · rintro ⟨i, h1, h2⟩
      by_cases e : i = k
      · subst e; exact .inr h2
      · exact .inl ⟨i, by omega, h2⟩
theorem dout_full (xs : List Int) : mkL xs.length (dout xs xs.length xs.length) = whereL (dualF xs) xs.length := by
  unfold whereL
  refine mkL_congr fun r hr => Nat.eq_of_testBit_eq fun s => ?_
  rw [Bool.eq_iff_iff, dout_testBit _ (Nat.le_refl _) r s hr, rowN_testBit, Bool.and_eq_true, decide_eq_true_eq]
  unfold dualF
  constructor
  · rintro ⟨i, h1, h2, h3, rfl⟩
    refine ⟨by omega, ?_⟩
    rw [show xs.length - 1 - (xs.length - 1 - i) = i by omega]
    exact h3
  · rintro ⟨h1, h2⟩
    exact ⟨xs.length - 1 - s, by omega, by omega, h2, by omega⟩

def dualL (xs : List Int) : List Int := if good xs then whereL (dualF xs) xs.length else []
theorem dualL_yes {xs : List Int} (h : good xs = true) : dualL xs = whereL (dualF xs) xs.length := if_pos h
theorem dualL_no {xs : List Int} (h : good xs = false) : dualL xs = [] := by simp [dualL, h]
theorem dualL_length (xs : List Int) : (dualL xs).length ≤ 1048576 := by
  unfold dualL
  split
  · rename_i h
    unfold whereL
    rw [mkL_length]
    have := (good_length h).2
    omega
  · simp

theorem dualClosure_any (v : Value) (xs : List Int) (a1 a2 j i : Nat) (w : World) (hv : Ints w v xs) (hg : good xs = true) (h1 : At w a1 v) (h2 : At w a2 (.int .i64 ((xs.length - 1 : Nat) : Int))) (hj : j < i) (hi : i < xs.length) :
    Calls Try.prog 59 #[.int .i64 j, .int .i64 i, .pointer (some ⟨a1, 0, none⟩), .pointer (some ⟨a2, 0, none⟩)] w fun r w' => r = .returned (.bool (dualF xs j i)) ∧ Below w.heap.size w w' := by
  have hl10 := (good_length hg).2
  have hok := okAt_small (good_at hg (show xs.length - 1 - j < xs.length by omega)) (by omega)
  obtain ⟨A, c, rfl, hA⟩ := hv
  obtain ⟨b, o, rfl, hbl, hc⟩ := hA (by intro h; simp [h] at hi)
  have hcell := hc (xs.length - 1 - j) (by omega)
  obtain ⟨x, hx⟩ : ∃ x, xs.getD (xs.length - 1 - j) 0 = x := ⟨_, rfl⟩
  rw [hx] at hcell hok
  obtain ⟨z, rfl⟩ := Int.eq_ofNat_of_zero_le hok.1
  obtain ⟨R, hR⟩ : ∃ R, dualF xs j i = R := ⟨_, rfl⟩
  have HR : Hid (z.testBit (xs.length - 1 - i) = R) := by unfold dualF at hR; rw [hx, Int.toNat_natCast] at hR; exact hR
  rw [hR]
  obtain ⟨h1, -⟩ := h1
  obtain ⟨h2, -⟩ := h2
  obtain ⟨p, hp⟩ : ∃ p, xs.length - 1 - j = p := ⟨_, rfl⟩
  obtain ⟨q, hq⟩ : ∃ q, xs.length - 1 - i = q := ⟨_, rfl⟩
  rw [hp] at hcell
  rw [hq] at HR
  have e1 : IntKind.i64.wrap (((xs.length - 1 : Nat) : Int) - (j : Int)) = (p : Int) := by rw [IntWalk.i64_in _ (by omega)]; omega
  have e2 : IntKind.i64.wrap (((xs.length - 1 : Nat) : Int) - (i : Int)) = (q : Int) := by rw [IntWalk.i64_in _ (by omega)]; omega
  have hp3 : (p : Int) < xs.length := by omega
  have hp4 : p < xs.length := by omega
  have hq3 : q < 64 := by omega
  have hz3 : z < 1024 := by omega
  clear hc hA hx hR hp hq hg hok hj hi
  go_enter Try.func59, Try.ntmps59
  go_wp2
  go_quiet ((go_at_call 48; exact Calls.quiet_of_same ((hasElement_any z q (by omega) hq3 _).mono fun _ _ ⟨a, b⟩ => ⟨a, b.symm⟩)))
  go_wp2
  go_ret
  exact ⟨ret_bool HR.out, below_drewN (Below.refl _ _) _⟩

/-- what holds in poDual's loops: the new row, the variable that holds it, the result's cell -/
structure DualW (ti tp : TypeId) (n : Nat) (w : World) (g : Nat → Nat) (wr : World) : Prop where
  row : Blk wr (w.heap.size + 1 + 1) ti (Vals (mkL n g))
  out : Blk wr (w.heap.size + 1 + 1 + 1) tp #[.slice (some ⟨w.heap.size + 1 + 1, 0, none⟩) n n]
  res : Blk wr (w.heap.size + 1) tp #[.slice none 0 0]
  below : Below w.heap.size w wr
theorem Blk.alloc {w : World} {g : Nat} {t : TypeId} {cs : Array Value} (h : Blk w g t cs) (o : Obj) : Blk (w.alloc o) g t cs := (Below.heap_alloc w o g h.lt).trans h
theorem Blk.newAt (w : World) (t : TypeId) (cs : Array Value) (g : Nat) (hg : g = w.heap.size) : Blk (w.alloc (.cells cs t)) g t cs := by subst hg; exact Blk.new w t cs
theorem DualW.start (ti tp : TypeId) (n : Nat) (w : World) (u : Value) (g : Nat → Nat) :
    DualW ti tp n w g ((((w.alloc (.cells #[u] tp)).alloc (.cells #[.slice none 0 0] tp)).alloc (.cells (Vals (mkL n g)) ti)).alloc (.cells #[.slice (some ⟨w.heap.size + 1 + 1, 0, none⟩) n n] tp)) :=
  ⟨(Blk.newAt _ _ _ _ (by simp)).alloc _, Blk.newAt _ _ _ _ (by simp), ((Blk.newAt _ _ _ _ (by simp)).alloc _).alloc _, (((((Below.refl _ _).alloc (Nat.le_refl _) _).alloc (by simp) _).alloc (by simp; omega) _).alloc (by simp; omega) _)⟩
theorem DualW.step {ti tp : TypeId} {n : Nat} {w wr : World} {g g' : Nat → Nat} {q : Nat} {y : Int} (h : DualW ti tp n w g wr) (e : mkL n g' = (mkL n g).set q y) :
    DualW ti tp n w g' ((wr.setCell ⟨w.heap.size + 1 + 1, q, none⟩ (.int .i64 y)).drew) := by
  refine ⟨?_, ?_, ?_, ?_⟩
  · rw [e, ← Vals_set]; exact h.row.set_ q _
  · exact h.out.far (p := ⟨w.heap.size + 1 + 1, q, none⟩) (by show w.heap.size + 1 + 1 + 1 ≠ w.heap.size + 1 + 1; omega) _
  · exact h.res.far (p := ⟨w.heap.size + 1 + 1, q, none⟩) (by show w.heap.size + 1 ≠ w.heap.size + 1 + 1; omega) _
  · exact (h.below.setCell (p := ⟨w.heap.size + 1 + 1, q, none⟩) (by show w.heap.size ≤ w.heap.size + 1 + 1; omega) _).drew
theorem poDual_any (v : Value) (xs : List Int) (w : World) (hv : Ints w v xs) (hg : good xs = true) :
    Calls Try.prog 57 #[.agg #[v]] w fun (r : Ending) w' => ∃ u, r = Ending.returned (.agg #[u]) ∧ OwnI 3 w' w.heap.size u (dualL xs) ∧ Below w.heap.size w w' := by
  have hl10 := (good_length hg).2
  have HG := hid hg
  have HY := hid (dualL_yes hg)
  obtain ⟨A, c, rfl, hA⟩ := hv
  have HA := hid hA
  obtain ⟨n, hn⟩ : ∃ n, xs.length = n := ⟨_, rfl⟩
  rw [hn] at HY hl10
  have Hn := hid hn
  rw [hn]
  clear hA hg hn
  have hmk := run_make_row' (P := Try.prog) 22 3 (.int .i64 0) 8 Try.underlying22 Try.info3 rfl .i64 .i64 n (by omega) (by omega)
  go_enter Try.func57, Try.ntmps57
  go_wp2
  clear hmk
  rw [Vals_made]
  go_loopw [17] (fun i wr => ∃ k : Nat, k ≤ n ∧ i = .int .i64 k ∧ DualW 3 29 n w (dout xs n k) wr) (fun i _ => n - (intOf i).toNat)
  case atStart => exact ⟨0, Nat.zero_le _, rfl, by rw [← mkL_zero]; exact DualW.start _ _ _ _ _ _⟩
  case round =>
    obtain ⟨k, hk, rfl, hD⟩ := hrel
    have HD := hid hD
    clear hD
    by_cases hlt : k < n
    · obtain ⟨b, o, rfl, hbl, hc⟩ := HA.out (by intro h; have := Hn.out; rw [h] at this; simp at this; omega)
      have hcell : wr.cell? ⟨b, o + k, none⟩ = some (.int .i64 (xs.getD k 0)) := by
        rw [HD.out.below.cell (p := ⟨b, o + k, none⟩) hbl]; exact hc k (by rw [Hn.out]; exact hlt)
      have hok := okAt_small (good_at HG.out (show k < xs.length by rw [Hn.out]; exact hlt)) (by omega)
      obtain ⟨x, hx⟩ : ∃ x, xs.getD k 0 = x := ⟨_, rfl⟩
      rw [hx] at hcell hok
      obtain ⟨z, rfl⟩ := Int.eq_ofNat_of_zero_le hok.1
      have Hx := hid hx
      clear hc hx
      go_wp2
      go_loopw [7] (fun j wi => ∃ t : Nat, t ≤ k ∧ j = .int .i64 t ∧ DualW 3 29 n w (din xs n k (dout xs n k) t) wi) (fun j _ => k - (intOf j).toNat)
      case atStart => exact ⟨0, Nat.zero_le _, rfl, HD.out⟩
      case round =>
        obtain ⟨t, ht, rfl, hT⟩ := hrel
        have HT := hid hT
        clear hT
        by_cases htk : t < k
        · cases hbit : z.testBit t
          · have Hbit := hid hbit
            clear hbit
            go_wp2_with (go_at_call 72; refine (poIn_any z t (by omega) _).mono ?_; rw [Hbit.out]; rintro e w' ⟨rfl, rfl⟩)
            go_roundw
            case rel => exact ⟨t + 1, by omega, by go_num, (by
              have e : din xs n k (dout xs n k) (t + 1) = din xs n k (dout xs n k) t := by
                funext r
                rw [din, dstep, Hx.out, Int.toNat_natCast, Hbit.out]; rfl
              rw [e]; exact HT.out)⟩
            case measure => simp [intOf]; omega
          · have Hbit := hid hbit
            have hlt2 := din_lt (xs := xs) (i := k) hl10 (dout_lt (xs := xs) hl10 k) t (n - 1 - t)
            obtain ⟨p, hp⟩ : ∃ p, din xs n k (dout xs n k) t (n - 1 - t) = p := ⟨_, rfl⟩
            rw [hp] at hlt2
            obtain ⟨q, hq⟩ : ∃ q, n - 1 - t = q := ⟨_, rfl⟩
            obtain ⟨y, hy⟩ : ∃ y, n - 1 - k = y := ⟨_, rfl⟩
            have t0 := HT.out.out.cell 0
            have t1 : wr.cell? ⟨w.heap.size + 1 + 1, q, none⟩ = some (.int .i64 p) := by
              rw [HT.out.row.cell, Vals_get (by rw [mkL_length]; omega), mkL_getD (by omega), ← hp, hq]
            have t2 := HT.out.row.frozen q
            have wp := wrap_pow' y (by omega)
            have hor := or_pow p y hlt2 (by omega)
            have e1 : (n : Int) - 1 - (t : Int) = (q : Int) := by omega
            have e2 : (n : Int) - 1 - (k : Int) = (y : Int) := by omega
            have hqn : (q : Int) < n := by omega
            have hqn2 : q < n := by omega
            have Hp := hid hp
            have Hq := hid hq
            have Hy := hid hy
            clear hp hq hy hlt2 hbit
            go_wp2_with (go_at_call 72; refine (poIn_any z t (by omega) _).mono ?_; rw [Hbit.out]; rintro e w' ⟨rfl, rfl⟩)
            go_region
            go_wp2
            go_roundw
            case rel => exact ⟨t + 1, by omega, by go_num, (by
              have e : mkL n (din xs n k (dout xs n k) (t + 1)) = (mkL n (din xs n k (dout xs n k) t)).set q ((p ||| 2 ^ y : Nat) : Int) := by
                rw [mkL_set _ hqn2]
                refine mkL_congr fun r _ => ?_
                rw [din, dstep, Hx.out, Int.toNat_natCast, if_pos Hbit.out, Hp.out, Hq.out, Hy.out]
              exact HT.out.step e)⟩
            case measure => simp [intOf]; omega
        · obtain rfl : t = k := by omega
          go_wp2
          go_roundw
          case rel => exact ⟨t + 1, by omega, by go_num, HT.out⟩
          case measure => simp [intOf]; omega
    · obtain rfl : k = n := by omega
      have t0 := HD.out.out.cell 0
      have t1 := HD.out.res.cell 0
      have t2 := HD.out.res.frozen 0
      go_wp2
      refine bodyPost_ret (v := .agg #[.slice (some ⟨w.heap.size + 1 + 1, 0, none⟩) k k]) (by simp [results, Try.results57, go_sem, t1]) rfl ⟨_, rfl, ?_, ?_⟩
      · have h := HD.out.row
        have e : mkL k (dout xs k k) = dualL xs := by rw [HY.out, ← Hn.out]; exact dout_full xs
        rw [e] at h
        have hlen : (dualL xs).length = k := by rw [← e, mkL_length]
        have h2 := h.own (B := w.heap.size) (xs := dualL xs) (by omega) (dualL_length xs)
        rw [hlen] at h2
        exact h2.grown (grown_setCell (World.grownBy.refl _ _) 0 _) (.inr (by simp [Value.ownBlock]))
      · exact HD.out.below.setCell (p := ⟨w.heap.size + 1, 0, none⟩) (by show w.heap.size ≤ w.heap.size + 1; omega) _

theorem twoBoxes {w w1 : World} {t t' : TypeId} {a b : Array Value} (hb : Below ((w.alloc (.cells a t)).alloc (.cells b t')).heap.size ((w.alloc (.cells a t)).alloc (.cells b t')) w1) :
    Blk w1 w.heap.size t a ∧ Blk w1 (w.heap.size + 1) t' b ∧ w.heap.size + 2 ≤ w1.heap.size ∧ Below w.heap.size w w1 := by
  refine ⟨?_, ?_, ?_, ?_⟩
  · exact ((Blk.new w t a).alloc _).below hb (by simp; omega)
  · exact (Blk.newAt _ t' b (w.heap.size + 1) (by simp)).below hb (by simp)
  · have := hb.size; simp at this; omega
  · exact below_to (below_alloc (below_alloc (Below.refl _ _) _) _) hb
theorem implDualOf_any (v : Value) (xs : List Int) (w : World) (hv : Ints w v xs) (hl : xs.length ≤ 1048576) :
    Calls Try.prog 34 #[.agg #[v]] w fun (r : Ending) w' => ∃ u, r = Ending.returned (.tuple #[.agg #[u], .bool (good xs)]) ∧ OwnI 3 w' w.heap.size u (dualL xs) ∧ (dualL xs).length ≤ 1048576 ∧ Below w.heap.size w w' := by
  have HV := hid hv
  have HL := hid (dualL_length xs)
  obtain ⟨A, c, rfl, -⟩ := hv
  cases hg : good xs
  · have HG := hid hg
    have HN := hid (dualL_no hg)
    clear hg
    go_enter Try.func34, Try.ntmps34
    go_wp2_with fail
    refine (implIsPoset_any _ xs _ ((HV.out.alloc _).alloc _) hl).mono ?_
    rw [HG.out]
    rintro e w1 ⟨rfl, hb1⟩
    obtain ⟨hp, hr, hz, hB⟩ := twoBoxes hb1
    have t1 := hr.cell 0
    have t2 := hr.frozen 0
    have HB := hid hB
    clear hb1 hp hr hB
    go_wp2
    refine bodyPost_ret (v := .tuple #[.agg #[.slice none 0 0], .bool false]) (by simp [results, Try.results34, go_sem, t1]) rfl ⟨_, rfl, by rw [HN.out]; exact OwnI.nil _ _ _, HL.out, ?_⟩
    exact HB.out.setCell (p := ⟨w.heap.size + 1, 0, none⟩) (by show w.heap.size ≤ w.heap.size + 1; omega) _
  · have HG := hid hg
    have hl10 := (good_length hg).2
    have hn1 := (good_length hg).1
    have HY := hid (dualL_yes hg)
    clear hg
    go_enter Try.func34, Try.ntmps34
    go_wp2_with fail
    refine (implIsPoset_any _ xs _ ((HV.out.alloc _).alloc _) hl).mono ?_
    rw [HG.out]
    rintro e w1 ⟨rfl, hb1⟩
    obtain ⟨hp, hr, hz, hB⟩ := twoBoxes hb1
    have t0 := hp.cell 0
    have hz0 : w.heap.size < w1.heap.size := by omega
    have HP := hid hp
    have HR := hid hr
    have HB := hid hB
    have HV1 := hid (HV.out.below hB)
    clear hb1 hp hr hB
    go_wp2_with fail
    obtain ⟨W, hW⟩ : ∃ W : World, W = w1.alloc (.cells #[.int .i64 ((xs.length : Int) - 1)] 3) := ⟨_, rfl⟩
    have HA2 : Hid (At W w1.heap.size (.int .i64 ((xs.length - 1 : Nat) : Int))) := hid (by
      subst hW
      have e : ((xs.length : Int) - 1) = ((xs.length - 1 : Nat) : Int) := by omega
      rw [e]; exact At.new _ _ _)
    have HA1 : Hid (At W w.heap.size (.slice A xs.length c)) := hid (by subst hW; exact At.alloc ⟨HP.out.cell 0, HP.out.lt⟩ _)
    have HV2 : Hid (Ints W (.slice A xs.length c) xs) := hid (by subst hW; exact HV1.out.alloc _)
    have HR2 : Hid (Blk W (w.heap.size + 1) 29 #[.slice none 0 0]) := hid (by subst hW; exact HR.out.alloc _)
    have HB2 : Hid (Below w.heap.size w W) := hid (by subst hW; exact below_alloc HB.out _)
    have hzW : w.heap.size + 2 < W.heap.size := by subst hW; simp; omega
    rw [← hW]
    clear hW t0
    refine (posetWhereDual_any xs.length _ _ (dualF xs) W hl10 (fun j i W' hj hi hb => dualClosure_any _ xs w.heap.size w1.heap.size j i W' (HV2.out.below hb) HG.out (HA1.out.below hb) (HA2.out.below hb) hj hi)).mono ?_
    rintro e w2 ⟨u, rfl, ho, hb2⟩
    have hr := HR2.out.below hb2 (by omega)
    have t1 := hr.cell 0
    have t2 := hr.frozen 0
    obtain ⟨uA, un, uc, rfl⟩ := ho.shape3
    have HO := hid ho
    have HB3 := hid (below_to HB2.out hb2)
    clear hr ho hb2
    go_wp2
    refine bodyPost_ret (v := .tuple #[.agg #[.slice uA un uc], .bool true]) (by simp [results, Try.results34, go_sem, t1]) rfl ⟨_, rfl, ?_, HL.out, ?_⟩
    · rw [HY.out]
      refine (HO.out.grown (grown_setCell (World.grownBy.refl _ _) 0 _) ?_).mono (by omega)
      exact HO.out.apart (.inl (by omega))
    · exact HB3.out.setCell (p := ⟨w.heap.size + 1, 0, none⟩) (by show w.heap.size ≤ w.heap.size + 1; omega) _
theorem specDualOf_any (v : Value) (xs : List Int) (w : World) (hv : Ints w v xs) (hl : xs.length ≤ 1048576) :
    Calls Try.prog 33 #[.agg #[v]] w fun (r : Ending) w' => ∃ u, r = Ending.returned (.tuple #[.agg #[u], .bool (good xs)]) ∧ OwnI 3 w' w.heap.size u (dualL xs) ∧ (dualL xs).length ≤ 1048576 ∧ Below w.heap.size w w' := by
  have HV := hid hv
  have HL := hid (dualL_length xs)
  obtain ⟨A, c, rfl, -⟩ := hv
  cases hg : good xs
  · have HG := hid hg
    have HN := hid (dualL_no hg)
    clear hg
    go_enter Try.func33, Try.ntmps33
    go_wp2_with fail
    refine (poGood_any _ xs _ ((HV.out.alloc _).alloc _) hl).mono ?_
    rw [HG.out]
    rintro e w1 ⟨rfl, hb1⟩
    obtain ⟨hp, hr, hz, hB⟩ := twoBoxes hb1
    have t1 := hr.cell 0
    have t2 := hr.frozen 0
    have HB := hid hB
    clear hb1 hp hr hB
    go_wp2
    refine bodyPost_ret (v := .tuple #[.agg #[.slice none 0 0], .bool false]) (by simp [results, Try.results33, go_sem, t1]) rfl ⟨_, rfl, by rw [HN.out]; exact OwnI.nil _ _ _, HL.out, ?_⟩
    exact HB.out.setCell (p := ⟨w.heap.size + 1, 0, none⟩) (by show w.heap.size ≤ w.heap.size + 1; omega) _
  · have HG := hid hg
    clear hg
    go_enter Try.func33, Try.ntmps33
    go_wp2_with fail
    refine (poGood_any _ xs _ ((HV.out.alloc _).alloc _) hl).mono ?_
    rw [HG.out]
    rintro e w1 ⟨rfl, hb1⟩
    obtain ⟨hp, hr, hz, hB⟩ := twoBoxes hb1
    have t0 := hp.cell 0
    have HR := hid hr
    have HB := hid hB
    have HV1 := hid (HV.out.below hB)
    clear hb1 hp hr hB
    go_wp2_with fail
    clear t0
    refine (poDual_any _ xs _ HV1.out HG.out).mono ?_
    rintro e w2 ⟨u, rfl, ho, hb2⟩
    have hr := HR.out.below hb2 (by omega)
    have t1 := hr.cell 0
    have t2 := hr.frozen 0
    obtain ⟨uA, un, uc, rfl⟩ := ho.shape3
    have HO := hid ho
    have HB3 := hid (below_to HB.out hb2)
    clear hr ho hb2
    go_wp2
    refine bodyPost_ret (v := .tuple #[.agg #[.slice uA un uc], .bool true]) (by simp [results, Try.results33, go_sem, t1]) rfl ⟨_, rfl, ?_, HL.out, ?_⟩
    · refine (HO.out.grown (grown_setCell (World.grownBy.refl _ _) 0 _) ?_).mono (by omega)
      exact HO.out.apart (.inl (by omega))
    · exact HB3.out.setCell (p := ⟨w.heap.size + 1, 0, none⟩) (by show w.heap.size ≤ w.heap.size + 1; omega) _
end Go.Proofs.Ytgoghgkpmmgcgab
