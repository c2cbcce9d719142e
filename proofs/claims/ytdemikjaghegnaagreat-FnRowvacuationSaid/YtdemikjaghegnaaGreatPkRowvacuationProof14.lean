/- Texts Dual, Order, Lin, End, LinX, one behind the other. -/
import Derived.Test.YtdemikjaghegnaaGreatPkRowvacuationProof02
import Derived.Test.YtdemikjaghegnaaGreatPkRowvacuationProof05
import Derived.Test.YtdemikjaghegnaaGreatPkRowvacuationProof07
/- DualOf. -/
namespace Go.Proofs.YtdemikjaghegnaaGreat
open Go.RowKit Go.WideShapes Go.ChangeShapes
set_option linter.unusedVariables false

def dualF (xs : List Int) (j i : Nat) : Bool := (xs.getD (xs.length - 1 - j) 0).toNat.testBit (xs.length - 1 - i)
def dstep (xs : List Int) (n i : Nat) (g : Nat → Nat) (j : Nat) (r : Nat) : Nat := if (xs.getD i 0).toNat.testBit j then (if r = n - 1 - j then g (n - 1 - j) ||| 2 ^ (n - 1 - i) else g r) else g r
def din (xs : List Int) (n i : Nat) (g : Nat → Nat) : Nat → Nat → Nat
  | 0 => g
  | j + 1 => dstep xs n i (din xs n i g j) j
def dout (xs : List Int) (n : Nat) : Nat → Nat → Nat
  | 0 => fun _ => 0
  | i + 1 => din xs n i (dout xs n i) i
theorem din_lt {xs : List Int} {n i : Nat} {g : Nat → Nat} (hn : n ≤ 10) (hg : ∀ r, g r < 1024) (t : Nat) : ∀ r, din xs n i g t r < 1024 := by
  induction t with
  | zero => exact hg
  | succ t ih =>
    intro r
    unfold din dstep
    split
    · split
      · exact Nat.or_lt_two_pow (n := 10) (ih _) (Nat.pow_lt_pow_right (by decide) (by omega))
      · exact ih r
    · exact ih r
theorem dout_lt {xs : List Int} {n : Nat} (hn : n ≤ 10) (k : Nat) : ∀ r, dout xs n k r < 1024 := by
  induction k with
  | zero => intro r; simp [dout]
  | succ k ih => exact din_lt hn ih k
theorem din_testBit {xs : List Int} {n i : Nat} {g : Nat → Nat} (t : Nat) (ht : t ≤ n) (r s : Nat) (hr : r < n) :
    (din xs n i g t r).testBit s = true ↔ (g r).testBit s = true ∨ (n - 1 - r < t ∧ (xs.getD i 0).toNat.testBit (n - 1 - r) = true ∧ s = n - 1 - i) := by
  induction t with
  | zero => simp [din]
  | succ t ih =>
    have ih := ih (by omega)
    unfold din dstep
    by_cases hb : (xs.getD i 0).toNat.testBit t = true
    · rw [if_pos hb]
      by_cases e : r = n - 1 - t
      · rw [if_pos e, ← e, Nat.testBit_or, Bool.or_eq_true, ih]
        have e2 : n - 1 - r = t := by omega
        rw [e2]
        constructor
        · rintro ((h | h) | h)
          · exact .inl h
          · exact .inr ⟨by omega, h.2.1, h.2.2⟩
          · rw [Nat.testBit_two_pow] at h
            exact .inr ⟨by omega, hb, by simpa using (of_decide_eq_true h).symm⟩
        · rintro (h | ⟨-, -, h⟩)
          · exact .inl (.inl h)
          · exact .inr (by rw [h]; exact Nat.testBit_two_pow_self)
      · rw [if_neg e, ih]
        constructor
        · rintro (h | ⟨h1, h2⟩)
          · exact .inl h
          · exact .inr ⟨by omega, h2⟩
        · rintro (h | ⟨h1, h2⟩)
          · exact .inl h
          · exact .inr ⟨by omega, h2⟩
    · rw [if_neg hb, ih]
      constructor
      · rintro (h | ⟨h1, h2⟩)
        · exact .inl h
        · exact .inr ⟨by omega, h2⟩
      · rintro (h | ⟨h1, h2, h3⟩)
        · exact .inl h
        · by_cases e : n - 1 - r = t
          · rw [e] at h2; exact absurd h2 hb
          · exact .inr ⟨by omega, h2, h3⟩
theorem dout_testBit {xs : List Int} {n : Nat} (k : Nat) (hk : k ≤ n) (r s : Nat) (hr : r < n) :
    (dout xs n k r).testBit s = true ↔ ∃ i, i < k ∧ n - 1 - r < i ∧ (xs.getD i 0).toNat.testBit (n - 1 - r) = true ∧ s = n - 1 - i := by
  induction k with
  | zero => simp [dout]
  | succ k ih =>
    unfold dout
    rw [din_testBit k (by omega) r s hr, ih (by omega)]
    constructor
    · rintro (⟨i, h1, h2⟩ | h)
      · exact ⟨i, by omega, h2⟩
      · exact ⟨k, by omega, h⟩
    · rintro ⟨i, h1, h2⟩
      by_cases e : i = k
      · subst e; exact .inr h2
      · exact .inl ⟨i, by omega, h2⟩
theorem dout_full (xs : List Int) : mkL xs.length (dout xs xs.length xs.length) = whereL (dualF xs) xs.length := by
  unfold whereL
  refine mkL_congr fun r hr => Nat.eq_of_testBit_eq fun s => ?_
  rw [Bool.eq_iff_iff, dout_testBit _ (Nat.le_refl _) r s hr, rowN_testBit, Bool.and_eq_true, decide_eq_true_eq]
  unfold dualF
  constructor
  · rintro ⟨i, h1, h2, h3, rfl⟩
    refine ⟨by omega, ?_⟩
    rw [show xs.length - 1 - (xs.length - 1 - i) = i by omega]
    exact h3
  · rintro ⟨h1, h2⟩
    exact ⟨xs.length - 1 - s, by omega, by omega, h2, by omega⟩

def dualL (xs : List Int) : List Int := if good xs then whereL (dualF xs) xs.length else []
theorem dualL_yes {xs : List Int} (h : good xs = true) : dualL xs = whereL (dualF xs) xs.length := if_pos h
theorem dualL_no {xs : List Int} (h : good xs = false) : dualL xs = [] := by simp [dualL, h]
theorem dualL_length (xs : List Int) : (dualL xs).length ≤ 1048576 := by
  unfold dualL
  split
  · rename_i h
    unfold whereL
    rw [mkL_length]
    have := (good_length h).2
    omega
  · simp

theorem dualClosure_any (v : Value) (xs : List Int) (a1 a2 j i : Nat) (w : World) (hv : Ints w v xs) (hg : good xs = true) (h1 : At w a1 v) (h2 : At w a2 (.int .i64 ((xs.length - 1 : Nat) : Int))) (hj : j < i) (hi : i < xs.length) :
    Calls Tryz.prog 93 #[.int .i64 j, .int .i64 i, .pointer (some ⟨a1, 0, none⟩), .pointer (some ⟨a2, 0, none⟩)] w fun r w' => r = .returned (.bool (dualF xs j i)) ∧ Below w.heap.size w w' := by
  have hl10 := (good_length hg).2
  have hok := okAt_small (good_at hg (show xs.length - 1 - j < xs.length by omega)) (by omega)
  obtain ⟨A, c, rfl, hA⟩ := hv
  obtain ⟨b, o, rfl, hbl, hc⟩ := hA (by intro h; simp [h] at hi)
  have hcell := hc (xs.length - 1 - j) (by omega)
  obtain ⟨x, hx⟩ : ∃ x, xs.getD (xs.length - 1 - j) 0 = x := ⟨_, rfl⟩
  rw [hx] at hcell hok
  obtain ⟨z, rfl⟩ := Int.eq_ofNat_of_zero_le hok.1
  obtain ⟨R, hR⟩ : ∃ R, dualF xs j i = R := ⟨_, rfl⟩
  have HR : Hid (z.testBit (xs.length - 1 - i) = R) := by unfold dualF at hR; rw [hx, Int.toNat_natCast] at hR; exact hR
  rw [hR]
  obtain ⟨h1, -⟩ := h1
  obtain ⟨h2, -⟩ := h2
  obtain ⟨p, hp⟩ : ∃ p, xs.length - 1 - j = p := ⟨_, rfl⟩
  obtain ⟨q, hq⟩ : ∃ q, xs.length - 1 - i = q := ⟨_, rfl⟩
  rw [hp] at hcell
  rw [hq] at HR
  have e1 : IntKind.i64.wrap (((xs.length - 1 : Nat) : Int) - (j : Int)) = (p : Int) := by rw [IntWalk.i64_in _ (by omega)]; omega
  have e2 : IntKind.i64.wrap (((xs.length - 1 : Nat) : Int) - (i : Int)) = (q : Int) := by rw [IntWalk.i64_in _ (by omega)]; omega
  have hp3 : (p : Int) < xs.length := by omega
  have hp4 : p < xs.length := by omega
  have hq3 : q < 64 := by omega
  have hz3 : z < 1024 := by omega
  clear hc hA hx hR hp hq hg hok hj hi
  go_enter Tryz.func93, Tryz.ntmps93
  go_wp2
  go_quiet ((go_at_call 58; exact Calls.quiet_of_same ((hasElement_any z q (by omega) hq3 _).mono fun _ _ ⟨a, b⟩ => ⟨a, b.symm⟩)))
  go_wp2
  go_ret
  exact ⟨ret_bool HR.out, below_drewN (Below.refl _ _) _⟩

/-- what holds in poDual's loops: the new row, the variable that holds it, the result's cell -/
structure DualW (ti tp : TypeId) (n : Nat) (w : World) (g : Nat → Nat) (wr : World) : Prop where
  row : Blk wr (w.heap.size + 1 + 1) ti (Vals (mkL n g))
  out : Blk wr (w.heap.size + 1 + 1 + 1) tp #[.slice (some ⟨w.heap.size + 1 + 1, 0, none⟩) n n]
  res : Blk wr (w.heap.size + 1) tp #[.slice none 0 0]
  below : Below w.heap.size w wr
theorem DualW.start (ti tp : TypeId) (n : Nat) (w : World) (u : Value) (g : Nat → Nat) :
    DualW ti tp n w g ((((w.alloc (.cells #[u] tp)).alloc (.cells #[.slice none 0 0] tp)).alloc (.cells (Vals (mkL n g)) ti)).alloc (.cells #[.slice (some ⟨w.heap.size + 1 + 1, 0, none⟩) n n] tp)) :=
  ⟨(Blk.newAt _ _ _ _ (by simp)).alloc _, Blk.newAt _ _ _ _ (by simp), ((Blk.newAt _ _ _ _ (by simp)).alloc _).alloc _, (((((Below.refl _ _).alloc (Nat.le_refl _) _).alloc (by simp) _).alloc (by simp; omega) _).alloc (by simp; omega) _)⟩
theorem DualW.step {ti tp : TypeId} {n : Nat} {w wr : World} {g g' : Nat → Nat} {q : Nat} {y : Int} (h : DualW ti tp n w g wr) (e : mkL n g' = (mkL n g).set q y) :
    DualW ti tp n w g' ((wr.setCell ⟨w.heap.size + 1 + 1, q, none⟩ (.int .i64 y)).drew) := by
  refine ⟨?_, ?_, ?_, ?_⟩
  · rw [e, ← Vals_set]; exact h.row.set_ q _
  · exact h.out.far (p := ⟨w.heap.size + 1 + 1, q, none⟩) (by show w.heap.size + 1 + 1 + 1 ≠ w.heap.size + 1 + 1; omega) _
  · exact h.res.far (p := ⟨w.heap.size + 1 + 1, q, none⟩) (by show w.heap.size + 1 ≠ w.heap.size + 1 + 1; omega) _
  · exact (h.below.setCell (p := ⟨w.heap.size + 1 + 1, q, none⟩) (by show w.heap.size ≤ w.heap.size + 1 + 1; omega) _).drew
theorem twoBoxes {w w1 : World} {t t' : TypeId} {a b : Array Value} (hb : Below ((w.alloc (.cells a t)).alloc (.cells b t')).heap.size ((w.alloc (.cells a t)).alloc (.cells b t')) w1) :
    Blk w1 w.heap.size t a ∧ Blk w1 (w.heap.size + 1) t' b ∧ w.heap.size + 2 ≤ w1.heap.size ∧ Below w.heap.size w w1 := by
  refine ⟨?_, ?_, ?_, ?_⟩
  · exact ((Blk.new w t a).alloc _).below hb (by simp; omega)
  · exact (Blk.newAt _ t' b (w.heap.size + 1) (by simp)).below hb (by simp)
  · have := hb.size; simp at this; omega
  · exact below_to (below_alloc (below_alloc (Below.refl _ _) _) _) hb
theorem implDualOf_any (v : Value) (xs : List Int) (w : World) (hv : Ints w v xs) (hl : xs.length ≤ 1048576) :
    Calls Tryz.prog 47 #[.agg #[v]] w fun (r : Ending) w' => ∃ u, r = Ending.returned (.tuple #[.agg #[u], .bool (good xs)]) ∧ OwnI 3 w' w.heap.size u (dualL xs) ∧ (dualL xs).length ≤ 1048576 ∧ Below w.heap.size w w' := by
  have HV := hid hv
  have HL := hid (dualL_length xs)
  obtain ⟨A, c, rfl, -⟩ := hv
  cases hg : good xs
  · have HG := hid hg
    have HN := hid (dualL_no hg)
    clear hg
    go_enter Tryz.func47, Tryz.ntmps47
    go_wp2_with fail
    refine (implIsPoset_any _ xs _ ((HV.out.alloc _).alloc _) hl).mono ?_
    rw [HG.out]
    rintro e w1 ⟨rfl, hb1⟩
    obtain ⟨hp, hr, hz, hB⟩ := twoBoxes hb1
    have t1 := hr.cell 0
    have t2 := hr.frozen 0
    have HB := hid hB
    clear hb1 hp hr hB
    go_wp2
    refine bodyPost_ret (v := .tuple #[.agg #[.slice none 0 0], .bool false]) (by simp [results, Tryz.results47, go_sem, t1]) rfl ⟨_, rfl, by rw [HN.out]; exact OwnI.nil _ _ _, HL.out, ?_⟩
    exact HB.out.setCell (p := ⟨w.heap.size + 1, 0, none⟩) (by show w.heap.size ≤ w.heap.size + 1; omega) _
  · have HG := hid hg
    have hl10 := (good_length hg).2
    have hn1 := (good_length hg).1
    have HY := hid (dualL_yes hg)
    clear hg
    go_enter Tryz.func47, Tryz.ntmps47
    go_wp2_with fail
    refine (implIsPoset_any _ xs _ ((HV.out.alloc _).alloc _) hl).mono ?_
    rw [HG.out]
    rintro e w1 ⟨rfl, hb1⟩
    obtain ⟨hp, hr, hz, hB⟩ := twoBoxes hb1
    have t0 := hp.cell 0
    have hz0 : w.heap.size < w1.heap.size := by omega
    have HP := hid hp
    have HR := hid hr
    have HB := hid hB
    have HV1 := hid (HV.out.below hB)
    clear hb1 hp hr hB
    go_wp2_with fail
    obtain ⟨W, hW⟩ : ∃ W : World, W = w1.alloc (.cells #[.int .i64 ((xs.length : Int) - 1)] 3) := ⟨_, rfl⟩
    have HA2 : Hid (At W w1.heap.size (.int .i64 ((xs.length - 1 : Nat) : Int))) := hid (by
      subst hW
      have e : ((xs.length : Int) - 1) = ((xs.length - 1 : Nat) : Int) := by omega
      rw [e]; exact At.new _ _ _)
    have HA1 : Hid (At W w.heap.size (.slice A xs.length c)) := hid (by subst hW; exact At.alloc ⟨HP.out.cell 0, HP.out.lt⟩ _)
    have HV2 : Hid (Ints W (.slice A xs.length c) xs) := hid (by subst hW; exact HV1.out.alloc _)
    have HR2 : Hid (Blk W (w.heap.size + 1) 26 #[.slice none 0 0]) := hid (by subst hW; exact HR.out.alloc _)
    have HB2 : Hid (Below w.heap.size w W) := hid (by subst hW; exact below_alloc HB.out _)
    have hzW : w.heap.size + 2 < W.heap.size := by subst hW; simp; omega
    rw [← hW]
    clear hW t0
    refine (posetWhereDual_any xs.length _ _ (dualF xs) W hl10 (fun j i W' hj hi hb => dualClosure_any _ xs w.heap.size w1.heap.size j i W' (HV2.out.below hb) HG.out (HA1.out.below hb) (HA2.out.below hb) hj hi)).mono ?_
    rintro e w2 ⟨u, rfl, ho, hb2⟩
    have hr := HR2.out.below hb2 (by omega)
    have t1 := hr.cell 0
    have t2 := hr.frozen 0
    obtain ⟨uA, un, uc, rfl⟩ := ho.shape3
    have HO := hid ho
    have HB3 := hid (below_to HB2.out hb2)
    clear hr ho hb2
    go_wp2
    refine bodyPost_ret (v := .tuple #[.agg #[.slice uA un uc], .bool true]) (by simp [results, Tryz.results47, go_sem, t1]) rfl ⟨_, rfl, ?_, HL.out, ?_⟩
    · rw [HY.out]
      refine (HO.out.grown (grown_setCell (World.grownBy.refl _ _) 0 _) ?_).mono (by omega)
      exact HO.out.apart (.inl (by omega))
    · exact HB3.out.setCell (p := ⟨w.heap.size + 1, 0, none⟩) (by show w.heap.size ≤ w.heap.size + 1; omega) _
end Go.Proofs.YtdemikjaghegnaaGreat

/- Orders: IsOrder. -/
namespace Go.Proofs.YtdemikjaghegnaaGreat
open Go.RowKit Go.WideShapes Go.ChangeShapes
set_option linter.unusedVariables false

def ordP (xs : List Int) (m : Nat) (y : Int) : Bool := (decide (0 ≤ y) && decide (y < xs.length)) && (!m.testBit y.toNat && (sub (row xs y.toNat) m == 0))
def ordSt (xs ys : List Int) : Nat → Option Nat
  | 0 => some 0
  | k + 1 => (ordSt xs ys k).bind fun m => if ordP xs m (ys.getD k 0) then some (m ||| 2 ^ (ys.getD k 0).toNat) else none
def orderB (xs ys : List Int) : Bool := decide (ys.length = xs.length) && (ordSt xs ys ys.length).isSome
theorem ordSt_yes {xs ys : List Int} {k m : Nat} (h : ordSt xs ys k = some m) (hp : ordP xs m (ys.getD k 0) = true) : ordSt xs ys (k + 1) = some (m ||| 2 ^ (ys.getD k 0).toNat) := by
  simp only [ordSt, h, Option.bind_some, hp, if_true]
theorem ordSt_no {xs ys : List Int} {k m : Nat} (h : ordSt xs ys k = some m) (hp : ordP xs m (ys.getD k 0) = false) : ∀ j, k < j → ordSt xs ys j = none := by
  intro j hj
  induction j with
  | zero => omega
  | succ j ih =>
    by_cases e : k = j
    · subst e; simp only [ordSt, h, Option.bind_some, hp]; rfl
    · simp only [ordSt, ih (by omega)]; rfl
theorem ordSt_lt {xs ys : List Int} (k : Nat) : ∀ m, ordSt xs ys k = some m → m < 2 ^ xs.length ∧ ∀ j, j < k → 0 ≤ ys.getD j 0 ∧ ys.getD j 0 < xs.length := by
  induction k with
  | zero => intro m h; simp only [ordSt, Option.some.injEq] at h; subst h; exact ⟨Nat.two_pow_pos _, fun j hj => by omega⟩
  | succ k ih =>
    intro m h
    cases hq : ordSt xs ys k with
    | none => simp only [ordSt, hq] at h; cases h
    | some q =>
      obtain ⟨h1, h2⟩ := ih q hq
      cases hp : ordP xs q (ys.getD k 0)
      · rw [ordSt_no hq hp (k + 1) (by omega)] at h; cases h
      · rw [ordSt_yes hq hp] at h
        simp only [Option.some.injEq] at h
        subst h
        simp only [ordP, Bool.and_eq_true, decide_eq_true_eq] at hp
        refine ⟨Nat.or_lt_two_pow h1 (pow_lt_len (by omega)), fun j hj => ?_⟩
        by_cases e : j = k
        · subst e; exact hp.1
        · exact h2 j (by omega)
theorem orderB_len {xs ys : List Int} (h : ¬ ys.length = xs.length) : orderB xs ys = false := by simp [orderB, h]
theorem orderB_no {xs ys : List Int} {k m : Nat} (h : ordSt xs ys k = some m) (hk : k < ys.length) (hp : ordP xs m (ys.getD k 0) = false) : orderB xs ys = false := by
  simp [orderB, ordSt_no h hp ys.length hk]
theorem orderB_yes {xs ys : List Int} {m : Nat} (hl : ys.length = xs.length) (h : ordSt xs ys ys.length = some m) : orderB xs ys = true := by
  rw [orderB, h, hl]; simp
theorem orderB_in {xs ys : List Int} (h : inW xs.length ys = false) : orderB xs ys = false := by
  cases hc : orderB xs ys
  · rfl
  · simp only [orderB, Bool.and_eq_true, decide_eq_true_eq] at hc
    obtain ⟨m, hm⟩ := Option.isSome_iff_exists.1 hc.2
    rw [inW_of (ordSt_lt _ m hm).2] at h; cases h
theorem orderB_word {xs ys : List Int} (h : orderB xs ys = true) : ys.length = xs.length ∧ inW xs.length ys = true := by
  simp only [orderB, Bool.and_eq_true, decide_eq_true_eq] at h
  obtain ⟨m, hm⟩ := Option.isSome_iff_exists.1 h.2
  exact ⟨h.1, inW_of (ordSt_lt _ m hm).2⟩
theorem ordP_range {xs : List Int} {m : Nat} {y : Int} (h : (decide (0 ≤ y) && decide (y < xs.length)) = false) : ordP xs m y = false := by simp only [ordP, h]; rfl
theorem ordP_bit {xs : List Int} {m e : Nat} (h : m.testBit e = true) : ordP xs m (e : Int) = false := by simp [ordP, h]
theorem ordP_row {xs : List Int} {m e z : Nat} (hz : row xs e = z) (h : sub z m ≠ 0) : ordP xs m (e : Int) = false := by
  simp [ordP, hz, h]
theorem ordP_yes {xs : List Int} {m e z : Nat} (he : e < xs.length) (hb : m.testBit e = false) (hz : row xs e = z) (h : sub z m = 0) : ordP xs m (e : Int) = true := by
  simp [ordP, hz, h, hb]; omega

def okOrder (xs ys : List Int) : Bool := good xs && orderB xs ys
theorem okOrder_no {xs ys : List Int} (h : good xs = false) : okOrder xs ys = false := by simp [okOrder, h]
theorem okOrder_yes {xs ys : List Int} (h : good xs = true) : okOrder xs ys = orderB xs ys := by simp [okOrder, h]
end Go.Proofs.YtdemikjaghegnaaGreat

/- Lists with one toggle after the other: toggles at places, promotion, evacuation, as maps of lists. No program is named here. -/
namespace Go.Proofs.YtdemikjaghegnaaGreat
set_option linter.unusedVariables false

def swapL (ws : List Int) (i : Nat) : List Int := (ws.set i (ws.getD (i + 1) 0)).set (i + 1) (ws.getD i 0)
def togL (xs ws : List Int) (i : Nat) : List Int := if (row xs (ws.getD (i + 1) 0).toNat).testBit (ws.getD i 0).toNat = true then ws else swapL ws i
theorem getD_set_ (ws : List Int) (i j : Nat) (x : Int) : (ws.set i x).getD j 0 = if i = j ∧ i < ws.length then x else ws.getD j 0 := by
  rw [List.getD_eq_getElem?_getD, List.getElem?_set, List.getD_eq_getElem?_getD]
  by_cases h : i = j
  · subst h
    by_cases h2 : i < ws.length
    · simp [h2]
    · simp [h2]
  · simp [h]
/-- a list of n numbers from 0 to n - 1 -/
structure Lw (n : Nat) (ws : List Int) : Prop where
  len : ws.length = n
  ins : inW n ws = true
theorem Lw.at {n : Nat} {ws : List Int} (h : Lw n ws) {j : Nat} (hj : j < n) : 0 ≤ ws.getD j 0 ∧ ws.getD j 0 < n := inW_at h.ins (by rw [h.len]; exact hj)
theorem swapL_length (ws : List Int) (i : Nat) : (swapL ws i).length = ws.length := by simp [swapL]
theorem swapL_getD (ws : List Int) (i j : Nat) (hi : i + 1 < ws.length) : (swapL ws i).getD j 0 = if j = i then ws.getD (i + 1) 0 else if j = i + 1 then ws.getD i 0 else ws.getD j 0 := by
  unfold swapL
  rw [getD_set_, getD_set_, List.length_set]
  by_cases h1 : j = i
  · subst h1
    rw [if_neg (by omega), if_pos ⟨rfl, by omega⟩, if_pos rfl]
  · rw [if_neg h1]
    by_cases h2 : j = i + 1
    · subst h2; rw [if_pos ⟨rfl, by omega⟩, if_pos rfl]
    · rw [if_neg (by omega), if_neg (by omega), if_neg h2]
theorem Lw.swap {n : Nat} {ws : List Int} (h : Lw n ws) {i : Nat} (hi : i + 1 < n) : Lw n (swapL ws i) := by
  refine ⟨by rw [swapL_length]; exact h.len, inW_of fun j hj => ?_⟩
  rw [swapL_length, h.len] at hj
  rw [swapL_getD ws i j (by rw [h.len]; exact hi)]
  split
  · exact h.at hi
  · split
    · exact h.at (by omega)
    · exact h.at hj
theorem Lw.tog {n : Nat} {xs ws : List Int} (h : Lw n ws) {i : Nat} (hi : i + 1 < n) : Lw n (togL xs ws i) := by
  unfold togL
  split
  · exact h
  · exact h.swap hi
theorem togL_yes {xs ws : List Int} {i : Nat} (h : (row xs (ws.getD (i + 1) 0).toNat).testBit (ws.getD i 0).toNat = true) : togL xs ws i = ws := if_pos h
theorem togL_no {xs ws : List Int} {i : Nat} (h : (row xs (ws.getD (i + 1) 0).toNat).testBit (ws.getD i 0).toNat = false) : togL xs ws i = swapL ws i := by unfold togL; rw [if_neg (by rw [h]; decide)]
theorem togL_length (xs ws : List Int) (i : Nat) : (togL xs ws i).length = ws.length := by
  unfold togL; split
  · rfl
  · exact swapL_length ws i

def turnN (F : Nat → List Int → List Int) : Nat → List Int → List Int
  | 0, ws => ws
  | k + 1, ws => F k (turnN F k ws)
theorem turnN_congr {F G : Nat → List Int → List Int} {m : Nat} (h : ∀ k, k < m → F k = G k) (ws : List Int) : turnN F m ws = turnN G m ws := by
  induction m with
  | zero => rfl
  | succ m ih => simp only [turnN]; rw [ih (fun k hk => h k (by omega)), h m (by omega)]
theorem Lw.turn {n : Nat} {F : Nat → List Int → List Int} {m : Nat} (hF : ∀ k, k < m → ∀ ws, Lw n ws → Lw n (F k ws)) {ws : List Int} (h : Lw n ws) : Lw n (turnN F m ws) := by
  induction m with
  | zero => exact h
  | succ m ih => exact hF m (by omega) _ (ih fun k hk => hF k (by omega))
/-- toggles at 0, 1, .., k - 1 -/
def upL (xs : List Int) (k : Nat) (ws : List Int) : List Int := turnN (fun i a => togL xs a i) k ws
/-- toggles at t - 1, t - 2, .., t - k -/
def downL (xs : List Int) (t k : Nat) (ws : List Int) : List Int := turnN (fun i a => togL xs a (t - 1 - i)) k ws
theorem upL_succ (xs : List Int) (k : Nat) (ws : List Int) : upL xs (k + 1) ws = togL xs (upL xs k ws) k := rfl
theorem downL_succ (xs : List Int) (t k : Nat) (ws : List Int) : downL xs t (k + 1) ws = togL xs (downL xs t k ws) (t - 1 - k) := rfl
theorem Lw.up {n : Nat} {xs : List Int} {k : Nat} (hk : k + 1 ≤ n) {ws : List Int} (h : Lw n ws) : Lw n (upL xs k ws) := h.turn fun i hi a ha => ha.tog (by omega)
theorem Lw.down {n : Nat} {xs : List Int} {t k : Nat} (ht : t + 1 ≤ n) (hk : k ≤ t) {ws : List Int} (h : Lw n ws) : Lw n (downL xs t k ws) := h.turn fun i hi a ha => ha.tog (by omega)
/-- one promotion, and one backwards -/
def pro1 (xs ws : List Int) : List Int := upL xs (xs.length - 1) ws
def orp1 (xs ws : List Int) : List Int := downL xs (xs.length - 1) (xs.length - 1) ws
def proL (xs : List Int) (t : Int) (ws : List Int) : List Int := if t < 0 then turnN (fun _ => orp1 xs) (-t).toNat ws else turnN (fun _ => pro1 xs) t.toNat ws
theorem proL_neg {xs : List Int} {t : Int} (h : t < 0) (ws : List Int) : proL xs t ws = turnN (fun _ => orp1 xs) (-t).toNat ws := if_pos h
theorem proL_nat (xs : List Int) (t : Nat) (ws : List Int) : proL xs t ws = turnN (fun _ => pro1 xs) t ws := by unfold proL; rw [if_neg (by omega)]; rfl
theorem proL_one (xs ws : List Int) : proL xs 1 ws = pro1 xs ws := proL_nat xs 1 ws
def evaL (xs ws : List Int) : List Int := turnN (fun k => upL xs (xs.length - 1 - k)) (xs.length - 1) ws
def coeL (xs ws : List Int) : List Int := turnN (fun k => downL xs (xs.length - 1) (xs.length - 1 - k)) (xs.length - 1) ws
theorem Lw.pro1 {xs : List Int} (h1 : 1 ≤ xs.length) {ws : List Int} (h : Lw xs.length ws) : Lw xs.length (pro1 xs ws) := h.up (by omega)
theorem Lw.orp1 {xs : List Int} (h1 : 1 ≤ xs.length) {ws : List Int} (h : Lw xs.length ws) : Lw xs.length (orp1 xs ws) := h.down (by omega) (Nat.le_refl _)
theorem Lw.pro {xs : List Int} (h1 : 1 ≤ xs.length) {ws : List Int} (t : Int) (h : Lw xs.length ws) : Lw xs.length (proL xs t ws) := by
  unfold proL
  split
  · exact h.turn fun _ _ a ha => ha.orp1 h1
  · exact h.turn fun _ _ a ha => ha.pro1 h1
theorem Lw.eva {xs : List Int} (h1 : 1 ≤ xs.length) {ws : List Int} (h : Lw xs.length ws) : Lw xs.length (evaL xs ws) := h.turn fun k hk a ha => ha.up (by omega)
theorem Lw.coe {xs : List Int} (h1 : 1 ≤ xs.length) {ws : List Int} (h : Lw xs.length ws) : Lw xs.length (coeL xs ws) := h.turn fun k hk a ha => ha.down (by omega) (by omega)
theorem orderB_Lw {xs ys : List Int} (h : orderB xs ys = true) : Lw xs.length ys := ⟨(orderB_word h).1, (orderB_word h).2⟩

/-- a list that is one of a poset's linear extensions -/
def okLin (xs ws : List Int) : Bool := okOrder xs ws
theorem okLin_all {xs ws : List Int} (h : okLin xs ws = true) : good xs = true ∧ orderB xs ws = true := by
  simpa [okLin, okOrder] using h
theorem okLin_Lw {xs ws : List Int} (h : okLin xs ws = true) : Lw xs.length ws := orderB_Lw (okLin_all h).2
end Go.Proofs.YtdemikjaghegnaaGreat

/- Counts of what can follow a set in a linear extension; ranks. No program is named here. -/
namespace Go.Proofs.YtdemikjaghegnaaGreat
set_option linter.unusedVariables false

theorem or_gt {s e : Nat} (h : s.testBit e = false) : s < s ||| 2 ^ e := by
  have h1 : s ≤ s ||| 2 ^ e := Nat.left_le_or
  rcases Nat.lt_or_ge s (s ||| 2 ^ e) with h2 | h2
  · exact h2
  · have h3 : s ||| 2 ^ e = s := by omega
    have h4 : (s ||| 2 ^ e).testBit e = true := by rw [Nat.testBit_or, Nat.testBit_two_pow_self]; simp
    rw [h3, h] at h4; cases h4
theorem stepP_bit {xs : List Int} {s e : Nat} (h : stepP xs s e = true) : s.testBit e = false := by
  simp only [stepP, Bool.and_eq_true, Bool.not_eq_true'] at h; exact h.1
/-- in how many ways the elements outside of s can follow -/
def ends (xs : List Int) (s : Nat) : Nat :=
  if 2 ^ xs.length - 1 ≤ s then 1 else sumN (fun e => if h : stepP xs s e = true then ends xs (s ||| 2 ^ e) else 0) xs.length
termination_by 2 ^ xs.length - s
decreasing_by have := or_gt (stepP_bit h); omega
def nterm (xs : List Int) (s e : Nat) : Nat := if stepP xs s e = true then ends xs (s ||| 2 ^ e) else 0
theorem ends_top {xs : List Int} {s : Nat} (h : 2 ^ xs.length - 1 ≤ s) : ends xs s = 1 := by rw [ends, if_pos h]
theorem ends_low {xs : List Int} {s : Nat} (h : s < 2 ^ xs.length - 1) : ends xs s = sumN (nterm xs s) xs.length := by
  rw [ends, if_neg (by omega)]; rfl
theorem nterm_no {xs : List Int} {s e : Nat} (h : stepP xs s e = false) : nterm xs s e = 0 := by simp [nterm, h]
theorem nterm_yes {xs : List Int} {s e : Nat} (h : stepP xs s e = true) : nterm xs s e = ends xs (s ||| 2 ^ e) := by simp [nterm, h]
theorem cntB_or {s e n : Nat} (he : e < n) (h : s.testBit e = false) : cntB (s ||| 2 ^ e) n = cntB s n + 1 := by
  have h1 : (s ||| 2 ^ e).testBit e = true := by rw [Nat.testBit_or, Nat.testBit_two_pow_self]; simp
  have h2 := cntB_xor he h1
  have h3 : (s ||| 2 ^ e) ^^^ 2 ^ e = s := by
    rw [or_eq_xor h, Nat.xor_assoc, Nat.xor_self, Nat.xor_zero]
  rw [h3] at h2
  omega
theorem sumN_mono (f : Nat → Nat) {i j : Nat} (h : i ≤ j) : sumN f i ≤ sumN f j := by
  induction j with
  | zero => have : i = 0 := by omega
            subst this; exact Nat.le_refl _
  | succ j ih =>
    by_cases e : i = j + 1
    · subst e; exact Nat.le_refl _
    · simp only [sumN]; have := ih (by omega); omega
theorem ends_pow {xs : List Int} (hl : xs.length ≤ 10) (d : Nat) : ∀ s, 2 ^ xs.length - s ≤ d → ends xs s ≤ 10 ^ (xs.length - cntB s xs.length) := by
  induction d with
  | zero =>
    intro s hd
    rw [ends_top (by omega)]
    exact Nat.one_le_pow _ _ (by decide)
  | succ d ih =>
    intro s hd
    by_cases h : 2 ^ xs.length - 1 ≤ s
    · rw [ends_top h]; exact Nat.one_le_pow _ _ (by decide)
    · rw [ends_low (by omega)]
      by_cases hc : ∃ e, e < xs.length ∧ stepP xs s e = true
      · obtain ⟨e0, he0, hs0⟩ := hc
        have hlt : cntB s xs.length < xs.length := by
          have h1 := cntB_or he0 (stepP_bit hs0)
          have h2 := cntB_le (s ||| 2 ^ e0) xs.length
          omega
        refine Nat.le_trans (sumN_const (c := 10 ^ (xs.length - cntB s xs.length - 1)) ?_) ?_
        · intro e he
          cases hs : stepP xs s e
          · rw [nterm_no hs]; exact Nat.zero_le _
          · rw [nterm_yes hs]
            have h1 := ih (s ||| 2 ^ e) (by have := or_gt (stepP_bit hs); omega)
            rw [cntB_or he (stepP_bit hs)] at h1
            have h2 : xs.length - (cntB s xs.length + 1) = xs.length - cntB s xs.length - 1 := by omega
            rw [h2] at h1
            exact h1
        · have h4 : 10 ^ (xs.length - cntB s xs.length) = 10 ^ (xs.length - cntB s xs.length - 1) * 10 := by rw [← Nat.pow_succ]; congr 1; omega
          rw [h4, Nat.mul_comm]
          exact Nat.mul_le_mul_left _ hl
      · rw [sumN_zero]
        · exact Nat.zero_le _
        · intro e he
          refine nterm_no ?_
          cases hs : stepP xs s e
          · rfl
          · exact absurd ⟨e, he, hs⟩ hc
theorem ends_le {xs : List Int} (hl : xs.length ≤ 10) (s : Nat) : ends xs s ≤ 10000000000 := by
  have h1 := ends_pow hl _ s (Nat.le_refl _)
  have h2 : 10 ^ (xs.length - cntB s xs.length) ≤ 10 ^ 10 := Nat.pow_le_pow_right (by decide) (by omega)
  omega
theorem nterm_le {xs : List Int} (hl : xs.length ≤ 10) (s e : Nat) : nterm xs s e ≤ 10000000000 := by
  unfold nterm; split
  · exact ends_le hl _
  · omega
theorem sumN_nterm_le {xs : List Int} (hl : xs.length ≤ 10) (s : Nat) {k : Nat} (hk : k ≤ xs.length) : sumN (nterm xs s) k ≤ 100000000000 := by
  have h := sumN_const (f := nterm xs s) (k := k) (c := 10000000000) fun e _ => nterm_le hl s e
  have : k * 10000000000 ≤ 10 * 10000000000 := Nat.mul_le_mul_right _ (by omega)
  omega

/-! ### the table while it is filled from above -/
def endG (xs : List Int) (S t : Nat) : Nat := if t < 2 ^ xs.length ∧ S ≤ t then ends xs t else 0
def endP (xs : List Int) (s k t : Nat) : Nat := if t < 2 ^ xs.length ∧ s < t then ends xs t else if t = s then sumN (nterm xs s) k else 0
theorem endP_zero (xs : List Int) (s t : Nat) : endP xs s 0 t = endG xs (s + 1) t := by
  unfold endP endG
  by_cases h : t < 2 ^ xs.length ∧ s < t
  · rw [if_pos h, if_pos (show t < 2 ^ xs.length ∧ s + 1 ≤ t from ⟨h.1, h.2⟩)]
  · rw [if_neg h, if_neg (show ¬(t < 2 ^ xs.length ∧ s + 1 ≤ t) from fun k => h ⟨k.1, k.2⟩)]
    split <;> rfl
theorem endP_full {xs : List Int} {s : Nat} (hs : s < 2 ^ xs.length - 1) (t : Nat) : endP xs s xs.length t = endG xs s t := by
  unfold endP endG
  by_cases h : t < 2 ^ xs.length ∧ s < t
  · rw [if_pos h, if_pos (show t < 2 ^ xs.length ∧ s ≤ t from ⟨h.1, by omega⟩)]
  · rw [if_neg h]
    by_cases e : t = s
    · subst e; rw [if_pos rfl, if_pos (show t < 2 ^ xs.length ∧ t ≤ t from ⟨by omega, Nat.le_refl _⟩), ends_low hs]
    · rw [if_neg e, if_neg (show ¬(t < 2 ^ xs.length ∧ s ≤ t) from fun k => h ⟨k.1, by omega⟩)]
theorem endG_top {xs : List Int} (t : Nat) : endG xs (2 ^ xs.length - 1) t = if t = 2 ^ xs.length - 1 then 1 else 0 := by
  have h1 : 1 ≤ 2 ^ xs.length := Nat.one_le_two_pow
  unfold endG
  by_cases e : t = 2 ^ xs.length - 1
  · rw [if_pos (show t < 2 ^ xs.length ∧ 2 ^ xs.length - 1 ≤ t by omega), if_pos e, ends_top (by omega)]
  · rw [if_neg (show ¬(t < 2 ^ xs.length ∧ 2 ^ xs.length - 1 ≤ t) by omega), if_neg e]
theorem endP_self (xs : List Int) (s k : Nat) : endP xs s k s = sumN (nterm xs s) k := by
  unfold endP; rw [if_neg (by omega), if_pos rfl]
theorem endP_succ (xs : List Int) (s k t : Nat) : endP xs s (k + 1) t = if t = s then endP xs s k s + nterm xs s k else endP xs s k t := by
  by_cases e : t = s
  · subst e; rw [if_pos rfl, endP_self, endP_self]; rfl
  · rw [if_neg e]; unfold endP; rw [if_neg e, if_neg e]
theorem endP_above {xs : List Int} {s k t : Nat} (h1 : t < 2 ^ xs.length) (h2 : s < t) : endP xs s k t = ends xs t := by
  unfold endP; rw [if_pos ⟨h1, h2⟩]
theorem endG_at {xs : List Int} {t : Nat} (h1 : t < 2 ^ xs.length) : endG xs 0 t = ends xs t := by
  unfold endG; rw [if_pos ⟨h1, Nat.zero_le _⟩]

/-! ### the element that a rank picks -/
def pick (f : Nat → Nat) (r : Nat) : Nat → Nat
  | 0 => 0
  | k + 1 => if sumN f k ≤ r then k else pick f r k
theorem pick_eq {f : Nat → Nat} {r e : Nat} (h1 : sumN f e ≤ r) (h2 : r < sumN f (e + 1)) (n : Nat) (he : e < n) : pick f r n = e := by
  induction n with
  | zero => omega
  | succ n ih =>
    unfold pick
    by_cases h : e = n
    · subst h; rw [if_pos h1]
    · rw [if_neg (by have := sumN_mono f (show e + 1 ≤ n by omega); omega)]
      exact ih (by omega)
theorem pick_spec {f : Nat → Nat} {r : Nat} (n : Nat) (h : r < sumN f n) : pick f r n < n ∧ sumN f (pick f r n) ≤ r ∧ r < sumN f (pick f r n + 1) := by
  induction n with
  | zero => simp [sumN] at h
  | succ n ih =>
    unfold pick
    by_cases h1 : sumN f n ≤ r
    · rw [if_pos h1]; exact ⟨by omega, h1, h⟩
    · rw [if_neg h1]
      obtain ⟨a, b, c⟩ := ih (by omega)
      exact ⟨by omega, b, c⟩
/-- the set and what is left of the rank, behind i elements -/
def unS (xs : List Int) (r : Nat) : Nat → Nat × Nat
  | 0 => (0, r)
  | i + 1 =>
    ((unS xs r i).1 ||| 2 ^ pick (nterm xs (unS xs r i).1) (unS xs r i).2 xs.length,
     (unS xs r i).2 - sumN (nterm xs (unS xs r i).1) (pick (nterm xs (unS xs r i).1) (unS xs r i).2 xs.length))
def unE (xs : List Int) (r i : Nat) : Nat := pick (nterm xs (unS xs r i).1) (unS xs r i).2 xs.length
theorem unS_succ (xs : List Int) (r i : Nat) : unS xs r (i + 1) = ((unS xs r i).1 ||| 2 ^ unE xs r i, (unS xs r i).2 - sumN (nterm xs (unS xs r i).1) (unE xs r i)) := rfl
def unrL (xs : List Int) (r : Nat) : List Int := mkL xs.length (unE xs r)
theorem cntB_full {s n : Nat} (h : 2 ^ n - 1 = s) : cntB s n = n := by
  subst h
  unfold cntB
  have : ∀ k, k ≤ n → sumN (fun e => if (2 ^ n - 1).testBit e = true then 1 else 0) k = k := by
    intro k hk
    induction k with
    | zero => rfl
    | succ k ih =>
      simp only [sumN]
      rw [ih (by omega)]
      have : (2 ^ n - 1).testBit k = true := by rw [Nat.testBit_two_pow_sub_one]; simp; omega
      rw [this]; simp
  exact this n (Nat.le_refl _)
/-- what is known of the state behind i elements -/
structure UnOk (xs : List Int) (s q i : Nat) : Prop where
  set : s < 2 ^ xs.length
  cnt : cntB s xs.length = i
  rank : q < ends xs s
theorem UnOk.low {xs : List Int} {s q i : Nat} (h : UnOk xs s q i) (hi : i < xs.length) : s < 2 ^ xs.length - 1 := by
  rcases Nat.lt_or_ge s (2 ^ xs.length - 1) with h1 | h1
  · exact h1
  · have := cntB_full (show 2 ^ xs.length - 1 = s by have := h.set; omega)
    have := h.cnt
    omega
theorem UnOk.step {xs : List Int} {s q i e : Nat} (h : UnOk xs s q i) (hi : i < xs.length) (he : e < xs.length) (h1 : sumN (nterm xs s) e ≤ q) (h2 : q < sumN (nterm xs s) (e + 1)) :
    stepP xs s e = true ∧ UnOk xs (s ||| 2 ^ e) (q - sumN (nterm xs s) e) (i + 1) := by
  simp only [sumN] at h2
  have hp : stepP xs s e = true := by
    cases hs : stepP xs s e
    · rw [nterm_no hs] at h2; omega
    · rfl
  rw [nterm_yes hp] at h2
  exact ⟨hp, Nat.or_lt_two_pow h.set (pow_lt_len he), by rw [cntB_or he (stepP_bit hp), h.cnt], by omega⟩
theorem UnOk.pick {xs : List Int} {s q i : Nat} (h : UnOk xs s q i) (hi : i < xs.length) : pick (nterm xs s) q xs.length < xs.length ∧ sumN (nterm xs s) (pick (nterm xs s) q xs.length) ≤ q ∧ q < sumN (nterm xs s) (pick (nterm xs s) q xs.length + 1) := by
  refine pick_spec _ ?_
  rw [← ends_low (h.low hi)]
  exact h.rank
theorem cntB_zero (n : Nat) : cntB 0 n = 0 := sumN_zero fun e _ => by simp
theorem unS_ok {xs : List Int} {r : Nat} (hr : r < ends xs 0) (i : Nat) (hi : i ≤ xs.length) : UnOk xs (unS xs r i).1 (unS xs r i).2 i := by
  induction i with
  | zero => exact ⟨Nat.two_pow_pos _, cntB_zero _, hr⟩
  | succ i ih =>
    have h := ih (by omega)
    obtain ⟨a, b, c⟩ := h.pick (by omega)
    rw [unS_succ]
    exact (h.step (by omega) a b c).2
theorem unE_lt {xs : List Int} {r : Nat} (hr : r < ends xs 0) {i : Nat} (hi : i < xs.length) : unE xs r i < xs.length := ((unS_ok hr i (by omega)).pick hi).1

/-! ### the rank of a list -/
def rkS (xs ws : List Int) : Nat → Nat × Nat
  | 0 => (0, 0)
  | i + 1 => ((rkS xs ws i).1 + sumN (nterm xs (rkS xs ws i).2) (ws.getD i 0).toNat, (rkS xs ws i).2 ||| 2 ^ (ws.getD i 0).toNat)
def rankN (xs ws : List Int) : Nat := (rkS xs ws ws.length).1
theorem rkS_le {xs ws : List Int} (hl : xs.length ≤ 10) (h : Lw xs.length ws) (i : Nat) (hi : i ≤ ws.length) : (rkS xs ws i).1 ≤ 100000000000 * i ∧ (rkS xs ws i).2 < 2 ^ xs.length := by
  induction i with
  | zero => exact ⟨Nat.zero_le _, Nat.two_pow_pos _⟩
  | succ i ih =>
    obtain ⟨h1, h2⟩ := ih (by omega)
    have h3 := h.at (j := i) (by rw [← h.len]; omega)
    have h4 : (ws.getD i 0).toNat < xs.length := by omega
    have h5 := sumN_nterm_le hl (rkS xs ws i).2 (Nat.le_of_lt h4)
    simp only [rkS]
    exact ⟨by omega, Nat.or_lt_two_pow h2 (pow_lt_len h4)⟩
end Go.Proofs.YtdemikjaghegnaaGreat

/- What a linear extension is. No program is named here. -/
namespace Go.Proofs.YtdemikjaghegnaaGreat
set_option linter.unusedVariables false

def wN (ws : List Int) (k : Nat) : Nat := (ws.getD k 0).toNat
def stL (ws : List Int) : Nat → Nat
  | 0 => 0
  | k + 1 => stL ws k ||| 2 ^ wN ws k
structure LinX (xs ws : List Int) : Prop where
  len : ws.length = xs.length
  rng : ∀ k, k < xs.length → ws.getD k 0 = (wN ws k : Int) ∧ wN ws k < xs.length
  stp : ∀ k, k < xs.length → stepP xs (stL ws k) (wN ws k) = true
theorem ordP_split {xs : List Int} {m : Nat} {y : Int} (h : ordP xs m y = true) : (0 ≤ y ∧ y < xs.length) ∧ stepP xs m y.toNat = true := by
  simp only [ordP, Bool.and_eq_true, decide_eq_true_eq] at h
  exact ⟨h.1, by simp only [stepP, Bool.and_eq_true]; exact h.2⟩
theorem ordSt_stL {xs ws : List Int} (k : Nat) : ∀ m, ordSt xs ws k = some m → m = stL ws k ∧ ∀ j, j < k → ordP xs (stL ws j) (ws.getD j 0) = true := by
  induction k with
  | zero => intro m h; simp only [ordSt, Option.some.injEq] at h; exact ⟨h.symm, fun j hj => by omega⟩
  | succ k ih =>
    intro m h
    cases hq : ordSt xs ws k with
    | none => simp only [ordSt, hq] at h; cases h
    | some q =>
      obtain ⟨h1, h2⟩ := ih q hq
      cases hp : ordP xs q (ws.getD k 0)
      · rw [ordSt_no hq hp (k + 1) (by omega)] at h; cases h
      · rw [ordSt_yes hq hp] at h
        simp only [Option.some.injEq] at h
        subst h1
        refine ⟨h.symm, fun j hj => ?_⟩
        by_cases e : j = k
        · subst e; exact hp
        · exact h2 j (by omega)
theorem orderB_LinX {xs ws : List Int} (h : orderB xs ws = true) : LinX xs ws := by
  simp only [orderB, Bool.and_eq_true, decide_eq_true_eq] at h
  obtain ⟨hl, h2⟩ := h
  obtain ⟨m, hm⟩ := Option.isSome_iff_exists.1 h2
  obtain ⟨-, h3⟩ := ordSt_stL _ m hm
  have h4 : ∀ k, k < xs.length → ((0 ≤ ws.getD k 0 ∧ ws.getD k 0 < xs.length) ∧ stepP xs (stL ws k) (ws.getD k 0).toNat = true) := fun k hk => ordP_split (h3 k (by omega))
  exact ⟨hl, fun k hk => by obtain ⟨⟨a, b⟩, c⟩ := h4 k hk; unfold wN; omega, fun k hk => (h4 k hk).2⟩
theorem LinX.st {xs ws : List Int} (h : LinX xs ws) (k : Nat) (hk : k ≤ xs.length) : ordSt xs ws k = some (stL ws k) := by
  induction k with
  | zero => rfl
  | succ k ih =>
    have h1 := h.rng k (by omega)
    have h2 := h.stp k (by omega)
    rw [ordSt_yes (ih (by omega)) ?_]
    · rfl
    · simp only [stepP, Bool.and_eq_true] at h2
      simp only [ordP, Bool.and_eq_true, decide_eq_true_eq]
      exact ⟨by omega, h2⟩
theorem LinX.order {xs ws : List Int} (h : LinX xs ws) : orderB xs ws = true := orderB_yes h.len (h.st ws.length (by rw [h.len]; exact Nat.le_refl _))
theorem stL_bit (ws : List Int) (k e : Nat) : (stL ws k).testBit e = true ↔ ∃ j, j < k ∧ wN ws j = e := by
  induction k with
  | zero => simp [stL]
  | succ k ih =>
    rw [stL, Nat.testBit_or, Bool.or_eq_true, ih, Nat.testBit_two_pow]
    constructor
    · rintro (⟨j, h1, h2⟩ | h)
      · exact ⟨j, by omega, h2⟩
      · exact ⟨k, by omega, by simpa using h⟩
    · rintro ⟨j, h1, h2⟩
      by_cases e : j = k
      · subst e; exact .inr (by simpa using h2)
      · exact .inl ⟨j, by omega, h2⟩
theorem LinX.lt {xs ws : List Int} (h : LinX xs ws) (k : Nat) (hk : k ≤ xs.length) : stL ws k < 2 ^ xs.length := by
  induction k with
  | zero => exact Nat.two_pow_pos _
  | succ k ih => exact Nat.or_lt_two_pow (ih (by omega)) (pow_lt_len (h.rng k (by omega)).2)
theorem LinX.cnt {xs ws : List Int} (h : LinX xs ws) (k : Nat) (hk : k ≤ xs.length) : cntB (stL ws k) xs.length = k := by
  induction k with
  | zero => exact cntB_zero _
  | succ k ih => rw [stL, cntB_or (h.rng k (by omega)).2 (stepP_bit (h.stp k (by omega))), ih (by omega)]
theorem cntB_all {s n : Nat} (h : s < 2 ^ n) (c : cntB s n = n) : s = 2 ^ n - 1 := by
  apply Nat.eq_of_testBit_eq
  intro i
  rw [Nat.testBit_two_pow_sub_one]
  by_cases hi : i < n
  · cases hb : s.testBit i
    · have h1 := cntB_or hi hb
      have h2 := cntB_le (s ||| 2 ^ i) n
      omega
    · simp [hi]
  · cases hb : s.testBit i
    · simp; omega
    · exact absurd (testBit_lt h hb) hi
theorem LinX.full {xs ws : List Int} (h : LinX xs ws) : stL ws xs.length = 2 ^ xs.length - 1 := cntB_all (h.lt _ (Nat.le_refl _)) (h.cnt _ (Nat.le_refl _))
theorem LinX.surj {xs ws : List Int} (h : LinX xs ws) {e : Nat} (he : e < xs.length) : ∃ j, j < xs.length ∧ wN ws j = e := by
  rw [← stL_bit, h.full, Nat.testBit_two_pow_sub_one]
  simpa using he
theorem LinX.ne {xs ws : List Int} (h : LinX xs ws) {j k : Nat} (hjk : j < k) (hk : k < xs.length) : wN ws j ≠ wN ws k := by
  intro e
  have h1 := stepP_bit (h.stp k hk)
  have h2 := (stL_bit ws k (wN ws k)).2 ⟨j, hjk, e⟩
  rw [h1] at h2; cases h2
theorem stepP_sub {xs : List Int} {s e : Nat} (h : stepP xs s e = true) {j : Nat} (hj : (row xs e).testBit j = true) : s.testBit j = true := by
  simp only [stepP, Bool.and_eq_true, beq_iff_eq] at h
  exact (sub_eq_zero _ _).1 h.2 j hj
theorem LinX.before {xs ws : List Int} (h : LinX xs ws) {k j : Nat} (hk : k < xs.length) (hj : (row xs (wN ws k)).testBit j = true) : ∃ i, i < k ∧ wN ws i = j :=
  (stL_bit ws k j).1 (stepP_sub (h.stp k hk) hj)
theorem LinX.ext {xs ws vs : List Int} (h : LinX xs ws) (k : LinX xs vs) (e : ∀ j, j < xs.length → wN ws j = wN vs j) : ws = vs := by
  refine List.ext_getElem (by rw [h.len, k.len]) fun j h1 h2 => ?_
  have hj : j < xs.length := by rw [← h.len]; exact h1
  have a := (h.rng j hj).1
  have b := (k.rng j hj).1
  rw [e j hj, ← b] at a
  simpa [List.getD, h1, h2] using a
end Go.Proofs.YtdemikjaghegnaaGreat
