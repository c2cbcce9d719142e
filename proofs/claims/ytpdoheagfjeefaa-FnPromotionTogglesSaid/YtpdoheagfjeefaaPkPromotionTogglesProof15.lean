/- Texts Dual, Tr, DuaM, EvL, one behind the other. -/
import Derived.Test.YtpdoheagfjeefaaPkPromotionTogglesProof02
import Derived.Test.YtpdoheagfjeefaaPkPromotionTogglesProof08
import Derived.Test.YtpdoheagfjeefaaPkPromotionTogglesProof11
import Derived.Test.YtpdoheagfjeefaaPkPromotionTogglesProof12
import Derived.Test.YtpdoheagfjeefaaPkPromotionTogglesProof13
import Derived.Test.YtpdoheagfjeefaaPkPromotionTogglesProof14
/- DualOf. -/
namespace Go.Proofs.Ytpdoheagfjeefaa
open Go.RowKit Go.WideShapes Go.ChangeShapes
set_option linter.unusedVariables false

def dualF (xs : List Int) (j i : Nat) : Bool := (xs.getD (xs.length - 1 - j) 0).toNat.testBit (xs.length - 1 - i)
def dstep (xs : List Int) (n i : Nat) (g : Nat → Nat) (j : Nat) (r : Nat) : Nat := if (xs.getD i 0).toNat.testBit j then (if r = n - 1 - j then g (n - 1 - j) ||| 2 ^ (n - 1 - i) else g r) else g r
def din (xs : List Int) (n i : Nat) (g : Nat → Nat) : Nat → Nat → Nat
  | 0 => g
  | j + 1 => dstep xs n i (din xs n i g j) j
def dout (xs : List Int) (n : Nat) : Nat → Nat → Nat
  | 0 => fun _ => 0
  | i + 1 => din xs n i (dout xs n i) i
theorem din_lt {xs : List Int} {n i : Nat} {g : Nat → Nat} (hn : n ≤ 10) (hg : ∀ r, g r < 1024) (t : Nat) : ∀ r, din xs n i g t r < 1024 := by
  induction t with
  | zero => exact hg
  | succ t ih =>
    intro r
    unfold din dstep
    split
    · split
      · exact Nat.or_lt_two_pow (n := 10) (ih _) (Nat.pow_lt_pow_right (by decide) (by omega))
      · exact ih r
    · exact ih r
theorem dout_lt {xs : List Int} {n : Nat} (hn : n ≤ 10) (k : Nat) : ∀ r, dout xs n k r < 1024 := by
  induction k with
  | zero => intro r; simp [dout]
  | succ k ih => exact din_lt hn ih k
theorem din_testBit {xs : List Int} {n i : Nat} {g : Nat → Nat} (t : Nat) (ht : t ≤ n) (r s : Nat) (hr : r < n) :
    (din xs n i g t r).testBit s = true ↔ (g r).testBit s = true ∨ (n - 1 - r < t ∧ (xs.getD i 0).toNat.testBit (n - 1 - r) = true ∧ s = n - 1 - i) := by
  induction t with
  | zero => simp [din]
  | succ t ih =>
    have ih := ih (by omega)
    unfold din dstep
    by_cases hb : (xs.getD i 0).toNat.testBit t = true
    · rw [if_pos hb]
      by_cases e : r = n - 1 - t
      · rw [if_pos e, ← e, Nat.testBit_or, Bool.or_eq_true, ih]
        have e2 : n - 1 - r = t := by omega
        rw [e2]
        constructor
        · rintro ((h | h) | h)
          · exact .inl h
          · exact .inr ⟨by omega, h.2.1, h.2.2⟩
          · rw [Nat.testBit_two_pow] at h
            exact .inr ⟨by omega, hb, by simpa using (of_decide_eq_true h).symm⟩
        · rintro (h | ⟨-, -, h⟩)
          · exact .inl (.inl h)
          · exact .inr (by rw [h]; exact Nat.testBit_two_pow_self)
      · rw [if_neg e, ih]
        constructor
        · rintro (h | ⟨h1, h2⟩)
          · exact .inl h
          · exact .inr ⟨by omega, h2⟩
        · rintro (h | ⟨h1, h2⟩)
          · exact .inl h
          · exact .inr ⟨by omega, h2⟩
    · rw [if_neg hb, ih]
      constructor
      · rintro (h | ⟨h1, h2⟩)
        · exact .inl h
        · exact .inr ⟨by omega, h2⟩
      · rintro (h | ⟨h1, h2, h3⟩)
        · exact .inl h
        · by_cases e : n - 1 - r = t
          · rw [e] at h2; exact absurd h2 hb
          · exact .inr ⟨by omega, h2, h3⟩
theorem dout_testBit {xs : List Int} {n : Nat} (k : Nat) (hk : k ≤ n) (r s : Nat) (hr : r < n) :
    (dout xs n k r).testBit s = true ↔ ∃ i, i < k ∧ n - 1 - r < i ∧ (xs.getD i 0).toNat.testBit (n - 1 - r) = true ∧ s = n - 1 - i := by
  induction k with
  | zero => simp [dout]
  | succ k ih =>
    unfold dout
    rw [din_testBit k (by omega) r s hr, ih (by omega)]
    constructor
    · rintro (⟨i, h1, h2⟩ | h)
      · exact ⟨i, by omega, h2⟩
      · exact ⟨k, by omega, h⟩
    · rintro ⟨i, h1, h2⟩
      by_cases e : i = k
      · subst e; exact .inr h2
      · exact .inl ⟨i, by omega, h2⟩
theorem dout_full (xs : List Int) : mkL xs.length (dout xs xs.length xs.length) = whereL (dualF xs) xs.length := by
  unfold whereL
  refine mkL_congr fun r hr => Nat.eq_of_testBit_eq fun s => ?_
  rw [Bool.eq_iff_iff, dout_testBit _ (Nat.le_refl _) r s hr, rowN_testBit, Bool.and_eq_true, decide_eq_true_eq]
  unfold dualF
  constructor
  · rintro ⟨i, h1, h2, h3, rfl⟩
    refine ⟨by omega, ?_⟩
    rw [show xs.length - 1 - (xs.length - 1 - i) = i by omega]
    exact h3
  · rintro ⟨h1, h2⟩
    exact ⟨xs.length - 1 - s, by omega, by omega, h2, by omega⟩

def dualL (xs : List Int) : List Int := if good xs then whereL (dualF xs) xs.length else []
theorem dualL_yes {xs : List Int} (h : good xs = true) : dualL xs = whereL (dualF xs) xs.length := if_pos h
theorem dualL_no {xs : List Int} (h : good xs = false) : dualL xs = [] := by simp [dualL, h]
theorem dualL_length (xs : List Int) : (dualL xs).length ≤ 1048576 := by
  unfold dualL
  split
  · rename_i h
    unfold whereL
    rw [mkL_length]
    have := (good_length h).2
    omega
  · simp

theorem dualClosure_any (v : Value) (xs : List Int) (a1 a2 j i : Nat) (w : World) (hv : Ints w v xs) (hg : good xs = true) (h1 : At w a1 v) (h2 : At w a2 (.int .i64 ((xs.length - 1 : Nat) : Int))) (hj : j < i) (hi : i < xs.length) :
    Calls Try.prog 93 #[.int .i64 j, .int .i64 i, .pointer (some ⟨a1, 0, none⟩), .pointer (some ⟨a2, 0, none⟩)] w fun r w' => r = .returned (.bool (dualF xs j i)) ∧ Below w.heap.size w w' := by
  have hl10 := (good_length hg).2
  have hok := okAt_small (good_at hg (show xs.length - 1 - j < xs.length by omega)) (by omega)
  obtain ⟨A, c, rfl, hA⟩ := hv
  obtain ⟨b, o, rfl, hbl, hc⟩ := hA (by intro h; simp [h] at hi)
  have hcell := hc (xs.length - 1 - j) (by omega)
  obtain ⟨x, hx⟩ : ∃ x, xs.getD (xs.length - 1 - j) 0 = x := ⟨_, rfl⟩
  rw [hx] at hcell hok
  obtain ⟨z, rfl⟩ := Int.eq_ofNat_of_zero_le hok.1
  obtain ⟨R, hR⟩ : ∃ R, dualF xs j i = R := ⟨_, rfl⟩
  have HR : Hid (z.testBit (xs.length - 1 - i) = R) := by unfold dualF at hR; rw [hx, Int.toNat_natCast] at hR; exact hR
  rw [hR]
  obtain ⟨h1, -⟩ := h1
  obtain ⟨h2, -⟩ := h2
  obtain ⟨p, hp⟩ : ∃ p, xs.length - 1 - j = p := ⟨_, rfl⟩
  obtain ⟨q, hq⟩ : ∃ q, xs.length - 1 - i = q := ⟨_, rfl⟩
  rw [hp] at hcell
  rw [hq] at HR
  have e1 : IntKind.i64.wrap (((xs.length - 1 : Nat) : Int) - (j : Int)) = (p : Int) := by rw [IntWalk.i64_in _ (by omega)]; omega
  have e2 : IntKind.i64.wrap (((xs.length - 1 : Nat) : Int) - (i : Int)) = (q : Int) := by rw [IntWalk.i64_in _ (by omega)]; omega
  have hp3 : (p : Int) < xs.length := by omega
  have hp4 : p < xs.length := by omega
  have hq3 : q < 64 := by omega
  have hz3 : z < 1024 := by omega
  clear hc hA hx hR hp hq hg hok hj hi
  go_enter Try.func93, Try.ntmps93
  go_wp2
  go_quiet ((go_at_call 94; exact Calls.quiet_of_same ((hasElement_any z q (by omega) hq3 _).mono fun _ _ ⟨a, b⟩ => ⟨a, b.symm⟩)))
  go_wp2
  go_ret
  exact ⟨ret_bool HR.out, below_drewN (Below.refl _ _) _⟩

/-- what holds in poDual's loops: the new row, the variable that holds it, the result's cell -/
structure DualW (ti tp : TypeId) (n : Nat) (w : World) (g : Nat → Nat) (wr : World) : Prop where
  row : Blk wr (w.heap.size + 1 + 1) ti (Vals (mkL n g))
  out : Blk wr (w.heap.size + 1 + 1 + 1) tp #[.slice (some ⟨w.heap.size + 1 + 1, 0, none⟩) n n]
  res : Blk wr (w.heap.size + 1) tp #[.slice none 0 0]
  below : Below w.heap.size w wr
theorem DualW.start (ti tp : TypeId) (n : Nat) (w : World) (u : Value) (g : Nat → Nat) :
    DualW ti tp n w g ((((w.alloc (.cells #[u] tp)).alloc (.cells #[.slice none 0 0] tp)).alloc (.cells (Vals (mkL n g)) ti)).alloc (.cells #[.slice (some ⟨w.heap.size + 1 + 1, 0, none⟩) n n] tp)) :=
  ⟨(Blk.newAt _ _ _ _ (by simp)).alloc _, Blk.newAt _ _ _ _ (by simp), ((Blk.newAt _ _ _ _ (by simp)).alloc _).alloc _, (((((Below.refl _ _).alloc (Nat.le_refl _) _).alloc (by simp) _).alloc (by simp; omega) _).alloc (by simp; omega) _)⟩
theorem DualW.step {ti tp : TypeId} {n : Nat} {w wr : World} {g g' : Nat → Nat} {q : Nat} {y : Int} (h : DualW ti tp n w g wr) (e : mkL n g' = (mkL n g).set q y) :
    DualW ti tp n w g' ((wr.setCell ⟨w.heap.size + 1 + 1, q, none⟩ (.int .i64 y)).drew) := by
  refine ⟨?_, ?_, ?_, ?_⟩
  · rw [e, ← Vals_set]; exact h.row.set_ q _
  · exact h.out.far (p := ⟨w.heap.size + 1 + 1, q, none⟩) (by show w.heap.size + 1 + 1 + 1 ≠ w.heap.size + 1 + 1; omega) _
  · exact h.res.far (p := ⟨w.heap.size + 1 + 1, q, none⟩) (by show w.heap.size + 1 ≠ w.heap.size + 1 + 1; omega) _
  · exact (h.below.setCell (p := ⟨w.heap.size + 1 + 1, q, none⟩) (by show w.heap.size ≤ w.heap.size + 1 + 1; omega) _).drew
theorem twoBoxes {w w1 : World} {t t' : TypeId} {a b : Array Value} (hb : Below ((w.alloc (.cells a t)).alloc (.cells b t')).heap.size ((w.alloc (.cells a t)).alloc (.cells b t')) w1) :
    Blk w1 w.heap.size t a ∧ Blk w1 (w.heap.size + 1) t' b ∧ w.heap.size + 2 ≤ w1.heap.size ∧ Below w.heap.size w w1 := by
  refine ⟨?_, ?_, ?_, ?_⟩
  · exact ((Blk.new w t a).alloc _).below hb (by simp; omega)
  · exact (Blk.newAt _ t' b (w.heap.size + 1) (by simp)).below hb (by simp)
  · have := hb.size; simp at this; omega
  · exact below_to (below_alloc (below_alloc (Below.refl _ _) _) _) hb
theorem implDualOf_any (v : Value) (xs : List Int) (w : World) (hv : Ints w v xs) (hl : xs.length ≤ 1048576) :
    Calls Try.prog 23 #[.agg #[v]] w fun (r : Ending) w' => ∃ u, r = Ending.returned (.tuple #[.agg #[u], .bool (good xs)]) ∧ OwnI 3 w' w.heap.size u (dualL xs) ∧ (dualL xs).length ≤ 1048576 ∧ Below w.heap.size w w' := by
  have HV := hid hv
  have HL := hid (dualL_length xs)
  obtain ⟨A, c, rfl, -⟩ := hv
  cases hg : good xs
  · have HG := hid hg
    have HN := hid (dualL_no hg)
    clear hg
    go_enter Try.func23, Try.ntmps23
    go_wp2_with fail
    refine (implIsPoset_any _ xs _ ((HV.out.alloc _).alloc _) hl).mono ?_
    rw [HG.out]
    rintro e w1 ⟨rfl, hb1⟩
    obtain ⟨hp, hr, hz, hB⟩ := twoBoxes hb1
    have t1 := hr.cell 0
    have t2 := hr.frozen 0
    have HB := hid hB
    clear hb1 hp hr hB
    go_wp2
    refine bodyPost_ret (v := .tuple #[.agg #[.slice none 0 0], .bool false]) (by simp [results, Try.results23, go_sem, t1]) rfl ⟨_, rfl, by rw [HN.out]; exact OwnI.nil _ _ _, HL.out, ?_⟩
    exact HB.out.setCell (p := ⟨w.heap.size + 1, 0, none⟩) (by show w.heap.size ≤ w.heap.size + 1; omega) _
  · have HG := hid hg
    have hl10 := (good_length hg).2
    have hn1 := (good_length hg).1
    have HY := hid (dualL_yes hg)
    clear hg
    go_enter Try.func23, Try.ntmps23
    go_wp2_with fail
    refine (implIsPoset_any _ xs _ ((HV.out.alloc _).alloc _) hl).mono ?_
    rw [HG.out]
    rintro e w1 ⟨rfl, hb1⟩
    obtain ⟨hp, hr, hz, hB⟩ := twoBoxes hb1
    have t0 := hp.cell 0
    have hz0 : w.heap.size < w1.heap.size := by omega
    have HP := hid hp
    have HR := hid hr
    have HB := hid hB
    have HV1 := hid (HV.out.below hB)
    clear hb1 hp hr hB
    go_wp2_with fail
    obtain ⟨W, hW⟩ : ∃ W : World, W = w1.alloc (.cells #[.int .i64 ((xs.length : Int) - 1)] 3) := ⟨_, rfl⟩
    have HA2 : Hid (At W w1.heap.size (.int .i64 ((xs.length - 1 : Nat) : Int))) := hid (by
      subst hW
      have e : ((xs.length : Int) - 1) = ((xs.length - 1 : Nat) : Int) := by omega
      rw [e]; exact At.new _ _ _)
    have HA1 : Hid (At W w.heap.size (.slice A xs.length c)) := hid (by subst hW; exact At.alloc ⟨HP.out.cell 0, HP.out.lt⟩ _)
    have HV2 : Hid (Ints W (.slice A xs.length c) xs) := hid (by subst hW; exact HV1.out.alloc _)
    have HR2 : Hid (Blk W (w.heap.size + 1) 26 #[.slice none 0 0]) := hid (by subst hW; exact HR.out.alloc _)
    have HB2 : Hid (Below w.heap.size w W) := hid (by subst hW; exact below_alloc HB.out _)
    have hzW : w.heap.size + 2 < W.heap.size := by subst hW; simp; omega
    rw [← hW]
    clear hW t0
    refine (posetWhereDual_any xs.length _ _ (dualF xs) W hl10 (fun j i W' hj hi hb => dualClosure_any _ xs w.heap.size w1.heap.size j i W' (HV2.out.below hb) HG.out (HA1.out.below hb) (HA2.out.below hb) hj hi)).mono ?_
    rintro e w2 ⟨u, rfl, ho, hb2⟩
    have hr := HR2.out.below hb2 (by omega)
    have t1 := hr.cell 0
    have t2 := hr.frozen 0
    obtain ⟨uA, un, uc, rfl⟩ := ho.shape3
    have HO := hid ho
    have HB3 := hid (below_to HB2.out hb2)
    clear hr ho hb2
    go_wp2
    refine bodyPost_ret (v := .tuple #[.agg #[.slice uA un uc], .bool true]) (by simp [results, Try.results23, go_sem, t1]) rfl ⟨_, rfl, ?_, HL.out, ?_⟩
    · rw [HY.out]
      refine (HO.out.grown (grown_setCell (World.grownBy.refl _ _) 0 _) ?_).mono (by omega)
      exact HO.out.apart (.inl (by omega))
    · exact HB3.out.setCell (p := ⟨w.heap.size + 1, 0, none⟩) (by show w.heap.size ≤ w.heap.size + 1; omega) _
end Go.Proofs.Ytpdoheagfjeefaa

/- Rowmotion by toggles from above, in any order; antichains carried. No program is named here. · Rowmotion undone; orders there are; complements as differences. No program is named here. -/
namespace Go.Proofs.Ytpdoheagfjeefaa
set_option linter.unusedVariables false

theorem rowmo_bit (xs : List Int) (s e : Nat) : (rowmo xs s).testBit e = true ↔ ∃ f, f < xs.length ∧ rowP xs s f = true ∧ (f = e ∨ (row xs f).testBit e = true) := by
  rw [rowmo, orN_testBit]
  constructor
  · rintro ⟨f, hf, hp, hb⟩
    rw [rowG, Nat.testBit_or, Bool.or_eq_true, Nat.testBit_two_pow] at hb
    exact ⟨f, hf, hp, hb.imp (fun h => by simpa using h) id⟩
  · rintro ⟨f, hf, hp, hb⟩
    refine ⟨f, hf, hp, ?_⟩
    rw [rowG, Nat.testBit_or, Bool.or_eq_true, Nat.testBit_two_pow]
    exact hb.imp (fun h => by simpa using h) id
theorem tog_step {xs : List Int} (hg : good xs = true) {s t e : Nat} (ht : holdsIdeal xs t = true) (he : e < xs.length)
    (hlow : ∀ j, (row xs e).testBit j = true → t.testBit j = s.testBit j)
    (hup : ∀ f, f < xs.length → (row xs f).testBit e = true → t.testBit f = (rowmo xs s).testBit f)
    (hte : t.testBit e = s.testBit e) (i : Nat) : (tog xs t e).testBit i = if i = e then (rowmo xs s).testBit e else t.testBit i := by
  have hx : ∀ i, (t ^^^ 2 ^ e).testBit i = if i = e then !t.testBit e else t.testBit i := xor_bit t e
  cases hse : s.testBit e
  · rw [hse] at hte
    cases hp : rowP xs s e
    · have hR : (rowmo xs s).testBit e = false := by
        rw [Bool.eq_false_iff]
        intro h
        obtain ⟨f, hf, hpf, h1 | h1⟩ := (rowmo_bit xs s e).1 h
        · subst h1; rw [hp] at hpf; cases hpf
        · have := (rowP_iff.1 hpf).2 e h1; rw [hse] at this; cases this
      have hn : holdsIdeal xs (t ^^^ 2 ^ e) = false := by
        rw [Bool.eq_false_iff]
        intro h
        have h2 := holdsIdeal_row.1 h e he (by rw [hx, if_pos rfl, hte]; rfl)
        have h4 : rowP xs s e = true := rowP_iff.2 ⟨hse, fun j hj => by
          have h3 := h2 j hj
          have hlt := row_less hg he hj
          rw [hx, if_neg (by omega)] at h3
          rw [← hlow j hj]; exact h3⟩
        rw [hp] at h4; cases h4
      rw [tog_no hn]
      by_cases h : i = e
      · subst h; rw [if_pos rfl, hte, hR]
      · rw [if_neg h]
    · have hR : (rowmo xs s).testBit e = true := (rowmo_bit xs s e).2 ⟨e, he, hp, .inl rfl⟩
      have hy : holdsIdeal xs (t ^^^ 2 ^ e) = true := by
        refine holdsIdeal_row.2 fun f hf hb j hj => ?_
        rw [hx] at hb ⊢
        by_cases hje : j = e
        · rw [if_pos hje, hte]; rfl
        · rw [if_neg hje]
          by_cases hfe : f = e
          · subst hfe; rw [hlow j hj]; exact (rowP_iff.1 hp).2 j hj
          · rw [if_neg hfe] at hb
            exact holdsIdeal_row.1 ht f hf hb j hj
      rw [tog_yes hy, hx]
      by_cases h : i = e
      · rw [if_pos h, if_pos h, hte, hR]; rfl
      · rw [if_neg h, if_neg h]
  · rw [hse] at hte
    by_cases hc : ∃ f, f < xs.length ∧ (row xs f).testBit e = true ∧ (rowmo xs s).testBit f = true
    · obtain ⟨f, hf, hfe, hRf⟩ := hc
      have hR : (rowmo xs s).testBit e = true := holdsIdeal_row.1 (rowmo_ideal hg s) f hf hRf e hfe
      have hn : holdsIdeal xs (t ^^^ 2 ^ e) = false := by
        rw [Bool.eq_false_iff]
        intro h
        have hlt := row_less hg hf hfe
        have h2 := holdsIdeal_row.1 h f hf (by rw [hx, if_neg (by omega), hup f hf hfe]; exact hRf) e hfe
        rw [hx, if_pos rfl, hte] at h2
        cases h2
      rw [tog_no hn]
      by_cases h : i = e
      · subst h; rw [if_pos rfl, hte, hR]
      · rw [if_neg h]
    · have hR : (rowmo xs s).testBit e = false := by
        rw [Bool.eq_false_iff]
        intro h
        obtain ⟨f, hf, hpf, h1 | h1⟩ := (rowmo_bit xs s e).1 h
        · subst h1; rw [(rowP_iff.1 hpf).1] at hse; cases hse
        · exact hc ⟨f, hf, h1, (rowmo_bit xs s f).2 ⟨f, hf, hpf, .inl rfl⟩⟩
      have hy : holdsIdeal xs (t ^^^ 2 ^ e) = true := by
        refine holdsIdeal_row.2 fun f hf hb j hj => ?_
        rw [hx] at hb ⊢
        by_cases hfe : f = e
        · rw [if_pos hfe, hte] at hb; cases hb
        · rw [if_neg hfe] at hb
          by_cases hje : j = e
          · subst hje
            exact absurd ⟨f, hf, hj, by rw [← hup f hf hj]; exact hb⟩ hc
          · rw [if_neg hje]
            exact holdsIdeal_row.1 ht f hf hb j hj
      rw [tog_yes hy, hx]
      by_cases h : i = e
      · rw [if_pos h, if_pos h, hte, hR]; rfl
      · rw [if_neg h, if_neg h]
def revT (xs ys : List Int) (s k : Nat) : Nat := togW xs s (ys.drop k).reverse
theorem revT_step {xs ys : List Int} {s k : Nat} (hk : k < ys.length) : revT xs ys s k = tog xs (revT xs ys s (k + 1)) (wN ys k) := by
  unfold revT
  rw [List.drop_eq_getElem_cons hk, List.reverse_cons, togW, List.foldl_append]
  simp only [List.foldl_cons, List.foldl_nil, togW, wN]
  rw [show ys.getD k 0 = ys[k] from by simp [List.getD, hk]]
theorem revT_bits {xs ys : List Int} (hg : good xs = true) {s : Nat} (hs : s < 2 ^ xs.length) (hi : holdsIdeal xs s = true) (h : LinX xs ys) : ∀ d k, d + k = xs.length → holdsIdeal xs (revT xs ys s k) = true ∧ ∀ e, e < xs.length → (revT xs ys s k).testBit e = if (stL ys k).testBit e = true then s.testBit e else (rowmo xs s).testBit e := by
  intro d
  induction d with
  | zero =>
    intro k hk
    obtain rfl : k = xs.length := by omega
    have e0 : revT xs ys s xs.length = s := by
      unfold revT
      rw [← h.len, List.drop_length]; rfl
    rw [e0]
    refine ⟨hi, fun e he => ?_⟩
    rw [h.full, Nat.testBit_two_pow_sub_one]
    simp [he]
  | succ d ih =>
    intro k hk
    obtain ⟨h1, h2⟩ := ih (k + 1) (by omega)
    have hkl : k < xs.length := by omega
    obtain ⟨hr1, hr2⟩ := h.rng k hkl
    have hst : ∀ i, (stL ys (k + 1)).testBit i = true ↔ (stL ys k).testBit i = true ∨ i = wN ys k := by
      intro i
      rw [stL, Nat.testBit_or, Bool.or_eq_true, Nat.testBit_two_pow]
      constructor
      · exact fun hh => hh.imp id fun h3 => by simp at h3; exact h3.symm
      · exact fun hh => hh.imp id fun h3 => by simp [h3]
    have hnk : (stL ys k).testBit (wN ys k) = false := by
      rw [Bool.eq_false_iff]
      intro hb
      obtain ⟨j, hj, e⟩ := (stL_bit ys k _).1 hb
      exact h.ne hj hkl e
    rw [revT_step (by rw [h.len]; exact hkl)]
    refine ⟨tog_ideal h1, fun e he => ?_⟩
    rw [tog_step hg h1 hr2 (s := s) ?_ ?_ ?_ e]
    · by_cases hee : e = wN ys k
      · rw [if_pos hee, hee, hnk]; simp
      · rw [if_neg hee, h2 e he]
        by_cases hb : (stL ys k).testBit e = true
        · rw [if_pos ((hst e).2 (Or.inl hb)), if_pos hb]
        · rw [if_neg (fun hh => ((hst e).1 hh).elim hb hee), if_neg hb]
    · intro j hj
      obtain ⟨i, hik, hie⟩ := h.before hkl hj
      have hjl : j < xs.length := by have := row_less hg hr2 hj; omega
      rw [h2 j hjl, if_pos ((hst j).2 (Or.inl ((stL_bit ys k j).2 ⟨i, hik, hie⟩)))]
    · intro f hf hfe
      rw [h2 f hf, if_neg ?_]
      intro hb
      rcases (hst f).1 hb with hb | hb
      · obtain ⟨j, hj, e1⟩ := (stL_bit ys k f).1 hb
        obtain ⟨i, hij, hie⟩ := h.before (k := j) (j := wN ys k) (by omega) (by rw [e1]; exact hfe)
        exact h.ne (show i < k by omega) hkl hie
      · have := row_less hg hf hfe; omega
    · rw [h2 _ hr2, if_pos ((hst _).2 (Or.inr rfl))]
theorem togW_order {xs ys : List Int} (hg : good xs = true) {s : Nat} (hs : s < 2 ^ xs.length) (hi : holdsIdeal xs s = true) (h : orderB xs ys = true) : togW xs s ys.reverse = rowmo xs s := by
  have hb := (revT_bits hg hs hi (orderB_LinX h) xs.length 0 (by omega)).2
  have e0 : revT xs ys s 0 = togW xs s ys.reverse := rfl
  rw [e0] at hb
  apply Nat.eq_of_testBit_eq
  intro i
  by_cases hil : i < xs.length
  · rw [hb i hil]; simp [stL]
  · have hz : ∀ z, z < 2 ^ xs.length → z.testBit i = false := fun z hz => by
      rw [Bool.eq_false_iff]; intro hb2; exact hil (testBit_lt hz hb2)
    rw [hz _ (rowmo_lt hg s), hz _ (togW_lt hs ?_)]
    have := (orderB_word h).2
    unfold inW at this ⊢
    rw [List.all_eq_true] at this ⊢
    exact fun y hy => this y (List.mem_reverse.1 hy)
/-- what the next ideal's greatest elements are -/
theorem top_rowmo {xs : List Int} (hg : good xs = true) (s : Nat) : top xs (rowmo xs s) = bottom xs (compl xs.length s) := by
  rw [← rowmo_spec hg s, top_down_eq hg (bottom_anti xs _)]
/-- rowmotion of antichains is that of their ideals -/
theorem acRow_top {xs : List Int} (hg : good xs = true) {s : Nat} (hs : s < 2 ^ xs.length) (hi : holdsIdeal xs s = true) : top xs (rowmo xs (down xs (top xs s))) = top xs (rowmo xs s) := by
  rw [down_top hg hs hi]
end Go.Proofs.Ytpdoheagfjeefaa
namespace Go.Proofs.Ytpdoheagfjeefaa
set_option linter.unusedVariables false

theorem rowmo_topB {xs : List Int} (hg : good xs = true) {s : Nat} (hs : holdsIdeal xs s = true) {e : Nat} (he : e < xs.length) : rowP xs s e = (top xs (rowmo xs s)).testBit e := by
  rw [Bool.eq_iff_iff, rowmo_top hg hs he, top_bit]
  refine and_congr_right fun h => ⟨fun hh => ?_, fun hh i hi hr => ?_⟩
  · rintro ⟨i, hi, h1, h2⟩
    rw [hh i hi h1] at h2; cases h2
  · rw [Bool.eq_false_iff]
    intro h2
    exact hh ⟨i, hi, hr, h2⟩
theorem rowba_bit (xs : List Int) (s e : Nat) : (rowba xs s).testBit e = true ↔ e < xs.length ∧ backP xs (top xs s) e = true := by
  rw [rowba, orN_testBit]
  constructor
  · rintro ⟨f, hf, hp, hb⟩
    rw [Nat.testBit_two_pow] at hb
    obtain rfl : f = e := by simpa using hb
    exact ⟨hf, hp⟩
  · rintro ⟨he, hp⟩
    exact ⟨e, he, hp, by rw [Nat.testBit_two_pow]; simp⟩
theorem backP_iff {xs : List Int} {t e : Nat} : backP xs t e = true ↔ t.testBit e = false ∧ ∀ j, (row xs e).testBit j = true → t.testBit j = false := by
  simp only [backP, Bool.and_eq_true, Bool.not_eq_true', beq_iff_eq]
  refine and_congr_right fun _ => ⟨fun h j hj => and_zero_bit h hj, fun h => ?_⟩
  apply Nat.eq_of_testBit_eq
  intro j
  rw [Nat.testBit_and, Nat.zero_testBit]
  cases hj : (row xs e).testBit j
  · rfl
  · rw [h j hj]; rfl
theorem rowba_rowmo {xs : List Int} (hg : good xs = true) {s : Nat} (hs : s < 2 ^ xs.length) (hi : holdsIdeal xs s = true) : rowba xs (rowmo xs s) = s := by
  apply Nat.eq_of_testBit_eq
  intro e
  by_cases he : e < xs.length
  · have hrow : ∀ j, (row xs e).testBit j = true → j < xs.length := fun j hj => by have := row_less hg he hj; omega
    have hkey := out_iff hg hi (e + 1) e (by omega) he
    have hb : (rowba xs (rowmo xs s)).testBit e = true ↔ ¬ (rowP xs s e = true ∨ ∃ j, (row xs e).testBit j = true ∧ rowP xs s j = true) := by
      rw [rowba_bit, backP_iff]
      constructor
      · rintro ⟨-, h1, h2⟩ (h3 | ⟨j, hj, h3⟩)
        · rw [rowmo_topB hg hi he, h1] at h3; cases h3
        · rw [rowmo_topB hg hi (hrow j hj), h2 j hj] at h3; cases h3
      · intro h
        refine ⟨he, ?_, fun j hj => ?_⟩
        · rw [← rowmo_topB hg hi he, Bool.eq_false_iff]; exact fun h3 => h (Or.inl h3)
        · rw [← rowmo_topB hg hi (hrow j hj), Bool.eq_false_iff]; exact fun h3 => h (Or.inr ⟨j, hj, h3⟩)
    rw [← hkey] at hb
    rw [Bool.eq_iff_iff, hb]
    simp
  · have hz : ∀ z, z < 2 ^ xs.length → z.testBit e = false := fun z hz => by
      rw [Bool.eq_false_iff]; intro hb2; exact he (testBit_lt hz hb2)
    rw [hz _ (rowba_lt xs _), hz _ hs]
theorem rowmo_rowba {xs : List Int} (hg : good xs = true) {s : Nat} (hs : s < 2 ^ xs.length) (hi : holdsIdeal xs s = true) : rowmo xs (rowba xs s) = s := by
  have hm := rowMov hg
  have hD := idB_iff.2 ⟨hs, hi⟩
  obtain ⟨h1, h2, -, -⟩ := hm.perS hD
  obtain ⟨p, hp⟩ : ∃ p, per (rowmo xs) (2 ^ xs.length) s = p + 1 := ⟨per (rowmo xs) (2 ^ xs.length) s - 1, by omega⟩
  rw [hp] at h1
  have h3 : rowmo xs (iter (rowmo xs) p s) = s := h1
  have h4 := idB_iff.1 (hm.it hD p)
  have h5 := rowba_rowmo hg h4.1 h4.2
  rw [h3] at h5
  rw [h5, h3]
theorem iter_comm2 (f : Nat → Nat) (k s : Nat) : iter f k (f s) = f (iter f k s) := by
  induction k with
  | zero => rfl
  | succ k ih => exact congrArg f ih
theorem iter_back {f b : Nat → Nat} {D : Nat → Bool} (hf : ∀ s, D s = true → D (f s) = true) (hb : ∀ s, D s = true → b (f s) = s) {s : Nat} (hs : D s = true) (k : Nat) : D (iter f k s) = true ∧ iter b k (iter f k s) = s := by
  induction k with
  | zero => exact ⟨hs, rfl⟩
  | succ k ih =>
    refine ⟨hf _ ih.1, ?_⟩
    show b (iter b k (f (iter f k s))) = s
    rw [← iter_comm2 b k, hb _ ih.1, ih.2]
/-- rowmotion n times, and back -/
theorem rowmo_back {xs : List Int} (hg : good xs = true) {s : Nat} (hs : s < 2 ^ xs.length) (hi : holdsIdeal xs s = true) (k : Nat) :
    (iter (rowmo xs) k s < 2 ^ xs.length ∧ holdsIdeal xs (iter (rowmo xs) k s) = true ∧ iter (rowba xs) k (iter (rowmo xs) k s) = s) ∧
    (iter (rowba xs) k s < 2 ^ xs.length ∧ holdsIdeal xs (iter (rowba xs) k s) = true ∧ iter (rowmo xs) k (iter (rowba xs) k s) = s) := by
  have h1 := iter_back (f := rowmo xs) (b := rowba xs) (D := idB xs) (fun s h => idB_iff.2 ⟨rowmo_lt hg s, rowmo_ideal hg s⟩) (fun s h => rowba_rowmo hg (idB_iff.1 h).1 (idB_iff.1 h).2) (idB_iff.2 ⟨hs, hi⟩) k
  have h2 := iter_back (f := rowba xs) (b := rowmo xs) (D := idB xs) (fun s h => idB_iff.2 ⟨rowba_lt xs s, rowba_ideal hg s⟩) (fun s h => rowmo_rowba hg (idB_iff.1 h).1 (idB_iff.1 h).2) (idB_iff.2 ⟨hs, hi⟩) k
  exact ⟨⟨(idB_iff.1 h1.1).1, (idB_iff.1 h1.1).2, h1.2⟩, ⟨(idB_iff.1 h2.1).1, (idB_iff.1 h2.1).2, h2.2⟩⟩
/-- a complement as a difference -/
theorem compl_sub {n s : Nat} (hs : s < 2 ^ n) : compl n s = 2 ^ n - 1 - s := by
  apply Nat.eq_of_testBit_eq
  intro i
  rw [compl_testBit, show 2 ^ n - 1 - s = 2 ^ n - (s + 1) from by omega, Nat.testBit_two_pow_sub_succ hs]
/-- each ideal has an order -/
theorem ways_some {xs : List Int} (hg : good xs = true) : ∀ (m t : Nat), t ≤ m → t < 2 ^ xs.length → holdsIdeal xs t = true → 1 ≤ ways xs t := by
  intro m
  induction m with
  | zero =>
    intro t ht _ _
    obtain rfl : t = 0 := by omega
    rw [ways_zero]; exact Nat.le_refl _
  | succ m ih =>
    intro t ht hl hi
    by_cases h0 : t = 0
    · subst h0; rw [ways_zero]; exact Nat.le_refl _
    · obtain ⟨e, he⟩ := some_bit (top_some hg hl h0)
      have hbt := ((top_bit xs t e).1 he).1
      have hel := testBit_lt hl hbt
      obtain ⟨h1, h2⟩ := top_down hg hi hel he
      have hlt := xor_lt_self hbt
      have h3 := ih (t ^^^ 2 ^ e) (by omega) (by omega) h1
      rw [ways_pos h0]
      have hp : predP xs t e = true := by
        rw [predP, hbt, Bool.true_and, beq_iff_eq, sub_eq_zero]
        intro j hj
        have hne := row_less hg hel hj
        rw [xor_bit, if_neg (by omega)]
        exact holdsIdeal_row.1 hi e hel hbt j hj
      have hw : wterm xs t e = ways xs (t ^^^ 2 ^ e) := by rw [wterm, if_pos hp]
      have hmono : ∀ k, e < k → wterm xs t e ≤ sumN (wterm xs t) k := by
        intro k hk
        induction k with
        | zero => omega
        | succ k ihk =>
          rw [sumN]
          by_cases hek : e = k
          · subst hek; omega
          · have := ihk (by omega); omega
      have := hmono xs.length hel
      omega
theorem orders_some {xs : List Int} (hg : good xs = true) : 1 ≤ ordersN xs := by
  have hp := Nat.two_pow_pos xs.length
  exact ways_some hg _ _ (Nat.le_refl _) (by omega) (full_ideal hg)
end Go.Proofs.Ytpdoheagfjeefaa

/- The dual of a poset is a poset; its rows. No program is named here. -/
namespace Go.Proofs.Ytpdoheagfjeefaa
open Go.RowKit Go.WideShapes Go.ChangeShapes
set_option linter.unusedVariables false

theorem orN_congrD {p q : Nat → Bool} {g h : Nat → Nat} {k : Nat} (e : ∀ i, i < k → p i = q i ∧ g i = h i) : orN p g k = orN q h k := orN_congr e
theorem dualD_length {xs : List Int} (hg : good xs = true) : (dualL xs).length = xs.length := by rw [dualL_yes hg, whereL, mkL_length]
theorem dualD_row {xs : List Int} (hg : good xs = true) {i j : Nat} (hi : i < xs.length) : (row (dualL xs) i).testBit j = true ↔ j < i ∧ (row xs (xs.length - 1 - j)).testBit (xs.length - 1 - i) = true := by
  have e : (dualL xs).getD i 0 = ((rowN (fun j => dualF xs j i) i : Nat) : Int) := by rw [dualL_yes hg, whereL, mkL_getD hi]
  unfold row
  rw [e, Int.toNat_natCast, rowN_testBit]
  simp [dualF]
theorem dualD_get {xs : List Int} (hg : good xs = true) {i : Nat} (hi : i < xs.length) : (dualL xs).getD i 0 = ((row (dualL xs) i : Nat) : Int) ∧ row (dualL xs) i < 2 ^ i := by
  have e : (dualL xs).getD i 0 = ((rowN (fun j => dualF xs j i) i : Nat) : Int) := by rw [dualL_yes hg, whereL, mkL_getD hi]
  unfold row
  rw [e, Int.toNat_natCast]
  exact ⟨rfl, rowN_lt _ _⟩
theorem dualD_good {xs : List Int} (hg : good xs = true) : good (dualL xs) = true := by
  have hl := dualD_length hg
  have hb := good_length hg
  refine good_of (by omega) (by omega) fun i hi => ?_
  rw [hl] at hi
  obtain ⟨h1, h2⟩ := dualD_get hg hi
  unfold okAt
  rw [h1, Int.toNat_natCast]
  have hid : holdsIdeal (dualL xs) (row (dualL xs) i) = true := by
    rw [holdsIdeal_row]
    intro e he hbe j hj
    rw [hl] at he
    obtain ⟨a1, a2⟩ := (dualD_row hg hi).1 hbe
    obtain ⟨b1, b2⟩ := (dualD_row hg he).1 hj
    refine (dualD_row hg hi).2 ⟨by omega, ?_⟩
    exact row_closed hg (show xs.length - 1 - j < xs.length by omega) b2 a2
  rw [hid]
  have : 0 ≤ ((row (dualL xs) i : Nat) : Int) := by omega
  have h3 : ((row (dualL xs) i : Nat) : Int) ≤ ((2 ^ i - 1 : Nat) : Int) := by omega
  simp [this, h3]
end Go.Proofs.Ytpdoheagfjeefaa

/- Evacuation of linear extensions: the facts that the law on it asks for. No program is named here. -/
namespace Go.Proofs.Ytpdoheagfjeefaa
open Go.RowKit Go.WideShapes Go.ChangeShapes
set_option linter.unusedVariables false

theorem getD_ext {a b : List Int} (hl : a.length = b.length) (h : ∀ j, j < a.length → a.getD j 0 = b.getD j 0) : a = b := by
  refine List.ext_getElem hl fun j h1 h2 => ?_
  have := h j h1
  simpa [List.getD, h1, h2] using this
theorem swapL_comm {ws : List Int} {i j : Nat} (h : i + 2 ≤ j) (hj : j + 1 < ws.length) : swapL (swapL ws j) i = swapL (swapL ws i) j := by
  refine getD_ext (by simp [swapL_length]) fun k hk => ?_
  have l1 := swapL_length ws i
  have l2 := swapL_length ws j
  rw [swapL_getD _ i k (by omega), swapL_getD _ j k (by omega), swapL_getD _ j (i + 1) (by omega), swapL_getD _ j i (by omega), swapL_getD _ j k (by omega), swapL_getD _ i (j + 1) (by omega), swapL_getD _ i j (by omega), swapL_getD _ i k (by omega)]
  repeat' split
  all_goals first | rfl | omega
theorem togL_comm {xs ws : List Int} {i j : Nat} (h : i + 2 ≤ j) (hj : j + 1 < ws.length) : togL xs (togL xs ws j) i = togL xs (togL xs ws i) j := by
  have l1 := swapL_length ws i
  have l2 := swapL_length ws j
  have a1 : (swapL ws j).getD (i + 1) 0 = ws.getD (i + 1) 0 := by rw [swapL_getD _ j _ (by omega), if_neg (by omega), if_neg (by omega)]
  have a2 : (swapL ws j).getD i 0 = ws.getD i 0 := by rw [swapL_getD _ j _ (by omega), if_neg (by omega), if_neg (by omega)]
  have b1 : (swapL ws i).getD (j + 1) 0 = ws.getD (j + 1) 0 := by rw [swapL_getD _ i _ (by omega), if_neg (by omega), if_neg (by omega)]
  have b2 : (swapL ws i).getD j 0 = ws.getD j 0 := by rw [swapL_getD _ i _ (by omega), if_neg (by omega), if_neg (by omega)]
  cases hi : (row xs (ws.getD (i + 1) 0).toNat).testBit (ws.getD i 0).toNat <;> cases hk : (row xs (ws.getD (j + 1) 0).toNat).testBit (ws.getD j 0).toNat
  · rw [togL_no hi, togL_no hk, togL_no (by rw [a1, a2]; exact hi), togL_no (by rw [b1, b2]; exact hk), swapL_comm h hj]
  · rw [togL_no hi, togL_yes hk, togL_no hi, togL_yes (by rw [b1, b2]; exact hk)]
  · rw [togL_yes hi, togL_no hk, togL_yes (by rw [a1, a2]; exact hi)]
  · rw [togL_yes hi, togL_yes hk, togL_yes hi]
theorem linIvs (xs : List Int) : Ivs (fun i ws => togL xs ws i) (LinX xs) (xs.length - 1) where
  ins i s hi hs := hs.tog (by omega)
  inv i s hi hs := hs.tog_tog (by omega)
  com i j s hi hj hij hs := togL_comm hij (by rw [hs.len]; omega)
theorem upL_act (xs : List Int) (ws : List Int) (k : Nat) : upL xs k ws = actT (fun i a => togL xs a i) (upW k) ws := by
  induction k with
  | zero => rfl
  | succ k ih => rw [upL_succ, upW_succ, actT_append, ← ih]; rfl
theorem downL_act (xs : List Int) (ws : List Int) (t k : Nat) : downL xs t k ws = actT (fun i a => togL xs a (t - 1 - i)) (upW k) ws := by
  induction k with
  | zero => rfl
  | succ k ih => rw [downL_succ, upW_succ, actT_append, ← ih]; rfl
theorem ga_turn (T : Nat → List Int → List Int) (n : Nat) (ws : List Int) : ∀ m, m ≤ n → actT T (gaW m) (turnN (fun k => actT T (upW (n - k))) (n - m) ws) = turnN (fun k => actT T (upW (n - k))) n ws := by
  intro m
  induction m with
  | zero => intro _; rfl
  | succ m ih =>
    intro hm
    have e : n - m = (n - (m + 1)) + 1 := by omega
    have ih := ih (by omega)
    rw [e] at ih
    rw [← ih]
    show actT T (upW (m + 1) ++ gaW m) _ = actT T (gaW m) (actT T (upW (n - (n - (m + 1)))) _)
    rw [actT_append, show n - (n - (m + 1)) = m + 1 by omega]
theorem evaL_act (xs ws : List Int) : evaL xs ws = actT (fun i a => togL xs a i) (gaW (xs.length - 1)) ws := by
  have h := ga_turn (fun i a => togL xs a i) (xs.length - 1) ws (xs.length - 1) (Nat.le_refl _)
  rw [show xs.length - 1 - (xs.length - 1) = 0 by omega] at h
  refine Eq.trans ?_ h.symm
  unfold evaL
  exact turnN_congr (fun k _ => by funext a; exact upL_act xs a _) ws
theorem coeL_flip (xs ws : List Int) : coeL xs ws = actT (fun i a => togL xs a (xs.length - 1 - 1 - i)) (gaW (xs.length - 1)) ws := by
  have h := ga_turn (fun i a => togL xs a (xs.length - 1 - 1 - i)) (xs.length - 1) ws (xs.length - 1) (Nat.le_refl _)
  rw [show xs.length - 1 - (xs.length - 1) = 0 by omega] at h
  refine Eq.trans ?_ h.symm
  unfold coeL
  exact turnN_congr (fun k _ => by funext a; exact downL_act xs a _ _) ws
theorem coeL_act (xs ws : List Int) (h : 1 ≤ xs.length - 1) : coeL xs ws = actT (fun i a => togL xs a i) (duW (xs.length - 1)) ws := by
  rw [coeL_flip]
  have := actT_flip (fun i a => togL xs a i) (xs.length - 1) (gaW (xs.length - 1)) ws
  rw [duW_flip h] at this
  exact this
theorem powT_turn (xs ws : List Int) (k : Nat) : powT (fun i a => togL xs a i) (upW (xs.length - 1)) k ws = turnN (fun _ => pro1 xs) k ws := by
  induction k with
  | zero => rfl
  | succ k ih => rw [powT_last, ih, turnN, pro1, upL_act]
theorem LinX.evaL {xs ws : List Int} (h : LinX xs ws) : LinX xs (evaL xs ws) := by
  rw [evaL_act]; exact (linIvs xs).act (gaW_lt _) ws h
theorem LinX.coeL {xs ws : List Int} (h : LinX xs ws) : LinX xs (coeL xs ws) := by
  rw [coeL_flip]; exact (linIvs xs).flip.act (gaW_lt _) ws h
theorem eva_eva {xs ws : List Int} (h : LinX xs ws) : evaL xs (evaL xs ws) = ws := by
  rw [evaL_act, evaL_act]; exact (linIvs xs).gaTwice _ (Nat.le_refl _) ws h
theorem coe_coe {xs ws : List Int} (h : LinX xs ws) : coeL xs (coeL xs ws) = ws := by
  rw [coeL_flip, coeL_flip]; exact (linIvs xs).flip.gaTwice _ (Nat.le_refl _) ws h
theorem orp_pro' {xs ws : List Int} (h : LinX xs ws) (h1 : 1 ≤ xs.length) : orp1 xs (pro1 xs ws) = ws := h.orp_pro h1
/-- evacuation, one promotion and evacuation again are one promotion back -/
theorem eva_turn {xs ws : List Int} (h : LinX xs ws) (h1 : 1 ≤ xs.length) : evaL xs (pro1 xs (evaL xs ws)) = orp1 xs ws := by
  rcases Nat.eq_zero_or_pos (xs.length - 1) with h0 | h0
  · have e1 : ∀ a, evaL xs a = a := fun a => by rw [evaL_act, h0]; rfl
    have e2 : ∀ a, pro1 xs a = a := fun a => by unfold pro1; rw [h0]; rfl
    have e3 : ∀ a, orp1 xs a = a := fun a => by unfold orp1; rw [h0]; rfl
    rw [e1, e1, e2, e3]
  · obtain ⟨m, hm⟩ : ∃ m, xs.length - 1 = m + 1 := ⟨xs.length - 2, by omega⟩
    have hs := h.evaL
    have hg := (linIvs xs).gaTurn (k := m) (by omega) hs
    have e1 : ∀ a, actT (fun i a => togL xs a i) (gaW (m + 1)) a = evaL xs a := fun a => by rw [evaL_act, hm]
    have e2 : ∀ a, actT (fun i a => togL xs a i) (upW (m + 1)) a = pro1 xs a := fun a => by unfold pro1; rw [upL_act, hm]
    rw [e2, e1, e2, e1, eva_eva h] at hg
    have h4 : LinX xs (evaL xs (pro1 xs (evaL xs ws))) := (hs.pro h1).evaL
    rw [← orp_pro' h4 h1, hg]
/-- both, one after the other -/
theorem coe_eva {xs ws : List Int} (h : LinX xs ws) (h1 : 1 ≤ xs.length) : coeL xs (evaL xs ws) = turnN (fun _ => pro1 xs) xs.length ws := by
  rcases Nat.eq_zero_or_pos (xs.length - 1) with h0 | h0
  · have e1 : evaL xs ws = ws := by rw [evaL_act, h0]; rfl
    have e4 : coeL xs ws = ws := by rw [coeL_flip, h0]; rfl
    have e2 : ∀ a, pro1 xs a = a := fun a => by unfold pro1; rw [h0]; rfl
    rw [e1, e4, show xs.length = 1 by omega]
    exact (e2 ws).symm
  · rw [coeL_act _ _ h0, evaL_act, (linIvs xs).gaDu h0 h, powT_turn, show xs.length - 1 + 1 = xs.length by omega]
/-! ### the dual -/
theorem dua_wN {ws : List Int} (j : Nat) (hj : j < ws.length) : wN (duaL ws) j = ws.length - 1 - wN ws (ws.length - 1 - j) := by
  unfold wN duaL
  rw [mkL_getD hj, Int.toNat_natCast]; rfl
theorem dua_length (ws : List Int) : (duaL ws).length = ws.length := mkL_length _ _
theorem dua_get {ws : List Int} (j : Nat) (hj : j < ws.length) : (duaL ws).getD j 0 = (wN (duaL ws) j : Int) := by
  unfold wN duaL
  rw [mkL_getD hj, Int.toNat_natCast]
theorem dua_lin {xs ws : List Int} (hg : good xs = true) (h : LinX xs ws) : LinX (dualL xs) (duaL ws) := by
  have hl := dualD_length hg
  have hw := h.len
  have hb : ∀ k, k < xs.length → wN (duaL ws) k = xs.length - 1 - wN ws (xs.length - 1 - k) := fun k hk => by rw [dua_wN k (by omega), hw]
  have hst : ∀ k, k ≤ xs.length → ∀ e, e < xs.length → ((stL (duaL ws) k).testBit (xs.length - 1 - e) = true ↔ ∃ i, xs.length - k ≤ i ∧ i < xs.length ∧ wN ws i = e) := by
    intro k hk e he
    rw [stL_bit]
    constructor
    · rintro ⟨j, hj, e2⟩
      have hr := (h.rng (xs.length - 1 - j) (by omega)).2
      rw [hb j (by omega)] at e2
      exact ⟨xs.length - 1 - j, by omega, by omega, by omega⟩
    · rintro ⟨i, h1, h2, h3⟩
      refine ⟨xs.length - 1 - i, by omega, ?_⟩
      rw [hb _ (by omega), show xs.length - 1 - (xs.length - 1 - i) = i by omega, h3]
  refine ⟨by rw [dua_length, hl, hw], fun k hk => ?_, fun k hk => ?_⟩
  · rw [hl] at hk ⊢
    refine ⟨dua_get k (by omega), ?_⟩
    rw [hb k hk]; omega
  · rw [hl] at hk
    have hr := (h.rng (xs.length - 1 - k) (by omega)).2
    rw [hb k hk]
    simp only [stepP, Bool.and_eq_true, Bool.not_eq_true', beq_iff_eq]
    refine ⟨?_, (sub_eq_zero _ _).2 fun j hj => ?_⟩
    · rw [Bool.eq_false_iff]
      intro h5
      obtain ⟨i, h6, h7, h8⟩ := (hst k (by omega) _ hr).1 h5
      exact h.ne (show xs.length - 1 - k < i by omega) h7 h8.symm
    · obtain ⟨h5, h6⟩ := (dualD_row hg (by omega)).1 hj
      rw [show xs.length - 1 - (xs.length - 1 - wN ws (xs.length - 1 - k)) = wN ws (xs.length - 1 - k) by omega] at h6
      have hjl : xs.length - 1 - j < xs.length := by omega
      have e3 : j = xs.length - 1 - (xs.length - 1 - j) := by omega
      rw [e3]
      refine (hst k (by omega) _ hjl).2 ?_
      obtain ⟨i, hi, hie⟩ := h.surj hjl
      refine ⟨i, ?_, hi, hie⟩
      rcases Nat.lt_or_ge i (xs.length - k) with h9 | h9
      · exfalso
        rw [← hie] at h6
        obtain ⟨q, hq, hqe⟩ := h.before hi h6
        rcases (by omega : q < xs.length - 1 - k ∨ q = xs.length - 1 - k ∨ xs.length - 1 - k < q) with h10 | h10 | h10
        · exact h.ne h10 (by omega) hqe
        · omega
        · omega
      · exact h9
theorem dua_tog {xs ws : List Int} (hg : good xs = true) (h : LinX xs ws) {i : Nat} (hi : i + 1 < xs.length) : togL (dualL xs) (duaL ws) i = duaL (togL xs ws (xs.length - 1 - 1 - i)) := by
  have hl := dualD_length hg
  have hw := h.len
  obtain ⟨m, hm⟩ : ∃ m, xs.length - 1 - 1 - i = m := ⟨_, rfl⟩
  rw [hm]
  have hb : ∀ k, k < xs.length → wN (duaL ws) k = xs.length - 1 - wN ws (xs.length - 1 - k) := fun k hk => by rw [dua_wN k (by omega), hw]
  have e0 : wN (duaL ws) i = xs.length - 1 - wN ws (m + 1) := by rw [hb i (by omega), show xs.length - 1 - i = m + 1 by omega]
  have e1 : wN (duaL ws) (i + 1) = xs.length - 1 - wN ws m := by rw [hb (i + 1) hi, show xs.length - 1 - (i + 1) = m by omega]
  have ra := (h.rng m (by omega)).2
  have rb := (h.rng (m + 1) (by omega)).2
  have hc : (row (dualL xs) (wN (duaL ws) (i + 1))).testBit (wN (duaL ws) i) = (row xs (wN ws (m + 1))).testBit (wN ws m) := by
    rw [Bool.eq_iff_iff, e0, e1, dualD_row hg (by omega), show xs.length - 1 - (xs.length - 1 - wN ws (m + 1)) = wN ws (m + 1) by omega, show xs.length - 1 - (xs.length - 1 - wN ws m) = wN ws m by omega]
    constructor
    · exact fun h => h.2
    · intro h2
      have := row_less hg rb h2
      exact ⟨by omega, h2⟩
  have hm1 : m + 1 < ws.length := by omega
  rw [togL_wN, togL_wN, hc]
  cases hq : (row xs (wN ws (m + 1))).testBit (wN ws m)
  · rw [if_neg (by decide), if_neg (by decide)]
    have hi2 : i + 1 < (duaL ws).length := by rw [dua_length]; omega
    have hs : (swapL ws m).length = xs.length := by rw [swapL_length, hw]
    refine getD_ext (by rw [swapL_length, dua_length, dua_length, swapL_length]) fun j hj => ?_
    rw [swapL_length, dua_length, hw] at hj
    rw [swapL_getD _ i j hi2, dua_get (ws := swapL ws m) j (by omega), dua_wN (ws := swapL ws m) j (by omega), hs, swap_wN hm1]
    rcases (by omega : j = i ∨ j = i + 1 ∨ (j ≠ i ∧ j ≠ i + 1)) with h1 | h1 | ⟨h1, h2⟩
    · rw [if_pos h1, if_neg (by omega), if_pos (by omega), dua_get (i + 1) (by omega), e1]
    · rw [if_neg (by omega), if_pos h1, if_pos (by omega), dua_get i (by omega), e0]
    · rw [if_neg h1, if_neg h2, if_neg (by omega), if_neg (by omega), dua_get j (by omega), hb j hj]
  · rw [if_pos rfl, if_pos rfl]
theorem dua_act {xs : List Int} (hg : good xs = true) : ∀ (w : List Nat), Lt (xs.length - 1) w → ∀ ws, LinX xs ws → actT (fun i a => togL (dualL xs) a i) w (duaL ws) = duaL (actT (fun i a => togL xs a (xs.length - 1 - 1 - i)) w ws)
  | [], _, ws, _ => rfl
  | i :: w, hw, ws, h => by
    have hi := hw i (by simp)
    rw [actT_cons, actT_cons]
    show actT _ w (togL (dualL xs) (duaL ws) i) = _
    rw [dua_tog hg h (by omega)]
    exact dua_act hg w (fun j hj => hw j (List.mem_cons_of_mem _ hj)) _ (h.tog (by omega))
/-- evacuation of the dual is the dual's coevacuation -/
theorem eva_dua {xs ws : List Int} (hg : good xs = true) (h : LinX xs ws) : evaL (dualL xs) (duaL ws) = duaL (coeL xs ws) := by
  rw [evaL_act, dualD_length hg, dua_act hg _ (gaW_lt _) ws h, ← coeL_flip]
end Go.Proofs.Ytpdoheagfjeefaa
