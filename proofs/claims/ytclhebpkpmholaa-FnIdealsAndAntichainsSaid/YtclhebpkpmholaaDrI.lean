/- Draws of the model: a poset and a set, an ideal, an antichain. -/
import Derived.Test.YtclhebpkpmholaaByt
import Derived.Test.YtclhebpkpmholaaIaM
namespace Go.Proofs.Ytclhebpkpmholaa
open Go.RowKit Go.WideShapes Go.ChangeShapes
set_option linter.unusedVariables false

def DI (ti tp : TypeId) (w : World) (A B5 : Nat) (v : Value) (xs : List Int) (W : World) : Prop :=
  Below w.heap.size w W ∧ Cur W (w.heap.size + 1) A ∧ Blk W w.heap.size tp #[.slice none 0 0] ∧ Blk W B5 tp #[v] ∧ OwnI ti W (w.heap.size + 2) v xs
theorem DI.below {ti tp : TypeId} {w W W' : World} {A B5 : Nat} {v : Value} {xs : List Int} (h : DI ti tp w A B5 v xs W) (hb : Below W.heap.size W W') : DI ti tp w A B5 v xs W' :=
  ⟨below_to h.1 hb, h.2.1.below hb, h.2.2.1.below hb h.2.2.1.lt, h.2.2.2.1.below hb h.2.2.2.1.lt, h.2.2.2.2.below hb⟩
theorem DI.drawn {ti tp : TypeId} {w W W' : World} {A A' B5 : Nat} {v : Value} {xs : List Int} (h : DI ti tp w A B5 v xs W) (hd : Cur W' (w.heap.size + 1) A') (ht : TurnedIn (w.heap.size + 1) (w.heap.size + 1 + 1) W W') (hB : w.heap.size + 2 ≤ B5) : DI ti tp w A' B5 v xs W' :=
  ⟨below_turned h.1 ht (by omega), hd, h.2.2.1.turned ht (Or.inl (by omega)), h.2.2.2.1.turned ht (Or.inr (by omega)), h.2.2.2.2.turnedLow ht (by omega)⟩
theorem DI.fin {ti tp : TypeId} {w W : World} {A B5 : Nat} {v : Value} {xs : List Int} (h : DI ti tp w A B5 v xs W) (y : Value) : OwnI ti (W.setCell ⟨w.heap.size, 0, none⟩ y) w.heap.size v xs ∧ Below w.heap.size w (W.setCell ⟨w.heap.size, 0, none⟩ y) :=
  ⟨h.2.2.2.2.box (by omega) _, h.1.setCell (p := ⟨w.heap.size, 0, none⟩) (Nat.le_refl _) _⟩
set_option maxHeartbeats 1600000 in
theorem drawIsIdeal_any (v : Value) (bs : List Int) (w : World) (hb : BytesB w w.heap.size v bs) (hl : bs.length ≤ 1048576) :
    Calls Try.prog 98 #[v] w fun (r : Ending) w' => ∃ u xs s, r = .returned (.tuple #[.agg #[u], .int .i64 s]) ∧ (Lit.int .i64 s).wf = true ∧ OwnI 3 w' w.heap.size u xs ∧ xs.length ≤ 21 ∧ Below w.heap.size w w' := by
  have HBy := hid hb
  obtain ⟨vA, vc, rfl, -⟩ := hb
  have HA0 := hid (Blk.new w 26 #[.slice none 0 0])
  have HB0 := hid (below_alloc (Below.refl _ w) (.cells #[.slice none 0 0] 26))
  go_enter Try.func98, Try.ntmps98
  go_wp2_with fail
  have HC := hid (Cur.new (w.alloc (.cells #[.slice none 0 0] 26)) _ bs (w.heap.size + 1) (by simp) ((HBy.out.below HB0.out).up (by simp)) hl)
  have HB1 := hid (below_alloc HB0.out (.cells #[.slice vA bs.length vc, .int .i64 0, .int .u64 0] 74))
  have HA1 := hid (HA0.out.alloc (.cells #[.slice vA bs.length vc, .int .i64 0, .int .u64 0] 74))
  refine (poset_any (w.heap.size + 1) 0 10 _ HC.out (by decide) (by decide) (by decide)).mono ?_
  rintro e w2 ⟨u, xs, rfl, ho, hl2, hd⟩
  have HB2 := hid (hd.belowAll HB1.out (by omega))
  have HA2 := hid (HA1.out.turned hd.turned (Or.inl (by omega)))
  have HO := hid (ho.mono (show w.heap.size + 2 ≤ _ by simp))
  have HC2 := hid hd.cur
  have hz2 : w.heap.size + 2 ≤ w2.heap.size := by have := hd.turned.size; simpa using this
  obtain ⟨uA, uc, rfl, -⟩ := HO.out.shape
  clear ho hd HA0 HA1 HB0 HB1 HC
  obtain ⟨B5, hB5⟩ : ∃ B5, w2.heap.size = B5 := ⟨_, rfl⟩
  have hbox := (Blk.new w2 26 #[.slice uA xs.length uc]).cell 0
  go_wp2_with fail
  have HI3 : Hid (DI 3 26 w 210 B5 (.slice uA xs.length uc) xs (w2.alloc (.cells #[.slice uA xs.length uc] 26))) :=
    hid ⟨below_alloc HB2.out _, (HC2.out.le (by omega)).below (below_alloc (Below.refl _ _) _), HA2.out.alloc _, by rw [← hB5]; exact Blk.new w2 _ _, HO.out.alloc _⟩
  clear hbox HB2 HC2 HA2 HO
  have hB6 : w.heap.size + 2 ≤ B5 := by omega
  clear hB5 hz2
  refine (setOf_any (w.heap.size + 1) 210 _ xs _ HI3.out.2.1 (by decide) HI3.out.2.2.2.2.ints (by omega)).mono ?_
  rintro e w4 ⟨s, hwf, rfl, hd4⟩
  have HI4 := hid (HI3.out.drawn hd4.cur hd4.turned hB6)
  have HW := hid hwf
  clear hd4 hwf HI3
  have t4 := HI4.out.2.2.2.1.cell 0
  go_wp2_with fail
  refine (poGood_any _ xs _ HI4.out.2.2.2.2.ints (by omega)).mono ?_
  rintro e w5 ⟨rfl, hb5⟩
  have HI5 := hid (HI4.out.below hb5)
  clear hb5 HI4 t4
  have t5 := HI5.out.2.2.2.1.cell 0
  cases hg : good xs
  · skip
    have a1 := HI5.out.2.2.1.cell 0
    have a2 := HI5.out.2.2.1.frozen 0
    go_wp2
    refine bodyPost_ret (v := .tuple #[.agg #[.slice uA xs.length uc], .int .i64 s]) (by simp [results, Try.results98, go_sem, a1]) rfl ⟨_, xs, _, rfl, HW.out, (HI5.out.fin _).1, hl2, (HI5.out.fin _).2⟩
  · have hl10 := (good_length hg).2
    have HG := hid hg
    clear hg
    go_wp2_with fail
    refine (poSet_any _ xs s _ HI5.out.2.2.2.2.ints hl10).mono ?_
    rintro e w6 ⟨rfl, hb6⟩
    have HI6 := hid (HI5.out.below hb6)
    clear hb6 HI5 t5
    have t6 := HI6.out.2.2.2.1.cell 0
    cases hq : (decide (0 ≤ s) && decide (s ≤ (2 ^ xs.length - 1 : Nat)))
    · skip
      have a1 := HI6.out.2.2.1.cell 0
      have a2 := HI6.out.2.2.1.frozen 0
      go_wp2
      refine bodyPost_ret (v := .tuple #[.agg #[.slice uA xs.length uc], .int .i64 s]) (by simp [results, Try.results98, go_sem, a1]) rfl ⟨_, xs, _, rfl, HW.out, (HI6.out.fin _).1, hl2, (HI6.out.fin _).2⟩
    · simp only [Bool.and_eq_true, decide_eq_true_eq] at hq
      obtain ⟨n, rfl⟩ := Int.eq_ofNat_of_zero_le hq.1
      have hnl : n < 2 ^ xs.length := by have := hq.2; have := Nat.two_pow_pos xs.length; omega
      have hn10 : n < 1024 := lt1024 hnl hl10
      have hdn : down xs n < 1024 := lt1024 (down_lt_len HG.out hnl) hl10
      clear hq hnl
      go_wp2_with fail
      refine (one_any (w.heap.size + 1) _ 2 _ HI6.out.2.1 (by decide)).mono ?_
      rintro e w7 ⟨b, rfl, hc7, ht7⟩
      have HI7 := hid (HI6.out.drawn hc7 ht7 hB6)
      clear hc7 ht7 HI6 t6
      have t7 := HI7.out.2.2.2.1.cell 0
      cases b
      · skip
        have a1 := HI7.out.2.2.1.cell 0
        have a2 := HI7.out.2.2.1.frozen 0
        go_wp2
        refine bodyPost_ret (v := .tuple #[.agg #[.slice uA xs.length uc], .int .i64 n]) (by simp [results, Try.results98, go_sem, a1]) rfl ⟨_, xs, _, rfl, HW.out, (HI7.out.fin _).1, hl2, (HI7.out.fin _).2⟩
      · go_wp2_with fail
        refine (poDown_any _ xs n _ HI7.out.2.2.2.2.ints hl10 hn10 (good_small HG.out _)).mono ?_
        rintro e w8 ⟨rfl, hb8⟩
        have HI8 := hid (HI7.out.below hb8)
        clear hb8 HI7 t7
        have t8 := HI8.out.2.2.2.1.cell 0
        have a1 := HI8.out.2.2.1.cell 0
        have a2 := HI8.out.2.2.1.frozen 0
        obtain ⟨z, hz⟩ : ∃ z, down xs n = z := ⟨_, rfl⟩
        rw [hz] at hdn ⊢
        go_wp2
        refine bodyPost_ret (v := .tuple #[.agg #[.slice uA xs.length uc], .int .i64 z]) (by simp [results, Try.results98, go_sem, a1]) rfl ⟨_, xs, _, rfl, wf_i64 _ (by omega) (by omega), (HI8.out.fin _).1, hl2, (HI8.out.fin _).2⟩
theorem drawIdealOf_any (v : Value) (bs : List Int) (w : World) (hb : BytesB w w.heap.size v bs) (hl : bs.length ≤ 1048576) :
    Calls Try.prog 21 #[v] w fun (r : Ending) w' => ∃ u xs s, r = .returned (.tuple #[.agg #[u], .int .i64 s]) ∧ (Lit.int .i64 s).wf = true ∧ OwnI 3 w' w.heap.size u xs ∧ xs.length ≤ 21 ∧ Below w.heap.size w w' := by
  have HBy := hid hb
  obtain ⟨vA, vc, rfl, -⟩ := hb
  have HA0 := hid (Blk.new w 26 #[.slice none 0 0])
  have HB0 := hid (below_alloc (Below.refl _ w) (.cells #[.slice none 0 0] 26))
  go_enter Try.func21, Try.ntmps21
  go_wp2_with fail
  refine (drawIsIdeal_any _ bs _ ((HBy.out.below HB0.out).up (by simp)) hl).mono ?_
  rintro e w2 ⟨u, xs, s, rfl, hwf, ho, hl2, hb2⟩
  have HB2 := hid (below_to HB0.out hb2)
  have HA2 := hid (HA0.out.below hb2 HA0.out.lt)
  have HO := hid (ho.mono (show w.heap.size + 1 ≤ _ by simp))
  have HW := hid hwf
  obtain ⟨uA, uc, rfl, -⟩ := HO.out.shape
  clear ho hb2 HA0 HB0 hwf
  have a1 := HA2.out.cell 0
  have a2 := HA2.out.frozen 0
  go_wp2
  refine bodyPost_ret (v := .tuple #[.agg #[.slice uA xs.length uc], .int .i64 s]) (by simp [results, Try.results21, go_sem, a1]) rfl ⟨_, xs, _, rfl, HW.out, HO.out.box (Nat.le_refl _) _, hl2, HB2.out.setCell (p := ⟨w.heap.size, 0, none⟩) (Nat.le_refl _) _⟩
theorem drawIdealsOf_any (v : Value) (bs : List Int) (w : World) (hb : BytesB w w.heap.size v bs) (hl : bs.length ≤ 1048576) :
    Calls Try.prog 8 #[v] w fun (r : Ending) w' => ∃ u xs, r = .returned (.agg #[u]) ∧ OwnI 3 w' w.heap.size u xs ∧ xs.length ≤ 21 ∧ Below w.heap.size w w' := by
  have HBy := hid hb
  obtain ⟨vA, vc, rfl, -⟩ := hb
  have HA0 := hid (Blk.new w 26 #[.slice none 0 0])
  have HB0 := hid (below_alloc (Below.refl _ w) (.cells #[.slice none 0 0] 26))
  go_enter Try.func8, Try.ntmps8
  go_wp2_with fail
  refine (drawIsPoset_any _ bs _ ((HBy.out.below HB0.out).up (by simp)) hl).mono ?_
  rintro e w2 ⟨u, xs, rfl, ho, hl2, hb2⟩
  have HB2 := hid (below_to HB0.out hb2)
  have HA2 := hid (HA0.out.below hb2 HA0.out.lt)
  have HO := hid (ho.mono (show w.heap.size + 1 ≤ _ by simp))
  obtain ⟨uA, un, uc, rfl⟩ := ho.shape3
  clear ho hb2 HA0 HB0
  have a1 := HA2.out.cell 0
  have a2 := HA2.out.frozen 0
  go_wp2
  refine bodyPost_ret (v := .agg #[.slice uA un uc]) (by simp [results, Try.results8, go_sem, a1]) rfl ⟨_, xs, rfl, HO.out.box (Nat.le_refl _) _, hl2, HB2.out.setCell (p := ⟨w.heap.size, 0, none⟩) (Nat.le_refl _) _⟩
/-- the same behind a store of the result, the cursor forgotten -/
def DZ (ti tp : TypeId) (w : World) (B5 : Nat) (z v : Value) (xs : List Int) (W : World) : Prop :=
  Below w.heap.size w W ∧ Blk W w.heap.size tp #[z] ∧ Blk W B5 tp #[v] ∧ OwnI ti W (w.heap.size + 2) v xs
theorem DZ.of {ti tp : TypeId} {w W : World} {A B5 : Nat} {v : Value} {xs : List Int} (h : DI ti tp w A B5 v xs W) : DZ ti tp w B5 (.slice none 0 0) v xs W := ⟨h.1, h.2.2.1, h.2.2.2.1, h.2.2.2.2⟩
theorem DZ.below {ti tp : TypeId} {w W W' : World} {B5 : Nat} {z v : Value} {xs : List Int} (h : DZ ti tp w B5 z v xs W) (hb : Below W.heap.size W W') : DZ ti tp w B5 z v xs W' :=
  ⟨below_to h.1 hb, h.2.1.below hb h.2.1.lt, h.2.2.1.below hb h.2.2.1.lt, h.2.2.2.below hb⟩
theorem DZ.box {ti tp : TypeId} {w W : World} {B5 : Nat} {z v : Value} {xs : List Int} (h : DZ ti tp w B5 z v xs W) (hB : w.heap.size + 2 ≤ B5) (y : Value) : DZ ti tp w B5 y v xs (W.setCell ⟨w.heap.size, 0, none⟩ y) :=
  ⟨h.1.setCell (p := ⟨w.heap.size, 0, none⟩) (Nat.le_refl _) _, h.2.1.set_ 0 y, h.2.2.1.turned ((TurnedIn.refl w.heap.size (w.heap.size + 1) W).set_ ⟨w.heap.size, 0, none⟩ ⟨Nat.le_refl _, Nat.lt_succ_self _⟩ y) (Or.inr (by omega)), h.2.2.2.turnedLow ((TurnedIn.refl w.heap.size (w.heap.size + 1) W).set_ ⟨w.heap.size, 0, none⟩ ⟨Nat.le_refl _, Nat.lt_succ_self _⟩ y) (by omega)⟩
set_option maxHeartbeats 1600000 in
theorem drawIsAntichain_any (v : Value) (bs : List Int) (w : World) (hb : BytesB w w.heap.size v bs) (hl : bs.length ≤ 1048576) :
    Calls Try.prog 30 #[v] w fun (r : Ending) w' => ∃ u xs s, r = .returned (.tuple #[.agg #[u], .int .i64 s]) ∧ (Lit.int .i64 s).wf = true ∧ OwnI 3 w' w.heap.size u xs ∧ xs.length ≤ 21 ∧ Below w.heap.size w w' := by
  have HBy := hid hb
  obtain ⟨vA, vc, rfl, -⟩ := hb
  have HA0 := hid (Blk.new w 26 #[.slice none 0 0])
  have HB0 := hid (below_alloc (Below.refl _ w) (.cells #[.slice none 0 0] 26))
  go_enter Try.func30, Try.ntmps30
  go_wp2_with fail
  have HC := hid (Cur.new (w.alloc (.cells #[.slice none 0 0] 26)) _ bs (w.heap.size + 1) (by simp) ((HBy.out.below HB0.out).up (by simp)) hl)
  have HB1 := hid (below_alloc HB0.out (.cells #[.slice vA bs.length vc, .int .i64 0, .int .u64 0] 74))
  have HA1 := hid (HA0.out.alloc (.cells #[.slice vA bs.length vc, .int .i64 0, .int .u64 0] 74))
  refine (drawIsIdeal_any _ bs _ ((HBy.out.below HB1.out).up (by simp; omega)) hl).mono ?_
  rintro e w2 ⟨u, xs, s, rfl, hwf, ho, hl2, hb2⟩
  have HB2 := hid (below_to HB1.out hb2)
  have HA2 := hid (HA1.out.below hb2 HA1.out.lt)
  have HO := hid (ho.mono (show w.heap.size + 2 ≤ _ by simp))
  have HC2 := hid (HC.out.below hb2)
  have HW := hid hwf
  have hz2 : w.heap.size + 2 ≤ w2.heap.size := by have := hb2.size; simpa using this
  obtain ⟨uA, uc, rfl, -⟩ := HO.out.shape
  clear ho hb2 hwf HA0 HA1 HB0 HB1 HC
  obtain ⟨B5, hB5⟩ : ∃ B5, w2.heap.size = B5 := ⟨_, rfl⟩
  have hbox := (Blk.new w2 26 #[.slice uA xs.length uc]).cell 0
  go_wp2_with fail
  have HI3 : Hid (DI 3 26 w 0 B5 (.slice uA xs.length uc) xs (w2.alloc (.cells #[.slice uA xs.length uc] 26))) :=
    hid ⟨below_alloc HB2.out _, HC2.out.below (below_alloc (Below.refl _ _) _), HA2.out.alloc _, by rw [← hB5]; exact Blk.new w2 _ _, HO.out.alloc _⟩
  clear hbox HB2 HC2 HA2 HO
  have hB6 : w.heap.size + 2 ≤ B5 := by omega
  clear hB5 hz2
  refine (poGood_any _ xs _ HI3.out.2.2.2.2.ints (by omega)).mono ?_
  rintro e w5 ⟨rfl, hb5⟩
  have HI5 := hid (HI3.out.below hb5)
  clear hb5 HI3
  have t5 := HI5.out.2.2.2.1.cell 0
  cases hg : good xs
  · skip
    have a1 := HI5.out.2.2.1.cell 0
    have a2 := HI5.out.2.2.1.frozen 0
    go_wp2
    refine bodyPost_ret (v := .tuple #[.agg #[.slice uA xs.length uc], .int .i64 s]) (by simp [results, Try.results30, go_sem, a1]) rfl ⟨_, xs, _, rfl, HW.out, (HI5.out.fin _).1, hl2, (HI5.out.fin _).2⟩
  · have hl10 := (good_length hg).2
    have HG := hid hg
    clear hg
    go_wp2_with fail
    refine (poSet_any _ xs s _ HI5.out.2.2.2.2.ints hl10).mono ?_
    rintro e w6 ⟨rfl, hb6⟩
    have HI6 := hid (HI5.out.below hb6)
    clear hb6 HI5 t5
    have t6 := HI6.out.2.2.2.1.cell 0
    cases hq : (decide (0 ≤ s) && decide (s ≤ (2 ^ xs.length - 1 : Nat)))
    · skip
      have a1 := HI6.out.2.2.1.cell 0
      have a2 := HI6.out.2.2.1.frozen 0
      go_wp2
      refine bodyPost_ret (v := .tuple #[.agg #[.slice uA xs.length uc], .int .i64 s]) (by simp [results, Try.results30, go_sem, a1]) rfl ⟨_, xs, _, rfl, HW.out, (HI6.out.fin _).1, hl2, (HI6.out.fin _).2⟩
    · simp only [Bool.and_eq_true, decide_eq_true_eq] at hq
      obtain ⟨n, rfl⟩ := Int.eq_ofNat_of_zero_le hq.1
      have hnl : n < 2 ^ xs.length := by have := hq.2; have := Nat.two_pow_pos xs.length; omega
      have hn10 : n < 1024 := lt1024 hnl hl10
      have hdn : top xs n < 1024 := lt1024 (top_lt_len hnl) hl10
      clear hq hnl
      go_wp2_with fail
      refine (one_any (w.heap.size + 1) _ 2 _ HI6.out.2.1 (by decide)).mono ?_
      rintro e w7 ⟨b, rfl, hc7, ht7⟩
      have HI7 := hid (HI6.out.drawn hc7 ht7 hB6)
      clear hc7 ht7 HI6 t6
      have t7 := HI7.out.2.2.2.1.cell 0
      cases b
      · skip
        have a1 := HI7.out.2.2.1.cell 0
        have a2 := HI7.out.2.2.1.frozen 0
        go_wp2
        refine bodyPost_ret (v := .tuple #[.agg #[.slice uA xs.length uc], .int .i64 n]) (by simp [results, Try.results30, go_sem, a1]) rfl ⟨_, xs, _, rfl, HW.out, (HI7.out.fin _).1, hl2, (HI7.out.fin _).2⟩
      · have hz := HI7.out.2.2.1.lt
        have HJ7 : Hid (DZ 3 26 w B5 (.slice none 0 0) (.slice uA xs.length uc) xs w7.drew) := hid (DZ.of (HI7.out.below (below_drewN (Below.refl _ _) 1)))
        have HJs := hid (HJ7.out.box hB6 (.slice uA xs.length uc))
        have t7 := HJ7.out.2.2.1.cell 0
        have a7 := HJ7.out.2.1.cell 0
        have f7 := HJ7.out.2.1.frozen 0
        have t7s := HJs.out.2.2.1.cell 0
        clear hz
        go_wp2
        go_region_with (go_at_call 92; first | (refine (poTop_any _ xs n _ HJ7.out.2.2.2.ints hl10 hn10 (good_small HG.out _)).mono ?_; rintro e w8 ⟨rfl, hb8⟩; have HI8 := hid (HJ7.out.below hb8); clear hb8; have t8 := HI8.out.2.2.1.cell 0; have a8 := HI8.out.2.1.cell 0; have f8 := HI8.out.2.1.frozen 0) | (refine (poTop_any _ xs n _ HJs.out.2.2.2.ints hl10 hn10 (good_small HG.out _)).mono ?_; rintro e w8 ⟨rfl, hb8⟩; have HI8 := hid (HJs.out.below hb8); clear hb8; have t8 := HI8.out.2.2.1.cell 0; have a8 := HI8.out.2.1.cell 0; have f8 := HI8.out.2.1.frozen 0))
        all_goals
          have H9 := hid (HI8.out.box hB6 (.slice uA xs.length uc))
          have a9 := H9.out.2.1.cell 0
          go_wp2
        all_goals
          refine bodyPost_ret (v := .tuple #[.agg #[.slice uA xs.length uc], .int .i64 (top xs n : Nat)]) (by simp [results, Try.results30, go_sem, a9]) rfl ⟨_, xs, _, rfl, wf_i64 _ (by omega) (by omega), H9.out.2.2.2.mono (show w.heap.size ≤ _ by omega), hl2, H9.out.1⟩
end Go.Proofs.Ytclhebpkpmholaa
