/- The model's cursor of draws: a poset and an ideal. -/
import Derived.Test.YtclhebpkpmholaaCurS
import Derived.Test.YtclhebpkpmholaaSpec2
import Derived.Test.YtclhebpkpmholaaOrdC
import Derived.Deep.RegionHeld3
namespace Go.Proofs.Ytclhebpkpmholaa
open Go.RowKit Go.WideShapes Go.ChangeShapes
set_option linter.unusedVariables false

theorem and_sub (s : Nat) (hs : s < 1024) (y : Int) : ∃ n : Nat, n ≤ s ∧ bits .and .i64 (s : Int) y = (n : Int) := by
  refine ⟨(BitVec.ofInt 64 (s : Int) &&& BitVec.ofInt 64 y).toNat, ?_, ?_⟩
  · rw [BitVec.toNat_and, ofInt_i64 s (by omega)]; exact Nat.and_le_left
  · have h : (BitVec.ofInt 64 (s : Int) &&& BitVec.ofInt 64 y).toNat ≤ s := by rw [BitVec.toNat_and, ofInt_i64 s (by omega)]; exact Nat.and_le_left
    show IntKind.i64.wrap ((BitVec.ofInt 64 (s : Int) &&& BitVec.ofInt 64 y).toNat : Int) = _
    rw [IntKind.wrap_i64]; omega
/-- the cursor, the two boxes and the list of a poset drawn; the cursor stands at A, or at B already if b -/
def IW (ti tp : TypeId) (w : World) (g A B6 : Nat) (v : Value) (xs : List Int) (W : World) : Prop :=
  Drawn w g A W ∧ Blk W w.heap.size tp #[.slice none 0 0] ∧ Blk W B6 tp #[v] ∧ OwnI ti W (w.heap.size + 1) v xs
theorem IW.below {ti tp : TypeId} {w W W' : World} {g A B6 : Nat} {v : Value} {xs : List Int} (h : IW ti tp w g A B6 v xs W) (hb : Below W.heap.size W W') : IW ti tp w g A B6 v xs W' :=
  ⟨h.1.below hb, h.2.1.below hb h.2.1.lt, h.2.2.1.below hb h.2.2.1.lt, h.2.2.2.below hb⟩
theorem IW.drawn {ti tp : TypeId} {w W W' : World} {g A A' B6 : Nat} {v : Value} {xs : List Int} (h : IW ti tp w g A B6 v xs W) (hd : Drawn W g A' W') (hg : g < w.heap.size) (hB : w.heap.size < B6) : IW ti tp w g A' B6 v xs W' :=
  ⟨⟨hd.cur, h.1.turned.trans hd.turned⟩, h.2.1.turned hd.turned (Or.inr (by omega)), h.2.2.1.turned hd.turned (Or.inr (by omega)), h.2.2.2.turnedLow hd.turned (by omega)⟩
set_option maxHeartbeats 3200000 in
theorem ideal_any (g A most : Nat) (w : World) (h : Cur w g A) (hA : A < 700000000000) (hm1 : 1 ≤ most) (hm : most ≤ 10) :
    Calls Try.prog 105 #[.pointer (some ⟨g, 0, none⟩), .int .i64 most] w fun (r : Ending) w' => ∃ u xs s, r = .returned (.tuple #[.agg #[u], .int .i64 s]) ∧ (Lit.int .i64 s).wf = true ∧ OwnI 3 w' w.heap.size u xs ∧ xs.length ≤ 21 ∧ Drawn w g (A + 240) w' := by
  have HC := hid h
  have hgl := h.lt
  clear h
  go_enter Try.func105, Try.ntmps105
  go_wp2_with fail
  have HD0 := hid ((Drawn.mk HC.out (TurnedIn.refl _ _ _)).below (below_alloc (Below.refl _ w) (.cells #[.slice none 0 0] 26)))
  have HA0 := hid (Blk.new w 26 #[.slice none 0 0])
  refine (poset_any g A most _ HD0.out.cur (by omega) hm1 hm).mono ?_
  rintro e w1 ⟨u1, xs, rfl, ho, hl2, hd1⟩
  have HD1 := hid (Drawn.mk hd1.cur (HD0.out.turned.trans hd1.turned))
  have HA1 := hid (HA0.out.turned hd1.turned (Or.inr (by omega)))
  have HO1 := hid (ho.mono (show w.heap.size + 1 ≤ _ by simp))
  have hz1 : w.heap.size + 1 ≤ w1.heap.size := by have := hd1.turned.size; simpa using this
  clear ho hd1 HD0 HA0
  obtain ⟨B6, hB6⟩ : ∃ B6, w1.heap.size = B6 := ⟨_, rfl⟩
  obtain ⟨vA, vc, rfl, hv⟩ := HO1.out.shape
  clear hv
  have HD2 := hid (HD1.out.below (below_alloc (Below.refl _ w1) (.cells #[.slice vA xs.length vc] 26)))
  have HA2 := hid (HA1.out.alloc (.cells #[.slice vA xs.length vc] 26))
  have HB2 := hid (Blk.new w1 26 #[.slice vA xs.length vc])
  have HO2 := hid (HO1.out.alloc (.cells #[.slice vA xs.length vc] 26))
  have hbox := (Blk.new w1 26 #[.slice vA xs.length vc]).cell 0
  go_wp2_with fail
  clear hbox HD1 HA1 HO1
  rw [hB6] at HB2
  refine (setOf_any g (A + 210) _ xs _ HD2.out.cur (by omega) HO2.out.ints (by omega)).mono ?_
  rintro e w3 ⟨s, hwf, rfl, hd3⟩
  have HD3 := hid (Drawn.mk hd3.cur (HD2.out.turned.trans hd3.turned))
  have HA3 := hid (HA2.out.turned hd3.turned (Or.inr (by omega)))
  have HB3 := hid (HB2.out.turned hd3.turned (Or.inr (by omega)))
  have HO3 := hid (HO2.out.turnedLow hd3.turned (by omega))
  have HW := hid hwf
  clear hd3 hwf HD2 HA2 HB2 HO2
  have t3 := HB3.out.cell 0
  go_wp2_with fail
  refine (poGood_any _ xs _ HO3.out.ints (by omega)).mono ?_
  rintro e w4 ⟨rfl, hb4⟩
  have HD4 := hid (HD3.out.below hb4)
  have HA4 := hid (HA3.out.below hb4 HA3.out.lt)
  have HB4 := hid (HB3.out.below hb4 HB3.out.lt)
  have HO4 := hid (HO3.out.below hb4)
  clear hb4 HD3 HA3 HB3 HO3 t3
  have t4 := HB4.out.cell 0
  cases hg : good xs
  · skip
    have a1 := HA4.out.cell 0
    have a2 := HA4.out.frozen 0
    go_wp2
    refine bodyPost_ret (v := .tuple #[.agg #[.slice vA xs.length vc], .int .i64 s]) (by simp [results, Try.results105, go_sem, a1]) rfl ⟨_, xs, _, rfl, HW.out, HO4.out.box (Nat.le_refl _) _, hl2, (HD4.out.box hgl _ (Nat.le_refl _) _).le (by omega)⟩
  · have HG := hid hg
    have hl10 := (good_length hg).2
    clear hg
    go_wp2_with fail
    refine (poSet_any _ xs s _ HO4.out.ints hl10).mono ?_
    rintro e w5 ⟨rfl, hb5⟩
    have HD5 := hid (HD4.out.below hb5)
    have HA5 := hid (HA4.out.below hb5 HA4.out.lt)
    have HB5 := hid (HB4.out.below hb5 HB4.out.lt)
    have HO5 := hid (HO4.out.below hb5)
    clear hb5 HD4 HA4 HB4 HO4 t4
    have t5 := HB5.out.cell 0
    cases hs : (decide (0 ≤ s) && decide (s ≤ (2 ^ xs.length - 1 : Nat)))
    · clear hs
      have a1 := HA5.out.cell 0
      have a2 := HA5.out.frozen 0
      go_wp2
      refine bodyPost_ret (v := .tuple #[.agg #[.slice vA xs.length vc], .int .i64 s]) (by simp [results, Try.results105, go_sem, a1]) rfl ⟨_, xs, _, rfl, HW.out, HO5.out.box (Nat.le_refl _) _, hl2, (HD5.out.box hgl _ (Nat.le_refl _) _).le (by omega)⟩
    · simp only [Bool.and_eq_true, decide_eq_true_eq] at hs
      obtain ⟨S, rfl⟩ := Int.eq_ofNat_of_zero_le hs.1
      have h2n := two_pow_le xs.length hl10
      have hS : S < 1024 := by omega
      clear hs h2n
      go_wp2_with fail
      refine (one_any g (A + 220) 12 _ HD5.out.cur (by omega)).mono ?_
      rintro e w6 ⟨b, rfl, hc6, ht6⟩
      have HD6 := hid (Drawn.mk hc6 (HD5.out.turned.trans ht6))
      have HA6 := hid (HA5.out.turned ht6 (Or.inr (by omega)))
      have HB6 := hid (HB5.out.turned ht6 (Or.inr (by omega)))
      have HO6 := hid (HO5.out.turnedLow ht6 (by omega))
      clear hc6 ht6 HD5 HA5 HB5 HO5 t5
      have t6 := HB6.out.cell 0
      cases b
      · go_wp2
        have HI6 : Hid (IW 3 26 w g (A + 222) B6 (.slice vA xs.length vc) xs w6) := hid ⟨HD6.out, HA6.out, HB6.out, HO6.out⟩
        have hB6g : w.heap.size < B6 := by omega
        clear HD6 HA6 HB6 HO6
        go_region_held3 (fun W => W.cell? ⟨B6, 0, none⟩ = some (.slice vA xs.length vc) ∧ Hid (∃ a, (W = w6.drew ∧ a = 222 ∨ a = 232) ∧ IW 3 26 w g (A + a) B6 (.slice vA xs.length vc) xs W)) (first | exact ⟨t6, hid ⟨222, Or.inl ⟨rfl, rfl⟩, HI6.out.below (below_drewN (Below.refl _ _) 1)⟩⟩ | exact ⟨HI8.out.2.2.1.cell 0, hid ⟨232, Or.inr rfl, HI8.out⟩⟩ | exact ⟨HI9.out.2.2.1.cell 0, hid ⟨232, Or.inr rfl, HI9.out⟩⟩ | exact ⟨HI10.out.2.2.1.cell 0, hid ⟨232, Or.inr rfl, HI10.out⟩⟩) (first | (go_at_call 143; refine (setOf_any g (A + 222) _ xs _ (HI6.out.below (below_drewN (Below.refl _ _) 1)).1.cur (by omega) (HI6.out.below (below_drewN (Below.refl _ _) 1)).2.2.2.ints (by omega)).mono ?_; rintro e w8 ⟨s2, hwf2, rfl, hd8⟩; have HI8 := hid ((HI6.out.below (below_drewN (Below.refl _ _) 1)).drawn hd8 hgl hB6g); obtain ⟨n8, hn8, he8⟩ := and_sub S hS s2; clear hd8 hwf2) | (go_at_call 92; refine (poTop_any _ xs n8 _ HI8.out.2.2.2.ints hl10 (by omega) (good_small HG.out _)).mono ?_; rintro e w9 ⟨rfl, hb9⟩; have HI9 := hid (HI8.out.below hb9); have htl := top_lt (xs := xs) (show n8 < 1024 by omega); clear hb9) | (go_at_call 100; refine (poDown_any _ xs (top xs n8) _ HI9.out.2.2.2.ints hl10 htl (good_small HG.out _)).mono ?_; rintro e w10 ⟨rfl, hb10⟩; have HI10 := hid (HI9.out.below hb10); clear hb10))
        have hdl : down xs (top xs n8) < 1024 := Nat.or_lt_two_pow (n := 10) htl (underN_lt xs _ (good_small HG.out _) _ (Nat.le_refl _))
        obtain ⟨z, hz⟩ : ∃ z, down xs (top xs n8) = z := ⟨_, rfl⟩
        rw [hz] at hdl ⊢
        have a0 := HI10.out.2.2.1.cell 0
        have a1 := HI10.out.2.1.cell 0
        have a2 := HI10.out.2.1.frozen 0
        go_wp2
        refine bodyPost_ret (v := .tuple #[.agg #[.slice vA xs.length vc], .int .i64 z]) (by simp [results, Try.results105, go_sem, a1]) rfl ⟨_, xs, _, rfl, wf_i64 _ (by omega) (by omega), HI10.out.2.2.2.box (Nat.le_refl _) _, hl2, (HI10.out.1.box hgl _ (Nat.le_refl _) _).le (by omega)⟩
      · skip
        have a1 := HA6.out.cell 0
        have a2 := HA6.out.frozen 0
        go_wp2
        refine bodyPost_ret (v := .tuple #[.agg #[.slice vA xs.length vc], .int .i64 S]) (by simp [results, Try.results105, go_sem, a1]) rfl ⟨_, xs, _, rfl, HW.out, HO6.out.box (Nat.le_refl _) _, hl2, (HD6.out.box hgl _ (Nat.le_refl _) _).le (by omega)⟩
end Go.Proofs.Ytclhebpkpmholaa
