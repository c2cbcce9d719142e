/- Texts CurI, Drw, Byt, LwH, Covers, one behind the other. -/
import Derived.Deep.RegionHeld3
import Derived.Test.YtdemikjaghegnaaGreatPkRanksMakeRowmotionProof00
import Derived.Test.YtdemikjaghegnaaGreatPkRanksMakeRowmotionProof01
import Derived.Test.YtdemikjaghegnaaGreatPkRanksMakeRowmotionProof02
import Derived.Test.YtdemikjaghegnaaGreatPkRanksMakeRowmotionProof04
import Derived.Test.YtdemikjaghegnaaGreatPkRanksMakeRowmotionProof05
import Derived.Test.YtdemikjaghegnaaGreatPkRanksMakeRowmotionProof07
/- The model's cursor of draws: a poset and an ideal. -/
namespace Go.Proofs.YtdemikjaghegnaaGreat
open Go.RowKit Go.WideShapes Go.ChangeShapes
set_option linter.unusedVariables false

theorem and_sub (s : Nat) (hs : s < 1024) (y : Int) : ∃ n : Nat, n ≤ s ∧ bits .and .i64 (s : Int) y = (n : Int) := by
  refine ⟨(BitVec.ofInt 64 (s : Int) &&& BitVec.ofInt 64 y).toNat, ?_, ?_⟩
  · rw [BitVec.toNat_and, ofInt_i64 s (by omega)]; exact Nat.and_le_left
  · have h : (BitVec.ofInt 64 (s : Int) &&& BitVec.ofInt 64 y).toNat ≤ s := by rw [BitVec.toNat_and, ofInt_i64 s (by omega)]; exact Nat.and_le_left
    show IntKind.i64.wrap ((BitVec.ofInt 64 (s : Int) &&& BitVec.ofInt 64 y).toNat : Int) = _
    rw [IntKind.wrap_i64]; omega
/-- the cursor, the two boxes and the list of a poset drawn; the cursor stands at A, or at B already if b -/
def IW (ti tp : TypeId) (w : World) (g A B6 : Nat) (v : Value) (xs : List Int) (W : World) : Prop :=
  Drawn w g A W ∧ Blk W w.heap.size tp #[.slice none 0 0] ∧ Blk W B6 tp #[v] ∧ OwnI ti W (w.heap.size + 1) v xs
theorem IW.below {ti tp : TypeId} {w W W' : World} {g A B6 : Nat} {v : Value} {xs : List Int} (h : IW ti tp w g A B6 v xs W) (hb : Below W.heap.size W W') : IW ti tp w g A B6 v xs W' :=
  ⟨h.1.below hb, h.2.1.below hb h.2.1.lt, h.2.2.1.below hb h.2.2.1.lt, h.2.2.2.below hb⟩
theorem IW.drawn {ti tp : TypeId} {w W W' : World} {g A A' B6 : Nat} {v : Value} {xs : List Int} (h : IW ti tp w g A B6 v xs W) (hd : Drawn W g A' W') (hg : g < w.heap.size) (hB : w.heap.size < B6) : IW ti tp w g A' B6 v xs W' :=
  ⟨⟨hd.cur, h.1.turned.trans hd.turned⟩, h.2.1.turned hd.turned (Or.inr (by omega)), h.2.2.1.turned hd.turned (Or.inr (by omega)), h.2.2.2.turnedLow hd.turned (by omega)⟩
set_option maxHeartbeats 3200000 in
theorem ideal_any (g A most : Nat) (w : World) (h : Cur w g A) (hA : A < 700000000000) (hm1 : 1 ≤ most) (hm : most ≤ 10) :
    Calls Tryz.prog 126 #[.pointer (some ⟨g, 0, none⟩), .int .i64 most] w fun (r : Ending) w' => ∃ u xs s, r = .returned (.tuple #[.agg #[u], .int .i64 s]) ∧ (Lit.int .i64 s).wf = true ∧ OwnI 3 w' w.heap.size u xs ∧ xs.length ≤ 21 ∧ Drawn w g (A + 240) w' := by
  have HC := hid h
  have hgl := h.lt
  clear h
  go_enter Tryz.func126, Tryz.ntmps126
  go_wp2_with fail
  have HD0 := hid ((Drawn.mk HC.out (TurnedIn.refl _ _ _)).below (below_alloc (Below.refl _ w) (.cells #[.slice none 0 0] 26)))
  have HA0 := hid (Blk.new w 26 #[.slice none 0 0])
  refine (poset_any g A most _ HD0.out.cur (by omega) hm1 hm).mono ?_
  rintro e w1 ⟨u1, xs, rfl, ho, hl2, hd1⟩
  have HD1 := hid (Drawn.mk hd1.cur (HD0.out.turned.trans hd1.turned))
  have HA1 := hid (HA0.out.turned hd1.turned (Or.inr (by omega)))
  have HO1 := hid (ho.mono (show w.heap.size + 1 ≤ _ by simp))
  have hz1 : w.heap.size + 1 ≤ w1.heap.size := by have := hd1.turned.size; simpa using this
  clear ho hd1 HD0 HA0
  obtain ⟨B6, hB6⟩ : ∃ B6, w1.heap.size = B6 := ⟨_, rfl⟩
  obtain ⟨vA, vc, rfl, hv⟩ := HO1.out.shape
  clear hv
  have HD2 := hid (HD1.out.below (below_alloc (Below.refl _ w1) (.cells #[.slice vA xs.length vc] 26)))
  have HA2 := hid (HA1.out.alloc (.cells #[.slice vA xs.length vc] 26))
  have HB2 := hid (Blk.new w1 26 #[.slice vA xs.length vc])
  have HO2 := hid (HO1.out.alloc (.cells #[.slice vA xs.length vc] 26))
  have hbox := (Blk.new w1 26 #[.slice vA xs.length vc]).cell 0
  go_wp2_with fail
  clear hbox HD1 HA1 HO1
  rw [hB6] at HB2
  refine (setOf_any g (A + 210) _ xs _ HD2.out.cur (by omega) HO2.out.ints (by omega)).mono ?_
  rintro e w3 ⟨s, hwf, rfl, hd3⟩
  have HD3 := hid (Drawn.mk hd3.cur (HD2.out.turned.trans hd3.turned))
  have HA3 := hid (HA2.out.turned hd3.turned (Or.inr (by omega)))
  have HB3 := hid (HB2.out.turned hd3.turned (Or.inr (by omega)))
  have HO3 := hid (HO2.out.turnedLow hd3.turned (by omega))
  have HW := hid hwf
  clear hd3 hwf HD2 HA2 HB2 HO2
  have t3 := HB3.out.cell 0
  go_wp2_with fail
  refine (poGood_any _ xs _ HO3.out.ints (by omega)).mono ?_
  rintro e w4 ⟨rfl, hb4⟩
  have HD4 := hid (HD3.out.below hb4)
  have HA4 := hid (HA3.out.below hb4 HA3.out.lt)
  have HB4 := hid (HB3.out.below hb4 HB3.out.lt)
  have HO4 := hid (HO3.out.below hb4)
  clear hb4 HD3 HA3 HB3 HO3 t3
  have t4 := HB4.out.cell 0
  cases hg : good xs
  · skip
    have a1 := HA4.out.cell 0
    have a2 := HA4.out.frozen 0
    go_wp2
    refine bodyPost_ret (v := .tuple #[.agg #[.slice vA xs.length vc], .int .i64 s]) (by simp [results, Tryz.results126, go_sem, a1]) rfl ⟨_, xs, _, rfl, HW.out, HO4.out.box (Nat.le_refl _) _, hl2, (HD4.out.box hgl _ (Nat.le_refl _) _).le (by omega)⟩
  · have HG := hid hg
    have hl10 := (good_length hg).2
    clear hg
    go_wp2_with fail
    refine (poSet_any _ xs s _ HO4.out.ints hl10).mono ?_
    rintro e w5 ⟨rfl, hb5⟩
    have HD5 := hid (HD4.out.below hb5)
    have HA5 := hid (HA4.out.below hb5 HA4.out.lt)
    have HB5 := hid (HB4.out.below hb5 HB4.out.lt)
    have HO5 := hid (HO4.out.below hb5)
    clear hb5 HD4 HA4 HB4 HO4 t4
    have t5 := HB5.out.cell 0
    cases hs : (decide (0 ≤ s) && decide (s ≤ (2 ^ xs.length - 1 : Nat)))
    · clear hs
      have a1 := HA5.out.cell 0
      have a2 := HA5.out.frozen 0
      go_wp2
      refine bodyPost_ret (v := .tuple #[.agg #[.slice vA xs.length vc], .int .i64 s]) (by simp [results, Tryz.results126, go_sem, a1]) rfl ⟨_, xs, _, rfl, HW.out, HO5.out.box (Nat.le_refl _) _, hl2, (HD5.out.box hgl _ (Nat.le_refl _) _).le (by omega)⟩
    · simp only [Bool.and_eq_true, decide_eq_true_eq] at hs
      obtain ⟨S, rfl⟩ := Int.eq_ofNat_of_zero_le hs.1
      have h2n := two_pow_le xs.length hl10
      have hS : S < 1024 := by omega
      clear hs h2n
      go_wp2_with fail
      refine (one_any g (A + 220) 12 _ HD5.out.cur (by omega)).mono ?_
      rintro e w6 ⟨b, rfl, hc6, ht6⟩
      have HD6 := hid (Drawn.mk hc6 (HD5.out.turned.trans ht6))
      have HA6 := hid (HA5.out.turned ht6 (Or.inr (by omega)))
      have HB6 := hid (HB5.out.turned ht6 (Or.inr (by omega)))
      have HO6 := hid (HO5.out.turnedLow ht6 (by omega))
      clear hc6 ht6 HD5 HA5 HB5 HO5 t5
      have t6 := HB6.out.cell 0
      cases b
      · go_wp2
        have HI6 : Hid (IW 3 26 w g (A + 222) B6 (.slice vA xs.length vc) xs w6) := hid ⟨HD6.out, HA6.out, HB6.out, HO6.out⟩
        have hB6g : w.heap.size < B6 := by omega
        clear HD6 HA6 HB6 HO6
        go_region_held3 (fun W => W.cell? ⟨B6, 0, none⟩ = some (.slice vA xs.length vc) ∧ Hid (∃ a, (W = w6.drew ∧ a = 222 ∨ a = 232) ∧ IW 3 26 w g (A + a) B6 (.slice vA xs.length vc) xs W)) (first | exact ⟨t6, hid ⟨222, Or.inl ⟨rfl, rfl⟩, HI6.out.below (below_drewN (Below.refl _ _) 1)⟩⟩ | exact ⟨HI8.out.2.2.1.cell 0, hid ⟨232, Or.inr rfl, HI8.out⟩⟩ | exact ⟨HI9.out.2.2.1.cell 0, hid ⟨232, Or.inr rfl, HI9.out⟩⟩ | exact ⟨HI10.out.2.2.1.cell 0, hid ⟨232, Or.inr rfl, HI10.out⟩⟩) (first | (go_at_call 95; refine (setOf_any g (A + 222) _ xs _ (HI6.out.below (below_drewN (Below.refl _ _) 1)).1.cur (by omega) (HI6.out.below (below_drewN (Below.refl _ _) 1)).2.2.2.ints (by omega)).mono ?_; rintro e w8 ⟨s2, hwf2, rfl, hd8⟩; have HI8 := hid ((HI6.out.below (below_drewN (Below.refl _ _) 1)).drawn hd8 hgl hB6g); obtain ⟨n8, hn8, he8⟩ := and_sub S hS s2; clear hd8 hwf2) | (go_at_call 99; refine (poTop_any _ xs n8 _ HI8.out.2.2.2.ints hl10 (by omega) (good_small HG.out _)).mono ?_; rintro e w9 ⟨rfl, hb9⟩; have HI9 := hid (HI8.out.below hb9); have htl := top_lt (xs := xs) (show n8 < 1024 by omega); clear hb9) | (go_at_call 98; refine (poDown_any _ xs (top xs n8) _ HI9.out.2.2.2.ints hl10 htl (good_small HG.out _)).mono ?_; rintro e w10 ⟨rfl, hb10⟩; have HI10 := hid (HI9.out.below hb10); clear hb10))
        have hdl : down xs (top xs n8) < 1024 := Nat.or_lt_two_pow (n := 10) htl (underN_lt xs _ (good_small HG.out _) _ (Nat.le_refl _))
        obtain ⟨z, hz⟩ : ∃ z, down xs (top xs n8) = z := ⟨_, rfl⟩
        rw [hz] at hdl ⊢
        have a0 := HI10.out.2.2.1.cell 0
        have a1 := HI10.out.2.1.cell 0
        have a2 := HI10.out.2.1.frozen 0
        go_wp2
        refine bodyPost_ret (v := .tuple #[.agg #[.slice vA xs.length vc], .int .i64 z]) (by simp [results, Tryz.results126, go_sem, a1]) rfl ⟨_, xs, _, rfl, wf_i64 _ (by omega) (by omega), HI10.out.2.2.2.box (Nat.le_refl _) _, hl2, (HI10.out.1.box hgl _ (Nat.le_refl _) _).le (by omega)⟩
      · skip
        have a1 := HA6.out.cell 0
        have a2 := HA6.out.frozen 0
        go_wp2
        refine bodyPost_ret (v := .tuple #[.agg #[.slice vA xs.length vc], .int .i64 S]) (by simp [results, Tryz.results126, go_sem, a1]) rfl ⟨_, xs, _, rfl, HW.out, HO6.out.box (Nat.le_refl _) _, hl2, (HD6.out.box hgl _ (Nat.le_refl _) _).le (by omega)⟩
end Go.Proofs.YtdemikjaghegnaaGreat

/- Draws of the model: posets, sides, sizes. -/
namespace Go.Proofs.YtdemikjaghegnaaGreat
open Go.RowKit Go.WideShapes Go.ChangeShapes
set_option linter.unusedVariables false

theorem BytesB.below {w w' : World} {B : Nat} {v : Value} {xs : List Int} (h : BytesB w B v xs) (hb : Below w.heap.size w w') : BytesB w' B v xs := h.turned (TurnedIn.of_below (E := 0) hb)
theorem BytesB.up {w : World} {B B' : Nat} {v : Value} {xs : List Int} (h : BytesB w B v xs) (hb : B ≤ B') : BytesB w B' v xs := by
  obtain ⟨A, c, rfl, hr, h⟩ := h
  refine ⟨A, c, rfl, hr, fun hx => ?_⟩
  obtain ⟨b, o, e, h1, h2⟩ := h hx
  exact ⟨b, o, e, Nat.lt_of_lt_of_le h1 hb, h2⟩
/-- a new cursor -/
theorem Cur.new (w : World) (v : Value) (bs : List Int) (g : Nat) (hg : g = w.heap.size) (hb : BytesB w w.heap.size v bs) (hl : bs.length ≤ 1048576) :
    Cur (w.alloc (.cells #[v, .int .i64 0, .int .u64 0] 47)) g 0 := by
  subst hg
  exact ⟨v, bs, 0, 0, hb.below (below_alloc (Below.refl _ _) _), hl, Nat.le_refl _, by omega, by omega, Blk.new w _ _⟩
/-- what is drawn by a cursor of the call's own leaves all that was there -/
theorem Drawn.belowAll {w w1 w' : World} {g A : Nat} (h : Drawn w1 g A w') (hb : Below w.heap.size w w1) (hg : w.heap.size ≤ g) : Below w.heap.size w w' := below_turned hb h.turned hg
end Go.Proofs.YtdemikjaghegnaaGreat

/- A slice of bytes as an argument of a law, and the draws that hand on. -/
namespace Go.Proofs.YtdemikjaghegnaaGreat
open Go.RowKit Go.WideShapes Go.ChangeShapes
set_option linter.unusedVariables false

theorem open_bytes {H : Type} {enc : TypeId × Value → H} {P : Program} {w : World} {base : Nat} {spare : Nat → Bool} {held : Bool} {r : Reach} {b0 : Nat} {ts ti : TypeId} {v : Value} {d : DataW H} {p : List MemPlace}
    (hts : P.underlying ts = some (.slice ti)) (hti : P.underlying ti = some (.int .u8)) (hc1 : P.cellsOf ti = 1)
    (hv : Value.okWide P w r b0 ts v) (h : DataW.Trod enc P w base spare held ts v d p) :
    ∃ (xs : List Int), BytesB w w.heap.size v xs ∧ xs.length ≤ maxLen := by
  obtain ⟨A, len, cap, rfl⟩ := okWide_slice hts hv
  obtain ⟨fuel, hf⟩ := h
  rcases open_ints hts hti hc1 hf with ⟨hcs, _⟩ | ⟨a, len, cap, zs, hcs, _, hle, hm, hz, _, hc, hwz⟩
  · simp [Value.cells] at hcs
    obtain ⟨rfl, rfl, rfl⟩ := hcs
    exact ⟨[], ⟨none, 0, rfl, by simp, fun h => absurd rfl h⟩, by simp⟩
  · simp [Value.cells] at hcs
    obtain ⟨rfl, rfl, rfl⟩ := hcs
    have hzl : len ≤ zs.length := by rw [hz]; split <;> omega
    have hl' : (zs.take len).length = len := by rw [List.length_take]; omega
    refine ⟨zs.take len, ⟨some a, cap, by rw [hl'], ?_, fun hx => ?_⟩, by rw [hl']; omega⟩
    · intro j
      by_cases hj : j < (zs.take len).length
      · have e : (zs.take len).getD j 0 = (zs.take len)[j] := by rw [List.getD, List.getElem?_eq_getElem hj]; rfl
        have hmem : (zs.take len)[j] ∈ zs := List.mem_of_mem_take (List.getElem_mem hj)
        have := hwz _ hmem
        rw [e]
        have h8 : (decide (IntKind.u8.min ≤ (zs.take len)[j]) && decide ((zs.take len)[j] ≤ IntKind.u8.max)) = true := this
        rw [show IntKind.u8.min = 0 from by decide, show IntKind.u8.max = 255 from by decide] at h8
        simp only [Bool.and_eq_true, decide_eq_true_eq] at h8
        omega
      · simp [List.getD, List.getElem?_eq_none (Nat.le_of_not_lt hj)]
    · have hp : 0 < len := by
        rcases Nat.eq_zero_or_pos len with h0 | h0
        · subst h0; simp at hx
        · exact h0
      obtain ⟨b, off, rfl, hcell⟩ := ints_at hc (by omega)
      have hbl : b < w.heap.size := World.block_lt_of_cell? w _ (hcell 0 (by omega))
      refine ⟨b, off, rfl, hbl, hbl, fun j hj => ?_⟩
      rw [hl'] at hj
      rw [hcell j (by omega)]
      congr 2
      simp [List.getD, hj]
/-- 'big': more than a million of bytes -/
theorem big_any (u v : Value) (bs cs : List Int) (w : World) (hu : BytesB w w.heap.size u bs) (hv : BytesB w w.heap.size v cs) (hbl : bs.length ≤ maxLen) (hcl : cs.length ≤ maxLen) :
    Calls Tryz.prog 5 #[u, v] w fun (r : Ending) w' => r = .returned (.bool (decide (1048576 < bs.length + cs.length))) ∧ w = w' := by
  obtain ⟨uA, uc, rfl, -⟩ := hu
  obtain ⟨vA, vc, rfl, -⟩ := hv
  unfold maxLen at hbl hcl
  go_enter Tryz.func5, Tryz.ntmps5
  by_cases h1 : 1048576 < bs.length
  · go_wp2
    go_ret
    exact ⟨ret_bool (by simp; omega), rfl⟩
  · go_wp2
    go_ret
    exact ⟨ret_bool (by rw [Bool.eq_iff_iff]; simp; omega), rfl⟩
end Go.Proofs.YtdemikjaghegnaaGreat

/- The general laws' own helpers. · The general laws' own helpers: numberOf, nHas, nIdeal. -/
namespace Go.Proofs.YtdemikjaghegnaaGreat
open Go.RowKit Go.WideShapes Go.ChangeShapes
set_option linter.unusedVariables false

theorem nSame_any (v u : Value) (xs : List Int) (w : World) (hv : Ints w v xs) (hu : Ints w u xs) (hl : xs.length ≤ 1048576) :
    Calls Tryz.prog 20 #[v, u] w fun r w' => r = .returned (.bool true) ∧ Below w.heap.size w w' := by
  obtain ⟨A, c, rfl, hA⟩ := hv
  obtain ⟨B, d, rfl, hB⟩ := hu
  have HA := hid hA
  have HB := hid hB
  clear hA hB
  go_enter Tryz.func20, Tryz.ntmps20
  go_wp2
  go_loopw [13] (fun i wr => ∃ k : Nat, k ≤ xs.length ∧ i = .int .i64 k ∧ Below w.heap.size w wr) (fun i _ => xs.length - (intOf i).toNat)
  case atStart => exact ⟨0, Nat.zero_le _, rfl, Below.refl _ _⟩
  case round =>
    obtain ⟨k, hk, rfl, hb⟩ := hrel
    by_cases hlt : k < xs.length
    · obtain ⟨b, o, rfl, hbl, hc⟩ := HA.out (by intro h; simp [h] at hlt)
      obtain ⟨b2, o2, rfl, hbl2, hc2⟩ := HB.out (by intro h; simp [h] at hlt)
      have hcell : wr.cell? ⟨b, o + k, none⟩ = some (.int .i64 (xs.getD k 0)) := by
        rw [hb.cell (p := ⟨b, o + k, none⟩) hbl]; exact hc k hlt
      have hcell2 : wr.cell? ⟨b2, o2 + k, none⟩ = some (.int .i64 (xs.getD k 0)) := by
        rw [hb.cell (p := ⟨b2, o2 + k, none⟩) hbl2]; exact hc2 k hlt
      obtain ⟨x, hx⟩ : ∃ x, xs.getD k 0 = x := ⟨_, rfl⟩
      rw [hx] at hcell hcell2
      have Hb := hid hb
      have hlt' : (k : Int) < xs.length := by omega
      clear hc hb hc2 hx
      go_wp2
      go_quiet (fail)
      go_wp2
      go_roundw
      case rel => exact ⟨k + 1, by omega, by go_num, below_drewN Hb.out _⟩
      case measure => simp [intOf]; omega
    · obtain rfl : k = xs.length := by omega
      have Hb := hid hb
      clear hb
      go_wp2
      go_ret
      exact ⟨rfl, Hb.out⟩
end Go.Proofs.YtdemikjaghegnaaGreat
namespace Go.Proofs.YtdemikjaghegnaaGreat
open Go.RowKit Go.WideShapes Go.ChangeShapes
set_option linter.unusedVariables false

theorem nIdeal_any (v : Value) (xs : List Int) (s : Int) (w : World) (hv : Ints w v xs) (hl : xs.length ≤ 1048576) (wf : (Lit.int .i64 s).wf = true) :
    Calls Tryz.prog 48 #[.agg #[v], .int .i64 s] w fun r w' => r = .returned (.bool (ansB xs s holdsIdeal)) ∧ Below w.heap.size w w' := by
  obtain ⟨A, c, rfl, -⟩ := id hv
  have HV := hid hv
  clear hv
  go_enter Tryz.func48, Tryz.ntmps48
  go_wp2_with fail
  have HB0 := hid (below_alloc (Below.refl _ w) (.cells #[.slice A xs.length c] 26))
  refine (implIsIdeal_any _ xs s _ (HV.out.alloc _) hl wf).mono ?_
  rintro e w1 ⟨rfl, hb1⟩
  have HB1 := hid (below_to HB0.out hb1)
  clear hb1 HB0
  have hab : ansB xs s holdsIdeal = (okSet xs s && holdsIdeal xs s.toNat) := rfl
  cases ho : okSet xs s
  · rw [ho] at hab
    simp at hab
    have HAb := hid hab
    clear hab
    rw [HAb.out]
    go_wp2
    go_ret
    exact ⟨ret_bool HAb.out.symm, HB1.out⟩
  · clear hab
    cases ha : ansB xs s holdsIdeal
    · have HAb := hid ha
      clear ha
      go_wp2
      go_ret
      exact ⟨ret_bool HAb.out.symm, HB1.out⟩
    · have HAb := hid ha
      clear ha
      go_wp2
      go_ret
      exact ⟨ret_bool HAb.out.symm, HB1.out⟩
end Go.Proofs.YtdemikjaghegnaaGreat

/- CoversOf. -/
namespace Go.Proofs.YtdemikjaghegnaaGreat
open Go.RowKit Go.WideShapes Go.ChangeShapes
set_option linter.unusedVariables false

theorem Pairs.mono {ti ts : TypeId} {w : World} {B B' : Nat} {v : Value} {ps : List (Nat × Nat)} (h : Pairs ti ts w B v ps) (hB : B' ≤ B) : Pairs ti ts w B' v ps := by
  obtain ⟨us, h1, h2, h3, h4⟩ := h
  refine ⟨us, h1, ⟨h2.1, ?_⟩, fun j u p hu hp => ?_, h4⟩
  · rcases h2.2 with h2 | ⟨g, cap, cur, hv, hg, r⟩
    · exact .inl h2
    · exact .inr ⟨g, cap, cur, hv, by omega, r⟩
  · obtain ⟨g, e, hg, hb⟩ := h3 j u p hu hp
    exact ⟨g, e, by omega, hb⟩
theorem Pairs.ss {ti ts : TypeId} {w : World} {B : Nat} {v : Value} {ps : List (Nat × Nat)} (h : Pairs ti ts w B v ps) : OwnSS ti ts w B w.heap.size v (ps.map fun p => [(p.1 : Int), (p.2 : Int)]) := by
  obtain ⟨us, h1, h2, h3, h4⟩ := h
  refine ⟨us, by simp [h1], by simpa using h2, fun k hk => (h2.lt k hk).2, ?_, ?_⟩
  · intro j u l hu hl
    rw [List.getElem?_map] at hl
    rcases hp : ps[j]? with _ | p
    · rw [hp] at hl; cases hl
    · rw [hp] at hl
      simp only [Option.map_some, Option.some.injEq] at hl
      subst hl
      obtain ⟨g, rfl, hB, hg⟩ := h3 j u p hu hp
      refine ⟨?_, fun k hk => ?_⟩
      · exact Blk.own (xs := [(p.1 : Int), (p.2 : Int)]) hg hB (by simp)
      · simp only [Value.ownBlock, Option.some.injEq] at hk
        subst hk; exact hg.lt
  · intro i j u u' hij hu hu'
    refine .inr fun e => hij ?_
    have hi : i < ps.length := by
      rcases Nat.lt_or_ge i us.length with h | h
      · omega
      · rw [List.getElem?_eq_none h] at hu; cases hu
    have hj : j < ps.length := by
      rcases Nat.lt_or_ge j us.length with h | h
      · omega
      · rw [List.getElem?_eq_none h] at hu'; cases hu'
    obtain ⟨g, rfl, _, _⟩ := h3 i u _ hu (List.getElem?_eq_getElem hi)
    obtain ⟨g', rfl, _, _⟩ := h3 j u' _ hu' (List.getElem?_eq_getElem hj)
    simp only [Value.ownBlock, Option.some.injEq] at e
    subst e
    exact h4 i j _ hu hu'

def bitAt (xs : List Int) (i j : Nat) : Bool := (xs.getD i 0).toNat.testBit j
def coverB (xs : List Int) (j i : Nat) : Bool := bitAt xs i j && !((List.range i).any fun k => decide (j < k) && (bitAt xs i k && bitAt xs k j))
theorem coverB_true {xs : List Int} {j i : Nat} (h1 : bitAt xs i j = true) (h2 : ∀ k, j < k → k < i → (bitAt xs i k && bitAt xs k j) = false) : coverB xs j i = true := by
  unfold coverB
  rw [h1, Bool.true_and, Bool.not_eq_true', List.any_eq_false]
  intro k hk
  rw [List.mem_range] at hk
  by_cases hjk : j < k
  · rw [h2 k hjk hk]; simp
  · simp [hjk]
theorem coverB_false {xs : List Int} {j i k : Nat} (h1 : j < k) (h2 : k < i) (h3 : (bitAt xs i k && bitAt xs k j) = true) : coverB xs j i = false := by
  unfold coverB
  have : ((List.range i).any fun k => decide (j < k) && (bitAt xs i k && bitAt xs k j)) = true := List.any_eq_true.2 ⟨k, List.mem_range.2 h2, by rw [h3]; simp [h1]⟩
  rw [this]; simp
theorem good_bit {xs : List Int} (hg : good xs = true) {i j : Nat} (hi : i < xs.length) (h : bitAt xs i j = true) : j < i := by
  have h1 := okAt_range (good_at hg hi)
  refine testBit_lt (n := i) ?_ h
  have := Nat.one_le_two_pow (n := i)
  omega
theorem coverB_lt {xs : List Int} (hg : good xs = true) {i j : Nat} (hi : i < xs.length) (h : i ≤ j) : coverB xs j i = false := by
  unfold coverB
  cases hb : bitAt xs i j
  · rfl
  · have := good_bit hg hi hb
    omega
/-- the top of what is below i: what i covers -/
theorem cover_top {xs : List Int} (hg : good xs = true) {i j : Nat} (hi : i < xs.length) : (top xs (xs.getD i 0).toNat).testBit j = coverB xs j i := by
  unfold top
  rw [sub_testBit, Bool.eq_iff_iff]
  simp only [Bool.and_eq_true, Bool.not_eq_true']
  constructor
  · rintro ⟨h1, h2⟩
    refine coverB_true h1 fun k hjk hki => ?_
    cases hc : (bitAt xs i k && bitAt xs k j)
    · rfl
    · simp only [Bool.and_eq_true] at hc
      have : (under xs (xs.getD i 0).toNat).testBit j = true := (underN_testBit _ _ _ _).2 ⟨k, by omega, hc.1, hc.2⟩
      rw [this] at h2; cases h2
  · intro h
    have h1 : bitAt xs i j = true := by
      unfold coverB at h
      simp only [Bool.and_eq_true] at h
      exact h.1
    refine ⟨h1, ?_⟩
    cases hu : (under xs (xs.getD i 0).toNat).testBit j
    · rfl
    · obtain ⟨k, hk, ha, hb⟩ := (underN_testBit _ _ _ _).1 hu
      have h3 := good_bit hg hi ha
      have h4 := good_bit hg hk hb
      rw [coverB_false h4 h3 (by simp only [Bool.and_eq_true]; exact ⟨ha, hb⟩)] at h
      cases h
def covIn (xs : List Int) (j : Nat) : Nat → List (Nat × Nat)
  | 0 => []
  | i + 1 => if coverB xs j i then covIn xs j i ++ [(j, i)] else covIn xs j i
def covPS (xs : List Int) (n : Nat) : Nat → List (Nat × Nat)
  | 0 => []
  | j + 1 => covPS xs n j ++ covIn xs j n
theorem covIn_length (xs : List Int) (j i : Nat) : (covIn xs j i).length ≤ i := by
  induction i with
  | zero => simp [covIn]
  | succ i ih =>
    unfold covIn
    split
    · rw [List.length_append, List.length_singleton]; omega
    · omega
theorem covPS_length (xs : List Int) (n j : Nat) : (covPS xs n j).length ≤ n * j := by
  induction j with
  | zero => simp [covPS]
  | succ j ih =>
    unfold covPS
    have := covIn_length xs j n
    rw [List.length_append, Nat.mul_succ]
    omega
theorem covIn_start {xs : List Int} (hg : good xs = true) {j : Nat} (i : Nat) (hi : i ≤ j + 1) (hj : i ≤ xs.length) : covIn xs j i = [] := by
  induction i with
  | zero => rfl
  | succ i ih =>
    unfold covIn
    rw [coverB_lt hg (by omega) (by omega)]
    exact ih (by omega) (by omega)
def coversP (xs : List Int) : List (Nat × Nat) := if good xs then covPS xs xs.length xs.length else []
def coversL (xs : List Int) : List (List Int) := (coversP xs).map fun p => [(p.1 : Int), (p.2 : Int)]
theorem coversP_length (xs : List Int) : (coversP xs).length ≤ 100 := by
  unfold coversP
  split
  · rename_i h
    have h1 := covPS_length xs xs.length xs.length
    have h2 := (good_length h).2
    have h3 : xs.length * xs.length ≤ 10 * 10 := Nat.mul_le_mul h2 h2
    omega
  · simp
theorem pairs_getD (ps : List (Nat × Nat)) (j : Nat) : ((ps.map fun p => [(p.1 : Int), (p.2 : Int)]).getD j []).length ≤ 2 := by
  simp only [List.getD, List.getElem?_map]
  cases ps[j]? <;> simp
theorem pairs_off (ps : List (Nat × Nat)) (j : Nat) : offL (ps.map fun p => [(p.1 : Int), (p.2 : Int)]) j ≤ 2 * j := by
  induction j with
  | zero => simp [offL]
  | succ j ih =>
    have := pairs_getD ps j
    have h2 : offL (ps.map fun p => [(p.1 : Int), (p.2 : Int)]) (j + 1) = offL (ps.map fun p => [(p.1 : Int), (p.2 : Int)]) j + ((ps.map fun p => [(p.1 : Int), (p.2 : Int)]).getD j []).length := rfl
    omega
theorem coversL_small (xs : List Int) : SSmall (coversL xs) := by
  have h1 := coversP_length xs
  have h0 : (coversL xs).length = (coversP xs).length := by simp [coversL]
  refine ⟨by omega, fun j _ => ?_, ?_⟩
  · have := pairs_getD (coversP xs) j
    show ((coversL xs).getD j []).length ≤ _
    unfold coversL
    omega
  · have := pairs_off (coversP xs) (coversL xs).length
    unfold coversL at this ⊢
    unfold coversL at h0
    omega

theorem poCovers_any (v : Value) (xs : List Int) (j i : Nat) (w : World) (hv : Ints w v xs) (hg : good xs = true) (hj : j < xs.length) (hi : i < xs.length) :
    Calls Tryz.prog 148 #[.agg #[v], .int .i64 j, .int .i64 i] w fun r w' => r = .returned (.bool (coverB xs j i)) ∧ Below w.heap.size w w' := by
  have hl10 := (good_length hg).2
  obtain ⟨A, c, rfl, hA⟩ := hv
  obtain ⟨b, o, rfl, hbl, hc⟩ := hA (by intro h; simp [h] at hi)
  have hci := hc i hi
  have hok := okAt_small (good_at hg hi) (by omega)
  obtain ⟨x, hx⟩ : ∃ x, xs.getD i 0 = x := ⟨_, rfl⟩
  rw [hx] at hci hok
  obtain ⟨z, rfl⟩ := Int.eq_ofNat_of_zero_le hok.1
  have HG := hid hg
  have HC := hid hc
  have hb0 : bitAt xs i j = z.testBit j := by unfold bitAt; rw [hx, Int.toNat_natCast]
  have hbk : ∀ k, bitAt xs i k = z.testBit k := fun k => by unfold bitAt; rw [hx, Int.toNat_natCast]
  have HBK := hid hbk
  have hz10 : z < 1024 := by omega
  have hiz : (i : Int) < xs.length := by omega
  cases hbit : z.testBit j
  · have H : Hid (coverB xs j i = false) := hid (by unfold coverB; rw [hb0, hbit]; rfl)
    have Hbit := hid hbit
    clear hA hc hx hg hb0 hbk hbit hok
    go_enter Tryz.func148, Tryz.ntmps148
    go_wp2_with (go_at_call 127; refine (poIn_any z j (by omega) _).mono ?_; rw [Hbit.out]; rintro e w' ⟨rfl, rfl⟩)
    go_ret
    exact ⟨ret_bool H.out.symm, (Below.refl _ _).alloc (Nat.le_refl _) _⟩
  · have hji : j < i := good_bit hg hi (by rw [hb0]; exact hbit)
    have Hb0 := hid (hb0.trans hbit)
    have Hbit := hid hbit
    clear hA hc hx hg hb0 hbk hbit hok
    go_enter Tryz.func148, Tryz.ntmps148
    go_wp2_with (go_at_call 127; refine (poIn_any z j (by omega) _).mono ?_; rw [Hbit.out]; rintro e w' ⟨rfl, rfl⟩)
    go_loop [7] (fun q => ∃ k : Nat, j + 1 ≤ k ∧ k ≤ i ∧ q = .int .i64 k ∧ Hid (∀ e, j < e → e < k → (bitAt xs i e && bitAt xs e j) = false)) (fun q => i - (intOf q).toNat)
    case atStart => exact ⟨j + 1, Nat.le_refl _, by omega, by go_num, hid (fun e h1 h2 => by omega)⟩
    case round =>
      obtain ⟨k, hjk, hki, rfl, Hk⟩ := hrel
      by_cases hlt : k < i
      · have hlt' : (k : Int) < i := by omega
        have hkn : (k : Int) < xs.length := by omega
        cases hbk : z.testBit k
        · have Hbk := hid hbk
          clear hbk
          go_wp2_with (go_at_call 127; refine (poIn_any z k (by omega) _).mono ?_; rw [Hbk.out]; rintro e w' ⟨rfl, rfl⟩)
          go_round
          case rel => exact ⟨k + 1, by omega, by omega, by go_num, hid (fun e h1 h2 => by
            by_cases h : e = k
            · subst h; rw [HBK.out, Hbk.out]; rfl
            · exact Hk.out e h1 (by omega))⟩
          case measure => simp [intOf]; omega
        · have hck := HC.out k (by omega)
          have hok := okAt_small (good_at HG.out (show k < xs.length by omega)) (by omega)
          obtain ⟨y, hy⟩ : ∃ y, xs.getD k 0 = y := ⟨_, rfl⟩
          rw [hy] at hck hok
          obtain ⟨t, rfl⟩ := Int.eq_ofNat_of_zero_le hok.1
          have Hbk := hid hbk
          have Hkj : Hid (bitAt xs k j = t.testBit j) := hid (by unfold bitAt; rw [hy, Int.toNat_natCast])
          have tok1 : True := trivial
          clear hbk hy hok
          cases hbt : t.testBit j
          · have Hbt := hid hbt
            clear hbt
            go_wp2_with fail
            refine (poIn_any z k (by omega) _).mono ?_
            rw [Hbk.out]
            rintro e w' ⟨rfl, rfl⟩
            go_wp2_with fail
            refine (poIn_any t j (by omega) _).mono ?_
            rw [Hbt.out]
            rintro e w' ⟨rfl, rfl⟩
            go_wp2
            go_round
            case rel => exact ⟨k + 1, by omega, by omega, by go_num, hid (fun e h1 h2 => by
              by_cases h : e = k
              · subst h; rw [Hkj.out, Hbt.out, Bool.and_false]
              · exact Hk.out e h1 (by omega))⟩
            case measure => simp [intOf]; omega
          · have Hbt := hid hbt
            have H : Hid (coverB xs j i = false) := hid (coverB_false (k := k) (by omega) hlt (by rw [HBK.out, Hbk.out, Hkj.out, hbt]; rfl))
            clear hbt
            go_wp2_with fail
            refine (poIn_any z k (by omega) _).mono ?_
            rw [Hbk.out]
            rintro e w' ⟨rfl, rfl⟩
            go_wp2_with fail
            refine (poIn_any t j (by omega) _).mono ?_
            rw [Hbt.out]
            rintro e w' ⟨rfl, rfl⟩
            go_wp2
            go_ret
            exact ⟨ret_bool H.out.symm, (Below.refl _ _).alloc (Nat.le_refl _) _⟩
      · obtain rfl : k = i := by omega
        have H := hid (coverB_true Hb0.out Hk.out)
        go_wp2
        go_ret
        exact ⟨ret_bool H.out.symm, (Below.refl _ _).alloc (Nat.le_refl _) _⟩

theorem poPairs_any (v : Value) (xs : List Int) (w : World) (hv : Ints w v xs) (hg : good xs = true) :
    Calls Tryz.prog 134 #[.agg #[v]] w fun (r : Ending) w' => ∃ u, r = Ending.returned u ∧ Pairs 3 24 w' (w.heap.size + 1) u (covPS xs xs.length xs.length) ∧ Below w.heap.size w w' := by
  have hl10 := (good_length hg).2
  have HV := hid hv
  have HG := hid hg
  obtain ⟨A, c, rfl, -⟩ := hv
  obtain ⟨n, hn⟩ : ∃ n, xs.length = n := ⟨_, rfl⟩
  have Hn := hid hn
  rw [hn] at hl10 HV ⊢
  clear hg hn
  go_enter Tryz.func134, Tryz.ntmps134
  go_wp2
  go_loopw [3, 9] (fun q jj wr => ∃ j : Nat, j ≤ n ∧ jj = .int .i64 j ∧ Pairs 3 24 wr (w.heap.size + 1) q (covPS xs n j) ∧ Below (w.heap.size + 1) (w.alloc (.cells #[.slice A n c] 26)) wr) (fun _ jj _ => n - (intOf jj).toNat)
  case atStart => exact ⟨0, Nat.zero_le _, rfl, Pairs.nil _ _ _ _, Below.refl _ _⟩
  case round =>
    obtain ⟨j, hj, rfl, hP, hb⟩ := hrel
    have hbox := box_cell hb 0
    have hbz : w.heap.size < wr.heap.size := by have := hb.size; simp at this; omega
    have HPo := hid hP
    have HBo := hid hb
    clear hP hb
    by_cases hjn : j < n
    · have hl1 := covPS_length xs n j
      have hl3 : n * j ≤ 100 := by
        have : n * j ≤ 10 * 10 := Nat.mul_le_mul hl10 (by omega)
        omega
      go_wp2
      clear hbox hbz
      go_loopw [3, 15] (fun q ii wi => ∃ i : Nat, i ≤ n ∧ ii = .int .i64 i ∧ Pairs 3 24 wi (w.heap.size + 1) q (covPS xs n j ++ covIn xs j i) ∧ Below (w.heap.size + 1) (w.alloc (.cells #[.slice A n c] 26)) wi) (fun _ ii _ => n - (intOf ii).toNat)
      case atStart => exact ⟨0, Nat.zero_le _, rfl, by simpa [covIn] using HPo.out, HBo.out⟩
      case round =>
        obtain ⟨i, hi, rfl, hP, hb⟩ := hrel
        have hbox := box_cell hb 0
        have hbz : w.heap.size < wr.heap.size := by have := hb.size; simp at this; omega
        have hl2 := covIn_length xs j i
        obtain ⟨L, hL⟩ : ∃ L, covPS xs n j ++ covIn xs j i = L := ⟨_, rfl⟩
        have hll : L.length ≤ 200 := by rw [← hL, List.length_append]; omega
        rw [hL] at hP
        have HP := hid hP
        have HB := hid hb
        have HLL := hid hL
        clear hP hb hL hl2
        by_cases hin : i < n
        · have HIN : Hid (Ints wr (.slice A n c) xs) := hid (Ints.box HV.out HB.out)
          cases hcv : coverB xs j i
          · have Hcv := hid hcv
            clear hcv
            go_wp2_with (go_at_call 148; refine (poCovers_any _ xs j i _ HIN.out HG.out (by rw [Hn.out]; exact hjn) (by rw [Hn.out]; exact hin)).mono ?_; rw [Hcv.out]; rintro e w2 ⟨rfl, hb2⟩)
            go_roundw
            case rel => exact ⟨i + 1, by omega, by go_num, by (rw [covIn, if_neg (by rw [Hcv.out]; decide), HLL.out]; exact HP.out.below hb2), HB.out.trans (hb2.mono (by omega))⟩
            case measure => simp [intOf]; omega
          · have Hcv := hid hcv
            clear hcv
            go_wp2_with fail
            refine (poCovers_any _ xs j i _ HIN.out HG.out (by rw [Hn.out]; exact hjn) (by rw [Hn.out]; exact hin)).mono ?_
            rw [Hcv.out]
            rintro e w2 ⟨rfl, hb2⟩
            have HP1 := hid (HP.out.below hb2)
            have HB1 := hid (HB.out.trans (hb2.mono (by omega)))
            have hz1 : w.heap.size + 1 ≤ w2.heap.size := by have := hb2.size; omega
            clear hb2 hbox
            go_wp2_with (at_builtin; refine wpList_append_pair rfl _ _ 78 24 3 rfl Tryz.underlying78 Tryz.info24 (by decide) (w.heap.size + 1) _ _ j i rfl HP1.out rfl rfl (by omega) (by omega) ?_; intro q2 w3 hp2 hb3)
            go_roundw
            case rel => exact ⟨i + 1, by omega, by go_num, by (rw [covIn, if_pos Hcv.out, ← List.append_assoc, HLL.out]; exact hp2), HB1.out.trans hb3⟩
            case measure => simp [intOf]; omega
        · obtain rfl : i = n := by omega
          go_wp2
          go_roundw
          case rel => exact ⟨j + 1, by omega, by go_num, by (rw [covPS, HLL.out]; exact HP.out), HB.out⟩
          case measure => simp [intOf]; omega
    · obtain rfl : j = n := by omega
      go_wp2
      go_ret
      exact ⟨_, rfl, HPo.out, below_box HBo.out⟩

theorem covers_post {u : Value} {xs : List Int} {w' : World} {B : Nat} {ps : List (Nat × Nat)} (h : Pairs 3 24 w' B u ps) (e : coversP xs = ps) : OwnSS 3 24 w' B w'.heap.size u (coversL xs) := by
  unfold coversL; rw [e]; exact h.ss
theorem coversP_yes {xs : List Int} (h : good xs = true) : coversP xs = covPS xs xs.length xs.length := if_pos h
theorem coversP_no {xs : List Int} (h : good xs = false) : coversP xs = [] := by simp [coversP, h]

set_option maxHeartbeats 4000000 in
theorem implCoversP_any (v : Value) (xs : List Int) (w : World) (hv : Ints w v xs) (hl : xs.length ≤ 1048576) :
    Calls Tryz.prog 105 #[.agg #[v]] w fun (r : Ending) w' => ∃ u, r = Ending.returned (.tuple #[u, .bool (good xs)]) ∧ Pairs 3 24 w' (w.heap.size + 1) u (coversP xs) ∧ Below w.heap.size w w' := by
  have HV := hid hv
  cases hg : good xs
  · have HG := hid hg
    have HN := hid (coversP_no hg)
    clear hv hg
    go_enter Tryz.func105, Tryz.ntmps105
    go_wp2_with (go_at_call 57; refine (implIsPoset_any _ xs _ (HV.out.alloc _) hl).mono ?_; rw [HG.out]; rintro e w1 ⟨rfl, hb1⟩)
    go_ret2
    exact ⟨_, rfl, by rw [HN.out]; exact Pairs.nil _ _ _ _, ((Below.refl _ _).alloc (Nat.le_refl _) _).trans (hb1.mono (by simp))⟩
  · have hl10 := (good_length hg).2
    have HG := hid hg
    have HY := hid (coversP_yes hg)
    have HSM := hid (good_small hg)
    have HCT : Hid (∀ i j, i < xs.length → (top xs (xs.getD i 0).toNat).testBit j = coverB xs j i) := hid (fun i j hi => cover_top hg hi)
    have HST : Hid (∀ j, j < xs.length → covIn xs j (j + 1) = []) := hid (fun j hj => covIn_start hg (j + 1) (Nat.le_refl _) hj)
    have HOK : Hid (∀ i, i < xs.length → 0 ≤ xs.getD i 0 ∧ xs.getD i 0 < 512) := hid (fun i hi => okAt_small (good_at hg hi) (by omega))
    obtain ⟨A, c, rfl, hA⟩ := hv
    have HA := hid hA
    obtain ⟨n, hn⟩ : ∃ n, xs.length = n := ⟨_, rfl⟩
    have Hn := hid hn
    rw [hn] at hl10 HV HA HY HCT HST HOK ⊢
    clear hg hn hA
    go_enter Tryz.func105, Tryz.ntmps105
    go_wp2_with fail
    refine (implIsPoset_any _ xs _ (HV.out.alloc _) hl).mono ?_
    rw [HG.out]
    rintro e w1 ⟨rfl, hb1⟩
    have hbox := ((At.new w (.slice A n c) 26).below hb1).1
    have hbx2 := ((At.new w (.slice A n c) 26).below hb1).2
    have HB1 := hid (hb1.mono (show w.heap.size + 1 ≤ _ by simp))
    clear hb1
    go_wp2
    clear hbox hbx2
    go_loopw [4, 13] (fun q jj wr => ∃ j : Nat, j ≤ n ∧ jj = .int .i64 j ∧ Pairs 3 24 wr (w.heap.size + 1) q (covPS xs n j) ∧ Below (w.heap.size + 1) (w.alloc (.cells #[.slice A n c] 26)) wr) (fun _ jj _ => n - (intOf jj).toNat)
    case atStart => exact ⟨0, Nat.zero_le _, rfl, Pairs.nil _ _ _ _, HB1.out⟩
    case round =>
      obtain ⟨j, hj, rfl, hP, hb⟩ := hrel
      have HPo := hid hP
      have HBo := hid hb
      clear hP hb
      by_cases hjn : j < n
      · have hl1 := covPS_length xs n j
        have hl3 : n * j ≤ 100 := by
          have : n * j ≤ 10 * 10 := Nat.mul_le_mul hl10 (by omega)
          omega
        go_wp2
        go_loopw [4, 6] (fun q ii wi => ∃ i : Nat, j + 1 ≤ i ∧ i ≤ n ∧ ii = .int .i64 i ∧ Pairs 3 24 wi (w.heap.size + 1) q (covPS xs n j ++ covIn xs j i) ∧ Below (w.heap.size + 1) (w.alloc (.cells #[.slice A n c] 26)) wi) (fun _ ii _ => n - (intOf ii).toNat)
        case atStart => exact ⟨j + 1, Nat.le_refl _, by omega, by go_num, by (rw [HST.out j hjn, List.append_nil]; exact HPo.out), HBo.out⟩
        case round =>
          obtain ⟨i, hji, hi, rfl, hP, hb⟩ := hrel
          have hbox := box_cell hb 0
          have hbz : w.heap.size < wr.heap.size := by have := hb.size; simp at this; omega
          have hl2 := covIn_length xs j i
          obtain ⟨L, hL⟩ : ∃ L, covPS xs n j ++ covIn xs j i = L := ⟨_, rfl⟩
          have hll : L.length ≤ 200 := by rw [← hL, List.length_append]; omega
          rw [hL] at hP
          have HP := hid hP
          have HB := hid hb
          have HLL := hid hL
          clear hP hL hl2
          by_cases hin : i < n
          · obtain ⟨b, o, rfl, hbl, hc⟩ := HA.out (by intro h; have := Hn.out; rw [h] at this; simp at this; omega)
            have hcell : wr.cell? ⟨b, o + i, none⟩ = some (.int .i64 (xs.getD i 0)) := by
              rw [(below_box hb).cell (p := ⟨b, o + i, none⟩) hbl]; exact hc i hin
            have hok := HOK.out i hin
            have hct := HCT.out i j hin
            obtain ⟨x, hx⟩ : ∃ x, xs.getD i 0 = x := ⟨_, rfl⟩
            rw [hx] at hcell hok hct
            obtain ⟨z, rfl⟩ := Int.eq_ofNat_of_zero_le hok.1
            rw [Int.toNat_natCast] at hct
            have HIN : Hid (Ints wr (.slice (some ⟨b, o, none⟩) n c) xs) := hid (Ints.box HV.out HB.out)
            obtain ⟨t, ht⟩ : ∃ t, top xs z = t := ⟨_, rfl⟩
            have ht10 : t < 1024 := by rw [← ht]; exact Nat.lt_of_le_of_lt (sub_le _ _) (by omega)
            have HT : Hid (t.testBit j = coverB xs j i) := hid (by rw [← ht]; exact hct)
            have HTT := hid ht
            have hz3 : z < 1024 := by omega
            have hin' : (i : Int) < n := by omega
            clear hb hc hx hct ht
            cases hcv : coverB xs j i
            · have Hcv := hid (HT.out.trans hcv)
              have Hc2 := hid hcv
              clear hcv
              go_wp2
              go_region_with (first | (go_at_call 132; refine (top_any _ xs z _ HIN.out.drew (by rw [Hn.out]; exact hl10) hz3 (HSM.out z)).mono ?_; rw [HTT.out]; rintro e w2 ⟨rfl, hb2⟩; have HP2 := hid ((HP.out.below (Go.Joins.below_draws _ _ 1)).below hb2); have HB2 := hid (HB.out.drew.trans (hb2.mono (by simp; omega))); clear hb2) | (go_at_call 58; refine (hasElement_any t j (by omega) (by omega) _).mono ?_; rw [Hcv.out]; rintro e w' ⟨rfl, rfl⟩))
              all_goals (go_wp2; go_roundw)
              all_goals first
                | exact ⟨i + 1, by omega, by omega, by go_num, by (rw [covIn, if_neg (by rw [Hc2.out]; decide), HLL.out]; exact HP2.out), HB2.out⟩
                | (simp [intOf]; omega)
            · have Hcv := hid (HT.out.trans hcv)
              have Hc2 := hid hcv
              clear hcv
              go_wp2
              go_region_with (first | (go_at_call 132; refine (top_any _ xs z _ HIN.out.drew (by rw [Hn.out]; exact hl10) hz3 (HSM.out z)).mono ?_; rw [HTT.out]; rintro e w2 ⟨rfl, hb2⟩; have HP1 := hid ((HP.out.below (Go.Joins.below_draws _ _ 1)).below hb2); have HB1' := hid (HB.out.drew.trans (hb2.mono (by simp; omega))); have hz1 : w.heap.size + 1 ≤ w2.heap.size := Nat.le_trans (Nat.succ_le_of_lt hbz) hb2.size; clear hb2) | (go_at_call 58; refine (hasElement_any t j (by omega) (by omega) _).mono ?_; rw [Hcv.out]; rintro e w' ⟨rfl, rfl⟩))
              all_goals (go_wp2_with (at_builtin; refine wpList_append_pair rfl _ _ 78 24 3 rfl Tryz.underlying78 Tryz.info24 (by decide) (w.heap.size + 1) _ _ j i rfl HP1.out rfl rfl (by omega) (by omega) ?_; intro q2 w3 hp2 hb3))
              all_goals go_roundw
              all_goals first
                | exact ⟨i + 1, by omega, by omega, by go_num, by (rw [covIn, if_pos Hc2.out, ← List.append_assoc, HLL.out]; exact hp2), HB1'.out.trans hb3⟩
                | (simp [intOf]; omega)
          · obtain rfl : i = n := by omega
            clear hb
            go_wp2
            go_roundw
            case rel => exact ⟨j + 1, by omega, by go_num, by (rw [covPS, HLL.out]; exact HP.out), HB.out⟩
            case measure => simp [intOf]; omega
      · obtain rfl : j = n := by omega
        go_wp2
        go_ret2
        exact ⟨_, rfl, by rw [HY.out]; exact HPo.out, below_box HBo.out⟩
theorem implCoversOf_any (v : Value) (xs : List Int) (w : World) (hv : Ints w v xs) (hl : xs.length ≤ 1048576) :
    Calls Tryz.prog 105 #[.agg #[v]] w fun (r : Ending) w' => ∃ u, r = Ending.returned (.tuple #[u, .bool (good xs)]) ∧ OwnSS 3 24 w' w.heap.size w'.heap.size u (coversL xs) ∧ SSmall (coversL xs) ∧ Below w.heap.size w w' :=
  (implCoversP_any v xs w hv hl).mono fun _ _ ⟨u, he, hp, hb⟩ => ⟨u, he, covers_post (hp.mono (by omega)) rfl, coversL_small xs, hb⟩
end Go.Proofs.YtdemikjaghegnaaGreat
