/- Texts DrG, Comm, Cyc, one behind the other. -/
import Derived.Test.YtdemikjaghegnaaGreatPkRanksMakeRowmotionProof05
import Derived.Test.YtdemikjaghegnaaGreatPkRanksMakeRowmotionProof07
import Derived.Test.YtdemikjaghegnaaGreatPkRanksMakeRowmotionProof10
/- Draws of the model: ranks to be toggled. (by gendrg.py) -/
namespace Go.Proofs.YtdemikjaghegnaaGreat
open Go.RowKit Go.WideShapes Go.ChangeShapes
set_option linter.unusedVariables false

set_option maxHeartbeats 1600000 in
theorem drawToggleRank_any (v : Value) (bs : List Int) (w : World) (hb : BytesB w w.heap.size v bs) (hl : bs.length ≤ 1048576) :
    Calls Tryz.prog 13 #[v] w fun (r : Ending) w' => ∃ u xs s k, r = .returned (.tuple #[.agg #[u], .int .i64 s, .int .i64 k]) ∧ (Lit.int .i64 s).wf = true ∧ OwnI 3 w' w.heap.size u xs ∧ xs.length ≤ 21 ∧ -1 ≤ k ∧ k ≤ 10 ∧ Below w.heap.size w w' := by
  have HBy := hid hb
  obtain ⟨vA, vc, rfl, -⟩ := hb
  have HA0 := hid (Blk.new w 26 #[.slice none 0 0])
  have HB0 := hid (below_alloc (Below.refl _ w) (.cells #[.slice none 0 0] 26))
  go_enter Tryz.func13, Tryz.ntmps13
  go_wp2_with fail
  have HC := hid (Cur.new (w.alloc (.cells #[.slice none 0 0] 26)) _ bs (w.heap.size + 1) (by simp) ((HBy.out.below HB0.out).up (by simp)) hl)
  have HB1 := hid (below_alloc HB0.out (.cells #[.slice vA bs.length vc, .int .i64 0, .int .u64 0] 47))
  have HA1 := hid (HA0.out.alloc (.cells #[.slice vA bs.length vc, .int .i64 0, .int .u64 0] 47))
  refine (rankedIdeal_any (w.heap.size + 1) 0 10 _ HC.out (by decide) (by decide) (by decide)).mono ?_
  rintro e w2 ⟨u, xs, s, rfl, hwf, ho, hl2, hd⟩
  have HW := hid hwf
  clear hwf
  have HB2 := hid (hd.belowAll HB1.out (by omega))
  have HA2 := hid (HA1.out.turned hd.turned (Or.inl (by omega)))
  have HO := hid (ho.mono (show w.heap.size + 2 ≤ _ by simp))
  have HC2 := hid hd.cur
  have hz2 : w.heap.size + 2 ≤ w2.heap.size := by have := hd.turned.size; simpa using this
  obtain ⟨uA, uc, rfl, -⟩ := HO.out.shape
  clear ho hd HA0 HA1 HB0 HB1 HC
  obtain ⟨B5, hB5⟩ : ∃ B5, w2.heap.size = B5 := ⟨_, rfl⟩
  have hbox := (Blk.new w2 26 #[.slice uA xs.length uc]).cell 0
  have HI3 : Hid (DI 3 26 w 1130 B5 (.slice uA xs.length uc) xs (w2.alloc (.cells #[.slice uA xs.length uc] 26))) :=
    hid ⟨below_alloc HB2.out _, (HC2.out.le (by omega)).below (below_alloc (Below.refl _ _) _), HA2.out.alloc _, by rw [← hB5]; exact Blk.new w2 _ _, HO.out.alloc _⟩
  have hB6 : w.heap.size + 2 ≤ B5 := by omega
  have hzw : w.heap.size + 2 ≤ (w2.alloc (.cells #[.slice uA xs.length uc] 26)).heap.size := by simp; omega
  clear HB2 HC2 HA2 HO hz2
  go_wp2
  obtain ⟨W, hW⟩ : ∃ W, w2.alloc (.cells #[.slice uA xs.length uc] 26) = W := ⟨_, rfl⟩
  rw [hW] at HI3 hzw ⊢
  clear hW hbox hB5
  have HIa := hid (HI3.out.below (below_drewN (below_alloc (Below.refl _ _) (.cells #[.int .i64 0, .int .i64 1, .int .i64 2, .int .i64 3, .int .i64 5, .int .i64 10, .int .i64 (-1)] 3)) 1))
  have t3 := HI3.out.2.2.2.1.cell 0
  have a3 := HI3.out.2.2.1.cell 0
  have f3 := HI3.out.2.2.1.frozen 0
  have t4 : (W.alloc (.cells #[.int .i64 0, .int .i64 1, .int .i64 2, .int .i64 3, .int .i64 5, .int .i64 10, .int .i64 (-1)] 3)).cell? ⟨B5, 0, none⟩ = some (.slice uA xs.length uc) := (HI3.out.2.2.2.1.alloc _).cell 0
  go_region_with (go_at_call 59; refine (among_any (w.heap.size + 1) 1130 _ [0, 1, 2, 3, 5, 10, -1] _ HIa.out.2.1 (by decide) ⟨_, Blk.newDrew W _ _, by simp at hzw ⊢; omega, rfl⟩ (by simp) (by simp)).mono ?_; rintro e w8 ⟨m, hm, rfl, hc8, ht8⟩; have HI8 := hid (HIa.out.drawn hc8 ht8 hB6); have HM := hid (getD_range (p := fun x => -1 ≤ x ∧ x ≤ 10) (l := [0, 1, 2, 3, 5, 10, -1]) (by decide) hm); clear hc8 ht8; have t8 := HI8.out.2.2.2.1.cell 0; have a8 := HI8.out.2.2.1.cell 0; have f8 := HI8.out.2.2.1.frozen 0; generalize ([0, 1, 2, 3, 5, 10, -1] : List Int).getD m 0 = y at HM ⊢)
  all_goals
    have H9 := hid ((DZ.of HI8.out).box hB6 (.slice uA xs.length uc))
    have a9 := H9.out.2.1.cell 0
    go_wp2
  all_goals
    refine bodyPost_ret (v := .tuple #[.agg #[.slice uA xs.length uc], .int .i64 s, .int .i64 y]) (by simp [results, Tryz.results13, go_sem, a9]) rfl ⟨_, xs, _, y, rfl, HW.out, H9.out.2.2.2.mono (show w.heap.size ≤ _ by omega), hl2, HM.out.1, HM.out.2, H9.out.1⟩
theorem drawGyrationLengths_any (v : Value) (bs : List Int) (w : World) (hb : BytesB w w.heap.size v bs) (hl : bs.length ≤ 1048576) :
    Calls Tryz.prog 26 #[v] w fun (r : Ending) w' => ∃ u xs, r = .returned (.agg #[u]) ∧ OwnI 3 w' w.heap.size u xs ∧ xs.length ≤ 21 ∧ Below w.heap.size w w' := by
  have HBy := hid hb
  obtain ⟨vA, vc, rfl, -⟩ := hb
  have HA0 := hid (Blk.new w 26 #[.slice none 0 0])
  have HB0 := hid (below_alloc (Below.refl _ w) (.cells #[.slice none 0 0] 26))
  go_enter Tryz.func26, Tryz.ntmps26
  go_wp2_with fail
  refine (drawFixedByRowvacuation_any _ bs _ ((HBy.out.below HB0.out).up (by simp)) hl).mono ?_
  rintro e w2 ⟨u, xs, rfl, ho, hl2, hb2⟩
  have HB2 := hid (below_to HB0.out hb2)
  have HA2 := hid (HA0.out.below hb2 HA0.out.lt)
  have HO := hid (ho.mono (show w.heap.size + 1 ≤ _ by simp))
  obtain ⟨uA, un, uc, rfl⟩ := ho.shape3
  clear ho hb2 HA0 HB0
  have a1 := HA2.out.cell 0
  have a2 := HA2.out.frozen 0
  go_wp2
  refine bodyPost_ret (v := .agg #[.slice uA un uc]) (by simp [results, Tryz.results26, go_sem, a1]) rfl ⟨_, xs, rfl, HO.out.box (Nat.le_refl _) _, hl2, HB2.out.setCell (p := ⟨w.heap.size, 0, none⟩) (Nat.le_refl _) _⟩
set_option maxHeartbeats 3200000 in
theorem drawToggleRanks_any (v : Value) (bs : List Int) (w : World) (hb : BytesB w w.heap.size v bs) (hl : bs.length ≤ 1048576) :
    Calls Tryz.prog 15 #[v] w fun (r : Ending) w' => ∃ u xs s q ys, r = .returned (.tuple #[.agg #[u], .int .i64 s, q]) ∧ (Lit.int .i64 s).wf = true ∧ OwnI 3 w' w.heap.size u xs ∧ xs.length ≤ 21 ∧ OwnI 3 w' w.heap.size q ys ∧ ys.length ≤ 120 ∧ Below w.heap.size w w' := by
  have HBy := hid hb
  obtain ⟨vA, vc, rfl, -⟩ := hb
  have HA0 := hid (Blk.new w 26 #[.slice none 0 0])
  have HB0 := hid (below_alloc (Below.refl _ w) (.cells #[.slice none 0 0] 26))
  go_enter Tryz.func15, Tryz.ntmps15
  go_wp2_with fail
  have HC := hid (Cur.new (w.alloc (.cells #[.slice none 0 0] 26)) _ bs (w.heap.size + 1) (by simp) ((HBy.out.below HB0.out).up (by simp)) hl)
  have HB1 := hid (below_alloc HB0.out (.cells #[.slice vA bs.length vc, .int .i64 0, .int .u64 0] 47))
  have HA1 := hid (HA0.out.alloc (.cells #[.slice vA bs.length vc, .int .i64 0, .int .u64 0] 47))
  refine (rankedIdeal_any (w.heap.size + 1) 0 8 _ HC.out (by decide) (by decide) (by decide)).mono ?_
  rintro e w2 ⟨u, xs, s, rfl, hwf, ho, hl2, hd⟩
  have HW := hid hwf
  clear hwf
  have HB2 := hid (hd.belowAll HB1.out (by omega))
  have HA2 := hid (HA1.out.turned hd.turned (Or.inl (by omega)))
  have HO := hid (ho.mono (show w.heap.size + 2 ≤ _ by simp))
  have HC2 := hid hd.cur
  have hz2 : w.heap.size + 2 ≤ w2.heap.size := by have := hd.turned.size; simpa using this
  obtain ⟨uA, uc, rfl, -⟩ := HO.out.shape
  clear ho hd HA0 HA1 HB0 HB1 HC
  obtain ⟨B5, hB5⟩ : ∃ B5, w2.heap.size = B5 := ⟨_, rfl⟩
  have hbox := (Blk.new w2 26 #[.slice uA xs.length uc]).cell 0
  have HI3 : Hid (DI 3 26 w 1130 B5 (.slice uA xs.length uc) xs (w2.alloc (.cells #[.slice uA xs.length uc] 26))) :=
    hid ⟨below_alloc HB2.out _, (HC2.out.le (by omega)).below (below_alloc (Below.refl _ _) _), HA2.out.alloc _, by rw [← hB5]; exact Blk.new w2 _ _, HO.out.alloc _⟩
  have hB6 : w.heap.size + 2 ≤ B5 := by omega
  have hzw : (w2.alloc (.cells #[.slice uA xs.length uc] 26)).heap.size = B5 + 1 := by simp; omega
  clear HB2 HC2 HA2 HO hz2
  go_wp2_with fail
  obtain ⟨W, hW⟩ : ∃ W, w2.alloc (.cells #[.slice uA xs.length uc] 26) = W := ⟨_, rfl⟩
  rw [hW] at HI3 hzw ⊢
  clear hW hbox hB5
  have hg2 : w.heap.size + 1 < W.heap.size := by omega
  have HD0 := hid (Drawn.mk HI3.out.2.1 (TurnedIn.refl _ _ W))
  have HD1 := hid (HD0.out.below (below_alloc (Below.refl _ _) (.cells #[.int .i64 0, .int .i64 1, .int .i64 3, .int .i64 8] 3)))
  refine (among_any (w.heap.size + 1) 1130 _ [0, 1, 3, 8] _ HD1.out.cur (by decide) ⟨_, Blk.new _ _ _, by omega, by simp⟩ (by decide) (by decide)).mono ?_
  rintro e w3 ⟨m, hm, rfl, hc3, ht3⟩
  have HD3 := hid (Drawn.mk hc3 (HD1.out.turned.trans ht3))
  have hy := hid (getD_range (p := fun x => 0 ≤ x ∧ x ≤ 8) (l := [0, 1, 3, 8]) (by decide) hm)
  obtain ⟨y, hy2⟩ : ∃ y, [(0 : Int), 1, 3, 8].getD m 0 = y := ⟨_, rfl⟩
  rw [hy2] at hy ⊢
  obtain ⟨n0, rfl⟩ := Int.eq_ofNat_of_zero_le hy.out.1
  have hn0 : n0 ≤ 8 := by have := hy.out.2; omega
  have hz3 : W.heap.size ≤ w3.heap.size := by have := ht3.size; simp at this; omega
  clear hc3 ht3 hy2 hm hy HD0 HD1
  go_wp2
  go_loopw [8, 9] (fun q i wr => ∃ (n : Nat) (ys : List Int), n ≤ 8 ∧ i = .int .i64 (n : Int) ∧ OwnI 3 wr W.heap.size q ys ∧ ys.length + n ≤ 8 ∧ Drawn W (w.heap.size + 1) (1132 + 2 * (8 - n)) wr ∧ W.heap.size ≤ wr.heap.size) (fun _ i _ => (intOf i).toNat)
  case atStart => exact ⟨n0, [], hn0, rfl, OwnI.nil _ _ _, by simpa using hn0, HD3.out.le (by omega), hz3⟩
  case round =>
    obtain ⟨n, ys, hn, rfl, ho, hlen, hd, hz⟩ := hrel
    have HO := hid ho
    have HD := hid hd
    obtain ⟨qA, qc, rfl, -⟩ := ho.shape
    clear ho hd
    by_cases hn1 : 0 < n
    · go_wp2_with fail
      refine (pick_any (w.heap.size + 1) (1132 + 2 * (8 - n)) 3 _ HD.out.cur (by omega)).mono ?_
      rintro e w4 ⟨p, hp, rfl, hc4, ht4⟩
      have HD4 := hid (Drawn.mk hc4 (HD.out.turned.trans ht4))
      have HO4 := hid (HO.out.turnedLow ht4 (by omega))
      have hz4 : W.heap.size ≤ w4.heap.size := by have := ht4.size; omega
      have hlen4 : ys.length < 1048576 := by omega
      clear hc4 ht4 HD HO hp
      go_wp2_with (at_builtin; refine wpList_append_int rfl _ _ 24 3 rfl Tryz.underlying24 Tryz.info3 W.heap.size _ _ (p : Int) rfl HO4.out rfl rfl hlen4 hz4 ?_; rintro q2 w5 ho5 hb5)
      have HO5 := hid ho5
      have HD5 := hid (HD4.out.belowB hb5 (by omega) (by omega))
      have hz5 : W.heap.size ≤ w5.heap.size := by have := hb5.size; omega
      clear ho5 hb5
      go_roundw
      case rel => exact ⟨n - 1, ys ++ [(p : Int)], by omega, by go_num, HO5.out, by (rw [List.length_append, List.length_singleton]; omega), HD5.out.le (by omega), hz5⟩
      case measure => simp [intOf]; omega
    · obtain rfl : n = 0 := by omega
      have hl10 : ys.length ≤ 8 := by omega
      clear hn1 hn hlen
      go_wp2_with fail
      refine (one_any (w.heap.size + 1) 1148 25 _ HD.out.cur (by decide)).mono ?_
      rintro e w4 ⟨bo, rfl, hc4, ht4⟩
      have HD4 := hid (Drawn.mk hc4 (HD.out.turned.trans ht4))
      have HO4 := hid (HO.out.turnedLow ht4 (by omega))
      have hz4 : W.heap.size ≤ w4.heap.size := by have := ht4.size; omega
      clear hc4 ht4 HD HO
      cases bo
      · have HI9 := hid (HI3.out.drawn HD4.out.cur HD4.out.turned hB6)
        have t9 := HI9.out.2.2.2.1.cell 0
        have a8 := HI9.out.2.2.1.cell 0
        have f8 := HI9.out.2.2.1.frozen 0
        have H9 := hid ((DZ.of HI9.out).box hB6 (.slice uA xs.length uc))
        have a9 := H9.out.2.1.cell 0
        go_wp2
        refine bodyPost_ret (v := .tuple #[.agg #[.slice uA xs.length uc], .int .i64 s, .slice qA ys.length qc]) (by simp [results, Tryz.results15, go_sem, a9]) rfl ⟨_, xs, _, _, ys, rfl, HW.out, H9.out.2.2.2.mono (show w.heap.size ≤ _ by omega), hl2, HO4.out.box (by omega) _, by omega, H9.out.1⟩
      · go_wp2
        go_loopw [8] (fun q wr => ∃ (zs : List Int), OwnI 3 wr W.heap.size q zs ∧ zs.length ≤ 41 ∧ Drawn W (w.heap.size + 1) (1150 + 2 * zs.length) wr ∧ W.heap.size ≤ wr.heap.size) (fun q _ => 42 - lenVW q)
        case atStart => exact ⟨ys, HO4.out, by omega, HD4.out.le (by omega), hz4⟩
        case round =>
          obtain ⟨zs, ho, hlen, hd, hz⟩ := hrel
          have HO := hid ho
          have HD := hid hd
          obtain ⟨zA, zc, rfl, -⟩ := ho.shape
          clear ho hd
          go_wp2_with fail
          refine (pick_any (w.heap.size + 1) (1150 + 2 * zs.length) 2 _ HD.out.cur (by omega)).mono ?_
          rintro e w6 ⟨p, hp, rfl, hc6, ht6⟩
          have HD6 := hid (Drawn.mk hc6 (HD.out.turned.trans ht6))
          have HO6 := hid (HO.out.turnedLow ht6 (by omega))
          have hz6 : W.heap.size ≤ w6.heap.size := by have := ht6.size; omega
          have hlen6 : zs.length < 1048576 := by omega
          have hp1 : p ≤ 1 := by omega
          clear hc6 ht6 HD HO hp
          by_cases hlt : zs.length < 40 + p
          · go_wp2_with (at_builtin; refine wpList_append_int rfl _ _ 24 3 rfl Tryz.underlying24 Tryz.info3 W.heap.size _ _ (0 : Int) rfl HO6.out rfl rfl hlen6 hz6 ?_; rintro q2 w7 ho7 hb7)
            have hsz : W.heap.size ≤ w7.heap.size := by have := hb7.size; omega
            have hsh := ho7.shape
            have HO7 := hid ho7
            have HD7 := hid (HD6.out.belowB hb7 (by omega) (by omega))
            obtain ⟨q2A, q2c, rfl, -⟩ := hsh
            clear ho7 hb7
            go_roundw
            case rel => exact ⟨_, HO7.out, by (rw [List.length_append, List.length_singleton]; omega), HD7.out.le (by rw [List.length_append, List.length_singleton]; omega), hsz⟩
            case measure => simp [lenVW]; omega
          · have HI9 := hid (HI3.out.drawn HD6.out.cur HD6.out.turned hB6)
            have t9 := HI9.out.2.2.2.1.cell 0
            have a8 := HI9.out.2.2.1.cell 0
            have f8 := HI9.out.2.2.1.frozen 0
            have H9 := hid ((DZ.of HI9.out).box hB6 (.slice uA xs.length uc))
            have a9 := H9.out.2.1.cell 0
            go_wp2
            refine bodyPost_ret (v := .tuple #[.agg #[.slice uA xs.length uc], .int .i64 s, .slice zA zs.length zc]) (by simp [results, Tryz.results15, go_sem, a9]) rfl ⟨_, xs, _, _, zs, rfl, HW.out, H9.out.2.2.2.mono (show w.heap.size ≤ _ by omega), hl2, HO6.out.box (by omega) _, by omega, H9.out.1⟩
end Go.Proofs.YtdemikjaghegnaaGreat

/- When two toggles commute. No program is named here. -/
namespace Go.Proofs.YtdemikjaghegnaaGreat
set_option linter.unusedVariables false

/-- would toggling at e turn s? -/
def can (xs : List Int) (s e : Nat) : Bool := holdsIdeal xs (s ^^^ 2 ^ e)
theorem tog_can {xs : List Int} {s e : Nat} (h : can xs s e = true) : tog xs s e = s ^^^ 2 ^ e := tog_yes h
theorem tog_cant {xs : List Int} {s e : Nat} (h : can xs s e = false) : tog xs s e = s := tog_no h
/-- an element that is there can go if nothing above it is there; one that isn't can come if all below are there -/
theorem can_in {xs : List Int} (hg : good xs = true) {s e : Nat} (hs : holdsIdeal xs s = true) (he : e < xs.length) (hb : s.testBit e = true) :
    can xs s e = true ↔ ∀ i, i < xs.length → s.testBit i = true → (row xs i).testBit e = false := by
  unfold can
  rw [holdsIdeal_row]
  have hI := holdsIdeal_row.1 hs
  constructor
  · intro h i hi hbi
    cases hr : (row xs i).testBit e
    · rfl
    · exfalso
      have hei : e < i := testBit_lt (row_lt hg hi).2 hr
      have := h i hi (by rw [xor_bit, if_neg (by omega)]; exact hbi) e hr
      rw [xor_bit, if_pos rfl, hb] at this; cases this
  · intro h i hi hbi j hj
    rw [xor_bit] at hbi ⊢
    split at hbi
    · rw [hb] at hbi; cases hbi
    · split
      · rename_i hje
        subst hje
        rw [h i hi hbi] at hj; cases hj
      · exact hI i hi hbi j hj
theorem can_out {xs : List Int} (hg : good xs = true) {s e : Nat} (hs : holdsIdeal xs s = true) (he : e < xs.length) (hb : s.testBit e = false) :
    can xs s e = true ↔ ∀ j, (row xs e).testBit j = true → s.testBit j = true := by
  unfold can
  rw [holdsIdeal_row]
  have hI := holdsIdeal_row.1 hs
  constructor
  · intro h j hj
    have hje : j < e := testBit_lt (row_lt hg he).2 hj
    have := h e he (by rw [xor_bit, if_pos rfl, hb]; rfl) j hj
    rw [xor_bit, if_neg (by omega)] at this
    exact this
  · intro h i hi hbi j hj
    rw [xor_bit] at hbi ⊢
    split at hbi
    · rename_i hie
      subst hie
      have hje : j < i := testBit_lt (row_lt hg hi).2 hj
      rw [if_neg (by omega)]
      exact h j hj
    · have := hI i hi hbi j hj
      split
      · rename_i hje
        subst hje
        rw [hb] at this; cases this
      · exact this
/-- no cover between d and e, neither way -/
def Apart (xs : List Int) (d e : Nat) : Prop :=
  ((row xs e).testBit d = true → ∃ m, m < xs.length ∧ (row xs e).testBit m = true ∧ (row xs m).testBit d = true) ∧
  ((row xs d).testBit e = true → ∃ m, m < xs.length ∧ (row xs d).testBit m = true ∧ (row xs m).testBit e = true)
theorem Apart.symm {xs : List Int} {d e : Nat} (h : Apart xs d e) : Apart xs e d := ⟨h.2, h.1⟩
theorem can_stays {xs : List Int} (hg : good xs = true) {s d e : Nat} (hs : holdsIdeal xs s = true) (hd : d < xs.length) (he : e < xs.length) (hne : d ≠ e) (hap : Apart xs d e) (hce : can xs s e = true) :
    can xs (s ^^^ 2 ^ e) d = can xs s d := by
  have hs' : holdsIdeal xs (s ^^^ 2 ^ e) = true := hce
  have hI := holdsIdeal_row.1 hs
  have hbd : (s ^^^ 2 ^ e).testBit d = s.testBit d := by rw [xor_bit, if_neg hne]
  rw [Bool.eq_iff_iff]
  cases hb : s.testBit d
  · rw [can_out hg hs hd hb, can_out hg hs' hd (by rw [hbd, hb])]
    -- e below d: by an m between
    cases hr : (row xs d).testBit e
    · constructor
      · intro h j hj
        have := h j hj
        rw [xor_bit] at this
        split at this
        · rename_i hje; subst hje; rw [hr] at hj; cases hj
        · exact this
      · intro h j hj
        rw [xor_bit]
        split
        · rename_i hje; subst hje; rw [hr] at hj; cases hj
        · exact h j hj
    · obtain ⟨m, hm, h1, h2⟩ := hap.2 hr
      have hem : e < m := testBit_lt (row_lt hg hm).2 h2
      -- m isn't there, now and then
      have hms : s.testBit m = false := by
        cases hse : s.testBit e
        · cases hsm : s.testBit m
          · rfl
          · rw [hI m hm hsm e h2] at hse; cases hse
        · have := (can_in hg hs he hse).1 hce
          cases hsm : s.testBit m
          · rfl
          · rw [this m hm hsm] at h2; cases h2
      constructor
      · intro h
        have := h m h1
        rw [xor_bit, if_neg (by omega), hms] at this; cases this
      · intro h
        have := h m h1
        rw [hms] at this; cases this
  · rw [can_in hg hs hd hb, can_in hg hs' hd (by rw [hbd, hb])]
    cases hr : (row xs e).testBit d
    · constructor
      · intro h i hi hbi
        by_cases hie : i = e
        · subst hie; exact hr
        · exact h i hi (by rw [xor_bit, if_neg hie]; exact hbi)
      · intro h i hi hbi
        by_cases hie : i = e
        · subst hie; exact hr
        · rw [xor_bit, if_neg hie] at hbi
          exact h i hi hbi
    · obtain ⟨m, hm, h1, h2⟩ := hap.1 hr
      have hdm : d < m := testBit_lt (row_lt hg hm).2 h2
      have hme : m < e := testBit_lt (row_lt hg he).2 h1
      have hms : s.testBit m = true := by
        cases hse : s.testBit e
        · exact (can_out hg hs he hse).1 hce m h1
        · exact hI e he hse m h1
      constructor
      · intro h
        have := h m hm (by rw [xor_bit, if_neg (by omega)]; exact hms)
        rw [h2] at this; cases this
      · intro h
        have := h m hm hms
        rw [h2] at this; cases this
theorem xor_swap (s d e : Nat) : s ^^^ 2 ^ d ^^^ 2 ^ e = s ^^^ 2 ^ e ^^^ 2 ^ d := by
  rw [Nat.xor_assoc, Nat.xor_comm (2 ^ d), ← Nat.xor_assoc]
theorem tog_swap {xs : List Int} (hg : good xs = true) {s d e : Nat} (hs : holdsIdeal xs s = true) (hd : d < xs.length) (he : e < xs.length) (hap : Apart xs d e) :
    tog xs (tog xs s d) e = tog xs (tog xs s e) d := by
  by_cases hne : d = e
  · subst hne; rfl
  · cases h1 : can xs s d
    · cases h2 : can xs s e
      · rw [tog_cant h1, tog_cant h2, tog_cant h1]
      · rw [tog_cant h1, tog_can h2, tog_cant]
        rw [can_stays hg hs hd he hne hap h2, h1]
    · cases h2 : can xs s e
      · rw [tog_can h1, tog_cant h2, tog_can h1, tog_cant]
        rw [can_stays hg hs he hd (fun h => hne h.symm) hap.symm h1, h2]
      · rw [tog_can h1, tog_can h2, tog_can, tog_can, xor_swap]
        · rw [can_stays hg hs hd he hne hap h2, h1]
        · rw [can_stays hg hs he hd (fun h => hne h.symm) hap.symm h1, h2]
/-- d covered by e: the elements below e, without d, tell the toggles apart -/
theorem tog_apart {xs : List Int} (hg : good xs = true) {d e : Nat} (he : e < xs.length) (hr : (row xs e).testBit d = true)
    (hno : ∀ m, m < xs.length → (row xs e).testBit m = true → (row xs m).testBit d = false) :
    holdsIdeal xs (row xs e ^^^ 2 ^ d) = true ∧ row xs e ^^^ 2 ^ d < 2 ^ xs.length ∧
      (tog xs (tog xs (row xs e ^^^ 2 ^ d) d) e).testBit e = true ∧ (tog xs (tog xs (row xs e ^^^ 2 ^ d) e) d).testBit e = false := by
  have hde : d < e := testBit_lt (row_lt hg he).2 hr
  have hd : d < xs.length := by omega
  have hrow : holdsIdeal xs (row xs e) = true := holdsIdeal_row.2 fun i hi hbi j hj => row_closed hg he hbi hj
  have hI : holdsIdeal xs (row xs e ^^^ 2 ^ d) = true := (can_in hg hrow hd hr).2 fun i hi hbi => hno i hi hbi
  have hee : (row xs e).testBit e = false := Nat.testBit_lt_two_pow (row_lt hg he).2
  have hb : (row xs e ^^^ 2 ^ d).testBit d = false := by rw [xor_bit, if_pos rfl, hr]; rfl
  have h1 : tog xs (row xs e ^^^ 2 ^ d) d = row xs e := by
    rw [tog_can (show can xs (row xs e ^^^ 2 ^ d) d = true by unfold can; rw [xor_xor]; exact hrow), xor_xor]
  have h2 : tog xs (row xs e) e = row xs e ^^^ 2 ^ e := tog_can ((can_out hg hrow he hee).2 fun j hj => hj)
  have hee2 : (row xs e ^^^ 2 ^ d).testBit e = false := by rw [xor_bit, if_neg (by omega)]; exact hee
  have h3 : tog xs (row xs e ^^^ 2 ^ d) e = row xs e ^^^ 2 ^ d := tog_cant (by
    cases hc : can xs (row xs e ^^^ 2 ^ d) e
    · rfl
    · have := (can_out hg hI he hee2).1 hc d hr
      rw [hb] at this; cases this)
  refine ⟨hI, ?_, ?_, ?_⟩
  · exact xor_lt_len (row_lt_len hg he) hd
  · rw [h1, h2, xor_bit, if_pos rfl, hee]; rfl
  · rw [h3, h1]; exact hee
/-- is one of them covered by the other? -/
def covered (xs : List Int) (d e : Nat) : Bool := (top xs (row xs (max d e))).testBit (min d e)
theorem top_row {xs : List Int} {i j : Nat} : (top xs (row xs i)).testBit j = true ↔ (row xs i).testBit j = true ∧ ∀ m, m < xs.length → (row xs i).testBit m = true → (row xs m).testBit j = false := by
  unfold top
  rw [sub_testBit, Bool.and_eq_true, Bool.not_eq_true']
  constructor
  · rintro ⟨h1, h2⟩
    refine ⟨h1, fun m hm hb => ?_⟩
    cases hr : (row xs m).testBit j
    · rfl
    · have := (underN_testBit xs (row xs i) xs.length j).2 ⟨m, hm, hb, hr⟩
      unfold under at h2
      rw [this] at h2; cases h2
  · rintro ⟨h1, h2⟩
    refine ⟨h1, ?_⟩
    cases hu : (under xs (row xs i)).testBit j
    · rfl
    · obtain ⟨m, hm, hb, hr⟩ := (underN_testBit xs (row xs i) xs.length j).1 hu
      have := h2 m hm hb
      unfold row at this
      rw [this] at hr; cases hr
theorem covered_no {xs : List Int} (hg : good xs = true) {d e : Nat} (hd : d < xs.length) (he : e < xs.length) (h : covered xs d e = false) : Apart xs d e := by
  have key : ∀ {a b : Nat}, a < xs.length → b < xs.length → (top xs (row xs b)).testBit a = false → (row xs b).testBit a = true → ∃ m, m < xs.length ∧ (row xs b).testBit m = true ∧ (row xs m).testBit a = true := by
    intro a b ha hb ht hr
    apply Classical.byContradiction
    intro hn
    rw [Bool.eq_false_iff] at ht
    apply ht
    refine top_row.2 ⟨hr, fun m hm hbm => ?_⟩
    cases hc : (row xs m).testBit a
    · rfl
    · exact absurd ⟨m, hm, hbm, hc⟩ hn
  unfold covered at h
  constructor
  · intro hr
    have hde : d < e := testBit_lt (row_lt hg he).2 hr
    rw [Nat.max_eq_right (by omega), Nat.min_eq_left (by omega)] at h
    exact key hd he h hr
  · intro hr
    have hde : e < d := testBit_lt (row_lt hg hd).2 hr
    rw [Nat.max_eq_left (by omega), Nat.min_eq_right (by omega)] at h
    exact key he hd h hr
/-- do the two toggles commute on s? -/
def swapAt (xs : List Int) (d e s : Nat) : Bool := tog xs (tog xs s d) e == tog xs (tog xs s e) d
theorem covered_yes {xs : List Int} (hg : good xs = true) {d e : Nat} (hd : d < xs.length) (he : e < xs.length) (h : covered xs d e = true) : ∃ s, s < 2 ^ xs.length ∧ holdsIdeal xs s = true ∧ swapAt xs d e s = false := by
  unfold covered at h
  rcases Nat.lt_trichotomy d e with hde | hde | hde
  · rw [Nat.max_eq_right (by omega), Nat.min_eq_left (by omega)] at h
    obtain ⟨h1, h2⟩ := top_row.1 h
    obtain ⟨h3, h4, h5, h6⟩ := tog_apart hg he h1 h2
    refine ⟨_, h4, h3, ?_⟩
    unfold swapAt
    rw [beq_eq_false_iff_ne]
    intro hc
    rw [hc, h6] at h5; cases h5
  · subst hde
    rw [Nat.max_self, Nat.min_self] at h
    obtain ⟨h1, -⟩ := top_row.1 h
    have := testBit_lt (row_lt hg hd).2 h1
    omega
  · rw [Nat.max_eq_left (by omega), Nat.min_eq_right (by omega)] at h
    obtain ⟨h1, h2⟩ := top_row.1 h
    obtain ⟨h3, h4, h5, h6⟩ := tog_apart hg hd h1 h2
    refine ⟨_, h4, h3, ?_⟩
    unfold swapAt
    rw [beq_eq_false_iff_ne]
    intro hc
    rw [← hc, h6] at h5; cases h5
theorem covered_all {xs : List Int} (hg : good xs = true) {d e s : Nat} (hd : d < xs.length) (he : e < xs.length) (h : covered xs d e = false) (hs : holdsIdeal xs s = true) : swapAt xs d e s = true := by
  unfold swapAt
  rw [beq_iff_eq]
  exact tog_swap hg hs hd he (covered_no hg hd he h)
end Go.Proofs.YtdemikjaghegnaaGreat

/- Cycles of a motion on the ideals; common multiples. No program is named here. -/
namespace Go.Proofs.YtdemikjaghegnaaGreat
set_option linter.unusedVariables false

def cntF (seen : List Bool) : Nat := seen.count false
theorem cntF_set {seen : List Bool} {s : Nat} (hs : s < seen.length) (h : seen.getD s true = false) : cntF (seen.set s true) + 1 = cntF seen := by
  unfold cntF
  induction seen generalizing s with
  | nil => simp at hs
  | cons b l ih =>
    match s with
    | 0 =>
      simp [List.getD] at h
      subst h
      simp
    | s + 1 =>
      have h1 : s < l.length := by simpa using hs
      have h2 : l.getD s true = false := by simpa [List.getD] using h
      have := ih h1 h2
      rw [List.set_cons_succ, List.count_cons, List.count_cons]
      omega
theorem cntF_le (seen : List Bool) : cntF seen ≤ seen.length := List.count_le_length
/-- one cycle, from s on: what has been seen behind it, and its length -/
def cycIn (f : Nat → Nat) : Nat → List Bool → Nat → Nat → List Bool × Nat
  | 0, seen, _, n => (seen, n)
  | c + 1, seen, s, n => if seen.getD s true = true then (seen, n) else cycIn f c (seen.set s true) (f s) (n + 1)
def cyc1 (f : Nat → Nat) (seen : List Bool) (s n : Nat) : List Bool × Nat := cycIn f (cntF seen) seen s n
theorem cyc1_stop {f : Nat → Nat} {seen : List Bool} {s n : Nat} (h : seen.getD s true = true) : cyc1 f seen s n = (seen, n) := by
  unfold cyc1
  cases hc : cntF seen
  · rfl
  · unfold cycIn; rw [if_pos h]
theorem cyc1_go {f : Nat → Nat} {seen : List Bool} {s n : Nat} (hs : s < seen.length) (h : seen.getD s true = false) : cyc1 f seen s n = cyc1 f (seen.set s true) (f s) (n + 1) := by
  unfold cyc1
  have := cntF_set hs h
  rw [← this, cycIn, if_neg (by rw [h]; decide)]
theorem cyc1_length (f : Nat → Nat) (seen : List Bool) (s n : Nat) : (cyc1 f seen s n).1.length = seen.length := by
  unfold cyc1
  generalize cntF seen = c
  induction c generalizing seen s n with
  | zero => rfl
  | succ c ih =>
    unfold cycIn
    split
    · rfl
    · rw [ih, List.length_set]
theorem cyc1_le (f : Nat → Nat) (seen : List Bool) (s n : Nat) : (cyc1 f seen s n).2 ≤ n + seen.length := by
  have key : ∀ c (seen : List Bool) (s n : Nat), (cycIn f c seen s n).2 ≤ n + c := by
    intro c
    induction c with
    | zero => intro seen s n; exact Nat.le_refl _
    | succ c ih =>
      intro seen s n
      unfold cycIn
      split
      · exact Nat.le_add_right _ _
      · have := ih (seen.set s true) (f s) (n + 1)
        omega
  have h1 := key (cntF seen) seen s n
  have h2 := cntF_le seen
  unfold cyc1
  omega
/-- the cycles from the first k ideals on -/
def cycSt (f : Nat → Nat) (N : Nat) (ids : List Int) : Nat → List Bool × List Int
  | 0 => (List.replicate N false, [])
  | k + 1 =>
    let st := cycSt f N ids k
    let r := cyc1 f st.1 (ids.getD k 0).toNat 0
    (r.1, if 0 < r.2 then st.2 ++ [(r.2 : Int)] else st.2)
theorem cycSt_length (f : Nat → Nat) (N : Nat) (ids : List Int) (k : Nat) : (cycSt f N ids k).1.length = N ∧ (cycSt f N ids k).2.length ≤ k := by
  induction k with
  | zero => simp [cycSt]
  | succ k ih =>
    simp only [cycSt]
    rw [cyc1_length]
    refine ⟨ih.1, ?_⟩
    split
    · rw [List.length_append]; simp only [List.length_singleton]; omega
    · omega
theorem cycSt_pos (f : Nat → Nat) (N : Nat) (ids : List Int) (k : Nat) : ∀ x ∈ (cycSt f N ids k).2, 1 ≤ x ∧ x ≤ N := by
  induction k with
  | zero => simp [cycSt]
  | succ k ih =>
    simp only [cycSt]
    split
    · rename_i h
      intro x hx
      rw [List.mem_append] at hx
      rcases hx with hx | hx
      · exact ih x hx
      · rw [List.mem_singleton] at hx
        subst hx
        have := cyc1_le f (cycSt f N ids k).1 (ids.getD k 0).toNat 0
        rw [(cycSt_length f N ids k).1] at this
        omega
    · exact ih
def cyclesL (f : Nat → Nat) (N : Nat) (ids : List Int) : List Int := (cycSt f N ids ids.length).2

/-! ### greatest common divisors, least common multiples -/
theorem tmod_nat (m n : Nat) : ((m : Int).tmod (n : Int)) = ((m % n : Nat) : Int) := by
  rw [Int.tmod_eq_emod_of_nonneg (Int.natCast_nonneg _)]; simp
theorem tdiv_nat (m n : Nat) : ((m : Int).tdiv (n : Int)) = ((m / n : Nat) : Int) := by
  rw [Int.tdiv_eq_ediv_of_nonneg (Int.natCast_nonneg _)]; simp
/-- the common multiple of the first k, none once it is too great -/
def lcmN (ls : List Int) : Nat → Option Nat
  | 0 => some 1
  | k + 1 => (lcmN ls k).bind fun m => if 1000000000000000 < m / Nat.gcd m (ls.getD k 0).toNat * (ls.getD k 0).toNat then none else some (m / Nat.gcd m (ls.getD k 0).toNat * (ls.getD k 0).toNat)
theorem lcmN_le {ls : List Int} (hp : ∀ x ∈ ls, 1 ≤ x) (k : Nat) (hk : k ≤ ls.length) : ∀ m, lcmN ls k = some m → 1 ≤ m ∧ m ≤ 1000000000000000 := by
  induction k with
  | zero => intro m h; simp only [lcmN, Option.some.injEq] at h; omega
  | succ k ih =>
    intro m h
    simp only [lcmN] at h
    cases hq : lcmN ls k with
    | none => rw [hq] at h; simp at h
    | some q =>
      rw [hq, Option.bind_some] at h
      split at h
      · cases h
      · rename_i hn
        simp only [Option.some.injEq] at h
        have h1 := ih (by omega) q hq
        have hx := hp (ls.getD k 0) (by simp [List.getD, show k < ls.length by omega])
        have hg := Nat.le_of_dvd (by omega) (Nat.gcd_dvd_left q (ls.getD k 0).toNat)
        have hg0 : 0 < Nat.gcd q (ls.getD k 0).toNat := Nat.gcd_pos_of_pos_left _ (by omega)
        have h3 : 0 < q / Nat.gcd q (ls.getD k 0).toNat := Nat.div_pos hg hg0
        have h4 : 0 < q / Nat.gcd q (ls.getD k 0).toNat * (ls.getD k 0).toNat := Nat.mul_pos h3 (by omega)
        omega
def lcmAll (ls : List Int) : Option Nat := lcmN ls ls.length
theorem lcmN_none {ls : List Int} {k : Nat} (h : lcmN ls k = none) (j : Nat) (hj : k ≤ j) : lcmN ls j = none := by
  induction j with
  | zero => have : k = 0 := by omega
            subst this; exact h
  | succ j ih =>
    by_cases e : k = j + 1
    · subst e; exact h
    · simp only [lcmN, ih (by omega)]; rfl
/-- a quotient too great for the bound: the product is -/
theorem div_bound {a n M : Nat} (hn : 1 ≤ n) : M / n < a ↔ M < a * n := by
  rw [Nat.div_lt_iff_lt_mul (by omega)]
theorem mul_gcd_swap (m n : Nat) (hn : 1 ≤ n) : m / Nat.gcd m n * n = m * (n / Nat.gcd m n) := by
  obtain ⟨a, ha⟩ := Nat.gcd_dvd_left m n
  obtain ⟨b, hb⟩ := Nat.gcd_dvd_right m n
  have hg0 : 0 < Nat.gcd m n := Nat.gcd_pos_of_pos_right _ (by omega)
  obtain ⟨g, hg⟩ : ∃ g, Nat.gcd m n = g := ⟨_, rfl⟩
  rw [hg] at ha hb hg0 ⊢
  rw [ha, hb, Nat.mul_div_cancel_left _ hg0, Nat.mul_div_cancel_left _ hg0]
  rw [← Nat.mul_assoc, Nat.mul_comm a g]
end Go.Proofs.YtdemikjaghegnaaGreat
