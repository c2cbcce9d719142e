/- Texts DrY, Tg3, Cyc, one behind the other. -/
import Derived.Test.YtpdoheagfjeefaaPkTogglesUndoProof04
import Derived.Test.YtpdoheagfjeefaaPkTogglesUndoProof05
import Derived.Test.YtpdoheagfjeefaaPkTogglesUndoProof09
/- The draw of the model for DoCommute. (by gendrx2.py) -/
namespace Go.Proofs.Ytpdoheagfjeefaa
open Go.RowKit Go.WideShapes Go.ChangeShapes
set_option linter.unusedVariables false

theorem Pairs.at {ti ts : TypeId} {w : World} {B : Nat} {v : Value} {ps : List (Nat × Nat)} (h : Pairs ti ts w B v ps) {j : Nat} (hj : j < ps.length) :
    ∃ b g c, v = .slice (some ⟨b, 0, none⟩) ps.length c ∧ b < w.heap.size ∧ B ≤ g ∧ Blk w g ti #[.int .i64 ((ps.getD j (0, 0)).1 : Int), .int .i64 ((ps.getD j (0, 0)).2 : Int)] ∧ w.cell? ⟨b, j, none⟩ = some (.slice (some ⟨g, 0, none⟩) 2 2) := by
  obtain ⟨us, h1, h2, h3, -⟩ := h
  rcases h2.2 with ⟨rfl, hn⟩ | ⟨b, cap, cur, rfl, hB, hh, _⟩
  · omega
  · have hu : us[j]? = some us[j] := List.getElem?_eq_getElem (by omega)
    have hp : ps[j]? = some ps[j] := List.getElem?_eq_getElem hj
    obtain ⟨g, e, hBg, hg⟩ := h3 j _ _ hu hp
    have hc := h2.cellAt j (by omega)
    rw [hu, e] at hc
    have hbl : b < w.heap.size := by
      rcases Nat.lt_or_ge b w.heap.size with hlt | hge
      · exact hlt
      · rw [Array.getElem?_eq_none hge] at hh; cases hh
    have e2 : ps.getD j (0, 0) = ps[j] := by simp [List.getD, hp]
    exact ⟨b, g, cap, rfl, hbl, hBg, by rw [e2]; exact hg, hc⟩
/-- one of two -/
def sel2 (a b k : Nat) : Nat := if k = 0 then a else b
theorem sel2_le {a b k m : Nat} (h1 : a ≤ m) (h2 : b ≤ m) : sel2 a b k ≤ m := by unfold sel2; split <;> omega
theorem pairCell {w : World} {g : Nat} {t : TypeId} {a b : Nat} (h : Blk w g t #[.int .i64 (a : Int), .int .i64 (b : Int)]) {k : Nat} (hk : k < 2) : w.cell? ⟨g, k, none⟩ = some (.int .i64 ((sel2 a b k : Nat) : Int)) := by
  rcases (by omega : k = 0 ∨ k = 1) with rfl | rfl
  · exact h.cell 0
  · exact h.cell 1
set_option maxHeartbeats 3200000 in
theorem drawDoCommute_any (v : Value) (bs : List Int) (w : World) (hb : BytesB w w.heap.size v bs) (hl : bs.length ≤ 1048576) :
    Calls Try.prog 30 #[v] w fun (r : Ending) w' => ∃ u xs d e, r = .returned (.tuple #[.agg #[u], .int .i64 d, .int .i64 e]) ∧ OwnI 3 w' w.heap.size u xs ∧ xs.length ≤ 21 ∧ (-100 ≤ d ∧ d ≤ 100) ∧ (-100 ≤ e ∧ e ≤ 100) ∧ Below w.heap.size w w' := by
  have HBy := hid hb
  obtain ⟨vA, vc, rfl, -⟩ := hb
  have HA0 := hid (Blk.new w 26 #[.slice none 0 0])
  have HB0 := hid (below_alloc (Below.refl _ w) (.cells #[.slice none 0 0] 26))
  go_enter Try.func30, Try.ntmps30
  go_wp2_with fail
  have HC := hid (Cur.new (w.alloc (.cells #[.slice none 0 0] 26)) _ bs (w.heap.size + 1) (by simp) ((HBy.out.below HB0.out).up (by simp)) hl)
  have HB1 := hid (below_alloc HB0.out (.cells #[.slice vA bs.length vc, .int .i64 0, .int .u64 0] 79))
  have HA1 := hid (HA0.out.alloc (.cells #[.slice vA bs.length vc, .int .i64 0, .int .u64 0] 79))
  refine (poset_any (w.heap.size + 1) 0 7 _ HC.out (by decide) (by decide) (by decide)).mono ?_
  rintro e w2 ⟨u, xs, rfl, ho, hl2, hd⟩
  have HB2 := hid (hd.belowAll HB1.out (by omega))
  have HA2 := hid (HA1.out.turned hd.turned (Or.inl (by omega)))
  have HO := hid (ho.mono (show w.heap.size + 2 ≤ _ by simp))
  have HC2 := hid hd.cur
  have hz2 : w.heap.size + 2 ≤ w2.heap.size := by have := hd.turned.size; simpa using this
  obtain ⟨uA, uc, rfl, -⟩ := HO.out.shape
  clear ho hd HA0 HA1 HB0 HB1 HC
  obtain ⟨B5, hB5⟩ : ∃ B5, w2.heap.size = B5 := ⟨_, rfl⟩
  have hbox := (Blk.new w2 26 #[.slice uA xs.length uc]).cell 0
  go_wp2_with fail
  have HI3 : Hid (DI 3 26 w 210 B5 (.slice uA xs.length uc) xs (w2.alloc (.cells #[.slice uA xs.length uc] 26))) :=
    hid ⟨below_alloc HB2.out _, (HC2.out.le (by omega)).below (below_alloc (Below.refl _ _) _), HA2.out.alloc _, by rw [← hB5]; exact Blk.new w2 _ _, HO.out.alloc _⟩
  clear hbox HB2 HC2 HA2 HO
  have hB6 : w.heap.size + 2 ≤ B5 := by omega
  clear hB5 hz2
  refine (poGood_any _ xs _ HI3.out.2.2.2.2.ints (by omega)).mono ?_
  rintro e w5 ⟨rfl, hb5⟩
  have HI5 := hid (HI3.out.below hb5)
  clear hb5 HI3
  cases hg : good xs
  · skip
    have HIa := hid (HI5.out.below (below_drewN (Below.refl _ _) 1))
    have t3 := HI5.out.2.2.2.1.cell 0
    have a3 := HI5.out.2.2.1.cell 0
    have f3 := HI5.out.2.2.1.frozen 0
    have hwl : IntKind.i64.wrap ((xs.length : Int) + 1) = (xs.length : Int) + 1 := by rw [IntKind.wrap_i64]; omega
    go_wp2
    go_region_held3 (fun W => W.cell? ⟨B5, 0, none⟩ = some (.slice uA xs.length uc) ∧ Hid (∃ z, DZ 3 26 w B5 z (.slice uA xs.length uc) xs W)) (first | exact ⟨((DZ.of HIz.out).box hB6 _).2.2.1.cell 0, hid ⟨_, (DZ.of HIz.out).box hB6 _⟩⟩ | exact ⟨HIz.out.2.2.2.1.cell 0, hid ⟨_, DZ.of HIz.out⟩⟩ | exact ⟨HIy.out.2.2.2.1.cell 0, hid ⟨_, DZ.of HIy.out⟩⟩ | exact ⟨HIx.out.2.2.2.1.cell 0, hid ⟨_, DZ.of HIx.out⟩⟩ | exact ⟨HIa.out.2.2.2.1.cell 0, hid ⟨_, DZ.of HIa.out⟩⟩) (first | (go_at_call 107; refine (pick_any (w.heap.size + 1) 214 _ _ HIy.out.2.1 (by decide)).mono ?_; rintro e w32 ⟨m3, hm, rfl, hc, ht⟩; have HIz := hid (HIy.out.drawn hc ht hB6); have hm3 : m3 ≤ 50 := (by omega); clear hc ht hm; have t32 := HIz.out.2.2.2.1.cell 0; have a32 := HIz.out.2.2.1.cell 0; have f32 := HIz.out.2.2.1.frozen 0) | (go_at_call 107; refine (pick_any (w.heap.size + 1) 212 _ _ HIx.out.2.1 (by decide)).mono ?_; rintro e w31 ⟨m2, hm, rfl, hc, ht⟩; have HIy := hid (HIx.out.drawn hc ht hB6); have hm2 : m2 ≤ 8 := (by omega); clear hc ht hm; have t31 := HIy.out.2.2.2.1.cell 0; have a31 := HIy.out.2.2.1.cell 0; have f31 := HIy.out.2.2.1.frozen 0; obtain ⟨X, hX⟩ : ∃ X : Nat, (m2 : Int) / 8 = X := ⟨m2 / 8, by omega⟩; have hX1 : X ≤ 1 := (by omega); have hX2 : Int.tdiv (m2 : Int) 8 = (X : Int) := (by rw [Int.tdiv_eq_ediv_of_nonneg (by omega)]; exact hX); have hX3 : IntKind.i64.wrap (X : Int) = (X : Int) := (by rw [IntKind.wrap_i64]; omega); have hX4 : IntKind.i64.wrap ((m : Int) - (X : Int)) = (m : Int) - (X : Int) := (by rw [IntKind.wrap_i64]; omega)) | (go_at_call 107; refine (pick_any (w.heap.size + 1) 210 _ _ HIa.out.2.1 (by decide)).mono ?_; rintro e w30 ⟨m, hm, rfl, hc, ht⟩; have HIx := hid (HIa.out.drawn hc ht hB6); have hm : m ≤ 50 := (by omega); clear hc ht hm; have t30 := HIx.out.2.2.2.1.cell 0; have a30 := HIx.out.2.2.1.cell 0; have f30 := HIx.out.2.2.1.frozen 0))
    all_goals
      have H20 := hid ((DZ.of HIz.out).box hB6 (.slice uA xs.length uc))
      have a20 := H20.out.2.1.cell 0
      go_wp2
    all_goals
      refine bodyPost_ret (v := .tuple #[.agg #[.slice uA xs.length uc], .int .i64 ((m : Int) - (X : Int)), .int .i64 (m3 : Int)]) (by simp [results, Try.results30, go_sem, a20]) rfl ⟨_, xs, _, _, rfl, H20.out.2.2.2.mono (show w.heap.size ≤ _ by omega), hl2, ⟨by omega, by omega⟩, ⟨by omega, by omega⟩, H20.out.1⟩
  · have HG := hid hg
    have hcl : (covPS xs xs.length xs.length).length ≤ 100 := Nat.le_trans (covPS_length _ _ _) (Nat.mul_le_mul (good_length hg).2 (good_length hg).2)
    have hbd : ∀ k, k < (covPS xs xs.length xs.length).length → ((covPS xs xs.length xs.length).getD k (0, 0)).1 < xs.length ∧ ((covPS xs xs.length xs.length).getD k (0, 0)).2 < xs.length := fun k hk => by have := coversP_bound hg (k := k) (by rw [coversP_yes hg]; exact hk); rwa [coversP_yes hg] at this
    clear hg
    go_wp2_with fail
    refine (one_any (w.heap.size + 1) 210 2 _ HI5.out.2.1 (by decide)).mono ?_
    rintro e w7 ⟨b, rfl, hc7, ht7⟩
    have HI7 := hid (HI5.out.drawn hc7 ht7 hB6)
    clear hc7 ht7 HI5
    cases b
    · skip
      have HIa := hid (HI7.out.below (below_drewN (Below.refl _ _) 1))
      have t3 := HI7.out.2.2.2.1.cell 0
      have a3 := HI7.out.2.2.1.cell 0
      have f3 := HI7.out.2.2.1.frozen 0
      have hwl : IntKind.i64.wrap ((xs.length : Int) + 1) = (xs.length : Int) + 1 := by rw [IntKind.wrap_i64]; omega
      go_wp2
      go_region_held3 (fun W => W.cell? ⟨B5, 0, none⟩ = some (.slice uA xs.length uc) ∧ Hid (∃ z, DZ 3 26 w B5 z (.slice uA xs.length uc) xs W)) (first | exact ⟨((DZ.of HIz.out).box hB6 _).2.2.1.cell 0, hid ⟨_, (DZ.of HIz.out).box hB6 _⟩⟩ | exact ⟨HIz.out.2.2.2.1.cell 0, hid ⟨_, DZ.of HIz.out⟩⟩ | exact ⟨HIy.out.2.2.2.1.cell 0, hid ⟨_, DZ.of HIy.out⟩⟩ | exact ⟨HIx.out.2.2.2.1.cell 0, hid ⟨_, DZ.of HIx.out⟩⟩ | exact ⟨HIa.out.2.2.2.1.cell 0, hid ⟨_, DZ.of HIa.out⟩⟩) (first | (go_at_call 107; refine (pick_any (w.heap.size + 1) 216 _ _ HIy.out.2.1 (by decide)).mono ?_; rintro e w32 ⟨m3, hm, rfl, hc, ht⟩; have HIz := hid (HIy.out.drawn hc ht hB6); have hm3 : m3 ≤ 50 := (by omega); clear hc ht hm; have t32 := HIz.out.2.2.2.1.cell 0; have a32 := HIz.out.2.2.1.cell 0; have f32 := HIz.out.2.2.1.frozen 0) | (go_at_call 107; refine (pick_any (w.heap.size + 1) 214 _ _ HIx.out.2.1 (by decide)).mono ?_; rintro e w31 ⟨m2, hm, rfl, hc, ht⟩; have HIy := hid (HIx.out.drawn hc ht hB6); have hm2 : m2 ≤ 8 := (by omega); clear hc ht hm; have t31 := HIy.out.2.2.2.1.cell 0; have a31 := HIy.out.2.2.1.cell 0; have f31 := HIy.out.2.2.1.frozen 0; obtain ⟨X, hX⟩ : ∃ X : Nat, (m2 : Int) / 8 = X := ⟨m2 / 8, by omega⟩; have hX1 : X ≤ 1 := (by omega); have hX2 : Int.tdiv (m2 : Int) 8 = (X : Int) := (by rw [Int.tdiv_eq_ediv_of_nonneg (by omega)]; exact hX); have hX3 : IntKind.i64.wrap (X : Int) = (X : Int) := (by rw [IntKind.wrap_i64]; omega); have hX4 : IntKind.i64.wrap ((m : Int) - (X : Int)) = (m : Int) - (X : Int) := (by rw [IntKind.wrap_i64]; omega)) | (go_at_call 107; refine (pick_any (w.heap.size + 1) 212 _ _ HIa.out.2.1 (by decide)).mono ?_; rintro e w30 ⟨m, hm, rfl, hc, ht⟩; have HIx := hid (HIa.out.drawn hc ht hB6); have hm : m ≤ 50 := (by omega); clear hc ht hm; have t30 := HIx.out.2.2.2.1.cell 0; have a30 := HIx.out.2.2.1.cell 0; have f30 := HIx.out.2.2.1.frozen 0))
      all_goals
        have H20 := hid ((DZ.of HIz.out).box hB6 (.slice uA xs.length uc))
        have a20 := H20.out.2.1.cell 0
        go_wp2
      all_goals
        refine bodyPost_ret (v := .tuple #[.agg #[.slice uA xs.length uc], .int .i64 ((m : Int) - (X : Int)), .int .i64 (m3 : Int)]) (by simp [results, Try.results30, go_sem, a20]) rfl ⟨_, xs, _, _, rfl, H20.out.2.2.2.mono (show w.heap.size ≤ _ by omega), hl2, ⟨by omega, by omega⟩, ⟨by omega, by omega⟩, H20.out.1⟩
    · have t7 := HI7.out.2.2.2.1.cell 0
      have hz7 : w.heap.size + 2 ≤ w7.heap.size := by have := HI7.out.2.2.2.1.lt; omega
      go_wp2_with fail
      refine (poPairs_any _ xs _ HI7.out.2.2.2.2.ints HG.out).mono ?_
      rintro e w8 ⟨u8, rfl, hp, hb8⟩
      have HI8 := hid (HI7.out.below hb8)
      have HP8 := hid hp
      obtain ⟨ps, hps⟩ : ∃ l, covPS xs xs.length xs.length = l := ⟨_, rfl⟩
      rw [hps] at HP8
      rw [hps] at hcl hbd
      have HBd := hid hbd
      clear hbd
      obtain ⟨qA, qc, rfl, -⟩ := HP8.out.shape
      clear hp hb8 HI7 t7 hps
      by_cases hlen : 0 < ps.length
      · go_wp2_with fail
        refine (pick_any (w.heap.size + 1) 212 _ _ HI8.out.2.1 (by decide)).mono ?_
        rintro e w9 ⟨m, hm, rfl, hc9, ht9⟩
        have HI9 := hid (HI8.out.drawn hc9 ht9 hB6)
        have hmlt : m < ps.length := by omega
        have HP9 := hid (HP8.out.turned ht9 (by omega))
        clear hc9 ht9 hm HI8 HP8
        obtain ⟨b, g, c, hv, hbl, hBg, hBk, hcb⟩ := HP9.out.at hmlt
        cases hv
        obtain ⟨hb1, hb2⟩ := HBd.out m hmlt
        obtain ⟨p1, hp1⟩ : ∃ x, (ps.getD m (0, 0)).1 = x := ⟨_, rfl⟩
        obtain ⟨p2, hp2⟩ : ∃ x, (ps.getD m (0, 0)).2 = x := ⟨_, rfl⟩
        rw [hp1] at hb1 hBk
        rw [hp2] at hb2 hBk
        have HG9 := hid hBk
        have hgc : w.heap.size + 1 + 1 ≤ g := by omega
        clear hp1 hp2 hBk HP9 hBg
        go_wp2
        have HIa := hid (HI9.out.below (below_drewN (Below.refl _ _) 1))
        have HGa := hid (HG9.out.below (below_drewN (Below.refl _ _) 1) HG9.out.lt)
        have t3 := HI9.out.2.2.2.1.cell 0
        have a3 := HI9.out.2.2.1.cell 0
        have f3 := HI9.out.2.2.1.frozen 0
        have hgne : g ≠ w.heap.size := by omega
        go_region_held3 (fun W => W.cell? ⟨B5, 0, none⟩ = some (.slice uA xs.length uc) ∧ (∀ k : Nat, k < 2 → W.cell? ⟨g, k, none⟩ = some (.int .i64 ((sel2 p1 p2 k : Nat) : Int))) ∧ Hid (∃ z, DZ 3 26 w B5 z (.slice uA xs.length uc) xs W)) (first | exact ⟨((DZ.of HIz.out).box hB6 _).2.2.1.cell 0, fun k hk => pairCell (HGz.out.far (p := ⟨w.heap.size, 0, none⟩) hgne _) hk, hid ⟨_, (DZ.of HIz.out).box hB6 _⟩⟩ | exact ⟨HIz.out.2.2.2.1.cell 0, fun k hk => pairCell HGz.out hk, hid ⟨_, DZ.of HIz.out⟩⟩ | exact ⟨HIx.out.2.2.2.1.cell 0, fun k hk => pairCell HGx.out hk, hid ⟨_, DZ.of HIx.out⟩⟩ | exact ⟨HIa.out.2.2.2.1.cell 0, fun k hk => pairCell HGa.out hk, hid ⟨_, DZ.of HIa.out⟩⟩) (first | (go_at_call 107; refine (pick_any (w.heap.size + 1) 216 _ _ HIx.out.2.1 (by decide)).mono ?_; rintro e w31 ⟨m3, hm, rfl, hc, ht⟩; have HIz := hid (HIx.out.drawn hc ht hB6); have HGz := hid (HGx.out.turned ht (Or.inr hgc)); have hm3 : m3 < 2 := (by omega); have hm3i : (m3 : Int) < 2 := (by omega); have hm3j : 0 ≤ (m3 : Int) := (by omega); clear hc ht hm; have a31 := HIz.out.2.2.1.cell 0; have f31 := HIz.out.2.2.1.frozen 0) | (go_at_call 107; refine (pick_any (w.heap.size + 1) 214 _ _ HIa.out.2.1 (by decide)).mono ?_; rintro e w30 ⟨m2, hm, rfl, hc, ht⟩; have HIx := hid (HIa.out.drawn hc ht hB6); have HGx := hid (HGa.out.turned ht (Or.inr hgc)); have hm2 : m2 < 2 := (by omega); have hm2i : (m2 : Int) < 2 := (by omega); have hm2j : 0 ≤ (m2 : Int) := (by omega); clear hc ht hm; have a30 := HIx.out.2.2.1.cell 0; have f30 := HIx.out.2.2.1.frozen 0))
        all_goals
          have H20 := hid ((DZ.of HIz.out).box hB6 (.slice uA xs.length uc))
          have a20 := H20.out.2.1.cell 0
          have hs2 := sel2_le (k := m2) (show p1 ≤ 100 by omega) (show p2 ≤ 100 by omega)
          have hs3 := sel2_le (k := m3) (show p1 ≤ 100 by omega) (show p2 ≤ 100 by omega)
          go_wp2
        all_goals
          refine bodyPost_ret (v := .tuple #[.agg #[.slice uA xs.length uc], .int .i64 ((sel2 p1 p2 m2 : Nat) : Int), .int .i64 ((sel2 p1 p2 m3 : Nat) : Int)]) (by simp [results, Try.results30, go_sem, a20]) rfl ⟨_, xs, _, _, rfl, H20.out.2.2.2.mono (show w.heap.size ≤ _ by omega), hl2, ⟨by omega, by omega⟩, ⟨by omega, by omega⟩, H20.out.1⟩
      · obtain ⟨n0, hn0⟩ : ∃ n, ps.length = n := ⟨_, rfl⟩
        rw [hn0] at hlen ⊢
        obtain rfl : n0 = 0 := by omega
        have HIa := hid (HI8.out.below (below_drewN (Below.refl _ _) 1))
        have t3 := HI8.out.2.2.2.1.cell 0
        have a3 := HI8.out.2.2.1.cell 0
        have f3 := HI8.out.2.2.1.frozen 0
        have hwl : IntKind.i64.wrap ((xs.length : Int) + 1) = (xs.length : Int) + 1 := by rw [IntKind.wrap_i64]; omega
        go_wp2
        go_region_held3 (fun W => W.cell? ⟨B5, 0, none⟩ = some (.slice uA xs.length uc) ∧ Hid (∃ z, DZ 3 26 w B5 z (.slice uA xs.length uc) xs W)) (first | exact ⟨((DZ.of HIz.out).box hB6 _).2.2.1.cell 0, hid ⟨_, (DZ.of HIz.out).box hB6 _⟩⟩ | exact ⟨HIz.out.2.2.2.1.cell 0, hid ⟨_, DZ.of HIz.out⟩⟩ | exact ⟨HIy.out.2.2.2.1.cell 0, hid ⟨_, DZ.of HIy.out⟩⟩ | exact ⟨HIx.out.2.2.2.1.cell 0, hid ⟨_, DZ.of HIx.out⟩⟩ | exact ⟨HIa.out.2.2.2.1.cell 0, hid ⟨_, DZ.of HIa.out⟩⟩) (first | (go_at_call 107; refine (pick_any (w.heap.size + 1) 216 _ _ HIy.out.2.1 (by decide)).mono ?_; rintro e w32 ⟨m3, hm, rfl, hc, ht⟩; have HIz := hid (HIy.out.drawn hc ht hB6); have hm3 : m3 ≤ 50 := (by omega); clear hc ht hm; have t32 := HIz.out.2.2.2.1.cell 0; have a32 := HIz.out.2.2.1.cell 0; have f32 := HIz.out.2.2.1.frozen 0) | (go_at_call 107; refine (pick_any (w.heap.size + 1) 214 _ _ HIx.out.2.1 (by decide)).mono ?_; rintro e w31 ⟨m2, hm, rfl, hc, ht⟩; have HIy := hid (HIx.out.drawn hc ht hB6); have hm2 : m2 ≤ 8 := (by omega); clear hc ht hm; have t31 := HIy.out.2.2.2.1.cell 0; have a31 := HIy.out.2.2.1.cell 0; have f31 := HIy.out.2.2.1.frozen 0; obtain ⟨X, hX⟩ : ∃ X : Nat, (m2 : Int) / 8 = X := ⟨m2 / 8, by omega⟩; have hX1 : X ≤ 1 := (by omega); have hX2 : Int.tdiv (m2 : Int) 8 = (X : Int) := (by rw [Int.tdiv_eq_ediv_of_nonneg (by omega)]; exact hX); have hX3 : IntKind.i64.wrap (X : Int) = (X : Int) := (by rw [IntKind.wrap_i64]; omega); have hX4 : IntKind.i64.wrap ((m : Int) - (X : Int)) = (m : Int) - (X : Int) := (by rw [IntKind.wrap_i64]; omega)) | (go_at_call 107; refine (pick_any (w.heap.size + 1) 212 _ _ HIa.out.2.1 (by decide)).mono ?_; rintro e w30 ⟨m, hm, rfl, hc, ht⟩; have HIx := hid (HIa.out.drawn hc ht hB6); have hm : m ≤ 50 := (by omega); clear hc ht hm; have t30 := HIx.out.2.2.2.1.cell 0; have a30 := HIx.out.2.2.1.cell 0; have f30 := HIx.out.2.2.1.frozen 0))
        all_goals
          have H20 := hid ((DZ.of HIz.out).box hB6 (.slice uA xs.length uc))
          have a20 := H20.out.2.1.cell 0
          go_wp2
        all_goals
          refine bodyPost_ret (v := .tuple #[.agg #[.slice uA xs.length uc], .int .i64 ((m : Int) - (X : Int)), .int .i64 (m3 : Int)]) (by simp [results, Try.results30, go_sem, a20]) rfl ⟨_, xs, _, _, rfl, H20.out.2.2.2.mono (show w.heap.size ≤ _ by omega), hl2, ⟨by omega, by omega⟩, ⟨by omega, by omega⟩, H20.out.1⟩
end Go.Proofs.Ytpdoheagfjeefaa

/- ToggleAt, CanToggle. -/
namespace Go.Proofs.Ytpdoheagfjeefaa
open Go.RowKit Go.WideShapes Go.ChangeShapes
set_option linter.unusedVariables false

theorem okWord_one (xs : List Int) (e : Int) : okWord xs [e] = (decide (0 ≤ e) && decide (e < xs.length)) := by
  simp [okWord, inW]
theorem togW_one (xs : List Int) (s : Nat) (e : Nat) : togW xs s [(e : Int)] = tog xs s e := by simp [togW]
theorem specToggleAt_any (v : Value) (xs : List Int) (s e : Int) (w : World) (hv : Ints w v xs) (hl : xs.length ≤ 1048576) (wf : (Lit.int .i64 s).wf = true) (wfe : (Lit.int .i64 e).wf = true) :
    Calls Try.prog 35 #[.agg #[v], .int .i64 s, .int .i64 e] w fun r w' => r = .returned (.tuple #[.int .i64 (ansTW xs [e] s), .bool (okTW xs [e] s)]) ∧ Below w.heap.size w w' := by
  have HV := hid hv
  clear hv wf wfe
  go_enter Try.func35, Try.ntmps35
  have HB := hid (below_alloc (Below.refl _ w) (.cells #[v] 26))
  have A0 := hid (At.newAt w v 26 w.heap.size (by simp))
  go_wp2_with fail
  refine (tgIn_any _ xs s _ (HV.out.below HB.out) hl).mono ?_
  rintro e w' ⟨rfl, hb⟩
  replace HB := hid (below_to HB.out hb)
  replace A0 := hid (A0.out.below hb)
  clear hb
  cases hq : okIdeal xs s
  · have HO := hid (okTW_no1 (ys := [e]) hq)
    clear hq
    have ebox0 := A0.out.1
    go_wp2
    go_ret2
    exact ⟨ret_ib (ansTW_no HO.out).symm HO.out.symm, HB.out⟩
  · have HQ := hid hq
    clear hq
    have ebox0 := A0.out.1
    go_wp2_with fail
    clear ebox0
    refine (tgElement_any _ xs e _ (HV.out.below HB.out) hl).mono ?_
    rintro e w' ⟨rfl, hb⟩
    replace HB := hid (below_to HB.out hb)
    replace A0 := hid (A0.out.below hb)
    clear hb
    cases hk : (decide (0 ≤ e) && decide (e < (xs.length : Int)))
    · have HO := hid (okTW_no2 (s := s) ((okWord_one xs e).trans hk))
      clear hk
      have ebox0 := A0.out.1
      go_wp2
      go_ret2
      exact ⟨ret_ib (ansTW_no HO.out).symm HO.out.symm, HB.out⟩
    · have HO := hid (okTW_yes HQ.out ((okWord_one xs e).trans hk))
      have hk2 : 0 ≤ e ∧ e < xs.length := by simpa using hk
      clear hk
      obtain ⟨z, rfl, h3, h4, h5⟩ := okIdeal_all HQ.out
      obtain ⟨n, rfl⟩ := Int.eq_ofNat_of_zero_le hk2.1
      have HG := hid h3
      have HN := hid h4
      clear h3 h4 h5
      have ebox0 := A0.out.1
      go_wp2_with fail
      clear ebox0
      refine (tgAt_any _ xs z n _ (HV.out.below HB.out) HG.out HN.out (by omega)).mono ?_
      rintro e w' ⟨rfl, hb⟩
      replace HB := hid (below_to HB.out hb)
      replace A0 := hid (A0.out.below hb)
      clear hb
      have ebox0 := A0.out.1
      go_wp2
      go_ret2
      exact ⟨ret_ib ((ansTW_yes HO.out).trans (by rw [togW_one])).symm HO.out.symm, HB.out⟩
theorem implToggleAt_any (v : Value) (xs : List Int) (s e : Int) (w : World) (hv : Ints w v xs) (hl : xs.length ≤ 1048576) (wf : (Lit.int .i64 s).wf = true) (wfe : (Lit.int .i64 e).wf = true) :
    Calls Try.prog 28 #[.agg #[v], .int .i64 s, .int .i64 e] w fun r w' => r = .returned (.tuple #[.int .i64 (ansTW xs [e] s), .bool (okTW xs [e] s)]) ∧ Below w.heap.size w w' := by
  have HV := hid hv
  have WF := hid wf
  clear hv wf wfe
  go_enter Try.func28, Try.ntmps28
  have HB := hid (below_alloc (Below.refl _ w) (.cells #[v] 26))
  have A0 := hid (At.newAt w v 26 w.heap.size (by simp))
  go_wp2_with fail
  refine (implToggleWord_any _ xs s _ [e] _ ((HV.out.below HB.out).alloc _) hl WF.out (Blk.ints (xs := [e]) (c := 1) (Blk.newAt _ 3 _ _ (by first | rfl | simp))) (by simp)).mono ?_
  rintro e w' ⟨rfl, hb⟩
  replace HB := hid (below_to (below_alloc HB.out _) hb)
  replace A0 := hid ((A0.out.alloc _).below hb)
  clear hb
  have ebox0 := A0.out.1
  go_wp2
  go_ret2
  exact ⟨rfl, HB.out⟩

/-! ### CanToggle -/
def ansCT (xs : List Int) (s : Int) : Int := if okIdeal xs s then (canT xs s.toNat xs.length : Int) else 0
theorem ansCT_no {xs : List Int} {s : Int} (h : okIdeal xs s = false) : ansCT xs s = 0 := by simp [ansCT, h]
theorem ansCT_yes {xs : List Int} {z : Nat} (h : okIdeal xs z = true) : ansCT xs z = (canT xs z xs.length : Int) := by simp [ansCT, h]
theorem specCanToggle_any (v : Value) (xs : List Int) (s : Int) (w : World) (hv : Ints w v xs) (hl : xs.length ≤ 1048576) (wf : (Lit.int .i64 s).wf = true) :
    Calls Try.prog 37 #[.agg #[v], .int .i64 s] w fun r w' => r = .returned (.tuple #[.int .i64 (ansCT xs s), .bool (okIdeal xs s)]) ∧ Below w.heap.size w w' := by
  have HV := hid hv
  clear wf
  obtain ⟨A, c, rfl, -⟩ := hv
  go_enter Try.func37, Try.ntmps37
  have HB := hid (below_alloc (Below.refl _ w) (.cells #[(.slice A xs.length c)] 26))
  have A0 := hid (At.newAt w (.slice A xs.length c) 26 w.heap.size (by simp))
  go_wp2_with fail
  refine (tgIn_any _ xs s _ (HV.out.below HB.out) hl).mono ?_
  rintro e w' ⟨rfl, hb⟩
  replace HB := hid (below_to HB.out hb)
  replace A0 := hid (A0.out.below hb)
  clear hb
  cases hq : okIdeal xs s
  · have HO := hid hq
    clear hq
    have ebox0 := A0.out.1
    go_wp2
    go_ret2
    exact ⟨ret_ib (ansCT_no HO.out).symm HO.out.symm, HB.out⟩
  · have HO := hid hq
    clear hq
    obtain ⟨z, rfl, h3, h4, h5⟩ := okIdeal_all HO.out
    have HG := hid h3
    have HN := hid h4
    have hl10 := (good_length h3).2
    have hz10 := lt1024 h4 hl10
    clear h3 h4 h5
    have ebox0 := A0.out.1
    go_wp2
    go_loopw [6, 15] (fun q i wr => ∃ k : Nat, k ≤ xs.length ∧ i = .int .i64 k ∧ q = .int .i64 (canT xs z k : Nat) ∧ Below w.heap.size w wr ∧ At wr w.heap.size (.slice A xs.length c)) (fun _ i _ => xs.length - (intOf i).toNat)
    case atStart => exact ⟨0, Nat.zero_le _, rfl, rfl, HB.out, A0.out⟩
    case round =>
      obtain ⟨k, hk, rfl, rfl, hb, ha⟩ := hrel
      have hbox := ha.1
      have HB1 := hid hb
      have HA1 := hid ha
      clear hb ha
      by_cases hlt : k < xs.length
      · have HS := hid (canT_step xs z k)
        have hc10 := canT_lt (xs := xs) (s := z) (k := k) (by omega)
        have htx := hid (tog_xor xs z k)
        go_wp2_with fail
        clear hbox
        refine (tgAt_any _ xs z k _ (HV.out.below HB1.out) HG.out HN.out hlt).mono ?_
        rintro e' w' ⟨rfl, hb⟩
        have HB2 := hid (below_to HB1.out hb)
        have HA2 := hid (HA1.out.below hb)
        clear hb
        have wp := wrap_pow' k (by omega)
        have hor := or_pow (canT xs z k) k hc10 (by omega)
        cases hne : (tog xs z k != z)
        · have hne' : (((tog xs z k : Nat) : Int) != (z : Int)) = false := by
            rw [bne_eq_false_iff_eq] at hne ⊢
            rw [hne]
          have HE : Hid (canT xs z (k + 1) = canT xs z k) := hid (by rw [HS.out, htx.out, hne]; simp)
          clear hne
          go_wp2
          go_roundw
          case rel => exact ⟨k + 1, by omega, by go_num, by rw [HE.out], HB2.out, HA2.out⟩
          case measure => simp [intOf]; omega
        · have hne' : (((tog xs z k : Nat) : Int) != (z : Int)) = true := by
            rw [bne_iff_ne] at hne ⊢
            omega
          have HE : Hid (canT xs z (k + 1) = canT xs z k ||| 2 ^ k) := hid (by rw [HS.out, htx.out, hne]; rfl)
          clear hne
          go_wp2
          go_roundw
          case rel => exact ⟨k + 1, by omega, by go_num, by rw [HE.out], HB2.out, HA2.out⟩
          case measure => simp [intOf]; omega
      · obtain rfl : k = xs.length := by omega
        go_wp2
        go_ret2
        exact ⟨ret_ib (ansCT_yes HO.out).symm HO.out.symm, HB1.out⟩
theorem implCanToggle_any (v : Value) (xs : List Int) (s : Int) (w : World) (hv : Ints w v xs) (hl : xs.length ≤ 1048576) (wf : (Lit.int .i64 s).wf = true) :
    Calls Try.prog 29 #[.agg #[v], .int .i64 s] w fun r w' => r = .returned (.tuple #[.int .i64 (ansCT xs s), .bool (okIdeal xs s)]) ∧ Below w.heap.size w w' := by
  have HV := hid hv
  clear wf
  obtain ⟨A, c, rfl, -⟩ := hv
  go_enter Try.func29, Try.ntmps29
  have HB := hid (below_alloc (Below.refl _ w) (.cells #[(.slice A xs.length c)] 26))
  have A0 := hid (At.newAt w (.slice A xs.length c) 26 w.heap.size (by simp))
  go_wp2_with fail
  refine (hasIdeal_any _ xs s _ (HV.out.below HB.out) hl).mono ?_
  rintro e w' ⟨rfl, hb⟩
  replace HB := hid (below_to HB.out hb)
  replace A0 := hid (A0.out.below hb)
  clear hb
  cases hq : okIdeal xs s
  · have HO := hid hq
    clear hq
    have ebox0 := A0.out.1
    go_wp2
    go_ret2
    exact ⟨ret_ib (ansCT_no HO.out).symm HO.out.symm, HB.out⟩
  · have HO := hid hq
    clear hq
    obtain ⟨z, rfl, h3, h4, h5⟩ := okIdeal_all HO.out
    have HG := hid h3
    have HN := hid h4
    have hl10 := (good_length h3).2
    have hz10 := lt1024 h4 hl10
    clear h3 h4 h5
    have ebox0 := A0.out.1
    go_wp2
    go_loopw [6, 15] (fun q i wr => ∃ k : Nat, k ≤ xs.length ∧ i = .int .i64 k ∧ q = .int .i64 (canT xs z k : Nat) ∧ Below w.heap.size w wr ∧ At wr w.heap.size (.slice A xs.length c)) (fun _ i _ => xs.length - (intOf i).toNat)
    case atStart => exact ⟨0, Nat.zero_le _, rfl, rfl, HB.out, A0.out⟩
    case round =>
      obtain ⟨k, hk, rfl, rfl, hb, ha⟩ := hrel
      have hbox := ha.1
      have hbz := ha.2
      have HB1 := hid hb
      have HA1 := hid ha
      clear hb ha
      by_cases hlt : k < xs.length
      · have HS := hid (canT_step xs z k)
        have hc10 := canT_lt (xs := xs) (s := z) (k := k) (by omega)
        have ht10 := lt1024 (tog_lt (xs := xs) HN.out hlt) hl10
        have hx10 : z ^^^ tog xs z k < 1024 := Nat.xor_lt_two_pow (n := 10) hz10 ht10
        go_wp2_with fail
        clear hbox
        refine (step_any _ _ xs [(k : Int)] z _ ((HV.out.below HB1.out).alloc _) (Blk.ints (xs := [(k : Int)]) (c := 1) (Blk.newAt _ 3 _ _ (by first | rfl | simp))) HG.out HN.out (by simp [inW]; omega) (by simp)).mono ?_
        rw [togW_one]
        rintro e' w' ⟨rfl, hb⟩
        have HB2 := hid (below_to (below_alloc HB1.out _) hb)
        have HA2 := hid ((HA1.out.alloc _).below hb)
        clear hb
        have hxor := i64_xor_nat z (tog xs z k) (by omega) (by omega)
        have hor := i64_or_nat (canT xs z k) (z ^^^ tog xs z k) (by omega) (by omega)
        go_wp2
        go_roundw
        case rel => exact ⟨k + 1, by omega, by go_num, by rw [HS.out], HB2.out, HA2.out⟩
        case measure => simp [intOf]; omega
      · obtain rfl : k = xs.length := by omega
        go_wp2
        go_ret2
        exact ⟨ret_ib (ansCT_yes HO.out).symm HO.out.symm, HB1.out⟩
end Go.Proofs.Ytpdoheagfjeefaa

/- Cycles of a motion on the ideals; common multiples. No program is named here. -/
namespace Go.Proofs.Ytpdoheagfjeefaa
set_option linter.unusedVariables false

def cntF (seen : List Bool) : Nat := seen.count false
theorem cntF_set {seen : List Bool} {s : Nat} (hs : s < seen.length) (h : seen.getD s true = false) : cntF (seen.set s true) + 1 = cntF seen := by
  unfold cntF
  induction seen generalizing s with
  | nil => simp at hs
  | cons b l ih =>
    match s with
    | 0 =>
      simp [List.getD] at h
      subst h
      simp
    | s + 1 =>
      have h1 : s < l.length := by simpa using hs
      have h2 : l.getD s true = false := by simpa [List.getD] using h
      have := ih h1 h2
      rw [List.set_cons_succ, List.count_cons, List.count_cons]
      omega
theorem cntF_le (seen : List Bool) : cntF seen ≤ seen.length := List.count_le_length
/-- one cycle, from s on: what has been seen behind it, and its length -/
def cycIn (f : Nat → Nat) : Nat → List Bool → Nat → Nat → List Bool × Nat
  | 0, seen, _, n => (seen, n)
  | c + 1, seen, s, n => if seen.getD s true = true then (seen, n) else cycIn f c (seen.set s true) (f s) (n + 1)
def cyc1 (f : Nat → Nat) (seen : List Bool) (s n : Nat) : List Bool × Nat := cycIn f (cntF seen) seen s n
theorem cyc1_stop {f : Nat → Nat} {seen : List Bool} {s n : Nat} (h : seen.getD s true = true) : cyc1 f seen s n = (seen, n) := by
  unfold cyc1
  cases hc : cntF seen
  · rfl
  · unfold cycIn; rw [if_pos h]
theorem cyc1_go {f : Nat → Nat} {seen : List Bool} {s n : Nat} (hs : s < seen.length) (h : seen.getD s true = false) : cyc1 f seen s n = cyc1 f (seen.set s true) (f s) (n + 1) := by
  unfold cyc1
  have := cntF_set hs h
  rw [← this, cycIn, if_neg (by rw [h]; decide)]
theorem cyc1_length (f : Nat → Nat) (seen : List Bool) (s n : Nat) : (cyc1 f seen s n).1.length = seen.length := by
  unfold cyc1
  generalize cntF seen = c
  induction c generalizing seen s n with
  | zero => rfl
  | succ c ih =>
    unfold cycIn
    split
    · rfl
    · rw [ih, List.length_set]
theorem cyc1_le (f : Nat → Nat) (seen : List Bool) (s n : Nat) : (cyc1 f seen s n).2 ≤ n + seen.length := by
  have key : ∀ c (seen : List Bool) (s n : Nat), (cycIn f c seen s n).2 ≤ n + c := by
    intro c
    induction c with
    | zero => intro seen s n; exact Nat.le_refl _
    | succ c ih =>
      intro seen s n
      unfold cycIn
      split
      · exact Nat.le_add_right _ _
      · have := ih (seen.set s true) (f s) (n + 1)
        omega
  have h1 := key (cntF seen) seen s n
  have h2 := cntF_le seen
  unfold cyc1
  omega
/-- the cycles from the first k ideals on -/
def cycSt (f : Nat → Nat) (N : Nat) (ids : List Int) : Nat → List Bool × List Int
  | 0 => (List.replicate N false, [])
  | k + 1 =>
    let st := cycSt f N ids k
    let r := cyc1 f st.1 (ids.getD k 0).toNat 0
    (r.1, if 0 < r.2 then st.2 ++ [(r.2 : Int)] else st.2)
theorem cycSt_length (f : Nat → Nat) (N : Nat) (ids : List Int) (k : Nat) : (cycSt f N ids k).1.length = N ∧ (cycSt f N ids k).2.length ≤ k := by
  induction k with
  | zero => simp [cycSt]
  | succ k ih =>
    simp only [cycSt]
    rw [cyc1_length]
    refine ⟨ih.1, ?_⟩
    split
    · rw [List.length_append]; simp only [List.length_singleton]; omega
    · omega
theorem cycSt_pos (f : Nat → Nat) (N : Nat) (ids : List Int) (k : Nat) : ∀ x ∈ (cycSt f N ids k).2, 1 ≤ x ∧ x ≤ N := by
  induction k with
  | zero => simp [cycSt]
  | succ k ih =>
    simp only [cycSt]
    split
    · rename_i h
      intro x hx
      rw [List.mem_append] at hx
      rcases hx with hx | hx
      · exact ih x hx
      · rw [List.mem_singleton] at hx
        subst hx
        have := cyc1_le f (cycSt f N ids k).1 (ids.getD k 0).toNat 0
        rw [(cycSt_length f N ids k).1] at this
        omega
    · exact ih
def cyclesL (f : Nat → Nat) (N : Nat) (ids : List Int) : List Int := (cycSt f N ids ids.length).2

/-! ### greatest common divisors, least common multiples -/
theorem tmod_nat (m n : Nat) : ((m : Int).tmod (n : Int)) = ((m % n : Nat) : Int) := by
  rw [Int.tmod_eq_emod_of_nonneg (Int.natCast_nonneg _)]; simp
theorem tdiv_nat (m n : Nat) : ((m : Int).tdiv (n : Int)) = ((m / n : Nat) : Int) := by
  rw [Int.tdiv_eq_ediv_of_nonneg (Int.natCast_nonneg _)]; simp
/-- the common multiple of the first k, none once it is too great -/
def lcmN (ls : List Int) : Nat → Option Nat
  | 0 => some 1
  | k + 1 => (lcmN ls k).bind fun m => if 1000000000000000 < m / Nat.gcd m (ls.getD k 0).toNat * (ls.getD k 0).toNat then none else some (m / Nat.gcd m (ls.getD k 0).toNat * (ls.getD k 0).toNat)
theorem lcmN_le {ls : List Int} (hp : ∀ x ∈ ls, 1 ≤ x) (k : Nat) (hk : k ≤ ls.length) : ∀ m, lcmN ls k = some m → 1 ≤ m ∧ m ≤ 1000000000000000 := by
  induction k with
  | zero => intro m h; simp only [lcmN, Option.some.injEq] at h; omega
  | succ k ih =>
    intro m h
    simp only [lcmN] at h
    cases hq : lcmN ls k with
    | none => rw [hq] at h; simp at h
    | some q =>
      rw [hq, Option.bind_some] at h
      split at h
      · cases h
      · rename_i hn
        simp only [Option.some.injEq] at h
        have h1 := ih (by omega) q hq
        have hx := hp (ls.getD k 0) (by simp [List.getD, show k < ls.length by omega])
        have hg := Nat.le_of_dvd (by omega) (Nat.gcd_dvd_left q (ls.getD k 0).toNat)
        have hg0 : 0 < Nat.gcd q (ls.getD k 0).toNat := Nat.gcd_pos_of_pos_left _ (by omega)
        have h3 : 0 < q / Nat.gcd q (ls.getD k 0).toNat := Nat.div_pos hg hg0
        have h4 : 0 < q / Nat.gcd q (ls.getD k 0).toNat * (ls.getD k 0).toNat := Nat.mul_pos h3 (by omega)
        omega
def lcmAll (ls : List Int) : Option Nat := lcmN ls ls.length
theorem lcmN_none {ls : List Int} {k : Nat} (h : lcmN ls k = none) (j : Nat) (hj : k ≤ j) : lcmN ls j = none := by
  induction j with
  | zero => have : k = 0 := by omega
            subst this; exact h
  | succ j ih =>
    by_cases e : k = j + 1
    · subst e; exact h
    · simp only [lcmN, ih (by omega)]; rfl
/-- a quotient too great for the bound: the product is -/
theorem div_bound {a n M : Nat} (hn : 1 ≤ n) : M / n < a ↔ M < a * n := by
  rw [Nat.div_lt_iff_lt_mul (by omega)]
theorem mul_gcd_swap (m n : Nat) (hn : 1 ≤ n) : m / Nat.gcd m n * n = m * (n / Nat.gcd m n) := by
  obtain ⟨a, ha⟩ := Nat.gcd_dvd_left m n
  obtain ⟨b, hb⟩ := Nat.gcd_dvd_right m n
  have hg0 : 0 < Nat.gcd m n := Nat.gcd_pos_of_pos_right _ (by omega)
  obtain ⟨g, hg⟩ : ∃ g, Nat.gcd m n = g := ⟨_, rfl⟩
  rw [hg] at ha hb hg0 ⊢
  rw [ha, hb, Nat.mul_div_cancel_left _ hg0, Nat.mul_div_cancel_left _ hg0]
  rw [← Nat.mul_assoc, Nat.mul_comm a g]
end Go.Proofs.Ytpdoheagfjeefaa
