/- The model's cursor of draws: posets. -/
import Derived.Test.YtclhebpkpmholaaCur
import Derived.Test.YtclhebpkpmholaaFrom
import Derived.Test.YtclhebpkpmholaaRect
import Derived.Test.YtclhebpkpmholaaFence
import Derived.Test.YtclhebpkpmholaaStairS
import Derived.Test.YtclhebpkpmholaaHeights
import Derived.Test.YtclhebpkpmholaaJoin
namespace Go.Proofs.Ytclhebpkpmholaa
open Go.RowKit Go.WideShapes Go.ChangeShapes
set_option linter.unusedVariables false

theorem Blk.turned {w w' : World} {g B E : Nat} {t : TypeId} {cs : Array Value} (h : Blk w g t cs) (ht : TurnedIn B E w w') (hg : g < B ∨ E ≤ g) : Blk w' g t cs := (ht.block g h.lt hg).trans h
theorem ownsRow_turned {w w' : World} {B B' E' s : Nat} {ts : TypeId} {v : Value} {n : Nat} {us : List Value} (h : w.ownsRow B ts s v n us) (hg : TurnedIn B' E' w w') (hs : E' ≤ B) : w'.ownsRow B ts s v n us := by
  obtain ⟨h1, h2⟩ := h
  refine ⟨h1, ?_⟩
  rcases h2 with h2 | ⟨g, cap, cur, rfl, hB, hh, r⟩
  · exact .inl h2
  · refine .inr ⟨g, cap, cur, rfl, hB, ?_, r⟩
    have hlt : g < w.heap.size := by
      rcases Nat.lt_or_ge g w.heap.size with hlt | hge
      · exact hlt
      · rw [Array.getElem?_eq_none hge] at hh; cases hh
    rw [hg.block g hlt (by omega)]; exact hh
theorem Pairs.turned {ti ts : TypeId} {w w' : World} {B B' E' : Nat} {v : Value} {ps : List (Nat × Nat)} (h : Pairs ti ts w B v ps) (hg : TurnedIn B' E' w w') (hs : E' ≤ B) : Pairs ti ts w' B v ps := by
  obtain ⟨us, h1, h2, h3, h4⟩ := h
  refine ⟨us, h1, ownsRow_turned h2 hg hs, fun j u p hu hp => ?_, h4⟩
  obtain ⟨g, e, hB, hk⟩ := h3 j u p hu hp
  exact ⟨g, e, hB, (hg.block g hk.lt (by omega)).trans hk⟩
theorem wf_i64 (n : Int) (h1 : -9223372036854775808 ≤ n) (h2 : n ≤ 9223372036854775807) : (Lit.int .i64 n).wf = true := by
  show (decide (IntKind.i64.min ≤ n) && decide (n ≤ IntKind.i64.max)) = true
  rw [show IntKind.i64.min = -9223372036854775808 from by decide, show IntKind.i64.max = 9223372036854775807 from by decide]
  simp [h1, h2]
/-- what a draw leaves: the cursor's block g alone has turned -/
structure Drawn (w : World) (g A : Nat) (w' : World) : Prop where
  cur : Cur w' g A
  turned : TurnedIn g (g + 1) w w'
theorem Drawn.below {w w1 w2 : World} {g A : Nat} (h : Drawn w g A w1) (hb : Below w1.heap.size w1 w2) : Drawn w g A w2 :=
  ⟨h.cur.below hb, h.turned.trans (TurnedIn.of_below hb)⟩
theorem Drawn.le {w w1 : World} {g A B : Nat} (h : Drawn w g A w1) (hb : A ≤ B) : Drawn w g B w1 := ⟨h.cur.le hb, h.turned⟩
theorem Drawn.belowB {w w1 w2 : World} {g A B : Nat} (h : Drawn w g A w1) (hb : Below B w1 w2) (h1 : w.heap.size ≤ B) (h2 : g < B) : Drawn w g A w2 := by
  refine ⟨?_, h.turned.belowB hb h1⟩
  obtain ⟨v, xs, k, z, ⟨A', c, rfl, hr, hx⟩, h4, h5, h6, h7, h8⟩ := h.cur
  refine ⟨_, xs, k, z, ⟨A', c, rfl, hr, fun hne => ?_⟩, h4, h5, h6, h7, h8.below hb h2⟩
  obtain ⟨b, o, rfl, hbg, hbl, hc⟩ := hx hne
  exact ⟨b, o, rfl, hbg, Nat.lt_of_lt_of_le hbl hb.size, fun j hj => (hb.cell (p := ⟨b, o + j, none⟩) (by show b < B; omega)).trans (hc j hj)⟩
theorem OwnI.turnedLow {ti : TypeId} {w w' : World} {B B' E' : Nat} {v : Value} {xs : List Int} (h : OwnI ti w B v xs) (hg : TurnedIn B' E' w w') (hs : E' ≤ B) : OwnI ti w' B v xs := ownsRow_turned h hg hs
theorem Drawn.box {w W : World} {g A : Nat} (h : Drawn w g A W) (hg : g < w.heap.size) (p : Addr) (hp : w.heap.size ≤ p.block) (y : Value) : Drawn w g A (W.setCell p y) :=
  h.belowB ((Below.refl w.heap.size W).setCell (p := p) hp y) (Nat.le_refl _) hg
theorem OwnI.box {ti : TypeId} {w W : World} {B : Nat} {u : Value} {xs : List Int} (h : OwnI ti W B u xs) (hB : w.heap.size + 1 ≤ B) (y : Value) : OwnI ti (W.setCell ⟨w.heap.size, 0, none⟩ y) w.heap.size u xs :=
  (h.turnedLow ((TurnedIn.refl w.heap.size (w.heap.size + 1) W).set_ ⟨w.heap.size, 0, none⟩ ⟨Nat.le_refl _, Nat.lt_succ_self _⟩ y) hB).mono (by omega)
set_option maxHeartbeats 3200000 in
theorem surePoset_any (g A most : Nat) (w : World) (h : Cur w g A) (hA : A < 900000000000) (hm1 : 1 ≤ most) (hm : most ≤ 10) :
    Calls Try.prog 149 #[.pointer (some ⟨g, 0, none⟩), .int .i64 most] w fun (r : Ending) w' => ∃ u xs, r = .returned (.agg #[u]) ∧ OwnI 3 w' w.heap.size u xs ∧ 1 ≤ xs.length ∧ xs.length ≤ 10 ∧ Drawn w g (A + 200) w' := by
  have HC := hid h
  have hgl := h.lt
  clear h
  go_enter Try.func149, Try.ntmps149
  go_wp2_with fail
  have HD0 := hid ((Drawn.mk HC.out (TurnedIn.refl _ _ _)).below (below_alloc (Below.refl _ w) (.cells #[.slice none 0 0] 26)))
  have HA0 := hid (Blk.new w 26 #[.slice none 0 0])
  refine (pick_any g A 5 _ HD0.out.cur (by omega)).mono ?_
  rintro e w1 ⟨m, hm5, rfl, hc1, ht1⟩
  have HD1 := hid (Drawn.mk hc1 (HD0.out.turned.trans ht1))
  have HA1 := hid (HA0.out.turned ht1 (Or.inr (by omega)))
  have hz1 : w.heap.size + 1 ≤ w1.heap.size := by have := ht1.size; simpa using this
  clear hc1 ht1 HD0 HA0
  rcases (by omega : m = 0 ∨ m = 1 ∨ m = 2 ∨ 3 ≤ m) with rfl | rfl | rfl | hm3
  · clear hm5
    obtain ⟨H, hH⟩ : ∃ H : Nat, (most : Int) / 2 = H := ⟨most / 2, by omega⟩
    have hH5 : H ≤ 5 := by omega
    go_wp2_with fail
    refine (pick_any g (A + 2) 2 _ HD1.out.cur (by omega)).mono ?_
    rintro e w2 ⟨p, hp, rfl, hc2, ht2⟩
    have HD2 := hid (Drawn.mk hc2 (HD1.out.turned.trans ht2))
    have HA2 := hid (HA1.out.turned ht2 (Or.inr (by omega)))
    have hz2 : w.heap.size + 1 ≤ w2.heap.size := by have := ht2.size; omega
    clear hc2 ht2 HD1 HA1
    go_wp2_with fail
    try rw [hH]
    refine (l1Most_any 1 (H : Int) _).mono ?_
    rintro e w3 ⟨rfl, rfl⟩
    go_wp2_with fail
    refine (pick_any g (A + 4) _ _ HD2.out.cur (by omega)).mono ?_
    rintro e w4 ⟨q, hq, rfl, hc4, ht4⟩
    have HD4 := hid (Drawn.mk hc4 (HD2.out.turned.trans ht4))
    have HA4 := hid (HA2.out.turned ht4 (Or.inr (by omega)))
    have hz4 : w.heap.size + 1 ≤ w4.heap.size := by have := ht4.size; omega
    clear hc4 ht4 HD2 HA2
    obtain ⟨a, ha⟩ : ∃ a : Nat, (1 : Int) + (p : Int) = a := ⟨1 + p, by omega⟩
    obtain ⟨b, hb⟩ : ∃ b : Nat, (1 : Int) + (q : Int) = b := ⟨1 + q, by omega⟩
    have ha1 : 1 ≤ a := by omega
    have ha2 : a ≤ 2 := by omega
    have hb1 : 1 ≤ b := by omega
    have hb2 : b ≤ 5 := by omega
    have hab : a * b ≤ 2 * 5 := Nat.mul_le_mul ha2 hb2
    have hab1 : 1 * 1 ≤ a * b := Nat.mul_le_mul ha1 hb1
    go_wp2_with fail
    try rw [ha, hb]
    refine (poRectangle_any a b _ ha1 (by omega) hb1 (by omega) hab).mono ?_
    rintro e w5 ⟨u, rfl, ho, hb5⟩
    have HD5 := hid (HD4.out.below hb5)
    have HA5 := hid (HA4.out.below hb5 (by omega))
    have HO := hid ho
    have t1 := HA5.out.cell 0
    have t2 := HA5.out.frozen 0
    obtain ⟨uA, un, uc, rfl⟩ := ho.shape3
    clear ho hb5 HD4 HA4
    go_wp2
    refine bodyPost_ret (v := .agg #[.slice uA un uc]) (by simp [results, Try.results149, go_sem, t1]) rfl ⟨_, _, rfl, HO.out.box hz4 _, by rw [whereL, mkL_length]; omega, by rw [whereL, mkL_length]; omega, (HD5.out.box hgl _ (Nat.le_refl _) _).le (by omega)⟩
  · clear hm5
    go_wp2_with fail
    refine (pick_any g (A + 2) 2 _ HD1.out.cur (by omega)).mono ?_
    rintro e w2 ⟨p, hp, rfl, hc2, ht2⟩
    have HD2 := hid (Drawn.mk hc2 (HD1.out.turned.trans ht2))
    have HA2 := hid (HA1.out.turned ht2 (Or.inr (by omega)))
    have hz2 : w.heap.size + 1 ≤ w2.heap.size := by have := ht2.size; omega
    clear hc2 ht2 HD1 HA1
    obtain ⟨a, ha⟩ : ∃ a : Nat, (1 : Int) + (p : Int) = a := ⟨1 + p, by omega⟩
    have ha1 : 1 ≤ a := by omega
    have ha2 : a ≤ 2 := by omega
    have HLa : Hid (1 ≤ (stcL a).length ∧ (stcL a).length ≤ 10) := hid (by rcases (by omega : a = 1 ∨ a = 2) with h | h <;> (rw [h]; decide))
    go_wp2_with fail
    try rw [ha]
    refine (specStaircase_any a _ (wf_i64 _ (by omega) (by omega))).mono ?_
    rintro e w5 ⟨u, rfl, ho, -, hb5⟩
    have HD5 := hid (HD2.out.below hb5)
    have HA5 := hid (HA2.out.below hb5 (by omega))
    have HO := hid ho
    have hz5 : w.heap.size + 1 ≤ w5.heap.size := by have := hb5.size; omega
    obtain ⟨uA, un, uc, rfl⟩ := ho.shape3
    clear ho hb5 HD2 HA2
    have HD6 := hid (HD5.out.below (below_alloc (Below.refl _ w5) (.cells #[.slice uA un uc] 26)))
    have HO6 := hid (HO.out.alloc (.cells #[.slice uA un uc] 26))
    have HA6 := HA5.out.alloc (.cells #[.slice uA un uc] 26)
    have t1 := HA6.cell 0
    have t2 := HA6.frozen 0
    clear HA6
    go_wp2
    refine bodyPost_ret (v := .agg #[.slice uA un uc]) (by simp [results, Try.results149, go_sem, t1]) rfl ⟨_, _, rfl, HO6.out.box hz2 _, HLa.out.1, HLa.out.2, (HD6.out.box hgl _ (Nat.le_refl _) _).le (by omega)⟩
  · clear hm5
    go_wp2_with fail
    refine (pick_any g (A + 2) most _ HD1.out.cur (by omega)).mono ?_
    rintro e w2 ⟨p, hp, rfl, hc2, ht2⟩
    have HD2 := hid (Drawn.mk hc2 (HD1.out.turned.trans ht2))
    have HA2 := hid (HA1.out.turned ht2 (Or.inr (by omega)))
    have hz2 : w.heap.size + 1 ≤ w2.heap.size := by have := ht2.size; omega
    clear hc2 ht2 HD1 HA1
    obtain ⟨a, ha⟩ : ∃ a : Nat, (1 : Int) + (p : Int) = a := ⟨1 + p, by omega⟩
    have ha1 : 1 ≤ a := by omega
    have ha2 : a ≤ 10 := by omega
    have HLa : Hid (1 ≤ (fenceL a).length ∧ (fenceL a).length ≤ 10) := hid (by rw [fenceL_yes ha1 ha2, whereL, mkL_length]; omega)
    go_wp2_with fail
    try rw [ha]
    refine (specFence_any a _ (wf_i64 _ (by omega) (by omega))).mono ?_
    rintro e w5 ⟨u, rfl, ho, -, hb5⟩
    have HD5 := hid (HD2.out.below hb5)
    have HA5 := hid (HA2.out.below hb5 (by omega))
    have HO := hid ho
    have hz5 : w.heap.size + 1 ≤ w5.heap.size := by have := hb5.size; omega
    obtain ⟨uA, un, uc, rfl⟩ := ho.shape3
    clear ho hb5 HD2 HA2
    have HD6 := hid (HD5.out.below (below_alloc (Below.refl _ w5) (.cells #[.slice uA un uc] 26)))
    have HO6 := hid (HO.out.alloc (.cells #[.slice uA un uc] 26))
    have HA6 := HA5.out.alloc (.cells #[.slice uA un uc] 26)
    have t1 := HA6.cell 0
    have t2 := HA6.frozen 0
    clear HA6
    go_wp2
    refine bodyPost_ret (v := .agg #[.slice uA un uc]) (by simp [results, Try.results149, go_sem, t1]) rfl ⟨_, _, rfl, HO6.out.box hz2 _, HLa.out.1, HLa.out.2, (HD6.out.box hgl _ (Nat.le_refl _) _).le (by omega)⟩
  · clear hm5
    go_wp2_with fail
    refine (pick_any g (A + 2) most _ HD1.out.cur (by omega)).mono ?_
    rintro e w2 ⟨p, hp, rfl, hc2, ht2⟩
    have HD2 := hid (Drawn.mk hc2 (HD1.out.turned.trans ht2))
    have HA2 := hid (HA1.out.turned ht2 (Or.inr (by omega)))
    have hz2 : w.heap.size + 1 ≤ w2.heap.size := by have := ht2.size; omega
    clear hc2 ht2 HD1 HA1
    obtain ⟨n, hn⟩ : ∃ n : Nat, (1 : Int) + (p : Int) = n := ⟨1 + p, by omega⟩
    have hn1 : 1 ≤ n := by omega
    have hn2 : n ≤ 10 := by omega
    go_wp2_with fail
    clear hn hp
    refine (pick_any g (A + 4) (2 * (n : Int)) _ HD2.out.cur (by omega)).mono ?_
    rintro e w3 ⟨k, hk, rfl, hc3, ht3⟩
    have HD3 := hid (Drawn.mk hc3 (HD2.out.turned.trans ht3))
    have HA3 := hid (HA2.out.turned ht3 (Or.inr (by omega)))
    have hz3 : w.heap.size + 1 ≤ w3.heap.size := by have := ht3.size; omega
    have hk20 : k ≤ 20 := by omega
    clear hc3 ht3 HD2 HA2 hk
    go_wp2
    go_loopw [10, 11] (fun q i wr => ∃ (t : Nat) (ps : List (Nat × Nat)), t ≤ 20 ∧ i = .int .i64 t ∧ Pairs 3 24 wr (w.heap.size + 1) q ps ∧ PairsOk n ps ∧ ps.length + t ≤ 20 ∧ Drawn w g (A + 6 + 4 * (20 - t)) wr ∧ Blk wr w.heap.size 26 #[.slice none 0 0]) (fun _ i _ => (intOf i).toNat)
    case atStart => exact ⟨k, [], hk20, rfl, Pairs.nil _ _ _ _, fun k hk => by simp at hk, by simpa using hk20, HD3.out.le (by omega), HA3.out⟩
    case round =>
      obtain ⟨t, ps, ht20, rfl, hP, hok, hlen, hD, hA9⟩ := hrel
      have HP := hid hP
      have HOk := hid hok
      have HD := hid hD
      have HA9 := hid hA9
      have hzr : w.heap.size + 1 ≤ wr.heap.size := hA9.lt
      clear hP hok hD hA9
      by_cases hgo : 0 < t ∧ 1 < n
      · obtain ⟨h0, h1⟩ := hgo
        go_wp2_with fail
        refine (pick_any g (A + 6 + 4 * (20 - t)) _ _ HD.out.cur (by omega)).mono ?_
        rintro e w4 ⟨j, hj, rfl, hc4, ht4⟩
        have HD4 := hid (Drawn.mk hc4 (HD.out.turned.trans ht4))
        have HA4 := hid (HA9.out.turned ht4 (Or.inr (by omega)))
        have HP4 := hid (HP.out.turned ht4 (by omega))
        have hz4 : w.heap.size + 1 ≤ w4.heap.size := by have := ht4.size; omega
        have hjn : j + 1 < n := by omega
        clear hc4 ht4 HD HA9 HP hj
        go_wp2_with fail
        refine (pick_any g (A + 6 + 4 * (20 - t) + 2) _ _ HD4.out.cur (by omega)).mono ?_
        rintro e w5 ⟨d, hd, rfl, hc5, ht5⟩
        have HD5 := hid (Drawn.mk hc5 (HD4.out.turned.trans ht5))
        have HA5 := hid (HA4.out.turned ht5 (Or.inr (by omega)))
        have HP5 := hid (HP4.out.turned ht5 (by omega))
        have hz5 : w.heap.size + 1 ≤ w5.heap.size := by have := ht5.size; omega
        have hdn : j + 1 + d < n := by omega
        clear hc5 ht5 HD4 HA4 HP4 hd
        go_wp2_with (at_builtin; refine wpList_append_pair rfl _ _ 49 24 3 rfl Try.underlying49 Try.info24 (by decide) (w.heap.size + 1) _ _ j (j + 1 + d) rfl HP5.out rfl rfl (by omega) (by omega) ?_; intro q2 w6 hp2 hb6)
        go_roundw
        case rel => exact ⟨t - 1, ps ++ [(j, j + 1 + d)], by omega, by go_num, hp2, fun k hk => by (
            rw [List.length_append, List.length_singleton] at hk
            by_cases e : k < ps.length
            · have := HOk.out k e
              rw [show (ps ++ [(j, j + 1 + d)]).getD k (0, 0) = ps.getD k (0, 0) from by simp [List.getD, List.getElem?_append, e]]; exact this
            · obtain rfl : k = ps.length := by omega
              simp [List.getD]; omega), by (rw [List.length_append, List.length_singleton]; omega), (HD5.out.belowB hb6 (by omega) (by omega)).le (by omega), HA5.out.below hb6 (Nat.lt_succ_self _)⟩
        case measure => simp [intOf]; omega
      · have hlen2 : ps.length ≤ 20 := by omega
        rcases (by omega : t = 0 ∨ 0 < t ∧ n = 1) with rfl | ⟨h0, rfl⟩
        · go_wp2_with fail
          refine (poFrom_any _ ps n _ _ HP.out (by omega) HOk.out (by omega)).mono ?_
          rintro e w7 ⟨u, rfl, ho, hb7⟩
          have HD7 := hid (HD.out.below hb7)
          have HA7 := hid (HA9.out.below hb7 HA9.out.lt)
          have HO := hid ho
          have t1 := HA7.out.cell 0
          have t2 := HA7.out.frozen 0
          obtain ⟨uA, un, uc, rfl⟩ := ho.shape3
          clear ho hb7 HD HA9 HP
          go_wp2
          refine bodyPost_ret (v := .agg #[.slice uA un uc]) (by simp [results, Try.results149, go_sem, t1]) rfl ⟨_, _, rfl, HO.out.box hzr _, by rw [fromL, mkL_length]; omega, by rw [fromL, mkL_length]; omega, (HD7.out.box hgl _ (Nat.le_refl _) _).le (by omega)⟩
        · go_wp2_with fail
          refine (poFrom_any _ ps 1 _ _ HP.out (by omega) HOk.out (by omega)).mono ?_
          rintro e w7 ⟨u, rfl, ho, hb7⟩
          have HD7 := hid (HD.out.below hb7)
          have HA7 := hid (HA9.out.below hb7 HA9.out.lt)
          have HO := hid ho
          have t1 := HA7.out.cell 0
          have t2 := HA7.out.frozen 0
          obtain ⟨uA, un, uc, rfl⟩ := ho.shape3
          clear ho hb7 HD HA9 HP
          go_wp2
          refine bodyPost_ret (v := .agg #[.slice uA un uc]) (by simp [results, Try.results149, go_sem, t1]) rfl ⟨_, _, rfl, HO.out.box hzr _, by rw [fromL, mkL_length]; omega, by rw [fromL, mkL_length]; omega, (HD7.out.box hgl _ (Nat.le_refl _) _).le (by omega)⟩
end Go.Proofs.Ytclhebpkpmholaa
