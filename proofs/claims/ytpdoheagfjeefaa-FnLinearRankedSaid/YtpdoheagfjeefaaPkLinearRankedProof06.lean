/- Texts CurP, OwnC, CurQ, CurS, one behind the other. -/
import Derived.Deep.AppendLies
import Derived.Test.YtpdoheagfjeefaaPkLinearRankedProof01
import Derived.Test.YtpdoheagfjeefaaPkLinearRankedProof02
import Derived.Test.YtpdoheagfjeefaaPkLinearRankedProof03
import Derived.Test.YtpdoheagfjeefaaPkLinearRankedProof05
/- The model's cursor of draws: posets. -/
namespace Go.Proofs.Ytpdoheagfjeefaa
open Go.RowKit Go.WideShapes Go.ChangeShapes
set_option linter.unusedVariables false

theorem Blk.turned {w w' : World} {g B E : Nat} {t : TypeId} {cs : Array Value} (h : Blk w g t cs) (ht : TurnedIn B E w w') (hg : g < B ∨ E ≤ g) : Blk w' g t cs := (ht.block g h.lt hg).trans h
theorem ownsRow_turned {w w' : World} {B B' E' s : Nat} {ts : TypeId} {v : Value} {n : Nat} {us : List Value} (h : w.ownsRow B ts s v n us) (hg : TurnedIn B' E' w w') (hs : E' ≤ B) : w'.ownsRow B ts s v n us := by
  obtain ⟨h1, h2⟩ := h
  refine ⟨h1, ?_⟩
  rcases h2 with h2 | ⟨g, cap, cur, rfl, hB, hh, r⟩
  · exact .inl h2
  · refine .inr ⟨g, cap, cur, rfl, hB, ?_, r⟩
    have hlt : g < w.heap.size := by
      rcases Nat.lt_or_ge g w.heap.size with hlt | hge
      · exact hlt
      · rw [Array.getElem?_eq_none hge] at hh; cases hh
    rw [hg.block g hlt (by omega)]; exact hh
theorem Pairs.turned {ti ts : TypeId} {w w' : World} {B B' E' : Nat} {v : Value} {ps : List (Nat × Nat)} (h : Pairs ti ts w B v ps) (hg : TurnedIn B' E' w w') (hs : E' ≤ B) : Pairs ti ts w' B v ps := by
  obtain ⟨us, h1, h2, h3, h4⟩ := h
  refine ⟨us, h1, ownsRow_turned h2 hg hs, fun j u p hu hp => ?_, h4⟩
  obtain ⟨g, e, hB, hk⟩ := h3 j u p hu hp
  exact ⟨g, e, hB, (hg.block g hk.lt (by omega)).trans hk⟩
theorem wf_i64 (n : Int) (h1 : -9223372036854775808 ≤ n) (h2 : n ≤ 9223372036854775807) : (Lit.int .i64 n).wf = true := by
  show (decide (IntKind.i64.min ≤ n) && decide (n ≤ IntKind.i64.max)) = true
  rw [show IntKind.i64.min = -9223372036854775808 from by decide, show IntKind.i64.max = 9223372036854775807 from by decide]
  simp [h1, h2]
/-- what a draw leaves: the cursor's block g alone has turned -/
structure Drawn (w : World) (g A : Nat) (w' : World) : Prop where
  cur : Cur w' g A
  turned : TurnedIn g (g + 1) w w'
theorem Drawn.below {w w1 w2 : World} {g A : Nat} (h : Drawn w g A w1) (hb : Below w1.heap.size w1 w2) : Drawn w g A w2 :=
  ⟨h.cur.below hb, h.turned.trans (TurnedIn.of_below hb)⟩
theorem Drawn.le {w w1 : World} {g A B : Nat} (h : Drawn w g A w1) (hb : A ≤ B) : Drawn w g B w1 := ⟨h.cur.le hb, h.turned⟩
theorem Drawn.belowB {w w1 w2 : World} {g A B : Nat} (h : Drawn w g A w1) (hb : Below B w1 w2) (h1 : w.heap.size ≤ B) (h2 : g < B) : Drawn w g A w2 := by
  refine ⟨?_, h.turned.belowB hb h1⟩
  obtain ⟨v, xs, k, z, ⟨A', c, rfl, hr, hx⟩, h4, h5, h6, h7, h8⟩ := h.cur
  refine ⟨_, xs, k, z, ⟨A', c, rfl, hr, fun hne => ?_⟩, h4, h5, h6, h7, h8.below hb h2⟩
  obtain ⟨b, o, rfl, hbg, hbl, hc⟩ := hx hne
  exact ⟨b, o, rfl, hbg, Nat.lt_of_lt_of_le hbl hb.size, fun j hj => (hb.cell (p := ⟨b, o + j, none⟩) (by show b < B; omega)).trans (hc j hj)⟩
theorem OwnI.turnedLow {ti : TypeId} {w w' : World} {B B' E' : Nat} {v : Value} {xs : List Int} (h : OwnI ti w B v xs) (hg : TurnedIn B' E' w w') (hs : E' ≤ B) : OwnI ti w' B v xs := ownsRow_turned h hg hs
theorem Drawn.box {w W : World} {g A : Nat} (h : Drawn w g A W) (hg : g < w.heap.size) (p : Addr) (hp : w.heap.size ≤ p.block) (y : Value) : Drawn w g A (W.setCell p y) :=
  h.belowB ((Below.refl w.heap.size W).setCell (p := p) hp y) (Nat.le_refl _) hg
theorem OwnI.box {ti : TypeId} {w W : World} {B : Nat} {u : Value} {xs : List Int} (h : OwnI ti W B u xs) (hB : w.heap.size + 1 ≤ B) (y : Value) : OwnI ti (W.setCell ⟨w.heap.size, 0, none⟩ y) w.heap.size u xs :=
  (h.turnedLow ((TurnedIn.refl w.heap.size (w.heap.size + 1) W).set_ ⟨w.heap.size, 0, none⟩ ⟨Nat.le_refl _, Nat.lt_succ_self _⟩ y) hB).mono (by omega)
set_option maxHeartbeats 3200000 in
theorem surePoset_any (g A most : Nat) (w : World) (h : Cur w g A) (hA : A < 900000000000) (hm1 : 1 ≤ most) (hm : most ≤ 10) :
    Calls Try.prog 159 #[.pointer (some ⟨g, 0, none⟩), .int .i64 most] w fun (r : Ending) w' => ∃ u xs, r = .returned (.agg #[u]) ∧ OwnI 3 w' w.heap.size u xs ∧ 1 ≤ xs.length ∧ xs.length ≤ 10 ∧ Drawn w g (A + 200) w' := by
  have HC := hid h
  have hgl := h.lt
  clear h
  go_enter Try.func159, Try.ntmps159
  go_wp2_with fail
  have HD0 := hid ((Drawn.mk HC.out (TurnedIn.refl _ _ _)).below (below_alloc (Below.refl _ w) (.cells #[.slice none 0 0] 26)))
  have HA0 := hid (Blk.new w 26 #[.slice none 0 0])
  refine (pick_any g A 5 _ HD0.out.cur (by omega)).mono ?_
  rintro e w1 ⟨m, hm5, rfl, hc1, ht1⟩
  have HD1 := hid (Drawn.mk hc1 (HD0.out.turned.trans ht1))
  have HA1 := hid (HA0.out.turned ht1 (Or.inr (by omega)))
  have hz1 : w.heap.size + 1 ≤ w1.heap.size := by have := ht1.size; simpa using this
  clear hc1 ht1 HD0 HA0
  rcases (by omega : m = 0 ∨ m = 1 ∨ m = 2 ∨ 3 ≤ m) with rfl | rfl | rfl | hm3
  · clear hm5
    obtain ⟨H, hH⟩ : ∃ H : Nat, (most : Int) / 2 = H := ⟨most / 2, by omega⟩
    have hH5 : H ≤ 5 := by omega
    go_wp2_with fail
    refine (pick_any g (A + 2) 2 _ HD1.out.cur (by omega)).mono ?_
    rintro e w2 ⟨p, hp, rfl, hc2, ht2⟩
    have HD2 := hid (Drawn.mk hc2 (HD1.out.turned.trans ht2))
    have HA2 := hid (HA1.out.turned ht2 (Or.inr (by omega)))
    have hz2 : w.heap.size + 1 ≤ w2.heap.size := by have := ht2.size; omega
    clear hc2 ht2 HD1 HA1
    go_wp2_with fail
    try rw [hH]
    refine (l1Most_any 1 (H : Int) _).mono ?_
    rintro e w3 ⟨rfl, rfl⟩
    go_wp2_with fail
    refine (pick_any g (A + 4) _ _ HD2.out.cur (by omega)).mono ?_
    rintro e w4 ⟨q, hq, rfl, hc4, ht4⟩
    have HD4 := hid (Drawn.mk hc4 (HD2.out.turned.trans ht4))
    have HA4 := hid (HA2.out.turned ht4 (Or.inr (by omega)))
    have hz4 : w.heap.size + 1 ≤ w4.heap.size := by have := ht4.size; omega
    clear hc4 ht4 HD2 HA2
    obtain ⟨a, ha⟩ : ∃ a : Nat, (1 : Int) + (p : Int) = a := ⟨1 + p, by omega⟩
    obtain ⟨b, hb⟩ : ∃ b : Nat, (1 : Int) + (q : Int) = b := ⟨1 + q, by omega⟩
    have ha1 : 1 ≤ a := by omega
    have ha2 : a ≤ 2 := by omega
    have hb1 : 1 ≤ b := by omega
    have hb2 : b ≤ 5 := by omega
    have hab : a * b ≤ 2 * 5 := Nat.mul_le_mul ha2 hb2
    have hab1 : 1 * 1 ≤ a * b := Nat.mul_le_mul ha1 hb1
    go_wp2_with fail
    try rw [ha, hb]
    refine (poRectangle_any a b _ ha1 (by omega) hb1 (by omega) hab).mono ?_
    rintro e w5 ⟨u, rfl, ho, hb5⟩
    have HD5 := hid (HD4.out.below hb5)
    have HA5 := hid (HA4.out.below hb5 (by omega))
    have HO := hid ho
    have t1 := HA5.out.cell 0
    have t2 := HA5.out.frozen 0
    obtain ⟨uA, un, uc, rfl⟩ := ho.shape3
    clear ho hb5 HD4 HA4
    go_wp2
    refine bodyPost_ret (v := .agg #[.slice uA un uc]) (by simp [results, Try.results159, go_sem, t1]) rfl ⟨_, _, rfl, HO.out.box hz4 _, by rw [whereL, mkL_length]; omega, by rw [whereL, mkL_length]; omega, (HD5.out.box hgl _ (Nat.le_refl _) _).le (by omega)⟩
  · clear hm5
    go_wp2_with fail
    refine (pick_any g (A + 2) 2 _ HD1.out.cur (by omega)).mono ?_
    rintro e w2 ⟨p, hp, rfl, hc2, ht2⟩
    have HD2 := hid (Drawn.mk hc2 (HD1.out.turned.trans ht2))
    have HA2 := hid (HA1.out.turned ht2 (Or.inr (by omega)))
    have hz2 : w.heap.size + 1 ≤ w2.heap.size := by have := ht2.size; omega
    clear hc2 ht2 HD1 HA1
    obtain ⟨a, ha⟩ : ∃ a : Nat, (1 : Int) + (p : Int) = a := ⟨1 + p, by omega⟩
    have ha1 : 1 ≤ a := by omega
    have ha2 : a ≤ 2 := by omega
    have HLa : Hid (1 ≤ (stcL a).length ∧ (stcL a).length ≤ 10) := hid (by rcases (by omega : a = 1 ∨ a = 2) with h | h <;> (rw [h]; decide))
    go_wp2_with fail
    try rw [ha]
    refine (specStaircase_any a _ (wf_i64 _ (by omega) (by omega))).mono ?_
    rintro e w5 ⟨u, rfl, ho, -, hb5⟩
    have HD5 := hid (HD2.out.below hb5)
    have HA5 := hid (HA2.out.below hb5 (by omega))
    have HO := hid ho
    have hz5 : w.heap.size + 1 ≤ w5.heap.size := by have := hb5.size; omega
    obtain ⟨uA, un, uc, rfl⟩ := ho.shape3
    clear ho hb5 HD2 HA2
    have HD6 := hid (HD5.out.below (below_alloc (Below.refl _ w5) (.cells #[.slice uA un uc] 26)))
    have HO6 := hid (HO.out.alloc (.cells #[.slice uA un uc] 26))
    have HA6 := HA5.out.alloc (.cells #[.slice uA un uc] 26)
    have t1 := HA6.cell 0
    have t2 := HA6.frozen 0
    clear HA6
    go_wp2
    refine bodyPost_ret (v := .agg #[.slice uA un uc]) (by simp [results, Try.results159, go_sem, t1]) rfl ⟨_, _, rfl, HO6.out.box hz2 _, HLa.out.1, HLa.out.2, (HD6.out.box hgl _ (Nat.le_refl _) _).le (by omega)⟩
  · clear hm5
    go_wp2_with fail
    refine (pick_any g (A + 2) most _ HD1.out.cur (by omega)).mono ?_
    rintro e w2 ⟨p, hp, rfl, hc2, ht2⟩
    have HD2 := hid (Drawn.mk hc2 (HD1.out.turned.trans ht2))
    have HA2 := hid (HA1.out.turned ht2 (Or.inr (by omega)))
    have hz2 : w.heap.size + 1 ≤ w2.heap.size := by have := ht2.size; omega
    clear hc2 ht2 HD1 HA1
    obtain ⟨a, ha⟩ : ∃ a : Nat, (1 : Int) + (p : Int) = a := ⟨1 + p, by omega⟩
    have ha1 : 1 ≤ a := by omega
    have ha2 : a ≤ 10 := by omega
    have HLa : Hid (1 ≤ (fenceL a).length ∧ (fenceL a).length ≤ 10) := hid (by rw [fenceL_yes ha1 ha2, whereL, mkL_length]; omega)
    go_wp2_with fail
    try rw [ha]
    refine (specFence_any a _ (wf_i64 _ (by omega) (by omega))).mono ?_
    rintro e w5 ⟨u, rfl, ho, -, hb5⟩
    have HD5 := hid (HD2.out.below hb5)
    have HA5 := hid (HA2.out.below hb5 (by omega))
    have HO := hid ho
    have hz5 : w.heap.size + 1 ≤ w5.heap.size := by have := hb5.size; omega
    obtain ⟨uA, un, uc, rfl⟩ := ho.shape3
    clear ho hb5 HD2 HA2
    have HD6 := hid (HD5.out.below (below_alloc (Below.refl _ w5) (.cells #[.slice uA un uc] 26)))
    have HO6 := hid (HO.out.alloc (.cells #[.slice uA un uc] 26))
    have HA6 := HA5.out.alloc (.cells #[.slice uA un uc] 26)
    have t1 := HA6.cell 0
    have t2 := HA6.frozen 0
    clear HA6
    go_wp2
    refine bodyPost_ret (v := .agg #[.slice uA un uc]) (by simp [results, Try.results159, go_sem, t1]) rfl ⟨_, _, rfl, HO6.out.box hz2 _, HLa.out.1, HLa.out.2, (HD6.out.box hgl _ (Nat.le_refl _) _).le (by omega)⟩
  · clear hm5
    go_wp2_with fail
    refine (pick_any g (A + 2) most _ HD1.out.cur (by omega)).mono ?_
    rintro e w2 ⟨p, hp, rfl, hc2, ht2⟩
    have HD2 := hid (Drawn.mk hc2 (HD1.out.turned.trans ht2))
    have HA2 := hid (HA1.out.turned ht2 (Or.inr (by omega)))
    have hz2 : w.heap.size + 1 ≤ w2.heap.size := by have := ht2.size; omega
    clear hc2 ht2 HD1 HA1
    obtain ⟨n, hn⟩ : ∃ n : Nat, (1 : Int) + (p : Int) = n := ⟨1 + p, by omega⟩
    have hn1 : 1 ≤ n := by omega
    have hn2 : n ≤ 10 := by omega
    go_wp2_with fail
    clear hn hp
    refine (pick_any g (A + 4) (2 * (n : Int)) _ HD2.out.cur (by omega)).mono ?_
    rintro e w3 ⟨k, hk, rfl, hc3, ht3⟩
    have HD3 := hid (Drawn.mk hc3 (HD2.out.turned.trans ht3))
    have HA3 := hid (HA2.out.turned ht3 (Or.inr (by omega)))
    have hz3 : w.heap.size + 1 ≤ w3.heap.size := by have := ht3.size; omega
    have hk20 : k ≤ 20 := by omega
    clear hc3 ht3 HD2 HA2 hk
    go_wp2
    go_loopw [10, 11] (fun q i wr => ∃ (t : Nat) (ps : List (Nat × Nat)), t ≤ 20 ∧ i = .int .i64 t ∧ Pairs 3 24 wr (w.heap.size + 1) q ps ∧ PairsOk n ps ∧ ps.length + t ≤ 20 ∧ Drawn w g (A + 6 + 4 * (20 - t)) wr ∧ Blk wr w.heap.size 26 #[.slice none 0 0]) (fun _ i _ => (intOf i).toNat)
    case atStart => exact ⟨k, [], hk20, rfl, Pairs.nil _ _ _ _, fun k hk => by simp at hk, by simpa using hk20, HD3.out.le (by omega), HA3.out⟩
    case round =>
      obtain ⟨t, ps, ht20, rfl, hP, hok, hlen, hD, hA9⟩ := hrel
      have HP := hid hP
      have HOk := hid hok
      have HD := hid hD
      have HA9 := hid hA9
      have hzr : w.heap.size + 1 ≤ wr.heap.size := hA9.lt
      clear hP hok hD hA9
      by_cases hgo : 0 < t ∧ 1 < n
      · obtain ⟨h0, h1⟩ := hgo
        go_wp2_with fail
        refine (pick_any g (A + 6 + 4 * (20 - t)) _ _ HD.out.cur (by omega)).mono ?_
        rintro e w4 ⟨j, hj, rfl, hc4, ht4⟩
        have HD4 := hid (Drawn.mk hc4 (HD.out.turned.trans ht4))
        have HA4 := hid (HA9.out.turned ht4 (Or.inr (by omega)))
        have HP4 := hid (HP.out.turned ht4 (by omega))
        have hz4 : w.heap.size + 1 ≤ w4.heap.size := by have := ht4.size; omega
        have hjn : j + 1 < n := by omega
        clear hc4 ht4 HD HA9 HP hj
        go_wp2_with fail
        refine (pick_any g (A + 6 + 4 * (20 - t) + 2) _ _ HD4.out.cur (by omega)).mono ?_
        rintro e w5 ⟨d, hd, rfl, hc5, ht5⟩
        have HD5 := hid (Drawn.mk hc5 (HD4.out.turned.trans ht5))
        have HA5 := hid (HA4.out.turned ht5 (Or.inr (by omega)))
        have HP5 := hid (HP4.out.turned ht5 (by omega))
        have hz5 : w.heap.size + 1 ≤ w5.heap.size := by have := ht5.size; omega
        have hdn : j + 1 + d < n := by omega
        clear hc5 ht5 HD4 HA4 HP4 hd
        go_wp2_with (at_builtin; refine wpList_append_pair rfl _ _ 49 24 3 rfl Try.underlying49 Try.info24 (by decide) (w.heap.size + 1) _ _ j (j + 1 + d) rfl HP5.out rfl rfl (by omega) (by omega) ?_; intro q2 w6 hp2 hb6)
        go_roundw
        case rel => exact ⟨t - 1, ps ++ [(j, j + 1 + d)], by omega, by go_num, hp2, fun k hk => by (
            rw [List.length_append, List.length_singleton] at hk
            by_cases e : k < ps.length
            · have := HOk.out k e
              rw [show (ps ++ [(j, j + 1 + d)]).getD k (0, 0) = ps.getD k (0, 0) from by simp [List.getD, List.getElem?_append, e]]; exact this
            · obtain rfl : k = ps.length := by omega
              simp [List.getD]; omega), by (rw [List.length_append, List.length_singleton]; omega), (HD5.out.belowB hb6 (by omega) (by omega)).le (by omega), HA5.out.below hb6 (Nat.lt_succ_self _)⟩
        case measure => simp [intOf]; omega
      · have hlen2 : ps.length ≤ 20 := by omega
        rcases (by omega : t = 0 ∨ 0 < t ∧ n = 1) with rfl | ⟨h0, rfl⟩
        · go_wp2_with fail
          refine (poFrom_any _ ps n _ _ HP.out (by omega) HOk.out (by omega)).mono ?_
          rintro e w7 ⟨u, rfl, ho, hb7⟩
          have HD7 := hid (HD.out.below hb7)
          have HA7 := hid (HA9.out.below hb7 HA9.out.lt)
          have HO := hid ho
          have t1 := HA7.out.cell 0
          have t2 := HA7.out.frozen 0
          obtain ⟨uA, un, uc, rfl⟩ := ho.shape3
          clear ho hb7 HD HA9 HP
          go_wp2
          refine bodyPost_ret (v := .agg #[.slice uA un uc]) (by simp [results, Try.results159, go_sem, t1]) rfl ⟨_, _, rfl, HO.out.box hzr _, by rw [fromL, mkL_length]; omega, by rw [fromL, mkL_length]; omega, (HD7.out.box hgl _ (Nat.le_refl _) _).le (by omega)⟩
        · go_wp2_with fail
          refine (poFrom_any _ ps 1 _ _ HP.out (by omega) HOk.out (by omega)).mono ?_
          rintro e w7 ⟨u, rfl, ho, hb7⟩
          have HD7 := hid (HD.out.below hb7)
          have HA7 := hid (HA9.out.below hb7 HA9.out.lt)
          have HO := hid ho
          have t1 := HA7.out.cell 0
          have t2 := HA7.out.frozen 0
          obtain ⟨uA, un, uc, rfl⟩ := ho.shape3
          clear ho hb7 HD HA9 HP
          go_wp2
          refine bodyPost_ret (v := .agg #[.slice uA un uc]) (by simp [results, Try.results159, go_sem, t1]) rfl ⟨_, _, rfl, HO.out.box hzr _, by rw [fromL, mkL_length]; omega, by rw [fromL, mkL_length]; omega, (HD7.out.box hgl _ (Nat.le_refl _) _).le (by omega)⟩
end Go.Proofs.Ytpdoheagfjeefaa

/- One number of a list of the call's own is turned. -/
namespace Go.Proofs.Ytpdoheagfjeefaa
open Go.RowKit Go.WideShapes Go.ChangeShapes
set_option linter.unusedVariables false

/-- one number of a list of the call's own is turned -/
theorem OwnI.cellC {e : TypeId} {w : World} {B : Nat} {A : Option Addr} {n c : Nat} {l : List Int} (h : OwnI e w B (.slice A n c) l) {j : Nat} (hj : j < l.length) :
    ∃ g, A = some ⟨g, 0, none⟩ ∧ n = l.length ∧ B ≤ g ∧ g < w.heap.size ∧ w.cell? ⟨g, j, none⟩ = some (.int .i64 (l.getD j 0)) ∧ w.frozen? ⟨g, j, none⟩ = false ∧ ∀ y, OwnI e (w.setCell ⟨g, j, none⟩ (.int .i64 y)) B (.slice A n c) (l.set j y) := by
  have h' : w.ownsRow B e 1 (.slice A n c) l.length (l.map (Value.int .i64)) := h
  obtain ⟨g, cap, hv, hB, hg⟩ := h'.form (by omega)
  injection hv with h1 h2 h3
  subst h1; subst h2; subst h3
  refine ⟨g, rfl, rfl, hB, hg, ?_, h'.frozenAt j, fun y => ?_⟩
  · rw [h'.cellAt j (by omega)]; simp [List.getD, hj]
  · have h2 := (h'.stored j (.int .i64 y)).1
    unfold OwnI
    rw [List.length_set]
    have e2 : (l.set j y).map (Value.int .i64) = (l.map (Value.int .i64)).set j (.int .i64 y) := by rw [List.map_set]
    rw [e2]; exact h2
end Go.Proofs.Ytpdoheagfjeefaa

/- The model's cursor of draws: posets that may be spoilt. -/
namespace Go.Proofs.Ytpdoheagfjeefaa
open Go.RowKit Go.WideShapes Go.ChangeShapes
set_option linter.unusedVariables false

theorem Blk.newDrew (w : World) (t : TypeId) (cs : Array Value) : Blk (w.alloc (.cells cs t)).drew w.heap.size t cs := Blk.new w t cs
set_option maxHeartbeats 3200000 in
theorem poset_any (g A most : Nat) (w : World) (h : Cur w g A) (hA : A < 800000000000) (hm1 : 1 ≤ most) (hm : most ≤ 10) :
    Calls Try.prog 104 #[.pointer (some ⟨g, 0, none⟩), .int .i64 most] w fun (r : Ending) w' => ∃ u xs, r = .returned (.agg #[u]) ∧ OwnI 3 w' w.heap.size u xs ∧ xs.length ≤ 21 ∧ Drawn w g (A + 210) w' := by
  have HC := hid h
  have hgl := h.lt
  clear h
  go_enter Try.func104, Try.ntmps104
  go_wp2_with fail
  have HD0 := hid ((Drawn.mk HC.out (TurnedIn.refl _ _ _)).below (below_alloc (Below.refl _ w) (.cells #[.slice none 0 0] 26)))
  have HA0 := hid (Blk.new w 26 #[.slice none 0 0])
  refine (surePoset_any g A most _ HD0.out.cur (by omega) hm1 hm).mono ?_
  rintro e w1 ⟨u1, xs, rfl, ho, hl1, hl2, hd1⟩
  have HD1 := hid (Drawn.mk hd1.cur (HD0.out.turned.trans hd1.turned))
  have HA1 := hid (HA0.out.turned hd1.turned (Or.inr (by omega)))
  have HO1 := hid ho
  have hz1 : w.heap.size + 1 ≤ w1.heap.size := by have := hd1.turned.size; simpa using this
  clear ho hd1 HD0 HA0
  obtain ⟨B5, hB5⟩ : ∃ B5, w1.heap.size = B5 := ⟨_, rfl⟩
  obtain ⟨uA, un, uc, rfl⟩ := HO1.out.shape3
  have hbox := (Blk.new w1 26 #[.slice uA un uc]).cell 0
  go_wp2_with fail
  have HD2 := hid (HD1.out.below (below_alloc (Below.refl _ w1) (.cells #[.slice uA un uc] 26)))
  have HA2 := hid (HA1.out.alloc (.cells #[.slice uA un uc] 26))
  have HB2 := hid (Blk.new w1 26 #[.slice uA un uc])
  have HO2 := hid (HO1.out.alloc (.cells #[.slice uA un uc] 26))
  clear hbox HD1 HA1
  refine (l1Own_any _ xs _ HO2.out.ints (by omega)).mono ?_
  rintro e w3 ⟨u3, rfl, ho3, hb3⟩
  rw [hB5] at HB2
  have HD3 := hid (HD2.out.below hb3)
  have HA3 := hid (HA2.out.below hb3 HA2.out.lt)
  have HB3 := hid (HB2.out.below hb3 HB2.out.lt)
  have HO3 := hid (ho3.mono (show B5 + 1 ≤ _ by simp; omega))
  clear ho3 hb3 HD2 HA2 HB2 HO2 HO1
  obtain ⟨vA, vc, rfl, hv⟩ := HO3.out.shape
  obtain ⟨q, rfl, hq1, hq2⟩ := hv (by rintro rfl; simp at hl1)
  have t1 := HB3.out.cell 0
  have t2 := HB3.out.frozen 0
  go_wp2_with fail
  have HD4 := hid (HD3.out.box hgl ⟨B5, 0, none⟩ (by show w.heap.size ≤ B5; omega) (.slice (some ⟨q, 0, none⟩) xs.length vc))
  have HA4 := hid (HA3.out.far (p := ⟨B5, 0, none⟩) (by show w.heap.size ≠ B5; omega) (.slice (some ⟨q, 0, none⟩) xs.length vc))
  have HB4 : Hid (Blk (w3.setCell ⟨B5, 0, none⟩ (.slice (some ⟨q, 0, none⟩) xs.length vc)) B5 26 #[.slice (some ⟨q, 0, none⟩) xs.length vc]) := hid (HB3.out.set_ 0 (.slice (some ⟨q, 0, none⟩) xs.length vc))
  have HO4 := hid (HO3.out.turnedLow ((TurnedIn.refl B5 (B5 + 1) w3).set_ ⟨B5, 0, none⟩ ⟨Nat.le_refl _, Nat.lt_succ_self _⟩ (.slice (some ⟨q, 0, none⟩) xs.length vc)) (Nat.le_refl _))
  generalize w3.setCell ⟨B5, 0, none⟩ (.slice (some ⟨q, 0, none⟩) xs.length vc) = w4 at HD4 HA4 HB4 HO4 ⊢
  clear t1 t2 HD3 HA3 HB3 HO3
  refine (pick_any g (A + 200) 20 _ HD4.out.cur (by omega)).mono ?_
  rintro e w5 ⟨m, hm20, rfl, hc5, ht5⟩
  have HD5 := hid (Drawn.mk hc5 (HD4.out.turned.trans ht5))
  have HA5 := hid (HA4.out.turned ht5 (Or.inr (by omega)))
  have HB5 := hid (HB4.out.turned ht5 (Or.inr (by omega)))
  have HO5 := hid (HO4.out.turnedLow ht5 (by omega))
  clear hc5 ht5 HD4 HA4 HB4 HO4
  rcases (by omega : m = 0 ∨ m = 1 ∨ m = 2 ∨ 3 ≤ m) with rfl | rfl | rfl | hm3
  · clear hm20
    have t1 := HB5.out.cell 0
    go_wp2_with fail
    refine (pick_any g (A + 202) _ _ HD5.out.cur (by omega)).mono ?_
    rintro e w6 ⟨i, hi, rfl, hc6, ht6⟩
    have HD6 := hid (Drawn.mk hc6 (HD5.out.turned.trans ht6))
    have HA6 := hid (HA5.out.turned ht6 (Or.inr (by omega)))
    have HB6 := hid (HB5.out.turned ht6 (Or.inr (by omega)))
    have HO6 := hid (HO5.out.turnedLow ht6 (by omega))
    have hil : i < xs.length := by omega
    clear hc6 ht6 HD5 HA5 HB5 HO5 t1 hi
    have t1 := HB6.out.cell 0
    have hgw := HD6.out.cur.lt
    have hB5w := HB6.out.lt
    have t4 : (w6.alloc (.cells #[.int .i64 (-1), .int .i64 1, .int .i64 3, .int .i64 (IntKind.i64.wrap ((2 : Int) ^ i)), .int .i64 4611686018427387904] 3)).cell? ⟨B5, 0, none⟩ = some (.slice (some ⟨q, 0, none⟩) xs.length vc) := (HB6.out.alloc _).cell 0
    obtain ⟨z, hz⟩ : ∃ z : Int, IntKind.i64.wrap ((2 : Int) ^ i) = z := ⟨_, rfl⟩
    go_wp2
    go_region_with (go_at_call 120; refine (among_any g (A + 204) _ [-1, 1, 3, z, 4611686018427387904] _ (HD6.out.cur.below (below_drewN (below_alloc (Below.refl _ _) _) 1)) (by omega) ⟨_, Blk.newDrew w6 _ _, by omega, rfl⟩ (by simp) (by simp)).mono ?_; rintro e w8 ⟨m2, hm2, rfl, hc8, ht8⟩; have HD8 := hid (Drawn.mk hc8 ((HD6.out.below (below_drewN (below_alloc (Below.refl _ _) _) 1)).turned.trans ht8)); have HA8 := hid ((HA6.out.below (below_drewN (below_alloc (Below.refl _ _) _) 1) HA6.out.lt).turned ht8 (Or.inr (by omega))); have HB8 := hid ((HB6.out.below (below_drewN (below_alloc (Below.refl _ _) _) 1) HB6.out.lt).turned ht8 (Or.inr (by omega))); have HO8 := hid ((HO6.out.below (below_drewN (below_alloc (Below.refl _ _) _) 1)).turnedLow ht8 (by omega)); have t3 := HB8.out.cell 0; obtain ⟨y, hy⟩ : ∃ y, [-1, 1, 3, z, 4611686018427387904].getD m2 0 = y := ⟨_, rfl⟩; rw [hy]; obtain ⟨q', e1, -, -, -, hc9, hf9, hs9⟩ := HO8.out.cellC hil; obtain rfl : q = q' := (by simpa using e1); have HS9 := hid hs9; clear hc8 ht8 hm2 hy e1 hs9)
    all_goals
      have a1 := HA8.out.cell 0
      have a2 := HA8.out.frozen 0
      have a3 : w.heap.size ≠ q := by omega
      have a4 : B5 ≠ q := by omega
      have b1 : (w8.setCell ⟨q, i, none⟩ (.int .i64 y)).cell? ⟨w.heap.size, 0, none⟩ = some (.slice none 0 0) := (HA8.out.far (p := ⟨q, i, none⟩) a3 _).cell 0
      go_wp2
    all_goals
      refine bodyPost_ret (v := .agg #[.slice (some ⟨q, 0, none⟩) xs.length vc]) (by simp [results, Try.results104, go_sem, b1]) rfl ⟨_, xs.set i y, rfl, (HS9.out y).box (by omega) _, by simp; omega, ((HD8.out.box hgl ⟨q, i, none⟩ (by show w.heap.size ≤ q; omega) _).box hgl _ (Nat.le_refl _) _).le (by omega)⟩
  · clear hm20
    have t1 := HB5.out.cell 0
    have t2 := HB5.out.frozen 0
    have a1 := HA5.out.cell 0
    have a2 := HA5.out.frozen 0
    have a3 : w.heap.size ≠ B5 := by omega
    have b1 : (w5.setCell ⟨B5, 0, none⟩ (.slice none 0 0)).cell? ⟨w.heap.size, 0, none⟩ = some (.slice none 0 0) := (HA5.out.far (p := ⟨B5, 0, none⟩) a3 _).cell 0
    go_wp2
    refine bodyPost_ret (v := .agg #[.slice none 0 0]) (by simp [results, Try.results104, go_sem, b1]) rfl ⟨_, [], rfl, OwnI.nil _ _ _, by simp, ((HD5.out.box hgl ⟨B5, 0, none⟩ (by show w.heap.size ≤ B5; omega) _).box hgl _ (Nat.le_refl _) _).le (by omega)⟩
  · clear hm20
    have t1 := HB5.out.cell 0
    go_wp2
    clear t1
    go_loopw [7] (fun i wr => ∃ (t : Nat) (ys : List Int) (v : Value), t ≤ 11 ∧ i = .int .i64 t ∧ ys.length + 11 ≤ 21 + t ∧ OwnI 3 wr (B5 + 1) v ys ∧ Drawn w g (A + 202) wr ∧ Blk wr w.heap.size 26 #[.slice none 0 0] ∧ Blk wr B5 26 #[v]) (fun i _ => 11 - (intOf i).toNat)
    case atStart => exact ⟨0, xs, _, by omega, rfl, by omega, HO5.out, HD5.out, HA5.out, HB5.out⟩
    case round =>
      obtain ⟨t, ys, v, ht, rfl, hys, ho, hd, ha, hb⟩ := hrel
      have HO := hid ho
      have HD := hid hd
      have HA := hid ha
      have HB := hid hb
      obtain ⟨yA, yn, yc, rfl⟩ := ho.shape3
      have hBl := hb.lt
      clear ho hd ha hb
      have t1 := HB.out.cell 0
      have t2 := HB.out.frozen 0
      by_cases hlt : t < 11
      · go_wp2_with (at_builtin; refine wpList_append_int rfl _ _ 24 3 rfl Try.underlying24 Try.info3 (B5 + 1) _ ys 0 rfl HO.out rfl rfl (by omega) (by omega) ?_; intro v2 w7 ho7 hb7; obtain ⟨y2A, y2n, y2c, rfl⟩ := ho7.shape3; have HB7 := hid (HB.out.below hb7 (Nat.lt_succ_self _)); have c1 := HB7.out.cell 0; have c2 := HB7.out.frozen 0; have HO7 := hid ho7; have HA7 := hid (HA.out.below hb7 (by omega)); have HD7 := hid (HD.out.belowB hb7 (by omega) (by omega)); clear ho7 hb7 t1 t2)
        go_roundw
        case rel => exact ⟨t + 1, ys ++ [0], _, by omega, by go_num, by (rw [List.length_append, List.length_singleton]; omega), HO7.out.turnedLow ((TurnedIn.refl B5 (B5 + 1) w7).set_ ⟨B5, 0, none⟩ ⟨Nat.le_refl _, Nat.lt_succ_self _⟩ _) (Nat.le_refl _), HD7.out.box hgl ⟨B5, 0, none⟩ (by show w.heap.size ≤ B5; omega) _, HA7.out.far (p := ⟨B5, 0, none⟩) (by show w.heap.size ≠ B5; omega) _, HB7.out.set_ 0 _⟩
        case measure => simp [intOf]; omega
      · have a1 := HA.out.cell 0
        have a2 := HA.out.frozen 0
        go_wp2
        refine bodyPost_ret (v := .agg #[.slice yA yn yc]) (by simp [results, Try.results104, go_sem, a1]) rfl ⟨_, ys, rfl, HO.out.box (by omega) _, by omega, (HD.out.box hgl _ (Nat.le_refl _) _).le (by omega)⟩
  · have t1 := HB5.out.cell 0
    have a1 := HA5.out.cell 0
    have a2 := HA5.out.frozen 0
    go_wp2
    refine bodyPost_ret (v := .agg #[.slice (some ⟨q, 0, none⟩) xs.length vc]) (by simp [results, Try.results104, go_sem, a1]) rfl ⟨_, xs, rfl, HO5.out.box (by omega) _, by omega, (HD5.out.box hgl _ (Nat.le_refl _) _).le (by omega)⟩
end Go.Proofs.Ytpdoheagfjeefaa

/- The model's cursor of draws: sets. -/
namespace Go.Proofs.Ytpdoheagfjeefaa
open Go.RowKit Go.WideShapes Go.ChangeShapes
set_option linter.unusedVariables false

theorem l1Least_any (a b : Int) (w : World) : Calls Try.prog 130 #[.int .i64 a, .int .i64 b] w fun r w' => r = .returned (.int .i64 (min a b)) ∧ w = w' := by
  go_enter Try.func130, Try.ntmps130
  by_cases h : a < b
  · go_wp2
    go_ret
    exact ⟨ret_int (by omega), rfl⟩
  · go_wp2
    go_ret
    exact ⟨ret_int (by omega), rfl⟩
theorem wrapI_range (x : Int) : -9223372036854775808 ≤ IntKind.i64.wrap x ∧ IntKind.i64.wrap x ≤ 9223372036854775807 := by
  rw [IntKind.wrap_i64]; omega
theorem and_range (x y : Int) : -9223372036854775808 ≤ bits .and .i64 x y ∧ bits .and .i64 x y ≤ 9223372036854775807 := wrapI_range _
theorem getD_range {l : List Int} {p : Int → Prop} (h : ∀ x ∈ l, p x) {m : Nat} (hm : m < l.length) : p (l.getD m 0) := by
  have e : l.getD m 0 = l[m] := by simp [List.getD, hm]
  rw [e]; exact h _ (List.getElem_mem hm)
set_option maxHeartbeats 3200000 in
theorem setOf_any (g A : Nat) (v : Value) (xs : List Int) (w : World) (h : Cur w g A) (hA : A < 800000000000) (hv : Ints w v xs) (hl : xs.length ≤ 1048576) :
    Calls Try.prog 148 #[.pointer (some ⟨g, 0, none⟩), .agg #[v]] w fun (r : Ending) w' => ∃ s : Int, (Lit.int .i64 s).wf = true ∧ r = .returned (.int .i64 s) ∧ Drawn w g (A + 10) w' := by
  obtain ⟨vA, vc, rfl, -⟩ := hv
  have HC := hid h
  have hgl := h.lt
  clear h
  obtain ⟨n, hn⟩ : ∃ n : Nat, min (xs.length : Int) 12 = n := ⟨min xs.length 12, by omega⟩
  have hn12 : n ≤ 12 := by omega
  have hln := l1Least_any (xs.length : Int) 12
  rw [hn] at hln
  have HL := hid hln
  clear hln hn
  have hbox := (Blk.new w 26 #[.slice vA xs.length vc]).cell 0
  have HD0 := hid ((Drawn.mk HC.out (TurnedIn.refl _ _ _)).below (below_alloc (Below.refl _ w) (.cells #[.slice vA xs.length vc] 26)))
  go_enter Try.func148, Try.ntmps148
  go_wp2_with fail
  refine (HL.out _).mono ?_
  rintro e w1 ⟨rfl, rfl⟩
  clear hbox
  go_wp2_with fail
  refine (pick_any g A 256 _ HD0.out.cur (by omega)).mono ?_
  rintro e w1 ⟨p, hp, rfl, hc1, ht1⟩
  have HD1 := hid (Drawn.mk hc1 (HD0.out.turned.trans ht1))
  clear hc1 ht1 HD0
  go_wp2_with fail
  refine (pick_any g (A + 2) 16 _ HD1.out.cur (by omega)).mono ?_
  rintro e w2 ⟨q, hq, rfl, hc2, ht2⟩
  have HD2 := hid (Drawn.mk hc2 (HD1.out.turned.trans ht2))
  clear hc2 ht2 HD1
  have hp2 : p < 256 := by omega
  have hq2 : q < 16 := by omega
  clear hp hq
  go_wp2_with fail
  refine (one_any g (A + 4) 12 _ HD2.out.cur (by omega)).mono ?_
  rintro e w3 ⟨b, rfl, hc3, ht3⟩
  have HD3 := hid (Drawn.mk hc3 (HD2.out.turned.trans ht3))
  clear hc3 ht3 HD2
  cases b
  · go_wp2
    go_ret
    exact ⟨_, wf_i64 _ (and_range _ _).1 (and_range _ _).2, rfl, HD3.out.le (by omega)⟩
  · have hgw := HD3.out.cur.lt
    have hy1 := wrapI_range ((2 : Int) ^ n)
    obtain ⟨y1, he1⟩ : ∃ z : Int, IntKind.i64.wrap ((2 : Int) ^ n) = z := ⟨_, rfl⟩
    rw [he1] at hy1
    have hy2 := wrapI_range (y1 - 1)
    obtain ⟨y2, he2⟩ : ∃ z : Int, IntKind.i64.wrap (y1 - 1) = z := ⟨_, rfl⟩
    rw [he2] at hy2
    have HY1 := hid hy1
    have HY2 := hid hy2
    clear hy1 hy2
    go_wp2
    go_region_with (go_at_call 120; refine (among_any g (A + 6) _ [-1, y1, 0, y2, 4611686018427387904] _ (HD3.out.cur.below (below_drewN (below_alloc (Below.refl _ _) _) 1)) (by omega) ⟨_, Blk.newDrew w3 _ _, by omega, rfl⟩ (by simp) (by simp)).mono ?_; rintro e w8 ⟨m2, hm2, rfl, hc8, ht8⟩; have HD8 := hid (Drawn.mk hc8 ((HD3.out.below (below_drewN (below_alloc (Below.refl _ _) _) 1)).turned.trans ht8)); have hy3 := hid (getD_range (p := fun x => -9223372036854775808 ≤ x ∧ x ≤ 9223372036854775807) (l := [-1, y1, 0, y2, 4611686018427387904]) (by simp [HY1.out.1, HY1.out.2, HY2.out.1, HY2.out.2]) hm2); obtain ⟨y, hy⟩ : ∃ y, [-1, y1, 0, y2, 4611686018427387904].getD m2 0 = y := ⟨_, rfl⟩; rw [hy] at hy3 ⊢; clear hc8 ht8 hm2 hy)
    all_goals go_wp2
    all_goals go_ret
    all_goals exact ⟨_, wf_i64 _ hy3.out.1 hy3.out.2, rfl, HD8.out.le (by omega)⟩
end Go.Proofs.Ytpdoheagfjeefaa
