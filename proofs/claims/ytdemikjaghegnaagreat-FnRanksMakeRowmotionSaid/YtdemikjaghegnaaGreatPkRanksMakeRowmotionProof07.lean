/- Texts CurQ, CurS, Ord, Ideals, OrdC, one behind the other. -/
import Derived.Test.YtdemikjaghegnaaGreatPkRanksMakeRowmotionProof00
import Derived.Test.YtdemikjaghegnaaGreatPkRanksMakeRowmotionProof02
import Derived.Test.YtdemikjaghegnaaGreatPkRanksMakeRowmotionProof05
import Derived.Test.YtdemikjaghegnaaGreatPkRanksMakeRowmotionProof06
/- The model's cursor of draws: posets that may be spoilt. -/
namespace Go.Proofs.YtdemikjaghegnaaGreat
open Go.RowKit Go.WideShapes Go.ChangeShapes
set_option linter.unusedVariables false

theorem Blk.newDrew (w : World) (t : TypeId) (cs : Array Value) : Blk (w.alloc (.cells cs t)).drew w.heap.size t cs := Blk.new w t cs
set_option maxHeartbeats 3200000 in
theorem poset_any (g A most : Nat) (w : World) (h : Cur w g A) (hA : A < 800000000000) (hm1 : 1 ≤ most) (hm : most ≤ 10) :
    Calls Tryz.prog 112 #[.pointer (some ⟨g, 0, none⟩), .int .i64 most] w fun (r : Ending) w' => ∃ u xs, r = .returned (.agg #[u]) ∧ OwnI 3 w' w.heap.size u xs ∧ xs.length ≤ 21 ∧ Drawn w g (A + 210) w' := by
  have HC := hid h
  have hgl := h.lt
  clear h
  go_enter Tryz.func112, Tryz.ntmps112
  go_wp2_with fail
  have HD0 := hid ((Drawn.mk HC.out (TurnedIn.refl _ _ _)).below (below_alloc (Below.refl _ w) (.cells #[.slice none 0 0] 26)))
  have HA0 := hid (Blk.new w 26 #[.slice none 0 0])
  refine (surePoset_any g A most _ HD0.out.cur (by omega) hm1 hm).mono ?_
  rintro e w1 ⟨u1, xs, rfl, ho, hl1, hl2, hd1⟩
  have HD1 := hid (Drawn.mk hd1.cur (HD0.out.turned.trans hd1.turned))
  have HA1 := hid (HA0.out.turned hd1.turned (Or.inr (by omega)))
  have HO1 := hid ho
  have hz1 : w.heap.size + 1 ≤ w1.heap.size := by have := hd1.turned.size; simpa using this
  clear ho hd1 HD0 HA0
  obtain ⟨B5, hB5⟩ : ∃ B5, w1.heap.size = B5 := ⟨_, rfl⟩
  obtain ⟨uA, un, uc, rfl⟩ := HO1.out.shape3
  have hbox := (Blk.new w1 26 #[.slice uA un uc]).cell 0
  go_wp2_with fail
  have HD2 := hid (HD1.out.below (below_alloc (Below.refl _ w1) (.cells #[.slice uA un uc] 26)))
  have HA2 := hid (HA1.out.alloc (.cells #[.slice uA un uc] 26))
  have HB2 := hid (Blk.new w1 26 #[.slice uA un uc])
  have HO2 := hid (HO1.out.alloc (.cells #[.slice uA un uc] 26))
  clear hbox HD1 HA1
  refine (l1Own_any _ xs _ HO2.out.ints (by omega)).mono ?_
  rintro e w3 ⟨u3, rfl, ho3, hb3⟩
  rw [hB5] at HB2
  have HD3 := hid (HD2.out.below hb3)
  have HA3 := hid (HA2.out.below hb3 HA2.out.lt)
  have HB3 := hid (HB2.out.below hb3 HB2.out.lt)
  have HO3 := hid (ho3.mono (show B5 + 1 ≤ _ by simp; omega))
  clear ho3 hb3 HD2 HA2 HB2 HO2 HO1
  obtain ⟨vA, vc, rfl, hv⟩ := HO3.out.shape
  obtain ⟨q, rfl, hq1, hq2⟩ := hv (by rintro rfl; simp at hl1)
  have t1 := HB3.out.cell 0
  have t2 := HB3.out.frozen 0
  go_wp2_with fail
  have HD4 := hid (HD3.out.box hgl ⟨B5, 0, none⟩ (by show w.heap.size ≤ B5; omega) (.slice (some ⟨q, 0, none⟩) xs.length vc))
  have HA4 := hid (HA3.out.far (p := ⟨B5, 0, none⟩) (by show w.heap.size ≠ B5; omega) (.slice (some ⟨q, 0, none⟩) xs.length vc))
  have HB4 : Hid (Blk (w3.setCell ⟨B5, 0, none⟩ (.slice (some ⟨q, 0, none⟩) xs.length vc)) B5 26 #[.slice (some ⟨q, 0, none⟩) xs.length vc]) := hid (HB3.out.set_ 0 (.slice (some ⟨q, 0, none⟩) xs.length vc))
  have HO4 := hid (HO3.out.turnedLow ((TurnedIn.refl B5 (B5 + 1) w3).set_ ⟨B5, 0, none⟩ ⟨Nat.le_refl _, Nat.lt_succ_self _⟩ (.slice (some ⟨q, 0, none⟩) xs.length vc)) (Nat.le_refl _))
  generalize w3.setCell ⟨B5, 0, none⟩ (.slice (some ⟨q, 0, none⟩) xs.length vc) = w4 at HD4 HA4 HB4 HO4 ⊢
  clear t1 t2 HD3 HA3 HB3 HO3
  refine (pick_any g (A + 200) 20 _ HD4.out.cur (by omega)).mono ?_
  rintro e w5 ⟨m, hm20, rfl, hc5, ht5⟩
  have HD5 := hid (Drawn.mk hc5 (HD4.out.turned.trans ht5))
  have HA5 := hid (HA4.out.turned ht5 (Or.inr (by omega)))
  have HB5 := hid (HB4.out.turned ht5 (Or.inr (by omega)))
  have HO5 := hid (HO4.out.turnedLow ht5 (by omega))
  clear hc5 ht5 HD4 HA4 HB4 HO4
  rcases (by omega : m = 0 ∨ m = 1 ∨ m = 2 ∨ 3 ≤ m) with rfl | rfl | rfl | hm3
  · clear hm20
    have t1 := HB5.out.cell 0
    go_wp2_with fail
    refine (pick_any g (A + 202) _ _ HD5.out.cur (by omega)).mono ?_
    rintro e w6 ⟨i, hi, rfl, hc6, ht6⟩
    have HD6 := hid (Drawn.mk hc6 (HD5.out.turned.trans ht6))
    have HA6 := hid (HA5.out.turned ht6 (Or.inr (by omega)))
    have HB6 := hid (HB5.out.turned ht6 (Or.inr (by omega)))
    have HO6 := hid (HO5.out.turnedLow ht6 (by omega))
    have hil : i < xs.length := by omega
    clear hc6 ht6 HD5 HA5 HB5 HO5 t1 hi
    have t1 := HB6.out.cell 0
    have hgw := HD6.out.cur.lt
    have hB5w := HB6.out.lt
    have t4 : (w6.alloc (.cells #[.int .i64 (-1), .int .i64 1, .int .i64 3, .int .i64 (IntKind.i64.wrap ((2 : Int) ^ i)), .int .i64 4611686018427387904] 3)).cell? ⟨B5, 0, none⟩ = some (.slice (some ⟨q, 0, none⟩) xs.length vc) := (HB6.out.alloc _).cell 0
    obtain ⟨z, hz⟩ : ∃ z : Int, IntKind.i64.wrap ((2 : Int) ^ i) = z := ⟨_, rfl⟩
    go_wp2
    go_region_with (go_at_call 59; refine (among_any g (A + 204) _ [-1, 1, 3, z, 4611686018427387904] _ (HD6.out.cur.below (below_drewN (below_alloc (Below.refl _ _) _) 1)) (by omega) ⟨_, Blk.newDrew w6 _ _, by omega, rfl⟩ (by simp) (by simp)).mono ?_; rintro e w8 ⟨m2, hm2, rfl, hc8, ht8⟩; have HD8 := hid (Drawn.mk hc8 ((HD6.out.below (below_drewN (below_alloc (Below.refl _ _) _) 1)).turned.trans ht8)); have HA8 := hid ((HA6.out.below (below_drewN (below_alloc (Below.refl _ _) _) 1) HA6.out.lt).turned ht8 (Or.inr (by omega))); have HB8 := hid ((HB6.out.below (below_drewN (below_alloc (Below.refl _ _) _) 1) HB6.out.lt).turned ht8 (Or.inr (by omega))); have HO8 := hid ((HO6.out.below (below_drewN (below_alloc (Below.refl _ _) _) 1)).turnedLow ht8 (by omega)); have t3 := HB8.out.cell 0; obtain ⟨y, hy⟩ : ∃ y, [-1, 1, 3, z, 4611686018427387904].getD m2 0 = y := ⟨_, rfl⟩; rw [hy]; obtain ⟨q', e1, -, -, -, hc9, hf9, hs9⟩ := HO8.out.cellC hil; obtain rfl : q = q' := (by simpa using e1); have HS9 := hid hs9; clear hc8 ht8 hm2 hy e1 hs9)
    all_goals
      have a1 := HA8.out.cell 0
      have a2 := HA8.out.frozen 0
      have a3 : w.heap.size ≠ q := by omega
      have a4 : B5 ≠ q := by omega
      have b1 : (w8.setCell ⟨q, i, none⟩ (.int .i64 y)).cell? ⟨w.heap.size, 0, none⟩ = some (.slice none 0 0) := (HA8.out.far (p := ⟨q, i, none⟩) a3 _).cell 0
      go_wp2
    all_goals
      refine bodyPost_ret (v := .agg #[.slice (some ⟨q, 0, none⟩) xs.length vc]) (by simp [results, Tryz.results112, go_sem, b1]) rfl ⟨_, xs.set i y, rfl, (HS9.out y).box (by omega) _, by simp; omega, ((HD8.out.box hgl ⟨q, i, none⟩ (by show w.heap.size ≤ q; omega) _).box hgl _ (Nat.le_refl _) _).le (by omega)⟩
  · clear hm20
    have t1 := HB5.out.cell 0
    have t2 := HB5.out.frozen 0
    have a1 := HA5.out.cell 0
    have a2 := HA5.out.frozen 0
    have a3 : w.heap.size ≠ B5 := by omega
    have b1 : (w5.setCell ⟨B5, 0, none⟩ (.slice none 0 0)).cell? ⟨w.heap.size, 0, none⟩ = some (.slice none 0 0) := (HA5.out.far (p := ⟨B5, 0, none⟩) a3 _).cell 0
    go_wp2
    refine bodyPost_ret (v := .agg #[.slice none 0 0]) (by simp [results, Tryz.results112, go_sem, b1]) rfl ⟨_, [], rfl, OwnI.nil _ _ _, by simp, ((HD5.out.box hgl ⟨B5, 0, none⟩ (by show w.heap.size ≤ B5; omega) _).box hgl _ (Nat.le_refl _) _).le (by omega)⟩
  · clear hm20
    have t1 := HB5.out.cell 0
    go_wp2
    clear t1
    go_loopw [7] (fun i wr => ∃ (t : Nat) (ys : List Int) (v : Value), t ≤ 11 ∧ i = .int .i64 t ∧ ys.length + 11 ≤ 21 + t ∧ OwnI 3 wr (B5 + 1) v ys ∧ Drawn w g (A + 202) wr ∧ Blk wr w.heap.size 26 #[.slice none 0 0] ∧ Blk wr B5 26 #[v]) (fun i _ => 11 - (intOf i).toNat)
    case atStart => exact ⟨0, xs, _, by omega, rfl, by omega, HO5.out, HD5.out, HA5.out, HB5.out⟩
    case round =>
      obtain ⟨t, ys, v, ht, rfl, hys, ho, hd, ha, hb⟩ := hrel
      have HO := hid ho
      have HD := hid hd
      have HA := hid ha
      have HB := hid hb
      obtain ⟨yA, yn, yc, rfl⟩ := ho.shape3
      have hBl := hb.lt
      clear ho hd ha hb
      have t1 := HB.out.cell 0
      have t2 := HB.out.frozen 0
      by_cases hlt : t < 11
      · go_wp2_with (at_builtin; refine wpList_append_int rfl _ _ 24 3 rfl Tryz.underlying24 Tryz.info3 (B5 + 1) _ ys 0 rfl HO.out rfl rfl (by omega) (by omega) ?_; intro v2 w7 ho7 hb7; obtain ⟨y2A, y2n, y2c, rfl⟩ := ho7.shape3; have HB7 := hid (HB.out.below hb7 (Nat.lt_succ_self _)); have c1 := HB7.out.cell 0; have c2 := HB7.out.frozen 0; have HO7 := hid ho7; have HA7 := hid (HA.out.below hb7 (by omega)); have HD7 := hid (HD.out.belowB hb7 (by omega) (by omega)); clear ho7 hb7 t1 t2)
        go_roundw
        case rel => exact ⟨t + 1, ys ++ [0], _, by omega, by go_num, by (rw [List.length_append, List.length_singleton]; omega), HO7.out.turnedLow ((TurnedIn.refl B5 (B5 + 1) w7).set_ ⟨B5, 0, none⟩ ⟨Nat.le_refl _, Nat.lt_succ_self _⟩ _) (Nat.le_refl _), HD7.out.box hgl ⟨B5, 0, none⟩ (by show w.heap.size ≤ B5; omega) _, HA7.out.far (p := ⟨B5, 0, none⟩) (by show w.heap.size ≠ B5; omega) _, HB7.out.set_ 0 _⟩
        case measure => simp [intOf]; omega
      · have a1 := HA.out.cell 0
        have a2 := HA.out.frozen 0
        go_wp2
        refine bodyPost_ret (v := .agg #[.slice yA yn yc]) (by simp [results, Tryz.results112, go_sem, a1]) rfl ⟨_, ys, rfl, HO.out.box (by omega) _, by omega, (HD.out.box hgl _ (Nat.le_refl _) _).le (by omega)⟩
  · have t1 := HB5.out.cell 0
    have a1 := HA5.out.cell 0
    have a2 := HA5.out.frozen 0
    go_wp2
    refine bodyPost_ret (v := .agg #[.slice (some ⟨q, 0, none⟩) xs.length vc]) (by simp [results, Tryz.results112, go_sem, a1]) rfl ⟨_, xs, rfl, HO5.out.box (by omega) _, by omega, (HD5.out.box hgl _ (Nat.le_refl _) _).le (by omega)⟩
end Go.Proofs.YtdemikjaghegnaaGreat

/- The model's cursor of draws: sets. -/
namespace Go.Proofs.YtdemikjaghegnaaGreat
open Go.RowKit Go.WideShapes Go.ChangeShapes
set_option linter.unusedVariables false

theorem l1Least_any (a b : Int) (w : World) : Calls Tryz.prog 128 #[.int .i64 a, .int .i64 b] w fun r w' => r = .returned (.int .i64 (min a b)) ∧ w = w' := by
  go_enter Tryz.func128, Tryz.ntmps128
  by_cases h : a < b
  · go_wp2
    go_ret
    exact ⟨ret_int (by omega), rfl⟩
  · go_wp2
    go_ret
    exact ⟨ret_int (by omega), rfl⟩
theorem wrapI_range (x : Int) : -9223372036854775808 ≤ IntKind.i64.wrap x ∧ IntKind.i64.wrap x ≤ 9223372036854775807 := by
  rw [IntKind.wrap_i64]; omega
theorem and_range (x y : Int) : -9223372036854775808 ≤ bits .and .i64 x y ∧ bits .and .i64 x y ≤ 9223372036854775807 := wrapI_range _
theorem getD_range {l : List Int} {p : Int → Prop} (h : ∀ x ∈ l, p x) {m : Nat} (hm : m < l.length) : p (l.getD m 0) := by
  have e : l.getD m 0 = l[m] := by simp [List.getD, hm]
  rw [e]; exact h _ (List.getElem_mem hm)
set_option maxHeartbeats 3200000 in
theorem setOf_any (g A : Nat) (v : Value) (xs : List Int) (w : World) (h : Cur w g A) (hA : A < 800000000000) (hv : Ints w v xs) (hl : xs.length ≤ 1048576) :
    Calls Tryz.prog 95 #[.pointer (some ⟨g, 0, none⟩), .agg #[v]] w fun (r : Ending) w' => ∃ s : Int, (Lit.int .i64 s).wf = true ∧ r = .returned (.int .i64 s) ∧ Drawn w g (A + 10) w' := by
  obtain ⟨vA, vc, rfl, -⟩ := hv
  have HC := hid h
  have hgl := h.lt
  clear h
  obtain ⟨n, hn⟩ : ∃ n : Nat, min (xs.length : Int) 12 = n := ⟨min xs.length 12, by omega⟩
  have hn12 : n ≤ 12 := by omega
  have hln := l1Least_any (xs.length : Int) 12
  rw [hn] at hln
  have HL := hid hln
  clear hln hn
  have hbox := (Blk.new w 26 #[.slice vA xs.length vc]).cell 0
  have HD0 := hid ((Drawn.mk HC.out (TurnedIn.refl _ _ _)).below (below_alloc (Below.refl _ w) (.cells #[.slice vA xs.length vc] 26)))
  go_enter Tryz.func95, Tryz.ntmps95
  go_wp2_with fail
  refine (HL.out _).mono ?_
  rintro e w1 ⟨rfl, rfl⟩
  clear hbox
  go_wp2_with fail
  refine (pick_any g A 256 _ HD0.out.cur (by omega)).mono ?_
  rintro e w1 ⟨p, hp, rfl, hc1, ht1⟩
  have HD1 := hid (Drawn.mk hc1 (HD0.out.turned.trans ht1))
  clear hc1 ht1 HD0
  go_wp2_with fail
  refine (pick_any g (A + 2) 16 _ HD1.out.cur (by omega)).mono ?_
  rintro e w2 ⟨q, hq, rfl, hc2, ht2⟩
  have HD2 := hid (Drawn.mk hc2 (HD1.out.turned.trans ht2))
  clear hc2 ht2 HD1
  have hp2 : p < 256 := by omega
  have hq2 : q < 16 := by omega
  clear hp hq
  go_wp2_with fail
  refine (one_any g (A + 4) 12 _ HD2.out.cur (by omega)).mono ?_
  rintro e w3 ⟨b, rfl, hc3, ht3⟩
  have HD3 := hid (Drawn.mk hc3 (HD2.out.turned.trans ht3))
  clear hc3 ht3 HD2
  cases b
  · go_wp2
    go_ret
    exact ⟨_, wf_i64 _ (and_range _ _).1 (and_range _ _).2, rfl, HD3.out.le (by omega)⟩
  · have hgw := HD3.out.cur.lt
    have hy1 := wrapI_range ((2 : Int) ^ n)
    obtain ⟨y1, he1⟩ : ∃ z : Int, IntKind.i64.wrap ((2 : Int) ^ n) = z := ⟨_, rfl⟩
    rw [he1] at hy1
    have hy2 := wrapI_range (y1 - 1)
    obtain ⟨y2, he2⟩ : ∃ z : Int, IntKind.i64.wrap (y1 - 1) = z := ⟨_, rfl⟩
    rw [he2] at hy2
    have HY1 := hid hy1
    have HY2 := hid hy2
    clear hy1 hy2
    go_wp2
    go_region_with (go_at_call 59; refine (among_any g (A + 6) _ [-1, y1, 0, y2, 4611686018427387904] _ (HD3.out.cur.below (below_drewN (below_alloc (Below.refl _ _) _) 1)) (by omega) ⟨_, Blk.newDrew w3 _ _, by omega, rfl⟩ (by simp) (by simp)).mono ?_; rintro e w8 ⟨m2, hm2, rfl, hc8, ht8⟩; have HD8 := hid (Drawn.mk hc8 ((HD3.out.below (below_drewN (below_alloc (Below.refl _ _) _) 1)).turned.trans ht8)); have hy3 := hid (getD_range (p := fun x => -9223372036854775808 ≤ x ∧ x ≤ 9223372036854775807) (l := [-1, y1, 0, y2, 4611686018427387904]) (by simp [HY1.out.1, HY1.out.2, HY2.out.1, HY2.out.2]) hm2); obtain ⟨y, hy⟩ : ∃ y, [-1, y1, 0, y2, 4611686018427387904].getD m2 0 = y := ⟨_, rfl⟩; rw [hy] at hy3 ⊢; clear hc8 ht8 hm2 hy)
    all_goals go_wp2
    all_goals go_ret
    all_goals exact ⟨_, wf_i64 _ hy3.out.1 hy3.out.2, rfl, HD8.out.le (by omega)⟩
end Go.Proofs.YtdemikjaghegnaaGreat

/- Orders of a poset, counted in two ways. No program is named here. -/
namespace Go.Proofs.YtdemikjaghegnaaGreat
set_option linter.unusedVariables false

def sumN (f : Nat → Nat) : Nat → Nat
  | 0 => 0
  | k + 1 => sumN f k + f k
theorem sumN_congr {f g : Nat → Nat} {k : Nat} (h : ∀ e, e < k → f e = g e) : sumN f k = sumN g k := by
  induction k with
  | zero => rfl
  | succ k ih => simp only [sumN]; rw [ih (fun e he => h e (by omega)), h k (by omega)]
theorem sumN_zero {f : Nat → Nat} {k : Nat} (h : ∀ e, e < k → f e = 0) : sumN f k = 0 := by
  induction k with
  | zero => rfl
  | succ k ih => simp only [sumN]; rw [ih (fun e he => h e (by omega)), h k (by omega)]
theorem sumN_le {f g : Nat → Nat} {k : Nat} (h : ∀ e, e < k → f e ≤ g e) : sumN f k ≤ sumN g k := by
  induction k with
  | zero => exact Nat.le_refl _
  | succ k ih =>
    simp only [sumN]
    have h1 := ih (fun e he => h e (by omega))
    have h2 := h k (by omega)
    omega
theorem sumN_const {f : Nat → Nat} {k c : Nat} (h : ∀ e, e < k → f e ≤ c) : sumN f k ≤ k * c := by
  induction k with
  | zero => simp [sumN]
  | succ k ih =>
    simp only [sumN]
    have h1 := ih (fun e he => h e (by omega))
    have h2 := h k (by omega)
    have h3 : (k + 1) * c = k * c + c := Nat.succ_mul k c
    omega
theorem sumN_upd {f g : Nat → Nat} {k i : Nat} (hi : i < k) (h : ∀ e, e < k → e ≠ i → f e = g e) : sumN f k + g i = sumN g k + f i := by
  induction k with
  | zero => omega
  | succ k ih =>
    simp only [sumN]
    by_cases e : i = k
    · subst e
      have := sumN_congr (f := f) (g := g) (k := i) (fun e he => h e (by omega) (by omega))
      omega
    · have h1 := ih (by omega) (fun e he hn => h e (by omega) hn)
      have h2 := h k (by omega) (by omega)
      omega

theorem xor_bit (t e i : Nat) : (t ^^^ 2 ^ e).testBit i = (if i = e then !t.testBit e else t.testBit i) := by
  rw [Nat.testBit_xor, Nat.testBit_two_pow]
  by_cases h : i = e
  · subst h; simp
  · have : ¬ e = i := fun h2 => h h2.symm
    simp [h, this]
theorem xor_lt_self {t e : Nat} (h : t.testBit e = true) : t ^^^ 2 ^ e < t := by
  have h1 : t ^^^ 2 ^ e ≤ t := by
    apply Nat.le_of_testBit
    intro i hi
    rw [xor_bit] at hi
    split at hi
    · rename_i hie; subst hie; exact h
    · exact hi
  rcases Nat.lt_or_ge (t ^^^ 2 ^ e) t with h2 | h2
  · exact h2
  · have h3 : t ^^^ 2 ^ e = t := by omega
    have h4 := xor_bit t e e
    rw [h3, if_pos rfl, h] at h4
    cases h4
/-- may e stand last in an order of t? -/
def predP (xs : List Int) (t e : Nat) : Bool := t.testBit e && (sub (row xs e) (t ^^^ 2 ^ e) == 0)
theorem predP_bit {xs : List Int} {t e : Nat} (h : predP xs t e = true) : t.testBit e = true := by
  simp only [predP, Bool.and_eq_true] at h; exact h.1
/-- how many orders of t there are -/
def ways (xs : List Int) (t : Nat) : Nat :=
  if t = 0 then 1 else sumN (fun e => if h : predP xs t e = true then ways xs (t ^^^ 2 ^ e) else 0) xs.length
termination_by t
decreasing_by exact xor_lt_self (predP_bit h)
def wterm (xs : List Int) (t e : Nat) : Nat := if predP xs t e = true then ways xs (t ^^^ 2 ^ e) else 0
theorem ways_zero (xs : List Int) : ways xs 0 = 1 := by rw [ways]; simp
theorem ways_pos {xs : List Int} {t : Nat} (h : t ≠ 0) : ways xs t = sumN (wterm xs t) xs.length := by
  rw [ways, if_neg h]
  rfl
theorem predP_zero (xs : List Int) (e : Nat) : predP xs 0 e = false := by simp [predP]

/-- bits of t below n, counted -/
def cntB (t : Nat) (n : Nat) : Nat := sumN (fun e => if t.testBit e = true then 1 else 0) n
theorem cntB_xor {t e n : Nat} (he : e < n) (h : t.testBit e = true) : cntB (t ^^^ 2 ^ e) n + 1 = cntB t n := by
  have := sumN_upd (f := fun i => if (t ^^^ 2 ^ e).testBit i = true then 1 else 0) (g := fun i => if t.testBit i = true then 1 else 0) he (fun i _ hn => by simp only [xor_bit, if_neg hn])
  simp only [xor_bit, h, if_true, Bool.not_true] at this
  unfold cntB
  simp only [xor_bit, h] at this ⊢
  simpa using this
theorem ways_le {xs : List Int} (hl : xs.length ≤ 10) (t : Nat) : ways xs t ≤ 10 ^ cntB t xs.length := by
  induction t using Nat.strongRecOn with
  | _ t ih =>
    by_cases h0 : t = 0
    · subst h0; rw [ways_zero]; exact Nat.one_le_pow _ _ (by decide)
    · rw [ways_pos h0]
      by_cases hc : cntB t xs.length = 0
      · rw [sumN_zero]
        · exact Nat.zero_le _
        · intro e he
          unfold wterm
          split
          · rename_i hp
            have := cntB_xor he (predP_bit hp)
            omega
          · rfl
      · refine Nat.le_trans (sumN_const (c := 10 ^ (cntB t xs.length - 1)) ?_) ?_
        · intro e he
          unfold wterm
          split
          · rename_i hp
            have h1 := ih _ (xor_lt_self (predP_bit hp))
            have h2 := cntB_xor he (predP_bit hp)
            have h3 : cntB t xs.length - 1 = cntB (t ^^^ 2 ^ e) xs.length := by omega
            rw [h3]; exact h1
          · exact Nat.zero_le _
        · have h4 : 10 ^ cntB t xs.length = 10 ^ (cntB t xs.length - 1) * 10 := by rw [← Nat.pow_succ]; congr 1; omega
          rw [h4, Nat.mul_comm]
          exact Nat.mul_le_mul_left _ hl
theorem cntB_le (t n : Nat) : cntB t n ≤ n := by
  have := sumN_const (f := fun e => if t.testBit e = true then 1 else 0) (k := n) (c := 1) (fun e _ => by split <;> omega)
  simpa [cntB] using this
theorem ways_lt {xs : List Int} (hl : xs.length ≤ 10) (t : Nat) : ways xs t ≤ 10000000000 := by
  refine Nat.le_trans (ways_le hl t) ?_
  have h1 := cntB_le t xs.length
  have : 10 ^ cntB t xs.length ≤ 10 ^ 10 := Nat.pow_le_pow_right (by decide) (by omega)
  simpa using this
/-- a set that is no ideal has no order -/
theorem ways_no {xs : List Int} (hg : good xs = true) (t : Nat) (h : holdsIdeal xs t = false) : ways xs t = 0 := by
  induction t using Nat.strongRecOn with
  | _ t ih =>
    have hn : ¬ (∀ e, e < xs.length → t.testBit e = true → ∀ j, (row xs e).testBit j = true → t.testBit j = true) := by
      rw [← holdsIdeal_row, h]; simp
    have h0 : t ≠ 0 := by
      rintro rfl
      exact hn (fun e _ hb => by simp at hb)
    rw [ways_pos h0]
    refine sumN_zero fun e he => ?_
    unfold wterm
    split
    · rename_i hp
      refine ih _ (xor_lt_self (predP_bit hp)) ?_
      cases hI : holdsIdeal xs (t ^^^ 2 ^ e)
      · rfl
      · exfalso
        apply hn
        rw [holdsIdeal_row] at hI
        simp only [predP, Bool.and_eq_true, beq_iff_eq] at hp
        obtain ⟨hp1, hp2⟩ := hp
        rw [sub_eq_zero] at hp2
        have hsub : ∀ j, (t ^^^ 2 ^ e).testBit j = true → t.testBit j = true := by
          intro j hj
          rw [xor_bit] at hj
          split at hj
          · rename_i hje; subst hje; exact hp1
          · exact hj
        intro e' he' hb j hj
        by_cases hee : e' = e
        · subst hee; exact hsub j (hp2 j hj)
        · exact hsub j (hI e' he' (by rw [xor_bit, if_neg hee]; exact hb) j hj)
    · rfl
/-- for an ideal: its tops alone may stand last -/
theorem ways_top {xs : List Int} (hg : good xs = true) {t e : Nat} (ht : t < 2 ^ xs.length) (h : holdsIdeal xs t = true) (he : e < xs.length) :
    wterm xs t e = if (top xs t).testBit e = true then ways xs (t ^^^ 2 ^ e) else 0 := by
  have hI := holdsIdeal_row.1 h
  unfold wterm top
  rw [sub_testBit]
  cases hb : t.testBit e
  · simp [predP, hb]
  · have hp : predP xs t e = true := by
      simp only [predP, hb, Bool.true_and, beq_iff_eq, sub_eq_zero]
      intro j hj
      have hje : j < e := testBit_lt (row_lt hg he).2 hj
      rw [xor_bit, if_neg (by omega)]
      exact hI e he hb j hj
    rw [if_pos hp]
    cases hu : (under xs t).testBit e
    · simp
    · simp only [Bool.not_true, Bool.and_false, Bool.false_eq_true, if_false]
      refine ways_no hg _ ?_
      obtain ⟨i, hi, hbi, hri⟩ := (underN_testBit xs t xs.length e).1 hu
      cases hc : holdsIdeal xs (t ^^^ 2 ^ e)
      · rfl
      · exfalso
        have hei : e < i := testBit_lt (row_lt hg hi).2 hri
        have := holdsIdeal_row.1 hc i hi (by rw [xor_bit, if_neg (by omega)]; exact hbi) e hri
        rw [xor_bit, if_pos rfl, hb] at this
        cases this
/-- an ideal without one of its tops is one -/
theorem top_down {xs : List Int} (hg : good xs = true) {t e : Nat} (h : holdsIdeal xs t = true) (he : e < xs.length) (hb : (top xs t).testBit e = true) : holdsIdeal xs (t ^^^ 2 ^ e) = true ∧ t.testBit e = true := by
  have hI := holdsIdeal_row.1 h
  unfold top at hb
  rw [sub_testBit, Bool.and_eq_true, Bool.not_eq_true'] at hb
  refine ⟨holdsIdeal_row.2 fun i hi hbi j hj => ?_, hb.1⟩
  rw [xor_bit] at hbi ⊢
  split at hbi
  · rw [hb.1] at hbi; cases hbi
  · split
    · rename_i hne hje
      subst hje
      exfalso
      have := (underN_testBit xs t xs.length j).2 ⟨i, hi, hbi, hj⟩
      have h2 := hb.2
      unfold under at h2
      rw [this] at h2; cases h2
    · exact hI i hi hbi j hj

/-! ### the model's table, forwards -/
/-- what has come to t when all below S and the first k steps of S are done -/
def fwd (xs : List Int) (S k t : Nat) : Nat :=
  (if t = 0 then 1 else 0) + sumN (fun e => if predP xs t e = true ∧ (t ^^^ 2 ^ e < S ∨ (t ^^^ 2 ^ e = S ∧ e < k)) then ways xs (t ^^^ 2 ^ e) else 0) xs.length
theorem fwd_self (xs : List Int) (S k : Nat) : fwd xs S k S = ways xs S := by
  unfold fwd
  by_cases h : S = 0
  · subst h
    rw [ways_zero, sumN_zero]
    · rfl
    · intro e _; rw [if_neg]; rintro ⟨h1, _⟩; rw [predP_zero] at h1; cases h1
  · rw [if_neg h, ways_pos h, Nat.zero_add]
    refine sumN_congr fun e _ => ?_
    unfold wterm
    by_cases hp : predP xs S e = true
    · rw [if_pos hp, if_pos ⟨hp, .inl (xor_lt_self (predP_bit hp))⟩]
    · rw [if_neg hp, if_neg (fun h => hp h.1)]
theorem fwd_below (xs : List Int) (S k t : Nat) (h : t ≤ S) : fwd xs S k t = ways xs t := by
  rw [← fwd_self xs t k]
  unfold fwd
  congr 1
  refine sumN_congr fun e _ => ?_
  by_cases hp : predP xs t e = true
  · have := xor_lt_self (predP_bit hp)
    rw [if_pos ⟨hp, .inl (by omega)⟩, if_pos ⟨hp, .inl this⟩]
  · rw [if_neg (fun h => hp h.1), if_neg (fun h => hp h.1)]
theorem fwd_next (xs : List Int) (S t : Nat) : fwd xs S xs.length t = fwd xs (S + 1) 0 t := by
  unfold fwd
  congr 1
  refine sumN_congr fun e he => ?_
  congr 1
  apply propext
  constructor
  · rintro ⟨h1, h2⟩; exact ⟨h1, by omega⟩
  · rintro ⟨h1, h2⟩; exact ⟨h1, by omega⟩
theorem fwd_skip {xs : List Int} {S : Nat} (h : ways xs S = 0) (t : Nat) : fwd xs S 0 t = fwd xs (S + 1) 0 t := by
  unfold fwd
  congr 1
  refine sumN_congr fun e he => ?_
  by_cases hp : predP xs t e = true
  · by_cases h2 : t ^^^ 2 ^ e = S
    · rw [h2, h]; simp
    · have : (predP xs t e = true ∧ (t ^^^ 2 ^ e < S ∨ (t ^^^ 2 ^ e = S ∧ e < 0))) ↔ (predP xs t e = true ∧ (t ^^^ 2 ^ e < S + 1 ∨ (t ^^^ 2 ^ e = S + 1 ∧ e < 0))) := by
        constructor
        · rintro ⟨h1, h2⟩; exact ⟨h1, by omega⟩
        · rintro ⟨h1, h2⟩; exact ⟨h1, by omega⟩
      simp only [this]
  · rw [if_neg (fun h => hp h.1), if_neg (fun h => hp h.1)]
theorem fwd_start (xs : List Int) (t : Nat) : fwd xs 0 0 t = if t = 0 then 1 else 0 := by
  unfold fwd
  rw [sumN_zero]
  · rfl
  · intro e _; rw [if_neg]; rintro ⟨_, h⟩; omega
/-- can k come behind S? -/
def stepP (xs : List Int) (S k : Nat) : Bool := !S.testBit k && (sub (row xs k) S == 0)
theorem or_eq_xor {S k : Nat} (h : S.testBit k = false) : S ||| 2 ^ k = S ^^^ 2 ^ k := by
  apply Nat.eq_of_testBit_eq
  intro i
  rw [Nat.testBit_or, xor_bit, Nat.testBit_two_pow]
  by_cases hi : i = k
  · subst hi; simp [h]
  · have : ¬ k = i := fun h2 => hi h2.symm
    simp [hi, this]
theorem xor_xor (S k : Nat) : S ^^^ 2 ^ k ^^^ 2 ^ k = S := by rw [Nat.xor_assoc, Nat.xor_self, Nat.xor_zero]
theorem fwd_step {xs : List Int} {S k : Nat} (hk : k < xs.length) (t : Nat) :
    fwd xs S (k + 1) t = if stepP xs S k = true ∧ t = S ||| 2 ^ k then fwd xs S k t + ways xs S else fwd xs S k t := by
  have main := sumN_upd (f := fun e => if predP xs t e = true ∧ (t ^^^ 2 ^ e < S ∨ (t ^^^ 2 ^ e = S ∧ e < k + 1)) then ways xs (t ^^^ 2 ^ e) else 0)
    (g := fun e => if predP xs t e = true ∧ (t ^^^ 2 ^ e < S ∨ (t ^^^ 2 ^ e = S ∧ e < k)) then ways xs (t ^^^ 2 ^ e) else 0) hk (fun e he hn => by
      have : (predP xs t e = true ∧ (t ^^^ 2 ^ e < S ∨ (t ^^^ 2 ^ e = S ∧ e < k + 1))) ↔ (predP xs t e = true ∧ (t ^^^ 2 ^ e < S ∨ (t ^^^ 2 ^ e = S ∧ e < k))) := by
        constructor
        · rintro ⟨h1, h2⟩; exact ⟨h1, by omega⟩
        · rintro ⟨h1, h2⟩; exact ⟨h1, by omega⟩
      simp only [this])
  by_cases hp : predP xs t k = true ∧ t ^^^ 2 ^ k = S
  · obtain ⟨hp, hS⟩ := hp
    have hb := predP_bit hp
    have hSk : S.testBit k = false := by rw [← hS, xor_bit, if_pos rfl, hb]; rfl
    have ht : t = S ||| 2 ^ k := by rw [or_eq_xor hSk, ← hS, xor_xor]
    have hst : stepP xs S k = true := by
      have h2 := hp
      simp only [predP, hb, Bool.true_and] at h2
      rw [hS] at h2
      simp only [stepP, hSk, Bool.not_false, Bool.true_and]
      exact h2
    rw [if_pos ⟨hst, ht⟩]
    simp only [hp, hS, true_and, Nat.lt_irrefl, false_or] at main
    simp only [Nat.lt_succ_self, if_true, if_false] at main
    unfold fwd
    omega
  · have hn : ¬ (stepP xs S k = true ∧ t = S ||| 2 ^ k) := by
      rintro ⟨h1, h2⟩
      simp only [stepP, Bool.and_eq_true, Bool.not_eq_true', beq_iff_eq] at h1
      have h3 := or_eq_xor h1.1
      have h4 : t ^^^ 2 ^ k = S := by rw [h2, h3, xor_xor]
      refine hp ⟨?_, h4⟩
      unfold predP
      rw [h4, h1.2, h2, Nat.testBit_or, Nat.testBit_two_pow_self]
      simp
    rw [if_neg hn]
    have e1 : (predP xs t k = true ∧ (t ^^^ 2 ^ k < S ∨ (t ^^^ 2 ^ k = S ∧ k < k + 1))) ↔ (predP xs t k = true ∧ (t ^^^ 2 ^ k < S ∨ (t ^^^ 2 ^ k = S ∧ k < k))) := by
      constructor
      · rintro ⟨h1, h2⟩
        refine ⟨h1, ?_⟩
        rcases h2 with h2 | ⟨h2, _⟩
        · exact .inl h2
        · exact absurd ⟨h1, h2⟩ hp
      · rintro ⟨h1, h2⟩; exact ⟨h1, by omega⟩
    simp only [e1] at main
    unfold fwd
    omega
theorem fwd_le (xs : List Int) (hl : xs.length ≤ 10) (S k t : Nat) : fwd xs S k t ≤ 100000000001 := by
  unfold fwd
  have := sumN_const (f := fun e => if predP xs t e = true ∧ (t ^^^ 2 ^ e < S ∨ (t ^^^ 2 ^ e = S ∧ e < k)) then ways xs (t ^^^ 2 ^ e) else 0) (k := xs.length) (c := 10000000000) (fun e _ => by
    split
    · exact ways_lt hl _
    · omega)
  have h2 : xs.length * 10000000000 ≤ 10 * 10000000000 := Nat.mul_le_mul_right _ hl
  split <;> omega

/-! ### the program's table, ideal by ideal -/
/-- what has come to s by its first k elements -/
def bwd (xs : List Int) (s k : Nat) : Nat := sumN (fun e => if (top xs s).testBit e = true then ways xs (s ^^^ 2 ^ e) else 0) k
theorem bwd_full {xs : List Int} (hg : good xs = true) {s : Nat} (hs : s < 2 ^ xs.length) (h0 : s ≠ 0) (h : holdsIdeal xs s = true) : bwd xs s xs.length = ways xs s := by
  rw [ways_pos h0]
  exact sumN_congr fun e he => (ways_top hg hs h he).symm
theorem bwd_le {xs : List Int} (hl : xs.length ≤ 10) (s : Nat) {k : Nat} (hk : k ≤ xs.length) : bwd xs s k ≤ 100000000000 := by
  have := sumN_const (f := fun e => if (top xs s).testBit e = true then ways xs (s ^^^ 2 ^ e) else 0) (k := k) (c := 10000000000) (fun e _ => by
    split
    · exact ways_lt hl _
    · omega)
  have h2 : k * 10000000000 ≤ 10 * 10000000000 := Nat.mul_le_mul_right _ (by omega)
  unfold bwd
  omega
theorem top_zero (xs : List Int) : top xs 0 = 0 := by
  apply Nat.eq_of_testBit_eq
  intro i
  rw [top, sub_testBit]; simp
def ordersN (xs : List Int) : Nat := ways xs (2 ^ xs.length - 1)
end Go.Proofs.YtdemikjaghegnaaGreat

/- Lists of sets: all ideals, all antichains. -/
namespace Go.Proofs.YtdemikjaghegnaaGreat
open Go.RowKit Go.WideShapes Go.ChangeShapes
set_option linter.unusedVariables false

/-- all sets below k of a kind, in order -/
def setsL (f : Nat → Bool) (k : Nat) : List Int := ((List.range k).filter f).map fun (s : Nat) => (s : Int)
theorem setsL_zero (f : Nat → Bool) : setsL f 0 = [] := rfl
theorem setsL_yes {f : Nat → Bool} {k : Nat} (h : f k = true) : setsL f (k + 1) = setsL f k ++ [(k : Int)] := by
  simp [setsL, List.range_succ, List.filter_append, h]
theorem setsL_no {f : Nat → Bool} {k : Nat} (h : f k = false) : setsL f (k + 1) = setsL f k := by
  simp [setsL, List.range_succ, List.filter_append, h]
theorem setsL_length (f : Nat → Bool) (k : Nat) : (setsL f k).length ≤ k := by
  have := List.length_filter_le f (List.range k)
  simpa [setsL] using this
theorem pow10 {n : Nat} (h : n ≤ 10) : 2 ^ n ≤ 1024 := (two_pow_le n h).2

theorem poIdeals_any (v : Value) (xs : List Int) (w : World) (hv : Ints w v xs) (hg : good xs = true) :
    Calls Tryz.prog 76 #[.agg #[v]] w fun (r : Ending) w' => ∃ u, r = Ending.returned u ∧ OwnI 3 w' w.heap.size u (setsL (holdsIdeal xs) (2 ^ xs.length)) ∧ Below w.heap.size w w' := by
  have hl10 := (good_length hg).2
  have HV := hid hv
  have HS := hid (good_small hg)
  obtain ⟨A, c, rfl, hA⟩ := hv
  obtain ⟨N, hN⟩ : ∃ N, 2 ^ xs.length = N := ⟨_, rfl⟩
  have wp : wrap64 ((2 : Int) ^ xs.length) = (N : Int) := by rw [wrap_pow xs.length hl10, hN]
  have hN10 : N ≤ 1024 := by rw [← hN]; exact pow10 hl10
  rw [hN]
  clear hA hg hN
  go_enter Tryz.func76, Tryz.ntmps76
  go_wp2
  go_loopw [3, 4] (fun q i wr => ∃ s : Nat, s ≤ N ∧ i = .int .i64 s ∧ OwnI 3 wr (w.heap.size + 1) q (setsL (holdsIdeal xs) s) ∧ Below (w.heap.size + 1) (w.alloc (.cells #[.slice A xs.length c] 26)) wr) (fun _ i _ => N - (intOf i).toNat)
  case atStart => exact ⟨0, Nat.zero_le _, rfl, OwnI.nil _ _ _, Below.refl _ _⟩
  case round =>
    obtain ⟨s, hs, rfl, ho, hb⟩ := hrel
    have hbox := box_cell hb 0
    have hbz : w.heap.size < wr.heap.size := by have := hb.size; simp at this; omega
    have HO := hid ho
    have HB := hid hb
    clear ho hb
    by_cases hlt : s < N
    · cases hI : holdsIdeal xs s
      · have HI := hid hI
        clear hI
        go_wp2_with (go_at_call 102; refine (poIdeal_any _ xs s _ (Ints.box HV.out HB.out) hl10 (by omega) (HS.out s)).mono ?_; rw [HI.out]; rintro e w1 ⟨rfl, hb1⟩)
        go_roundw
        case rel => exact ⟨s + 1, by omega, by go_num, by rw [setsL_no HI.out]; exact HO.out.below hb1, HB.out.trans (hb1.mono (by omega))⟩
        case measure => simp [intOf]; omega
      · have HI := hid hI
        clear hI
        go_wp2_with fail
        refine (poIdeal_any _ xs s _ (Ints.box HV.out HB.out) hl10 (by omega) (HS.out s)).mono ?_
        rw [HI.out]
        rintro e w1 ⟨rfl, hb1⟩
        have HO1 := hid (HO.out.below hb1)
        have HB1 := hid (HB.out.trans (hb1.mono (by omega)))
        have hz1 : w.heap.size + 1 ≤ w1.heap.size := by have := hb1.size; omega
        have hlen := setsL_length (holdsIdeal xs) s
        clear hb1 hbox
        go_wp2_with (at_builtin; refine wpList_append_int rfl _ _ 24 3 rfl Tryz.underlying24 Tryz.info3 (w.heap.size + 1) _ _ s rfl HO1.out rfl rfl (by omega) (by omega) ?_; rintro q2 w2 ho2 hb2)
        go_roundw
        case rel => exact ⟨s + 1, by omega, by go_num, by rw [setsL_yes HI.out]; exact ho2, HB1.out.trans hb2⟩
        case measure => simp [intOf]; omega
    · obtain rfl : s = N := by omega
      go_wp2
      go_ret
      exact ⟨_, rfl, HO.out.mono (by omega), below_box HB.out⟩
theorem setsI_any (v : Value) (xs : List Int) (w : World) (hv : Ints w v xs) (hg : good xs = true) :
    Calls Tryz.prog 85 #[.agg #[v], .func (.func 86) #[] #[]] w fun (r : Ending) w' => ∃ u, r = Ending.returned u ∧ OwnI 3 w' w.heap.size u (setsL (holdsIdeal xs) (2 ^ xs.length)) ∧ Below w.heap.size w w' := by
  have hl10 := (good_length hg).2
  have HV := hid hv
  have HS := hid (good_small hg)
  obtain ⟨A, c, rfl, hA⟩ := hv
  obtain ⟨N, hN⟩ : ∃ N, 2 ^ xs.length = N := ⟨_, rfl⟩
  have hN10 : 1 ≤ N ∧ N ≤ 1024 := by rw [← hN]; exact two_pow_le _ hl10
  have HW := hid (wholeSet_any xs.length hl10)
  rw [hN] at HW ⊢
  obtain ⟨hN1, hN2⟩ := hN10
  have e1 : ((N - 1 : Nat) : Int) + 1 = (N : Int) := by omega
  clear hA hg hN
  go_enter Tryz.func85, Tryz.ntmps85
  go_wp2_with (go_at_call 107; refine (HW.out _).mono ?_; rintro e w' ⟨rfl, rfl⟩)
  clear e1
  go_loopw [5, 12] (fun q i wr => ∃ s : Nat, s ≤ N ∧ i = .int .i64 s ∧ OwnI 3 wr (w.heap.size + 1) q (setsL (holdsIdeal xs) s) ∧ Below (w.heap.size + 1) (w.alloc (.cells #[.slice A xs.length c] 26)) wr) (fun _ i _ => N - (intOf i).toNat)
  case atStart => exact ⟨0, Nat.zero_le _, rfl, OwnI.nil _ _ _, Below.refl _ _⟩
  case round =>
    obtain ⟨s, hs, rfl, ho, hb⟩ := hrel
    have hbox := box_cell hb 0
    have hbz : w.heap.size < wr.heap.size := by have := hb.size; simp at this; omega
    have HO := hid ho
    have HB := hid hb
    clear ho hb
    by_cases hlt : s < N
    · cases hI : holdsIdeal xs s
      · have HI := hid hI
        clear hI
        go_wp2_with (go_at_call 86; refine (holdsIdeal_any _ xs s _ (Ints.box HV.out HB.out) hl10 (by omega) (HS.out s)).mono ?_; rw [HI.out]; rintro e w1 ⟨rfl, hb1⟩)
        go_roundw
        case rel => exact ⟨s + 1, by omega, by go_num, by rw [setsL_no HI.out]; exact HO.out.below hb1, HB.out.trans (hb1.mono (by omega))⟩
        case measure => simp [intOf]; omega
      · have HI := hid hI
        clear hI
        go_wp2_with fail
        refine (holdsIdeal_any _ xs s _ (Ints.box HV.out HB.out) hl10 (by omega) (HS.out s)).mono ?_
        rw [HI.out]
        rintro e w1 ⟨rfl, hb1⟩
        have HO1 := hid (HO.out.below hb1)
        have HB1 := hid (HB.out.trans (hb1.mono (by omega)))
        have hz1 : w.heap.size + 1 ≤ w1.heap.size := by have := hb1.size; omega
        have hlen := setsL_length (holdsIdeal xs) s
        clear hb1 hbox
        go_wp2_with (at_builtin; refine wpList_append_int rfl _ _ 24 3 rfl Tryz.underlying24 Tryz.info3 (w.heap.size + 1) _ _ s rfl HO1.out rfl rfl (by omega) (by omega) ?_; rintro q2 w2 ho2 hb2)
        go_roundw
        case rel => exact ⟨s + 1, by omega, by go_num, by rw [setsL_yes HI.out]; exact ho2, HB1.out.trans hb2⟩
        case measure => simp [intOf]; omega
    · obtain rfl : s = N := by omega
      go_wp2
      go_ret
      exact ⟨_, rfl, HO.out.mono (by omega), below_box HB.out⟩
/-- all ideals, all antichains; none where there is no poset -/
def idealsL (xs : List Int) : List Int := if good xs then setsL (holdsIdeal xs) (2 ^ xs.length) else []
def antichainsL (xs : List Int) : List Int := if good xs then setsL (holdsAntichain xs) (2 ^ xs.length) else []
theorem idealsL_length (xs : List Int) : (idealsL xs).length ≤ 1048576 := by
  unfold idealsL
  split
  · rename_i h
    have h1 := setsL_length (holdsIdeal xs) (2 ^ xs.length)
    have h2 := (two_pow_le _ (good_length h).2).2
    omega
  · simp
theorem antichainsL_length (xs : List Int) : (antichainsL xs).length ≤ 1048576 := by
  unfold antichainsL
  split
  · rename_i h
    have h1 := setsL_length (holdsAntichain xs) (2 ^ xs.length)
    have h2 := (two_pow_le _ (good_length h).2).2
    omega
  · simp
theorem idealsL_yes {xs : List Int} (h : good xs = true) : idealsL xs = setsL (holdsIdeal xs) (2 ^ xs.length) := if_pos h
theorem idealsL_no {xs : List Int} (h : good xs = false) : idealsL xs = [] := by simp [idealsL, h]
theorem antichainsL_yes {xs : List Int} (h : good xs = true) : antichainsL xs = setsL (holdsAntichain xs) (2 ^ xs.length) := if_pos h
theorem antichainsL_no {xs : List Int} (h : good xs = false) : antichainsL xs = [] := by simp [antichainsL, h]
end Go.Proofs.YtdemikjaghegnaaGreat

/- CountOrders: the two tables. -/
namespace Go.Proofs.YtdemikjaghegnaaGreat
open Go.RowKit Go.WideShapes Go.ChangeShapes
set_option linter.unusedVariables false

def ansN (xs : List Int) (f : List Int → Nat) : Int := if good xs then (f xs : Int) else 0
theorem ansN_no {xs : List Int} {f : List Int → Nat} (h : good xs = false) : ansN xs f = 0 := by simp [ansN, h]
theorem ansN_yes {xs : List Int} {f : List Int → Nat} (h : good xs = true) : ansN xs f = (f xs : Int) := by simp [ansN, h]
/-! ### the list of all sets of a kind, by its places -/
theorem setsL_sorted (f : Nat → Bool) (N : Nat) : ((List.range N).filter f).Pairwise (· < ·) := List.Pairwise.filter _ List.pairwise_lt_range
theorem setsL_at {f : Nat → Bool} {N j : Nat} (hj : j < (setsL f N).length) : ∃ s : Nat, (setsL f N).getD j 0 = (s : Int) ∧ s < N ∧ f s = true ∧ (∀ t : Nat, (t : Int) ∈ (setsL f N).take j → t < s) ∧ (∀ t : Nat, t < s → f t = true → (t : Int) ∈ (setsL f N).take j) := by
  have hj' : j < ((List.range N).filter f).length := by simpa [setsL] using hj
  have hmem : ((List.range N).filter f)[j] ∈ (List.range N).filter f := List.getElem_mem hj'
  have hmem2 := List.mem_filter.1 hmem
  have hP := List.pairwise_iff_getElem.1 (setsL_sorted f N)
  refine ⟨((List.range N).filter f)[j], ?_, List.mem_range.1 hmem2.1, hmem2.2, ?_, ?_⟩
  · simp [setsL, List.getD, hj']
  · intro t ht
    unfold setsL at ht
    rw [← List.map_take, List.mem_map] at ht
    obtain ⟨a, ha, hat⟩ := ht
    have : a = t := by exact_mod_cast hat
    subst this
    obtain ⟨i, hi, e⟩ := List.mem_iff_getElem.1 ha
    rw [List.getElem_take] at e
    have hi2 : i < j := by rw [List.length_take] at hi; omega
    have := hP i j (by omega) hj' hi2
    omega
  · intro t ht hft
    have hts : t ∈ (List.range N).filter f := List.mem_filter.2 ⟨List.mem_range.2 (by have := List.mem_range.1 hmem2.1; omega), hft⟩
    obtain ⟨i, hi, e⟩ := List.mem_iff_getElem.1 hts
    have hij : i < j := by
      rcases Nat.lt_or_ge i j with h | h
      · exact h
      · exfalso
        rcases Nat.lt_or_eq_of_le h with h2 | h2
        · have := hP j i hj' hi h2; omega
        · subst h2; omega
    unfold setsL
    rw [← List.map_take, List.mem_map]
    refine ⟨t, ?_, rfl⟩
    rw [List.mem_take_iff_getElem]
    exact ⟨i, by omega, e⟩
theorem take_succ_mem {I : List Int} {j : Nat} (hj : j < I.length) (t : Int) : t ∈ I.take (j + 1) ↔ t ∈ I.take j ∨ t = I.getD j 0 := by
  have e : I.take (j + 1) = I.take j ++ [I.getD j 0] := by
    rw [List.take_succ_eq_append_getElem hj]; simp [List.getD, hj]
  rw [e, List.mem_append, List.mem_singleton]
def bk (xs I : List Int) (j t : Nat) : Nat := if t = 0 then 1 else if (t : Int) ∈ I.take j then ways xs t else 0
def ik (xs I : List Int) (j s k t : Nat) : Nat := if t = s ∧ s ≠ 0 then bwd xs s k else bk xs I j t
theorem bk_ways {xs I : List Int} {j t : Nat} (h : t = 0 ∨ (t : Int) ∈ I.take j) : bk xs I j t = ways xs t := by
  unfold bk
  by_cases h0 : t = 0
  · subst h0; rw [if_pos rfl, ways_zero]
  · rw [if_neg h0, if_pos (h.resolve_left h0)]
theorem holdsIdeal_zero (xs : List Int) : holdsIdeal xs 0 = true := holdsIdeal_row.2 fun e _ h => by simp at h
theorem holdsIdeal_whole {xs : List Int} (hg : good xs = true) : holdsIdeal xs (2 ^ xs.length - 1) = true := holdsIdeal_row.2 fun e he _ j hj => by
  rw [Nat.testBit_two_pow_sub_one]
  have := testBit_lt (row_lt hg he).2 hj
  simp; omega
theorem top_sub {xs : List Int} {s k : Nat} (h : (top xs s).testBit k = true) : s.testBit k = true := by
  unfold top at h
  rw [sub_testBit, Bool.and_eq_true] at h
  exact h.1
theorem ik_step {xs I : List Int} {j s k t : Nat} (hg : good xs = true) (hk : k < xs.length) (hI : holdsIdeal xs s = true) (hb : (top xs s).testBit k = true)
    (h2 : ∀ t : Nat, t < s → holdsIdeal xs t = true → (t : Int) ∈ I.take j) :
    ik xs I j s (k + 1) t = if t = s then ik xs I j s k s + ik xs I j s k (s ^^^ 2 ^ k) else ik xs I j s k t := by
  obtain ⟨h3, h4⟩ := top_down hg hI hk hb
  have hlt := xor_lt_self h4
  have hs0 : s ≠ 0 := by rintro rfl; simp at h4
  unfold ik
  by_cases ht : t = s
  · subst ht
    rw [if_pos ⟨rfl, hs0⟩, if_pos rfl, if_pos ⟨rfl, hs0⟩, if_neg (by omega)]
    rw [bk_ways (.inr (h2 _ hlt h3))]
    simp [bwd, sumN, hb]
  · rw [if_neg (fun h => ht h.1), if_neg ht, if_neg (fun h => ht h.1)]
theorem ik_no {xs I : List Int} {j s k t : Nat} (hb : (top xs s).testBit k = false) : ik xs I j s (k + 1) t = ik xs I j s k t := by
  unfold ik bwd
  simp [sumN, hb]
theorem ik_start {xs I : List Int} {j s t : Nat} (h1 : ∀ t : Nat, (t : Int) ∈ I.take j → t < s) : ik xs I j s 0 t = bk xs I j t := by
  unfold ik
  by_cases h : t = s ∧ s ≠ 0
  · rw [if_pos h]
    unfold bk
    rw [if_neg (by omega), if_neg]
    · rfl
    · intro hm; have := h1 t hm; omega
  · rw [if_neg h]
theorem ik_end {xs I : List Int} {j s t : Nat} (hg : good xs = true) (hj : j < I.length) (hs : I.getD j 0 = (s : Int)) (hsl : s < 2 ^ xs.length) (hI : holdsIdeal xs s = true) : ik xs I j s xs.length t = bk xs I (j + 1) t := by
  unfold ik
  by_cases h : t = s ∧ s ≠ 0
  · rw [if_pos h, bwd_full hg hsl h.2 hI, bk_ways]
    · rw [h.1]
    · right; rw [take_succ_mem hj, hs, h.1]; exact .inr rfl
  · rw [if_neg h]
    unfold bk
    by_cases h0 : t = 0
    · rw [if_pos h0, if_pos h0]
    · rw [if_neg h0, if_neg h0]
      have : (t : Int) ∈ I.take (j + 1) ↔ (t : Int) ∈ I.take j := by
        rw [take_succ_mem hj, hs]
        constructor
        · rintro (h1 | h1)
          · exact h1
          · have : t = s := by omega
            subst this
            exact absurd ⟨rfl, h0⟩ h
        · exact .inl
      simp only [this]
theorem bk_le {xs I : List Int} (hl : xs.length ≤ 10) (j t : Nat) : bk xs I j t ≤ 10000000000 := by
  unfold bk
  split
  · omega
  · split
    · exact ways_lt hl t
    · omega
theorem ik_le {xs I : List Int} (hl : xs.length ≤ 10) (j s t : Nat) {k : Nat} (hk : k ≤ xs.length) : ik xs I j s k t ≤ 100000000000 := by
  unfold ik
  split
  · exact bwd_le hl s hk
  · have := bk_le (xs := xs) (I := I) hl j t; omega
theorem bk_last {xs : List Int} (hg : good xs = true) : bk xs (setsL (holdsIdeal xs) (2 ^ xs.length)) (setsL (holdsIdeal xs) (2 ^ xs.length)).length (2 ^ xs.length - 1) = ordersN xs := by
  have h1 := (two_pow_le xs.length (good_length hg).2).1
  refine bk_ways (.inr ?_)
  rw [List.take_length]
  unfold setsL
  exact List.mem_map.2 ⟨_, List.mem_filter.2 ⟨List.mem_range.2 (by omega), holdsIdeal_whole hg⟩, rfl⟩
theorem top_lt {xs : List Int} {s n : Nat} (h : s < n) : top xs s < n := Nat.lt_of_le_of_lt (sub_le _ _) h
end Go.Proofs.YtdemikjaghegnaaGreat
