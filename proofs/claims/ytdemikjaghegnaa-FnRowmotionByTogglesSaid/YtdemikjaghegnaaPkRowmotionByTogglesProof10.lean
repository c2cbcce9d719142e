/- Texts DrO, DrR, Cyc, one behind the other. -/
import Derived.BigQuiet
import Derived.Test.YtdemikjaghegnaaPkRowmotionByTogglesProof04
import Derived.Test.YtdemikjaghegnaaPkRowmotionByTogglesProof09
/- Draws of the model: an order, spoilt at times. -/
namespace Go.Proofs.Ytdemikjaghegnaa
open Go.RowKit Go.WideShapes Go.ChangeShapes
set_option linter.unusedVariables false

theorem OwnI.storedO {e : TypeId} {w : World} {B g n c : Nat} {xs : List Int} (h : OwnI e w B (.slice (some ⟨g, 0, none⟩) n c) xs) (j : Nat) (y : Int) : OwnI e (w.setCell ⟨g, j, none⟩ (.int .i64 y)) B (.slice (some ⟨g, 0, none⟩) n c) (xs.set j y) := by
  obtain ⟨A, c', e', -⟩ := h.shape
  injection e' with e1 e2 e3
  subst e2
  have h' : w.ownsRow B e 1 (.slice (some ⟨g, 0, none⟩) xs.length c) xs.length (xs.map (Value.int .i64)) := h
  have := (h'.stored j (.int .i64 y)).1
  unfold OwnI
  rw [List.length_set, List.map_set]
  exact this
theorem OwnI.cellO {e : TypeId} {w : World} {B g n c : Nat} {xs : List Int} (h : OwnI e w B (.slice (some ⟨g, 0, none⟩) n c) xs) {j : Nat} (hj : j < xs.length) : w.cell? ⟨g, j, none⟩ = some (.int .i64 (xs.getD j 0)) ∧ w.frozen? ⟨g, j, none⟩ = false := by
  obtain ⟨A, c', e', -⟩ := h.shape
  injection e' with e1 e2 e3
  subst e2
  have h' : w.ownsRow B e 1 (.slice (some ⟨g, 0, none⟩) xs.length c) xs.length (xs.map (Value.int .i64)) := h
  exact ⟨by rw [h'.cellAt j (by omega)]; simp [hj], h'.frozenAt j⟩
/-- a list that was there before, in no block of the cursor -/
def IntsLow (w : World) (g : Nat) (vA : Option Addr) (xs : List Int) (W : World) : Prop :=
  xs ≠ [] → ∃ b o, vA = some ⟨b, o, none⟩ ∧ b < w.heap.size ∧ b ≠ g ∧ ∀ j, j < xs.length → W.cell? ⟨b, o + j, none⟩ = some (.int .i64 (xs.getD j 0))
theorem IntsLow.below {w W W' : World} {g B : Nat} {vA : Option Addr} {xs : List Int} (h : IntsLow w g vA xs W) (hb : Below B W W') (hB : w.heap.size ≤ B) : IntsLow w g vA xs W' := by
  intro hx
  obtain ⟨b, o, e, h1, h2, hc⟩ := h hx
  exact ⟨b, o, e, h1, h2, fun j hj => (hb.cell (p := ⟨b, o + j, none⟩) (by show b < B; omega)).trans (hc j hj)⟩
theorem IntsLow.turned {w W W' : World} {g : Nat} {vA : Option Addr} {xs : List Int} (h : IntsLow w g vA xs W) (ht : TurnedIn g (g + 1) W W') (hz : w.heap.size ≤ W.heap.size) : IntsLow w g vA xs W' := by
  intro hx
  obtain ⟨b, o, e, h1, h2, hc⟩ := h hx
  exact ⟨b, o, e, h1, h2, fun j hj => (World.cell?_of_block (a := ⟨b, o + j, none⟩) (ht.block b (by omega) (by omega))).trans (hc j hj)⟩
theorem IntsLow.of {ti : TypeId} {w : World} {g n c : Nat} {vA : Option Addr} {xs : List Int} (h : OwnI ti w (g + 1) (.slice vA n c) xs) : IntsLow w g vA xs w := by
  intro hx
  have hsh := h.shape
  obtain ⟨A', c', e1, hA'⟩ := h.ints
  injection e1 with e1 e2 e3
  subst e1
  obtain ⟨b, o, e4, hbl, hc⟩ := hA' hx
  obtain ⟨A2, c2, e5, hs⟩ := hsh
  injection e5 with e5 e6 e7
  subst e5
  obtain ⟨g2, e8, h1, h2⟩ := hs hx
  rw [e4] at e8
  injection e8 with e8
  injection e8 with e9 e10 e11
  exact ⟨b, o, e4, hbl, by omega, hc⟩
/-- what a draw of a list keeps: the list, the cursor, the poset's box and its own list -/
def OW (ti tp : TypeId) (w : World) (g A : Nat) (q : Value) (ys : List Int) (vA : Option Addr) (vc : Nat) (xs : List Int) (W : World) : Prop :=
  OwnI ti W (w.heap.size + 1) q ys ∧ Drawn w g A W ∧ Blk W w.heap.size tp #[.slice vA xs.length vc] ∧ IntsLow w g vA xs W ∧ w.heap.size + 1 ≤ W.heap.size
theorem OW.drawn {ti tp : TypeId} {w W W' : World} {g A A' vc : Nat} {q : Value} {vA : Option Addr} {ys xs : List Int} (h : OW ti tp w g A q ys vA vc xs W) (hg : g < w.heap.size) (hc : Cur W' g A') (ht : TurnedIn g (g + 1) W W') : OW ti tp w g A' q ys vA vc xs W' :=
  ⟨h.1.turnedLow ht (by omega), Drawn.mk hc (h.2.1.turned.trans ht), h.2.2.1.turned ht (Or.inr (by omega)), h.2.2.2.1.turned ht (by have := h.2.2.2.2; omega), Nat.le_trans h.2.2.2.2 ht.size⟩
theorem OW.le {ti tp : TypeId} {w W : World} {g A B vc : Nat} {q : Value} {vA : Option Addr} {ys xs : List Int} (h : OW ti tp w g A q ys vA vc xs W) (hb : A ≤ B) : OW ti tp w g B q ys vA vc xs W := ⟨h.1, h.2.1.le hb, h.2.2⟩
theorem OW.app {ti tp : TypeId} {w W W' : World} {g A vc : Nat} {q q2 : Value} {vA : Option Addr} {ys zs xs : List Int} (h : OW ti tp w g A q ys vA vc xs W) (hg : g < w.heap.size) (ho : OwnI ti W' (w.heap.size + 1) q2 zs) (hb : Below (w.heap.size + 1) W W') : OW ti tp w g A q2 zs vA vc xs W' :=
  ⟨ho, h.2.1.belowB hb (by omega) (by omega), h.2.2.1.below hb (by omega), h.2.2.2.1.below hb (by omega), Nat.le_trans h.2.2.2.2 hb.size⟩
theorem OW.set {ti tp : TypeId} {w W : World} {g A vc Bq n c : Nat} {vA : Option Addr} {ys xs : List Int} (h : OW ti tp w g A (.slice (some ⟨Bq, 0, none⟩) n c) ys vA vc xs W) (hg : g < w.heap.size) (hB : w.heap.size + 1 ≤ Bq) (j : Nat) (y : Int) : OW ti tp w g A (.slice (some ⟨Bq, 0, none⟩) n c) (ys.set j y) vA vc xs (W.setCell ⟨Bq, j, none⟩ (.int .i64 y)) :=
  h.app hg (h.1.storedO j y) ((Below.refl _ _).setCell (p := ⟨Bq, j, none⟩) hB _)
set_option maxRecDepth 100000 in
set_option maxHeartbeats 3200000 in
theorem order2_any (g A : Nat) (v : Value) (xs : List Int) (w : World) (h : Cur w g A) (hA : A < 600000000000) (hv : OwnI 3 w (g + 1) v xs) (hl : xs.length ≤ 1048576) :
    Calls Try.prog 51 #[.pointer (some ⟨g, 0, none⟩), .agg #[v]] w fun (r : Ending) w' => ∃ u ys, r = .returned u ∧ OwnI 3 w' w.heap.size u ys ∧ ys.length ≤ 12 ∧ Drawn w g (A + 100) w' := by
  have HC := hid h
  have HV := hid hv
  have hgl := h.lt
  clear h
  obtain ⟨vA, vc, rfl, -⟩ := hv.shape
  clear hv
  go_enter Try.func51, Try.ntmps51
  have HW0 : Hid (OW 3 26 w g A (.slice none 0 0) [] vA vc xs (w.alloc (.cells #[.slice vA xs.length vc] 26))) :=
    hid ⟨OwnI.nil _ _ _, (Drawn.mk HC.out (TurnedIn.refl _ _ _)).below (below_alloc (Below.refl _ w) _), Blk.new w _ _, (IntsLow.of HV.out).below (below_alloc (Below.refl _ w) _) (Nat.le_refl _), by simp⟩
  clear HC HV
  go_wp2
  go_loopw [5, 6, 7] (fun q s i wr => ∃ (k z : Nat) (ys : List Int), k ≤ 11 ∧ i = .int .i64 (k : Int) ∧ s = .int .i64 (z : Int) ∧ z < 4096 ∧ ys.length ≤ k ∧ OW 3 26 w g (A + 2 * k) q ys vA vc xs wr) (fun _ _ i _ => 11 - (intOf i).toNat)
  case atStart => exact ⟨0, 0, [], by omega, rfl, rfl, by omega, by simp, HW0.out⟩
  case round =>
    obtain ⟨k, z, ys, hk, rfl, rfl, hz, hlen, hw⟩ := hrel
    have HW := hid hw
    have t0 := hw.2.2.1.cell 0
    obtain ⟨qA, qc, rfl, -⟩ := hw.1.shape
    clear hw HW0
    by_cases hgo : k < xs.length ∧ k < 11
    · obtain ⟨hkl, hk11⟩ := hgo
      go_wp2_with fail
      refine (pick_any g (A + 2 * k) _ _ HW.out.2.1.cur (by omega)).mono ?_
      rintro e w2 ⟨m, hm, rfl, hc2, ht2⟩
      have HW2 := hid (HW.out.drawn hgl hc2 ht2)
      have hml : m < xs.length := by omega
      clear hc2 ht2 HW t0 hm
      have t2 := HW2.out.2.2.1.cell 0
      go_wp2
      go_loop [5, 6, 33] (fun q s i => ∃ j : Nat, j ≤ xs.length ∧ i = .int .i64 (j : Int) ∧ q = .slice qA ys.length qc ∧ s = .int .i64 (z : Int)) (fun _ _ i => xs.length - (intOf i).toNat)
      case atStart => exact ⟨0, Nat.zero_le _, rfl, rfl, rfl⟩
      case round =>
        obtain ⟨j, hj, rfl, rfl, rfl⟩ := hrel
        by_cases hjl : j < xs.length
        · obtain ⟨e, he, hel⟩ : ∃ e : Nat, ((m : Int) + (j : Int)) % (xs.length : Int) = (e : Int) ∧ e < xs.length := ⟨(m + j) % xs.length, by rw [Int.natCast_emod, Int.natCast_add], Nat.mod_lt _ (by omega)⟩
          by_cases he12 : e < 12
          · go_wp2_with fail
            refine (poIn_any z e (by omega) _).mono ?_
            rintro e' w3 ⟨rfl, rfl⟩
            cases hb : z.testBit e
            · obtain ⟨b, o, rfl, hbl, -, hce⟩ := HW2.out.2.2.2.1 (by intro h; simp [h] at hjl)
              have hcell := hce e hel
              obtain ⟨x, hx⟩ : ∃ x, xs.getD e 0 = x := ⟨_, rfl⟩
              rw [hx] at hcell
              clear hce hx hb
              by_cases hand : bits .andNot .i64 x (z : Int) = 0
              · have hlen4 : ys.length < 1048576 := by omega
                have hz4 := HW2.out.2.2.2.2
                obtain ⟨P, hP⟩ : ∃ P, 2 ^ e = P := ⟨_, rfl⟩
                have hP2 : P < 4096 := by rw [← hP]; exact Nat.pow_lt_pow_right (n := 12) (by decide) he12
                have hPi : (2 : Int) ^ e = (P : Int) := by rw [← hP, Int.natCast_pow]; rfl
                have hor := i64_or_nat z P (by omega) (by omega)
                have hR2 : z ||| P < 4096 := Nat.or_lt_two_pow (n := 12) hz hP2
                obtain ⟨R, hR⟩ : ∃ R, z ||| P = R := ⟨_, rfl⟩
                rw [hR] at hor hR2
                clear hP hR
                go_wp2_with (at_builtin; refine wpList_append_int rfl _ _ 24 3 rfl Try.underlying24 Try.info3 (w.heap.size + 1) _ _ (e : Int) rfl HW2.out.1 rfl rfl hlen4 hz4 ?_; rintro q2 w7 ho7 hb7)
                have HW7 := hid (HW2.out.app hgl ho7 hb7)
                clear ho7 hb7 t2 hcell hor hand
                go_roundw
                case rel => exact ⟨k + 1, R, ys ++ [(e : Int)], by omega, by go_num, rfl, hR2, by (rw [List.length_append, List.length_singleton]; omega), HW7.out.le (by omega)⟩
                case measure => simp [intOf]; omega
              · go_wp2
                go_round
                case rel => exact ⟨j + 1, by omega, by go_num, rfl, rfl⟩
                case measure => simp [intOf]; omega
            · clear hb
              go_wp2
              go_round
              case rel => exact ⟨j + 1, by omega, by go_num, rfl, rfl⟩
              case measure => simp [intOf]; omega
          · go_wp2
            go_round
            case rel => exact ⟨j + 1, by omega, by go_num, rfl, rfl⟩
            case measure => simp [intOf]; omega
        · go_wp2
          go_roundw
          case rel => exact ⟨k + 1, z, ys, by omega, by go_num, rfl, hz, by omega, HW2.out.le (by omega)⟩
          case measure => simp [intOf]; omega
    · have hcs : ¬ k < xs.length ∨ (k < xs.length ∧ ¬ k < 11) := by omega
      clear hgo
      by_cases hy1 : 1 < ys.length
      · obtain ⟨Bq, rfl, hbq, hBq⟩ := (show ∃ b, qA = some ⟨b, 0, none⟩ ∧ b < wr.heap.size ∧ w.heap.size + 1 ≤ b from by
          obtain ⟨A', c', e1, hs⟩ := HW.out.1.shape
          injection e1 with e1 e2 e3
          subst e1
          exact hs (by intro h; simp [h] at hy1))
        rcases hcs with h9 | ⟨h9, h10⟩
        all_goals
          go_wp2_with fail
          refine (one_any g (A + 2 * k) 6 _ HW.out.2.1.cur (by omega)).mono ?_
          rintro e w2 ⟨b, rfl, hc2, ht2⟩
          have HW2 := hid ((HW.out.drawn hgl hc2 ht2).le (show A + 2 * k + 2 ≤ A + 24 by omega))
          have hbq2 : Bq < w2.heap.size := Nat.lt_of_lt_of_le hbq ht2.size
          clear hc2 ht2 HW t0
          cases b
          · have HW := HW2
            clear HW2
            go_wp2_with fail
            refine (one_any g (A + 24) 20 _ HW.out.2.1.cur (by omega)).mono ?_
            rintro e w6 ⟨b, rfl, hc6, ht6⟩
            have HW6 := hid (HW.out.drawn hgl hc6 ht6)
            clear hc6 ht6
            cases b
            · go_wp2
              go_ret
              exact ⟨_, _, rfl, HW6.out.1.mono (by omega), by omega, HW6.out.2.1.le (by omega)⟩
            · go_wp2_with fail
              have HD7 := hid (HW6.out.2.1.below (below_alloc (Below.refl _ _) (.cells #[.int .i64 (-1), .int .i64 0, .int .i64 10, .int .i64 4611686018427387904] 3)))
              have HO7 := hid (HW6.out.1.alloc (.cells #[.int .i64 (-1), .int .i64 0, .int .i64 10, .int .i64 4611686018427387904] 3))
              have hz6 := HW6.out.2.2.2.2
              refine (among_any g (A + 26) _ [-1, 0, 10, 4611686018427387904] _ HD7.out.cur (by omega) ⟨_, Blk.new _ _ _, by omega, by simp⟩ (by decide) (by decide)).mono ?_
              rintro e w8 ⟨m, hm, rfl, hc8, ht8⟩
              have HD8 := hid (Drawn.mk hc8 (HD7.out.turned.trans ht8))
              have HO8 := hid (HO7.out.turnedLow ht8 (by omega))
              have hz8 : w.heap.size + 1 ≤ w8.heap.size := by have := ht8.size; simp at this; omega
              obtain ⟨yy, hy2⟩ : ∃ y, [(-1 : Int), 0, 10, 4611686018427387904].getD m 0 = y := ⟨_, rfl⟩
              rw [hy2]
              have hlen8 : ys.length < 1048576 := by omega
              clear hc8 ht8 HW6 HD7 HO7 hy2 hm
              go_wp2_with (at_builtin; refine wpList_append_int rfl _ _ 24 3 rfl Try.underlying24 Try.info3 (w.heap.size + 1) _ _ yy rfl HO8.out rfl rfl hlen8 hz8 ?_; rintro q2 w9 ho9 hb9)
              go_ret
              exact ⟨_, _, rfl, ho9.mono (by omega), by (rw [List.length_append, List.length_singleton]; omega), (HD8.out.belowB hb9 (by omega) (by omega)).le (by omega)⟩
          · go_wp2_with fail
            refine (pick_any g (A + 24) _ _ HW2.out.2.1.cur (by omega)).mono ?_
            rintro e w3 ⟨i, hi, rfl, hc3, ht3⟩
            have HW3 := hid (HW2.out.drawn hgl hc3 ht3)
            have hi1 : i + 1 < ys.length := by omega
            clear hc3 ht3 HW2 hi
            have c1 := (HW3.out.1.cellO (show i < ys.length by omega)).1
            have c2 := (HW3.out.1.cellO hi1).1
            have f1 := (HW3.out.1.cellO (show i < ys.length by omega)).2
            have f2 := (HW3.out.1.cellO hi1).2
            obtain ⟨x, hx⟩ : ∃ x, ys.getD i 0 = x := ⟨_, rfl⟩
            obtain ⟨y, hy⟩ : ∃ y, ys.getD (i + 1) 0 = y := ⟨_, rfl⟩
            rw [hx] at c1
            rw [hy] at c2
            clear hx hy
            go_wp2
            go_quiet (fail)
            have HW4 : Hid (OW 3 26 w g (A + 26) (.slice (some ⟨Bq, 0, none⟩) ys.length qc) ys vA vc xs (w3.drewN nq)) :=
              hid ((HW3.out.app hgl (HW3.out.1.below (below_drewN (Below.refl _ _) nq)) (below_drewN (Below.refl _ _) nq)).le (by omega))
            clear c1 c2 f1 f2 HW3
            generalize w3.drewN nq = W4 at HW4 ⊢
            have HW5 := hid (HW4.out.set hgl hBq i y)
            have HW7 := hid (HW5.out.set hgl hBq (i + 1) x)
            have c1 := (HW4.out.1.cellO (show i < ys.length by omega)).1
            have f1 := (HW4.out.1.cellO (show i < ys.length by omega)).2
            have c2 := (HW4.out.1.cellO hi1).1
            have f2 := (HW4.out.1.cellO hi1).2
            have c3 := (HW5.out.1.cellO (show i + 1 < (ys.set i y).length by simp; omega)).1
            have f3 := (HW5.out.1.cellO (show i + 1 < (ys.set i y).length by simp; omega)).2
            have HW := HW7
            clear HW7 HW4 HW5
            go_wp2_with fail
            refine (one_any g (A + 26) 20 _ HW.out.2.1.cur (by omega)).mono ?_
            rintro e w6 ⟨b, rfl, hc6, ht6⟩
            have HW6 := hid (HW.out.drawn hgl hc6 ht6)
            clear hc6 ht6
            cases b
            · go_wp2
              go_ret
              exact ⟨_, _, rfl, HW6.out.1.mono (by omega), by simp; omega, HW6.out.2.1.le (by omega)⟩
            · go_wp2_with fail
              have HD7 := hid (HW6.out.2.1.below (below_alloc (Below.refl _ _) (.cells #[.int .i64 (-1), .int .i64 0, .int .i64 10, .int .i64 4611686018427387904] 3)))
              have HO7 := hid (HW6.out.1.alloc (.cells #[.int .i64 (-1), .int .i64 0, .int .i64 10, .int .i64 4611686018427387904] 3))
              have hz6 := HW6.out.2.2.2.2
              refine (among_any g (A + 28) _ [-1, 0, 10, 4611686018427387904] _ HD7.out.cur (by omega) ⟨_, Blk.new _ _ _, by omega, by simp⟩ (by decide) (by decide)).mono ?_
              rintro e w8 ⟨m, hm, rfl, hc8, ht8⟩
              have HD8 := hid (Drawn.mk hc8 (HD7.out.turned.trans ht8))
              have HO8 := hid (HO7.out.turnedLow ht8 (by omega))
              have hz8 : w.heap.size + 1 ≤ w8.heap.size := by have := ht8.size; simp at this; omega
              obtain ⟨yy, hy2⟩ : ∃ y, [(-1 : Int), 0, 10, 4611686018427387904].getD m 0 = y := ⟨_, rfl⟩
              rw [hy2]
              have hlen8 : ((ys.set i y).set (i + 1) x).length < 1048576 := by rw [List.length_set, List.length_set]; omega
              clear hc8 ht8 HW6 HD7 HO7 hy2 hm
              go_wp2_with (at_builtin; refine wpList_append_int rfl _ _ 24 3 rfl Try.underlying24 Try.info3 (w.heap.size + 1) _ _ yy rfl HO8.out rfl rfl hlen8 hz8 ?_; rintro q2 w9 ho9 hb9)
              go_ret
              exact ⟨_, _, rfl, ho9.mono (by omega), by (rw [List.length_append, List.length_singleton]; simp; omega), (HD8.out.belowB hb9 (by omega) (by omega)).le (by omega)⟩
      · skip
        have HW := hid (HW.out.le (show A + 2 * k ≤ A + 24 by omega))
        rcases hcs with h9 | ⟨h9, h10⟩
        all_goals
          go_wp2_with fail
          refine (one_any g (A + 24) 20 _ HW.out.2.1.cur (by omega)).mono ?_
          rintro e w6 ⟨b, rfl, hc6, ht6⟩
          have HW6 := hid (HW.out.drawn hgl hc6 ht6)
          clear hc6 ht6
          cases b
          · go_wp2
            go_ret
            exact ⟨_, _, rfl, HW6.out.1.mono (by omega), by omega, HW6.out.2.1.le (by omega)⟩
          · go_wp2_with fail
            have HD7 := hid (HW6.out.2.1.below (below_alloc (Below.refl _ _) (.cells #[.int .i64 (-1), .int .i64 0, .int .i64 10, .int .i64 4611686018427387904] 3)))
            have HO7 := hid (HW6.out.1.alloc (.cells #[.int .i64 (-1), .int .i64 0, .int .i64 10, .int .i64 4611686018427387904] 3))
            have hz6 := HW6.out.2.2.2.2
            refine (among_any g (A + 26) _ [-1, 0, 10, 4611686018427387904] _ HD7.out.cur (by omega) ⟨_, Blk.new _ _ _, by omega, by simp⟩ (by decide) (by decide)).mono ?_
            rintro e w8 ⟨m, hm, rfl, hc8, ht8⟩
            have HD8 := hid (Drawn.mk hc8 (HD7.out.turned.trans ht8))
            have HO8 := hid (HO7.out.turnedLow ht8 (by omega))
            have hz8 : w.heap.size + 1 ≤ w8.heap.size := by have := ht8.size; simp at this; omega
            obtain ⟨yy, hy2⟩ : ∃ y, [(-1 : Int), 0, 10, 4611686018427387904].getD m 0 = y := ⟨_, rfl⟩
            rw [hy2]
            have hlen8 : ys.length < 1048576 := by omega
            clear hc8 ht8 HW6 HD7 HO7 hy2 hm
            go_wp2_with (at_builtin; refine wpList_append_int rfl _ _ 24 3 rfl Try.underlying24 Try.info3 (w.heap.size + 1) _ _ yy rfl HO8.out rfl rfl hlen8 hz8 ?_; rintro q2 w9 ho9 hb9)
            go_ret
            exact ⟨_, _, rfl, ho9.mono (by omega), by (rw [List.length_append, List.length_singleton]; omega), (HD8.out.belowB hb9 (by omega) (by omega)).le (by omega)⟩
end Go.Proofs.Ytdemikjaghegnaa

/- Draws of the model: rowmotion's arguments. -/
namespace Go.Proofs.Ytdemikjaghegnaa
open Go.RowKit Go.WideShapes Go.ChangeShapes
set_option linter.unusedVariables false

theorem drawCanToggle_any (v : Value) (bs : List Int) (w : World) (hb : BytesB w w.heap.size v bs) (hl : bs.length ≤ 1048576) :
    Calls Try.prog 40 #[v] w fun (r : Ending) w' => ∃ u xs s, r = .returned (.tuple #[.agg #[u], .int .i64 s]) ∧ (Lit.int .i64 s).wf = true ∧ OwnI 3 w' w.heap.size u xs ∧ xs.length ≤ 21 ∧ Below w.heap.size w w' := by
  have HBy := hid hb
  obtain ⟨vA, vc, rfl, -⟩ := hb
  have HA0 := hid (Blk.new w 26 #[.slice none 0 0])
  have HB0 := hid (below_alloc (Below.refl _ w) (.cells #[.slice none 0 0] 26))
  go_enter Try.func40, Try.ntmps40
  go_wp2_with fail
  have HC := hid (Cur.new (w.alloc (.cells #[.slice none 0 0] 26)) _ bs (w.heap.size + 1) (by simp) ((HBy.out.below HB0.out).up (by simp)) hl)
  have HB1 := hid (below_alloc HB0.out (.cells #[.slice vA bs.length vc, .int .i64 0, .int .u64 0] 56))
  have HA1 := hid (HA0.out.alloc (.cells #[.slice vA bs.length vc, .int .i64 0, .int .u64 0] 56))
  refine (ideal_any (w.heap.size + 1) 0 10 _ HC.out (by decide) (by decide) (by decide)).mono ?_
  rintro e w2 ⟨u, xs, s, rfl, hwf, ho, hl2, hd⟩
  have HB2 := hid (hd.belowAll HB1.out (by omega))
  have HA2 := hid (HA1.out.turned hd.turned (Or.inl (by omega)))
  have HO := hid (ho.mono (show w.heap.size + 1 ≤ _ by simp))
  have HW := hid hwf
  obtain ⟨uA, uc, rfl, -⟩ := HO.out.shape
  clear ho hd hwf HA0 HA1 HB0 HB1 HC
  have a1 := HA2.out.cell 0
  have a2 := HA2.out.frozen 0
  go_wp2
  refine bodyPost_ret (v := .tuple #[.agg #[.slice uA xs.length uc], .int .i64 s]) (by simp [results, Try.results40, go_sem, a1]) rfl ⟨_, xs, _, rfl, HW.out, HO.out.box (Nat.le_refl _) _, hl2, HB2.out.setCell (p := ⟨w.heap.size, 0, none⟩) (Nat.le_refl _) _⟩
theorem drawRowmotion_any (v : Value) (bs : List Int) (w : World) (hb : BytesB w w.heap.size v bs) (hl : bs.length ≤ 1048576) :
    Calls Try.prog 10 #[v] w fun (r : Ending) w' => ∃ u xs s, r = .returned (.tuple #[.agg #[u], .int .i64 s]) ∧ (Lit.int .i64 s).wf = true ∧ OwnI 3 w' w.heap.size u xs ∧ xs.length ≤ 21 ∧ Below w.heap.size w w' := by
  have HBy := hid hb
  obtain ⟨vA, vc, rfl, -⟩ := hb
  have HA0 := hid (Blk.new w 26 #[.slice none 0 0])
  have HB0 := hid (below_alloc (Below.refl _ w) (.cells #[.slice none 0 0] 26))
  go_enter Try.func10, Try.ntmps10
  go_wp2_with fail
  refine (drawCanToggle_any _ bs _ ((HBy.out.below HB0.out).up (by simp)) hl).mono ?_
  rintro e w2 ⟨u, xs, s, rfl, hwf, ho, hl2, hb2⟩
  have HB2 := hid (below_to HB0.out hb2)
  have HA2 := hid (HA0.out.below hb2 HA0.out.lt)
  have HO := hid (ho.mono (show w.heap.size + 1 ≤ _ by simp))
  have HW := hid hwf
  obtain ⟨uA, uc, rfl, -⟩ := HO.out.shape
  clear ho hb2 HA0 HB0 hwf
  have a1 := HA2.out.cell 0
  have a2 := HA2.out.frozen 0
  go_wp2
  refine bodyPost_ret (v := .tuple #[.agg #[.slice uA xs.length uc], .int .i64 s]) (by simp [results, Try.results10, go_sem, a1]) rfl ⟨_, xs, _, rfl, HW.out, HO.out.box (Nat.le_refl _) _, hl2, HB2.out.setCell (p := ⟨w.heap.size, 0, none⟩) (Nat.le_refl _) _⟩
theorem drawAntichainRow_any (v : Value) (bs : List Int) (w : World) (hb : BytesB w w.heap.size v bs) (hl : bs.length ≤ 1048576) :
    Calls Try.prog 27 #[v] w fun (r : Ending) w' => ∃ u xs s, r = .returned (.tuple #[.agg #[u], .int .i64 s]) ∧ (Lit.int .i64 s).wf = true ∧ OwnI 3 w' w.heap.size u xs ∧ xs.length ≤ 21 ∧ Below w.heap.size w w' := by
  have HBy := hid hb
  obtain ⟨vA, vc, rfl, -⟩ := hb
  have HA0 := hid (Blk.new w 26 #[.slice none 0 0])
  have HB0 := hid (below_alloc (Below.refl _ w) (.cells #[.slice none 0 0] 26))
  go_enter Try.func27, Try.ntmps27
  go_wp2_with fail
  refine (drawIsAntichain_any _ bs _ ((HBy.out.below HB0.out).up (by simp)) hl).mono ?_
  rintro e w2 ⟨u, xs, s, rfl, hwf, ho, hl2, hb2⟩
  have HB2 := hid (below_to HB0.out hb2)
  have HA2 := hid (HA0.out.below hb2 HA0.out.lt)
  have HO := hid (ho.mono (show w.heap.size + 1 ≤ _ by simp))
  have HW := hid hwf
  obtain ⟨uA, uc, rfl, -⟩ := HO.out.shape
  clear ho hb2 HA0 HB0 hwf
  have a1 := HA2.out.cell 0
  have a2 := HA2.out.frozen 0
  go_wp2
  refine bodyPost_ret (v := .tuple #[.agg #[.slice uA xs.length uc], .int .i64 s]) (by simp [results, Try.results27, go_sem, a1]) rfl ⟨_, xs, _, rfl, HW.out, HO.out.box (Nat.le_refl _) _, hl2, HB2.out.setCell (p := ⟨w.heap.size, 0, none⟩) (Nat.le_refl _) _⟩
theorem drawCountOrders_any (v : Value) (bs : List Int) (w : World) (hb : BytesB w w.heap.size v bs) (hl : bs.length ≤ 1048576) :
    Calls Try.prog 24 #[v] w fun (r : Ending) w' => ∃ u xs, r = .returned (.agg #[u]) ∧ OwnI 3 w' w.heap.size u xs ∧ xs.length ≤ 21 ∧ Below w.heap.size w w' := by
  have HBy := hid hb
  obtain ⟨vA, vc, rfl, -⟩ := hb
  have HA0 := hid (Blk.new w 26 #[.slice none 0 0])
  have HB0 := hid (below_alloc (Below.refl _ w) (.cells #[.slice none 0 0] 26))
  go_enter Try.func24, Try.ntmps24
  go_wp2_with fail
  refine (drawIsPoset_any _ bs _ ((HBy.out.below HB0.out).up (by simp)) hl).mono ?_
  rintro e w2 ⟨u, xs, rfl, ho, hl2, hb2⟩
  have HB2 := hid (below_to HB0.out hb2)
  have HA2 := hid (HA0.out.below hb2 HA0.out.lt)
  have HO := hid (ho.mono (show w.heap.size + 1 ≤ _ by simp))
  obtain ⟨uA, un, uc, rfl⟩ := ho.shape3
  clear ho hb2 HA0 HB0
  have a1 := HA2.out.cell 0
  have a2 := HA2.out.frozen 0
  go_wp2
  refine bodyPost_ret (v := .agg #[.slice uA un uc]) (by simp [results, Try.results24, go_sem, a1]) rfl ⟨_, xs, rfl, HO.out.box (Nat.le_refl _) _, hl2, HB2.out.setCell (p := ⟨w.heap.size, 0, none⟩) (Nat.le_refl _) _⟩
set_option maxHeartbeats 1600000 in
theorem drawIsOrder_any (v : Value) (bs : List Int) (w : World) (hb : BytesB w w.heap.size v bs) (hl : bs.length ≤ 1048576) :
    Calls Try.prog 21 #[v] w fun (r : Ending) w' => ∃ u xs q ys, r = .returned (.tuple #[.agg #[u], q]) ∧ OwnI 3 w' w.heap.size u xs ∧ xs.length ≤ 21 ∧ OwnI 3 w' w.heap.size q ys ∧ ys.length ≤ 12 ∧ Below w.heap.size w w' := by
  have HBy := hid hb
  obtain ⟨vA, vc, rfl, -⟩ := hb
  have HA0 := hid (Blk.new w 26 #[.slice none 0 0])
  have HB0 := hid (below_alloc (Below.refl _ w) (.cells #[.slice none 0 0] 26))
  go_enter Try.func21, Try.ntmps21
  go_wp2_with fail
  have HC := hid (Cur.new (w.alloc (.cells #[.slice none 0 0] 26)) _ bs (w.heap.size + 1) (by simp) ((HBy.out.below HB0.out).up (by simp)) hl)
  have HB1 := hid (below_alloc HB0.out (.cells #[.slice vA bs.length vc, .int .i64 0, .int .u64 0] 56))
  have HA1 := hid (HA0.out.alloc (.cells #[.slice vA bs.length vc, .int .i64 0, .int .u64 0] 56))
  refine (poset_any (w.heap.size + 1) 0 10 _ HC.out (by decide) (by decide) (by decide)).mono ?_
  rintro e w2 ⟨u, xs, rfl, ho, hl2, hd⟩
  have HB2 := hid (hd.belowAll HB1.out (by omega))
  have HA2 := hid (HA1.out.turned hd.turned (Or.inl (by omega)))
  have HO := hid (ho.mono (show w.heap.size + 2 ≤ _ by simp))
  have HC2 := hid hd.cur
  have hz2 : w.heap.size + 2 ≤ w2.heap.size := by have := hd.turned.size; simpa using this
  obtain ⟨uA, uc, rfl, -⟩ := HO.out.shape
  clear ho hd HA0 HA1 HB0 HB1 HC
  obtain ⟨B5, hB5⟩ : ∃ B5, w2.heap.size = B5 := ⟨_, rfl⟩
  have hbox := (Blk.new w2 26 #[.slice uA xs.length uc]).cell 0
  have HI3 : Hid (DI 3 26 w 240 B5 (.slice uA xs.length uc) xs (w2.alloc (.cells #[.slice uA xs.length uc] 26))) :=
    hid ⟨below_alloc HB2.out _, (HC2.out.le (by omega)).below (below_alloc (Below.refl _ _) _), HA2.out.alloc _, by rw [← hB5]; exact Blk.new w2 _ _, HO.out.alloc _⟩
  have hB6 : w.heap.size + 2 ≤ B5 := by omega
  have hzw : w.heap.size + 2 ≤ (w2.alloc (.cells #[.slice uA xs.length uc] 26)).heap.size := by simp; omega
  clear HB2 HC2 HA2 HO hz2
  go_wp2
  obtain ⟨W, hW⟩ : ∃ W, w2.alloc (.cells #[.slice uA xs.length uc] 26) = W := ⟨_, rfl⟩
  rw [hW] at HI3 hzw ⊢
  clear hW hbox hB5
  have HIa := hid (HI3.out.below (below_drewN (Below.refl _ _) 1))
  have t3 := HI3.out.2.2.2.1.cell 0
  have a3 := HI3.out.2.2.1.cell 0
  have f3 := HI3.out.2.2.1.frozen 0
  go_region_with (go_at_call 51; refine (order2_any (w.heap.size + 1) 240 _ xs _ HIa.out.2.1 (by decide) HIa.out.2.2.2.2 (by omega)).mono ?_; rintro e w8 ⟨q, ys, rfl, hoq, hly, hd8⟩; have HI8 := hid (HIa.out.drawn hd8.cur hd8.turned hB6); have HQ8 := hid (hoq.mono (show w.heap.size + 1 ≤ _ by simp at hzw ⊢; omega)); clear hd8 hoq; have t8 := HI8.out.2.2.2.1.cell 0; have a8 := HI8.out.2.2.1.cell 0; have f8 := HI8.out.2.2.1.frozen 0)
  all_goals
    have H9 := hid ((DZ.of HI8.out).box hB6 (.slice uA xs.length uc))
    have a9 := H9.out.2.1.cell 0
    go_wp2
  all_goals
    refine bodyPost_ret (v := .tuple #[.agg #[.slice uA xs.length uc], q]) (by simp [results, Try.results21, go_sem, a9]) rfl ⟨_, xs, _, ys, rfl, H9.out.2.2.2.mono (show w.heap.size ≤ _ by omega), hl2, HQ8.out.box (Nat.le_refl _) _, hly, H9.out.1⟩
set_option maxHeartbeats 1600000 in
theorem drawRowByToggles_any (v : Value) (bs : List Int) (w : World) (hb : BytesB w w.heap.size v bs) (hl : bs.length ≤ 1048576) :
    Calls Try.prog 6 #[v] w fun (r : Ending) w' => ∃ u xs s q ys, r = .returned (.tuple #[.agg #[u], .int .i64 s, q]) ∧ (Lit.int .i64 s).wf = true ∧ OwnI 3 w' w.heap.size u xs ∧ xs.length ≤ 21 ∧ OwnI 3 w' w.heap.size q ys ∧ ys.length ≤ 12 ∧ Below w.heap.size w w' := by
  have HBy := hid hb
  obtain ⟨vA, vc, rfl, -⟩ := hb
  have HA0 := hid (Blk.new w 26 #[.slice none 0 0])
  have HB0 := hid (below_alloc (Below.refl _ w) (.cells #[.slice none 0 0] 26))
  go_enter Try.func6, Try.ntmps6
  go_wp2_with fail
  have HC := hid (Cur.new (w.alloc (.cells #[.slice none 0 0] 26)) _ bs (w.heap.size + 1) (by simp) ((HBy.out.below HB0.out).up (by simp)) hl)
  have HB1 := hid (below_alloc HB0.out (.cells #[.slice vA bs.length vc, .int .i64 0, .int .u64 0] 56))
  have HA1 := hid (HA0.out.alloc (.cells #[.slice vA bs.length vc, .int .i64 0, .int .u64 0] 56))
  refine (ideal_any (w.heap.size + 1) 0 10 _ HC.out (by decide) (by decide) (by decide)).mono ?_
  rintro e w2 ⟨u, xs, s, rfl, hwf, ho, hl2, hd⟩
  have HW := hid hwf
  clear hwf
  have HB2 := hid (hd.belowAll HB1.out (by omega))
  have HA2 := hid (HA1.out.turned hd.turned (Or.inl (by omega)))
  have HO := hid (ho.mono (show w.heap.size + 2 ≤ _ by simp))
  have HC2 := hid hd.cur
  have hz2 : w.heap.size + 2 ≤ w2.heap.size := by have := hd.turned.size; simpa using this
  obtain ⟨uA, uc, rfl, -⟩ := HO.out.shape
  clear ho hd HA0 HA1 HB0 HB1 HC
  obtain ⟨B5, hB5⟩ : ∃ B5, w2.heap.size = B5 := ⟨_, rfl⟩
  have hbox := (Blk.new w2 26 #[.slice uA xs.length uc]).cell 0
  have HI3 : Hid (DI 3 26 w 240 B5 (.slice uA xs.length uc) xs (w2.alloc (.cells #[.slice uA xs.length uc] 26))) :=
    hid ⟨below_alloc HB2.out _, (HC2.out.le (by omega)).below (below_alloc (Below.refl _ _) _), HA2.out.alloc _, by rw [← hB5]; exact Blk.new w2 _ _, HO.out.alloc _⟩
  have hB6 : w.heap.size + 2 ≤ B5 := by omega
  have hzw : w.heap.size + 2 ≤ (w2.alloc (.cells #[.slice uA xs.length uc] 26)).heap.size := by simp; omega
  clear HB2 HC2 HA2 HO hz2
  go_wp2
  obtain ⟨W, hW⟩ : ∃ W, w2.alloc (.cells #[.slice uA xs.length uc] 26) = W := ⟨_, rfl⟩
  rw [hW] at HI3 hzw ⊢
  clear hW hbox hB5
  have HIa := hid (HI3.out.below (below_drewN (Below.refl _ _) 1))
  have t3 := HI3.out.2.2.2.1.cell 0
  have a3 := HI3.out.2.2.1.cell 0
  have f3 := HI3.out.2.2.1.frozen 0
  go_region_with (go_at_call 51; refine (order2_any (w.heap.size + 1) 240 _ xs _ HIa.out.2.1 (by decide) HIa.out.2.2.2.2 (by omega)).mono ?_; rintro e w8 ⟨q, ys, rfl, hoq, hly, hd8⟩; have HI8 := hid (HIa.out.drawn hd8.cur hd8.turned hB6); have HQ8 := hid (hoq.mono (show w.heap.size + 1 ≤ _ by simp at hzw ⊢; omega)); clear hd8 hoq; have t8 := HI8.out.2.2.2.1.cell 0; have a8 := HI8.out.2.2.1.cell 0; have f8 := HI8.out.2.2.1.frozen 0)
  all_goals
    have H9 := hid ((DZ.of HI8.out).box hB6 (.slice uA xs.length uc))
    have a9 := H9.out.2.1.cell 0
    go_wp2
  all_goals
    refine bodyPost_ret (v := .tuple #[.agg #[.slice uA xs.length uc], .int .i64 s, q]) (by simp [results, Try.results6, go_sem, a9]) rfl ⟨_, xs, _, _, ys, rfl, HW.out, H9.out.2.2.2.mono (show w.heap.size ≤ _ by omega), hl2, HQ8.out.box (Nat.le_refl _) _, hly, H9.out.1⟩
set_option maxHeartbeats 1600000 in
theorem drawRowmotionTimes_any (v : Value) (bs : List Int) (w : World) (hb : BytesB w w.heap.size v bs) (hl : bs.length ≤ 1048576) :
    Calls Try.prog 18 #[v] w fun (r : Ending) w' => ∃ u xs s k, r = .returned (.tuple #[.agg #[u], .int .i64 s, .int .i64 k]) ∧ (Lit.int .i64 s).wf = true ∧ OwnI 3 w' w.heap.size u xs ∧ xs.length ≤ 21 ∧ -1000 ≤ k ∧ k ≤ 1001 ∧ Below w.heap.size w w' := by
  have HBy := hid hb
  obtain ⟨vA, vc, rfl, -⟩ := hb
  have HA0 := hid (Blk.new w 26 #[.slice none 0 0])
  have HB0 := hid (below_alloc (Below.refl _ w) (.cells #[.slice none 0 0] 26))
  go_enter Try.func18, Try.ntmps18
  go_wp2_with fail
  have HC := hid (Cur.new (w.alloc (.cells #[.slice none 0 0] 26)) _ bs (w.heap.size + 1) (by simp) ((HBy.out.below HB0.out).up (by simp)) hl)
  have HB1 := hid (below_alloc HB0.out (.cells #[.slice vA bs.length vc, .int .i64 0, .int .u64 0] 56))
  have HA1 := hid (HA0.out.alloc (.cells #[.slice vA bs.length vc, .int .i64 0, .int .u64 0] 56))
  refine (ideal_any (w.heap.size + 1) 0 8 _ HC.out (by decide) (by decide) (by decide)).mono ?_
  rintro e w2 ⟨u, xs, s, rfl, hwf, ho, hl2, hd⟩
  have HW := hid hwf
  clear hwf
  have HB2 := hid (hd.belowAll HB1.out (by omega))
  have HA2 := hid (HA1.out.turned hd.turned (Or.inl (by omega)))
  have HO := hid (ho.mono (show w.heap.size + 2 ≤ _ by simp))
  have HC2 := hid hd.cur
  have hz2 : w.heap.size + 2 ≤ w2.heap.size := by have := hd.turned.size; simpa using this
  obtain ⟨uA, uc, rfl, -⟩ := HO.out.shape
  clear ho hd HA0 HA1 HB0 HB1 HC
  obtain ⟨B5, hB5⟩ : ∃ B5, w2.heap.size = B5 := ⟨_, rfl⟩
  have hbox := (Blk.new w2 26 #[.slice uA xs.length uc]).cell 0
  have HI3 : Hid (DI 3 26 w 240 B5 (.slice uA xs.length uc) xs (w2.alloc (.cells #[.slice uA xs.length uc] 26))) :=
    hid ⟨below_alloc HB2.out _, (HC2.out.le (by omega)).below (below_alloc (Below.refl _ _) _), HA2.out.alloc _, by rw [← hB5]; exact Blk.new w2 _ _, HO.out.alloc _⟩
  have hB6 : w.heap.size + 2 ≤ B5 := by omega
  have hzw : w.heap.size + 2 ≤ (w2.alloc (.cells #[.slice uA xs.length uc] 26)).heap.size := by simp; omega
  clear HB2 HC2 HA2 HO hz2
  go_wp2
  obtain ⟨W, hW⟩ : ∃ W, w2.alloc (.cells #[.slice uA xs.length uc] 26) = W := ⟨_, rfl⟩
  rw [hW] at HI3 hzw ⊢
  clear hW hbox hB5
  have HIa := hid (HI3.out.below (below_drewN (below_alloc (Below.refl _ _) (.cells #[.int .i64 0, .int .i64 1, .int .i64 (-1), .int .i64 5, .int .i64 (-7), .int .i64 100, .int .i64 1000, .int .i64 (-1000), .int .i64 1001] 3)) 1))
  have t3 := HI3.out.2.2.2.1.cell 0
  have a3 := HI3.out.2.2.1.cell 0
  have f3 := HI3.out.2.2.1.frozen 0
  have t4 : (W.alloc (.cells #[.int .i64 0, .int .i64 1, .int .i64 (-1), .int .i64 5, .int .i64 (-7), .int .i64 100, .int .i64 1000, .int .i64 (-1000), .int .i64 1001] 3)).cell? ⟨B5, 0, none⟩ = some (.slice uA xs.length uc) := (HI3.out.2.2.2.1.alloc _).cell 0
  go_region_with (go_at_call 67; refine (among_any (w.heap.size + 1) 240 _ [0, 1, -1, 5, -7, 100, 1000, -1000, 1001] _ HIa.out.2.1 (by decide) ⟨_, Blk.newDrew W _ _, by simp at hzw ⊢; omega, rfl⟩ (by simp) (by simp)).mono ?_; rintro e w8 ⟨m, hm, rfl, hc8, ht8⟩; have HI8 := hid (HIa.out.drawn hc8 ht8 hB6); have HM := hid (getD_range (p := fun x => -1000 ≤ x ∧ x ≤ 1001) (l := [0, 1, -1, 5, -7, 100, 1000, -1000, 1001]) (by decide) hm); clear hc8 ht8; have t8 := HI8.out.2.2.2.1.cell 0; have a8 := HI8.out.2.2.1.cell 0; have f8 := HI8.out.2.2.1.frozen 0; generalize ([0, 1, -1, 5, -7, 100, 1000, -1000, 1001] : List Int).getD m 0 = y at HM ⊢)
  all_goals
    have H9 := hid ((DZ.of HI8.out).box hB6 (.slice uA xs.length uc))
    have a9 := H9.out.2.1.cell 0
    go_wp2
  all_goals
    refine bodyPost_ret (v := .tuple #[.agg #[.slice uA xs.length uc], .int .i64 s, .int .i64 y]) (by simp [results, Try.results18, go_sem, a9]) rfl ⟨_, xs, _, y, rfl, HW.out, H9.out.2.2.2.mono (show w.heap.size ≤ _ by omega), hl2, HM.out.1, HM.out.2, H9.out.1⟩
end Go.Proofs.Ytdemikjaghegnaa

/- Cycles of a motion on the ideals; common multiples. No program is named here. -/
namespace Go.Proofs.Ytdemikjaghegnaa
set_option linter.unusedVariables false

def cntF (seen : List Bool) : Nat := seen.count false
theorem cntF_set {seen : List Bool} {s : Nat} (hs : s < seen.length) (h : seen.getD s true = false) : cntF (seen.set s true) + 1 = cntF seen := by
  unfold cntF
  induction seen generalizing s with
  | nil => simp at hs
  | cons b l ih =>
    match s with
    | 0 =>
      simp [List.getD] at h
      subst h
      simp
    | s + 1 =>
      have h1 : s < l.length := by simpa using hs
      have h2 : l.getD s true = false := by simpa [List.getD] using h
      have := ih h1 h2
      rw [List.set_cons_succ, List.count_cons, List.count_cons]
      omega
theorem cntF_le (seen : List Bool) : cntF seen ≤ seen.length := List.count_le_length
/-- one cycle, from s on: what has been seen behind it, and its length -/
def cycIn (f : Nat → Nat) : Nat → List Bool → Nat → Nat → List Bool × Nat
  | 0, seen, _, n => (seen, n)
  | c + 1, seen, s, n => if seen.getD s true = true then (seen, n) else cycIn f c (seen.set s true) (f s) (n + 1)
def cyc1 (f : Nat → Nat) (seen : List Bool) (s n : Nat) : List Bool × Nat := cycIn f (cntF seen) seen s n
theorem cyc1_stop {f : Nat → Nat} {seen : List Bool} {s n : Nat} (h : seen.getD s true = true) : cyc1 f seen s n = (seen, n) := by
  unfold cyc1
  cases hc : cntF seen
  · rfl
  · unfold cycIn; rw [if_pos h]
theorem cyc1_go {f : Nat → Nat} {seen : List Bool} {s n : Nat} (hs : s < seen.length) (h : seen.getD s true = false) : cyc1 f seen s n = cyc1 f (seen.set s true) (f s) (n + 1) := by
  unfold cyc1
  have := cntF_set hs h
  rw [← this, cycIn, if_neg (by rw [h]; decide)]
theorem cyc1_length (f : Nat → Nat) (seen : List Bool) (s n : Nat) : (cyc1 f seen s n).1.length = seen.length := by
  unfold cyc1
  generalize cntF seen = c
  induction c generalizing seen s n with
  | zero => rfl
  | succ c ih =>
    unfold cycIn
    split
    · rfl
    · rw [ih, List.length_set]
theorem cyc1_le (f : Nat → Nat) (seen : List Bool) (s n : Nat) : (cyc1 f seen s n).2 ≤ n + seen.length := by
  have key : ∀ c (seen : List Bool) (s n : Nat), (cycIn f c seen s n).2 ≤ n + c := by
    intro c
    induction c with
    | zero => intro seen s n; exact Nat.le_refl _
    | succ c ih =>
      intro seen s n
      unfold cycIn
      split
      · exact Nat.le_add_right _ _
      · have := ih (seen.set s true) (f s) (n + 1)
        omega
  have h1 := key (cntF seen) seen s n
  have h2 := cntF_le seen
  unfold cyc1
  omega
/-- the cycles from the first k ideals on -/
def cycSt (f : Nat → Nat) (N : Nat) (ids : List Int) : Nat → List Bool × List Int
  | 0 => (List.replicate N false, [])
  | k + 1 =>
    let st := cycSt f N ids k
    let r := cyc1 f st.1 (ids.getD k 0).toNat 0
    (r.1, if 0 < r.2 then st.2 ++ [(r.2 : Int)] else st.2)
theorem cycSt_length (f : Nat → Nat) (N : Nat) (ids : List Int) (k : Nat) : (cycSt f N ids k).1.length = N ∧ (cycSt f N ids k).2.length ≤ k := by
  induction k with
  | zero => simp [cycSt]
  | succ k ih =>
    simp only [cycSt]
    rw [cyc1_length]
    refine ⟨ih.1, ?_⟩
    split
    · rw [List.length_append]; simp only [List.length_singleton]; omega
    · omega
theorem cycSt_pos (f : Nat → Nat) (N : Nat) (ids : List Int) (k : Nat) : ∀ x ∈ (cycSt f N ids k).2, 1 ≤ x ∧ x ≤ N := by
  induction k with
  | zero => simp [cycSt]
  | succ k ih =>
    simp only [cycSt]
    split
    · rename_i h
      intro x hx
      rw [List.mem_append] at hx
      rcases hx with hx | hx
      · exact ih x hx
      · rw [List.mem_singleton] at hx
        subst hx
        have := cyc1_le f (cycSt f N ids k).1 (ids.getD k 0).toNat 0
        rw [(cycSt_length f N ids k).1] at this
        omega
    · exact ih
def cyclesL (f : Nat → Nat) (N : Nat) (ids : List Int) : List Int := (cycSt f N ids ids.length).2

/-! ### greatest common divisors, least common multiples -/
theorem tmod_nat (m n : Nat) : ((m : Int).tmod (n : Int)) = ((m % n : Nat) : Int) := by
  rw [Int.tmod_eq_emod_of_nonneg (Int.natCast_nonneg _)]; simp
theorem tdiv_nat (m n : Nat) : ((m : Int).tdiv (n : Int)) = ((m / n : Nat) : Int) := by
  rw [Int.tdiv_eq_ediv_of_nonneg (Int.natCast_nonneg _)]; simp
/-- the common multiple of the first k, none once it is too great -/
def lcmN (ls : List Int) : Nat → Option Nat
  | 0 => some 1
  | k + 1 => (lcmN ls k).bind fun m => if 1000000000000000 < m / Nat.gcd m (ls.getD k 0).toNat * (ls.getD k 0).toNat then none else some (m / Nat.gcd m (ls.getD k 0).toNat * (ls.getD k 0).toNat)
theorem lcmN_le {ls : List Int} (hp : ∀ x ∈ ls, 1 ≤ x) (k : Nat) (hk : k ≤ ls.length) : ∀ m, lcmN ls k = some m → 1 ≤ m ∧ m ≤ 1000000000000000 := by
  induction k with
  | zero => intro m h; simp only [lcmN, Option.some.injEq] at h; omega
  | succ k ih =>
    intro m h
    simp only [lcmN] at h
    cases hq : lcmN ls k with
    | none => rw [hq] at h; simp at h
    | some q =>
      rw [hq, Option.bind_some] at h
      split at h
      · cases h
      · rename_i hn
        simp only [Option.some.injEq] at h
        have h1 := ih (by omega) q hq
        have hx := hp (ls.getD k 0) (by simp [List.getD, show k < ls.length by omega])
        have hg := Nat.le_of_dvd (by omega) (Nat.gcd_dvd_left q (ls.getD k 0).toNat)
        have hg0 : 0 < Nat.gcd q (ls.getD k 0).toNat := Nat.gcd_pos_of_pos_left _ (by omega)
        have h3 : 0 < q / Nat.gcd q (ls.getD k 0).toNat := Nat.div_pos hg hg0
        have h4 : 0 < q / Nat.gcd q (ls.getD k 0).toNat * (ls.getD k 0).toNat := Nat.mul_pos h3 (by omega)
        omega
def lcmAll (ls : List Int) : Option Nat := lcmN ls ls.length
theorem lcmN_none {ls : List Int} {k : Nat} (h : lcmN ls k = none) (j : Nat) (hj : k ≤ j) : lcmN ls j = none := by
  induction j with
  | zero => have : k = 0 := by omega
            subst this; exact h
  | succ j ih =>
    by_cases e : k = j + 1
    · subst e; exact h
    · simp only [lcmN, ih (by omega)]; rfl
/-- a quotient too great for the bound: the product is -/
theorem div_bound {a n M : Nat} (hn : 1 ≤ n) : M / n < a ↔ M < a * n := by
  rw [Nat.div_lt_iff_lt_mul (by omega)]
theorem mul_gcd_swap (m n : Nat) (hn : 1 ≤ n) : m / Nat.gcd m n * n = m * (n / Nat.gcd m n) := by
  obtain ⟨a, ha⟩ := Nat.gcd_dvd_left m n
  obtain ⟨b, hb⟩ := Nat.gcd_dvd_right m n
  have hg0 : 0 < Nat.gcd m n := Nat.gcd_pos_of_pos_right _ (by omega)
  obtain ⟨g, hg⟩ : ∃ g, Nat.gcd m n = g := ⟨_, rfl⟩
  rw [hg] at ha hb hg0 ⊢
  rw [ha, hb, Nat.mul_div_cancel_left _ hg0, Nat.mul_div_cancel_left _ hg0]
  rw [← Nat.mul_assoc, Nat.mul_comm a g]
end Go.Proofs.Ytdemikjaghegnaa
