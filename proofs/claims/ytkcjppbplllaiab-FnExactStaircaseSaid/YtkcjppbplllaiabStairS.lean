/- Staircase of the model. -/
import Derived.Test.YtkcjppbplllaiabStairI
namespace Go.Proofs.Ytkcjppbplllaiab
open Go.RowKit Go.WideShapes Go.ChangeShapes
set_option linter.unusedVariables false

def stX (ps : List (Nat × Nat)) (N k x : Nat) : Nat := if x < k then rowN (stG ps x) N else 0
def stY (ps : List (Nat × Nat)) (N k t x : Nat) : Nat := if x < k then rowN (stG ps x) N else if x = k then rowN (stG ps k) t else 0
theorem stG_eq (ps : List (Nat × Nat)) (k t : Nat) : stG ps k t = (decide (k ≠ t) && (decide (((ps.getD k (0, 0)).1 : Int) ≤ ((ps.getD t (0, 0)).1 : Int)) && decide (((ps.getD t (0, 0)).2 : Int) ≤ ((ps.getD k (0, 0)).2 : Int)))) := by
  simp [stG, stF]
set_option maxHeartbeats 6400000 in
theorem specStaircase_any (n : Int) (w : World) (wf : (Lit.int .i64 n).wf = true) :
    Calls Try.prog 37 #[.int .i64 n] w fun (r : Ending) w' => ∃ u, r = Ending.returned (.tuple #[.agg #[u], .bool (decide (1 ≤ n) && decide (n ≤ 4))]) ∧ OwnI 3 w' w.heap.size u (stL n) ∧ (stL n).length ≤ 1048576 ∧ Below w.heap.size w w' := by
  have HL := hid (stL_length n)
  clear wf
  by_cases hn : 1 ≤ n ∧ n ≤ 4
  · obtain ⟨m, rfl⟩ := Int.eq_ofNat_of_zero_le (by omega : 0 ≤ n)
    have h1 : 1 ≤ m := by omega
    have h2 : m ≤ 4 := by omega
    have hd : (decide ((1 : Int) ≤ (m : Int)) && decide ((m : Int) ≤ 4)) = true := by simp; omega
    have HY := hid (stL_yes h1 h2)
    have HN := hid (st_len m h1 h2)
    have HE := hid (st_eq m h1 h2)
    rw [hd]
    have Hd := hid hd
    clear hd hn
    go_enter Try.func37, Try.ntmps37
    go_wp2_with (go_at_call 57; refine (l1In_any _ _ _ _).mono ?_; rw [Hd.out]; rintro e w' ⟨rfl, rfl⟩)
    go_loopw [4, 5] (fun q dd wr => ∃ d : Nat, 1 ≤ d ∧ d ≤ m + 1 ∧ dd = .int .i64 d ∧ Pairs 3 22 wr (w.heap.size + 1) q (stPS m (d - 1)) ∧ Below (w.heap.size + 1) (w.alloc (.cells #[.slice none 0 0] 38)) wr) (fun _ dd _ => m + 1 - (intOf dd).toNat)
    case atStart => exact ⟨1, by omega, by omega, rfl, Pairs.nil _ _ _ _, Below.refl _ _⟩
    case round =>
      obtain ⟨d, hd1, hd2, rfl, ho, hb⟩ := hrel
      have HO := hid ho
      have HB := hid hb
      by_cases hdm : d ≤ m
      · have hdm' : (d : Int) ≤ (m : Int) := by omega
        clear ho hb
        go_wp2
        go_loopw [4, 6] (fun q ii wi => ∃ c : Nat, c + d ≤ m + 1 ∧ ii = .int .i64 c ∧ Pairs 3 22 wi (w.heap.size + 1) q (stPS m (d - 1) ++ stIn d c) ∧ Below (w.heap.size + 1) (w.alloc (.cells #[.slice none 0 0] 38)) wi) (fun _ ii _ => m + 1 - (intOf ii).toNat)
        case atStart => exact ⟨0, by omega, rfl, by simpa [stIn] using HO.out, HB.out⟩
        case round =>
          obtain ⟨c, hc, rfl, ho, hb⟩ := hrel
          have hlen : (stPS m (d - 1) ++ stIn d c).length ≤ 20 := by
            have a1 := stPS_length m (d - 1)
            have a2 := mul44 (show d - 1 ≤ 4 by omega) h2
            rw [List.length_append, stIn_length]
            omega
          obtain ⟨L, hL⟩ : ∃ L, stPS m (d - 1) ++ stIn d c = L := ⟨_, rfl⟩
          rw [hL] at ho hlen
          have HLL := hid hL
          have HOi := hid ho
          have HBi := hid hb
          have hbz : w.heap.size + 1 ≤ wr.heap.size := by have := hb.size; simp at this; omega
          clear hL ho hb
          by_cases hcm : c + d ≤ m
          · have hcm' : (c : Int) + (d : Int) ≤ (m : Int) := by omega
            go_wp2_with (at_builtin; refine wpList_append_pair rfl _ _ 35 22 3 rfl Try.underlying35 Try.info22 (by decide) (w.heap.size + 1) _ _ c (c + d) rfl HOi.out rfl rfl (by omega) (by omega) ?_; intro q2 w2 hp2 hb2)
            go_roundw
            case rel => exact ⟨c + 1, by omega, by go_num, by rw [stIn, ← List.append_assoc, HLL.out]; exact hp2, HBi.out.trans hb2⟩
            case measure => simp [intOf]; omega
          · have hcm' : ¬ (c : Int) + (d : Int) ≤ (m : Int) := by omega
            obtain rfl : c = m + 1 - d := by omega
            go_wp2
            go_roundw
            case rel => exact ⟨d + 1, by omega, by omega, by go_num, (by rw [Nat.add_sub_cancel, stPS_step m d hd1, HLL.out]; exact HOi.out), HBi.out⟩
            case measure => simp [intOf]; omega
      · have hdm' : ¬ (d : Int) ≤ (m : Int) := by omega
        obtain rfl : d = m + 1 := by omega
        rw [Nat.add_sub_cancel] at ho
        obtain ⟨hn10, hn1, -⟩ := HN.out
        obtain ⟨L, hL⟩ : ∃ L, stPS m m = L := ⟨_, rfl⟩
        rw [hL] at ho HY HE hn10 hn1
        obtain ⟨sA, sc, rfl, hs⟩ := ho.shape
        have HS := hid hs
        have HBw := hid (below_box hb)
        have HR0 : Hid (Blk wr w.heap.size 38 #[.slice none 0 0]) := hid ((Blk.new w _ _).below hb (Nat.lt_succ_self _))
        have hr0 := HR0.out.lt
        obtain ⟨N, hN⟩ : ∃ N, L.length = N := ⟨_, rfl⟩
        have hmk := run_make_row' (P := Try.prog) 22 3 (.int .i64 0) 8 Try.underlying22 Try.info3 rfl .i64 .i64 N (by omega) (by omega)
        rw [hN] at HS hn10 hn1 HE HY ⊢
        have HNl := hid hN
        clear hL HN hN hs ho hb
        obtain ⟨W1, rfl⟩ : ∃ x, x = wr := ⟨wr, rfl⟩
        go_wp2
        clear hmk
        rw [Vals_made]
        go_loopw [42] (fun ii wi => ∃ k : Nat, k ≤ N ∧ ii = .int .i64 k ∧ Blk wi W1.heap.size 3 (Vals (mkL N (stX L N k))) ∧ Blk wi (W1.heap.size + 1) 38 #[.slice (some ⟨W1.heap.size, 0, none⟩) N N] ∧ Below W1.heap.size W1 wi) (fun ii _ => N - (intOf ii).toNat)
        case atStart =>
          refine ⟨0, Nat.zero_le _, rfl, ?_, Blk.newAt _ _ _ _ (by simp), below_alloc (below_alloc (Below.refl _ _) _) _⟩
          have e : mkL N (stX L N 0) = List.replicate N 0 := by rw [← mkL_zero]; exact mkL_congr (fun i _ => by simp [stX])
          rw [e]
          exact (Blk.new _ _ _).alloc _
        case round =>
          obtain ⟨k, hk, rfl, hrow, hbox, hb⟩ := hrel
          have HRow := hid hrow
          have HBox := hid hbox
          have HB3 := hid hb
          by_cases hkN : k < N
          · obtain ⟨sb, sg, rfl, hs1, hs2, hs3, hs4, hs5⟩ := HS.out k hkN
            have hc3 := (hb.cell (p := ⟨sb, k, none⟩) hs1).trans hs3
            have HG4 := hid hs4
            have HG5 := hid hs5
            clear hrow hbox hb hs3 hs4 hs5
            go_wp2
            clear hc3
            go_loopw [49] (fun jj wi => ∃ t : Nat, t ≤ N ∧ jj = .int .i64 t ∧ Blk wi W1.heap.size 3 (Vals (mkL N (stY L N k t))) ∧ Blk wi (W1.heap.size + 1) 38 #[.slice (some ⟨W1.heap.size, 0, none⟩) N N] ∧ Below W1.heap.size W1 wi) (fun jj _ => N - (intOf jj).toNat)
            case atStart => exact ⟨0, Nat.zero_le _, rfl, (by rw [mkL_congr (h := stX L N k) (fun i _ => by unfold stY stX; split; rfl; split <;> simp [rowN])]; exact HRow.out), HBox.out, HB3.out⟩
            case round =>
              obtain ⟨t, ht, rfl, hrow, hbox, hb⟩ := hrel
              have HRi := hid hrow
              have HBxi := hid hbox
              have HBi := hid hb
              by_cases htN : t < N
              · obtain ⟨tb, tg, e, -, ht2, ht3, ht4, ht5⟩ := HS.out t htN
                obtain rfl : sb = tb := by simpa using e
                have hct := (hb.cell (p := ⟨sb, t, none⟩) hs1).trans ht3
                have ca0 := (hb.cell (p := ⟨sg, 0, none⟩) hs2).trans HG4.out
                have ca1 := (hb.cell (p := ⟨sg, 1, none⟩) hs2).trans HG5.out
                have cb0 := (hb.cell (p := ⟨tg, 0, none⟩) ht2).trans ht4
                have cb1 := (hb.cell (p := ⟨tg, 1, none⟩) ht2).trans ht5
                have H := hid (stG_eq L k t)
                obtain ⟨a0, e0⟩ : ∃ x : Int, ((L.getD k (0, 0)).1 : Int) = x := ⟨_, rfl⟩
                obtain ⟨a1, e1⟩ : ∃ x : Int, ((L.getD k (0, 0)).2 : Int) = x := ⟨_, rfl⟩
                obtain ⟨b0, e2⟩ : ∃ x : Int, ((L.getD t (0, 0)).1 : Int) = x := ⟨_, rfl⟩
                obtain ⟨b1, e3⟩ : ∃ x : Int, ((L.getD t (0, 0)).2 : Int) = x := ⟨_, rfl⟩
                rw [e0] at ca0; rw [e1] at ca1; rw [e2] at cb0; rw [e3] at cb1; rw [e0, e1, e2, e3] at H
                clear e ht3 ht4 ht5 e0 e1 e2 e3 hrow hbox hb
                by_cases hkt : k = t
                · have HF : Hid (stG L k t = false) := hid (by rw [H.out]; simp [hkt])
                  have hbne : ((k : Int) != (t : Int)) = false := by simp [hkt]
                  clear hkt
                  go_wp2_with fail
                  go_quiet (fail)
                  go_wp2
                  go_roundw
                  case rel => exact ⟨t + 1, by omega, by go_num, (by rw [mkL_congr (h := stY L N k t) (fun i _ => by unfold stY; split; rfl; split; (rw [rowN, HF.out]; rfl); rfl)]; exact HRi.out), HBxi.out, below_drewN HBi.out _⟩
                  case measure => simp [intOf]; omega
                · have hbne : ((k : Int) != (t : Int)) = true := by rw [bne_iff_ne]; omega
                  by_cases c1 : a0 ≤ b0
                  · by_cases c2 : b1 ≤ a1
                    · have HT : Hid (stG L k t = true) := hid (by rw [H.out, decide_eq_true hkt, decide_eq_true c1, decide_eq_true c2]; rfl)
                      clear hkt
                      obtain ⟨p, hp⟩ : ∃ p, rowN (stG L k) t = p := ⟨_, rfl⟩
                      have hp2 := rowN_lt (stG L k) t
                      have hp3 := pow_lt10 t (by omega)
                      rw [hp] at hp2
                      have t1 : wr.cell? ⟨W1.heap.size, k, none⟩ = some (.int .i64 p) := by
                        rw [HRi.out.cell, Vals_get (by rw [mkL_length]; exact hkN), mkL_getD hkN, ← hp]; simp [stY]
                      have t2 := HRi.out.frozen k
                      have t3 := HBxi.out.cell 0
                      have wp := wrap_pow' t (by omega)
                      have hor := or_pow p t (by omega) (by omega)
                      have hkz : (k : Int) < N := by omega
                      have Hp := hid hp
                      clear hp hp2 hp3
                      go_wp2_with fail
                      go_quiet (fail)
                      go_wp2_with fail
                      go_region
                      go_wp2
                      go_roundw
                      case rel =>
                        refine ⟨t + 1, by omega, by go_num, ?_, ?_, ?_⟩
                        · rw [mkL_congr (h := fun i => if i = k then p ||| 2 ^ t else stY L N k t i) (fun i _ => by unfold stY; split; (rw [if_neg (by omega)]); split; (rw [rowN, if_pos HT.out, Hp.out]); rfl), ← mkL_set _ hkN, ← Vals_set]
                          exact HRi.out.set_ k _
                        · exact HBxi.out.far (p := ⟨W1.heap.size, k, none⟩) (by show W1.heap.size + 1 ≠ W1.heap.size; omega) _
                        · exact (below_drewN HBi.out _).setCell (p := ⟨W1.heap.size, k, none⟩) (Nat.le_refl _) _
                      case measure => simp [intOf]; omega
                    · have HF : Hid (stG L k t = false) := hid (by rw [H.out, decide_eq_false c2, Bool.and_false, Bool.and_false])
                      have d2 : decide (b1 ≤ a1) = false := decide_eq_false c2
                      clear hkt
                      go_wp2_with fail
                      go_quiet (fail)
                      go_wp2
                      go_roundw
                      case rel => exact ⟨t + 1, by omega, by go_num, (by rw [mkL_congr (h := stY L N k t) (fun i _ => by unfold stY; split; rfl; split; (rw [rowN, HF.out]; rfl); rfl)]; exact HRi.out), HBxi.out, below_drewN HBi.out _⟩
                      case measure => simp [intOf]; omega
                  · have HF : Hid (stG L k t = false) := hid (by rw [H.out, decide_eq_false c1, Bool.false_and, Bool.and_false])
                    have d1 : decide (a0 ≤ b0) = false := decide_eq_false c1
                    clear hkt
                    go_wp2_with fail
                    go_quiet (fail)
                    go_wp2
                    go_roundw
                    case rel => exact ⟨t + 1, by omega, by go_num, (by rw [mkL_congr (h := stY L N k t) (fun i _ => by unfold stY; split; rfl; split; (rw [rowN, HF.out]; rfl); rfl)]; exact HRi.out), HBxi.out, below_drewN HBi.out _⟩
                    case measure => simp [intOf]; omega
              · obtain rfl : t = N := by omega
                clear hrow hbox hb
                go_wp2
                go_roundw
                case rel => exact ⟨k + 1, by omega, by go_num, (by rw [mkL_congr (h := stY L t k t) (fun i _ => by unfold stY stX; by_cases h : i < k; (rw [if_pos h, if_pos (by omega)]); by_cases h2 : i = k; (subst h2; simp); (rw [if_neg h, if_neg h2, if_neg (by omega)]))]; exact HRi.out), HBxi.out, HBi.out⟩
                case measure => simp [intOf]; omega
          · obtain rfl : k = N := by omega
            have e : mkL k (stX L k k) = whereL (stF L) k := by rw [← HE.out]; exact mkL_congr (fun i hi => by simp [stX, hi])
            rw [e] at hrow
            have HOw := hid (Blk.own (xs := whereL (stF L) k) (B := w.heap.size) hrow (Nat.le_of_lt hr0) (by unfold whereL; rw [mkL_length]; omega))
            have hwl : (whereL (stF L) k).length = k := by unfold whereL; rw [mkL_length]
            rw [hwl] at HOw
            have hr := HR0.out.below hb hr0
            have z1 := hr.cell 0
            have z2 := hr.frozen 0
            have t3 := hbox.cell 0
            have HBf := hid (below_to HBw.out hb)
            clear e hrow hbox hb hr hwl
            go_wp2
            refine bodyPost_ret (v := .tuple #[.agg #[.slice (some ⟨W1.heap.size, 0, none⟩) k k], .bool true]) (by simp [results, Try.results37, go_sem, z1]) rfl ⟨_, rfl, ?_, HL.out, ?_⟩
            · rw [HY.out]
              exact HOw.out.grown (grown_setCell (World.grownBy.refl _ _) 0 _) (.inr (by simp [Value.ownBlock]; omega))
            · exact HBf.out.setCell (p := ⟨w.heap.size, 0, none⟩) (Nat.le_refl _) _
  · have hd : (decide ((1 : Int) ≤ n) && decide (n ≤ 4)) = false := by rw [Bool.eq_false_iff]; simp; omega
    have HNo := hid (stL_no hn)
    rw [hd]
    have Hd := hid hd
    clear hd hn
    go_enter Try.func37, Try.ntmps37
    go_wp2_with (go_at_call 57; refine (l1In_any _ _ _ _).mono ?_; rw [Hd.out]; rintro e w' ⟨rfl, rfl⟩)
    refine bodyPost_ret (v := .tuple #[.agg #[.slice none 0 0], .bool false]) (by simp [results, Try.results37, go_sem]) rfl ⟨_, rfl, by rw [HNo.out]; exact OwnI.nil _ _ _, HL.out, ?_⟩
    exact (Below.refl _ _).alloc (Nat.le_refl _) _
end Go.Proofs.Ytkcjppbplllaiab
