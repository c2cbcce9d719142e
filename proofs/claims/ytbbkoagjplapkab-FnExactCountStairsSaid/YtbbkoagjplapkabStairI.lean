/- Staircase of the program. -/
import Derived.Test.YtbbkoagjplapkabStairC
namespace Go.Proofs.Ytbbkoagjplapkab
open Go.RowKit Go.WideShapes Go.ChangeShapes
set_option linter.unusedVariables false

theorem stPS_step (n d : Nat) (h : 1 ≤ d) : stPS n d = stPS n (d - 1) ++ stIn d (n + 1 - d) := by
  obtain ⟨e, rfl⟩ : ∃ e, d = e + 1 := ⟨d - 1, by omega⟩
  rw [Nat.add_sub_cancel, stPS, show n + 1 - (e + 1) = n - e by omega]
theorem mul44 {a b : Nat} (h1 : a ≤ 4) (h2 : b ≤ 4) : a * b ≤ 16 := Nat.mul_le_mul h1 h2
set_option maxHeartbeats 3200000 in
theorem implStaircase_any (n : Int) (w : World) (wf : (Lit.int .i64 n).wf = true) :
    Calls Try.prog 20 #[.int .i64 n] w fun (r : Ending) w' => ∃ u, r = Ending.returned (.tuple #[.agg #[u], .bool (decide (1 ≤ n) && decide (n ≤ 4))]) ∧ OwnI 3 w' w.heap.size u (stcL n) ∧ (stcL n).length ≤ 1048576 ∧ Below w.heap.size w w' := by
  have HL := hid (stcL_length n)
  clear wf
  by_cases hn : 1 ≤ n ∧ n ≤ 4
  · obtain ⟨m, rfl⟩ := Int.eq_ofNat_of_zero_le (by omega : 0 ≤ n)
    have h1 : 1 ≤ m := by omega
    have h2 : m ≤ 4 := by omega
    have hd : (decide ((1 : Int) ≤ (m : Int)) && decide ((m : Int) ≤ 4)) = true := by simp; omega
    have HY := hid (stcL_yes h1 h2)
    have HN := hid (st_len m h1 h2)
    rw [hd]
    have Hd := hid hd
    have g1 : ¬ (m : Int) < 1 := by omega
    have g2 : ¬ (4 : Int) < (m : Int) := by omega
    clear hd hn
    go_enter Try.func20, Try.ntmps20
    go_wp2_with fail
    go_loopw [5] (fun dd wr => ∃ (d : Nat) (v : Value), 1 ≤ d ∧ d ≤ m + 1 ∧ dd = .int .i64 d ∧ Blk wr w.heap.size 33 #[.slice none 0 0] ∧ Blk wr (w.heap.size + 1) 50 #[v] ∧ FlatOwn 51 wr (w.heap.size + 2) v (stPS m (d - 1)) ∧ Below w.heap.size w wr) (fun dd _ => m + 1 - (intOf dd).toNat)
    case atStart => exact ⟨1, .slice none 0 0, by omega, by omega, rfl, (Blk.new w _ _).alloc _, Blk.newAt _ _ _ _ (by simp), FlatOwn.nil _ _ _, below_alloc (below_alloc (Below.refl _ _) _) _⟩
    case round =>
      obtain ⟨d, v, hd1, hd2, rfl, hz, hbox, ho, hb⟩ := hrel
      have HZ := hid hz
      have HBox := hid hbox
      have HO := hid ho
      have HB := hid hb
      have zlt := hbox.lt
      have hb0 := hbox.cell 0
      have hb1 := hbox.frozen 0
      by_cases hdm : d ≤ m
      · have hdm' : (d : Int) ≤ (m : Int) := by omega
        clear hz hbox ho hb hb0 hb1
        go_wp2
        go_loopw [6] (fun ii wi => ∃ (c : Nat) (v : Value), c + d ≤ m + 1 ∧ ii = .int .i64 c ∧ Blk wi w.heap.size 33 #[.slice none 0 0] ∧ Blk wi (w.heap.size + 1) 50 #[v] ∧ FlatOwn 51 wi (w.heap.size + 2) v (stPS m (d - 1) ++ stIn d c) ∧ Below w.heap.size w wi) (fun ii _ => m + 1 - (intOf ii).toNat)
        case atStart => exact ⟨0, v, by omega, rfl, HZ.out, HBox.out, by simpa [stIn] using HO.out, HB.out⟩
        case round =>
          obtain ⟨c, v', hc, rfl, hz, hbox, ho, hb⟩ := hrel
          have hlen : (stPS m (d - 1) ++ stIn d c).length ≤ 20 := by
            have a1 := stPS_length m (d - 1)
            have a2 := mul44 (show d - 1 ≤ 4 by omega) h2
            rw [List.length_append, stIn_length]
            omega
          obtain ⟨L, hL⟩ : ∃ L, stPS m (d - 1) ++ stIn d c = L := ⟨_, rfl⟩
          rw [hL] at ho hlen
          have HLL := hid hL
          have HZi := hid hz
          have HBoxi := hid hbox
          have HOi := hid ho
          have HBi := hid hb
          have zlti := hbox.lt
          have hb0 := hbox.cell 0
          have hb1 := hbox.frozen 0
          obtain ⟨vA, vc, rfl⟩ := ho.shape3
          clear hL hz hbox ho hb
          by_cases hcm : c + d ≤ m
          · have hcm' : (c : Int) + (d : Int) ≤ (m : Int) := by omega
            go_wp2_with (at_builtin; refine wpList_append_flat rfl _ _ 50 51 rfl Try.underlying50 Try.info51 (w.heap.size + 2) _ _ c (c + d) rfl HOi.out rfl rfl (by omega) (by omega) ?_; intro q2 w2 hp2 hb2; obtain ⟨qA, qc, rfl⟩ := hp2.shape3; have HP2 := hid hp2; have HB2 := hid hb2; have hz2 := hb2.size; have bx0 := (HBoxi.out.below hb2 (by omega)).cell 0; have bx1 := (HBoxi.out.below hb2 (by omega)).frozen 0; clear hp2 hb2)
            go_roundw
            case rel =>
              have hl' : (L ++ [(c, c + d)]).length = L.length + 1 := by simp
              rw [hl'] at HP2
              refine ⟨c + 1, .slice qA (L.length + 1) qc, by omega, by go_num, ?_, ?_, ?_, ?_⟩
              · exact (HZi.out.below HB2.out (by omega)).far (p := ⟨w.heap.size + 1, 0, none⟩) (by show w.heap.size ≠ w.heap.size + 1; omega) _
              · exact (HBoxi.out.below HB2.out (by omega)).set_ 0 _
              · rw [stIn, ← List.append_assoc, HLL.out]
                exact HP2.out.far (p := ⟨w.heap.size + 1, 0, none⟩) (by show w.heap.size + 1 < w.heap.size + 2; omega) rfl _
              · exact (HBi.out.trans (HB2.out.mono (by omega))).setCell (p := ⟨w.heap.size + 1, 0, none⟩) (by show w.heap.size ≤ w.heap.size + 1; omega) _
            case measure => simp [intOf]; omega
          · have hcm' : ¬ (c : Int) + (d : Int) ≤ (m : Int) := by omega
            obtain rfl : c = m + 1 - d := by omega
            go_wp2
            go_roundw
            case rel => exact ⟨d + 1, _, by omega, by omega, by go_num, HZi.out, HBoxi.out, (by rw [Nat.add_sub_cancel, stPS_step m d hd1, HLL.out]; exact HOi.out), HBi.out⟩
            case measure => simp [intOf]; omega
      · have hdm' : ¬ (d : Int) ≤ (m : Int) := by omega
        obtain rfl : d = m + 1 := by omega
        rw [Nat.add_sub_cancel] at ho
        obtain ⟨hn10, hn1, -⟩ := HN.out
        have HR := hid (ho.read hn1)
        obtain ⟨L, hL⟩ : ∃ L, stPS m m = L := ⟨_, rfl⟩
        rw [hL] at ho HR HY hn10 hn1
        obtain ⟨vA, vc, rfl⟩ := ho.shape3
        have HAt : Hid (At wr (w.heap.size + 1) (.slice vA L.length vc)) := hid ⟨by simpa using hb0, zlt⟩
        clear hL HN hz hbox ho hb
        go_wp2_with fail
        refine (posetWhereStaircase_any L.length _ (stF L) wr hn10 (fun j i W' hj hi hb => stairClosure_any (w.heap.size + 1) _ L j i W' (HAt.out.below hb) (HR.out.below hb) hn10 (by omega) hi)).mono ?_
        rintro e w2 ⟨u, rfl, ho, hb2⟩
        have hzlt := HZ.out.lt
        have hr := HZ.out.below hb2 hzlt
        have t1 := hr.cell 0
        have t2 := hr.frozen 0
        obtain ⟨uA, un, uc, rfl⟩ := ho.shape3
        have HO := hid ho
        have HB3 := hid (below_to HB.out hb2)
        clear hr ho hb2 hb0 hb1
        go_wp2
        refine bodyPost_ret (v := .tuple #[.agg #[.slice uA un uc], .bool true]) (by simp [results, Try.results20, go_sem, t1]) rfl ⟨_, rfl, ?_, HL.out, ?_⟩
        · rw [HY.out]
          refine (HO.out.grown (grown_setCell (World.grownBy.refl _ _) 0 _) ?_).mono (Nat.le_of_lt hzlt)
          exact HO.out.apart (.inl hzlt)
        · exact HB3.out.setCell (p := ⟨w.heap.size, 0, none⟩) (Nat.le_refl _) _
  · have hd : (decide ((1 : Int) ≤ n) && decide (n ≤ 4)) = false := by rw [Bool.eq_false_iff]; simp; omega
    have HNo := hid (stcL_no hn)
    rw [hd]
    by_cases c1 : n < 1
    · clear hd hn
      go_enter Try.func20, Try.ntmps20
      go_wp2
      refine bodyPost_ret (v := .tuple #[.agg #[.slice none 0 0], .bool false]) (by simp [results, Try.results20, go_sem]) rfl ⟨_, rfl, by rw [HNo.out]; exact OwnI.nil _ _ _, HL.out, ?_⟩
      exact (Below.refl _ _).alloc (Nat.le_refl _) _
    · have c2 : (4 : Int) < n := by omega
      clear hd hn
      go_enter Try.func20, Try.ntmps20
      go_wp2
      refine bodyPost_ret (v := .tuple #[.agg #[.slice none 0 0], .bool false]) (by simp [results, Try.results20, go_sem]) rfl ⟨_, rfl, by rw [HNo.out]; exact OwnI.nil _ _ _, HL.out, ?_⟩
      exact (Below.refl _ _).alloc (Nat.le_refl _) _
end Go.Proofs.Ytbbkoagjplapkab
