/- FcovI Sv RvK RvV -/
import Derived.BigQuiet
import Derived.Test.YtbmhaamenjhjfaaGreatDoorPkD12
namespace Go.Proofs.YtbmhaamenjhjfaaGreatDoor
open Go.RowKit Go.WideShapes Go.ChangeShapes
set_option linter.unusedVariables false
theorem okPr_two {m : Nat} {l : List Int} (h2 : l.length = 2) : okPr m l = (decide (0 ≤ l.getD 0 0) && (decide (l.getD 0 0 < l.getD 1 0) && decide (l.getD 1 0 < m))) := by
  match l, h2 with
  | [x, y], _ =>
    rw [Bool.eq_iff_iff]
    simp [okPr, inW]
    omega
theorem okPr_len {m : Nat} {l : List Int} (h2 : ¬ l.length = 2) : okPr m l = false := by simp [okPr, h2]
theorem dirN_lt' {ps : List (Nat × Nat)} (k : Nat) (hp : ∀ t, t < k → (ps.getD t (0, 0)).1 < 10) (r : Nat) : dirN ps k r < 1024 := by
  apply Nat.lt_pow_two_of_testBit (n := 10)
  intro i hi
  rw [Bool.eq_false_iff]
  intro h
  obtain ⟨t, h1, h2, h3⟩ := (dirN_bit ps k r i).1 h
  have := hp t h1
  omega
theorem clN_small {ps : List (Nat × Nat)} {n : Nat} (hp : UpPairs n ps) (hn : n ≤ 10) (k : Nat) (hk : k ≤ n) (s : Nat) : Small (mkL n (clN ps n k)) s := by
  intro e he _
  rw [mkL_length] at he
  rw [mkL_getD he]
  have := clN_lt hp hn k hk e
  omega
set_option maxHeartbeats 3200000 in
theorem implFromCovers_any (n : Int) (v : Value) (ls : List (List Int)) (w : World) (wf : (Lit.int .i64 n).wf = true) (hv : IntsSS w v ls) (hs : SSmall ls) :
    Calls Tryz.prog 158 #[.int .i64 n, v] w fun (r : Ending) w' => ∃ q, r = Ending.returned (.tuple #[.agg #[q], .bool (okFC n ls)]) ∧ OwnI 3 w' w.heap.size q (fcL n ls) ∧ (fcL n ls).length ≤ 1048576 ∧ Below w.heap.size w w' := by
  have HV := hid hv
  obtain ⟨A, c, rfl, hA⟩ := hv
  have HA := hid hA
  have HL := hid (fcL_length n ls)
  have hl := hs.1
  have HR := hid hs.2.1
  clear hA hs wf
  have HZ0 := hid (Blk.new w 28 #[.slice none 0 0])
  have HB0 := hid (below_alloc (Below.refl _ w) (.cells #[.slice none 0 0] 28))
  cases hn : (decide (1 ≤ n) && decide (n ≤ 10))
  · have HD := hid hn
    have HF := hid (okFC_no1 (ls := ls) hn)
    have t1 := HZ0.out.cell 0
    have t2 := HZ0.out.frozen 0
    clear hn
    go_enter Tryz.func158, Tryz.ntmps158
    go_wp2_with (go_at_call 162; refine (isSize_any _ _).mono ?_; rw [HD.out]; rintro e w' ⟨rfl, rfl⟩)
    refine bodyPost_ret (v := .tuple #[.agg #[.slice none 0 0], .bool false]) (by simp [results, Tryz.results158, go_sem, t1]) rfl ⟨_, by rw [HF.out], by rw [fcL_no HF.out]; exact OwnI.nil _ _ _, HL.out, ?_⟩
    exact HB0.out
  · have HD := hid hn
    obtain ⟨m, rfl⟩ := Int.eq_ofNat_of_zero_le (show 0 ≤ n by simp at hn; omega)
    have hm1 : 1 ≤ m ∧ m ≤ 10 := by simp at hn; omega
    clear hn
    by_cases h100 : 100 < ls.length
    · have HF := hid (okFC_no2 (n := m) h100)
      have h100' : (100 : Int) < ls.length := by omega
      have t1 := HZ0.out.cell 0
      have t2 := HZ0.out.frozen 0
      go_enter Tryz.func158, Tryz.ntmps158
      go_wp2_with (go_at_call 162; refine (isSize_any _ _).mono ?_; rw [HD.out]; rintro e w' ⟨rfl, rfl⟩)
      refine bodyPost_ret (v := .tuple #[.agg #[.slice none 0 0], .bool false]) (by simp [results, Tryz.results158, go_sem, t1]) rfl ⟨_, by rw [HF.out], by rw [fcL_no HF.out]; exact OwnI.nil _ _ _, HL.out, ?_⟩
      exact HB0.out
    · have h100' : ¬ (100 : Int) < ls.length := by omega
      have hmk := run_make_row' (P := Tryz.prog) 22 3 (.int .i64 0) 8 Tryz.underlying22 Tryz.info3 rfl .i64 .i64 m (by omega) (by omega)
      go_enter Tryz.func158, Tryz.ntmps158
      go_wp2_with (go_at_call 162; refine (isSize_any _ _).mono ?_; rw [HD.out]; rintro e w' ⟨rfl, rfl⟩)
      clear hmk
      rw [Vals_made]
      go_loopw [24] (fun i wr => ∃ k : Nat, k ≤ ls.length ∧ i = .int .i64 k ∧ Hid (∀ j, j < k → okPr m (ls.getD j []) = true) ∧ Blk wr w.heap.size 28 #[.slice none 0 0] ∧ Blk wr (w.heap.size + 1) 3 (Vals (mkL m (dirN (ls.map prOf) k))) ∧ Blk wr (w.heap.size + 2) 28 #[.slice (some ⟨w.heap.size + 1, 0, none⟩) m m] ∧ Below w.heap.size w wr) (fun i _ => ls.length - (intOf i).toNat)
      case atStart =>
        refine ⟨0, Nat.zero_le _, rfl, hid (fun j hj => absurd hj (Nat.not_lt_zero _)), ((Blk.new w _ _).alloc _).alloc _, ?_, Blk.newAt _ _ _ _ (by simp), below_alloc (below_alloc (below_alloc (Below.refl _ _) _) _) _⟩
        have e : mkL m (dirN (ls.map prOf) 0) = List.replicate m 0 := by rw [← mkL_zero]; exact mkL_congr (fun i _ => rfl)
        rw [e]
        exact (Blk.newAt (w.alloc (.cells #[.slice none 0 0] 28)) 3 (Vals (List.replicate m 0)) (w.heap.size + 1) (by simp)).alloc _
      case round =>
        obtain ⟨k, hk, rfl, HK, hz, hrow, hbox, hb⟩ := hrel
        have HZ := hid hz
        have HRow := hid hrow
        have HBox := hid hbox
        have HB := hid hb
        have z1 := hz.cell 0
        have z2 := hz.frozen 0
        have z3 := hz.lt
        clear hz hrow hbox
        by_cases hkl : k < ls.length
        · obtain ⟨b, o, u, rfl, hbl, hc, hi⟩ := HA.out k hkl
          have hcell : wr.cell? ⟨b, o + k, none⟩ = some u := (hb.cell (p := ⟨b, o + k, none⟩) hbl).trans hc
          have HI := hid (hi.below hb)
          obtain ⟨l, hll⟩ : ∃ l, ls.getD k [] = l := ⟨_, rfl⟩
          rw [hll] at HI
          have Hll := hid hll
          obtain ⟨A', m', rfl, hA'⟩ := HI.out
          have HA' := hid hA'
          clear hc hi hb hll hA'
          by_cases h2 : l.length = 2
          · have H2 := hid h2
            rw [h2] at hcell
            have hne2 : ((2 : Int) != 2) = false := rfl
            obtain ⟨g, p, rfl, hg, hpc⟩ := HA'.out (by intro e; have := H2.out; rw [e] at this; simp at this)
            have c0 : wr.cell? ⟨g, p, none⟩ = some (.int .i64 (l.getD 0 0)) := by have := hpc 0 (by rw [H2.out]; decide); simpa using this
            have c1 : wr.cell? ⟨g, p + 1, none⟩ = some (.int .i64 (l.getD 1 0)) := hpc 1 (by rw [H2.out]; decide)
            have HOp := hid (okPr_two (m := m) h2)
            have HPr : Hid ((ls.map prOf).getD k (0, 0) = prOf l) := hid (by rw [prs_getD ls k hkl, Hll.out])
            have HPq : Hid (prOf l = ((l.getD 0 0).toNat, (l.getD 1 0).toNat)) := hid rfl
            obtain ⟨x, hx⟩ : ∃ x, l.getD 0 0 = x := ⟨_, rfl⟩
            obtain ⟨y, hy⟩ : ∃ y, l.getD 1 0 = y := ⟨_, rfl⟩
            rw [hx] at c0 HOp HPq
            rw [hy] at c1 HOp HPq
            clear h2 hpc hx hy
            by_cases hx0 : x < 0
            · have HF : Hid (okFC m ls = false) := hid (okFC_no3 hkl (by rw [Hll.out]; show okPr m l = false; rw [HOp.out, decide_eq_false (by omega : ¬ 0 ≤ x)]; rfl))
              go_wp2_with fail
              go_quiet (fail)
              go_wp2
              refine bodyPost_ret (v := .tuple #[.agg #[.slice none 0 0], .bool false]) (by simp [results, Tryz.results158, go_sem, z1]) rfl ⟨_, by rw [HF.out], by rw [fcL_no HF.out]; exact OwnI.nil _ _ _, HL.out, ?_⟩
              exact (below_drewN HB.out _).setCell (p := ⟨w.heap.size, 0, none⟩) (Nat.le_refl _) _
            · by_cases hxy : y ≤ x
              · have HF : Hid (okFC m ls = false) := hid (okFC_no3 hkl (by rw [Hll.out]; show okPr m l = false; rw [HOp.out, decide_eq_false (by omega : ¬ x < y), Bool.false_and, Bool.and_false]))
                go_wp2_with fail
                go_quiet (fail)
                go_wp2
                refine bodyPost_ret (v := .tuple #[.agg #[.slice none 0 0], .bool false]) (by simp [results, Tryz.results158, go_sem, z1]) rfl ⟨_, by rw [HF.out], by rw [fcL_no HF.out]; exact OwnI.nil _ _ _, HL.out, ?_⟩
                exact (below_drewN HB.out _).setCell (p := ⟨w.heap.size, 0, none⟩) (Nat.le_refl _) _
              · by_cases hym : (m : Int) ≤ y
                · have HF : Hid (okFC m ls = false) := hid (okFC_no3 hkl (by rw [Hll.out]; show okPr m l = false; rw [HOp.out, decide_eq_false (by omega : ¬ y < (m : Int)), Bool.and_false, Bool.and_false]))
                  go_wp2_with fail
                  go_quiet (fail)
                  go_wp2
                  refine bodyPost_ret (v := .tuple #[.agg #[.slice none 0 0], .bool false]) (by simp [results, Tryz.results158, go_sem, z1]) rfl ⟨_, by rw [HF.out], by rw [fcL_no HF.out]; exact OwnI.nil _ _ _, HL.out, ?_⟩
                  exact (below_drewN HB.out _).setCell (p := ⟨w.heap.size, 0, none⟩) (Nat.le_refl _) _
                · have HK2 : Hid (∀ j, j < k + 1 → okPr m (ls.getD j []) = true) := hid (fun j hj => by
                    by_cases e : j = k
                    · subst e; rw [Hll.out, HOp.out, decide_eq_true (by omega : 0 ≤ x), decide_eq_true (by omega : x < y), decide_eq_true (by omega : y < (m : Int))]; rfl
                    · exact HK.out j (by omega))
                  obtain ⟨a, rfl⟩ := Int.eq_ofNat_of_zero_le (by omega : 0 ≤ x)
                  obtain ⟨d, rfl⟩ := Int.eq_ofNat_of_zero_le (by omega : 0 ≤ y)
                  have had : a < d := by omega
                  have hdm : d < m := by omega
                  simp only [Int.toNat_natCast] at HPq
                  have hdl := dirN_lt' (ps := ls.map prOf) k (fun t ht => by
                    obtain ⟨-, a', b', -, -, h1, h2, h3⟩ := okPr_facts (HK.out t ht)
                    rw [prs_getD ls t (by omega), h3]; show a' < 10; omega) d
                  obtain ⟨q, hq⟩ : ∃ q, dirN (ls.map prOf) k d = q := ⟨_, rfl⟩
                  rw [hq] at hdl
                  have t1 : wr.cell? ⟨w.heap.size + 1, d, none⟩ = some (.int .i64 (q : Nat)) := by
                    rw [HRow.out.cell, Vals_get (by rw [mkL_length]; exact hdm), mkL_getD hdm, hq]
                  have t2 := HRow.out.frozen d
                  have t3 := HBox.out.cell 0
                  have wp := wrap_pow' a (by omega)
                  have hor := or_pow q a (by omega) (by omega)
                  have hdz : (d : Int) < m := by omega
                  have Hq := hid hq
                  clear hq
                  go_wp2_with fail
                  go_quiet (fail)
                  go_wp2_with fail
                  go_region
                  go_wp2
                  go_roundw
                  case rel =>
                    refine ⟨k + 1, by omega, by go_num, HK2, ?_, ?_, ?_, ?_⟩
                    · exact HZ.out.far (p := ⟨w.heap.size + 1, d, none⟩) (by show w.heap.size ≠ w.heap.size + 1; omega) _
                    · rw [mkL_congr (h := fun i => if i = d then q ||| 2 ^ a else dirN (ls.map prOf) k i) (fun i _ => by simp only [dirN, HPr.out, HPq.out]; by_cases e : i = d; (subst e; simp [Hq.out]); (rw [if_neg (Ne.symm e), if_neg e])), ← mkL_set _ hdm, ← Vals_set]
                      exact HRow.out.set_ d _
                    · exact HBox.out.far (p := ⟨w.heap.size + 1, d, none⟩) (by show w.heap.size + 2 ≠ w.heap.size + 1; omega) _
                    · exact (below_drewN HB.out _).setCell (p := ⟨w.heap.size + 1, d, none⟩) (by show w.heap.size ≤ w.heap.size + 1; omega) _
                  case measure => simp [intOf]; omega
          · have HF : Hid (okFC m ls = false) := hid (okFC_no3 hkl (by rw [Hll.out]; exact okPr_len h2))
            have hne2 : ((l.length : Int) != 2) = true := by rw [bne_iff_ne]; omega
            clear h2
            go_wp2_with fail
            go_quiet (fail)
            go_wp2
            refine bodyPost_ret (v := .tuple #[.agg #[.slice none 0 0], .bool false]) (by simp [results, Tryz.results158, go_sem, z1]) rfl ⟨_, by rw [HF.out], by rw [fcL_no HF.out]; exact OwnI.nil _ _ _, HL.out, ?_⟩
            exact (below_drewN HB.out _).setCell (p := ⟨w.heap.size, 0, none⟩) (Nat.le_refl _) _
        · obtain rfl : k = ls.length := by omega
          have HF : Hid (okFC m ls = true) := hid (okFC_yes HD.out (by omega) HK.out)
          have HUp := hid (okPr_up HK.out)
          have HRow0 : Hid (Blk wr (w.heap.size + 1) 3 (Vals (mkL m (clN (ls.map prOf) m 0)))) := hid (by
            have e : mkL m (clN (ls.map prOf) m 0) = mkL m (dirN (ls.map prOf) ls.length) := mkL_congr (fun i _ => by simp only [clN, List.length_map])
            rw [e]; exact HRow.out)
          have t3 := HBox.out.cell 0
          clear hb z1 z2
          go_wp2
          clear t3
          have HZa := hid HZ.out
          have HBxa := hid HBox.out
          have HBa := hid HB.out
          clear HRow
          go_loopw [71] (fun i wi => ∃ k : Nat, k ≤ m ∧ i = .int .i64 k ∧ Blk wi w.heap.size 28 #[.slice none 0 0] ∧ Blk wi (w.heap.size + 1) 3 (Vals (mkL m (clN (ls.map prOf) m k))) ∧ Blk wi (w.heap.size + 2) 28 #[.slice (some ⟨w.heap.size + 1, 0, none⟩) m m] ∧ Below w.heap.size w wi) (fun i _ => m - (intOf i).toNat)
          case atStart => exact ⟨0, Nat.zero_le _, rfl, HZa.out, HRow0.out, HBxa.out, HBa.out⟩
          case round =>
            obtain ⟨k, hk, rfl, hz, hrow, hbox, hb⟩ := hrel
            have HZi := hid hz
            have HRowi := hid hrow
            have HBoxi := hid hbox
            have HBi := hid hb
            have zlt := hz.lt
            have zlt1 := hrow.lt
            have zlt2 := hbox.lt
            by_cases hkm : k < m
            · have hql := clN_lt HUp.out hm1.2 k hk k
              obtain ⟨q, hq⟩ : ∃ q, clN (ls.map prOf) m k k = q := ⟨_, rfl⟩
              have HIn : Hid (Ints wr (.slice (some ⟨w.heap.size + 1, 0, none⟩) m m) (mkL m (clN (ls.map prOf) m k))) := hid (by
                have := Blk.ints (c := m) (xs := mkL m (clN (ls.map prOf) m k)) hrow
                rw [mkL_length] at this
                exact this)
              have HUn := hid (fun W (hW : Below wr.heap.size wr W) => under_any (.slice (some ⟨w.heap.size + 1, 0, none⟩) m m) (mkL m (clN (ls.map prOf) m k)) q W (HIn.out.below hW) (by rw [mkL_length]; omega) (by omega) (clN_small HUp.out hm1.2 k hk q))
              have hcl := clN_lt HUp.out hm1.2 (k + 1) hkm k
              have Hcl : Hid (clN (ls.map prOf) m (k + 1) k = q ||| under (mkL m (clN (ls.map prOf) m k)) q) := hid (by rw [clN, if_pos rfl, hq])
              obtain ⟨uu, hu⟩ : ∃ uu, under (mkL m (clN (ls.map prOf) m k)) q = uu := ⟨_, rfl⟩
              rw [hu] at HUn Hcl
              have huu : uu < 1024 := by
                have h1 : uu ≤ q ||| uu := Nat.right_le_or
                have h2 := Hcl.out
                omega
              rw [hq] at hql
              have hct : wr.cell? ⟨w.heap.size + 1, k, none⟩ = some (.int .i64 (q : Nat)) := by
                rw [hrow.cell, Vals_get (by rw [mkL_length]; exact hkm), mkL_getD hkm, hq]
              have hft := hrow.frozen k
              have hbx := hbox.cell 0
              have HCt := hid hct
              have HBx := hid hbx
              have hor := i64_or_nat q uu (by omega) (by omega)
              have hkz : (k : Int) < m := by omega
              clear hq hu hz hrow hbox hb hcl
              go_wp2_with fail
              go_region_with (first | (go_at_call 149; refine (HUn.out _ (Below.refl _ wr).drew).mono ?_; rintro e' w3 ⟨rfl, hb3⟩; have H3 := hid (below_to (Below.refl _ wr).drew hb3); have HR3 := hid (HRowi.out.below H3.out zlt1); have hct3 := (HR3.out.cell k).trans ((HRowi.out.cell k).symm.trans HCt.out); have hft3 := HR3.out.frozen k; have hbx3 := ((HBoxi.out.below H3.out zlt2).cell 0); clear hb3))
              all_goals clear hct hbx hct3 hbx3 hft
              all_goals go_wp2
              all_goals go_roundw
              all_goals first
                | (refine ⟨k + 1, by omega, by go_num, (HZi.out.below H3.out zlt).far (p := ⟨w.heap.size + 1, k, none⟩) (by show w.heap.size ≠ w.heap.size + 1; omega) _, ?_, (HBoxi.out.below H3.out zlt2).far (p := ⟨w.heap.size + 1, k, none⟩) (by show w.heap.size + 2 ≠ w.heap.size + 1; omega) _, (below_to HBi.out H3.out).setCell (p := ⟨w.heap.size + 1, k, none⟩) (by show w.heap.size ≤ w.heap.size + 1; omega) _⟩; rw [mkL_congr (h := fun i => if i = k then q ||| uu else clN (ls.map prOf) m k i) (fun i _ => by by_cases e : i = k; (subst e; rw [Hcl.out, if_pos rfl]); (rw [clN, if_neg e, if_neg e])), ← mkL_set _ hkm, ← Vals_set]; exact HR3.out.set_ k _)
                | (simp [intOf]; omega)
            · obtain rfl : k = m := by omega
              have HOw := hid (HRowi.out.own (xs := mkL k (clN (ls.map prOf) k k)) (B := w.heap.size) (by omega) (by rw [mkL_length]; omega))
              rw [mkL_length] at HOw
              have t3 := hbox.cell 0
              have z1 := hz.cell 0
              have z2 := hz.frozen 0
              clear hz hrow hbox hb
              go_wp2
              refine bodyPost_ret (v := .tuple #[.agg #[.slice (some ⟨w.heap.size + 1, 0, none⟩) k k], .bool true]) (by simp [results, Tryz.results158, go_sem, z1]) rfl ⟨_, by rw [HF.out], ?_, HL.out, ?_⟩
              · rw [fcL_yes HF.out, ← clN_full HUp.out]
                exact HOw.out.grown (grown_setCell (World.grownBy.refl _ _) 0 _) (.inr (by simp [Value.ownBlock]))
              · exact HBi.out.setCell (p := ⟨w.heap.size, 0, none⟩) (Nat.le_refl _) _
end Go.Proofs.YtbmhaamenjhjfaaGreatDoor
namespace Go.Proofs.YtbmhaamenjhjfaaGreatDoor
set_option linter.unusedVariables false
def NoDv (p n : Nat) : Prop := ∀ q, 2 ≤ q → q < p → ¬ n % q = 0
theorem NoDv.le {p n : Nat} (h : NoDv p n) (hn : ¬ n ≤ 1) : p ≤ n := by
  rcases Nat.lt_or_ge n p with hlt | hge
  · exact absurd (Nat.mod_self n) (h n (by omega) hlt)
  · exact hge
theorem NoDv.no {p n : Nat} (h : NoDv p n) (k : ¬ n % p = 0) : NoDv (p + 1) n := fun q h1 h2 => by
  by_cases e : q = p
  · subst e; exact k
  · exact h q h1 (by omega)
end Go.Proofs.YtbmhaamenjhjfaaGreatDoor
namespace Go.Proofs.YtbmhaamenjhjfaaGreatDoor
open Go.RowKit Go.WideShapes Go.ChangeShapes
set_option linter.unusedVariables false
theorem rank_small {xs : List Int} (hg : good xs = true) : ∀ i, i < (rankL xs).length → ∃ r : Nat, (rankL xs).getD i 0 = (r : Int) ∧ r < 1024 := by
  intro i hi
  rw [rankL_length] at hi
  obtain ⟨r, h1, _, h2, _⟩ := rank_facts hg hi
  exact ⟨r, h1, h2⟩
theorem step_SR (v u : Value) (xs ys : List Int) (w0 : World) (b s : Nat) (W : World) (hv : Ints w0 v xs) (hu : Ints W u ys) (hg : good xs = true) (hs : s < 2 ^ xs.length) (hy : inW xs.length ys = true) (hm : ys.length ≤ 1048576) (hS : SR w0 b v W) :
    Calls Tryz.prog 201 #[u, .agg #[v], .int .i64 s] W fun r w' => r = .returned (.int .i64 (togW xs s ys : Nat)) ∧ SR w0 b v w' :=
  (step_any v u xs ys s W (hv.below hS.below) hu hg hs hy hm).mono fun _ _ ⟨h1, h2⟩ => ⟨h1, hS.to h2⟩
theorem sTVac_any (v : Value) (rs : List Int) (h : Nat) (w : World) (hv : Ints w v rs) (hn : rs.length = h + 1) (h9 : h ≤ 9) (hr : ∀ i, i < rs.length → ∃ r : Nat, rs.getD i 0 = (r : Int) ∧ r < 1024) :
    Calls Tryz.prog 205 #[v, (.func (.func 172) #[] #[])] w fun (r : Ending) w' => ∃ q, r = Ending.returned q ∧ OwnI 3 w' w.heap.size q (rkW rs (wVac h)) ∧ Below w.heap.size w w' := by
  have HR := hid hr
  have HV := hid hv
  have HN := hid hn
  obtain ⟨A, c, rfl, -⟩ := hv
  rw [hn] at HV ⊢
  clear hr hn
  go_enter Tryz.func205, Tryz.ntmps205
  go_wp2_with fail
  refine (swVac_any h _ h9).mono ?_
  rintro e w1 ⟨a, rfl, ha, hb⟩
  have HA := hid ha
  have HB := hid hb
  clear ha hb
  go_wp2_with fail
  refine (wordVac_any a h _ HA.out h9).mono ?_
  rintro e w2 ⟨u, rfl, ho, hb⟩
  have HU := hid ho.ints
  have HB2 := hid (below_to HB.out hb)
  clear ho hb
  go_wp2_with fail
  refine (togglesAt_any _ _ rs (wVac h) _ (HV.out.below HB2.out) HU.out (by rw [HN.out]; exact inW_wVac (by omega)) (wVac_length h9) (by rw [HN.out]; omega) HR.out).mono ?_
  rintro e w3 ⟨q, rfl, ho, hb⟩
  have HO := hid ho
  have HB3 := hid (below_to HB2.out hb)
  have hz := HB2.out.size
  clear ho hb
  go_wp2
  go_ret
  exact ⟨_, rfl, HO.out.mono hz, HB3.out⟩
theorem sTVac_SR (v : Value) (rs : List Int) (h : Nat) (w0 : World) (b : Nat) (W : World) (hv : Ints w0 v rs) (hn : rs.length = h + 1) (h9 : h ≤ 9) (hr : ∀ i, i < rs.length → ∃ r : Nat, rs.getD i 0 = (r : Int) ∧ r < 1024) (vp : Value) (hS : SR w0 b vp W) :
    Calls Tryz.prog 205 #[v, (.func (.func 172) #[] #[])] W fun (r : Ending) w' => ∃ q, r = Ending.returned q ∧ Ints w' q (rkW rs (wVac h)) ∧ SR w0 b vp w' :=
  (sTVac_any v rs h W (hv.below hS.below) hn h9 hr).mono fun _ _ ⟨q, h1, h2, h3⟩ => ⟨q, h1, h2.ints, hS.to h3⟩
set_option maxHeartbeats 1600000 in
theorem sweptVac_any (v : Value) (xs : List Int) (s : Int) (w : World) (hv : Ints w v xs) (hl : xs.length ≤ 1048576) (wf : (Lit.int .i64 s).wf = true) :
    Calls Tryz.prog 171 #[.agg #[v], .int .i64 s, (.func (.func 172) #[] #[])] w fun r w' => r = .returned (.tuple #[.int .i64 (ansSW wVac xs s), .bool (okRI xs s)]) ∧ Below w.heap.size w w' := by
  have HV := hid hv
  clear hv wf
  go_enter Tryz.func171, Tryz.ntmps171
  have HB := hid (below_alloc (Below.refl _ w) (.cells #[v] 28))
  have A0 := hid (At.newAt w v 28 w.heap.size (by simp))
  go_wp2_with fail
  refine (implRanksOf_any _ xs _ (HV.out.below HB.out) hl).mono ?_
  rintro e w' ⟨q, rfl, ho, -, hb⟩
  replace HB := hid (below_to HB.out hb)
  replace A0 := hid (A0.out.below hb)
  clear hb
  cases hk : okRk xs
  · have HO := hid (okRI_no (s := s) hk)
    clear hk
    obtain ⟨qA, qn, qc, rfl⟩ := ho.shape3
    clear ho
    have ebox0 := A0.out.1
    go_wp2
    go_ret2
    exact ⟨ret_ib (ansSW_no HO.out).symm HO.out.symm, HB.out⟩
  · have HK := hid hk
    rw [ansRO_yes hk] at ho
    obtain ⟨hg, hr⟩ := okRk_good hk
    obtain ⟨h, hh, h9⟩ := rkN_some hg
    have HQ := hid ho.ints
    have HG := hid hg
    have HH := hid hh
    clear hk ho hg hr hh
    have ebox0 := A0.out.1
    go_wp2_with fail
    clear ebox0
    refine (hasIdeal_any _ xs s _ (HV.out.below HB.out) hl).mono ?_
    rintro e w' ⟨rfl, hb⟩
    replace HB := hid (below_to HB.out hb)
    replace A0 := hid (A0.out.below hb)
    replace HQ := hid (HQ.out.below hb)
    clear hb
    cases hi : okIdeal xs s
    · have HO : Hid (okRI xs s = false) := hid (by rw [okRI_yes HK.out]; exact hi)
      clear hi
      have ebox0 := A0.out.1
      go_wp2
      go_ret2
      exact ⟨ret_ib (ansSW_no HO.out).symm HO.out.symm, HB.out⟩
    · have HO : Hid (okRI xs s = true) := hid (by rw [okRI_yes HK.out]; exact hi)
      obtain ⟨z, rfl, _, hz, _⟩ := okIdeal_all hi
      have HZ := hid hz
      have HAn := hid (ansSW_yes (f := wVac) HO.out HH.out)
      have HEl := hid (inW_rkW HG.out (show inW (rkN xs) (wVac h) = true from inW_wVac (by rw [HH.out]; omega)))
      have HLn := hid (rkW_length (rankL xs) (wVac h))
      have HLw := hid (wVac_length h9)
      have HSm := hid (rank_small HG.out)
      have HRl : Hid ((rankL xs).length = h + 1) := hid (by rw [rankL_length, HH.out])
      have HV1 := hid (HV.out.below HB.out)
      have HS := hid (show SR w' w.heap.size v w' from ⟨A0.out, Below.refl _ _⟩)
      have hbx := A0.out.1
      clear hi hz
      go_wp2_with fail
      go_region_held3 (fun W => W.cell? ⟨w.heap.size, 0, none⟩ = some v ∧ Hid (SR w' w.heap.size v W)) (first | exact ⟨HS3.out.at_.1, HS3⟩ | exact ⟨HS2.out.at_.1, HS2⟩ | exact ⟨HS.out.drew.at_.1, hid HS.out.drew⟩) (first | (go_at_call 205; refine (sTVac_SR _ (rankL xs) h w' w.heap.size _ HQ.out HRl.out h9 HSm.out v (Hid.out (by first | assumption | exact hid HS.out.drew))).mono ?_; rintro e' w4 ⟨q4, rfl, hu4, hs4⟩; have HU4 := hid hu4; have HS2 := hid hs4; clear hu4 hs4) | (go_at_call 201; refine (step_SR v _ xs _ w' w.heap.size z _ HV1.out HU4.out HG.out HZ.out HEl.out (by have := HLn.out; have := HLw.out; omega) HS2.out).mono ?_; rintro e' w5 ⟨rfl, hs5⟩; have HS3 := hid hs5; clear hs5))
      have HB3 := hid (below_to HB.out HS3.out.below)
      clear hbx
      go_wp2
      go_ret2
      exact ⟨ret_ib HAn.out.symm HO.out.symm, HB3.out⟩
theorem implRowvacuation_any (v : Value) (xs : List Int) (s : Int) (w : World) (hv : Ints w v xs) (hl : xs.length ≤ 1048576) (wf : (Lit.int .i64 s).wf = true) :
    Calls Tryz.prog 112 #[.agg #[v], .int .i64 s] w fun r w' => r = .returned (.tuple #[.int .i64 (ansSW wVac xs s), .bool (okRI xs s)]) ∧ Below w.heap.size w w' := by
  have HV := hid hv
  have WF := hid wf
  clear hv wf
  go_enter Tryz.func112, Tryz.ntmps112
  have HB := hid (below_alloc (Below.refl _ w) (.cells #[v] 28))
  have A0 := hid (At.newAt w v 28 w.heap.size (by simp))
  go_wp2_with fail
  refine (sweptVac_any _ xs s _ (HV.out.below HB.out) hl WF.out).mono ?_
  rintro e w' ⟨rfl, hb⟩
  replace HB := hid (below_to HB.out hb)
  replace A0 := hid (A0.out.below hb)
  clear hb
  have ebox0 := A0.out.1
  go_wp2
  go_ret2
  exact ⟨rfl, HB.out⟩
theorem sTGyr_any (v : Value) (rs : List Int) (h : Nat) (w : World) (hv : Ints w v rs) (hn : rs.length = h + 1) (h9 : h ≤ 9) (hr : ∀ i, i < rs.length → ∃ r : Nat, rs.getD i 0 = (r : Int) ∧ r < 1024) :
    Calls Tryz.prog 205 #[v, (.func (.func 173) #[] #[])] w fun (r : Ending) w' => ∃ q, r = Ending.returned q ∧ OwnI 3 w' w.heap.size q (rkW rs (wGyr h)) ∧ Below w.heap.size w w' := by
  have HR := hid hr
  have HV := hid hv
  have HN := hid hn
  obtain ⟨A, c, rfl, -⟩ := hv
  rw [hn] at HV ⊢
  clear hr hn
  go_enter Tryz.func205, Tryz.ntmps205
  go_wp2_with fail
  refine (swGyr_any h _ h9).mono ?_
  rintro e w1 ⟨a, rfl, ha, hb⟩
  have HA := hid ha
  have HB := hid hb
  clear ha hb
  go_wp2_with fail
  refine (wordGyr_any a h _ HA.out h9).mono ?_
  rintro e w2 ⟨u, rfl, ho, hb⟩
  have HU := hid ho.ints
  have HB2 := hid (below_to HB.out hb)
  clear ho hb
  go_wp2_with fail
  refine (togglesAt_any _ _ rs (wGyr h) _ (HV.out.below HB2.out) HU.out (by rw [HN.out]; exact inW_wGyr (by omega)) (wGyr_length h9) (by rw [HN.out]; omega) HR.out).mono ?_
  rintro e w3 ⟨q, rfl, ho, hb⟩
  have HO := hid ho
  have HB3 := hid (below_to HB2.out hb)
  have hz := HB2.out.size
  clear ho hb
  go_wp2
  go_ret
  exact ⟨_, rfl, HO.out.mono hz, HB3.out⟩
theorem sTGyr_SR (v : Value) (rs : List Int) (h : Nat) (w0 : World) (b : Nat) (W : World) (hv : Ints w0 v rs) (hn : rs.length = h + 1) (h9 : h ≤ 9) (hr : ∀ i, i < rs.length → ∃ r : Nat, rs.getD i 0 = (r : Int) ∧ r < 1024) (vp : Value) (hS : SR w0 b vp W) :
    Calls Tryz.prog 205 #[v, (.func (.func 173) #[] #[])] W fun (r : Ending) w' => ∃ q, r = Ending.returned q ∧ Ints w' q (rkW rs (wGyr h)) ∧ SR w0 b vp w' :=
  (sTGyr_any v rs h W (hv.below hS.below) hn h9 hr).mono fun _ _ ⟨q, h1, h2, h3⟩ => ⟨q, h1, h2.ints, hS.to h3⟩
set_option maxHeartbeats 1600000 in
theorem sweptGyr_any (v : Value) (xs : List Int) (s : Int) (w : World) (hv : Ints w v xs) (hl : xs.length ≤ 1048576) (wf : (Lit.int .i64 s).wf = true) :
    Calls Tryz.prog 171 #[.agg #[v], .int .i64 s, (.func (.func 173) #[] #[])] w fun r w' => r = .returned (.tuple #[.int .i64 (ansSW wGyr xs s), .bool (okRI xs s)]) ∧ Below w.heap.size w w' := by
  have HV := hid hv
  clear hv wf
  go_enter Tryz.func171, Tryz.ntmps171
  have HB := hid (below_alloc (Below.refl _ w) (.cells #[v] 28))
  have A0 := hid (At.newAt w v 28 w.heap.size (by simp))
  go_wp2_with fail
  refine (implRanksOf_any _ xs _ (HV.out.below HB.out) hl).mono ?_
  rintro e w' ⟨q, rfl, ho, -, hb⟩
  replace HB := hid (below_to HB.out hb)
  replace A0 := hid (A0.out.below hb)
  clear hb
  cases hk : okRk xs
  · have HO := hid (okRI_no (s := s) hk)
    clear hk
    obtain ⟨qA, qn, qc, rfl⟩ := ho.shape3
    clear ho
    have ebox0 := A0.out.1
    go_wp2
    go_ret2
    exact ⟨ret_ib (ansSW_no HO.out).symm HO.out.symm, HB.out⟩
  · have HK := hid hk
    rw [ansRO_yes hk] at ho
    obtain ⟨hg, hr⟩ := okRk_good hk
    obtain ⟨h, hh, h9⟩ := rkN_some hg
    have HQ := hid ho.ints
    have HG := hid hg
    have HH := hid hh
    clear hk ho hg hr hh
    have ebox0 := A0.out.1
    go_wp2_with fail
    clear ebox0
    refine (hasIdeal_any _ xs s _ (HV.out.below HB.out) hl).mono ?_
    rintro e w' ⟨rfl, hb⟩
    replace HB := hid (below_to HB.out hb)
    replace A0 := hid (A0.out.below hb)
    replace HQ := hid (HQ.out.below hb)
    clear hb
    cases hi : okIdeal xs s
    · have HO : Hid (okRI xs s = false) := hid (by rw [okRI_yes HK.out]; exact hi)
      clear hi
      have ebox0 := A0.out.1
      go_wp2
      go_ret2
      exact ⟨ret_ib (ansSW_no HO.out).symm HO.out.symm, HB.out⟩
    · have HO : Hid (okRI xs s = true) := hid (by rw [okRI_yes HK.out]; exact hi)
      obtain ⟨z, rfl, _, hz, _⟩ := okIdeal_all hi
      have HZ := hid hz
      have HAn := hid (ansSW_yes (f := wGyr) HO.out HH.out)
      have HEl := hid (inW_rkW HG.out (show inW (rkN xs) (wGyr h) = true from inW_wGyr (by rw [HH.out]; omega)))
      have HLn := hid (rkW_length (rankL xs) (wGyr h))
      have HLw := hid (wGyr_length h9)
      have HSm := hid (rank_small HG.out)
      have HRl : Hid ((rankL xs).length = h + 1) := hid (by rw [rankL_length, HH.out])
      have HV1 := hid (HV.out.below HB.out)
      have HS := hid (show SR w' w.heap.size v w' from ⟨A0.out, Below.refl _ _⟩)
      have hbx := A0.out.1
      clear hi hz
      go_wp2_with fail
      go_region_held3 (fun W => W.cell? ⟨w.heap.size, 0, none⟩ = some v ∧ Hid (SR w' w.heap.size v W)) (first | exact ⟨HS3.out.at_.1, HS3⟩ | exact ⟨HS2.out.at_.1, HS2⟩ | exact ⟨HS.out.drew.at_.1, hid HS.out.drew⟩) (first | (go_at_call 205; refine (sTGyr_SR _ (rankL xs) h w' w.heap.size _ HQ.out HRl.out h9 HSm.out v (Hid.out (by first | assumption | exact hid HS.out.drew))).mono ?_; rintro e' w4 ⟨q4, rfl, hu4, hs4⟩; have HU4 := hid hu4; have HS2 := hid hs4; clear hu4 hs4) | (go_at_call 201; refine (step_SR v _ xs _ w' w.heap.size z _ HV1.out HU4.out HG.out HZ.out HEl.out (by have := HLn.out; have := HLw.out; omega) HS2.out).mono ?_; rintro e' w5 ⟨rfl, hs5⟩; have HS3 := hid hs5; clear hs5))
      have HB3 := hid (below_to HB.out HS3.out.below)
      clear hbx
      go_wp2
      go_ret2
      exact ⟨ret_ib HAn.out.symm HO.out.symm, HB3.out⟩
theorem implGyrateIdeal_any (v : Value) (xs : List Int) (s : Int) (w : World) (hv : Ints w v xs) (hl : xs.length ≤ 1048576) (wf : (Lit.int .i64 s).wf = true) :
    Calls Tryz.prog 113 #[.agg #[v], .int .i64 s] w fun r w' => r = .returned (.tuple #[.int .i64 (ansSW wGyr xs s), .bool (okRI xs s)]) ∧ Below w.heap.size w w' := by
  have HV := hid hv
  have WF := hid wf
  clear hv wf
  go_enter Tryz.func113, Tryz.ntmps113
  have HB := hid (below_alloc (Below.refl _ w) (.cells #[v] 28))
  have A0 := hid (At.newAt w v 28 w.heap.size (by simp))
  go_wp2_with fail
  refine (sweptGyr_any _ xs s _ (HV.out.below HB.out) hl WF.out).mono ?_
  rintro e w' ⟨rfl, hb⟩
  replace HB := hid (below_to HB.out hb)
  replace A0 := hid (A0.out.below hb)
  clear hb
  have ebox0 := A0.out.1
  go_wp2
  go_ret2
  exact ⟨rfl, HB.out⟩
end Go.Proofs.YtbmhaamenjhjfaaGreatDoor
namespace Go.Proofs.YtbmhaamenjhjfaaGreatDoor
open Go.RowKit Go.WideShapes Go.ChangeShapes
set_option linter.unusedVariables false
set_option maxHeartbeats 3200000 in
theorem rvGyrate_any (v : Value) (xs : List Int) (s : Nat) (bk : Bool) (w : World) (hv : Ints w v xs) (hg : good xs = true) (hs : s < 2 ^ xs.length) :
    Calls Tryz.prog 143 #[.agg #[v], .int .i64 s, .bool bk] w fun r w' => r = .returned (.int .i64 ((if bk then gyB xs s else gyF xs s : Nat))) ∧ Below w.heap.size w w' := by
  have HV := hid hv
  have HG := hid hg
  have HZ := hid hs
  obtain ⟨h, hh, h9⟩ := rkN_some hg
  have HH := hid hh
  have HRl : Hid ((rankL xs).length = h + 1) := hid (by rw [rankL_length, hh])
  have HRg : Hid (∀ i, i < h + 1 → (rankL xs).getD i 0 = ((rkE (heightsL xs) xs.length i : Nat) : Int)) := hid fun i hi => rankL_get (by omega)
  have h10 := (good_length hg).2
  have HE10 : Hid (∀ i, rkE (heightsL xs) xs.length i < 1024) := hid fun i => lt1024 (rkE_lt _ (Nat.le_refl _) i) h10
  have HK10 : Hid (∀ p k, evK xs p k < 1024) := hid fun p k => lt1024 (evK_lt xs p k) h10
  have HT : Hid (∀ t p, t < 2 ^ xs.length → togW xs t (elL xs.length (evN xs p)) < 2 ^ xs.length) := hid fun t p ht => togW_lt ht (ev_in p)
  clear hv hg hs
  go_enter Tryz.func143, Tryz.ntmps143
  have HB := hid (below_alloc (Below.refl _ w) (.cells #[v] 28))
  have A0 := hid (At.newAt w v 28 w.heap.size (by simp))
  go_wp2_with fail
  refine (rvRanks_any _ xs _ (HV.out.below HB.out) HG.out).mono ?_
  rintro e w' ⟨q, rfl, ho, hb⟩
  replace HB := hid (below_to HB.out hb)
  replace A0 := hid (A0.out.below hb)
  clear hb
  have HI := hid ho.ints
  have HEv : Hid (∀ p, evK xs p (h + 1) = evN xs p) := hid fun p => by rw [evN, HH.out]
  obtain ⟨ls, hls⟩ : ∃ ls, rankL xs = ls := ⟨_, rfl⟩
  rw [hls] at HI HRl HRg
  obtain ⟨A, c, rfl, hA⟩ := HI.out
  have HA := hid hA
  rw [HRl.out]
  clear ho HI hA hls hh
  go_wp2
  go_loop [7, 8, 14] (fun e d i => ∃ k : Nat, k ≤ h + 1 ∧ i = .int .i64 k ∧ e = .int .i64 (evK xs 0 k : Nat) ∧ d = .int .i64 (evK xs 1 k : Nat)) (fun _ _ i => h + 1 - (intOf i).toNat)
  case atStart => exact ⟨0, Nat.zero_le _, rfl, rfl, rfl⟩
  case round =>
    obtain ⟨k, hk, rfl, rfl, rfl⟩ := hrel
    by_cases hlt : k < h + 1
    · obtain ⟨b, o, rfl, hbl, hc⟩ := HA.out (by intro hn; have := HRl.out; rw [hn] at this; simp at this)
      have hcell : w'.cell? ⟨b, o + k, none⟩ = some (.int .i64 (rkE (heightsL xs) xs.length k : Nat)) := by rw [hc k (by rw [HRl.out]; exact hlt), HRg.out k hlt]
      have e1 := HE10.out k
      have e2 := HK10.out 0 k
      have e3 := HK10.out 1 k
      have HY0 := hid (fun (q : k % 2 = 0) => evK_yes (xs := xs) q)
      have HY1 := hid (fun (q : k % 2 = 1) => evK_yes (xs := xs) q)
      have HN0 := hid (fun (q : ¬ k % 2 = 0) => evK_no (xs := xs) q)
      have HN1 := hid (fun (q : ¬ k % 2 = 1) => evK_no (xs := xs) q)
      obtain ⟨R, hR⟩ : ∃ R, rkE (heightsL xs) xs.length k = R := ⟨_, rfl⟩
      obtain ⟨E, hE⟩ : ∃ E, evK xs 0 k = E := ⟨_, rfl⟩
      obtain ⟨D, hD⟩ : ∃ D, evK xs 1 k = D := ⟨_, rfl⟩
      rw [hR] at hcell e1 HY0 HY1
      rw [hE] at e2 HY0 HN0 ⊢
      rw [hD] at e3 HY1 HN1 ⊢
      have ho1 := i64_or_nat E R (by omega) (by omega)
      have ho2 := i64_or_nat D R (by omega) (by omega)
      clear hc hR hE hD
      by_cases hp : k % 2 = 0
      · have hq : ((k : Int) % 2 == 0) = true := by rw [show (k : Int) % 2 = 0 by omega]; rfl
        have HP := hid hp
        clear hp
        go_wp2
        go_round
        case rel => exact ⟨k + 1, by omega, by go_num, by rw [HY0.out HP.out], by rw [HN1.out (by rw [HP.out]; decide)]⟩
        case measure => simp [intOf] <;> omega
      · have hq : ((k : Int) % 2 == 0) = false := by rw [beq_eq_false_iff_ne]; omega
        have HP : Hid (k % 2 = 1) := hid (by omega)
        clear hp
        go_wp2
        go_round
        case rel => exact ⟨k + 1, by omega, by go_num, by rw [HN0.out (by rw [HP.out]; decide)], by rw [HY1.out HP.out]⟩
        case measure => simp [intOf] <;> omega
    · obtain rfl : k = h + 1 := by omega
      rw [HEv.out 0, HEv.out 1]
      have e2 : evN xs 0 < 1024 := by rw [← HEv.out]; exact HK10.out 0 _
      have e3 : evN xs 1 < 1024 := by rw [← HEv.out]; exact HK10.out 1 _
      have hz0 := HZ.out
      have HFd : Hid (gyF xs s = togW xs (togW xs s (elL xs.length (evN xs 0))) (elL xs.length (evN xs 1))) := hid rfl
      have HBd : Hid (gyB xs s = togW xs (togW xs s (elL xs.length (evN xs 1))) (elL xs.length (evN xs 0))) := hid rfl
      have hz1 := HT.out s 0 hz0
      have hz2 := HT.out s 1 hz0
      have HV1 := hid (HV.out.below HB.out)
      have HS := hid (show SR w' w.heap.size v w' from ⟨A0.out, Below.refl _ _⟩)
      have hbx := A0.out.1
      cases bk
      · go_wp2_with fail
        go_region_held3 (fun W => W.cell? ⟨w.heap.size, 0, none⟩ = some v ∧ Hid (SR w' w.heap.size v W)) (first | exact ⟨HS2.out.at_.1, HS2⟩ | exact ⟨HS.out.drew.at_.1, hid HS.out.drew⟩) (first | (go_at_call 188; refine (rvAt_SR v xs w' w.heap.size _ _ _ HV1.out HG.out (Hid.out (by first | assumption | exact hid HS.out.drew)) (by assumption) (by assumption)).mono ?_; rintro e' w4 ⟨rfl, hs4⟩; have HS2 := hid hs4; clear hs4))
        have HB3 := hid (below_to HB.out HS2.out.below)
        clear hbx
        go_wp2
        go_ret
        exact ⟨ret_int (by rw [← HFd.out]), HB3.out⟩
      · go_wp2_with fail
        go_region_held3 (fun W => W.cell? ⟨w.heap.size, 0, none⟩ = some v ∧ Hid (SR w' w.heap.size v W)) (first | exact ⟨HS2.out.at_.1, HS2⟩ | exact ⟨HS.out.drew.at_.1, hid HS.out.drew⟩) (first | (go_at_call 188; refine (rvAt_SR v xs w' w.heap.size _ _ _ HV1.out HG.out (Hid.out (by first | assumption | exact hid HS.out.drew)) (by assumption) (by assumption)).mono ?_; rintro e' w4 ⟨rfl, hs4⟩; have HS2 := hid hs4; clear hs4))
        have HB3 := hid (below_to HB.out HS2.out.below)
        clear hbx
        go_wp2
        go_ret
        exact ⟨ret_int (by rw [← HBd.out]), HB3.out⟩
theorem specGyrateIdeal_any (v : Value) (xs : List Int) (s : Int) (w : World) (hv : Ints w v xs) (hl : xs.length ≤ 1048576) (wf : (Lit.int .i64 s).wf = true) :
    Calls Tryz.prog 84 #[.agg #[v], .int .i64 s] w fun r w' => r = .returned (.tuple #[.int .i64 (ansSW wGyr xs s), .bool (okRI xs s)]) ∧ Below w.heap.size w w' := by
  have HV := hid hv
  clear hv wf
  go_enter Tryz.func84, Tryz.ntmps84
  have HB := hid (below_alloc (Below.refl _ w) (.cells #[v] 28))
  have A0 := hid (At.newAt w v 28 w.heap.size (by simp))
  go_wp2_with fail
  refine (rvIn_any _ xs s _ (HV.out.below HB.out) hl).mono ?_
  rintro e w' ⟨rfl, hb⟩
  replace HB := hid (below_to HB.out hb)
  replace A0 := hid (A0.out.below hb)
  clear hb
  cases hq : okRI xs s
  · have HO := hid hq
    clear hq
    have ebox0 := A0.out.1
    go_wp2
    go_ret2
    exact ⟨ret_ib (ansSW_no HO.out).symm HO.out.symm, HB.out⟩
  · have HO := hid hq
    obtain ⟨z, rfl, hg, hr, hz, hi⟩ := okRI_all hq
    obtain ⟨h, hh, h9⟩ := rkN_some hg
    have HAn : Hid (ansSW wGyr xs z = ((gyF xs z : Nat) : Int)) := hid ((ansSW_yes (f := wGyr) hq hh).trans (by rw [gyF_word hg hr hh hi]))
    have HG := hid hg
    have HZ := hid hz
    clear hq hg hr hz hi hh
    have ebox0 := A0.out.1
    go_wp2_with fail
    clear ebox0
    refine (rvGyrate_any _ xs z false _ (HV.out.below HB.out) HG.out HZ.out).mono ?_
    rintro e w' ⟨rfl, hb⟩
    replace HB := hid (below_to HB.out hb)
    replace A0 := hid (A0.out.below hb)
    clear hb
    have ebox0 := A0.out.1
    go_wp2
    go_ret2
    exact ⟨ret_ib HAn.out.symm HO.out.symm, HB.out⟩
end Go.Proofs.YtbmhaamenjhjfaaGreatDoor
