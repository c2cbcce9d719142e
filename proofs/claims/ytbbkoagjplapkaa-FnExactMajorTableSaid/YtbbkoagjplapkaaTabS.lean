/- Tableaux in the model: are rows one. -/
import Derived.Test.YtbbkoagjplapkaaTab
import Derived.Test.YtbbkoagjplapkaaNest
import Derived.Test.YtbbkoagjplapkaaTg
namespace Go.Proofs.Ytbbkoagjplapkaa
open Go.RowKit Go.WideShapes Go.ChangeShapes
set_option linter.unusedVariables false

theorem shSides_any (a b : Int) (w : World) :
    Calls Try.prog 51 #[.int .i64 a, .int .i64 b] w fun r w' => r = .returned (.bool (sides a b)) ∧ w = w' := by
  cases ha : (decide (1 ≤ a) && decide (a ≤ 10))
  · have Ha := hid ha
    have H : Hid (sides a b = false) := hid (by simp only [sides, ha, Bool.false_and])
    clear ha
    go_enter Try.func51, Try.ntmps51
    go_wp2_with (go_at_call 61; refine (l1In_any _ _ _ _).mono ?_; rw [Ha.out]; rintro e w' ⟨rfl, rfl⟩)
    go_ret
    exact ⟨ret_bool H.out.symm, rfl⟩
  · cases hb : (decide (1 ≤ b) && decide (b ≤ 10))
    · have Ha := hid ha
      have Hb := hid hb
      have H : Hid (sides a b = false) := hid (by simp only [sides, ha, hb, Bool.false_and, Bool.and_false])
      clear ha hb
      go_enter Try.func51, Try.ntmps51
      go_wp2_with fail
      refine (l1In_any _ _ _ _).mono ?_
      rw [Ha.out]
      rintro e w' ⟨rfl, rfl⟩
      go_wp2_with fail
      refine (l1In_any _ _ _ _).mono ?_
      rw [Hb.out]
      rintro e w' ⟨rfl, rfl⟩
      go_wp2
      go_ret
      exact ⟨ret_bool H.out.symm, rfl⟩
    · have Ha := hid ha
      have Hb := hid hb
      have H : Hid (sides a b = decide (a * b ≤ 10)) := hid (by simp only [sides, ha, hb, Bool.true_and])
      simp only [Bool.and_eq_true, decide_eq_true_eq] at ha hb
      have hm : 0 ≤ a * b ∧ a * b ≤ 100 := by
        obtain ⟨x, rfl⟩ := Int.eq_ofNat_of_zero_le (by omega : 0 ≤ a)
        obtain ⟨y, rfl⟩ := Int.eq_ofNat_of_zero_le (by omega : 0 ≤ b)
        have : x * y ≤ 10 * 10 := Nat.mul_le_mul (by omega) (by omega)
        rw [← Int.natCast_mul]
        omega
      obtain ⟨hm1, hm2⟩ := hm
      obtain ⟨q, hq⟩ : ∃ q, a * b = q := ⟨_, rfl⟩
      rw [hq] at hm1 hm2 H
      clear ha hb
      go_enter Try.func51, Try.ntmps51
      go_wp2_with fail
      refine (l1In_any _ _ _ _).mono ?_
      rw [Ha.out]
      rintro e w' ⟨rfl, rfl⟩
      go_wp2_with fail
      refine (l1In_any _ _ _ _).mono ?_
      rw [Hb.out]
      rintro e w' ⟨rfl, rfl⟩
      go_wp2
      go_ret
      exact ⟨ret_bool H.out.symm, rfl⟩

theorem tabB_row {ls : List (List Int)} {r : Nat} (hr : r < ls.length) (hn : inW (ls.length * wid ls) (ls.getD r []) = false) : tabB ls = false := by
  cases ht : tabB ls
  · rfl
  · obtain ⟨hL, hX⟩ := tabB_all ht
    have : inW (ls.length * wid ls) (ls.getD r []) = true := inW_of fun j hj => by
      rw [hL.row r hr] at hj
      have h1 := hX.rng (wid ls * r + j) (cell_lt hr hj)
      rw [celF_at ls hj] at h1
      exact h1
    rw [this] at hn; cases hn
theorem tabB_cell {ls : List (List Int)} {e : Nat} (he : e < ls.length * wid ls) (hn : chkF (wid ls) (celF ls (wid ls)) e = false) : tabB ls = false := by
  cases h : shapeB ls
  · exact tabB_no1 h
  · rw [tabB_yes h]; exact tabF_no2 (shapeB_L h).b1 he hn
theorem tabB_full {ls : List (List Int)} (h : shapeB ls = true) (hf : ∀ e, e < ls.length * wid ls → (0 ≤ celF ls (wid ls) e ∧ celF ls (wid ls) e < (ls.length * wid ls : Nat)) ∧ chkF (wid ls) (celF ls (wid ls)) e = true) : tabB ls = true := by
  rw [tabB_yes h]; exact tabF_yes (shapeB_L h).b1 (fun e he => (hf e he).1) (fun e he => (hf e he).2)
theorem chkF_bit {b e : Nat} {f : Nat → Int} (h : (seeN f e).testBit (f e).toNat = true) : chkF b f e = false := by simp [chkF, h]
theorem chkF_left {b e : Nat} {f : Nat → Int} (h1 : e % b ≠ 0) (h : f e < f (e - 1)) : chkF b f e = false := by
  simp only [chkF, decide_eq_false h1, decide_eq_false (show ¬ f (e - 1) ≤ f e by omega)]; simp
theorem chkF_up {b e : Nat} {f : Nat → Int} (h1 : b ≤ e) (h : f e < f (e - b)) : chkF b f e = false := by
  simp only [chkF, decide_eq_false (show ¬ e < b by omega), decide_eq_false (show ¬ f (e - b) ≤ f e by omega)]; simp
theorem chkF_yes {b e : Nat} {f : Nat → Int} (h0 : (seeN f e).testBit (f e).toNat = false) (h1 : e % b = 0 ∨ f (e - 1) ≤ f e) (h2 : e < b ∨ f (e - b) ≤ f e) : chkF b f e = true := by
  simp only [chkF, h0, Bool.not_false, Bool.true_and, Bool.and_eq_true, Bool.or_eq_true, decide_eq_true_eq]
  exact ⟨h1, h2⟩
theorem sides_no10 {m : Nat} {b : Int} (h : 10 < m) : sides m b = false := by
  simp only [sides, decide_eq_false (show ¬ (m : Int) ≤ 10 by omega)]; simp
theorem sides_no0 {m : Nat} {b : Int} (h : m = 0) : sides m b = false := by
  subst h; rfl

theorem IntsSS.row0 {w : World} {v : Value} {ls : List (List Int)} (h : IntsSS w v ls) (h0 : 0 < ls.length) : ∃ b o c, v = .slice (some ⟨b, o, none⟩) ls.length c ∧ b < w.heap.size ∧ ∀ r, r < ls.length → ∃ u, w.cell? ⟨b, o + r, none⟩ = some u ∧ Ints w u (ls.getD r []) := by
  obtain ⟨A, c, rfl, h⟩ := h
  obtain ⟨b, o, u, rfl, h1, h2, h3⟩ := h 0 h0
  refine ⟨b, o, c, rfl, h1, fun r hr => ?_⟩
  obtain ⟨b', o', u', e, h1', h2', h3'⟩ := h r hr
  injection e with e
  injection e with e1 e2 e3
  subst e1; subst e2
  exact ⟨u', h2', h3'⟩
set_option maxRecDepth 4000 in
set_option maxHeartbeats 1600000 in
theorem shGood_any (v : Value) (ls : List (List Int)) (w : World) (hv : IntsSS w v ls) (hs : SSmall ls) :
    Calls Try.prog 49 #[v] w fun r w' => r = .returned (.bool (tabB ls)) ∧ w = w' := by
  have HV := hid hv
  obtain ⟨A, c, rfl, -⟩ := hv
  have HR := hid hs.2.1
  have hm := hs.1
  clear hs
  by_cases h0 : ls.length = 0
  · have HN := hid (tabB_no1 (shapeB_no1 (ls := ls) (sides_no0 h0)))
    have h0' : ((ls.length : Int) == 0) = true := by rw [h0]; rfl
    clear h0
    go_enter Try.func49, Try.ntmps49
    go_wp2
    go_ret
    exact ⟨ret_bool HN.out.symm, rfl⟩
  have h0' : ((ls.length : Int) == 0) = false := by rw [beq_eq_false_iff_ne]; omega
  by_cases h10 : 10 < ls.length
  · have HN := hid (tabB_no1 (shapeB_no1 (ls := ls) (sides_no10 h10)))
    have h10' : decide ((10 : Int) < (ls.length : Int)) = true := by simp; omega
    clear h0 h10
    go_enter Try.func49, Try.ntmps49
    go_wp2
    go_ret
    exact ⟨ret_bool HN.out.symm, rfl⟩
  have h10' : decide ((10 : Int) < (ls.length : Int)) = false := by simp; omega
  obtain ⟨ab, ao, c', hsh, hbl, hrow⟩ := HV.out.row0 (by omega)
  injection hsh with hsA hsB hsC
  subst hsA
  subst hsC
  have HRow := hid hrow
  obtain ⟨u, hc, hi⟩ := hrow 0 (by omega)
  obtain ⟨uA, uc, rfl, -⟩ := hi
  have hc0 : w.cell? ⟨ab, ao, none⟩ = some (.slice uA (ls.getD 0 []).length uc) := by simpa using hc
  clear hsB hrow
  have HS := hid (fun W => shSides_any (ls.length : Int) (wid ls : Int) W)
  have HShN := hid (fun h => tabB_no1 (shapeB_no1 (ls := ls) h))
  have HW0 : Hid (wid ls = (ls.getD 0 []).length) := hid rfl
  obtain ⟨bb, hbb⟩ : ∃ x, (ls.getD 0 []).length = x := ⟨_, rfl⟩
  rw [hbb] at hc0 HW0
  rw [HW0.out] at HS HShN
  have HB := hid hbb
  clear hc hbb
  cases hsd : sides (ls.length : Int) (bb : Int)
  · have HN := hid (HShN.out hsd)
    rw [hsd] at HS
    clear hsd h0 h10
    have hlp : (0 : Int) < (ls.length : Int) := by
      have := beq_eq_false_iff_ne.1 h0'
      omega
    go_enter Try.func49, Try.ntmps49
    go_wp2_with (go_at_call 51; refine (HS.out _).mono ?_; rintro e w' ⟨rfl, rfl⟩)
    go_ret
    exact ⟨ret_bool HN.out.symm, rfl⟩
  · obtain ⟨x', y', hx', hy', h1, h2, h3, h4, h5⟩ := sides_nat hsd
    have ex : x' = ls.length := by omega
    obtain rfl : bb = y' := by omega
    subst ex
    have HSd : Hid (sides (ls.length : Int) (wid ls : Int) = true) := hid (by rw [HW0.out]; exact hsd)
    rw [hsd] at HS
    have HSh := hid (shapeB_yes (ls := ls) HSd.out)
    have HSn2 := hid (fun r hr h => tabB_no1 (shapeB_no2 (ls := ls) (r := r) hr h))
    have HRo := hid (fun r hr h => tabB_row (ls := ls) (r := r) hr h)
    have HCe := hid (fun e he h => tabB_cell (ls := ls) (e := e) he h)
    have HFu := hid (fun h => tabB_full (ls := ls) h)
    rw [HW0.out] at HSh HSn2 HRo HCe HFu
    obtain ⟨a, ha⟩ : ∃ a, ls.length = a := ⟨_, rfl⟩
    have HL := hid ha
    rw [ha] at HRow HR HSh HSn2 HRo HCe HFu h0' h10' h1 h2 h5 HS ⊢
    obtain ⟨n, hn⟩ : ∃ n, a * bb = n := ⟨_, rfl⟩
    have HNm := hid hn
    have e1 : (a : Int) * (bb : Int) = (n : Int) := by rw [← Int.natCast_mul, hn]
    rw [hn] at HRo HCe HFu h5
    have hlp : (0 : Int) < (a : Int) := by omega
    have hm' : a ≤ 1048576 := by omega
    clear hsd h0 h10 ha hn hx' hy' hm
    go_enter Try.func49, Try.ntmps49
    go_wp2_with (go_at_call 51; refine (HS.out _).mono ?_; rintro e w' ⟨rfl, rfl⟩)
    go_loop [3, 28] (fun q i => ∃ r sn : Nat, r ≤ a ∧ i = .int .i64 r ∧ q = .int .i64 sn ∧ Hid (sn = seeN (celF ls bb) (bb * r)) ∧ Hid (∀ j, j < r → (ls.getD j []).length = bb) ∧ Hid (∀ e, e < bb * r → (0 ≤ celF ls bb e ∧ celF ls bb e < (n : Nat)) ∧ chkF bb (celF ls bb) e = true)) (fun _ i => a - (intOf i).toNat)
    case atStart => exact ⟨0, 0, Nat.zero_le _, rfl, rfl, hid rfl, hid (fun j hj => absurd hj (Nat.not_lt_zero _)), hid (fun e he => by simp at he)⟩
    case round =>
      obtain ⟨r, sn, hr, rfl, rfl, HSn, Hlen, Hall⟩ := hrel
      by_cases hlt : r < a
      · obtain ⟨u2, hc2, hi2⟩ := HRow.out r hlt
        have HI2 := hid hi2
        have hlr := HR.out r hlt
        obtain ⟨A2, c2, rfl, hA2⟩ := hi2
        have HA2 := hid hA2
        obtain ⟨m, hmm⟩ : ∃ m, (ls.getD r []).length = m := ⟨_, rfl⟩
        rw [hmm] at hc2 HI2 hlr
        have HM := hid hmm
        clear hA2 hmm
        by_cases hmb : m = bb
        · obtain rfl : bb = m := by omega
          have hne : ((bb : Int) != (bb : Int)) = false := by simp
          have HAl := hid (l1All_same _ (ls.getD r []) n w HI2.out (by rw [HM.out]; exact hlr) (by omega))
          cases hq : inW n (ls.getD r [])
          · have HN := hid (HRo.out r hlt hq)
            rw [hq] at HAl
            clear hq
            go_wp2_with (go_at_call 78; refine HAl.out.mono ?_; rintro e' w2 ⟨rfl, rfl⟩)
            go_ret
            exact ⟨ret_bool HN.out.symm, rfl⟩
          · have HQ := hid hq
            rw [hq] at HAl
            obtain ⟨b2, o2, rfl, hb2, hx2⟩ := HA2.out (by intro h; have := HM.out; rw [h] at this; simp at this; omega)
            have HCells := hid (fun c (hc : c < bb) => hx2 c (by rw [HM.out]; exact hc))
            clear hx2
            clear hq
            go_wp2_with (go_at_call 78; refine HAl.out.mono ?_; rintro e' w2 ⟨rfl, rfl⟩)
            clear hne
            go_loop [3, 53] (fun q i => ∃ c sn : Nat, c ≤ bb ∧ i = .int .i64 c ∧ q = .int .i64 sn ∧ Hid (sn = seeN (celF ls bb) (bb * r + c)) ∧ Hid (∀ e, e < bb * r + c → (0 ≤ celF ls bb e ∧ celF ls bb e < (n : Nat)) ∧ chkF bb (celF ls bb) e = true)) (fun _ i => bb - (intOf i).toNat)
            case atStart => exact ⟨0, sn, Nat.zero_le _, rfl, rfl, HSn, Hall⟩
            case round =>
              obtain ⟨c, sn, hc, rfl, rfl, HSn, Hall2⟩ := hrel
              by_cases hcb : c < bb
              · have hcell2 := HCells.out c hcb
                have hyr := inW_at HQ.out (j := c) (by rw [HM.out]; exact hcb)
                have HFx0 : Hid (celF ls bb (bb * r + c) = (ls.getD r []).getD c 0) := hid (celF_at ls hcb)
                obtain ⟨x, hx⟩ : ∃ x, (ls.getD r []).getD c 0 = x := ⟨_, rfl⟩
                rw [hx] at hcell2 hyr HFx0
                obtain ⟨y, rfl⟩ := Int.eq_ofNat_of_zero_le hyr.1
                have HFx := HFx0
                have HyR := hid hyr
                have hy10 : y < 10 := by omega
                have HeN : Hid (bb * r + c < n) := hid (by rw [← HNm.out]; exact cell_lt hlt hcb)
                have hs10 : sn < 1024 := by
                  have h1 := seeN_lt (f := celF ls bb) (n := n) (bb * r + c) (fun e he => (Hall2.out e he).1)
                  rw [← HSn.out] at h1
                  exact Nat.lt_of_lt_of_le h1 (two_pow_le n h5).2
                have wp := wrap_pow' y (by omega)
                have hor := or_pow sn y hs10 (by omega)
                have hcbi : (c : Int) < (bb : Int) := by omega
                clear hx HFx0
                cases hbit : sn.testBit y
                · have HBit := hid hbit
                  have HBf : Hid ((seeN (celF ls bb) (bb * r + c)).testBit (celF ls bb (bb * r + c)).toNat = false) := hid (by rw [HFx.out, ← HSn.out]; exact hbit)
                  by_cases hc0 : c = 0
                  · have hd : decide ((0 : Int) < (c : Int)) = false := by simp; omega
                    have hc0' : ¬ (0 : Int) < (c : Int) := by omega
                    have Hc0 := hid hc0
                    clear hc0
                    by_cases hr0 : r = 0
                    · have hd2 : decide ((0 : Int) < (r : Int)) = false := by simp; omega
                      have hr0' : ¬ (0 : Int) < (r : Int) := by omega
                      have Hr0 := hid hr0
                      clear hr0
                      have HCk := hid (chkF_yes (b := bb) HBf.out (.inl (by rw [Hc0.out, Nat.add_zero, Nat.mul_mod_right])) (.inl (by rw [Hr0.out]; omega)))
                      clear hbit
                      go_wp2_with (go_at_call 81; refine (poIn_any sn y (by omega) _).mono ?_; rw [HBit.out]; rintro e' w2 ⟨rfl, rfl⟩)
                      go_round
                      case rel => exact ⟨c + 1, _, by omega, by go_num, rfl, hid (by rw [← Nat.add_assoc, seeN, HFx.out, ← HSn.out]; rfl), hid (fun e he => by
                        by_cases h : e = bb * r + c
                        · subst h; exact ⟨by rw [HFx.out]; exact HyR.out, HCk.out⟩
                        · exact Hall2.out e (by omega))⟩
                      case measure => simp [intOf]; omega
                    · have hd2 : decide ((0 : Int) < (r : Int)) = true := by simp; omega
                      have hr0' : (0 : Int) < (r : Int) := by omega
                      obtain ⟨p, hp⟩ : ∃ p, r - 1 = p := ⟨_, rfl⟩
                      have hpi : (r : Int) - 1 = (p : Int) := by omega
                      have hpl : p < a := by omega
                      obtain ⟨u3, hc3, hi3⟩ := HRow.out p hpl
                      have hm3 := Hlen.out p (by omega)
                      obtain ⟨A3, c3, rfl, hA3⟩ := hi3
                      rw [hm3] at hc3
                      obtain ⟨b3, o3, rfl, hb3, hx3⟩ := hA3 (by intro h; rw [h] at hm3; simp at hm3; omega)
                      have hcell3 := hx3 c (by rw [hm3]; exact hcb)
                      have HZ3 : Hid (celF ls bb (bb * r + c - bb) = (ls.getD p []).getD c 0) := hid (by
                        have e : bb * r + c - bb = bb * p + c := by
                          have : bb * (p + 1) = bb * p + bb := Nat.mul_succ _ _
                          rw [show r = p + 1 by omega, this]; omega
                        rw [e, celF_at ls hcb]; rfl)
                      have HUp : Hid (bb ≤ bb * r + c) := hid (by
                        have h1 : bb * 1 ≤ bb * r := Nat.mul_le_mul_left _ (by omega)
                        omega)
                      obtain ⟨z3, hz3⟩ : ∃ z, (ls.getD p []).getD c 0 = z := ⟨_, rfl⟩
                      rw [hz3] at hcell3 HZ3
                      clear hx3 hz3 hm3 hp
                      by_cases hgt : (y : Int) < z3
                      · have hgt' : decide ((y : Int) < z3) = true := by simpa using hgt
                        have HN := hid (HCe.out (bb * r + c) HeN.out (chkF_up HUp.out (by rw [HZ3.out, HFx.out]; exact hgt)))
                        clear hbit
                        go_wp2_with (go_at_call 81; refine (poIn_any sn y (by omega) _).mono ?_; rw [HBit.out]; rintro e' w2 ⟨rfl, rfl⟩)
                        go_ret
                        exact ⟨ret_bool HN.out.symm, rfl⟩
                      · have hgt' : decide ((y : Int) < z3) = false := by simpa using hgt
                        have HCk := hid (chkF_yes (b := bb) HBf.out (.inl (by rw [Hc0.out, Nat.add_zero, Nat.mul_mod_right])) (.inr (by rw [HZ3.out, HFx.out]; omega)))
                        clear hbit
                        go_wp2_with (go_at_call 81; refine (poIn_any sn y (by omega) _).mono ?_; rw [HBit.out]; rintro e' w2 ⟨rfl, rfl⟩)
                        go_round
                        case rel => exact ⟨c + 1, _, by omega, by go_num, rfl, hid (by rw [← Nat.add_assoc, seeN, HFx.out, ← HSn.out]; rfl), hid (fun e he => by
                          by_cases h : e = bb * r + c
                          · subst h; exact ⟨by rw [HFx.out]; exact HyR.out, HCk.out⟩
                          · exact Hall2.out e (by omega))⟩
                        case measure => simp [intOf]; omega
                  · have hd : decide ((0 : Int) < (c : Int)) = true := by simp; omega
                    have hc0' : (0 : Int) < (c : Int) := by omega
                    obtain ⟨q, hq1⟩ : ∃ q, c - 1 = q := ⟨_, rfl⟩
                    have hqi : (c : Int) - 1 = (q : Int) := by omega
                    have hql : q < bb := by omega
                    have hcell4 := HCells.out q hql
                    have HZ4 : Hid (celF ls bb (bb * r + c - 1) = (ls.getD r []).getD q 0) := hid (by
                      rw [show bb * r + c - 1 = bb * r + q by omega, celF_at ls hql]; rfl)
                    obtain ⟨z4, hz4⟩ : ∃ z, (ls.getD r []).getD q 0 = z := ⟨_, rfl⟩
                    rw [hz4] at hcell4 HZ4
                    have HMod : Hid ((bb * r + c) % bb ≠ 0) := hid (by rw [Nat.mul_add_mod, Nat.mod_eq_of_lt hcb]; omega)
                    clear hz4 hq1
                    by_cases hgl : (y : Int) < z4
                    · have hgl' : decide ((y : Int) < z4) = true := by simpa using hgl
                      have HN := hid (HCe.out (bb * r + c) HeN.out (chkF_left HMod.out (by rw [HZ4.out, HFx.out]; exact hgl)))
                      clear hbit
                      go_wp2_with (go_at_call 81; refine (poIn_any sn y (by omega) _).mono ?_; rw [HBit.out]; rintro e' w2 ⟨rfl, rfl⟩)
                      go_ret
                      exact ⟨ret_bool HN.out.symm, rfl⟩
                    · have hgl' : decide ((y : Int) < z4) = false := by simpa using hgl
                      by_cases hr0 : r = 0
                      · have hd2 : decide ((0 : Int) < (r : Int)) = false := by simp; omega
                        have hr0' : ¬ (0 : Int) < (r : Int) := by omega
                        have Hr0 := hid hr0
                        clear hr0
                        have HCk := hid (chkF_yes (b := bb) HBf.out (.inr (by rw [HZ4.out, HFx.out]; omega)) (.inl (by rw [Hr0.out]; omega)))
                        clear hbit
                        go_wp2_with (go_at_call 81; refine (poIn_any sn y (by omega) _).mono ?_; rw [HBit.out]; rintro e' w2 ⟨rfl, rfl⟩)
                        go_round
                        case rel => exact ⟨c + 1, _, by omega, by go_num, rfl, hid (by rw [← Nat.add_assoc, seeN, HFx.out, ← HSn.out]; rfl), hid (fun e he => by
                          by_cases h : e = bb * r + c
                          · subst h; exact ⟨by rw [HFx.out]; exact HyR.out, HCk.out⟩
                          · exact Hall2.out e (by omega))⟩
                        case measure => simp [intOf]; omega
                      · have hd2 : decide ((0 : Int) < (r : Int)) = true := by simp; omega
                        have hr0' : (0 : Int) < (r : Int) := by omega
                        obtain ⟨p, hp⟩ : ∃ p, r - 1 = p := ⟨_, rfl⟩
                        have hpi : (r : Int) - 1 = (p : Int) := by omega
                        have hpl : p < a := by omega
                        obtain ⟨u3, hc3, hi3⟩ := HRow.out p hpl
                        have hm3 := Hlen.out p (by omega)
                        obtain ⟨A3, c3, rfl, hA3⟩ := hi3
                        rw [hm3] at hc3
                        obtain ⟨b3, o3, rfl, hb3, hx3⟩ := hA3 (by intro h; rw [h] at hm3; simp at hm3; omega)
                        have hcell3 := hx3 c (by rw [hm3]; exact hcb)
                        have HZ3 : Hid (celF ls bb (bb * r + c - bb) = (ls.getD p []).getD c 0) := hid (by
                          have e : bb * r + c - bb = bb * p + c := by
                            have : bb * (p + 1) = bb * p + bb := Nat.mul_succ _ _
                            rw [show r = p + 1 by omega, this]; omega
                          rw [e, celF_at ls hcb]; rfl)
                        have HUp : Hid (bb ≤ bb * r + c) := hid (by
                          have h1 : bb * 1 ≤ bb * r := Nat.mul_le_mul_left _ (by omega)
                          omega)
                        obtain ⟨z3, hz3⟩ : ∃ z, (ls.getD p []).getD c 0 = z := ⟨_, rfl⟩
                        rw [hz3] at hcell3 HZ3
                        clear hx3 hz3 hm3 hp
                        by_cases hgt : (y : Int) < z3
                        · have hgt' : decide ((y : Int) < z3) = true := by simpa using hgt
                          have HN := hid (HCe.out (bb * r + c) HeN.out (chkF_up HUp.out (by rw [HZ3.out, HFx.out]; exact hgt)))
                          clear hbit
                          go_wp2_with (go_at_call 81; refine (poIn_any sn y (by omega) _).mono ?_; rw [HBit.out]; rintro e' w2 ⟨rfl, rfl⟩)
                          go_ret
                          exact ⟨ret_bool HN.out.symm, rfl⟩
                        · have hgt' : decide ((y : Int) < z3) = false := by simpa using hgt
                          have HCk := hid (chkF_yes (b := bb) HBf.out (.inr (by rw [HZ4.out, HFx.out]; omega)) (.inr (by rw [HZ3.out, HFx.out]; omega)))
                          clear hbit
                          go_wp2_with (go_at_call 81; refine (poIn_any sn y (by omega) _).mono ?_; rw [HBit.out]; rintro e' w2 ⟨rfl, rfl⟩)
                          go_round
                          case rel => exact ⟨c + 1, _, by omega, by go_num, rfl, hid (by rw [← Nat.add_assoc, seeN, HFx.out, ← HSn.out]; rfl), hid (fun e he => by
                            by_cases h : e = bb * r + c
                            · subst h; exact ⟨by rw [HFx.out]; exact HyR.out, HCk.out⟩
                            · exact Hall2.out e (by omega))⟩
                          case measure => simp [intOf]; omega
                · have HBit := hid hbit
                  have HN := hid (HCe.out (bb * r + c) HeN.out (chkF_bit (by rw [HFx.out, ← HSn.out]; exact hbit)))
                  clear hbit
                  go_wp2_with (go_at_call 81; refine (poIn_any sn y (by omega) _).mono ?_; rw [HBit.out]; rintro e' w2 ⟨rfl, rfl⟩)
                  go_ret
                  exact ⟨ret_bool HN.out.symm, rfl⟩
              · have Hcb := hid (show c = bb by omega)
                have hcbn : ¬ (c : Int) < (bb : Int) := by omega
                clear hcb e1
                go_wp2
                go_round
                case rel => exact ⟨r + 1, sn, by omega, by go_num, rfl, hid (by rw [Nat.mul_succ, ← Hcb.out]; rw [Hcb.out] at HSn ⊢; exact HSn.out), hid (fun j hj => by
                  by_cases h : j = r
                  · subst h; exact HM.out
                  · exact Hlen.out j (by omega)), hid (fun e he => Hall2.out e (by rw [Nat.mul_succ] at he; rw [Hcb.out]; exact he))⟩
                case measure => simp [intOf]; omega
        · have HN := hid (HSn2.out r hlt (by rw [HM.out]; exact hmb))
          have hne : ((m : Int) != (bb : Int)) = true := by rw [bne_iff_ne]; omega
          clear hmb
          go_wp2
          go_ret
          exact ⟨ret_bool HN.out.symm, rfl⟩
      · obtain rfl : r = a := by omega
        have HN := hid (HFu.out (HSh.out Hlen.out) (fun e he => Hall.out e (by rw [Nat.mul_comm, HNm.out]; exact he)))
        go_wp2
        go_ret
        exact ⟨ret_bool HN.out.symm, rfl⟩
end Go.Proofs.Ytbbkoagjplapkaa
