/- PromotionOrder of both sides. -/
import Derived.Test.YtiodligebnnodabPrM
import Derived.Test.YtiodligebnnodabRet
namespace Go.Proofs.Ytiodligebnnodab
open Go.RowKit Go.WideShapes Go.ChangeShapes
set_option linter.unusedVariables false

theorem liGcd_any (a b : Nat) (w : World) (ha : a ≤ 1000000000000000) (hb : b ≤ 1000000000000000) :
    Calls Try.prog 28 #[.int .i64 a, .int .i64 b] w fun r w' => r = .returned (.int .i64 (Nat.gcd a b : Nat)) ∧ Below w.heap.size w w' := by
  obtain ⟨R, hR⟩ : ∃ R, Nat.gcd a b = R := ⟨_, rfl⟩
  have HR := hid hR
  have HA := hid ha
  have HB0 := hid hb
  rw [hR]
  clear hR ha hb
  go_enter Try.func28, Try.ntmps28
  go_wp2
  go_loopw [0, 1] (fun p q wr => ∃ m n : Nat, p = .int .i64 m ∧ q = .int .i64 n ∧ Hid (m ≤ 1000000000000000) ∧ Hid (n ≤ 1000000000000000) ∧ Hid (Nat.gcd m n = R) ∧ Below w.heap.size w wr) (fun _ q _ => (intOf q).toNat)
  case atStart => exact ⟨a, b, rfl, rfl, HA, HB0, HR, Below.refl _ _⟩
  case round =>
    obtain ⟨m, n, rfl, rfl, hm, hn, HG, hbl⟩ := hrel
    have HB := hid hbl
    clear hbl
    by_cases h0 : n = 0
    · subst h0
      have HG2 : Hid (m = R) := hid (by rw [← HG.out, Nat.gcd_zero_right])
      go_wp2
      go_ret
      exact ⟨ret_int (by rw [HG2.out]), HB.out⟩
    · have HG2 : Hid (Nat.gcd n (m % n) = R) := hid (by rw [← HG.out, Nat.gcd_comm m n, Nat.gcd_rec n m, Nat.gcd_comm])
      have hb0 : decide ((0 : Int) < (n : Int)) = true := by simp; omega
      have hbne : ¬ (n : Int) = 0 := by omega
      have hml := Nat.mod_lt m (show 0 < n by omega)
      have hmod := tmod_nat m n
      have hmod2 : ((m : Int) % (n : Int)) = ((m % n : Nat) : Int) := by simp
      obtain ⟨r, hr⟩ : ∃ r, m % n = r := ⟨_, rfl⟩
      rw [hr] at hmod hmod2 HG2 hml
      clear hr
      have hb1 : (0 : Int) < n := by omega
      go_wp2_with fail
      go_region
      go_wp2
      go_roundw
      case rel => exact ⟨n, r, rfl, rfl, hn, hid (by have := hn.out; omega), HG2, HB.out.drew⟩
      case measure => simp [intOf]; omega

def okPR (xs : List Int) : Bool := okAL xs && decide (LC (perR xs) (ends xs 0) ≤ 1000000)
def ansPR (xs : List Int) : Int := if okPR xs then (LC (perR xs) (ends xs 0) : Int) else 0
theorem okPR_no1 {xs : List Int} (h : okAL xs = false) : okPR xs = false := by simp [okPR, h]
theorem okPR_no2 {xs : List Int} (h : ¬ LC (perR xs) (ends xs 0) ≤ 1000000) : okPR xs = false := by simp only [okPR, decide_eq_false h]; simp
theorem okPR_yes {xs : List Int} (h : okAL xs = true) (k : LC (perR xs) (ends xs 0) ≤ 1000000) : okPR xs = true := by simp only [okPR, h, decide_eq_true k]; rfl
theorem ansPR_no {xs : List Int} (h : okPR xs = false) : ansPR xs = 0 := by simp [ansPR, h]
theorem ansPR_yes {xs : List Int} (h : okPR xs = true) : ansPR xs = (LC (perR xs) (ends xs 0) : Int) := by simp [ansPR, h]
theorem sameL_yes {a b : List Int} (h : a = b) : sameL a b = true := by unfold sameL; exact decide_eq_true h
theorem sameL_not {a b : List Int} (h : a ≠ b) : sameL a b = false := by unfold sameL; exact decide_eq_false h
theorem step_facts {p : Nat → Nat} {k m : Nat} (hp : ∀ j, j < k → 1 ≤ p j) (hx : 1 ≤ p k) (hx2 : p k ≤ 500) (h : bl 1000000 p k = some m) :
    1 ≤ m ∧ m ≤ 1000000 ∧ 1 ≤ Nat.gcd m (p k) ∧ Nat.gcd m (p k) ≤ 500 ∧ m / Nat.gcd m (p k) ≤ 1000000 ∧ m / Nat.gcd m (p k) * p k ≤ 500000000 := by
  obtain ⟨h1, h2⟩ := bl_range (by decide) hp h
  have h3 := Nat.gcd_le_right m (show 0 < p k by omega)
  have h4 : 0 < Nat.gcd m (p k) := Nat.gcd_pos_of_pos_left _ (by omega)
  have h6 := Nat.div_le_self m (Nat.gcd m (p k))
  have h7 : m / Nat.gcd m (p k) * p k ≤ 1000000 * 500 := Nat.mul_le_mul (by omega) (by omega)
  exact ⟨h1, h2, h4, by omega, by omega, by omega⟩
set_option maxHeartbeats 3200000 in
theorem specPromotionOrder_any (v : Value) (xs : List Int) (w : World) (hv : Ints w v xs) (hl : xs.length ≤ 1048576) :
    Calls Try.prog 8 #[.agg #[v]] w fun r w' => r = .returned (.tuple #[.int .i64 (ansPR xs), .bool (okPR xs)]) ∧ Below w.heap.size w w' := by
  have HV := hid hv
  clear hv
  go_enter Try.func8, Try.ntmps8
  have HB := hid (below_alloc (Below.refl _ w) (.cells #[v] 28))
  have A0 := hid (At.newAt w v 28 w.heap.size (by simp))
  go_wp2_with fail
  refine (poGood_any _ xs _ (HV.out.below HB.out) hl).mono ?_
  rintro e w' ⟨rfl, hb⟩
  replace HB := hid (below_to HB.out hb)
  replace A0 := hid (A0.out.below hb)
  clear hb
  cases hq : good xs
  · have HO := hid (okPR_no1 (okAL_no1 hq))
    clear hq
    have ebox0 := A0.out.1
    go_wp2
    go_ret2
    exact ⟨ret_ib (ansPR_no HO.out).symm HO.out.symm, HB.out⟩
  · have HG := hid hq
    clear hq
    have ebox0 := A0.out.1
    go_wp2_with fail
    clear ebox0
    refine (liAll_any _ xs _ (HV.out.below HB.out) HG.out).mono ?_
    rintro e w' ⟨q, rfl, ho, -, hb⟩
    replace HB := hid (below_to HB.out hb)
    replace A0 := hid (A0.out.below hb)
    clear hb
    cases hq : okAL xs
    · have HO := hid (okPR_no1 hq)
      clear hq ho
      have ebox0 := A0.out.1
      go_wp2
      go_ret2
      exact ⟨ret_ib (ansPR_no HO.out).symm HO.out.symm, HB.out⟩
    · have HQ := hid hq
      have hC := (okAL_all hq).2
      rw [ansAL_yes hq] at ho
      have HI := hid ho.ints
      obtain ⟨oA, oc, rfl, -⟩ := ho.rows
      have hlen : (allLn xs).length = cntL xs := rowsN_length _ _
      rw [hlen] at HI ⊢
      have hl1 := (good_length HG.out).1
      have hl10 := (good_length HG.out).2
      obtain ⟨m, hm⟩ : ∃ m, cntL xs = m := ⟨_, rfl⟩
      rw [hm] at HI hC ⊢
      have HM := hid hm
      have HPR := hid (fun r (hr : r < m) => perR_range (xs := xs) hl1 (r := r) (by show r < cntL xs; rw [hm]; exact hr))
      have hme : ends xs 0 = m := hm
      rw [hme] at HPR
      have HME := hid hme
      clear hq ho hlen hm hme
      have ebox0 := A0.out.1
      go_wp2
      go_loopw [6, 23] (fun q i wr => ∃ k o : Nat, k ≤ m ∧ i = .int .i64 k ∧ q = .int .i64 o ∧ Hid (bl 1000000 (perR xs) k = some o) ∧ Below w'.heap.size w' wr) (fun _ i _ => m - (intOf i).toNat)
      case atStart => exact ⟨0, 1, Nat.zero_le _, rfl, rfl, hid rfl, Below.refl _ _⟩
      case round =>
        obtain ⟨k, o, hk, rfl, rfl, HBl, hb⟩ := hrel
        have Hb := hid hb
        have hbx := (A0.out.below hb).1
        clear hb
        by_cases hlt : k < m
        · obtain ⟨b, o', c', u, hsh, hbl, hc, hi⟩ := rows_cell HI.out (k := k) (by unfold allLn; rw [rowsN_length, HM.out]; exact hlt)
          unfold allLn at hi
          rw [rowsN_getD _ (by rw [HM.out]; exact hlt)] at hi
          injection hsh with hsA hsB hsC
          subst hsA
          subst hsC
          clear hsB
          have hcell := (Hb.out.cell (p := ⟨b, o' + k, none⟩) hbl).trans hc
          have HIk := hid (hi.below Hb.out)
          have HIk0 := hid hi
          have hkx : k < ends xs 0 := by rw [HME.out]; exact hlt
          have HLw := hid (unrL_Lw (xs := xs) (r := k) hkx)
          obtain ⟨hp1, hp2⟩ := HPR.out k hlt
          obtain ⟨f1, f2, f3, f4, f5, f6⟩ := step_facts (p := perR xs) (k := k) (fun j hj => (HPR.out j (by omega)).1) hp1 (by omega) HBl.out
          have HStep := hid (bl_step HBl.out)
          have HNe := hid (fun j (h1 : 1 ≤ j) (h2 : j < perR xs k) => sameL_not (it_ne hl1 hkx h1 h2))
          have HEq := hid (sameL_yes (it_per hl1 hkx))
          obtain ⟨P, hP⟩ : ∃ P, perR xs k = P := ⟨_, rfl⟩
          rw [hP] at hp1 hp2 f3 f4 f5 f6 HStep HNe HEq
          obtain ⟨uA, un, uc, rfl⟩ : ∃ uA un uc, u = .slice uA un uc := by obtain ⟨A, c, e, -⟩ := hi; exact ⟨_, _, _, e⟩
          have HF := hid (show 1 ≤ o ∧ o ≤ 1000000 ∧ 1 ≤ Nat.gcd o P ∧ Nat.gcd o P ≤ 500 ∧ o / Nat.gcd o P ≤ 1000000 ∧ o / Nat.gcd o P * P ≤ 500000000 from ⟨f1, f2, f3, f4, f5, f6⟩)
          have hP500 : P ≤ 500 := by omega
          have hit1 : proL xs 1 (unrL xs k) = itP xs (unrL xs k) 1 := proL_one xs _
          have HIt1 := hid hit1
          clear hc hi hP f1 f2 f3 f4 f5 f6 hkx hit1 hp2
          go_wp2_with fail
          clear hcell hbx
          refine (liPromote_any _ _ xs (unrL xs k) 1 _ ((HV.out.below HB.out).below Hb.out) HIk.out HG.out HLw.out (by omega) (by omega)).mono ?_
          rintro e w2 ⟨u2, rfl, ho2, hb2⟩
          rw [HIt1.out] at ho2
          have HI2 := hid ho2.ints
          obtain ⟨u2A, u2n, u2c, rfl⟩ := ho2.shape3
          have Hb2 := hid (below_to Hb.out hb2)
          clear ho2 hb2
          go_wp2
          go_loopw [9, 10] (fun cN nw wi => ∃ j : Nat, 1 ≤ j ∧ j ≤ P ∧ cN = .int .i64 j ∧ Ints wi nw (itP xs (unrL xs k) j) ∧ Below w'.heap.size w' wi) (fun cN _ _ => P - (intOf cN).toNat)
          case atStart => exact ⟨1, Nat.le_refl _, hp1, rfl, HI2.out, Hb2.out⟩
          case round =>
            obtain ⟨j, hj1, hj, rfl, hi, hb⟩ := hrel
            obtain ⟨wi, rfl⟩ : ∃ x, x = wr := ⟨wr, rfl⟩
            have HIj := hid hi
            have Hb3 := hid hb
            have HLj := hid (itP_Lw hl1 HLw.out j)
            have hlj : (itP xs (unrL xs k) j).length ≤ 1048576 := by rw [HLj.out.len]; omega
            obtain ⟨nA, nn, nc, rfl⟩ : ∃ uA un uc, _ = Value.slice uA un uc := by obtain ⟨A, c, e, -⟩ := hi; exact ⟨_, _, _, e⟩
            have HIk3 := hid (HIk0.out.below hb)
            clear hi hb
            go_wp2_with fail
            refine (l1SameL_any _ _ (itP xs (unrL xs k) j) (unrL xs k) _ HIj.out HIk3.out hlj).mono ?_
            rintro e w4 ⟨rfl, hb4⟩
            have HIj4 := hid (HIj.out.below hb4)
            have Hb4 := hid (below_to Hb3.out hb4)
            clear hb4
            by_cases hjP : j = P
            · subst hjP
              rw [show sameL (itP xs (unrL xs k) j) (unrL xs k) = true from HEq.out]
              have HGc := hid (fun W => liGcd_any o j W (by have := HF.out; omega) (by omega))
              obtain ⟨F1, F2, F3, F4, F5, F6⟩ := HF.out
              obtain ⟨g, hg⟩ : ∃ g, Nat.gcd o j = g := ⟨_, rfl⟩
              rw [hg] at HGc F3 F4 F5 F6 HStep
              obtain ⟨qq, hqq⟩ : ∃ qq, o / g = qq := ⟨_, rfl⟩
              have HDiv := hid (tdiv_nat o g)
              have HDiv2 : Hid (((o : Int) / (g : Int)) = ((o / g : Nat) : Int)) := hid (by simp)
              rw [hqq] at HDiv HDiv2 F5 F6 HStep
              clear hqq hg
              obtain ⟨y, hy⟩ : ∃ y, qq * j = y := ⟨_, rfl⟩
              rw [hy] at F6 HStep
              have HMul : Hid (((qq : Int) * (j : Int)) = (y : Int)) := hid (by rw [← hy]; simp)
              clear hy
              have hg0 : ¬ (g : Int) = 0 := by omega
              have hg1 : ((g : Int) == 0) = false := by rw [beq_eq_false_iff_ne]; omega
              have hg2 : (0 : Int) < g := by omega
              have HWy : Hid (wrap64 (y : Int) = (y : Int)) := hid (by unfold wrap64; omega)
              have HWq : Hid (wrap64 (qq : Int) = (qq : Int)) := hid (by unfold wrap64; omega)
              clear F1 F2 F3 F4
              have HVal : Hid (wrap64 (wrap64 ((o : Int) / (g : Int)) * (j : Int)) = (y : Int)) := hid (by rw [HDiv2.out, HWq.out, HMul.out, HWy.out])
              have hk1 : k + 1 ≤ m := by omega
              clear hg1 hg2 F5 F6
              go_wp2_with fail
              refine (HGc.out _).mono ?_
              rintro e' w5 ⟨rfl, hb5⟩
              have Hb5 := hid (below_to Hb4.out hb5)
              clear hb5
              go_wp2
              · rename_i hcmp
                rw [HVal.out] at hcmp
                have HN := hid (HStep.out.trans (if_pos (show 1000000 < y by omega)))
                have HO : Hid (okPR xs = false) := hid (okPR_no2 (fun hle => by
                  have h1 := bl_none HN.out m hk1
                  rw [bl_eq (by decide) m (fun i hi => (HPR.out i hi).1), ← HME.out, if_pos hle] at h1
                  cases h1))
                go_ret2
                exact ⟨ret_ib (ansPR_no HO.out).symm HO.out.symm, below_to HB.out Hb5.out⟩
              · rename_i hcmp
                rw [HVal.out] at hcmp
                have HN := hid (HStep.out.trans (if_neg (show ¬ 1000000 < y by omega)))
                rw [HVal.out]
                exact ⟨⟨k + 1, y, hk1, by go_num, rfl, HN.out, Hb5.out⟩, by simp [intOf]; omega⟩
            · rw [show sameL (itP xs (unrL xs k) j) (unrL xs k) = false from HNe.out j hj1 (by omega)]
              have hbx4 := (A0.out.below Hb4.out).1
              have hitj : proL xs 1 (itP xs (unrL xs k) j) = itP xs (unrL xs k) (j + 1) := proL_one xs _
              have HItj := hid hitj
              clear hitj
              go_wp2_with fail
              clear hbx4
              refine (liPromote_any _ _ xs (itP xs (unrL xs k) j) 1 _ ((HV.out.below HB.out).below Hb4.out) HIj4.out HG.out HLj.out (by omega) (by omega)).mono ?_
              rintro e w5 ⟨u5, rfl, ho5, hb5⟩
              rw [HItj.out] at ho5
              have HI5 := hid ho5.ints
              obtain ⟨u5A, u5n, u5c, rfl⟩ := ho5.shape3
              have Hb5 := hid (below_to Hb4.out hb5)
              clear ho5 hb5
              go_wp2
              go_roundw
              case rel => exact ⟨j + 1, by omega, by omega, by go_num, HI5.out, Hb5.out⟩
              case measure => simp [intOf]; omega
        · obtain rfl : k = m := by omega
          have hbe := HBl.out
          rw [bl_eq (by decide) k (fun i hi => (HPR.out i hi).1)] at hbe
          have hle : LC (perR xs) k ≤ 1000000 ∧ o = LC (perR xs) k := by
            split at hbe
            · rename_i h; simp only [Option.some.injEq] at hbe; exact ⟨h, hbe.symm⟩
            · cases hbe
          have HO := hid (okPR_yes HQ.out (by rw [HME.out]; exact hle.1))
          have HY : Hid (ansPR xs = (o : Int)) := hid (by rw [ansPR_yes HO.out, HME.out, hle.2])
          clear hbe hle hbx
          go_wp2
          go_ret2
          exact ⟨ret_ib (by rw [HY.out]) HO.out.symm, below_to HB.out Hb.out⟩
theorem lenP_unr {xs : List Int} (h1 : 1 ≤ xs.length) (hN : ends xs 0 ≤ 500) {r : Nat} (hr : r < ends xs 0) : lenP xs (unrL xs r) = perR xs r := by
  have hp := perR_range h1 hr
  exact leastB_eq (fun j a b => sameL_not (it_ne h1 hr a b)) (sameL_yes (it_per h1 hr)) hp.1 (by omega)
theorem okLin_unr {xs : List Int} (hg : good xs = true) {r : Nat} (hr : r < ends xs 0) : okLin xs (unrL xs r) = true := (okOrder_yes hg).trans (unr_lin hr).order
def seenP (xs : List Int) (k : Nat) : Nat → Bool := seenB (proR xs) (ends xs 0) (startsN (proR xs) (ends xs 0) (idsN (ends xs 0)) k)
def lensK (xs : List Int) (k : Nat) : List Int := (startsN (proR xs) (ends xs 0) (idsN (ends xs 0)) k).map fun s => ((perR xs s : Nat) : Int)
theorem lensK_full (xs : List Int) : lensK xs (ends xs 0) = lensP xs := by
  unfold lensK lensP starts; rw [idsN_length]
theorem lensK_length (xs : List Int) (k : Nat) : (lensK xs k).length ≤ k := by
  unfold lensK; rw [List.length_map]; exact startsN_length _ _ _ _
theorem seenP_yes {xs : List Int} {k : Nat} (hk : k < ends xs 0) (h : seenP xs k k = true) : seenP xs (k + 1) = seenP xs k ∧ lensK xs (k + 1) = lensK xs k := by
  have e := startsN_yes (f := proR xs) (N := ends xs 0) (ids := idsN (ends xs 0)) (k := k) (by rw [idsN_get hk]; exact h)
  unfold seenP lensK; rw [e]; exact ⟨rfl, rfl⟩
theorem seenP_no {xs : List Int} {k : Nat} (hk : k < ends xs 0) (h : seenP xs k k = false) : (∀ t, seenP xs (k + 1) t = (seenP xs k t || (orbT (proR xs) k (perR xs k)).contains t)) ∧ lensK xs (k + 1) = lensK xs k ++ [((perR xs k : Nat) : Int)] := by
  have e := startsN_no (f := proR xs) (N := ends xs 0) (ids := idsN (ends xs 0)) (k := k) (by rw [idsN_get hk]; exact h)
  rw [idsN_get hk] at e
  unfold seenP lensK
  rw [e]
  exact ⟨fun t => seenB_snoc _ _ _ _ _, by rw [List.map_append]; rfl⟩
theorem Below.of_lt {B : Nat} {a w : World} (h : Below B a w) {B' : Nat} (hB : B' ≤ B) : Below B' a w := h.mono hB
set_option maxHeartbeats 3200000 in
theorem promotionLengths_any (v q : Value) (xs : List Int) (w : World) (hv : Ints w v xs) (hg : good xs = true) (hC : ends xs 0 ≤ 500) (hq : IntsSS w q (allLn xs)) :
    Calls Try.prog 31 #[.agg #[v], q] w fun (r : Ending) w' => ∃ u, r = Ending.returned u ∧ OwnI 3 w' w.heap.size u (lensP xs) ∧ Below w.heap.size w w' := by
  have HV := hid hv
  have HG := hid hg
  have HQ := hid hq
  have hl1 := (good_length hg).1
  have hl10 := (good_length hg).2
  have hlen : (allLn xs).length = ends xs 0 := rowsN_length _ _
  obtain ⟨qA, qc, rfl, -⟩ := hq
  rw [hlen] at HQ ⊢
  obtain ⟨N, hN⟩ : ∃ N, ends xs 0 = N := ⟨_, rfl⟩
  have HNe := hid hN
  rw [hN] at HQ hC ⊢
  have HLen := hid (hlen.trans hN)
  have HPR := hid (fun r (hr : r < N) => perR_range (xs := xs) hl1 (r := r) (by rw [hN]; exact hr))
  rw [hN] at HPR
  have hmk := run_make_row' (P := Try.prog) 61 4 (.bool false) 1 Try.underlying61 infoBool rfl .i64 .i64 N (by omega) (by omega)
  clear hv hg hlen hN
  go_enter Try.func31, Try.ntmps31
  have HB := hid (below_alloc (Below.refl _ w) (.cells #[v] 28))
  have A0 := hid (At.newAt w v 28 w.heap.size (by simp))
  go_wp2_with fail
  refine (endingsOf_any _ xs _ (HV.out.below HB.out) HG.out).mono ?_
  rintro e w' ⟨g, rfl, hT, hgw, hb⟩
  replace HB := hid (below_to HB.out hb)
  replace A0 := hid (A0.out.below hb)
  clear hb
  have HT := hid hT
  have hgz : g < w'.heap.size := hT.lt
  clear hT
  go_wp2
  clear hmk
  rw [BVals_made]
  obtain ⟨S, hS⟩ : ∃ S, w'.heap.size = S := ⟨_, rfl⟩
  have HS := hid hS
  have HS0 : Hid (Blk (w'.alloc (.cells (BVals (List.replicate N false)) 4)) S 4 (BVals (marksB (seenP xs 0) N))) := hid (by
    have e : marksB (seenP xs 0) N = List.replicate N false := by rw [← marksB_none]; exact marksB_congr fun t _ => rfl
    rw [e]; exact Blk.newAt _ _ _ _ hS.symm)
  have HB0 : Hid (Below w'.heap.size w' (w'.alloc (.cells (BVals (List.replicate N false)) 4))) := hid (below_alloc (Below.refl _ _) _)
  obtain ⟨W0, hW0⟩ : ∃ W0, w'.alloc (.cells (BVals (List.replicate N false)) 4) = W0 := ⟨_, rfl⟩
  rw [hW0] at HS0 HB0 ⊢
  rw [hS]
  rw [hS] at hgz
  clear hW0 hS
  go_loopw [7, 21] (fun l i wr => ∃ k : Nat, k ≤ N ∧ i = .int .i64 k ∧ Blk wr S 4 (BVals (marksB (seenP xs k) N)) ∧ OwnI 3 wr (S + 1) l (lensK xs k) ∧ Below w'.heap.size w' wr) (fun _ i _ => N - (intOf i).toNat)
  case atStart => exact ⟨0, Nat.zero_le _, rfl, HS0.out, OwnI.nil _ _ _, HB0.out⟩
  case round =>
    obtain ⟨k, hk, rfl, hB, ho, hb⟩ := hrel
    have HBk := hid hB
    have HOw := hid ho
    have Hb := hid hb
    have hSlt := hB.lt
    obtain ⟨lA, ln, lc, rfl⟩ := ho.shape3
    clear hB ho hb
    by_cases hlt : k < N
    · have hkx : k < ends xs 0 := by rw [HNe.out]; exact hlt
      obtain ⟨b, o', c', u, hsh, hbl, hc, hi⟩ := rows_cell HQ.out (k := k) (by rw [HLen.out]; exact hlt)
      unfold allLn at hi
      rw [rowsN_getD _ (show k < cntL xs from hkx)] at hi
      injection hsh with hsA hsB hsC
      subst hsA
      subst hsC
      clear hsB
      have hcell := ((HB.out.trans (Hb.out.mono HB.out.size)).cell (p := ⟨b, o' + k, none⟩) hbl).trans hc
      have HIk := hid (hi.below (HB.out.trans (Hb.out.mono HB.out.size)))
      obtain ⟨uA, un, uc, rfl⟩ : ∃ uA un uc, u = .slice uA un uc := by obtain ⟨A, c, e, -⟩ := hi; exact ⟨_, _, _, e⟩
      have hsk : wr.cell? ⟨S, k, none⟩ = some (.bool (seenP xs k k)) := by
        rw [HBk.out.cell, BVals_get (by rw [marksB_length]; exact hlt), marksB_get _ hlt]
      have Hkx := hid hkx
      clear hc hi hkx
      cases hs : seenP xs k k
      · have HNo := hid (seenP_no Hkx.out hs)
        rw [hs] at hsk
        have hP := HPR.out k hlt
        have HLP := hid (lenP_unr hl1 (by rw [HNe.out]; exact hC) Hkx.out)
        have HOL := hid (okLin_unr HG.out Hkx.out)
        have hbx := (A0.out.below Hb.out).1
        have hul : (unrL xs k).length ≤ 1048576 := by rw [unrL_length]; omega
        have HIt := hid (fun j => it_unr hl1 Hkx.out j)
        obtain ⟨P, hPe⟩ : ∃ P, perR xs k = P := ⟨_, rfl⟩
        rw [hPe] at hP HNo HLP
        have HPO : Hid (okPO xs (unrL xs k) = true) := hid (okPO_yes HOL.out (by rw [HLP.out]; omega))
        have HPA : Hid (ansPO xs (unrL xs k) = rowsN (itP xs (unrL xs k)) P) := hid (by rw [ansPO_yes HPO.out, HLP.out])
        clear hs hPe
        go_wp2_with fail
        clear hbx hsk hcell
        refine (implPromotionOrbit_any _ xs _ (unrL xs k) _ ((HV.out.below HB.out).below Hb.out) (by omega) HIk.out hul).mono ?_
        rw [HPO.out, HPA.out]
        rintro e w2 ⟨q2, rfl, ho2, -, hb2⟩
        obtain ⟨q2A, q2c, rfl, -⟩ := ho2.rows
        have hql : (rowsN (itP xs (unrL xs k)) P).length = P := rowsN_length _ _
        have HQ2 := hid ho2
        have HB2 := hid (HBk.out.below hb2 HBk.out.lt)
        have HO2 := hid (HOw.out.below hb2)
        have HOB2 := hid HO2.out.blockLt
        have Hb2 := hid (below_to Hb.out hb2)
        have hz2 := hb2.size
        rw [hql] at HQ2 ⊢
        clear ho2 hb2 hql
        go_wp2
        go_loopw [38] (fun i wi => ∃ j : Nat, j ≤ P ∧ i = .int .i64 j ∧ Blk wi S 4 (BVals (marksB (fun t => seenP xs k t || (orbT (proR xs) k j).contains t) N)) ∧ TurnedIn S (S + 1) w2 wi) (fun i _ => P - (intOf i).toNat)
        case atStart => exact ⟨0, Nat.zero_le _, rfl, (by rw [marksB_congr (h := seenP xs k) (fun t _ => by simp [orbT])]; exact HB2.out), TurnedIn.refl _ _ _⟩
        case round =>
          obtain ⟨j, hj, rfl, hB3, ht⟩ := hrel
          obtain ⟨wi, rfl⟩ : ∃ x, x = wr := ⟨wr, rfl⟩
          have HB3 := hid hB3
          have HTu := hid ht
          have HbW : Hid (Below w'.heap.size w' wi) := hid (below_turned Hb2.out ht (by have := HS.out; omega))
          have HRows := hid (HQ2.out.turned ht (.inr (by omega)))
          clear hB3 ht
          by_cases hjP : j < P
          · obtain ⟨b3, o3, c3, u3, hsh3, hbl3, hc3, hi3⟩ := rows_cell HRows.out.ints (k := j) (by rw [rowsN_length]; exact hjP)
            rw [rowsN_getD _ hjP] at hi3
            injection hsh3 with hsA hsB hsC
            subst hsA
            subst hsC
            clear hsB
            obtain ⟨hIt1, hIt2⟩ := HIt.out j
            rw [show itP xs (unrL xs k) j = unrL xs (iter (proR xs) j k) from hIt1] at hi3
            obtain ⟨t, ht⟩ : ∃ t, iter (proR xs) j k = t := ⟨_, rfl⟩
            rw [ht] at hi3 hIt2
            have HCs := hid (fun x => orbT_contains_succ (proR xs) k j x)
            rw [ht] at HCs
            have HRank := hid (rank_unr hIt2)
            have HLt := hid (unrL_Lw (xs := xs) (r := t) hIt2)
            have htN : t < N := by rw [← HNe.out]; exact hIt2
            have HI3 := hid hi3
            have HTab := hid (HT.out.below HbW.out (by have := HS.out; omega))
            have hbx3 := (A0.out.below HbW.out).1
            obtain ⟨u3A, u3n, u3c, rfl⟩ : ∃ uA un uc, u3 = .slice uA un uc := by obtain ⟨A, c, e, -⟩ := hi3; exact ⟨_, _, _, e⟩
            clear hi3 hIt1 hIt2 ht
            go_wp2_with fail
            clear hc3 hbx3
            refine (rankOf_any g _ _ xs (unrL xs t) _ ((HV.out.below HB.out).below HbW.out) HI3.out HTab.out HG.out HLt.out).mono ?_
            rw [HRank.out]
            rintro e w4 ⟨rfl, hb4⟩
            have HB4 := hid (HB3.out.below hb4 HB3.out.lt)
            have HT4 := hid (HTu.out.trans (TurnedIn.of_below hb4))
            have hct : w4.cell? ⟨S, t, none⟩ = some (.bool ((fun x => seenP xs k x || (orbT (proR xs) k j).contains x) t)) := by
              rw [HB4.out.cell, BVals_get (by rw [marksB_length]; exact htN), marksB_get _ htN]
            have hft := HB4.out.frozen t
            have hti : (t : Int) < (N : Int) := by omega
            obtain ⟨z, hz⟩ : ∃ z, (fun x => seenP xs k x || (orbT (proR xs) k j).contains x) t = z := ⟨_, rfl⟩
            rw [hz] at hct
            clear hb4 hz
            go_wp2
            go_roundw
            case rel => exact ⟨j + 1, by omega, by go_num, (by rw [marksB_congr (h := fun x => (seenP xs k x || (orbT (proR xs) k j).contains x) || x == t) (fun x _ => by rw [HCs.out x, Bool.or_assoc]), ← marksB_set, ← BVals_set]; exact HB4.out.set_ t _), HT4.out.set_ ⟨S, t, none⟩ ⟨Nat.le_refl _, Nat.lt_succ_self _⟩ _⟩
            case measure => simp [intOf]; omega
          · obtain rfl : j = P := by omega
            have HO3 := hid (HO2.out.turned HTu.out HOB2.out (.inr (Nat.le_refl _)))
            have hwz : S + 1 ≤ wi.heap.size := HB3.out.lt
            have hll := lensK_length xs k
            go_wp2_with (at_builtin; refine wpList_append_int rfl _ _ 22 3 rfl Try.underlying22 Try.info3 (S + 1) _ (lensK xs k) (j : Int) rfl HO3.out rfl rfl (by omega) hwz ?_; rintro u5 w5 ho5 hb5)
            go_roundw
            case rel => exact ⟨k + 1, by omega, by go_num, (by rw [marksB_congr (fun t _ => HNo.out.1 t)]; exact HB3.out.below hb5 (by omega)), (by rw [HNo.out.2]; exact ho5), HbW.out.trans (hb5.mono (by have := HS.out; omega))⟩
            case measure => simp [intOf]; omega
      · have HYes := hid (seenP_yes Hkx.out hs)
        rw [hs] at hsk
        clear hs
        go_wp2
        go_roundw
        case rel => exact ⟨k + 1, by omega, by go_num, (by rw [HYes.out.1]; exact HBk.out), (by rw [HYes.out.2]; exact HOw.out), Hb.out⟩
        case measure => simp [intOf]; omega
    · obtain rfl : k = N := by omega
      have HRes : Hid (lensK xs k = lensP xs) := hid (by rw [← HNe.out]; exact lensK_full xs)
      go_wp2
      go_ret
      exact ⟨_, rfl, by rw [← HRes.out]; exact HOw.out.mono (by have := HS.out; have := HB.out.size; omega), below_to HB.out Hb.out⟩
set_option maxHeartbeats 1600000 in
theorem implPromotionOrder_any (v : Value) (xs : List Int) (w : World) (hv : Ints w v xs) (hl : xs.length ≤ 1048576) :
    Calls Try.prog 10 #[.agg #[v]] w fun r w' => r = .returned (.tuple #[.int .i64 (ansPR xs), .bool (okPR xs)]) ∧ Below w.heap.size w w' := by
  have HV := hid hv
  clear hv
  go_enter Try.func10, Try.ntmps10
  have HB := hid (below_alloc (Below.refl _ w) (.cells #[v] 28))
  have A0 := hid (At.newAt w v 28 w.heap.size (by simp))
  go_wp2_with fail
  refine (implAllLinear_any _ xs _ (HV.out.below HB.out) hl).mono ?_
  rintro e w' ⟨q, rfl, ho, -, hb⟩
  replace HB := hid (below_to HB.out hb)
  replace A0 := hid (A0.out.below hb)
  clear hb
  cases hq : okAL xs
  · have HO := hid (okPR_no1 hq)
    clear hq ho
    have ebox0 := A0.out.1
    go_wp2
    go_ret2
    exact ⟨ret_ib (ansPR_no HO.out).symm HO.out.symm, HB.out⟩
  · have HQ := hid hq
    have HG := hid (okAL_all hq).1
    have HC : Hid (ends xs 0 ≤ 500) := hid (okAL_all hq).2
    rw [ansAL_yes hq] at ho
    have HI := hid ho.ints
    clear hq ho
    have hl1 := (good_length HG.out).1
    have hl10 := (good_length HG.out).2
    have ebox0 := A0.out.1
    go_wp2_with fail
    clear ebox0
    refine (promotionLengths_any _ _ xs _ (HV.out.below HB.out) HG.out HC.out HI.out).mono ?_
    rintro e w' ⟨u, rfl, ho, hb⟩
    replace HB := hid (below_to HB.out hb)
    replace A0 := hid (A0.out.below hb)
    clear hb
    have HI2 := hid ho.ints
    have HLn := hid (show (lensP xs).length ≤ 1048576 by have h1 := lens_length xs; have h2 := HC.out; omega)
    have HRg := hid (fun y hy => (by have h1 := lens_range hl1 y hy; have h2 := HC.out; omega : 1 ≤ y ∧ y ≤ 1024) : ∀ y ∈ lensP xs, 1 ≤ y ∧ y ≤ 1024)
    have HAll := hid (lens_all (xs := xs) hl1)
    clear ho
    obtain ⟨L, hL⟩ : ∃ L, LC (perR xs) (ends xs 0) = L := ⟨_, rfl⟩
    have HLe := hid hL
    rw [hL] at HAll
    clear hL
    go_wp2_with fail
    refine (commonMultiple_any _ (lensP xs) _ HI2.out HLn.out HRg.out).mono ?_
    by_cases h15 : L ≤ 1000000000000000
    · rw [HAll.out, if_pos h15]
      rintro e w3 ⟨rfl, hb3⟩
      have HB3 := hid (below_to HB.out hb3)
      have hlv : lcmV (some L) = (L : Int) := rfl
      rw [hlv]
      clear hb3 hlv
      by_cases h6 : (1000000 : Int) < (L : Int)
      · have HO := hid (okPR_no2 (xs := xs) (by rw [HLe.out]; omega))
        go_wp2
        go_ret2
        exact ⟨ret_ib (ansPR_no HO.out).symm HO.out.symm, HB3.out⟩
      · have HO := hid (okPR_yes HQ.out (by rw [HLe.out]; omega))
        have HY : Hid (ansPR xs = (L : Int)) := hid (by rw [ansPR_yes HO.out, HLe.out])
        go_wp2
        go_ret2
        exact ⟨ret_ib (by rw [HY.out]) HO.out.symm, HB3.out⟩
    · rw [HAll.out, if_neg h15]
      have HO := hid (okPR_no2 (xs := xs) (by rw [HLe.out]; omega))
      rintro e w3 ⟨rfl, hb3⟩
      have HB3 := hid (below_to HB.out hb3)
      have hlv : lcmV (none : Option Nat) = 0 := rfl
      rw [hlv]
      clear hb3 hlv
      go_wp2
      go_ret2
      exact ⟨ret_ib (ansPR_no HO.out).symm HO.out.symm, HB3.out⟩
end Go.Proofs.Ytiodligebnnodab
