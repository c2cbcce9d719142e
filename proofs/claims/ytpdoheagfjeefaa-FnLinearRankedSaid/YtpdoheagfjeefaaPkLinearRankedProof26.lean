/- Texts PoM, LxM, Swi, one behind the other. -/
import Derived.Test.YtpdoheagfjeefaaPkLinearRankedProof10
import Derived.Test.YtpdoheagfjeefaaPkLinearRankedProof15
import Derived.Test.YtpdoheagfjeefaaPkLinearRankedProof16
import Derived.Test.YtpdoheagfjeefaaPkLinearRankedProof23
import Derived.Test.YtpdoheagfjeefaaPkLinearRankedProof24
import Derived.Test.YtpdoheagfjeefaaPkLinearRankedProof25
/- Facts of FnPromotionOrbits: orbits of promotion, orders, what promotions return. No program is named here. -/
namespace Go.Proofs.Ytpdoheagfjeefaa
set_option linter.unusedVariables false

theorem leftN_all {f g : Nat → List Int} {m : Nat} (h : ∀ k, k < m → f k = g k) : leftN f g m = m := by
  induction m with
  | zero => rfl
  | succ m ih => rw [leftN_yes (sameL_yes (h m (by omega))), ih (fun k hk => h k (by omega))]
theorem crFacts {us : List Int} {t : Int} (h : okCR us t = true) : ∃ c N : Nat, good us = true ∧ ansCR us t = (c : Int) ∧ ansN us cntL = (N : Int) ∧ c ≤ N ∧ (t = 0 → c = N) := by
  have h' := h
  simp only [okCR, Bool.and_eq_true] at h'
  have hg := (okAL_all h'.1).1
  refine ⟨leftN (fun k => proL us t (unrL us k)) (unrL us) (cntL us), cntL us, hg, ansCR_yes h, ansN_yes hg, leftN_le _ _ _, fun h0 => ?_⟩
  subst h0
  exact leftN_all fun k _ => rfl
theorem it_mul {xs : List Int} {r P : Nat} (hP : iter (proR xs) P r = r) (q : Nat) : iter (proR xs) (P * q) r = r := by
  induction q with
  | zero => rfl
  | succ q ih => rw [Nat.mul_succ, iter_add, hP, ih]
theorem prFacts {us : List Int} (h : okPR us = true) : ∃ M N : Nat, good us = true ∧ ansPR us = (M : Int) ∧ ansN us cntL = (N : Int) ∧ (M ≤ 100 → okCR us (M : Int) = true ∧ ansCR us (M : Int) = (N : Int)) := by
  have h' := h
  simp only [okPR, Bool.and_eq_true, decide_eq_true_eq] at h'
  have hg := (okAL_all h'.1).1
  have hp := (good_length hg).1
  refine ⟨LC (perR us) (ends us 0), cntL us, hg, ansPR_yes h, ansN_yes hg, fun hM => ?_⟩
  obtain ⟨M, hMe⟩ : ∃ M, LC (perR us) (ends us 0) = M := ⟨_, rfl⟩
  have ho : okCR us (M : Int) = true := okCR_yes h'.1 (by rw [hMe] at hM; simp; omega)
  rw [hMe]
  refine ⟨ho, ?_⟩
  rw [ansCR_yes ho]
  congr 1
  refine leftN_all fun k hk => ?_
  have hk' : k < ends us 0 := hk
  rw [proL_nat]
  refine (it_back hp hk' M).2 ?_
  obtain ⟨q, hq⟩ := dvd_LC (perR us) hk'
  rw [hMe] at hq
  rw [hq]
  exact it_mul ((proMov hp).perS (ltB_of hk')).1 q
theorem leastB_first {f : Nat → Bool} : ∀ {n : Nat}, leastB f n ≠ 0 → f (leastB f n) = true ∧ 1 ≤ leastB f n ∧ ∀ j, 1 ≤ j → j < leastB f n → f j = false := by
  intro n
  induction n with
  | zero => intro h; exact absurd rfl h
  | succ n ih =>
    intro h
    by_cases h0 : leastB f n = 0
    · have hno : ∀ m, leastB f m = 0 → ∀ j, 1 ≤ j → j ≤ m → f j = false := by
        intro m
        induction m with
        | zero => intro _ j a b; omega
        | succ m im =>
          intro e j a b
          unfold leastB at e
          by_cases e0 : leastB f m = 0
          · rw [if_pos e0] at e
            by_cases ej : j = m + 1
            · subst ej
              cases hf : f (m + 1)
              · rfl
              · rw [if_pos hf] at e; omega
            · exact im e0 j a (by omega)
          · rw [if_neg e0] at e; exact absurd e e0
      have e : leastB f (n + 1) = if f (n + 1) = true then n + 1 else 0 := by rw [leastB, if_pos h0]
      rw [e] at h ⊢
      by_cases hf : f (n + 1) = true
      · rw [if_pos hf]; exact ⟨hf, by omega, fun j a b => hno n h0 j a (by omega)⟩
      · rw [if_neg hf] at h; exact absurd rfl h
    · have e : leastB f (n + 1) = leastB f n := by rw [leastB, if_neg h0]
      rw [e]
      exact ih h0
theorem poFacts {us ws : List Int} (h : okPO us ws = true) : ∃ P n : Nat, good us = true ∧ ansPO us ws = rowsN (itP us ws) P ∧ 1 ≤ P ∧ P ≤ 500 ∧ ws.length = n ∧ n ≤ 10 ∧
    (∀ k, k < P → okPL us (itP us ws k) 1 = true ∧ ansPL us (itP us ws k) 1 = itP us ws ((k + 1) % P) ∧ (itP us ws k).length = n ∧ (0 < k → sameL (itP us ws k) ws = false)) ∧
    (okPR us = true → ∃ M : Nat, ansPR us = (M : Int) ∧ M % P = 0) := by
  have h' := h
  simp only [okPO, Bool.and_eq_true, decide_eq_true_eq] at h'
  obtain ⟨hl, hz⟩ := h'
  have hg := (okLin_all hl).1
  have hX := okLin_X hl
  have hp := (good_length hg).1
  obtain ⟨f1, f2, f3⟩ := leastB_first (f := bkP us ws) hz
  have f1' : itP us ws (lenP us ws) = ws := by have := f1; unfold bkP sameL at this; exact of_decide_eq_true this
  have hXk : ∀ k, LinX us (itP us ws k) := by
    intro k
    induction k with
    | zero => exact hX
    | succ k ih => rw [itP_succ]; exact ih.pro hp
  refine ⟨lenP us ws, ws.length, hg, ansPO_yes h, f2, leastB_le _ _, rfl, by rw [hX.len]; exact (good_length hg).2, fun k hk => ⟨?_, ?_, ?_, fun h0 => f3 k h0 hk⟩, fun hM => ?_⟩
  · exact okPL_of (okLin_of hg (hXk k)) (by omega) (by omega)
  · rw [ansPL_yes (okPL_of (okLin_of hg (hXk k)) (by omega) (by omega))]
    have e : proL us 1 (itP us ws k) = itP us ws (k + 1) := by rw [itP_succ]; rfl
    rw [e]
    by_cases hk1 : k + 1 = lenP us ws
    · rw [hk1, Nat.mod_self, f1']; rfl
    · rw [Nat.mod_eq_of_lt (by omega)]
  · rw [(hXk k).len, hX.len]
  · have hM' := hM
    simp only [okPR, Bool.and_eq_true, decide_eq_true_eq] at hM'
    have hN := (okAL_all hM'.1).2
    have hr := hX.rank_lt
    refine ⟨_, ansPR_yes hM, ?_⟩
    have e : lenP us ws = perR us (rankN us ws) := by rw [← lenP_unr hp hN hr, hX.unr]
    rw [e]
    exact Nat.mod_eq_zero_of_dvd (dvd_LC (perR us) hr)
end Go.Proofs.Ytpdoheagfjeefaa

/- Facts of FnLinearRanked: ranks go by the alphabet. No program is named here. -/
namespace Go.Proofs.Ytpdoheagfjeefaa
set_option linter.unusedVariables false

theorem lexStep {xs : List Int} {r s : Nat} (hrs : r < s) (hs : s < ends xs 0) (k : Nat) (hk : k ≤ xs.length) :
    (∃ j, j < k ∧ (∀ i, i < j → unE xs r i = unE xs s i) ∧ unE xs r j < unE xs s j) ∨
    ((∀ i, i < k → unE xs r i = unE xs s i) ∧ (unS xs r k).1 = (unS xs s k).1 ∧ (unS xs r k).2 < (unS xs s k).2) := by
  induction k with
  | zero => exact .inr ⟨fun i hi => by omega, rfl, hrs⟩
  | succ k ih =>
    rcases ih (by omega) with ⟨j, h1, h2, h3⟩ | ⟨h1, h2, h3⟩
    · exact .inl ⟨j, by omega, h2, h3⟩
    · obtain ⟨a1, b1, c1⟩ := (unS_ok (Nat.lt_trans hrs hs) k (by omega)).pick (by omega)
      obtain ⟨a2, b2, c2⟩ := (unS_ok hs k (by omega)).pick (by omega)
      have er : unE xs r k = pick (nterm xs (unS xs r k).1) (unS xs r k).2 xs.length := rfl
      have es : unE xs s k = pick (nterm xs (unS xs s k).1) (unS xs s k).2 xs.length := rfl
      rw [← er] at a1 b1 c1
      rw [← es] at a2 b2 c2
      rcases Nat.lt_trichotomy (unE xs r k) (unE xs s k) with h | h | h
      · exact .inl ⟨k, by omega, h1, h⟩
      · refine .inr ⟨fun i hi => ?_, ?_, ?_⟩
        · by_cases e : i = k
          · subst e; exact h
          · exact h1 i (by omega)
        · rw [unS_succ, unS_succ, h2, h]
        · rw [unS_succ, unS_succ]
          simp only
          rw [h2] at b1 ⊢
          rw [h] at b1 ⊢
          omega
      · exfalso
        have hm := sumN_mono (nterm xs (unS xs s k).1) (show unE xs s k + 1 ≤ unE xs r k from h)
        rw [h2] at b1
        have : sumN (nterm xs (unS xs s k).1) (unE xs s k + 1) = sumN (nterm xs (unS xs s k).1) (unE xs s k) + nterm xs (unS xs s k).1 (unE xs s k) := rfl
        omega
theorem lexUn {xs : List Int} {r s : Nat} (hrs : r < s) (hs : s < ends xs 0) : ∃ j, j < xs.length ∧ (∀ i, i < j → (unrL xs r).getD i 0 = (unrL xs s).getD i 0) ∧ (unrL xs r).getD j 0 < (unrL xs s).getD j 0 := by
  have hg : ∀ (q i : Nat), i < xs.length → (unrL xs q).getD i 0 = (unE xs q i : Int) := fun q i hi => by unfold unrL; rw [mkL_getD hi]
  rcases lexStep hrs hs xs.length (Nat.le_refl _) with ⟨j, h1, h2, h3⟩ | ⟨h1, h2, h3⟩
  · exact ⟨j, h1, fun i hi => by rw [hg _ _ (by omega), hg _ _ (by omega), h2 i hi], by rw [hg _ _ h1, hg _ _ h1]; omega⟩
  · exfalso
    have e : unrL xs r = unrL xs s := by unfold unrL; exact mkL_congr h1
    have := unr_inj (Nat.lt_trans hrs hs) hs e
    omega
/-- a list with a rank -/
theorem lwFacts {us : List Int} {t : Int} (h : okLW us t = true) : ∃ D : List Int, ∃ n : Nat, ansLW us t = D ∧ okLin us D = true ∧ ansRk us D = t ∧ D.length = n ∧ n ≤ 10 := by
  have h' := h
  simp only [okLW, Bool.and_eq_true, decide_eq_true_eq] at h'
  obtain ⟨hg, h1, h2⟩ := h'
  obtain ⟨r, rfl⟩ := Int.eq_ofNat_of_zero_le h1
  have hr : r < ends us 0 := by have : (r : Int) ≤ (ends us 0 : Int) - 1 := h2; omega
  have hl := okLin_unr hg hr
  refine ⟨unrL us r, us.length, by unfold ansLW; rw [if_pos h]; rfl, hl, ?_, unrL_length _ _, (good_length hg).2⟩
  unfold ansRk
  rw [if_pos hl, rank_unr hr]
/-- all lists -/
theorem alFacts {vs : List Int} (h : okAL vs = true) : ∃ N n : Nat, good vs = true ∧ ansN vs cntL = (N : Int) ∧ N ≤ 500 ∧ ansAL vs = rowsN (unrL vs) N ∧ n ≤ 10 ∧
    (∀ k, k < N → okLin vs (unrL vs k) = true ∧ (unrL vs k).length = n ∧ ∀ i, i + 1 = k → ∃ j, j < n ∧ (∀ l, l < j → (unrL vs i).getD l 0 = (unrL vs k).getD l 0) ∧ (unrL vs i).getD j 0 < (unrL vs k).getD j 0) := by
  have hg := (okAL_all h).1
  refine ⟨cntL vs, vs.length, hg, ansN_yes hg, (okAL_all h).2, ansAL_yes h, (good_length hg).2, fun k hk => ⟨okLin_unr hg hk, unrL_length _ _, fun i hi => ?_⟩⟩
  exact lexUn (by omega) hk
/-- when there are too many, or the poset is bad -/
theorem alNo {vs : List Int} (h : okAL vs = false) : ∃ N : Nat, ∃ b : Bool, good vs = b ∧ ansN vs cntL = (N : Int) ∧ (b = true → 500 < N) := by
  cases hg : good vs
  · exact ⟨0, false, rfl, ansN_no hg, fun e => by cases e⟩
  · refine ⟨cntL vs, true, rfl, ansN_yes hg, fun _ => ?_⟩
    rcases Nat.lt_or_ge 500 (cntL vs) with h1 | h1
    · exact h1
    · rw [okAL_yes hg h1] at h; cases h
/-- a rank's list -/
theorem rkFacts {zs ws : List Int} (h : okLin zs ws = true) : ∃ R n : Nat, ansRk zs ws = (R : Int) ∧ okLW zs (R : Int) = true ∧ ansLW zs (R : Int) = ws ∧ ws.length = n ∧ n ≤ 10 ∧ R < 10000000000 := by
  have hg := (okLin_all h).1
  have hX := okLin_X h
  have hr := hX.rank_lt
  have ho : okLW zs (rankN zs ws : Int) = true := by
    simp only [okLW, Bool.and_eq_true, decide_eq_true_eq]
    refine ⟨hg, by omega, ?_⟩
    show (rankN zs ws : Int) ≤ (ends zs 0 : Int) - 1
    omega
  refine ⟨rankN zs ws, ws.length, by unfold ansRk; rw [if_pos h], ho, ?_, rfl, by rw [hX.len]; exact (good_length hg).2, ?_⟩
  · unfold ansLW; rw [if_pos ho, Int.toNat_natCast, hX.unr]
  · have := ends_le (good_length hg).2 0; omega
theorem ansLW_bad {us : List Int} {t : Int} (h : okLW us t = false) : ansLW us t = [] := by unfold ansLW; rw [h]; rfl
theorem allFacts (vs : List Int) : ∃ (o b : Bool) (N P n : Nat), okAL vs = o ∧ good vs = b ∧ ansN vs cntL = (N : Int) ∧ ansAL vs = rowsN (unrL vs) P ∧ P ≤ 500 ∧ n ≤ 10 ∧ (o = true → b = true ∧ N = P) ∧ (o = false → P = 0 ∧ (b = true → 500 < N)) ∧
    (∀ k, k < P → okLin vs (unrL vs k) = true ∧ (unrL vs k).length = n ∧ ∀ i, i + 1 = k → ∃ j, j < n ∧ (∀ l, l < j → (unrL vs i).getD l 0 = (unrL vs k).getD l 0) ∧ (unrL vs i).getD j 0 < (unrL vs k).getD j 0) := by
  cases h : okAL vs
  · obtain ⟨N, b, h1, h2, h3⟩ := alNo h
    exact ⟨false, b, N, 0, 0, rfl, h1, h2, by unfold ansAL; rw [h]; rfl, by omega, by omega, (fun e => by cases e), (fun _ => ⟨rfl, h3⟩), fun k hk => by omega⟩
  · obtain ⟨N, n, h1, h2, h3, h4, h5, h6⟩ := alFacts h
    exact ⟨true, true, N, N, n, rfl, h1, h2, h4, h3, h5, fun _ => ⟨rfl, rfl⟩, fun e => (by cases e), h6⟩
end Go.Proofs.Ytpdoheagfjeefaa

/- ToggleLinear, PromoteLinear, EvacuateLinear, CoevacuateLinear of the program. -/
namespace Go.Proofs.Ytpdoheagfjeefaa
open Go.RowKit Go.WideShapes Go.ChangeShapes
set_option linter.unusedVariables false

theorem implToggleLinear_any (v : Value) (xs : List Int) (u : Value) (ws : List Int) (i : Int) (w : World) (hv : Ints w v xs) (hl : xs.length ≤ 1048576) (hu : Ints w u ws) (hm : ws.length ≤ 1048576) (wf : (Lit.int .i64 i).wf = true) :
    Calls Try.prog 47 #[.agg #[v], u, .int .i64 i] w fun (r : Ending) w' => ∃ q, r = Ending.returned (.tuple #[q, .bool (okTL xs ws i)]) ∧ OwnI 3 w' w.heap.size q (ansTL xs ws i) ∧ (ansTL xs ws i).length ≤ 1048576 ∧ Below w.heap.size w w' := by
  have HV := hid hv
  have HU := hid hu
  have HL := hid (ansTL_length xs ws i)
  obtain ⟨A, c, rfl, -⟩ := hu
  clear hv wf
  go_enter Try.func47, Try.ntmps47
  have HB := hid (below_alloc (Below.refl _ w) (.cells #[v] 26))
  have A0 := hid (At.newAt w v 26 w.heap.size (by simp))
  go_wp2_with fail
  refine (hasLinear_any _ _ xs ws _ (HV.out.below HB.out) hl (HU.out.below HB.out) hm).mono ?_
  rintro e w' ⟨rfl, hb⟩
  replace HB := hid (below_to HB.out hb)
  replace A0 := hid (A0.out.below hb)
  clear hb
  cases hq : okLin xs ws
  · have HO := hid (okTL_no1 (i := i) hq)
    clear hq
    have ebox0 := A0.out.1
    go_wp2
    go_ret2
    exact ⟨_, ret_vbL HO.out.symm, by rw [ansTL_no HO.out]; exact OwnI.nil _ _ _, HL.out, HB.out⟩
  · have HQ := hid hq
    have HLw := hid (okLin_Lw hq)
    have HG := hid (okLin_all hq).1
    clear hq
    have e2 : IntKind.i64.wrap ((ws.length : Int) - 2) = (ws.length : Int) - 2 := IntWalk.i64_in _ (by omega)
    by_cases h0 : i < 0
    · have HO := hid (okTL_no2 (xs := xs) (ws := ws) (i := i) (by rw [Bool.eq_false_iff]; simp; omega))
      have ebox0 := A0.out.1
      go_wp2
      go_ret2
      exact ⟨_, ret_vbL HO.out.symm, by rw [ansTL_no HO.out]; exact OwnI.nil _ _ _, HL.out, HB.out⟩
    · by_cases h2 : (ws.length : Int) - 2 < i
      · have HO := hid (okTL_no2 (xs := xs) (ws := ws) (i := i) (by rw [Bool.eq_false_iff]; simp; omega))
        have ebox0 := A0.out.1
        go_wp2
        go_ret2
        exact ⟨_, ret_vbL HO.out.symm, by rw [ansTL_no HO.out]; exact OwnI.nil _ _ _, HL.out, HB.out⟩
      · have HO := hid (okTL_yes HQ.out (i := i) (by simp; omega))
        have hz := HB.out.size
        obtain ⟨z, rfl⟩ := Int.eq_ofNat_of_zero_le (show 0 ≤ i by omega)
        have hz2 : z + 1 < xs.length := by have := HLw.out.len; omega
        have HY := hid (ansTL_yes HO.out)
        have ebox0 := A0.out.1
        go_wp2_with fail
        clear ebox0 e2 h0 h2
        refine (swapAt_any v xs z _ (HV.out.below HB.out) HG.out hz2).mono ?_
        rintro e w2 ⟨fn, caps, rfl, hS, hb2⟩
        have HS := hid hS
        have HU2 := hid ((HU.out.below HB.out).below hb2)
        have HB2 := hid (below_to HB.out hb2)
        have hz3 := HB2.out.size
        have hl10 := (good_length HG.out).2
        clear hS hb2
        go_wp2_with fail
        refine (swapped_any _ xs ws fn caps _ _ _ HU2.out HLw.out hl10 HS.out).mono ?_
        rintro e w3 ⟨q, rfl, ho, hb3⟩
        have HO3 := hid (ho.mono hz3)
        have HB3 := hid (below_to HB2.out hb3)
        clear ho hb3
        go_wp2
        go_ret2
        exact ⟨_, ret_vbL HO.out.symm, by rw [HY.out]; exact HO3.out, HL.out, HB3.out⟩
theorem implPromoteLinear_any (v : Value) (xs : List Int) (u : Value) (ws : List Int) (t : Int) (w : World) (hv : Ints w v xs) (hl : xs.length ≤ 1048576) (hu : Ints w u ws) (hm : ws.length ≤ 1048576) (wf : (Lit.int .i64 t).wf = true) :
    Calls Try.prog 22 #[.agg #[v], u, .int .i64 t] w fun (r : Ending) w' => ∃ q, r = Ending.returned (.tuple #[q, .bool (okPL xs ws t)]) ∧ OwnI 3 w' w.heap.size q (ansPL xs ws t) ∧ (ansPL xs ws t).length ≤ 1048576 ∧ Below w.heap.size w w' := by
  have HV := hid hv
  have HU := hid hu
  have HL := hid (ansPL_length xs ws t)
  obtain ⟨A, c, rfl, -⟩ := hu
  clear hv wf
  go_enter Try.func22, Try.ntmps22
  have HB := hid (below_alloc (Below.refl _ w) (.cells #[v] 26))
  have A0 := hid (At.newAt w v 26 w.heap.size (by simp))
  go_wp2_with fail
  refine (hasLinear_any _ _ xs ws _ (HV.out.below HB.out) hl (HU.out.below HB.out) hm).mono ?_
  rintro e w' ⟨rfl, hb⟩
  replace HB := hid (below_to HB.out hb)
  replace A0 := hid (A0.out.below hb)
  clear hb
  cases hq : okLin xs ws
  · have HO := hid (okPL_no1 (t := t) hq)
    clear hq
    have ebox0 := A0.out.1
    go_wp2
    go_ret2
    exact ⟨_, ret_vbL HO.out.symm, by rw [ansPL_no HO.out]; exact OwnI.nil _ _ _, HL.out, HB.out⟩
  · have HQ := hid hq
    have HLw := hid (okLin_Lw hq)
    have HG := hid (okLin_all hq).1
    clear hq
    by_cases h0 : t < -100
    · have HO := hid (okPL_no2 (xs := xs) (ws := ws) (t := t) (by rw [Bool.eq_false_iff]; simp; omega))
      have ebox0 := A0.out.1
      go_wp2
      go_ret2
      exact ⟨_, ret_vbL HO.out.symm, by rw [ansPL_no HO.out]; exact OwnI.nil _ _ _, HL.out, HB.out⟩
    · by_cases h2 : 100 < t
      · have HO := hid (okPL_no2 (xs := xs) (ws := ws) (t := t) (by rw [Bool.eq_false_iff]; simp; omega))
        have ebox0 := A0.out.1
        go_wp2
        go_ret2
        exact ⟨_, ret_vbL HO.out.symm, by rw [ansPL_no HO.out]; exact OwnI.nil _ _ _, HL.out, HB.out⟩
      · have HO := hid (okPL_yes HQ.out (t := t) (by simp; omega))
        have hz := HB.out.size
        have HY := hid (ansPL_yes HO.out)
        have ht1 : -100 ≤ t := by omega
        have ht2 : t ≤ 100 := by omega
        have ebox0 := A0.out.1
        go_wp2_with fail
        clear ebox0 h0 h2
        refine (promotions_any v xs t _ (HV.out.below HB.out) HG.out ht1 ht2).mono ?_
        rintro e w2 ⟨fn, caps, rfl, hS, hb2⟩
        have HS := hid hS
        have HU2 := hid ((HU.out.below HB.out).below hb2)
        have HB2 := hid (below_to HB.out hb2)
        have hz3 := HB2.out.size
        have hl10 := (good_length HG.out).2
        clear hS hb2
        go_wp2_with fail
        refine (swapped_any _ xs ws fn caps _ _ _ HU2.out HLw.out hl10 HS.out).mono ?_
        rintro e w3 ⟨q, rfl, ho, hb3⟩
        have HO3 := hid (ho.mono hz3)
        have HB3 := hid (below_to HB2.out hb3)
        clear ho hb3
        go_wp2
        go_ret2
        exact ⟨_, ret_vbL HO.out.symm, by rw [HY.out]; exact HO3.out, HL.out, HB3.out⟩
theorem implEvacuateLinear_any (v : Value) (xs : List Int) (u : Value) (ws : List Int) (w : World) (hv : Ints w v xs) (hl : xs.length ≤ 1048576) (hu : Ints w u ws) (hm : ws.length ≤ 1048576) :
    Calls Try.prog 10 #[.agg #[v], u] w fun (r : Ending) w' => ∃ q, r = Ending.returned (.tuple #[q, .bool (okLin xs ws)]) ∧ OwnI 3 w' w.heap.size q (ansEL xs ws) ∧ (ansEL xs ws).length ≤ 1048576 ∧ Below w.heap.size w w' := by
  have HV := hid hv
  have HU := hid hu
  have HL := hid (ansEL_length xs ws)
  obtain ⟨A, c, rfl, -⟩ := hu
  clear hv
  go_enter Try.func10, Try.ntmps10
  have HB := hid (below_alloc (Below.refl _ w) (.cells #[v] 26))
  have A0 := hid (At.newAt w v 26 w.heap.size (by simp))
  go_wp2_with fail
  refine (hasLinear_any _ _ xs ws _ (HV.out.below HB.out) hl (HU.out.below HB.out) hm).mono ?_
  rintro e w' ⟨rfl, hb⟩
  replace HB := hid (below_to HB.out hb)
  replace A0 := hid (A0.out.below hb)
  clear hb
  cases hq : okLin xs ws
  · have HO := hid hq
    clear hq
    have ebox0 := A0.out.1
    go_wp2
    go_ret2
    exact ⟨_, ret_vbL HO.out.symm, by rw [ansEL_no HO.out]; exact OwnI.nil _ _ _, HL.out, HB.out⟩
  · have HO := hid hq
    have HLw := hid (okLin_Lw hq)
    have HG := hid (okLin_all hq).1
    have HY := hid (ansEL_yes hq)
    clear hq
    have ebox0 := A0.out.1
    go_wp2_with fail
    clear ebox0
    refine (evacuation_any v xs _ (HV.out.below HB.out) HG.out).mono ?_
    rintro e w2 ⟨fn, caps, rfl, hS, hb2⟩
    have HS := hid hS
    have HU2 := hid ((HU.out.below HB.out).below hb2)
    have HB2 := hid (below_to HB.out hb2)
    have hz3 := HB2.out.size
    have hl10 := (good_length HG.out).2
    clear hS hb2
    go_wp2_with fail
    refine (swapped_any _ xs ws fn caps _ _ _ HU2.out HLw.out hl10 HS.out).mono ?_
    rintro e w3 ⟨q, rfl, ho, hb3⟩
    have HO3 := hid (ho.mono hz3)
    have HB3 := hid (below_to HB2.out hb3)
    clear ho hb3
    go_wp2
    go_ret2
    exact ⟨_, ret_vbL HO.out.symm, by rw [HY.out]; exact HO3.out, HL.out, HB3.out⟩
theorem implCoevacuateLinear_any (v : Value) (xs : List Int) (u : Value) (ws : List Int) (w : World) (hv : Ints w v xs) (hl : xs.length ≤ 1048576) (hu : Ints w u ws) (hm : ws.length ≤ 1048576) :
    Calls Try.prog 12 #[.agg #[v], u] w fun (r : Ending) w' => ∃ q, r = Ending.returned (.tuple #[q, .bool (okLin xs ws)]) ∧ OwnI 3 w' w.heap.size q (ansCL xs ws) ∧ (ansCL xs ws).length ≤ 1048576 ∧ Below w.heap.size w w' := by
  have HV := hid hv
  have HU := hid hu
  have HL := hid (ansCL_length xs ws)
  obtain ⟨A, c, rfl, -⟩ := hu
  clear hv
  go_enter Try.func12, Try.ntmps12
  have HB := hid (below_alloc (Below.refl _ w) (.cells #[v] 26))
  have A0 := hid (At.newAt w v 26 w.heap.size (by simp))
  go_wp2_with fail
  refine (hasLinear_any _ _ xs ws _ (HV.out.below HB.out) hl (HU.out.below HB.out) hm).mono ?_
  rintro e w' ⟨rfl, hb⟩
  replace HB := hid (below_to HB.out hb)
  replace A0 := hid (A0.out.below hb)
  clear hb
  cases hq : okLin xs ws
  · have HO := hid hq
    clear hq
    have ebox0 := A0.out.1
    go_wp2
    go_ret2
    exact ⟨_, ret_vbL HO.out.symm, by rw [ansCL_no HO.out]; exact OwnI.nil _ _ _, HL.out, HB.out⟩
  · have HO := hid hq
    have HLw := hid (okLin_Lw hq)
    have HG := hid (okLin_all hq).1
    have HY := hid (ansCL_yes hq)
    clear hq
    have ebox0 := A0.out.1
    go_wp2_with fail
    clear ebox0
    refine (coevacuation_any v xs _ (HV.out.below HB.out) HG.out).mono ?_
    rintro e w2 ⟨fn, caps, rfl, hS, hb2⟩
    have HS := hid hS
    have HU2 := hid ((HU.out.below HB.out).below hb2)
    have HB2 := hid (below_to HB.out hb2)
    have hz3 := HB2.out.size
    have hl10 := (good_length HG.out).2
    clear hS hb2
    go_wp2_with fail
    refine (swapped_any _ xs ws fn caps _ _ _ HU2.out HLw.out hl10 HS.out).mono ?_
    rintro e w3 ⟨q, rfl, ho, hb3⟩
    have HO3 := hid (ho.mono hz3)
    have HB3 := hid (below_to HB2.out hb3)
    clear ho hb3
    go_wp2
    go_ret2
    exact ⟨_, ret_vbL HO.out.symm, by rw [HY.out]; exact HO3.out, HL.out, HB3.out⟩
end Go.Proofs.Ytpdoheagfjeefaa
