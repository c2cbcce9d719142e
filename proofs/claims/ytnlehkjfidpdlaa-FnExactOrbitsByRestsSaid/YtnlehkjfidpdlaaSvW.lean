/- Lists within bounds, turns and steps: both sides. -/
import Derived.Test.YtnlehkjfidpdlaaSvM
import Derived.Test.YtnlehkjfidpdlaaFun
namespace Go.Proofs.Ytnlehkjfidpdlaa
open Go.RowKit Go.WideShapes Go.ChangeShapes
set_option linter.unusedVariables false

theorem isTurn_any (n : Int) (w : World) : Calls Try.prog 37 #[.int .i64 n] w fun r w' => r = .returned (.bool (tnB n)) ∧ w = w' := by
  go_enter Try.func37, Try.ntmps37
  go_wp2
  all_goals go_ret
  all_goals exact ⟨ret_bool (by simp [tnB] <;> omega), rfl⟩
theorem areSteps_any (n : Int) (w : World) : Calls Try.prog 39 #[.int .i64 n] w fun r w' => r = .returned (.bool (stB n)) ∧ w = w' := by
  go_enter Try.func39, Try.ntmps39
  go_wp2
  all_goals go_ret
  all_goals exact ⟨ret_bool (by simp [stB] <;> omega), rfl⟩
theorem l1AllB_any (v : Value) (ys : List Int) (lo hi : Int) (w : World) (hv : Ints w v ys) (hl : ys.length ≤ 1048576) :
    Calls Try.prog 35 #[v, .int .i64 lo, .int .i64 hi] w fun r w' => r = .returned (.bool (allB lo hi ys)) ∧ w = w' := by
  obtain ⟨A, c, rfl, hA⟩ := hv
  have HA := hid hA
  clear hA
  go_enter Try.func35, Try.ntmps35
  go_wp2
  go_loop [11] (fun i => ∃ k : Nat, k ≤ ys.length ∧ i = .int .i64 k ∧ Hid (∀ j, j < k → (decide (lo ≤ ys.getD j 0) && decide (ys.getD j 0 ≤ hi)) = true)) (fun i => ys.length - (intOf i).toNat)
  case atStart => exact ⟨0, Nat.zero_le _, rfl, hid (fun j hj => absurd hj (Nat.not_lt_zero _))⟩
  case round =>
    obtain ⟨k, hk, rfl, Hk⟩ := hrel
    by_cases hlt : k < ys.length
    · obtain ⟨b, o, rfl, hb, hc⟩ := HA.out (by intro h; simp [h] at hlt)
      have hcell := hc k hlt
      clear hc
      obtain ⟨x, hx⟩ : ∃ x, ys.getD k 0 = x := ⟨_, rfl⟩
      rw [hx] at hcell
      have Hx := hid hx
      clear hx
      cases hq : (decide (lo ≤ x) && decide (x ≤ hi))
      · have HQ := hid hq
        have HN := hid (allB_not (lo := lo) (hi := hi) hlt (by rw [Hx.out]; exact hq))
        clear hq
        go_wp2_with (go_at_call 34; refine (l1In_any _ _ _ _).mono ?_; rw [HQ.out]; rintro e w' ⟨rfl, rfl⟩)
        go_ret
        exact ⟨ret_bool HN.out.symm, rfl⟩
      · have HQ := hid hq
        clear hq
        go_wp2_with (go_at_call 34; refine (l1In_any _ _ _ _).mono ?_; rw [HQ.out]; rintro e w' ⟨rfl, rfl⟩)
        go_round
        case rel => exact ⟨k + 1, by omega, by go_num, hid (fun j hj => by
          by_cases h : j = k
          · subst h; rw [Hx.out]; exact HQ.out
          · exact Hk.out j (by omega))⟩
        case measure => simp [intOf]; omega
    · obtain rfl : k = ys.length := by omega
      have HN := hid (allB_of (lo := lo) (hi := hi) Hk.out)
      go_wp2
      go_ret
      exact ⟨ret_bool HN.out.symm, rfl⟩
theorem svRests_any (v : Value) (rs : List Int) (w : World) (hv : Ints w v rs) (hl : rs.length ≤ 1048576) :
    Calls Try.prog 43 #[v] w fun r w' => r = .returned (.bool (restB rs)) ∧ w = w' := by
  have HV := hid hv
  obtain ⟨A, c, rfl, -⟩ := hv
  cases hn : (decide (1 ≤ (rs.length : Int)) && decide ((rs.length : Int) ≤ 60))
  · have HQ := hid hn
    have HO : Hid (restB rs = false) := hid (by rw [restB_eq]; unfold tnB; rw [hn]; rfl)
    clear hn
    go_enter Try.func43, Try.ntmps43
    go_wp2_with (go_at_call 34; refine (l1In_any _ _ _ _).mono ?_; rw [HQ.out]; rintro e w' ⟨rfl, rfl⟩)
    go_ret
    exact ⟨ret_bool HO.out.symm, rfl⟩
  · have HQ := hid hn
    have HO : Hid (restB rs = allB 0 100000000 rs) := hid (by rw [restB_eq]; unfold tnB; rw [hn]; rfl)
    clear hn
    go_enter Try.func43, Try.ntmps43
    go_wp2_with (first | (go_at_call 34; refine (l1In_any _ _ _ _).mono ?_; rw [HQ.out]; rintro e w' ⟨rfl, rfl⟩) | (go_at_call 35; refine (l1AllB_any _ rs _ _ _ HV.out hl).mono ?_; rintro e w' ⟨rfl, rfl⟩))
    go_ret
    exact ⟨ret_bool HO.out.symm, rfl⟩

/-! ### the program's own -/
theorem withinClosure_any (y lo hi : Int) (a b : Nat) (w : World) (h1 : At w a (.int .i64 lo)) (h2 : At w b (.int .i64 hi)) :
    Calls Try.prog 57 #[.int .i64 y, .pointer (some ⟨a, 0, none⟩), .pointer (some ⟨b, 0, none⟩)] w fun r w' => r = .returned (.bool (!(decide (lo ≤ y) && decide (y ≤ hi)))) ∧ w = w' := by
  have hb1 := h1.1
  have hb2 := h2.1
  clear h1 h2
  by_cases c1 : y < lo
  · skip
    go_enter Try.func57, Try.ntmps57
    go_wp2
    go_ret
    exact ⟨ret_bool (by simp <;> omega), rfl⟩
  · by_cases c2 : hi < y
    · have e2 : ¬ lo > y := by omega
      go_enter Try.func57, Try.ntmps57
      go_wp2
      go_ret
      exact ⟨ret_bool (by simp <;> omega), rfl⟩
    · skip
      go_enter Try.func57, Try.ntmps57
      go_wp2
      go_ret
      exact ⟨ret_bool (by simp <;> omega), rfl⟩
theorem indexFuncW_any (u : Value) (ys : List Int) (lo hi : Int) (a b : Nat) (w : World) (hu : Ints w u ys) (hm : ys.length ≤ 1048576) (h1 : At w a (.int .i64 lo)) (h2 : At w b (.int .i64 hi)) :
    Calls Try.prog 58 #[u, .func (.func 57) #[] #[.pointer (some ⟨a, 0, none⟩), .pointer (some ⟨b, 0, none⟩)]] w fun (r : Ending) w' => ∃ i : Int, r = Ending.returned (.int .i64 i) ∧ Hid (decide (0 ≤ i) = !allB lo hi ys) ∧ -1 ≤ i ∧ i ≤ 1048576 ∧ w = w' := by
  have H1 := hid h1
  have H2 := hid h2
  obtain ⟨A, c, rfl, hA⟩ := hu
  have HA := hid hA
  clear hA h1 h2
  go_enter Try.func58, Try.ntmps58
  go_wp2
  go_loop [8] (fun i => ∃ k : Nat, k ≤ ys.length ∧ i = .int .i64 k ∧ Hid (∀ j, j < k → (decide (lo ≤ ys.getD j 0) && decide (ys.getD j 0 ≤ hi)) = true)) (fun i => ys.length - (intOf i).toNat)
  case atStart => exact ⟨0, Nat.zero_le _, rfl, hid (fun j hj => absurd hj (Nat.not_lt_zero _))⟩
  case round =>
    obtain ⟨k, hk, rfl, Hk⟩ := hrel
    by_cases hlt : k < ys.length
    · obtain ⟨g, o, rfl, hbl, hc⟩ := HA.out (by intro h; simp [h] at hlt)
      have hcell := hc k hlt
      obtain ⟨x, hx⟩ : ∃ x, ys.getD k 0 = x := ⟨_, rfl⟩
      rw [hx] at hcell
      have HX := hid hx
      clear hc hx
      go_wp2_with fail
      refine (withinClosure_any x lo hi a b _ H1.out H2.out).mono ?_
      rintro e w' ⟨rfl, rfl⟩
      clear hcell
      cases hq : (decide (lo ≤ x) && decide (x ≤ hi))
      · have HN := hid (allB_not (lo := lo) (hi := hi) hlt (by rw [HX.out]; exact hq))
        clear hq
        go_wp2
        go_ret
        exact ⟨_, rfl, hid (by rw [HN.out]; simp), by omega, by omega, rfl⟩
      · have HQ := hid hq
        clear hq
        go_wp2
        go_round
        case rel => exact ⟨k + 1, by omega, by go_num, hid (fun j hj => by
          by_cases h : j = k
          · subst h; rw [HX.out]; exact HQ.out
          · exact Hk.out j (by omega))⟩
        case measure => simp [intOf]; omega
    · obtain rfl : k = ys.length := by omega
      have HN := hid (allB_of (lo := lo) (hi := hi) Hk.out)
      go_wp2
      go_ret
      exact ⟨_, rfl, hid (by rw [HN.out]; rfl), by omega, by omega, rfl⟩
theorem containsFuncW_any (u : Value) (ys : List Int) (lo hi : Int) (a b : Nat) (w : World) (hu : Ints w u ys) (hm : ys.length ≤ 1048576) (h1 : At w a (.int .i64 lo)) (h2 : At w b (.int .i64 hi)) :
    Calls Try.prog 56 #[u, .func (.func 57) #[] #[.pointer (some ⟨a, 0, none⟩), .pointer (some ⟨b, 0, none⟩)]] w fun r w' => r = .returned (.bool (!allB lo hi ys)) ∧ w = w' := by
  have HU := hid hu
  have H1 := hid h1
  have H2 := hid h2
  clear hu h1 h2
  go_enter Try.func56, Try.ntmps56
  go_wp2_with fail
  refine (indexFuncW_any u ys lo hi a b _ HU.out hm H1.out H2.out).mono ?_
  rintro e w' ⟨i, rfl, HI, h1, h2, rfl⟩
  go_wp2
  go_ret
  exact ⟨ret_bool (by rw [← HI.out]), rfl⟩
theorem areWithin_any (u : Value) (ys : List Int) (lo hi : Int) (w : World) (hu : Ints w u ys) (hm : ys.length ≤ 1048576) :
    Calls Try.prog 54 #[u, .int .i64 lo, .int .i64 hi] w fun r w' => r = .returned (.bool (allB lo hi ys)) ∧ Below w.heap.size w w' := by
  have HU := hid hu
  obtain ⟨A2, c2, rfl, -⟩ := hu
  have H1 := hid ((At.newAt w (.int .i64 lo) 3 w.heap.size rfl).alloc (.cells #[.int .i64 hi] 3))
  have H2 := hid (At.newAt (w.alloc (.cells #[.int .i64 lo] 3)) (.int .i64 hi) 3 (w.heap.size + 1) (by simp))
  have HB := hid (below_alloc (below_alloc (Below.refl _ w) (.cells #[.int .i64 lo] 3)) (.cells #[.int .i64 hi] 3))
  go_enter Try.func54, Try.ntmps54
  go_wp2_with fail
  refine (containsFuncW_any _ ys lo hi _ _ _ ((HU.out.alloc _).alloc _) hm H1.out H2.out).mono ?_
  rintro e w' ⟨rfl, rfl⟩
  cases hq : allB lo hi ys
  · have HQ := hid hq
    clear hq
    go_wp2
    go_ret
    exact ⟨ret_bool HQ.out.symm, HB.out⟩
  · have HQ := hid hq
    clear hq
    go_wp2
    go_ret
    exact ⟨ret_bool HQ.out.symm, HB.out⟩
theorem areRests_any (v : Value) (rs : List Int) (w : World) (hv : Ints w v rs) (hl : rs.length ≤ 1048576) :
    Calls Try.prog 45 #[v] w fun r w' => r = .returned (.bool (restB rs)) ∧ Below w.heap.size w w' := by
  have HV := hid hv
  obtain ⟨A, c, rfl, -⟩ := hv
  cases hn : tnB (rs.length : Int)
  · have HQ := hid hn
    have HO : Hid (restB rs = false) := hid (by rw [restB_eq, hn]; rfl)
    clear hn
    go_enter Try.func45, Try.ntmps45
    go_wp2_with (go_at_call 37; refine (isTurn_any _ _).mono ?_; rw [HQ.out]; rintro e w' ⟨rfl, rfl⟩)
    go_ret
    exact ⟨ret_bool HO.out.symm, Below.refl _ _⟩
  · have HQ := hid hn
    have HO : Hid (restB rs = allB 0 100000000 rs) := hid (by rw [restB_eq, hn]; rfl)
    clear hn
    go_enter Try.func45, Try.ntmps45
    go_wp2_with (go_at_call 37; refine (isTurn_any _ _).mono ?_; rw [HQ.out]; rintro e w' ⟨rfl, rfl⟩)
    refine (areWithin_any _ rs _ _ _ HV.out hl).mono ?_
    rintro e w' ⟨rfl, hb⟩
    have HB := hid hb
    clear hb
    go_wp2
    go_ret
    exact ⟨ret_bool HO.out.symm, HB.out⟩
theorem areStabilizers_any (v : Value) (ss : List Int) (w : World) (hv : Ints w v ss) (hl : ss.length ≤ 1048576) :
    Calls Try.prog 47 #[v] w fun r w' => r = .returned (.bool (decide ((ss.length : Int) ≤ 1000) && allB 1 60 ss)) ∧ Below w.heap.size w w' := by
  have HV := hid hv
  obtain ⟨A, c, rfl, -⟩ := hv
  by_cases hn : (ss.length : Int) ≤ 1000
  · have HQ := hid hn
    have hd : decide ((ss.length : Int) ≤ 1000) = true := decide_eq_true hn
    rw [hd]
    go_enter Try.func47, Try.ntmps47
    go_wp2_with fail
    refine (areWithin_any _ ss _ _ _ HV.out hl).mono ?_
    rintro e w' ⟨rfl, hb⟩
    have HB := hid hb
    clear hb
    go_wp2
    go_ret
    exact ⟨rfl, HB.out⟩
  · have hd : decide ((ss.length : Int) ≤ 1000) = false := decide_eq_false hn
    rw [hd]
    go_enter Try.func47, Try.ntmps47
    go_wp2
    go_ret
    exact ⟨rfl, Below.refl _ _⟩
theorem areCoefficients_any (v : Value) (cs : List Int) (w : World) (hv : Ints w v cs) (hl : cs.length ≤ 1048576) :
    Calls Try.prog 36 #[v] w fun r w' => r = .returned (.bool ((decide (1 ≤ (cs.length : Int)) && decide ((cs.length : Int) ≤ 100)) && allB 0 1000000 cs)) ∧ Below w.heap.size w w' := by
  have HV := hid hv
  obtain ⟨A, c, rfl, -⟩ := hv
  by_cases h1 : (1 : Int) ≤ (cs.length : Int)
  · have d1 : decide ((1 : Int) ≤ (cs.length : Int)) = true := decide_eq_true h1
    by_cases hn : (cs.length : Int) ≤ 100
    · have hd : decide ((cs.length : Int) ≤ 100) = true := decide_eq_true hn
      rw [d1, hd]
      clear d1 hd
      go_enter Try.func36, Try.ntmps36
      go_wp2_with fail
      refine (areWithin_any _ cs _ _ _ HV.out hl).mono ?_
      rintro e w' ⟨rfl, hb⟩
      have HB := hid hb
      clear hb
      go_wp2
      go_ret
      exact ⟨rfl, HB.out⟩
    · have hd : decide ((cs.length : Int) ≤ 100) = false := decide_eq_false hn
      rw [d1, hd]
      clear d1 hd
      go_enter Try.func36, Try.ntmps36
      go_wp2
      go_ret
      exact ⟨rfl, Below.refl _ _⟩
  · have d1 : decide ((1 : Int) ≤ (cs.length : Int)) = false := decide_eq_false h1
    rw [d1]
    clear d1
    go_enter Try.func36, Try.ntmps36
    go_wp2
    go_ret
    exact ⟨rfl, Below.refl _ _⟩
end Go.Proofs.Ytnlehkjfidpdlaa
