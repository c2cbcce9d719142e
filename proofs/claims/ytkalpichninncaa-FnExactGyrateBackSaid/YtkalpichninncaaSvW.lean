/- Lists within bounds, turns and steps: both sides. -/
import Derived.Test.YtkalpichninncaaSvM
import Derived.Test.YtkalpichninncaaFun
namespace Go.Proofs.Ytkalpichninncaa
open Go.RowKit Go.WideShapes Go.ChangeShapes
set_option linter.unusedVariables false

theorem l1AllB_any (v : Value) (ys : List Int) (lo hi : Int) (w : World) (hv : Ints w v ys) (hl : ys.length ≤ 1048576) :
    Calls Try.prog 44 #[v, .int .i64 lo, .int .i64 hi] w fun r w' => r = .returned (.bool (allB lo hi ys)) ∧ w = w' := by
  obtain ⟨A, c, rfl, hA⟩ := hv
  have HA := hid hA
  clear hA
  go_enter Try.func44, Try.ntmps44
  go_wp2
  go_loop [11] (fun i => ∃ k : Nat, k ≤ ys.length ∧ i = .int .i64 k ∧ Hid (∀ j, j < k → (decide (lo ≤ ys.getD j 0) && decide (ys.getD j 0 ≤ hi)) = true)) (fun i => ys.length - (intOf i).toNat)
  case atStart => exact ⟨0, Nat.zero_le _, rfl, hid (fun j hj => absurd hj (Nat.not_lt_zero _))⟩
  case round =>
    obtain ⟨k, hk, rfl, Hk⟩ := hrel
    by_cases hlt : k < ys.length
    · obtain ⟨b, o, rfl, hb, hc⟩ := HA.out (by intro h; simp [h] at hlt)
      have hcell := hc k hlt
      clear hc
      obtain ⟨x, hx⟩ : ∃ x, ys.getD k 0 = x := ⟨_, rfl⟩
      rw [hx] at hcell
      have Hx := hid hx
      clear hx
      cases hq : (decide (lo ≤ x) && decide (x ≤ hi))
      · have HQ := hid hq
        have HN := hid (allB_not (lo := lo) (hi := hi) hlt (by rw [Hx.out]; exact hq))
        clear hq
        go_wp2_with (go_at_call 42; refine (l1In_any _ _ _ _).mono ?_; rw [HQ.out]; rintro e w' ⟨rfl, rfl⟩)
        go_ret
        exact ⟨ret_bool HN.out.symm, rfl⟩
      · have HQ := hid hq
        clear hq
        go_wp2_with (go_at_call 42; refine (l1In_any _ _ _ _).mono ?_; rw [HQ.out]; rintro e w' ⟨rfl, rfl⟩)
        go_round
        case rel => exact ⟨k + 1, by omega, by go_num, hid (fun j hj => by
          by_cases h : j = k
          · subst h; rw [Hx.out]; exact HQ.out
          · exact Hk.out j (by omega))⟩
        case measure => simp [intOf]; omega
    · obtain rfl : k = ys.length := by omega
      have HN := hid (allB_of (lo := lo) (hi := hi) Hk.out)
      go_wp2
      go_ret
      exact ⟨ret_bool HN.out.symm, rfl⟩
/-! ### the program's own -/
theorem withinClosure_any (y lo hi : Int) (a b : Nat) (w : World) (h1 : At w a (.int .i64 lo)) (h2 : At w b (.int .i64 hi)) :
    Calls Try.prog 70 #[.int .i64 y, .pointer (some ⟨a, 0, none⟩), .pointer (some ⟨b, 0, none⟩)] w fun r w' => r = .returned (.bool (!(decide (lo ≤ y) && decide (y ≤ hi)))) ∧ w = w' := by
  have hb1 := h1.1
  have hb2 := h2.1
  clear h1 h2
  by_cases c1 : y < lo
  · skip
    go_enter Try.func70, Try.ntmps70
    go_wp2
    go_ret
    exact ⟨ret_bool (by simp <;> omega), rfl⟩
  · by_cases c2 : hi < y
    · have e2 : ¬ lo > y := by omega
      go_enter Try.func70, Try.ntmps70
      go_wp2
      go_ret
      exact ⟨ret_bool (by simp <;> omega), rfl⟩
    · skip
      go_enter Try.func70, Try.ntmps70
      go_wp2
      go_ret
      exact ⟨ret_bool (by simp <;> omega), rfl⟩
theorem indexFuncW_any (u : Value) (ys : List Int) (lo hi : Int) (a b : Nat) (w : World) (hu : Ints w u ys) (hm : ys.length ≤ 1048576) (h1 : At w a (.int .i64 lo)) (h2 : At w b (.int .i64 hi)) :
    Calls Try.prog 88 #[u, .func (.func 70) #[] #[.pointer (some ⟨a, 0, none⟩), .pointer (some ⟨b, 0, none⟩)]] w fun (r : Ending) w' => ∃ i : Int, r = Ending.returned (.int .i64 i) ∧ Hid (decide (0 ≤ i) = !allB lo hi ys) ∧ -1 ≤ i ∧ i ≤ 1048576 ∧ w = w' := by
  have H1 := hid h1
  have H2 := hid h2
  obtain ⟨A, c, rfl, hA⟩ := hu
  have HA := hid hA
  clear hA h1 h2
  go_enter Try.func88, Try.ntmps88
  go_wp2
  go_loop [8] (fun i => ∃ k : Nat, k ≤ ys.length ∧ i = .int .i64 k ∧ Hid (∀ j, j < k → (decide (lo ≤ ys.getD j 0) && decide (ys.getD j 0 ≤ hi)) = true)) (fun i => ys.length - (intOf i).toNat)
  case atStart => exact ⟨0, Nat.zero_le _, rfl, hid (fun j hj => absurd hj (Nat.not_lt_zero _))⟩
  case round =>
    obtain ⟨k, hk, rfl, Hk⟩ := hrel
    by_cases hlt : k < ys.length
    · obtain ⟨g, o, rfl, hbl, hc⟩ := HA.out (by intro h; simp [h] at hlt)
      have hcell := hc k hlt
      obtain ⟨x, hx⟩ : ∃ x, ys.getD k 0 = x := ⟨_, rfl⟩
      rw [hx] at hcell
      have HX := hid hx
      clear hc hx
      go_wp2_with fail
      refine (withinClosure_any x lo hi a b _ H1.out H2.out).mono ?_
      rintro e w' ⟨rfl, rfl⟩
      clear hcell
      cases hq : (decide (lo ≤ x) && decide (x ≤ hi))
      · have HN := hid (allB_not (lo := lo) (hi := hi) hlt (by rw [HX.out]; exact hq))
        clear hq
        go_wp2
        go_ret
        exact ⟨_, rfl, hid (by rw [HN.out]; simp), by omega, by omega, rfl⟩
      · have HQ := hid hq
        clear hq
        go_wp2
        go_round
        case rel => exact ⟨k + 1, by omega, by go_num, hid (fun j hj => by
          by_cases h : j = k
          · subst h; rw [HX.out]; exact HQ.out
          · exact Hk.out j (by omega))⟩
        case measure => simp [intOf]; omega
    · obtain rfl : k = ys.length := by omega
      have HN := hid (allB_of (lo := lo) (hi := hi) Hk.out)
      go_wp2
      go_ret
      exact ⟨_, rfl, hid (by rw [HN.out]; rfl), by omega, by omega, rfl⟩
theorem containsFuncW_any (u : Value) (ys : List Int) (lo hi : Int) (a b : Nat) (w : World) (hu : Ints w u ys) (hm : ys.length ≤ 1048576) (h1 : At w a (.int .i64 lo)) (h2 : At w b (.int .i64 hi)) :
    Calls Try.prog 69 #[u, .func (.func 70) #[] #[.pointer (some ⟨a, 0, none⟩), .pointer (some ⟨b, 0, none⟩)]] w fun r w' => r = .returned (.bool (!allB lo hi ys)) ∧ w = w' := by
  have HU := hid hu
  have H1 := hid h1
  have H2 := hid h2
  clear hu h1 h2
  go_enter Try.func69, Try.ntmps69
  go_wp2_with fail
  refine (indexFuncW_any u ys lo hi a b _ HU.out hm H1.out H2.out).mono ?_
  rintro e w' ⟨i, rfl, HI, h1, h2, rfl⟩
  go_wp2
  go_ret
  exact ⟨ret_bool (by rw [← HI.out]), rfl⟩
theorem areWithin_any (u : Value) (ys : List Int) (lo hi : Int) (w : World) (hu : Ints w u ys) (hm : ys.length ≤ 1048576) :
    Calls Try.prog 46 #[u, .int .i64 lo, .int .i64 hi] w fun r w' => r = .returned (.bool (allB lo hi ys)) ∧ Below w.heap.size w w' := by
  have HU := hid hu
  obtain ⟨A2, c2, rfl, -⟩ := hu
  have H1 := hid ((At.newAt w (.int .i64 lo) 3 w.heap.size rfl).alloc (.cells #[.int .i64 hi] 3))
  have H2 := hid (At.newAt (w.alloc (.cells #[.int .i64 lo] 3)) (.int .i64 hi) 3 (w.heap.size + 1) (by simp))
  have HB := hid (below_alloc (below_alloc (Below.refl _ w) (.cells #[.int .i64 lo] 3)) (.cells #[.int .i64 hi] 3))
  go_enter Try.func46, Try.ntmps46
  go_wp2_with fail
  refine (containsFuncW_any _ ys lo hi _ _ _ ((HU.out.alloc _).alloc _) hm H1.out H2.out).mono ?_
  rintro e w' ⟨rfl, rfl⟩
  cases hq : allB lo hi ys
  · have HQ := hid hq
    clear hq
    go_wp2
    go_ret
    exact ⟨ret_bool HQ.out.symm, HB.out⟩
  · have HQ := hid hq
    clear hq
    go_wp2
    go_ret
    exact ⟨ret_bool HQ.out.symm, HB.out⟩
end Go.Proofs.Ytkalpichninncaa
