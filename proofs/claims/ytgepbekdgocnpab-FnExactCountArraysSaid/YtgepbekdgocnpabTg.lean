/- Words of toggles: the model's and the program's contracts. -/
import Derived.Test.YtgepbekdgocnpabMot
namespace Go.Proofs.Ytgepbekdgocnpab
open Go.RowKit Go.WideShapes Go.ChangeShapes
set_option linter.unusedVariables false

theorem allIn_of {n : Nat} {ys : List Int} (h : ∀ j, j < ys.length → (decide (0 ≤ ys.getD j 0) && decide (ys.getD j 0 ≤ (n : Int) - 1)) = true) : inW n ys = true :=
  inW_of fun j hj => by
    have := h j hj
    simp only [Bool.and_eq_true, decide_eq_true_eq] at this
    omega
theorem not_inW' {n : Nat} {ys : List Int} {j : Nat} (hj : j < ys.length) (h : (decide (0 ≤ ys.getD j 0) && decide (ys.getD j 0 ≤ (n : Int) - 1)) = false) : inW n ys = false :=
  not_inW hj fun hc => by
    rw [Bool.eq_false_iff] at h
    apply h
    simp only [Bool.and_eq_true, decide_eq_true_eq]
    omega
theorem l1All_same (v : Value) (ys : List Int) (n : Nat) (w : World) (hv : Ints w v ys) (hl : ys.length ≤ 1048576) (hn : n ≤ 1048576) :
    Calls Try.prog 77 #[v, .int .i64 0, .int .i64 ((n : Int) - 1)] w fun r w' => r = .returned (.bool (inW n ys)) ∧ w = w' := by
  obtain ⟨A, c, rfl, hA⟩ := hv
  have HA := hid hA
  clear hA
  go_enter Try.func77, Try.ntmps77
  go_wp2
  go_loop [11] (fun i => ∃ k : Nat, k ≤ ys.length ∧ i = .int .i64 k ∧ Hid (∀ j, j < k → (decide (0 ≤ ys.getD j 0) && decide (ys.getD j 0 ≤ (n : Int) - 1)) = true)) (fun i => ys.length - (intOf i).toNat)
  case atStart => exact ⟨0, Nat.zero_le _, rfl, hid (fun j hj => absurd hj (Nat.not_lt_zero _))⟩
  case round =>
    obtain ⟨k, hk, rfl, Hk⟩ := hrel
    by_cases hlt : k < ys.length
    · obtain ⟨b, o, rfl, hb, hc⟩ := HA.out (by intro h; simp [h] at hlt)
      have hcell := hc k hlt
      clear hc
      obtain ⟨x, hx⟩ : ∃ x, ys.getD k 0 = x := ⟨_, rfl⟩
      rw [hx] at hcell
      have Hx := hid hx
      clear hx
      cases hq : (decide (0 ≤ x) && decide (x ≤ (n : Int) - 1))
      · have HQ := hid hq
        have HN := hid (not_inW' (n := n) hlt (by rw [Hx.out]; exact hq))
        clear hq
        go_wp2_with (go_at_call 55; refine (l1In_any _ _ _ _).mono ?_; rw [HQ.out]; rintro e w' ⟨rfl, rfl⟩)
        go_ret
        exact ⟨ret_bool HN.out.symm, rfl⟩
      · have HQ := hid hq
        clear hq
        go_wp2_with (go_at_call 55; refine (l1In_any _ _ _ _).mono ?_; rw [HQ.out]; rintro e w' ⟨rfl, rfl⟩)
        go_round
        case rel => exact ⟨k + 1, by omega, by go_num, hid (fun j hj => by
          by_cases h : j = k
          · subst h; rw [Hx.out]; exact HQ.out
          · exact Hk.out j (by omega))⟩
        case measure => simp [intOf]; omega
    · obtain rfl : k = ys.length := by omega
      have HN := hid (allIn_of (n := n) Hk.out)
      go_wp2
      go_ret
      exact ⟨ret_bool HN.out.symm, rfl⟩
theorem l1All_any (v : Value) (ys : List Int) (n : Nat) (w : World) (hv : Ints w v ys) (hl : ys.length ≤ 1048576) (hn : n ≤ 1048576) :
    Calls Try.prog 77 #[v, .int .i64 0, .int .i64 ((n : Int) - 1)] w fun r w' => r = .returned (.bool (inW n ys)) ∧ Below w.heap.size w w' :=
  (l1All_same v ys n w hv hl hn).mono fun _ _ ⟨h1, h2⟩ => ⟨h1, h2 ▸ Below.refl _ _⟩
theorem okWord_long {xs ys : List Int} (h : ¬ ys.length ≤ 100) : okWord xs ys = false := by simp [okWord, h]
theorem okWord_short {xs ys : List Int} (h : ys.length ≤ 100) : okWord xs ys = inW xs.length ys := by simp [okWord, h]
end Go.Proofs.Ytgepbekdgocnpab
