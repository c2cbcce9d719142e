/- Tableaux counted by the model. -/
import Derived.Test.YtbbkoagjplapkabCnt
namespace Go.Proofs.Ytbbkoagjplapkab
open Go.RowKit Go.WideShapes Go.ChangeShapes
set_option linter.unusedVariables false

set_option maxRecDepth 100000 in
set_option maxHeartbeats 3200000 in
theorem specCountTableaux_any (a b : Int) (w : World) (wa : (Lit.int .i64 a).wf = true) (wb : (Lit.int .i64 b).wf = true):
    Calls Try.prog 6 #[.int .i64 a, .int .i64 b] w fun (r : Ending) w' => r = Ending.returned (.tuple #[.int .i64 (cntT a b), .bool (sides a b)]) ∧ Below w.heap.size w w' := by
  have HSd := hid (shSides_any a b w)
  clear wa wb
  cases hs : sides a b
  · have HN := hid (cntT_no hs)
    rw [hs] at HSd
    clear hs
    go_enter Try.func6, Try.ntmps6
    go_wp2_with (go_at_call 15; refine HSd.out.mono ?_; rintro e w' ⟨rfl, rfl⟩)
    go_ret2
    exact ⟨ret_ibC HN.out.symm rfl, Below.refl _ _⟩
  · obtain ⟨x, y, rfl, rfl, h1, h2, h3, h4, h5⟩ := sides_nat hs
    have HAns := hid (cntT_yes hs)
    rw [hs] at HSd
    have hn0 : 0 < x * y := Nat.mul_pos h1 h3
    have hxy : (x : Int) * (y : Int) = ((x * y : Nat) : Int) := by rw [Int.natCast_mul]
    have HPos := hid (fun e he => hkP_pos (x := x) (y := y) e he)
    have HEPos := hid (fun e he => hkE_pos (x := x) (y := y) (e := e) he)
    have HMulD := hid (fun e => (Nat.div_div_eq_div_mul (facN (x * y)) (hkP x y e) (hkE x y e)))
    have HRc := hid (fun r c (hr : r < x) (hc : c < y) => (show y * r + c < x * y by
      have h1 := Nat.mul_le_mul_right y (show r + 1 ≤ x by omega)
      rw [Nat.add_mul, Nat.one_mul] at h1
      have h2 := Nat.mul_comm y r
      omega))
    have HEnd : Hid (∀ r, y * r + y = y * (r + 1)) := hid fun r => by rw [Nat.mul_add, Nat.mul_one]
    have HXY : Hid (y * x = x * y) := hid (Nat.mul_comm _ _)
    obtain ⟨n, hn⟩ : ∃ n, x * y = n := ⟨_, rfl⟩
    rw [hn] at HAns h5 hn0 hxy HPos HEPos HMulD HXY HRc
    clear hs hn
    go_enter Try.func6, Try.ntmps6
    go_wp2_with fail
    refine HSd.out.mono ?_
    rintro e w' ⟨rfl, rfl⟩
    go_wp2
    go_loopw [6, 7] (fun p i wr => ∃ k : Nat, 1 ≤ k ∧ k ≤ n ∧ p = .int .i64 (facN k : Nat) ∧ i = .int .i64 ((k : Int) + 1) ∧ w = wr) (fun _ i _ => n + 1 - (intOf i).toNat)
    case atStart => exact ⟨1, Nat.le_refl _, hn0, rfl, rfl, by first | rfl | trivial⟩
    case round =>
      obtain ⟨k, hk1, hk2, rfl, rfl, rfl⟩ := hrel
      have hf := facN_le (k := k) (by omega)
      have hm := facN_succ k
      by_cases hlt : k < n
      · have hf2 := facN_le (k := k + 1) (by omega)
        obtain ⟨q, hq⟩ : ∃ q, facN (k + 1) = q := ⟨_, rfl⟩
        have HQ := hid hq
        obtain ⟨p, hp⟩ : ∃ p, facN k = p := ⟨_, rfl⟩
        rw [hq] at hm hf2
        rw [hp] at hm hf
        rw [hp]
        have hki : (k : Int) + 1 ≤ (n : Int) := by omega
        clear hp hq
        go_wp2
        go_roundw
        case rel => exact ⟨k + 1, by omega, by omega, by rw [HQ.out], by go_num, by first | rfl | trivial⟩
        case measure => simp [intOf]; omega
      · have HK := hid (show k = n by omega)
        have hge : ¬ ((k : Int) + 1 ≤ (n : Int)) := by omega
        clear hlt hm
        go_wp2
        rw [HK.out]
        clear hge hk1 hk2 hf
        go_loopw [6, 8] (fun p i wr => ∃ r : Nat, r ≤ x ∧ p = .int .i64 (facN n / hkP x y (y * r) : Nat) ∧ i = .int .i64 (r : Int) ∧ w = wr) (fun _ i _ => x - (intOf i).toNat)
        case atStart => exact ⟨0, Nat.zero_le _, by rw [Nat.mul_zero]; simp [hkP], rfl, by first | rfl | trivial⟩
        case round =>
          obtain ⟨r, hr, rfl, rfl, rfl⟩ := hrel
          have hqb : facN n / hkP x y (y * r) ≤ 3628800 := Nat.le_trans (Nat.div_le_self _ _) (facN_le h5)
          by_cases hrl : r < x
          · have hri : (r : Int) < (x : Int) := by omega
            clear hqb
            go_wp2
            clear hri
            go_loopw [6, 9] (fun p i wr => ∃ c : Nat, c ≤ y ∧ p = .int .i64 (facN n / hkP x y (y * r + c) : Nat) ∧ i = .int .i64 (c : Int) ∧ w = wr) (fun _ i _ => y - (intOf i).toNat)
            case atStart => exact ⟨0, Nat.zero_le _, by rw [Nat.add_zero], rfl, by first | rfl | trivial⟩
            case round =>
              obtain ⟨c, hc, rfl, rfl, rfl⟩ := hrel
              have hqb : facN n / hkP x y (y * r + c) ≤ 3628800 := Nat.le_trans (Nat.div_le_self _ _) (facN_le h5)
              by_cases hcl : c < y
              · have hci : (c : Int) < (y : Int) := by omega
                have hEp := HEPos.out (y * r + c) (HRc.out r c hrl hcl)
                have hEa := hkE_at hrl hcl
                have hd := tdiv_natC (facN n / hkP x y (y * r + c)) (hkE x y (y * r + c))
                have hdm := HMulD.out (y * r + c)
                have hst : hkP x y (y * r + (c + 1)) = hkP x y (y * r + c) * hkE x y (y * r + c) := rfl
                rw [hdm, ← hst] at hd
                have HSt : Hid (∀ W : Nat, facN n / hkP x y (y * r + (c + 1)) = W → W = facN n / hkP x y (y * r + (c + 1))) := hid fun W h => h.symm
                have hq2 : facN n / hkP x y (y * r + (c + 1)) ≤ 3628800 := Nat.le_trans (Nat.div_le_self _ _) (facN_le h5)
                obtain ⟨q2, hqq⟩ : ∃ q2, facN n / hkP x y (y * r + (c + 1)) = q2 := ⟨_, rfl⟩
                obtain ⟨q, hq⟩ : ∃ q, facN n / hkP x y (y * r + c) = q := ⟨_, rfl⟩
                obtain ⟨h, hh⟩ : ∃ h, hkE x y (y * r + c) = h := ⟨_, rfl⟩
                rw [hqq] at hd hq2
                rw [hq] at hd hqb ⊢
                rw [hh] at hd hEp hEa
                have hhe : (x : Int) - (r : Int) + (y : Int) - (c : Int) - 1 = (h : Int) := by omega
                have hh1 : ¬ (h : Int) = 0 := by omega
                have hh2 : ((h : Int) == 0) = false := by rw [beq_eq_false_iff_ne]; omega
                have hhp : (0 : Int) < h := by omega
                have hwq : IntKind.i64.wrap (q2 : Int) = (q2 : Int) := IntWalk.i64_in _ (by omega)
                have HQ2 := hid hqq
                clear hqq hq hh hdm hst HSt hEa
                go_wp2
                go_roundw
                case rel => exact ⟨c + 1, by omega, by rw [HQ2.out], by go_num, by first | rfl | trivial⟩
                case measure => simp [intOf]; omega
              · have Hc := hid (show c = y by omega)
                have hci : ¬ (c : Int) < (y : Int) := by omega
                clear hcl hqb
                go_wp2
                go_roundw
                case rel => exact ⟨r + 1, by omega, by rw [Hc.out, HEnd.out], by go_num, by first | rfl | trivial⟩
                case measure => simp [intOf]; omega
          · have Hr := hid (show r = x by omega)
            have hri : ¬ (r : Int) < (x : Int) := by omega
            clear hrl hqb
            go_wp2
            go_ret2
            exact ⟨ret_ibC (by rw [HAns.out, Hr.out, HXY.out]; simp) rfl, Below.refl _ _⟩
end Go.Proofs.Ytbbkoagjplapkab
