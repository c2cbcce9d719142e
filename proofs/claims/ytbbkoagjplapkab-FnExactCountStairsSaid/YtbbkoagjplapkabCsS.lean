/- Staircases' linear extensions counted by the model. -/
import Derived.Test.YtbbkoagjplapkabFac
namespace Go.Proofs.Ytbbkoagjplapkab
open Go.RowKit Go.WideShapes Go.ChangeShapes
set_option linter.unusedVariables false

theorem stN_bnd {m : Nat} (h1 : 1 ≤ m) (h2 : m ≤ 4) : m * (m + 1) / 2 ≤ 10 ∧ 1 ≤ m * (m + 1) / 2 ∧ m * (m + 1) ≤ 20 := by
  have : ∀ m, m < 5 → 1 ≤ m → m * (m + 1) / 2 ≤ 10 ∧ 1 ≤ m * (m + 1) / 2 ∧ m * (m + 1) ≤ 20 := by decide
  exact this m (by omega) h1
set_option maxRecDepth 100000 in
set_option maxHeartbeats 3200000 in
theorem specCountStairs_any (n : Int) (w : World) (wf : (Lit.int .i64 n).wf = true) :
    Calls Try.prog 8 #[.int .i64 n] w fun (r : Ending) w' => r = Ending.returned (.tuple #[.int .i64 (cntS n), .bool (decide (1 ≤ n) && decide (n ≤ 4))]) ∧ Below w.heap.size w w' := by
  have HIn := hid (l1In_any n 1 4 w)
  clear wf
  cases hs : (decide (1 ≤ n) && decide (n ≤ 4))
  · have HN := hid (cntS_no hs)
    rw [hs] at HIn
    clear hs
    go_enter Try.func8, Try.ntmps8
    go_wp2_with fail
    refine HIn.out.mono ?_
    rintro e w' ⟨rfl, rfl⟩
    go_wp2
    go_ret2
    exact ⟨ret_ibC HN.out.symm rfl, Below.refl _ _⟩
  · have hs' : 1 ≤ n ∧ n ≤ 4 := by simpa using hs
    obtain ⟨m, rfl⟩ := Int.eq_ofNat_of_zero_le (show 0 ≤ n by omega)
    have h1 : 1 ≤ m := by omega
    have h2 : m ≤ 4 := by omega
    have HAns := hid (cntS_yes hs)
    obtain ⟨hl10, hl1, hl20⟩ := stN_bnd h1 h2
    have hmm : (m : Int) * ((m : Int) + 1) = ((m * (m + 1) : Nat) : Int) := by rw [Int.natCast_mul]; rfl
    have hdv : (((m * (m + 1) : Nat) : Int)).tdiv 2 = ((m * (m + 1) / 2 : Nat) : Int) := tdiv_natC _ 2
    rw [hs] at HIn
    obtain ⟨N, hN⟩ : ∃ N, m * (m + 1) / 2 = N := ⟨_, rfl⟩
    obtain ⟨M, hM⟩ : ∃ M, m * (m + 1) = M := ⟨_, rfl⟩
    rw [hN] at HAns hl10 hl1 hdv
    rw [hM] at hl20 hmm hdv
    have hdv2 : (M : Int) / 2 = (N : Int) := by rw [← hN, ← hM]; simp
    clear hs hs' hN hM
    go_enter Try.func8, Try.ntmps8
    go_wp2_with fail
    refine HIn.out.mono ?_
    rintro e w' ⟨rfl, rfl⟩
    go_wp2
    go_loopw [4, 5] (fun p i wr => ∃ k : Nat, 1 ≤ k ∧ k ≤ N ∧ p = .int .i64 (facN k : Nat) ∧ i = .int .i64 ((k : Int) + 1) ∧ w = wr) (fun _ i _ => N + 1 - (intOf i).toNat)
    case atStart => exact ⟨1, Nat.le_refl _, hl1, rfl, rfl, by first | rfl | trivial⟩
    case round =>
      obtain ⟨k, hk1, hk2, rfl, rfl, rfl⟩ := hrel
      have hf := facN_le (k := k) (by omega)
      have hm := facN_succ k
      by_cases hlt : k < N
      · have hf2 := facN_le (k := k + 1) (by omega)
        obtain ⟨q, hq⟩ : ∃ q, facN (k + 1) = q := ⟨_, rfl⟩
        have HQ := hid hq
        obtain ⟨p, hp⟩ : ∃ p, facN k = p := ⟨_, rfl⟩
        rw [hq] at hm hf2
        rw [hp] at hm hf
        rw [hp]
        have hki : (k : Int) + 1 ≤ (N : Int) := by omega
        clear hp hq
        go_wp2
        go_roundw
        case rel => exact ⟨k + 1, by omega, by omega, by rw [HQ.out], by go_num, by first | rfl | trivial⟩
        case measure => simp [intOf]; omega
      · have HK := hid (show k = N by omega)
        have hge : ¬ ((k : Int) + 1 ≤ (N : Int)) := by omega
        clear hlt hm
        go_wp2
        rw [HK.out]
        clear hge hk1 hk2 hf hmm hdv hdv2
        go_loopw [4, 6] (fun p i wr => ∃ k : Nat, k ≤ m ∧ p = .int .i64 (facN N / stP m k : Nat) ∧ i = .int .i64 ((k : Int) + 1) ∧ w = wr) (fun _ i _ => m + 1 - (intOf i).toNat)
        case atStart => exact ⟨0, Nat.zero_le _, by simp [stP], rfl, by first | rfl | trivial⟩
        case round =>
          obtain ⟨r, hr, rfl, rfl, rfl⟩ := hrel
          by_cases hrl : r < m
          · have hri : (r : Int) + 1 ≤ (m : Int) := by omega
            obtain ⟨d, hd⟩ : ∃ d, m - r = d := ⟨_, rfl⟩
            have hd4 : d ≤ 4 := by omega
            go_wp2
            clear hri
            go_loopw [4, 7] (fun p i wr => ∃ c : Nat, c ≤ d ∧ p = .int .i64 (facN N / stQ m r c : Nat) ∧ i = .int .i64 (c : Int) ∧ w = wr) (fun _ i _ => d - (intOf i).toNat)
            case atStart => exact ⟨0, Nat.zero_le _, by rw [stQ_zero], rfl, by first | rfl | trivial⟩
            case round =>
              obtain ⟨c, hc, rfl, rfl, rfl⟩ := hrel
              have hqb : facN N / stQ m r c ≤ 3628800 := Nat.le_trans (Nat.div_le_self _ _) (facN_le hl10)
              have hsub : (m : Int) + 1 - ((r : Int) + 1) = (d : Int) := by omega
              by_cases hcl : c < d
              · have hci : (c : Int) < (d : Int) := by omega
                have hd := tdiv_natC (facN N / stQ m r c) (2 * r + 1)
                rw [Nat.div_div_eq_div_mul, ← stQ_succ] at hd
                have hq2 : facN N / stQ m r (c + 1) ≤ 3628800 := Nat.le_trans (Nat.div_le_self _ _) (facN_le hl10)
                obtain ⟨q2, hqq⟩ : ∃ q2, facN N / stQ m r (c + 1) = q2 := ⟨_, rfl⟩
                obtain ⟨q, hq⟩ : ∃ q, facN N / stQ m r c = q := ⟨_, rfl⟩
                obtain ⟨h, hh⟩ : ∃ h, 2 * r + 1 = h := ⟨_, rfl⟩
                rw [hqq] at hd hq2
                rw [hq] at hd hqb ⊢
                rw [hh] at hd
                have hhe : 2 * ((r : Int) + 1) - 1 = (h : Int) := by omega
                have hh1 : ¬ (h : Int) = 0 := by omega
                have hh2 : ((h : Int) == 0) = false := by rw [beq_eq_false_iff_ne]; omega
                have hhp : (0 : Int) < h := by omega
                have hwq : IntKind.i64.wrap (q2 : Int) = (q2 : Int) := IntWalk.i64_in _ (by omega)
                have HQ2 := hid hqq
                clear hqq hq hh
                go_wp2
                go_roundw
                case rel => exact ⟨c + 1, by omega, by rw [HQ2.out], by go_num, by first | rfl | trivial⟩
                case measure => simp [intOf]; omega
              · have Hc := hid (show c = d by omega)
                have hci : ¬ (c : Int) < (d : Int) := by omega
                clear hcl hqb
                go_wp2
                go_roundw
                case rel => exact ⟨r + 1, by omega, by rw [Hc.out, ← hd, stQ_end], by go_num, by first | rfl | trivial⟩
                case measure => simp [intOf]; omega
          · have Hr := hid (show r = m by omega)
            have hri : ¬ (r : Int) + 1 ≤ (m : Int) := by omega
            have hqb : facN N / stP m r ≤ 3628800 := Nat.le_trans (Nat.div_le_self _ _) (facN_le hl10)
            clear hrl
            go_wp2
            go_ret2
            exact ⟨ret_ibC (by rw [HAns.out, Hr.out]; try simp) rfl, Below.refl _ _⟩
end Go.Proofs.Ytbbkoagjplapkab
