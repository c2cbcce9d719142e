/- Staircases' linear extensions counted. -/
import Derived.Test.YtbbkoagjplapkabFacI
import Derived.Test.YtbbkoagjplapkabStairI
namespace Go.Proofs.Ytbbkoagjplapkab
open Go.RowKit Go.WideShapes Go.ChangeShapes
set_option linter.unusedVariables false

theorem stP_len {m : Nat} (h1 : 1 ≤ m) (h2 : m ≤ 4) : (stcL (m : Int)).length = m * (m + 1) / 2 ∧ m * (m + 1) / 2 ≤ 10 ∧ 1 ≤ m * (m + 1) / 2 := by
  have : ∀ m : Nat, m < 5 → 1 ≤ m → (stcL (m : Int)).length = m * (m + 1) / 2 ∧ m * (m + 1) / 2 ≤ 10 ∧ 1 ≤ m * (m + 1) / 2 := by decide +kernel
  exact this m (by omega) h1
set_option maxRecDepth 100000 in
set_option maxHeartbeats 3200000 in
theorem implCountStairs_any (n : Int) (w : World) (wf : (Lit.int .i64 n).wf = true) :
    Calls Try.prog 9 #[.int .i64 n] w fun (r : Ending) w' => r = Ending.returned (.tuple #[.int .i64 (cntS n), .bool (decide (1 ≤ n) && decide (n ≤ 4))]) ∧ Below w.heap.size w w' := by
  have HSt := hid (implStaircase_any n w wf)
  clear wf
  cases hs : (decide (1 ≤ n) && decide (n ≤ 4))
  · have HN := hid (cntS_no hs)
    rw [hs] at HSt
    clear hs
    go_enter Try.func9, Try.ntmps9
    go_wp2_with fail
    refine HSt.out.mono ?_
    rintro e w1 ⟨p, rfl, hp, -, hb⟩
    obtain ⟨pA, pn, pc, rfl⟩ := hp.shape3
    have HB := hid (below_alloc hb (.cells #[.slice pA pn pc] 33))
    clear hp hb
    go_wp2
    go_ret2
    exact ⟨ret_ibC HN.out.symm rfl, HB.out⟩
  · have hs' : 1 ≤ n ∧ n ≤ 4 := by simpa using hs
    obtain ⟨m, rfl⟩ := Int.eq_ofNat_of_zero_le (show 0 ≤ n by omega)
    have h1 : 1 ≤ m := by omega
    have h2 : m ≤ 4 := by omega
    have HAns := hid (cntS_yes hs)
    obtain ⟨hl, hl10, hl1⟩ := stP_len h1 h2
    rw [hs] at HSt
    obtain ⟨xs, hxs⟩ : ∃ xs, stcL (m : Int) = xs := ⟨_, rfl⟩
    rw [hxs] at HSt hl
    obtain ⟨N, hN⟩ : ∃ N, m * (m + 1) / 2 = N := ⟨_, rfl⟩
    rw [hN] at HAns hl hl10 hl1
    clear hs hs' hxs hN
    go_enter Try.func9, Try.ntmps9
    go_wp2_with fail
    refine HSt.out.mono ?_
    rintro e w1 ⟨p, rfl, hp, -, hb⟩
    obtain ⟨pA, pc, rfl, -⟩ := hp.shape
    rw [hl] at hp ⊢
    have HB := hid (below_alloc hb (.cells #[.slice pA N pc] 33))
    have A6 := hid (At.new w1 (.slice pA N pc) 33)
    obtain ⟨W1, hW1⟩ : ∃ W1 : World, W1 = w1.alloc (.cells #[.slice pA N pc] 33) := ⟨_, rfl⟩
    rw [← hW1] at HB A6
    clear hp hb
    go_wp2
    rw [← hW1]
    clear hW1
    go_loopw [6, 7] (fun p i wr => ∃ k : Nat, k ≤ m ∧ p = .int .i64 (stP m k : Nat) ∧ i = .int .i64 ((k : Int) + 1) ∧ W1 = wr) (fun _ i _ => m + 1 - (intOf i).toNat)
    case atStart => exact ⟨0, Nat.zero_le _, rfl, rfl, by first | rfl | trivial⟩
    case round =>
      obtain ⟨k, hk, rfl, rfl, rfl⟩ := hrel
      by_cases hlt : k < m
      · have hki : (k : Int) + 1 ≤ (m : Int) := by omega
        have hsub : (m : Int) + 1 - ((k : Int) + 1) = ((m - k : Nat) : Int) := by omega
        obtain ⟨d, hd⟩ : ∃ d, m - k = d := ⟨_, rfl⟩
        rw [hd] at hsub
        have hd4 : d ≤ 4 := by omega
        have hbp := stP_bnd (n := m) (i := k) h2 (by omega)
        go_wp2
        clear hbp hki
        go_loopw [6, 24] (fun p i wr => ∃ j : Nat, j ≤ d ∧ p = .int .i64 (stQ m k j : Nat) ∧ i = .int .i64 (j : Int) ∧ W1 = wr) (fun _ i _ => d - (intOf i).toNat)
        case atStart => exact ⟨0, Nat.zero_le _, by rw [stQ_zero], rfl, by first | rfl | trivial⟩
        case round =>
          obtain ⟨j, hj, rfl, rfl, rfl⟩ := hrel
          obtain ⟨b1, b2⟩ := stQ_bnd (n := m) (i := k) (k := j) h2 (by omega) (by omega)
          by_cases hjl : j < d
          · obtain ⟨c1, c2⟩ := stQ_bnd (n := m) (i := k) (k := j + 1) h2 (by omega) (by omega)
            have hm : ((stQ m k j : Nat) : Int) * (2 * ((k : Int) + 1) - 1) = ((stQ m k (j + 1) : Nat) : Int) := by
              rw [stQ_succ, Int.natCast_mul]
              congr 1
              omega
            obtain ⟨q, hq⟩ : ∃ q, stQ m k (j + 1) = q := ⟨_, rfl⟩
            have HQ := hid hq
            obtain ⟨p, hp⟩ : ∃ p, stQ m k j = p := ⟨_, rfl⟩
            rw [hq] at hm c1 c2
            rw [hp] at hm b1 b2
            rw [hp]
            have hji : (j : Int) < (d : Int) := by omega
            clear hp hq
            go_wp2
            go_roundw
            case rel => exact ⟨j + 1, by omega, by rw [HQ.out], by go_num, by first | rfl | trivial⟩
            case measure => simp [intOf]; omega
          · have HJ := hid (show j = d by omega)
            have hji : ¬ (j : Int) < (d : Int) := by omega
            clear hjl b1 b2
            go_wp2
            go_roundw
            case rel => exact ⟨k + 1, by omega, by rw [HJ.out, ← hd, stQ_end], by go_num, by first | rfl | trivial⟩
            case measure => simp [intOf]; omega
      · have Hk := hid (show k = m by omega)
        have hge : ¬ ((k : Int) + 1 ≤ (m : Int)) := by omega
        have t0 := A6.out.1
        obtain ⟨b1, b2⟩ := stP_bnd (n := m) (i := k) h2 (by omega)
        have hd := tdiv_natC (facN N) (stP m k)
        have HQ : Hid (((facN N / stP m k : Nat) : Int) = cntS m) := hid (by rw [HAns.out, Hk.out])
        have hq : facN N / stP m k ≤ 3628800 := Nat.le_trans (Nat.div_le_self _ _) (facN_le hl10)
        have hf := facN_le hl10
        obtain ⟨q, hqq⟩ : ∃ q, facN N / stP m k = q := ⟨_, rfl⟩
        rw [hqq] at hd HQ hq
        have hwq : IntKind.i64.wrap (q : Int) = (q : Int) := IntWalk.i64_in _ (by omega)
        have HF := hid (fun W => factorial_any N W hl1 hl10)
        obtain ⟨p, hp⟩ : ∃ p, stP m k = p := ⟨_, rfl⟩
        rw [hp] at hd b1 b2
        rw [hp]
        have hp0 : (0 : Int) < (p : Int) := by omega
        have hne : ¬ (p : Int) = 0 := by omega
        have hne1 : ((p : Int) == 0) = false := by rw [beq_eq_false_iff_ne]; omega
        obtain ⟨f, hf2⟩ : ∃ f, facN N = f := ⟨_, rfl⟩
        rw [hf2] at hd HF hf
        clear hqq hp hf2 hlt
        go_wp2_with fail
        refine (HF.out _).mono ?_
        rintro e w2 ⟨rfl, rfl⟩
        go_wp2
        go_ret2
        exact ⟨ret_ibC HQ.out rfl, HB.out⟩
end Go.Proofs.Ytbbkoagjplapkab
