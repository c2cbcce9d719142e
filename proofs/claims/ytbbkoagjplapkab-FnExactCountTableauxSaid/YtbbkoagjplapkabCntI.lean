/- Tableaux counted by the program. -/
import Derived.Test.YtbbkoagjplapkabCnt
import Derived.Test.YtbbkoagjplapkabHook
import Derived.Deep.DeepCutAuto
namespace Go.Proofs.Ytbbkoagjplapkab
open Go.RowKit Go.WideShapes Go.ChangeShapes
set_option linter.unusedVariables false

theorem wf_natC {z : Nat} (h : z ≤ 100) : (Lit.int .i64 (z : Int)).wf = true := by
  simp [Lit.wf, IntKind.min, IntKind.max, IntKind.signed, IntKind.bits]; omega
set_option maxHeartbeats 800000 in
theorem factorial_any (n : Nat) (w : World) (h1 : 1 ≤ n) (h2 : n ≤ 10) :
    Calls Try.prog 18 #[.int .i64 (n : Int)] w fun r w' => r = .returned (.int .i64 (facN n : Nat)) ∧ w = w' := by
  go_enter Try.func18, Try.ntmps18
  go_wp2
  go_loopw [3, 4] (fun p i wr => ∃ k : Nat, 1 ≤ k ∧ k ≤ n ∧ p = .int .i64 (facN k : Nat) ∧ i = .int .i64 ((k : Int) + 1) ∧ w = wr) (fun _ i _ => n + 1 - (intOf i).toNat)
  case atStart => exact ⟨1, Nat.le_refl _, h1, rfl, rfl, rfl⟩
  case round =>
    obtain ⟨k, hk1, hk2, rfl, rfl, rfl⟩ := hrel
    have hf := facN_le (k := k) (by omega)
    have hm := facN_succ k
    by_cases hlt : k < n
    · have hf2 := facN_le (k := k + 1) (by omega)
      have HNx : Hid (((facN (k + 1) : Nat) : Int) = ((facN (k + 1) : Nat) : Int)) := hid rfl
      obtain ⟨q, hq⟩ : ∃ q, facN (k + 1) = q := ⟨_, rfl⟩
      have HQ := hid hq
      obtain ⟨p, hp⟩ : ∃ p, facN k = p := ⟨_, rfl⟩
      rw [hq] at hm hf2
      rw [hp] at hm hf
      rw [hp]
      clear hp hq HNx
      go_wp2
      go_roundw
      case rel => exact ⟨k + 1, by omega, by omega, by rw [HQ.out]; first | rw [hm] | (congr 1; omega) | skip, by go_num, by first | rfl | trivial⟩
      case measure => simp [intOf]; omega
    · have HK := hid (show k = n by omega)
      have hge : ¬ ((k : Int) + 1 ≤ (n : Int)) := by omega
      clear hlt hm
      go_wp2
      go_ret
      exact ⟨by rw [HK.out]; rfl, rfl⟩
set_option maxRecDepth 100000 in
set_option maxHeartbeats 3200000 in
theorem implCountTableaux_any (a b : Int) (w : World) (wa : (Lit.int .i64 a).wf = true) (wb : (Lit.int .i64 b).wf = true):
    Calls Try.prog 7 #[.int .i64 a, .int .i64 b] w fun (r : Ending) w' => r = Ending.returned (.tuple #[.int .i64 (cntT a b), .bool (sides a b)]) ∧ Below w.heap.size w w' := by
  have HRc := hid (implRectangle_any a b w wa wb)
  have HHk := hid (fun r c W wr wc => implHookOf_any a b r c W wa wb wr wc)
  clear wa wb
  cases hs : sides a b
  · have HN := hid (cntT_no hs)
    rw [hs] at HRc
    clear hs
    go_enter Try.func7, Try.ntmps7
    go_wp2_with fail
    refine HRc.out.mono ?_
    rintro e w1 ⟨p, rfl, hp, -, hb⟩
    obtain ⟨pA, pn, pc, rfl⟩ := hp.shape3
    have HB := hid (below_alloc hb (.cells #[.slice pA pn pc] 33))
    clear hp hb
    go_wp2
    go_ret2
    exact ⟨ret_ibC HN.out.symm rfl, HB.out⟩
  · obtain ⟨x, y, rfl, rfl, h1, h2, h3, h4, h5⟩ := sides_nat hs
    have HS := hid hs
    have HRe := hid (rectL_yes hs)
    have HAns := hid (cntT_yes hs)
    have hlr := rect_len x y
    rw [hs] at HRc
    rw [HRe.out] at HRc
    have hn0 : 0 < x * y := Nat.mul_pos h1 h3
    obtain ⟨xs, hxs⟩ : ∃ xs, whereL (rectF y) (x * y) = xs := ⟨_, rfl⟩
    rw [hxs] at HRc HRe hlr
    obtain ⟨n, hn⟩ : ∃ n, x * y = n := ⟨_, rfl⟩
    rw [hn] at hlr HAns h5 hn0
    have HNx := hid hn
    clear hs hxs hn
    go_enter Try.func7, Try.ntmps7
    go_wp2_with fail
    refine HRc.out.mono ?_
    rintro e w1 ⟨p, rfl, hp, -, hb⟩
    obtain ⟨pA, pc, rfl, -⟩ := hp.shape
    rw [hlr] at hp ⊢
    have HB := hid (below_alloc hb (.cells #[.slice pA n pc] 33))
    have A6 := hid (At.new w1 (.slice pA n pc) 33)
    obtain ⟨W1, hW1⟩ : ∃ W1 : World, W1 = w1.alloc (.cells #[.slice pA n pc] 33) := ⟨_, rfl⟩
    rw [← hW1] at HB A6
    have t0 := A6.out.1
    rw [hW1] at t0
    clear hp hb
    go_wp2_with fail
    rw [← hW1]
    clear hW1 t0
    go_loopw [8, 23] (fun p i wr => ∃ k : Nat, k ≤ n ∧ p = .int .i64 (hkP x y k : Nat) ∧ i = .int .i64 (k : Int) ∧ Below W1.heap.size W1 wr) (fun _ i _ => n - (intOf i).toNat)
    case atStart => exact ⟨0, Nat.zero_le _, rfl, rfl, Below.refl _ _⟩
    case round =>
      obtain ⟨k, hk, rfl, rfl, hb⟩ := hrel
      have Hb := hid hb
      have hbx := (A6.out.below hb).1
      clear hb
      by_cases hlt : k < n
      · have hkp := hkP_le10 h2 h4 (show k + 1 ≤ 10 by omega)
        have hkq := hkP_le10 h2 h4 (show k ≤ 10 by omega)
        have hkl : k < x * y := by rw [HNx.out]; exact hlt
        have hkx : k / y < x := Nat.div_lt_of_lt_mul (by rw [Nat.mul_comm]; exact hkl)
        have hky : k % y < y := Nat.mod_lt _ (by omega)
        have hd := tdiv_natC k y
        have hm := tmod_natC k y
        have he := hkE_le (e := k) h2 h4
        have hev : hkE x y k = x - k / y + y - k % y - 1 := rfl
        obtain ⟨q, hqq⟩ : ∃ q, k / y = q := ⟨_, rfl⟩
        obtain ⟨m, hmm⟩ : ∃ m, k % y = m := ⟨_, rfl⟩
        rw [hqq] at hd hkx hev
        rw [hmm] at hm hky hev
        have HA : Hid (okHK x y q m = true) := hid (okHK_yes HS.out (by rw [decide_eq_true (show (0 : Int) ≤ (q : Int) by omega), decide_eq_true (show (q : Int) ≤ (x : Int) - 1 by omega)]; rfl) (by rw [decide_eq_true (show (0 : Int) ≤ (m : Int) by omega), decide_eq_true (show (m : Int) ≤ (y : Int) - 1 by omega)]; rfl))
        have HV : Hid (ansHK x y q m = (hkE x y k : Nat)) := hid (by rw [ansHK_yes HA.out, hev]; omega)
        have HC := hid (fun W => HHk.out q m W (wf_natC (by omega)) (wf_natC (by omega)))
        rw [HA.out, HV.out] at HC
        have hmul : ((hkP x y k : Nat) : Int) * ((hkE x y k : Nat) : Int) = ((hkP x y (k + 1) : Nat) : Int) := by
          show _ = ((hkP x y k * hkE x y k : Nat) : Int)
          rw [Int.natCast_mul]
        have hy1 : ¬ (y : Int) = 0 := by omega
        have hy2 : ((y : Int) == 0) = false := by rw [beq_eq_false_iff_ne]; omega
        have hyp : (0 : Int) < y := by omega
        have hki : (k : Int) < (n : Int) := by omega
        obtain ⟨p2, hp2⟩ : ∃ p2, hkP x y (k + 1) = p2 := ⟨_, rfl⟩
        obtain ⟨p1, hp1⟩ : ∃ p1, hkP x y k = p1 := ⟨_, rfl⟩
        obtain ⟨h, hh⟩ : ∃ h, hkE x y k = h := ⟨_, rfl⟩
        rw [hp2, hp1, hh] at hmul
        rw [hp2] at hkp
        have HP2 := hid hp2
        rw [hp1] at hkq ⊢
        rw [hh] at HC he
        have HD := hid hd
        have HM := hid hm
        have HMul := hid hmul
        clear hqq hmm hp2 hp1 hh hkl hlt hev hmul
        have hwq : IntKind.i64.wrap (q : Int) = (q : Int) := IntWalk.i64_in _ (by omega)
        go_upto_region 8 with fail
        go_cut [10] (fun s wx => s = .int .i64 (h : Nat) ∧ Below wr.heap.size wr wx)
        case first =>
          go_region_with (go_at_call 17; with_reducible refine (HC.out _).mono ?_; rintro e w3 ⟨rfl, hb3⟩; have H3 := hid (below_to (Below.refl _ wr).drew hb3); clear hb3)
          all_goals (go_wp2_with fail; go_meet; exact ⟨rfl, H3.out⟩)
        case rest =>
          obtain ⟨rfl, hb4⟩ := hcut
          have HB4 := hid (Hb.out.trans (hb4.mono Hb.out.size))
          have hmul := HMul.out
          clear hb4 hbx hd hm hwq
          go_wp2
          go_roundw
          case rel => exact ⟨k + 1, by omega, by rw [HP2.out], by go_num, HB4.out⟩
          case measure => simp [intOf]; omega
      · have Hk := hid (show k = n by omega)
        have hge : ¬ ((k : Int) < (n : Int)) := by omega
        have hp0 : (0 : Int) < ((hkP x y k : Nat) : Int) := by have := hkP_pos (x := x) (y := y) k (by rw [HNx.out]; exact hk); omega
        have hne : ¬ ((hkP x y k : Nat) : Int) = 0 := by omega
        have hne1 : (((hkP x y k : Nat) : Int) == 0) = false := by rw [beq_eq_false_iff_ne]; omega
        have hd := tdiv_natC (facN n) (hkP x y k)
        have HQ : Hid (((facN n / hkP x y k : Nat) : Int) = cntT x y) := hid (by rw [HAns.out, Hk.out])
        have hq : facN n / hkP x y k ≤ 3628800 := Nat.le_trans (Nat.div_le_self _ _) (facN_le h5)
        have hf := facN_le h5
        obtain ⟨q, hqq⟩ : ∃ q, facN n / hkP x y k = q := ⟨_, rfl⟩
        rw [hqq] at hd HQ hq
        have hwq : IntKind.i64.wrap (q : Int) = (q : Int) := IntWalk.i64_in _ (by omega)
        have HF := hid (fun W => factorial_any n W hn0 h5)
        obtain ⟨p, hp⟩ : ∃ p, hkP x y k = p := ⟨_, rfl⟩
        rw [hp] at hd hp0 hne hne1
        rw [hp]
        obtain ⟨f, hf2⟩ : ∃ f, facN n = f := ⟨_, rfl⟩
        rw [hf2] at hd HF hf
        clear hqq hp hf2 hlt
        go_wp2_with fail
        refine (HF.out _).mono ?_
        rintro e w2 ⟨rfl, rfl⟩
        go_wp2
        go_ret2
        exact ⟨ret_ibC HQ.out rfl, below_to HB.out Hb.out⟩
end Go.Proofs.Ytbbkoagjplapkab
