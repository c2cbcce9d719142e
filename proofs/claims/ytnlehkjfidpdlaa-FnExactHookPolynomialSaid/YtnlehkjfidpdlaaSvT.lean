/- HookPolynomial of the program. -/
import Derived.Test.YtnlehkjfidpdlaaSvP
import Derived.Test.YtnlehkjfidpdlaaHook
import Derived.Deep.DeepCutAuto
namespace Go.Proofs.Ytnlehkjfidpdlaa
open Go.RowKit Go.WideShapes Go.ChangeShapes
set_option linter.unusedVariables false

theorem rect_lenG (x y : Nat) : (whereL (rectF y) (x * y)).length = x * y := by unfold whereL; rw [mkL_length]
set_option maxRecDepth 100000 in
set_option maxHeartbeats 3200000 in
theorem implHookPolynomial_any (a b : Int) (w : World) (wa : (Lit.int .i64 a).wf = true) (wb : (Lit.int .i64 b).wf = true) :
    Calls Try.prog 16 #[.int .i64 a, .int .i64 b] w fun (r : Ending) w' => ∃ u, r = Ending.returned (.tuple #[u, .bool (sides a b)]) ∧ OwnI 3 w' w.heap.size u (ansHP a b) ∧ (ansHP a b).length ≤ 1048576 ∧ Below w.heap.size w w' := by
  have HR := hid (implRectangle_any a b w wa wb)
  have HHk := hid (fun r c W wr wc => implHookOf_any a b r c W wa wb wr wc)
  have HL := hid (ansHP_length a b)
  clear wa wb
  cases hs : sides a b
  · have HN := hid (ansHP_no hs)
    rw [hs] at HR
    clear hs
    go_enter Try.func16, Try.ntmps16
    go_wp2_with fail
    refine HR.out.mono ?_
    rintro e w1 ⟨p, rfl, hp, -, hb⟩
    obtain ⟨pA, pn, pc, rfl⟩ := hp.shape3
    have HB := hid (below_alloc hb (.cells #[.slice pA pn pc] 41))
    clear hp hb
    go_wp2
    go_ret2
    exact ⟨_, rfl, by rw [HN.out]; exact OwnI.nil _ _ _, HL.out, HB.out⟩
  · obtain ⟨x, y, rfl, rfl, h1, h2, h3, h4, h5⟩ := sides_nat hs
    have HSd := hid hs
    have HA := hid (ansHP_yes hs)
    obtain ⟨g1, -, g3, g4, g5⟩ := hk_all h2 h4 h5
    have HG : Hid (hpN x y = gzI (rgN 1 (x * y)) (hkT x y (x * y)) (hkD x y + 1) (x * y)) := hid g5.symm
    have HRe := hid (rectL_yes hs)
    have hlr := rect_lenG x y
    rw [hs] at HR
    rw [HRe.out] at HR
    have HQ := hid (fun v u W hv hu => quotientOf_any v u (rgN 1 (x * y)) (hkT x y (x * y)) (hkD x y) W hv hu (by omega) (fun k hk => by have := rgN_mem hk; omega) (fun k hk => by have := hkT_mem h2 h4 hk; omega) (by rw [rgN_length, hkT_length]) (by rw [rgN_length]; omega) g1 (by omega))
    rw [rgN_length] at HQ
    obtain ⟨xs, hxs⟩ : ∃ xs, whereL (rectF y) (x * y) = xs := ⟨_, rfl⟩
    rw [hxs] at HR hlr
    have hn0 : 0 < x * y := Nat.mul_pos h1 h3
    obtain ⟨n, hn⟩ : ∃ n, x * y = n := ⟨_, rfl⟩
    rw [hn] at HG HQ h5 hlr hn0
    have HNx := hid hn
    have HL1 := hid (fun m => rgN_length 1 m)
    have HL2 := hid (fun m => hkT_length x y m)
    have HS1 := hid (fun m => rgN_succ 1 m)
    have HS2 := hid (fun m => hkT_succ x y m)
    clear hs hn g1 g3 g4 g5 HRe hxs
    go_enter Try.func16, Try.ntmps16
    go_wp2_with fail
    refine HR.out.mono ?_
    rintro e w1 ⟨p, rfl, hp, -, hb⟩
    obtain ⟨pA, pc, rfl, -⟩ := hp.shape
    rw [hlr] at hp ⊢
    have HB := hid (below_alloc hb (.cells #[.slice pA n pc] 41))
    have A6 := hid (At.new w1 (.slice pA n pc) 41)
    obtain ⟨W1, hW1⟩ : ∃ W1 : World, W1 = w1.alloc (.cells #[.slice pA n pc] 41) := ⟨_, rfl⟩
    rw [← hW1] at HB A6
    have t0 := A6.out.1
    rw [hW1] at t0
    clear hp hb hlr
    go_wp2
    rw [← hW1]
    clear hW1 t0
    go_loopw [8, 9, 24] (fun up lo i wr => ∃ k : Nat, k ≤ n ∧ i = .int .i64 (k : Int) ∧ OwnI 3 wr w.heap.size up (intsN (rgN 1 k)) ∧ OwnI 3 wr w.heap.size lo (intsN (hkT x y k)) ∧ (lo.ownBlock = none ∨ lo.ownBlock ≠ up.ownBlock) ∧ Below w.heap.size w wr) (fun _ _ i _ => n - (intOf i).toNat)
    case atStart => exact ⟨0, Nat.zero_le _, rfl, OwnI.nil _ _ _, OwnI.nil _ _ _, .inl rfl, HB.out⟩
    case round =>
      obtain ⟨k, hk, rfl, hu, hl, hap, hb⟩ := hrel
      obtain ⟨uA, un, uc, rfl⟩ := hu.shape3
      obtain ⟨lA, ln, lc, rfl⟩ := hl.shape3
      have HU := hid hu
      have HLo := hid hl
      have HAp := hid hap
      have HBr := hid hb
      clear hu hl hap hb
      by_cases hlt : k < n
      · have hkl : k < x * y := by rw [HNx.out]; exact hlt
        have hkx : k / y < x := Nat.div_lt_of_lt_mul (by rw [Nat.mul_comm]; exact hkl)
        have hky : k % y < y := Nat.mod_lt _ (by omega)
        have hd := tdiv_natC k y
        have hd2 : ((k : Int) / (y : Int)) = ((k / y : Nat) : Int) := by simp
        have hm := tmod_natC k y
        have hm2 : ((k : Int) % (y : Int)) = ((k % y : Nat) : Int) := by simp
        have he := hkN_le (e := k) h2 h4
        have hev : hkN x y k = x - k / y + y - k % y - 1 := rfl
        obtain ⟨q, hqq⟩ : ∃ q, k / y = q := ⟨_, rfl⟩
        obtain ⟨m, hmm⟩ : ∃ m, k % y = m := ⟨_, rfl⟩
        rw [hqq] at hd hd2 hkx hev
        rw [hmm] at hm hm2 hky hev
        have HOk : Hid (okHK x y q m = true) := hid (okHK_yes HSd.out (by rw [decide_eq_true (show (0 : Int) ≤ (q : Int) by omega), decide_eq_true (show (q : Int) ≤ (x : Int) - 1 by omega)]; rfl) (by rw [decide_eq_true (show (0 : Int) ≤ (m : Int) by omega), decide_eq_true (show (m : Int) ≤ (y : Int) - 1 by omega)]; rfl))
        have HV : Hid (ansHK x y q m = (hkN x y k : Nat)) := hid (by rw [ansHK_yes HOk.out, hev]; omega)
        have HC := hid (fun W => HHk.out q m W (WalkArith.wf_i64 (by omega)) (WalkArith.wf_i64 (by omega)))
        rw [HOk.out, HV.out] at HC
        have hw2 : IntKind.i64.wrap ((k : Int) + 1) = ((1 + k : Nat) : Int) := by rw [IntWalk.i64_in _ (by omega)]; omega
        have HE1 : Hid (intsN (rgN 1 (k + 1)) = intsN (rgN 1 k) ++ [((1 + k : Nat) : Int)]) := hid (by rw [HS1.out, intsN_snoc])
        have HE2 : Hid (intsN (hkT x y (k + 1)) = intsN (hkT x y k) ++ [((hkN x y k : Nat) : Int)]) := hid (by rw [HS2.out, intsN_snoc])
        obtain ⟨e1, he1⟩ : ∃ e1, 1 + k = e1 := ⟨_, rfl⟩
        obtain ⟨h, hh⟩ : ∃ h, hkN x y k = h := ⟨_, rfl⟩
        have HKe : Hid (e1 = k + 1) := hid (by omega)
        rw [he1] at hw2 HE1
        rw [hh] at HC he HE2
        have hl1 : (intsN (rgN 1 k)).length < 1048576 := by rw [intsN_length, HL1.out]; omega
        have hl2 : (intsN (hkT x y k)).length < 1048576 := by rw [intsN_length, HL2.out]; omega
        have hk1 : k + 1 ≤ n := hlt
        have hM : Hid (n - e1 < n - k) := hid (by omega)
        have hy1 : ¬ (y : Int) = 0 := by omega
        have hy2 : ((y : Int) == 0) = false := by rw [beq_eq_false_iff_ne]; omega
        have hyp : (0 : Int) < y := by omega
        have hki : (k : Int) < (n : Int) := by omega
        have hwq : IntKind.i64.wrap (q : Int) = (q : Int) := IntWalk.i64_in _ (by omega)
        have HW2 := hid hw2
        clear hqq hmm he1 hh hkl hlt hev hw2
        go_upto_region 8 with fail
        go_cut [11] (fun s wx => s = .int .i64 (h : Nat) ∧ Below wr.heap.size wr wx)
        case first =>
          go_region_with (go_at_call 33; with_reducible refine (HC.out _).mono ?_; rintro e w3 ⟨rfl, hb3⟩; have H3 := hid (below_to (Below.refl _ wr).drew hb3); clear hb3)
          all_goals (go_wp2_with fail; go_meet; exact ⟨rfl, H3.out⟩)
        case rest =>
          obtain ⟨rfl, hb4⟩ := hcut
          have HB4 := hid (below_to HBr.out hb4)
          have HU4 := hid (HU.out.below hb4)
          have HLo4 := hid (HLo.out.below hb4)
          have hz5 := HB4.out.size
          have hw2 := HW2.out
          clear hb4 hd hd2 hm hm2 hwq hy1 hy2
          go_wp2_with (first
            | (at_builtin; refine wpList_append_int2 rfl _ _ 22 3 rfl Try.underlying22 Try.info3 w.heap.size _ (intsN (rgN 1 k)) (e1 : Int) rfl HU4.out rfl rfl hl1 hz5 ?_; intro v6 w6 hs6 hb6 hk6; have hk7 := hk6 _ _ HLo4.out HAp.out; have HO6 := hid hk7.1; have HA6 := hid hk7.2; have HB6 := hid hb6; rw [← HE1.out] at hs6; obtain ⟨vA, vn, vc, rfl⟩ := hs6.shape3; have HD6 := hid hs6; have hz6 : w.heap.size ≤ w6.heap.size := (HB4.out.trans hb6).size; clear hs6 hb6 hk6 hk7)
            | (at_builtin; refine wpList_append_int2 rfl _ _ 22 3 rfl Try.underlying22 Try.info3 w.heap.size _ (intsN (hkT x y k)) (h : Int) rfl HO6.out rfl rfl hl2 hz6 ?_; intro v7 w7 hs7 hb7 hk8; have hk9 := hk8 _ _ HD6.out (apart_symmG HA6.out); have HD7 := hid hk9.1; have HA7 := hid (apart_symmG hk9.2); have HB7 := hid hb7; rw [← HE2.out] at hs7; obtain ⟨xA, xn, xc, rfl⟩ := hs7.shape3; have HO7 := hid hs7; clear hs7 hb7 hk8 hk9))
          clear hw2
          go_roundw
          case rel => exact ⟨k + 1, hk1, by first | go_num | (rw [HKe.out]), HD7.out, HO7.out, HA7.out, (HB4.out.trans HB6.out).trans HB7.out⟩
          case measure => simp [intOf]; first | exact hM.out | (have h := hM.out; omega) | omega
      · have hkx : k = n := by omega
        have hge : ¬ ((k : Int) < (n : Int)) := by omega
        rw [hkx] at HU HLo
        clear hkx hk hlt
        go_wp2_with fail
        refine (HQ.out _ _ _ HU.out.ints HLo.out.ints).mono ?_
        rintro e w3 ⟨q3, rfl, ho3, hb3⟩
        have hz2 := HBr.out.size
        have HO3 := hid (ho3.mono hz2)
        obtain ⟨A3, n3, c3, rfl⟩ := ho3.shape3
        have HB3 := hid (below_to HBr.out hb3)
        clear ho3 hb3
        go_wp2
        go_ret2
        exact ⟨_, rfl, by rw [HA.out, HG.out]; exact HO3.out, HL.out, HB3.out⟩
end Go.Proofs.Ytnlehkjfidpdlaa
