/- GaussOf of the program. -/
import Derived.Test.YtnlehkjfidpdlaaSvJ
import Derived.Test.YtnlehkjfidpdlaaSvK
import Derived.Test.YtnlehkjfidpdlaaRect
namespace Go.Proofs.Ytnlehkjfidpdlaa
open Go.RowKit Go.WideShapes Go.ChangeShapes
set_option linter.unusedVariables false

theorem apart_symmG {a b : Option Nat} (h : a = none ∨ a ≠ b) : b = none ∨ b ≠ a := by
  rcases h with h | h
  · subst h
    cases b with
    | none => exact .inl rfl
    | some x => exact .inr (by simp)
  · exact .inr (fun e => h e.symm)
set_option maxRecDepth 100000 in
set_option maxHeartbeats 1600000 in
theorem implGaussOf_any (a b : Int) (w : World) (wa : (Lit.int .i64 a).wf = true) (wb : (Lit.int .i64 b).wf = true) :
    Calls Try.prog 11 #[.int .i64 a, .int .i64 b] w fun (r : Ending) w' => ∃ u, r = Ending.returned (.tuple #[u, .bool (sides a b)]) ∧ OwnI 3 w' w.heap.size u (ansGA a b) ∧ (ansGA a b).length ≤ 1048576 ∧ Below w.heap.size w w' := by
  have HR := hid (implRectangle_any a b w wa wb)
  have HL := hid (ansGA_length a b)
  clear wa wb
  cases hs : sides a b
  · have HN := hid (ansGA_no hs)
    rw [hs] at HR
    clear hs
    go_enter Try.func11, Try.ntmps11
    go_wp2_with fail
    refine HR.out.mono ?_
    rintro e w1 ⟨p, rfl, hp, -, hb⟩
    obtain ⟨pA, pn, pc, rfl⟩ := hp.shape3
    have HB := hid (below_alloc hb (.cells #[.slice pA pn pc] 41))
    clear hp hb
    go_wp2
    go_ret2
    exact ⟨_, rfl, by rw [HN.out]; exact OwnI.nil _ _ _, HL.out, HB.out⟩
  · obtain ⟨x, y, rfl, rfl, h1, h2, h3, h4, h5⟩ := sides_nat hs
    have HA := hid (ansGA_yes hs)
    obtain ⟨g1, g2⟩ := gz_all h2 h4 h5
    have HG : Hid (gaN x y = gzI (rgN (y + 1) x) (rgN 1 x) (x * y + 1) x) := hid g2.symm
    rw [hs] at HR
    have hsum : (rgN 1 x).sum ≤ 1000 := by
      have key : ∀ m, m ≤ x → (rgN 1 m).sum ≤ 20 * m := fun m hm => by
        induction m with
        | zero => simp [rgN]
        | succ m ih =>
          have := ih (by omega)
          rw [rgN_succ, List.sum_append]; simp only [List.sum_cons, List.sum_nil]; omega
      have := key x (Nat.le_refl _)
      omega
    have HQ := hid (fun v u W hv hu => quotientOf_any v u (rgN (y + 1) x) (rgN 1 x) (x * y) W hv hu (by omega) (fun k hk => by have := rgN_mem hk; omega) (fun k hk => by have := rgN_mem hk; omega) (by rw [rgN_length, rgN_length]) (by rw [rgN_length]; omega) g1 (by omega))
    rw [rgN_length] at HQ
    obtain ⟨n, hn⟩ : ∃ n, x * y = n := ⟨_, rfl⟩
    rw [hn] at HG HQ h5
    have HL1 := hid (fun m => rgN_length (y + 1) m)
    have HL2 := hid (fun m => rgN_length 1 m)
    have HS1 := hid (fun m => rgN_succ (y + 1) m)
    have HS2 := hid (fun m => rgN_succ 1 m)
    clear hs hn g1 g2 hsum
    go_enter Try.func11, Try.ntmps11
    go_wp2_with fail
    refine HR.out.mono ?_
    rintro e w1 ⟨p, rfl, hp, -, hb⟩
    obtain ⟨pA, pn, pc, rfl⟩ := hp.shape3
    have HB := hid (below_alloc hb (.cells #[.slice pA pn pc] 41))
    clear hp hb
    go_wp2
    obtain ⟨W1, hW1⟩ : ∃ W1, w1.alloc (.cells #[.slice pA pn pc] 41) = W1 := ⟨_, rfl⟩
    rw [hW1] at HB ⊢
    clear hW1
    go_loopw [8, 9, 20] (fun up lo i wr => ∃ k : Nat, k ≤ x ∧ i = .int .i64 (k : Int) ∧ OwnI 3 wr w.heap.size up (intsN (rgN (y + 1) k)) ∧ OwnI 3 wr w.heap.size lo (intsN (rgN 1 k)) ∧ (lo.ownBlock = none ∨ lo.ownBlock ≠ up.ownBlock) ∧ Below w.heap.size w wr) (fun _ _ i _ => x - (intOf i).toNat)
    case atStart => exact ⟨0, Nat.zero_le _, rfl, OwnI.nil _ _ _, OwnI.nil _ _ _, .inl rfl, HB.out⟩
    case round =>
      obtain ⟨k, hk, rfl, hu, hl, hap, hb⟩ := hrel
      obtain ⟨uA, un, uc, rfl⟩ := hu.shape3
      obtain ⟨lA, ln, lc, rfl⟩ := hl.shape3
      have HU := hid hu
      have HLo := hid hl
      have HAp := hid hap
      have HBr := hid hb
      clear hu hl hap hb
      by_cases hlt : k < x
      · have hw1 : IntKind.i64.wrap ((y : Int) + (k : Int)) = (y : Int) + k := IntWalk.i64_in _ (by omega)
        have hw2 : IntKind.i64.wrap ((y : Int) + (k : Int) + 1) = ((y + 1 + k : Nat) : Int) := by rw [IntWalk.i64_in _ (by omega)]; omega
        have hw3 : IntKind.i64.wrap ((k : Int) + 1) = ((1 + k : Nat) : Int) := by rw [IntWalk.i64_in _ (by omega)]; omega
        have HE1 : Hid (intsN (rgN (y + 1) (k + 1)) = intsN (rgN (y + 1) k) ++ [((y + 1 + k : Nat) : Int)]) := hid (by rw [HS1.out, intsN_snoc])
        have HE2 : Hid (intsN (rgN 1 (k + 1)) = intsN (rgN 1 k) ++ [((1 + k : Nat) : Int)]) := hid (by rw [HS2.out, intsN_snoc])
        obtain ⟨e1, he1⟩ : ∃ e1, y + 1 + k = e1 := ⟨_, rfl⟩
        obtain ⟨e2, he2⟩ : ∃ e2, 1 + k = e2 := ⟨_, rfl⟩
        have HKe : Hid (e2 = k + 1) := hid (by omega)
        have HW3 := hid (by rw [IntWalk.i64_in _ (by omega)]; omega : IntKind.i64.wrap ((k : Int) + 1) = ((k + 1 : Nat) : Int))
        rw [he1] at hw2 HE1
        rw [he2] at hw3 HE2
        have hl1 : (intsN (rgN (y + 1) k)).length < 1048576 := by rw [intsN_length, HL1.out]; omega
        have hl2 : (intsN (rgN 1 k)).length < 1048576 := by rw [intsN_length, HL2.out]; omega
        have hz5 : w.heap.size ≤ wr.heap.size := HBr.out.size
        have hk1 : k + 1 ≤ x := hlt
        have hM : Hid (x - e2 < x - k) := hid (by omega)
        clear he1 he2
        go_wp2_with (first
          | (at_builtin; refine wpList_append_int2 rfl _ _ 22 3 rfl Try.underlying22 Try.info3 w.heap.size _ (intsN (rgN (y + 1) k)) (e1 : Int) rfl HU.out rfl rfl hl1 hz5 ?_; intro v6 w6 hs6 hb6 hk6; have hk7 := hk6 _ _ HLo.out HAp.out; have HO6 := hid hk7.1; have HA6 := hid hk7.2; have HB6 := hid hb6; rw [← HE1.out] at hs6; obtain ⟨vA, vn, vc, rfl⟩ := hs6.shape3; have HD6 := hid hs6; have hz6 : w.heap.size ≤ w6.heap.size := (HBr.out.trans hb6).size; clear hs6 hb6 hk6 hk7)
          | (at_builtin; refine wpList_append_int2 rfl _ _ 22 3 rfl Try.underlying22 Try.info3 w.heap.size _ (intsN (rgN 1 k)) (e2 : Int) rfl HO6.out rfl rfl hl2 hz6 ?_; intro v7 w7 hs7 hb7 hk8; have hk9 := hk8 _ _ HD6.out (apart_symmG HA6.out); have HD7 := hid hk9.1; have HA7 := hid (apart_symmG hk9.2); have HB7 := hid hb7; rw [← HE2.out] at hs7; obtain ⟨xA, xn, xc, rfl⟩ := hs7.shape3; have HO7 := hid hs7; clear hs7 hb7 hk8 hk9))
        clear hw1 hw2 hw3
        go_roundw
        case rel => exact ⟨k + 1, hk1, by first | go_num | (rw [HKe.out]), HD7.out, HO7.out, HA7.out, (HBr.out.trans HB6.out).trans HB7.out⟩
        case measure => simp [intOf]; first | exact hM.out | (have h := hM.out; omega) | omega
      · have hkx : k = x := by omega
        rw [hkx] at HU HLo
        clear hkx hk
        go_wp2_with fail
        refine (HQ.out _ _ _ HU.out.ints HLo.out.ints).mono ?_
        rintro e w3 ⟨q3, rfl, ho3, hb3⟩
        have hz2 := HBr.out.size
        have HO3 := hid (ho3.mono hz2)
        obtain ⟨A3, n3, c3, rfl⟩ := ho3.shape3
        have HB3 := hid (below_to HBr.out hb3)
        clear ho3 hb3
        go_wp2
        go_ret2
        exact ⟨_, rfl, by rw [HA.out, HG.out]; exact HO3.out, HL.out, HB3.out⟩
end Go.Proofs.Ytnlehkjfidpdlaa
