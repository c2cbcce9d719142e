/- PromotionStabilizers: the model. -/
import Derived.Test.YtnlehkjfidpdlabSvZ
import Derived.Test.YtnlehkjfidpdlabSvU
import Derived.Test.YtnlehkjfidpdlabAllL
import Derived.Test.YtnlehkjfidpdlabShs
namespace Go.Proofs.Ytnlehkjfidpdlab
open Go.RowKit Go.WideShapes Go.ChangeShapes
set_option linter.unusedVariables false

theorem fresh_apartZ {e : TypeId} {w w' : World} {u v : Value} {xs ys : List Int} {B : Nat} (h : OwnI e w' w.heap.size u xs) (k : OwnI e w B v ys) : u.ownBlock = none ∨ u.ownBlock ≠ v.ownBlock := by
  rcases hq : u.ownBlock with _ | q
  · exact .inl rfl
  · refine .inr fun e2 => ?_
    have h1 := (OwnI.blockLt h q hq).1
    have h2 := (OwnI.blockLt k q e2.symm).2
    omega
set_option maxRecDepth 100000 in
set_option maxHeartbeats 6400000 in
theorem specPromotionStabilizers_any (a b : Int) (w : World) (wa : (Lit.int .i64 a).wf = true) (wb : (Lit.int .i64 b).wf = true) :
    Calls Try.prog 17 #[.int .i64 a, .int .i64 b] w fun (r : Ending) w' => ∃ u, r = Ending.returned (.tuple #[u, .bool (sides a b)]) ∧ OwnI 3 w' w.heap.size u (ansPS a b) ∧ (ansPS a b).length ≤ 1048576 ∧ Below w.heap.size w w' := by
  have HS := hid (fun W => shSides_any a b W)
  have HL := hid (ansPS_length a b)
  clear wa wb
  cases hs : sides a b
  · have HN := hid (ansPS_no hs)
    rw [hs] at HS
    clear hs
    go_enter Try.func17, Try.ntmps17
    go_wp2_with fail
    refine (HS.out _).mono ?_
    rintro e w1 ⟨rfl, rfl⟩
    go_wp2
    go_ret2
    exact ⟨_, rfl, by rw [HN.out]; exact OwnI.nil _ _ _, HL.out, Below.refl _ _⟩
  · obtain ⟨x, y, rfl, rfl, h1, h2, h3, h4, h5⟩ := sides_nat hs
    have HAns := hid (ansPS_yes hs)
    have hg := rectL_goodZ hs h1 h2 h3 h4 h5
    have hE := rect_ends h1 h2 h3 h4 h5
    rw [← rectL_yes hs] at hE
    obtain ⟨hc5, hc1⟩ := hE
    rw [hs] at HS
    have HPo := hid (poRectangle_any x y · h1 h2 h3 h4 h5)
    rw [← rectL_yes hs] at HPo
    obtain ⟨xs, hxs⟩ : ∃ xs, rectL (x : Int) (y : Int) = xs := ⟨_, rfl⟩
    rw [hxs] at HPo HAns hg hc5 hc1
    have HG := hid hg
    have HAL := hid (okAL_yes hg hc5)
    have HAA := hid (ansAL_yes HAL.out)
    have hl1 := (good_length hg).1
    have hl10 := (good_length hg).2
    have HXl : Hid (xs.length ≤ 1048576) := hid (by omega)
    obtain ⟨N, hN⟩ : ∃ N, ends xs 0 = N := ⟨_, rfl⟩
    have HNe := hid hN
    have HPR := hid (fun r (hr : r < N) => perR_range (xs := xs) hl1 (r := r) (by rw [hN]; exact hr))
    rw [hN] at hc5 HPR
    have hlen : (allLn xs).length = N := (rowsN_length _ _).trans hN
    have HLen := hid hlen
    have hxy : (x : Int) * (y : Int) = ((x * y : Nat) : Int) := by rw [Int.natCast_mul]
    have HXy := hid hxy
    obtain ⟨z, hz⟩ : ∃ z, x * y = z := ⟨_, rfl⟩
    rw [hz] at HXy HAns h5
    clear hs hxs hg hN hc1 hlen hxy hz
    go_enter Try.func17, Try.ntmps17
    go_wp2_with fail
    refine (HS.out _).mono ?_
    rintro e w1 ⟨rfl, rfl⟩
    go_wp2_with fail
    refine (HPo.out _).mono ?_
    rintro e w1 ⟨p, rfl, hp, hb⟩
    obtain ⟨pA, pn, pc, rfl⟩ := hp.shape3
    have HB := hid (below_alloc hb (.cells #[.slice pA pn pc] 35))
    have HP := hid (hp.ints.alloc (.cells #[.slice pA pn pc] 35))
    have A4 := hid (At.new w1 (.slice pA pn pc) 35)
    obtain ⟨W1, hW1⟩ : ∃ W1 : World, W1 = w1.alloc (.cells #[.slice pA pn pc] 35) := ⟨_, rfl⟩
    rw [← hW1] at HB HP A4
    have t0 := A4.out.1
    rw [hW1] at t0
    clear hp hb
    go_wp2_with fail
    rw [← hW1]
    clear hW1 t0
    refine (liAll_any _ xs W1 HP.out HG.out).mono ?_
    rintro e w2 ⟨q, rfl, ho, -, hb2⟩
    rw [HAA.out] at ho
    rw [HAL.out]
    have HI := hid ho.ints
    obtain ⟨qA, qc, rfl, -⟩ := ho.rows
    rw [HLen.out] at HI ⊢
    have HB2 := hid (below_to HB.out hb2)
    have HP2 := hid (HP.out.below hb2)
    have A5 := hid (A4.out.below hb2)
    clear ho hb2
    go_wp2
    go_loopw [9, 10, 31] (fun out seen i wr => ∃ k : Nat, ∃ sl : List Int, k ≤ N ∧ i = .int .i64 k ∧ OwnI 3 wr w2.heap.size out (sortL (spL z (lensK xs k))) ∧ OwnI 3 wr w2.heap.size seen sl ∧ (out.ownBlock = none ∨ out.ownBlock ≠ seen.ownBlock) ∧ Hid (∀ t : Nat, hasL sl t = seenP xs k t) ∧ sl.length ≤ k * 500 ∧ Below w2.heap.size w2 wr) (fun _ _ i _ => N - (intOf i).toNat)
    case atStart => exact ⟨0, [], Nat.zero_le _, rfl, by rw [show sortL (spL z (lensK xs 0)) = [] by simp [lensK, startsN, sortL, spL]]; exact OwnI.nil _ _ _, OwnI.nil _ _ _, .inl rfl, hid (fun t => rfl), Nat.zero_le _, Below.refl _ _⟩
    case round =>
      obtain ⟨k, sl, hk, rfl, ho, hse, hne, HSl, hsl, hb⟩ := hrel
      have HO := hid ho
      have HSe := hid hse
      have HNeq := hid hne
      have Hb := hid hb
      have hKl := lensK_length xs k
      obtain ⟨oA, on, oc, rfl⟩ := ho.shape3
      obtain ⟨sA, sc, rfl, -⟩ := hse.shape
      have hbx := (A5.out.below hb).1
      have hz := hb.size
      clear ho hse hne hb
      by_cases hlt : k < N
      · have hkx : k < ends xs 0 := by rw [HNe.out]; exact hlt
        obtain ⟨b, o', c', u, hsh, hbl, hc, hi⟩ := rows_cell HI.out (k := k) (by rw [HLen.out]; exact hlt)
        unfold allLn at hi
        rw [rowsN_getD _ (show k < cntL xs from hkx)] at hi
        injection hsh with hsA hsB hsC
        subst hsA
        subst hsC
        clear hsB
        have hcell := (Hb.out.cell (p := ⟨b, o' + k, none⟩) hbl).trans hc
        have HIk := hid (hi.below Hb.out)
        have HIk0 := hid hi
        obtain ⟨uA, un, uc, rfl⟩ : ∃ uA un uc, u = .slice uA un uc := by obtain ⟨A, c, e, -⟩ := hi; exact ⟨_, _, _, e⟩
        have Hkx := hid hkx
        have hsl2 : sl.length ≤ 1048576 := by omega
        clear hc hi hkx
        go_wp2_with fail
        clear hcell hbx
        refine (l1HasL_any _ sl _ _ HSe.out.ints hsl2).mono ?_
        rintro e w3 ⟨rfl, rfl⟩
        rw [HSl.out k]
        cases hs : seenP xs k k
        · have HNo := hid (seenP_no Hkx.out hs)
          obtain ⟨hp1, hp2⟩ := HPR.out k hlt
          have HNeP := hid (fun j (h1 : 1 ≤ j) (h2 : j < perR xs k) => sameL_not (it_ne hl1 Hkx.out h1 h2))
          have HEq := hid (sameL_yes (it_per hl1 Hkx.out))
          have HIt := hid (fun j => it_unr hl1 Hkx.out j)
          have HLw := hid (unrL_Lw (xs := xs) (r := k) Hkx.out)
          obtain ⟨P, hP⟩ : ∃ P, perR xs k = P := ⟨_, rfl⟩
          rw [hP] at hp1 hp2 HNeP HEq HNo
          have hP500 : P ≤ 500 := by omega
          obtain ⟨ol, hol⟩ : ∃ ol, sortL (spL z (lensK xs k)) = ol := ⟨_, rfl⟩
          have HOl := hid hol
          rw [hol] at HO
          clear hs hP hol
          go_wp2
          go_loopw [10, 13, 14] (fun seen cN nw wi => ∃ j : Nat, ∃ sj : List Int, j ≤ P ∧ cN = .int .i64 j ∧ Ints wi nw (itP xs (unrL xs k) j) ∧ ((j = 0 ∧ nw = Value.slice uA un uc) ∨ (1 ≤ j ∧ OwnI 3 wi w2.heap.size nw (itP xs (unrL xs k) j) ∧ (nw.ownBlock = none ∨ nw.ownBlock ≠ seen.ownBlock))) ∧ OwnI 3 wi w2.heap.size seen sj ∧ OwnI 3 wi w2.heap.size (.slice oA on oc) ol ∧ ((Value.slice oA on oc).ownBlock = none ∨ (Value.slice oA on oc).ownBlock ≠ seen.ownBlock) ∧ Hid (∀ t : Nat, hasL sj t = (seenP xs k t || (orbT (proR xs) k j).contains t)) ∧ sj.length ≤ k * 500 + j ∧ Below w2.heap.size w2 wi) (fun _ cN _ _ => P - (intOf cN).toNat)
          case atStart => exact ⟨0, sl, Nat.zero_le _, rfl, HIk.out, .inl ⟨rfl, rfl⟩, HSe.out, HO.out, HNeq.out, hid (fun t => by rw [HSl.out t]; simp [orbT]), by omega, Hb.out⟩
          case round =>
            obtain ⟨j, sj, hj, rfl, hi, hnw, hse, ho, hne, HSj, hsj, hb⟩ := hrel
            have HNw := hid hnw
            obtain ⟨wi, rfl⟩ : ∃ x, x = wr := ⟨wr, rfl⟩
            have HIj := hid hi
            have HSe3 := hid hse
            have HO3 := hid ho
            have HNeq3 := hid hne
            have Hb3 := hid hb
            have HLj := hid (itP_Lw hl1 HLw.out j)
            have hlj : (itP xs (unrL xs k) j).length ≤ 1048576 := by rw [HLj.out.len]; omega
            obtain ⟨nA, nn, nc, rfl⟩ : ∃ uA un uc, _ = Value.slice uA un uc := by obtain ⟨A, c, e, -⟩ := hi; exact ⟨_, _, _, e⟩
            obtain ⟨jA, jc, rfl, -⟩ := hse.shape
            have HIk3 := hid (HIk0.out.below hb)
            have hbx := (A5.out.below hb).1
            have hz3 := hb.size
            clear hi hse ho hne hb hnw
            obtain ⟨hIt1, hIt2⟩ := HIt.out j
            obtain ⟨t, ht⟩ : ∃ t, iter (proR xs) j k = t := ⟨_, rfl⟩
            have hitu : itP xs (unrL xs k) j = unrL xs t := by rw [← ht]; exact hIt1
            have HCs := hid (fun x => orbT_contains_succ (proR xs) k j x)
            rw [ht] at HCs hIt2
            have HOkk : Hid (okLin xs (itP xs (unrL xs k) j) = true) := hid (by rw [hitu]; exact okLin_unr HG.out hIt2)
            have HRk : Hid (ansRk xs (itP xs (unrL xs k) j) = (t : Int)) := hid (by rw [ansRk_yes HOkk.out, hitu, rank_unr hIt2])
            have HItj : Hid (proL xs 1 (itP xs (unrL xs k) j) = itP xs (unrL xs k) (j + 1)) := hid (proL_one xs _)
            clear hIt1 hIt2 ht hitu hbx
            by_cases h0 : j = 0
            · have hj0 : ((j : Int) == 0) = true := by rw [h0]; rfl
              have hbx4 := (A5.out.below Hb3.out).1
              go_wp2_with fail
              clear hbx4
              refine (specRankLinear_any _ xs _ (itP xs (unrL xs k) j) _ (HP2.out.below Hb3.out) HXl.out HIj.out hlj).mono ?_
              rintro e w5 ⟨rfl, hb5⟩
              rw [HOkk.out, HRk.out]
              have HS5 := hid (HSe3.out.below hb5)
              have HO5 := hid (HO3.out.below hb5)
              have Hb5 := hid (below_to Hb3.out hb5)
              have hz5 := Hb5.out.size
              clear hb5
              have HNw0 : Hid (Value.slice nA nn nc = Value.slice uA un uc) := hid (by
                rcases HNw.out with ⟨-, h⟩ | ⟨h, -⟩
                · exact h
                · omega)
              have HIt0 : Hid (itP xs (unrL xs k) j = unrL xs k) := hid (by rw [h0]; rfl)
              go_wp2_with (at_builtin; refine wpList_append_int2 rfl _ _ 25 3 rfl Try.underlying25 Try.info3 w2.heap.size _ sj (t : Int) rfl HS5.out rfl rfl (by omega) hz5 ?_; intro v6 w6 hs6 hb6 hk6; have hbx6 := (A5.out.below (Hb5.out.trans hb6)).1)
              have HI6 : Hid (Ints w6 (Value.slice nA nn nc) (itP xs (unrL xs k) j)) := hid (by rw [HNw0.out, HIt0.out]; exact HIk0.out.below (Hb5.out.trans hb6))
              obtain ⟨ho6, hn6⟩ := hk6 _ _ HO5.out HNeq3.out
              have HO6 := hid ho6
              have HN6 := hid hn6
              have HS6 := hid hs6
              obtain ⟨vA, vn, vc, rfl⟩ := hs6.shape3
              have Hb6 := hid (Hb5.out.trans hb6)
              clear hs6 hb6 hk6 ho6 hn6
              go_wp2_with fail
              clear hbx6
              refine (liPromote_any _ _ xs (itP xs (unrL xs k) j) 1 _ (HP2.out.below Hb6.out) HI6.out HG.out HLj.out (by omega) (by omega)).mono ?_
              rintro e w7 ⟨u7, rfl, ho7, hb7⟩
              rw [HItj.out] at ho7
              have HI7 := hid ho7
              have HS7 := hid (HS6.out.below hb7)
              have HO7 := hid (HO6.out.below hb7)
              have Hb7 := hid (below_to Hb6.out hb7)
              have hz6 := Hb6.out.size
              have HNw7 := hid (fresh_apartZ ho7 HS6.out)
              obtain ⟨u7A, u7n, u7c, rfl⟩ := ho7.shape3
              clear ho7 hb7
              go_wp2
              go_roundw
              case rel => exact ⟨j + 1, sj ++ [(t : Int)], by omega, by go_num, HI7.out.ints, .inr ⟨by omega, HI7.out.mono (by omega), HNw7.out⟩, HS7.out, HO7.out, HN6.out, hid (fun x => by rw [hasL_snoc, HSj.out x, HCs.out x, Bool.or_assoc]; congr 2; rw [Bool.eq_iff_iff]; simp; omega), by simp; omega, Hb7.out⟩
              case measure => simp [intOf]; omega
            · have hj0 : ((j : Int) == 0) = false := by rw [beq_eq_false_iff_ne]; omega
              go_wp2_with fail
              refine (l1SameL_any _ _ (itP xs (unrL xs k) j) (unrL xs k) _ HIj.out HIk3.out hlj).mono ?_
              rintro e w4 ⟨rfl, hb4⟩
              have H4I := hid (HIj.out.below hb4)
              have H4S := hid (HSe3.out.below hb4)
              have H4O := hid (HO3.out.below hb4)
              have H4b := hid (below_to Hb3.out hb4)
              have HB4 := hid hb4
              clear hb4
              by_cases hjP : j < P
              · rw [show sameL (itP xs (unrL xs k) j) (unrL xs k) = false from HNeP.out j (by omega) hjP]
                have hbx4 := (A5.out.below H4b.out).1
                go_wp2_with fail
                clear hbx4
                refine (specRankLinear_any _ xs _ (itP xs (unrL xs k) j) _ (HP2.out.below H4b.out) HXl.out H4I.out hlj).mono ?_
                rintro e w5 ⟨rfl, hb5⟩
                rw [HOkk.out, HRk.out]
                have HS5 := hid (H4S.out.below hb5)
                have HO5 := hid (H4O.out.below hb5)
                have Hb5 := hid (below_to H4b.out hb5)
                have hz5 := Hb5.out.size
                have HB5 := hid hb5
                clear hb5
                have HNw5 : Hid (OwnI 3 w5 w2.heap.size (Value.slice nA nn nc) (itP xs (unrL xs k) j) ∧ ((Value.slice nA nn nc).ownBlock = none ∨ (Value.slice nA nn nc).ownBlock ≠ (Value.slice jA sj.length jc).ownBlock)) := hid (by
                  rcases HNw.out with ⟨h, -⟩ | ⟨-, h1, h2⟩
                  · exact absurd h h0
                  · exact ⟨(h1.below HB4.out).below HB5.out, h2⟩)
                go_wp2_with (at_builtin; refine wpList_append_int2 rfl _ _ 25 3 rfl Try.underlying25 Try.info3 w2.heap.size _ sj (t : Int) rfl HS5.out rfl rfl (by omega) hz5 ?_; intro v6 w6 hs6 hb6 hk6; have hbx6 := (A5.out.below (Hb5.out.trans hb6)).1)
                have HI6 : Hid (Ints w6 (Value.slice nA nn nc) (itP xs (unrL xs k) j)) := hid ((hk6 _ _ HNw5.out.1 HNw5.out.2).1.ints)
                obtain ⟨ho6, hn6⟩ := hk6 _ _ HO5.out HNeq3.out
                have HO6 := hid ho6
                have HN6 := hid hn6
                have HS6 := hid hs6
                obtain ⟨vA, vn, vc, rfl⟩ := hs6.shape3
                have Hb6 := hid (Hb5.out.trans hb6)
                clear hs6 hb6 hk6 ho6 hn6
                go_wp2_with fail
                clear hbx6
                refine (liPromote_any _ _ xs (itP xs (unrL xs k) j) 1 _ (HP2.out.below Hb6.out) HI6.out HG.out HLj.out (by omega) (by omega)).mono ?_
                rintro e w7 ⟨u7, rfl, ho7, hb7⟩
                rw [HItj.out] at ho7
                have HI7 := hid ho7
                have HS7 := hid (HS6.out.below hb7)
                have HO7 := hid (HO6.out.below hb7)
                have Hb7 := hid (below_to Hb6.out hb7)
                have hz6 := Hb6.out.size
                have HNw7 := hid (fresh_apartZ ho7 HS6.out)
                obtain ⟨u7A, u7n, u7c, rfl⟩ := ho7.shape3
                clear ho7 hb7
                go_wp2
                go_roundw
                case rel => exact ⟨j + 1, sj ++ [(t : Int)], by omega, by go_num, HI7.out.ints, .inr ⟨by omega, HI7.out.mono (by omega), HNw7.out⟩, HS7.out, HO7.out, HN6.out, hid (fun x => by rw [hasL_snoc, HSj.out x, HCs.out x, Bool.or_assoc]; congr 2; rw [Bool.eq_iff_iff]; simp; omega), by simp; omega, Hb7.out⟩
                case measure => simp [intOf]; omega
              · have hjP2 : j = P := by omega
                rw [show sameL (itP xs (unrL xs k) j) (unrL xs k) = true by rw [hjP2]; exact HEq.out]
                have hz4 := H4b.out.size
                have HPu := hid (fun W (h : OwnI 3 W w2.heap.size (.slice oA on oc) (sortL (spL z (lensK xs k)))) => svPut_any (.slice oA on oc) (spL z (lensK xs k)) ((z / j : Nat) : Int) _ W h (by rw [spL_length]; omega))
                have hNew : spL z (lensK xs k) ++ [((z / j : Nat) : Int)] = spL z (lensK xs (k + 1)) := by rw [HNo.out.2, ← hjP2, spL_snoc]
                rw [hNew, HOl.out] at HPu
                have HSq : Hid (∀ x : Nat, hasL sj x = seenP xs (k + 1) x) := hid (fun x => by rw [HNo.out.1 x, HSj.out x, hjP2])
                have hsjl : sj.length ≤ (k + 1) * 500 := by omega
                have hq1 : ((z : Int).tdiv (j : Int)) = ((z / j : Nat) : Int) := tdiv_nat z j
                have hq2 : ((z : Int) / (j : Int)) = ((z / j : Nat) : Int) := by simp
                have hqle : z / j ≤ z := Nat.div_le_self _ _
                obtain ⟨yq, hy⟩ : ∃ yq, z / j = yq := ⟨_, rfl⟩
                rw [hy] at hq1 hq2 hqle HPu
                have hwy : IntKind.i64.wrap (yq : Int) = (yq : Int) := IntWalk.i64_in _ (by omega)
                have hwz : IntKind.i64.wrap (z : Int) = (z : Int) := IntWalk.i64_in _ (by omega)
                have hz3' : ¬ (j : Int) = 0 := by omega
                have hz5 : (0 : Int) < (j : Int) := by omega
                have hk1 : k + 1 ≤ N := hlt
                have hxy := HXy.out
                clear hjP2 hNew hy
                go_wp2_with fail
                clear hj0 hq1 hq2 hwy hwz hz3' hxy
                refine (HPu.out _ H4O.out).mono ?_
                rintro e w7 ⟨u7, rfl, ho7, hb7⟩
                have HS7 := hid (H4S.out.below hb7)
                have Hb7 := hid (below_to H4b.out hb7)
                have HN7 := hid (fresh_apartZ ho7 H4S.out)
                have HO7 := hid (ho7.mono hz4)
                obtain ⟨u7A, u7n, u7c, rfl⟩ := ho7.shape3
                clear ho7 hb7
                go_wp2
                go_roundw
                case rel => exact ⟨k + 1, sj, hk1, by go_num, HO7.out, HS7.out, HN7.out, HSq, hsjl, Hb7.out⟩
                case measure => simp [intOf]; omega
        · have HYes := hid (seenP_yes Hkx.out hs)
          clear hs
          go_wp2
          go_roundw
          case rel => exact ⟨k + 1, sl, by omega, by go_num, by rw [HYes.out.2]; exact HO.out, HSe.out, HNeq.out, hid (fun t => by rw [HSl.out t, HYes.out.1]), by omega, Hb.out⟩
          case measure => simp [intOf]; omega
      · have Hk := hid (show k = N by omega)
        have hlt' : ¬ (k : Int) < (N : Int) := by omega
        have hwz := HB2.out.size
        have HO9 := hid (HO.out.mono hwz)
        clear hlt hwz
        go_wp2
        go_ret2
        exact ⟨_, rfl, by rw [HAns.out, ← lensK_full, HNe.out, ← Hk.out]; exact HO9.out, HL.out, below_to HB2.out Hb.out⟩
end Go.Proofs.Ytnlehkjfidpdlab
