/- RowStabilizers: the model. -/
import Derived.Test.YtnlehkjfidpdlabSvS
import Derived.Test.YtnlehkjfidpdlabSvU
import Derived.Test.YtnlehkjfidpdlabSvRow
import Derived.Test.YtnlehkjfidpdlabFixC
import Derived.Test.YtnlehkjfidpdlabShs
import Derived.Test.YtnlehkjfidpdlabSv
namespace Go.Proofs.Ytnlehkjfidpdlab
open Go.RowKit Go.WideShapes Go.ChangeShapes
set_option linter.unusedVariables false

def sbR (xs : List Int) (j t : Nat) : Bool := seenB (rowmo xs) (2 ^ xs.length) (startsN (rowmo xs) (2 ^ xs.length) (idsXs xs) j) t
def lnR (xs : List Int) (j : Nat) : List Int := (startsN (rowmo xs) (2 ^ xs.length) (idsXs xs) j).map fun s => ((per (rowmo xs) (2 ^ xs.length) s : Nat) : Int)
def prR (xs : List Int) (s : Nat) : Nat := per (rowmo xs) (2 ^ xs.length) s
theorem idsXs_getD {xs : List Int} {j : Nat} (hj : j < (idNs xs).length) : ((idsXs xs).getD j 0).toNat = (idNs xs).getD j 0 := by
  rw [idNs_ints, List.getD_eq_getElem?_getD, List.getElem?_map, List.getD_eq_getElem?_getD, List.getElem?_eq_getElem hj]; simp
theorem sbR_yes {xs : List Int} {j s : Nat} (hj : j < (idNs xs).length) (hs : (idNs xs).getD j 0 = s) (h : sbR xs j s = true) : (∀ t, sbR xs (j + 1) t = sbR xs j t) ∧ lnR xs (j + 1) = lnR xs j := by
  unfold sbR at h
  have e := startsN_yes (f := rowmo xs) (N := 2 ^ xs.length) (ids := idsXs xs) (k := j) (by rw [idsXs_getD hj, hs]; exact h)
  unfold sbR lnR
  rw [e]
  exact ⟨fun _ => rfl, rfl⟩
theorem sbR_no {xs : List Int} {j s : Nat} (hj : j < (idNs xs).length) (hs : (idNs xs).getD j 0 = s) (h : sbR xs j s = false) : (∀ t, sbR xs (j + 1) t = (sbR xs j t || (orbT (rowmo xs) s (prR xs s)).contains t)) ∧ lnR xs (j + 1) = lnR xs j ++ [((prR xs s : Nat) : Int)] := by
  unfold sbR at h
  have e := startsN_no (f := rowmo xs) (N := 2 ^ xs.length) (ids := idsXs xs) (k := j) (by rw [idsXs_getD hj, hs]; exact h)
  rw [idsXs_getD hj, hs] at e
  unfold sbR lnR
  rw [e]
  exact ⟨fun t => seenB_snoc _ _ _ _ _, by simp [prR]⟩
theorem lnR_full (xs : List Int) : lnR xs (idNs xs).length = lensXs xs := by
  rw [lensXs_starts]
  unfold lnR starts
  rw [show (idsXs xs).length = (idNs xs).length by rw [idNs_ints, List.length_map]]
theorem lnR_length (xs : List Int) (j : Nat) : (lnR xs j).length ≤ j := by
  unfold lnR; rw [List.length_map]; exact startsN_length _ _ _ _
def idChk (a b : Nat) : Bool := decide ((idNs (whereL (rectF b) (a * b))).length ≤ 100)
theorem id_chk : ((List.range 11).all fun a => (List.range 11).all fun b => decide (10 < a * b) || idChk a b) = true := by decide +kernel
theorem id_small {x y : Nat} (h2 : x ≤ 10) (h4 : y ≤ 10) (h5 : x * y ≤ 10) : (idNs (whereL (rectF y) (x * y))).length ≤ 100 := by
  have h3 := List.all_eq_true.1 (List.all_eq_true.1 id_chk x (List.mem_range.2 (by omega))) y (List.mem_range.2 (by omega))
  rw [decide_eq_false (show ¬ 10 < x * y by omega), Bool.false_or] at h3
  exact of_decide_eq_true h3
theorem hasL_orb {sj : List Int} {f : Nat → Nat} {k j t : Nat} {S : Nat → Bool} (h : ∀ x : Nat, hasL sj x = (S x || (orbT f k j).contains x)) (ht : iter f j k = t) (x : Nat) : hasL (sj ++ [(t : Int)]) x = (S x || (orbT f k (j + 1)).contains x) := by
  have h2 := orbT_contains_succ f k j x
  rw [ht] at h2
  rw [hasL_snoc, h x, h2, Bool.or_assoc]; congr 2; rw [Bool.eq_iff_iff]; simp; omega
theorem fresh_apart {e : TypeId} {w w' : World} {u v : Value} {xs ys : List Int} {B : Nat} (h : OwnI e w' w.heap.size u xs) (k : OwnI e w B v ys) : u.ownBlock = none ∨ u.ownBlock ≠ v.ownBlock := by
  rcases hq : u.ownBlock with _ | q
  · exact .inl rfl
  · refine .inr fun e2 => ?_
    have h1 := (OwnI.blockLt h q hq).1
    have h2 := (OwnI.blockLt k q e2.symm).2
    omega
set_option maxRecDepth 100000 in
set_option maxHeartbeats 3200000 in
theorem specRowStabilizers_any (a b : Int) (w : World) (wa : (Lit.int .i64 a).wf = true) (wb : (Lit.int .i64 b).wf = true) :
    Calls Try.prog 12 #[.int .i64 a, .int .i64 b] w fun (r : Ending) w' => ∃ u, r = Ending.returned (.tuple #[u, .bool (sides a b)]) ∧ OwnI 3 w' w.heap.size u (ansRS2 a b) ∧ (ansRS2 a b).length ≤ 1048576 ∧ Below w.heap.size w w' := by
  have HS := hid (fun W => shSides_any a b W)
  have HL0 := hid (ansRS2_length a b)
  clear wa wb
  cases hs : sides a b
  · have HN := hid (ansRS2_no hs)
    rw [hs] at HS
    clear hs
    go_enter Try.func12, Try.ntmps12
    go_wp2_with fail
    refine (HS.out _).mono ?_
    rintro e w1 ⟨rfl, rfl⟩
    go_wp2
    go_ret2
    exact ⟨_, rfl, by rw [HN.out]; exact OwnI.nil _ _ _, HL0.out, Below.refl _ _⟩
  · obtain ⟨x, y, rfl, rfl, h1, h2, h3, h4, h5⟩ := sides_nat hs
    have hg := rectL_goodS hs h1 h2 h3 h4 h5
    have HAn := hid (ansRS2_yes hs)
    have hsm := id_small h2 h4 h5
    rw [← rectL_yes hs] at hsm
    have hl10 := (good_length hg).2
    have hN10 := two_pow_le _ hl10
    have HMem : Hid (∀ j, j < (idNs (rectL x y)).length → idB (rectL x y) ((idNs (rectL x y)).getD j 0) = true) := hid (fun j hj => by
      have hm : (idNs (rectL x y)).getD j 0 ∈ idNs (rectL x y) := by rw [List.getD_eq_getElem?_getD, List.getElem?_eq_getElem hj]; exact List.getElem_mem _
      unfold idNs at hm
      rw [List.mem_filter, List.mem_range] at hm
      unfold idB
      rw [Bool.and_eq_true, decide_eq_true_eq]
      exact hm)
    have HPer := hid (fun s (hs : idB (rectL x y) s = true) => (rowMov hg).perS hs)
    have HLt := hid (fun s k (hs : idB (rectL x y) s = true) => (rowMov hg).lt _ ((rowMov hg).it hs k))
    have HRo := hid (fun v W (hW : Ints W v (rectL x y)) s (hs : s < 2 ^ (rectL x y).length) => svRow_any v (rectL x y) s W hW hg hs)
    have HPi := hid (fun v W (hW : Ints W v (rectL x y)) => poIdeals_any v (rectL x y) W hW hg)
    have HSl : Hid (setsL (holdsIdeal (rectL x y)) (2 ^ (rectL x y).length) = intsN (idNs (rectL x y))) := hid rfl
    rw [HSl.out] at HPi
    rw [hs] at HS
    have HPo := hid (poRectangle_any x y · h1 h2 h3 h4 h5)
    rw [← rectL_yes hs] at HPo
    have HFu := hid (lnR_full (rectL x y))
    have HLl := hid (lnR_length (rectL x y))
    obtain ⟨xs, hxs⟩ : ∃ xs, rectL (x : Int) (y : Int) = xs := ⟨_, rfl⟩
    rw [hxs] at HMem HPer HLt HRo HPi HPo HAn HFu HLl hsm hN10
    have HSy := hid (fun j s hj hs h => sbR_yes (xs := xs) (j := j) (s := s) hj hs h)
    have HSn := hid (fun j s hj hs h => sbR_no (xs := xs) (j := j) (s := s) hj hs h)
    obtain ⟨L, hL⟩ : ∃ L, idNs xs = L := ⟨_, rfl⟩
    rw [hL] at HMem HPi HFu HSy HSn hsm
    have HPe : Hid (∀ s, per (rowmo xs) (2 ^ xs.length) s = prR xs s) := hid (fun s => rfl)
    obtain ⟨N, hN⟩ : ∃ N, 2 ^ xs.length = N := ⟨_, rfl⟩
    rw [hN] at HLt HRo HPer HPe hN10
    obtain ⟨f, hf⟩ : ∃ f, rowmo xs = f := ⟨_, rfl⟩
    rw [hf] at HLt HRo HPer HPe HSn
    have hxy : IntKind.i64.wrap ((x : Int) + (y : Int)) = ((x + y : Nat) : Int) := by rw [IntWalk.i64_in _ (by omega)]; omega
    have HXy := hid hxy
    obtain ⟨z, hz⟩ : ∃ z, x + y = z := ⟨_, rfl⟩
    have hz20 : z ≤ 20 := by omega
    rw [hz] at HXy HAn
    clear hs hg hxs hL hN hf HSl hl10 hxy hz
    go_enter Try.func12, Try.ntmps12
    go_wp2_with fail
    refine (HS.out _).mono ?_
    rintro e w1 ⟨rfl, rfl⟩
    go_wp2_with fail
    refine (HPo.out _).mono ?_
    rintro e w1 ⟨p, rfl, hp, hb⟩
    obtain ⟨pA, pn, pc, rfl⟩ := hp.shape3
    have HB := hid (below_alloc hb (.cells #[.slice pA pn pc] 35))
    have HP := hid (hp.ints.alloc (.cells #[.slice pA pn pc] 35))
    have A4 := hid (At.new w1 (.slice pA pn pc) 35)
    obtain ⟨W1, hW1⟩ : ∃ W1 : World, W1 = w1.alloc (.cells #[.slice pA pn pc] 35) := ⟨_, rfl⟩
    rw [← hW1] at HB HP A4
    have t0 := A4.out.1
    rw [hW1] at t0
    clear hp hb
    go_wp2_with fail
    rw [← hW1]
    clear hW1 t0
    refine (HPi.out _ _ HP.out).mono ?_
    rintro e w2 ⟨q, rfl, ho, hb⟩
    have HB2 := hid (below_to HB.out hb)
    have HP2 := hid (HP.out.below hb)
    have A5 := hid (A4.out.below hb)
    obtain ⟨A, c, rfl, hA⟩ := ho.ints
    rw [intsN_length] at hA ⊢
    have HA := hid hA
    clear ho hb hA
    go_wp2
    go_loopw [7, 8, 23] (fun out seen i wr => ∃ j : Nat, ∃ sl : List Int, j ≤ L.length ∧ i = .int .i64 (j : Int) ∧ OwnI 3 wr w2.heap.size out (sortL (stbL z (lnR xs j))) ∧ OwnI 3 wr w2.heap.size seen sl ∧ (out.ownBlock = none ∨ out.ownBlock ≠ seen.ownBlock) ∧ Hid (∀ t : Nat, hasL sl t = sbR xs j t) ∧ sl.length ≤ j * 1024 ∧ Below w2.heap.size w2 wr) (fun _ _ i _ => L.length - (intOf i).toNat)
    case atStart => exact ⟨0, [], Nat.zero_le _, rfl, by rw [show sortL (stbL z (lnR xs 0)) = [] by simp [lnR, startsN, stbL, sortL]]; exact OwnI.nil _ _ _, OwnI.nil _ _ _, .inl rfl, hid (fun t => rfl), Nat.zero_le _, Below.refl _ _⟩
    case round =>
      obtain ⟨j, sl, hj, rfl, ho, hse, hne, HSl, hsl, hb⟩ := hrel
      have HO := hid ho
      have HSe := hid hse
      have HNeq := hid hne
      have Hb := hid hb
      have hlj := HLl.out j
      obtain ⟨oA, on, oc, rfl⟩ := ho.shape3
      obtain ⟨sA, sc, rfl, -⟩ := hse.shape
      by_cases hlt : j < L.length
      · obtain ⟨b1, o1, rfl, hbl1, hc1⟩ := HA.out (by intro h; have := congrArg List.length h; rw [intsN_length, List.length_nil] at this; omega)
        have hcell := (hb.cell (p := ⟨b1, o1 + j, none⟩) hbl1).trans (hc1 j hlt)
        rw [intsN_get hlt] at hcell
        have hid1 := HMem.out j hlt
        have HYs := hid (HSy.out j (L.getD j 0) hlt rfl)
        have HNs := hid (HSn.out j (L.getD j 0) hlt rfl)
        obtain ⟨s, hs⟩ : ∃ s, L.getD j 0 = s := ⟨_, rfl⟩
        rw [hs] at hcell hid1 HYs HNs
        have hsl2 : sl.length ≤ 1048576 := by omega
        have hj1 : j + 1 ≤ L.length := hlt
        have hj100 : j < 100 := by omega
        have HI := hid hid1
        clear hc1 hs ho hse hne hb hid1
        go_wp2_with fail
        clear hcell
        refine (l1HasL_any _ sl _ _ HSe.out.ints hsl2).mono ?_
        rintro e w3 ⟨rfl, rfl⟩
        rw [HSl.out s]
        cases hsb : sbR xs j s
        · have HNo := hid (HNs.out hsb)
          obtain ⟨p1, p2, p3, p4⟩ := HPer.out s HI.out
          rw [HPe.out] at p1 p2 p3 p4
          have HIt := hid p1
          have HNe2 := hid p4
          obtain ⟨P, hP⟩ : ∃ P, prR xs s = P := ⟨_, rfl⟩
          rw [hP] at p2 p3 HIt HNe2 HNo
          have hP1024 : P ≤ 1024 := by omega
          clear hsb hP p1 p4
          obtain ⟨W3, hW3⟩ : ∃ x, x = wr := ⟨wr, rfl⟩
          rw [← hW3] at HO HSe Hb ⊢
          clear hW3
          go_wp2
          go_loopw [8, 11, 12] (fun seen ln nw wi => ∃ (i t : Nat) (sj : List Int), i ≤ P ∧ ln = .int .i64 (i : Int) ∧ nw = .int .i64 (t : Int) ∧ Hid (iter f i s = t) ∧ OwnI 3 wi w2.heap.size seen sj ∧ OwnI 3 wi w2.heap.size (.slice oA on oc) (sortL (stbL z (lnR xs j))) ∧ ((Value.slice oA on oc).ownBlock = none ∨ (Value.slice oA on oc).ownBlock ≠ seen.ownBlock) ∧ Hid (∀ x : Nat, hasL sj x = (sbR xs j x || (orbT f s i).contains x)) ∧ sj.length ≤ j * 1024 + i ∧ Below w2.heap.size w2 wi) (fun _ ln _ _ => P - (intOf ln).toNat)
          case atStart => exact ⟨0, s, sl, Nat.zero_le _, rfl, rfl, hid rfl, HSe.out, HO.out, HNeq.out, hid (fun x => by rw [HSl.out x]; simp [orbT]), by omega, Hb.out⟩
          case round =>
            obtain ⟨i, t, sj, hi, rfl, rfl, HT, hse, ho, hne, HSj, hsj, hb⟩ := hrel
            have HSe3 := hid hse
            have HO3 := hid ho
            have HNeq3 := hid hne
            have Hb3 := hid hb
            obtain ⟨jA, jc, rfl, -⟩ := hse.shape
            have htl := HLt.out s i HI.out
            rw [HT.out] at htl
            have hz3 := hb.size
            have HAp := hid (hasL_orb (f := f) (S := sbR xs j) HSj.out HT.out)
            clear hse ho hne hb
            by_cases hiP : i < P
            · have HC := hid (fun W (hW : Below w2.heap.size w2 W) => HRo.out _ W (HP2.out.below hW) t htl)
              have HI2 : Hid (iter f (i + 1) s = f t) := hid (by rw [iter, HT.out])
              have hi1 : i + 1 ≤ P := hiP
              have hln : sj.length < 1048576 := by omega
              have HLn : Hid ((sj ++ [(t : Int)]).length ≤ j * 1024 + (i + 1)) := hid (by simp; omega)
              have HM : Hid (P - (i + 1) < P - i) := hid (by omega)
              by_cases h0 : i = 0
              · have hi0 : ((i : Int) == 0) = true := by rw [h0]; rfl
                clear h0
                go_wp2_with (at_builtin; refine wpList_append_int2 rfl _ _ 25 3 rfl Try.underlying25 Try.info3 w2.heap.size _ sj (t : Int) rfl HSe3.out rfl rfl hln hz3 ?_; intro v6 w6 hs6 hb6 hk6; have hbx6 := (A5.out.below (Hb3.out.trans hb6)).1)
                obtain ⟨ho6, hn6⟩ := hk6 _ _ HO3.out HNeq3.out
                have HO6 := hid ho6
                have HN6 := hid hn6
                have HS6 := hid hs6
                have Hb6 := hid (Hb3.out.trans hb6)
                obtain ⟨vA, vn, vc, rfl⟩ := hs6.shape3
                clear hs6 hb6 hk6 ho6 hn6
                go_wp2_with fail
                clear hbx6 hi0
                refine (HC.out _ Hb6.out).mono ?_
                rintro e w7 ⟨rfl, hb7⟩
                have HS7 := hid (HS6.out.below hb7)
                have HO7 := hid (HO6.out.below hb7)
                have Hb7 := hid (below_to Hb6.out hb7)
                clear hb7
                go_wp2
                go_roundw
                case rel => exact ⟨i + 1, _, sj ++ [(t : Int)], hi1, by go_num, rfl, HI2, HS7.out, HO7.out, HN6.out, HAp, HLn.out, Hb7.out⟩
                case measure => simp [intOf]; first | exact HM.out | (have h := HM.out; omega)
              · have hi0 : ((i : Int) == 0) = false := by rw [beq_eq_false_iff_ne]; omega
                have hts : ((t : Int) != (s : Int)) = true := by
                  rw [bne_iff_ne]
                  intro h
                  have h6 := HNe2.out i (by omega) hiP
                  rw [HT.out] at h6
                  exact h6 (by omega)
                clear h0
                go_wp2_with (at_builtin; refine wpList_append_int2 rfl _ _ 25 3 rfl Try.underlying25 Try.info3 w2.heap.size _ sj (t : Int) rfl HSe3.out rfl rfl hln hz3 ?_; intro v6 w6 hs6 hb6 hk6; have hbx6 := (A5.out.below (Hb3.out.trans hb6)).1)
                obtain ⟨ho6, hn6⟩ := hk6 _ _ HO3.out HNeq3.out
                have HO6 := hid ho6
                have HN6 := hid hn6
                have HS6 := hid hs6
                have Hb6 := hid (Hb3.out.trans hb6)
                obtain ⟨vA, vn, vc, rfl⟩ := hs6.shape3
                clear hs6 hb6 hk6 ho6 hn6
                go_wp2_with fail
                clear hbx6 hi0 hts
                refine (HC.out _ Hb6.out).mono ?_
                rintro e w7 ⟨rfl, hb7⟩
                have HS7 := hid (HS6.out.below hb7)
                have HO7 := hid (HO6.out.below hb7)
                have Hb7 := hid (below_to Hb6.out hb7)
                clear hb7
                go_wp2
                go_roundw
                case rel => exact ⟨i + 1, _, sj ++ [(t : Int)], hi1, by go_num, rfl, HI2, HS7.out, HO7.out, HN6.out, HAp, HLn.out, Hb7.out⟩
                case measure => simp [intOf]; first | exact HM.out | (have h := HM.out; omega)
            · have hiP2 : i = P := by omega
              rw [hiP2, HIt.out] at HT
              have hts : ((t : Int) != (s : Int)) = false := by rw [bne_eq_false_iff_eq, HT.out]
              have hi0 : ((i : Int) == 0) = false := by rw [beq_eq_false_iff_ne]; omega
              have HPu := hid (fun W (h : OwnI 3 W w2.heap.size (.slice oA on oc) (sortL (stbL z (lnR xs j)))) => svPut_any (.slice oA on oc) (stbL z (lnR xs j)) ((z / i : Nat) : Int) _ W h (by rw [stbL_length]; omega))
              have hNew : stbL z (lnR xs j) ++ [((z / i : Nat) : Int)] = stbL z (lnR xs (j + 1)) := by rw [HNo.out.2, ← hiP2, stbL_snoc]
              rw [hNew] at HPu
              have HSq : Hid (∀ x : Nat, hasL sj x = sbR xs (j + 1) x) := hid (fun x => by rw [HNo.out.1 x, HSj.out x, hiP2])
              have hsjl : sj.length ≤ (j + 1) * 1024 := by omega
              have hq1 := tdiv_natC z i
              have hq2 : ((z : Int) / (i : Int)) = ((z / i : Nat) : Int) := by simp
              have hqle : z / i ≤ z := Nat.div_le_self _ _
              obtain ⟨yq, hy⟩ : ∃ yq, z / i = yq := ⟨_, rfl⟩
              rw [hy] at hq1 hq2 hqle HPu
              have hwy : IntKind.i64.wrap (yq : Int) = (yq : Int) := IntWalk.i64_in _ (by omega)
              have hz3' : ¬ (i : Int) = 0 := by omega
              have hz5 : (0 : Int) < (i : Int) := by omega
              have hxy := HXy.out
              clear hiP2 hNew hy
              go_wp2_with fail
              clear hts hi0 hq1 hq2 hwy hz3' hxy
              refine (HPu.out _ HO3.out).mono ?_
              rintro e w7 ⟨u7, rfl, ho7, hb7⟩
              have HS7 := hid (HSe3.out.below hb7)
              have Hb7 := hid (below_to Hb3.out hb7)
              have HN7 := hid (fresh_apart ho7 HSe3.out)
              have HO7 := hid (ho7.mono hz3)
              obtain ⟨uA, un, uc, rfl⟩ := ho7.shape3
              clear ho7 hb7
              go_wp2
              go_roundw
              case rel => exact ⟨j + 1, sj, hj1, by go_num, HO7.out, HS7.out, HN7.out, HSq, hsjl, Hb7.out⟩
              case measure => simp [intOf]; omega
        · have HYes := hid (HYs.out hsb)
          clear hsb
          go_wp2
          go_roundw
          case rel => exact ⟨j + 1, sl, hj1, by go_num, by rw [HYes.out.2]; exact HO.out, HSe.out, HNeq.out, hid (fun t => by rw [HSl.out t, HYes.out.1 t]), by omega, Hb.out⟩
          case measure => simp [intOf]; omega
      · have hje : j = L.length := by omega
        rw [hje, HFu.out] at HO
        have hwz := HB2.out.size
        have HO9 := hid (HO.out.mono hwz)
        have hge : ¬ (j : Int) < (L.length : Int) := by omega
        clear hje hj ho hse hne hb hlt hwz
        go_wp2
        go_ret2
        exact ⟨_, rfl, by rw [HAn.out]; exact HO9.out, HL0.out, below_to HB2.out Hb.out⟩
end Go.Proofs.Ytnlehkjfidpdlab
