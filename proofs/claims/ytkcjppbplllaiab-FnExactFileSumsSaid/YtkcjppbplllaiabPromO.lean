/- PromotionOrbits: contracts. -/
import Derived.Test.YtkcjppbplllaiabWithin
import Derived.Test.YtkcjppbplllaiabCycD
namespace Go.Proofs.Ytkcjppbplllaiab
open Go.RowKit Go.WideShapes Go.ChangeShapes
set_option linter.unusedVariables false

theorem ret_vbP {u : Value} {a b : Bool} (h : a = b) : Ending.returned (.tuple #[u, .bool a]) = .returned (.tuple #[u, .bool b]) := by rw [h]
def mkOrb (f : Nat → Nat) (N : Nat) (st : List Nat) (s k : Nat) : List Bool := marksB (fun x => seenB f N st x || (orbT f s k).contains x) N
theorem mkOrb_zero (f : Nat → Nat) (N : Nat) (st : List Nat) (s : Nat) : mkOrb f N st s 0 = marksB (seenB f N st) N := marksB_congr fun t _ => by simp [orbT]
theorem mkOrb_set (f : Nat → Nat) (N : Nat) (st : List Nat) (s k : Nat) : (mkOrb f N st s k).set (iter f k s) true = mkOrb f N st s (k + 1) := by
  unfold mkOrb
  rw [marksB_set]
  exact marksB_congr fun t _ => by rw [orbT_contains_succ, Bool.or_assoc]
theorem mkOrb_full (f : Nat → Nat) (N : Nat) (st : List Nat) (s : Nat) : mkOrb f N st s (per f N s) = marksB (seenB f N (st ++ [s])) N := marksB_congr fun t _ => by rw [seenB_snoc]; rfl
theorem mkOrb_length (f : Nat → Nat) (N : Nat) (st : List Nat) (s k : Nat) : (mkOrb f N st s k).length = N := marksB_length _ _
def persL (f : Nat → Nat) (N : Nat) (st : List Nat) : List Int := st.map fun s => ((per f N s : Nat) : Int)
theorem persL_snoc (f : Nat → Nat) (N : Nat) (st : List Nat) (s : Nat) : persL f N (st ++ [s]) = persL f N st ++ [((per f N s : Nat) : Int)] := by simp [persL]
theorem ids_D (xs : List Int) (j : Nat) (hj : j < (setsL (holdsIdeal xs) (2 ^ xs.length)).length) : idB xs ((setsL (holdsIdeal xs) (2 ^ xs.length)).getD j 0).toNat = true := by
  obtain ⟨s, h1, h2, h3⟩ := setsL_bound (f := holdsIdeal xs) (N := 2 ^ xs.length) hj
  rw [h1, Int.toNat_natCast]
  exact idB_iff.2 ⟨h2, h3⟩
def ansPO (a b : Int) : List Int := if sides9 a b then cycW (rectL a b) (promW a.toNat b.toNat) else []
theorem ansPO_no {a b : Int} (h : sides9 a b = false) : ansPO a b = [] := by simp [ansPO, h]
theorem ansPO_yes {x y : Nat} (h : sides9 x y = true) : ansPO x y = cycW (rectL x y) (promW x y) := by simp [ansPO, h]
theorem ansPO_length (a b : Int) : (ansPO a b).length ≤ 1048576 := by
  cases h : sides9 a b
  · rw [ansPO_no h]; simp
  · obtain ⟨x, y, rfl, rfl, -, -, -, -, -, -, hg, -⟩ := sides9_all h
    rw [ansPO_yes h]; have := cycW_length (ys := promW x y) hg; omega
theorem cycW_pers {xs ys : List Int} (hy : inW xs.length ys = true) : cycW xs ys = persL (wordF xs ys) (2 ^ xs.length) (starts (wordF xs ys) (2 ^ xs.length) (setsL (holdsIdeal xs) (2 ^ xs.length))) := by
  unfold cycW
  exact cyclesL_starts (wordMov hy) (ids_D xs)
set_option maxHeartbeats 1600000 in
theorem implPromotionOrbits_any (a b : Int) (w : World) (wa : (Lit.int .i64 a).wf = true) (wb : (Lit.int .i64 b).wf = true) :
    Calls Try.prog 12 #[.int .i64 a, .int .i64 b] w fun (r : Ending) w' => ∃ q, r = Ending.returned (.tuple #[q, .bool (sides9 a b)]) ∧ OwnI 3 w' w.heap.size q (ansPO a b) ∧ (ansPO a b).length ≤ 1048576 ∧ Below w.heap.size w w' := by
  have HT := hid (rectangleWithin_any a b w wa wb)
  have HL := hid (ansPO_length a b)
  clear wa wb
  go_enter Try.func12, Try.ntmps12
  go_wp2_with fail
  refine HT.out.mono ?_
  rintro e w1 ⟨u, rfl, ho, hl, hb⟩
  obtain ⟨uA, un, uc, rfl⟩ := ho.shape3
  have HB := hid (below_alloc hb (.cells #[.slice uA un uc] 38))
  have HV := hid (ho.ints.alloc (.cells #[.slice uA un uc] 38))
  have HAt := hid (At.new w1 (.slice uA un uc) 38)
  have hbx := HAt.out.1
  clear ho hb
  cases hs : sides9 a b
  · have HN := hid (ansPO_no hs)
    have HS := hid hs
    clear hs
    go_wp2
    go_ret2
    exact ⟨_, ret_vbP HS.out.symm, by rw [HN.out]; exact OwnI.nil _ _ _, HL.out, HB.out⟩
  · have HS := hid hs
    rw [rect9_yes hs] at HV
    obtain ⟨x, y, rfl, rfl, h1, h2, h3, h4, h5, hr, hg, hlx⟩ := sides9_all hs
    have HA := hid (ansPO_yes hs)
    have HG := hid hg
    have HW : Hid (inW (rectL (x : Int) (y : Int)).length (promW x y) = true) := hid (by rw [hlx]; exact (promW_in h2 h4).ok)
    have hwl := (promW_in h2 h4).len
    have hwl2 : (promW x y).length ≤ 1048576 := by omega
    have h10 : x * y ≤ 10 := by omega
    have hz0 := HB.out.size
    clear hr hg hlx hwl hs h5
    go_wp2_with fail
    go_region_with (first | (go_at_call 45; refine (promotionOf_any x y _ h1 h2 h3 h4 h10).mono ?_; rintro e w3 ⟨u3, rfl, ho3, hb3⟩; have H3 := hid (below_to HB.out.drew hb3); have HV3 := hid (HV.out.drew.below hb3); have HU3 := hid ho3.ints; have hbx3 := (HAt.out.drew.below hb3).1; clear hb3 ho3) | (go_at_call 44; refine (cyclesOf_any _ _ _ (promW x y) _ HV3.out HU3.out HG.out HW.out hwl2).mono ?_; rintro e w4 ⟨q, rfl, ho4, hb4⟩; have H4 := hid (below_to H3.out hb4); have HO4 := hid (ho4.mono H3.out.size); clear hb4 ho4))
    all_goals go_wp2
    all_goals go_ret2
    all_goals exact ⟨_, ret_vbP HS.out.symm, by rw [HA.out]; exact HO4.out, HL.out, H4.out⟩
set_option maxHeartbeats 3200000 in
theorem specPromotionOrbits_any (a b : Int) (w : World) (wa : (Lit.int .i64 a).wf = true) (wb : (Lit.int .i64 b).wf = true) :
    Calls Try.prog 11 #[.int .i64 a, .int .i64 b] w fun (r : Ending) w' => ∃ q, r = Ending.returned (.tuple #[q, .bool (sides9 a b)]) ∧ OwnI 3 w' w.heap.size q (ansPO a b) ∧ (ansPO a b).length ≤ 1048576 ∧ Below w.heap.size w w' := by
  have HT := hid (obSides_any a b w wa wb)
  have HL := hid (ansPO_length a b)
  clear wa wb
  cases hs : sides9 a b
  · have HN := hid (ansPO_no hs)
    have HS := hid hs
    rw [hs] at HT
    clear hs
    go_enter Try.func11, Try.ntmps11
    go_wp2_with (go_at_call 39; refine HT.out.mono ?_; rintro e w' ⟨rfl, rfl⟩)
    go_ret2
    exact ⟨_, rfl, by rw [HN.out]; exact OwnI.nil _ _ _, HL.out, Below.refl _ _⟩
  · have HS := hid hs
    rw [hs] at HT
    obtain ⟨x, y, rfl, rfl, h1, h2, h3, h4, h5, hr, hg, hlx⟩ := sides9_all hs
    have h10 : x * y ≤ 10 := by omega
    have HRec := hid (fun W => poRectangle_any x y W h1 h2 h3 h4 h10)
    have HAns : Hid (ansPO x y = cycW (rectL (x : Int) (y : Int)) (promW x y)) := hid (ansPO_yes hs)
    rw [hr] at hg hlx HAns
    obtain ⟨xs, hx⟩ : ∃ xs, whereL (rectF y) (x * y) = xs := ⟨_, rfl⟩
    rw [hx] at hg hlx HAns HRec
    have hl10 := (good_length hg).2
    have hin : inW xs.length (promW x y) = true := by rw [hlx]; exact (promW_in h2 h4).ok
    rw [cycW_pers hin] at HAns
    have HM := hid (wordMov hin)
    have HOrb := hid (fun s W hs => obPromotion_any x y s W h1 h2 h3 h4 h10 xs hx hs)
    have HG := hid hg
    obtain ⟨f, hf⟩ : ∃ f, wordF xs (promW x y) = f := ⟨_, rfl⟩
    rw [hf] at HM HOrb HAns
    obtain ⟨N, hN⟩ : ∃ N, 2 ^ xs.length = N := ⟨_, rfl⟩
    have hN2 := two_pow_le xs.length hl10
    rw [hN] at hN2 HM HOrb HAns
    obtain ⟨I, hI⟩ : ∃ I, setsL (holdsIdeal xs) N = I := ⟨_, rfl⟩
    rw [hI] at HAns
    have HAt := hid (fun j hj => setsL_bound (f := holdsIdeal xs) (N := N) (j := j) hj)
    have hIN := setsL_length (holdsIdeal xs) N
    rw [hI] at HAt hIN
    have HI := hid (show setsL (holdsIdeal xs) (2 ^ xs.length) = I by rw [hN]; exact hI)
    have HN := hid hN
    obtain ⟨n, hn⟩ : ∃ n, x * y = n := ⟨_, rfl⟩
    have hmul : ((x : Int) * (y : Int)) = (n : Int) := by rw [← Int.natCast_mul, hn]
    have wp : wrap64 ((2 : Int) ^ n) = (N : Int) := by rw [← hn, ← hlx, wrap_pow xs.length hl10, hN]
    have hn10 : n ≤ 10 := by omega
    have hmk := run_make_row' (P := Try.prog) 53 4 (.bool false) 1 Try.underlying53 infoBool rfl .i64 .i64 N (by omega) (by omega)
    clear hs hr hg hI hlx hin hf hN hn hx h5 h10
    go_enter Try.func11, Try.ntmps11
    go_wp2_with (go_at_call 39; refine HT.out.mono ?_; rintro e w' ⟨rfl, rfl⟩)
    clear wp hmul hmk
    refine (HRec.out _).mono ?_
    rintro e w2 ⟨u, rfl, hou, hb2⟩
    obtain ⟨uA, un, uc, rfl⟩ := hou.shape3
    have HVu := hid hou.ints
    have HB2 := hid (below_to (below_alloc (Below.refl _ w) _) hb2)
    obtain ⟨g, hg⟩ : ∃ g, w.heap.size = g := ⟨_, rfl⟩
    have HSn2 : Hid (Blk w2 g 4 (BVals (List.replicate N false))) := hid (by
      subst hg
      rw [← BVals_made]
      exact (Blk.newAt _ 4 (madeCells #[.bool false] N) w.heap.size rfl).below hb2 (by simp))
    have hgw2 : g < w2.heap.size := HSn2.out.lt
    clear hou hb2
    go_wp2_with fail
    refine (poIdeals_any _ xs _ HVu.out HG.out).mono ?_
    rw [HI.out]
    rintro e w' ⟨iu, rfl, ho, hb⟩
    have HB := hid (below_to HB2.out hb)
    have HSeen := hid (HSn2.out.below hb hgw2)
    obtain ⟨iA, iN, ic, rfl⟩ := ho.shape3
    have hiN : iN = I.length := by
      obtain ⟨_, _, h, _⟩ := ho.shape
      cases h; rfl
    subst hiN
    have HO := hid (ho.mono (B' := g + 1) (by omega))
    have HOB : Hid (∀ k, (Value.slice iA I.length ic).ownBlock = some k → g + 1 ≤ k ∧ k < w'.heap.size) := hid (fun k hk => by
      have h1 := ho.blockLt k hk
      omega)
    have hgw : g < w'.heap.size := HSeen.out.lt
    have hwg : w.heap.size ≤ g := by omega
    clear hb ho hg hgw2
    go_wp2
    go_loopw [7, 27] (fun q i wr => ∃ (j : Nat) (oA : Option Addr) (on oc : Nat), j ≤ I.length ∧ i = .int .i64 j ∧ q = .slice oA on oc ∧ Blk wr g 4 (BVals (marksB (seenB f N (startsN f N I j)) N)) ∧ OwnI 3 wr w'.heap.size (.slice oA on oc) (persL f N (startsN f N I j)) ∧ TurnedIn g (g + 1) w' wr) (fun _ i _ => I.length - (intOf i).toNat)
    case atStart => exact ⟨0, none, 0, 0, Nat.zero_le _, rfl, rfl, (by rw [show startsN f N I 0 = [] from rfl, show marksB (seenB f N []) N = List.replicate N false from marksB_none N]; exact HSeen.out), OwnI.nil _ _ _, TurnedIn.refl _ _ _⟩
    case round =>
      obtain ⟨j, oA, on, oc, hj, rfl, rfl, hB, hq, ht⟩ := hrel
      have HBk := hid hB
      have HQ := hid hq
      have HT1 := hid ht
      clear hB hq
      by_cases hlt : j < I.length
      · obtain ⟨s, hs, hsN, hIs⟩ := HAt.out j hlt
        have hoi := HO.out.turned ht HOB.out (.inr (Nat.le_refl _))
        have hcell : ∃ b, iA = some ⟨b, 0, none⟩ ∧ wr.cell? ⟨b, 0 + j, none⟩ = some (.int .i64 s) := by
          obtain ⟨A', c', h1, h2⟩ := hoi.shape
          obtain ⟨A2, c2, h3, h4⟩ := hoi.ints
          cases h1
          obtain ⟨b, h5, -, -⟩ := h2 (by intro h; simp [h] at hlt)
          cases h3
          obtain ⟨b2, o2, h6, -, h7⟩ := h4 (by intro h; simp [h] at hlt)
          have h8 : b2 = b ∧ o2 = 0 := by rw [h5] at h6; cases h6; exact ⟨rfl, rfl⟩
          obtain ⟨rfl, rfl⟩ := h8
          exact ⟨_, h5, by rw [h7 j hlt, hs]⟩
        obtain ⟨b, rfl, hcell⟩ := hcell
        rw [Nat.zero_add] at hcell
        have HId : Hid (idB xs s = true) := hid (idB_iff.2 ⟨by rw [HN.out]; exact hsN, hIs⟩)
        have hslen := startsN_length f N I j
        obtain ⟨st, hst⟩ : ∃ st, startsN f N I j = st := ⟨_, rfl⟩
        rw [hst] at HBk HQ hslen
        have hct : wr.cell? ⟨g, s, none⟩ = some (.bool (seenB f N st s)) := by
          rw [HBk.out.cell, BVals_get (by rw [marksB_length]; exact hsN), marksB_get _ hsN]
        cases hsb : seenB f N st s
        · rw [hsb] at hct
          have HNo : Hid (startsN f N I (j + 1) = st ++ [s]) := hid (by rw [startsN_no (by rw [hst, hs, Int.toNat_natCast]; exact hsb), hst, hs, Int.toNat_natCast])
          have HPS := hid (HM.out.perS HId.out)
          have HLt := hid (fun k => HM.out.lt _ (HM.out.it HId.out k))
          have hOb := hid (HOrb.out s wr HId.out)
          obtain ⟨P, hP⟩ : ∃ P, per f N s = P := ⟨_, rfl⟩
          have HOr : Hid (orbL f N s = orbTL f s P) := hid (by unfold orbL; rw [hP])
          have HFull : Hid (mkOrb f N st s P = marksB (seenB f N (st ++ [s])) N) := hid (by rw [← hP]; exact mkOrb_full _ _ _ _)
          have HPer := hid hP
          rw [hP] at HPS
          have hP2 : P ≤ N := HPS.out.2.2.1
          have hzw : w'.heap.size ≤ wr.heap.size := HT1.out.size
          have hslen2 : (persL f N st).length < 1048576 := by simp [persL]; omega
          clear hs hst hoi hIs hsb hslen hP
          go_wp2_with fail
          clear hcell hct
          refine hOb.out.mono ?_
          rw [HOr.out]
          rintro e' w5 ⟨u, rfl, ho5, hb5⟩
          obtain ⟨uA, un, uc, rfl⟩ := ho5.shape3
          have hun : un = P := by
            obtain ⟨_, _, h, _⟩ := ho5.shape
            cases h; exact orbTL_length _ _ _
          subst hun
          have HU5 := hid ho5
          have HUB := hid ho5.blockLt
          have HBk5 := hid (HBk.out.below hb5 HBk.out.lt)
          have HQ5 := hid (HQ.out.below hb5)
          have HT5 := hid (HT1.out.trans (TurnedIn.of_below hb5))
          have hz5 : wr.heap.size ≤ w5.heap.size := hb5.size
          clear ho5 hb5
          go_wp2
          go_loopw [41] (fun i wi => ∃ k : Nat, k ≤ un ∧ i = .int .i64 k ∧ Blk wi g 4 (BVals (mkOrb f N st s k)) ∧ TurnedIn g (g + 1) w5 wi) (fun i _ => un - (intOf i).toNat)
          case atStart => exact ⟨0, Nat.zero_le _, rfl, (by rw [mkOrb_zero]; exact HBk5.out), TurnedIn.refl _ _ _⟩
          case round =>
            obtain ⟨k, hk, rfl, hB, ht⟩ := hrel
            have HBi := hid hB
            have HTi := hid ht
            clear hB ht
            have hui := HU5.out.turned HTi.out HUB.out (.inr (by omega))
            by_cases hkl : k < un
            · obtain ⟨x, hx⟩ : ∃ x, iter f k s = x := ⟨_, rfl⟩
              have hxN : x < N := by rw [← hx]; exact HLt.out k
              have hcell : ∃ b, uA = some ⟨b, 0, none⟩ ∧ wr.cell? ⟨b, 0 + k, none⟩ = some (.int .i64 x) := by
                obtain ⟨A', c', h1, h2⟩ := hui.shape
                obtain ⟨A2, c2, h3, h4⟩ := hui.ints
                injection h1 with e1 e2 e3
                subst e1; subst e3
                have hne : orbTL f s un ≠ [] := by intro h; have := congrArg List.length h; rw [orbTL_length] at this; simp at this; omega
                obtain ⟨b, h5, -, -⟩ := h2 hne
                injection h3 with e4 e5 e6
                subst e4; subst e6
                obtain ⟨b2, o2, h6, -, h7⟩ := h4 hne
                have h8 : b2 = b ∧ o2 = 0 := by rw [h5] at h6; cases h6; exact ⟨rfl, rfl⟩
                obtain ⟨rfl, rfl⟩ := h8
                exact ⟨_, h5, by rw [h7 k (by rw [orbTL_length]; exact hkl), orbTL_get _ _ hkl, hx]⟩
              obtain ⟨b, rfl, hcell⟩ := hcell
              rw [Nat.zero_add] at hcell
              have hct : ∃ y, wr.cell? ⟨g, x, none⟩ = some (.bool y) := ⟨_, by rw [HBi.out.cell, BVals_get (by rw [mkOrb_length]; exact hxN)]⟩
              obtain ⟨y, hct⟩ := hct
              have hft := HBi.out.frozen x
              have HSet : Hid ((mkOrb f N st s k).set x true = mkOrb f N st s (k + 1)) := hid (by rw [← hx]; exact mkOrb_set _ _ _ _ _)
              clear hx hui
              go_wp2
              go_roundw
              case rel => exact ⟨k + 1, by omega, by go_num, (by rw [← HSet.out, ← BVals_set]; exact HBi.out.set_ x _), HTi.out.set_ ⟨g, x, none⟩ ⟨Nat.le_refl _, Nat.lt_succ_self _⟩ _⟩
              case measure => simp [intOf]; omega
            · obtain rfl : k = un := by omega
              have HB7 : Hid (Blk wr g 4 (BVals (marksB (seenB f N (st ++ [s])) N))) := hid (by rw [← HFull.out]; exact HBi.out)
              have HQ7 := hid (OwnI.turned (E := w5.heap.size) HQ5.out HTi.out (fun k hk => HQ5.out.blockLt k hk) (.inr (by omega)))
              have HT7 := hid (HT5.out.trans HTi.out)
              have hz7 : w5.heap.size ≤ wr.heap.size := HTi.out.size
              clear hui
              go_wp2_with (at_builtin; refine wpList_append_int rfl _ _ 22 3 rfl Try.underlying22 Try.info3 w'.heap.size _ _ k rfl HQ7.out rfl rfl hslen2 (by omega) ?_; rintro q2 w8 ho8 hb8; obtain ⟨qA, qn, qc, rfl⟩ := ho8.shape3)
              go_roundw
              case rel => exact ⟨j + 1, qA, qn, qc, by omega, by go_num, rfl, (by rw [HNo.out]; exact HB7.out.below hb8 hgw), (by rw [HNo.out, persL_snoc, HPer.out]; exact ho8), HT7.out.belowB hb8 (Nat.le_refl _)⟩
              case measure => simp [intOf]; omega
        · rw [hsb] at hct
          have HYes : Hid (startsN f N I (j + 1) = st) := hid (by rw [startsN_yes (by rw [hst, hs, Int.toNat_natCast]; exact hsb), hst])
          clear hs hst hoi hIs hsb hslen
          go_wp2
          go_roundw
          case rel => exact ⟨j + 1, oA, on, oc, by omega, by go_num, rfl, (by rw [HYes.out]; exact HBk.out), (by rw [HYes.out]; exact HQ.out), HT1.out⟩
          case measure => simp [intOf]; omega
      · obtain rfl : j = I.length := by omega
        have HBel := hid (below_turned HB.out ht hwg)
        have hww := HB.out.size
        have HE : Hid (ansPO x y = persL f N (startsN f N I I.length)) := HAns
        clear ht
        go_wp2
        go_ret2
        exact ⟨_, rfl, (by rw [HE.out]; exact HQ.out.mono hww), HL.out, HBel.out⟩
end Go.Proofs.Ytkcjppbplllaiab
