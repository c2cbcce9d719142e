/- AddRow CycR ObAll -/
import Derived.Test.YtbmhaamenjhjfaaGreatDoorPkD13
namespace Go.Proofs.YtbmhaamenjhjfaaGreatDoor
open Go.RowKit Go.WideShapes Go.ChangeShapes
set_option linter.unusedVariables false
theorem own_apart {ti ts : TypeId} {w : World} {B B' n : Nat} {v u : Value} {l : List Int} {us : List Value} (hne : ti ≠ ts) (h : OwnI ti w B u l) (h2 : w.ownsRow B' ts 1 v n us) : u.ownBlock = none ∨ u.ownBlock ≠ v.ownBlock := by
  rcases hu : u.ownBlock with _ | k
  · exact .inl rfl
  · refine .inr fun e => ?_
    rcases h2.2 with ⟨rfl, _⟩ | ⟨b, cap, cur, rfl, _, hh, _⟩
    · simp [Value.ownBlock] at e
    · simp only [Value.ownBlock, Option.some.injEq] at e
      subst e
      rcases h.2 with ⟨rfl, _⟩ | ⟨g, cap', cur', rfl, _, hh', _⟩
      · simp [Value.ownBlock] at hu
      · simp only [Value.ownBlock, Option.some.injEq] at hu
        subst hu
        rw [hh] at hh'
        injection hh' with hh'
        injection hh' with _ hh'
        exact hne hh'.symm
theorem wpList_append_row {P : Program} {w W : World} {ops : Array Oper} {rest : List Oper} {o : Oper} {ac : Act} {Q : Exit → Act → World → Prop} (hgd : o.guard = none) (s x : Operand) (t ts ti : TypeId)
    (ho : o.op = .call { callee := .builtin .append, args := #[s, x], argTypes := #[t, t] }) (ht : P.underlying t = some (.slice ts)) (hinfo : (P.info? ts).map (fun i => (i.zero, i.size, i.bytes)) = some (some (.slice none 0 0), 1, 24))
    (hne : ti ≠ ts) (B E : Nat) (v u : Value) (ls : List (List Int)) (l : List Int) (hs : ac.eval s = v) (hown : OwnSS ti ts w B E v ls) (hu : OwnI ti w B u l) (huE : ∀ k, u.ownBlock = some k → E ≤ k)
    (hW : W = w.alloc (.cells #[u] ts)) (hx : ac.eval x = .slice (some ⟨w.heap.size, 0, none⟩) 1 1) (hlen : ls.length < 1048576) (hB : B ≤ w.heap.size) (hE : E ≤ w.heap.size)
    (h : ∀ v' w', OwnSS ti ts w' B w'.heap.size v' (ls ++ [l]) → Below B w w' → wpList P ops Q rest (ac.put o.dst v') w') : wpList P ops Q (o :: rest) ac W := by
  subst hW
  obtain ⟨i0, hi, hz0, hz1, hz2⟩ := info_parts hinfo
  obtain ⟨us, h1, h2, h3, h4, h5⟩ := hown
  obtain ⟨uA, un, uc, hush⟩ := hu.shape3
  have hulen : (un, uc, uA) = (un, uc, uA) := rfl
  refine wpList_append_own _ hgd s x t ho B ts i0 (.slice none 0 0) 1 24 ht hi hz0 hz1 hz2 rfl (by decide) v ls.length us hs (h2.alloc _) ⟨w.heap.size, 0, none⟩ 1 1 [u] hx rfl ?_ ?_ ?_ ?_ ?_ ?_
  · intro j y hj
    match j, hj with
    | 0, hj =>
      simp only [List.getElem?_cons_zero, Option.some.injEq] at hj
      subst hj
      exact (Blk.new w ts #[u]).cell 0
    | j + 1, hj => simp at hj
  · intro y hy
    simp only [List.mem_singleton] at hy
    subst hy; subst hush; rfl
  · unfold maxLen; omega
  · omega
  · simp; omega
  · intro v' w' h6 h7 _
    have hb : Below B w (w.alloc (.cells #[u] ts)) := (Below.refl _ _).alloc hB _
    have hB2 : Below B w w' := hb.grown h7 (by simp; omega) fun k hk => (h2.lt k hk).1
    have hsz : w.heap.size ≤ w'.heap.size := hB2.size
    refine h v' w' ⟨us ++ [u], by simp [h1], by simpa using h6, fun k hk => ?_, ?_, ?_⟩ hB2
    · exact (World.ownsRow.lt h6 k hk).2
    · intro j y m hy hm
      rw [List.getElem?_append] at hy hm
      by_cases hj : j < ls.length
      · rw [if_pos (by omega)] at hy
        rw [if_pos hj] at hm
        obtain ⟨a, b⟩ := h4 j y m hy hm
        exact ⟨(a.alloc _).grown h7 (own_apart hne a h2), fun k hk => by have := b k hk; omega⟩
      · rw [if_neg (by omega)] at hy
        rw [if_neg hj] at hm
        rcases Nat.eq_zero_or_pos (j - ls.length) with h0 | h0
        · rw [h0] at hm
          rw [h1, h0] at hy
          simp only [List.getElem?_cons_zero, Option.some.injEq] at hy hm
          subst hy; subst hm
          exact ⟨(hu.alloc _).grown h7 (own_apart hne hu h2), fun k hk => by have := (hu.blockLt k hk).2; omega⟩
        · rw [List.getElem?_eq_none (by simp; omega)] at hm; cases hm
    · have old : ∀ i y, i < us.length → us[i]? = some y → (y.ownBlock = none ∨ y.ownBlock ≠ u.ownBlock) := by
        intro i y hi hy
        have hl : ls[i]? = some ls[i] := List.getElem?_eq_getElem (by omega)
        obtain ⟨_, b⟩ := h4 i y _ hy hl
        rcases hq : y.ownBlock with _ | k
        · exact .inl rfl
        · refine .inr fun e => ?_
          have c1 := b k hq
          have c2 := huE k e.symm
          omega
      intro i j y y' hij hy hy'
      rw [List.getElem?_append] at hy hy'
      by_cases hi : i < us.length
      · rw [if_pos hi] at hy
        by_cases hj : j < us.length
        · rw [if_pos hj] at hy'
          exact h5 i j y y' hij hy hy'
        · rw [if_neg hj] at hy'
          rcases Nat.eq_zero_or_pos (j - us.length) with h0 | h0
          · rw [h0] at hy'
            simp only [List.getElem?_cons_zero, Option.some.injEq] at hy'
            subst hy'
            exact old i y hi hy
          · rw [List.getElem?_eq_none (by simp; omega)] at hy'; cases hy'
      · rw [if_neg hi] at hy
        rcases Nat.eq_zero_or_pos (i - us.length) with h0 | h0
        · rw [h0] at hy
          simp only [List.getElem?_cons_zero, Option.some.injEq] at hy
          subst hy
          by_cases hj : j < us.length
          · rw [if_pos hj] at hy'
            rcases old j y' hj hy' with h8 | h8
            · rcases hq : u.ownBlock with _ | k
              · exact .inl rfl
              · rw [h8]; exact .inr (by simp)
            · exact .inr (fun e => h8 e.symm)
          · rw [if_neg hj] at hy'
            rcases Nat.eq_zero_or_pos (j - us.length) with h0' | h0'
            · omega
            · rw [List.getElem?_eq_none (by simp; omega)] at hy'; cases hy'
        · rw [List.getElem?_eq_none (by simp; omega)] at hy; cases hy
end Go.Proofs.YtbmhaamenjhjfaaGreatDoor
namespace Go.Proofs.YtbmhaamenjhjfaaGreatDoor
open Go.RowKit Go.WideShapes Go.ChangeShapes
set_option linter.unusedVariables false
set_option maxHeartbeats 3200000 in
theorem cyclesRow_any (v : Value) (xs : List Int) (w : World) (hv : Ints w v xs) (hg : good xs = true) :
    Calls Tryz.prog 179 #[.agg #[v], .iface 195 (.agg #[])] w fun (r : Ending) w' => ∃ q, r = Ending.returned q ∧ OwnI 3 w' w.heap.size q (cyclesL (rowmo xs) (2 ^ xs.length) (setsL (holdsIdeal xs) (2 ^ xs.length))) ∧ Below w.heap.size w w' := by
  have hl10 := (good_length hg).2
  have HV := hid hv
  have HG := hid hg
  obtain ⟨A, c, rfl, -⟩ := hv
  obtain ⟨N, hN⟩ : ∃ N, 2 ^ xs.length = N := ⟨_, rfl⟩
  have hN2 := two_pow_le xs.length hl10
  rw [hN] at hN2
  obtain ⟨I, hI⟩ : ∃ I, setsL (holdsIdeal xs) N = I := ⟨_, rfl⟩
  have HAt := hid (fun j hj => setsL_bound (f := holdsIdeal xs) (N := N) (j := j) hj)
  have hIN := setsL_length (holdsIdeal xs) N
  rw [hI] at HAt hIN
  rw [hN, hI]
  have HI := hid (show setsL (holdsIdeal xs) (2 ^ xs.length) = I by rw [hN]; exact hI)
  have HN := hid hN
  have hM : ((N - 1 : Nat) : Int) + 1 = (N : Int) := by omega
  have hmk := run_make_row' (P := Tryz.prog) 204 4 (.bool false) 1 Tryz.underlying204 infoBool rfl .i64 .i64 N (by omega) (by omega)
  clear hg hI
  go_enter Tryz.func179, Tryz.ntmps179
  go_wp2_with (go_at_call 148; refine (wholeSet_any xs.length hl10 _).mono ?_; rw [hN]; rintro e w2 ⟨rfl, rfl⟩)
  clear hM
  refine (setsI_any _ xs _ ((HV.out.alloc _).alloc _) HG.out).mono ?_
  rw [HI.out]
  rintro e w' ⟨iu, rfl, ho, hb⟩
  obtain ⟨g, hg⟩ : ∃ g, w.heap.size + 1 = g := ⟨_, rfl⟩
  have HB := hid (below_to (below_alloc (below_alloc (Below.refl _ w) _) _) hb)
  have HBox : Hid (At w' w.heap.size (.slice A xs.length c)) := hid (((At.new _ _ _).alloc _).below hb)
  have HSeen : Hid (Blk w' g 4 (BVals (List.replicate N false))) := hid (by
    subst hg
    rw [← BVals_made]
    exact (Blk.newAt _ 4 (madeCells #[.bool false] N) (w.heap.size + 1) (by simp)).below hb (by simp))
  obtain ⟨iA, iN, ic, rfl⟩ := ho.shape3
  have hiN : iN = I.length := by
    obtain ⟨_, _, h, _⟩ := ho.shape
    cases h; rfl
  subst hiN
  have HO := hid (ho.mono (B' := g + 1) (by simp; omega))
  have HOB : Hid (∀ k, (Value.slice iA I.length ic).ownBlock = some k → g + 1 ≤ k ∧ k < w'.heap.size) := hid (fun k hk => by
    have h1 := ho.blockLt k hk
    simp at h1
    omega)
  have hgw : g < w'.heap.size := HSeen.out.lt
  have hwg : w.heap.size < g := by omega
  have hbx := HBox.out.1
  rw [hg]
  clear hb ho hmk hg hN
  go_wp2
  clear hbx
  go_loopw [5, 20] (fun q i wr => ∃ (j : Nat) (oA : Option Addr) (on oc : Nat), j ≤ I.length ∧ i = .int .i64 j ∧ q = .slice oA on oc ∧ Blk wr g 4 (BVals (cycSt (rowmo xs) N I j).1) ∧ OwnI 3 wr w'.heap.size (.slice oA on oc) (cycSt (rowmo xs) N I j).2 ∧ TurnedIn g (g + 1) w' wr) (fun _ i _ => I.length - (intOf i).toNat)
  case atStart => exact ⟨0, none, 0, 0, Nat.zero_le _, rfl, rfl, HSeen.out, OwnI.nil _ _ _, TurnedIn.refl _ _ _⟩
  case round =>
    obtain ⟨j, oA, on, oc, hj, rfl, rfl, hB, hq, ht⟩ := hrel
    have HBk := hid hB
    have HQ := hid hq
    have HT := hid ht
    clear hB hq
    by_cases hlt : j < I.length
    · obtain ⟨s, hs, hsN, hIs⟩ := HAt.out j hlt
      have hoi := HO.out.turned ht HOB.out (.inr (Nat.le_refl _))
      have hcell : ∃ b, iA = some ⟨b, 0, none⟩ ∧ wr.cell? ⟨b, 0 + j, none⟩ = some (.int .i64 s) := by
        obtain ⟨A', c', h1, h2⟩ := hoi.shape
        obtain ⟨A2, c2, h3, h4⟩ := hoi.ints
        cases h1
        obtain ⟨b, h5, -, -⟩ := h2 (by intro h; simp [h] at hlt)
        cases h3
        obtain ⟨b2, o2, h6, -, h7⟩ := h4 (by intro h; simp [h] at hlt)
        have h8 : b2 = b ∧ o2 = 0 := by rw [h5] at h6; cases h6; exact ⟨rfl, rfl⟩
        obtain ⟨rfl, rfl⟩ := h8
        exact ⟨_, h5, by rw [h7 j hlt, hs]⟩
      obtain ⟨b, rfl, hcell⟩ := hcell
      rw [Nat.zero_add] at hcell
      have HS := hid hs
      obtain ⟨seen0, hs0⟩ : ∃ l, (cycSt (rowmo xs) N I j).1 = l := ⟨_, rfl⟩
      obtain ⟨out0, ho0⟩ : ∃ l, (cycSt (rowmo xs) N I j).2 = l := ⟨_, rfl⟩
      have hlen := cycSt_length (rowmo xs) N I j
      rw [hs0] at HBk hlen
      rw [ho0] at HQ hlen
      obtain ⟨R, hR⟩ : ∃ R, cyc1 (rowmo xs) seen0 s 0 = R := ⟨_, rfl⟩
      have HStep : Hid (cycSt (rowmo xs) N I (j + 1) = (R.1, if 0 < R.2 then out0 ++ [(R.2 : Int)] else out0)) := hid (by
        simp only [cycSt, hs0, ho0, hs, Int.toNat_natCast, hR])
      have HLen := hid hlen.1
      have ho10 : out0.length ≤ 1024 := by omega
      have hc0 := cntF_le seen0
      have hc1 : 0 + cntF seen0 ≤ N := by rw [← hlen.1]; omega
      have HR := hid hR
      clear hs hs0 ho0 hR hoi ht hIs hlen hc0
      go_wp2
      clear hcell
      go_loopw [10, 9] (fun a i wi => ∃ (seen : List Bool) (t n : Nat), a = .int .i64 t ∧ i = .int .i64 n ∧ t < N ∧ Hid (seen.length = N) ∧ n + cntF seen ≤ N ∧ Hid (cyc1 (rowmo xs) seen t n = R) ∧ Blk wi g 4 (BVals seen) ∧ Hid (OwnI 3 wi w'.heap.size (.slice oA on oc) out0) ∧ TurnedIn g (g + 1) w' wi) (fun _ i _ => N - (intOf i).toNat)
      case atStart => exact ⟨seen0, s, 0, rfl, rfl, hsN, HLen, hc1, HR, HBk.out, HQ, HT.out⟩
      case round =>
        obtain ⟨seen, t, n, rfl, rfl, htN, HSL, hcn, HC, hB, HOut, ht⟩ := hrel
        have hct : wr.cell? ⟨g, t, none⟩ = some (.bool (seen.getD t true)) := by
          rw [hB.cell, BVals_get (by rw [HSL.out]; exact htN)]
        have hft := hB.frozen t
        have HBk2 := hid hB
        have HT2 := hid ht
        clear hB ht
        cases hst : seen.getD t true
        · rw [hst] at hct
          have hcs := cntF_set (show t < seen.length by rw [HSL.out]; exact htN) hst
          have HGo := hid (cyc1_go (f := rowmo xs) (n := n) (show t < seen.length by rw [HSL.out]; exact htN) hst)
          have hn1 : n < N := by omega
          have hcn2 : n + 1 + cntF (seen.set t true) ≤ N := by omega
          have HL2 : Hid ((seen.set t true).length = N) := hid (by rw [List.length_set]; exact HSL.out)
          have hbox := (HBox.out.turned HT2.out (.inl hwg)).1
          have hboxz := (HBox.out.turned HT2.out (.inl hwg)).2
          have hne : w.heap.size ≠ g := by omega
          have hf1 : rowmo xs t < N := by rw [← HN.out]; exact rowmo_lt HG.out t
          have HBk3 : Hid (Blk (wr.setCell ⟨g, t, none⟩ (.bool true)) g 4 (BVals (seen.set t true))) := hid (by rw [← BVals_set]; exact HBk2.out.set_ t _)
          have HT3 : Hid (TurnedIn g (g + 1) w' (wr.setCell ⟨g, t, none⟩ (.bool true))) := hid (HT2.out.set_ ⟨g, t, none⟩ ⟨Nat.le_refl _, Nat.lt_succ_self _⟩ _)
          have HOut3 : Hid (OwnI 3 (wr.setCell ⟨g, t, none⟩ (.bool true)) w'.heap.size (.slice oA on oc) out0) := hid (HOut.out.grown (grown_setCell (World.grownBy.refl _ _) t _) (HOut.out.apart (.inl hgw)))
          have HB3 := hid (below_turned HB.out HT3.out (Nat.le_of_lt hwg))
          have HTN : Hid (t < 2 ^ xs.length) := hid (by rw [HN.out]; exact htN)
          have hbox3 := (HBox.out.turned HT3.out (.inl hwg)).1
          clear hst hcs
          go_wp2_with fail
          clear hct hft hbox hboxz hbox3
          refine (rowStep_any _ xs t _ (HV.out.below HB3.out) HG.out HTN.out).mono ?_
          rintro e' w5 ⟨rfl, hb5⟩
          have HBk5 := hid (HBk3.out.below hb5 HBk3.out.lt)
          have HT5 := hid (HT3.out.trans (TurnedIn.of_below hb5))
          have HOut5 := hid (HOut3.out.below hb5)
          clear hb5
          go_wp2
          go_roundw
          case rel => exact ⟨seen.set t true, rowmo xs t, n + 1, rfl, by go_num, hf1, HL2, hcn2, hid (by rw [← HGo.out]; exact HC.out), HBk5.out, HOut5, HT5.out⟩
          case measure => simp [intOf]; omega
        · rw [hst] at hct
          have HStop : Hid (R = (seen, n)) := hid (by rw [← HC.out]; exact cyc1_stop hst)
          have hnN : n ≤ N := by omega
          have HBel := hid (below_turned HB.out HT2.out (Nat.le_of_lt hwg))
          clear hst
          by_cases hn0 : 0 < n
          · have HSt2 : Hid (cycSt (rowmo xs) N I (j + 1) = (seen, out0 ++ [(n : Int)])) := hid (by rw [HStep.out, HStop.out]; simp [hn0])
            have hwz : w'.heap.size ≤ wr.heap.size := HT2.out.size
            go_wp2_with (at_builtin; refine wpList_append_int rfl _ _ 22 3 rfl Tryz.underlying22 Tryz.info3 w'.heap.size _ _ n rfl HOut.out rfl rfl (by omega) (by omega) ?_; rintro q2 w6 ho6 hb6; obtain ⟨qA, qn, qc, rfl⟩ := ho6.shape3)
            go_roundw
            case rel => exact ⟨j + 1, qA, qn, qc, by omega, by go_num, rfl, (by rw [HSt2.out]; exact HBk2.out.below hb6 hgw), (by rw [HSt2.out]; exact ho6), HT2.out.belowB hb6 (Nat.le_refl _)⟩
            case measure => simp [intOf]; omega
          · have HSt2 : Hid (cycSt (rowmo xs) N I (j + 1) = (seen, out0)) := hid (by rw [HStep.out, HStop.out]; simp [hn0])
            go_wp2
            go_roundw
            case rel => exact ⟨j + 1, oA, on, oc, by omega, by go_num, rfl, (by rw [HSt2.out]; exact HBk2.out), (by rw [HSt2.out]; exact HOut.out), HT2.out⟩
            case measure => simp [intOf]; omega
    · obtain rfl : j = I.length := by omega
      have HBel := hid (below_turned HB.out ht (Nat.le_of_lt hwg))
      have hww := HB.out.size
      clear ht
      go_wp2
      go_ret
      exact ⟨_, rfl, HQ.out.mono hww, HBel.out⟩
end Go.Proofs.YtbmhaamenjhjfaaGreatDoor
namespace Go.Proofs.YtbmhaamenjhjfaaGreatDoor
open Go.RowKit Go.WideShapes Go.ChangeShapes
set_option linter.unusedVariables false
theorem OwnSS.monoB {ti ts : TypeId} {w : World} {B B' E : Nat} {v : Value} {ls : List (List Int)} (h : OwnSS ti ts w B E v ls) (hB : B' ≤ B) : OwnSS ti ts w B' E v ls := by
  obtain ⟨us, h1, h2, h3, h4, h5⟩ := h
  refine ⟨us, h1, ?_, h3, fun j u l hu hl => ⟨(h4 j u l hu hl).1.mono hB, (h4 j u l hu hl).2⟩, h5⟩
  obtain ⟨a1, a2⟩ := h2
  refine ⟨a1, ?_⟩
  rcases a2 with a2 | ⟨g, cap, cur, hv, hg, r⟩
  · exact .inl a2
  · exact .inr ⟨g, cap, cur, hv, by omega, r⟩
def orbsOf (f : Nat → Nat) (N : Nat) (st : List Nat) : List (List Int) := st.map (orbL f N)
theorem orbsOf_snoc (f : Nat → Nat) (N : Nat) (st : List Nat) (s : Nat) : orbsOf f N (st ++ [s]) = orbsOf f N st ++ [orbL f N s] := by simp [orbsOf]
theorem orbsOf_length (f : Nat → Nat) (N : Nat) (st : List Nat) : (orbsOf f N st).length = st.length := by simp [orbsOf]
def allXs (xs : List Int) : List (List Int) := orbsOf (rowmo xs) (2 ^ xs.length) (starts (rowmo xs) (2 ^ xs.length) (idsXs xs))
theorem idsXs_D (xs : List Int) (j : Nat) (hj : j < (idsXs xs).length) : idB xs ((idsXs xs).getD j 0).toNat = true := by
  obtain ⟨s, h1, h2, h3⟩ := setsL_bound (f := holdsIdeal xs) (N := 2 ^ xs.length) hj
  have : (idsXs xs).getD j 0 = (s : Int) := h1
  rw [this, Int.toNat_natCast]
  exact idB_iff.2 ⟨h2, h3⟩
def mkOrb (f : Nat → Nat) (N : Nat) (st : List Nat) (s k : Nat) : List Bool := marksB (fun x => seenB f N st x || (orbT f s k).contains x) N
theorem mkOrb_zero (f : Nat → Nat) (N : Nat) (st : List Nat) (s : Nat) : mkOrb f N st s 0 = marksB (seenB f N st) N := marksB_congr fun t _ => by simp [orbT]
theorem mkOrb_set (f : Nat → Nat) (N : Nat) (st : List Nat) (s k : Nat) : (mkOrb f N st s k).set (iter f k s) true = mkOrb f N st s (k + 1) := by
  unfold mkOrb
  rw [marksB_set]
  exact marksB_congr fun t _ => by rw [orbT_contains_succ, Bool.or_assoc]
theorem mkOrb_full (f : Nat → Nat) (N : Nat) (st : List Nat) (s : Nat) : mkOrb f N st s (per f N s) = marksB (seenB f N (st ++ [s])) N := marksB_congr fun t _ => by rw [seenB_snoc]; rfl
theorem mkOrb_length (f : Nat → Nat) (N : Nat) (st : List Nat) (s k : Nat) : (mkOrb f N st s k).length = N := marksB_length _ _
set_option maxHeartbeats 3200000 in
theorem obAll_any (v : Value) (xs : List Int) (w : World) (hv : Ints w v xs) (hg : good xs = true) :
    Calls Tryz.prog 144 #[.agg #[v]] w fun (r : Ending) w' => ∃ q, r = Ending.returned q ∧ OwnSS 3 22 w' w.heap.size w'.heap.size q (allXs xs) ∧ Below w.heap.size w w' := by
  have hl10 := (good_length hg).2
  have HV := hid hv
  have HG := hid hg
  have HM := hid (rowMov hg)
  obtain ⟨A, c, rfl, -⟩ := hv
  obtain ⟨N, hN⟩ : ∃ N, 2 ^ xs.length = N := ⟨_, rfl⟩
  have hN2 := two_pow_le xs.length hl10
  rw [hN] at hN2 HM
  obtain ⟨I, hI⟩ : ∃ I, setsL (holdsIdeal xs) N = I := ⟨_, rfl⟩
  have hAll : allXs xs = orbsOf (rowmo xs) N (startsN (rowmo xs) N I I.length) := by
    unfold allXs starts idsXs; rw [hN, hI]
  rw [hAll]
  have HAt := hid (fun j hj => setsL_bound (f := holdsIdeal xs) (N := N) (j := j) hj)
  have hIN := setsL_length (holdsIdeal xs) N
  rw [hI] at HAt hIN
  have HI := hid (show setsL (holdsIdeal xs) (2 ^ xs.length) = I by rw [hN]; exact hI)
  have HN := hid hN
  have wp : wrap64 ((2 : Int) ^ xs.length) = (N : Int) := by rw [wrap_pow xs.length hl10, hN]
  have hmk := run_make_row' (P := Tryz.prog) 204 4 (.bool false) 1 Tryz.underlying204 infoBool rfl .i64 .i64 N (by omega) (by omega)
  clear hg hI hAll
  go_enter Tryz.func144, Tryz.ntmps144
  go_wp2_with fail
  clear wp
  refine (poIdeals_any _ xs _ ((HV.out.alloc _).alloc _) HG.out).mono ?_
  rw [HI.out]
  rintro e w' ⟨iu, rfl, ho, hb⟩
  obtain ⟨g, hg⟩ : ∃ g, w.heap.size + 1 = g := ⟨_, rfl⟩
  have HB := hid (below_to (below_alloc (below_alloc (Below.refl _ w) _) _) hb)
  have HBox : Hid (At w' w.heap.size (.slice A xs.length c)) := hid (((At.new _ _ _).alloc _).below hb)
  have HSeen : Hid (Blk w' g 4 (BVals (List.replicate N false))) := hid (by
    subst hg
    rw [← BVals_made]
    exact (Blk.newAt _ 4 (madeCells #[.bool false] N) (w.heap.size + 1) (by simp)).below hb (by simp))
  obtain ⟨iA, iN, ic, rfl⟩ := ho.shape3
  have hiN : iN = I.length := by
    obtain ⟨_, _, h, _⟩ := ho.shape
    cases h; rfl
  subst hiN
  have HO := hid (ho.mono (B' := g + 1) (by simp; omega))
  have HOB : Hid (∀ k, (Value.slice iA I.length ic).ownBlock = some k → g + 1 ≤ k ∧ k < w'.heap.size) := hid (fun k hk => by
    have h1 := ho.blockLt k hk
    simp at h1
    omega)
  have hgw : g < w'.heap.size := HSeen.out.lt
  have hwg : w.heap.size < g := by omega
  have hbx := HBox.out.1
  rw [hg]
  clear hb ho hmk hg hN
  go_wp2
  clear hbx
  go_loopw [4, 18] (fun q i wr => ∃ (j : Nat) (oA : Option Addr) (on oc : Nat), j ≤ I.length ∧ i = .int .i64 j ∧ q = .slice oA on oc ∧ Blk wr g 4 (BVals (marksB (seenB (rowmo xs) N (startsN (rowmo xs) N I j)) N)) ∧ OwnSS 3 22 wr w'.heap.size wr.heap.size (.slice oA on oc) (orbsOf (rowmo xs) N (startsN (rowmo xs) N I j)) ∧ TurnedIn g (g + 1) w' wr) (fun _ i _ => I.length - (intOf i).toNat)
  case atStart => exact ⟨0, none, 0, 0, Nat.zero_le _, rfl, rfl, (by rw [show startsN (rowmo xs) N I 0 = [] from rfl, show marksB (seenB (rowmo xs) N []) N = List.replicate N false from marksB_none N]; exact HSeen.out), OwnSS.nil _ _ _ _ _, TurnedIn.refl _ _ _⟩
  case round =>
    obtain ⟨j, oA, on, oc, hj, rfl, rfl, hB, hq, ht⟩ := hrel
    have HBk := hid hB
    have HQ := hid hq
    have HT := hid ht
    clear hB hq
    by_cases hlt : j < I.length
    · obtain ⟨s, hs, hsN, hIs⟩ := HAt.out j hlt
      have hoi := HO.out.turned ht HOB.out (.inr (Nat.le_refl _))
      have hcell : ∃ b, iA = some ⟨b, 0, none⟩ ∧ wr.cell? ⟨b, 0 + j, none⟩ = some (.int .i64 s) := by
        obtain ⟨A', c', h1, h2⟩ := hoi.shape
        obtain ⟨A2, c2, h3, h4⟩ := hoi.ints
        cases h1
        obtain ⟨b, h5, -, -⟩ := h2 (by intro h; simp [h] at hlt)
        cases h3
        obtain ⟨b2, o2, h6, -, h7⟩ := h4 (by intro h; simp [h] at hlt)
        have h8 : b2 = b ∧ o2 = 0 := by rw [h5] at h6; cases h6; exact ⟨rfl, rfl⟩
        obtain ⟨rfl, rfl⟩ := h8
        exact ⟨_, h5, by rw [h7 j hlt, hs]⟩
      obtain ⟨b, rfl, hcell⟩ := hcell
      rw [Nat.zero_add] at hcell
      have HId : Hid (idB xs s = true) := hid (idB_iff.2 ⟨by rw [HN.out]; exact hsN, hIs⟩)
      have hslen := startsN_length (rowmo xs) N I j
      obtain ⟨st, hst⟩ : ∃ st, startsN (rowmo xs) N I j = st := ⟨_, rfl⟩
      rw [hst] at HBk HQ hslen
      have hct : wr.cell? ⟨g, s, none⟩ = some (.bool (seenB (rowmo xs) N st s)) := by
        rw [HBk.out.cell, BVals_get (by rw [marksB_length]; exact hsN), marksB_get _ hsN]
      have hbox := (HBox.out.turned HT.out (.inl hwg)).1
      cases hsb : seenB (rowmo xs) N st s
      · rw [hsb] at hct
        have HNo : Hid (startsN (rowmo xs) N I (j + 1) = st ++ [s]) := hid (by rw [startsN_no (by rw [hst, hs, Int.toNat_natCast]; exact hsb), hst, hs, Int.toNat_natCast])
        have HPS := hid (HM.out.perS HId.out)
        have HLt := hid (fun k => HM.out.lt _ (HM.out.it HId.out k))
        obtain ⟨P, hP⟩ : ∃ P, per (rowmo xs) N s = P := ⟨_, rfl⟩
        have HOr : Hid (orbL (rowmo xs) N s = orbTL (rowmo xs) s P) := hid (by unfold orbL; rw [hP])
        have HFull : Hid (mkOrb (rowmo xs) N st s P = marksB (seenB (rowmo xs) N (st ++ [s])) N) := hid (by rw [← hP]; exact mkOrb_full _ _ _ _)
        rw [hP] at HPS
        have hP2 : P ≤ N := HPS.out.2.2.1
        have HBel := hid (below_turned HB.out HT.out (Nat.le_of_lt hwg))
        have hOb := hid (obOrbit_any (.slice A xs.length c) xs s wr (HV.out.below HBel.out) HG.out HId.out)
        have hzw : w'.heap.size ≤ wr.heap.size := HT.out.size
        have hslen2 : (orbsOf (rowmo xs) N st).length < 1048576 := by rw [orbsOf_length]; omega
        clear hs hst hoi hIs hsb hslen hP
        go_wp2_with fail
        clear hcell hct hbox
        refine hOb.out.mono ?_
        rw [HN.out, HOr.out]
        rintro e' w5 ⟨u, rfl, ho5, hb5⟩
        obtain ⟨uA, un, uc, rfl⟩ := ho5.shape3
        have hun : un = P := by
          obtain ⟨_, _, h, _⟩ := ho5.shape
          cases h; exact orbTL_length _ _ _
        subst hun
        have HU5 := hid ho5
        have HUB := hid ho5.blockLt
        have HBk5 := hid (HBk.out.below hb5 HBk.out.lt)
        have HQ5 := hid (HQ.out.below hb5)
        have HT5 := hid (HT.out.trans (TurnedIn.of_below hb5))
        have hz5 : wr.heap.size ≤ w5.heap.size := hb5.size
        clear ho5 hb5
        go_wp2
        go_loopw [31] (fun i wi => ∃ k : Nat, k ≤ un ∧ i = .int .i64 k ∧ Blk wi g 4 (BVals (mkOrb (rowmo xs) N st s k)) ∧ TurnedIn g (g + 1) w5 wi) (fun i _ => un - (intOf i).toNat)
        case atStart => exact ⟨0, Nat.zero_le _, rfl, (by rw [mkOrb_zero]; exact HBk5.out), TurnedIn.refl _ _ _⟩
        case round =>
          obtain ⟨k, hk, rfl, hB, ht⟩ := hrel
          have HBi := hid hB
          have HTi := hid ht
          clear hB ht
          have hui := HU5.out.turned HTi.out HUB.out (.inr (by omega))
          by_cases hkl : k < un
          · obtain ⟨x, hx⟩ : ∃ x, iter (rowmo xs) k s = x := ⟨_, rfl⟩
            have hxN : x < N := by rw [← hx]; exact HLt.out k
            have hcell : ∃ b, uA = some ⟨b, 0, none⟩ ∧ wr.cell? ⟨b, 0 + k, none⟩ = some (.int .i64 x) := by
              obtain ⟨A', c', h1, h2⟩ := hui.shape
              obtain ⟨A2, c2, h3, h4⟩ := hui.ints
              injection h1 with e1 e2 e3
              subst e1; subst e3
              have hne : orbTL (rowmo xs) s un ≠ [] := by intro h; have := congrArg List.length h; rw [orbTL_length] at this; simp at this; omega
              obtain ⟨b, h5, -, -⟩ := h2 hne
              injection h3 with e4 e5 e6
              subst e4; subst e6
              obtain ⟨b2, o2, h6, -, h7⟩ := h4 hne
              have h8 : b2 = b ∧ o2 = 0 := by rw [h5] at h6; cases h6; exact ⟨rfl, rfl⟩
              obtain ⟨rfl, rfl⟩ := h8
              exact ⟨_, h5, by rw [h7 k (by rw [orbTL_length]; exact hkl), orbTL_get _ _ hkl, hx]⟩
            obtain ⟨b, rfl, hcell⟩ := hcell
            rw [Nat.zero_add] at hcell
            have hct : ∃ y, wr.cell? ⟨g, x, none⟩ = some (.bool y) := ⟨_, by rw [HBi.out.cell, BVals_get (by rw [mkOrb_length]; exact hxN)]⟩
            obtain ⟨y, hct⟩ := hct
            have hft := HBi.out.frozen x
            have HSet : Hid ((mkOrb (rowmo xs) N st s k).set x true = mkOrb (rowmo xs) N st s (k + 1)) := hid (by rw [← hx]; exact mkOrb_set _ _ _ _ _)
            clear hx hui
            go_wp2
            go_roundw
            case rel => exact ⟨k + 1, by omega, by go_num, (by rw [← HSet.out, ← BVals_set]; exact HBi.out.set_ x _), HTi.out.set_ ⟨g, x, none⟩ ⟨Nat.le_refl _, Nat.lt_succ_self _⟩ _⟩
            case measure => simp [intOf]; omega
          · obtain rfl : k = un := by omega
            have HB7 : Hid (Blk wr g 4 (BVals (marksB (seenB (rowmo xs) N (st ++ [s])) N))) := hid (by rw [← HFull.out]; exact HBi.out)
            have HQ7 := hid (HQ5.out.turned HTi.out (.inr (by omega)))
            have HT7 := hid (HT5.out.trans HTi.out)
            have HU7 := hid (OwnI.mono hui (B' := w'.heap.size) (by omega))
            have hz7 : w5.heap.size ≤ wr.heap.size := HTi.out.size
            clear hui
            go_wp2_with (at_builtin; refine wpList_append_row rfl _ _ 163 22 3 rfl Tryz.underlying163 Tryz.info22 (by decide) w'.heap.size _ _ _ _ _ rfl HQ7.out HU7.out (fun k hk => (HUB.out k hk).1) rfl rfl hslen2 (by omega) (by omega) ?_; rintro q2 w8 ho8 hb8; obtain ⟨qA, qn, qc, rfl⟩ := ho8.shape3)
            go_roundw
            case rel => exact ⟨j + 1, qA, qn, qc, by omega, by go_num, rfl, (by rw [HNo.out]; exact HB7.out.below hb8 hgw), (by rw [HNo.out, orbsOf_snoc, HOr.out]; exact ho8), HT7.out.belowB hb8 (Nat.le_refl _)⟩
            case measure => simp [intOf]; omega
      · rw [hsb] at hct
        have HYes : Hid (startsN (rowmo xs) N I (j + 1) = st) := hid (by rw [startsN_yes (by rw [hst, hs, Int.toNat_natCast]; exact hsb), hst])
        clear hs hst hoi hIs hsb hslen hbox
        go_wp2
        go_roundw
        case rel => exact ⟨j + 1, oA, on, oc, by omega, by go_num, rfl, (by rw [HYes.out]; exact HBk.out), (by rw [HYes.out]; exact HQ.out), HT.out⟩
        case measure => simp [intOf]; omega
    · obtain rfl : j = I.length := by omega
      have HBel := hid (below_turned HB.out ht (Nat.le_of_lt hwg))
      have hww := HB.out.size
      clear ht
      go_wp2
      go_ret
      exact ⟨_, rfl, HQ.out.monoB hww, HBel.out⟩
end Go.Proofs.YtbmhaamenjhjfaaGreatDoor
