/- PsU PsT -/
import Derived.Deep.AppendLies
import Derived.Deep.RegionLaw
import Derived.Test.YtbmhaamenjhjfaaGreatDoorPkD24
namespace Go.Proofs.YtbmhaamenjhjfaaGreatDoor
open Go.RowKit Go.WideShapes Go.ChangeShapes
set_option linter.unusedVariables false
theorem step_append_row {P : Program} {w W : World} {ops : Array Oper} {o : Oper} {ac : Act} {K : Act → World → Prop} {Q : Exit → Act → World → Prop} {E' : Prop} (hgd : o.guard = none) (s x : Operand) (t ts ti : TypeId)
    (ho : o.op = .call { callee := .builtin .append, args := #[s, x], argTypes := #[t, t] }) (ht : P.underlying t = some (.slice ts)) (hinfo : (P.info? ts).map (fun i => (i.zero, i.size, i.bytes)) = some (some (.slice none 0 0), 1, 24))
    (hne : ti ≠ ts) (B E : Nat) (v u : Value) (ls : List (List Int)) (l : List Int) (hs : ac.eval s = v) (hown : OwnSS ti ts w B E v ls) (hu : OwnI ti w B u l) (huE : ∀ k, u.ownBlock = some k → E ≤ k)
    (hW : W = w.alloc (.cells #[u] ts)) (hx : ac.eval x = .slice (some ⟨w.heap.size, 0, none⟩) 1 1) (hlen : ls.length < 1048576) (hB : B ≤ w.heap.size) (hE : E ≤ w.heap.size)
    (h : ∀ v' w', OwnSS ti ts w' B w'.heap.size v' (ls ++ [l]) → Below B w w' → K (ac.put o.dst v') w') :
    if Region.wanted o (yielded ops ac.tmps) = true then Oper.wp P o ac W K Q else E' := by
  subst hW
  obtain ⟨i0, hi, hz0, hz1, hz2⟩ := info_parts hinfo
  obtain ⟨us, h1, h2, h3, h4, h5⟩ := hown
  obtain ⟨uA, un, uc, hush⟩ := hu.shape3
  have hulen : (un, uc, uA) = (un, uc, uA) := rfl
  refine step_append_lies _ hgd s x t ho B ts i0 (.slice none 0 0) 1 24 ht hi hz0 hz1 hz2 rfl (by decide) v ls.length us hs (h2.alloc _) ⟨w.heap.size, 0, none⟩ 1 1 [u] hx rfl ?_ ?_ (by decide) ?_ ?_ ?_ _ rfl ?_
  · intro j y hj
    match j, hj with
    | 0, hj =>
      simp only [List.getElem?_cons_zero, Option.some.injEq] at hj
      subst hj
      exact (Blk.new w ts #[u]).cell 0
    | j + 1, hj => simp at hj
  · intro y hy
    simp only [List.mem_singleton] at hy
    subst hy; subst hush; rfl
  · unfold maxLen; omega
  · omega
  · simp; omega
  · intro g0 cap0 w' h6 h7 _ _
    obtain ⟨v', hv'⟩ : ∃ v', Value.slice (some ⟨g0, 0, none⟩) (ls.length + 1) cap0 = v' := ⟨_, rfl⟩
    rw [hv'] at h6 ⊢
    have hb : Below B w (w.alloc (.cells #[u] ts)) := (Below.refl _ _).alloc hB _
    have hB2 : Below B w w' := hb.grown h7 (by simp; omega) fun k hk => (h2.lt k hk).1
    have hsz : w.heap.size ≤ w'.heap.size := hB2.size
    refine h v' w' ⟨us ++ [u], by simp [h1], by simpa using h6, fun k hk => ?_, ?_, ?_⟩ hB2
    · exact (World.ownsRow.lt h6 k hk).2
    · intro j y m hy hm
      rw [List.getElem?_append] at hy hm
      by_cases hj : j < ls.length
      · rw [if_pos (by omega)] at hy
        rw [if_pos hj] at hm
        obtain ⟨a, b⟩ := h4 j y m hy hm
        exact ⟨(a.alloc _).grown h7 (own_apart hne a h2), fun k hk => by have := b k hk; omega⟩
      · rw [if_neg (by omega)] at hy
        rw [if_neg hj] at hm
        rcases Nat.eq_zero_or_pos (j - ls.length) with h0 | h0
        · rw [h0] at hm
          rw [h1, h0] at hy
          simp only [List.getElem?_cons_zero, Option.some.injEq] at hy hm
          subst hy; subst hm
          exact ⟨(hu.alloc _).grown h7 (own_apart hne hu h2), fun k hk => by have := (hu.blockLt k hk).2; omega⟩
        · rw [List.getElem?_eq_none (by simp; omega)] at hm; cases hm
    · have old : ∀ i y, i < us.length → us[i]? = some y → (y.ownBlock = none ∨ y.ownBlock ≠ u.ownBlock) := by
        intro i y hi hy
        have hl : ls[i]? = some ls[i] := List.getElem?_eq_getElem (by omega)
        obtain ⟨_, b⟩ := h4 i y _ hy hl
        rcases hq : y.ownBlock with _ | k
        · exact .inl rfl
        · refine .inr fun e => ?_
          have c1 := b k hq
          have c2 := huE k e.symm
          omega
      intro i j y y' hij hy hy'
      rw [List.getElem?_append] at hy hy'
      by_cases hi : i < us.length
      · rw [if_pos hi] at hy
        by_cases hj : j < us.length
        · rw [if_pos hj] at hy'
          exact h5 i j y y' hij hy hy'
        · rw [if_neg hj] at hy'
          rcases Nat.eq_zero_or_pos (j - us.length) with h0 | h0
          · rw [h0] at hy'
            simp only [List.getElem?_cons_zero, Option.some.injEq] at hy'
            subst hy'
            exact old i y hi hy
          · rw [List.getElem?_eq_none (by simp; omega)] at hy'; cases hy'
      · rw [if_neg hi] at hy
        rcases Nat.eq_zero_or_pos (i - us.length) with h0 | h0
        · rw [h0] at hy
          simp only [List.getElem?_cons_zero, Option.some.injEq] at hy
          subst hy
          by_cases hj : j < us.length
          · rw [if_pos hj] at hy'
            rcases old j y' hj hy' with h8 | h8
            · rcases hq : u.ownBlock with _ | k
              · exact .inl rfl
              · rw [h8]; exact .inr (by simp)
            · exact .inr (fun e => h8 e.symm)
          · rw [if_neg hj] at hy'
            rcases Nat.eq_zero_or_pos (j - us.length) with h0' | h0'
            · omega
            · rw [List.getElem?_eq_none (by simp; omega)] at hy'; cases hy'
        · rw [List.getElem?_eq_none (by simp; omega)] at hy; cases hy
end Go.Proofs.YtbmhaamenjhjfaaGreatDoor
namespace Go.Proofs.YtbmhaamenjhjfaaGreatDoor
open Go.RowKit Go.WideShapes Go.ChangeShapes
set_option linter.unusedVariables false
theorem l1Split_at (l : List UInt8) (b : UInt8) (n : Int) (hn : (b.toNat : Int) = n) (w : World) (hl : l.length ≤ 1048576) :
    Calls Tryz.prog 28 #[.string (sB l), .int .u8 n] w fun (r : Ending) w' => ∃ u, r = Ending.returned u ∧ Strs w' u (splitL b l) ∧ Below w.heap.size w w' := by
  subst hn
  exact (l1Split_any l b w hl).mono fun e w' ⟨u, h1, h2, h3⟩ => ⟨u, h1, h2.read, h3⟩
set_option maxRecDepth 100000 in
set_option maxHeartbeats 9000000 in
theorem poParse_any (l : List UInt8) (w : World) (hl : l.length ≤ 1048576) :
    Calls Tryz.prog 70 #[.string (sB l)] w fun (r : Ending) w' => ∃ q, r = Ending.returned (.tuple #[.agg #[q], .bool (prS l).isSome]) ∧ OwnI 3 w' w.heap.size q ((prS l).getD []) ∧ Below w.heap.size w w' := by
  have HZ0 := hid (Blk.new w 28 #[.slice none 0 0])
  have HB0 := hid (below_alloc (Below.refl _ w) (.cells #[.slice none 0 0] 28))
  have HPt := hid (splitL_part 58 l)
  go_enter Tryz.func70, Tryz.ntmps70
  go_wp2_with fail
  refine (l1Split_at l 58 _ rfl _ hl).mono ?_
  rintro e w1 ⟨u, rfl, hu, hb⟩
  have HZ := hid (HZ0.out.below hb HZ0.out.lt)
  have HB := hid (below_to HB0.out hb)
  have HNo1 := hid (prS_no1 (l := l))
  have HNo2 := hid (prS_no2 (l := l))
  have HTw := hid (id : (splitL 58 l).length = 2 → (splitL 58 l).length = 2)
  have HP00 : Hid ((splitL 58 l).getD 0 [] = (splitL 58 l).getD 0 []) := hid rfl
  have HP11 : Hid ((splitL 58 l).getD 1 [] = (splitL 58 l).getD 1 []) := hid rfl
  have hp0l := HPt.out 0
  have hp1l := HPt.out 1
  have hsl : (splitL 58 l).length ≤ 1048577 := by have := splitL_length 58 l; omega
  obtain ⟨A, c, rfl, hcs⟩ := hu
  have HCs := hid hcs
  have z1 := HZ.out.cell 0
  have z2 := HZ.out.frozen 0
  have z3 := HZ.out.lt
  clear hb hcs HPt HZ0 HB0
  by_cases h2 : (splitL 58 l).length = 2
  · have HTwo := hid h2
    obtain ⟨b, o, rfl, hbl, hc0⟩ := HCs.out 0 (by omega)
    obtain ⟨b', o', hbo, -, hc1⟩ := HCs.out 1 (by omega)
    injection hbo with hbo
    injection hbo with e1 e2
    subst e1 e2
    rw [h2]
    have hne2 : ((2 : Int) != 2) = false := rfl
    obtain ⟨p0, hp0⟩ : ∃ p, (splitL 58 l).getD 0 [] = p := ⟨_, rfl⟩
    obtain ⟨p1, hp1⟩ : ∃ p, (splitL 58 l).getD 1 [] = p := ⟨_, rfl⟩
    rw [hp0] at hc0 hp0l
    rw [hp1] at hc1 hp1l HNo2
    have HP0 := hid hp0
    have HP1 := hid hp1
    have hc0' : w1.cell? ⟨b, o, none⟩ = some (.string (sB p0)) := by simpa using hc0
    have Hc0 := hid hc0'
    clear h2 hp0 hp1 hc0 hc0' HCs
    by_cases h45 : p1 = [45]
    · subst h45
      have hs : sB [45] = { data := #[45] } := rfl
      rw [hs] at hc1
      clear hs
      have HSel : Hid (selL ((splitL 58 l).getD 1 []) = some []) := hid (by rw [HP1.out]; rfl)
      have c0 := Hc0.out
      clear z1 z2 hne2
      have hne2 : ((2 : Int) != 2) = false := rfl
      go_wp2_with fail
      clear hc1 hne2
      have HZr := HZ
      have HBr := HB
      have HP : Hid (IntsSS w1 (.slice none 0 0) []) := hid (OwnSS.nil 3 22 w1 0 0).ints
      have HSm : Hid (SSmall []) := hid ⟨by simp, by simp, by simp [offL]⟩
      clear c0
      refine (l1Read_any p0 _ (by omega)).mono ?_
      rintro e w' ⟨rfl, rfl⟩
      go_wp2_with fail
      refine (specFromCovers_any (readL p0) _ [] _ (readL_wf p0) HP.out HSm.out).mono ?_
      rintro e w4 ⟨q, rfl, hq, hql, hb⟩
      have HZ4 := hid (HZr.out.below hb HZr.out.lt)
      have HB4 := hid (below_to HBr.out hb)
      have hz4 := hb.size
      have hzr := HBr.out.size
      have HQ := hid hq
      obtain ⟨qA, qn, qc, rfl⟩ := hq.shape3
      obtain ⟨n, hn⟩ : ∃ n, readL p0 = n := ⟨_, rfl⟩
      have HAt := hid (fun xs hx => prS_at (l := l) HTwo.out HSel.out (xs := xs) hx)
      rw [HP0.out, hn] at HAt
      rw [hn] at HQ hql ⊢
      obtain ⟨xs, hxs⟩ : ∃ xs, fcL n [] = xs := ⟨_, rfl⟩
      have HGd := hid (fun h => hxs ▸ okFC_good (n := n) (ls := []) h)
      have HBd := hid (fun h => hxs ▸ okFC_bad (n := n) (ls := []) h)
      have HA2 := hid (HAt.out xs hxs)
      rw [hxs] at HQ hql
      have HBx := hid (Blk.newAt w4 28 #[.slice qA qn qc] w4.heap.size rfl)
      have HBl := hid (below_alloc (Below.refl _ w4) (.cells #[.slice qA qn qc] 28))
      have HQb := hid (HQ.out.below HBl.out)
      have HZb := hid (HZ4.out.below HBl.out HZ4.out.lt)
      have HBb := hid (below_to HB4.out HBl.out)
      clear hb hq hxs hn HAt
      cases hok : okFC n []
      · have hg := HBd.out hok
        have HE : Hid (prS l = none) := hid (by rw [HA2.out, hg]; rfl)
        have z1 := HZb.out.cell 0
        have z2 := HZb.out.frozen 0
        have zlt := HZb.out.lt
        clear hok hg
        go_wp2
        refine bodyPost_ret (v := .tuple #[.agg #[.slice none 0 0], .bool false]) (by simp [results, Tryz.results70, go_sem, z1]) rfl ⟨_, by rw [HE.out]; rfl, by rw [HE.out]; exact OwnI.nil _ _ _, ?_⟩
        exact HBb.out.setCell (p := ⟨w.heap.size, 0, none⟩) (Nat.le_refl _) _
      · have hg := HGd.out hok
        have HG := hid hg
        clear hok hg
        go_wp2_with fail
        refine (poText_any _ xs _ HQb.out.ints HG.out).mono ?_
        rintro e w5 ⟨rfl, hb⟩
        have HZ5 := hid (HZb.out.below hb HZb.out.lt)
        have HBx5 := hid (HBx.out.below hb HBx.out.lt)
        have HB5 := hid (below_to HBb.out hb)
        have HQ5 := hid (HQb.out.below hb)
        have z1 := HZ5.out.cell 0
        have z2 := HZ5.out.frozen 0
        have b1 := HBx5.out.cell 0
        have b2 := HBx5.out.frozen 0
        have zlt := HZ5.out.lt
        clear hb
        by_cases ht : textL xs.length (covPS xs xs.length xs.length) = l
        · have HE : Hid (prS l = some xs) := hid (by rw [HA2.out, HG.out, decide_eq_true ht]; rfl)
          have hlz : w.heap.size < w4.heap.size := HZ4.out.lt
          rw [ht]
          clear ht
          go_wp2
          refine bodyPost_ret (v := .tuple #[.agg #[.slice qA qn qc], .bool true]) (by simp [results, Tryz.results70, go_sem, z1]) rfl ⟨_, by rw [HE.out]; rfl, ?_, ?_⟩
          · rw [HE.out]
            refine (HQ5.out.grown (grown_setCell (g := w.heap.size) (World.grownBy.refl _ _) 0 _) ?_).mono hzr
            exact HQ5.out.apart (.inl HZr.out.lt)
          · exact HB5.out.setCell (p := ⟨w.heap.size, 0, none⟩) (Nat.le_refl _) _
        · have HE : Hid (prS l = none) := hid (by rw [HA2.out, decide_eq_false ht, Bool.and_false]; rfl)
          obtain ⟨T, hT⟩ : ∃ T, textL xs.length (covPS xs xs.length xs.length) = T := ⟨_, rfl⟩
          rw [hT] at ht ⊢
          have hne : ((sB T).toList == (sB l).toList) = false := by rw [sB_toList, sB_toList, beq_eq_false_iff_ne]; exact ht
          clear ht hT
          go_wp2
          refine bodyPost_ret (v := .tuple #[.agg #[.slice none 0 0], .bool false]) (by simp [results, Tryz.results70, go_sem, z1]) rfl ⟨_, by rw [HE.out]; rfl, by rw [HE.out]; exact OwnI.nil _ _ _, ?_⟩
          exact HB5.out.setCell (p := ⟨w.heap.size, 0, none⟩) (Nat.le_refl _) _
    · have hne45 : ((sB p1).toList == [45]) = false := by rw [sB_toList, beq_eq_false_iff_ne]; exact h45
      have HS : Hid (selL p1 = selK (splitL 44 p1) (splitL 44 p1).length) := hid (by unfold selL; rw [if_neg h45])
      have HPt := hid (splitL_part 44 p1)
      have hpsl : (splitL 44 p1).length ≤ 1048577 := by have := splitL_length 44 p1; omega
      clear h45
      go_wp2_with fail
      refine (l1Split_at p1 44 _ rfl _ (by omega)).mono ?_
      rintro e w2 ⟨u, rfl, hu, hb⟩
      have HZ2 := hid (HZ.out.below hb HZ.out.lt)
      have HB2 := hid (below_to HB.out hb)
      have Hc02 : Hid (w2.cell? ⟨b, o, none⟩ = some (.string (sB p0))) := hid ((hb.cell (p := ⟨b, o, none⟩) hbl).trans Hc0.out)
      have hbl2 : b < w2.heap.size := Nat.lt_of_lt_of_le hbl hb.size
      obtain ⟨ps, hps⟩ : ∃ ps, splitL 44 p1 = ps := ⟨_, rfl⟩
      rw [hps] at hu HS HPt hpsl
      obtain ⟨uA, uc, rfl, hcs⟩ := hu
      have HU := hid hcs
      clear hb hcs hps hne45 hc1 z1 z2 hne2
      have hne2 : ((2 : Int) != 2) = false := rfl
      go_wp2
      go_loopw [5, 26] (fun q i wr => ∃ (k : Nat) (ls : List (List Int)), k ≤ ps.length ∧ i = .int .i64 k ∧ Hid (selK ps k = some ls) ∧ OwnSS 3 22 wr w2.heap.size wr.heap.size q ls ∧ Below w2.heap.size w2 wr) (fun _ i _ => ps.length - (intOf i).toNat)
      case atStart => exact ⟨0, [], Nat.zero_le _, rfl, hid rfl, OwnSS.nil _ _ _ _ _, Below.refl _ _⟩
      case round =>
        obtain ⟨k, ls, hk, rfl, HK, ho, hb⟩ := hrel
        obtain ⟨hlk, hk100, hl2⟩ := selK_length k ls HK.out
        have Hlk := hid hlk
        have HSm : Hid (SSmall ls) := hid (rel_small (n := 100) (by omega) (by decide) hl2)
        have Hb := hid hb
        have hz := hb.size
        have HZr := hid (HZ2.out.below hb HZ2.out.lt)
        have HBr := hid (below_to HB2.out hb)
        have z1 := HZr.out.cell 0
        have z2 := HZr.out.frozen 0
        have z3 := HZr.out.lt
        obtain ⟨oA, oc, rfl, -⟩ := ho.rows
        have HO := hid ho
        rw [hlk]
        clear ho hb hl2
        by_cases hlt : k < ps.length
        · obtain ⟨gb, go, rfl, hgl, hgc⟩ := HU.out k hlt
          have hcell := (Hb.out.cell (p := ⟨gb, go + k, none⟩) hgl).trans hgc
          have hpl := HPt.out k
          have HYes := hid (fun h h' => selK_yes HK.out (by rw [Hlk.out]; exact h) h')
          have HNoA := hid (fun (h : k = 100) => selK_none (selK_no1 HK.out (by rw [Hlk.out]; exact h)) ps.length (by omega))
          have HNoB := hid (fun h => selK_none (selK_no2 HK.out h) ps.length (by omega))
          obtain ⟨p, hp⟩ : ∃ p, ps.getD k [] = p := ⟨_, rfl⟩
          rw [hp] at hcell hpl HYes HNoB
          clear hgc hp hlk
          go_wp2_with fail
          clear hcell z1 z2 hne2
          refine (l1Split_at p 60 _ rfl _ (by omega)).mono ?_
          rintro e w3 ⟨v, rfl, hv, hb3⟩
          have HO3 := hid (HO.out.below hb3)
          have Hb3 := hid (below_to Hb.out hb3)
          have hz3 := hb3.size
          have HZ3 := hid (HZr.out.below hb3 HZr.out.lt)
          have HB3 := hid (below_to HBr.out hb3)
          have hql := splitL_part 60 p
          have hqn : (splitL 60 p).length ≤ 1048577 := by have := splitL_length 60 p; omega
          obtain ⟨qs, hqs⟩ : ∃ qs, splitL 60 p = qs := ⟨_, rfl⟩
          rw [hqs] at hv HYes HNoB hql hqn
          have q0 := hql 0
          have q1 := hql 1
          have z1 := HZ3.out.cell 0
          have z2 := HZ3.out.frozen 0
          have z4 := HZ3.out.lt
          obtain ⟨vA, vc, rfl, hcs⟩ := hv
          have HV := hid hcs
          clear hb3 hcs hqs hql
          by_cases h2 : qs.length = 2
          · obtain ⟨vb, vo, rfl, hvl, hv0⟩ := HV.out 0 (by omega)
            obtain ⟨vb', vo', hbo, -, hv1⟩ := HV.out 1 (by omega)
            injection hbo with hbo
            injection hbo with e1 e2
            subst e1 e2
            rw [Nat.add_zero] at hv0
            rw [h2]
            have hne2 : ((2 : Int) != 2) = false := rfl
            by_cases h100 : k = 100
            · have HN := hid (HNoA.out h100)
              subst h100
              have HE : Hid (prS l = none) := hid (HNo2.out (by rw [HS.out, HN.out]))
              clear h2 hv0 hv1
              go_wp2
              refine bodyPost_ret (v := .tuple #[.agg #[.slice none 0 0], .bool false]) (by simp [results, Tryz.results70, go_sem, z1]) rfl ⟨_, by rw [HE.out]; rfl, by rw [HE.out]; exact OwnI.nil _ _ _, ?_⟩
              exact HB3.out.setCell (p := ⟨w.heap.size, 0, none⟩) (Nat.le_refl _) _
            · have HE := hid (HYes.out h100 h2)
              have hne100 : ((k : Int) == 100) = false := by rw [beq_eq_false_iff_ne]; omega
              obtain ⟨y0, hy0⟩ : ∃ y, qs.getD 0 [] = y := ⟨_, rfl⟩
              obtain ⟨y1, hy1⟩ : ∃ y, qs.getD 1 [] = y := ⟨_, rfl⟩
              rw [hy0] at hv0 q0 HE
              rw [hy1] at hv1 q1 HE
              have HR0 := hid (fun W => l1Read_any y0 W (by omega))
              have HR1 := hid (fun W => l1Read_any y1 W (by omega))
              obtain ⟨x, hx⟩ : ∃ x, readL y0 = x := ⟨_, rfl⟩
              obtain ⟨y, hy⟩ : ∃ y, readL y1 = y := ⟨_, rfl⟩
              rw [hx] at HR0 HE
              rw [hy] at HR1 HE
              clear h2 h100 hy0 hy1 z1 z2 hx hy
              go_wp2_with fail
              have hz33 : w2.heap.size ≤ w3.heap.size := Hb3.out.size
              have HDz : Hid (w3.drew.heap.size = w3.heap.size) := hid rfl
              have HOk : Hid (OwnSS 3 22 w3 w2.heap.size wr.heap.size (.slice oA k oc) ls) := hid (by have := HO3.out; rw [Hlk.out] at this; exact this)
              have HO4 := hid (HOk.out.drew.alloc (.cells #[.int .i64 x, .int .i64 y] 3))
              have HOw := hid (OwnI.two 3 w3.drew x y w2.heap.size (by have := HDz.out; omega))
              have HBa : Hid (Below w2.heap.size w2 (w3.drew.alloc (.cells #[.int .i64 x, .int .i64 y] 3))) := hid (Hb3.out.drew.alloc (by have := HDz.out; omega) _)
              have HuE : Hid (∀ j, (Value.slice (some ⟨w3.drew.heap.size, 0, none⟩) 2 2).ownBlock = some j → wr.heap.size ≤ j) := hid (fun j hj => by simp only [Value.ownBlock, Option.some.injEq] at hj; have := HDz.out; omega)
              have HSz : Hid (w2.heap.size ≤ (w3.drew.alloc (.cells #[.int .i64 x, .int .i64 y] 3)).heap.size ∧ wr.heap.size ≤ (w3.drew.alloc (.cells #[.int .i64 x, .int .i64 y] 3)).heap.size) := hid (by have := HDz.out; simp; omega)
              go_region_law (first | ((with_reducible show if Region.wanted { dst := _, op := Op.call { callee := Callee.value _, args := _, argTypes := _ }, type := _, pos := _, after := _, guard := _ } _ = true then _ else _); go_simp; first | (go_at_call_of 69 (sB y0); refine (HR0.out _).mono ?_; rintro e w' ⟨rfl, rfl⟩) | (go_at_call_of 69 (sB y1); refine (HR1.out _).mono ?_; rintro e w' ⟨rfl, rfl⟩)) | ((with_reducible show if Region.wanted { dst := _, op := Op.call { callee := Callee.builtin _, args := _, argTypes := _ }, type := _, pos := _, after := _, guard := _ } _ = true then _ else _); refine step_append_row (w := w3.drew.alloc (.cells #[.int .i64 x, .int .i64 y] 3)) rfl (.tmp 41) (.tmp 51) 163 22 3 rfl Tryz.underlying163 Tryz.info22 (by decide) w2.heap.size wr.heap.size (.slice oA k oc) (.slice (some ⟨w3.drew.heap.size, 0, none⟩) 2 2) ls [x, y] rfl HO4.out HOw.out HuE.out rfl (by show Value.slice _ 1 1 = Value.slice _ 1 1; simp) (by have := Hlk.out; omega) HSz.out.1 HSz.out.2 ?_; rintro u5 w5 ho5 hb5))
              all_goals (go_wp2; go_roundw; (case rel => exact ⟨k + 1, _, by omega, by go_num, HE, ho5, HBa.out.trans hb5⟩); (case measure => simp [intOf]; omega))
          · have HE : Hid (prS l = none) := hid (HNo2.out (by rw [HS.out, HNoB.out h2]))
            have hne2 : ((qs.length : Int) != 2) = true := by rw [bne_iff_ne]; omega
            clear h2
            go_wp2
            refine bodyPost_ret (v := .tuple #[.agg #[.slice none 0 0], .bool false]) (by simp [results, Tryz.results70, go_sem, z1]) rfl ⟨_, by rw [HE.out]; rfl, by rw [HE.out]; exact OwnI.nil _ _ _, ?_⟩
            exact HB3.out.setCell (p := ⟨w.heap.size, 0, none⟩) (Nat.le_refl _) _
        · obtain rfl : k = ps.length := by omega
          have HSel : Hid (selL ((splitL 58 l).getD 1 []) = some ls) := hid (by rw [HP1.out, HS.out]; exact HK.out)
          have c0 := (Hb.out.cell (p := ⟨b, o, none⟩) hbl2).trans Hc02.out
          have HP : Hid (IntsSS wr (.slice oA ps.length oc) ls) := hid (by have := HO.out.ints; rw [Hlk.out] at this; exact this)
          clear z1 z2 hlk
          go_wp2_with fail
          clear c0
          refine (l1Read_any p0 _ (by omega)).mono ?_
          rintro e w' ⟨rfl, rfl⟩
          go_wp2_with fail
          refine (specFromCovers_any (readL p0) _ ls _ (readL_wf p0) HP.out HSm.out).mono ?_
          rintro e w4 ⟨q, rfl, hq, hql, hb⟩
          have HZ4 := hid (HZr.out.below hb HZr.out.lt)
          have HB4 := hid (below_to HBr.out hb)
          have hz4 := hb.size
          have hzr := HBr.out.size
          have HQ := hid hq
          obtain ⟨qA, qn, qc, rfl⟩ := hq.shape3
          obtain ⟨n, hn⟩ : ∃ n, readL p0 = n := ⟨_, rfl⟩
          have HAt := hid (fun xs hx => prS_at (l := l) HTwo.out HSel.out (xs := xs) hx)
          rw [HP0.out, hn] at HAt
          rw [hn] at HQ hql ⊢
          obtain ⟨xs, hxs⟩ : ∃ xs, fcL n ls = xs := ⟨_, rfl⟩
          have HGd := hid (fun h => hxs ▸ okFC_good (n := n) (ls := ls) h)
          have HBd := hid (fun h => hxs ▸ okFC_bad (n := n) (ls := ls) h)
          have HA2 := hid (HAt.out xs hxs)
          rw [hxs] at HQ hql
          have HBx := hid (Blk.newAt w4 28 #[.slice qA qn qc] w4.heap.size rfl)
          have HBl := hid (below_alloc (Below.refl _ w4) (.cells #[.slice qA qn qc] 28))
          have HQb := hid (HQ.out.below HBl.out)
          have HZb := hid (HZ4.out.below HBl.out HZ4.out.lt)
          have HBb := hid (below_to HB4.out HBl.out)
          clear hb hq hxs hn HAt
          cases hok : okFC n ls
          · have hg := HBd.out hok
            have HE : Hid (prS l = none) := hid (by rw [HA2.out, hg]; rfl)
            have z1 := HZb.out.cell 0
            have z2 := HZb.out.frozen 0
            have zlt := HZb.out.lt
            clear hok hg
            go_wp2
            refine bodyPost_ret (v := .tuple #[.agg #[.slice none 0 0], .bool false]) (by simp [results, Tryz.results70, go_sem, z1]) rfl ⟨_, by rw [HE.out]; rfl, by rw [HE.out]; exact OwnI.nil _ _ _, ?_⟩
            exact HBb.out.setCell (p := ⟨w.heap.size, 0, none⟩) (Nat.le_refl _) _
          · have hg := HGd.out hok
            have HG := hid hg
            clear hok hg
            go_wp2_with fail
            refine (poText_any _ xs _ HQb.out.ints HG.out).mono ?_
            rintro e w5 ⟨rfl, hb⟩
            have HZ5 := hid (HZb.out.below hb HZb.out.lt)
            have HBx5 := hid (HBx.out.below hb HBx.out.lt)
            have HB5 := hid (below_to HBb.out hb)
            have HQ5 := hid (HQb.out.below hb)
            have z1 := HZ5.out.cell 0
            have z2 := HZ5.out.frozen 0
            have b1 := HBx5.out.cell 0
            have b2 := HBx5.out.frozen 0
            have zlt := HZ5.out.lt
            clear hb
            by_cases ht : textL xs.length (covPS xs xs.length xs.length) = l
            · have HE : Hid (prS l = some xs) := hid (by rw [HA2.out, HG.out, decide_eq_true ht]; rfl)
              have hlz : w.heap.size < w4.heap.size := HZ4.out.lt
              rw [ht]
              clear ht
              go_wp2
              refine bodyPost_ret (v := .tuple #[.agg #[.slice qA qn qc], .bool true]) (by simp [results, Tryz.results70, go_sem, z1]) rfl ⟨_, by rw [HE.out]; rfl, ?_, ?_⟩
              · rw [HE.out]
                refine (HQ5.out.grown (grown_setCell (g := w.heap.size) (World.grownBy.refl _ _) 0 _) ?_).mono hzr
                exact HQ5.out.apart (.inl HZr.out.lt)
              · exact HB5.out.setCell (p := ⟨w.heap.size, 0, none⟩) (Nat.le_refl _) _
            · have HE : Hid (prS l = none) := hid (by rw [HA2.out, decide_eq_false ht, Bool.and_false]; rfl)
              obtain ⟨T, hT⟩ : ∃ T, textL xs.length (covPS xs xs.length xs.length) = T := ⟨_, rfl⟩
              rw [hT] at ht ⊢
              have hne : ((sB T).toList == (sB l).toList) = false := by rw [sB_toList, sB_toList, beq_eq_false_iff_ne]; exact ht
              clear ht hT
              go_wp2
              refine bodyPost_ret (v := .tuple #[.agg #[.slice none 0 0], .bool false]) (by simp [results, Tryz.results70, go_sem, z1]) rfl ⟨_, by rw [HE.out]; rfl, by rw [HE.out]; exact OwnI.nil _ _ _, ?_⟩
              exact HB5.out.setCell (p := ⟨w.heap.size, 0, none⟩) (Nat.le_refl _) _
  · have HE := hid (HNo1.out h2)
    have hne2 : (((splitL 58 l).length : Int) != 2) = true := by rw [bne_iff_ne]; omega
    clear h2
    go_wp2
    refine bodyPost_ret (v := .tuple #[.agg #[.slice none 0 0], .bool false]) (by simp [results, Tryz.results70, go_sem, z1]) rfl ⟨_, by rw [HE.out]; rfl, by rw [HE.out]; exact OwnI.nil _ _ _, ?_⟩
    exact HB.out.setCell (p := ⟨w.heap.size, 0, none⟩) (Nat.le_refl _) _
end Go.Proofs.YtbmhaamenjhjfaaGreatDoor
