/- PsR PsI PsS -/
import Derived.StillTailTactics
import Derived.Test.YtbmhaamenjhjfaaGreatDoorPkD19
import Derived.Test.YtbmhaamenjhjfaaGreatDoorPkD23
namespace Go.Proofs.YtbmhaamenjhjfaaGreatDoor
open Go.RowKit Go.WideShapes Go.ChangeShapes
set_option linter.unusedVariables false
theorem relK_none {ps : List (List UInt8)} {k : Nat} (h : relK ps k = none) (j : Nat) (hj : k ≤ j) : relK ps j = none := by
  induction j with
  | zero => have : k = 0 := by omega
            subst this; exact h
  | succ j ih =>
    by_cases e : k = j + 1
    · subst e; exact h
    · rw [relK, ih (by omega)]; rfl
theorem relK_yes {ps : List (List UInt8)} {k : Nat} {ls : List (List Int)} {r : List Int} (h : relK ps k = some ls) (hr : rdP (ps.getD k []) = some r) : relK ps (k + 1) = some (ls ++ [r]) := by
  rw [relK, h, hr]; rfl
theorem relK_no {ps : List (List UInt8)} {k : Nat} {ls : List (List Int)} (h : relK ps k = some ls) (hr : rdP (ps.getD k []) = none) : relK ps (k + 1) = none := by
  rw [relK, h, hr]; rfl
theorem relK_length {ps : List (List UInt8)} (k : Nat) : ∀ ls, relK ps k = some ls → ls.length = k ∧ ∀ r ∈ ls, r.length = 2 := by
  induction k with
  | zero => intro ls h; simp only [relK, Option.some.injEq] at h; subst h; exact ⟨rfl, fun r hr => by cases hr⟩
  | succ k ih =>
    intro ls h
    rw [relK] at h
    cases hq : relK ps k with
    | none => rw [hq] at h; cases h
    | some q =>
      rw [hq, Option.bind_some] at h
      cases hr : rdP (ps.getD k []) with
      | none => rw [hr] at h; cases h
      | some r =>
        rw [hr] at h
        simp only [Option.map_some, Option.some.injEq] at h
        subst h
        obtain ⟨a, b⟩ := ih q hq
        refine ⟨by simp [a], fun x hx => ?_⟩
        rw [List.mem_append, List.mem_singleton] at hx
        rcases hx with hx | rfl
        · exact b x hx
        · unfold rdP at hr
          split at hr
          · simp only [Option.some.injEq] at hr; rw [← hr]; rfl
          · cases hr
theorem rel_small {ls : List (List Int)} {n : Nat} (h1 : ls.length ≤ n) (hn : n ≤ 1000) (h2 : ∀ r ∈ ls, r.length = 2) : SSmall ls := by
  have h3 : ∀ j, (ls.getD j []).length ≤ 2 := by
    intro j
    rcases Nat.lt_or_ge j ls.length with h | h
    · have := h2 (ls.getD j []) (by simp [List.getD, h])
      omega
    · simp [List.getD, h]
  have h4 : ∀ k, offL ls k ≤ 2 * k := by
    intro k
    induction k with
    | zero => simp [offL]
    | succ k ih =>
      have h5 := h3 k
      have h6 : offL ls (k + 1) = offL ls k + (ls.getD k []).length := rfl
      omega
  have h7 := h4 ls.length
  exact ⟨by omega, fun j _ => by have := h3 j; omega, by omega⟩
theorem relL_small (l : List UInt8) : SSmall ((relL l).getD []) := by
  unfold relL
  split
  · exact ⟨by simp, by simp, by simp [offL]⟩
  · cases h : relK (splC l) (splC l).length with
    | none => exact ⟨by simp, by simp, by simp [offL]⟩
    | some ls =>
      obtain ⟨a, b⟩ := relK_length _ ls h
      exact rel_small (n := 101) (by show ls.length ≤ 101; rw [a]; exact splC_length l) (by decide) b
theorem rdP_ok {p : List UInt8} {x y : Int} (h1 : Lib.atoiAll (cutL 60 p).1 = .ok x) (h2 : Lib.atoiAll (cutL 60 p).2.1 = .ok y) : rdP p = some [x, y] := by
  unfold rdP; rw [h1, h2]
theorem rdP_no1 {p : List UInt8} (h : ∀ v, Lib.atoiAll (cutL 60 p).1 ≠ .ok v) : rdP p = none := by
  unfold rdP
  split
  · rename_i h1 h2; exact absurd h1 (h _)
  · rfl
theorem rdP_no2 {p : List UInt8} (h : ∀ v, Lib.atoiAll (cutL 60 p).2.1 ≠ .ok v) : rdP p = none := by
  unfold rdP
  split
  · rename_i h1 h2; exact absurd h2 (h _)
  · rfl
theorem OwnSS.monoBP {ti ts : TypeId} {w : World} {B B' E : Nat} {v : Value} {ls : List (List Int)} (h : OwnSS ti ts w B E v ls) (hB : B' ≤ B) : OwnSS ti ts w B' E v ls := by
  obtain ⟨us, h1, h2, h3, h4, h5⟩ := h
  refine ⟨us, h1, ?_, h3, fun j u l hu hl => ⟨(h4 j u l hu hl).1.mono hB, (h4 j u l hu hl).2⟩, h5⟩
  obtain ⟨a1, a2⟩ := h2
  refine ⟨a1, ?_⟩
  rcases a2 with a2 | ⟨g, cap, cur, hv, hg, r⟩
  · exact .inl a2
  · exact .inr ⟨g, cap, cur, hv, by omega, r⟩
theorem ret_vbPs {u : Value} {a b : Bool} (h : a = b) : Ending.returned (.tuple #[u, .bool a]) = .returned (.tuple #[u, .bool b]) := by rw [h]
theorem OwnI.two (e : TypeId) (w : World) (x y : Int) (B : Nat) (hB : B ≤ w.heap.size) : OwnI e (w.alloc (.cells #[.int .i64 x, .int .i64 y] e)) B (.slice (some ⟨w.heap.size, 0, none⟩) 2 2) [x, y] :=
  Blk.own (xs := [x, y]) (Blk.new w e #[.int .i64 x, .int .i64 y]) hB (by simp)
set_option maxRecDepth 100000 in
set_option maxHeartbeats 3200000 in
theorem relationsIn_any (l : List UInt8) (w : World) (hG : Glob w) (hl : l.length ≤ 1048576) :
    Calls Tryz.prog 157 #[.string (sB l)] w fun (r : Ending) w' => ∃ u, r = Ending.returned (.tuple #[u, .bool (relL l).isSome]) ∧ OwnSS 3 22 w' w.heap.size w'.heap.size u ((relL l).getD []) ∧ Below w.heap.size w w' := by
  have HG := hid hG
  by_cases h45 : l = [45]
  · subst h45
    have HR : Hid (relL [45] = some []) := hid rfl
    clear hG
    have hs : sB [45] = { data := #[45] } := rfl
    rw [hs]
    go_enter Tryz.func157, Tryz.ntmps157
    go_wp2
    go_ret2
    exact ⟨_, ret_vbPs (by rw [HR.out]; rfl), by rw [HR.out]; exact OwnSS.nil _ _ _ _ _, Below.refl _ _⟩
  · have HR : Hid (relL l = relK (splC l) (splC l).length) := hid (by unfold relL; rw [if_neg h45])
    have hne : ¬ (sB l).toList = [45] := by rw [sB_toList]; exact h45
    have hne2 : ((sB l).toList == [45]) = false := by rw [beq_eq_false_iff_ne]; exact hne
    have HSp := hid (splitN_any l w hG hl)
    have hlen := splC_length l
    have HPart := hid (fun j hj => splC_part l (j := j) hj)
    obtain ⟨ps, hps⟩ : ∃ ps, splC l = ps := ⟨_, rfl⟩
    rw [hps] at HR HSp hlen HPart
    obtain ⟨s, hs⟩ : ∃ s, sB l = s := ⟨_, rfl⟩
    rw [hs] at hne hne2 HSp ⊢
    clear hG h45 hps hs
    go_enter Tryz.func157, Tryz.ntmps157
    go_wp2_with fail
    clear hne hne2
    refine HSp.out.mono ?_
    rintro e w1 ⟨u, rfl, hu, hb⟩
    have HU := hid hu
    have HB := hid hb
    obtain ⟨uA, uc, rfl, -⟩ := hu
    clear hb
    go_wp2
    go_loopw [4, 19] (fun q i wr => ∃ (k : Nat) (ls : List (List Int)), k ≤ ps.length ∧ i = .int .i64 k ∧ Hid (relK ps k = some ls) ∧ ls.length = k ∧ OwnSS 3 22 wr w1.heap.size wr.heap.size q ls ∧ Below w1.heap.size w1 wr) (fun _ i _ => ps.length - (intOf i).toNat)
    case atStart => exact ⟨0, [], Nat.zero_le _, rfl, hid rfl, rfl, OwnSS.nil _ _ _ _ _, Below.refl _ _⟩
    case round =>
      obtain ⟨k, ls, hk, rfl, HK, hlk, ho, hb⟩ := hrel
      have HO := hid ho
      have Hb := hid hb
      have hz := hb.size
      obtain ⟨oA, oc, rfl, -⟩ := ho.rows
      rw [hlk] at ho HO ⊢
      have HO := hid ho
      clear ho hb
      by_cases hlt : k < ps.length
      · obtain ⟨A, c, hsh, hcs⟩ := HU.out
        injection hsh with h1 h2 h3
        subst h1
        obtain ⟨b, o, rfl, hbl, hc⟩ := hcs k hlt
        have hcell := (Hb.out.cell (p := ⟨b, o + k, none⟩) hbl).trans hc
        have hpl := HPart.out k hlt
        have HYes := hid (fun r (hr : rdP (ps.getD k []) = some r) => relK_yes HK.out hr)
        have HNo := hid (fun (hr : rdP (ps.getD k []) = none) => relK_none (relK_no HK.out hr) ps.length (by omega))
        obtain ⟨p, hp⟩ : ∃ p, ps.getD k [] = p := ⟨_, rfl⟩
        rw [hp] at hcell hpl HYes HNo
        have hc1 := (cutL_length 60 p).1
        have hc2 := (cutL_length 60 p).2
        have HG1 := hid ((HG.out.later HB.out).later Hb.out)
        have HLK := hid hlk
        clear hcs hc h2 h3 hp hlk
        go_wp2_with fail
        clear hcell
        refine (cut_any 60 p _ HG1.out (by omega)).mono ?_
        rintro e w2 ⟨rfl, hb2⟩
        have HO2 := hid (HO.out.below hb2)
        have Hb2 := hid (below_to Hb.out hb2)
        have HG2 := hid (HG1.out.later hb2)
        have hz2 := hb2.size
        clear hb2
        go_wp2_with fail
        refine (atoi_any (cutL 60 p).1 _ HG2.out (by omega)).mono ?_
        rintro e w3 ⟨x, ex, rfl, hx, hb3⟩
        have HO3 := hid (HO2.out.below hb3)
        have Hb3 := hid (below_to Hb2.out hb3)
        have HG3 := hid (HG2.out.later hb3)
        have hz3 := hb3.size
        have HX := hid hx
        clear hb3 hx
        go_wp2_with fail
        refine (atoi_any (cutL 60 p).2.1 _ HG3.out (by omega)).mono ?_
        rintro e w4 ⟨y, ey, rfl, hy, hb4⟩
        have HO4 := hid (HO3.out.below hb4)
        have Hb4 := hid (below_to Hb3.out hb4)
        have hz4 := hb4.size
        clear hb4
        rcases HX.out with ⟨hx1, rfl, -⟩ | ⟨hx1, tx, px, rfl⟩
        · rcases hy with ⟨hy1, rfl, -⟩ | ⟨hy1, ty, py, rfl⟩
          · have HE := hid (HYes.out _ (rdP_ok hx1 hy1))
            have HOw := hid (OwnI.two 3 w4 x y w1.heap.size (by omega))
            clear hx1 hy1
            go_wp2_with (at_builtin; refine wpList_append_row (w := w4.alloc (.cells #[.int .i64 x, .int .i64 y] 3)) rfl _ _ 163 22 3 rfl Tryz.underlying163 Tryz.info22 (by decide) w1.heap.size wr.heap.size _ _ ls [x, y] rfl (HO4.out.alloc _) HOw.out (fun b hb => by simp only [Value.ownBlock, Option.some.injEq] at hb; omega) rfl (by show Value.slice (some ⟨w4.heap.size + 1, 0, none⟩) 1 1 = _; simp) (by have := HLK.out; omega) (by simp; omega) (by simp; omega) ?_; rintro u5 w5 ho5 hb5)
            go_roundw
            case rel => exact ⟨k + 1, _, by omega, by go_num, HE, by simp [HLK.out], ho5, (Hb4.out.trans ((Below.refl _ _).alloc (by omega) _)).trans hb5⟩
            case measure => simp [intOf]; omega
          · have HE := hid (HNo.out (rdP_no2 hy1))
            clear hx1 hy1
            go_wp2
            go_ret2
            exact ⟨_, ret_vbPs (by rw [HR.out, HE.out]; rfl), by rw [HR.out, HE.out]; exact OwnSS.nil _ _ _ _ _, below_to HB.out Hb4.out⟩
        · have HE := hid (HNo.out (rdP_no1 hx1))
          clear hx1 hy
          go_wp2
          go_ret2
          exact ⟨_, ret_vbPs (by rw [HR.out, HE.out]; rfl), by rw [HR.out, HE.out]; exact OwnSS.nil _ _ _ _ _, below_to HB.out Hb4.out⟩
      · obtain rfl : k = ps.length := by omega
        have HE : Hid (relL l = some ls) := hid (HR.out.trans HK.out)
        have hBz := HB.out.size
        go_wp2
        go_ret2
        exact ⟨_, ret_vbPs (by rw [HE.out]; rfl), by rw [HE.out]; exact HO.out.monoBP hBz, below_to HB.out Hb.out⟩
end Go.Proofs.YtbmhaamenjhjfaaGreatDoor
namespace Go.Proofs.YtbmhaamenjhjfaaGreatDoor
open Go.RowKit Go.WideShapes Go.ChangeShapes
set_option linter.unusedVariables false
theorem prI_no1 {l : List UInt8} (h : ∀ v, Lib.atoiAll (cutL 58 l).1 ≠ .ok v) : prI l = none := by
  unfold prI
  split
  · rename_i h1 h2; exact absurd h1 (h _)
  · rfl
theorem prI_no2 {l : List UInt8} (h : relL (cutL 58 l).2.1 = none) : prI l = none := by
  unfold prI
  split
  · rename_i h1 h2; rw [h] at h2; cases h2
  · rfl
theorem prI_at {l : List UInt8} {n : Int} {ls : List (List Int)} (h1 : Lib.atoiAll (cutL 58 l).1 = .ok n) (h2 : relL (cutL 58 l).2.1 = some ls) :
    prI l = if (good (fcL n ls) && decide (ansTX (fcL n ls) = l)) = true then some (fcL n ls) else none := by
  unfold prI
  rw [h1, h2]
  cases hg : good (fcL n ls)
  · simp [hg]
  · simp [hg, ansTX_yes hg]
theorem prI_no3 {l : List UInt8} {n : Int} {ls : List (List Int)} (h1 : Lib.atoiAll (cutL 58 l).1 = .ok n) (h2 : relL (cutL 58 l).2.1 = some ls) (h : good (fcL n ls) = false) : prI l = none := by
  rw [prI_at h1 h2, h]; rfl
theorem prI_no4 {l : List UInt8} {n : Int} {ls : List (List Int)} (h1 : Lib.atoiAll (cutL 58 l).1 = .ok n) (h2 : relL (cutL 58 l).2.1 = some ls) (h : ansTX (fcL n ls) ≠ l) : prI l = none := by
  rw [prI_at h1 h2, decide_eq_false h, Bool.and_false]; rfl
theorem prI_yes {l : List UInt8} {n : Int} {ls : List (List Int)} (h1 : Lib.atoiAll (cutL 58 l).1 = .ok n) (h2 : relL (cutL 58 l).2.1 = some ls) (hg : good (fcL n ls) = true) (h : ansTX (fcL n ls) = l) : prI l = some (fcL n ls) := by
  rw [prI_at h1 h2, hg, decide_eq_true h]; rfl
set_option maxRecDepth 100000 in
set_option maxHeartbeats 3200000 in
theorem implParsePoset_any (l : List UInt8) (w : World) (hG : Glob w) (hl : l.length ≤ 1048576) :
    Calls Tryz.prog 99 #[.string (sB l)] w fun (r : Ending) w' => ∃ q, r = Ending.returned (.tuple #[.agg #[q], .bool (prI l).isSome]) ∧ OwnI 3 w' w.heap.size q ((prI l).getD []) ∧ Below w.heap.size w w' := by
  have HL := hid hl
  have hc1 := (cutL_length 58 l).1
  have hc2 := (cutL_length 58 l).2
  have HZ0 := hid (Blk.new w 28 #[.slice none 0 0])
  have HB0 := hid (below_alloc (Below.refl _ w) (.cells #[.slice none 0 0] 28))
  have HG0 := hid (hG.later (below_alloc (Below.refl _ w) (.cells #[.slice none 0 0] 28)))
  clear hG
  go_enter Tryz.func99, Tryz.ntmps99
  go_wp2_with fail
  refine (cut_any 58 l _ HG0.out hl).mono ?_
  rintro e w1 ⟨rfl, hb⟩
  have HZ1 := hid (HZ0.out.below hb HZ0.out.lt)
  have HB1 := hid (below_to HB0.out hb)
  have HG1 := hid (HG0.out.later hb)
  clear hb
  go_wp2_with fail
  refine (atoi_any (cutL 58 l).1 _ HG1.out (by omega)).mono ?_
  rintro e w2 ⟨n, ex, rfl, hx, hb⟩
  have HZ2 := hid (HZ1.out.below hb HZ1.out.lt)
  have HB2 := hid (below_to HB1.out hb)
  have HG2 := hid (HG1.out.later hb)
  have HX := hid hx
  clear hb hx
  go_wp2_with fail
  refine (relationsIn_any (cutL 58 l).2.1 _ HG2.out (by omega)).mono ?_
  rintro e w3 ⟨u, rfl, ho, hb⟩
  have HZ := hid (HZ2.out.below hb HZ2.out.lt)
  have HB := hid (below_to HB2.out hb)
  have HO := hid ho
  obtain ⟨uA, un, uc, rfl⟩ := ho.shape3
  have z1 := HZ.out.cell 0
  have z2 := HZ.out.frozen 0
  have z3 := HZ.out.lt
  have hz3 := HB.out.size
  have HS := hid (relL_small (cutL 58 l).2.1)
  clear hb ho HZ0 HZ1 HZ2 HB0 HB1 HB2 HG0 HG1 HG2
  rcases HX.out with ⟨hx1, rfl, hwf⟩ | ⟨hx1, tx, px, rfl⟩
  · cases hr : relL (cutL 58 l).2.1 with
    | none =>
      have HE := hid (prI_no2 hr)
      clear hr hx1 hwf
      go_wp2
      refine bodyPost_ret (v := .tuple #[.agg #[.slice none 0 0], .bool false]) (by simp [results, Tryz.results99, go_sem, z1]) rfl ⟨_, by rw [HE.out]; rfl, by rw [HE.out]; exact OwnI.nil _ _ _, ?_⟩
      exact HB.out.setCell (p := ⟨w.heap.size, 0, none⟩) (Nat.le_refl _) _
    | some ls =>
      have HO2 : Hid (IntsSS w3 (.slice uA un uc) ls) := hid (by have := HO.out.ints; rw [hr] at this; exact this)
      have HS2 : Hid (SSmall ls) := hid (by have := HS.out; rw [hr] at this; exact this)
      have HN3 := hid (fun h => prI_no3 (n := n) hx1 hr h)
      have HN4 := hid (fun h => prI_no4 (n := n) hx1 hr h)
      have HYs := hid (fun h h' => prI_yes (n := n) hx1 hr h h')
      have Hwf := hid hwf
      clear hr hx1 hwf HO HS HX
      go_wp2_with fail
      refine (implFromCovers_any n _ ls _ Hwf.out HO2.out HS2.out).mono ?_
      rintro e w4 ⟨q, rfl, hq, hql, hb⟩
      have HZ4 := hid (HZ.out.below hb HZ.out.lt)
      have HB4 := hid (below_to HB.out hb)
      have hz4 := hb.size
      have HQ := hid hq
      obtain ⟨qA, qn, qc, rfl⟩ := hq.shape3
      obtain ⟨xs, hxs⟩ : ∃ xs, fcL n ls = xs := ⟨_, rfl⟩
      rw [hxs] at HN3 HN4 HYs HQ hql
      have HBx := hid (Blk.newAt w4 28 #[.slice qA qn qc] w4.heap.size rfl)
      clear hb hq hxs z1 z2 z3 HO2 HS2
      have HBl := hid (below_alloc (Below.refl _ w4) (.cells #[.slice qA qn qc] 28))
      have HQb := hid (HQ.out.below HBl.out)
      go_wp2_with fail
      refine (implPosetText_any _ xs _ HQb.out.ints hql).mono ?_
      rintro e w5 ⟨rfl, hb⟩
      have HZ5 := hid (((HZ4.out.below HBl.out HZ4.out.lt)).below hb (by have := HZ4.out.lt; simp; omega))
      have HBx5 := hid (HBx.out.below hb HBx.out.lt)
      have HB5 := hid (below_to (below_to HB4.out HBl.out) hb)
      have HQ5 := hid (HQb.out.below hb)
      have z1 := HZ5.out.cell 0
      have z2 := HZ5.out.frozen 0
      have b1 := HBx5.out.cell 0
      have b2 := HBx5.out.frozen 0
      have zlt := HZ5.out.lt
      clear hb
      by_cases hg : good xs = true
      · by_cases ht : ansTX xs = l
        · have HE := hid (HYs.out hg ht)
          rw [hg, ht]
          go_wp2
          refine bodyPost_ret (v := .tuple #[.agg #[.slice qA qn qc], .bool true]) (by simp [results, Tryz.results99, go_sem, z1]) rfl ⟨_, by rw [HE.out]; rfl, ?_, ?_⟩
          · rw [HE.out]
            refine (HQ5.out.grown (grown_setCell (g := w.heap.size) (World.grownBy.refl _ _) 0 _) ?_).mono hz3
            exact HQ5.out.apart (.inl HZ.out.lt)
          · exact HB5.out.setCell (p := ⟨w.heap.size, 0, none⟩) (Nat.le_refl _) _
        · have HE := hid (HN4.out ht)
          have hne : ((sB (ansTX xs)).toList == (sB l).toList) = false := by rw [sB_toList, sB_toList, beq_eq_false_iff_ne]; exact ht
          rw [hg]
          go_wp2
          refine bodyPost_ret (v := .tuple #[.agg #[.slice none 0 0], .bool false]) (by simp [results, Tryz.results99, go_sem, z1]) rfl ⟨_, by rw [HE.out]; rfl, by rw [HE.out]; exact OwnI.nil _ _ _, ?_⟩
          exact HB5.out.setCell (p := ⟨w.heap.size, 0, none⟩) (Nat.le_refl _) _
      · have HE := hid (HN3.out (by simpa using hg))
        have hg2 : good xs = false := by simpa using hg
        rw [hg2]
        go_wp2
        refine bodyPost_ret (v := .tuple #[.agg #[.slice none 0 0], .bool false]) (by simp [results, Tryz.results99, go_sem, z1]) rfl ⟨_, by rw [HE.out]; rfl, by rw [HE.out]; exact OwnI.nil _ _ _, ?_⟩
        exact HB5.out.setCell (p := ⟨w.heap.size, 0, none⟩) (Nat.le_refl _) _
  · have HE := hid (prI_no1 hx1)
    clear hx1
    go_wp2
    refine bodyPost_ret (v := .tuple #[.agg #[.slice none 0 0], .bool false]) (by simp [results, Tryz.results99, go_sem, z1]) rfl ⟨_, by rw [HE.out]; rfl, by rw [HE.out]; exact OwnI.nil _ _ _, ?_⟩
    exact HB.out.setCell (p := ⟨w.heap.size, 0, none⟩) (Nat.le_refl _) _
end Go.Proofs.YtbmhaamenjhjfaaGreatDoor
namespace Go.Proofs.YtbmhaamenjhjfaaGreatDoor
open Go.RowKit Go.WideShapes Go.ChangeShapes
set_option linter.unusedVariables false
theorem splR_part (c : UInt8) (l : List UInt8) : ∀ p ∈ splR c l, p.length ≤ l.length := by
  induction l with
  | nil => intro p hp; simp [splR] at hp; subst hp; exact Nat.le_refl _
  | cons b l ih =>
    unfold splR
    intro p hp
    split at hp
    · rw [List.mem_cons] at hp
      rcases hp with rfl | hp
      · exact Nat.zero_le _
      · have := ih p hp; simp; omega
    · split at hp
      · simp at hp; subst hp; simp
      · rename_i h t e
        rw [e] at ih
        rw [List.mem_cons] at hp
        rcases hp with rfl | hp
        · have := ih h (by simp); simp; omega
        · have := ih p (by simp [hp]); simp; omega
theorem splitL_part (c : UInt8) (l : List UInt8) (j : Nat) : ((splitL c l).getD j []).length ≤ l.length := by
  rcases Nat.lt_or_ge j (splitL c l).length with h | h
  · rw [splitL_eq] at h ⊢
    exact splR_part c l _ (by simp [List.getD, h])
  · simp [List.getD, h]
theorem splitL_length (c : UInt8) (l : List UInt8) : (splitL c l).length ≤ l.length + 1 := by rw [splitL_eq]; exact splR_length c l
theorem selK_none {ps : List (List UInt8)} {k : Nat} (h : selK ps k = none) (j : Nat) (hj : k ≤ j) : selK ps j = none := by
  induction j with
  | zero => have : k = 0 := by omega
            subst this; exact h
  | succ j ih =>
    by_cases e : k = j + 1
    · subst e; exact h
    · rw [selK, ih (by omega)]; rfl
theorem selK_yes {ps : List (List UInt8)} {k : Nat} {ls : List (List Int)} (h : selK ps k = some ls) (hl : ls.length ≠ 100) (h2 : (splitL 60 (ps.getD k [])).length = 2) : selK ps (k + 1) = some (ls ++ [[readL ((splitL 60 (ps.getD k [])).getD 0 []), readL ((splitL 60 (ps.getD k [])).getD 1 [])]]) := by
  rw [selK, h, Option.bind_some, if_neg hl, rdS, if_pos h2]; rfl
theorem selK_no1 {ps : List (List UInt8)} {k : Nat} {ls : List (List Int)} (h : selK ps k = some ls) (hl : ls.length = 100) : selK ps (k + 1) = none := by
  rw [selK, h, Option.bind_some, if_pos hl]
theorem selK_no2 {ps : List (List UInt8)} {k : Nat} {ls : List (List Int)} (h : selK ps k = some ls) (h2 : (splitL 60 (ps.getD k [])).length ≠ 2) : selK ps (k + 1) = none := by
  rw [selK, h, Option.bind_some, rdS, if_neg h2]; split <;> rfl
theorem selK_length {ps : List (List UInt8)} (k : Nat) : ∀ ls, selK ps k = some ls → ls.length = k ∧ k ≤ 100 ∧ ∀ r ∈ ls, r.length = 2 := by
  induction k with
  | zero => intro ls h; simp only [selK, Option.some.injEq] at h; subst h; exact ⟨rfl, by omega, fun r hr => by cases hr⟩
  | succ k ih =>
    intro ls h
    cases hq : selK ps k with
    | none => rw [selK, hq] at h; cases h
    | some q =>
      obtain ⟨a, b, c⟩ := ih q hq
      by_cases h100 : q.length = 100
      · rw [selK_no1 hq h100] at h; cases h
      · by_cases h2 : (splitL 60 (ps.getD k [])).length = 2
        · rw [selK_yes hq h100 h2, Option.some.injEq] at h
          subst h
          refine ⟨by simp [a], by omega, fun x hx => ?_⟩
          rw [List.mem_append, List.mem_singleton] at hx
          rcases hx with hx | rfl
          · exact c x hx
          · rfl
        · rw [selK_no2 hq h2] at h; cases h
theorem okFC_bad {n : Int} {ls : List (List Int)} (h : okFC n ls = false) : good (fcL n ls) = false := by rw [fcL_no h]; decide
theorem okFC_good {n : Int} {ls : List (List Int)} (h : okFC n ls = true) : good (fcL n ls) = true := by
  have h' := h
  simp only [okFC, Bool.and_eq_true, decide_eq_true_eq] at h'
  obtain ⟨m, rfl⟩ := Int.eq_ofNat_of_zero_le (show 0 ≤ n by omega)
  rw [fcL_yes h]
  refine good_from (okPr_up fun j hj => ?_) (by omega) (by omega)
  have := List.all_eq_true.1 h'.2.2 (ls.getD j []) (by simp [List.getD, hj])
  simpa using this
theorem prS_no1 {l : List UInt8} (h : (splitL 58 l).length ≠ 2) : prS l = none := by unfold prS; rw [if_neg h]
theorem prS_no2 {l : List UInt8} (h : selL ((splitL 58 l).getD 1 []) = none) : prS l = none := by
  unfold prS; rw [h]; split <;> rfl
theorem prS_at {l : List UInt8} {ls : List (List Int)} (h1 : (splitL 58 l).length = 2) (h2 : selL ((splitL 58 l).getD 1 []) = some ls) {xs : List Int} (hx : fcL (readL ((splitL 58 l).getD 0 [])) ls = xs) :
    prS l = if (good xs && decide (textL xs.length (covPS xs xs.length xs.length) = l)) = true then some xs else none := by
  unfold prS
  rw [if_pos h1, h2]
  simp only [hx]
theorem readL_wf (l : List UInt8) : (Lit.int .i64 (readL l)).wf = true := by
  unfold readL
  split
  · rename_i h
    simp only [readOk, Bool.and_eq_true, decide_eq_true_eq] at h
    have h1 := digN_lt (l := l) l.length (fun j hj => by
      have := List.all_eq_true.1 h.2.2 (l.getD j 0) (by simp [List.getD, hj])
      exact this)
    have h2 : 10 ^ l.length ≤ 10 ^ 6 := Nat.pow_le_pow_right (by omega) h.1.2
    have e1 : IntKind.i64.min = -9223372036854775808 := rfl
    have e2 : IntKind.i64.max = 9223372036854775807 := rfl
    simp [Lit.wf]; omega
  · rfl
end Go.Proofs.YtbmhaamenjhjfaaGreatDoor
