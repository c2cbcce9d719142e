/- Orbits of arrays: the program. -/
import Derived.Test.YtgepbekdgocnpaaAo
import Derived.Test.YtgepbekdgocnpaaAq
import Derived.Test.YtgepbekdgocnpaaArM
namespace Go.Proofs.Ytgepbekdgocnpaa
open Go.RowKit Go.WideShapes Go.ChangeShapes
set_option linter.unusedVariables false

/-- 'rows = append(rows, row)', all of the call's own, the row newer than what the slice has -/
theorem wpList_append_rowG {P : Program} {w W : World} {ops : Array Oper} {rest : List Oper} {o : Oper} {ac : Act} {Q : Exit → Act → World → Prop} (hgd : o.guard = none) (s x : Operand) (t ts ti : TypeId)
    (ho : o.op = .call { callee := .builtin .append, args := #[s, x], argTypes := #[t, t] }) (ht : P.underlying t = some (.slice ts)) (hinfo : (P.info? ts).map (fun i => (i.zero, i.size, i.bytes)) = some (some (.slice none 0 0), 1, 24))
    (hne : ti ≠ ts) (B E : Nat) (v u : Value) (ls : List (List Int)) (l : List Int) (hs : ac.eval s = v) (hown : OwnSS ti ts w B E v ls) (hu : OwnI ti w B u l) (huE : ∀ k, u.ownBlock = some k → E ≤ k)
    (hW : W = w.alloc (.cells #[u] ts)) (hx : ac.eval x = .slice (some ⟨w.heap.size, 0, none⟩) 1 1) (hlen : ls.length < 1048576) (hB : B ≤ w.heap.size) (hE : E ≤ w.heap.size)
    (h : ∀ v' w', OwnSS ti ts w' B w'.heap.size v' (ls ++ [l]) → OwnI ti w' B u l → Below B w w' → (w.alloc (.cells #[u] ts)).grownBy w' v.ownBlock → wpList P ops Q rest (ac.put o.dst v') w') : wpList P ops Q (o :: rest) ac W := by
  subst hW
  obtain ⟨i0, hi, hz0, hz1, hz2⟩ := info_parts hinfo
  obtain ⟨us, h1, h2, h3, h4, h5⟩ := hown
  obtain ⟨uA, un, uc, hush⟩ := hu.shape3
  have hulen : (un, uc, uA) = (un, uc, uA) := rfl
  refine wpList_append_own _ hgd s x t ho B ts i0 (.slice none 0 0) 1 24 ht hi hz0 hz1 hz2 rfl (by decide) v ls.length us hs (h2.alloc _) ⟨w.heap.size, 0, none⟩ 1 1 [u] hx rfl ?_ ?_ ?_ ?_ ?_ ?_
  · intro j y hj
    match j, hj with
    | 0, hj =>
      simp only [List.getElem?_cons_zero, Option.some.injEq] at hj
      subst hj
      exact (Blk.new w ts #[u]).cell 0
    | j + 1, hj => simp at hj
  · intro y hy
    simp only [List.mem_singleton] at hy
    subst hy; subst hush; rfl
  · unfold maxLen; omega
  · omega
  · simp; omega
  · intro v' w' h6 h7 _
    have hb : Below B w (w.alloc (.cells #[u] ts)) := (Below.refl _ _).alloc hB _
    have hB2 : Below B w w' := hb.grown h7 (by simp; omega) fun k hk => (h2.lt k hk).1
    have hsz : w.heap.size ≤ w'.heap.size := hB2.size
    refine h v' w' ⟨us ++ [u], by simp [h1], by simpa using h6, fun k hk => ?_, ?_, ?_⟩ ((hu.alloc _).grown h7 (own_apart hne hu h2)) hB2 h7
    · exact (World.ownsRow.lt h6 k hk).2
    · intro j y m hy hm
      rw [List.getElem?_append] at hy hm
      by_cases hj : j < ls.length
      · rw [if_pos (by omega)] at hy
        rw [if_pos hj] at hm
        obtain ⟨a, b⟩ := h4 j y m hy hm
        exact ⟨(a.alloc _).grown h7 (own_apart hne a h2), fun k hk => by have := b k hk; omega⟩
      · rw [if_neg (by omega)] at hy
        rw [if_neg hj] at hm
        rcases Nat.eq_zero_or_pos (j - ls.length) with h0 | h0
        · rw [h0] at hm
          rw [h1, h0] at hy
          simp only [List.getElem?_cons_zero, Option.some.injEq] at hy hm
          subst hy; subst hm
          exact ⟨(hu.alloc _).grown h7 (own_apart hne hu h2), fun k hk => by have := (hu.blockLt k hk).2; omega⟩
        · rw [List.getElem?_eq_none (by simp; omega)] at hm; cases hm
    · have old : ∀ i y, i < us.length → us[i]? = some y → (y.ownBlock = none ∨ y.ownBlock ≠ u.ownBlock) := by
        intro i y hi hy
        have hl : ls[i]? = some ls[i] := List.getElem?_eq_getElem (by omega)
        obtain ⟨_, b⟩ := h4 i y _ hy hl
        rcases hq : y.ownBlock with _ | k
        · exact .inl rfl
        · refine .inr fun e => ?_
          have c1 := b k hq
          have c2 := huE k e.symm
          omega
      intro i j y y' hij hy hy'
      rw [List.getElem?_append] at hy hy'
      by_cases hi : i < us.length
      · rw [if_pos hi] at hy
        by_cases hj : j < us.length
        · rw [if_pos hj] at hy'
          exact h5 i j y y' hij hy hy'
        · rw [if_neg hj] at hy'
          rcases Nat.eq_zero_or_pos (j - us.length) with h0 | h0
          · rw [h0] at hy'
            simp only [List.getElem?_cons_zero, Option.some.injEq] at hy'
            subst hy'
            exact old i y hi hy
          · rw [List.getElem?_eq_none (by simp; omega)] at hy'; cases hy'
      · rw [if_neg hi] at hy
        rcases Nat.eq_zero_or_pos (i - us.length) with h0 | h0
        · rw [h0] at hy
          simp only [List.getElem?_cons_zero, Option.some.injEq] at hy
          subst hy
          by_cases hj : j < us.length
          · rw [if_pos hj] at hy'
            rcases old j y' hj hy' with h8 | h8
            · rcases hq : u.ownBlock with _ | k
              · exact .inl rfl
              · rw [h8]; exact .inr (by simp)
            · exact .inr (fun e => h8 e.symm)
          · rw [if_neg hj] at hy'
            rcases Nat.eq_zero_or_pos (j - us.length) with h0' | h0'
            · omega
            · rw [List.getElem?_eq_none (by simp; omega)] at hy'; cases hy'
        · rw [List.getElem?_eq_none (by simp; omega)] at hy; cases hy

theorem Blk.grownA {w w' : World} {g : Nat} {t : TypeId} {cs : Array Value} {row : Option Nat} (h : Blk w g t cs) (hg : w.grownBy w' row) (hne : row ≠ some g) : Blk w' g t cs := (hg.block g h.lt hne.symm).trans h
theorem OwnSS.ne_blk {ti ts t : TypeId} {w : World} {B E q : Nat} {v : Value} {ls : List (List Int)} {cs : Array Value} (h : OwnSS ti ts w B E v ls) (hq : Blk w q t cs) (hne : ts ≠ t) : v.ownBlock ≠ some q := by
  obtain ⟨us, h1, h2, -⟩ := h
  intro e
  rcases h2.2 with ⟨rfl, _⟩ | ⟨g, cap, cur, rfl, _, hh, _⟩
  · simp [Value.ownBlock] at e
  · simp only [Value.ownBlock, Option.some.injEq] at e
    subst e
    have hq2 : w.heap[g]? = some (.cells cs t (0, 0)) := hq
    rw [hh] at hq2
    injection hq2 with hq3
    injection hq3 with _ hq4
    exact hne hq4
def ms1 (q : Value) : Nat := match q with | .slice _ m _ => 1001 - m | _ => 0
set_option maxRecDepth 100000 in
set_option maxHeartbeats 6400000 in
theorem implArrayOrbit_any (v : Value) (xs : List Int) (u : Value) (f : List Int) (b : Int) (w : World) (hv : Ints w v xs) (hl : xs.length ≤ 1048576) (hu : Ints w u f) (hm : f.length ≤ 1048576) (wf : (Lit.int .i64 b).wf = true) :
    Calls Try.prog 34 #[.agg #[v], u, .int .i64 b] w fun (r : Ending) w' => ∃ q, r = Ending.returned (.tuple #[q, .bool (okAO xs f b)]) ∧ OwnSS 3 22 w' w.heap.size w'.heap.size q (ansAO xs f b) ∧ SSmall (ansAO xs f b) ∧ Below w.heap.size w w' := by
  have HV := hid hv
  have HU := hid hu
  have HFo := hid (fun W hW hU => fillingOf_any v u xs f b W hW hU hl hm wf)
  have HL := hid (ansAO_small xs f b)
  clear hv hu wf
  cases hq : okAr xs f b
  · have HO := hid (okAO_no1 hq)
    have HN := hid (ansAO_no HO.out)
    rw [hq] at HFo
    simp only [Bool.false_eq_true, if_false] at HFo
    have HCs := hid (fc_size [] 0)
    have HCo := hid (fc_one [] 0)
    obtain ⟨Z, hZ⟩ : ∃ Z, fc [] 0 = Z := ⟨_, rfl⟩
    rw [hZ] at HCs HCo HFo
    clear hq hZ
    go_enter Try.func34, Try.ntmps34
    have HB := hid (below_alloc (Below.refl _ w) (.cells #[v] 28))
    have A0 := hid (At.newAt w v 28 w.heap.size (by simp))
    have ebox0 := A0.out.1
    go_wp2_with fail
    clear ebox0
    refine (HFo.out _ (HV.out.below HB.out) (HU.out.below HB.out)).mono ?_
    rintro e' w1 ⟨rfl, hb⟩
    replace HB := hid (below_to HB.out hb)
    have HA1 := hid (A0.out.below hb)
    have hz1 := HB.out.size
    have hx1 := HA1.out.2
    clear hb A0
    go_wp2_with (first | (refine fill_stN rfl _ _ rfl _ Z _ rfl rfl (Blk.new _ _ _) (fc_size [] 0) HCs.out HCo.out ?_; intro W5 HF5 HW5; have HB5 : Hid (Below w.heap.size w W5) := hid ((below_alloc HB.out _).trans (HW5.out.mono hz1)); have HA5 : Hid (At W5 w.heap.size v) := hid ((HA1.out.alloc _).under HW5.out hx1); have hbox5 := HA5.out.1))
    go_ret2
    exact ⟨_, ret_vbA HO.out.symm, by rw [HN.out]; exact OwnSS.nil _ _ _ _ _, HL.out, HB5.out⟩
  · have HAr := hid hq
    rw [hq] at HFo
    simp only [if_true] at HFo
    have HCs := hid (fc_size f b)
    have HCo := hid (fc_one f b)
    have HQ := hid hq
    obtain ⟨hg, b0, b1, hr⟩ := okAr_all hq
    have hl10 := (good_length hg).2
    have HG := hid hg
    have HR := hid hr
    obtain ⟨C0, hC⟩ : ∃ C, fc f b = C := ⟨_, rfl⟩
    have HC := hid hC
    rw [hC] at HCs HCo HFo
    clear hq hC hg hr
    have HRk := hid (fun k => itA_rise HG.out HR.out k)
    have HWr : Hid (∀ j, j < (dnW xs.length).length → 0 ≤ (dnW xs.length).getD j 0 ∧ (dnW xs.length).getD j 0 < xs.length) := hid (fun j hj => by rw [dnW_len] at hj; exact dnW_rng hj)
    have HTg0 := hid (fun W k qw hW hT => toggled_any v qw xs (itA xs b f k) (dnW xs.length) b W hW hT HG.out (HRk.out k) b0 b1 HWr.out (by rw [dnW_len]; omega))
    have HLs0 := hid (fun W k hW => list_any v xs (itA xs b f k) b W hW hl10 (HRk.out k).len)
    have HNe0 := hid (fun W k => fill_ne W (itA xs b f k) (itA xs b f 0) b (by rw [(HRk.out k).len, (HRk.out 0).len]) (by rw [(HRk.out k).len]; exact hl10))
    obtain ⟨C, hCC⟩ : ∃ C : Nat → Array Value, (fun k => fc (itA xs b f k) b) = C := ⟨_, rfl⟩
    have hCk : ∀ k, fc (itA xs b f k) b = C k := fun k => congrFun hCC k
    have HCss : Hid (∀ k, (C k).size = 11) := hid (fun k => by rw [← hCk]; exact fc_size _ _)
    have HCoo : Hid (∀ k, (C k).all (·.oneCell') = true) := hid (fun k => by rw [← hCk]; exact fc_one _ _)
    have HLs : Hid (∀ W k, Ints W v xs → Calls Try.prog 56 #[.agg (C k), .agg #[v]] W fun (r : Ending) w' => ∃ q, r = Ending.returned q ∧ OwnI 3 w' W.heap.size q (itA xs b f k) ∧ Below W.heap.size W w') := hid (fun W k hW => by rw [← hCk]; exact HLs0.out W k hW)
    have HTg : Hid (∀ W k qw, Ints W v xs → Ints W qw (dnW xs.length) → Calls Try.prog 55 #[.agg (C k), .agg #[v], qw] W fun r w' => r = .returned (.agg (C (k + 1))) ∧ Below W.heap.size W w') := hid (fun W k qw hW hT => by
      have h := HTg0.out W k qw hW hT
      rw [dnW_len, itA_next, hCk, hCk] at h; exact h)
    have HNe : Hid (∀ W k, (binOp .neq 59 (.agg (C k)) (.agg (C 0))).run Try.prog W = .ok (.bool (!(bkA xs b f k))) W) := hid (fun W k => by rw [← hCk, ← hCk]; exact HNe0.out W k)
    rw [show C0 = C 0 from HC.out.symm.trans (hCk 0)] at HFo HCs HCo
    clear hCC hCk HC HTg0 HLs0 HNe0
    go_enter Try.func34, Try.ntmps34
    have HB := hid (below_alloc (Below.refl _ w) (.cells #[v] 28))
    have A0 := hid (At.newAt w v 28 w.heap.size (by simp))
    have ebox0 := A0.out.1
    go_wp2_with fail
    clear ebox0
    refine (HFo.out _ (HV.out.below HB.out) (HU.out.below HB.out)).mono ?_
    rintro e' w1 ⟨rfl, hb⟩
    replace HB := hid (below_to HB.out hb)
    have HA1 := hid (A0.out.below hb)
    have hz1 := HB.out.size
    have hx1 := HA1.out.2
    clear hb A0
    go_wp2_with (first | (refine fill_stN rfl _ _ rfl _ (C 0) _ rfl rfl (Blk.new _ _ _) (fc_size [] 0) HCs.out HCo.out ?_; intro W5 HF5 HW5; have HB5 : Hid (Below w.heap.size w W5) := hid ((below_alloc HB.out _).trans (HW5.out.mono hz1)); have HA5 : Hid (At W5 w.heap.size v) := hid ((HA1.out.alloc _).under HW5.out hx1); have hbox5 := HA5.out.1))
    refine (downWord_any v xs _ (HV.out.below HB5.out) hl10).mono ?_
    rintro e6 w6 ⟨qw, rfl, ho6, hb6⟩
    have HQ6 := hid ho6
    have HF6 := hid (HF5.out.below hb6 HF5.out.lt)
    have HA6 := hid (HA5.out.below hb6)
    have HB6 := hid (below_to HB5.out hb6)
    have hbox6 := HA6.out.1
    have hzz := HB6.out.size
    clear ho6 hb6 hbox5
    go_wp2_with (refine fill_ldW rfl _ rfl _ rfl _ HF6.out (HCss.out 0) ?_)
    clear hbox6
    refine (HLs.out w6 0 (HV.out.below HB6.out)).mono ?_
    rintro e7 w7 ⟨q7, rfl, ho7, hb7⟩
    obtain ⟨qA, qn, qc, rfl⟩ := ho7.shape3
    have HS8 := hid (OwnSS.single (ts := 22) ho7 hb7.size)
    have Hb8 := hid (below_alloc hb7 (.cells #[.slice qA qn qc] 22))
    have HSz : Hid ((w7.alloc (.cells #[.slice qA qn qc] 22)).heap.size = w7.heap.size + 1) := hid (by simp)
    have HF8 := hid (HF6.out.below Hb8.out HF6.out.lt)
    have HA8 := hid (HA6.out.below Hb8.out)
    have hbox8 := HA8.out.1
    have HR1 : Hid (rowsN (itA xs b f) 1 = [f]) := hid rfl
    clear ho7 hb7
    go_wp2_with (refine fill_ldW rfl _ rfl _ rfl _ HF8.out (HCss.out 0) ?_)
    clear hbox8
    refine (HTg.out _ 0 qw ((HV.out.below HB6.out).below Hb8.out) (HQ6.out.below Hb8.out).ints).mono ?_
    rintro e9 w9 ⟨rfl, hb9⟩
    have HS9 := hid (HS8.out.below hb9)
    have Hb9 := hid (below_to Hb8.out hb9)
    have HZ9 := hid hb9.size
    have hz9 := Hb9.out.size
    clear hb9
    go_wp2_with (refine fill_stN rfl _ _ rfl _ (C (0 + 1)) _ rfl rfl (Blk.new _ _ _) (fc_size [] 0) (HCss.out (0 + 1)) (HCoo.out (0 + 1)) ?_; intro w10 HF10 HW10)
    have HW9 : Hid (Below w9.heap.size w9 w10) := hid ((below_alloc (Below.refl _ w9) _).trans HW10.out)
    have HS10 := hid (HS9.out.below HW9.out)
    have Hb10 := hid (below_to Hb9.out HW9.out)
    simp only [Act.put]
    go_loopw [11, 12] (fun out p wr => ∃ k E g2 : Nat, 1 ≤ k ∧ k ≤ 1000 ∧ p = .pointer (some ⟨g2, 0, none⟩) ∧ OwnSS 3 22 wr w6.heap.size E out (rowsN (itA xs b f) k) ∧ Blk wr g2 59 (C k) ∧ E ≤ g2 ∧ w6.heap.size ≤ g2 ∧ Hid (∀ j, 1 ≤ j → j < k → bkA xs b f j = false) ∧ Below w6.heap.size w6 wr) (fun out _ _ => ms1 out)
    case atStart => exact ⟨1, w7.heap.size + 1, w9.heap.size, Nat.le_refl _, by omega, rfl, by rw [HR1.out]; exact HS10.out, HF10.out, by have h1 := HZ9.out; rw [HSz.out] at h1; exact h1, hz9, hid (fun j a c => by omega), Hb10.out⟩
    case round =>
      clear HS10 HF10 Hb10 HW9 HW10 HS9 Hb9 HZ9 hz9 HS8 Hb8 HF8 HA8 HR1 HSz
      obtain ⟨k, E, g2, hk1, hk, rfl, hS, hF, hE, hg2, HJ, hb⟩ := hrel
      have HS := hid hS
      have HF := hid hF
      have Hb := hid hb
      obtain ⟨oA, oc, rfl, -⟩ := hS.rows
      rw [rowsN_length] at hS ⊢
      have HS := hid hS
      have HFr := hid (HF6.out.below hb HF6.out.lt)
      have HAr2 := hid (HA6.out.below hb)
      have hbox := HAr2.out.1
      have hgl := hF.lt
      have HNk := hid (HNe.out wr k)
      obtain ⟨R, hR⟩ : ∃ R, bkA xs b f k = R := ⟨_, rfl⟩
      have HRk2 := hid hR
      rw [hR] at HNk
      clear hS hF hb hR
      cases R
      · by_cases h5 : k = 1000
        · subst h5
          have HO := hid (okAO_no2 (xs := xs) (f := f) (b := b) (by
            unfold lenA
            refine leastC_none fun j a c => ?_
            by_cases e : j = 1000
            · subst e; exact HRk2.out
            · exact HJ.out j a (by omega)))
          go_wp2_with (first | (refine fill_ldW rfl _ rfl g2 rfl _ HF.out (HCss.out 1000) ?_) | (refine fill_ldW rfl _ rfl w1.heap.size rfl _ HFr.out (HCss.out 0) ?_) | (refine fill_neW rfl _ _ rfl (C 1000) (C 0) true rfl rfl HNk.out ?_; (simp only [Act.put, List.setIfInBounds_toArray, List.set_cons_zero, List.set_cons_succ])))
          go_ret2
          exact ⟨_, ret_vbA HO.out.symm, by rw [ansAO_no HO.out]; exact OwnSS.nil _ _ _ _ _, HL.out, below_to HB6.out Hb.out⟩
        · have h5' : ((k : Int) == 1000) = false := by rw [beq_eq_false_iff_ne]; omega
          have HJ2 : Hid (∀ j, 1 ≤ j → j < k + 1 → bkA xs b f j = false) := hid (fun j a c => by
            by_cases e : j = k
            · subst e; exact HRk2.out
            · exact HJ.out j a (by omega))
          have HRS := hid (rowsN_succ (itA xs b f) k)
          go_wp2_with (first | (refine fill_ldW rfl _ rfl g2 rfl _ HF.out (HCss.out k) ?_) | (refine fill_ldW rfl _ rfl w1.heap.size rfl _ HFr.out (HCss.out 0) ?_) | (refine fill_neW rfl _ _ rfl (C k) (C 0) true rfl rfl HNk.out ?_; (simp only [Act.put, List.setIfInBounds_toArray, List.set_cons_zero, List.set_cons_succ])))
          clear hbox h5'
          refine (HLs.out wr k ((HV.out.below HB6.out).below Hb.out)).mono ?_
          rintro e4 w4 ⟨r4, rfl, ho4, hb4⟩
          obtain ⟨r4A, r4n, r4c, rfl⟩ := ho4.shape3
          have HO4 := hid ho4
          have HS4 := hid (HS.out.below hb4)
          have HF4 := hid (HF.out.below hb4 HF.out.lt)
          have Hb4 := hid (below_to Hb.out hb4)
          have hz4 := hb4.size
          have HOE := hid (fun bb hbb => (ho4.blockLt bb hbb).1)
          clear ho4 hb4
          go_wp2_with (first
            | (at_builtin; refine wpList_append_rowG rfl _ _ 44 22 3 rfl Try.underlying44 Try.info22 (by decide) w6.heap.size E _ _ (rowsN (itA xs b f) k) (itA xs b f k) rfl HS4.out (HO4.out.mono (by have := Hb.out.size; omega)) (fun bb hbb => by have := HOE.out bb hbb; omega) rfl rfl (by rw [rowsN_length]; omega) (by have := Hb4.out.size; omega) (by omega) ?_; rintro u5 w5 ho5 hp5 hb5 hg5; have HS5 := hid ho5; have HF5' : Hid (Blk w5 g2 59 (C k)) := hid ((HF4.out.alloc _).grownA hg5 (HS4.out.ne_blk HF4.out (by decide))); have Hb5 := hid (Hb4.out.trans hb5); obtain ⟨o5A, o5n, o5c, rfl⟩ := ho5.shape3; clear ho5 hp5 hb5 hg5)
            | (refine fill_ldW rfl _ rfl g2 rfl _ HF5'.out (HCss.out k) ?_)
            | (refine fill_stN rfl _ _ rfl _ (C k) _ rfl rfl (Blk.new _ _ _) (fc_size [] 0) (HCss.out k) (HCoo.out k) ?_; intro w8 HF8 HW8; have HW7 : Hid (Below w5.heap.size w5 w8) := hid ((below_alloc (Below.refl _ w5) _).trans HW8.out); have HS8 := hid (HS5.out.below HW7.out); have Hb8 := hid (below_to Hb5.out HW7.out); have hbox8 := (HA6.out.below Hb8.out).1)
            | (refine fill_ldW rfl _ rfl w5.heap.size rfl _ HF8.out (HCss.out k) ?_))
          clear hbox8
          refine (HTg.out w8 k qw ((HV.out.below HB6.out).below Hb8.out) (HQ6.out.below Hb8.out).ints).mono ?_
          rintro e9 w9' ⟨rfl, hb9⟩
          have HS9 := hid (HS8.out.below hb9)
          have HF9 := hid (HF8.out.below hb9 HF8.out.lt)
          have Hb9 := hid (below_to Hb8.out hb9)
          have hz5 := Hb5.out.size
          clear hb9
          go_wp2_with (refine fill_stG rfl _ _ rfl _ (C (k + 1)) _ rfl rfl HF9.out (HCss.out k) (HCss.out (k + 1)) (HCoo.out (k + 1)) ?_; intro w11 HF11 HG11)
          have HT11 : Hid (TurnedIn w5.heap.size (w5.heap.size + 1) w9' w11) := hid (TurnedIn.of_grown HG11.out (fun j hj => by simp only [Option.some.injEq] at hj; omega))
          have HS11 : Hid (OwnSS 3 22 w11 w6.heap.size w5.heap.size (.slice o5A o5n o5c) (rowsN (itA xs b f) (k + 1))) := hid (by rw [HRS.out]; exact HS9.out.turned HT11.out (.inl (Nat.le_refl _)))
          have Hb11 := hid (below_grown Hb9.out HG11.out (fun j hj => by simp only [Option.some.injEq] at hj; omega))
          obtain ⟨o6A, o6c, hsh, -⟩ := HS11.out.rows
          injection hsh with hA5 hn hC5
          rw [rowsN_length] at hn
          subst hn
          clear hA5 hC5
          simp only [Act.put]
          go_roundw
          case rel => exact ⟨k + 1, w5.heap.size, w5.heap.size, by omega, by omega, rfl, HS11.out, HF11.out, Nat.le_refl _, hz5, HJ2, Hb11.out⟩
          case measure => simp [ms1]; omega
      · have hlen := leastC_eq (f := bkA xs b f) (k := k) HJ.out HRk2.out hk1 hk
        have HLen : Hid (lenA xs b f = k) := hid hlen
        have HO := hid (okAO_yes (xs := xs) (f := f) (b := b) HAr.out (by rw [HLen.out]; omega))
        clear hlen
        go_wp2_with (first | (refine fill_ldW rfl _ rfl g2 rfl _ HF.out (HCss.out k) ?_) | (refine fill_ldW rfl _ rfl w1.heap.size rfl _ HFr.out (HCss.out 0) ?_) | (refine fill_neW rfl _ _ rfl (C k) (C 0) false rfl rfl HNk.out ?_; (simp only [Act.put, List.setIfInBounds_toArray, List.set_cons_zero, List.set_cons_succ])))
        go_ret2
        exact ⟨_, ret_vbA HO.out.symm, by rw [ansAO_yes HO.out, HLen.out]; exact (HS.out.monoE (by omega)).monoBR hzz, HL.out, below_to HB6.out Hb.out⟩
end Go.Proofs.Ytgepbekdgocnpaa
