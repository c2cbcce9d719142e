/- Texts RowsL, PrLn, AllL, one behind the other. -/
import Derived.Test.YtpdoheagfjeefaaPkLinearRankedProof01
import Derived.Test.YtpdoheagfjeefaaPkLinearRankedProof13
import Derived.Test.YtpdoheagfjeefaaPkLinearRankedProof15
import Derived.Test.YtpdoheagfjeefaaPkLinearRankedProof16
import Derived.Test.YtpdoheagfjeefaaPkLinearRankedProof23
/- Rows of lists: appended and still known; orbits of promotion, of both sides. -/
namespace Go.Proofs.Ytpdoheagfjeefaa
open Go.RowKit Go.WideShapes Go.ChangeShapes
set_option linter.unusedVariables false

/-- 'rows = append(rows, row)', all of the call's own, the row newer than what the slice has -/
theorem wpList_append_row2 {P : Program} {w W : World} {ops : Array Oper} {rest : List Oper} {o : Oper} {ac : Act} {Q : Exit → Act → World → Prop} (hgd : o.guard = none) (s x : Operand) (t ts ti : TypeId)
    (ho : o.op = .call { callee := .builtin .append, args := #[s, x], argTypes := #[t, t] }) (ht : P.underlying t = some (.slice ts)) (hinfo : (P.info? ts).map (fun i => (i.zero, i.size, i.bytes)) = some (some (.slice none 0 0), 1, 24))
    (hne : ti ≠ ts) (B E : Nat) (v u : Value) (ls : List (List Int)) (l : List Int) (hs : ac.eval s = v) (hown : OwnSS ti ts w B E v ls) (hu : OwnI ti w B u l) (huE : ∀ k, u.ownBlock = some k → E ≤ k)
    (hW : W = w.alloc (.cells #[u] ts)) (hx : ac.eval x = .slice (some ⟨w.heap.size, 0, none⟩) 1 1) (hlen : ls.length < 1048576) (hB : B ≤ w.heap.size) (hE : E ≤ w.heap.size)
    (h : ∀ v' w', OwnSS ti ts w' B w'.heap.size v' (ls ++ [l]) → OwnI ti w' B u l → Below B w w' → wpList P ops Q rest (ac.put o.dst v') w') : wpList P ops Q (o :: rest) ac W := by
  subst hW
  obtain ⟨i0, hi, hz0, hz1, hz2⟩ := info_parts hinfo
  obtain ⟨us, h1, h2, h3, h4, h5⟩ := hown
  obtain ⟨uA, un, uc, hush⟩ := hu.shape3
  have hulen : (un, uc, uA) = (un, uc, uA) := rfl
  refine wpList_append_own _ hgd s x t ho B ts i0 (.slice none 0 0) 1 24 ht hi hz0 hz1 hz2 rfl (by decide) v ls.length us hs (h2.alloc _) ⟨w.heap.size, 0, none⟩ 1 1 [u] hx rfl ?_ ?_ ?_ ?_ ?_ ?_
  · intro j y hj
    match j, hj with
    | 0, hj =>
      simp only [List.getElem?_cons_zero, Option.some.injEq] at hj
      subst hj
      exact (Blk.new w ts #[u]).cell 0
    | j + 1, hj => simp at hj
  · intro y hy
    simp only [List.mem_singleton] at hy
    subst hy; subst hush; rfl
  · unfold maxLen; omega
  · omega
  · simp; omega
  · intro v' w' h6 h7 _
    have hb : Below B w (w.alloc (.cells #[u] ts)) := (Below.refl _ _).alloc hB _
    have hB2 : Below B w w' := hb.grown h7 (by simp; omega) fun k hk => (h2.lt k hk).1
    have hsz : w.heap.size ≤ w'.heap.size := hB2.size
    refine h v' w' ⟨us ++ [u], by simp [h1], by simpa using h6, fun k hk => ?_, ?_, ?_⟩ ((hu.alloc _).grown h7 (own_apart hne hu h2)) hB2
    · exact (World.ownsRow.lt h6 k hk).2
    · intro j y m hy hm
      rw [List.getElem?_append] at hy hm
      by_cases hj : j < ls.length
      · rw [if_pos (by omega)] at hy
        rw [if_pos hj] at hm
        obtain ⟨a, b⟩ := h4 j y m hy hm
        exact ⟨(a.alloc _).grown h7 (own_apart hne a h2), fun k hk => by have := b k hk; omega⟩
      · rw [if_neg (by omega)] at hy
        rw [if_neg hj] at hm
        rcases Nat.eq_zero_or_pos (j - ls.length) with h0 | h0
        · rw [h0] at hm
          rw [h1, h0] at hy
          simp only [List.getElem?_cons_zero, Option.some.injEq] at hy hm
          subst hy; subst hm
          exact ⟨(hu.alloc _).grown h7 (own_apart hne hu h2), fun k hk => by have := (hu.blockLt k hk).2; omega⟩
        · rw [List.getElem?_eq_none (by simp; omega)] at hm; cases hm
    · have old : ∀ i y, i < us.length → us[i]? = some y → (y.ownBlock = none ∨ y.ownBlock ≠ u.ownBlock) := by
        intro i y hi hy
        have hl : ls[i]? = some ls[i] := List.getElem?_eq_getElem (by omega)
        obtain ⟨_, b⟩ := h4 i y _ hy hl
        rcases hq : y.ownBlock with _ | k
        · exact .inl rfl
        · refine .inr fun e => ?_
          have c1 := b k hq
          have c2 := huE k e.symm
          omega
      intro i j y y' hij hy hy'
      rw [List.getElem?_append] at hy hy'
      by_cases hi : i < us.length
      · rw [if_pos hi] at hy
        by_cases hj : j < us.length
        · rw [if_pos hj] at hy'
          exact h5 i j y y' hij hy hy'
        · rw [if_neg hj] at hy'
          rcases Nat.eq_zero_or_pos (j - us.length) with h0 | h0
          · rw [h0] at hy'
            simp only [List.getElem?_cons_zero, Option.some.injEq] at hy'
            subst hy'
            exact old i y hi hy
          · rw [List.getElem?_eq_none (by simp; omega)] at hy'; cases hy'
      · rw [if_neg hi] at hy
        rcases Nat.eq_zero_or_pos (i - us.length) with h0 | h0
        · rw [h0] at hy
          simp only [List.getElem?_cons_zero, Option.some.injEq] at hy
          subst hy
          by_cases hj : j < us.length
          · rw [if_pos hj] at hy'
            rcases old j y' hj hy' with h8 | h8
            · rcases hq : u.ownBlock with _ | k
              · exact .inl rfl
              · rw [h8]; exact .inr (by simp)
            · exact .inr (fun e => h8 e.symm)
          · rw [if_neg hj] at hy'
            rcases Nat.eq_zero_or_pos (j - us.length) with h0' | h0'
            · omega
            · rw [List.getElem?_eq_none (by simp; omega)] at hy'; cases hy'
        · rw [List.getElem?_eq_none (by simp; omega)] at hy; cases hy

/-- the least number from 1 to n at which f holds, 0 if there is none -/
def leastB (f : Nat → Bool) : Nat → Nat
  | 0 => 0
  | n + 1 => if leastB f n = 0 then (if f (n + 1) = true then n + 1 else 0) else leastB f n
theorem leastB_none {f : Nat → Bool} {n : Nat} (h : ∀ j, 1 ≤ j → j ≤ n → f j = false) : leastB f n = 0 := by
  induction n with
  | zero => rfl
  | succ n ih => unfold leastB; rw [ih (fun j a b => h j a (by omega)), if_pos rfl, h (n + 1) (by omega) (by omega)]; rfl
theorem leastB_eq {f : Nat → Bool} {k : Nat} (h : ∀ j, 1 ≤ j → j < k → f j = false) (hk : f k = true) (h1 : 1 ≤ k) {n : Nat} (hn : k ≤ n) : leastB f n = k := by
  induction n with
  | zero => omega
  | succ n ih =>
    unfold leastB
    by_cases e : k = n + 1
    · subst e; rw [leastB_none (fun j a b => h j a (by omega)), if_pos rfl, if_pos hk]
    · rw [ih (by omega), if_neg (by omega)]
def itP (xs ws : List Int) (k : Nat) : List Int := turnN (fun _ => pro1 xs) k ws
theorem itP_succ (xs ws : List Int) (k : Nat) : itP xs ws (k + 1) = pro1 xs (itP xs ws k) := rfl
theorem itP_Lw {xs ws : List Int} (h1 : 1 ≤ xs.length) (hw : Lw xs.length ws) (k : Nat) : Lw xs.length (itP xs ws k) := hw.turn fun _ _ a ha => ha.pro1 h1
def bkP (xs ws : List Int) (k : Nat) : Bool := sameL (itP xs ws k) ws
def lenP (xs ws : List Int) : Nat := leastB (bkP xs ws) 500
theorem leastB_le (f : Nat → Bool) (n : Nat) : leastB f n ≤ n := by
  induction n with
  | zero => exact Nat.le_refl _
  | succ n ih => unfold leastB; split; split <;> omega; omega
def okPO (xs ws : List Int) : Bool := okLin xs ws && decide (lenP xs ws ≠ 0)
def ansPO (xs ws : List Int) : List (List Int) := if okPO xs ws then rowsN (itP xs ws) (lenP xs ws) else []
theorem okPO_no1 {xs ws : List Int} (h : okLin xs ws = false) : okPO xs ws = false := by simp [okPO, h]
theorem okPO_no2 {xs ws : List Int} (h : lenP xs ws = 0) : okPO xs ws = false := by simp [okPO, h]
theorem okPO_yes {xs ws : List Int} (h : okLin xs ws = true) (k : lenP xs ws ≠ 0) : okPO xs ws = true := by simp [okPO, h, k]
theorem ansPO_no {xs ws : List Int} (h : okPO xs ws = false) : ansPO xs ws = [] := by simp [ansPO, h]
theorem ansPO_yes {xs ws : List Int} (h : okPO xs ws = true) : ansPO xs ws = rowsN (itP xs ws) (lenP xs ws) := by simp [ansPO, h]
theorem ansPO_small (xs ws : List Int) : SSmall (ansPO xs ws) := by
  cases h : okPO xs ws
  · rw [ansPO_no h]; exact ⟨by simp, by simp, by simp [offL]⟩
  · rw [ansPO_yes h]
    have h1 : okLin xs ws = true := by simp only [okPO, Bool.and_eq_true] at h; exact h.1
    have hg := good_length (okLin_all h1).1
    exact rowsN_small _ (leastB_le _ _) fun j _ => by rw [(itP_Lw hg.1 (okLin_Lw h1) j).len]; exact hg.2
set_option maxHeartbeats 3200000 in
theorem specPromotionOrbit_any (v : Value) (xs : List Int) (u : Value) (ws : List Int) (w : World) (hv : Ints w v xs) (hl : xs.length ≤ 1048576) (hu : Ints w u ws) (hm : ws.length ≤ 1048576) :
    Calls Try.prog 56 #[.agg #[v], u] w fun (r : Ending) w' => ∃ q, r = Ending.returned (.tuple #[q, .bool (okPO xs ws)]) ∧ OwnSS 3 24 w' w.heap.size w'.heap.size q (ansPO xs ws) ∧ SSmall (ansPO xs ws) ∧ Below w.heap.size w w' := by
  have HV := hid hv
  have HU := hid hu
  have HL := hid (ansPO_small xs ws)
  clear hv hu
  go_enter Try.func56, Try.ntmps56
  have HB := hid (below_alloc (Below.refl _ w) (.cells #[v] 26))
  have A0 := hid (At.newAt w v 26 w.heap.size (by simp))
  go_wp2_with fail
  refine (liGiven_any _ _ xs ws _ (HV.out.below HB.out) hl (HU.out.below HB.out) hm).mono ?_
  rintro e w' ⟨rfl, hb⟩
  replace HB := hid (below_to HB.out hb)
  replace A0 := hid (A0.out.below hb)
  clear hb
  cases hq : okLin xs ws
  · have HO := hid (okPO_no1 hq)
    clear hq
    have ebox0 := A0.out.1
    go_wp2
    go_ret2
    exact ⟨_, ret_vbL HO.out.symm, by rw [ansPO_no HO.out]; exact OwnSS.nil _ _ _ _ _, HL.out, HB.out⟩
  · have HQ := hid hq
    have HLw := hid (okLin_Lw hq)
    have HG := hid (okLin_all hq).1
    have hl1 := (good_length HG.out).1
    have hl10 := (good_length HG.out).2
    clear hq
    have ebox0 := A0.out.1
    go_wp2_with fail
    refine (l1OwnL_any _ ws _ (HU.out.below HB.out) hm).mono ?_
    rintro e w1 ⟨q, rfl, ho, hb1⟩
    obtain ⟨qA, qn, qc, rfl⟩ := ho.shape3
    have HS2 := hid (OwnSS.single (ts := 24) ho hb1.size)
    have Hb2 := hid (below_alloc hb1 (.cells #[.slice qA qn qc] 24))
    have hsz : (w1.alloc (.cells #[.slice qA qn qc] 24)).heap.size = w1.heap.size + 1 := by simp
    have HSz := hid hsz
    have ebox2 := (A0.out.below Hb2.out).1
    have HR1 : Hid (rowsN (itP xs ws) 1 = [ws]) := hid rfl
    clear ho hb1 hsz ebox0
    go_wp2_with fail
    clear ebox2
    refine (liPromote_any _ _ xs ws 1 _ ((HV.out.below HB.out).below Hb2.out) ((HU.out.below HB.out).below Hb2.out) HG.out HLw.out (by omega) (by omega)).mono ?_
    rintro e w3 ⟨p, rfl, hp, hb3⟩
    rw [proL_one] at hp
    have HS3 := hid (HS2.out.below hb3)
    have Hb3 := hid (below_to Hb2.out hb3)
    have HP3 := hid hp
    have HZ3 := hid hb3.size
    obtain ⟨pA, pn, pc, rfl⟩ := hp.shape3
    clear hb3 hp
    go_wp2
    go_loopw [6, 7] (fun out now wr => ∃ k E : Nat, 1 ≤ k ∧ k ≤ 500 ∧ OwnSS 3 24 wr w'.heap.size E out (rowsN (itP xs ws) k) ∧ OwnI 3 wr w'.heap.size now (itP xs ws k) ∧ (∀ b, now.ownBlock = some b → E ≤ b) ∧ E ≤ wr.heap.size ∧ Hid (∀ j, 1 ≤ j → j < k → bkP xs ws j = false) ∧ Below w'.heap.size w' wr) (fun out _ _ => 501 - (match out with | .slice _ m _ => m | _ => 0))
    case atStart => exact ⟨1, w1.heap.size + 1, Nat.le_refl _, by omega, by rw [HR1.out]; exact HS3.out, HP3.out.mono (by have := Hb2.out.size; omega), fun b hb => by have h1 := (HP3.out.blockLt b hb).1; rw [HSz.out] at h1; exact h1, by have h1 := HZ3.out; rw [HSz.out] at h1; exact h1, hid (fun j a b => by omega), Hb3.out⟩
    case round =>
      obtain ⟨k, E, hk1, hk, hS, hP, hPE, hE, HJ, hb⟩ := hrel
      have HS := hid hS
      have HP := hid hP
      have HPE := hid hPE
      have Hb := hid hb
      obtain ⟨oA, oc, rfl, -⟩ := hS.rows
      rw [rowsN_length] at hS HS ⊢
      have HS := hid hS
      obtain ⟨nA, nn, nc, rfl⟩ := hP.shape3
      have HLk := hid (itP_Lw hl1 HLw.out k)
      have hbz := hb.size
      have hbx := (A0.out.below hb).1
      have hlk : (itP xs ws k).length ≤ 1048576 := by rw [HLk.out.len]; omega
      clear hS hP hPE hb
      go_wp2_with fail
      clear hbx
      refine (l1SameL_any _ _ (itP xs ws k) ws _ HP.out.ints ((HU.out.below HB.out).below Hb.out) hlk).mono ?_
      rintro e w4 ⟨rfl, hb4⟩
      have HBk : Hid (bkP xs ws k = sameL (itP xs ws k) ws) := hid rfl
      obtain ⟨R, hR⟩ : ∃ R, sameL (itP xs ws k) ws = R := ⟨_, rfl⟩
      rw [hR] at HBk ⊢
      have HS4 := hid (HS.out.below hb4)
      have HP4 := hid (HP.out.below hb4)
      have Hb4 := hid (below_to Hb.out hb4)
      have hz4 := hb4.size
      clear hR hb4
      cases R
      · by_cases h5 : k = 500
        · subst h5
          have HO := hid (okPO_no2 (xs := xs) (ws := ws) (by
            unfold lenP
            refine leastB_none fun j a b => ?_
            by_cases e : j = 500
            · subst e; exact HBk.out
            · exact HJ.out j a (by omega)))
          go_wp2
          go_ret2
          exact ⟨_, ret_vbL HO.out.symm, by rw [ansPO_no HO.out]; exact OwnSS.nil _ _ _ _ _, HL.out, below_to HB.out Hb4.out⟩
        · have h5' : ((k : Int) == 500) = false := by rw [beq_eq_false_iff_ne]; omega
          have HJ2 : Hid (∀ j, 1 ≤ j → j < k + 1 → bkP xs ws j = false) := hid (fun j a b => by
            by_cases e : j = k
            · subst e; exact HBk.out
            · exact HJ.out j a (by omega))
          have HRS := hid (rowsN_succ (itP xs ws) k)
          go_wp2_with (at_builtin; refine wpList_append_row2 rfl _ _ 49 24 3 rfl Try.underlying49 Try.info24 (by decide) w'.heap.size E _ _ (rowsN (itP xs ws) k) (itP xs ws k) rfl HS4.out HP4.out HPE.out rfl rfl (by rw [rowsN_length]; omega) (by omega) (by omega) ?_; rintro u5 w5 ho5 hp5 hb5; have hbx5 := (A0.out.below (Hb4.out.trans hb5)).1)
          have HS5 := hid ho5
          have HP5 := hid hp5
          have Hb5 := hid (Hb4.out.trans hb5)
          obtain ⟨o5A, o5n, o5c, rfl⟩ := ho5.shape3
          clear ho5 hp5 hb5 h5' hbx5
          refine (liPromote_any _ _ xs (itP xs ws k) 1 _ ((HV.out.below HB.out).below Hb5.out) HP5.out.ints HG.out HLk.out (by omega) (by omega)).mono ?_
          rintro e w6 ⟨p6, rfl, hp6, hb6⟩
          rw [proL_one] at hp6
          have HS6 : Hid (OwnSS 3 24 w6 w'.heap.size w5.heap.size (.slice o5A o5n o5c) (rowsN (itP xs ws) (k + 1))) := hid (by rw [HRS.out]; exact HS5.out.below hb6)
          have HP6 := hid hp6
          have Hb6 := hid (below_to Hb5.out hb6)
          have HZ6 := hid hb6.size
          obtain ⟨p6A, p6n, p6c, rfl⟩ := hp6.shape3
          obtain ⟨o6A, o6c, hsh, -⟩ := HS6.out.rows
          injection hsh with hA5 hn hC5
          rw [rowsN_length] at hn
          subst hn
          subst hA5
          subst hC5
          clear hp6 hb6
          go_wp2
          go_roundw
          case rel => exact ⟨k + 1, w5.heap.size, by omega, by omega, HS6.out, HP6.out.mono (by have := Hb5.out.size; omega), fun b hb => (HP6.out.blockLt b hb).1, HZ6.out, HJ2, Hb6.out⟩
          case measure => simp; omega
      · have hlen := leastB_eq (f := bkP xs ws) (k := k) HJ.out HBk.out hk1 hk
        have HLen : Hid (lenP xs ws = k) := hid hlen
        have HO := hid (okPO_yes (xs := xs) (ws := ws) HQ.out (by rw [HLen.out]; omega))
        clear hlen
        go_wp2
        go_ret2
        exact ⟨_, ret_vbL HO.out.symm, by rw [ansPO_yes HO.out, HLen.out]; exact (HS4.out.monoE (by omega)).monoBR HB.out.size, HL.out, below_to HB.out Hb4.out⟩
set_option maxHeartbeats 3200000 in
theorem implPromotionOrbit_any (v : Value) (xs : List Int) (u : Value) (ws : List Int) (w : World) (hv : Ints w v xs) (hl : xs.length ≤ 1048576) (hu : Ints w u ws) (hm : ws.length ≤ 1048576) :
    Calls Try.prog 55 #[.agg #[v], u] w fun (r : Ending) w' => ∃ q, r = Ending.returned (.tuple #[q, .bool (okPO xs ws)]) ∧ OwnSS 3 24 w' w.heap.size w'.heap.size q (ansPO xs ws) ∧ SSmall (ansPO xs ws) ∧ Below w.heap.size w w' := by
  have HV := hid hv
  have HU := hid hu
  have HL := hid (ansPO_small xs ws)
  clear hv hu
  go_enter Try.func55, Try.ntmps55
  have HB := hid (below_alloc (Below.refl _ w) (.cells #[v] 26))
  have A0 := hid (At.newAt w v 26 w.heap.size (by simp))
  go_wp2_with fail
  refine (hasLinear_any _ _ xs ws _ (HV.out.below HB.out) hl (HU.out.below HB.out) hm).mono ?_
  rintro e w' ⟨rfl, hb⟩
  replace HB := hid (below_to HB.out hb)
  replace A0 := hid (A0.out.below hb)
  clear hb
  cases hq : okLin xs ws
  · have HO := hid (okPO_no1 hq)
    clear hq
    have ebox0 := A0.out.1
    go_wp2
    go_ret2
    exact ⟨_, ret_vbL HO.out.symm, by rw [ansPO_no HO.out]; exact OwnSS.nil _ _ _ _ _, HL.out, HB.out⟩
  · have HQ := hid hq
    have HLw := hid (okLin_Lw hq)
    have HG := hid (okLin_all hq).1
    have hl1 := (good_length HG.out).1
    have hl10 := (good_length HG.out).2
    clear hq
    have ebox0 := A0.out.1
    go_wp2_with fail
    clear ebox0
    refine (promotions_any v xs 1 _ (HV.out.below HB.out) HG.out (by omega) (by omega)).mono ?_
    rintro e w1 ⟨fn, caps, rfl, hSw, hbp⟩
    have hpr : proL xs 1 = pro1 xs := by funext a; exact proL_one xs a
    rw [hpr] at hSw
    have HSw := hid hSw
    have HB1 := hid (below_to HB.out hbp)
    have HU1 := hid ((HU.out.below HB.out).below hbp)
    clear hSw hbp hpr
    go_wp2_with fail
    refine (cloneL_any _ ws _ HU1.out hm).mono ?_
    rintro e w2 ⟨q, rfl, ho, hb1⟩
    obtain ⟨qA, qn, qc, rfl⟩ := ho.shape3
    have HS2 := hid (OwnSS.single (ts := 24) ho hb1.size)
    have Hb2 := hid (below_alloc hb1 (.cells #[.slice qA qn qc] 24))
    have hsz : (w2.alloc (.cells #[.slice qA qn qc] 24)).heap.size = w2.heap.size + 1 := by simp
    have HSz := hid hsz
    have HR1 : Hid (rowsN (itP xs ws) 1 = [ws]) := hid rfl
    clear ho hb1 hsz
    go_wp2_with fail
    refine (swapped_any _ xs ws fn caps _ _ _ (HU1.out.below Hb2.out) HLw.out hl10 (HSw.out.below Hb2.out)).mono ?_
    rintro e w3 ⟨p, rfl, hp, hb3⟩
    have HS3 := hid (HS2.out.below hb3)
    have Hb3 := hid (below_to Hb2.out hb3)
    have HP3 := hid hp
    have HZ3 := hid hb3.size
    obtain ⟨pA, pn, pc, rfl⟩ := hp.shape3
    clear hb3 hp
    go_wp2
    go_loopw [7, 8] (fun out now wr => ∃ k E : Nat, 1 ≤ k ∧ k ≤ 500 ∧ OwnSS 3 24 wr w1.heap.size E out (rowsN (itP xs ws) k) ∧ OwnI 3 wr w1.heap.size now (itP xs ws k) ∧ (∀ b, now.ownBlock = some b → E ≤ b) ∧ E ≤ wr.heap.size ∧ Hid (∀ j, 1 ≤ j → j < k → bkP xs ws j = false) ∧ Below w1.heap.size w1 wr) (fun out _ _ => 501 - (match out with | .slice _ m _ => m | _ => 0))
    case atStart => exact ⟨1, w2.heap.size + 1, Nat.le_refl _, by omega, by rw [HR1.out]; exact HS3.out, HP3.out.mono (by have := Hb2.out.size; omega), fun b hb => by have h1 := (HP3.out.blockLt b hb).1; rw [HSz.out] at h1; exact h1, by have h1 := HZ3.out; rw [HSz.out] at h1; exact h1, hid (fun j a b => by omega), Hb3.out⟩
    case round =>
      obtain ⟨k, E, hk1, hk, hS, hP, hPE, hE, HJ, hb⟩ := hrel
      have HS := hid hS
      have HP := hid hP
      have HPE := hid hPE
      have Hb := hid hb
      obtain ⟨oA, oc, rfl, -⟩ := hS.rows
      rw [rowsN_length] at hS HS ⊢
      have HS := hid hS
      obtain ⟨nA, nn, nc, rfl⟩ := hP.shape3
      have HLk := hid (itP_Lw hl1 HLw.out k)
      have hbz := hb.size
      have hlk : (itP xs ws k).length ≤ 1048576 := by rw [HLk.out.len]; omega
      clear hS hP hPE hb
      go_wp2_with fail
      refine (equalL_any _ _ (itP xs ws k) ws _ HP.out.ints (HU1.out.below Hb.out) hlk).mono ?_
      rintro e w4 ⟨rfl, hb4⟩
      have HBk : Hid (bkP xs ws k = sameL (itP xs ws k) ws) := hid rfl
      obtain ⟨R, hR⟩ : ∃ R, sameL (itP xs ws k) ws = R := ⟨_, rfl⟩
      rw [hR] at HBk ⊢
      have HS4 := hid (HS.out.below hb4)
      have HP4 := hid (HP.out.below hb4)
      have Hb4 := hid (below_to Hb.out hb4)
      have hz4 := hb4.size
      clear hR hb4
      cases R
      · by_cases h5 : k = 500
        · subst h5
          have HO := hid (okPO_no2 (xs := xs) (ws := ws) (by
            unfold lenP
            refine leastB_none fun j a b => ?_
            by_cases e : j = 500
            · subst e; exact HBk.out
            · exact HJ.out j a (by omega)))
          go_wp2
          go_ret2
          exact ⟨_, ret_vbL HO.out.symm, by rw [ansPO_no HO.out]; exact OwnSS.nil _ _ _ _ _, HL.out, below_to HB1.out Hb4.out⟩
        · have h5' : ((k : Int) == 500) = false := by rw [beq_eq_false_iff_ne]; omega
          have HJ2 : Hid (∀ j, 1 ≤ j → j < k + 1 → bkP xs ws j = false) := hid (fun j a b => by
            by_cases e : j = k
            · subst e; exact HBk.out
            · exact HJ.out j a (by omega))
          have HRS := hid (rowsN_succ (itP xs ws) k)
          go_wp2_with (at_builtin; refine wpList_append_row2 rfl _ _ 49 24 3 rfl Try.underlying49 Try.info24 (by decide) w1.heap.size E _ _ (rowsN (itP xs ws) k) (itP xs ws k) rfl HS4.out HP4.out HPE.out rfl rfl (by rw [rowsN_length]; omega) (by omega) (by omega) ?_; rintro u5 w5 ho5 hp5 hb5)
          have HS5 := hid ho5
          have HP5 := hid hp5
          have Hb5 := hid (Hb4.out.trans hb5)
          obtain ⟨o5A, o5n, o5c, rfl⟩ := ho5.shape3
          clear ho5 hp5 hb5 h5'
          refine (swapped_any _ xs (itP xs ws k) fn caps _ _ _ HP5.out.ints HLk.out hl10 (HSw.out.below Hb5.out)).mono ?_
          rintro e w6 ⟨p6, rfl, hp6, hb6⟩
          have HS6 : Hid (OwnSS 3 24 w6 w1.heap.size w5.heap.size (.slice o5A o5n o5c) (rowsN (itP xs ws) (k + 1))) := hid (by rw [HRS.out]; exact HS5.out.below hb6)
          have HP6 := hid hp6
          have Hb6 := hid (below_to Hb5.out hb6)
          have HZ6 := hid hb6.size
          obtain ⟨p6A, p6n, p6c, rfl⟩ := hp6.shape3
          obtain ⟨o6A, o6c, hsh, -⟩ := HS6.out.rows
          injection hsh with hA5 hn hC5
          rw [rowsN_length] at hn
          subst hn
          subst hA5
          subst hC5
          clear hp6 hb6
          go_wp2
          go_roundw
          case rel => exact ⟨k + 1, w5.heap.size, by omega, by omega, HS6.out, HP6.out.mono (by have := Hb5.out.size; omega), fun b hb => (HP6.out.blockLt b hb).1, HZ6.out, HJ2, Hb6.out⟩
          case measure => simp; omega
      · have hlen := leastB_eq (f := bkP xs ws) (k := k) HJ.out HBk.out hk1 hk
        have HLen : Hid (lenP xs ws = k) := hid hlen
        have HO := hid (okPO_yes (xs := xs) (ws := ws) HQ.out (by rw [HLen.out]; omega))
        clear hlen
        go_wp2
        go_ret2
        exact ⟨_, ret_vbL HO.out.symm, by rw [ansPO_yes HO.out, HLen.out]; exact (HS4.out.monoE (by omega)).monoBR HB1.out.size, HL.out, below_to HB1.out Hb4.out⟩
end Go.Proofs.Ytpdoheagfjeefaa

/- Lengths of orbits of promotion: the program. -/
namespace Go.Proofs.Ytpdoheagfjeefaa
open Go.RowKit Go.WideShapes Go.ChangeShapes
set_option linter.unusedVariables false

theorem sameL_yes {a b : List Int} (h : a = b) : sameL a b = true := by unfold sameL; exact decide_eq_true h
theorem sameL_not {a b : List Int} (h : a ≠ b) : sameL a b = false := by unfold sameL; exact decide_eq_false h
theorem lenP_unr {xs : List Int} (h1 : 1 ≤ xs.length) (hN : ends xs 0 ≤ 500) {r : Nat} (hr : r < ends xs 0) : lenP xs (unrL xs r) = perR xs r := by
  have hp := perR_range h1 hr
  exact leastB_eq (fun j a b => sameL_not (it_ne h1 hr a b)) (sameL_yes (it_per h1 hr)) hp.1 (by omega)
theorem okLin_unr {xs : List Int} (hg : good xs = true) {r : Nat} (hr : r < ends xs 0) : okLin xs (unrL xs r) = true := (okOrder_yes hg).trans (unr_lin hr).order
def seenP (xs : List Int) (k : Nat) : Nat → Bool := seenB (proR xs) (ends xs 0) (startsN (proR xs) (ends xs 0) (idsN (ends xs 0)) k)
def lensK (xs : List Int) (k : Nat) : List Int := (startsN (proR xs) (ends xs 0) (idsN (ends xs 0)) k).map fun s => ((perR xs s : Nat) : Int)
theorem lensK_full (xs : List Int) : lensK xs (ends xs 0) = lensP xs := by
  unfold lensK lensP starts; rw [idsN_length]
theorem lensK_length (xs : List Int) (k : Nat) : (lensK xs k).length ≤ k := by
  unfold lensK; rw [List.length_map]; exact startsN_length _ _ _ _
theorem seenP_yes {xs : List Int} {k : Nat} (hk : k < ends xs 0) (h : seenP xs k k = true) : seenP xs (k + 1) = seenP xs k ∧ lensK xs (k + 1) = lensK xs k := by
  have e := startsN_yes (f := proR xs) (N := ends xs 0) (ids := idsN (ends xs 0)) (k := k) (by rw [idsN_get hk]; exact h)
  unfold seenP lensK; rw [e]; exact ⟨rfl, rfl⟩
theorem seenP_no {xs : List Int} {k : Nat} (hk : k < ends xs 0) (h : seenP xs k k = false) : (∀ t, seenP xs (k + 1) t = (seenP xs k t || (orbT (proR xs) k (perR xs k)).contains t)) ∧ lensK xs (k + 1) = lensK xs k ++ [((perR xs k : Nat) : Int)] := by
  have e := startsN_no (f := proR xs) (N := ends xs 0) (ids := idsN (ends xs 0)) (k := k) (by rw [idsN_get hk]; exact h)
  rw [idsN_get hk] at e
  unfold seenP lensK
  rw [e]
  exact ⟨fun t => seenB_snoc _ _ _ _ _, by rw [List.map_append]; rfl⟩
theorem Below.of_lt {B : Nat} {a w : World} (h : Below B a w) {B' : Nat} (hB : B' ≤ B) : Below B' a w := h.mono hB
set_option maxHeartbeats 3200000 in
theorem promotionLengths_any (v q : Value) (xs : List Int) (w : World) (hv : Ints w v xs) (hg : good xs = true) (hC : ends xs 0 ≤ 500) (hq : IntsSS w q (allLn xs)) :
    Calls Try.prog 126 #[.agg #[v], q] w fun (r : Ending) w' => ∃ u, r = Ending.returned u ∧ OwnI 3 w' w.heap.size u (lensP xs) ∧ Below w.heap.size w w' := by
  have HV := hid hv
  have HG := hid hg
  have HQ := hid hq
  have hl1 := (good_length hg).1
  have hl10 := (good_length hg).2
  have hlen : (allLn xs).length = ends xs 0 := rowsN_length _ _
  obtain ⟨qA, qc, rfl, -⟩ := hq
  rw [hlen] at HQ ⊢
  obtain ⟨N, hN⟩ : ∃ N, ends xs 0 = N := ⟨_, rfl⟩
  have HNe := hid hN
  rw [hN] at HQ hC ⊢
  have HLen := hid (hlen.trans hN)
  have HPR := hid (fun r (hr : r < N) => perR_range (xs := xs) hl1 (r := r) (by rw [hN]; exact hr))
  rw [hN] at HPR
  have hmk := run_make_row' (P := Try.prog) 115 4 (.bool false) 1 Try.underlying115 infoBool rfl .i64 .i64 N (by omega) (by omega)
  clear hv hg hlen hN
  go_enter Try.func126, Try.ntmps126
  have HB := hid (below_alloc (Below.refl _ w) (.cells #[v] 26))
  have A0 := hid (At.newAt w v 26 w.heap.size (by simp))
  go_wp2_with fail
  refine (endingsOf_any _ xs _ (HV.out.below HB.out) HG.out).mono ?_
  rintro e w' ⟨g, rfl, hT, hgw, hb⟩
  replace HB := hid (below_to HB.out hb)
  replace A0 := hid (A0.out.below hb)
  clear hb
  have HT := hid hT
  have hgz : g < w'.heap.size := hT.lt
  clear hT
  go_wp2
  clear hmk
  rw [BVals_made]
  obtain ⟨S, hS⟩ : ∃ S, w'.heap.size = S := ⟨_, rfl⟩
  have HS := hid hS
  have HS0 : Hid (Blk (w'.alloc (.cells (BVals (List.replicate N false)) 4)) S 4 (BVals (marksB (seenP xs 0) N))) := hid (by
    have e : marksB (seenP xs 0) N = List.replicate N false := by rw [← marksB_none]; exact marksB_congr fun t _ => rfl
    rw [e]; exact Blk.newAt _ _ _ _ hS.symm)
  have HB0 : Hid (Below w'.heap.size w' (w'.alloc (.cells (BVals (List.replicate N false)) 4))) := hid (below_alloc (Below.refl _ _) _)
  obtain ⟨W0, hW0⟩ : ∃ W0, w'.alloc (.cells (BVals (List.replicate N false)) 4) = W0 := ⟨_, rfl⟩
  rw [hW0] at HS0 HB0 ⊢
  rw [hS]
  rw [hS] at hgz
  clear hW0 hS
  go_loopw [7, 21] (fun l i wr => ∃ k : Nat, k ≤ N ∧ i = .int .i64 k ∧ Blk wr S 4 (BVals (marksB (seenP xs k) N)) ∧ OwnI 3 wr (S + 1) l (lensK xs k) ∧ Below w'.heap.size w' wr) (fun _ i _ => N - (intOf i).toNat)
  case atStart => exact ⟨0, Nat.zero_le _, rfl, HS0.out, OwnI.nil _ _ _, HB0.out⟩
  case round =>
    obtain ⟨k, hk, rfl, hB, ho, hb⟩ := hrel
    have HBk := hid hB
    have HOw := hid ho
    have Hb := hid hb
    have hSlt := hB.lt
    obtain ⟨lA, ln, lc, rfl⟩ := ho.shape3
    clear hB ho hb
    by_cases hlt : k < N
    · have hkx : k < ends xs 0 := by rw [HNe.out]; exact hlt
      obtain ⟨b, o', c', u, hsh, hbl, hc, hi⟩ := rows_cell HQ.out (k := k) (by rw [HLen.out]; exact hlt)
      unfold allLn at hi
      rw [rowsN_getD _ (show k < cntL xs from hkx)] at hi
      injection hsh with hsA hsB hsC
      subst hsA
      subst hsC
      clear hsB
      have hcell := ((HB.out.trans (Hb.out.mono HB.out.size)).cell (p := ⟨b, o' + k, none⟩) hbl).trans hc
      have HIk := hid (hi.below (HB.out.trans (Hb.out.mono HB.out.size)))
      obtain ⟨uA, un, uc, rfl⟩ : ∃ uA un uc, u = .slice uA un uc := by obtain ⟨A, c, e, -⟩ := hi; exact ⟨_, _, _, e⟩
      have hsk : wr.cell? ⟨S, k, none⟩ = some (.bool (seenP xs k k)) := by
        rw [HBk.out.cell, BVals_get (by rw [marksB_length]; exact hlt), marksB_get _ hlt]
      have Hkx := hid hkx
      clear hc hi hkx
      cases hs : seenP xs k k
      · have HNo := hid (seenP_no Hkx.out hs)
        rw [hs] at hsk
        have hP := HPR.out k hlt
        have HLP := hid (lenP_unr hl1 (by rw [HNe.out]; exact hC) Hkx.out)
        have HOL := hid (okLin_unr HG.out Hkx.out)
        have hbx := (A0.out.below Hb.out).1
        have hul : (unrL xs k).length ≤ 1048576 := by rw [unrL_length]; omega
        have HIt := hid (fun j => it_unr hl1 Hkx.out j)
        obtain ⟨P, hPe⟩ : ∃ P, perR xs k = P := ⟨_, rfl⟩
        rw [hPe] at hP HNo HLP
        have HPO : Hid (okPO xs (unrL xs k) = true) := hid (okPO_yes HOL.out (by rw [HLP.out]; omega))
        have HPA : Hid (ansPO xs (unrL xs k) = rowsN (itP xs (unrL xs k)) P) := hid (by rw [ansPO_yes HPO.out, HLP.out])
        clear hs hPe
        go_wp2_with fail
        clear hbx hsk hcell
        refine (implPromotionOrbit_any _ xs _ (unrL xs k) _ ((HV.out.below HB.out).below Hb.out) (by omega) HIk.out hul).mono ?_
        rw [HPO.out, HPA.out]
        rintro e w2 ⟨q2, rfl, ho2, -, hb2⟩
        obtain ⟨q2A, q2c, rfl, -⟩ := ho2.rows
        have hql : (rowsN (itP xs (unrL xs k)) P).length = P := rowsN_length _ _
        have HQ2 := hid ho2
        have HB2 := hid (HBk.out.below hb2 HBk.out.lt)
        have HO2 := hid (HOw.out.below hb2)
        have HOB2 := hid HO2.out.blockLt
        have Hb2 := hid (below_to Hb.out hb2)
        have hz2 := hb2.size
        rw [hql] at HQ2 ⊢
        clear ho2 hb2 hql
        go_wp2
        go_loopw [38] (fun i wi => ∃ j : Nat, j ≤ P ∧ i = .int .i64 j ∧ Blk wi S 4 (BVals (marksB (fun t => seenP xs k t || (orbT (proR xs) k j).contains t) N)) ∧ TurnedIn S (S + 1) w2 wi) (fun i _ => P - (intOf i).toNat)
        case atStart => exact ⟨0, Nat.zero_le _, rfl, (by rw [marksB_congr (h := seenP xs k) (fun t _ => by simp [orbT])]; exact HB2.out), TurnedIn.refl _ _ _⟩
        case round =>
          obtain ⟨j, hj, rfl, hB3, ht⟩ := hrel
          obtain ⟨wi, rfl⟩ : ∃ x, x = wr := ⟨wr, rfl⟩
          have HB3 := hid hB3
          have HTu := hid ht
          have HbW : Hid (Below w'.heap.size w' wi) := hid (below_turned Hb2.out ht (by have := HS.out; omega))
          have HRows := hid (HQ2.out.turned ht (.inr (by omega)))
          clear hB3 ht
          by_cases hjP : j < P
          · obtain ⟨b3, o3, c3, u3, hsh3, hbl3, hc3, hi3⟩ := rows_cell HRows.out.ints (k := j) (by rw [rowsN_length]; exact hjP)
            rw [rowsN_getD _ hjP] at hi3
            injection hsh3 with hsA hsB hsC
            subst hsA
            subst hsC
            clear hsB
            obtain ⟨hIt1, hIt2⟩ := HIt.out j
            rw [show itP xs (unrL xs k) j = unrL xs (iter (proR xs) j k) from hIt1] at hi3
            obtain ⟨t, ht⟩ : ∃ t, iter (proR xs) j k = t := ⟨_, rfl⟩
            rw [ht] at hi3 hIt2
            have HCs := hid (fun x => orbT_contains_succ (proR xs) k j x)
            rw [ht] at HCs
            have HRank := hid (rank_unr hIt2)
            have HLt := hid (unrL_Lw (xs := xs) (r := t) hIt2)
            have htN : t < N := by rw [← HNe.out]; exact hIt2
            have HI3 := hid hi3
            have HTab := hid (HT.out.below HbW.out (by have := HS.out; omega))
            have hbx3 := (A0.out.below HbW.out).1
            obtain ⟨u3A, u3n, u3c, rfl⟩ : ∃ uA un uc, u3 = .slice uA un uc := by obtain ⟨A, c, e, -⟩ := hi3; exact ⟨_, _, _, e⟩
            clear hi3 hIt1 hIt2 ht
            go_wp2_with fail
            clear hc3 hbx3
            refine (rankOf_any g _ _ xs (unrL xs t) _ ((HV.out.below HB.out).below HbW.out) HI3.out HTab.out HG.out HLt.out).mono ?_
            rw [HRank.out]
            rintro e w4 ⟨rfl, hb4⟩
            have HB4 := hid (HB3.out.below hb4 HB3.out.lt)
            have HT4 := hid (HTu.out.trans (TurnedIn.of_below hb4))
            have hct : w4.cell? ⟨S, t, none⟩ = some (.bool ((fun x => seenP xs k x || (orbT (proR xs) k j).contains x) t)) := by
              rw [HB4.out.cell, BVals_get (by rw [marksB_length]; exact htN), marksB_get _ htN]
            have hft := HB4.out.frozen t
            have hti : (t : Int) < (N : Int) := by omega
            obtain ⟨z, hz⟩ : ∃ z, (fun x => seenP xs k x || (orbT (proR xs) k j).contains x) t = z := ⟨_, rfl⟩
            rw [hz] at hct
            clear hb4 hz
            go_wp2
            go_roundw
            case rel => exact ⟨j + 1, by omega, by go_num, (by rw [marksB_congr (h := fun x => (seenP xs k x || (orbT (proR xs) k j).contains x) || x == t) (fun x _ => by rw [HCs.out x, Bool.or_assoc]), ← marksB_set, ← BVals_set]; exact HB4.out.set_ t _), HT4.out.set_ ⟨S, t, none⟩ ⟨Nat.le_refl _, Nat.lt_succ_self _⟩ _⟩
            case measure => simp [intOf]; omega
          · obtain rfl : j = P := by omega
            have HO3 := hid (HO2.out.turned HTu.out HOB2.out (.inr (Nat.le_refl _)))
            have hwz : S + 1 ≤ wi.heap.size := HB3.out.lt
            have hll := lensK_length xs k
            go_wp2_with (at_builtin; refine wpList_append_int rfl _ _ 24 3 rfl Try.underlying24 Try.info3 (S + 1) _ (lensK xs k) (j : Int) rfl HO3.out rfl rfl (by omega) hwz ?_; rintro u5 w5 ho5 hb5)
            go_roundw
            case rel => exact ⟨k + 1, by omega, by go_num, (by rw [marksB_congr (fun t _ => HNo.out.1 t)]; exact HB3.out.below hb5 (by omega)), (by rw [HNo.out.2]; exact ho5), HbW.out.trans (hb5.mono (by have := HS.out; omega))⟩
            case measure => simp [intOf]; omega
      · have HYes := hid (seenP_yes Hkx.out hs)
        rw [hs] at hsk
        clear hs
        go_wp2
        go_roundw
        case rel => exact ⟨k + 1, by omega, by go_num, (by rw [HYes.out.1]; exact HBk.out), (by rw [HYes.out.2]; exact HOw.out), Hb.out⟩
        case measure => simp [intOf]; omega
    · obtain rfl : k = N := by omega
      have HRes : Hid (lensK xs k = lensP xs) := hid (by rw [← HNe.out]; exact lensK_full xs)
      go_wp2
      go_ret
      exact ⟨_, rfl, by rw [← HRes.out]; exact HOw.out.mono (by have := HS.out; have := HB.out.size; omega), below_to HB.out Hb.out⟩
end Go.Proofs.Ytpdoheagfjeefaa

/- AllLinear of both sides. -/
namespace Go.Proofs.Ytpdoheagfjeefaa
open Go.RowKit Go.WideShapes Go.ChangeShapes
set_option linter.unusedVariables false

set_option maxHeartbeats 1600000 in
theorem liAll_any (v : Value) (xs : List Int) (w : World) (hv : Ints w v xs) (hg : good xs = true) :
    Calls Try.prog 87 #[.agg #[v]] w fun (r : Ending) w' => ∃ q, r = Ending.returned (.tuple #[q, .bool (okAL xs)]) ∧ OwnSS 3 24 w' w.heap.size w'.heap.size q (ansAL xs) ∧ SSmall (ansAL xs) ∧ Below w.heap.size w w' := by
  have HV := hid hv
  have HG := hid hg
  have HL := hid (ansAL_small xs)
  have hl10 := (good_length hg).2
  have hN2 := two_pow_le xs.length hl10
  obtain ⟨N, hN⟩ : ∃ N, 2 ^ xs.length = N := ⟨_, rfl⟩
  rw [hN] at hN2
  have hNi : (0 : Int) < (N : Int) := by omega
  have hxl := cntL_le hl10
  have HNe := hid hN
  clear hv hg hN
  go_enter Try.func87, Try.ntmps87
  have HB := hid (below_alloc (Below.refl _ w) (.cells #[v] 26))
  have A0 := hid (At.newAt w v 26 w.heap.size (by simp))
  go_wp2_with fail
  refine (liCounts_any _ xs N _ (HV.out.below HB.out) HG.out HNe.out).mono ?_
  rintro e w' ⟨g, rfl, hT, hgw, hb⟩
  replace HB := hid (below_to HB.out hb)
  replace A0 := hid (A0.out.below hb)
  clear hb
  have hc := cell_zero hT (by omega)
  have HT := hid hT
  obtain ⟨x, hx⟩ : ∃ x, cntL xs = x := ⟨_, rfl⟩
  rw [hx] at hc hxl
  have HX := hid hx
  have HC := hid hc
  clear hT hx
  by_cases h5 : (500 : Int) < (x : Int)
  · have HO := hid (okAL_no2 (xs := xs) (by rw [HX.out]; omega))
    have ebox0 := A0.out.1
    go_wp2
    go_ret2
    exact ⟨_, ret_vbL HO.out.symm, by rw [ansAL_no HO.out]; exact OwnSS.nil _ _ _ _ _, HL.out, HB.out⟩
  · have HO := hid (okAL_yes (xs := xs) HG.out (by rw [HX.out]; omega))
    have hx5 : x ≤ 500 := by omega
    have ebox0 := A0.out.1
    go_wp2
    clear hc h5
    go_loopw [5, 6] (fun out i wr => ∃ k : Nat, k ≤ x ∧ i = .int .i64 k ∧ OwnSS 3 24 wr w'.heap.size wr.heap.size out (rowsN (unrL xs) k) ∧ Below w'.heap.size w' wr) (fun _ i _ => x - (intOf i).toNat)
    case atStart => exact ⟨0, Nat.zero_le _, rfl, OwnSS.nil _ _ _ _ _, Below.refl _ _⟩
    case round =>
      obtain ⟨k, hk, rfl, hS, hb⟩ := hrel
      have Hb := hid hb
      have HS := hid hS
      have hbx := (A0.out.below hb).1
      have hcx := (hb.cell (p := ⟨g, 0, none⟩) (World.block_lt_of_cell? w' _ HC.out)).trans HC.out
      obtain ⟨oA, oc, rfl, -⟩ := hS.rows
      have hbz := hb.size
      clear hS hb
      by_cases hlt : k < x
      · have hgb : g < w'.heap.size := World.block_lt_of_cell? w' _ HC.out
        have HRS := hid (rowsN_succ (unrL xs) k)
        go_wp2_with fail
        clear hbx hcx
        refine (liWith_any g N v xs k _ ((HV.out.below HB.out).below Hb.out) (HT.out.below Hb.out hgb) HNe.out HG.out (by have := HX.out; unfold cntL at this; omega)).mono ?_
        rintro e w4 ⟨u, rfl, ho, hb4⟩
        have HS4 := hid (HS.out.below hb4)
        have HO4 := hid (ho.mono hbz)
        have HOB := hid (fun b hb => (ho.blockLt b hb).1)
        have Hb4 := hid (below_to Hb.out hb4)
        have hz4 := hb4.size
        obtain ⟨uA, un, uc, rfl⟩ := ho.shape3
        clear ho hb4
        go_wp2_with (at_builtin; refine wpList_append_row rfl _ _ 49 24 3 rfl Try.underlying49 Try.info24 (by decide) w'.heap.size wr.heap.size _ _ (rowsN (unrL xs) k) (unrL xs k) rfl HS4.out HO4.out HOB.out rfl rfl (by rw [rowsN_length]; omega) (by omega) (by omega) ?_; rintro u5 w5 ho5 hb5)
        go_roundw
        case rel => exact ⟨k + 1, by omega, by go_num, by rw [HRS.out]; exact ho5, Hb4.out.trans hb5⟩
        case measure => simp [intOf]; omega
      · obtain rfl : k = x := by omega
        have HY : Hid (ansAL xs = rowsN (unrL xs) k) := hid (by rw [ansAL_yes HO.out]; unfold allLn; rw [HX.out])
        go_wp2
        go_ret2
        exact ⟨_, ret_vbL HO.out.symm, by rw [HY.out]; exact HS.out.monoBR HB.out.size, HL.out, below_to HB.out Hb.out⟩
theorem specAllLinear_any (v : Value) (xs : List Int) (w : World) (hv : Ints w v xs) (hl : xs.length ≤ 1048576) :
    Calls Try.prog 69 #[.agg #[v]] w fun (r : Ending) w' => ∃ q, r = Ending.returned (.tuple #[q, .bool (okAL xs)]) ∧ OwnSS 3 24 w' w.heap.size w'.heap.size q (ansAL xs) ∧ SSmall (ansAL xs) ∧ Below w.heap.size w w' := by
  have HV := hid hv
  have HL := hid (ansAL_small xs)
  clear hv
  go_enter Try.func69, Try.ntmps69
  have HB := hid (below_alloc (Below.refl _ w) (.cells #[v] 26))
  have A0 := hid (At.newAt w v 26 w.heap.size (by simp))
  go_wp2_with fail
  refine (poGood_any _ xs _ (HV.out.below HB.out) hl).mono ?_
  rintro e w' ⟨rfl, hb⟩
  replace HB := hid (below_to HB.out hb)
  replace A0 := hid (A0.out.below hb)
  clear hb
  cases hq : good xs
  · have HO := hid (okAL_no1 hq)
    clear hq
    have ebox0 := A0.out.1
    go_wp2
    go_ret2
    exact ⟨_, ret_vbL HO.out.symm, by rw [ansAL_no HO.out]; exact OwnSS.nil _ _ _ _ _, HL.out, HB.out⟩
  · have HQ := hid hq
    have hz := HB.out.size
    clear hq
    have ebox0 := A0.out.1
    go_wp2_with fail
    clear ebox0
    refine (liAll_any _ xs _ (HV.out.below HB.out) HQ.out).mono ?_
    rintro e w' ⟨q, rfl, ho, -, hb⟩
    replace HB := hid (below_to HB.out hb)
    replace A0 := hid (A0.out.below hb)
    clear hb
    have ebox0 := A0.out.1
    go_wp2
    go_ret2
    exact ⟨_, rfl, ho.monoBR hz, HL.out, HB.out⟩
end Go.Proofs.Ytpdoheagfjeefaa
