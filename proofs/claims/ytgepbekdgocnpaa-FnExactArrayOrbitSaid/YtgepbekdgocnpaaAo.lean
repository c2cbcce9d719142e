/- Orbits of arrays: words and the model. -/
import Derived.Test.YtgepbekdgocnpaaArU
import Derived.Test.YtgepbekdgocnpaaRowsN
import Derived.Test.YtgepbekdgocnpaaSam
namespace Go.Proofs.Ytgepbekdgocnpaa
open Go.RowKit Go.WideShapes Go.ChangeShapes
set_option linter.unusedVariables false

theorem rowsA_small (f : Nat → List Int) {m : Nat} (hm : m ≤ 100000) (h : ∀ j, j < m → (f j).length ≤ 10) : SSmall (rowsN f m) := by
  have h2 : ∀ j, j < (rowsN f m).length → ((rowsN f m).getD j []).length ≤ 10 := by
    intro j hj
    rw [rowsN_length] at hj
    rw [rowsN_getD f hj]
    have := h j hj
    omega
  have hl := rowsN_length f m
  refine ⟨by omega, fun j hj => by have := h2 j hj; omega, ?_⟩
  have h3 := offL_leR h2 _ (Nat.le_refl _)
  omega
/-- 'rows = append(rows, row)', all of the call's own, the row newer than what the slice has -/
theorem wpList_append_rowA {P : Program} {w W : World} {ops : Array Oper} {rest : List Oper} {o : Oper} {ac : Act} {Q : Exit → Act → World → Prop} (hgd : o.guard = none) (s x : Operand) (t ts ti : TypeId)
    (ho : o.op = .call { callee := .builtin .append, args := #[s, x], argTypes := #[t, t] }) (ht : P.underlying t = some (.slice ts)) (hinfo : (P.info? ts).map (fun i => (i.zero, i.size, i.bytes)) = some (some (.slice none 0 0), 1, 24))
    (hne : ti ≠ ts) (B E : Nat) (v u : Value) (ls : List (List Int)) (l : List Int) (hs : ac.eval s = v) (hown : OwnSS ti ts w B E v ls) (hu : OwnI ti w B u l) (huE : ∀ k, u.ownBlock = some k → E ≤ k)
    (hW : W = w.alloc (.cells #[u] ts)) (hx : ac.eval x = .slice (some ⟨w.heap.size, 0, none⟩) 1 1) (hlen : ls.length < 1048576) (hB : B ≤ w.heap.size) (hE : E ≤ w.heap.size)
    (h : ∀ v' w', OwnSS ti ts w' B w'.heap.size v' (ls ++ [l]) → OwnI ti w' B u l → Below B w w' → wpList P ops Q rest (ac.put o.dst v') w') : wpList P ops Q (o :: rest) ac W := by
  subst hW
  obtain ⟨i0, hi, hz0, hz1, hz2⟩ := info_parts hinfo
  obtain ⟨us, h1, h2, h3, h4, h5⟩ := hown
  obtain ⟨uA, un, uc, hush⟩ := hu.shape3
  have hulen : (un, uc, uA) = (un, uc, uA) := rfl
  refine wpList_append_own _ hgd s x t ho B ts i0 (.slice none 0 0) 1 24 ht hi hz0 hz1 hz2 rfl (by decide) v ls.length us hs (h2.alloc _) ⟨w.heap.size, 0, none⟩ 1 1 [u] hx rfl ?_ ?_ ?_ ?_ ?_ ?_
  · intro j y hj
    match j, hj with
    | 0, hj =>
      simp only [List.getElem?_cons_zero, Option.some.injEq] at hj
      subst hj
      exact (Blk.new w ts #[u]).cell 0
    | j + 1, hj => simp at hj
  · intro y hy
    simp only [List.mem_singleton] at hy
    subst hy; subst hush; rfl
  · unfold maxLen; omega
  · omega
  · simp; omega
  · intro v' w' h6 h7 _
    have hb : Below B w (w.alloc (.cells #[u] ts)) := (Below.refl _ _).alloc hB _
    have hB2 : Below B w w' := hb.grown h7 (by simp; omega) fun k hk => (h2.lt k hk).1
    have hsz : w.heap.size ≤ w'.heap.size := hB2.size
    refine h v' w' ⟨us ++ [u], by simp [h1], by simpa using h6, fun k hk => ?_, ?_, ?_⟩ ((hu.alloc _).grown h7 (own_apart hne hu h2)) hB2
    · exact (World.ownsRow.lt h6 k hk).2
    · intro j y m hy hm
      rw [List.getElem?_append] at hy hm
      by_cases hj : j < ls.length
      · rw [if_pos (by omega)] at hy
        rw [if_pos hj] at hm
        obtain ⟨a, b⟩ := h4 j y m hy hm
        exact ⟨(a.alloc _).grown h7 (own_apart hne a h2), fun k hk => by have := b k hk; omega⟩
      · rw [if_neg (by omega)] at hy
        rw [if_neg hj] at hm
        rcases Nat.eq_zero_or_pos (j - ls.length) with h0 | h0
        · rw [h0] at hm
          rw [h1, h0] at hy
          simp only [List.getElem?_cons_zero, Option.some.injEq] at hy hm
          subst hy; subst hm
          exact ⟨(hu.alloc _).grown h7 (own_apart hne hu h2), fun k hk => by have := (hu.blockLt k hk).2; omega⟩
        · rw [List.getElem?_eq_none (by simp; omega)] at hm; cases hm
    · have old : ∀ i y, i < us.length → us[i]? = some y → (y.ownBlock = none ∨ y.ownBlock ≠ u.ownBlock) := by
        intro i y hi hy
        have hl : ls[i]? = some ls[i] := List.getElem?_eq_getElem (by omega)
        obtain ⟨_, b⟩ := h4 i y _ hy hl
        rcases hq : y.ownBlock with _ | k
        · exact .inl rfl
        · refine .inr fun e => ?_
          have c1 := b k hq
          have c2 := huE k e.symm
          omega
      intro i j y y' hij hy hy'
      rw [List.getElem?_append] at hy hy'
      by_cases hi : i < us.length
      · rw [if_pos hi] at hy
        by_cases hj : j < us.length
        · rw [if_pos hj] at hy'
          exact h5 i j y y' hij hy hy'
        · rw [if_neg hj] at hy'
          rcases Nat.eq_zero_or_pos (j - us.length) with h0 | h0
          · rw [h0] at hy'
            simp only [List.getElem?_cons_zero, Option.some.injEq] at hy'
            subst hy'
            exact old i y hi hy
          · rw [List.getElem?_eq_none (by simp; omega)] at hy'; cases hy'
      · rw [if_neg hi] at hy
        rcases Nat.eq_zero_or_pos (i - us.length) with h0 | h0
        · rw [h0] at hy
          simp only [List.getElem?_cons_zero, Option.some.injEq] at hy
          subst hy
          by_cases hj : j < us.length
          · rw [if_pos hj] at hy'
            rcases old j y' hj hy' with h8 | h8
            · rcases hq : u.ownBlock with _ | k
              · exact .inl rfl
              · rw [h8]; exact .inr (by simp)
            · exact .inr (fun e => h8 e.symm)
          · rw [if_neg hj] at hy'
            rcases Nat.eq_zero_or_pos (j - us.length) with h0' | h0'
            · omega
            · rw [List.getElem?_eq_none (by simp; omega)] at hy'; cases hy'
        · rw [List.getElem?_eq_none (by simp; omega)] at hy; cases hy

/-- the least number from 1 to n at which f holds, 0 if there is none -/
def leastC (f : Nat → Bool) : Nat → Nat
  | 0 => 0
  | n + 1 => if leastC f n = 0 then (if f (n + 1) = true then n + 1 else 0) else leastC f n
theorem leastC_none {f : Nat → Bool} {n : Nat} (h : ∀ j, 1 ≤ j → j ≤ n → f j = false) : leastC f n = 0 := by
  induction n with
  | zero => rfl
  | succ n ih => unfold leastC; rw [ih (fun j a b => h j a (by omega)), if_pos rfl, h (n + 1) (by omega) (by omega)]; rfl
theorem leastC_eq {f : Nat → Bool} {k : Nat} (h : ∀ j, 1 ≤ j → j < k → f j = false) (hk : f k = true) (h1 : 1 ≤ k) {n : Nat} (hn : k ≤ n) : leastC f n = k := by
  induction n with
  | zero => omega
  | succ n ih =>
    unfold leastC
    by_cases e : k = n + 1
    · subst e; rw [leastC_none (fun j a b => h j a (by omega)), if_pos rfl, if_pos hk]
    · rw [ih (by omega), if_neg (by omega)]
theorem leastC_le (f : Nat → Bool) (n : Nat) : leastC f n ≤ n := by
  induction n with
  | zero => exact Nat.le_refl _
  | succ n ih => unfold leastC; split; split <;> omega; omega
def itA (xs : List Int) (b : Int) (f : List Int) (k : Nat) : List Int := tmK xs b (dnW xs.length) f k
theorem itA_next (xs : List Int) (b : Int) (f : List Int) (k : Nat) : wdK xs b (itA xs b f k) (dnW xs.length) xs.length = itA xs b f (k + 1) := by
  unfold itA; rw [tmK, dnW_len]
theorem itA_zero (xs : List Int) (b : Int) (f : List Int) : itA xs b f 0 = f := rfl
theorem itA_rise {xs f : List Int} {b : Int} (hg : good xs = true) (h : Rise xs f b) (k : Nat) : Rise xs (itA xs b f k) b :=
  tmK_rise hg h (fun j hj => by rw [dnW_len] at hj; exact dnW_rng hj) k
def bkA (xs : List Int) (b : Int) (f : List Int) (k : Nat) : Bool := sameL (itA xs b f k) f
def lenA (xs : List Int) (b : Int) (f : List Int) : Nat := leastC (bkA xs b f) 1000
def okAO (xs f : List Int) (b : Int) : Bool := okAr xs f b && decide (lenA xs b f ≠ 0)
def ansAO (xs f : List Int) (b : Int) : List (List Int) := if okAO xs f b then rowsN (itA xs b f) (lenA xs b f) else []
theorem okAO_no1 {xs f : List Int} {b : Int} (h : okAr xs f b = false) : okAO xs f b = false := by simp [okAO, h]
theorem okAO_no2 {xs f : List Int} {b : Int} (h : lenA xs b f = 0) : okAO xs f b = false := by simp [okAO, h]
theorem okAO_yes {xs f : List Int} {b : Int} (h : okAr xs f b = true) (k : lenA xs b f ≠ 0) : okAO xs f b = true := by simp [okAO, h, k]
theorem ansAO_no {xs f : List Int} {b : Int} (h : okAO xs f b = false) : ansAO xs f b = [] := by simp [ansAO, h]
theorem ansAO_yes {xs f : List Int} {b : Int} (h : okAO xs f b = true) : ansAO xs f b = rowsN (itA xs b f) (lenA xs b f) := by simp [ansAO, h]
theorem ansAO_small (xs f : List Int) (b : Int) : SSmall (ansAO xs f b) := by
  cases h : okAO xs f b
  · rw [ansAO_no h]; exact ⟨by simp, by simp, by simp [offL]⟩
  · rw [ansAO_yes h]
    have h1 : okAr xs f b = true := by simp only [okAO, Bool.and_eq_true] at h; exact h.1
    obtain ⟨hg, -, -, hr⟩ := okAr_all h1
    have := (good_length hg).2
    exact rowsA_small _ (Nat.le_trans (leastC_le _ _) (by decide)) fun j _ => by rw [(itA_rise hg hr j).len]; omega
set_option maxHeartbeats 3200000 in
theorem specArrayOrbit_any (v : Value) (xs : List Int) (u : Value) (f : List Int) (b : Int) (w : World) (hv : Ints w v xs) (hl : xs.length ≤ 1048576) (hu : Ints w u f) (hm : f.length ≤ 1048576) (wf : (Lit.int .i64 b).wf = true) :
    Calls Try.prog 33 #[.agg #[v], u, .int .i64 b] w fun (r : Ending) w' => ∃ q, r = Ending.returned (.tuple #[q, .bool (okAO xs f b)]) ∧ OwnSS 3 22 w' w.heap.size w'.heap.size q (ansAO xs f b) ∧ SSmall (ansAO xs f b) ∧ Below w.heap.size w w' := by
  have HV := hid hv
  have HU := hid hu
  have HL := hid (ansAO_small xs f b)
  clear hv hu wf
  go_enter Try.func33, Try.ntmps33
  have HB := hid (below_alloc (Below.refl _ w) (.cells #[v] 28))
  have A0 := hid (At.newAt w v 28 w.heap.size (by simp))
  go_wp2_with fail
  refine (pcIs_any _ _ xs f b _ (HV.out.below HB.out) (HU.out.below HB.out) hl hm).mono ?_
  rintro e w' ⟨rfl, hb⟩
  replace HB := hid (below_to HB.out hb)
  replace A0 := hid (A0.out.below hb)
  clear hb
  cases hq : okAr xs f b
  · have HO := hid (okAO_no1 hq)
    clear hq
    have ebox0 := A0.out.1
    go_wp2
    go_ret2
    exact ⟨_, ret_vbA HO.out.symm, by rw [ansAO_no HO.out]; exact OwnSS.nil _ _ _ _ _, HL.out, HB.out⟩
  · have HQ := hid hq
    obtain ⟨hgd, b0, b1, hri⟩ := okAr_all hq
    have HRi := hid hri
    have HG := hid hgd
    clear hgd hri
    have hl1 := (good_length HG.out).1
    have hl10 := (good_length HG.out).2
    clear hq
    have ebox0 := A0.out.1
    go_wp2_with fail
    refine (l1OwnA_any _ f _ (HU.out.below HB.out) hm).mono ?_
    rintro e w1 ⟨q, rfl, ho, hb1⟩
    obtain ⟨qA, qn, qc, rfl⟩ := ho.shape3
    have HS2 := hid (OwnSS.single (ts := 22) ho hb1.size)
    have Hb2 := hid (below_alloc hb1 (.cells #[.slice qA qn qc] 22))
    have hsz : (w1.alloc (.cells #[.slice qA qn qc] 22)).heap.size = w1.heap.size + 1 := by simp
    have HSz := hid hsz
    have ebox2 := (A0.out.below Hb2.out).1
    have HR1 : Hid (rowsN (itA xs b f) 1 = [f]) := hid rfl
    clear ho hb1 hsz ebox0
    go_wp2_with fail
    clear ebox2
    refine (pcRow_any _ _ xs f b _ ((HV.out.below HB.out).below Hb2.out) ((HU.out.below HB.out).below Hb2.out) HG.out HRi.out b0 b1).mono ?_
    rintro e w3 ⟨p, rfl, hp, hb3⟩
    rw [show wdK xs b f (dnW xs.length) xs.length = itA xs b f 1 from itA_next xs b f 0] at hp
    have HS3 := hid (HS2.out.below hb3)
    have Hb3 := hid (below_to Hb2.out hb3)
    have HP3 := hid hp
    have HZ3 := hid hb3.size
    obtain ⟨pA, pn, pc, rfl⟩ := hp.shape3
    clear hb3 hp
    go_wp2
    go_loopw [8, 9] (fun out now wr => ∃ k E : Nat, 1 ≤ k ∧ k ≤ 1000 ∧ OwnSS 3 22 wr w'.heap.size E out (rowsN (itA xs b f) k) ∧ OwnI 3 wr w'.heap.size now (itA xs b f k) ∧ (∀ bb, now.ownBlock = some bb → E ≤ bb) ∧ E ≤ wr.heap.size ∧ Hid (∀ j, 1 ≤ j → j < k → bkA xs b f j = false) ∧ Below w'.heap.size w' wr) (fun out _ _ => 1001 - (match out with | .slice _ m _ => m | _ => 0))
    case atStart => exact ⟨1, w1.heap.size + 1, Nat.le_refl _, by omega, by rw [HR1.out]; exact HS3.out, HP3.out.mono (by have := Hb2.out.size; omega), fun bb hb => by have h1 := (HP3.out.blockLt bb hb).1; rw [HSz.out] at h1; exact h1, by have h1 := HZ3.out; rw [HSz.out] at h1; exact h1, hid (fun j a c => by omega), Hb3.out⟩
    case round =>
      obtain ⟨k, E, hk1, hk, hS, hP, hPE, hE, HJ, hb⟩ := hrel
      have HS := hid hS
      have HP := hid hP
      have HPE := hid hPE
      have Hb := hid hb
      obtain ⟨oA, oc, rfl, -⟩ := hS.rows
      rw [rowsN_length] at hS HS ⊢
      have HS := hid hS
      obtain ⟨nA, nn, nc, rfl⟩ := hP.shape3
      have HLk := hid (itA_rise HG.out HRi.out k)
      have hbz := hb.size
      have hbx := (A0.out.below hb).1
      have hlk : (itA xs b f k).length ≤ 1048576 := by rw [HLk.out.len]; omega
      clear hS hP hPE hb
      go_wp2_with fail
      clear hbx
      refine (l1SameL_any _ _ (itA xs b f k) f _ HP.out.ints ((HU.out.below HB.out).below Hb.out) hlk).mono ?_
      rintro e w4 ⟨rfl, hb4⟩
      have HBk : Hid (bkA xs b f k = sameL (itA xs b f k) f) := hid rfl
      obtain ⟨R, hR⟩ : ∃ R, sameL (itA xs b f k) f = R := ⟨_, rfl⟩
      rw [hR] at HBk ⊢
      have HS4 := hid (HS.out.below hb4)
      have HP4 := hid (HP.out.below hb4)
      have Hb4 := hid (below_to Hb.out hb4)
      have hz4 := hb4.size
      clear hR hb4
      cases R
      · by_cases h5 : k = 1000
        · subst h5
          have HO := hid (okAO_no2 (xs := xs) (f := f) (b := b) (by
            unfold lenA
            refine leastC_none fun j a c => ?_
            by_cases e : j = 1000
            · subst e; exact HBk.out
            · exact HJ.out j a (by omega)))
          go_wp2
          go_ret2
          exact ⟨_, ret_vbA HO.out.symm, by rw [ansAO_no HO.out]; exact OwnSS.nil _ _ _ _ _, HL.out, below_to HB.out Hb4.out⟩
        · have h5' : ((k : Int) == 1000) = false := by rw [beq_eq_false_iff_ne]; omega
          have HJ2 : Hid (∀ j, 1 ≤ j → j < k + 1 → bkA xs b f j = false) := hid (fun j a c => by
            by_cases e : j = k
            · subst e; exact HBk.out
            · exact HJ.out j a (by omega))
          have HRS := hid (rowsN_succ (itA xs b f) k)
          go_wp2_with (at_builtin; refine wpList_append_rowA rfl _ _ 44 22 3 rfl Try.underlying44 Try.info22 (by decide) w'.heap.size E _ _ (rowsN (itA xs b f) k) (itA xs b f k) rfl HS4.out HP4.out HPE.out rfl rfl (by rw [rowsN_length]; omega) (by omega) (by omega) ?_; rintro u5 w5 ho5 hp5 hb5; have hbx5 := (A0.out.below (Hb4.out.trans hb5)).1)
          have HS5 := hid ho5
          have HP5 := hid hp5
          have Hb5 := hid (Hb4.out.trans hb5)
          obtain ⟨o5A, o5n, o5c, rfl⟩ := ho5.shape3
          clear ho5 hp5 hb5 h5' hbx5
          refine (pcRow_any _ _ xs (itA xs b f k) b _ ((HV.out.below HB.out).below Hb5.out) HP5.out.ints HG.out HLk.out b0 b1).mono ?_
          rintro e w6 ⟨p6, rfl, hp6, hb6⟩
          rw [itA_next] at hp6
          have HS6 : Hid (OwnSS 3 22 w6 w'.heap.size w5.heap.size (.slice o5A o5n o5c) (rowsN (itA xs b f) (k + 1))) := hid (by rw [HRS.out]; exact HS5.out.below hb6)
          have HP6 := hid hp6
          have Hb6 := hid (below_to Hb5.out hb6)
          have HZ6 := hid hb6.size
          obtain ⟨p6A, p6n, p6c, rfl⟩ := hp6.shape3
          obtain ⟨o6A, o6c, hsh, -⟩ := HS6.out.rows
          injection hsh with hA5 hn hC5
          rw [rowsN_length] at hn
          subst hn
          subst hA5
          subst hC5
          clear hp6 hb6
          go_wp2
          go_roundw
          case rel => exact ⟨k + 1, w5.heap.size, by omega, by omega, HS6.out, HP6.out.mono (by have := Hb5.out.size; omega), fun bb hb => (HP6.out.blockLt bb hb).1, HZ6.out, HJ2, Hb6.out⟩
          case measure => simp; omega
      · have hlen := leastC_eq (f := bkA xs b f) (k := k) HJ.out HBk.out hk1 hk
        have HLen : Hid (lenA xs b f = k) := hid hlen
        have HO := hid (okAO_yes (xs := xs) (f := f) (b := b) HQ.out (by rw [HLen.out]; omega))
        clear hlen
        go_wp2
        go_ret2
        exact ⟨_, ret_vbA HO.out.symm, by rw [ansAO_yes HO.out, HLen.out]; exact (HS4.out.monoE (by omega)).monoBR HB.out.size, HL.out, below_to HB.out Hb4.out⟩
end Go.Proofs.Ytgepbekdgocnpaa
