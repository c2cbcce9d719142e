/- Texts AddRow, RowsN, AllI, one behind the other. -/
import Derived.Test.YtpdoheagfjeefaaPkPromotionTogglesProof01
import Derived.Test.YtpdoheagfjeefaaPkPromotionTogglesProof02
import Derived.Test.YtpdoheagfjeefaaPkPromotionTogglesProof10
/- A row of the call's own, appended to a slice of rows of the call's own. -/
namespace Go.Proofs.Ytpdoheagfjeefaa
open Go.RowKit Go.WideShapes Go.ChangeShapes
set_option linter.unusedVariables false

theorem own_apart {ti ts : TypeId} {w : World} {B B' n : Nat} {v u : Value} {l : List Int} {us : List Value} (hne : ti ≠ ts) (h : OwnI ti w B u l) (h2 : w.ownsRow B' ts 1 v n us) : u.ownBlock = none ∨ u.ownBlock ≠ v.ownBlock := by
  rcases hu : u.ownBlock with _ | k
  · exact .inl rfl
  · refine .inr fun e => ?_
    rcases h2.2 with ⟨rfl, _⟩ | ⟨b, cap, cur, rfl, _, hh, _⟩
    · simp [Value.ownBlock] at e
    · simp only [Value.ownBlock, Option.some.injEq] at e
      subst e
      rcases h.2 with ⟨rfl, _⟩ | ⟨g, cap', cur', rfl, _, hh', _⟩
      · simp [Value.ownBlock] at hu
      · simp only [Value.ownBlock, Option.some.injEq] at hu
        subst hu
        rw [hh] at hh'
        injection hh' with hh'
        injection hh' with _ hh'
        exact hne hh'.symm
/-- 'rows = append(rows, row)', all of the call's own, the row newer than what the slice has -/
theorem wpList_append_row {P : Program} {w W : World} {ops : Array Oper} {rest : List Oper} {o : Oper} {ac : Act} {Q : Exit → Act → World → Prop} (hgd : o.guard = none) (s x : Operand) (t ts ti : TypeId)
    (ho : o.op = .call { callee := .builtin .append, args := #[s, x], argTypes := #[t, t] }) (ht : P.underlying t = some (.slice ts)) (hinfo : (P.info? ts).map (fun i => (i.zero, i.size, i.bytes)) = some (some (.slice none 0 0), 1, 24))
    (hne : ti ≠ ts) (B E : Nat) (v u : Value) (ls : List (List Int)) (l : List Int) (hs : ac.eval s = v) (hown : OwnSS ti ts w B E v ls) (hu : OwnI ti w B u l) (huE : ∀ k, u.ownBlock = some k → E ≤ k)
    (hW : W = w.alloc (.cells #[u] ts)) (hx : ac.eval x = .slice (some ⟨w.heap.size, 0, none⟩) 1 1) (hlen : ls.length < 1048576) (hB : B ≤ w.heap.size) (hE : E ≤ w.heap.size)
    (h : ∀ v' w', OwnSS ti ts w' B w'.heap.size v' (ls ++ [l]) → Below B w w' → wpList P ops Q rest (ac.put o.dst v') w') : wpList P ops Q (o :: rest) ac W := by
  subst hW
  obtain ⟨i0, hi, hz0, hz1, hz2⟩ := info_parts hinfo
  obtain ⟨us, h1, h2, h3, h4, h5⟩ := hown
  obtain ⟨uA, un, uc, hush⟩ := hu.shape3
  have hulen : (un, uc, uA) = (un, uc, uA) := rfl
  refine wpList_append_own _ hgd s x t ho B ts i0 (.slice none 0 0) 1 24 ht hi hz0 hz1 hz2 rfl (by decide) v ls.length us hs (h2.alloc _) ⟨w.heap.size, 0, none⟩ 1 1 [u] hx rfl ?_ ?_ ?_ ?_ ?_ ?_
  · intro j y hj
    match j, hj with
    | 0, hj =>
      simp only [List.getElem?_cons_zero, Option.some.injEq] at hj
      subst hj
      exact (Blk.new w ts #[u]).cell 0
    | j + 1, hj => simp at hj
  · intro y hy
    simp only [List.mem_singleton] at hy
    subst hy; subst hush; rfl
  · unfold maxLen; omega
  · omega
  · simp; omega
  · intro v' w' h6 h7 _
    have hb : Below B w (w.alloc (.cells #[u] ts)) := (Below.refl _ _).alloc hB _
    have hB2 : Below B w w' := hb.grown h7 (by simp; omega) fun k hk => (h2.lt k hk).1
    have hsz : w.heap.size ≤ w'.heap.size := hB2.size
    refine h v' w' ⟨us ++ [u], by simp [h1], by simpa using h6, fun k hk => ?_, ?_, ?_⟩ hB2
    · exact (World.ownsRow.lt h6 k hk).2
    · intro j y m hy hm
      rw [List.getElem?_append] at hy hm
      by_cases hj : j < ls.length
      · rw [if_pos (by omega)] at hy
        rw [if_pos hj] at hm
        obtain ⟨a, b⟩ := h4 j y m hy hm
        exact ⟨(a.alloc _).grown h7 (own_apart hne a h2), fun k hk => by have := b k hk; omega⟩
      · rw [if_neg (by omega)] at hy
        rw [if_neg hj] at hm
        rcases Nat.eq_zero_or_pos (j - ls.length) with h0 | h0
        · rw [h0] at hm
          rw [h1, h0] at hy
          simp only [List.getElem?_cons_zero, Option.some.injEq] at hy hm
          subst hy; subst hm
          exact ⟨(hu.alloc _).grown h7 (own_apart hne hu h2), fun k hk => by have := (hu.blockLt k hk).2; omega⟩
        · rw [List.getElem?_eq_none (by simp; omega)] at hm; cases hm
    · have old : ∀ i y, i < us.length → us[i]? = some y → (y.ownBlock = none ∨ y.ownBlock ≠ u.ownBlock) := by
        intro i y hi hy
        have hl : ls[i]? = some ls[i] := List.getElem?_eq_getElem (by omega)
        obtain ⟨_, b⟩ := h4 i y _ hy hl
        rcases hq : y.ownBlock with _ | k
        · exact .inl rfl
        · refine .inr fun e => ?_
          have c1 := b k hq
          have c2 := huE k e.symm
          omega
      intro i j y y' hij hy hy'
      rw [List.getElem?_append] at hy hy'
      by_cases hi : i < us.length
      · rw [if_pos hi] at hy
        by_cases hj : j < us.length
        · rw [if_pos hj] at hy'
          exact h5 i j y y' hij hy hy'
        · rw [if_neg hj] at hy'
          rcases Nat.eq_zero_or_pos (j - us.length) with h0 | h0
          · rw [h0] at hy'
            simp only [List.getElem?_cons_zero, Option.some.injEq] at hy'
            subst hy'
            exact old i y hi hy
          · rw [List.getElem?_eq_none (by simp; omega)] at hy'; cases hy'
      · rw [if_neg hi] at hy
        rcases Nat.eq_zero_or_pos (i - us.length) with h0 | h0
        · rw [h0] at hy
          simp only [List.getElem?_cons_zero, Option.some.injEq] at hy
          subst hy
          by_cases hj : j < us.length
          · rw [if_pos hj] at hy'
            rcases old j y' hj hy' with h8 | h8
            · rcases hq : u.ownBlock with _ | k
              · exact .inl rfl
              · rw [h8]; exact .inr (by simp)
            · exact .inr (fun e => h8 e.symm)
          · rw [if_neg hj] at hy'
            rcases Nat.eq_zero_or_pos (j - us.length) with h0' | h0'
            · omega
            · rw [List.getElem?_eq_none (by simp; omega)] at hy'; cases hy'
        · rw [List.getElem?_eq_none (by simp; omega)] at hy; cases hy
end Go.Proofs.Ytpdoheagfjeefaa

/- Rows of lists told by a function. -/
namespace Go.Proofs.Ytpdoheagfjeefaa
open Go.RowKit Go.WideShapes Go.ChangeShapes
set_option linter.unusedVariables false

theorem OwnSS.monoBR {ti ts : TypeId} {w : World} {B B' E : Nat} {v : Value} {ls : List (List Int)} (h : OwnSS ti ts w B E v ls) (hB : B' ≤ B) : OwnSS ti ts w B' E v ls := by
  obtain ⟨us, h1, h2, h3, h4, h5⟩ := h
  refine ⟨us, h1, ?_, h3, fun j u l hu hl => ⟨(h4 j u l hu hl).1.mono hB, (h4 j u l hu hl).2⟩, h5⟩
  obtain ⟨a1, a2⟩ := h2
  refine ⟨a1, ?_⟩
  rcases a2 with a2 | ⟨g, cap, cur, hv, hg, r⟩
  · exact .inl a2
  · exact .inr ⟨g, cap, cur, hv, by omega, r⟩
theorem OwnSS.single {ti ts : TypeId} {w : World} {B : Nat} {u : Value} {l : List Int} (h : OwnI ti w B u l) (hB : B ≤ w.heap.size) : OwnSS ti ts (w.alloc (.cells #[u] ts)) B (w.heap.size + 1) (.slice (some ⟨w.heap.size, 0, none⟩) 1 1) [l] := by
  refine ⟨[u], rfl, ⟨rfl, .inr ⟨w.heap.size, 1, #[u], rfl, hB, heap_alloc_new w _, Nat.le_refl _, by unfold maxLen; omega, rfl, rfl⟩⟩, fun k hk => ?_, fun j y m hy hm => ?_, fun i j y y' hij hy hy' => ?_⟩
  · simp only [Value.ownBlock, Option.some.injEq] at hk; omega
  · match j, hy, hm with
    | 0, hy, hm =>
      simp only [List.getElem?_cons_zero, Option.some.injEq] at hy hm
      subst hy; subst hm
      exact ⟨h.alloc _, fun k hk => by have := (h.blockLt k hk).2; omega⟩
    | j + 1, hy, hm => simp at hy
  · match i, j, hij, hy, hy' with
    | 0, 0, hij, _, _ => exact absurd rfl hij
    | 0, j + 1, _, _, hy' => simp at hy'
    | i + 1, j, _, hy, _ => simp at hy
theorem OwnSS.monoE {ti ts : TypeId} {w : World} {B E E' : Nat} {v : Value} {ls : List (List Int)} (h : OwnSS ti ts w B E v ls) (hE : E ≤ E') : OwnSS ti ts w B E' v ls := by
  obtain ⟨us, h1, h2, h3, h4, h5⟩ := h
  exact ⟨us, h1, h2, fun k hk => Nat.lt_of_lt_of_le (h3 k hk) hE, fun j u l hu hl => ⟨(h4 j u l hu hl).1, fun k hk => Nat.lt_of_lt_of_le ((h4 j u l hu hl).2 k hk) hE⟩, h5⟩
def rowsN (f : Nat → List Int) (m : Nat) : List (List Int) := (List.range m).map f
theorem rowsN_succ (f : Nat → List Int) (m : Nat) : rowsN f (m + 1) = rowsN f m ++ [f m] := by
  unfold rowsN; rw [List.range_succ, List.map_append]; rfl
theorem rowsN_length (f : Nat → List Int) (m : Nat) : (rowsN f m).length = m := by simp [rowsN]
theorem rowsN_getD (f : Nat → List Int) {m j : Nat} (h : j < m) : (rowsN f m).getD j [] = f j := by simp [rowsN, List.getD, h]
theorem offL_leR {ls : List (List Int)} {m : Nat} (h : ∀ j, j < ls.length → (ls.getD j []).length ≤ m) (k : Nat) (hk : k ≤ ls.length) : offL ls k ≤ m * k := by
  induction k with
  | zero => simp [offL]
  | succ k ih =>
    have h1 := ih (by omega)
    have h2 := h k (by omega)
    unfold offL
    rw [Nat.mul_succ]; omega
theorem rowsN_small (f : Nat → List Int) {m : Nat} (hm : m ≤ 500) (h : ∀ j, j < m → (f j).length ≤ 10) : SSmall (rowsN f m) := by
  have h2 : ∀ j, j < (rowsN f m).length → ((rowsN f m).getD j []).length ≤ 1024 := by
    intro j hj
    rw [rowsN_length] at hj
    rw [rowsN_getD f hj]
    have := h j hj
    omega
  have hl := rowsN_length f m
  refine ⟨by omega, fun j hj => by have := h2 j hj; omega, ?_⟩
  have h3 := offL_leR h2 _ (Nat.le_refl _)
  have h4 : 1024 * (rowsN f m).length ≤ 1024 * 500 := Nat.mul_le_mul_left _ (by omega)
  omega
theorem rows_cell {w : World} {v : Value} {ls : List (List Int)} (h : IntsSS w v ls) {k : Nat} (hk : k < ls.length) : ∃ b o c u, v = .slice (some ⟨b, o, none⟩) ls.length c ∧ b < w.heap.size ∧ w.cell? ⟨b, o + k, none⟩ = some u ∧ Ints w u (ls.getD k []) := by
  obtain ⟨A, c, rfl, h⟩ := h
  obtain ⟨b, o, u, rfl, h1, h2, h3⟩ := h k hk
  exact ⟨b, o, c, u, rfl, h1, h2, h3⟩
end Go.Proofs.Ytpdoheagfjeefaa

/- AllLinear of the program. -/
namespace Go.Proofs.Ytpdoheagfjeefaa
open Go.RowKit Go.WideShapes Go.ChangeShapes
set_option linter.unusedVariables false

def okAL (xs : List Int) : Bool := good xs && decide (cntL xs ≤ 500)
def allLn (xs : List Int) : List (List Int) := rowsN (unrL xs) (cntL xs)
def ansAL (xs : List Int) : List (List Int) := if okAL xs then allLn xs else []
theorem okAL_no1 {xs : List Int} (h : good xs = false) : okAL xs = false := by simp [okAL, h]
theorem okAL_no2 {xs : List Int} (h : 500 < cntL xs) : okAL xs = false := by simp only [okAL, decide_eq_false (show ¬ cntL xs ≤ 500 by omega)]; simp
theorem okAL_yes {xs : List Int} (h : good xs = true) (k : cntL xs ≤ 500) : okAL xs = true := by simp only [okAL, h, decide_eq_true k]; rfl
theorem okAL_all {xs : List Int} (h : okAL xs = true) : good xs = true ∧ cntL xs ≤ 500 := by simpa [okAL] using h
theorem ansAL_no {xs : List Int} (h : okAL xs = false) : ansAL xs = [] := by simp [ansAL, h]
theorem ansAL_yes {xs : List Int} (h : okAL xs = true) : ansAL xs = allLn xs := by simp [ansAL, h]
theorem ansAL_small (xs : List Int) : SSmall (ansAL xs) := by
  cases h : okAL xs
  · rw [ansAL_no h]; exact ⟨by simp, by simp, by simp [offL]⟩
  · rw [ansAL_yes h]
    obtain ⟨h1, h2⟩ := okAL_all h
    exact rowsN_small _ h2 fun j _ => by rw [unrL_length]; exact (good_length h1).2
set_option maxHeartbeats 1600000 in
theorem implAllLinear_any (v : Value) (xs : List Int) (w : World) (hv : Ints w v xs) (hl : xs.length ≤ 1048576) :
    Calls Try.prog 68 #[.agg #[v]] w fun (r : Ending) w' => ∃ q, r = Ending.returned (.tuple #[q, .bool (okAL xs)]) ∧ OwnSS 3 24 w' w.heap.size w'.heap.size q (ansAL xs) ∧ SSmall (ansAL xs) ∧ Below w.heap.size w w' := by
  have HV := hid hv
  have HL := hid (ansAL_small xs)
  clear hv
  go_enter Try.func68, Try.ntmps68
  have HB := hid (below_alloc (Below.refl _ w) (.cells #[v] 26))
  have A0 := hid (At.newAt w v 26 w.heap.size (by simp))
  go_wp2_with fail
  refine (implIsPoset_any _ xs _ (HV.out.below HB.out) hl).mono ?_
  rintro e w' ⟨rfl, hb⟩
  replace HB := hid (below_to HB.out hb)
  replace A0 := hid (A0.out.below hb)
  clear hb
  cases hq : good xs
  · have HO := hid (okAL_no1 hq)
    clear hq
    have ebox0 := A0.out.1
    go_wp2
    go_ret2
    exact ⟨_, ret_vbL HO.out.symm, by rw [ansAL_no HO.out]; exact OwnSS.nil _ _ _ _ _, HL.out, HB.out⟩
  · have HG := hid hq
    have hl10 := (good_length hq).2
    have hxl := cntL_le hl10
    clear hq
    have ebox0 := A0.out.1
    go_wp2_with fail
    clear ebox0
    refine (endingsOf_any _ xs _ (HV.out.below HB.out) HG.out).mono ?_
    rintro e w' ⟨g, rfl, hT, hgw, hb⟩
    replace HB := hid (below_to HB.out hb)
    replace A0 := hid (A0.out.below hb)
    clear hb
    have hc := cell_zero hT (by omega)
    have HT := hid hT
    obtain ⟨x, hx⟩ : ∃ x, cntL xs = x := ⟨_, rfl⟩
    rw [hx] at hc hxl
    have HX := hid hx
    have HC := hid hc
    clear hT hx
    by_cases h5 : (500 : Int) < (x : Int)
    · have HO := hid (okAL_no2 (xs := xs) (by rw [HX.out]; omega))
      have ebox0 := A0.out.1
      go_wp2
      go_ret2
      exact ⟨_, ret_vbL HO.out.symm, by rw [ansAL_no HO.out]; exact OwnSS.nil _ _ _ _ _, HL.out, HB.out⟩
    · have HO := hid (okAL_yes (xs := xs) HG.out (by rw [HX.out]; omega))
      have hx5 : x ≤ 500 := by omega
      have ebox0 := A0.out.1
      go_wp2
      clear hc h5
      go_loopw [5, 21] (fun out i wr => ∃ k : Nat, k ≤ x ∧ i = .int .i64 k ∧ OwnSS 3 24 wr w'.heap.size wr.heap.size out (rowsN (unrL xs) k) ∧ Below w'.heap.size w' wr) (fun _ i _ => x - (intOf i).toNat)
      case atStart => exact ⟨0, Nat.zero_le _, rfl, OwnSS.nil _ _ _ _ _, Below.refl _ _⟩
      case round =>
        obtain ⟨k, hk, rfl, hS, hb⟩ := hrel
        have Hb := hid hb
        have HS := hid hS
        have hbx := (A0.out.below hb).1
        obtain ⟨oA, oc, rfl, -⟩ := hS.rows
        have hbz := hb.size
        clear hS hb
        by_cases hlt : k < x
        · have hgb : g < w'.heap.size := World.block_lt_of_cell? w' _ HC.out
          have HRS := hid (rowsN_succ (unrL xs) k)
          go_wp2_with fail
          clear hbx
          refine (linearWith_any g v xs k _ ((HV.out.below HB.out).below Hb.out) (HT.out.below Hb.out hgb) HG.out (by have := HX.out; unfold cntL at this; omega)).mono ?_
          rintro e w4 ⟨u, rfl, ho, hb4⟩
          have HS4 := hid (HS.out.below hb4)
          have HO4 := hid (ho.mono hbz)
          have HOB := hid (fun b hb => (ho.blockLt b hb).1)
          have Hb4 := hid (below_to Hb.out hb4)
          have hz4 := hb4.size
          obtain ⟨uA, un, uc, rfl⟩ := ho.shape3
          clear ho hb4
          go_wp2_with (at_builtin; refine wpList_append_row rfl _ _ 49 24 3 rfl Try.underlying49 Try.info24 (by decide) w'.heap.size wr.heap.size _ _ (rowsN (unrL xs) k) (unrL xs k) rfl HS4.out HO4.out HOB.out rfl rfl (by rw [rowsN_length]; omega) (by omega) (by omega) ?_; rintro u5 w5 ho5 hb5)
          go_roundw
          case rel => exact ⟨k + 1, by omega, by go_num, by rw [HRS.out]; exact ho5, Hb4.out.trans hb5⟩
          case measure => simp [intOf]; omega
        · obtain rfl : k = x := by omega
          have HY : Hid (ansAL xs = rowsN (unrL xs) k) := hid (by rw [ansAL_yes HO.out]; unfold allLn; rw [HX.out])
          go_wp2
          go_ret2
          exact ⟨_, ret_vbL HO.out.symm, by rw [HY.out]; exact HS.out.monoBR HB.out.size, HL.out, below_to HB.out Hb.out⟩
theorem unrL_Lw {xs : List Int} {r : Nat} (hr : r < cntL xs) : Lw xs.length (unrL xs r) :=
  ⟨unrL_length xs r, inW_of fun j hj => by
    rw [unrL_length] at hj
    unfold unrL
    rw [mkL_getD hj]
    have := unE_lt (xs := xs) (r := r) hr hj
    omega⟩
end Go.Proofs.Ytpdoheagfjeefaa
