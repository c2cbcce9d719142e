/- Texts DrLw, PrK, AddRow, RowsN, AllI, Sam, Comm, one behind the other. -/
import Derived.BigQuiet
import Derived.Test.YtpdoheagfjeefaaPkLinearRankedProof01
import Derived.Test.YtpdoheagfjeefaaPkLinearRankedProof02
import Derived.Test.YtpdoheagfjeefaaPkLinearRankedProof07
import Derived.Test.YtpdoheagfjeefaaPkLinearRankedProof08
import Derived.Test.YtpdoheagfjeefaaPkLinearRankedProof10
import Derived.Test.YtpdoheagfjeefaaPkLinearRankedProof12
/- A draw of the model, chapter 4: a poset and a rank. -/
namespace Go.Proofs.Ytpdoheagfjeefaa
open Go.RowKit Go.WideShapes Go.ChangeShapes
set_option linter.unusedVariables false

theorem four_range (n m : Nat) (hn : n ≤ 10000000000) (hm : m < 4) : -1 ≤ [(-1 : Int), 0, (n : Int) - 1, (n : Int)].getD m 0 ∧ [(-1 : Int), 0, (n : Int) - 1, (n : Int)].getD m 0 ≤ 10000000000 := by
  rcases (by omega : m = 0 ∨ m = 1 ∨ m = 2 ∨ m = 3) with rfl | rfl | rfl | rfl <;> simp <;> omega
set_option maxHeartbeats 1600000 in
theorem drawLinearWith_any (v : Value) (bs : List Int) (w : World) (hb : BytesB w w.heap.size v bs) (hl : bs.length ≤ 1048576) :
    Calls Try.prog 64 #[v] w fun (r : Ending) w' => ∃ u xs s, r = .returned (.tuple #[.agg #[u], .int .i64 s]) ∧ (Lit.int .i64 s).wf = true ∧ OwnI 3 w' w.heap.size u xs ∧ xs.length ≤ 21 ∧ Below w.heap.size w w' := by
  have HBy := hid hb
  obtain ⟨vA, vc, rfl, -⟩ := hb
  have HA0 := hid (Blk.new w 26 #[.slice none 0 0])
  have HB0 := hid (below_alloc (Below.refl _ w) (.cells #[.slice none 0 0] 26))
  go_enter Try.func64, Try.ntmps64
  go_wp2_with fail
  have HC := hid (Cur.new (w.alloc (.cells #[.slice none 0 0] 26)) _ bs (w.heap.size + 1) (by simp) ((HBy.out.below HB0.out).up (by simp)) hl)
  have HB1 := hid (below_alloc HB0.out (.cells #[.slice vA bs.length vc, .int .i64 0, .int .u64 0] 79))
  have HA1 := hid (HA0.out.alloc (.cells #[.slice vA bs.length vc, .int .i64 0, .int .u64 0] 79))
  refine (poset_any (w.heap.size + 1) 0 8 _ HC.out (by decide) (by decide) (by decide)).mono ?_
  rintro e w2 ⟨u, xs, rfl, ho, hl2, hd⟩
  have HB2 := hid (hd.belowAll HB1.out (by omega))
  have HA2 := hid (HA1.out.turned hd.turned (Or.inl (by omega)))
  have HO := hid (ho.mono (show w.heap.size + 2 ≤ _ by simp))
  have HC2 := hid hd.cur
  have hz2 : w.heap.size + 2 ≤ w2.heap.size := by have := hd.turned.size; simpa using this
  obtain ⟨uA, uc, rfl, -⟩ := HO.out.shape
  clear ho hd HA0 HA1 HB0 HB1 HC
  obtain ⟨B5, hB5⟩ : ∃ B5, w2.heap.size = B5 := ⟨_, rfl⟩
  have hbox := (Blk.new w2 26 #[.slice uA xs.length uc]).cell 0
  go_wp2_with fail
  have HI4 : Hid (DI 3 26 w 210 B5 (.slice uA xs.length uc) xs (w2.alloc (.cells #[.slice uA xs.length uc] 26))) :=
    hid ⟨below_alloc HB2.out _, (HC2.out.le (by omega)).below (below_alloc (Below.refl _ _) _), HA2.out.alloc _, by rw [← hB5]; exact Blk.new w2 _ _, HO.out.alloc _⟩
  have hB6 : w.heap.size + 2 ≤ B5 := by omega
  clear hbox HB2 HC2 HA2 HO hB5 hz2
  refine (poGood_any _ xs _ HI4.out.2.2.2.2.ints (by omega)).mono ?_
  rintro e w5 ⟨rfl, hb5⟩
  have HI5 := hid (HI4.out.below hb5)
  clear hb5 HI4
  have t5 := HI5.out.2.2.2.1.cell 0
  cases hg : good xs
  · skip
    have a1 := HI5.out.2.2.1.cell 0
    have a2 := HI5.out.2.2.1.frozen 0
    go_wp2
    refine bodyPost_ret (v := .tuple #[.agg #[.slice uA xs.length uc], .int .i64 0]) (by simp [results, Try.results64, go_sem, a1]) rfl ⟨_, xs, _, rfl, wf_i64 _ (by omega) (by omega), (HI5.out.fin _).1, hl2, (HI5.out.fin _).2⟩
  · have hl10 := (good_length hg).2
    have he := ends_le hl10 0
    obtain ⟨M, hM⟩ : ∃ M, 2 ^ xs.length = M := ⟨_, rfl⟩
    have hM0 : 0 < M := by rw [← hM]; exact Nat.two_pow_pos _
    go_wp2_with fail
    refine (liCounts_any _ xs M _ HI5.out.2.2.2.2.ints hg hM).mono ?_
    rintro e w6 ⟨g, rfl, hK, hgl, hb6⟩
    have hc0 : w6.cell? ⟨g, 0, none⟩ = some (.int .i64 (endG xs 0 0 : Nat)) := by
      rw [hK.cell, Vals_get (by rw [mkL_length]; exact hM0), mkL_getD hM0]
    have hn2 : endG xs 0 0 ≤ 10000000000 := by unfold endG; split <;> omega
    obtain ⟨n, hn⟩ : ∃ n, endG xs 0 0 = n := ⟨_, rfl⟩
    rw [hn] at hc0 hn2
    have HI6 := hid (HI5.out.below hb6)
    clear hb6 HI5 t5 hK hgl hn hg he hM
    have t6 := HI6.out.2.2.2.1.cell 0
    have hMi : (0 : Int) < (M : Int) := by omega
    go_wp2_with fail
    refine (one_any (w.heap.size + 1) _ 5 _ HI6.out.2.1 (by decide)).mono ?_
    rintro e w7 ⟨b, rfl, hc7, ht7⟩
    have HI7 := hid (HI6.out.drawn hc7 ht7 hB6)
    clear hc7 ht7 HI6 t6 hc0
    have t7 := HI7.out.2.2.2.1.cell 0
    have a1 := HI7.out.2.2.1.cell 0
    have a2 := HI7.out.2.2.1.frozen 0
    cases b
    · skip
      have HIa := hid (HI7.out.below (below_drewN (Below.refl _ _) 1))
      go_wp2
      go_region_held3 (fun W => W.cell? ⟨B5, 0, none⟩ = some (.slice uA xs.length uc) ∧ Hid (∃ z, DZ 3 26 w B5 z (.slice uA xs.length uc) xs W)) (first | exact ⟨((DZ.of HIy.out).box hB6 _).2.2.1.cell 0, hid ⟨_, (DZ.of HIy.out).box hB6 _⟩⟩ | exact ⟨HIy.out.2.2.2.1.cell 0, hid ⟨_, DZ.of HIy.out⟩⟩ | exact ⟨HIa.out.2.2.2.1.cell 0, hid ⟨_, DZ.of HIa.out⟩⟩) (first | (go_at_call 107; refine (pick_any (w.heap.size + 1) 212 _ _ HIa.out.2.1 (by decide)).mono ?_; rintro e w31 ⟨m, hm, rfl, hc, ht⟩; have HIy := hid (HIa.out.drawn hc ht hB6); have hm2 : m ≤ 60000 := (by omega); clear hc ht hm; have t31 := HIy.out.2.2.2.1.cell 0; have a31 := HIy.out.2.2.1.cell 0; have f31 := HIy.out.2.2.1.frozen 0) | (go_at_call 130; refine (l1Least_any _ _ _).mono ?_; rintro e w30 ⟨rfl, rfl⟩))
      all_goals
        have H20 := hid ((DZ.of HIy.out).box hB6 (.slice uA xs.length uc))
        have a20 := H20.out.2.1.cell 0
        go_wp2
      all_goals
        refine bodyPost_ret (v := .tuple #[.agg #[.slice uA xs.length uc], .int .i64 (m : Int)]) (by simp [results, Try.results64, go_sem, a20]) rfl ⟨_, xs, _, rfl, wf_i64 _ (by omega) (by omega), H20.out.2.2.2.mono (show w.heap.size ≤ _ by omega), hl2, H20.out.1⟩
    · skip
      have hw1 : IntKind.i64.wrap ((n : Int) - 1) = (n : Int) - 1 := by rw [IntKind.wrap_i64]; omega
      have hzw : w.heap.size + 2 ≤ w7.heap.size := by have := HI7.out.2.2.2.1.lt; omega
      have HIa := hid (HI7.out.below (below_drewN (below_alloc (Below.refl _ _) (.cells #[.int .i64 (-1), .int .i64 0, .int .i64 ((n : Int) - 1), .int .i64 (n : Int)] 3)) 1))
      have t4 : (w7.alloc (.cells #[.int .i64 (-1), .int .i64 0, .int .i64 ((n : Int) - 1), .int .i64 (n : Int)] 3)).cell? ⟨B5, 0, none⟩ = some (.slice uA xs.length uc) := (HI7.out.2.2.2.1.alloc _).cell 0
      go_wp2
      go_region_with (go_at_call 120; refine (among_any (w.heap.size + 1) 212 _ [-1, 0, (n : Int) - 1, (n : Int)] _ HIa.out.2.1 (by decide) ⟨_, Blk.newDrew w7 _ _, by simp at hzw ⊢; omega, rfl⟩ (by simp) (by simp)).mono ?_; rintro e w8 ⟨m, hm, rfl, hc8, ht8⟩; have HI8 := hid (HIa.out.drawn hc8 ht8 hB6); have HM := hid (four_range n m hn2 (by simpa using hm)); clear hc8 ht8; have t8 := HI8.out.2.2.2.1.cell 0; have a8 := HI8.out.2.2.1.cell 0; have f8 := HI8.out.2.2.1.frozen 0; generalize ([-1, 0, (n : Int) - 1, (n : Int)] : List Int).getD m 0 = y at HM ⊢)
      all_goals
        have H9 := hid ((DZ.of HI8.out).box hB6 (.slice uA xs.length uc))
        have a9 := H9.out.2.1.cell 0
        go_wp2
      all_goals
        refine bodyPost_ret (v := .tuple #[.agg #[.slice uA xs.length uc], .int .i64 y]) (by simp [results, Try.results64, go_sem, a9]) rfl ⟨_, xs, y, rfl, wf_i64 _ (by have := HM.out; omega) (by have := HM.out; omega), H9.out.2.2.2.mono (show w.heap.size ≤ _ by omega), hl2, H9.out.1⟩
end Go.Proofs.Ytpdoheagfjeefaa

/- Lengths of the orbits of promotion. No program is named here. -/
namespace Go.Proofs.Ytpdoheagfjeefaa
set_option linter.unusedVariables false

def idsN (N : Nat) : List Int := (List.range N).map fun (i : Nat) => (i : Int)
theorem idsN_length (N : Nat) : (idsN N).length = N := by simp [idsN]
theorem idsN_get {N j : Nat} (h : j < N) : ((idsN N).getD j 0).toNat = j := by simp [idsN, List.getD, h]
def perR (xs : List Int) (r : Nat) : Nat := per (proR xs) (ends xs 0) r
def lensP (xs : List Int) : List Int := (starts (proR xs) (ends xs 0) (idsN (ends xs 0))).map fun s => ((perR xs s : Nat) : Int)
theorem idsD {xs : List Int} (j : Nat) (hj : j < (idsN (ends xs 0)).length) : ltB (ends xs 0) ((idsN (ends xs 0)).getD j 0).toNat = true := by
  rw [idsN_length] at hj
  rw [idsN_get hj]
  exact decide_eq_true hj
theorem ltB_of {N r : Nat} (h : r < N) : ltB N r = true := decide_eq_true h
theorem perR_range {xs : List Int} (h1 : 1 ≤ xs.length) {r : Nat} (hr : r < ends xs 0) : 1 ≤ perR xs r ∧ perR xs r ≤ ends xs 0 := by
  obtain ⟨-, b, c, -⟩ := (proMov h1).perS (ltB_of hr)
  exact ⟨b, c⟩
theorem starts_lt {xs : List Int} {s : Nat} (hs : s ∈ starts (proR xs) (ends xs 0) (idsN (ends xs 0))) : s < ends xs 0 := by
  have := startsN_D (D := ltB (ends xs 0)) idsD (Nat.le_refl _) hs
  simpa [ltB] using this
theorem lens_range {xs : List Int} (h1 : 1 ≤ xs.length) (y : Int) (hy : y ∈ lensP xs) : 1 ≤ y ∧ y ≤ ends xs 0 := by
  unfold lensP at hy
  rw [List.mem_map] at hy
  obtain ⟨s, hs, rfl⟩ := hy
  have := perR_range h1 (starts_lt hs)
  omega
theorem lens_length (xs : List Int) : (lensP xs).length ≤ ends xs 0 := by
  unfold lensP starts
  rw [List.length_map]
  have := startsN_length (proR xs) (ends xs 0) (idsN (ends xs 0)) (idsN (ends xs 0)).length
  rw [idsN_length] at this ⊢
  exact this
/-! ### one orbit -/
theorem it_back {xs : List Int} (h1 : 1 ≤ xs.length) {r : Nat} (hr : r < ends xs 0) (j : Nat) : (turnN (fun _ => pro1 xs) j (unrL xs r) = unrL xs r) ↔ iter (proR xs) j r = r := by
  obtain ⟨a, b⟩ := it_unr h1 hr j
  rw [a]
  exact ⟨fun e => unr_inj b hr e, fun e => by rw [e]⟩
theorem it_per {xs : List Int} (h1 : 1 ≤ xs.length) {r : Nat} (hr : r < ends xs 0) : turnN (fun _ => pro1 xs) (perR xs r) (unrL xs r) = unrL xs r := (it_back h1 hr _).2 ((proMov h1).perS (ltB_of hr)).1
theorem it_ne {xs : List Int} (h1 : 1 ≤ xs.length) {r : Nat} (hr : r < ends xs 0) {j : Nat} (hj : 1 ≤ j) (hjp : j < perR xs r) : turnN (fun _ => pro1 xs) j (unrL xs r) ≠ unrL xs r := fun e => ((proMov h1).perS (ltB_of hr)).2.2.2 j hj hjp ((it_back h1 hr _).1 e)
end Go.Proofs.Ytpdoheagfjeefaa

/- A row of the call's own, appended to a slice of rows of the call's own. -/
namespace Go.Proofs.Ytpdoheagfjeefaa
open Go.RowKit Go.WideShapes Go.ChangeShapes
set_option linter.unusedVariables false

theorem own_apart {ti ts : TypeId} {w : World} {B B' n : Nat} {v u : Value} {l : List Int} {us : List Value} (hne : ti ≠ ts) (h : OwnI ti w B u l) (h2 : w.ownsRow B' ts 1 v n us) : u.ownBlock = none ∨ u.ownBlock ≠ v.ownBlock := by
  rcases hu : u.ownBlock with _ | k
  · exact .inl rfl
  · refine .inr fun e => ?_
    rcases h2.2 with ⟨rfl, _⟩ | ⟨b, cap, cur, rfl, _, hh, _⟩
    · simp [Value.ownBlock] at e
    · simp only [Value.ownBlock, Option.some.injEq] at e
      subst e
      rcases h.2 with ⟨rfl, _⟩ | ⟨g, cap', cur', rfl, _, hh', _⟩
      · simp [Value.ownBlock] at hu
      · simp only [Value.ownBlock, Option.some.injEq] at hu
        subst hu
        rw [hh] at hh'
        injection hh' with hh'
        injection hh' with _ hh'
        exact hne hh'.symm
/-- 'rows = append(rows, row)', all of the call's own, the row newer than what the slice has -/
theorem wpList_append_row {P : Program} {w W : World} {ops : Array Oper} {rest : List Oper} {o : Oper} {ac : Act} {Q : Exit → Act → World → Prop} (hgd : o.guard = none) (s x : Operand) (t ts ti : TypeId)
    (ho : o.op = .call { callee := .builtin .append, args := #[s, x], argTypes := #[t, t] }) (ht : P.underlying t = some (.slice ts)) (hinfo : (P.info? ts).map (fun i => (i.zero, i.size, i.bytes)) = some (some (.slice none 0 0), 1, 24))
    (hne : ti ≠ ts) (B E : Nat) (v u : Value) (ls : List (List Int)) (l : List Int) (hs : ac.eval s = v) (hown : OwnSS ti ts w B E v ls) (hu : OwnI ti w B u l) (huE : ∀ k, u.ownBlock = some k → E ≤ k)
    (hW : W = w.alloc (.cells #[u] ts)) (hx : ac.eval x = .slice (some ⟨w.heap.size, 0, none⟩) 1 1) (hlen : ls.length < 1048576) (hB : B ≤ w.heap.size) (hE : E ≤ w.heap.size)
    (h : ∀ v' w', OwnSS ti ts w' B w'.heap.size v' (ls ++ [l]) → Below B w w' → wpList P ops Q rest (ac.put o.dst v') w') : wpList P ops Q (o :: rest) ac W := by
  subst hW
  obtain ⟨i0, hi, hz0, hz1, hz2⟩ := info_parts hinfo
  obtain ⟨us, h1, h2, h3, h4, h5⟩ := hown
  obtain ⟨uA, un, uc, hush⟩ := hu.shape3
  have hulen : (un, uc, uA) = (un, uc, uA) := rfl
  refine wpList_append_own _ hgd s x t ho B ts i0 (.slice none 0 0) 1 24 ht hi hz0 hz1 hz2 rfl (by decide) v ls.length us hs (h2.alloc _) ⟨w.heap.size, 0, none⟩ 1 1 [u] hx rfl ?_ ?_ ?_ ?_ ?_ ?_
  · intro j y hj
    match j, hj with
    | 0, hj =>
      simp only [List.getElem?_cons_zero, Option.some.injEq] at hj
      subst hj
      exact (Blk.new w ts #[u]).cell 0
    | j + 1, hj => simp at hj
  · intro y hy
    simp only [List.mem_singleton] at hy
    subst hy; subst hush; rfl
  · unfold maxLen; omega
  · omega
  · simp; omega
  · intro v' w' h6 h7 _
    have hb : Below B w (w.alloc (.cells #[u] ts)) := (Below.refl _ _).alloc hB _
    have hB2 : Below B w w' := hb.grown h7 (by simp; omega) fun k hk => (h2.lt k hk).1
    have hsz : w.heap.size ≤ w'.heap.size := hB2.size
    refine h v' w' ⟨us ++ [u], by simp [h1], by simpa using h6, fun k hk => ?_, ?_, ?_⟩ hB2
    · exact (World.ownsRow.lt h6 k hk).2
    · intro j y m hy hm
      rw [List.getElem?_append] at hy hm
      by_cases hj : j < ls.length
      · rw [if_pos (by omega)] at hy
        rw [if_pos hj] at hm
        obtain ⟨a, b⟩ := h4 j y m hy hm
        exact ⟨(a.alloc _).grown h7 (own_apart hne a h2), fun k hk => by have := b k hk; omega⟩
      · rw [if_neg (by omega)] at hy
        rw [if_neg hj] at hm
        rcases Nat.eq_zero_or_pos (j - ls.length) with h0 | h0
        · rw [h0] at hm
          rw [h1, h0] at hy
          simp only [List.getElem?_cons_zero, Option.some.injEq] at hy hm
          subst hy; subst hm
          exact ⟨(hu.alloc _).grown h7 (own_apart hne hu h2), fun k hk => by have := (hu.blockLt k hk).2; omega⟩
        · rw [List.getElem?_eq_none (by simp; omega)] at hm; cases hm
    · have old : ∀ i y, i < us.length → us[i]? = some y → (y.ownBlock = none ∨ y.ownBlock ≠ u.ownBlock) := by
        intro i y hi hy
        have hl : ls[i]? = some ls[i] := List.getElem?_eq_getElem (by omega)
        obtain ⟨_, b⟩ := h4 i y _ hy hl
        rcases hq : y.ownBlock with _ | k
        · exact .inl rfl
        · refine .inr fun e => ?_
          have c1 := b k hq
          have c2 := huE k e.symm
          omega
      intro i j y y' hij hy hy'
      rw [List.getElem?_append] at hy hy'
      by_cases hi : i < us.length
      · rw [if_pos hi] at hy
        by_cases hj : j < us.length
        · rw [if_pos hj] at hy'
          exact h5 i j y y' hij hy hy'
        · rw [if_neg hj] at hy'
          rcases Nat.eq_zero_or_pos (j - us.length) with h0 | h0
          · rw [h0] at hy'
            simp only [List.getElem?_cons_zero, Option.some.injEq] at hy'
            subst hy'
            exact old i y hi hy
          · rw [List.getElem?_eq_none (by simp; omega)] at hy'; cases hy'
      · rw [if_neg hi] at hy
        rcases Nat.eq_zero_or_pos (i - us.length) with h0 | h0
        · rw [h0] at hy
          simp only [List.getElem?_cons_zero, Option.some.injEq] at hy
          subst hy
          by_cases hj : j < us.length
          · rw [if_pos hj] at hy'
            rcases old j y' hj hy' with h8 | h8
            · rcases hq : u.ownBlock with _ | k
              · exact .inl rfl
              · rw [h8]; exact .inr (by simp)
            · exact .inr (fun e => h8 e.symm)
          · rw [if_neg hj] at hy'
            rcases Nat.eq_zero_or_pos (j - us.length) with h0' | h0'
            · omega
            · rw [List.getElem?_eq_none (by simp; omega)] at hy'; cases hy'
        · rw [List.getElem?_eq_none (by simp; omega)] at hy; cases hy
end Go.Proofs.Ytpdoheagfjeefaa

/- Rows of lists told by a function. -/
namespace Go.Proofs.Ytpdoheagfjeefaa
open Go.RowKit Go.WideShapes Go.ChangeShapes
set_option linter.unusedVariables false

theorem OwnSS.monoBR {ti ts : TypeId} {w : World} {B B' E : Nat} {v : Value} {ls : List (List Int)} (h : OwnSS ti ts w B E v ls) (hB : B' ≤ B) : OwnSS ti ts w B' E v ls := by
  obtain ⟨us, h1, h2, h3, h4, h5⟩ := h
  refine ⟨us, h1, ?_, h3, fun j u l hu hl => ⟨(h4 j u l hu hl).1.mono hB, (h4 j u l hu hl).2⟩, h5⟩
  obtain ⟨a1, a2⟩ := h2
  refine ⟨a1, ?_⟩
  rcases a2 with a2 | ⟨g, cap, cur, hv, hg, r⟩
  · exact .inl a2
  · exact .inr ⟨g, cap, cur, hv, by omega, r⟩
theorem OwnSS.single {ti ts : TypeId} {w : World} {B : Nat} {u : Value} {l : List Int} (h : OwnI ti w B u l) (hB : B ≤ w.heap.size) : OwnSS ti ts (w.alloc (.cells #[u] ts)) B (w.heap.size + 1) (.slice (some ⟨w.heap.size, 0, none⟩) 1 1) [l] := by
  refine ⟨[u], rfl, ⟨rfl, .inr ⟨w.heap.size, 1, #[u], rfl, hB, heap_alloc_new w _, Nat.le_refl _, by unfold maxLen; omega, rfl, rfl⟩⟩, fun k hk => ?_, fun j y m hy hm => ?_, fun i j y y' hij hy hy' => ?_⟩
  · simp only [Value.ownBlock, Option.some.injEq] at hk; omega
  · match j, hy, hm with
    | 0, hy, hm =>
      simp only [List.getElem?_cons_zero, Option.some.injEq] at hy hm
      subst hy; subst hm
      exact ⟨h.alloc _, fun k hk => by have := (h.blockLt k hk).2; omega⟩
    | j + 1, hy, hm => simp at hy
  · match i, j, hij, hy, hy' with
    | 0, 0, hij, _, _ => exact absurd rfl hij
    | 0, j + 1, _, _, hy' => simp at hy'
    | i + 1, j, _, hy, _ => simp at hy
theorem OwnSS.monoE {ti ts : TypeId} {w : World} {B E E' : Nat} {v : Value} {ls : List (List Int)} (h : OwnSS ti ts w B E v ls) (hE : E ≤ E') : OwnSS ti ts w B E' v ls := by
  obtain ⟨us, h1, h2, h3, h4, h5⟩ := h
  exact ⟨us, h1, h2, fun k hk => Nat.lt_of_lt_of_le (h3 k hk) hE, fun j u l hu hl => ⟨(h4 j u l hu hl).1, fun k hk => Nat.lt_of_lt_of_le ((h4 j u l hu hl).2 k hk) hE⟩, h5⟩
def rowsN (f : Nat → List Int) (m : Nat) : List (List Int) := (List.range m).map f
theorem rowsN_succ (f : Nat → List Int) (m : Nat) : rowsN f (m + 1) = rowsN f m ++ [f m] := by
  unfold rowsN; rw [List.range_succ, List.map_append]; rfl
theorem rowsN_length (f : Nat → List Int) (m : Nat) : (rowsN f m).length = m := by simp [rowsN]
theorem rowsN_getD (f : Nat → List Int) {m j : Nat} (h : j < m) : (rowsN f m).getD j [] = f j := by simp [rowsN, List.getD, h]
theorem offL_leR {ls : List (List Int)} {m : Nat} (h : ∀ j, j < ls.length → (ls.getD j []).length ≤ m) (k : Nat) (hk : k ≤ ls.length) : offL ls k ≤ m * k := by
  induction k with
  | zero => simp [offL]
  | succ k ih =>
    have h1 := ih (by omega)
    have h2 := h k (by omega)
    unfold offL
    rw [Nat.mul_succ]; omega
theorem rowsN_small (f : Nat → List Int) {m : Nat} (hm : m ≤ 500) (h : ∀ j, j < m → (f j).length ≤ 10) : SSmall (rowsN f m) := by
  have h2 : ∀ j, j < (rowsN f m).length → ((rowsN f m).getD j []).length ≤ 1024 := by
    intro j hj
    rw [rowsN_length] at hj
    rw [rowsN_getD f hj]
    have := h j hj
    omega
  have hl := rowsN_length f m
  refine ⟨by omega, fun j hj => by have := h2 j hj; omega, ?_⟩
  have h3 := offL_leR h2 _ (Nat.le_refl _)
  have h4 : 1024 * (rowsN f m).length ≤ 1024 * 500 := Nat.mul_le_mul_left _ (by omega)
  omega
theorem rows_cell {w : World} {v : Value} {ls : List (List Int)} (h : IntsSS w v ls) {k : Nat} (hk : k < ls.length) : ∃ b o c u, v = .slice (some ⟨b, o, none⟩) ls.length c ∧ b < w.heap.size ∧ w.cell? ⟨b, o + k, none⟩ = some u ∧ Ints w u (ls.getD k []) := by
  obtain ⟨A, c, rfl, h⟩ := h
  obtain ⟨b, o, u, rfl, h1, h2, h3⟩ := h k hk
  exact ⟨b, o, c, u, rfl, h1, h2, h3⟩
end Go.Proofs.Ytpdoheagfjeefaa

/- AllLinear of the program. -/
namespace Go.Proofs.Ytpdoheagfjeefaa
open Go.RowKit Go.WideShapes Go.ChangeShapes
set_option linter.unusedVariables false

def okAL (xs : List Int) : Bool := good xs && decide (cntL xs ≤ 500)
def allLn (xs : List Int) : List (List Int) := rowsN (unrL xs) (cntL xs)
def ansAL (xs : List Int) : List (List Int) := if okAL xs then allLn xs else []
theorem okAL_no1 {xs : List Int} (h : good xs = false) : okAL xs = false := by simp [okAL, h]
theorem okAL_no2 {xs : List Int} (h : 500 < cntL xs) : okAL xs = false := by simp only [okAL, decide_eq_false (show ¬ cntL xs ≤ 500 by omega)]; simp
theorem okAL_yes {xs : List Int} (h : good xs = true) (k : cntL xs ≤ 500) : okAL xs = true := by simp only [okAL, h, decide_eq_true k]; rfl
theorem okAL_all {xs : List Int} (h : okAL xs = true) : good xs = true ∧ cntL xs ≤ 500 := by simpa [okAL] using h
theorem ansAL_no {xs : List Int} (h : okAL xs = false) : ansAL xs = [] := by simp [ansAL, h]
theorem ansAL_yes {xs : List Int} (h : okAL xs = true) : ansAL xs = allLn xs := by simp [ansAL, h]
theorem ansAL_small (xs : List Int) : SSmall (ansAL xs) := by
  cases h : okAL xs
  · rw [ansAL_no h]; exact ⟨by simp, by simp, by simp [offL]⟩
  · rw [ansAL_yes h]
    obtain ⟨h1, h2⟩ := okAL_all h
    exact rowsN_small _ h2 fun j _ => by rw [unrL_length]; exact (good_length h1).2
set_option maxHeartbeats 1600000 in
theorem implAllLinear_any (v : Value) (xs : List Int) (w : World) (hv : Ints w v xs) (hl : xs.length ≤ 1048576) :
    Calls Try.prog 68 #[.agg #[v]] w fun (r : Ending) w' => ∃ q, r = Ending.returned (.tuple #[q, .bool (okAL xs)]) ∧ OwnSS 3 24 w' w.heap.size w'.heap.size q (ansAL xs) ∧ SSmall (ansAL xs) ∧ Below w.heap.size w w' := by
  have HV := hid hv
  have HL := hid (ansAL_small xs)
  clear hv
  go_enter Try.func68, Try.ntmps68
  have HB := hid (below_alloc (Below.refl _ w) (.cells #[v] 26))
  have A0 := hid (At.newAt w v 26 w.heap.size (by simp))
  go_wp2_with fail
  refine (implIsPoset_any _ xs _ (HV.out.below HB.out) hl).mono ?_
  rintro e w' ⟨rfl, hb⟩
  replace HB := hid (below_to HB.out hb)
  replace A0 := hid (A0.out.below hb)
  clear hb
  cases hq : good xs
  · have HO := hid (okAL_no1 hq)
    clear hq
    have ebox0 := A0.out.1
    go_wp2
    go_ret2
    exact ⟨_, ret_vbL HO.out.symm, by rw [ansAL_no HO.out]; exact OwnSS.nil _ _ _ _ _, HL.out, HB.out⟩
  · have HG := hid hq
    have hl10 := (good_length hq).2
    have hxl := cntL_le hl10
    clear hq
    have ebox0 := A0.out.1
    go_wp2_with fail
    clear ebox0
    refine (endingsOf_any _ xs _ (HV.out.below HB.out) HG.out).mono ?_
    rintro e w' ⟨g, rfl, hT, hgw, hb⟩
    replace HB := hid (below_to HB.out hb)
    replace A0 := hid (A0.out.below hb)
    clear hb
    have hc := cell_zero hT (by omega)
    have HT := hid hT
    obtain ⟨x, hx⟩ : ∃ x, cntL xs = x := ⟨_, rfl⟩
    rw [hx] at hc hxl
    have HX := hid hx
    have HC := hid hc
    clear hT hx
    by_cases h5 : (500 : Int) < (x : Int)
    · have HO := hid (okAL_no2 (xs := xs) (by rw [HX.out]; omega))
      have ebox0 := A0.out.1
      go_wp2
      go_ret2
      exact ⟨_, ret_vbL HO.out.symm, by rw [ansAL_no HO.out]; exact OwnSS.nil _ _ _ _ _, HL.out, HB.out⟩
    · have HO := hid (okAL_yes (xs := xs) HG.out (by rw [HX.out]; omega))
      have hx5 : x ≤ 500 := by omega
      have ebox0 := A0.out.1
      go_wp2
      clear hc h5
      go_loopw [5, 21] (fun out i wr => ∃ k : Nat, k ≤ x ∧ i = .int .i64 k ∧ OwnSS 3 24 wr w'.heap.size wr.heap.size out (rowsN (unrL xs) k) ∧ Below w'.heap.size w' wr) (fun _ i _ => x - (intOf i).toNat)
      case atStart => exact ⟨0, Nat.zero_le _, rfl, OwnSS.nil _ _ _ _ _, Below.refl _ _⟩
      case round =>
        obtain ⟨k, hk, rfl, hS, hb⟩ := hrel
        have Hb := hid hb
        have HS := hid hS
        have hbx := (A0.out.below hb).1
        obtain ⟨oA, oc, rfl, -⟩ := hS.rows
        have hbz := hb.size
        clear hS hb
        by_cases hlt : k < x
        · have hgb : g < w'.heap.size := World.block_lt_of_cell? w' _ HC.out
          have HRS := hid (rowsN_succ (unrL xs) k)
          go_wp2_with fail
          clear hbx
          refine (linearWith_any g v xs k _ ((HV.out.below HB.out).below Hb.out) (HT.out.below Hb.out hgb) HG.out (by have := HX.out; unfold cntL at this; omega)).mono ?_
          rintro e w4 ⟨u, rfl, ho, hb4⟩
          have HS4 := hid (HS.out.below hb4)
          have HO4 := hid (ho.mono hbz)
          have HOB := hid (fun b hb => (ho.blockLt b hb).1)
          have Hb4 := hid (below_to Hb.out hb4)
          have hz4 := hb4.size
          obtain ⟨uA, un, uc, rfl⟩ := ho.shape3
          clear ho hb4
          go_wp2_with (at_builtin; refine wpList_append_row rfl _ _ 49 24 3 rfl Try.underlying49 Try.info24 (by decide) w'.heap.size wr.heap.size _ _ (rowsN (unrL xs) k) (unrL xs k) rfl HS4.out HO4.out HOB.out rfl rfl (by rw [rowsN_length]; omega) (by omega) (by omega) ?_; rintro u5 w5 ho5 hb5)
          go_roundw
          case rel => exact ⟨k + 1, by omega, by go_num, by rw [HRS.out]; exact ho5, Hb4.out.trans hb5⟩
          case measure => simp [intOf]; omega
        · obtain rfl : k = x := by omega
          have HY : Hid (ansAL xs = rowsN (unrL xs) k) := hid (by rw [ansAL_yes HO.out]; unfold allLn; rw [HX.out])
          go_wp2
          go_ret2
          exact ⟨_, ret_vbL HO.out.symm, by rw [HY.out]; exact HS.out.monoBR HB.out.size, HL.out, below_to HB.out Hb.out⟩
theorem unrL_Lw {xs : List Int} {r : Nat} (hr : r < cntL xs) : Lw xs.length (unrL xs r) :=
  ⟨unrL_length xs r, inW_of fun j hj => by
    rw [unrL_length] at hj
    unfold unrL
    rw [mkL_getD hj]
    have := unE_lt (xs := xs) (r := r) hr hj
    omega⟩
end Go.Proofs.Ytpdoheagfjeefaa

/- Two lists alike: the model's l1Same, slices.Equal. -/
namespace Go.Proofs.Ytpdoheagfjeefaa
open Go.RowKit Go.WideShapes Go.ChangeShapes
set_option linter.unusedVariables false

def sameL (xs ys : List Int) : Bool := decide (xs = ys)
theorem sameL_len {xs ys : List Int} (h : xs.length ≠ ys.length) : sameL xs ys = false := by
  unfold sameL; rw [decide_eq_false_iff_not]; rintro rfl; exact h rfl
theorem sameL_at {xs ys : List Int} {j : Nat} (h : xs.getD j 0 ≠ ys.getD j 0) : sameL xs ys = false := by
  unfold sameL; rw [decide_eq_false_iff_not]; rintro rfl; exact h rfl
theorem sameL_all {xs ys : List Int} (hl : xs.length = ys.length) (h : ∀ j, j < xs.length → xs.getD j 0 = ys.getD j 0) : sameL xs ys = true := by
  unfold sameL; rw [decide_eq_true_iff]
  refine List.ext_getElem hl fun j h1 h2 => ?_
  have := h j h1
  simpa [List.getD, h1, h2] using this
theorem l1SameL_any (v u : Value) (xs ys : List Int) (w : World) (hv : Ints w v xs) (hu : Ints w u ys) (hl : xs.length ≤ 1048576) :
    Calls Try.prog 88 #[v, u] w fun r w' => r = .returned (.bool (sameL xs ys)) ∧ Below w.heap.size w w' := by
  have HV := hid hv
  have HU := hid hu
  obtain ⟨A, c, rfl, hA⟩ := hv
  obtain ⟨A2, c2, rfl, hA2⟩ := hu
  have HA := hid hA
  have HA2 := hid hA2
  clear hA hA2
  by_cases hlen : xs.length = ys.length
  · have HLe := hid hlen
    obtain ⟨n, hn⟩ : ∃ n, xs.length = n := ⟨_, rfl⟩
    have hn2 : ys.length = n := by omega
    have HN1 := hid hn
    have HN2 := hid hn2
    rw [hn, hn2]
    rw [hn] at hl
    clear hlen hn hn2
    go_enter Try.func88, Try.ntmps88
    go_wp2
    go_loopw [13] (fun i wr => ∃ k : Nat, k ≤ n ∧ i = .int .i64 k ∧ Hid (∀ j, j < k → xs.getD j 0 = ys.getD j 0) ∧ Below w.heap.size w wr) (fun i _ => n - (intOf i).toNat)
    case atStart => exact ⟨0, Nat.zero_le _, rfl, hid (fun j hj => absurd hj (Nat.not_lt_zero _)), Below.refl _ _⟩
    case round =>
      obtain ⟨k, hk, rfl, HJ, hb⟩ := hrel
      have HB := hid hb
      clear hb
      by_cases hlt : k < n
      · obtain ⟨b, o, rfl, hbl, hc⟩ := HA.out (by intro h; have := HN1.out; simp [h] at this; omega)
        obtain ⟨b2, o2, rfl, hbl2, hc2⟩ := HA2.out (by intro h; have := HN2.out; simp [h] at this; omega)
        have hc1' := (HB.out.cell (p := ⟨b, o + k, none⟩) hbl).trans (hc k (by have := HN1.out; omega))
        have hc2' := (HB.out.cell (p := ⟨b2, o2 + k, none⟩) hbl2).trans (hc2 k (by have := HN2.out; omega))
        obtain ⟨x, hx⟩ : ∃ x, xs.getD k 0 = x := ⟨_, rfl⟩
        obtain ⟨y, hy⟩ : ∃ y, ys.getD k 0 = y := ⟨_, rfl⟩
        rw [hx] at hc1'
        rw [hy] at hc2'
        have HX := hid hx
        have HY := hid hy
        clear hc hc2 hx hy
        by_cases hxy : x = y
        · subst hxy
          have hne : (x != x) = false := by simp
          have HJ2 : Hid (∀ j, j < k + 1 → xs.getD j 0 = ys.getD j 0) := hid (fun j hj => by
            by_cases e : j = k
            · subst e; rw [HX.out, HY.out]
            · exact HJ.out j (by omega))
          go_wp2_with fail
          go_quiet (fail)
          go_wp2
          go_roundw
          case rel => exact ⟨k + 1, by omega, by go_num, HJ2, below_drewN HB.out _⟩
          case measure => simp [intOf]; omega
        · have hne : (x != y) = true := by rw [bne_iff_ne]; exact hxy
          have HF := hid (sameL_at (xs := xs) (ys := ys) (j := k) (by rw [HX.out, HY.out]; exact hxy))
          clear hxy
          go_wp2_with fail
          go_quiet (fail)
          go_wp2
          go_ret
          exact ⟨ret_bool HF.out.symm, below_drewN HB.out _⟩
      · obtain rfl : k = n := by omega
        have HT := hid (sameL_all HLe.out (fun j hj => HJ.out j (by have := HN1.out; omega)))
        go_wp2
        go_ret
        exact ⟨ret_bool HT.out.symm, HB.out⟩
  · have HF := hid (sameL_len hlen)
    have hne : ((xs.length : Int) != (ys.length : Int)) = true := by rw [bne_iff_ne]; omega
    clear hlen
    go_enter Try.func88, Try.ntmps88
    go_wp2
    go_ret
    exact ⟨ret_bool HF.out.symm, Below.refl _ _⟩
theorem equalL_any (v u : Value) (xs ys : List Int) (w : World) (hv : Ints w v xs) (hu : Ints w u ys) (hl : xs.length ≤ 1048576) :
    Calls Try.prog 125 #[v, u] w fun r w' => r = .returned (.bool (sameL xs ys)) ∧ Below w.heap.size w w' := by
  have HV := hid hv
  have HU := hid hu
  obtain ⟨A, c, rfl, hA⟩ := hv
  obtain ⟨A2, c2, rfl, hA2⟩ := hu
  have HA := hid hA
  have HA2 := hid hA2
  clear hA hA2
  by_cases hlen : xs.length = ys.length
  · have HLe := hid hlen
    obtain ⟨n, hn⟩ : ∃ n, xs.length = n := ⟨_, rfl⟩
    have hn2 : ys.length = n := by omega
    have HN1 := hid hn
    have HN2 := hid hn2
    rw [hn, hn2]
    rw [hn] at hl
    clear hlen hn hn2
    go_enter Try.func125, Try.ntmps125
    go_wp2
    go_loopw [13] (fun i wr => ∃ k : Nat, k ≤ n ∧ i = .int .i64 k ∧ Hid (∀ j, j < k → xs.getD j 0 = ys.getD j 0) ∧ Below w.heap.size w wr) (fun i _ => n - (intOf i).toNat)
    case atStart => exact ⟨0, Nat.zero_le _, rfl, hid (fun j hj => absurd hj (Nat.not_lt_zero _)), Below.refl _ _⟩
    case round =>
      obtain ⟨k, hk, rfl, HJ, hb⟩ := hrel
      have HB := hid hb
      clear hb
      by_cases hlt : k < n
      · obtain ⟨b, o, rfl, hbl, hc⟩ := HA.out (by intro h; have := HN1.out; simp [h] at this; omega)
        obtain ⟨b2, o2, rfl, hbl2, hc2⟩ := HA2.out (by intro h; have := HN2.out; simp [h] at this; omega)
        have hc1' := (HB.out.cell (p := ⟨b, o + k, none⟩) hbl).trans (hc k (by have := HN1.out; omega))
        have hc2' := (HB.out.cell (p := ⟨b2, o2 + k, none⟩) hbl2).trans (hc2 k (by have := HN2.out; omega))
        obtain ⟨x, hx⟩ : ∃ x, xs.getD k 0 = x := ⟨_, rfl⟩
        obtain ⟨y, hy⟩ : ∃ y, ys.getD k 0 = y := ⟨_, rfl⟩
        rw [hx] at hc1'
        rw [hy] at hc2'
        have HX := hid hx
        have HY := hid hy
        clear hc hc2 hx hy
        by_cases hxy : x = y
        · subst hxy
          have hne : (x != x) = false := by simp
          have HJ2 : Hid (∀ j, j < k + 1 → xs.getD j 0 = ys.getD j 0) := hid (fun j hj => by
            by_cases e : j = k
            · subst e; rw [HX.out, HY.out]
            · exact HJ.out j (by omega))
          go_wp2_with fail
          go_quiet (fail)
          go_wp2
          go_roundw
          case rel => exact ⟨k + 1, by omega, by go_num, HJ2, below_drewN HB.out _⟩
          case measure => simp [intOf]; omega
        · have hne : (x != y) = true := by rw [bne_iff_ne]; exact hxy
          have HF := hid (sameL_at (xs := xs) (ys := ys) (j := k) (by rw [HX.out, HY.out]; exact hxy))
          clear hxy
          go_wp2_with fail
          go_quiet (fail)
          go_wp2
          go_ret
          exact ⟨ret_bool HF.out.symm, below_drewN HB.out _⟩
      · obtain rfl : k = n := by omega
        have HT := hid (sameL_all HLe.out (fun j hj => HJ.out j (by have := HN1.out; omega)))
        go_wp2
        go_ret
        exact ⟨ret_bool HT.out.symm, HB.out⟩
  · have HF := hid (sameL_len hlen)
    have hne : ((xs.length : Int) != (ys.length : Int)) = true := by rw [bne_iff_ne]; omega
    clear hlen
    go_enter Try.func125, Try.ntmps125
    go_wp2
    go_ret
    exact ⟨ret_bool HF.out.symm, Below.refl _ _⟩

end Go.Proofs.Ytpdoheagfjeefaa

/- When two toggles commute. No program is named here. -/
namespace Go.Proofs.Ytpdoheagfjeefaa
set_option linter.unusedVariables false

/-- would toggling at e turn s? -/
def can (xs : List Int) (s e : Nat) : Bool := holdsIdeal xs (s ^^^ 2 ^ e)
theorem tog_can {xs : List Int} {s e : Nat} (h : can xs s e = true) : tog xs s e = s ^^^ 2 ^ e := tog_yes h
theorem tog_cant {xs : List Int} {s e : Nat} (h : can xs s e = false) : tog xs s e = s := tog_no h
/-- an element that is there can go if nothing above it is there; one that isn't can come if all below are there -/
theorem can_in {xs : List Int} (hg : good xs = true) {s e : Nat} (hs : holdsIdeal xs s = true) (he : e < xs.length) (hb : s.testBit e = true) :
    can xs s e = true ↔ ∀ i, i < xs.length → s.testBit i = true → (row xs i).testBit e = false := by
  unfold can
  rw [holdsIdeal_row]
  have hI := holdsIdeal_row.1 hs
  constructor
  · intro h i hi hbi
    cases hr : (row xs i).testBit e
    · rfl
    · exfalso
      have hei : e < i := testBit_lt (row_lt hg hi).2 hr
      have := h i hi (by rw [xor_bit, if_neg (by omega)]; exact hbi) e hr
      rw [xor_bit, if_pos rfl, hb] at this; cases this
  · intro h i hi hbi j hj
    rw [xor_bit] at hbi ⊢
    split at hbi
    · rw [hb] at hbi; cases hbi
    · split
      · rename_i hje
        subst hje
        rw [h i hi hbi] at hj; cases hj
      · exact hI i hi hbi j hj
theorem can_out {xs : List Int} (hg : good xs = true) {s e : Nat} (hs : holdsIdeal xs s = true) (he : e < xs.length) (hb : s.testBit e = false) :
    can xs s e = true ↔ ∀ j, (row xs e).testBit j = true → s.testBit j = true := by
  unfold can
  rw [holdsIdeal_row]
  have hI := holdsIdeal_row.1 hs
  constructor
  · intro h j hj
    have hje : j < e := testBit_lt (row_lt hg he).2 hj
    have := h e he (by rw [xor_bit, if_pos rfl, hb]; rfl) j hj
    rw [xor_bit, if_neg (by omega)] at this
    exact this
  · intro h i hi hbi j hj
    rw [xor_bit] at hbi ⊢
    split at hbi
    · rename_i hie
      subst hie
      have hje : j < i := testBit_lt (row_lt hg hi).2 hj
      rw [if_neg (by omega)]
      exact h j hj
    · have := hI i hi hbi j hj
      split
      · rename_i hje
        subst hje
        rw [hb] at this; cases this
      · exact this
/-- no cover between d and e, neither way -/
def Apart (xs : List Int) (d e : Nat) : Prop :=
  ((row xs e).testBit d = true → ∃ m, m < xs.length ∧ (row xs e).testBit m = true ∧ (row xs m).testBit d = true) ∧
  ((row xs d).testBit e = true → ∃ m, m < xs.length ∧ (row xs d).testBit m = true ∧ (row xs m).testBit e = true)
theorem Apart.symm {xs : List Int} {d e : Nat} (h : Apart xs d e) : Apart xs e d := ⟨h.2, h.1⟩
theorem can_stays {xs : List Int} (hg : good xs = true) {s d e : Nat} (hs : holdsIdeal xs s = true) (hd : d < xs.length) (he : e < xs.length) (hne : d ≠ e) (hap : Apart xs d e) (hce : can xs s e = true) :
    can xs (s ^^^ 2 ^ e) d = can xs s d := by
  have hs' : holdsIdeal xs (s ^^^ 2 ^ e) = true := hce
  have hI := holdsIdeal_row.1 hs
  have hbd : (s ^^^ 2 ^ e).testBit d = s.testBit d := by rw [xor_bit, if_neg hne]
  rw [Bool.eq_iff_iff]
  cases hb : s.testBit d
  · rw [can_out hg hs hd hb, can_out hg hs' hd (by rw [hbd, hb])]
    -- e below d: by an m between
    cases hr : (row xs d).testBit e
    · constructor
      · intro h j hj
        have := h j hj
        rw [xor_bit] at this
        split at this
        · rename_i hje; subst hje; rw [hr] at hj; cases hj
        · exact this
      · intro h j hj
        rw [xor_bit]
        split
        · rename_i hje; subst hje; rw [hr] at hj; cases hj
        · exact h j hj
    · obtain ⟨m, hm, h1, h2⟩ := hap.2 hr
      have hem : e < m := testBit_lt (row_lt hg hm).2 h2
      -- m isn't there, now and then
      have hms : s.testBit m = false := by
        cases hse : s.testBit e
        · cases hsm : s.testBit m
          · rfl
          · rw [hI m hm hsm e h2] at hse; cases hse
        · have := (can_in hg hs he hse).1 hce
          cases hsm : s.testBit m
          · rfl
          · rw [this m hm hsm] at h2; cases h2
      constructor
      · intro h
        have := h m h1
        rw [xor_bit, if_neg (by omega), hms] at this; cases this
      · intro h
        have := h m h1
        rw [hms] at this; cases this
  · rw [can_in hg hs hd hb, can_in hg hs' hd (by rw [hbd, hb])]
    cases hr : (row xs e).testBit d
    · constructor
      · intro h i hi hbi
        by_cases hie : i = e
        · subst hie; exact hr
        · exact h i hi (by rw [xor_bit, if_neg hie]; exact hbi)
      · intro h i hi hbi
        by_cases hie : i = e
        · subst hie; exact hr
        · rw [xor_bit, if_neg hie] at hbi
          exact h i hi hbi
    · obtain ⟨m, hm, h1, h2⟩ := hap.1 hr
      have hdm : d < m := testBit_lt (row_lt hg hm).2 h2
      have hme : m < e := testBit_lt (row_lt hg he).2 h1
      have hms : s.testBit m = true := by
        cases hse : s.testBit e
        · exact (can_out hg hs he hse).1 hce m h1
        · exact hI e he hse m h1
      constructor
      · intro h
        have := h m hm (by rw [xor_bit, if_neg (by omega)]; exact hms)
        rw [h2] at this; cases this
      · intro h
        have := h m hm hms
        rw [h2] at this; cases this
theorem xor_swap (s d e : Nat) : s ^^^ 2 ^ d ^^^ 2 ^ e = s ^^^ 2 ^ e ^^^ 2 ^ d := by
  rw [Nat.xor_assoc, Nat.xor_comm (2 ^ d), ← Nat.xor_assoc]
theorem tog_swap {xs : List Int} (hg : good xs = true) {s d e : Nat} (hs : holdsIdeal xs s = true) (hd : d < xs.length) (he : e < xs.length) (hap : Apart xs d e) :
    tog xs (tog xs s d) e = tog xs (tog xs s e) d := by
  by_cases hne : d = e
  · subst hne; rfl
  · cases h1 : can xs s d
    · cases h2 : can xs s e
      · rw [tog_cant h1, tog_cant h2, tog_cant h1]
      · rw [tog_cant h1, tog_can h2, tog_cant]
        rw [can_stays hg hs hd he hne hap h2, h1]
    · cases h2 : can xs s e
      · rw [tog_can h1, tog_cant h2, tog_can h1, tog_cant]
        rw [can_stays hg hs he hd (fun h => hne h.symm) hap.symm h1, h2]
      · rw [tog_can h1, tog_can h2, tog_can, tog_can, xor_swap]
        · rw [can_stays hg hs hd he hne hap h2, h1]
        · rw [can_stays hg hs he hd (fun h => hne h.symm) hap.symm h1, h2]
/-- d covered by e: the elements below e, without d, tell the toggles apart -/
theorem tog_apart {xs : List Int} (hg : good xs = true) {d e : Nat} (he : e < xs.length) (hr : (row xs e).testBit d = true)
    (hno : ∀ m, m < xs.length → (row xs e).testBit m = true → (row xs m).testBit d = false) :
    holdsIdeal xs (row xs e ^^^ 2 ^ d) = true ∧ row xs e ^^^ 2 ^ d < 2 ^ xs.length ∧
      (tog xs (tog xs (row xs e ^^^ 2 ^ d) d) e).testBit e = true ∧ (tog xs (tog xs (row xs e ^^^ 2 ^ d) e) d).testBit e = false := by
  have hde : d < e := testBit_lt (row_lt hg he).2 hr
  have hd : d < xs.length := by omega
  have hrow : holdsIdeal xs (row xs e) = true := holdsIdeal_row.2 fun i hi hbi j hj => row_closed hg he hbi hj
  have hI : holdsIdeal xs (row xs e ^^^ 2 ^ d) = true := (can_in hg hrow hd hr).2 fun i hi hbi => hno i hi hbi
  have hee : (row xs e).testBit e = false := Nat.testBit_lt_two_pow (row_lt hg he).2
  have hb : (row xs e ^^^ 2 ^ d).testBit d = false := by rw [xor_bit, if_pos rfl, hr]; rfl
  have h1 : tog xs (row xs e ^^^ 2 ^ d) d = row xs e := by
    rw [tog_can (show can xs (row xs e ^^^ 2 ^ d) d = true by unfold can; rw [xor_xor]; exact hrow), xor_xor]
  have h2 : tog xs (row xs e) e = row xs e ^^^ 2 ^ e := tog_can ((can_out hg hrow he hee).2 fun j hj => hj)
  have hee2 : (row xs e ^^^ 2 ^ d).testBit e = false := by rw [xor_bit, if_neg (by omega)]; exact hee
  have h3 : tog xs (row xs e ^^^ 2 ^ d) e = row xs e ^^^ 2 ^ d := tog_cant (by
    cases hc : can xs (row xs e ^^^ 2 ^ d) e
    · rfl
    · have := (can_out hg hI he hee2).1 hc d hr
      rw [hb] at this; cases this)
  refine ⟨hI, ?_, ?_, ?_⟩
  · exact xor_lt_len (row_lt_len hg he) hd
  · rw [h1, h2, xor_bit, if_pos rfl, hee]; rfl
  · rw [h3, h1]; exact hee
/-- is one of them covered by the other? -/
def covered (xs : List Int) (d e : Nat) : Bool := (top xs (row xs (max d e))).testBit (min d e)
theorem top_row {xs : List Int} {i j : Nat} : (top xs (row xs i)).testBit j = true ↔ (row xs i).testBit j = true ∧ ∀ m, m < xs.length → (row xs i).testBit m = true → (row xs m).testBit j = false := by
  unfold top
  rw [sub_testBit, Bool.and_eq_true, Bool.not_eq_true']
  constructor
  · rintro ⟨h1, h2⟩
    refine ⟨h1, fun m hm hb => ?_⟩
    cases hr : (row xs m).testBit j
    · rfl
    · have := (underN_testBit xs (row xs i) xs.length j).2 ⟨m, hm, hb, hr⟩
      unfold under at h2
      rw [this] at h2; cases h2
  · rintro ⟨h1, h2⟩
    refine ⟨h1, ?_⟩
    cases hu : (under xs (row xs i)).testBit j
    · rfl
    · obtain ⟨m, hm, hb, hr⟩ := (underN_testBit xs (row xs i) xs.length j).1 hu
      have := h2 m hm hb
      unfold row at this
      rw [this] at hr; cases hr
theorem covered_no {xs : List Int} (hg : good xs = true) {d e : Nat} (hd : d < xs.length) (he : e < xs.length) (h : covered xs d e = false) : Apart xs d e := by
  have key : ∀ {a b : Nat}, a < xs.length → b < xs.length → (top xs (row xs b)).testBit a = false → (row xs b).testBit a = true → ∃ m, m < xs.length ∧ (row xs b).testBit m = true ∧ (row xs m).testBit a = true := by
    intro a b ha hb ht hr
    apply Classical.byContradiction
    intro hn
    rw [Bool.eq_false_iff] at ht
    apply ht
    refine top_row.2 ⟨hr, fun m hm hbm => ?_⟩
    cases hc : (row xs m).testBit a
    · rfl
    · exact absurd ⟨m, hm, hbm, hc⟩ hn
  unfold covered at h
  constructor
  · intro hr
    have hde : d < e := testBit_lt (row_lt hg he).2 hr
    rw [Nat.max_eq_right (by omega), Nat.min_eq_left (by omega)] at h
    exact key hd he h hr
  · intro hr
    have hde : e < d := testBit_lt (row_lt hg hd).2 hr
    rw [Nat.max_eq_left (by omega), Nat.min_eq_right (by omega)] at h
    exact key he hd h hr
/-- do the two toggles commute on s? -/
def swapAt (xs : List Int) (d e s : Nat) : Bool := tog xs (tog xs s d) e == tog xs (tog xs s e) d
theorem covered_yes {xs : List Int} (hg : good xs = true) {d e : Nat} (hd : d < xs.length) (he : e < xs.length) (h : covered xs d e = true) : ∃ s, s < 2 ^ xs.length ∧ holdsIdeal xs s = true ∧ swapAt xs d e s = false := by
  unfold covered at h
  rcases Nat.lt_trichotomy d e with hde | hde | hde
  · rw [Nat.max_eq_right (by omega), Nat.min_eq_left (by omega)] at h
    obtain ⟨h1, h2⟩ := top_row.1 h
    obtain ⟨h3, h4, h5, h6⟩ := tog_apart hg he h1 h2
    refine ⟨_, h4, h3, ?_⟩
    unfold swapAt
    rw [beq_eq_false_iff_ne]
    intro hc
    rw [hc, h6] at h5; cases h5
  · subst hde
    rw [Nat.max_self, Nat.min_self] at h
    obtain ⟨h1, -⟩ := top_row.1 h
    have := testBit_lt (row_lt hg hd).2 h1
    omega
  · rw [Nat.max_eq_left (by omega), Nat.min_eq_right (by omega)] at h
    obtain ⟨h1, h2⟩ := top_row.1 h
    obtain ⟨h3, h4, h5, h6⟩ := tog_apart hg hd h1 h2
    refine ⟨_, h4, h3, ?_⟩
    unfold swapAt
    rw [beq_eq_false_iff_ne]
    intro hc
    rw [← hc, h6] at h5; cases h5
theorem covered_all {xs : List Int} (hg : good xs = true) {d e s : Nat} (hd : d < xs.length) (he : e < xs.length) (h : covered xs d e = false) (hs : holdsIdeal xs s = true) : swapAt xs d e s = true := by
  unfold swapAt
  rw [beq_iff_eq]
  exact tog_swap hg hs hd he (covered_no hg hd he h)
end Go.Proofs.Ytpdoheagfjeefaa
