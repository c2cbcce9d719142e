/- All labels, as the model lists them. -/
import Derived.Test.YtgepbekdgocnpabLbM
import Derived.Test.YtgepbekdgocnpabNest2
import Derived.Test.YtgepbekdgocnpabRowsN
import Derived.Test.YtgepbekdgocnpabHeights
import Derived.Deep.AppendLies
import Derived.Deep.RegionLaw
namespace Go.Proofs.Ytgepbekdgocnpab
open Go.RowKit Go.WideShapes Go.ChangeShapes
set_option linter.unusedVariables false

theorem l1OwnB_any (v : Value) (xs : List Int) (w : World) (hv : Ints w v xs) (hl : xs.length ≤ 1048576) :
    Calls Try.prog 69 #[v] w fun (r : Ending) w' => ∃ u, r = Ending.returned u ∧ OwnI 3 w' w.heap.size u xs ∧ Below w.heap.size w w' := by
  have HV := hid hv
  clear hv
  go_enter Try.func69, Try.ntmps69
  go_wp2_with (at_builtin; refine wpList_append_ints rfl _ _ 22 3 rfl Try.underlying22 Try.info3 w.heap.size _ [] rfl (OwnI.empty 3 w) _ xs rfl (HV.out.alloc _) (by simpa using hl) (by simp) ?_; rintro u w1 ho hb)
  go_ret
  exact ⟨_, rfl, by simpa using ho, (below_alloc (Below.refl _ w) _).trans hb⟩
theorem own_ne3 {ti ts : TypeId} {w : World} {B q : Nat} {u : Value} {l : List Int} {cs : Array Value} (hne : ti ≠ ts) (h : OwnI ti w B u l) (hq : w.heap[q]? = some (.cells cs ts (0, 0))) : u.ownBlock ≠ some q := by
  intro e
  rcases h.2 with ⟨rfl, _⟩ | ⟨g, cap, cur, rfl, _, hh, _⟩
  · simp [Value.ownBlock] at e
  · simp only [Value.ownBlock, Option.some.injEq] at e
    subst e
    rw [hh] at hq
    injection hq with hq
    injection hq with _ hq
    exact hne hq
theorem step_append_intS {P : Program} {ops : Array Oper} {o : Oper} {a : Act} {w : World} {K : Act → World → Prop} {Q : Exit → Act → World → Prop} {E : Prop} (hgd : o.guard = none) (s x : Operand) (t e : TypeId)
    (ho : o.op = .call { callee := .builtin .append, args := #[s, x], argTypes := #[t, t] }) (ht : P.underlying t = some (.slice e)) (hinfo : (P.info? e).map (fun i => (i.zero, i.size, i.bytes)) = some (some (.int .i64 0), 1, 8))
    (B : Nat) (v : Value) (xs : List Int) (y : Int) (hs : a.eval s = v) (hown : OwnI e w B v xs) (g : Nat) (hx : a.eval x = .slice (some ⟨g, 0, none⟩) 1 1) (hg : Blk w g e #[.int .i64 y]) (hlen : xs.length < 1048576) (hB : B ≤ w.heap.size)
    (h : ∀ g' cap w', OwnI e w' B (.slice (some ⟨g', 0, none⟩) (xs.length + 1) cap) (xs ++ [y]) → w.grownBy w' v.ownBlock → (v.ownBlock = some g' ∨ g' = w.heap.size) → g' < w'.heap.size → K (a.put o.dst (.slice (some ⟨g', 0, none⟩) (xs.length + 1) cap)) w') :
    if Region.wanted o (yielded ops a.tmps) = true then Oper.wp P o a w K Q else E := by
  obtain ⟨i0, hi, hz0, hz1, hz2⟩ := info_parts hinfo
  refine step_append_lies w hgd s x t ho B e i0 (.int .i64 0) 1 8 ht hi hz0 hz1 hz2 rfl (by decide) v xs.length (xs.map (Value.int .i64)) hs hown ⟨g, 0, none⟩ 1 1 [.int .i64 y] hx rfl (World.news_of_block (cs := #[.int .i64 y]) hg) (by intro u hu; simp only [List.mem_singleton] at hu; subst hu; rfl) (by decide) (by unfold maxLen; omega) (by omega) hB _ rfl ?_
  intro g' cap w' h1 h2 h3 h4
  exact h g' cap w' (by unfold OwnI; simpa using h1) h2 h3 h4

/-- 'out = append(out, rows...)', the rows newer than all that out has -/
theorem wpList_append_rowsN {P : Program} {w : World} {ops : Array Oper} {rest : List Oper} {o : Oper} {ac : Act} {Q : Exit → Act → World → Prop} (hgd : o.guard = none) (s x : Operand) (t ts ti : TypeId)
    (ho : o.op = .call { callee := .builtin .append, args := #[s, x], argTypes := #[t, t] }) (ht : P.underlying t = some (.slice ts)) (hinfo : (P.info? ts).map (fun i => (i.zero, i.size, i.bytes)) = some (some (.slice none 0 0), 1, 24))
    (hne : ti ≠ ts) (B E B' E' : Nat) (v u : Value) (ls ms : List (List Int)) (hs : ac.eval s = v) (hown : OwnSS ti ts w B E v ls) (hx : ac.eval x = u) (hu : OwnSS ti ts w B' E' u ms) (hEB : E ≤ B') (hBB : B ≤ B')
    (hlen : ls.length + ms.length ≤ 1048576) (hB : B ≤ w.heap.size) (hE : E ≤ w.heap.size) (hE' : E' ≤ w.heap.size)
    (h : ∀ v' w', OwnSS ti ts w' B w'.heap.size v' (ls ++ ms) → Below B w w' → wpList P ops Q rest (ac.put o.dst v') w') : wpList P ops Q (o :: rest) ac w := by
  obtain ⟨i0, hi, hz0, hz1, hz2⟩ := info_parts hinfo
  obtain ⟨us, h1, h2, h3, h4, h5⟩ := hown
  obtain ⟨us', k1, k2, k3, k4, k5⟩ := hu
  have apart : ∀ y l B2, OwnI ti w B2 y l → y.ownBlock = none ∨ y.ownBlock ≠ v.ownBlock := fun y l B2 hy => by
    rcases h2.2 with ⟨e, _⟩ | ⟨b, cap, cur, e, hBq, hh, _⟩
    · subst e
      rcases hq : y.ownBlock with _ | k
      · exact .inl rfl
      · right; simp [Value.ownBlock]
    · subst e
      exact .inr (fun e2 => own_ne3 hne hy hh e2)
  have fin : ∀ v' w', w'.ownsRow B ts 1 v' (ls.length + ms.length) (us ++ us') → w.grownBy w' v.ownBlock → wpList P ops Q rest (ac.put o.dst v') w' := fun v' w' h6 h7 => by
    have hB2 : Below B w w' := (Below.refl _ _).grown h7 hB fun k hk => (h2.lt k hk).1
    have hsz : w.heap.size ≤ w'.heap.size := hB2.size
    refine h v' w' ⟨us ++ us', by simp [h1, k1], by simpa using h6, fun k hk => (World.ownsRow.lt h6 k hk).2, ?_, ?_⟩ hB2
    · intro j y m hy hm
      rw [List.getElem?_append] at hy hm
      by_cases hj : j < ls.length
      · rw [if_pos (by omega)] at hy
        rw [if_pos hj] at hm
        obtain ⟨a, b⟩ := h4 j y m hy hm
        exact ⟨a.grown h7 (apart y m _ a), fun k hk => by have := b k hk; omega⟩
      · rw [if_neg (by omega)] at hy
        rw [if_neg hj] at hm
        rw [h1] at hy
        obtain ⟨a, b⟩ := k4 _ y m hy hm
        exact ⟨(a.grown h7 (apart y m _ a)).mono hBB, fun k hk => by have := b k hk; omega⟩
    · have cross : ∀ (i j : Nat) (y y' : Value), us[i]? = some y → us'[j]? = some y' → (y.ownBlock = none ∨ y.ownBlock ≠ y'.ownBlock) ∧ (y'.ownBlock = none ∨ y'.ownBlock ≠ y.ownBlock) := by
        intro i j y y' hy hy'
        have hil : i < us.length := (List.getElem?_eq_some_iff.1 hy).1
        have hjl : j < us'.length := (List.getElem?_eq_some_iff.1 hy').1
        obtain ⟨_, b⟩ := h4 i y ls[i] hy (List.getElem?_eq_getElem (by omega))
        obtain ⟨a', _⟩ := k4 j y' ms[j] hy' (List.getElem?_eq_getElem (by omega))
        constructor
        · rcases hq : y.ownBlock with _ | k
          · exact .inl rfl
          · refine .inr fun e => ?_
            have c1 := b k hq
            have c2 := (a'.blockLt k e.symm).1
            omega
        · rcases hq : y'.ownBlock with _ | k
          · exact .inl rfl
          · refine .inr fun e => ?_
            have c1 := b k e.symm
            have c2 := (a'.blockLt k hq).1
            omega
      intro i j y y' hij hy hy'
      rw [List.getElem?_append] at hy hy'
      by_cases hi : i < us.length
      · rw [if_pos hi] at hy
        by_cases hj : j < us.length
        · rw [if_pos hj] at hy'
          exact h5 i j y y' hij hy hy'
        · rw [if_neg hj] at hy'
          exact (cross _ _ y y' hy hy').1
      · rw [if_neg hi] at hy
        by_cases hj : j < us.length
        · rw [if_pos hj] at hy'
          exact (cross _ _ y' y hy' hy).2
        · rw [if_neg hj] at hy'
          exact k5 _ _ y y' (by omega) hy hy'
  have main : ∀ (ad : Addr) (c : Nat), u = .slice (some ad) ms.length c → (∀ j y, us'[j]? = some y → w.cell? (ad.add j) = some y) → wpList P ops Q (o :: rest) ac w := by
    rintro ad c rfl hcells
    refine wpList_append_own _ hgd s x t ho B ts i0 (.slice none 0 0) 1 24 ht hi hz0 hz1 hz2 rfl (by decide) v ls.length us hs h2 ad ms.length c us' hx (by omega) hcells ?_ ?_ ?_ ?_ ?_
    · intro y hy
      obtain ⟨j, hj, e⟩ := List.mem_iff_getElem.1 hy
      have hy' : us'[j]? = some y := by rw [List.getElem?_eq_getElem hj, e]
      obtain ⟨a, _⟩ := k4 j y ms[j] hy' (List.getElem?_eq_getElem (by omega))
      obtain ⟨A, n, c, rfl⟩ := a.shape3
      rfl
    · unfold maxLen; omega
    · omega
    · exact hB
    · intro v' w' h6 h7 _
      exact fin v' w' h6 h7
  rcases k2.2 with ⟨e, hn⟩ | ⟨b, cap, cur, e, hBq, hh, _⟩
  · subst e
    have hm0 : ms = [] := List.eq_nil_of_length_eq_zero hn
    subst hm0
    have hu0 : us' = [] := List.eq_nil_of_length_eq_zero (by simpa using k1)
    subst hu0
    refine wpList_plain hgd fun K hK => ?_
    have hrun := run_append_of_nil (P := P) w B t o.type ts i0 1 ht hi v ls.length _ h2 0
    unfold Oper.wp
    simp [execOp, ho, resolve, invoke, builtin, hs, hx, hrun, Result.andThen]
    exact hK _ _ (fin v w (by simpa using h2) (World.grownBy.refl _ _))
  · refine main _ cap e fun j y hj => ?_
    subst e
    rw [Go.WideShapes.add_plain, Nat.zero_add]
    have hjl : j < us'.length := (List.getElem?_eq_some_iff.1 hj).1
    rw [k2.cellAt j (by omega)]
    exact hj
/-- the same within a region that draws, where there are rows -/
theorem step_append_rowsN {P : Program} {w : World} {ops : Array Oper} {o : Oper} {ac : Act} {K : Act → World → Prop} {Q : Exit → Act → World → Prop} {E0 : Prop} (hgd : o.guard = none) (s x : Operand) (t ts ti : TypeId)
    (ho : o.op = .call { callee := .builtin .append, args := #[s, x], argTypes := #[t, t] }) (ht : P.underlying t = some (.slice ts)) (hinfo : (P.info? ts).map (fun i => (i.zero, i.size, i.bytes)) = some (some (.slice none 0 0), 1, 24))
    (hne : ti ≠ ts) (B E B' E' : Nat) (v u : Value) (ls ms : List (List Int)) (hs : ac.eval s = v) (hown : OwnSS ti ts w B E v ls) (hx : ac.eval x = u) (hu : OwnSS ti ts w B' E' u ms) (hms : 1 ≤ ms.length) (hEB : E ≤ B') (hBB : B ≤ B')
    (hlen : ls.length + ms.length ≤ 1048576) (hB : B ≤ w.heap.size) (hE : E ≤ w.heap.size) (hE' : E' ≤ w.heap.size)
    (h : ∀ v' w', OwnSS ti ts w' B w'.heap.size v' (ls ++ ms) → Below B w w' → K (ac.put o.dst v') w') : if Region.wanted o (yielded ops ac.tmps) = true then Oper.wp P o ac w K Q else E0 := by
  obtain ⟨i0, hi, hz0, hz1, hz2⟩ := info_parts hinfo
  obtain ⟨us, h1, h2, h3, h4, h5⟩ := hown
  obtain ⟨us', k1, k2, k3, k4, k5⟩ := hu
  have apart : ∀ y l B2, OwnI ti w B2 y l → y.ownBlock = none ∨ y.ownBlock ≠ v.ownBlock := fun y l B2 hy => by
    rcases h2.2 with ⟨e, _⟩ | ⟨b, cap, cur, e, hBq, hh, _⟩
    · subst e
      rcases hq : y.ownBlock with _ | k
      · exact .inl rfl
      · right; simp [Value.ownBlock]
    · subst e
      exact .inr (fun e2 => own_ne3 hne hy hh e2)
  have fin : ∀ v' w', w'.ownsRow B ts 1 v' (ls.length + ms.length) (us ++ us') → w.grownBy w' v.ownBlock → K (ac.put o.dst v') w' := fun v' w' h6 h7 => by
    have hB2 : Below B w w' := (Below.refl _ _).grown h7 hB fun k hk => (h2.lt k hk).1
    have hsz : w.heap.size ≤ w'.heap.size := hB2.size
    refine h v' w' ⟨us ++ us', by simp [h1, k1], by simpa using h6, fun k hk => (World.ownsRow.lt h6 k hk).2, ?_, ?_⟩ hB2
    · intro j y m hy hm
      rw [List.getElem?_append] at hy hm
      by_cases hj : j < ls.length
      · rw [if_pos (by omega)] at hy
        rw [if_pos hj] at hm
        obtain ⟨a, b⟩ := h4 j y m hy hm
        exact ⟨a.grown h7 (apart y m _ a), fun k hk => by have := b k hk; omega⟩
      · rw [if_neg (by omega)] at hy
        rw [if_neg hj] at hm
        rw [h1] at hy
        obtain ⟨a, b⟩ := k4 _ y m hy hm
        exact ⟨(a.grown h7 (apart y m _ a)).mono hBB, fun k hk => by have := b k hk; omega⟩
    · have cross : ∀ (i j : Nat) (y y' : Value), us[i]? = some y → us'[j]? = some y' → (y.ownBlock = none ∨ y.ownBlock ≠ y'.ownBlock) ∧ (y'.ownBlock = none ∨ y'.ownBlock ≠ y.ownBlock) := by
        intro i j y y' hy hy'
        have hil : i < us.length := (List.getElem?_eq_some_iff.1 hy).1
        have hjl : j < us'.length := (List.getElem?_eq_some_iff.1 hy').1
        obtain ⟨_, b⟩ := h4 i y ls[i] hy (List.getElem?_eq_getElem (by omega))
        obtain ⟨a', _⟩ := k4 j y' ms[j] hy' (List.getElem?_eq_getElem (by omega))
        constructor
        · rcases hq : y.ownBlock with _ | k
          · exact .inl rfl
          · refine .inr fun e => ?_
            have c1 := b k hq
            have c2 := (a'.blockLt k e.symm).1
            omega
        · rcases hq : y'.ownBlock with _ | k
          · exact .inl rfl
          · refine .inr fun e => ?_
            have c1 := b k e.symm
            have c2 := (a'.blockLt k hq).1
            omega
      intro i j y y' hij hy hy'
      rw [List.getElem?_append] at hy hy'
      by_cases hi : i < us.length
      · rw [if_pos hi] at hy
        by_cases hj : j < us.length
        · rw [if_pos hj] at hy'
          exact h5 i j y y' hij hy hy'
        · rw [if_neg hj] at hy'
          exact (cross _ _ y y' hy hy').1
      · rw [if_neg hi] at hy
        by_cases hj : j < us.length
        · rw [if_pos hj] at hy'
          exact (cross _ _ y' y hy' hy).2
        · rw [if_neg hj] at hy'
          exact k5 _ _ y y' (by omega) hy hy'
  rcases k2.2 with ⟨e, hn⟩ | ⟨b, cap, cur, e, hBq, hh, _⟩
  · omega
  · subst e
    refine step_append_lies w hgd s x t ho B ts i0 (.slice none 0 0) 1 24 ht hi hz0 hz1 hz2 rfl (by decide) v ls.length us hs h2 ⟨b, 0, none⟩ ms.length cap us' hx (by omega) (fun j y hj => ?_) ?_ (by omega) ?_ ?_ hB _ rfl ?_
    · rw [Go.WideShapes.add_plain, Nat.zero_add]
      have hjl : j < us'.length := (List.getElem?_eq_some_iff.1 hj).1
      rw [k2.cellAt j (by omega)]
      exact hj
    · intro y hy
      obtain ⟨j, hj, e⟩ := List.mem_iff_getElem.1 hy
      have hy' : us'[j]? = some y := by rw [List.getElem?_eq_getElem hj, e]
      obtain ⟨a, _⟩ := k4 j y ms[j] hy' (List.getElem?_eq_getElem (by omega))
      obtain ⟨A, n, c, rfl⟩ := a.shape3
      rfl
    · unfold maxLen; omega
    · omega
    · intro g cap' w' h6 h7 h8 h9
      exact fin _ w' h6 h7
/-! ### the listing, up to a number -/
def preF (xs : List Int) (m r : Nat) (f : List Int) (t : Nat) : List (List Int) := (List.range t).flatMap fun x => lbF xs m r (f ++ [((lstN xs f + x : Nat) : Int)])
theorem preF_succ (xs : List Int) (m r : Nat) (f : List Int) (t : Nat) : preF xs m r f (t + 1) = preF xs m r f t ++ lbF xs m r (f ++ [((lstN xs f + t : Nat) : Int)]) := by
  unfold preF; rw [List.range_succ, List.flatMap_append]; simp
theorem preF_full (xs : List Int) (m r : Nat) (f : List Int) : lbF xs m (r + 1) f = preF xs m r f (m + 1 - lstN xs f) := rfl
theorem preF_le (xs : List Int) (m r : Nat) (f : List Int) {t u : Nat} (h : t ≤ u) : ∃ l, preF xs m r f u = preF xs m r f t ++ l := by
  induction u with
  | zero => have : t = 0 := by omega
            subst this; exact ⟨[], by simp⟩
  | succ u ih =>
    rcases Nat.lt_or_eq_of_le h with h1 | h1
    · obtain ⟨l, e⟩ := ih (by omega)
      exact ⟨l ++ _, by rw [preF_succ, e, List.append_assoc]⟩
    · subst h1; exact ⟨[], by simp⟩
theorem preF_stop {xs : List Int} {m r : Nat} {f : List Int} {t M : Nat} (ht : t ≤ m + 1 - lstN xs f) (h : t = m + 1 - lstN xs f ∨ M ≤ ((preF xs m r f t).take M).length) : (preF xs m r f t).take M = (lbF xs m (r + 1) f).take M := by
  rw [preF_full]
  rcases h with h | h
  · rw [h]
  · obtain ⟨l, e⟩ := preF_le xs m r f ht
    rw [e, List.take_append]
    rw [List.length_take] at h
    rw [show M - (preF xs m r f t).length = 0 by omega]
    simp
theorem preF_go {xs : List Int} {m r : Nat} {f : List Int} {t M : Nat} (h : ((preF xs m r f t).take M).length < M) :
    (preF xs m r f t).take M ++ (lbF xs m r (f ++ [((lstN xs f + t : Nat) : Int)])).take (M - ((preF xs m r f t).take M).length) = (preF xs m r f (t + 1)).take M := by
  have e : (preF xs m r f t).take M = preF xs m r f t := by
    rw [List.length_take] at h
    exact List.take_of_length_le (by omega)
  rw [e, preF_succ, List.take_append, e]
theorem lbF_some {xs : List Int} {m : Nat} (r : Nat) (f : List Int) (hf : f.length + r ≤ xs.length) (h : ∀ j, j < f.length → f.getD j 0 ≤ m) : 1 ≤ (lbF xs m r f).length := by
  induction r generalizing f with
  | zero => simp [lbF]
  | succ r ih =>
    have h1 : leN xs f f.length 0 f.length ≤ m := leN_le.2 ⟨by omega, fun j hj _ => by have := h j hj; omega⟩
    rw [← lstN_int] at h1
    have h2 := ih (f ++ [((lstN xs f + 0 : Nat) : Int)]) (by rw [List.length_append]; simp; omega) (fun j hj => by
      rw [List.length_append, List.length_singleton] at hj
      by_cases e : j = f.length
      · subst e; rw [getD_snoc_eq]; omega
      · rw [getD_snoc_lt (by omega)]; exact h j (by omega))
    obtain ⟨l, e⟩ := preF_le xs m r f (show 1 ≤ m + 1 - lstN xs f by omega)
    rw [preF_full, e, List.length_append, preF_succ, List.length_append]
    omega
theorem max_ifB (p q : Int) : max p q = if p < q then q else p := by split <;> omega
theorem leN_step (xs f : List Int) (e k : Nat) : leN xs f e 0 (k + 1) = if (xs.getD e 0).toNat.testBit k then max (leN xs f e 0 k) (f.getD k 0) else leN xs f e 0 k := by
  rw [leN, Int.add_zero]
end Go.Proofs.Ytgepbekdgocnpab
