/- Texts StairS, Spec2, one behind the other. -/
import Derived.BigQuiet
import Derived.Test.YtdemikjaghegnaaGreatPkRanksMakeRowmotionProof02
import Derived.Test.YtdemikjaghegnaaGreatPkRanksMakeRowmotionProof03
/- Staircase: the steps, and the closure. · Staircase of the program. · Staircase of the model. -/
namespace Go.Proofs.YtdemikjaghegnaaGreat
open Go.RowKit Go.WideShapes Go.ChangeShapes
set_option linter.unusedVariables false

def stIn (d : Nat) : Nat → List (Nat × Nat)
  | 0 => []
  | i + 1 => stIn d i ++ [(i, i + d)]
def stPS (n : Nat) : Nat → List (Nat × Nat)
  | 0 => []
  | e + 1 => stPS n e ++ stIn (e + 1) (n - e)
theorem stIn_length (d i : Nat) : (stIn d i).length = i := by
  induction i with
  | zero => rfl
  | succ i ih => rw [stIn, List.length_append, ih]; rfl
theorem stPS_length (n e : Nat) : (stPS n e).length ≤ e * n := by
  induction e with
  | zero => simp [stPS]
  | succ e ih =>
    rw [stPS, List.length_append, stIn_length, Nat.add_mul]
    omega
def stF (ps : List (Nat × Nat)) (j i : Nat) : Bool := decide ((ps.getD i (0, 0)).1 ≤ (ps.getD j (0, 0)).1) && decide ((ps.getD j (0, 0)).2 ≤ (ps.getD i (0, 0)).2)
def stG (ps : List (Nat × Nat)) (x y : Nat) : Bool := decide (x ≠ y) && stF ps y x
def stcL (n : Int) : List Int := if 1 ≤ n ∧ n ≤ 4 then whereL (stF (stPS n.toNat n.toNat)) (stPS n.toNat n.toNat).length else []
theorem st_eq (n : Nat) (h1 : 1 ≤ n) (h2 : n ≤ 4) : mkL (stPS n n).length (fun x => rowN (stG (stPS n n) x) (stPS n n).length) = whereL (stF (stPS n n)) (stPS n n).length := by
  rcases (by omega : n = 1 ∨ n = 2 ∨ n = 3 ∨ n = 4) with rfl | rfl | rfl | rfl <;> decide +kernel
theorem st_len (n : Nat) (h1 : 1 ≤ n) (h2 : n ≤ 4) : (stPS n n).length ≤ 10 ∧ 1 ≤ (stPS n n).length ∧ ∀ j, j < (stPS n n).length → ((stPS n n).getD j (0, 0)).1 ≤ 4 ∧ ((stPS n n).getD j (0, 0)).2 ≤ 4 := by
  rcases (by omega : n = 1 ∨ n = 2 ∨ n = 3 ∨ n = 4) with rfl | rfl | rfl | rfl <;> decide +kernel
theorem stcL_yes {n : Nat} (h1 : 1 ≤ n) (h2 : n ≤ 4) : stcL n = whereL (stF (stPS n n)) (stPS n n).length := by
  unfold stcL
  rw [if_pos (by omega), Int.toNat_natCast]
theorem stcL_no {n : Int} (h : ¬ (1 ≤ n ∧ n ≤ 4)) : stcL n = [] := if_neg h
theorem stcL_length (n : Int) : (stcL n).length ≤ 1048576 := by
  unfold stcL
  split
  · rename_i h
    have := (st_len n.toNat (by omega) (by omega)).1
    unfold whereL; rw [mkL_length]; omega
  · simp
/-- 'v' is a slice of the pairs ps, each in two cells -/
def FlatR (w : World) (v : Value) (ps : List (Nat × Nat)) : Prop :=
  ∃ b c, v = .slice (some ⟨b, 0, none⟩) ps.length c ∧ b < w.heap.size ∧ ∀ j, j < ps.length → w.cell? ⟨b, j * 2, none⟩ = some (.int .i64 ((ps.getD j (0, 0)).1 : Int)) ∧ w.cell? ⟨b, j * 2 + 1, none⟩ = some (.int .i64 ((ps.getD j (0, 0)).2 : Int))
theorem FlatR.below {w w' : World} {v : Value} {ps : List (Nat × Nat)} (h : FlatR w v ps) (hb : Below w.heap.size w w') : FlatR w' v ps := by
  obtain ⟨b, c, rfl, h1, h2⟩ := h
  exact ⟨b, c, rfl, Nat.lt_of_lt_of_le h1 hb.size, fun j hj => ⟨(hb.cell (p := ⟨b, j * 2, none⟩) h1).trans (h2 j hj).1, (hb.cell (p := ⟨b, j * 2 + 1, none⟩) h1).trans (h2 j hj).2⟩⟩
/-! ### a slice of pairs of its own, grown -/
def flat (ps : List (Nat × Nat)) : List Value := ps.flatMap fun p => [.int .i64 (p.1 : Int), .int .i64 (p.2 : Int)]
theorem flat_append (ps : List (Nat × Nat)) (a b : Nat) : flat (ps ++ [(a, b)]) = flat ps ++ [.int .i64 (a : Int), .int .i64 (b : Int)] := by simp [flat]
theorem flat_get (ps : List (Nat × Nat)) (j : Nat) (hj : j < ps.length) : (flat ps)[j * 2]? = some (.int .i64 ((ps.getD j (0, 0)).1 : Int)) ∧ (flat ps)[j * 2 + 1]? = some (.int .i64 ((ps.getD j (0, 0)).2 : Int)) := by
  induction ps generalizing j with
  | nil => simp at hj
  | cons p ps ih =>
    match j with
    | 0 => simp [flat]
    | j + 1 =>
      have h := ih j (by simpa using hj)
      have e1 : (j + 1) * 2 = (j * 2) + 1 + 1 := by omega
      rw [e1]
      simpa [flat] using h
def FlatOwn (ts : TypeId) (w : World) (B : Nat) (v : Value) (ps : List (Nat × Nat)) : Prop := w.ownsRow B ts 2 v ps.length (flat ps)
theorem FlatOwn.nil (ts : TypeId) (w : World) (B : Nat) : FlatOwn ts w B (.slice none 0 0) [] := World.ownsRow_nil w B ts 2
theorem FlatOwn.below {ts : TypeId} {w w' : World} {B : Nat} {v : Value} {ps : List (Nat × Nat)} (h : FlatOwn ts w B v ps) (hb : Below w.heap.size w w') : FlatOwn ts w' B v ps := by
  by_cases hv : v.ownBlock = none
  · exact World.ownsRow.kept h (grown_of_below hb none) (.inl hv)
  · exact World.ownsRow.kept h (grown_of_below hb none) (.inr hv)
theorem FlatOwn.far {ts : TypeId} {w : World} {B : Nat} {v : Value} {ps : List (Nat × Nat)} (h : FlatOwn ts w B v ps) {p : Addr} (hp : p.block < B) (hs : p.spot = none) (u : Value) : FlatOwn ts (w.setCell p u) B v ps := by
  refine World.ownsRow.kept (row := some p.block) h ?_ (.inr fun e => ?_)
  · obtain ⟨b, o, t⟩ := p
    simp only at hs
    subst hs
    exact grown_setCell (World.grownBy.refl w (some b)) o u
  · have := (World.ownsRow.lt h p.block e).1
    omega
theorem FlatOwn.shape3 {ts : TypeId} {w : World} {B : Nat} {v : Value} {ps : List (Nat × Nat)} (h : FlatOwn ts w B v ps) : ∃ A c, v = .slice A ps.length c := by
  rcases h.2 with ⟨rfl, h0⟩ | ⟨g, cap, cur, rfl, _⟩
  · exact ⟨none, 0, by rw [h0]⟩
  · exact ⟨_, _, rfl⟩
theorem FlatOwn.read {ts : TypeId} {w : World} {B : Nat} {v : Value} {ps : List (Nat × Nat)} (h : FlatOwn ts w B v ps) (h1 : 1 ≤ ps.length) : FlatR w v ps := by
  have h' := h
  rcases h.2 with ⟨-, h0⟩ | ⟨g, cap, cur, rfl, -, hh, -⟩
  · omega
  · refine ⟨g, cap, rfl, ?_, fun j hj => ?_⟩
    · rcases Nat.lt_or_ge g w.heap.size with hlt | hge
      · exact hlt
      · rw [Array.getElem?_eq_none hge] at hh; cases hh
    · have := flat_get ps j hj
      exact ⟨(World.ownsRow.cellAt h' (j * 2) (by omega)).trans this.1, (World.ownsRow.cellAt h' (j * 2 + 1) (by omega)).trans this.2⟩
theorem wpList_append_flat {P : Program} {w W : World} {ops : Array Oper} {rest : List Oper} {o : Oper} {ac : Act} {Q : Exit → Act → World → Prop} (hgd : o.guard = none) (s x : Operand) (t ts : TypeId)
    (ho : o.op = .call { callee := .builtin .append, args := #[s, x], argTypes := #[t, t] }) (ht : P.underlying t = some (.slice ts)) (hinfo : (P.info? ts).map (fun i => (i.zero, i.size, i.bytes)) = some (some (.agg #[.int .i64 0, .int .i64 0]), 2, 16))
    (B : Nat) (v : Value) (ps : List (Nat × Nat)) (a b : Nat) (hs : ac.eval s = v) (hown : FlatOwn ts w B v ps)
    (hW : W = w.alloc (.cells #[.int .i64 (a : Int), .int .i64 (b : Int)] ts)) (hx : ac.eval x = .slice (some ⟨w.heap.size, 0, none⟩) 1 1) (hlen : ps.length < 1048576) (hB : B ≤ w.heap.size)
    (h : ∀ v' w', FlatOwn ts w' B v' (ps ++ [(a, b)]) → Below B w w' → wpList P ops Q rest (ac.put o.dst v') w') : wpList P ops Q (o :: rest) ac W := by
  subst hW
  obtain ⟨i0, hi, hz0, hz1, hz2⟩ := info_parts hinfo
  refine wpList_append_own _ hgd s x t ho B ts i0 (.agg #[.int .i64 0, .int .i64 0]) 2 16 ht hi hz0 hz1 hz2 rfl (by decide) v ps.length (flat ps) hs (World.ownsRow.alloc hown _) ⟨w.heap.size, 0, none⟩ 1 1 [.int .i64 (a : Int), .int .i64 (b : Int)] hx rfl ?_ ?_ ?_ ?_ ?_ ?_
  · intro j u hj
    match j, hj with
    | 0, hj =>
      simp only [List.getElem?_cons_zero, Option.some.injEq] at hj
      subst hj
      exact (Blk.new w ts #[.int .i64 (a : Int), .int .i64 (b : Int)]).cell 0
    | 1, hj =>
      simp only [List.getElem?_cons_succ, List.getElem?_cons_zero, Option.some.injEq] at hj
      subst hj
      exact (Blk.new w ts #[.int .i64 (a : Int), .int .i64 (b : Int)]).cell 1
    | j + 2, hj => simp at hj
  · intro u hu
    simp only [List.mem_cons, List.not_mem_nil, or_false] at hu
    rcases hu with rfl | rfl <;> rfl
  · unfold maxLen; omega
  · omega
  · simp; omega
  · intro v' w' h4 h5 _
    refine h v' w' ?_ ?_
    · unfold FlatOwn
      rw [flat_append, List.length_append]
      exact h4
    · have hb : Below B w (w.alloc (.cells #[.int .i64 (a : Int), .int .i64 (b : Int)] ts)) := (Below.refl _ _).alloc hB _
      exact hb.grown h5 (by simp; omega) fun k hk => (World.ownsRow.lt hown k hk).1
end Go.Proofs.YtdemikjaghegnaaGreat
namespace Go.Proofs.YtdemikjaghegnaaGreat
open Go.RowKit Go.WideShapes Go.ChangeShapes
set_option linter.unusedVariables false

theorem stPS_step (n d : Nat) (h : 1 ≤ d) : stPS n d = stPS n (d - 1) ++ stIn d (n + 1 - d) := by
  obtain ⟨e, rfl⟩ : ∃ e, d = e + 1 := ⟨d - 1, by omega⟩
  rw [Nat.add_sub_cancel, stPS, show n + 1 - (e + 1) = n - e by omega]
theorem mul44 {a b : Nat} (h1 : a ≤ 4) (h2 : b ≤ 4) : a * b ≤ 16 := Nat.mul_le_mul h1 h2
end Go.Proofs.YtdemikjaghegnaaGreat
namespace Go.Proofs.YtdemikjaghegnaaGreat
open Go.RowKit Go.WideShapes Go.ChangeShapes
set_option linter.unusedVariables false

def stX (ps : List (Nat × Nat)) (N k x : Nat) : Nat := if x < k then rowN (stG ps x) N else 0
def stY (ps : List (Nat × Nat)) (N k t x : Nat) : Nat := if x < k then rowN (stG ps x) N else if x = k then rowN (stG ps k) t else 0
theorem stG_eq (ps : List (Nat × Nat)) (k t : Nat) : stG ps k t = (decide (k ≠ t) && (decide (((ps.getD k (0, 0)).1 : Int) ≤ ((ps.getD t (0, 0)).1 : Int)) && decide (((ps.getD t (0, 0)).2 : Int) ≤ ((ps.getD k (0, 0)).2 : Int)))) := by
  simp [stG, stF]
set_option maxHeartbeats 6400000 in
theorem specStaircase_any (n : Int) (w : World) (wf : (Lit.int .i64 n).wf = true) :
    Calls Tryz.prog 115 #[.int .i64 n] w fun (r : Ending) w' => ∃ u, r = Ending.returned (.tuple #[.agg #[u], .bool (decide (1 ≤ n) && decide (n ≤ 4))]) ∧ OwnI 3 w' w.heap.size u (stcL n) ∧ (stcL n).length ≤ 1048576 ∧ Below w.heap.size w w' := by
  have HL := hid (stcL_length n)
  clear wf
  by_cases hn : 1 ≤ n ∧ n ≤ 4
  · obtain ⟨m, rfl⟩ := Int.eq_ofNat_of_zero_le (by omega : 0 ≤ n)
    have h1 : 1 ≤ m := by omega
    have h2 : m ≤ 4 := by omega
    have hd : (decide ((1 : Int) ≤ (m : Int)) && decide ((m : Int) ≤ 4)) = true := by simp; omega
    have HY := hid (stcL_yes h1 h2)
    have HN := hid (st_len m h1 h2)
    have HE := hid (st_eq m h1 h2)
    rw [hd]
    have Hd := hid hd
    clear hd hn
    go_enter Tryz.func115, Tryz.ntmps115
    go_wp2_with (go_at_call 60; refine (l1In_any _ _ _ _).mono ?_; rw [Hd.out]; rintro e w' ⟨rfl, rfl⟩)
    go_loopw [4, 5] (fun q dd wr => ∃ d : Nat, 1 ≤ d ∧ d ≤ m + 1 ∧ dd = .int .i64 d ∧ Pairs 3 24 wr (w.heap.size + 1) q (stPS m (d - 1)) ∧ Below (w.heap.size + 1) (w.alloc (.cells #[.slice none 0 0] 26)) wr) (fun _ dd _ => m + 1 - (intOf dd).toNat)
    case atStart => exact ⟨1, by omega, by omega, rfl, Pairs.nil _ _ _ _, Below.refl _ _⟩
    case round =>
      obtain ⟨d, hd1, hd2, rfl, ho, hb⟩ := hrel
      have HO := hid ho
      have HB := hid hb
      by_cases hdm : d ≤ m
      · have hdm' : (d : Int) ≤ (m : Int) := by omega
        clear ho hb
        go_wp2
        go_loopw [4, 6] (fun q ii wi => ∃ c : Nat, c + d ≤ m + 1 ∧ ii = .int .i64 c ∧ Pairs 3 24 wi (w.heap.size + 1) q (stPS m (d - 1) ++ stIn d c) ∧ Below (w.heap.size + 1) (w.alloc (.cells #[.slice none 0 0] 26)) wi) (fun _ ii _ => m + 1 - (intOf ii).toNat)
        case atStart => exact ⟨0, by omega, rfl, by simpa [stIn] using HO.out, HB.out⟩
        case round =>
          obtain ⟨c, hc, rfl, ho, hb⟩ := hrel
          have hlen : (stPS m (d - 1) ++ stIn d c).length ≤ 20 := by
            have a1 := stPS_length m (d - 1)
            have a2 := mul44 (show d - 1 ≤ 4 by omega) h2
            rw [List.length_append, stIn_length]
            omega
          obtain ⟨L, hL⟩ : ∃ L, stPS m (d - 1) ++ stIn d c = L := ⟨_, rfl⟩
          rw [hL] at ho hlen
          have HLL := hid hL
          have HOi := hid ho
          have HBi := hid hb
          have hbz : w.heap.size + 1 ≤ wr.heap.size := by have := hb.size; simp at this; omega
          clear hL ho hb
          by_cases hcm : c + d ≤ m
          · have hcm' : (c : Int) + (d : Int) ≤ (m : Int) := by omega
            go_wp2_with (at_builtin; refine wpList_append_pair rfl _ _ 78 24 3 rfl Tryz.underlying78 Tryz.info24 (by decide) (w.heap.size + 1) _ _ c (c + d) rfl HOi.out rfl rfl (by omega) (by omega) ?_; intro q2 w2 hp2 hb2)
            go_roundw
            case rel => exact ⟨c + 1, by omega, by go_num, by rw [stIn, ← List.append_assoc, HLL.out]; exact hp2, HBi.out.trans hb2⟩
            case measure => simp [intOf]; omega
          · have hcm' : ¬ (c : Int) + (d : Int) ≤ (m : Int) := by omega
            obtain rfl : c = m + 1 - d := by omega
            go_wp2
            go_roundw
            case rel => exact ⟨d + 1, by omega, by omega, by go_num, (by rw [Nat.add_sub_cancel, stPS_step m d hd1, HLL.out]; exact HOi.out), HBi.out⟩
            case measure => simp [intOf]; omega
      · have hdm' : ¬ (d : Int) ≤ (m : Int) := by omega
        obtain rfl : d = m + 1 := by omega
        rw [Nat.add_sub_cancel] at ho
        obtain ⟨hn10, hn1, -⟩ := HN.out
        obtain ⟨L, hL⟩ : ∃ L, stPS m m = L := ⟨_, rfl⟩
        rw [hL] at ho HY HE hn10 hn1
        obtain ⟨sA, sc, rfl, hs⟩ := ho.shape
        have HS := hid hs
        have HBw := hid (below_box hb)
        have HR0 : Hid (Blk wr w.heap.size 26 #[.slice none 0 0]) := hid ((Blk.new w _ _).below hb (Nat.lt_succ_self _))
        have hr0 := HR0.out.lt
        obtain ⟨N, hN⟩ : ∃ N, L.length = N := ⟨_, rfl⟩
        have hmk := run_make_row' (P := Tryz.prog) 24 3 (.int .i64 0) 8 Tryz.underlying24 Tryz.info3 rfl .i64 .i64 N (by omega) (by omega)
        rw [hN] at HS hn10 hn1 HE HY ⊢
        have HNl := hid hN
        clear hL HN hN hs ho hb
        obtain ⟨W1, rfl⟩ : ∃ x, x = wr := ⟨wr, rfl⟩
        go_wp2
        clear hmk
        rw [Vals_made]
        go_loopw [42] (fun ii wi => ∃ k : Nat, k ≤ N ∧ ii = .int .i64 k ∧ Blk wi W1.heap.size 3 (Vals (mkL N (stX L N k))) ∧ Blk wi (W1.heap.size + 1) 26 #[.slice (some ⟨W1.heap.size, 0, none⟩) N N] ∧ Below W1.heap.size W1 wi) (fun ii _ => N - (intOf ii).toNat)
        case atStart =>
          refine ⟨0, Nat.zero_le _, rfl, ?_, Blk.newAt _ _ _ _ (by simp), below_alloc (below_alloc (Below.refl _ _) _) _⟩
          have e : mkL N (stX L N 0) = List.replicate N 0 := by rw [← mkL_zero]; exact mkL_congr (fun i _ => by simp [stX])
          rw [e]
          exact (Blk.new _ _ _).alloc _
        case round =>
          obtain ⟨k, hk, rfl, hrow, hbox, hb⟩ := hrel
          have HRow := hid hrow
          have HBox := hid hbox
          have HB3 := hid hb
          by_cases hkN : k < N
          · obtain ⟨sb, sg, rfl, hs1, hs2, hs3, hs4, hs5⟩ := HS.out k hkN
            have hc3 := (hb.cell (p := ⟨sb, k, none⟩) hs1).trans hs3
            have HG4 := hid hs4
            have HG5 := hid hs5
            clear hrow hbox hb hs3 hs4 hs5
            go_wp2
            clear hc3
            go_loopw [49] (fun jj wi => ∃ t : Nat, t ≤ N ∧ jj = .int .i64 t ∧ Blk wi W1.heap.size 3 (Vals (mkL N (stY L N k t))) ∧ Blk wi (W1.heap.size + 1) 26 #[.slice (some ⟨W1.heap.size, 0, none⟩) N N] ∧ Below W1.heap.size W1 wi) (fun jj _ => N - (intOf jj).toNat)
            case atStart => exact ⟨0, Nat.zero_le _, rfl, (by rw [mkL_congr (h := stX L N k) (fun i _ => by unfold stY stX; split; rfl; split <;> simp [rowN])]; exact HRow.out), HBox.out, HB3.out⟩
            case round =>
              obtain ⟨t, ht, rfl, hrow, hbox, hb⟩ := hrel
              have HRi := hid hrow
              have HBxi := hid hbox
              have HBi := hid hb
              by_cases htN : t < N
              · obtain ⟨tb, tg, e, -, ht2, ht3, ht4, ht5⟩ := HS.out t htN
                obtain rfl : sb = tb := by simpa using e
                have hct := (hb.cell (p := ⟨sb, t, none⟩) hs1).trans ht3
                have ca0 := (hb.cell (p := ⟨sg, 0, none⟩) hs2).trans HG4.out
                have ca1 := (hb.cell (p := ⟨sg, 1, none⟩) hs2).trans HG5.out
                have cb0 := (hb.cell (p := ⟨tg, 0, none⟩) ht2).trans ht4
                have cb1 := (hb.cell (p := ⟨tg, 1, none⟩) ht2).trans ht5
                have H := hid (stG_eq L k t)
                obtain ⟨a0, e0⟩ : ∃ x : Int, ((L.getD k (0, 0)).1 : Int) = x := ⟨_, rfl⟩
                obtain ⟨a1, e1⟩ : ∃ x : Int, ((L.getD k (0, 0)).2 : Int) = x := ⟨_, rfl⟩
                obtain ⟨b0, e2⟩ : ∃ x : Int, ((L.getD t (0, 0)).1 : Int) = x := ⟨_, rfl⟩
                obtain ⟨b1, e3⟩ : ∃ x : Int, ((L.getD t (0, 0)).2 : Int) = x := ⟨_, rfl⟩
                rw [e0] at ca0; rw [e1] at ca1; rw [e2] at cb0; rw [e3] at cb1; rw [e0, e1, e2, e3] at H
                clear e ht3 ht4 ht5 e0 e1 e2 e3 hrow hbox hb
                by_cases hkt : k = t
                · have HF : Hid (stG L k t = false) := hid (by rw [H.out]; simp [hkt])
                  have hbne : ((k : Int) != (t : Int)) = false := by simp [hkt]
                  clear hkt
                  go_wp2_with fail
                  go_quiet (fail)
                  go_wp2
                  go_roundw
                  case rel => exact ⟨t + 1, by omega, by go_num, (by rw [mkL_congr (h := stY L N k t) (fun i _ => by unfold stY; split; rfl; split; (rw [rowN, HF.out]; rfl); rfl)]; exact HRi.out), HBxi.out, below_drewN HBi.out _⟩
                  case measure => simp [intOf]; omega
                · have hbne : ((k : Int) != (t : Int)) = true := by rw [bne_iff_ne]; omega
                  by_cases c1 : a0 ≤ b0
                  · by_cases c2 : b1 ≤ a1
                    · have HT : Hid (stG L k t = true) := hid (by rw [H.out, decide_eq_true hkt, decide_eq_true c1, decide_eq_true c2]; rfl)
                      clear hkt
                      obtain ⟨p, hp⟩ : ∃ p, rowN (stG L k) t = p := ⟨_, rfl⟩
                      have hp2 := rowN_lt (stG L k) t
                      have hp3 := pow_lt10 t (by omega)
                      rw [hp] at hp2
                      have t1 : wr.cell? ⟨W1.heap.size, k, none⟩ = some (.int .i64 p) := by
                        rw [HRi.out.cell, Vals_get (by rw [mkL_length]; exact hkN), mkL_getD hkN, ← hp]; simp [stY]
                      have t2 := HRi.out.frozen k
                      have t3 := HBxi.out.cell 0
                      have wp := wrap_pow' t (by omega)
                      have hor := or_pow p t (by omega) (by omega)
                      have hkz : (k : Int) < N := by omega
                      have Hp := hid hp
                      clear hp hp2 hp3
                      go_wp2_with fail
                      go_quiet (fail)
                      go_wp2_with fail
                      go_region
                      go_wp2
                      go_roundw
                      case rel =>
                        refine ⟨t + 1, by omega, by go_num, ?_, ?_, ?_⟩
                        · rw [mkL_congr (h := fun i => if i = k then p ||| 2 ^ t else stY L N k t i) (fun i _ => by unfold stY; split; (rw [if_neg (by omega)]); split; (rw [rowN, if_pos HT.out, Hp.out]); rfl), ← mkL_set _ hkN, ← Vals_set]
                          exact HRi.out.set_ k _
                        · exact HBxi.out.far (p := ⟨W1.heap.size, k, none⟩) (by show W1.heap.size + 1 ≠ W1.heap.size; omega) _
                        · exact (below_drewN HBi.out _).setCell (p := ⟨W1.heap.size, k, none⟩) (Nat.le_refl _) _
                      case measure => simp [intOf]; omega
                    · have HF : Hid (stG L k t = false) := hid (by rw [H.out, decide_eq_false c2, Bool.and_false, Bool.and_false])
                      have d2 : decide (b1 ≤ a1) = false := decide_eq_false c2
                      clear hkt
                      go_wp2_with fail
                      go_quiet (fail)
                      go_wp2
                      go_roundw
                      case rel => exact ⟨t + 1, by omega, by go_num, (by rw [mkL_congr (h := stY L N k t) (fun i _ => by unfold stY; split; rfl; split; (rw [rowN, HF.out]; rfl); rfl)]; exact HRi.out), HBxi.out, below_drewN HBi.out _⟩
                      case measure => simp [intOf]; omega
                  · have HF : Hid (stG L k t = false) := hid (by rw [H.out, decide_eq_false c1, Bool.false_and, Bool.and_false])
                    have d1 : decide (a0 ≤ b0) = false := decide_eq_false c1
                    clear hkt
                    go_wp2_with fail
                    go_quiet (fail)
                    go_wp2
                    go_roundw
                    case rel => exact ⟨t + 1, by omega, by go_num, (by rw [mkL_congr (h := stY L N k t) (fun i _ => by unfold stY; split; rfl; split; (rw [rowN, HF.out]; rfl); rfl)]; exact HRi.out), HBxi.out, below_drewN HBi.out _⟩
                    case measure => simp [intOf]; omega
              · obtain rfl : t = N := by omega
                clear hrow hbox hb
                go_wp2
                go_roundw
                case rel => exact ⟨k + 1, by omega, by go_num, (by rw [mkL_congr (h := stY L t k t) (fun i _ => by unfold stY stX; by_cases h : i < k; (rw [if_pos h, if_pos (by omega)]); by_cases h2 : i = k; (subst h2; simp); (rw [if_neg h, if_neg h2, if_neg (by omega)]))]; exact HRi.out), HBxi.out, HBi.out⟩
                case measure => simp [intOf]; omega
          · obtain rfl : k = N := by omega
            have e : mkL k (stX L k k) = whereL (stF L) k := by rw [← HE.out]; exact mkL_congr (fun i hi => by simp [stX, hi])
            rw [e] at hrow
            have HOw := hid (Blk.own (xs := whereL (stF L) k) (B := w.heap.size) hrow (Nat.le_of_lt hr0) (by unfold whereL; rw [mkL_length]; omega))
            have hwl : (whereL (stF L) k).length = k := by unfold whereL; rw [mkL_length]
            rw [hwl] at HOw
            have hr := HR0.out.below hb hr0
            have z1 := hr.cell 0
            have z2 := hr.frozen 0
            have t3 := hbox.cell 0
            have HBf := hid (below_to HBw.out hb)
            clear e hrow hbox hb hr hwl
            go_wp2
            refine bodyPost_ret (v := .tuple #[.agg #[.slice (some ⟨W1.heap.size, 0, none⟩) k k], .bool true]) (by simp [results, Tryz.results115, go_sem, z1]) rfl ⟨_, rfl, ?_, HL.out, ?_⟩
            · rw [HY.out]
              exact HOw.out.grown (grown_setCell (World.grownBy.refl _ _) 0 _) (.inr (by simp [Value.ownBlock]; omega))
            · exact HBf.out.setCell (p := ⟨w.heap.size, 0, none⟩) (Nat.le_refl _) _
  · have hd : (decide ((1 : Int) ≤ n) && decide (n ≤ 4)) = false := by rw [Bool.eq_false_iff]; simp; omega
    have HNo := hid (stcL_no hn)
    rw [hd]
    have Hd := hid hd
    clear hd hn
    go_enter Tryz.func115, Tryz.ntmps115
    go_wp2_with (go_at_call 60; refine (l1In_any _ _ _ _).mono ?_; rw [Hd.out]; rintro e w' ⟨rfl, rfl⟩)
    refine bodyPost_ret (v := .tuple #[.agg #[.slice none 0 0], .bool false]) (by simp [results, Tryz.results115, go_sem]) rfl ⟨_, rfl, by rw [HNo.out]; exact OwnI.nil _ _ _, HL.out, ?_⟩
    exact (Below.refl _ _).alloc (Nat.le_refl _) _
end Go.Proofs.YtdemikjaghegnaaGreat

/- Ideals, tops and bottoms of sets: the model's functions, and what both ask of a set. -/
namespace Go.Proofs.YtdemikjaghegnaaGreat
open Go.RowKit Go.WideShapes Go.ChangeShapes

theorem sub_sub_or (s a z : Nat) : sub (sub s a) z = sub s (a ||| z) := by
  apply Nat.eq_of_testBit_eq
  intro i
  simp only [sub_testBit, Nat.testBit_or]
  cases s.testBit i <;> cases a.testBit i <;> cases z.testBit i <;> rfl
theorem sub_zero_ (s : Nat) : sub s 0 = s := by simp [sub]
theorem bottomN_lt (xs : List Int) (s : Nat) (k : Nat) (hk : k ≤ 10) : bottomN xs s k < 1024 := by
  induction k with
  | zero => simp [bottomN]
  | succ k ih =>
    have h1 := ih (by omega)
    unfold bottomN
    split
    · exact Nat.or_lt_two_pow (n := 10) h1 (Nat.pow_lt_pow_right (by decide) (by omega))
    · exact h1

theorem poDown_any (v : Value) (xs : List Int) (s : Nat) (w : World) (hv : Ints w v xs) (hl : xs.length ≤ 10) (hs : s < 1024) (hsm : Small xs s) :
    Calls Tryz.prog 98 #[.agg #[v], .int .i64 s] w fun r w' => r = .returned (.int .i64 (down xs s : Nat)) ∧ Below w.heap.size w w' := by
  obtain ⟨A, c, rfl, hA⟩ := hv
  have HA := hid hA
  have Hlt := hid (fun k hk => underN_lt xs s hsm k hk)
  have Hs := hid hsm
  clear hA hsm
  go_enter Tryz.func98, Tryz.ntmps98
  go_wp2
  go_loop [5, 12] (fun f i => ∃ k : Nat, k ≤ xs.length ∧ i = .int .i64 k ∧ f = .int .i64 (s ||| underN xs s k : Nat)) (fun _ i => xs.length - (intOf i).toNat)
  case atStart => exact ⟨0, Nat.zero_le _, rfl, by simp [underN]⟩
  case round =>
    obtain ⟨k, hk, rfl, rfl⟩ := hrel
    by_cases hlt : k < xs.length
    · obtain ⟨b, o, rfl, hb, hc⟩ := HA.out (by intro h; simp [h] at hlt)
      have hcell := hc k hlt
      clear hc
      obtain ⟨x, hx⟩ : ∃ x, xs.getD k 0 = x := ⟨_, rfl⟩
      rw [hx] at hcell
      cases hbit : s.testBit k
      · have Hbit := hid hbit
        clear hbit hx
        go_wp2_with (go_at_call 127; refine (poIn_any s k (by omega) _).mono ?_; rw [Hbit.out]; rintro e w' ⟨rfl, rfl⟩)
        go_round
        case rel => exact ⟨k + 1, by omega, by go_num, by rw [underN, if_neg (by rw [Hbit.out]; decide)]⟩
        case measure => simp [intOf]; omega
      · have h2 := Hs.out k hlt hbit
        have h3 := Hlt.out k hk
        rw [hx] at h2
        obtain ⟨z, rfl⟩ := Int.eq_ofNat_of_zero_le h2.1
        have h4 : s ||| underN xs s k < 1024 := Nat.or_lt_two_pow (n := 10) hs h3
        have hor := i64_or_nat (s ||| underN xs s k) z (by omega) (by omega)
        have Hz := hid hx
        have Hbit := hid hbit
        clear hx hbit h2 h3 h4
        go_wp2_with (go_at_call 127; refine (poIn_any s k (by omega) _).mono ?_; rw [Hbit.out]; rintro e w' ⟨rfl, rfl⟩)
        go_round
        case rel => exact ⟨k + 1, by omega, by go_num, by rw [underN, if_pos Hbit.out, Hz.out, Int.toNat_natCast, Nat.or_assoc]⟩
        case measure => simp [intOf]; omega
    · obtain rfl : k = xs.length := by omega
      go_wp2
      go_ret
      exact ⟨rfl, (Below.refl _ _).alloc (Nat.le_refl _) _⟩
theorem poTop_any (v : Value) (xs : List Int) (s : Nat) (w : World) (hv : Ints w v xs) (hl : xs.length ≤ 10) (hs : s < 1024) (hsm : Small xs s) :
    Calls Tryz.prog 99 #[.agg #[v], .int .i64 s] w fun r w' => r = .returned (.int .i64 (top xs s : Nat)) ∧ Below w.heap.size w w' := by
  obtain ⟨A, c, rfl, hA⟩ := hv
  have HA := hid hA
  have Hs := hid hsm
  clear hA hsm
  go_enter Tryz.func99, Tryz.ntmps99
  go_wp2
  go_loop [5, 12] (fun f i => ∃ k : Nat, k ≤ xs.length ∧ i = .int .i64 k ∧ f = .int .i64 (sub s (underN xs s k) : Nat)) (fun _ i => xs.length - (intOf i).toNat)
  case atStart => exact ⟨0, Nat.zero_le _, rfl, by simp [underN, sub_zero_]⟩
  case round =>
    obtain ⟨k, hk, rfl, rfl⟩ := hrel
    by_cases hlt : k < xs.length
    · obtain ⟨b, o, rfl, hb, hc⟩ := HA.out (by intro h; simp [h] at hlt)
      have hcell := hc k hlt
      clear hc
      obtain ⟨x, hx⟩ : ∃ x, xs.getD k 0 = x := ⟨_, rfl⟩
      rw [hx] at hcell
      cases hbit : s.testBit k
      · have Hbit := hid hbit
        clear hbit hx
        go_wp2_with (go_at_call 127; refine (poIn_any s k (by omega) _).mono ?_; rw [Hbit.out]; rintro e w' ⟨rfl, rfl⟩)
        go_round
        case rel => exact ⟨k + 1, by omega, by go_num, by rw [underN, if_neg (by rw [Hbit.out]; decide)]⟩
        case measure => simp [intOf]; omega
      · have h2 := Hs.out k hlt hbit
        rw [hx] at h2
        obtain ⟨z, rfl⟩ := Int.eq_ofNat_of_zero_le h2.1
        have h4 : sub s (underN xs s k) < 1024 := Nat.lt_of_le_of_lt (sub_le _ _) hs
        have hor := i64_andNot_nat (sub s (underN xs s k)) z (by omega) (by omega)
        have Hz := hid hx
        have Hbit := hid hbit
        clear hx hbit h2 h4
        go_wp2_with (go_at_call 127; refine (poIn_any s k (by omega) _).mono ?_; rw [Hbit.out]; rintro e w' ⟨rfl, rfl⟩)
        go_round
        case rel => exact ⟨k + 1, by omega, by go_num, by rw [underN, if_pos Hbit.out, Hz.out, Int.toNat_natCast, sub_sub_or]⟩
        case measure => simp [intOf]; omega
    · obtain rfl : k = xs.length := by omega
      go_wp2
      go_ret
      exact ⟨rfl, (Below.refl _ _).alloc (Nat.le_refl _) _⟩
theorem poIdeal_any (v : Value) (xs : List Int) (s : Nat) (w : World) (hv : Ints w v xs) (hl : xs.length ≤ 10) (hs : s < 1024) (hsm : Small xs s) :
    Calls Tryz.prog 102 #[.agg #[v], .int .i64 s] w fun r w' => r = .returned (.bool (holdsIdeal xs s)) ∧ Below w.heap.size w w' := by
  obtain ⟨A, c, rfl, hA⟩ := hv
  have HA := hid hA
  have Hs := hid hsm
  clear hA hsm
  go_enter Tryz.func102, Tryz.ntmps102
  go_wp2
  go_loop [10] (fun i => ∃ k : Nat, k ≤ xs.length ∧ i = .int .i64 k ∧ Hid (∀ e, e < k → s.testBit e = true → sub (xs.getD e 0).toNat s = 0)) (fun i => xs.length - (intOf i).toNat)
  case atStart => exact ⟨0, Nat.zero_le _, rfl, hid (fun j hj => absurd hj (Nat.not_lt_zero _))⟩
  case round =>
    obtain ⟨k, hk, rfl, Hk⟩ := hrel
    by_cases hlt : k < xs.length
    · obtain ⟨b, o, rfl, hb, hc⟩ := HA.out (by intro h; simp [h] at hlt)
      have hcell := hc k hlt
      clear hc
      obtain ⟨x, hx⟩ : ∃ x, xs.getD k 0 = x := ⟨_, rfl⟩
      rw [hx] at hcell
      cases hbit : s.testBit k
      · have Hbit := hid hbit
        clear hbit hx
        go_wp2_with (go_at_call 127; refine (poIn_any s k (by omega) _).mono ?_; rw [Hbit.out]; rintro e w' ⟨rfl, rfl⟩)
        go_round
        case rel => exact ⟨k + 1, by omega, by go_num, hid (fun e he hb => by
          by_cases h : e = k
          · subst h; rw [Hbit.out] at hb; cases hb
          · exact Hk.out e (by omega) hb)⟩
        case measure => simp [intOf]; omega
      · have h2 := Hs.out k hlt hbit
        rw [hx] at h2
        obtain ⟨z, rfl⟩ := Int.eq_ofNat_of_zero_le h2.1
        have hor := i64_andNot_nat z s (by omega) (by omega)
        have Hz := hid hx
        have Hbit := hid hbit
        clear hx hbit h2
        by_cases h0 : sub z s = 0
        · have hs' : (((sub z s : Nat) : Int) != 0) = false := by rw [h0]; rfl
          have H0 := hid h0
          clear h0
          go_wp2_with (go_at_call 127; refine (poIn_any s k (by omega) _).mono ?_; rw [Hbit.out]; rintro e w' ⟨rfl, rfl⟩)
          go_round
          case rel => exact ⟨k + 1, by omega, by go_num, hid (fun e he hb => by
            by_cases h : e = k
            · subst h; rw [Hz.out]; exact H0.out
            · exact Hk.out e (by omega) hb)⟩
          case measure => simp [intOf]; omega
        · have hs' : (((sub z s : Nat) : Int) != 0) = true := by rw [bne_iff_ne]; omega
          have Hg : Hid (holdsIdeal xs s = false) := hid (by
            cases hh : holdsIdeal xs s
            · rfl
            · exact absurd ((holdsIdeal_iff xs s).1 hh k hlt Hbit.out) (by rw [Hz.out]; exact h0))
          clear h0
          go_wp2_with (go_at_call 127; refine (poIn_any s k (by omega) _).mono ?_; rw [Hbit.out]; rintro e w' ⟨rfl, rfl⟩)
          go_ret
          exact ⟨ret_bool Hg.out.symm, (Below.refl _ _).alloc (Nat.le_refl _) _⟩
    · obtain rfl : k = xs.length := by omega
      have Hg := hid ((holdsIdeal_iff xs s).2 Hk.out)
      go_wp2
      go_ret
      exact ⟨ret_bool Hg.out.symm, (Below.refl _ _).alloc (Nat.le_refl _) _⟩
theorem poSet_any (v : Value) (xs : List Int) (s : Int) (w : World) (hv : Ints w v xs) (hl : xs.length ≤ 10) :
    Calls Tryz.prog 97 #[.agg #[v], .int .i64 s] w fun r w' => r = .returned (.bool (decide (0 ≤ s) && decide (s ≤ (2 ^ xs.length - 1 : Nat)))) ∧ Below w.heap.size w w' := by
  obtain ⟨A, c, rfl, hA⟩ := hv
  clear hA
  have Wm := hid (wrap_mask xs.length hl)
  obtain ⟨R, hR⟩ : ∃ R, (decide (0 ≤ s) && decide (s ≤ ((2 ^ xs.length - 1 : Nat) : Int))) = R := ⟨_, rfl⟩
  rw [hR]
  have HR := hid hR
  clear hR
  go_enter Tryz.func97, Tryz.ntmps97
  go_wp2_with (go_at_call 60; rw [Wm.out]; refine (l1In_any _ _ _ _).mono ?_; rw [HR.out]; rintro e w' ⟨rfl, rfl⟩)
  go_ret
  exact ⟨rfl, (Below.refl _ _).alloc (Nat.le_refl _) _⟩
theorem hasSet_any (v : Value) (xs : List Int) (s : Int) (w : World) (hv : Ints w v xs) (hl : xs.length ≤ 1048576) :
    Calls Tryz.prog 109 #[.agg #[v], .int .i64 s] w fun r w' => r = .returned (.bool (okSet xs s)) ∧ Below w.heap.size w w' := by
  have HV := hid hv
  obtain ⟨A, c, rfl, hA⟩ := hv
  clear hA
  cases hg : good xs
  · have H1 : Hid (okSet xs s = false) := hid (by simp [okSet, hg])
    have Hg := hid hg
    clear hg
    go_enter Tryz.func109, Tryz.ntmps109
    go_wp2_with (go_at_call 57; refine (implIsPoset_any _ xs _ (HV.out.alloc _) hl).mono ?_; rw [Hg.out]; rintro e w1 ⟨rfl, hb1⟩)
    go_ret
    exact ⟨ret_bool H1.out.symm, ((Below.refl _ _).alloc (Nat.le_refl _) _).trans (hb1.mono (by simp))⟩
  · have hl10 := (good_length hg).2
    by_cases h0 : 0 ≤ s
    · have H1 : Hid (okSet xs s = decide (s ≤ (2 ^ xs.length - 1 : Nat))) := hid (by simp only [okSet, hg, decide_eq_true h0, Bool.true_and])
      have Hg := hid hg
      clear hg
      go_enter Tryz.func109, Tryz.ntmps109
      go_wp2_with fail
      refine (implIsPoset_any _ xs _ (HV.out.alloc _) hl).mono ?_
      rw [Hg.out]
      rintro e w1 ⟨rfl, hb1⟩
      obtain ⟨hc, hf⟩ := bcell hb1
      have HB := hid hb1
      clear hb1
      go_wp2_with (go_at_call 107; refine (wholeSet_any xs.length hl10 _).mono ?_; rintro e w' ⟨rfl, rfl⟩)
      go_ret
      exact ⟨ret_bool H1.out.symm, ((Below.refl _ _).alloc (Nat.le_refl _) _).trans (HB.out.mono (by simp))⟩
    · have H1 : Hid (okSet xs s = false) := hid (by simp only [okSet, hg, decide_eq_false h0, Bool.false_and, Bool.and_false])
      have Hg := hid hg
      clear hg
      go_enter Tryz.func109, Tryz.ntmps109
      go_wp2_with (go_at_call 57; refine (implIsPoset_any _ xs _ (HV.out.alloc _) hl).mono ?_; rw [Hg.out]; rintro e w1 ⟨rfl, hb1⟩)
      go_ret
      exact ⟨ret_bool H1.out.symm, ((Below.refl _ _).alloc (Nat.le_refl _) _).trans (hb1.mono (by simp))⟩
end Go.Proofs.YtdemikjaghegnaaGreat
