/- Staircase: the steps, and the closure. -/
import Derived.Test.YtbbkoagjplapkabFrom
import Derived.BigQuiet
namespace Go.Proofs.Ytbbkoagjplapkab
open Go.RowKit Go.WideShapes Go.ChangeShapes
set_option linter.unusedVariables false

def stIn (d : Nat) : Nat → List (Nat × Nat)
  | 0 => []
  | i + 1 => stIn d i ++ [(i, i + d)]
def stPS (n : Nat) : Nat → List (Nat × Nat)
  | 0 => []
  | e + 1 => stPS n e ++ stIn (e + 1) (n - e)
theorem stIn_length (d i : Nat) : (stIn d i).length = i := by
  induction i with
  | zero => rfl
  | succ i ih => rw [stIn, List.length_append, ih]; rfl
theorem stPS_length (n e : Nat) : (stPS n e).length ≤ e * n := by
  induction e with
  | zero => simp [stPS]
  | succ e ih =>
    rw [stPS, List.length_append, stIn_length, Nat.add_mul]
    omega
def stF (ps : List (Nat × Nat)) (j i : Nat) : Bool := decide ((ps.getD i (0, 0)).1 ≤ (ps.getD j (0, 0)).1) && decide ((ps.getD j (0, 0)).2 ≤ (ps.getD i (0, 0)).2)
def stG (ps : List (Nat × Nat)) (x y : Nat) : Bool := decide (x ≠ y) && stF ps y x
def stcL (n : Int) : List Int := if 1 ≤ n ∧ n ≤ 4 then whereL (stF (stPS n.toNat n.toNat)) (stPS n.toNat n.toNat).length else []
theorem st_eq (n : Nat) (h1 : 1 ≤ n) (h2 : n ≤ 4) : mkL (stPS n n).length (fun x => rowN (stG (stPS n n) x) (stPS n n).length) = whereL (stF (stPS n n)) (stPS n n).length := by
  rcases (by omega : n = 1 ∨ n = 2 ∨ n = 3 ∨ n = 4) with rfl | rfl | rfl | rfl <;> decide +kernel
theorem st_len (n : Nat) (h1 : 1 ≤ n) (h2 : n ≤ 4) : (stPS n n).length ≤ 10 ∧ 1 ≤ (stPS n n).length ∧ ∀ j, j < (stPS n n).length → ((stPS n n).getD j (0, 0)).1 ≤ 4 ∧ ((stPS n n).getD j (0, 0)).2 ≤ 4 := by
  rcases (by omega : n = 1 ∨ n = 2 ∨ n = 3 ∨ n = 4) with rfl | rfl | rfl | rfl <;> decide +kernel
theorem stcL_yes {n : Nat} (h1 : 1 ≤ n) (h2 : n ≤ 4) : stcL n = whereL (stF (stPS n n)) (stPS n n).length := by
  unfold stcL
  rw [if_pos (by omega), Int.toNat_natCast]
theorem stcL_no {n : Int} (h : ¬ (1 ≤ n ∧ n ≤ 4)) : stcL n = [] := if_neg h
theorem stcL_length (n : Int) : (stcL n).length ≤ 1048576 := by
  unfold stcL
  split
  · rename_i h
    have := (st_len n.toNat (by omega) (by omega)).1
    unfold whereL; rw [mkL_length]; omega
  · simp
/-- 'v' is a slice of the pairs ps, each in two cells -/
def FlatR (w : World) (v : Value) (ps : List (Nat × Nat)) : Prop :=
  ∃ b c, v = .slice (some ⟨b, 0, none⟩) ps.length c ∧ b < w.heap.size ∧ ∀ j, j < ps.length → w.cell? ⟨b, j * 2, none⟩ = some (.int .i64 ((ps.getD j (0, 0)).1 : Int)) ∧ w.cell? ⟨b, j * 2 + 1, none⟩ = some (.int .i64 ((ps.getD j (0, 0)).2 : Int))
theorem FlatR.below {w w' : World} {v : Value} {ps : List (Nat × Nat)} (h : FlatR w v ps) (hb : Below w.heap.size w w') : FlatR w' v ps := by
  obtain ⟨b, c, rfl, h1, h2⟩ := h
  exact ⟨b, c, rfl, Nat.lt_of_lt_of_le h1 hb.size, fun j hj => ⟨(hb.cell (p := ⟨b, j * 2, none⟩) h1).trans (h2 j hj).1, (hb.cell (p := ⟨b, j * 2 + 1, none⟩) h1).trans (h2 j hj).2⟩⟩
theorem Try.info51 : (Try.prog.info? 51).map (fun i => (i.zero, i.size, i.bytes)) = some (some (.agg #[.int .i64 0, .int .i64 0]), 2, 16) := by kernel_rfl
theorem stairClosure_any (a : Nat) (v : Value) (ps : List (Nat × Nat)) (j i : Nat) (w : World) (h1 : At w a v) (h2 : FlatR w v ps) (hl : ps.length ≤ 10) (hj : j < ps.length) (hi : i < ps.length) :
    Calls Try.prog 33 #[.int .i64 j, .int .i64 i, .pointer (some ⟨a, 0, none⟩)] w fun r w' => r = .returned (.bool (stF ps j i)) ∧ Below w.heap.size w w' := by
  obtain ⟨b, c, rfl, hb, hc⟩ := h2
  obtain ⟨h1, hz⟩ := h1
  obtain ⟨j1, j2⟩ := hc j hj
  obtain ⟨i1, i2⟩ := hc i hi
  have H : Hid (stF ps j i = (decide (((ps.getD i (0, 0)).1 : Int) ≤ ((ps.getD j (0, 0)).1 : Int)) && decide (((ps.getD j (0, 0)).2 : Int) ≤ ((ps.getD i (0, 0)).2 : Int)))) := hid (by simp [stF])
  obtain ⟨p, hp⟩ : ∃ p, ps.getD j (0, 0) = p := ⟨_, rfl⟩
  obtain ⟨q, hq⟩ : ∃ q, ps.getD i (0, 0) = q := ⟨_, rfl⟩
  rw [hp] at j1 j2 H
  rw [hq] at i1 i2 H
  obtain ⟨p0, hp0⟩ : ∃ x : Int, (p.1 : Int) = x := ⟨_, rfl⟩
  obtain ⟨p1, hp1⟩ : ∃ x : Int, (p.2 : Int) = x := ⟨_, rfl⟩
  obtain ⟨q0, hq0⟩ : ∃ x : Int, (q.1 : Int) = x := ⟨_, rfl⟩
  obtain ⟨q1, hq1⟩ : ∃ x : Int, (q.2 : Int) = x := ⟨_, rfl⟩
  rw [hp0] at j1 H; rw [hp1] at j2 H; rw [hq0] at i1 H; rw [hq1] at i2 H
  have hj' : (j : Int) < (ps.length : Int) := by omega
  have hi' : (i : Int) < (ps.length : Int) := by omega
  clear hc hp hq hp0 hp1 hq0 hq1
  by_cases c1 : q0 ≤ p0
  · have H2 : Hid (stF ps j i = decide (p1 ≤ q1)) := hid (by rw [H.out, decide_eq_true c1, Bool.true_and])
    clear H
    go_enter Try.func33, Try.ntmps33
    go_wp2_with fail
    go_region
    all_goals go_wp2
    all_goals go_ret
    all_goals exact ⟨ret_bool H2.out.symm, (below_alloc (below_alloc (Below.refl _ _) _) _).drew⟩
  · have H2 : Hid (stF ps j i = false) := hid (by rw [H.out, decide_eq_false c1, Bool.false_and])
    clear H
    go_enter Try.func33, Try.ntmps33
    go_wp2_with fail
    go_region
    all_goals go_wp2
    all_goals go_ret
    all_goals exact ⟨ret_bool H2.out.symm, (below_alloc (below_alloc (Below.refl _ _) _) _).drew⟩
/-! ### a slice of pairs of its own, grown -/
def flat (ps : List (Nat × Nat)) : List Value := ps.flatMap fun p => [.int .i64 (p.1 : Int), .int .i64 (p.2 : Int)]
theorem flat_append (ps : List (Nat × Nat)) (a b : Nat) : flat (ps ++ [(a, b)]) = flat ps ++ [.int .i64 (a : Int), .int .i64 (b : Int)] := by simp [flat]
theorem flat_get (ps : List (Nat × Nat)) (j : Nat) (hj : j < ps.length) : (flat ps)[j * 2]? = some (.int .i64 ((ps.getD j (0, 0)).1 : Int)) ∧ (flat ps)[j * 2 + 1]? = some (.int .i64 ((ps.getD j (0, 0)).2 : Int)) := by
  induction ps generalizing j with
  | nil => simp at hj
  | cons p ps ih =>
    match j with
    | 0 => simp [flat]
    | j + 1 =>
      have h := ih j (by simpa using hj)
      have e1 : (j + 1) * 2 = (j * 2) + 1 + 1 := by omega
      rw [e1]
      simpa [flat] using h
def FlatOwn (ts : TypeId) (w : World) (B : Nat) (v : Value) (ps : List (Nat × Nat)) : Prop := w.ownsRow B ts 2 v ps.length (flat ps)
theorem FlatOwn.nil (ts : TypeId) (w : World) (B : Nat) : FlatOwn ts w B (.slice none 0 0) [] := World.ownsRow_nil w B ts 2
theorem FlatOwn.below {ts : TypeId} {w w' : World} {B : Nat} {v : Value} {ps : List (Nat × Nat)} (h : FlatOwn ts w B v ps) (hb : Below w.heap.size w w') : FlatOwn ts w' B v ps := by
  by_cases hv : v.ownBlock = none
  · exact World.ownsRow.kept h (grown_of_below hb none) (.inl hv)
  · exact World.ownsRow.kept h (grown_of_below hb none) (.inr hv)
theorem FlatOwn.far {ts : TypeId} {w : World} {B : Nat} {v : Value} {ps : List (Nat × Nat)} (h : FlatOwn ts w B v ps) {p : Addr} (hp : p.block < B) (hs : p.spot = none) (u : Value) : FlatOwn ts (w.setCell p u) B v ps := by
  refine World.ownsRow.kept (row := some p.block) h ?_ (.inr fun e => ?_)
  · obtain ⟨b, o, t⟩ := p
    simp only at hs
    subst hs
    exact grown_setCell (World.grownBy.refl w (some b)) o u
  · have := (World.ownsRow.lt h p.block e).1
    omega
theorem FlatOwn.shape3 {ts : TypeId} {w : World} {B : Nat} {v : Value} {ps : List (Nat × Nat)} (h : FlatOwn ts w B v ps) : ∃ A c, v = .slice A ps.length c := by
  rcases h.2 with ⟨rfl, h0⟩ | ⟨g, cap, cur, rfl, _⟩
  · exact ⟨none, 0, by rw [h0]⟩
  · exact ⟨_, _, rfl⟩
theorem FlatOwn.read {ts : TypeId} {w : World} {B : Nat} {v : Value} {ps : List (Nat × Nat)} (h : FlatOwn ts w B v ps) (h1 : 1 ≤ ps.length) : FlatR w v ps := by
  have h' := h
  rcases h.2 with ⟨-, h0⟩ | ⟨g, cap, cur, rfl, -, hh, -⟩
  · omega
  · refine ⟨g, cap, rfl, ?_, fun j hj => ?_⟩
    · rcases Nat.lt_or_ge g w.heap.size with hlt | hge
      · exact hlt
      · rw [Array.getElem?_eq_none hge] at hh; cases hh
    · have := flat_get ps j hj
      exact ⟨(World.ownsRow.cellAt h' (j * 2) (by omega)).trans this.1, (World.ownsRow.cellAt h' (j * 2 + 1) (by omega)).trans this.2⟩
theorem wpList_append_flat {P : Program} {w W : World} {ops : Array Oper} {rest : List Oper} {o : Oper} {ac : Act} {Q : Exit → Act → World → Prop} (hgd : o.guard = none) (s x : Operand) (t ts : TypeId)
    (ho : o.op = .call { callee := .builtin .append, args := #[s, x], argTypes := #[t, t] }) (ht : P.underlying t = some (.slice ts)) (hinfo : (P.info? ts).map (fun i => (i.zero, i.size, i.bytes)) = some (some (.agg #[.int .i64 0, .int .i64 0]), 2, 16))
    (B : Nat) (v : Value) (ps : List (Nat × Nat)) (a b : Nat) (hs : ac.eval s = v) (hown : FlatOwn ts w B v ps)
    (hW : W = w.alloc (.cells #[.int .i64 (a : Int), .int .i64 (b : Int)] ts)) (hx : ac.eval x = .slice (some ⟨w.heap.size, 0, none⟩) 1 1) (hlen : ps.length < 1048576) (hB : B ≤ w.heap.size)
    (h : ∀ v' w', FlatOwn ts w' B v' (ps ++ [(a, b)]) → Below B w w' → wpList P ops Q rest (ac.put o.dst v') w') : wpList P ops Q (o :: rest) ac W := by
  subst hW
  obtain ⟨i0, hi, hz0, hz1, hz2⟩ := info_parts hinfo
  refine wpList_append_own _ hgd s x t ho B ts i0 (.agg #[.int .i64 0, .int .i64 0]) 2 16 ht hi hz0 hz1 hz2 rfl (by decide) v ps.length (flat ps) hs (World.ownsRow.alloc hown _) ⟨w.heap.size, 0, none⟩ 1 1 [.int .i64 (a : Int), .int .i64 (b : Int)] hx rfl ?_ ?_ ?_ ?_ ?_ ?_
  · intro j u hj
    match j, hj with
    | 0, hj =>
      simp only [List.getElem?_cons_zero, Option.some.injEq] at hj
      subst hj
      exact (Blk.new w ts #[.int .i64 (a : Int), .int .i64 (b : Int)]).cell 0
    | 1, hj =>
      simp only [List.getElem?_cons_succ, List.getElem?_cons_zero, Option.some.injEq] at hj
      subst hj
      exact (Blk.new w ts #[.int .i64 (a : Int), .int .i64 (b : Int)]).cell 1
    | j + 2, hj => simp at hj
  · intro u hu
    simp only [List.mem_cons, List.not_mem_nil, or_false] at hu
    rcases hu with rfl | rfl <;> rfl
  · unfold maxLen; omega
  · omega
  · simp; omega
  · intro v' w' h4 h5 _
    refine h v' w' ?_ ?_
    · unfold FlatOwn
      rw [flat_append, List.length_append]
      exact h4
    · have hb : Below B w (w.alloc (.cells #[.int .i64 (a : Int), .int .i64 (b : Int)] ts)) := (Below.refl _ _).alloc hB _
      exact hb.grown h5 (by simp; omega) fun k hk => (World.ownsRow.lt hown k hk).1
end Go.Proofs.Ytbbkoagjplapkab
