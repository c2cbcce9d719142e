/- StairS Kn NumS Err -/
import Derived.BigQuiet
import Derived.Test.YtbmhaamenjhjfaaGreatDoorChecked
import Derived.WalkKit
import Derived.LaidEql
import Derived.Stop.Asserts
import Derived.RowKitTokens
import Derived.Test.YtbmhaamenjhjfaaGreatDoorPkD09
import Derived.Test.YtbmhaamenjhjfaaGreatDoorPkD17
namespace Go.Proofs.YtbmhaamenjhjfaaGreatDoor
open Go.RowKit Go.WideShapes Go.ChangeShapes
set_option linter.unusedVariables false
def stIn (d : Nat) : Nat → List (Nat × Nat)
  | 0 => []
  | i + 1 => stIn d i ++ [(i, i + d)]
def stPS (n : Nat) : Nat → List (Nat × Nat)
  | 0 => []
  | e + 1 => stPS n e ++ stIn (e + 1) (n - e)
theorem stIn_length (d i : Nat) : (stIn d i).length = i := by
  induction i with
  | zero => rfl
  | succ i ih => rw [stIn, List.length_append, ih]; rfl
theorem stPS_length (n e : Nat) : (stPS n e).length ≤ e * n := by
  induction e with
  | zero => simp [stPS]
  | succ e ih =>
    rw [stPS, List.length_append, stIn_length, Nat.add_mul]
    omega
def stF (ps : List (Nat × Nat)) (j i : Nat) : Bool := decide ((ps.getD i (0, 0)).1 ≤ (ps.getD j (0, 0)).1) && decide ((ps.getD j (0, 0)).2 ≤ (ps.getD i (0, 0)).2)
def stG (ps : List (Nat × Nat)) (x y : Nat) : Bool := decide (x ≠ y) && stF ps y x
def stcL (n : Int) : List Int := if 1 ≤ n ∧ n ≤ 4 then whereL (stF (stPS n.toNat n.toNat)) (stPS n.toNat n.toNat).length else []
theorem st_eq (n : Nat) (h1 : 1 ≤ n) (h2 : n ≤ 4) : mkL (stPS n n).length (fun x => rowN (stG (stPS n n) x) (stPS n n).length) = whereL (stF (stPS n n)) (stPS n n).length := by
  rcases (by omega : n = 1 ∨ n = 2 ∨ n = 3 ∨ n = 4) with rfl | rfl | rfl | rfl <;> decide +kernel
theorem st_len (n : Nat) (h1 : 1 ≤ n) (h2 : n ≤ 4) : (stPS n n).length ≤ 10 ∧ 1 ≤ (stPS n n).length ∧ ∀ j, j < (stPS n n).length → ((stPS n n).getD j (0, 0)).1 ≤ 4 ∧ ((stPS n n).getD j (0, 0)).2 ≤ 4 := by
  rcases (by omega : n = 1 ∨ n = 2 ∨ n = 3 ∨ n = 4) with rfl | rfl | rfl | rfl <;> decide +kernel
theorem stcL_yes {n : Nat} (h1 : 1 ≤ n) (h2 : n ≤ 4) : stcL n = whereL (stF (stPS n n)) (stPS n n).length := by
  unfold stcL
  rw [if_pos (by omega), Int.toNat_natCast]
theorem stcL_no {n : Int} (h : ¬ (1 ≤ n ∧ n ≤ 4)) : stcL n = [] := if_neg h
theorem stcL_length (n : Int) : (stcL n).length ≤ 1048576 := by
  unfold stcL
  split
  · rename_i h
    have := (st_len n.toNat (by omega) (by omega)).1
    unfold whereL; rw [mkL_length]; omega
  · simp
def FlatR (w : World) (v : Value) (ps : List (Nat × Nat)) : Prop :=
  ∃ b c, v = .slice (some ⟨b, 0, none⟩) ps.length c ∧ b < w.heap.size ∧ ∀ j, j < ps.length → w.cell? ⟨b, j * 2, none⟩ = some (.int .i64 ((ps.getD j (0, 0)).1 : Int)) ∧ w.cell? ⟨b, j * 2 + 1, none⟩ = some (.int .i64 ((ps.getD j (0, 0)).2 : Int))
theorem FlatR.below {w w' : World} {v : Value} {ps : List (Nat × Nat)} (h : FlatR w v ps) (hb : Below w.heap.size w w') : FlatR w' v ps := by
  obtain ⟨b, c, rfl, h1, h2⟩ := h
  exact ⟨b, c, rfl, Nat.lt_of_lt_of_le h1 hb.size, fun j hj => ⟨(hb.cell (p := ⟨b, j * 2, none⟩) h1).trans (h2 j hj).1, (hb.cell (p := ⟨b, j * 2 + 1, none⟩) h1).trans (h2 j hj).2⟩⟩
theorem Tryz.info183 : (Tryz.prog.info? 183).map (fun i => (i.zero, i.size, i.bytes)) = some (some (.agg #[.int .i64 0, .int .i64 0]), 2, 16) := by kernel_rfl
theorem stairClosure_any (a : Nat) (v : Value) (ps : List (Nat × Nat)) (j i : Nat) (w : World) (h1 : At w a v) (h2 : FlatR w v ps) (hl : ps.length ≤ 10) (hj : j < ps.length) (hi : i < ps.length) :
    Calls Tryz.prog 161 #[.int .i64 j, .int .i64 i, .pointer (some ⟨a, 0, none⟩)] w fun r w' => r = .returned (.bool (stF ps j i)) ∧ Below w.heap.size w w' := by
  obtain ⟨b, c, rfl, hb, hc⟩ := h2
  obtain ⟨h1, hz⟩ := h1
  obtain ⟨j1, j2⟩ := hc j hj
  obtain ⟨i1, i2⟩ := hc i hi
  have H : Hid (stF ps j i = (decide (((ps.getD i (0, 0)).1 : Int) ≤ ((ps.getD j (0, 0)).1 : Int)) && decide (((ps.getD j (0, 0)).2 : Int) ≤ ((ps.getD i (0, 0)).2 : Int)))) := hid (by simp [stF])
  obtain ⟨p, hp⟩ : ∃ p, ps.getD j (0, 0) = p := ⟨_, rfl⟩
  obtain ⟨q, hq⟩ : ∃ q, ps.getD i (0, 0) = q := ⟨_, rfl⟩
  rw [hp] at j1 j2 H
  rw [hq] at i1 i2 H
  obtain ⟨p0, hp0⟩ : ∃ x : Int, (p.1 : Int) = x := ⟨_, rfl⟩
  obtain ⟨p1, hp1⟩ : ∃ x : Int, (p.2 : Int) = x := ⟨_, rfl⟩
  obtain ⟨q0, hq0⟩ : ∃ x : Int, (q.1 : Int) = x := ⟨_, rfl⟩
  obtain ⟨q1, hq1⟩ : ∃ x : Int, (q.2 : Int) = x := ⟨_, rfl⟩
  rw [hp0] at j1 H; rw [hp1] at j2 H; rw [hq0] at i1 H; rw [hq1] at i2 H
  have hj' : (j : Int) < (ps.length : Int) := by omega
  have hi' : (i : Int) < (ps.length : Int) := by omega
  clear hc hp hq hp0 hp1 hq0 hq1
  by_cases c1 : q0 ≤ p0
  · have H2 : Hid (stF ps j i = decide (p1 ≤ q1)) := hid (by rw [H.out, decide_eq_true c1, Bool.true_and])
    clear H
    go_enter Tryz.func161, Tryz.ntmps161
    go_wp2_with fail
    go_region
    all_goals go_wp2
    all_goals go_ret
    all_goals exact ⟨ret_bool H2.out.symm, (below_alloc (below_alloc (Below.refl _ _) _) _).drew⟩
  · have H2 : Hid (stF ps j i = false) := hid (by rw [H.out, decide_eq_false c1, Bool.false_and])
    clear H
    go_enter Tryz.func161, Tryz.ntmps161
    go_wp2_with fail
    go_region
    all_goals go_wp2
    all_goals go_ret
    all_goals exact ⟨ret_bool H2.out.symm, (below_alloc (below_alloc (Below.refl _ _) _) _).drew⟩
def flat (ps : List (Nat × Nat)) : List Value := ps.flatMap fun p => [.int .i64 (p.1 : Int), .int .i64 (p.2 : Int)]
theorem flat_append (ps : List (Nat × Nat)) (a b : Nat) : flat (ps ++ [(a, b)]) = flat ps ++ [.int .i64 (a : Int), .int .i64 (b : Int)] := by simp [flat]
theorem flat_get (ps : List (Nat × Nat)) (j : Nat) (hj : j < ps.length) : (flat ps)[j * 2]? = some (.int .i64 ((ps.getD j (0, 0)).1 : Int)) ∧ (flat ps)[j * 2 + 1]? = some (.int .i64 ((ps.getD j (0, 0)).2 : Int)) := by
  induction ps generalizing j with
  | nil => simp at hj
  | cons p ps ih =>
    match j with
    | 0 => simp [flat]
    | j + 1 =>
      have h := ih j (by simpa using hj)
      have e1 : (j + 1) * 2 = (j * 2) + 1 + 1 := by omega
      rw [e1]
      simpa [flat] using h
def FlatOwn (ts : TypeId) (w : World) (B : Nat) (v : Value) (ps : List (Nat × Nat)) : Prop := w.ownsRow B ts 2 v ps.length (flat ps)
theorem FlatOwn.nil (ts : TypeId) (w : World) (B : Nat) : FlatOwn ts w B (.slice none 0 0) [] := World.ownsRow_nil w B ts 2
theorem FlatOwn.below {ts : TypeId} {w w' : World} {B : Nat} {v : Value} {ps : List (Nat × Nat)} (h : FlatOwn ts w B v ps) (hb : Below w.heap.size w w') : FlatOwn ts w' B v ps := by
  by_cases hv : v.ownBlock = none
  · exact World.ownsRow.kept h (grown_of_below hb none) (.inl hv)
  · exact World.ownsRow.kept h (grown_of_below hb none) (.inr hv)
theorem FlatOwn.far {ts : TypeId} {w : World} {B : Nat} {v : Value} {ps : List (Nat × Nat)} (h : FlatOwn ts w B v ps) {p : Addr} (hp : p.block < B) (hs : p.spot = none) (u : Value) : FlatOwn ts (w.setCell p u) B v ps := by
  refine World.ownsRow.kept (row := some p.block) h ?_ (.inr fun e => ?_)
  · obtain ⟨b, o, t⟩ := p
    simp only at hs
    subst hs
    exact grown_setCell (World.grownBy.refl w (some b)) o u
  · have := (World.ownsRow.lt h p.block e).1
    omega
theorem FlatOwn.shape3 {ts : TypeId} {w : World} {B : Nat} {v : Value} {ps : List (Nat × Nat)} (h : FlatOwn ts w B v ps) : ∃ A c, v = .slice A ps.length c := by
  rcases h.2 with ⟨rfl, h0⟩ | ⟨g, cap, cur, rfl, _⟩
  · exact ⟨none, 0, by rw [h0]⟩
  · exact ⟨_, _, rfl⟩
theorem FlatOwn.read {ts : TypeId} {w : World} {B : Nat} {v : Value} {ps : List (Nat × Nat)} (h : FlatOwn ts w B v ps) (h1 : 1 ≤ ps.length) : FlatR w v ps := by
  have h' := h
  rcases h.2 with ⟨-, h0⟩ | ⟨g, cap, cur, rfl, -, hh, -⟩
  · omega
  · refine ⟨g, cap, rfl, ?_, fun j hj => ?_⟩
    · rcases Nat.lt_or_ge g w.heap.size with hlt | hge
      · exact hlt
      · rw [Array.getElem?_eq_none hge] at hh; cases hh
    · have := flat_get ps j hj
      exact ⟨(World.ownsRow.cellAt h' (j * 2) (by omega)).trans this.1, (World.ownsRow.cellAt h' (j * 2 + 1) (by omega)).trans this.2⟩
theorem wpList_append_flat {P : Program} {w W : World} {ops : Array Oper} {rest : List Oper} {o : Oper} {ac : Act} {Q : Exit → Act → World → Prop} (hgd : o.guard = none) (s x : Operand) (t ts : TypeId)
    (ho : o.op = .call { callee := .builtin .append, args := #[s, x], argTypes := #[t, t] }) (ht : P.underlying t = some (.slice ts)) (hinfo : (P.info? ts).map (fun i => (i.zero, i.size, i.bytes)) = some (some (.agg #[.int .i64 0, .int .i64 0]), 2, 16))
    (B : Nat) (v : Value) (ps : List (Nat × Nat)) (a b : Nat) (hs : ac.eval s = v) (hown : FlatOwn ts w B v ps)
    (hW : W = w.alloc (.cells #[.int .i64 (a : Int), .int .i64 (b : Int)] ts)) (hx : ac.eval x = .slice (some ⟨w.heap.size, 0, none⟩) 1 1) (hlen : ps.length < 1048576) (hB : B ≤ w.heap.size)
    (h : ∀ v' w', FlatOwn ts w' B v' (ps ++ [(a, b)]) → Below B w w' → wpList P ops Q rest (ac.put o.dst v') w') : wpList P ops Q (o :: rest) ac W := by
  subst hW
  obtain ⟨i0, hi, hz0, hz1, hz2⟩ := info_parts hinfo
  refine wpList_append_own _ hgd s x t ho B ts i0 (.agg #[.int .i64 0, .int .i64 0]) 2 16 ht hi hz0 hz1 hz2 rfl (by decide) v ps.length (flat ps) hs (World.ownsRow.alloc hown _) ⟨w.heap.size, 0, none⟩ 1 1 [.int .i64 (a : Int), .int .i64 (b : Int)] hx rfl ?_ ?_ ?_ ?_ ?_ ?_
  · intro j u hj
    match j, hj with
    | 0, hj =>
      simp only [List.getElem?_cons_zero, Option.some.injEq] at hj
      subst hj
      exact (Blk.new w ts #[.int .i64 (a : Int), .int .i64 (b : Int)]).cell 0
    | 1, hj =>
      simp only [List.getElem?_cons_succ, List.getElem?_cons_zero, Option.some.injEq] at hj
      subst hj
      exact (Blk.new w ts #[.int .i64 (a : Int), .int .i64 (b : Int)]).cell 1
    | j + 2, hj => simp at hj
  · intro u hu
    simp only [List.mem_cons, List.not_mem_nil, or_false] at hu
    rcases hu with rfl | rfl <;> rfl
  · unfold maxLen; omega
  · omega
  · simp; omega
  · intro v' w' h4 h5 _
    refine h v' w' ?_ ?_
    · unfold FlatOwn
      rw [flat_append, List.length_append]
      exact h4
    · have hb : Below B w (w.alloc (.cells #[.int .i64 (a : Int), .int .i64 (b : Int)] ts)) := (Below.refl _ _).alloc hB _
      exact hb.grown h5 (by simp; omega) fun k hk => (World.ownsRow.lt hown k hk).1
end Go.Proofs.YtbmhaamenjhjfaaGreatDoor
namespace Go.Proofs.YtbmhaamenjhjfaaGreatDoor
open Go.RowKit Go.WideShapes Go.ChangeShapes
set_option linter.unusedVariables false
theorem stPS_step (n d : Nat) (h : 1 ≤ d) : stPS n d = stPS n (d - 1) ++ stIn d (n + 1 - d) := by
  obtain ⟨e, rfl⟩ : ∃ e, d = e + 1 := ⟨d - 1, by omega⟩
  rw [Nat.add_sub_cancel, stPS, show n + 1 - (e + 1) = n - e by omega]
theorem mul44 {a b : Nat} (h1 : a ≤ 4) (h2 : b ≤ 4) : a * b ≤ 16 := Nat.mul_le_mul h1 h2
set_option maxHeartbeats 3200000 in
theorem implStaircase_any (n : Int) (w : World) (wf : (Lit.int .i64 n).wf = true) :
    Calls Tryz.prog 101 #[.int .i64 n] w fun (r : Ending) w' => ∃ u, r = Ending.returned (.tuple #[.agg #[u], .bool (decide (1 ≤ n) && decide (n ≤ 4))]) ∧ OwnI 3 w' w.heap.size u (stcL n) ∧ (stcL n).length ≤ 1048576 ∧ Below w.heap.size w w' := by
  have HL := hid (stcL_length n)
  clear wf
  by_cases hn : 1 ≤ n ∧ n ≤ 4
  · obtain ⟨m, rfl⟩ := Int.eq_ofNat_of_zero_le (by omega : 0 ≤ n)
    have h1 : 1 ≤ m := by omega
    have h2 : m ≤ 4 := by omega
    have hd : (decide ((1 : Int) ≤ (m : Int)) && decide ((m : Int) ≤ 4)) = true := by simp; omega
    have HY := hid (stcL_yes h1 h2)
    have HN := hid (st_len m h1 h2)
    rw [hd]
    have Hd := hid hd
    have g1 : ¬ (m : Int) < 1 := by omega
    have g2 : ¬ (4 : Int) < (m : Int) := by omega
    clear hd hn
    go_enter Tryz.func101, Tryz.ntmps101
    go_wp2_with fail
    go_loopw [5] (fun dd wr => ∃ (d : Nat) (v : Value), 1 ≤ d ∧ d ≤ m + 1 ∧ dd = .int .i64 d ∧ Blk wr w.heap.size 28 #[.slice none 0 0] ∧ Blk wr (w.heap.size + 1) 182 #[v] ∧ FlatOwn 183 wr (w.heap.size + 2) v (stPS m (d - 1)) ∧ Below w.heap.size w wr) (fun dd _ => m + 1 - (intOf dd).toNat)
    case atStart => exact ⟨1, .slice none 0 0, by omega, by omega, rfl, (Blk.new w _ _).alloc _, Blk.newAt _ _ _ _ (by simp), FlatOwn.nil _ _ _, below_alloc (below_alloc (Below.refl _ _) _) _⟩
    case round =>
      obtain ⟨d, v, hd1, hd2, rfl, hz, hbox, ho, hb⟩ := hrel
      have HZ := hid hz
      have HBox := hid hbox
      have HO := hid ho
      have HB := hid hb
      have zlt := hbox.lt
      have hb0 := hbox.cell 0
      have hb1 := hbox.frozen 0
      by_cases hdm : d ≤ m
      · have hdm' : (d : Int) ≤ (m : Int) := by omega
        clear hz hbox ho hb hb0 hb1
        go_wp2
        go_loopw [6] (fun ii wi => ∃ (c : Nat) (v : Value), c + d ≤ m + 1 ∧ ii = .int .i64 c ∧ Blk wi w.heap.size 28 #[.slice none 0 0] ∧ Blk wi (w.heap.size + 1) 182 #[v] ∧ FlatOwn 183 wi (w.heap.size + 2) v (stPS m (d - 1) ++ stIn d c) ∧ Below w.heap.size w wi) (fun ii _ => m + 1 - (intOf ii).toNat)
        case atStart => exact ⟨0, v, by omega, rfl, HZ.out, HBox.out, by simpa [stIn] using HO.out, HB.out⟩
        case round =>
          obtain ⟨c, v', hc, rfl, hz, hbox, ho, hb⟩ := hrel
          have hlen : (stPS m (d - 1) ++ stIn d c).length ≤ 20 := by
            have a1 := stPS_length m (d - 1)
            have a2 := mul44 (show d - 1 ≤ 4 by omega) h2
            rw [List.length_append, stIn_length]
            omega
          obtain ⟨L, hL⟩ : ∃ L, stPS m (d - 1) ++ stIn d c = L := ⟨_, rfl⟩
          rw [hL] at ho hlen
          have HLL := hid hL
          have HZi := hid hz
          have HBoxi := hid hbox
          have HOi := hid ho
          have HBi := hid hb
          have zlti := hbox.lt
          have hb0 := hbox.cell 0
          have hb1 := hbox.frozen 0
          obtain ⟨vA, vc, rfl⟩ := ho.shape3
          clear hL hz hbox ho hb
          by_cases hcm : c + d ≤ m
          · have hcm' : (c : Int) + (d : Int) ≤ (m : Int) := by omega
            go_wp2_with (at_builtin; refine wpList_append_flat rfl _ _ 182 183 rfl Tryz.underlying182 Tryz.info183 (w.heap.size + 2) _ _ c (c + d) rfl HOi.out rfl rfl (by omega) (by omega) ?_; intro q2 w2 hp2 hb2; obtain ⟨qA, qc, rfl⟩ := hp2.shape3; have HP2 := hid hp2; have HB2 := hid hb2; have hz2 := hb2.size; have bx0 := (HBoxi.out.below hb2 (by omega)).cell 0; have bx1 := (HBoxi.out.below hb2 (by omega)).frozen 0; clear hp2 hb2)
            go_roundw
            case rel =>
              have hl' : (L ++ [(c, c + d)]).length = L.length + 1 := by simp
              rw [hl'] at HP2
              refine ⟨c + 1, .slice qA (L.length + 1) qc, by omega, by go_num, ?_, ?_, ?_, ?_⟩
              · exact (HZi.out.below HB2.out (by omega)).far (p := ⟨w.heap.size + 1, 0, none⟩) (by show w.heap.size ≠ w.heap.size + 1; omega) _
              · exact (HBoxi.out.below HB2.out (by omega)).set_ 0 _
              · rw [stIn, ← List.append_assoc, HLL.out]
                exact HP2.out.far (p := ⟨w.heap.size + 1, 0, none⟩) (by show w.heap.size + 1 < w.heap.size + 2; omega) rfl _
              · exact (HBi.out.trans (HB2.out.mono (by omega))).setCell (p := ⟨w.heap.size + 1, 0, none⟩) (by show w.heap.size ≤ w.heap.size + 1; omega) _
            case measure => simp [intOf]; omega
          · have hcm' : ¬ (c : Int) + (d : Int) ≤ (m : Int) := by omega
            obtain rfl : c = m + 1 - d := by omega
            go_wp2
            go_roundw
            case rel => exact ⟨d + 1, _, by omega, by omega, by go_num, HZi.out, HBoxi.out, (by rw [Nat.add_sub_cancel, stPS_step m d hd1, HLL.out]; exact HOi.out), HBi.out⟩
            case measure => simp [intOf]; omega
      · have hdm' : ¬ (d : Int) ≤ (m : Int) := by omega
        obtain rfl : d = m + 1 := by omega
        rw [Nat.add_sub_cancel] at ho
        obtain ⟨hn10, hn1, -⟩ := HN.out
        have HR := hid (ho.read hn1)
        obtain ⟨L, hL⟩ : ∃ L, stPS m m = L := ⟨_, rfl⟩
        rw [hL] at ho HR HY hn10 hn1
        obtain ⟨vA, vc, rfl⟩ := ho.shape3
        have HAt : Hid (At wr (w.heap.size + 1) (.slice vA L.length vc)) := hid ⟨by simpa using hb0, zlt⟩
        clear hL HN hz hbox ho hb
        go_wp2_with fail
        refine (posetWhereStaircase_any L.length _ (stF L) wr hn10 (fun j i W' hj hi hb => stairClosure_any (w.heap.size + 1) _ L j i W' (HAt.out.below hb) (HR.out.below hb) hn10 (by omega) hi)).mono ?_
        rintro e w2 ⟨u, rfl, ho, hb2⟩
        have hzlt := HZ.out.lt
        have hr := HZ.out.below hb2 hzlt
        have t1 := hr.cell 0
        have t2 := hr.frozen 0
        obtain ⟨uA, un, uc, rfl⟩ := ho.shape3
        have HO := hid ho
        have HB3 := hid (below_to HB.out hb2)
        clear hr ho hb2 hb0 hb1
        go_wp2
        refine bodyPost_ret (v := .tuple #[.agg #[.slice uA un uc], .bool true]) (by simp [results, Tryz.results101, go_sem, t1]) rfl ⟨_, rfl, ?_, HL.out, ?_⟩
        · rw [HY.out]
          refine (HO.out.grown (grown_setCell (World.grownBy.refl _ _) 0 _) ?_).mono (Nat.le_of_lt hzlt)
          exact HO.out.apart (.inl hzlt)
        · exact HB3.out.setCell (p := ⟨w.heap.size, 0, none⟩) (Nat.le_refl _) _
  · have hd : (decide ((1 : Int) ≤ n) && decide (n ≤ 4)) = false := by rw [Bool.eq_false_iff]; simp; omega
    have HNo := hid (stcL_no hn)
    rw [hd]
    by_cases c1 : n < 1
    · clear hd hn
      go_enter Tryz.func101, Tryz.ntmps101
      go_wp2
      refine bodyPost_ret (v := .tuple #[.agg #[.slice none 0 0], .bool false]) (by simp [results, Tryz.results101, go_sem]) rfl ⟨_, rfl, by rw [HNo.out]; exact OwnI.nil _ _ _, HL.out, ?_⟩
      exact (Below.refl _ _).alloc (Nat.le_refl _) _
    · have c2 : (4 : Int) < n := by omega
      clear hd hn
      go_enter Tryz.func101, Tryz.ntmps101
      go_wp2
      refine bodyPost_ret (v := .tuple #[.agg #[.slice none 0 0], .bool false]) (by simp [results, Tryz.results101, go_sem]) rfl ⟨_, rfl, by rw [HNo.out]; exact OwnI.nil _ _ _, HL.out, ?_⟩
      exact (Below.refl _ _).alloc (Nat.le_refl _) _
end Go.Proofs.YtbmhaamenjhjfaaGreatDoor
namespace Go.Proofs.YtbmhaamenjhjfaaGreatDoor
open Go.RowKit Go.WideShapes Go.ChangeShapes
set_option linter.unusedVariables false
def stX (ps : List (Nat × Nat)) (N k x : Nat) : Nat := if x < k then rowN (stG ps x) N else 0
def stY (ps : List (Nat × Nat)) (N k t x : Nat) : Nat := if x < k then rowN (stG ps x) N else if x = k then rowN (stG ps k) t else 0
theorem stG_eq (ps : List (Nat × Nat)) (k t : Nat) : stG ps k t = (decide (k ≠ t) && (decide (((ps.getD k (0, 0)).1 : Int) ≤ ((ps.getD t (0, 0)).1 : Int)) && decide (((ps.getD t (0, 0)).2 : Int) ≤ ((ps.getD k (0, 0)).2 : Int)))) := by
  simp [stG, stF]
set_option maxHeartbeats 6400000 in
theorem specStaircase_any (n : Int) (w : World) (wf : (Lit.int .i64 n).wf = true) :
    Calls Tryz.prog 73 #[.int .i64 n] w fun (r : Ending) w' => ∃ u, r = Ending.returned (.tuple #[.agg #[u], .bool (decide (1 ≤ n) && decide (n ≤ 4))]) ∧ OwnI 3 w' w.heap.size u (stcL n) ∧ (stcL n).length ≤ 1048576 ∧ Below w.heap.size w w' := by
  have HL := hid (stcL_length n)
  clear wf
  by_cases hn : 1 ≤ n ∧ n ≤ 4
  · obtain ⟨m, rfl⟩ := Int.eq_ofNat_of_zero_le (by omega : 0 ≤ n)
    have h1 : 1 ≤ m := by omega
    have h2 : m ≤ 4 := by omega
    have hd : (decide ((1 : Int) ≤ (m : Int)) && decide ((m : Int) ≤ 4)) = true := by simp; omega
    have HY := hid (stcL_yes h1 h2)
    have HN := hid (st_len m h1 h2)
    have HE := hid (st_eq m h1 h2)
    rw [hd]
    have Hd := hid hd
    clear hd hn
    go_enter Tryz.func73, Tryz.ntmps73
    go_wp2_with (go_at_call 129; refine (l1In_any _ _ _ _).mono ?_; rw [Hd.out]; rintro e w' ⟨rfl, rfl⟩)
    go_loopw [4, 5] (fun q dd wr => ∃ d : Nat, 1 ≤ d ∧ d ≤ m + 1 ∧ dd = .int .i64 d ∧ Pairs 3 22 wr (w.heap.size + 1) q (stPS m (d - 1)) ∧ Below (w.heap.size + 1) (w.alloc (.cells #[.slice none 0 0] 28)) wr) (fun _ dd _ => m + 1 - (intOf dd).toNat)
    case atStart => exact ⟨1, by omega, by omega, rfl, Pairs.nil _ _ _ _, Below.refl _ _⟩
    case round =>
      obtain ⟨d, hd1, hd2, rfl, ho, hb⟩ := hrel
      have HO := hid ho
      have HB := hid hb
      by_cases hdm : d ≤ m
      · have hdm' : (d : Int) ≤ (m : Int) := by omega
        clear ho hb
        go_wp2
        go_loopw [4, 6] (fun q ii wi => ∃ c : Nat, c + d ≤ m + 1 ∧ ii = .int .i64 c ∧ Pairs 3 22 wi (w.heap.size + 1) q (stPS m (d - 1) ++ stIn d c) ∧ Below (w.heap.size + 1) (w.alloc (.cells #[.slice none 0 0] 28)) wi) (fun _ ii _ => m + 1 - (intOf ii).toNat)
        case atStart => exact ⟨0, by omega, rfl, by simpa [stIn] using HO.out, HB.out⟩
        case round =>
          obtain ⟨c, hc, rfl, ho, hb⟩ := hrel
          have hlen : (stPS m (d - 1) ++ stIn d c).length ≤ 20 := by
            have a1 := stPS_length m (d - 1)
            have a2 := mul44 (show d - 1 ≤ 4 by omega) h2
            rw [List.length_append, stIn_length]
            omega
          obtain ⟨L, hL⟩ : ∃ L, stPS m (d - 1) ++ stIn d c = L := ⟨_, rfl⟩
          rw [hL] at ho hlen
          have HLL := hid hL
          have HOi := hid ho
          have HBi := hid hb
          have hbz : w.heap.size + 1 ≤ wr.heap.size := by have := hb.size; simp at this; omega
          clear hL ho hb
          by_cases hcm : c + d ≤ m
          · have hcm' : (c : Int) + (d : Int) ≤ (m : Int) := by omega
            go_wp2_with (at_builtin; refine wpList_append_pair rfl _ _ 163 22 3 rfl Tryz.underlying163 Tryz.info22 (by decide) (w.heap.size + 1) _ _ c (c + d) rfl HOi.out rfl rfl (by omega) (by omega) ?_; intro q2 w2 hp2 hb2)
            go_roundw
            case rel => exact ⟨c + 1, by omega, by go_num, by rw [stIn, ← List.append_assoc, HLL.out]; exact hp2, HBi.out.trans hb2⟩
            case measure => simp [intOf]; omega
          · have hcm' : ¬ (c : Int) + (d : Int) ≤ (m : Int) := by omega
            obtain rfl : c = m + 1 - d := by omega
            go_wp2
            go_roundw
            case rel => exact ⟨d + 1, by omega, by omega, by go_num, (by rw [Nat.add_sub_cancel, stPS_step m d hd1, HLL.out]; exact HOi.out), HBi.out⟩
            case measure => simp [intOf]; omega
      · have hdm' : ¬ (d : Int) ≤ (m : Int) := by omega
        obtain rfl : d = m + 1 := by omega
        rw [Nat.add_sub_cancel] at ho
        obtain ⟨hn10, hn1, -⟩ := HN.out
        obtain ⟨L, hL⟩ : ∃ L, stPS m m = L := ⟨_, rfl⟩
        rw [hL] at ho HY HE hn10 hn1
        obtain ⟨sA, sc, rfl, hs⟩ := ho.shape
        have HS := hid hs
        have HBw := hid (below_box hb)
        have HR0 : Hid (Blk wr w.heap.size 28 #[.slice none 0 0]) := hid ((Blk.new w _ _).below hb (Nat.lt_succ_self _))
        have hr0 := HR0.out.lt
        obtain ⟨N, hN⟩ : ∃ N, L.length = N := ⟨_, rfl⟩
        have hmk := run_make_row' (P := Tryz.prog) 22 3 (.int .i64 0) 8 Tryz.underlying22 Tryz.info3 rfl .i64 .i64 N (by omega) (by omega)
        rw [hN] at HS hn10 hn1 HE HY ⊢
        have HNl := hid hN
        clear hL HN hN hs ho hb
        obtain ⟨W1, rfl⟩ : ∃ x, x = wr := ⟨wr, rfl⟩
        go_wp2
        clear hmk
        rw [Vals_made]
        go_loopw [42] (fun ii wi => ∃ k : Nat, k ≤ N ∧ ii = .int .i64 k ∧ Blk wi W1.heap.size 3 (Vals (mkL N (stX L N k))) ∧ Blk wi (W1.heap.size + 1) 28 #[.slice (some ⟨W1.heap.size, 0, none⟩) N N] ∧ Below W1.heap.size W1 wi) (fun ii _ => N - (intOf ii).toNat)
        case atStart =>
          refine ⟨0, Nat.zero_le _, rfl, ?_, Blk.newAt _ _ _ _ (by simp), below_alloc (below_alloc (Below.refl _ _) _) _⟩
          have e : mkL N (stX L N 0) = List.replicate N 0 := by rw [← mkL_zero]; exact mkL_congr (fun i _ => by simp [stX])
          rw [e]
          exact (Blk.new _ _ _).alloc _
        case round =>
          obtain ⟨k, hk, rfl, hrow, hbox, hb⟩ := hrel
          have HRow := hid hrow
          have HBox := hid hbox
          have HB3 := hid hb
          by_cases hkN : k < N
          · obtain ⟨sb, sg, rfl, hs1, hs2, hs3, hs4, hs5⟩ := HS.out k hkN
            have hc3 := (hb.cell (p := ⟨sb, k, none⟩) hs1).trans hs3
            have HG4 := hid hs4
            have HG5 := hid hs5
            clear hrow hbox hb hs3 hs4 hs5
            go_wp2
            clear hc3
            go_loopw [49] (fun jj wi => ∃ t : Nat, t ≤ N ∧ jj = .int .i64 t ∧ Blk wi W1.heap.size 3 (Vals (mkL N (stY L N k t))) ∧ Blk wi (W1.heap.size + 1) 28 #[.slice (some ⟨W1.heap.size, 0, none⟩) N N] ∧ Below W1.heap.size W1 wi) (fun jj _ => N - (intOf jj).toNat)
            case atStart => exact ⟨0, Nat.zero_le _, rfl, (by rw [mkL_congr (h := stX L N k) (fun i _ => by unfold stY stX; split; rfl; split <;> simp [rowN])]; exact HRow.out), HBox.out, HB3.out⟩
            case round =>
              obtain ⟨t, ht, rfl, hrow, hbox, hb⟩ := hrel
              have HRi := hid hrow
              have HBxi := hid hbox
              have HBi := hid hb
              by_cases htN : t < N
              · obtain ⟨tb, tg, e, -, ht2, ht3, ht4, ht5⟩ := HS.out t htN
                obtain rfl : sb = tb := by simpa using e
                have hct := (hb.cell (p := ⟨sb, t, none⟩) hs1).trans ht3
                have ca0 := (hb.cell (p := ⟨sg, 0, none⟩) hs2).trans HG4.out
                have ca1 := (hb.cell (p := ⟨sg, 1, none⟩) hs2).trans HG5.out
                have cb0 := (hb.cell (p := ⟨tg, 0, none⟩) ht2).trans ht4
                have cb1 := (hb.cell (p := ⟨tg, 1, none⟩) ht2).trans ht5
                have H := hid (stG_eq L k t)
                obtain ⟨a0, e0⟩ : ∃ x : Int, ((L.getD k (0, 0)).1 : Int) = x := ⟨_, rfl⟩
                obtain ⟨a1, e1⟩ : ∃ x : Int, ((L.getD k (0, 0)).2 : Int) = x := ⟨_, rfl⟩
                obtain ⟨b0, e2⟩ : ∃ x : Int, ((L.getD t (0, 0)).1 : Int) = x := ⟨_, rfl⟩
                obtain ⟨b1, e3⟩ : ∃ x : Int, ((L.getD t (0, 0)).2 : Int) = x := ⟨_, rfl⟩
                rw [e0] at ca0; rw [e1] at ca1; rw [e2] at cb0; rw [e3] at cb1; rw [e0, e1, e2, e3] at H
                clear e ht3 ht4 ht5 e0 e1 e2 e3 hrow hbox hb
                by_cases hkt : k = t
                · have HF : Hid (stG L k t = false) := hid (by rw [H.out]; simp [hkt])
                  have hbne : ((k : Int) != (t : Int)) = false := by simp [hkt]
                  clear hkt
                  go_wp2_with fail
                  go_quiet (fail)
                  go_wp2
                  go_roundw
                  case rel => exact ⟨t + 1, by omega, by go_num, (by rw [mkL_congr (h := stY L N k t) (fun i _ => by unfold stY; split; rfl; split; (rw [rowN, HF.out]; rfl); rfl)]; exact HRi.out), HBxi.out, below_drewN HBi.out _⟩
                  case measure => simp [intOf]; omega
                · have hbne : ((k : Int) != (t : Int)) = true := by rw [bne_iff_ne]; omega
                  by_cases c1 : a0 ≤ b0
                  · by_cases c2 : b1 ≤ a1
                    · have HT : Hid (stG L k t = true) := hid (by rw [H.out, decide_eq_true hkt, decide_eq_true c1, decide_eq_true c2]; rfl)
                      clear hkt
                      obtain ⟨p, hp⟩ : ∃ p, rowN (stG L k) t = p := ⟨_, rfl⟩
                      have hp2 := rowN_lt (stG L k) t
                      have hp3 := pow_lt10 t (by omega)
                      rw [hp] at hp2
                      have t1 : wr.cell? ⟨W1.heap.size, k, none⟩ = some (.int .i64 p) := by
                        rw [HRi.out.cell, Vals_get (by rw [mkL_length]; exact hkN), mkL_getD hkN, ← hp]; simp [stY]
                      have t2 := HRi.out.frozen k
                      have t3 := HBxi.out.cell 0
                      have wp := wrap_pow' t (by omega)
                      have hor := or_pow p t (by omega) (by omega)
                      have hkz : (k : Int) < N := by omega
                      have Hp := hid hp
                      clear hp hp2 hp3
                      go_wp2_with fail
                      go_quiet (fail)
                      go_wp2_with fail
                      go_region
                      go_wp2
                      go_roundw
                      case rel =>
                        refine ⟨t + 1, by omega, by go_num, ?_, ?_, ?_⟩
                        · rw [mkL_congr (h := fun i => if i = k then p ||| 2 ^ t else stY L N k t i) (fun i _ => by unfold stY; split; (rw [if_neg (by omega)]); split; (rw [rowN, if_pos HT.out, Hp.out]); rfl), ← mkL_set _ hkN, ← Vals_set]
                          exact HRi.out.set_ k _
                        · exact HBxi.out.far (p := ⟨W1.heap.size, k, none⟩) (by show W1.heap.size + 1 ≠ W1.heap.size; omega) _
                        · exact (below_drewN HBi.out _).setCell (p := ⟨W1.heap.size, k, none⟩) (Nat.le_refl _) _
                      case measure => simp [intOf]; omega
                    · have HF : Hid (stG L k t = false) := hid (by rw [H.out, decide_eq_false c2, Bool.and_false, Bool.and_false])
                      have d2 : decide (b1 ≤ a1) = false := decide_eq_false c2
                      clear hkt
                      go_wp2_with fail
                      go_quiet (fail)
                      go_wp2
                      go_roundw
                      case rel => exact ⟨t + 1, by omega, by go_num, (by rw [mkL_congr (h := stY L N k t) (fun i _ => by unfold stY; split; rfl; split; (rw [rowN, HF.out]; rfl); rfl)]; exact HRi.out), HBxi.out, below_drewN HBi.out _⟩
                      case measure => simp [intOf]; omega
                  · have HF : Hid (stG L k t = false) := hid (by rw [H.out, decide_eq_false c1, Bool.false_and, Bool.and_false])
                    have d1 : decide (a0 ≤ b0) = false := decide_eq_false c1
                    clear hkt
                    go_wp2_with fail
                    go_quiet (fail)
                    go_wp2
                    go_roundw
                    case rel => exact ⟨t + 1, by omega, by go_num, (by rw [mkL_congr (h := stY L N k t) (fun i _ => by unfold stY; split; rfl; split; (rw [rowN, HF.out]; rfl); rfl)]; exact HRi.out), HBxi.out, below_drewN HBi.out _⟩
                    case measure => simp [intOf]; omega
              · obtain rfl : t = N := by omega
                clear hrow hbox hb
                go_wp2
                go_roundw
                case rel => exact ⟨k + 1, by omega, by go_num, (by rw [mkL_congr (h := stY L t k t) (fun i _ => by unfold stY stX; by_cases h : i < k; (rw [if_pos h, if_pos (by omega)]); by_cases h2 : i = k; (subst h2; simp); (rw [if_neg h, if_neg h2, if_neg (by omega)]))]; exact HRi.out), HBxi.out, HBi.out⟩
                case measure => simp [intOf]; omega
          · obtain rfl : k = N := by omega
            have e : mkL k (stX L k k) = whereL (stF L) k := by rw [← HE.out]; exact mkL_congr (fun i hi => by simp [stX, hi])
            rw [e] at hrow
            have HOw := hid (Blk.own (xs := whereL (stF L) k) (B := w.heap.size) hrow (Nat.le_of_lt hr0) (by unfold whereL; rw [mkL_length]; omega))
            have hwl : (whereL (stF L) k).length = k := by unfold whereL; rw [mkL_length]
            rw [hwl] at HOw
            have hr := HR0.out.below hb hr0
            have z1 := hr.cell 0
            have z2 := hr.frozen 0
            have t3 := hbox.cell 0
            have HBf := hid (below_to HBw.out hb)
            clear e hrow hbox hb hr hwl
            go_wp2
            refine bodyPost_ret (v := .tuple #[.agg #[.slice (some ⟨W1.heap.size, 0, none⟩) k k], .bool true]) (by simp [results, Tryz.results73, go_sem, z1]) rfl ⟨_, rfl, ?_, HL.out, ?_⟩
            · rw [HY.out]
              exact HOw.out.grown (grown_setCell (World.grownBy.refl _ _) 0 _) (.inr (by simp [Value.ownBlock]; omega))
            · exact HBf.out.setCell (p := ⟨w.heap.size, 0, none⟩) (Nat.le_refl _) _
  · have hd : (decide ((1 : Int) ≤ n) && decide (n ≤ 4)) = false := by rw [Bool.eq_false_iff]; simp; omega
    have HNo := hid (stcL_no hn)
    rw [hd]
    have Hd := hid hd
    clear hd hn
    go_enter Tryz.func73, Tryz.ntmps73
    go_wp2_with (go_at_call 129; refine (l1In_any _ _ _ _).mono ?_; rw [Hd.out]; rintro e w' ⟨rfl, rfl⟩)
    refine bodyPost_ret (v := .tuple #[.agg #[.slice none 0 0], .bool false]) (by simp [results, Tryz.results73, go_sem]) rfl ⟨_, rfl, by rw [HNo.out]; exact OwnI.nil _ _ _, HL.out, ?_⟩
    exact (Below.refl _ _).alloc (Nat.le_refl _) _
end Go.Proofs.YtbmhaamenjhjfaaGreatDoor
namespace Go.Proofs.YtbmhaamenjhjfaaGreatDoor
open Go.RowKit Go.WideShapes Go.ChangeShapes
set_option linter.unusedVariables false
def syN : Nat → Nat
  | 0 => 1
  | k + 1 => syN k * 2 * (2 * k + 1) / (k + 2)
def fbN : Nat → Nat × Nat
  | 0 => (1, 2)
  | k + 1 => ((fbN k).2, (fbN k).1 + (fbN k).2)
def cntI (L : List Int) : Nat := (idealsL L).length
theorem kn_st (n : Nat) (h1 : 1 ≤ n) (h2 : n ≤ 4) : cntI (stcL n) = syN (n + 1) ∧ 2 * (stcL n).length = n * (n + 1) ∧ good (stcL n) = true := by
  rcases (by omega : n = 1 ∨ n = 2 ∨ n = 3 ∨ n = 4) with rfl | rfl | rfl | rfl <;> decide +kernel
theorem kn_fe (n : Nat) (h1 : 1 ≤ n) (h2 : n ≤ 10) : cntI (fenceL n) = (fbN (n - 1)).2 ∧ good (fenceL n) = true := by
  rcases (by omega : n = 1 ∨ n = 2 ∨ n = 3 ∨ n = 4 ∨ n = 5 ∨ n = 6 ∨ n = 7 ∨ n = 8 ∨ n = 9 ∨ n = 10) with rfl | rfl | rfl | rfl | rfl | rfl | rfl | rfl | rfl | rfl <;> decide +kernel
end Go.Proofs.YtbmhaamenjhjfaaGreatDoor
namespace Go.Proofs.YtbmhaamenjhjfaaGreatDoor
open Go.RowKit Go.WideShapes Go.ChangeShapes
set_option linter.unusedVariables false
theorem decD_size (n : Nat) (h : n ≤ 1000000000000) : (decD n).length ≤ 13 := decD_len (k := 13) (by rw [show (10 : Nat) ^ 13 = 10000000000000 by decide]; omega) (by decide)
set_option maxRecDepth 100000 in
theorem l1Num_dec : ∀ (n : Nat) (w : World), n ≤ 1000000000000 →
    Calls Tryz.prog 85 #[.int .i64 n] w fun r w' => r = .returned (.string (sB (decD n))) ∧ Below w.heap.size w w' := by
  intro n
  induction n using Nat.strongRecOn with
  | _ n ih =>
    intro w h
    by_cases hn : n < 10
    · rw [← numL_dec (by omega)]
      exact l1Num_lo n w hn
    · obtain ⟨q, hq⟩ : ∃ q, n / 10 = q := ⟨_, rfl⟩
      obtain ⟨d, hd⟩ : ∃ d, n % 10 = d := ⟨_, rfl⟩
      have IH := hid (fun W : World => ih q (by omega) W (by omega))
      have hq1 : Int.tdiv (n : Int) 10 = (q : Int) := by rw [Int.tdiv_eq_ediv_of_nonneg (by omega)]; omega
      have hd1 : Int.tmod (n : Int) 10 = (d : Int) := by rw [Int.tmod_eq_emod_of_nonneg (by omega)]; omega
      have hd10 : d < 10 := by omega
      have hq10 : q ≤ 1000000000000 := by omega
      have HD := hid (show decD n = decD q ++ [UInt8.ofNat (48 + d)] by rw [decD_hi hn, hq, hd])
      have hn1 : ¬ (n : Int) < 10 := by omega
      obtain ⟨by8, hby⟩ : ∃ x : UInt8, UInt8.ofNat (48 + d) = x := ⟨_, rfl⟩
      rw [hby] at HD
      obtain ⟨c, hc⟩ : ∃ c : Int, 48 + (d : Int) = c := ⟨_, rfl⟩
      have HCb := hid (fun (b : Nat) (W : World) (h : W.cell? ⟨b, 0, none⟩ = some (.int .u8 c)) => (by rw [← hby]; exact convAt d hd10 W b (by rw [hc]; exact h) : (convert 94 9 (.slice (some ⟨b, 0, none⟩) 1 1)).run Tryz.prog W = .ok (.string (sB [by8])) W))
      have hcv : ∀ W : World, (convert 94 9 (.slice (some ⟨W.heap.size, 0, none⟩) 1 1)).run Tryz.prog (W.alloc (.cells #[.int .u8 c] 5)) = .ok (.string (sB [by8])) (W.alloc (.cells #[.int .u8 c] 5)) := fun W => HCb.out _ _ ((Blk.new W 5 #[.int .u8 c]).cell 0)
      have hcv2 : ∀ W : World, (convert 94 9 (.slice (some ⟨W.heap.size, 0, none⟩) 1 1)).run Tryz.prog (W.alloc (.cells #[.int .u8 c] 5)).drew = .ok (.string (sB [by8])) (W.alloc (.cells #[.int .u8 c] 5)).drew := fun W => HCb.out _ _ ((Blk.new W 5 #[.int .u8 c]).cell 0)
      have hadd := fun W => run_sB (decD q) [by8] (by have := decD_size q hq10; simp; omega) W
      have hw1 : IntKind.i64.wrap (48 + (d : Int)) = c := by rw [IntKind.wrap_i64]; omega
      have hw2 : IntKind.u8.wrap c = c := by rw [IntKind.wrap_u8]; omega
      have hw5 : IntKind.i64.wrap c = c := by rw [IntKind.wrap_i64]; omega
      have hw3 : IntKind.i64.wrap (q : Int) = (q : Int) := by rw [IntKind.wrap_i64]; omega
      have hw4 : IntKind.i64.wrap (d : Int) = (d : Int) := by rw [IntKind.wrap_i64]; omega
      clear hq hd ih h hn hc hby
      go_enter Tryz.func85, Tryz.ntmps85
      go_wp2_with fail
      go_region_with (first | (go_at_call 85; refine (IH.out _).mono ?_; rintro e w2 ⟨rfl, hb2⟩; (first | (have HB2 := hid (below_to (Below.refl w.heap.size w).drew hb2)) | (have HB2 := hid (below_to (below_alloc (Below.refl w.heap.size w).drew _) hb2))); (first | (have hcvb : (convert 94 9 (.slice (some ⟨w.heap.size, 0, none⟩) 1 1)).run Tryz.prog w2 = .ok (.string (sB [by8])) w2 := HCb.out _ _ (((Blk.new w.drew 5 #[.int .u8 c]).below hb2 (by simp)).cell 0)) | skip); clear hb2))
      all_goals go_wp2
      all_goals go_ret
      all_goals refine ⟨ret_s (by rw [HD.out]), ?_⟩
      all_goals first | exact HB2.out | exact below_alloc HB2.out _ | exact HB2.out.drew | exact (below_alloc HB2.out _).drew | exact below_alloc HB2.out.drew _
end Go.Proofs.YtbmhaamenjhjfaaGreatDoor
namespace Go.Proofs.YtbmhaamenjhjfaaGreatDoor
open Go.RowKit Go.WideShapes Go.ChangeShapes Go.Extern.Stop Go.Stop Go.Extern
set_option linter.unusedVariables false
theorem erTypeOf (v : Value) (w : World) : (Extern.ReflectliteType.typeOf #[.iface 269 v]).run Tryz.prog w = .ok (.iface 149 (.agg #[.pointer (some ⟨11, 269, none⟩)])) w := by kernel_rfl
def cmpE : Array Value → Sem Value := Extern.ReflectliteType.method fun t => do Extern.Rtype.noPackHeld "Comparable" t; pure (.bool (← typeInfo t).comparable)
theorem erComparable (w : World) : (cmpE #[.agg #[.pointer (some ⟨11, 269, none⟩)]]).run Tryz.prog w = .ok (.bool true) w := by kernel_rfl
theorem erMethod (v : Value) (w : World) : (Go.method 186 149 v "Comparable").run Tryz.prog w = .ok (283, v) w := by kernel_rfl
theorem erComp : (Tryz.prog.info? 269).map (·.comparable) = some true := by kernel_rfl
theorem erSize : (Tryz.prog.info? 271).map (·.size) = some 1 := by kernel_rfl
theorem erNoIsE (v : Value) (xT : TypeId) (w : World) : (Instr.typeAssert (.iface 269 v) xT 186 true).run Tryz.prog w = .ok (.tuple #[.nilIface, .bool false]) w := run_typeAssert_lacksB Tryz.underlying186 (by kernel_rfl) (by kernel_rfl) v xT w
theorem erNoUnwrapE (v : Value) (xT : TypeId) (w : World) : (Instr.typeAssert (.iface 269 v) xT 156 true).run Tryz.prog w = .ok (.tuple #[.nilIface, .bool false]) w := run_typeAssert_lacksB Tryz.underlying156 (by kernel_rfl) (by kernel_rfl) v xT w
theorem erNoUnwrapsE (v : Value) (xT : TypeId) (w : World) : (Instr.typeAssert (.iface 269 v) xT 158 true).run Tryz.prog w = .ok (.tuple #[.nilIface, .bool false]) w := run_typeAssert_lacksB Tryz.underlying158 (by kernel_rfl) (by kernel_rfl) v xT w
theorem errIs_same (a : Addr) (w : World) :
    Calls Tryz.prog 55 #[.iface 269 (.pointer (some a)), .iface 269 (.pointer (some a))] w fun e w' => e = .returned (.bool true) ∧ w' = w := by
  obtain ⟨i, hi, hcmp⟩ := Option.map_eq_some_iff.1 erComp
  obtain ⟨j, hj, hjs⟩ := Option.map_eq_some_iff.1 erSize
  have h8 := @run_callFunc_extern Tryz.prog 106 _ Extern.ReflectliteType.typeOf Tryz.func106 (by kernel_rfl) (by kernel_rfl) (by kernel_rfl) (by kernel_rfl)
  have h32 := @run_callFunc_extern Tryz.prog 283 _ cmpE Tryz.func283 (by kernel_rfl) (by kernel_rfl) (by kernel_rfl) (by kernel_rfl)
  have tT := erTypeOf
  have cT := erComparable
  have mR := erMethod
  have heq := run_eql_iface_ptr_same (P := Tryz.prog) w a Tryz.underlying58 Tryz.underlying269 hi hcmp hj
  go_enter Tryz.func55, Tryz.ntmps55
  go_wp2
  refine wp_loop_rounds 1 ?_
  rw [rounds_succ]
  go_wp2
  go_ret
  exact ⟨rfl, rfl⟩
theorem errIs_nil (b : Addr) (w : World) :
    Calls Tryz.prog 55 #[.nilIface, .iface 269 (.pointer (some b))] w fun e w' => e = .returned (.bool false) ∧ w' = w := by
  have hn := run_eql_iface_nil_left (P := Tryz.prog) w 269 (.pointer (some b)) Tryz.underlying58
  go_enter Tryz.func55, Tryz.ntmps55
  go_wp2
  go_ret
  exact ⟨rfl, rfl⟩
theorem errIs_other (a b : Addr) (ca cb : Array Value) (ta tb : TypeId) (w : World) (hne : a ≠ b) (ha : w.heap[a.block]? = some (.cells ca ta (0, 0))) (hb : w.heap[b.block]? = some (.cells cb tb (0, 0))) :
    Calls Tryz.prog 55 #[.iface 269 (.pointer (some a)), .iface 269 (.pointer (some b))] w fun e w' => e = .returned (.bool false) ∧ w' = w := by
  obtain ⟨i, hi, hcmp⟩ := Option.map_eq_some_iff.1 erComp
  obtain ⟨j, hj, hjs⟩ := Option.map_eq_some_iff.1 erSize
  have h8 := @run_callFunc_extern Tryz.prog 106 _ Extern.ReflectliteType.typeOf Tryz.func106 (by kernel_rfl) (by kernel_rfl) (by kernel_rfl) (by kernel_rfl)
  have h32 := @run_callFunc_extern Tryz.prog 283 _ cmpE Tryz.func283 (by kernel_rfl) (by kernel_rfl) (by kernel_rfl) (by kernel_rfl)
  have tT := erTypeOf
  have cT := erComparable
  have mR := erMethod
  have nE := erNoIsE
  have uE := erNoUnwrapE
  have vE := erNoUnwrapsE
  have heq := run_eql_iface_ptr_other (P := Tryz.prog) w Tryz.underlying58 Tryz.underlying269 hi hcmp hj (by rw [hjs]; decide) hne ha hb
  go_enter Tryz.func55, Tryz.ntmps55
  go_wp2
  refine wp_loop_rounds 1 ?_
  rw [rounds_succ]
  go_wp2
  go_ret
  exact ⟨rfl, rfl⟩
end Go.Proofs.YtbmhaamenjhjfaaGreatDoor
