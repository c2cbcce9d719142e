/- DskA DskT DskO DskL DskZ -/
import Derived.Deep.AppendLies
import Derived.Test.YtbmhaamenjhjfaaGreatDoorPkD29
import Derived.Test.YtbmhaamenjhjfaaGreatDoorPkD37
namespace Go.Proofs.YtbmhaamenjhjfaaGreatDoor
open Go.RowKit Go.WideShapes Go.ChangeShapes
set_option linter.unusedVariables false
def runD (ls : List (List UInt8)) : Nat → List Int × Int
  | 0 => (rectL 2 2, 0)
  | k + 1 => ((stepD (runD ls k).1 (runD ls k).2 (ls.getD k [])).1, (stepD (runD ls k).1 (runD ls k).2 (ls.getD k [])).2.1)
def repD (ls : List (List UInt8)) (k : Nat) : List UInt8 × Nat := (stepD (runD ls k).1 (runD ls k).2 (ls.getD k [])).2.2
theorem runD_ok (ls : List (List UInt8)) (k : Nat) : okIdeal (runD ls k).1 (runD ls k).2 = true := by
  induction k with
  | zero => show okIdeal (rectL 2 2) 0 = true; exact okId_zero (rectD_good (by decide))
  | succ k ih => exact (stepD_inv _ ih).1
end Go.Proofs.YtbmhaamenjhjfaaGreatDoor
namespace Go.Proofs.YtbmhaamenjhjfaaGreatDoor
open Go.RowKit Go.WideShapes Go.ChangeShapes
set_option linter.unusedVariables false
def OcD (a0 a1 : Addr) (n : Int) (t : List UInt8) : Nat → Value × Value
  | 0 => (.string (sB t), .nilIface)
  | 1 => (.string { data := #[] }, .iface 74 (.agg #[.int .i64 n, .iface 269 (.pointer (some a1))]))
  | _ => (.string { data := #[] }, .iface 74 (.agg #[.int .i64 n, .iface 269 (.pointer (some a0))]))
end Go.Proofs.YtbmhaamenjhjfaaGreatDoor
namespace Go.Proofs.YtbmhaamenjhjfaaGreatDoor
open Go.RowKit Go.WideShapes Go.ChangeShapes
set_option linter.unusedVariables false
def outC (os : List (Value × Value)) : List Value := os.flatMap fun o => [o.1, o.2]
theorem outC_append (os : List (Value × Value)) (a b : Value) : outC (os ++ [(a, b)]) = outC os ++ [a, b] := by simp [outC]
theorem outC_get (os : List (Value × Value)) (j : Nat) (hj : j < os.length) : (outC os)[j * 2]? = some (os.getD j (.nilIface, .nilIface)).1 ∧ (outC os)[j * 2 + 1]? = some (os.getD j (.nilIface, .nilIface)).2 := by
  induction os generalizing j with
  | nil => simp at hj
  | cons p ps ih =>
    match j with
    | 0 => simp [outC]
    | j + 1 =>
      have h := ih j (by simpa using hj)
      have e1 : (j + 1) * 2 = (j * 2) + 1 + 1 := by omega
      rw [e1]
      simpa [outC] using h
def OutR (w : World) (v : Value) (os : List (Value × Value)) : Prop :=
  ∃ A c, v = .slice A os.length c ∧ ∀ j, j < os.length → ∃ g, A = some ⟨g, 0, none⟩ ∧ g < w.heap.size ∧ w.cell? ⟨g, j * 2, none⟩ = some (os.getD j (.nilIface, .nilIface)).1 ∧ w.cell? ⟨g, j * 2 + 1, none⟩ = some (os.getD j (.nilIface, .nilIface)).2
theorem OutR.below {w w' : World} {v : Value} {os : List (Value × Value)} (h : OutR w v os) (hb : Below w.heap.size w w') : OutR w' v os := by
  obtain ⟨A, c, rfl, h⟩ := h
  refine ⟨A, c, rfl, fun j hj => ?_⟩
  obtain ⟨g, rfl, hg, h1, h2⟩ := h j hj
  exact ⟨g, rfl, Nat.lt_of_lt_of_le hg hb.size, (hb.cell (p := ⟨g, j * 2, none⟩) hg).trans h1, (hb.cell (p := ⟨g, j * 2 + 1, none⟩) hg).trans h2⟩
def OutO (ts : TypeId) (w : World) (B : Nat) (v : Value) (os : List (Value × Value)) : Prop := w.ownsRow B ts 2 v os.length (outC os)
theorem OutO.nil (ts : TypeId) (w : World) (B : Nat) : OutO ts w B (.slice none 0 0) [] := World.ownsRow_nil w B ts 2
theorem OutO.below {ts : TypeId} {w w' : World} {B : Nat} {v : Value} {os : List (Value × Value)} (h : OutO ts w B v os) (hb : Below w.heap.size w w') : OutO ts w' B v os := by
  by_cases hv : v.ownBlock = none
  · exact World.ownsRow.kept h (grown_of_below hb none) (.inl hv)
  · exact World.ownsRow.kept h (grown_of_below hb none) (.inr hv)
theorem OutO.far {ts : TypeId} {w : World} {B : Nat} {v : Value} {os : List (Value × Value)} (h : OutO ts w B v os) {p : Addr} (hp : p.block < B) (hs : p.spot = none) (u : Value) : OutO ts (w.setCell p u) B v os := by
  refine World.ownsRow.kept (row := some p.block) h ?_ (.inr fun e => ?_)
  · obtain ⟨b, o, t⟩ := p
    simp only at hs
    subst hs
    exact grown_setCell (World.grownBy.refl w (some b)) o u
  · have := (World.ownsRow.lt h p.block e).1
    omega
theorem OutO.shape3 {ts : TypeId} {w : World} {B : Nat} {v : Value} {os : List (Value × Value)} (h : OutO ts w B v os) : ∃ A c, v = .slice A os.length c := by
  rcases h.2 with ⟨rfl, h0⟩ | ⟨g, cap, cur, rfl, _⟩
  · exact ⟨none, 0, by rw [h0]⟩
  · exact ⟨_, _, rfl⟩
theorem OutO.read {ts : TypeId} {w : World} {B : Nat} {v : Value} {os : List (Value × Value)} (h : OutO ts w B v os) : OutR w v os := by
  have h' := h
  rcases h.2 with ⟨rfl, h0⟩ | ⟨g, cap, cur, rfl, -, hh, -⟩
  · exact ⟨none, 0, by rw [h0], fun j hj => by omega⟩
  · refine ⟨some ⟨g, 0, none⟩, cap, rfl, fun j hj => ⟨g, rfl, ?_, ?_⟩⟩
    · rcases Nat.lt_or_ge g w.heap.size with hlt | hge
      · exact hlt
      · rw [Array.getElem?_eq_none hge] at hh; cases hh
    · have := outC_get os j hj
      exact ⟨(World.ownsRow.cellAt h' (j * 2) (by omega)).trans this.1, (World.ownsRow.cellAt h' (j * 2 + 1) (by omega)).trans this.2⟩
theorem Ints.grown {w w' : World} {u : Value} {xs : List Int} {row : Option Nat} (h : Ints w u xs) (hg : w.grownBy w' row) (hr : ∀ k, u.ownBlock = some k → row ≠ some k) : Ints w' u xs := by
  obtain ⟨A, c, rfl, h⟩ := h
  refine ⟨A, c, rfl, fun hx => ?_⟩
  obtain ⟨b, o, rfl, hlt, hc⟩ := h hx
  exact ⟨b, o, rfl, Nat.lt_of_lt_of_le hlt hg.size, fun j hj => (World.cell?_of_block (a := ⟨b, o + j, none⟩) (hg.block b hlt (fun e => hr b rfl e.symm))).trans (hc j hj)⟩
theorem Ints.ownLt {W : World} {u : Value} {xs : List Int} (h : Ints W u xs) (h0 : xs ≠ []) : ∀ k, u.ownBlock = some k → k < W.heap.size := by
  obtain ⟨A, c, rfl, h⟩ := h
  obtain ⟨b, o, rfl, hlt, -⟩ := h h0
  intro k hk
  simp only [Value.ownBlock, Option.some.injEq] at hk
  omega
theorem OwnI.grownR {e : TypeId} {w w' : World} {B : Nat} {v : Value} {xs : List Int} {row : Option Nat} (h : OwnI e w B v xs) (hg : w.grownBy w' row) (hr : ∀ k, v.ownBlock = some k → row ≠ some k) : OwnI e w' B v xs := by
  refine World.ownsRow.kept h hg ?_
  cases hq : v.ownBlock with
  | none => exact .inl rfl
  | some k => exact .inr (fun e => hr k hq e.symm)
def Beside (w w' : World) (v v' : Value) : Prop := ∀ e B u xs, OwnI e w B u xs → (∀ k, u.ownBlock = some k → v.ownBlock ≠ some k) → OwnI e w' B u xs ∧ ∀ k, u.ownBlock = some k → v'.ownBlock ≠ some k
theorem beside_of {w w' : World} {o : Obj} {v : Value} {g n cap : Nat} (h7 : (w.alloc o).grownBy w' v.ownBlock) (h8 : v.ownBlock = some g ∨ g = (w.alloc o).heap.size) : Beside w w' v (.slice (some ⟨g, 0, none⟩) n cap) := by
  intro e B u xs hu hne
  refine ⟨OwnI.grownR (World.ownsRow.alloc hu o) h7 hne, fun k hk e => ?_⟩
  simp only [Value.ownBlock, Option.some.injEq] at e
  subst e
  rcases h8 with h8 | h8
  · exact hne _ hk h8
  · have := (OwnI.blockLt hu _ hk).2
    simp at h8; omega
theorem wpList_append_out {P : Program} {w W : World} {ops : Array Oper} {rest : List Oper} {o : Oper} {ac : Act} {Q : Exit → Act → World → Prop} (hgd : o.guard = none) (s x : Operand) (t ts : TypeId)
    (ho : o.op = .call { callee := .builtin .append, args := #[s, x], argTypes := #[t, t] }) (ht : P.underlying t = some (.slice ts)) (hinfo : (P.info? ts).map (fun i => (i.zero, i.size, i.bytes)) = some (some (.agg #[.string { data := #[] }, .nilIface]), 2, 32))
    (B : Nat) (v : Value) (os : List (Value × Value)) (a b : Value) (h1a : a.oneCell' = true) (h1b : b.oneCell' = true) (hs : ac.eval s = v) (hown : OutO ts w B v os)
    (hW : W = w.alloc (.cells #[a, b] ts)) (hx : ac.eval x = .slice (some ⟨w.heap.size, 0, none⟩) 1 1) (hlen : os.length < 1048576) (hB : B ≤ w.heap.size)
    (h : ∀ v' w', OutO ts w' B v' (os ++ [(a, b)]) → Below B w w' → Beside w w' v v' → wpList P ops Q rest (ac.put o.dst v') w') : wpList P ops Q (o :: rest) ac W := by
  subst hW
  obtain ⟨i0, hi, hz0, hz1, hz2⟩ := info_parts hinfo
  refine wpList_append_lies _ hgd s x t ho B ts i0 (.agg #[.string { data := #[] }, .nilIface]) 2 32 ht hi hz0 hz1 hz2 rfl (by decide) v os.length (outC os) hs (World.ownsRow.alloc hown _) ⟨w.heap.size, 0, none⟩ 1 1 [a, b] hx rfl ?_ ?_ (by decide) ?_ ?_ ?_ _ rfl ?_
  · intro j u hj
    match j, hj with
    | 0, hj =>
      simp only [List.getElem?_cons_zero, Option.some.injEq] at hj
      subst hj
      exact (Blk.new w ts #[a, b]).cell 0
    | 1, hj =>
      simp only [List.getElem?_cons_succ, List.getElem?_cons_zero, Option.some.injEq] at hj
      subst hj
      exact (Blk.new w ts #[a, b]).cell 1
    | j + 2, hj => simp at hj
  · intro u hu
    simp only [List.mem_cons, List.not_mem_nil, or_false] at hu
    rcases hu with rfl | rfl
    · exact h1a
    · exact h1b
  · unfold maxLen; omega
  · omega
  · simp; omega
  · intro g cap w' h6 h7 h8 h9
    have hb : Below B w (w.alloc (.cells #[a, b] ts)) := (Below.refl _ _).alloc hB _
    have hB2 : Below B w w' := hb.grown h7 (by simp; omega) fun k hk => (World.ownsRow.lt hown k hk).1
    exact h _ w' (by unfold OutO; rw [outC_append, List.length_append]; exact h6) hB2 (beside_of h7 h8)
theorem wpList_append_strB {P : Program} {w W : World} {ops : Array Oper} {rest : List Oper} {o : Oper} {ac : Act} {Q : Exit → Act → World → Prop} (hgd : o.guard = none) (s x : Operand) (t ts : TypeId)
    (ho : o.op = .call { callee := .builtin .append, args := #[s, x], argTypes := #[t, t] }) (ht : P.underlying t = some (.slice ts)) (hinfo : (P.info? ts).map (fun i => (i.zero, i.size, i.bytes)) = some (some (.string { data := #[] }), 1, 16))
    (B : Nat) (v : Value) (l : List (List UInt8)) (y : List UInt8) (hs : ac.eval s = v) (hown : StrOwn ts w B v l)
    (hW : W = w.alloc (.cells #[.string (sB y)] ts)) (hx : ac.eval x = .slice (some ⟨w.heap.size, 0, none⟩) 1 1) (hlen : l.length < 2000000) (hB : B ≤ w.heap.size)
    (h : ∀ v' w', StrOwn ts w' B v' (l ++ [y]) → Below B w w' → Beside w w' v v' → wpList P ops Q rest (ac.put o.dst v') w') : wpList P ops Q (o :: rest) ac W := by
  subst hW
  obtain ⟨i0, hi, hz0, hz1, hz2⟩ := info_parts hinfo
  refine wpList_append_lies _ hgd s x t ho B ts i0 (.string { data := #[] }) 1 16 ht hi hz0 hz1 hz2 rfl (by decide) v l.length (strs l) hs (World.ownsRow.alloc hown _) ⟨w.heap.size, 0, none⟩ 1 1 [.string (sB y)] hx rfl ?_ ?_ (by decide) ?_ ?_ ?_ _ rfl ?_
  · intro j u hj
    match j, hj with
    | 0, hj =>
      simp only [List.getElem?_cons_zero, Option.some.injEq] at hj
      subst hj
      exact (Blk.new w ts #[.string (sB y)]).cell 0
    | j + 1, hj => simp at hj
  · intro u hu
    simp only [List.mem_singleton] at hu
    subst hu; rfl
  · unfold maxLen; omega
  · omega
  · simp; omega
  · intro g cap w' h6 h7 h8 h9
    have hb : Below B w (w.alloc (.cells #[.string (sB y)] ts)) := (Below.refl _ _).alloc hB _
    have hB2 : Below B w w' := hb.grown h7 (by simp; omega) fun k hk => (World.ownsRow.lt hown k hk).1
    exact h _ w' (by unfold StrOwn strs; rw [List.length_append, List.map_append]; exact h6) hB2 (beside_of h7 h8)
end Go.Proofs.YtbmhaamenjhjfaaGreatDoor
namespace Go.Proofs.YtbmhaamenjhjfaaGreatDoor
open Go.RowKit Go.WideShapes Go.ChangeShapes
set_option linter.unusedVariables false
def nlD (s : List UInt8) : Nat := (splitL 10 s).length - 1
def okSc (s : List UInt8) : Bool := decide (s.length ≤ 3000) && (decide ((splitL 10 s).getD (nlD s) [] = []) && decide (nlD s ≤ 50))
def lnsD (s : List UInt8) : List (List UInt8) := (splitL 10 s).take (nlD s)
theorem lnsD_length (s : List UInt8) : (lnsD s).length = nlD s := by
  unfold lnsD nlD; rw [List.length_take]; omega
theorem lnsD_getD {s : List UInt8} {k : Nat} (hk : k < nlD s) : (lnsD s).getD k [] = (splitL 10 s).getD k [] := by
  unfold lnsD
  simp [List.getD, hk]
theorem lnsD_part {s : List UInt8} (h : okSc s = true) (k : Nat) : ((lnsD s).getD k []).length ≤ 3000 := by
  have h3 : s.length ≤ 3000 := by simp only [okSc, Bool.and_eq_true, decide_eq_true_eq] at h; exact h.1
  by_cases hk : k < nlD s
  · rw [lnsD_getD hk]; exact Nat.le_trans (splitL_part 10 s k) h3
  · have e : (lnsD s).getD k [] = [] := by
      have : ¬ k < (lnsD s).length := by rw [lnsD_length]; exact hk
      simp [List.getD, this]
    rw [e]; simp
theorem nlD_succ (s : List UInt8) : nlD s + 1 = (splitL 10 s).length := by have := splitL_pos 10 s; unfold nlD; omega
theorem scriptLines_any (l : List UInt8) (w : World) (hG : Glob w) (hs : l.length ≤ 1048576) :
    Calls Tryz.prog 59 #[.string (sB l)] w fun (r : Ending) w' => ((okSc l = false ∧ r = .returned (.tuple #[.slice none 0 0, .bool false])) ∨
      (okSc l = true ∧ ∃ b c, r = .returned (.tuple #[.slice (some ⟨b, 0, none⟩) (nlD l) c, .bool true]) ∧ b < w'.heap.size ∧ ∀ j, j < nlD l → w'.cell? ⟨b, j, none⟩ = some (.string (sB ((lnsD l).getD j []))))) ∧ Below w.heap.size w w' := by
  have hsz := sB_size l
  have HGt := hid (fun j (h : j < nlD l) => lnsD_getD h)
  have hms := nlD_succ l
  have hnl := splitL_length 10 l
  have HE : Hid (okSc l = (decide (l.length ≤ 3000) && (decide ((splitL 10 l).getD (nlD l) [] = []) && decide (nlD l ≤ 50)))) := hid rfl
  obtain ⟨m, hm⟩ : ∃ m, nlD l = m := ⟨_, rfl⟩
  rw [hm] at HGt HE hms ⊢
  have HSp := hid (splitRow_any 10 l w hG hs)
  obtain ⟨S, hS⟩ : ∃ S, sB l = S := ⟨_, rfl⟩
  rw [hS] at hsz HSp ⊢
  have HMs := hid hms
  rw [← hms] at hnl
  clear hm hS hG hms
  by_cases h3 : l.length ≤ 3000
  · have hlt : ¬ (3000 : Int) < (S.size : Int) := by omega
    go_enter Tryz.func59, Tryz.ntmps59
    go_wp2_with fail
    refine HSp.out.mono ?_
    rintro e w1 ⟨b, n, hn, rfl, hbl, hbw, hcell, hb⟩
    rw [← HMs.out] at hn
    subst hn
    have HB := hid hb
    have HC := hid hcell
    have cm := hcell m (by omega)
    have hmm : (((m + 1 : Nat) : Int)) = (m : Int) + 1 := by omega
    have hm1 : IntKind.i64.wrap ((((m + 1 : Nat) : Int)) - 1) = (m : Int) := by
      rw [show (((m + 1 : Nat) : Int)) - 1 = (m : Int) by omega]
      exact wrap_small _ (by omega) (by omega)
    clear hb hcell
    by_cases hx : (splitL 10 l).getD m [] = []
    · have he : (sB ((splitL 10 l).getD m [])).toList.isEmpty = true := by rw [hx, sB_toList]; rfl
      have HX := hid hx
      obtain ⟨X, hX⟩ : ∃ X, sB ((splitL 10 l).getD m []) = X := ⟨_, rfl⟩
      rw [hX] at cm he
      clear hX hx
      by_cases h50 : m ≤ 50
      · have h50' : ¬ (50 : Int) < (m : Int) := by omega
        have HOk : Hid (okSc l = true) := hid (by rw [HE.out, decide_eq_true h3, decide_eq_true HX.out, decide_eq_true h50]; rfl)
        go_wp2
        go_ret2
        exact ⟨.inr ⟨HOk.out, _, _, rfl, hbl, fun j hj => by rw [HGt.out j hj]; exact HC.out j (by omega)⟩, HB.out⟩
      · have h50' : (50 : Int) < (m : Int) := by omega
        have HOk : Hid (okSc l = false) := hid (by rw [HE.out, decide_eq_false h50]; simp)
        go_wp2
        go_ret2
        exact ⟨.inl ⟨HOk.out, rfl⟩, HB.out⟩
    · have he : (sB ((splitL 10 l).getD m [])).toList.isEmpty = false := by
        rw [sB_toList]
        cases h : (splitL 10 l).getD m [] with
        | nil => exact absurd h hx
        | cons a r => rfl
      have HOk : Hid (okSc l = false) := hid (by rw [HE.out, decide_eq_false hx]; simp)
      obtain ⟨X, hX⟩ : ∃ X, sB ((splitL 10 l).getD m []) = X := ⟨_, rfl⟩
      rw [hX] at cm he
      clear hX hx
      go_wp2
      go_ret2
      exact ⟨.inl ⟨HOk.out, rfl⟩, HB.out⟩
  · have hlt : (3000 : Int) < (S.size : Int) := by omega
    have HOk : Hid (okSc l = false) := hid (by rw [HE.out, decide_eq_false h3]; rfl)
    go_enter Tryz.func59, Tryz.ntmps59
    go_wp2
    go_ret2
    exact ⟨.inl ⟨HOk.out, rfl⟩, Below.refl _ _⟩
def outsD (a0 a1 : Addr) (ls : List (List UInt8)) (k : Nat) : List (Value × Value) := (List.range k).map fun j : Nat => OcD a0 a1 ((j : Int) + 1) (repD ls j).1 (repD ls j).2
theorem outsD_length (a0 a1 : Addr) (ls : List (List UInt8)) (k : Nat) : (outsD a0 a1 ls k).length = k := by simp [outsD]
theorem outsD_succ (a0 a1 : Addr) (ls : List (List UInt8)) (k : Nat) : outsD a0 a1 ls (k + 1) = outsD a0 a1 ls k ++ [OcD a0 a1 ((k : Int) + 1) (repD ls k).1 (repD ls k).2] := by simp [outsD, List.range_succ]
theorem Tryz.info60 : (Tryz.prog.info? 60).map (fun i => (i.zero, i.size, i.bytes)) = some (some (.agg #[.string { data := #[] }, .nilIface]), 2, 32) := by kernel_rfl
structure RnW (w2 : World) (B : Nat) (a0 a1 : Addr) (ls : List (List UInt8)) (k : Nat) (u : Value) (s : Int) (xs : List Int) (ov : Value) (wr : World) : Prop where
  box : Blk wr w2.heap.size 30 #[u, .int .i64 s]
  hx : (runD ls k).1 = xs
  hs : (runD ls k).2 = s
  own : OwnI 3 wr B u xs
  ne : ∀ j, u.ownBlock = some j → j ≠ w2.heap.size ∧ ov.ownBlock ≠ some j
  outs : OutO 60 wr (w2.heap.size + 1) ov (outsD a0 a1 ls k)
  bel : Below w2.heap.size w2 wr
theorem OutO.ownLt {ts : TypeId} {w : World} {B : Nat} {v : Value} {os : List (Value × Value)} (h : OutO ts w B v os) : ∀ k, v.ownBlock = some k → B ≤ k ∧ k < w.heap.size := World.ownsRow.lt h
theorem OutO.mono {ts : TypeId} {w : World} {B B' : Nat} {v : Value} {os : List (Value × Value)} (h : OutO ts w B v os) (hB : B' ≤ B) : OutO ts w B' v os := by
  obtain ⟨h1, h2⟩ := h
  refine ⟨h1, ?_⟩
  rcases h2 with h2 | ⟨g, cap, cur, rfl, hb, r⟩
  · exact .inl h2
  · exact .inr ⟨g, cap, cur, rfl, Nat.le_trans hB hb, r⟩
theorem OutO.grownR {ts : TypeId} {w w' : World} {B : Nat} {v : Value} {os : List (Value × Value)} {row : Option Nat} (h : OutO ts w B v os) (hg : w.grownBy w' row) (hr : ∀ k, v.ownBlock = some k → row ≠ some k) : OutO ts w' B v os := by
  refine World.ownsRow.kept h hg ?_
  cases hq : v.ownBlock with
  | none => exact .inl rfl
  | some k => exact .inr (fun e => hr k hq e.symm)
theorem grown_set (W : World) (g i : Nat) (y : Value) : W.grownBy (W.setCell ⟨g, i, none⟩ y) (some g) := grown_setCell (World.grownBy.refl W (some g)) i y
theorem OwnI.away {e : TypeId} {W : World} {B : Nat} {u : Value} {xs : List Int} (h : OwnI e W B u xs) {g : Nat} (hg : ∀ k, u.ownBlock = some k → k ≠ g) (i : Nat) (y : Value) : OwnI e (W.setCell ⟨g, i, none⟩ y) B u xs :=
  h.grownR (grown_set W g i y) (fun k hk e => hg k hk (by injection e with e; exact e.symm))
theorem OutO.away {ts : TypeId} {W : World} {B : Nat} {u : Value} {os : List (Value × Value)} (h : OutO ts W B u os) {g : Nat} (hg : ∀ k, u.ownBlock = some k → k ≠ g) (i : Nat) (y : Value) : OutO ts (W.setCell ⟨g, i, none⟩ y) B u os :=
  h.grownR (grown_set W g i y) (fun k hk e => hg k hk (by injection e with e; exact e.symm))
structure RoW (w2 W : World) (B : Nat) (h : Nat) (d0 d1 u : Value) (s : Int) (xs : List Int) (ov : Value) (os : List (Value × Value)) (o0 o1 : Value) : Prop where
  box : Blk W w2.heap.size 30 #[d0, d1]
  nxt : Blk W h 30 #[u, .int .i64 s]
  out : Blk W (h + 1) 60 #[o0, o1]
  own : OwnI 3 W B u xs
  outs : OutO 60 W (w2.heap.size + 1) ov os
  ne : ∀ j, u.ownBlock = some j → j ≠ w2.heap.size ∧ j < h ∧ ov.ownBlock ≠ some j
  lt : ∀ j, ov.ownBlock = some j → j < h
  qlt : w2.heap.size < h
  bel : Below w2.heap.size w2 W
theorem RoW.err {w2 W : World} {B h : Nat} {d0 d1 u : Value} {s : Int} {xs : List Int} {ov : Value} {os : List (Value × Value)} {o0 o1 : Value} (H : RoW w2 W B h d0 d1 u s xs ov os o0 o1) (y : Value) : RoW w2 (W.setCell ⟨h + 1, 1, none⟩ y) B h d0 d1 u s xs ov os o0 y := by
  have ho := H.own
  have hq := H.qlt
  exact ⟨(Below.heap_setCell W ⟨h + 1, 1, none⟩ y _ (by simp only; omega)).trans H.box, (Below.heap_setCell W ⟨h + 1, 1, none⟩ y _ (by simp only; omega)).trans H.nxt, H.out.set_ 1 y, ho.away (fun k hk => by have := (H.ne k hk).2.1; omega) 1 y, H.outs.away (fun k hk => by have := H.lt k hk; omega) 1 y, H.ne, H.lt, hq, H.bel.setCell (p := ⟨h + 1, 1, none⟩) (by show w2.heap.size ≤ h + 1; omega) y⟩
theorem RoW.desk {w2 W : World} {B h : Nat} {d0 d1 u : Value} {s : Int} {xs : List Int} {ov : Value} {os : List (Value × Value)} {o0 o1 : Value} (H : RoW w2 W B h d0 d1 u s xs ov os o0 o1) (y0 y1 : Value) : RoW w2 ((W.setCell ⟨w2.heap.size, 0, none⟩ y0).setCell ⟨w2.heap.size, 1, none⟩ y1) B h y0 y1 u s xs ov os o0 o1 := by
  have ho := H.own
  have hq := H.qlt
  have ha : ∀ k, ov.ownBlock = some k → k ≠ w2.heap.size := fun k hk => by have := (H.outs.ownLt k hk).1; omega
  exact ⟨(H.box.set_ 0 y0).set_ 1 y1, H.nxt.put2 (by omega) _ _, H.out.put2 (by omega) _ _, (ho.away (fun k hk => (H.ne k hk).1) 0 y0).away (fun k hk => (H.ne k hk).1) 1 y1, (H.outs.away ha 0 y0).away ha 1 y1, H.ne, H.lt, hq,
    (H.bel.setCell (p := ⟨w2.heap.size, 0, none⟩) (Nat.le_refl _) y0).setCell (p := ⟨w2.heap.size, 1, none⟩) (Nat.le_refl _) y1⟩
theorem RoW.next {w2 W w6 : World} {a0 a1 : Addr} {ls : List (List UInt8)} {B k h : Nat} {u : Value} {s : Int} {xs : List Int} {ov ov' : Value} {t : List UInt8} {c : Nat} {o0 o1 : Value} (H : RoW w2 W B h u (.int .i64 s) u s xs ov (outsD a0 a1 ls k) o0 o1) (hx : (runD ls (k + 1)).1 = xs) (hs : (runD ls (k + 1)).2 = s) (hr : repD ls k = (t, c)) (ho : (o0, o1) = OcD a0 a1 ((k : Int) + 1) t c)
    (h1 : OutO 60 w6 (w2.heap.size + 1) ov' (outsD a0 a1 ls k ++ [(o0, o1)])) (h2 : Below (w2.heap.size + 1) W w6) (h3 : Beside W w6 ov ov') : RnW w2 B a0 a1 ls (k + 1) u s xs ov' w6 := by
  have hown := H.own
  have hb := h3 _ _ _ _ hown (fun j hj => (H.ne j hj).2.2)
  refine ⟨(h2.block _ (Nat.lt_succ_self _)).trans H.box, hx, hs, hb.1, fun j hj => ⟨(H.ne j hj).1, hb.2 j hj⟩, ?_, H.bel.trans (h2.mono (Nat.le_succ _))⟩
  rw [outsD_succ, hr, ← ho]; exact h1
set_option maxRecDepth 100000 in
set_option maxHeartbeats 1600000 in
theorem runLines_any (s : List UInt8) (w : World) {a0 a1 : Addr} (hG : GlobD w a0 a1) (hs : s.length ≤ 1048576) :
    Calls Tryz.prog 41 #[.string (sB s)] w fun (r : Ending) w' =>
      ((okSc s = false ∧ r = .returned (.tuple #[.agg #[.slice none 0 0, .int .i64 0], .slice none 0 0, .bool false])) ∨
       (okSc s = true ∧ ∃ u ov, r = .returned (.tuple #[.agg #[u, .int .i64 (runD (lnsD s) (nlD s)).2], ov, .bool true]) ∧ OwnI 3 w' w.heap.size u (runD (lnsD s) (nlD s)).1 ∧ OutO 60 w' w.heap.size ov (outsD a0 a1 (lnsD s) (nlD s)))) ∧ Below w.heap.size w w' := by
  have HG := hid hG
  have HLp := hid (fun h k => lnsD_part (s := s) h k)
  have HZ := hid (Blk.new w 30 #[.slice none 0 0, .int .i64 0])
  have HB0 := hid (below_alloc (Below.refl _ w) (.cells #[.slice none 0 0, .int .i64 0] 30))
  have HSc := hid (fun W hW => scriptLines_any s W hW hs)
  have Hm50 := hid (show okSc s = true → nlD s ≤ 50 from fun h => by simp only [okSc, Bool.and_eq_true, decide_eq_true_eq] at h; exact h.2.2)
  obtain ⟨m, hm⟩ : ∃ m, nlD s = m := ⟨_, rfl⟩
  obtain ⟨ls, hls⟩ : ∃ ls, lnsD s = ls := ⟨_, rfl⟩
  rw [hls] at HLp
  simp only [hm, hls] at HSc Hm50 ⊢
  clear hm hls hG
  go_enter Tryz.func41, Tryz.ntmps41
  go_wp2_with fail
  refine (HSc.out _ (HG.out.later HB0.out).glob).mono ?_
  rintro e w1 ⟨hr, hb⟩
  have HZ1 := hid (HZ.out.below hb (by simp))
  have HB1 := hid (below_to HB0.out hb)
  have hz1 : w.heap.size < w1.heap.size := HZ1.out.lt
  clear hb HZ HB0 HSc
  rcases hr with ⟨hok, rfl⟩ | ⟨hok, b, c, rfl, hbl, hcell⟩
  · have HOk := hid hok
    have z0 : w1.cell? ⟨w.heap.size, 0, none⟩ = some (.slice none 0 0) := HZ1.out.cell 0
    have z1 : w1.cell? ⟨w.heap.size, 1, none⟩ = some (.int .i64 0) := HZ1.out.cell 1
    have y0 := HZ1.out.frozen 0
    have y1 := HZ1.out.frozen 1
    clear hok
    go_wp2
    refine bodyPost_ret (v := .tuple #[.agg #[.slice none 0 0, .int .i64 0], .slice none 0 0, .bool false]) (by simp [results, Tryz.results41, go_sem, z0, z1]) rfl ⟨.inl ⟨HOk.out, rfl⟩, ?_⟩
    exact below_put2 HB1.out _ (Nat.le_refl _) _ _
  · have HOk := hid hok
    have HC := hid hcell
    have hm50 := Hm50.out hok
    clear hok hcell
    go_wp2_with fail
    refine (implFirstDesk_any _).mono ?_
    rintro e w2 ⟨u0, rfl, ho, -, hb⟩
    have HZ2 := hid (HZ1.out.below hb hz1)
    have HB2 := hid (below_to HB1.out hb)
    have hz2 : w.heap.size < w2.heap.size := HZ2.out.lt
    have hbl2 : b < w2.heap.size := Nat.lt_of_lt_of_le hbl hb.size
    have HC2 : Hid (∀ j, j < m → w2.cell? ⟨b, j, none⟩ = some (.string (sB (ls.getD j [])))) := hid (fun j hj => cell_later (HC.out j hj) hb)
    have HO := hid ho
    obtain ⟨uA, un, uc, rfl⟩ := ho.shape3
    have HR0 : Hid (RnW w2 (w.heap.size + 1) a0 a1 ls 0 (.slice uA un uc) 0 (rectL 2 2) (.slice none 0 0) (w2.alloc (.cells #[.slice uA un uc, .int .i64 0] 30))) := hid ⟨Blk.new w2 _ _, rfl, rfl, World.ownsRow.alloc (OwnI.mono HO.out (by omega)) _, fun j hj => ⟨by have := (OwnI.blockLt HO.out j hj).2; omega, by simp [Value.ownBlock]⟩, OutO.nil _ _ _, below_alloc (Below.refl _ w2) _⟩
    clear ho hb HC HO HZ1 HB1
    go_wp2
    generalize (w2.alloc (.cells #[.slice uA un uc, .int .i64 0] 30)) = W2 at HR0 ⊢
    go_loopw [8, 24] (fun ov i wr => ∃ (k : Nat) (u : Value) (sv : Int) (xs : List Int), k ≤ m ∧ i = .int .i64 k ∧ RnW w2 (w.heap.size + 1) a0 a1 ls k u sv xs ov wr) (fun _ i _ => m - (intOf i).toNat)
    case atStart => exact ⟨0, _, _, _, Nat.zero_le _, rfl, HR0.out⟩
    case round =>
      obtain ⟨k, u, sv, xs, hk, rfl, hR⟩ := hrel
      have HE := hid hR
      have HPt := HLp.out HOk.out k
      obtain ⟨uA, un, uc, rfl⟩ := hR.own.shape3
      obtain ⟨oA, oc, rfl⟩ := hR.outs.shape3
      rw [outsD_length] at HE ⊢
      clear hR
      by_cases hlt : k < m
      · obtain ⟨l, hl⟩ : ∃ l, ls.getD k [] = l := ⟨_, rfl⟩
        have kc : wr.cell? ⟨b, k, none⟩ = some (.string (sB l)) := by rw [← hl]; exact (HE.out.bel.cell (p := ⟨b, k, none⟩) hbl2).trans (HC2.out k hlt)
        have d0 := HE.out.box.cell 0
        have d1 := HE.out.box.cell 1
        rw [hl] at HPt
        have HSt : Hid (∀ X, stepD xs sv l = X → (runD ls (k + 1)).1 = X.1 ∧ (runD ls (k + 1)).2 = X.2.1 ∧ repD ls k = X.2.2) := hid (by
          rintro X rfl
          have h1 := HE.out.hx
          have h2 := HE.out.hs
          refine ⟨?_, ?_, ?_⟩
          · show (stepD (runD ls k).1 (runD ls k).2 (ls.getD k [])).1 = _; rw [h1, h2, hl]
          · show (stepD (runD ls k).1 (runD ls k).2 (ls.getD k [])).2.1 = _; rw [h1, h2, hl]
          · show (stepD (runD ls k).1 (runD ls k).2 (ls.getD k [])).2.2 = _; rw [h1, h2, hl])
        have HIk : Hid (okIdeal xs sv = true) := hid (by have := runD_ok ls k; rw [HE.out.hx, HE.out.hs] at this; exact this)
        clear hl
        go_wp2_with fail
        clear kc d0 d1
        refine (execute_any _ xs sv l _ (HG.out.later (HB2.out.trans (HE.out.bel.mono (by omega)))) HE.out.own.ints HIk.out HPt).mono ?_
        rintro e w3 ⟨⟨v, rfl, hu⟩, hb3⟩
        obtain ⟨X, hX⟩ : ∃ X, stepD xs sv l = X := ⟨_, rfl⟩
        obtain ⟨xs', s', t, code⟩ := X
        obtain ⟨hx1, hx2, hx3⟩ := HSt.out _ hX
        rw [hX] at hu ⊢
        simp only at hx1 hx2 hx3 hu ⊢
        have HX1 := hid hx1
        have HX2 := hid hx2
        have HX3 := hid hx3
        clear hX hx1 hx2 hx3 HSt
        have hwz : w.heap.size + 1 ≤ wr.heap.size := Nat.le_trans hz2 HE.out.bel.size
        have hqz : w2.heap.size < wr.heap.size := HE.out.box.lt
        have hrz : wr.heap.size ≤ w3.heap.size := hb3.size
        have HD3 := hid (HE.out.box.below hb3 HE.out.box.lt)
        have HO3 : Hid (OutO 60 w3 (w2.heap.size + 1) (.slice oA k oc) (outsD a0 a1 ls k)) := hid (HE.out.outs.below hb3)
        have HLt : Hid (∀ j, (Value.slice oA k oc).ownBlock = some j → j < w3.heap.size) := hid (fun j hj => by have := (HE.out.outs.ownLt j hj).2; omega)
        have hown : OwnI 3 w3 (w.heap.size + 1) v xs' ∧ ∀ j, v.ownBlock = some j → j ≠ w2.heap.size ∧ j < w3.heap.size ∧ (Value.slice oA k oc).ownBlock ≠ some j := by
          rcases hu with ⟨rfl, rfl⟩ | hu
          · exact ⟨HE.out.own.below hb3, fun j hj => ⟨(HE.out.ne j hj).1, by have := (OwnI.blockLt HE.out.own j hj).2; omega, (HE.out.ne j hj).2⟩⟩
          · refine ⟨hu.mono hwz, fun j hj => ?_⟩
            have h1 := OwnI.blockLt hu j hj
            exact ⟨by omega, h1.2, fun e => by have := (HE.out.outs.ownLt j e).2; omega⟩
        have HU := hid hown.1
        have HNe := hid hown.2
        obtain ⟨vA, vn, vc, rfl⟩ := hown.1.shape3
        have HB3 := hid (HE.out.bel.trans (hb3.mono (by omega)))
        clear hu hown hb3 HE
        obtain ⟨o0, ho0⟩ : ∃ o, (OutD a0 a1 t code).1 = o := ⟨_, rfl⟩
        obtain ⟨o1, ho1⟩ : ∃ o, (OutD a0 a1 t code).2 = o := ⟨_, rfl⟩
        rw [ho0, ho1]
        rcases code with _ | _ | code
        · obtain rfl : (.string (sB t) : Value) = o0 := ho0
          obtain rfl : (.nilIface : Value) = o1 := ho1
          have HW : Hid (RoW w2 ((w3.alloc (.cells #[.slice vA vn vc, .int .i64 s'] 30)).alloc (.cells #[.string (sB t), .nilIface] 60)) (w.heap.size + 1) w3.heap.size (.slice uA un uc) (.int .i64 sv) (.slice vA vn vc) s' xs' (.slice oA k oc) (outsD a0 a1 ls k) (.string (sB t)) (.nilIface)) := hid
            ⟨((HD3.out.alloc _).alloc _), (Blk.new w3 _ _).alloc _, Blk.newAt _ _ _ _ (by simp), World.ownsRow.alloc (World.ownsRow.alloc HU.out _) _, World.ownsRow.alloc (World.ownsRow.alloc HO3.out _) _, HNe.out, HLt.out, HD3.out.lt, below_alloc (below_alloc HB3.out _) _⟩
          go_upto_region 10 with (fail)
          obtain ⟨h, hh⟩ : ∃ h, w3.heap.size = h := ⟨_, rfl⟩
          rw [hh] at HW
          generalize (w3.alloc (.cells #[.slice vA vn vc, .int .i64 s'] 30)).alloc (.cells #[.string (sB t), .nilIface] 60) = W3 at HW ⊢
          rw [hh]
          clear hh
          have m0 : W3.cell? ⟨h + 1, 0, none⟩ = some (.string (sB t)) := HW.out.out.cell 0
          have m1 : W3.cell? ⟨h + 1, 1, none⟩ = some (.nilIface) := HW.out.out.cell 1
          have mf := HW.out.out.frozen 1
          go_upto_region 12 with (fail)
          clear m0 m1 mf
          have n0 : W3.cell? ⟨h, 0, none⟩ = some (.slice vA vn vc) := HW.out.nxt.cell 0
          have n1 : W3.cell? ⟨h, 1, none⟩ = some (.int .i64 s') := HW.out.nxt.cell 1
          have d0 := HW.out.box.cell 0
          have d1 := HW.out.box.cell 1
          have f0 := HW.out.box.frozen 0
          have f1 := HW.out.box.frozen 1
          have HW5 := hid (HW.out.desk (.slice vA vn vc) (.int .i64 s'))
          go_upto_region 13 with (fail)
          generalize (W3.setCell ⟨w2.heap.size, 0, none⟩ (.slice vA vn vc)).setCell ⟨w2.heap.size, 1, none⟩ (.int .i64 s') = W5 at HW5 ⊢
          clear n0 n1 d0 d1 f0 f1
          have m0 : W5.cell? ⟨h + 1, 0, none⟩ = some (.string (sB t)) := HW5.out.out.cell 0
          have m1 : W5.cell? ⟨h + 1, 1, none⟩ = some (.nilIface) := HW5.out.out.cell 1
          have mf := HW5.out.out.frozen 1
          have hz5 : w2.heap.size + 1 ≤ W5.heap.size := HW5.out.box.lt
          have HOO : Hid (OutO 60 W5 (w2.heap.size + 1) (.slice oA k oc) (outsD a0 a1 ls k)) := hid HW5.out.outs
          go_wp2_with (at_builtin; refine wpList_append_out rfl _ _ 69 60 rfl Tryz.underlying69 Tryz.info60 (w2.heap.size + 1) _ (outsD a0 a1 ls k) (.string (sB t)) (.nilIface) rfl rfl rfl HOO.out rfl rfl (by rw [outsD_length]; omega) hz5 ?_; rintro q6 w6 ho6 hb6 hbs6)
          have hfin := HW5.out.next HX1.out HX2.out HX3.out rfl ho6 hb6 hbs6
          go_roundw
          case rel => exact ⟨k + 1, _, _, _, by omega, by go_num, hfin⟩
          case measure => simp [intOf] <;> omega
        · obtain rfl : (.string { data := #[] } : Value) = o0 := ho0
          obtain rfl : (.iface 269 (.pointer (some a1)) : Value) = o1 := ho1
          have HW : Hid (RoW w2 ((w3.alloc (.cells #[.slice vA vn vc, .int .i64 s'] 30)).alloc (.cells #[.string { data := #[] }, .iface 269 (.pointer (some a1))] 60)) (w.heap.size + 1) w3.heap.size (.slice uA un uc) (.int .i64 sv) (.slice vA vn vc) s' xs' (.slice oA k oc) (outsD a0 a1 ls k) (.string { data := #[] }) (.iface 269 (.pointer (some a1)))) := hid
            ⟨((HD3.out.alloc _).alloc _), (Blk.new w3 _ _).alloc _, Blk.newAt _ _ _ _ (by simp), World.ownsRow.alloc (World.ownsRow.alloc HU.out _) _, World.ownsRow.alloc (World.ownsRow.alloc HO3.out _) _, HNe.out, HLt.out, HD3.out.lt, below_alloc (below_alloc HB3.out _) _⟩
          go_upto_region 10 with (fail)
          obtain ⟨h, hh⟩ : ∃ h, w3.heap.size = h := ⟨_, rfl⟩
          rw [hh] at HW
          generalize (w3.alloc (.cells #[.slice vA vn vc, .int .i64 s'] 30)).alloc (.cells #[.string { data := #[] }, .iface 269 (.pointer (some a1))] 60) = W3 at HW ⊢
          rw [hh]
          clear hh
          have m0 : W3.cell? ⟨h + 1, 0, none⟩ = some (.string { data := #[] }) := HW.out.out.cell 0
          have m1 : W3.cell? ⟨h + 1, 1, none⟩ = some (.iface 269 (.pointer (some a1))) := HW.out.out.cell 1
          have mf := HW.out.out.frozen 1
          have HW4 := hid (HW.out.err (.iface 74 (.agg #[.int .i64 ((k : Int) + 1), .iface 269 (.pointer (some a1))])))
          go_upto_region 12 with (fail)
          generalize W3.setCell ⟨h + 1, 1, none⟩ (.iface 74 (.agg #[.int .i64 ((k : Int) + 1), .iface 269 (.pointer (some a1))])) = W4 at HW4 ⊢
          clear m0 m1 mf
          have n0 : W4.cell? ⟨h, 0, none⟩ = some (.slice vA vn vc) := HW4.out.nxt.cell 0
          have n1 : W4.cell? ⟨h, 1, none⟩ = some (.int .i64 s') := HW4.out.nxt.cell 1
          have d0 := HW4.out.box.cell 0
          have d1 := HW4.out.box.cell 1
          have f0 := HW4.out.box.frozen 0
          have f1 := HW4.out.box.frozen 1
          have HW5 := hid (HW4.out.desk (.slice vA vn vc) (.int .i64 s'))
          go_upto_region 13 with (fail)
          generalize (W4.setCell ⟨w2.heap.size, 0, none⟩ (.slice vA vn vc)).setCell ⟨w2.heap.size, 1, none⟩ (.int .i64 s') = W5 at HW5 ⊢
          clear n0 n1 d0 d1 f0 f1
          have m0 : W5.cell? ⟨h + 1, 0, none⟩ = some (.string { data := #[] }) := HW5.out.out.cell 0
          have m1 : W5.cell? ⟨h + 1, 1, none⟩ = some (.iface 74 (.agg #[.int .i64 ((k : Int) + 1), .iface 269 (.pointer (some a1))])) := HW5.out.out.cell 1
          have mf := HW5.out.out.frozen 1
          have hz5 : w2.heap.size + 1 ≤ W5.heap.size := HW5.out.box.lt
          have HOO : Hid (OutO 60 W5 (w2.heap.size + 1) (.slice oA k oc) (outsD a0 a1 ls k)) := hid HW5.out.outs
          go_wp2_with (at_builtin; refine wpList_append_out rfl _ _ 69 60 rfl Tryz.underlying69 Tryz.info60 (w2.heap.size + 1) _ (outsD a0 a1 ls k) (.string { data := #[] }) (.iface 74 (.agg #[.int .i64 ((k : Int) + 1), .iface 269 (.pointer (some a1))])) rfl rfl rfl HOO.out rfl rfl (by rw [outsD_length]; omega) hz5 ?_; rintro q6 w6 ho6 hb6 hbs6)
          have hfin := HW5.out.next HX1.out HX2.out HX3.out rfl ho6 hb6 hbs6
          go_roundw
          case rel => exact ⟨k + 1, _, _, _, by omega, by go_num, hfin⟩
          case measure => simp [intOf] <;> omega
        · obtain rfl : (.string { data := #[] } : Value) = o0 := ho0
          obtain rfl : (.iface 269 (.pointer (some a0)) : Value) = o1 := ho1
          have HW : Hid (RoW w2 ((w3.alloc (.cells #[.slice vA vn vc, .int .i64 s'] 30)).alloc (.cells #[.string { data := #[] }, .iface 269 (.pointer (some a0))] 60)) (w.heap.size + 1) w3.heap.size (.slice uA un uc) (.int .i64 sv) (.slice vA vn vc) s' xs' (.slice oA k oc) (outsD a0 a1 ls k) (.string { data := #[] }) (.iface 269 (.pointer (some a0)))) := hid
            ⟨((HD3.out.alloc _).alloc _), (Blk.new w3 _ _).alloc _, Blk.newAt _ _ _ _ (by simp), World.ownsRow.alloc (World.ownsRow.alloc HU.out _) _, World.ownsRow.alloc (World.ownsRow.alloc HO3.out _) _, HNe.out, HLt.out, HD3.out.lt, below_alloc (below_alloc HB3.out _) _⟩
          go_upto_region 10 with (fail)
          obtain ⟨h, hh⟩ : ∃ h, w3.heap.size = h := ⟨_, rfl⟩
          rw [hh] at HW
          generalize (w3.alloc (.cells #[.slice vA vn vc, .int .i64 s'] 30)).alloc (.cells #[.string { data := #[] }, .iface 269 (.pointer (some a0))] 60) = W3 at HW ⊢
          rw [hh]
          clear hh
          have m0 : W3.cell? ⟨h + 1, 0, none⟩ = some (.string { data := #[] }) := HW.out.out.cell 0
          have m1 : W3.cell? ⟨h + 1, 1, none⟩ = some (.iface 269 (.pointer (some a0))) := HW.out.out.cell 1
          have mf := HW.out.out.frozen 1
          have HW4 := hid (HW.out.err (.iface 74 (.agg #[.int .i64 ((k : Int) + 1), .iface 269 (.pointer (some a0))])))
          go_upto_region 12 with (fail)
          generalize W3.setCell ⟨h + 1, 1, none⟩ (.iface 74 (.agg #[.int .i64 ((k : Int) + 1), .iface 269 (.pointer (some a0))])) = W4 at HW4 ⊢
          clear m0 m1 mf
          have n0 : W4.cell? ⟨h, 0, none⟩ = some (.slice vA vn vc) := HW4.out.nxt.cell 0
          have n1 : W4.cell? ⟨h, 1, none⟩ = some (.int .i64 s') := HW4.out.nxt.cell 1
          have d0 := HW4.out.box.cell 0
          have d1 := HW4.out.box.cell 1
          have f0 := HW4.out.box.frozen 0
          have f1 := HW4.out.box.frozen 1
          have HW5 := hid (HW4.out.desk (.slice vA vn vc) (.int .i64 s'))
          go_upto_region 13 with (fail)
          generalize (W4.setCell ⟨w2.heap.size, 0, none⟩ (.slice vA vn vc)).setCell ⟨w2.heap.size, 1, none⟩ (.int .i64 s') = W5 at HW5 ⊢
          clear n0 n1 d0 d1 f0 f1
          have m0 : W5.cell? ⟨h + 1, 0, none⟩ = some (.string { data := #[] }) := HW5.out.out.cell 0
          have m1 : W5.cell? ⟨h + 1, 1, none⟩ = some (.iface 74 (.agg #[.int .i64 ((k : Int) + 1), .iface 269 (.pointer (some a0))])) := HW5.out.out.cell 1
          have mf := HW5.out.out.frozen 1
          have hz5 : w2.heap.size + 1 ≤ W5.heap.size := HW5.out.box.lt
          have HOO : Hid (OutO 60 W5 (w2.heap.size + 1) (.slice oA k oc) (outsD a0 a1 ls k)) := hid HW5.out.outs
          go_wp2_with (at_builtin; refine wpList_append_out rfl _ _ 69 60 rfl Tryz.underlying69 Tryz.info60 (w2.heap.size + 1) _ (outsD a0 a1 ls k) (.string { data := #[] }) (.iface 74 (.agg #[.int .i64 ((k : Int) + 1), .iface 269 (.pointer (some a0))])) rfl rfl rfl HOO.out rfl rfl (by rw [outsD_length]; omega) hz5 ?_; rintro q6 w6 ho6 hb6 hbs6)
          have hfin := HW5.out.next HX1.out HX2.out HX3.out rfl ho6 hb6 hbs6
          go_roundw
          case rel => exact ⟨k + 1, _, _, _, by omega, by go_num, hfin⟩
          case measure => simp [intOf] <;> omega
      · obtain rfl : k = m := by omega
        have z0 : wr.cell? ⟨w.heap.size, 0, none⟩ = some (.slice none 0 0) := (HE.out.bel.cell (p := ⟨w.heap.size, 0, none⟩) hz2).trans (HZ2.out.cell 0)
        have z1 : wr.cell? ⟨w.heap.size, 1, none⟩ = some (.int .i64 0) := (HE.out.bel.cell (p := ⟨w.heap.size, 1, none⟩) hz2).trans (HZ2.out.cell 1)
        have HZw := hid (show Blk wr w.heap.size 30 #[.slice none 0 0, .int .i64 0] from (HE.out.bel.block _ hz2).trans HZ2.out)
        have y0 := HZw.out.frozen 0
        have y1 := HZw.out.frozen 1
        have d0 := HE.out.box.cell 0
        have d1 := HE.out.box.cell 1
        have hx := HE.out.hx
        have hs2 := HE.out.hs
        have HX := hid hx
        have HS := hid hs2
        clear hx hs2
        go_wp2
        refine bodyPost_ret (v := .tuple #[.agg #[.slice uA un uc, .int .i64 sv], .slice oA k oc, .bool true]) (by simp [results, Tryz.results41, go_sem, z0, z1]) rfl ⟨.inr ⟨HOk.out, _, _, by rw [HS.out], ?_, ?_⟩, ?_⟩
        · rw [HX.out]
          exact ((HE.out.own.away (fun j hj => by have := (OwnI.blockLt HE.out.own j hj).1; omega) 0 _).away (fun j hj => by have := (OwnI.blockLt HE.out.own j hj).1; omega) 1 _).mono (by omega)
        · exact ((HE.out.outs.away (fun j hj => by have := (HE.out.outs.ownLt j hj).1; omega) 0 _).away (fun j hj => by have := (HE.out.outs.ownLt j hj).1; omega) 1 _).mono (by omega)
        · exact below_put2 (HB2.out.trans (HE.out.bel.mono (by omega))) _ (Nat.le_refl _) _ _
end Go.Proofs.YtbmhaamenjhjfaaGreatDoor
namespace Go.Proofs.YtbmhaamenjhjfaaGreatDoor
open Go.RowKit Go.WideShapes Go.ChangeShapes
set_option linter.unusedVariables false
def repsD (ls : List (List UInt8)) (k : Nat) : List (List UInt8) := (List.range k).map fun j : Nat => (repD ls j).1
theorem repsD_length (ls : List (List UInt8)) (k : Nat) : (repsD ls k).length = k := by simp [repsD]
theorem repsD_succ (ls : List (List UInt8)) (k : Nat) : repsD ls (k + 1) = repsD ls k ++ [(repD ls k).1] := by simp [repsD, List.range_succ]
end Go.Proofs.YtbmhaamenjhjfaaGreatDoor
