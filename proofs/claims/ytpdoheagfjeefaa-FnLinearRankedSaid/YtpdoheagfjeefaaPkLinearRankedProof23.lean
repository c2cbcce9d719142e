/- Texts Swr, one behind the other. -/
import Derived.Laws.EntriesVeiled
import Derived.Lib.SliceRun
import Derived.Deep.AppendLies
import Derived.Shelf.Abstract
import Derived.Laws.CopyOwn
import Derived.Deep.RegionLaw
import Derived.Test.YtpdoheagfjeefaaPkLinearRankedProof14
/- Toggles as closures: one toggle, toggles in turn. · Toggles in turn: closures that do other closures one after the other; a list behind a closure. · slices.Repeat of one function value. · Toggles in turn: promotions, evacuation, coevacuation as closures; a list behind a closure. -/
namespace Go.Proofs.Ytpdoheagfjeefaa
open Go.RowKit Go.WideShapes Go.ChangeShapes
set_option linter.unusedVariables false

theorem OwnI.up {e : TypeId} {w : World} {B B' : Nat} {v : Value} {xs : List Int} (h : OwnI e w B v xs) (hB : ∀ k, v.ownBlock = some k → B' ≤ k) : OwnI e w B' v xs := by
  obtain ⟨h1, h2⟩ := h
  refine ⟨h1, ?_⟩
  rcases h2 with h2 | ⟨g, cap, cur, hv, hg, r⟩
  · exact .inl h2
  · exact .inr ⟨g, cap, cur, hv, hB g (by rw [hv]; rfl), r⟩
/-- a function value with what it captured -/
def FV (fn : Nat) (caps : Array Value) : Value := .func (.func fn) #[] caps
def PA (a : Nat) : Value := .pointer (some ⟨a, 0, none⟩)
/-- the function 'fn' with 'caps' turns a list of its caller's as 'f' does; it rests on the blocks of S -/
structure SwapG (fn : Nat) (caps : Array Value) (xs : List Int) (S : Nat → Prop) (W : World) (f : List Int → List Int) : Prop where
  ent : ∀ args w, (callFunc fn args).run Try.prog w = .ok (.enter fn args) w
  lt : ∀ k, S k → k < W.heap.size
  run : ∀ (w : World) (sl : Value) (ws : List Int), (∀ k, S k → w.heap[k]? = W.heap[k]?) → OwnI 3 w 0 sl ws → (∀ k, sl.ownBlock = some k → ¬ S k) → Lw xs.length ws →
    Calls Try.prog fn (#[sl] ++ caps) w fun r w' => r = .returned (.tuple #[]) ∧ OwnI 3 w' 0 sl (f ws) ∧ w.grownBy w' sl.ownBlock
theorem SwapG.mono {fn : Nat} {caps : Array Value} {xs : List Int} {S S' : Nat → Prop} {W : World} {f : List Int → List Int} (h : SwapG fn caps xs S W f) (hS : ∀ k, S k → S' k) (hlt : ∀ k, S' k → k < W.heap.size) : SwapG fn caps xs S' W f :=
  ⟨h.ent, hlt, fun w sl ws hk ho hd hw => h.run w sl ws (fun k hs => hk k (hS k hs)) ho (fun k hs hs2 => hd k hs (hS k hs2)) hw⟩
theorem SwapG.same {fn : Nat} {caps : Array Value} {xs : List Int} {S : Nat → Prop} {W W' : World} {f : List Int → List Int} (h : SwapG fn caps xs S W f) (hs : W.heap.size ≤ W'.heap.size) (hk : ∀ k, S k → W'.heap[k]? = W.heap[k]?) : SwapG fn caps xs S W' f :=
  ⟨h.ent, fun k hs' => Nat.lt_of_lt_of_le (h.lt k hs') hs, fun w sl ws hk2 ho hd hw => h.run w sl ws (fun k hs' => (hk2 k hs').trans (hk k hs')) ho hd hw⟩
theorem SwapG.below {fn : Nat} {caps : Array Value} {xs : List Int} {S : Nat → Prop} {W W' : World} {f : List Int → List Int} (h : SwapG fn caps xs S W f) (hb : Below W.heap.size W W') : SwapG fn caps xs S W' f :=
  h.same hb.size fun k hk => hb.block k (h.lt k hk)
/-- the blocks made since B, and the poset's own -/
def FP (B : Nat) (v : Value) (w : World) (k : Nat) : Prop := (B ≤ k ∧ k < w.heap.size) ∨ v.ownBlock = some k
/-- a slice of such functions that is read -/
def LstG (xs : List Int) (S : Nat → Prop) (w : World) (u : Value) (F : Nat → List Int → List Int) (m : Nat) : Prop :=
  ∃ A c, u = .slice A m c ∧ ∀ j, j < m → ∃ b o fn caps, A = some ⟨b, o, none⟩ ∧ S b ∧ w.cell? ⟨b, o + j, none⟩ = some (FV fn caps) ∧ SwapG fn caps xs S w (F j)
/-- a slice of such functions of the call's own -/
def OwnG (ts : TypeId) (xs : List Int) (v : Value) (B : Nat) (w : World) (u : Value) (F : Nat → List Int → List Int) (m : Nat) : Prop :=
  ∃ us : List Value, us.length = m ∧ w.ownsRow B ts 1 u m us ∧ ∀ j x, us[j]? = some x → ∃ fn caps S, x = FV fn caps ∧ SwapG fn caps xs S w (F j) ∧ ∀ k, S k → (B ≤ k ∨ v.ownBlock = some k) ∧ u.ownBlock ≠ some k
theorem OwnG.nil (ts : TypeId) (xs : List Int) (v : Value) (B : Nat) (w : World) (F : Nat → List Int → List Int) : OwnG ts xs v B w (.slice none 0 0) F 0 :=
  ⟨[], rfl, World.ownsRow_nil w B ts 1, fun j x h => by simp at h⟩
theorem OwnG.below {ts : TypeId} {xs : List Int} {v : Value} {B : Nat} {w w' : World} {u : Value} {F : Nat → List Int → List Int} {m : Nat} (h : OwnG ts xs v B w u F m) (hb : Below w.heap.size w w') : OwnG ts xs v B w' u F m := by
  obtain ⟨us, h1, h2, h3⟩ := h
  refine ⟨us, h1, ?_, fun j x hx => ?_⟩
  · by_cases hv : u.ownBlock = none
    · exact h2.kept (grown_of_below hb none) (.inl hv)
    · exact h2.kept (grown_of_below hb none) (.inr hv)
  · obtain ⟨fn, caps, S, e, hS, hk⟩ := h3 j x hx
    exact ⟨fn, caps, S, e, hS.below hb, hk⟩
theorem OwnG.shape {ts : TypeId} {xs : List Int} {v : Value} {B : Nat} {w : World} {u : Value} {F : Nat → List Int → List Int} {m : Nat} (h : OwnG ts xs v B w u F m) : ∃ A c, u = .slice A m c := by
  obtain ⟨us, h1, h2, h3⟩ := h
  rcases h2.2 with ⟨rfl, rfl⟩ | ⟨g, cap, cur, rfl, _⟩
  · exact ⟨none, 0, rfl⟩
  · exact ⟨_, cap, rfl⟩
theorem OwnG.lst {ts : TypeId} {xs : List Int} {v : Value} {B : Nat} {w : World} {u : Value} {F : Nat → List Int → List Int} {m : Nat} (h : OwnG ts xs v B w u F m) (hv : ∀ k, v.ownBlock = some k → k < w.heap.size) : LstG xs (FP B v w) w u F m := by
  have hlt : ∀ k, FP B v w k → k < w.heap.size := by
    rintro k (hk | hk)
    · exact hk.2
    · exact hv k hk
  obtain ⟨us, h1, h2, h3⟩ := h
  rcases Nat.eq_zero_or_pos m with h0 | h0
  · subst h0
    rcases h2.2 with ⟨rfl, _⟩ | ⟨g, cap, cur, rfl, _⟩
    · exact ⟨none, 0, rfl, fun j hj => by omega⟩
    · exact ⟨_, cap, rfl, fun j hj => by omega⟩
  · obtain ⟨g, cap, rfl, hB, hg⟩ := h2.form h0
    refine ⟨_, cap, rfl, fun j hj => ?_⟩
    have hx : us[j]? = some us[j] := List.getElem?_eq_getElem (by omega)
    obtain ⟨fn, caps, S, e, hS, hk⟩ := h3 j _ hx
    refine ⟨g, 0, fn, caps, rfl, .inl ⟨hB, hg⟩, ?_, hS.mono (fun k hs => ?_) hlt⟩
    · rw [Nat.zero_add, h2.cellAt j (by omega), hx, e]
    · rcases (hk k hs).1 with h | h
      · exact .inl ⟨h, hS.lt k hs⟩
      · exact .inr h
/-- 'out = append(out, f)' -/
theorem wpList_append_sw {P : Program} {w W : World} {ops : Array Oper} {rest : List Oper} {o : Oper} {a : Act} {Q : Exit → Act → World → Prop} (hgd : o.guard = none) (s x : Operand) (t e : TypeId)
    (ho : o.op = .call { callee := .builtin .append, args := #[s, x], argTypes := #[t, t] }) (ht : P.underlying t = some (.slice e)) (hinfo : (P.info? e).map (fun i => (i.zero, i.size, i.bytes)) = some (some .nilFunc, 1, 8))
    (xs : List Int) (v : Value) (B : Nat) (u : Value) (F : Nat → List Int → List Int) (m : Nat) (fn : Nat) (caps : Array Value) (S : Nat → Prop)
    (hs : a.eval s = u) (hown : OwnG e xs v B w u F m) (hnew : SwapG fn caps xs S w (F m)) (hS : ∀ k, S k → (B ≤ k ∨ v.ownBlock = some k) ∧ u.ownBlock ≠ some k)
    (hW : W = w.alloc (.cells #[FV fn caps] e)) (hx : a.eval x = .slice (some ⟨w.heap.size, 0, none⟩) 1 1) (hlen : m < 1048576) (hB : B ≤ w.heap.size)
    (h : ∀ v' w', OwnG e xs v B w' v' F (m + 1) → Below B w w' → wpList P ops Q rest (a.put o.dst v') w') : wpList P ops Q (o :: rest) a W := by
  subst hW
  obtain ⟨i0, hi, hz0, hz1, hz2⟩ := info_parts hinfo
  obtain ⟨us, h1, h2, h3⟩ := hown
  refine wpList_append_lies _ hgd s x t ho B e i0 .nilFunc 1 8 ht hi hz0 hz1 hz2 rfl (by decide) u m us hs (h2.alloc _) ⟨w.heap.size, 0, none⟩ 1 1 [FV fn caps] hx rfl ?_ ?_ (by decide) ?_ ?_ ?_ _ rfl ?_
  · intro j y hj
    match j, hj with
    | 0, hj =>
      simp only [List.getElem?_cons_zero, Option.some.injEq] at hj
      subst hj
      exact (Blk.new w e #[FV fn caps]).cell 0
    | j + 1, hj => simp at hj
  · intro y hy
    simp only [List.mem_singleton] at hy
    subst hy; rfl
  · unfold maxLen; omega
  · omega
  · simp; omega
  · intro g cap w' h6 h7 h8 h9
    have hb : Below B w (w.alloc (.cells #[FV fn caps] e)) := (Below.refl _ _).alloc hB _
    have hB2 : Below B w w' := hb.grown h7 (by simp; omega) fun k hk => (h2.lt k hk).1
    have hsz : w.heap.size ≤ w'.heap.size := hB2.size
    have hkeep : ∀ k, k < w.heap.size → u.ownBlock ≠ some k → w'.heap[k]? = w.heap[k]? := fun k hk hne =>
      (h7.block k (by simp; omega) (fun e => hne e.symm)).trans (Below.heap_alloc w _ k hk)
    have hgk : ∀ k, k < w.heap.size → u.ownBlock ≠ some k → (Value.slice (some ⟨g, 0, none⟩) (m + 1) cap).ownBlock ≠ some k := by
      intro k hk hne he
      simp only [Value.ownBlock, Option.some.injEq] at he
      subst he
      rcases h8 with h8 | h8
      · exact hne h8
      · simp at h8; omega
    refine h _ w' ⟨us ++ [FV fn caps], by simp [h1], h6, fun j y hy => ?_⟩ hB2
    rw [List.getElem?_append] at hy
    by_cases hj : j < us.length
    · rw [if_pos hj] at hy
      obtain ⟨fn', caps', S', e', hS', hk'⟩ := h3 j y hy
      exact ⟨fn', caps', S', e', hS'.same hsz fun k hs => hkeep k (hS'.lt k hs) (hk' k hs).2, fun k hs => ⟨(hk' k hs).1, hgk k (hS'.lt k hs) (hk' k hs).2⟩⟩
    · rw [if_neg hj] at hy
      rcases Nat.eq_zero_or_pos (j - us.length) with h0 | h0
      · rw [h0] at hy
        simp only [List.getElem?_cons_zero, Option.some.injEq] at hy
        subst hy
        have hjm : j = m := by omega
        subst hjm
        exact ⟨fn, caps, S, rfl, hnew.same hsz fun k hs => hkeep k (hnew.lt k hs) (hS k hs).2, fun k hs => ⟨(hS k hs).1, hgk k (hnew.lt k hs) (hS k hs).2⟩⟩
      · rw [List.getElem?_eq_none (by simp; omega)] at hy; cases hy
set_option maxHeartbeats 1600000 in
theorem swapAtC_any (v : Value) (xs : List Int) (a b i : Nat) (W : World) (S : Nat → Prop) (hv : Ints W v xs) (hg : good xs = true) (ha : At W a v) (hbb : At W b (.int .i64 i)) (hi : i + 1 < xs.length)
    (hSl : ∀ k, S k → k < W.heap.size) (hSa : S a) (hSb : S b) (hSv : ∀ k, v.ownBlock = some k → S k) : SwapG 165 #[PA a, PA b] xs S W (fun ws => togL xs ws i) := by
  refine ⟨Go.Proofs.enters_of Try.func165 (by kernel_rfl) rfl, hSl, ?_⟩
  intro w sl ws hb ho hd hw
  show Calls Try.prog 165 #[sl, .pointer (some ⟨a, 0, none⟩), .pointer (some ⟨b, 0, none⟩)] w fun r w' => r = .returned (.tuple #[]) ∧ OwnI 3 w' 0 sl (togL xs ws i) ∧ w.grownBy w' sl.ownBlock
  have hl10 := (good_length hg).2
  have hwl := hw.len
  have hx := hw.at (show i < xs.length by omega)
  have hy := hw.at hi
  obtain ⟨qA, qc, rfl, hqA⟩ := ho.shape
  obtain ⟨g, rfl, hgl, hgB⟩ := hqA (by intro h; simp [h] at hwl; omega)
  obtain ⟨x, hxe⟩ := Int.eq_ofNat_of_zero_le hx.1
  obtain ⟨y, hye⟩ := Int.eq_ofNat_of_zero_le hy.1
  rw [hxe] at hx
  rw [hye] at hy
  have hx2 : x < xs.length := by omega
  have hy2 : y < xs.length := by omega
  have ho' : w.ownsRow 0 3 1 (.slice (some ⟨g, 0, none⟩) ws.length qc) ws.length (ws.map (Value.int .i64)) := ho
  have HO := hid ho'
  have hil : i < ws.length := by omega
  have hml : i + 1 < ws.length := by omega
  have hg1 := ho'.cellAt i (by omega)
  have hg2 := ho'.cellAt (i + 1) (by omega)
  rw [List.getElem?_map, getD_eq ws i hil, hxe] at hg1
  rw [List.getElem?_map, getD_eq ws (i + 1) hml, hye] at hg2
  simp only [Option.map_some] at hg1 hg2
  have hf1 := ho'.frozenAt i
  have hf2 := ho'.frozenAt (i + 1)
  obtain ⟨A, c, rfl, hA⟩ := hv
  obtain ⟨b0, o, rfl, hbl, hc⟩ := hA (by intro h; simp [h] at hy2)
  have hcell := (World.cell?_of_block (a := ⟨b0, o + y, none⟩) (hb b0 (hSv b0 rfl))).trans (hc y hy2)
  have hr := row_lt hg hy2
  have hr10 := row_lt10 hg hy2
  have hT : ∀ R, (row xs y).testBit x = R → togL xs ws i = if R = true then ws else (ws.set i (y : Int)).set (i + 1) (x : Int) := by
    intro R hR
    unfold togL
    rw [hxe, hye, Int.toNat_natCast, Int.toNat_natCast, hR]
    unfold swapL
    rw [hxe, hye]
  obtain ⟨z, hz⟩ : ∃ z, row xs y = z := ⟨_, rfl⟩
  rw [hz] at hr hr10 hT
  rw [hr.1] at hcell
  obtain ⟨m, hm⟩ : ∃ m, i + 1 = m := ⟨_, rfl⟩
  have hmi : (i : Int) + 1 = (m : Int) := by omega
  rw [hm] at hg2 hf2 hT hml
  have wm1 : IntKind.i64.wrap ((i : Int) + 1) = (m : Int) := by rw [hmi]; exact IntWalk.i64_in _ (by omega)
  have wm2 : IntKind.i64.wrap (m : Int) = (m : Int) := IntWalk.i64_in _ (by omega)
  have hil' : (i : Int) < ws.length := by omega
  have hml' : (m : Int) < ws.length := by omega
  have hyl' : (y : Int) < xs.length := by omega
  have hm0 : m < 11 := by omega
  have him : i ≠ m := by omega
  have hba := (World.cell?_of_block (a := ⟨a, 0, none⟩) (hb a hSa)).trans ha.1
  have hbbc := (World.cell?_of_block (a := ⟨b, 0, none⟩) (hb b hSb)).trans hbb.1
  have hx64 : x < 64 := by omega
  have hbg : b ≠ g := fun e => hd g rfl (e ▸ hSb)
  have hgb : ¬ g = b := fun e => hbg e.symm
  obtain ⟨R, hR⟩ : ∃ R, z.testBit x = R := ⟨_, rfl⟩
  have HR := hid hR
  have HTT := hid (hT R hR)
  clear hA hc hg hw hx hy hxe hye hR hT hz hr ho ho' hwl hqA hm hi ha hbb hb hSl hSa hSb hSv hd
  go_enter Try.func165, Try.ntmps165
  go_wp2_with fail
  go_quiet ((go_at_call 94; exact Calls.quiet_of_same ((hasElement_any z x (by omega) hx64 _).mono fun _ _ ⟨a, b⟩ => ⟨a, b.symm⟩)))
  rw [HR.out]
  have HO1 : Hid ((w.drewN nq).ownsRow 0 3 1 (.slice (some ⟨g, 0, none⟩) ws.length qc) ws.length (ws.map (Value.int .i64))) := hid HO.out
  have HG1 : Hid (w.grownBy (w.drewN nq) (some g)) := hid ⟨rfl, rfl, rfl, Nat.le_refl _, fun _ _ _ => rfl⟩
  have hg1' : (w.drewN nq).cell? ⟨g, i, none⟩ = some (.int .i64 (x : Int)) := hg1
  have hg2' : (w.drewN nq).cell? ⟨g, m, none⟩ = some (.int .i64 (y : Int)) := hg2
  have hf1' : (w.drewN nq).frozen? ⟨g, i, none⟩ = false := hf1
  have hf2' : (w.drewN nq).frozen? ⟨g, m, none⟩ = false := hf2
  have hb' : (w.drewN nq).cell? ⟨b, 0, none⟩ = some (.int .i64 (i : Int)) := hbbc
  clear hg1 hg2 hf1 hf2 hbbc hba hcell
  cases R
  · have HTF : Hid (togL xs ws i = (ws.set i (y : Int)).set m (x : Int)) := hid (by have := HTT.out; simpa using this)
    obtain ⟨w1, hw1⟩ : ∃ w1, w.drewN nq = w1 := ⟨_, rfl⟩
    rw [hw1] at HO1 HG1 hg1' hg2' hf1' hf2' hb' ⊢
    have hY := hid (((HO1.out.stored i (.int .i64 (y : Int))).1.stored m (.int .i64 (x : Int))).1)
    clear hw1 HTT
    go_wp2_with fail
    go_region
    all_goals go_wp2
    all_goals go_end0
    all_goals refine ⟨rfl, ?_, ?_⟩
    · rw [HTF.out]
      have h := hY.out
      rw [← List.map_set, ← List.map_set] at h
      refine OwnI.drew ?_
      unfold OwnI
      simpa using h
    · exact grown_drew (grown_setCell (grown_setCell HG1.out i _) m _)
  · have HTF : Hid (togL xs ws i = ws) := hid (by have := HTT.out; simpa using this)
    clear HTT
    go_wp2
    go_end0
    exact ⟨rfl, by rw [HTF.out]; exact HO1.out, HG1.out⟩
theorem swapAt_any (v : Value) (xs : List Int) (i : Nat) (w : World) (hv : Ints w v xs) (hg : good xs = true) (hi : i + 1 < xs.length) :
    Calls Try.prog 118 #[.agg #[v], .int .i64 i] w fun (r : Ending) w' => ∃ fn caps, r = Ending.returned (.func (.func fn) #[] caps) ∧ SwapG fn caps xs (FP w.heap.size v w') w' (fun ws => togL xs ws i) ∧ Below w.heap.size w w' := by
  have HV := hid hv
  have HG := hid hg
  have hmf : ∀ (fn : Fn) (first cap : Array Value) (w : World), (Instr.makeFunc fn first cap).run Try.prog w = .ok (.func fn first cap) w := fun _ _ _ _ => rfl
  have hvl : ∀ k, v.ownBlock = some k → k < w.heap.size := by
    intro k hk
    obtain ⟨A, c, rfl, h⟩ := hv
    obtain ⟨b, o, rfl, hb, -⟩ := h (by have := (good_length hg).1; intro e; rw [e] at this; simp at this)
    simp only [Value.ownBlock, Option.some.injEq] at hk
    omega
  have HS : Hid (SwapG 165 #[PA w.heap.size, PA (w.heap.size + 1)] xs (FP w.heap.size v ((w.alloc (.cells #[v] 26)).alloc (.cells #[.int .i64 (i : Int)] 3))) ((w.alloc (.cells #[v] 26)).alloc (.cells #[.int .i64 (i : Int)] 3)) (fun ws => togL xs ws i)) :=
    hid (swapAtC_any v xs w.heap.size (w.heap.size + 1) i _ _ ((HV.out.alloc _).alloc _) HG.out ((At.new _ _ _).alloc _) (At.newAt _ _ _ _ (by simp)) hi
      (by rintro k (h | h); exact h.2; have := hvl k h; simp; omega) (.inl (by constructor <;> simp <;> omega)) (.inl (by constructor <;> simp <;> omega)) (fun k h => .inr h))
  have HB : Hid (Below w.heap.size w ((w.alloc (.cells #[v] 26)).alloc (.cells #[.int .i64 (i : Int)] 3))) := hid (below_alloc (below_alloc (Below.refl _ w) _) _)
  clear hv hg hvl
  go_enter Try.func118, Try.ntmps118
  go_wp2
  go_ret
  exact ⟨165, #[PA w.heap.size, PA (w.heap.size + 1)], rfl, HS.out, HB.out⟩
end Go.Proofs.Ytpdoheagfjeefaa
namespace Go.Proofs.Ytpdoheagfjeefaa
open Go.RowKit Go.WideShapes Go.ChangeShapes
set_option linter.unusedVariables false

set_option maxHeartbeats 1600000 in
theorem inTurnC_any (u : Value) (xs : List Int) (a : Nat) (W : World) (S : Nat → Prop) (F : Nat → List Int → List Int) (m : Nat) (hu : LstG xs S W u F m) (ha : At W a u) (hm : m ≤ 1000)
    (hSl : ∀ k, S k → k < W.heap.size) (hSa : S a) (hF : ∀ k, k < m → ∀ ws, Lw xs.length ws → Lw xs.length (F k ws)) : SwapG 166 #[PA a] xs S W (turnN F m) := by
  refine ⟨Go.Proofs.enters_of Try.func166 (by kernel_rfl) rfl, hSl, ?_⟩
  intro w sl ws hb ho hd hw
  show Calls Try.prog 166 #[sl, .pointer (some ⟨a, 0, none⟩)] w fun r w' => r = .returned (.tuple #[]) ∧ OwnI 3 w' 0 sl (turnN F m ws) ∧ w.grownBy w' sl.ownBlock
  have hba := (World.cell?_of_block (a := ⟨a, 0, none⟩) (hb a hSa)).trans ha.1
  obtain ⟨A, c, rfl, hj⟩ := hu
  have HJ := hid hj
  have HB := hid hb
  have HD := hid hd
  have HO := hid ho
  have HW := hid hw
  have HF := hid hF
  have HSL := hid hSl
  have HSz : Hid (∀ k, S k → k < w.heap.size) := hid fun k hk => by
    have h1 := hb k hk
    have h2 := hSl k hk
    rcases Nat.lt_or_ge k w.heap.size with h | h
    · exact h
    · rw [Array.getElem?_eq_none h, Array.getElem?_eq_getElem h2] at h1; cases h1
  obtain ⟨qA, qn, qc, rfl⟩ := ho.shape3
  clear hj hb hd ho hw hF hSl hSa ha
  go_enter Try.func166, Try.ntmps166
  go_wp2
  clear hba
  go_loopw [7] (fun i wr => ∃ k : Nat, k ≤ m ∧ i = .int .i64 k ∧ OwnI 3 wr 0 (.slice qA qn qc) (turnN F k ws) ∧ w.grownBy wr (Value.slice qA qn qc).ownBlock) (fun i _ => m - (intOf i).toNat)
  case atStart => exact ⟨0, Nat.zero_le _, rfl, HO.out, World.grownBy.refl _ _⟩
  case round =>
    obtain ⟨k, hk, rfl, ho, hg⟩ := hrel
    have HO1 := hid ho
    have HG1 := hid hg
    clear ho hg
    by_cases hlt : k < m
    · obtain ⟨b, o, fn, caps, rfl, hSb, hc, hS⟩ := HJ.out k hlt
      have hkp : ∀ k', S k' → wr.heap[k']? = W.heap[k']? := fun k' hk' => (HG1.out.block k' (HSz.out k' hk') (fun e => HD.out k' e.symm hk')).trans (HB.out k' hk')
      have hcell : wr.cell? ⟨b, o + k, none⟩ = some (.func (.func fn) #[] caps) := (World.cell?_of_block (a := ⟨b, o + k, none⟩) (hkp b hSb)).trans hc
      have eg := hS.ent
      have HR := hid (hS.run wr _ _ hkp HO1.out HD.out (HW.out.turn (m := k) fun j hj => HF.out j (by omega)))
      clear hS hc hkp hSb
      go_wp2_with (go_at_fn fn; refine HR.out.mono ?_; rintro e w2 ⟨rfl, ho2, hg2⟩)
      go_roundw
      case rel => exact ⟨k + 1, by omega, by go_num, ho2, grown_trans HG1.out hg2⟩
      case measure => simp [intOf]; omega
    · obtain rfl : k = m := by omega
      go_wp2
      go_end0
      exact ⟨rfl, HO1.out, HG1.out⟩
theorem LstG.to {xs : List Int} {S S' : Nat → Prop} {w w' : World} {u : Value} {F : Nat → List Int → List Int} {m : Nat} (h : LstG xs S w u F m) (hb : Below w.heap.size w w') (hS : ∀ k, S k → S' k) (hl : ∀ k, S k → k < w.heap.size) (hlt : ∀ k, S' k → k < w'.heap.size) : LstG xs S' w' u F m := by
  obtain ⟨A, c, rfl, h⟩ := h
  refine ⟨A, c, rfl, fun j hj => ?_⟩
  obtain ⟨b, o, fn, caps, h1, h2, h3, h4⟩ := h j hj
  exact ⟨b, o, fn, caps, h1, hS b h2, (hb.cell (p := ⟨b, o + j, none⟩) (hl b h2)).trans h3, (h4.below hb).mono hS hlt⟩
theorem FP.lt {B : Nat} {v : Value} {w : World} (hv : ∀ k, v.ownBlock = some k → k < w.heap.size) (k : Nat) (h : FP B v w k) : k < w.heap.size := by
  rcases h with h | h
  · exact h.2
  · exact hv k h
theorem FP.to {B : Nat} {v : Value} {w w' : World} (hs : w.heap.size ≤ w'.heap.size) (k : Nat) (h : FP B v w k) : FP B v w' k := by
  rcases h with h | h
  · exact .inl ⟨h.1, by omega⟩
  · exact .inr h
theorem FP.base {B B' : Nat} {v : Value} {w : World} (hB : B ≤ B') (k : Nat) (h : FP B' v w k) : FP B v w k := by
  rcases h with h | h
  · exact .inl ⟨by omega, h.2⟩
  · exact .inr h
theorem SwapG.base {fn : Nat} {caps : Array Value} {xs : List Int} {B B' : Nat} {v : Value} {w : World} {f : List Int → List Int} (h : SwapG fn caps xs (FP B' v w) w f) (hB : B ≤ B') (hv : ∀ k, v.ownBlock = some k → k < w.heap.size) : SwapG fn caps xs (FP B v w) w f :=
  h.mono (FP.base hB) (FP.lt hv)
theorem At.keep {w w' : World} {b B : Nat} {v : Value} (h : At w b v) (hb : Below B w w') (hB : b < B) : At w' b v :=
  ⟨(hb.cell (p := ⟨b, 0, none⟩) hB).trans h.1, Nat.lt_of_lt_of_le h.2 hb.size⟩
theorem ints_block {w : World} {v : Value} {xs : List Int} (hv : Ints w v xs) (hg : good xs = true) (k : Nat) (hk : v.ownBlock = some k) : k < w.heap.size := by
  obtain ⟨A, c, rfl, h⟩ := hv
  obtain ⟨b, o, rfl, hb, -⟩ := h (by have := (good_length hg).1; intro e; rw [e] at this; simp at this)
  simp only [Value.ownBlock, Option.some.injEq] at hk
  omega
theorem inTurn_any (u v : Value) (xs : List Int) (B : Nat) (F : Nat → List Int → List Int) (m : Nat) (w : World) (hu : LstG xs (FP B v w) w u F m) (hB : B ≤ w.heap.size) (hv : ∀ k, v.ownBlock = some k → k < w.heap.size) (hm : m ≤ 1000)
    (hF : ∀ k, k < m → ∀ ws, Lw xs.length ws → Lw xs.length (F k ws)) :
    Calls Try.prog 138 #[u] w fun (r : Ending) w' => ∃ fn caps, r = Ending.returned (.func (.func fn) #[] caps) ∧ SwapG fn caps xs (FP B v w') w' (turnN F m) ∧ Below w.heap.size w w' := by
  have hmf : ∀ (fn : Fn) (first cap : Array Value) (w : World), (Instr.makeFunc fn first cap).run Try.prog w = .ok (.func fn first cap) w := fun _ _ _ _ => rfl
  obtain ⟨W, hW⟩ : ∃ W, w.alloc (.cells #[u] 103) = W := ⟨_, rfl⟩
  have hbW : Below w.heap.size w W := by subst hW; exact below_alloc (Below.refl _ w) _
  have hzW : W.heap.size = w.heap.size + 1 := by subst hW; simp
  have hAt : At W w.heap.size u := by subst hW; exact At.new _ _ _
  have hvW : ∀ k, v.ownBlock = some k → k < W.heap.size := fun k hk => by have := hv k hk; omega
  have HS := hid (inTurnC_any u xs w.heap.size W (FP B v W) F m (hu.to hbW (FP.to hbW.size) (FP.lt hv) (FP.lt hvW)) hAt hm (FP.lt hvW) (.inl ⟨hB, by omega⟩) hF)
  have HB := hid hbW
  have HW := hid hW
  obtain ⟨uA, uc, rfl, -⟩ := hu
  clear hbW hzW hAt hvW hW hF hv
  go_enter Try.func138, Try.ntmps138
  go_wp2
  go_ret
  rw [HW.out]
  exact ⟨166, #[PA w.heap.size], rfl, HS.out, HB.out⟩
theorem infoSwap : (Try.prog.info? 63).map (fun i => (i.zero, i.size, i.bytes)) = some (some .nilFunc, 1, 8) := by kernel_rfl
set_option maxHeartbeats 1600000 in
theorem swapsUp_any (v : Value) (xs : List Int) (K : Nat) (w : World) (hv : Ints w v xs) (hg : good xs = true) (hK : K + 1 ≤ xs.length) :
    Calls Try.prog 137 #[.agg #[v], .int .i64 ((K : Int) - 1)] w fun (r : Ending) w' => ∃ fn caps, r = Ending.returned (.func (.func fn) #[] caps) ∧ SwapG fn caps xs (FP w.heap.size v w') w' (upL xs K) ∧ Below w.heap.size w w' := by
  have HV := hid hv
  have HG := hid hg
  have hl10 := (good_length hg).2
  have HVB := hid (ints_block hv hg)
  have HK := hid hK
  have hK9 : K ≤ 9 := by omega
  clear hv hg hK
  go_enter Try.func137, Try.ntmps137
  have HB := hid (below_alloc (Below.refl _ w) (.cells #[v] 26))
  have A0 := hid (At.newAt w v 26 w.heap.size (by simp))
  go_wp2
  go_loopw [5, 6] (fun u i wr => ∃ k : Nat, k ≤ K ∧ i = .int .i64 k ∧ OwnG 63 xs v (w.heap.size + 1) wr u (fun i a => togL xs a i) k ∧ Below w.heap.size w wr ∧ At wr w.heap.size v) (fun _ i _ => K - (intOf i).toNat)
  case atStart => exact ⟨0, Nat.zero_le _, rfl, OwnG.nil _ _ _ _ _ _, HB.out, A0.out⟩
  case round =>
    obtain ⟨k, hk, rfl, ho, hb, ha⟩ := hrel
    have HO := hid ho
    have HB1 := hid hb
    have HA1 := hid ha
    obtain ⟨uA, uc, rfl⟩ := ho.shape
    have hbx := ha.1
    have hz : w.heap.size + 1 ≤ wr.heap.size := ha.2
    clear ho hb ha
    by_cases hlt : k < K
    · go_wp2_with fail
      clear hbx
      refine (swapAt_any v xs k _ (HV.out.below HB1.out) HG.out (by have := HK.out; omega)).mono ?_
      rintro e w2 ⟨fn, caps, rfl, hS, hb2⟩
      have HS := hid hS
      have HO2 := hid (HO.out.below hb2)
      have HB2 := hid (below_to HB1.out hb2)
      have HA2 := hid (HA1.out.below hb2)
      have hz2 : w.heap.size + 1 ≤ w2.heap.size := HA2.out.2
      have HFP : Hid (∀ k', FP wr.heap.size v w2 k' → (w.heap.size + 1 ≤ k' ∨ v.ownBlock = some k') ∧ (Value.slice uA k uc).ownBlock ≠ some k') := hid (by
        obtain ⟨us, h1, h2, h3⟩ := HO.out
        rintro k' (h | h)
        · refine ⟨.inl (by omega), fun e => ?_⟩
          have := h2.lt k' e
          omega
        · refine ⟨.inr h, fun e => ?_⟩
          have := h2.lt k' e
          have := HVB.out k' h
          omega)
      clear hS hb2
      go_wp2_with (at_builtin; refine wpList_append_sw rfl _ _ 103 63 rfl Try.underlying103 infoSwap xs v (w.heap.size + 1) _ (fun i a => togL xs a i) k fn caps _ rfl HO2.out HS.out HFP.out rfl rfl (by omega) hz2 ?_; rintro u3 w3 ho3 hb3)
      go_roundw
      case rel => exact ⟨k + 1, by omega, by go_num, ho3, HB2.out.trans (hb3.mono (by omega)), HA2.out.keep hb3 (by omega)⟩
      case measure => simp [intOf]; omega
    · obtain rfl : k = K := by omega
      have hvB : ∀ k', v.ownBlock = some k' → k' < wr.heap.size := fun k' h => by have := HVB.out k' h; omega
      have HL := hid (HO.out.lst hvB)
      have HvB := hid hvB
      clear hbx hvB
      go_wp2_with fail
      refine (inTurn_any _ v xs (w.heap.size + 1) _ k _ HL.out hz HvB.out (by omega) (fun j hj a ha => ha.tog (by have := HK.out; omega))).mono ?_
      rintro e w2 ⟨fn, caps, rfl, hS, hb2⟩
      have HS := hid (hS.base (Nat.le_succ w.heap.size) (fun k' h => Nat.lt_of_lt_of_le (HvB.out k' h) hb2.size))
      have HB2 := hid (below_to HB1.out hb2)
      clear hS hb2
      go_wp2
      go_ret
      exact ⟨fn, caps, rfl, HS.out, HB2.out⟩
end Go.Proofs.Ytpdoheagfjeefaa
namespace Go.Proofs.Ytpdoheagfjeefaa
open Go.RowKit Go.WideShapes Go.ChangeShapes
set_option linter.unusedVariables false

theorem mul64_any (N : Nat) (w : World) (hN : N ≤ 1000) : Calls Try.prog 174 #[.int .u64 1, .int .u64 N] w fun r w' => r = .returned (.tuple #[.int .u64 0, .int .u64 N]) ∧ w = w' := by
  have h1 : bits .and .u64 (1 : Int) 4294967295 = 1 := by decide
  have h0 : bits .and .u64 (0 : Int) 4294967295 = 0 := by decide
  have h2 : bits .and .u64 (N : Int) 4294967295 = (N : Int) := by
    show IntKind.u64.wrap ((BitVec.ofInt 64 (N : Int) &&& BitVec.ofInt 64 4294967295).toNat : Int) = _
    rw [BitVec.toNat_and, ofInt_i64 N (by omega), show (BitVec.ofInt 64 4294967295).toNat = 2 ^ 32 - 1 by decide, Nat.and_two_pow_sub_one_eq_mod, Nat.mod_eq_of_lt (by omega)]
    rw [IntKind.wrap_u64]
    omega
  have h3 : (N : Int) / 4294967296 = 0 := by omega
  have h4 : (N : Int) / 2 ^ 32 = 0 := by omega
  go_enter Try.func174, Try.ntmps174
  go_wp2
  go_ret2
  exact ⟨rfl, rfl⟩
theorem mul_any (N : Nat) (w : World) (hN : N ≤ 1000) : Calls Try.prog 167 #[.int .u64 1, .int .u64 N] w fun r w' => r = .returned (.tuple #[.int .u64 0, .int .u64 N]) ∧ w = w' := by
  go_enter Try.func167, Try.ntmps167
  go_wp2_with (go_at_call 174; refine (mul64_any N _ hN).mono ?_; rintro e w' ⟨rfl, rfl⟩)
  go_ret2
  exact ⟨rfl, rfl⟩
theorem sizeSwap : (Try.prog.info? 63).map (·.size) = some 1 := by kernel_rfl
/-- the row while it is filled -/
def repRow (x : Value) (N n : Nat) : List Value := List.replicate n x ++ List.replicate (N - n) .nilFunc
theorem repRow_length (x : Value) {N n : Nat} (h : n ≤ N) : (repRow x N n).length = N := by simp [repRow]; omega
theorem repRow_splice (x : Value) {N n : Nat} (h : n ≤ N) (c : Nat) (hc : c ≤ N - n) : splice (repRow x N n) n (List.replicate c x) = repRow x N (n + c) := by
  have e1 : (repRow x N n).take n = List.replicate n x := by simp [repRow]
  have e2 : (repRow x N n).drop (n + c) = List.replicate (N - (n + c)) .nilFunc := by
    unfold repRow
    rw [List.drop_append, List.drop_replicate, List.drop_replicate]
    simp
    omega
  unfold splice
  rw [List.length_replicate, e1, e2, ← List.append_assoc]
  unfold repRow
  rw [List.replicate_append_replicate]
theorem repRow_zero (x : Value) (N : Nat) : madeCells #[.nilFunc] N = (repRow x N 0).toArray := by
  have := toList_madeCells_one (.nilFunc) N
  rw [← Array.toList_inj, this]
  simp [repRow]
theorem repRow_full (x : Value) (N : Nat) : repRow x N N = List.replicate N x := by simp [repRow]
set_option maxHeartbeats 600000 in
theorem repeat_any (b N fn : Nat) (caps : Array Value) (w : World) (hb : At w b (FV fn caps)) (hN : N ≤ 1000) :
    Calls Try.prog 147 #[.slice (some ⟨b, 0, none⟩) 1 1, .int .i64 N] w fun (r : Ending) w' => ∃ g, r = Ending.returned (.slice (some ⟨g, 0, none⟩) N N) ∧ w.heap.size ≤ g ∧ g < w'.heap.size ∧ (∀ j, j < N → w'.cell? ⟨g, j, none⟩ = some (FV fn caps)) ∧ Below w.heap.size w w' := by
  have HBb := hid hb
  have hmk := run_make_row' (P := Try.prog) 103 63 .nilFunc 8 Try.underlying103 infoSwap rfl .i64 .i64 N (by omega) (by omega)
  have hM := hid (fun W => mul_any N W hN)
  have w1 : IntKind.u64.wrap (N : Int) = (N : Int) := by rw [IntKind.wrap_u64]; omega
  have w2 : IntKind.i64.wrap (N : Int) = (N : Int) := IntWalk.i64_in _ (by omega)
  have hN0 : decide ((N : Int) < 0) = false := by simp
  have hN9 : decide ((9223372036854775807 : Int) < (N : Int)) = false := by simp; omega
  have HB0 : Hid (∀ x, (∀ P : World, P = w.alloc (.cells (madeCells #[.nilFunc] N) 63) → P.heap[w.heap.size]? = some (.cells (repRow x N 0).toArray 63 (0, 0)))) := hid (by rintro x P rfl; rw [← repRow_zero]; exact heap_alloc_new w _)
  have HC0 : Hid ((w.alloc (.cells (madeCells #[.nilFunc] N) 63)).cell? ⟨b, 0, none⟩ = some (FV fn caps)) := hid (hb.alloc _).1
  have hNb : Nat.min 1 N ≤ N := Nat.min_le_right _ _
  clear hb
  obtain ⟨x, hx⟩ : ∃ x, FV fn caps = x := ⟨_, rfl⟩
  have h1c : x.oneCell' = true := by rw [← hx]; rfl
  rw [hx] at HC0 HBb ⊢
  clear hx
  go_enter Try.func147, Try.ntmps147
  go_wp2_with (first | (go_at_call 167; refine (hM.out _).mono ?_; rintro e w' ⟨rfl, rfl⟩) | (with_reducible refine wpList_copy_splice (o := ⟨some 33, _, _, _, _, _⟩) rfl (.tmp 31) (.tmp 32) 103 103 rfl 63 Try.underlying103 sizeSwap _ _ N N 1 1 rfl rfl w.heap.size 0 (repRow x N 0) 63 ?_ (List.replicate (Nat.min 1 N) x) ?_ ?_ ?_ ?_ w.heap.size w ?_ ?_ ?_))
  · exact HB0.out x _ rfl
  · simp
  · intro _ j v hj
    rw [List.getElem?_replicate] at hj
    split at hj
    · have hj0 : j = 0 := by have : Nat.min 1 N ≤ 1 := Nat.min_le_left 1 N; omega
      subst hj0
      simp only [Option.some.injEq] at hj
      subst hj
      exact HC0.out
    · cases hj
  · rw [repRow_length _ (Nat.zero_le _), List.length_replicate]; omega
  · intro v hv
    rw [List.eq_of_mem_replicate hv]; exact h1c
  · exact below_alloc (Below.refl _ w) _
  · exact Nat.le_refl _
  · intro w' hG hB
    have HG : Hid (Blk w' w.heap.size 63 (repRow x N (Nat.min 1 N)).toArray) := hid (by have := hG.out; rw [repRow_splice x (Nat.zero_le _) _ (by omega), Nat.zero_add] at this; exact this)
    have HBw := hid hB
    try rw [List.length_replicate]
    have HMin : Hid (Nat.min 1 N = N ∨ 1 ≤ Nat.min 1 N) := hid (by rcases Nat.eq_zero_or_pos N with h | h; (left; subst h; rfl); (right; exact Nat.le_min.2 ⟨Nat.le_refl _, h⟩))
    obtain ⟨n0, hn0⟩ : ∃ n, Nat.min 1 N = n := ⟨_, rfl⟩
    rw [hn0] at HG HMin hNb ⊢
    clear hG hB hmk hM hN0 hN9 hn0 w1 w2 HB0 HC0
    go_wp2
    go_loopw [8] (fun i wr => ∃ n : Nat, n ≤ N ∧ i = .int .i64 n ∧ Hid (n = N ∨ 1 ≤ n) ∧ Blk wr w.heap.size 63 (repRow x N n).toArray ∧ Below w.heap.size w wr) (fun i _ => N - (intOf i).toNat)
    case atStart => exact ⟨n0, hNb, rfl, HMin, HG.out, HBw.out⟩
    case round =>
      obtain ⟨n, hn, rfl, HP, hg, hb⟩ := hrel
      have HG1 := hid hg
      have HB1 := hid hb
      clear hg hb HG HBw HMin
      by_cases hlt : n < N
      · have hn1 : 1 ≤ n := by rcases HP.out with h | h <;> omega
        have hni : (n : Int) ≤ (N : Int) := by omega
        obtain ⟨c, hc⟩ : ∃ c, Nat.min n (N - n) = c := ⟨_, rfl⟩
        have hc1 : c ≤ n := by rw [← hc]; exact Nat.min_le_left _ _
        have hc2 : c ≤ N - n := by rw [← hc]; exact Nat.min_le_right _ _
        have hc3 : 1 ≤ c := by rw [← hc]; exact Nat.le_min.2 ⟨hn1, by omega⟩
        have HC := hid hc
        clear hc
        go_wp2_with fail
        have hni2 : (n : Int) < (N : Int) := by omega
        have hNn : ¬ N = n := by omega
        have HSrc : Hid (∀ (W : World), Blk W w.heap.size 63 (repRow x N n).toArray → ∀ j v, (List.replicate c x)[j]? = some v → W.cell? ((⟨w.heap.size, 0, none⟩ : Addr).add j) = some v) := hid (by
          intro W hW j v hj
          rw [Go.WideShapes.add_plain, Nat.zero_add, hW.cell]
          rw [List.getElem?_replicate] at hj
          split at hj
          · simp only [Option.some.injEq] at hj
            subst hj
            unfold repRow
            rw [List.getElem?_toArray, List.getElem?_append_left (by simp; omega), List.getElem?_replicate, if_pos (by omega)]
          · cases hj)
        have HLen : Hid (n + (List.replicate c x).length ≤ (repRow x N n).length) := hid (by rw [repRow_length x hn, List.length_replicate]; omega)
        have HOne : Hid (∀ v ∈ List.replicate c x, v.oneCell' = true) := hid (fun v hv => by rw [List.eq_of_mem_replicate hv]; exact h1c)
        have HCl : Hid ((List.replicate c x).length = Nat.min n (N - n)) := hid (by rw [List.length_replicate]; exact HC.out.symm)
        have HSp : Hid (splice (repRow x N n) n (List.replicate c x) = repRow x N (n + c)) := hid (repRow_splice x hn c hc2)
        have HLc : Hid ((List.replicate c x).length = c) := hid List.length_replicate
        obtain ⟨cs, hcs⟩ : ∃ cs, List.replicate c x = cs := ⟨_, rfl⟩
        rw [hcs] at HSrc HLen HOne HCl HSp HLc
        obtain ⟨rw_, hrw⟩ : ∃ r, repRow x N n = r := ⟨_, rfl⟩
        rw [hrw] at HSrc HLen HSp HG1
        clear hcs hrw
        go_region_law ((with_reducible refine step_copy_splice (o := ⟨some 45, _, _, _, _, _⟩) rfl (.tmp 41) (.tmp 44) 103 103 rfl 63 Try.underlying103 sizeSwap (some ⟨w.heap.size, n, none⟩) (some ⟨w.heap.size, 0, none⟩) (N - n) (N - n) n N ?hd ?hs w.heap.size n rw_ 63 ?h1 cs HCl.out ?h3 HLen.out HOne.out w.heap.size w ?h6 (Nat.le_refl _) ?h8); (case hd => go_simp); (case hs => go_simp); (case h1 => exact HG1.out); (case h3 => exact fun _ => ⟨rfl, _, rfl, HSrc.out _ HG1.out⟩); (case h6 => exact HB1.out.drew); intro w4 hg4 hb4)
        have HG4 : Hid (Blk w4 w.heap.size 63 (repRow x N (n + c)).toArray) := hid (by have := hg4.out; rw [HSp.out] at this; exact this)
        have HB4 := hid hb4
        have hLc := HLc.out
        have hcle : n + c ≤ N := by omega
        have hw1 : IntKind.i64.wrap ((n : Int) + (c : Int)) = ((n + c : Nat) : Int) := by rw [IntWalk.i64_in _ (by omega)]; omega
        clear hg4 hb4
        try go_simp
        clear hLc hw1
        try go_wp2
        go_roundw
        case rel => exact ⟨n + c, hcle, by go_num, hid (.inr (by omega)), HG4.out, HB4.out⟩
        case measure => simp [intOf]; omega
      · obtain rfl : n = N := by omega
        go_wp2
        go_ret
        refine ⟨w.heap.size, rfl, Nat.le_refl _, HG1.out.lt, fun j hj => ?_, HB1.out⟩
        rw [HG1.out.cell, repRow_full]
        simp [hj]
end Go.Proofs.Ytpdoheagfjeefaa
namespace Go.Proofs.Ytpdoheagfjeefaa
open Go.RowKit Go.WideShapes Go.ChangeShapes
set_option linter.unusedVariables false

theorem cloneL_any (v : Value) (xs : List Int) (w : World) (hv : Ints w v xs) (hl : xs.length ≤ 1048576) :
    Calls Try.prog 124 #[v] w fun (r : Ending) w' => ∃ u, r = Ending.returned u ∧ OwnI 3 w' w.heap.size u xs ∧ Below w.heap.size w w' := by
  have HV := hid hv
  obtain ⟨A, c, rfl, hA⟩ := hv
  have HA := hid hA
  clear hA
  have qT : ∀ (w : World) (a : Option Addr) (n c n' c' : Nat), (binOp .eql 24 (.slice a n c) (.slice none n' c')).run Try.prog w = .ok (.bool a.isNone) w := fun w a n c n' c' => Lib.run_eql_slice_nil w _ _ a n c n' c' Try.underlying24
  rcases A with _ | ⟨b, o, pt⟩
  · by_cases hx : xs = []
    · subst hx
      go_enter Try.func124, Try.ntmps124
      go_wp2
      go_ret
      exact ⟨_, rfl, OwnI.nil _ _ _, Below.refl _ _⟩
    · obtain ⟨b, o, h, -⟩ := HA.out hx
      cases h
  · skip
    go_enter Try.func124, Try.ntmps124
    go_wp2_with (at_builtin; refine wpList_append_ints rfl _ _ 24 3 rfl Try.underlying24 Try.info3 w.heap.size _ [] rfl (OwnI.empty 3 w) _ xs rfl (HV.out.alloc _) (by simpa using hl) (by simp) ?_; rintro u w1 ho hb)
    go_ret
    exact ⟨_, rfl, by simpa using ho, (below_alloc (Below.refl _ w) _).trans hb⟩
set_option maxHeartbeats 1600000 in
theorem swapsDown_any (v : Value) (xs : List Int) (f t : Nat) (w : World) (hv : Ints w v xs) (hg : good xs = true) (ht : xs.length = t + 1) (hf : f ≤ t) :
    Calls Try.prog 140 #[.agg #[v], .int .i64 f] w fun (r : Ending) w' => ∃ fn caps, r = Ending.returned (.func (.func fn) #[] caps) ∧ SwapG fn caps xs (FP w.heap.size v w') w' (downL xs t (t - f)) ∧ Below w.heap.size w w' := by
  have HV := hid hv
  have HG := hid hg
  have hl10 := (good_length hg).2
  have HVB := hid (ints_block hv hg)
  have HT := hid ht
  have ht9 : t ≤ 9 := by omega
  have e1 : (xs.length : Int) - 2 = (t : Int) - 1 := by omega
  obtain ⟨A, c, rfl, -⟩ := hv
  clear hg ht
  go_enter Try.func140, Try.ntmps140
  have HB := hid (below_alloc (Below.refl _ w) (.cells #[(.slice A xs.length c)] 26))
  have A0 := hid (At.newAt w (.slice A xs.length c) 26 w.heap.size (by simp))
  go_wp2
  clear e1
  go_loopw [5, 6] (fun u i wr => ∃ k : Nat, k ≤ t - f ∧ i = .int .i64 ((t : Int) - 1 - (k : Int)) ∧ OwnG 63 xs (.slice A xs.length c) (w.heap.size + 1) wr u (fun i a => togL xs a (t - 1 - i)) k ∧ Below w.heap.size w wr ∧ At wr w.heap.size (.slice A xs.length c)) (fun _ i _ => (intOf i + 1 - (f : Int)).toNat)
  case atStart => exact ⟨0, Nat.zero_le _, by simp, OwnG.nil _ _ _ _ _ _, HB.out, A0.out⟩
  case round =>
    obtain ⟨k, hk, rfl, ho, hb, ha⟩ := hrel
    have HO := hid ho
    have HB1 := hid hb
    have HA1 := hid ha
    obtain ⟨uA, uc, rfl⟩ := ho.shape
    have hbx := ha.1
    have hz : w.heap.size + 1 ≤ wr.heap.size := ha.2
    clear ho hb ha
    by_cases hlt : k < t - f
    · obtain ⟨p, hp⟩ : ∃ p, t - 1 - k = p := ⟨_, rfl⟩
      have hp2 : (t : Int) - 1 - (k : Int) = (p : Int) := by omega
      have HP := hid hp
      have HP2 := hid hp2
      have hp3 : f ≤ p := by omega
      have hp4 : p < 10 := by omega
      have hp5 : p + 1 < xs.length := by have := HT.out; omega
      rw [hp2]
      clear hp hp2
      go_wp2_with fail
      clear hbx
      refine (swapAt_any (.slice A xs.length c) xs p _ (HV.out.below HB1.out) HG.out hp5).mono ?_
      rintro e w2 ⟨fn, caps, rfl, hS, hb2⟩
      have HS : Hid (SwapG fn caps xs (FP wr.heap.size (.slice A xs.length c) w2) w2 ((fun i a => togL xs a (t - 1 - i)) k)) := hid (by show SwapG fn caps xs _ w2 (fun a => togL xs a (t - 1 - k)); rw [HP.out]; exact hS)
      have HO2 := hid (HO.out.below hb2)
      have HB2 := hid (below_to HB1.out hb2)
      have HA2 := hid (HA1.out.below hb2)
      have hz2 : w.heap.size + 1 ≤ w2.heap.size := HA2.out.2
      have HFP : Hid (∀ k', FP wr.heap.size (.slice A xs.length c) w2 k' → (w.heap.size + 1 ≤ k' ∨ (Value.slice A xs.length c).ownBlock = some k') ∧ (Value.slice uA k uc).ownBlock ≠ some k') := hid (by
        obtain ⟨us, h1, h2, h3⟩ := HO.out
        rintro k' (h | h)
        · refine ⟨.inl (by omega), fun e => ?_⟩
          have := h2.lt k' e
          omega
        · refine ⟨.inr h, fun e => ?_⟩
          have := h2.lt k' e
          have := HVB.out k' h
          omega)
      clear hS hb2
      go_wp2_with (at_builtin; refine wpList_append_sw rfl _ _ 103 63 rfl Try.underlying103 infoSwap xs (.slice A xs.length c) (w.heap.size + 1) _ (fun i a => togL xs a (t - 1 - i)) k fn caps _ rfl HO2.out HS.out HFP.out rfl rfl (by omega) hz2 ?_; rintro u3 w3 ho3 hb3)
      go_roundw
      case rel => exact ⟨k + 1, by omega, (by have := HP2.out; first | (congr 1; omega) | (simp; omega)), ho3, HB2.out.trans (hb3.mono (by omega)), HA2.out.keep hb3 (by omega)⟩
      case measure => first | (simp [intOf]; done) | (simp [intOf]; have := HP2.out; omega)
    · obtain rfl : k = t - f := by omega
      have e2 : (t : Int) - 1 - ((t - f : Nat) : Int) = (f : Int) - 1 := by omega
      rw [e2]
      have hvB : ∀ k', (Value.slice A xs.length c).ownBlock = some k' → k' < wr.heap.size := fun k' h => by have := HVB.out k' h; have := HB1.out.size; omega
      have HL := hid (HO.out.lst hvB)
      have HvB := hid hvB
      clear hbx hvB e2
      go_wp2_with fail
      refine (inTurn_any _ (.slice A xs.length c) xs (w.heap.size + 1) _ (t - f) _ HL.out hz HvB.out (by omega) (fun j hj a ha => ha.tog (by have := HT.out; omega))).mono ?_
      rintro e w2 ⟨fn, caps, rfl, hS, hb2⟩
      have HS := hid (hS.base (Nat.le_succ w.heap.size) (fun k' h => Nat.lt_of_lt_of_le (HvB.out k' h) hb2.size))
      have HB2 := hid (below_to HB1.out hb2)
      clear hS hb2
      go_wp2
      go_ret
      exact ⟨fn, caps, rfl, HS.out, HB2.out⟩
theorem swapsUp_at (v : Value) (xs : List Int) (K : Nat) (z : Int) (hz : z = (K : Int) - 1) (w : World) (hv : Ints w v xs) (hg : good xs = true) (hK : K + 1 ≤ xs.length) :
    Calls Try.prog 137 #[.agg #[v], .int .i64 z] w fun (r : Ending) w' => ∃ fn caps, r = Ending.returned (.func (.func fn) #[] caps) ∧ SwapG fn caps xs (FP w.heap.size v w') w' (upL xs K) ∧ Below w.heap.size w w' := by
  subst hz; exact swapsUp_any v xs K w hv hg hK
set_option maxHeartbeats 1600000 in
theorem evacuation_any (v : Value) (xs : List Int) (w : World) (hv : Ints w v xs) (hg : good xs = true) :
    Calls Try.prog 78 #[.agg #[v]] w fun (r : Ending) w' => ∃ fn caps, r = Ending.returned (.func (.func fn) #[] caps) ∧ SwapG fn caps xs (FP w.heap.size v w') w' (evaL xs) ∧ Below w.heap.size w w' := by
  have HV := hid hv
  have HG := hid hg
  have hl1 := (good_length hg).1
  have hl10 := (good_length hg).2
  have HVB := hid (ints_block hv hg)
  obtain ⟨t, ht⟩ : ∃ t, xs.length = t + 1 := ⟨xs.length - 1, by omega⟩
  have HT := hid ht
  have HE : Hid (evaL xs = turnN (fun k => upL xs (t - k)) t) := hid (by funext ws; unfold evaL; rw [show xs.length - 1 = t by omega])
  have ht9 : t ≤ 9 := by omega
  have e1 : (xs.length : Int) - 2 = (t : Int) - 1 := by omega
  obtain ⟨A, c, rfl, -⟩ := hv
  clear hg ht
  go_enter Try.func78, Try.ntmps78
  have HB := hid (below_alloc (Below.refl _ w) (.cells #[(.slice A xs.length c)] 26))
  have A0 := hid (At.newAt w (.slice A xs.length c) 26 w.heap.size (by simp))
  go_wp2
  clear e1
  go_loopw [3, 4] (fun u i wr => ∃ k : Nat, k ≤ t ∧ i = .int .i64 ((t : Int) - 1 - (k : Int)) ∧ OwnG 63 xs (.slice A xs.length c) (w.heap.size + 1) wr u (fun k => upL xs (t - k)) k ∧ Below w.heap.size w wr ∧ At wr w.heap.size (.slice A xs.length c)) (fun _ i _ => (intOf i + 1).toNat)
  case atStart => exact ⟨0, Nat.zero_le _, by simp, OwnG.nil _ _ _ _ _ _, HB.out, A0.out⟩
  case round =>
    obtain ⟨k, hk, rfl, ho, hb, ha⟩ := hrel
    have HO := hid ho
    have HB1 := hid hb
    have HA1 := hid ha
    obtain ⟨uA, uc, rfl⟩ := ho.shape
    have hbx := ha.1
    have hz : w.heap.size + 1 ≤ wr.heap.size := ha.2
    clear ho hb ha
    by_cases hlt : k < t
    · obtain ⟨p, hp⟩ : ∃ p, t - 1 - k = p := ⟨_, rfl⟩
      have hp2 : (t : Int) - 1 - (k : Int) = (p : Int) := by omega
      have HP2 := hid hp2
      have HPk := hid (show p + 1 = t - k by omega)
      have hp4 : p < 10 := by omega
      have hp5 : p + 1 + 1 ≤ xs.length := by have := HT.out; omega
      rw [hp2]
      clear hp hp2
      go_wp2_with fail
      clear hbx
      refine (swapsUp_at (.slice A xs.length c) xs (p + 1) (p : Int) (by omega) _ (HV.out.below HB1.out) HG.out hp5).mono ?_
      rintro e w2 ⟨fn, caps, rfl, hS, hb2⟩
      have HS : Hid (SwapG fn caps xs (FP wr.heap.size (.slice A xs.length c) w2) w2 ((fun k => upL xs (t - k)) k)) := hid (by show SwapG fn caps xs _ w2 (upL xs (t - k)); rw [← HPk.out]; exact hS)
      have HO2 := hid (HO.out.below hb2)
      have HB2 := hid (below_to HB1.out hb2)
      have HA2 := hid (HA1.out.below hb2)
      have hz2 : w.heap.size + 1 ≤ w2.heap.size := HA2.out.2
      have HFP : Hid (∀ k', FP wr.heap.size (.slice A xs.length c) w2 k' → (w.heap.size + 1 ≤ k' ∨ (Value.slice A xs.length c).ownBlock = some k') ∧ (Value.slice uA k uc).ownBlock ≠ some k') := hid (by
        obtain ⟨us, h1, h2, h3⟩ := HO.out
        rintro k' (h | h)
        · refine ⟨.inl (by omega), fun e => ?_⟩
          have := h2.lt k' e
          omega
        · refine ⟨.inr h, fun e => ?_⟩
          have := h2.lt k' e
          have := HVB.out k' h
          omega)
      clear hS hb2
      go_wp2_with (at_builtin; refine wpList_append_sw rfl _ _ 103 63 rfl Try.underlying103 infoSwap xs (.slice A xs.length c) (w.heap.size + 1) _ (fun k => upL xs (t - k)) k fn caps _ rfl HO2.out HS.out HFP.out rfl rfl (by omega) hz2 ?_; rintro u3 w3 ho3 hb3)
      go_roundw
      case rel => exact ⟨k + 1, by omega, (by have := HP2.out; first | (congr 1; omega) | (simp; omega)), ho3, HB2.out.trans (hb3.mono (by omega)), HA2.out.keep hb3 (by omega)⟩
      case measure => first | (simp [intOf]; done) | (simp [intOf]; have := HP2.out; omega)
    · obtain rfl : k = t := by omega
      have e2 : (k : Int) - 1 - (k : Int) = -1 := by omega
      rw [e2]
      have hvB : ∀ k', (Value.slice A xs.length c).ownBlock = some k' → k' < wr.heap.size := fun k' h => by have := HVB.out k' h; have := HB1.out.size; omega
      have HL := hid (HO.out.lst hvB)
      have HvB := hid hvB
      clear hbx hvB e2
      go_wp2_with fail
      refine (inTurn_any _ (.slice A xs.length c) xs (w.heap.size + 1) _ k _ HL.out hz HvB.out (by omega) (fun j hj a ha => ha.up (by have := HT.out; omega))).mono ?_
      rintro e w2 ⟨fn, caps, rfl, hS, hb2⟩
      have HS := hid (hS.base (Nat.le_succ w.heap.size) (fun k' h => Nat.lt_of_lt_of_le (HvB.out k' h) hb2.size))
      have HB2 := hid (below_to HB1.out hb2)
      clear hS hb2
      go_wp2
      go_ret
      exact ⟨fn, caps, rfl, by rw [HE.out]; exact HS.out, HB2.out⟩
set_option maxHeartbeats 1600000 in
theorem coevacuation_any (v : Value) (xs : List Int) (w : World) (hv : Ints w v xs) (hg : good xs = true) :
    Calls Try.prog 81 #[.agg #[v]] w fun (r : Ending) w' => ∃ fn caps, r = Ending.returned (.func (.func fn) #[] caps) ∧ SwapG fn caps xs (FP w.heap.size v w') w' (coeL xs) ∧ Below w.heap.size w w' := by
  have HV := hid hv
  have HG := hid hg
  have hl1 := (good_length hg).1
  have hl10 := (good_length hg).2
  have HVB := hid (ints_block hv hg)
  obtain ⟨t, ht⟩ : ∃ t, xs.length = t + 1 := ⟨xs.length - 1, by omega⟩
  have HT := hid ht
  have HE : Hid (coeL xs = turnN (fun k => downL xs t (t - k)) t) := hid (by funext ws; unfold coeL; rw [show xs.length - 1 = t by omega])
  have ht9 : t ≤ 9 := by omega
  have e1 : (xs.length : Int) - 1 = (t : Int) := by omega
  obtain ⟨A, c, rfl, -⟩ := hv
  clear hg ht
  go_enter Try.func81, Try.ntmps81
  have HB := hid (below_alloc (Below.refl _ w) (.cells #[(.slice A xs.length c)] 26))
  have A0 := hid (At.newAt w (.slice A xs.length c) 26 w.heap.size (by simp))
  go_wp2
  clear e1
  go_loopw [3, 9] (fun u i wr => ∃ k : Nat, k ≤ t ∧ i = .int .i64 (k : Int) ∧ OwnG 63 xs (.slice A xs.length c) (w.heap.size + 1) wr u (fun k => downL xs t (t - k)) k ∧ Below w.heap.size w wr ∧ At wr w.heap.size (.slice A xs.length c)) (fun _ i _ => t - (intOf i).toNat)
  case atStart => exact ⟨0, Nat.zero_le _, rfl, OwnG.nil _ _ _ _ _ _, HB.out, A0.out⟩
  case round =>
    obtain ⟨k, hk, rfl, ho, hb, ha⟩ := hrel
    have HO := hid ho
    have HB1 := hid hb
    have HA1 := hid ha
    obtain ⟨uA, uc, rfl⟩ := ho.shape
    have hbx := ha.1
    have hz : w.heap.size + 1 ≤ wr.heap.size := ha.2
    clear ho hb ha
    by_cases hlt : k < t
    · go_wp2_with fail
      clear hbx
      refine (swapsDown_any (.slice A xs.length c) xs k t _ (HV.out.below HB1.out) HG.out HT.out (by omega)).mono ?_
      rintro e w2 ⟨fn, caps, rfl, hS, hb2⟩
      have HS : Hid (SwapG fn caps xs (FP wr.heap.size (.slice A xs.length c) w2) w2 ((fun k => downL xs t (t - k)) k)) := hid hS
      have HO2 := hid (HO.out.below hb2)
      have HB2 := hid (below_to HB1.out hb2)
      have HA2 := hid (HA1.out.below hb2)
      have hz2 : w.heap.size + 1 ≤ w2.heap.size := HA2.out.2
      have HFP : Hid (∀ k', FP wr.heap.size (.slice A xs.length c) w2 k' → (w.heap.size + 1 ≤ k' ∨ (Value.slice A xs.length c).ownBlock = some k') ∧ (Value.slice uA k uc).ownBlock ≠ some k') := hid (by
        obtain ⟨us, h1, h2, h3⟩ := HO.out
        rintro k' (h | h)
        · refine ⟨.inl (by omega), fun e => ?_⟩
          have := h2.lt k' e
          omega
        · refine ⟨.inr h, fun e => ?_⟩
          have := h2.lt k' e
          have := HVB.out k' h
          omega)
      clear hS hb2
      go_wp2_with (at_builtin; refine wpList_append_sw rfl _ _ 103 63 rfl Try.underlying103 infoSwap xs (.slice A xs.length c) (w.heap.size + 1) _ (fun k => downL xs t (t - k)) k fn caps _ rfl HO2.out HS.out HFP.out rfl rfl (by omega) hz2 ?_; rintro u3 w3 ho3 hb3)
      go_roundw
      case rel => exact ⟨k + 1, by omega, by go_num, ho3, HB2.out.trans (hb3.mono (by omega)), HA2.out.keep hb3 (by omega)⟩
      case measure => simp [intOf]; omega
    · obtain rfl : k = t := by omega
      have hvB : ∀ k', (Value.slice A xs.length c).ownBlock = some k' → k' < wr.heap.size := fun k' h => by have := HVB.out k' h; have := HB1.out.size; omega
      have HL := hid (HO.out.lst hvB)
      have HvB := hid hvB
      clear hbx hvB
      go_wp2_with fail
      refine (inTurn_any _ (.slice A xs.length c) xs (w.heap.size + 1) _ k _ HL.out hz HvB.out (by omega) (fun j hj a ha => ha.down (by have := HT.out; omega) (by omega))).mono ?_
      rintro e w2 ⟨fn, caps, rfl, hS, hb2⟩
      have HS := hid (hS.base (Nat.le_succ w.heap.size) (fun k' h => Nat.lt_of_lt_of_le (HvB.out k' h) hb2.size))
      have HB2 := hid (below_to HB1.out hb2)
      clear hS hb2
      go_wp2
      go_ret
      exact ⟨fn, caps, rfl, by rw [HE.out]; exact HS.out, HB2.out⟩
theorem FP.up {B B' : Nat} {v : Value} {w w' : World} (hB : B' ≤ B) (hs : w.heap.size ≤ w'.heap.size) (k : Nat) (h : FP B v w k) : FP B' v w' k := by
  rcases h with h | h
  · exact .inl ⟨by omega, by omega⟩
  · exact .inr h
set_option maxHeartbeats 1600000 in
theorem promotions_any (v : Value) (xs : List Int) (T : Int) (w : World) (hv : Ints w v xs) (hg : good xs = true) (h1 : -100 ≤ T) (h2 : T ≤ 100) :
    Calls Try.prog 91 #[.agg #[v], .int .i64 T] w fun (r : Ending) w' => ∃ fn caps, r = Ending.returned (.func (.func fn) #[] caps) ∧ SwapG fn caps xs (FP w.heap.size v w') w' (proL xs T) ∧ Below w.heap.size w w' := by
  have HV := hid hv
  have HG := hid hg
  have hl1 := (good_length hg).1
  have hl10 := (good_length hg).2
  have HVB := hid (ints_block hv hg)
  obtain ⟨t, ht⟩ : ∃ t, xs.length = t + 1 := ⟨xs.length - 1, by omega⟩
  have HT := hid ht
  have HTl := hid (show xs.length - 1 = t by omega)
  have ht9 : t ≤ 9 := by omega
  by_cases hneg : T < 0
  · obtain ⟨N, hN⟩ : ∃ N : Nat, -T = (N : Int) := ⟨(-T).toNat, by omega⟩
    have hN1 : N ≤ 1000 := by omega
    have HE : Hid (proL xs T = turnN (fun _ => orp1 xs) N) := hid (by funext ws; rw [proL_neg hneg, hN, Int.toNat_natCast])
    have HD : Hid (orp1 xs = downL xs t (t - 0)) := hid (by funext ws; unfold orp1; rw [HTl.out]; rfl)
    obtain ⟨A, c, rfl, -⟩ := hv
    clear hg ht
    have hTN : T = -(N : Int) := by omega
    subst hTN
    have e3 : IntKind.i64.wrap (N : Int) = (N : Int) := IntWalk.i64_in _ (by omega)
    have e4 : IntKind.i64.wrap (-(-(N : Int))) = (N : Int) := by rw [Int.neg_neg]; exact e3
    go_enter Try.func91, Try.ntmps91
    have HB := hid (below_alloc (Below.refl _ w) (.cells #[(.slice A xs.length c)] 26))
    have A0 := hid (At.newAt w (.slice A xs.length c) 26 w.heap.size (by simp))
    have ebox0 := A0.out.1
    go_wp2_with fail
    clear ebox0
    refine (swapsDown_any (.slice A xs.length c) xs 0 t _ (HV.out.below HB.out) HG.out HT.out (Nat.zero_le _)).mono ?_
    rintro e w2 ⟨fn, caps, rfl, hS, hb2⟩
    have HS := hid hS
    have HB2 := hid (below_to HB.out hb2)
    have HA : Hid (At (w2.alloc (.cells #[FV fn caps] 63)) w2.heap.size (FV fn caps)) := hid (At.new _ _ _)
    have HS2 := hid (HS.out.below (below_alloc (Below.refl _ w2) (.cells #[FV fn caps] 63)))
    have HB3 := hid (below_alloc HB2.out (.cells #[FV fn caps] 63))
    clear hS hb2
    go_wp2_with fail
    refine (repeat_any w2.heap.size N fn caps _ HA.out hN1).mono ?_
    rintro e w3 ⟨g, rfl, hg1, hg2, hcs, hb3⟩
    have HB4 := hid (below_to HB3.out hb3)
    have hz0 : w.heap.size ≤ w3.heap.size := HB4.out.size
    have hvB : ∀ k', (Value.slice A xs.length c).ownBlock = some k' → k' < w3.heap.size := fun k' h => by have := HVB.out k' h; omega
    have HvB := hid hvB
    have hwg : w.heap.size ≤ g := Nat.le_trans HB3.out.size hg1
    have HL : Hid (LstG xs (FP w.heap.size (.slice A xs.length c) w3) w3 (.slice (some ⟨g, 0, none⟩) N N) (fun _ => orp1 xs) N) := hid ⟨_, _, rfl, fun j hj => ⟨g, 0, fn, caps, rfl, .inl ⟨hwg, hg2⟩, (by rw [Nat.zero_add]; exact hcs j hj), by
      have := (HS2.out.below hb3).mono (S' := FP w.heap.size (.slice A xs.length c) w3) (FP.up (by have := HB.out.size; omega) (by have := hb3.size; simp at this; omega)) (FP.lt hvB)
      rw [HD.out]; exact this⟩⟩
    clear hcs hb3 hvB
    go_wp2_with fail
    refine (inTurn_any _ (.slice A xs.length c) xs w.heap.size _ N _ HL.out hz0 HvB.out hN1 (fun j hj a ha => ha.orp1 hl1)).mono ?_
    rintro e w4 ⟨fn4, caps4, rfl, hS4, hb4⟩
    have HS4 := hid hS4
    have HB5 := hid (below_to HB4.out hb4)
    clear hS4 hb4
    go_wp2
    go_ret
    exact ⟨fn4, caps4, rfl, by rw [HE.out]; exact HS4.out, HB5.out⟩
  · obtain ⟨N, hN⟩ : ∃ N : Nat, T = (N : Int) := ⟨T.toNat, by omega⟩
    subst hN
    have hN1 : N ≤ 1000 := by omega
    have HE : Hid (proL xs (N : Int) = turnN (fun _ => pro1 xs) N) := hid (by funext ws; rw [proL_nat])
    have HD : Hid (pro1 xs = upL xs t) := hid (by funext ws; unfold pro1; rw [HTl.out])
    have e1 : (xs.length : Int) - 2 = (t : Int) - 1 := by omega
    obtain ⟨A, c, rfl, -⟩ := hv
    clear hg ht hneg
    go_enter Try.func91, Try.ntmps91
    have HB := hid (below_alloc (Below.refl _ w) (.cells #[(.slice A xs.length c)] 26))
    have A0 := hid (At.newAt w (.slice A xs.length c) 26 w.heap.size (by simp))
    have ebox0 := A0.out.1
    go_wp2_with fail
    clear ebox0 e1
    refine (swapsUp_any (.slice A xs.length c) xs t _ (HV.out.below HB.out) HG.out (by have := HT.out; omega)).mono ?_
    rintro e w2 ⟨fn, caps, rfl, hS, hb2⟩
    have HS := hid hS
    have HB2 := hid (below_to HB.out hb2)
    have HA : Hid (At (w2.alloc (.cells #[FV fn caps] 63)) w2.heap.size (FV fn caps)) := hid (At.new _ _ _)
    have HS2 := hid (HS.out.below (below_alloc (Below.refl _ w2) (.cells #[FV fn caps] 63)))
    have HB3 := hid (below_alloc HB2.out (.cells #[FV fn caps] 63))
    clear hS hb2
    go_wp2_with fail
    refine (repeat_any w2.heap.size N fn caps _ HA.out hN1).mono ?_
    rintro e w3 ⟨g, rfl, hg1, hg2, hcs, hb3⟩
    have HB4 := hid (below_to HB3.out hb3)
    have hz0 : w.heap.size ≤ w3.heap.size := HB4.out.size
    have hvB : ∀ k', (Value.slice A xs.length c).ownBlock = some k' → k' < w3.heap.size := fun k' h => by have := HVB.out k' h; omega
    have HvB := hid hvB
    have hwg : w.heap.size ≤ g := Nat.le_trans HB3.out.size hg1
    have HL : Hid (LstG xs (FP w.heap.size (.slice A xs.length c) w3) w3 (.slice (some ⟨g, 0, none⟩) N N) (fun _ => pro1 xs) N) := hid ⟨_, _, rfl, fun j hj => ⟨g, 0, fn, caps, rfl, .inl ⟨hwg, hg2⟩, (by rw [Nat.zero_add]; exact hcs j hj), by
      have := (HS2.out.below hb3).mono (S' := FP w.heap.size (.slice A xs.length c) w3) (FP.up (by have := HB.out.size; omega) (by have := hb3.size; simp at this; omega)) (FP.lt hvB)
      rw [HD.out]; exact this⟩⟩
    clear hcs hb3 hvB
    go_wp2_with fail
    refine (inTurn_any _ (.slice A xs.length c) xs w.heap.size _ N _ HL.out hz0 HvB.out hN1 (fun j hj a ha => ha.pro1 hl1)).mono ?_
    rintro e w4 ⟨fn4, caps4, rfl, hS4, hb4⟩
    have HS4 := hid hS4
    have HB5 := hid (below_to HB4.out hb4)
    clear hS4 hb4
    go_wp2
    go_ret
    exact ⟨fn4, caps4, rfl, by rw [HE.out]; exact HS4.out, HB5.out⟩
/-- what a closure makes of a list, which stays as it is -/
theorem swapped_any (q : Value) (xs ws : List Int) (fn : Nat) (caps : Array Value) (S : Nat → Prop) (f : List Int → List Int) (w : World) (hq : Ints w q ws) (hw : Lw xs.length ws) (hl : xs.length ≤ 10) (hS : SwapG fn caps xs S w f) :
    Calls Try.prog 77 #[q, .func (.func fn) #[] caps] w fun (r : Ending) w' => ∃ u, r = Ending.returned u ∧ OwnI 3 w' w.heap.size u (f ws) ∧ Below w.heap.size w w' := by
  have HQ := hid hq
  have HW := hid hw
  have HS := hid hS
  have hwl : ws.length ≤ 1048576 := by rw [hw.len]; omega
  clear hq hw hS
  go_enter Try.func77, Try.ntmps77
  go_wp2_with fail
  refine (cloneL_any _ ws _ HQ.out hwl).mono ?_
  rintro e w1 ⟨u, rfl, ho, hb⟩
  obtain ⟨uA, un, uc, rfl⟩ := ho.shape3
  have HO := hid ho
  have HB := hid hb
  have HUB := hid ho.blockLt
  have HR := hid ((HS.out.below hb).run w1 _ ws (fun _ _ => rfl) (ho.mono (Nat.zero_le _)) (fun k hk hs => by have := HS.out.lt k hs; have := ho.blockLt k hk; omega) HW.out)
  have eg := HS.out.ent
  clear ho hb
  go_wp2_with (go_at_fn fn; refine HR.out.mono ?_; rintro e w2 ⟨rfl, ho2, hg2⟩)
  have HO2 := hid (ho2.up (B' := w.heap.size) (fun k hk => (HUB.out k hk).1))
  have HB2 := hid (below_grown HB.out hg2 (fun k hk => (HUB.out k hk).1))
  clear ho2 hg2
  go_wp2
  go_ret
  exact ⟨_, rfl, HO2.out, HB2.out⟩
end Go.Proofs.Ytpdoheagfjeefaa
