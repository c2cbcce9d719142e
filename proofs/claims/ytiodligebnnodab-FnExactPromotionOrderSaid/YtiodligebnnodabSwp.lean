/- Toggles as closures: one toggle, toggles in turn. -/
import Derived.Test.YtiodligebnnodabLinS
import Derived.Laws.EntriesVeiled
import Derived.Lib.SliceRun
import Derived.Deep.AppendLies
import Derived.Shelf.Abstract
namespace Go.Proofs.Ytiodligebnnodab
open Go.RowKit Go.WideShapes Go.ChangeShapes
set_option linter.unusedVariables false

theorem OwnI.up {e : TypeId} {w : World} {B B' : Nat} {v : Value} {xs : List Int} (h : OwnI e w B v xs) (hB : ∀ k, v.ownBlock = some k → B' ≤ k) : OwnI e w B' v xs := by
  obtain ⟨h1, h2⟩ := h
  refine ⟨h1, ?_⟩
  rcases h2 with h2 | ⟨g, cap, cur, hv, hg, r⟩
  · exact .inl h2
  · exact .inr ⟨g, cap, cur, hv, hB g (by rw [hv]; rfl), r⟩
/-- a function value with what it captured -/
def FV (fn : Nat) (caps : Array Value) : Value := .func (.func fn) #[] caps
def PA (a : Nat) : Value := .pointer (some ⟨a, 0, none⟩)
/-- the function 'fn' with 'caps' turns a list of its caller's as 'f' does; it rests on the blocks of S -/
structure SwapG (fn : Nat) (caps : Array Value) (xs : List Int) (S : Nat → Prop) (W : World) (f : List Int → List Int) : Prop where
  ent : ∀ args w, (callFunc fn args).run Try.prog w = .ok (.enter fn args) w
  lt : ∀ k, S k → k < W.heap.size
  run : ∀ (w : World) (sl : Value) (ws : List Int), (∀ k, S k → w.heap[k]? = W.heap[k]?) → OwnI 3 w 0 sl ws → (∀ k, sl.ownBlock = some k → ¬ S k) → Lw xs.length ws →
    Calls Try.prog fn (#[sl] ++ caps) w fun r w' => r = .returned (.tuple #[]) ∧ OwnI 3 w' 0 sl (f ws) ∧ w.grownBy w' sl.ownBlock
theorem SwapG.mono {fn : Nat} {caps : Array Value} {xs : List Int} {S S' : Nat → Prop} {W : World} {f : List Int → List Int} (h : SwapG fn caps xs S W f) (hS : ∀ k, S k → S' k) (hlt : ∀ k, S' k → k < W.heap.size) : SwapG fn caps xs S' W f :=
  ⟨h.ent, hlt, fun w sl ws hk ho hd hw => h.run w sl ws (fun k hs => hk k (hS k hs)) ho (fun k hs hs2 => hd k hs (hS k hs2)) hw⟩
theorem SwapG.same {fn : Nat} {caps : Array Value} {xs : List Int} {S : Nat → Prop} {W W' : World} {f : List Int → List Int} (h : SwapG fn caps xs S W f) (hs : W.heap.size ≤ W'.heap.size) (hk : ∀ k, S k → W'.heap[k]? = W.heap[k]?) : SwapG fn caps xs S W' f :=
  ⟨h.ent, fun k hs' => Nat.lt_of_lt_of_le (h.lt k hs') hs, fun w sl ws hk2 ho hd hw => h.run w sl ws (fun k hs' => (hk2 k hs').trans (hk k hs')) ho hd hw⟩
theorem SwapG.below {fn : Nat} {caps : Array Value} {xs : List Int} {S : Nat → Prop} {W W' : World} {f : List Int → List Int} (h : SwapG fn caps xs S W f) (hb : Below W.heap.size W W') : SwapG fn caps xs S W' f :=
  h.same hb.size fun k hk => hb.block k (h.lt k hk)
/-- the blocks made since B, and the poset's own -/
def FP (B : Nat) (v : Value) (w : World) (k : Nat) : Prop := (B ≤ k ∧ k < w.heap.size) ∨ v.ownBlock = some k
/-- a slice of such functions that is read -/
def LstG (xs : List Int) (S : Nat → Prop) (w : World) (u : Value) (F : Nat → List Int → List Int) (m : Nat) : Prop :=
  ∃ A c, u = .slice A m c ∧ ∀ j, j < m → ∃ b o fn caps, A = some ⟨b, o, none⟩ ∧ S b ∧ w.cell? ⟨b, o + j, none⟩ = some (FV fn caps) ∧ SwapG fn caps xs S w (F j)
/-- a slice of such functions of the call's own -/
def OwnG (ts : TypeId) (xs : List Int) (v : Value) (B : Nat) (w : World) (u : Value) (F : Nat → List Int → List Int) (m : Nat) : Prop :=
  ∃ us : List Value, us.length = m ∧ w.ownsRow B ts 1 u m us ∧ ∀ j x, us[j]? = some x → ∃ fn caps S, x = FV fn caps ∧ SwapG fn caps xs S w (F j) ∧ ∀ k, S k → (B ≤ k ∨ v.ownBlock = some k) ∧ u.ownBlock ≠ some k
theorem OwnG.nil (ts : TypeId) (xs : List Int) (v : Value) (B : Nat) (w : World) (F : Nat → List Int → List Int) : OwnG ts xs v B w (.slice none 0 0) F 0 :=
  ⟨[], rfl, World.ownsRow_nil w B ts 1, fun j x h => by simp at h⟩
theorem OwnG.below {ts : TypeId} {xs : List Int} {v : Value} {B : Nat} {w w' : World} {u : Value} {F : Nat → List Int → List Int} {m : Nat} (h : OwnG ts xs v B w u F m) (hb : Below w.heap.size w w') : OwnG ts xs v B w' u F m := by
  obtain ⟨us, h1, h2, h3⟩ := h
  refine ⟨us, h1, ?_, fun j x hx => ?_⟩
  · by_cases hv : u.ownBlock = none
    · exact h2.kept (grown_of_below hb none) (.inl hv)
    · exact h2.kept (grown_of_below hb none) (.inr hv)
  · obtain ⟨fn, caps, S, e, hS, hk⟩ := h3 j x hx
    exact ⟨fn, caps, S, e, hS.below hb, hk⟩
theorem OwnG.shape {ts : TypeId} {xs : List Int} {v : Value} {B : Nat} {w : World} {u : Value} {F : Nat → List Int → List Int} {m : Nat} (h : OwnG ts xs v B w u F m) : ∃ A c, u = .slice A m c := by
  obtain ⟨us, h1, h2, h3⟩ := h
  rcases h2.2 with ⟨rfl, rfl⟩ | ⟨g, cap, cur, rfl, _⟩
  · exact ⟨none, 0, rfl⟩
  · exact ⟨_, cap, rfl⟩
theorem OwnG.lst {ts : TypeId} {xs : List Int} {v : Value} {B : Nat} {w : World} {u : Value} {F : Nat → List Int → List Int} {m : Nat} (h : OwnG ts xs v B w u F m) (hv : ∀ k, v.ownBlock = some k → k < w.heap.size) : LstG xs (FP B v w) w u F m := by
  have hlt : ∀ k, FP B v w k → k < w.heap.size := by
    rintro k (hk | hk)
    · exact hk.2
    · exact hv k hk
  obtain ⟨us, h1, h2, h3⟩ := h
  rcases Nat.eq_zero_or_pos m with h0 | h0
  · subst h0
    rcases h2.2 with ⟨rfl, _⟩ | ⟨g, cap, cur, rfl, _⟩
    · exact ⟨none, 0, rfl, fun j hj => by omega⟩
    · exact ⟨_, cap, rfl, fun j hj => by omega⟩
  · obtain ⟨g, cap, rfl, hB, hg⟩ := h2.form h0
    refine ⟨_, cap, rfl, fun j hj => ?_⟩
    have hx : us[j]? = some us[j] := List.getElem?_eq_getElem (by omega)
    obtain ⟨fn, caps, S, e, hS, hk⟩ := h3 j _ hx
    refine ⟨g, 0, fn, caps, rfl, .inl ⟨hB, hg⟩, ?_, hS.mono (fun k hs => ?_) hlt⟩
    · rw [Nat.zero_add, h2.cellAt j (by omega), hx, e]
    · rcases (hk k hs).1 with h | h
      · exact .inl ⟨h, hS.lt k hs⟩
      · exact .inr h
/-- 'out = append(out, f)' -/
theorem wpList_append_sw {P : Program} {w W : World} {ops : Array Oper} {rest : List Oper} {o : Oper} {a : Act} {Q : Exit → Act → World → Prop} (hgd : o.guard = none) (s x : Operand) (t e : TypeId)
    (ho : o.op = .call { callee := .builtin .append, args := #[s, x], argTypes := #[t, t] }) (ht : P.underlying t = some (.slice e)) (hinfo : (P.info? e).map (fun i => (i.zero, i.size, i.bytes)) = some (some .nilFunc, 1, 8))
    (xs : List Int) (v : Value) (B : Nat) (u : Value) (F : Nat → List Int → List Int) (m : Nat) (fn : Nat) (caps : Array Value) (S : Nat → Prop)
    (hs : a.eval s = u) (hown : OwnG e xs v B w u F m) (hnew : SwapG fn caps xs S w (F m)) (hS : ∀ k, S k → (B ≤ k ∨ v.ownBlock = some k) ∧ u.ownBlock ≠ some k)
    (hW : W = w.alloc (.cells #[FV fn caps] e)) (hx : a.eval x = .slice (some ⟨w.heap.size, 0, none⟩) 1 1) (hlen : m < 1048576) (hB : B ≤ w.heap.size)
    (h : ∀ v' w', OwnG e xs v B w' v' F (m + 1) → Below B w w' → wpList P ops Q rest (a.put o.dst v') w') : wpList P ops Q (o :: rest) a W := by
  subst hW
  obtain ⟨i0, hi, hz0, hz1, hz2⟩ := info_parts hinfo
  obtain ⟨us, h1, h2, h3⟩ := hown
  refine wpList_append_lies _ hgd s x t ho B e i0 .nilFunc 1 8 ht hi hz0 hz1 hz2 rfl (by decide) u m us hs (h2.alloc _) ⟨w.heap.size, 0, none⟩ 1 1 [FV fn caps] hx rfl ?_ ?_ (by decide) ?_ ?_ ?_ _ rfl ?_
  · intro j y hj
    match j, hj with
    | 0, hj =>
      simp only [List.getElem?_cons_zero, Option.some.injEq] at hj
      subst hj
      exact (Blk.new w e #[FV fn caps]).cell 0
    | j + 1, hj => simp at hj
  · intro y hy
    simp only [List.mem_singleton] at hy
    subst hy; rfl
  · unfold maxLen; omega
  · omega
  · simp; omega
  · intro g cap w' h6 h7 h8 h9
    have hb : Below B w (w.alloc (.cells #[FV fn caps] e)) := (Below.refl _ _).alloc hB _
    have hB2 : Below B w w' := hb.grown h7 (by simp; omega) fun k hk => (h2.lt k hk).1
    have hsz : w.heap.size ≤ w'.heap.size := hB2.size
    have hkeep : ∀ k, k < w.heap.size → u.ownBlock ≠ some k → w'.heap[k]? = w.heap[k]? := fun k hk hne =>
      (h7.block k (by simp; omega) (fun e => hne e.symm)).trans (Below.heap_alloc w _ k hk)
    have hgk : ∀ k, k < w.heap.size → u.ownBlock ≠ some k → (Value.slice (some ⟨g, 0, none⟩) (m + 1) cap).ownBlock ≠ some k := by
      intro k hk hne he
      simp only [Value.ownBlock, Option.some.injEq] at he
      subst he
      rcases h8 with h8 | h8
      · exact hne h8
      · simp at h8; omega
    refine h _ w' ⟨us ++ [FV fn caps], by simp [h1], h6, fun j y hy => ?_⟩ hB2
    rw [List.getElem?_append] at hy
    by_cases hj : j < us.length
    · rw [if_pos hj] at hy
      obtain ⟨fn', caps', S', e', hS', hk'⟩ := h3 j y hy
      exact ⟨fn', caps', S', e', hS'.same hsz fun k hs => hkeep k (hS'.lt k hs) (hk' k hs).2, fun k hs => ⟨(hk' k hs).1, hgk k (hS'.lt k hs) (hk' k hs).2⟩⟩
    · rw [if_neg hj] at hy
      rcases Nat.eq_zero_or_pos (j - us.length) with h0 | h0
      · rw [h0] at hy
        simp only [List.getElem?_cons_zero, Option.some.injEq] at hy
        subst hy
        have hjm : j = m := by omega
        subst hjm
        exact ⟨fn, caps, S, rfl, hnew.same hsz fun k hs => hkeep k (hnew.lt k hs) (hS k hs).2, fun k hs => ⟨(hS k hs).1, hgk k (hnew.lt k hs) (hS k hs).2⟩⟩
      · rw [List.getElem?_eq_none (by simp; omega)] at hy; cases hy
set_option maxHeartbeats 1600000 in
theorem swapAtC_any (v : Value) (xs : List Int) (a b i : Nat) (W : World) (S : Nat → Prop) (hv : Ints W v xs) (hg : good xs = true) (ha : At W a v) (hbb : At W b (.int .i64 i)) (hi : i + 1 < xs.length)
    (hSl : ∀ k, S k → k < W.heap.size) (hSa : S a) (hSb : S b) (hSv : ∀ k, v.ownBlock = some k → S k) : SwapG 74 #[PA a, PA b] xs S W (fun ws => togL xs ws i) := by
  refine ⟨Go.Proofs.enters_of Try.func74 (by kernel_rfl) rfl, hSl, ?_⟩
  intro w sl ws hb ho hd hw
  show Calls Try.prog 74 #[sl, .pointer (some ⟨a, 0, none⟩), .pointer (some ⟨b, 0, none⟩)] w fun r w' => r = .returned (.tuple #[]) ∧ OwnI 3 w' 0 sl (togL xs ws i) ∧ w.grownBy w' sl.ownBlock
  have hl10 := (good_length hg).2
  have hwl := hw.len
  have hx := hw.at (show i < xs.length by omega)
  have hy := hw.at hi
  obtain ⟨qA, qc, rfl, hqA⟩ := ho.shape
  obtain ⟨g, rfl, hgl, hgB⟩ := hqA (by intro h; simp [h] at hwl; omega)
  obtain ⟨x, hxe⟩ := Int.eq_ofNat_of_zero_le hx.1
  obtain ⟨y, hye⟩ := Int.eq_ofNat_of_zero_le hy.1
  rw [hxe] at hx
  rw [hye] at hy
  have hx2 : x < xs.length := by omega
  have hy2 : y < xs.length := by omega
  have ho' : w.ownsRow 0 3 1 (.slice (some ⟨g, 0, none⟩) ws.length qc) ws.length (ws.map (Value.int .i64)) := ho
  have HO := hid ho'
  have hil : i < ws.length := by omega
  have hml : i + 1 < ws.length := by omega
  have hg1 := ho'.cellAt i (by omega)
  have hg2 := ho'.cellAt (i + 1) (by omega)
  rw [List.getElem?_map, getD_eq ws i hil, hxe] at hg1
  rw [List.getElem?_map, getD_eq ws (i + 1) hml, hye] at hg2
  simp only [Option.map_some] at hg1 hg2
  have hf1 := ho'.frozenAt i
  have hf2 := ho'.frozenAt (i + 1)
  obtain ⟨A, c, rfl, hA⟩ := hv
  obtain ⟨b0, o, rfl, hbl, hc⟩ := hA (by intro h; simp [h] at hy2)
  have hcell := (World.cell?_of_block (a := ⟨b0, o + y, none⟩) (hb b0 (hSv b0 rfl))).trans (hc y hy2)
  have hr := row_lt hg hy2
  have hr10 := row_lt10 hg hy2
  have hT : ∀ R, (row xs y).testBit x = R → togL xs ws i = if R = true then ws else (ws.set i (y : Int)).set (i + 1) (x : Int) := by
    intro R hR
    unfold togL
    rw [hxe, hye, Int.toNat_natCast, Int.toNat_natCast, hR]
    unfold swapL
    rw [hxe, hye]
  obtain ⟨z, hz⟩ : ∃ z, row xs y = z := ⟨_, rfl⟩
  rw [hz] at hr hr10 hT
  rw [hr.1] at hcell
  obtain ⟨m, hm⟩ : ∃ m, i + 1 = m := ⟨_, rfl⟩
  have hmi : (i : Int) + 1 = (m : Int) := by omega
  rw [hm] at hg2 hf2 hT hml
  have wm1 : IntKind.i64.wrap ((i : Int) + 1) = (m : Int) := by rw [hmi]; exact IntWalk.i64_in _ (by omega)
  have wm2 : IntKind.i64.wrap (m : Int) = (m : Int) := IntWalk.i64_in _ (by omega)
  have hil' : (i : Int) < ws.length := by omega
  have hml' : (m : Int) < ws.length := by omega
  have hyl' : (y : Int) < xs.length := by omega
  have hm0 : m < 11 := by omega
  have him : i ≠ m := by omega
  have hba := (World.cell?_of_block (a := ⟨a, 0, none⟩) (hb a hSa)).trans ha.1
  have hbbc := (World.cell?_of_block (a := ⟨b, 0, none⟩) (hb b hSb)).trans hbb.1
  have hx64 : x < 64 := by omega
  have hbg : b ≠ g := fun e => hd g rfl (e ▸ hSb)
  have hgb : ¬ g = b := fun e => hbg e.symm
  obtain ⟨R, hR⟩ : ∃ R, z.testBit x = R := ⟨_, rfl⟩
  have HR := hid hR
  have HTT := hid (hT R hR)
  clear hA hc hg hw hx hy hxe hye hR hT hz hr ho ho' hwl hqA hm hi ha hbb hb hSl hSa hSb hSv hd
  go_enter Try.func74, Try.ntmps74
  go_wp2_with fail
  go_quiet ((go_at_call 67; exact Calls.quiet_of_same ((hasElement_any z x (by omega) hx64 _).mono fun _ _ ⟨a, b⟩ => ⟨a, b.symm⟩)))
  rw [HR.out]
  have HO1 : Hid ((w.drewN nq).ownsRow 0 3 1 (.slice (some ⟨g, 0, none⟩) ws.length qc) ws.length (ws.map (Value.int .i64))) := hid HO.out
  have HG1 : Hid (w.grownBy (w.drewN nq) (some g)) := hid ⟨rfl, rfl, rfl, Nat.le_refl _, fun _ _ _ => rfl⟩
  have hg1' : (w.drewN nq).cell? ⟨g, i, none⟩ = some (.int .i64 (x : Int)) := hg1
  have hg2' : (w.drewN nq).cell? ⟨g, m, none⟩ = some (.int .i64 (y : Int)) := hg2
  have hf1' : (w.drewN nq).frozen? ⟨g, i, none⟩ = false := hf1
  have hf2' : (w.drewN nq).frozen? ⟨g, m, none⟩ = false := hf2
  have hb' : (w.drewN nq).cell? ⟨b, 0, none⟩ = some (.int .i64 (i : Int)) := hbbc
  clear hg1 hg2 hf1 hf2 hbbc hba hcell
  cases R
  · have HTF : Hid (togL xs ws i = (ws.set i (y : Int)).set m (x : Int)) := hid (by have := HTT.out; simpa using this)
    obtain ⟨w1, hw1⟩ : ∃ w1, w.drewN nq = w1 := ⟨_, rfl⟩
    rw [hw1] at HO1 HG1 hg1' hg2' hf1' hf2' hb' ⊢
    have hY := hid (((HO1.out.stored i (.int .i64 (y : Int))).1.stored m (.int .i64 (x : Int))).1)
    clear hw1 HTT
    go_wp2_with fail
    go_region
    all_goals go_wp2
    all_goals go_end0
    all_goals refine ⟨rfl, ?_, ?_⟩
    · rw [HTF.out]
      have h := hY.out
      rw [← List.map_set, ← List.map_set] at h
      refine OwnI.drew ?_
      unfold OwnI
      simpa using h
    · exact grown_drew (grown_setCell (grown_setCell HG1.out i _) m _)
  · have HTF : Hid (togL xs ws i = ws) := hid (by have := HTT.out; simpa using this)
    clear HTT
    go_wp2
    go_end0
    exact ⟨rfl, by rw [HTF.out]; exact HO1.out, HG1.out⟩
theorem swapAt_any (v : Value) (xs : List Int) (i : Nat) (w : World) (hv : Ints w v xs) (hg : good xs = true) (hi : i + 1 < xs.length) :
    Calls Try.prog 70 #[.agg #[v], .int .i64 i] w fun (r : Ending) w' => ∃ fn caps, r = Ending.returned (.func (.func fn) #[] caps) ∧ SwapG fn caps xs (FP w.heap.size v w') w' (fun ws => togL xs ws i) ∧ Below w.heap.size w w' := by
  have HV := hid hv
  have HG := hid hg
  have hmf : ∀ (fn : Fn) (first cap : Array Value) (w : World), (Instr.makeFunc fn first cap).run Try.prog w = .ok (.func fn first cap) w := fun _ _ _ _ => rfl
  have hvl : ∀ k, v.ownBlock = some k → k < w.heap.size := by
    intro k hk
    obtain ⟨A, c, rfl, h⟩ := hv
    obtain ⟨b, o, rfl, hb, -⟩ := h (by have := (good_length hg).1; intro e; rw [e] at this; simp at this)
    simp only [Value.ownBlock, Option.some.injEq] at hk
    omega
  have HS : Hid (SwapG 74 #[PA w.heap.size, PA (w.heap.size + 1)] xs (FP w.heap.size v ((w.alloc (.cells #[v] 28)).alloc (.cells #[.int .i64 (i : Int)] 3))) ((w.alloc (.cells #[v] 28)).alloc (.cells #[.int .i64 (i : Int)] 3)) (fun ws => togL xs ws i)) :=
    hid (swapAtC_any v xs w.heap.size (w.heap.size + 1) i _ _ ((HV.out.alloc _).alloc _) HG.out ((At.new _ _ _).alloc _) (At.newAt _ _ _ _ (by simp)) hi
      (by rintro k (h | h); exact h.2; have := hvl k h; simp; omega) (.inl (by constructor <;> simp <;> omega)) (.inl (by constructor <;> simp <;> omega)) (fun k h => .inr h))
  have HB : Hid (Below w.heap.size w ((w.alloc (.cells #[v] 28)).alloc (.cells #[.int .i64 (i : Int)] 3))) := hid (below_alloc (below_alloc (Below.refl _ w) _) _)
  clear hv hg hvl
  go_enter Try.func70, Try.ntmps70
  go_wp2
  go_ret
  exact ⟨74, #[PA w.heap.size, PA (w.heap.size + 1)], rfl, HS.out, HB.out⟩
end Go.Proofs.Ytiodligebnnodab
