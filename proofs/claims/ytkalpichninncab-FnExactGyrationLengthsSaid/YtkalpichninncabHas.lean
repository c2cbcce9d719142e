/- Is a number in a list (the model's l1Has); an append that leaves another list of the call's own. -/
import Derived.Test.YtkalpichninncabSam
import Derived.Deep.AppendLies
namespace Go.Proofs.Ytkalpichninncab
open Go.RowKit Go.WideShapes Go.ChangeShapes
set_option linter.unusedVariables false

def hasL (xs : List Int) (n : Int) : Bool := decide (n ∈ xs)
theorem hasL_snoc (l : List Int) (y n : Int) : hasL (l ++ [y]) n = (hasL l n || n == y) := by
  unfold hasL
  rw [Bool.eq_iff_iff]
  simp
theorem Ints.takeK {w : World} {A : Option Addr} {n c : Nat} {l : List Int} (h : Ints w (.slice A n c) l) {k : Nat} (hk : k ≤ l.length) (c' : Nat) : Ints w (.slice A k c') (l.take k) := by
  obtain ⟨A', c1, e, hA⟩ := h
  injection e with e1 e2 e3
  subst e1
  refine ⟨A, c', by rw [List.length_take, Nat.min_eq_left hk], fun hne => ?_⟩
  obtain ⟨b, o, rfl, hb, hc⟩ := hA (by rintro rfl; simp at hne)
  refine ⟨b, o, rfl, hb, fun j hj => ?_⟩
  rw [List.length_take] at hj
  rw [hc j (by omega)]
  simp [List.getD, List.getElem?_take, show j < k by omega]
theorem Ints.dropK {w : World} {b o n c : Nat} {l : List Int} (h : Ints w (.slice (some ⟨b, o, none⟩) n c) l) {k : Nat} (hk : k ≤ l.length) (m c' : Nat) (hm : m = l.length - k) : Ints w (.slice (some ⟨b, o + k, none⟩) m c') (l.drop k) := by
  obtain ⟨A', c1, e, hA⟩ := h
  injection e with e1 e2 e3
  subst e1
  refine ⟨some ⟨b, o + k, none⟩, c', by rw [List.length_drop, hm], fun hne => ?_⟩
  obtain ⟨b', o', e, hb, hc⟩ := hA (by rintro rfl; simp at hne)
  injection e with e
  injection e with e4 e5
  subst e4; subst e5
  refine ⟨b, o + k, rfl, hb, fun j hj => ?_⟩
  rw [List.length_drop] at hj
  rw [Nat.add_assoc, hc (k + j) (by omega)]
  simp [List.getD]
theorem OwnI.capH {e : TypeId} {w : World} {B : Nat} {A : Option Addr} {n c : Nat} {xs : List Int} (h : OwnI e w B (.slice A n c) xs) : xs.length ≤ c := by
  rcases h.2 with ⟨h1, h2⟩ | ⟨g, cap, cur, h1, _, _, h2, _⟩
  · simp at h2; simp [h2]
  · injection h1 with _ _ h3; omega
theorem OwnI.nilOr {e : TypeId} {w : World} {B : Nat} {A : Option Addr} {n c : Nat} {xs : List Int} (h : OwnI e w B (.slice A n c) xs) : (A = none ∧ c = 0 ∧ xs = []) ∨ ∃ g, A = some ⟨g, 0, none⟩ ∧ B ≤ g ∧ g < w.heap.size ∧ ∀ j, j < xs.length → w.cell? ⟨g, j, none⟩ = some (.int .i64 (xs.getD j 0)) := by
  have h' : w.ownsRow B e 1 (.slice A n c) xs.length (xs.map (Value.int .i64)) := h
  rcases h.2 with ⟨h1, h2⟩ | ⟨g, cap, cur, h1, hB, hh, _⟩
  · injection h1 with e1 e2 e3
    exact .inl ⟨e1, e3, by simpa using h2⟩
  · injection h1 with e1 e2 e3
    subst e1; subst e2; subst e3
    refine .inr ⟨g, rfl, hB, (Array.getElem?_eq_some_iff.1 hh).1, fun j hj => ?_⟩
    rw [h'.cellAt j (by omega)]
    simp [List.getD, hj]
theorem Ints.dropK0 {w : World} {b n c : Nat} {l : List Int} (h : Ints w (.slice (some ⟨b, 0, none⟩) n c) l) {k : Nat} (hk : k ≤ l.length) (m c' : Nat) (hm : m = l.length - k) : Ints w (.slice (some ⟨b, k, none⟩) m c') (l.drop k) := by
  have := h.dropK hk m c' hm
  rwa [Nat.zero_add] at this
theorem Ints.noneL (w : World) (A : Option Addr) (n c : Nat) (h : n = 0) : Ints w (.slice A n c) [] := by subst h; exact ⟨A, c, rfl, fun h => absurd rfl h⟩
theorem Ints.none_ (w : World) (A : Option Addr) (c : Nat) : Ints w (.slice A 0 c) [] := ⟨A, c, rfl, fun h => absurd rfl h⟩
/-- 'out = append(out, y)', beside another list of the call's own -/
theorem wpList_append_int2 {P : Program} {w W : World} {ops : Array Oper} {rest : List Oper} {o : Oper} {a : Act} {Q : Exit → Act → World → Prop} (hgd : o.guard = none) (s x : Operand) (t e : TypeId)
    (ho : o.op = .call { callee := .builtin .append, args := #[s, x], argTypes := #[t, t] }) (ht : P.underlying t = some (.slice e)) (hinfo : (P.info? e).map (fun i => (i.zero, i.size, i.bytes)) = some (some (.int .i64 0), 1, 8))
    (B : Nat) (v : Value) (xs : List Int) (y : Int) (hs : a.eval s = v) (hown : OwnI e w B v xs) (hW : W = w.alloc (.cells #[.int .i64 y] e)) (hx : a.eval x = .slice (some ⟨w.heap.size, 0, none⟩) 1 1) (hlen : xs.length < 1048576) (hB : B ≤ w.heap.size)
    (h : ∀ v' w', OwnI e w' B v' (xs ++ [y]) → Below B w w' → (∀ z zs, OwnI e w B z zs → (z.ownBlock = none ∨ z.ownBlock ≠ v.ownBlock) → OwnI e w' B z zs ∧ (z.ownBlock = none ∨ z.ownBlock ≠ v'.ownBlock)) → wpList P ops Q rest (a.put o.dst v') w') : wpList P ops Q (o :: rest) a W := by
  subst hW
  obtain ⟨i0, hi, hz0, hz1, hz2⟩ := info_parts hinfo
  refine wpList_append_lies _ hgd s x t ho B e i0 (.int .i64 0) 1 8 ht hi hz0 hz1 hz2 rfl (by decide) v xs.length (xs.map (Value.int .i64)) hs (World.ownsRow.alloc hown _) ⟨w.heap.size, 0, none⟩ 1 1 [.int .i64 y] hx rfl ?_ ?_ (by decide) ?_ ?_ ?_ _ rfl ?_
  · intro j u hj
    match j, hj with
    | 0, hj =>
      simp only [List.getElem?_cons_zero, Option.some.injEq] at hj
      subst hj
      exact (Blk.new w e #[.int .i64 y]).cell 0
    | j + 1, hj => simp at hj
  · intro u hu
    simp only [List.mem_singleton] at hu
    subst hu; rfl
  · unfold maxLen; omega
  · omega
  · simp; omega
  · intro g cap w' h6 h7 h8 h9
    have hb : Below B w (w.alloc (.cells #[.int .i64 y] e)) := (Below.refl _ _).alloc hB _
    have hB2 : Below B w w' := hb.grown h7 (by simp; omega) fun k hk => (World.ownsRow.lt hown k hk).1
    refine h _ w' (by unfold OwnI; simpa using h6) hB2 fun z zs hz hzv => ⟨(World.ownsRow.alloc hz _).kept h7 hzv, ?_⟩
    rcases hzv with hzn | hzn
    · exact .inl hzn
    · rcases hq : z.ownBlock with _ | q
      · exact .inl rfl
      · refine .inr fun e2 => ?_
        have hql := (World.ownsRow.lt hz q hq).2
        simp only [Value.ownBlock, Option.some.injEq] at e2
        subst e2
        rcases h8 with h8 | h8
        · exact hzn (by rw [hq, h8])
        · simp at h8; omega
end Go.Proofs.Ytkalpichninncab
