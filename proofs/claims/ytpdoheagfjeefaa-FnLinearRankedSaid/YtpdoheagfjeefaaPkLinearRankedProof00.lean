/- Texts Base, Law, one behind the other. -/
import Derived.Handy
import Derived.Laws.BitsAllLaws
import Derived.Laws.BitsLemmas
import Derived.Below
import Derived.Deep.QuietTactic
import Derived.BigQuiet
import Derived.Lib.SmallJoins
import Derived.Laws.MakeOwn
import Derived.Laws.OwnMore
import Derived.Deep.OwnRows
import Derived.ChangeSame
import Derived.Deep.RegionWith
import Derived.Test.YtpdoheagfjeefaaRows
import Derived.Outline
/- Words for memory and for sets as numbers, shared by all proofs of this seat; no program is named here. -/
namespace Go.Proofs.Ytpdoheagfjeefaa
open Go.RowKit Go.WideShapes Go.ChangeShapes
theorem hid {p : Prop} (h : p) : Hid p := h
theorem ret_bool {a b : Bool} (h : a = b) : Ending.returned (.bool a) = .returned (.bool b) := by rw [h]
theorem ret_int {k : IntKind} {a b : Int} (h : a = b) : Ending.returned (.int k a) = .returned (.int k b) := by rw [h]
theorem nat_beq0 (n : Nat) : ((n : Int) == 0) = (n == 0) := by
  rw [Bool.eq_iff_iff, beq_iff_eq, beq_iff_eq]; omega

/-! ### bits of int64 numbers that are not below 0 -/
theorem ofInt_i64 (a : Nat) (ha : a < 9223372036854775808) : (BitVec.ofInt 64 (a : Int)).toNat = a := by
  rw [BitVec.ofInt_natCast, BitVec.toNat_ofNat]; exact Nat.mod_eq_of_lt (by omega)
theorem i64_and_nat (a b : Nat) (ha : a < 9223372036854775808) (hb : b < 9223372036854775808) : bits .and .i64 (a : Int) (b : Int) = ((a &&& b : Nat) : Int) := by
  have hx : a &&& b < 2 ^ 63 := Nat.and_lt_two_pow _ (by omega)
  show IntKind.i64.wrap ((BitVec.ofInt 64 (a : Int) &&& BitVec.ofInt 64 (b : Int)).toNat : Int) = _
  rw [BitVec.toNat_and, ofInt_i64 a ha, ofInt_i64 b hb, IntKind.wrap_i64]
  omega
theorem i64_or_nat (a b : Nat) (ha : a < 9223372036854775808) (hb : b < 9223372036854775808) : bits .or .i64 (a : Int) (b : Int) = ((a ||| b : Nat) : Int) := by
  have hx : a ||| b < 2 ^ 63 := Nat.or_lt_two_pow (by omega) (by omega)
  show IntKind.i64.wrap ((BitVec.ofInt 64 (a : Int) ||| BitVec.ofInt 64 (b : Int)).toNat : Int) = _
  rw [BitVec.toNat_or, ofInt_i64 a ha, ofInt_i64 b hb, IntKind.wrap_i64]
  omega
/-- a without b -/
def sub (a b : Nat) : Nat := a ^^^ (a &&& b)
theorem sub_testBit (a b i : Nat) : (sub a b).testBit i = (a.testBit i && !b.testBit i) := by
  unfold sub; rw [Nat.testBit_xor, Nat.testBit_and]; cases a.testBit i <;> cases b.testBit i <;> rfl
theorem sub_le (a b : Nat) : sub a b ≤ a := by
  apply Nat.le_of_testBit
  intro i h
  rw [sub_testBit] at h
  revert h; cases a.testBit i <;> simp
theorem i64_andNot_nat (a b : Nat) (ha : a < 9223372036854775808) (hb : b < 9223372036854775808) : bits .andNot .i64 (a : Int) (b : Int) = ((sub a b : Nat) : Int) := by
  have hx : sub a b < 2 ^ 63 := Nat.lt_of_le_of_lt (sub_le a b) (by omega)
  have e : (BitVec.ofInt 64 (a : Int) &&& ~~~ BitVec.ofInt 64 (b : Int)).toNat = sub a b := by
    apply Nat.eq_of_testBit_eq
    intro i
    rw [BitVec.toNat_and, Nat.testBit_and, sub_testBit, ofInt_i64 a ha, BitVec.testBit_toNat, BitVec.getLsbD_not, ← BitVec.testBit_toNat, ofInt_i64 b hb]
    by_cases h : i < 64
    · simp [h]
    · have : a.testBit i = false := Nat.testBit_lt_two_pow (Nat.lt_of_lt_of_le (by omega : a < 2 ^ 63) (Nat.pow_le_pow_right (by decide) (by omega)))
      simp [this]
  show IntKind.i64.wrap ((BitVec.ofInt 64 (a : Int) &&& ~~~ BitVec.ofInt 64 (b : Int)).toNat : Int) = _
  rw [e, IntKind.wrap_i64]
  omega

theorem shr_cast (s e : Nat) : ((s : Int) / 2 ^ e) = ((s / 2 ^ e : Nat) : Int) := by
  rw [Int.natCast_ediv]; simp
theorem bit_and (s e : Nat) (hs : s < 9223372036854775808) : (bits .and .i64 ((s : Int) / 2 ^ e) 1 == 1) = s.testBit e := by
  rw [shr_cast]
  have h1 : s / 2 ^ e < 9223372036854775808 := Nat.lt_of_le_of_lt (Nat.div_le_self _ _) hs
  have := i64_and_nat (s / 2 ^ e) 1 h1 (by omega)
  rw [show ((1 : Nat) : Int) = 1 from rfl] at this
  rw [this, Nat.testBit_eq_decide_div_mod_eq, nat_mask1, Bool.eq_iff_iff]
  simp only [beq_iff_eq, decide_eq_true_eq]
  omega
theorem bit_tmod (s e : Nat) : (((s : Int) / 2 ^ e).tmod 2 == 1) = s.testBit e := by
  rw [shr_cast, Nat.testBit_eq_decide_div_mod_eq, Bool.eq_iff_iff, Int.tmod_eq_emod_of_nonneg (Int.natCast_nonneg _)]
  simp only [beq_iff_eq, decide_eq_true_eq]
  omega
theorem two_pow_le (n : Nat) (h : n ≤ 10) : 1 ≤ 2 ^ n ∧ 2 ^ n ≤ 1024 :=
  ⟨Nat.one_le_two_pow, (by have := Nat.pow_le_pow_right (n := 2) (by decide) h; simpa using this)⟩

theorem wrap_mask (k : Nat) (h : k ≤ 10) : wrap64 (wrap64 ((2 : Int) ^ k) - 1) = ((2 ^ k - 1 : Nat) : Int) := by
  have hp := two_pow_le k h
  have e : (2 : Int) ^ k = ((2 ^ k : Nat) : Int) := by simp
  simp only [e, wrap64]
  omega
theorem wrap_pow (k : Nat) (h : k ≤ 10) : wrap64 ((2 : Int) ^ k) = ((2 ^ k : Nat) : Int) := by
  have hp := two_pow_le k h
  have e : (2 : Int) ^ k = ((2 ^ k : Nat) : Int) := by simp
  simp only [e, wrap64]
  omega

theorem wrap_pow' (k : Nat) (h : k ≤ 10) : wrap64 ((2 : Int) ^ k) = (2 : Int) ^ k := by
  rw [wrap_pow k h]; simp
theorem or_pow (a k : Nat) (ha : a < 1024) (h : k ≤ 10) : bits .or .i64 (a : Int) ((2 : Int) ^ k) = ((a ||| 2 ^ k : Nat) : Int) := by
  have hp := two_pow_le k h
  have e : (2 : Int) ^ k = ((2 ^ k : Nat) : Int) := by simp
  rw [e]
  exact i64_or_nat a (2 ^ k) (by omega) (Nat.lt_of_le_of_lt hp.2 (by decide))

theorem pow_or (a k : Nat) (ha : a < 1024) (h : k ≤ 10) : bits .or .i64 ((2 : Int) ^ k) (a : Int) = ((2 ^ k ||| a : Nat) : Int) := by
  have hp := two_pow_le k h
  have e : (2 : Int) ^ k = ((2 ^ k : Nat) : Int) := by simp
  rw [e]
  exact i64_or_nat (2 ^ k) a (Nat.lt_of_le_of_lt hp.2 (by decide)) (by omega)

/-! ### slices of integers -/
/-- the value 'v' is a slice whose elements are 'xs' -/
def Ints (w : World) (v : Value) (xs : List Int) : Prop :=
  ∃ A c, v = .slice A xs.length c ∧ (xs ≠ [] → ∃ b o, A = some ⟨b, o, none⟩ ∧ b < w.heap.size ∧ ∀ j, j < xs.length → w.cell? ⟨b, o + j, none⟩ = some (.int .i64 (xs.getD j 0)))
theorem Ints.below {w w' : World} {v : Value} {xs : List Int} (h : Ints w v xs) (hb : Below w.heap.size w w') : Ints w' v xs := by
  obtain ⟨A, c, rfl, h⟩ := h
  refine ⟨A, c, rfl, fun hx => ?_⟩
  obtain ⟨b, o, rfl, hlt, hc⟩ := h hx
  exact ⟨b, o, rfl, Nat.lt_of_lt_of_le hlt hb.size, fun j hj => (hb.cell (p := ⟨b, o + j, none⟩) hlt).trans (hc j hj)⟩
theorem Ints.alloc {w : World} {v : Value} {xs : List Int} (h : Ints w v xs) (o : Obj) : Ints (w.alloc o) v xs := h.below ((Below.refl _ _).alloc (Nat.le_refl _) o)
theorem Ints.drewN {w : World} {v : Value} {xs : List Int} (h : Ints w v xs) (n : Nat) : Ints (w.drewN n) v xs := h.below (Go.Joins.below_draws _ _ _)
theorem below_drewN {B : Nat} {a w : World} (h : Below B a w) (n : Nat) : Below B a (w.drewN n) := ⟨h.os, h.tape, h.output, h.size, h.block⟩

/-- all cells of a block -/
def Blk (w : World) (g : Nat) (t : TypeId) (cs : Array Value) : Prop := w.heap[g]? = some (.cells cs t (0, 0))
theorem Blk.lt {w : World} {g : Nat} {t : TypeId} {cs : Array Value} (h : Blk w g t cs) : g < w.heap.size := by
  rcases Nat.lt_or_ge g w.heap.size with hlt | hge
  · exact hlt
  · unfold Blk at h; rw [Array.getElem?_eq_none hge] at h; cases h
theorem Blk.cell {w : World} {g : Nat} {t : TypeId} {cs : Array Value} (h : Blk w g t cs) (i : Nat) : w.cell? ⟨g, i, none⟩ = cs[i]? := cell_of_row w g i cs t (0, 0) h
theorem Blk.frozen {w : World} {g : Nat} {t : TypeId} {cs : Array Value} (h : Blk w g t cs) (i : Nat) : w.frozen? ⟨g, i, none⟩ = false := by
  unfold Blk at h
  simp [World.frozen?, h]
theorem Blk.new (w : World) (t : TypeId) (cs : Array Value) : Blk (w.alloc (.cells cs t)) w.heap.size t cs := heap_alloc_new w _
theorem Blk.below {w w' : World} {g B : Nat} {t : TypeId} {cs : Array Value} (h : Blk w g t cs) (hb : Below B w w') (hg : g < B) : Blk w' g t cs := (hb.block g hg).trans h
theorem Blk.set_ {w : World} {g : Nat} {t : TypeId} {cs : Array Value} (h : Blk w g t cs) (i : Nat) (u : Value) : Blk (w.setCell ⟨g, i, none⟩ u) g t (cs.setIfInBounds i u) := by
  unfold Blk at h ⊢
  simp [World.setCell, Array.getElem?_modify, h]
theorem Blk.far {w : World} {g : Nat} {t : TypeId} {cs : Array Value} (h : Blk w g t cs) {p : Addr} (hp : g ≠ p.block) (u : Value) : Blk (w.setCell p u) g t cs := (Below.heap_setCell w p u g hp).trans h
theorem Blk.alloc {w : World} {g : Nat} {t : TypeId} {cs : Array Value} (h : Blk w g t cs) (o : Obj) : Blk (w.alloc o) g t cs := (Below.heap_alloc w o g h.lt).trans h
theorem Blk.newAt (w : World) (t : TypeId) (cs : Array Value) (g : Nat) (hg : g = w.heap.size) : Blk (w.alloc (.cells cs t)) g t cs := by subst hg; exact Blk.new w t cs
theorem Blk.ints {w : World} {g c : Nat} {t : TypeId} {xs : List Int} (h : Blk w g t (xs.map (Value.int .i64)).toArray) : Ints w (.slice (some ⟨g, 0, none⟩) xs.length c) xs := by
  refine ⟨_, _, rfl, fun _ => ⟨g, 0, rfl, h.lt, fun j hj => ?_⟩⟩
  rw [Nat.zero_add, h.cell]
  simp [hj]

theorem bcell {W w1 : World} (hb : Below W.heap.size W w1) : (∀ b o, b < W.heap.size → w1.cell? ⟨b, o, none⟩ = W.cell? ⟨b, o, none⟩) ∧ (∀ b o, b < W.heap.size → w1.frozen? ⟨b, o, none⟩ = W.frozen? ⟨b, o, none⟩) :=
  ⟨fun b o h => hb.cell (p := ⟨b, o, none⟩) h, fun b o h => hb.frozen (p := ⟨b, o, none⟩) h⟩

/-- a box of one cell -/
def At (w : World) (b : Nat) (v : Value) : Prop := w.cell? ⟨b, 0, none⟩ = some v ∧ b < w.heap.size
theorem At.below {w w' : World} {b : Nat} {v : Value} (h : At w b v) (hb : Below w.heap.size w w') : At w' b v :=
  ⟨(hb.cell (p := ⟨b, 0, none⟩) h.2).trans h.1, Nat.lt_of_lt_of_le h.2 hb.size⟩
theorem At.alloc {w : World} {b : Nat} {v : Value} (h : At w b v) (o : Obj) : At (w.alloc o) b v := h.below ((Below.refl _ _).alloc (Nat.le_refl _) o)
theorem At.drewN {w : World} {b : Nat} {v : Value} (h : At w b v) (n : Nat) : At (w.drewN n) b v := h.below (Go.Joins.below_draws _ _ _)
theorem At.drew {w : World} {b : Nat} {v : Value} (h : At w b v) : At w.drew b v := h.drewN 1
theorem Ints.drew {w : World} {v : Value} {xs : List Int} (h : Ints w v xs) : Ints w.drew v xs := h.drewN 1
theorem At.new (w : World) (v : Value) (t : TypeId) : At (w.alloc (.cells #[v] t)) w.heap.size v := ⟨(Blk.new w t #[v]).cell 0, by simp⟩
theorem At.far {w : World} {b : Nat} {v : Value} (h : At w b v) {p : Addr} (hp : b ≠ p.block) (u : Value) : At (w.setCell p u) b v :=
  ⟨(World.cell?_of_block (a := ⟨b, 0, none⟩) (Below.heap_setCell w p u b hp)).trans h.1, by simpa [World.setCell] using h.2⟩
theorem below_to {a w w' : World} (h : Below a.heap.size a w) (hb : Below w.heap.size w w') : Below a.heap.size a w' := h.trans (hb.mono h.size)
theorem below_alloc {a w : World} (h : Below a.heap.size a w) (o : Obj) : Below a.heap.size a (w.alloc o) := h.alloc h.size o

/-! ### slices of the call's own -/
/-- 'v' is a slice of the call's own, in a block from B on, whose elements are 'xs' (e: int's number) -/
def OwnI (e : TypeId) (w : World) (B : Nat) (v : Value) (xs : List Int) : Prop := w.ownsRow B e 1 v xs.length (xs.map (Value.int .i64))
theorem OwnI.nil (e : TypeId) (w : World) (B : Nat) : OwnI e w B (.slice none 0 0) [] := World.ownsRow_nil w B e 1
theorem OwnI.shape {e : TypeId} {w : World} {B : Nat} {v : Value} {xs : List Int} (h : OwnI e w B v xs) :
    ∃ A c, v = .slice A xs.length c ∧ (xs ≠ [] → ∃ g, A = some ⟨g, 0, none⟩ ∧ g < w.heap.size ∧ B ≤ g) := by
  obtain ⟨-, h2⟩ := h
  rcases h2 with ⟨rfl, hn⟩ | ⟨g, cap, cur, rfl, hB, hh, _⟩
  · refine ⟨none, 0, by rw [hn], fun hx => ?_⟩
    exact absurd (List.eq_nil_of_length_eq_zero hn) hx
  · refine ⟨_, cap, rfl, fun _ => ⟨g, rfl, ?_, hB⟩⟩
    rcases Nat.lt_or_ge g w.heap.size with hlt | hge
    · exact hlt
    · rw [Array.getElem?_eq_none hge] at hh; cases hh
theorem OwnI.shape3 {e : TypeId} {w : World} {B : Nat} {v : Value} {xs : List Int} (h : OwnI e w B v xs) : ∃ A n c, v = .slice A n c := by
  obtain ⟨A, c, h, _⟩ := h.shape
  exact ⟨A, _, c, h⟩
theorem OwnI.ints {e : TypeId} {w : World} {B : Nat} {v : Value} {xs : List Int} (h : OwnI e w B v xs) : Ints w v xs := by
  obtain ⟨A, c, rfl, hA⟩ := h.shape
  refine ⟨A, c, rfl, fun hx => ?_⟩
  obtain ⟨g, rfl, hlt, -⟩ := hA hx
  refine ⟨g, 0, rfl, hlt, fun j hj => ?_⟩
  have h' : w.ownsRow B e 1 (.slice (some ⟨g, 0, none⟩) xs.length c) xs.length (xs.map (Value.int .i64)) := h
  have := h'.cellAt j (by omega)
  rw [Nat.zero_add, this]
  simp [hj]
theorem OwnI.grown {e : TypeId} {w w' : World} {B : Nat} {v : Value} {xs : List Int} {row : Option Nat} (h : OwnI e w B v xs) (hg : w.grownBy w' row) (hne : v.ownBlock = none ∨ v.ownBlock ≠ row) : OwnI e w' B v xs := World.ownsRow.kept h hg hne
theorem grown_of_below {a w : World} (h : Below a.heap.size a w) (row : Option Nat) : a.grownBy w row := ⟨h.os, h.tape, h.output, h.size, fun i hi _ => h.block i hi⟩
theorem OwnI.below {e : TypeId} {w w' : World} {B : Nat} {v : Value} {xs : List Int} (h : OwnI e w B v xs) (hb : Below w.heap.size w w') : OwnI e w' B v xs := by
  by_cases hv : v.ownBlock = none
  · exact h.grown (grown_of_below hb none) (.inl hv)
  · exact h.grown (grown_of_below hb none) (.inr hv)
theorem OwnI.alloc {e : TypeId} {w : World} {B : Nat} {v : Value} {xs : List Int} (h : OwnI e w B v xs) (o : Obj) : OwnI e (w.alloc o) B v xs := h.below ((Below.refl _ _).alloc (Nat.le_refl _) o)
theorem OwnI.drew {e : TypeId} {w : World} {B : Nat} {v : Value} {xs : List Int} (h : OwnI e w B v xs) : OwnI e w.drew B v xs := h
theorem OwnI.mono {e : TypeId} {w : World} {B B' : Nat} {v : Value} {xs : List Int} (h : OwnI e w B v xs) (hB : B' ≤ B) : OwnI e w B' v xs := by
  obtain ⟨h1, h2⟩ := h
  refine ⟨h1, ?_⟩
  rcases h2 with h2 | ⟨g, cap, cur, hv, hg, r⟩
  · exact .inl h2
  · exact .inr ⟨g, cap, cur, hv, by omega, r⟩
theorem Blk.own {e : TypeId} {w : World} {g B : Nat} {xs : List Int} (h : Blk w g e (xs.map (Value.int .i64)).toArray) (hB : B ≤ g) (hl : xs.length ≤ 1048576) : OwnI e w B (.slice (some ⟨g, 0, none⟩) xs.length xs.length) xs :=
  ⟨by simp, .inr ⟨g, xs.length, _, rfl, hB, h, Nat.le_refl _, by unfold maxLen; omega, by simp, by rw [Nat.mul_one]; exact List.take_of_length_le (by simp)⟩⟩
theorem OwnI.apart {e : TypeId} {w : World} {B : Nat} {v : Value} {xs : List Int} (h : OwnI e w B v xs) {k : Nat} (hk : k < B ∨ w.heap.size ≤ k) : v.ownBlock = none ∨ v.ownBlock ≠ some k := by
  refine .inr fun e => ?_
  have := World.ownsRow.lt h k e
  omega
theorem OwnI.blockLt {e : TypeId} {w : World} {B : Nat} {v : Value} {xs : List Int} (h : OwnI e w B v xs) : ∀ k, v.ownBlock = some k → B ≤ k ∧ k < w.heap.size := World.ownsRow.lt h
theorem grown_trans {a b c : World} {row : Option Nat} (h : a.grownBy b row) (k : b.grownBy c row) : a.grownBy c row :=
  ⟨k.os.trans h.os, k.tape.trans h.tape, k.output.trans h.output, Nat.le_trans h.size k.size, fun i hi hne => (k.block i (Nat.lt_of_lt_of_le hi h.size) hne).trans (h.block i hi hne)⟩
theorem grown_setCell {a w : World} {g : Nat} (h : a.grownBy w (some g)) (i : Nat) (u : Value) : a.grownBy (w.setCell ⟨g, i, none⟩ u) (some g) :=
  ⟨h.os, h.tape, h.output, by simpa [World.setCell] using h.size, fun k hk hne => (Below.heap_setCell w ⟨g, i, none⟩ u k (by rintro rfl; exact hne rfl)).trans (h.block k hk hne)⟩
/-- where one row of the call's own has turned -/
theorem At.grown {w w' : World} {b : Nat} {v : Value} {row : Option Nat} (h : At w b v) (hg : w.grownBy w' row) (hne : row ≠ some b) : At w' b v :=
  ⟨hg.cell (a := ⟨b, 0, none⟩) h.1 (fun e => hne e.symm), Nat.lt_of_lt_of_le h.2 hg.size⟩
theorem below_grown {a w w' : World} {row : Option Nat} (h : Below a.heap.size a w) (hg : w.grownBy w' row) (hr : ∀ k, row = some k → a.heap.size ≤ k) : Below a.heap.size a w' := h.grown hg h.size hr
/-- an argument's slice, known where the call began, in a later world -/
theorem Ints.later {a w : World} {v : Value} {xs : List Int} (h : Ints a v xs) (hb : Below a.heap.size a w) : Ints w v xs := h.below hb

/-- 'out = append(out, y)' onto a slice of the call's own -/
theorem wpList_append_int {P : Program} {w W : World} {ops : Array Oper} {rest : List Oper} {o : Oper} {a : Act} {Q : Exit → Act → World → Prop} (hgd : o.guard = none) (s x : Operand) (t e : TypeId)
    (ho : o.op = .call { callee := .builtin .append, args := #[s, x], argTypes := #[t, t] }) (ht : P.underlying t = some (.slice e)) (hinfo : (P.info? e).map (fun i => (i.zero, i.size, i.bytes)) = some (some (.int .i64 0), 1, 8))
    (B : Nat) (v : Value) (xs : List Int) (y : Int) (hs : a.eval s = v) (hown : OwnI e w B v xs) (hW : W = w.alloc (.cells #[.int .i64 y] e)) (hx : a.eval x = .slice (some ⟨w.heap.size, 0, none⟩) 1 1) (hlen : xs.length < 1048576) (hB : B ≤ w.heap.size)
    (h : ∀ v' w', OwnI e w' B v' (xs ++ [y]) → Below B w w' → wpList P ops Q rest (a.put o.dst v') w') : wpList P ops Q (o :: rest) a W := by
  subst hW
  obtain ⟨i0, hi, hz0, hz1, hz2⟩ := info_parts hinfo
  refine wpList_append_own _ hgd s x t ho B e i0 (.int .i64 0) 1 8 ht hi hz0 hz1 hz2 rfl (by decide) v xs.length (xs.map (Value.int .i64)) hs (World.ownsRow.alloc hown _) ⟨w.heap.size, 0, none⟩ 1 1 [.int .i64 y] hx rfl ?_ ?_ ?_ ?_ ?_ ?_
  · intro j u hj
    match j, hj with
    | 0, hj =>
      simp only [List.getElem?_cons_zero, Option.some.injEq] at hj
      subst hj
      exact (Blk.new w e #[.int .i64 y]).cell 0
    | j + 1, hj => simp at hj
  · intro u hu
    simp only [List.mem_singleton] at hu
    subst hu; rfl
  · unfold maxLen; omega
  · omega
  · simp; omega
  · intro v' w' h2 h3 _
    refine h v' w' ?_ ?_
    · unfold OwnI
      simpa using h2
    · have h4 : Below B w (w.alloc (.cells #[.int .i64 y] e)) := (Below.refl _ _).alloc hB _
      refine h4.grown h3 (by simp; omega) fun k hk => ?_
      exact (World.ownsRow.lt hown k hk).1

theorem run_append_of_nil {P : Program} (w : World) (base : Nat) (t ty e : TypeId) (i : TypeInfo) (size : Nat) (ht : P.underlying t = some (.slice e)) (hi : P.info? e = some i)
    (v : Value) (n : Nat) (xs : List Value) (hown : w.ownsRow base e size v n xs) (c : Nat) : (Builtin.append_ #[t, t] ty #[v, .slice none 0 c]).run P w = .ok v w := by
  rcases hown.2 with ⟨rfl, rfl⟩ | ⟨g, cap, cur, rfl, _, _, hnc, _⟩
  · simp [Builtin.append_, run_underlying ht, sizeOf, typeInfo, hi, Builtin.lenOf, Builtin.firstCells]
  · simp [Builtin.append_, run_underlying ht, sizeOf, typeInfo, hi, Builtin.lenOf, Builtin.firstCells, hnc, storeCells]
/-- 'out = append(out, ys...)' onto a slice of the call's own -/
theorem wpList_append_ints {P : Program} {w : World} {ops : Array Oper} {rest : List Oper} {o : Oper} {a : Act} {Q : Exit → Act → World → Prop} (hgd : o.guard = none) (s x : Operand) (t e : TypeId)
    (ho : o.op = .call { callee := .builtin .append, args := #[s, x], argTypes := #[t, t] }) (ht : P.underlying t = some (.slice e)) (hinfo : (P.info? e).map (fun i => (i.zero, i.size, i.bytes)) = some (some (.int .i64 0), 1, 8))
    (B : Nat) (v : Value) (xs : List Int) (hs : a.eval s = v) (hown : OwnI e w B v xs) (u : Value) (ys : List Int) (hx : a.eval x = u) (hu : Ints w u ys) (hlen : xs.length + ys.length ≤ 1048576) (hB : B ≤ w.heap.size)
    (h : ∀ v' w', OwnI e w' B v' (xs ++ ys) → Below B w w' → wpList P ops Q rest (a.put o.dst v') w') : wpList P ops Q (o :: rest) a w := by
  obtain ⟨i0, hi, hz0, hz1, hz2⟩ := info_parts hinfo
  obtain ⟨A, c, rfl, hA⟩ := hu
  have main : ∀ ad : Addr, A = some ad → (∀ j u, (ys.map (Value.int .i64))[j]? = some u → w.cell? (ad.add j) = some u) → wpList P ops Q (o :: rest) a w := by
    rintro ad rfl hcells
    refine wpList_append_own _ hgd s x t ho B e i0 (.int .i64 0) 1 8 ht hi hz0 hz1 hz2 rfl (by decide) v xs.length (xs.map (Value.int .i64)) hs hown ad ys.length c (ys.map (Value.int .i64)) hx (by simp) hcells ?_ ?_ ?_ ?_ ?_
    · intro u hu
      simp only [List.mem_map] at hu
      obtain ⟨y, _, rfl⟩ := hu
      rfl
    · unfold maxLen; omega
    · omega
    · exact hB
    · intro v' w' h2 h3 _
      refine h v' w' ?_ ?_
      · unfold OwnI
        simpa using h2
      · exact (Below.refl _ _).grown h3 hB fun k hk => (World.ownsRow.lt hown k hk).1
  by_cases hy : ys = []
  · subst hy
    rcases A with _ | ad
    · refine wpList_plain hgd fun K hK => ?_
      have hrun := run_append_of_nil (P := P) w B t o.type e i0 1 ht hi v xs.length _ hown c
      unfold Oper.wp
      simp [execOp, ho, resolve, invoke, builtin, hs, hx, hrun, Result.andThen]
      exact hK _ _ (h v w (by simpa using hown) (Below.refl _ _))
    · exact main ad rfl (by simp)
  · obtain ⟨b, off, rfl, hb, hc⟩ := hA hy
    refine main _ rfl fun j u hj => ?_
    rw [Go.WideShapes.add_plain]
    rw [List.getElem?_map] at hj
    by_cases hlt : j < ys.length
    · rw [hc j hlt, List.getD_eq_getElem?_getD]
      revert hj
      cases ys[j]? <;> simp
    · rw [List.getElem?_eq_none (by omega)] at hj; cases hj
/-- an empty slice of the call's own, just made ('[]int{}') -/
theorem OwnI.empty (e : TypeId) (w : World) : OwnI e (w.alloc (.cells #[] e)) w.heap.size (.slice (some ⟨w.heap.size, 0, none⟩) 0 0) [] :=
  ⟨by simp, .inr ⟨w.heap.size, 0, #[], rfl, Nat.le_refl _, heap_alloc_new w _, Nat.le_refl _, by unfold maxLen; omega, by simp, by simp⟩⟩
theorem At.newAt (w : World) (v : Value) (t : TypeId) (b : Nat) (hb : b = w.heap.size) : At (w.alloc (.cells #[v] t)) b v := by subst hb; exact At.new w v t

theorem row_ne_box {u : Value} {B E b : Nat} (h : ∀ k, u.ownBlock = some k → B ≤ k ∧ k < E) (hb : b < B ∨ E ≤ b) : u.ownBlock ≠ some b := fun e => by have := h b e; omega
theorem row_ne_row {v u : Value} {B E B' E' : Nat} (h : ∀ k, v.ownBlock = some k → B ≤ k ∧ k < E) (h' : ∀ k, u.ownBlock = some k → B' ≤ k ∧ k < E') (hs : E ≤ B' ∨ E' ≤ B) : v.ownBlock = none ∨ v.ownBlock ≠ u.ownBlock := by
  rcases hv : v.ownBlock with _ | k
  · exact .inl rfl
  · refine .inr fun e => ?_
    have h1 := h k hv
    have h2 := h' k e.symm
    omega

/-! ### the row's last step where 'Below' alone is known -/
section
variable {H : Type} {enc : TypeId × Value → H} {P : Program}
theorem post_of_below {f : Func} {s : ChangeSpec} {apart fresh handsOn again : Bool} {W W' : World} {args : Array Value} {v : Value} {ds gs : List (DataW H)} {before pa pv : List MemPlace}
    (hW : DataW.Whole enc P f.params.toList s.vars apart W args.toList ds gs before)
    (hres : ∀ (b : Nat) (sp : Nat → Bool) (hd : Bool), DataW.TrodAll enc P W' b sp hd f.resultTypes.toList (v.resultList f.resultTypes.size) (s.fn H (ds ++ gs)).results [])
    (hargs : ∀ sp : Nat → Bool, (∀ p ∈ before, sp p.block = true) → DataW.TrodAll enc P W' 0 sp true f.params.toList args.toList (s.fn H (ds ++ gs)).args pa)
    (hvars : ∀ sp : Nat → Bool, (∀ p ∈ before, sp p.block = true) → DataW.TrodVars enc P W' sp s.vars (s.fn H (ds ++ gs)).vars pv)
    (hps : before = pa ++ pv) (hb : Below W.heap.size W W')
    (hok : ∀ (j : Nat) (t : TypeId) (r : Value), f.resultTypes[j]? = some t → (v.resultList f.resultTypes.size)[j]? = some r → Value.okWide P W' .any 0 t r) :
    s.post enc P f apart fresh handsOn again W args v W' := by
  have hlt : ∀ p ∈ before, p.block < W.heap.size := fun p hp => hW.lt p hp
  have hold : ∀ p ∈ before, (fun b => decide (b < W.heap.size)) p.block = true := fun p hp => by simpa using hlt p hp
  refine ⟨ds, gs, before, [], pa, pv, hW, hres _ _ _, hargs _ hold, hvars _ hold, World.keptBut_mono (fun p hp => ⟨hp, ?_⟩) (hb.frame (· ∈ before)), fun _ => ?_⟩
  · rw [hps, List.mem_append] at hp
    exact Or.inr hp
  · obtain ⟨_, _, _, _, _, hz, hn⟩ := hW
    refine ⟨hok, _, _, ([] ++ pa) ++ pv, ⟨[] ++ pa, pv, trodAll_append (hargs _ (fun _ _ => rfl)) (hres _ _ _), hvars _ (fun _ _ => rfl), rfl, ?_, ?_⟩, ?_⟩
    · intro b off hp
      have hin : MemPlace.cell b off ∈ before := by rw [hps]; simpa using hp
      rw [hb.frozen (hlt _ hin)]
      exact hz b off hin
    · intro ha
      have := hn ha
      rw [hps] at this
      simpa using this
    · intro p hp _
      rw [hps]
      simpa using hp
end

/-- an argument reads as it did where below the heap's old size nothing has turned -/
theorem trod_below {H : Type} {enc : TypeId × Value → H} {P : Program} {t : TypeId} (hl : laidOutB P = true) (hr : P.readableRec t = true) (hrow : t < P.types.size) {W W' : World} {sp : Nat → Bool} {v : Value} {d : DataW H} {ps : List MemPlace}
    (h : DataW.Trod enc P W 0 (fun _ => true) true t v d ps) (hb : Below W.heap.size W W') (hlt : ∀ x ∈ ps, x.block < W.heap.size) (hsp : ∀ x ∈ ps, sp x.block = true) :
    DataW.Trod enc P W' 0 sp true t v d ps := WideElems.Trod_stays hl hr hrow h (fun x hx => hb.same (hlt x hx)) hsp

/-! ### a struct of one slice of integers, opened -/
theorem open_poset {H : Type} {enc : TypeId × Value → H} {P : Program} {w : World} {base : Nat} {spare : Nat → Bool} {held : Bool} {r : Reach} {b0 : Nat} {t ts ti : TypeId} {f0 : Field} {v : Value} {d : DataW H} {p : List MemPlace}
    (hs : P.underlying t = some (.struct #[f0])) (hft : f0.type = ts) (hone : Deep.oneCellFields P #[f0] = true) (hC : P.cellsOf t = 1)
    (hts : P.underlying ts = some (.slice ti)) (hti : P.underlying ti = some (.int .i64)) (hc1 : P.cellsOf ti = 1)
    (hv : Value.okWide P w r b0 t v) (h : DataW.Trod enc P w base spare held t v d p) :
    ∃ (u : Value) (xs : List Int), v = .agg #[u] ∧ Ints w u xs ∧ xs.length ≤ maxLen := by
  obtain ⟨cs, rfl, hsz⟩ := okWide_struct hs hv
  obtain ⟨c0, rfl⟩ : ∃ c0, cs = #[c0] := by
    obtain ⟨l⟩ := cs
    match l, hsz.trans hC with
    | [c0], _ => exact ⟨c0, rfl⟩
  obtain ⟨fuel, hf⟩ := h
  obtain ⟨xs, n, _, _, hl, hlen, hf⟩ := DataW.trod_struct hs hf
  obtain ⟨o0, k0⟩ := Go.Deep.hone_of hone 0 f0 rfl
  match xs, hlen with
  | [y0], _ =>
    have h0 : DataW.trod enc P w base spare held n ts [c0] = some y0 := by
      have := hf 0 f0 rfl
      rw [hft] at k0
      simpa [Value.cells, o0, k0, hft] using this
    rcases open_ints hts hti hc1 h0 with ⟨hcs, _⟩ | ⟨a, len, cap, zs, hcs, _, hle, hm, hz, _, hc, _⟩
    · simp only [List.cons.injEq, and_true] at hcs
      subst hcs
      exact ⟨_, [], rfl, ⟨none, 0, rfl, fun h => absurd rfl h⟩, by simp⟩
    · simp only [List.cons.injEq, and_true] at hcs
      subst hcs
      have hzl : len ≤ zs.length := by rw [hz]; split <;> omega
      have hl' : (zs.take len).length = len := by rw [List.length_take]; omega
      refine ⟨_, zs.take len, rfl, ⟨some a, cap, by rw [hl'], fun hx => ?_⟩, by rw [hl']; omega⟩
      have hp : 0 < len := by
        rcases Nat.eq_zero_or_pos len with h0 | h0
        · subst h0; simp at hx
        · exact h0
      obtain ⟨b, off, rfl, hcell⟩ := ints_at hc (by omega)
      refine ⟨b, off, rfl, ?_, fun j hj => ?_⟩
      · have := hcell 0 (by omega)
        exact World.block_lt_of_cell? w _ this
      · rw [hl'] at hj
        rw [hcell j (by omega)]
        congr 2
        simp [List.getD, hj]
/-! ### a slice of integers, opened -/
theorem open_list {H : Type} {enc : TypeId × Value → H} {P : Program} {w : World} {base : Nat} {spare : Nat → Bool} {held : Bool} {r : Reach} {b0 : Nat} {ts ti : TypeId} {v : Value} {d : DataW H} {p : List MemPlace}
    (hts : P.underlying ts = some (.slice ti)) (hti : P.underlying ti = some (.int .i64)) (hc1 : P.cellsOf ti = 1)
    (hv : Value.okWide P w r b0 ts v) (h : DataW.Trod enc P w base spare held ts v d p) :
    ∃ (u : Value) (xs : List Int), v = u ∧ Ints w u xs ∧ xs.length ≤ maxLen := by
  obtain ⟨A, len, cap, rfl⟩ := okWide_slice hts hv
  obtain ⟨fuel, hf⟩ := h
  rcases open_ints hts hti hc1 hf with ⟨hcs, _⟩ | ⟨a, len, cap, zs, hcs, _, hle, hm, hz, _, hc, _⟩
  · simp [Value.cells] at hcs
    obtain ⟨rfl, rfl, rfl⟩ := hcs
    exact ⟨_, [], rfl, ⟨none, 0, rfl, fun h => absurd rfl h⟩, by simp⟩
  · simp [Value.cells] at hcs
    obtain ⟨rfl, rfl, rfl⟩ := hcs
    have hzl : len ≤ zs.length := by rw [hz]; split <;> omega
    have hl' : (zs.take len).length = len := by rw [List.length_take]; omega
    refine ⟨_, zs.take len, rfl, ⟨some a, cap, by rw [hl'], fun hx => ?_⟩, by rw [hl']; omega⟩
    have hp : 0 < len := by
      rcases Nat.eq_zero_or_pos len with h0 | h0
      · subst h0; simp at hx
      · exact h0
    obtain ⟨b, off, rfl, hcell⟩ := ints_at hc (by omega)
    refine ⟨b, off, rfl, ?_, fun j hj => ?_⟩
    · have := hcell 0 (by omega)
      exact World.block_lt_of_cell? w _ this
    · rw [hl'] at hj
      rw [hcell j (by omega)]
      congr 2
      simp [List.getD, hj]
end Go.Proofs.Ytpdoheagfjeefaa

/- The contracts of the laws' own helpers: sizes, copies, comparisons. -/
namespace Go.Proofs.Ytpdoheagfjeefaa
open Go.RowKit Go.WideShapes Go.ChangeShapes
theorem Try.info3 : (Try.prog.info? 3).map (fun i => (i.zero, i.size, i.bytes)) = some (some (.int .i64 0), 1, 8) := by kernel_rfl

/-- what is left of a size -/
def szRes (left : Int) (n : Nat) : Int := if left < n then -1 else left - n
theorem szRes_neg {left : Int} {n : Nat} (h : left < n) : szRes left n = -1 := if_pos h
theorem szRes_pos {left : Int} {n : Nat} (h : ¬ left < n) : szRes left n = left - n := if_neg h
theorem Try.laidOut : laidOutB Try.prog = true := by kernel_rfl
/-- k cells filled of n -/
def fillI (xs : List Int) (k : Nat) : Array Value := ((List.range xs.length).map fun j => Value.int .i64 (if j < k then xs.getD j 0 else 0)).toArray
theorem fillI_get (xs : List Int) (k i : Nat) (hi : i < xs.length) : (fillI xs k)[i]? = some (.int .i64 (if i < k then xs.getD i 0 else 0)) := by
  simp [fillI, hi]
theorem fillI_size (xs : List Int) (k : Nat) : (fillI xs k).size = xs.length := by simp [fillI]
theorem fillI_set (xs : List Int) (k : Nat) (hk : k < xs.length) : (fillI xs k).setIfInBounds k (.int .i64 (xs.getD k 0)) = fillI xs (k + 1) := by
  apply Array.ext_getElem?
  intro i
  rw [Array.getElem?_setIfInBounds, fillI_size]
  by_cases hi : i < xs.length
  · rw [fillI_get xs _ i hi, fillI_get xs _ i hi]
    by_cases h : k = i
    · subst h; simp [hk]
    · simp only [h, if_false]
      by_cases h2 : i < k
      · rw [if_pos h2, if_pos (by omega)]
      · rw [if_neg h2, if_neg (by omega)]
  · rw [Array.getElem?_eq_none (by rw [fillI_size]; omega), Array.getElem?_eq_none (by rw [fillI_size]; omega)]
    split
    · omega
    · rfl
theorem fillI_full (xs : List Int) : fillI xs xs.length = (xs.map (Value.int .i64)).toArray := by
  apply Array.ext_getElem?
  intro i
  by_cases hi : i < xs.length
  · rw [fillI_get xs _ i hi]; simp [hi]
  · rw [Array.getElem?_eq_none (by rw [fillI_size]; omega)]; simp [hi]
theorem fillI_zero (xs : List Int) : fillI xs 0 = madeCells #[.int .i64 0] xs.length := by
  have := toList_madeCells_one (.int .i64 0) xs.length
  rw [← Array.toList_inj, this]
  apply List.ext_getElem?
  intro i
  simp only [fillI, Nat.not_lt_zero, if_false, List.getElem?_map, List.getElem?_replicate]
  by_cases hi : i < xs.length <;> simp [hi]
/-! ### marks: what the law writes into a slice, and reads again -/
def markL (xs : List Int) (k : Int) (j : Nat) : List Int := (List.range xs.length).map fun i => if i < j then k + i else xs.getD i 0
def marks (n : Nat) (k : Int) : List Int := (List.range n).map fun (i : Nat) => k + (i : Int)
theorem markL_length (xs : List Int) (k : Int) (j : Nat) : (markL xs k j).length = xs.length := by simp [markL]
theorem marks_length (n : Nat) (k : Int) : (marks n k).length = n := by simp [marks]
theorem markL_zero (xs : List Int) (k : Int) : markL xs k 0 = xs := by
  apply List.ext_getElem?
  intro i
  simp only [markL, Nat.not_lt_zero, if_false, List.getElem?_map]
  by_cases hi : i < xs.length <;> simp [hi]
theorem markL_full (xs : List Int) (k : Int) : markL xs k xs.length = marks xs.length k := by
  apply List.ext_getElem?
  intro i
  simp only [markL, marks, List.getElem?_map]
  by_cases hi : i < xs.length <;> simp [hi]
theorem markL_at (xs : List Int) (k : Int) (j i : Nat) (hi : i < xs.length) : (markL xs k j)[i]? = some (if i < j then k + i else xs.getD i 0) := by
  simp [markL, hi]
theorem markL_set (xs : List Int) (k : Int) (j : Nat) (hj : j < xs.length) : ((markL xs k j).map (Value.int .i64)).set j (.int .i64 (k + j)) = (markL xs k (j + 1)).map (Value.int .i64) := by
  apply List.ext_getElem?
  intro i
  rw [List.getElem?_set, List.length_map, markL_length]
  by_cases hi : i < xs.length
  · rw [List.getElem?_map, List.getElem?_map, markL_at xs k j i hi, markL_at xs k (j + 1) i hi]
    by_cases h : j = i
    · subst h; simp [hj]
    · simp only [h, if_false, Option.map_some]
      by_cases h2 : i < j
      · rw [if_pos h2, if_pos (by omega)]
      · rw [if_neg h2, if_neg (by omega)]
  · have h1 : ∀ j', ((markL xs k j').map (Value.int .i64))[i]? = none := fun j' => List.getElem?_eq_none (by rw [List.length_map, markL_length]; omega)
    rw [h1, h1, if_neg (by omega)]
theorem marks_at (n : Nat) (k : Int) (i : Nat) (hi : i < n) : (marks n k).getD i 0 = k + i := by
  simp [marks, List.getD, hi]

/-! ### the copies as slices of the call's own -/
end Go.Proofs.Ytpdoheagfjeefaa
