/- Base Sets Fun Poset -/
import Derived.Handy
import Derived.Laws.BitsAllLaws
import Derived.Laws.BitsLemmas
import Derived.Below
import Derived.Deep.QuietTactic
import Derived.BigQuiet
import Derived.Lib.SmallJoins
import Derived.Laws.MakeOwn
import Derived.Laws.OwnMore
import Derived.Deep.OwnRows
import Derived.ChangeSame
import Derived.Deep.RegionWith
import Derived.Test.YtbmhaamenjhjfaaGreatDoorRows
import Derived.Outline
namespace Go.Proofs.YtbmhaamenjhjfaaGreatDoor
open Go.RowKit Go.WideShapes Go.ChangeShapes
theorem hid {p : Prop} (h : p) : Hid p := h
theorem ret_bool {a b : Bool} (h : a = b) : Ending.returned (.bool a) = .returned (.bool b) := by rw [h]
theorem ret_int {k : IntKind} {a b : Int} (h : a = b) : Ending.returned (.int k a) = .returned (.int k b) := by rw [h]
theorem nat_beq0 (n : Nat) : ((n : Int) == 0) = (n == 0) := by
  rw [Bool.eq_iff_iff, beq_iff_eq, beq_iff_eq]; omega
theorem ofInt_i64 (a : Nat) (ha : a < 9223372036854775808) : (BitVec.ofInt 64 (a : Int)).toNat = a := by
  rw [BitVec.ofInt_natCast, BitVec.toNat_ofNat]; exact Nat.mod_eq_of_lt (by omega)
theorem i64_and_nat (a b : Nat) (ha : a < 9223372036854775808) (hb : b < 9223372036854775808) : bits .and .i64 (a : Int) (b : Int) = ((a &&& b : Nat) : Int) := by
  have hx : a &&& b < 2 ^ 63 := Nat.and_lt_two_pow _ (by omega)
  show IntKind.i64.wrap ((BitVec.ofInt 64 (a : Int) &&& BitVec.ofInt 64 (b : Int)).toNat : Int) = _
  rw [BitVec.toNat_and, ofInt_i64 a ha, ofInt_i64 b hb, IntKind.wrap_i64]
  omega
theorem i64_or_nat (a b : Nat) (ha : a < 9223372036854775808) (hb : b < 9223372036854775808) : bits .or .i64 (a : Int) (b : Int) = ((a ||| b : Nat) : Int) := by
  have hx : a ||| b < 2 ^ 63 := Nat.or_lt_two_pow (by omega) (by omega)
  show IntKind.i64.wrap ((BitVec.ofInt 64 (a : Int) ||| BitVec.ofInt 64 (b : Int)).toNat : Int) = _
  rw [BitVec.toNat_or, ofInt_i64 a ha, ofInt_i64 b hb, IntKind.wrap_i64]
  omega
def sub (a b : Nat) : Nat := a ^^^ (a &&& b)
theorem sub_testBit (a b i : Nat) : (sub a b).testBit i = (a.testBit i && !b.testBit i) := by
  unfold sub; rw [Nat.testBit_xor, Nat.testBit_and]; cases a.testBit i <;> cases b.testBit i <;> rfl
theorem sub_le (a b : Nat) : sub a b ≤ a := by
  apply Nat.le_of_testBit
  intro i h
  rw [sub_testBit] at h
  revert h; cases a.testBit i <;> simp
theorem i64_andNot_nat (a b : Nat) (ha : a < 9223372036854775808) (hb : b < 9223372036854775808) : bits .andNot .i64 (a : Int) (b : Int) = ((sub a b : Nat) : Int) := by
  have hx : sub a b < 2 ^ 63 := Nat.lt_of_le_of_lt (sub_le a b) (by omega)
  have e : (BitVec.ofInt 64 (a : Int) &&& ~~~ BitVec.ofInt 64 (b : Int)).toNat = sub a b := by
    apply Nat.eq_of_testBit_eq
    intro i
    rw [BitVec.toNat_and, Nat.testBit_and, sub_testBit, ofInt_i64 a ha, BitVec.testBit_toNat, BitVec.getLsbD_not, ← BitVec.testBit_toNat, ofInt_i64 b hb]
    by_cases h : i < 64
    · simp [h]
    · have : a.testBit i = false := Nat.testBit_lt_two_pow (Nat.lt_of_lt_of_le (by omega : a < 2 ^ 63) (Nat.pow_le_pow_right (by decide) (by omega)))
      simp [this]
  show IntKind.i64.wrap ((BitVec.ofInt 64 (a : Int) &&& ~~~ BitVec.ofInt 64 (b : Int)).toNat : Int) = _
  rw [e, IntKind.wrap_i64]
  omega
theorem shr_cast (s e : Nat) : ((s : Int) / 2 ^ e) = ((s / 2 ^ e : Nat) : Int) := by
  rw [Int.natCast_ediv]; simp
theorem bit_and (s e : Nat) (hs : s < 9223372036854775808) : (bits .and .i64 ((s : Int) / 2 ^ e) 1 == 1) = s.testBit e := by
  rw [shr_cast]
  have h1 : s / 2 ^ e < 9223372036854775808 := Nat.lt_of_le_of_lt (Nat.div_le_self _ _) hs
  have := i64_and_nat (s / 2 ^ e) 1 h1 (by omega)
  rw [show ((1 : Nat) : Int) = 1 from rfl] at this
  rw [this, Nat.testBit_eq_decide_div_mod_eq, nat_mask1, Bool.eq_iff_iff]
  simp only [beq_iff_eq, decide_eq_true_eq]
  omega
theorem bit_tmod (s e : Nat) : (((s : Int) / 2 ^ e).tmod 2 == 1) = s.testBit e := by
  rw [shr_cast, Nat.testBit_eq_decide_div_mod_eq, Bool.eq_iff_iff, Int.tmod_eq_emod_of_nonneg (Int.natCast_nonneg _)]
  simp only [beq_iff_eq, decide_eq_true_eq]
  omega
theorem two_pow_le (n : Nat) (h : n ≤ 10) : 1 ≤ 2 ^ n ∧ 2 ^ n ≤ 1024 :=
  ⟨Nat.one_le_two_pow, (by have := Nat.pow_le_pow_right (n := 2) (by decide) h; simpa using this)⟩
theorem wrap_mask (k : Nat) (h : k ≤ 10) : wrap64 (wrap64 ((2 : Int) ^ k) - 1) = ((2 ^ k - 1 : Nat) : Int) := by
  have hp := two_pow_le k h
  have e : (2 : Int) ^ k = ((2 ^ k : Nat) : Int) := by simp
  simp only [e, wrap64]
  omega
theorem wrap_pow (k : Nat) (h : k ≤ 10) : wrap64 ((2 : Int) ^ k) = ((2 ^ k : Nat) : Int) := by
  have hp := two_pow_le k h
  have e : (2 : Int) ^ k = ((2 ^ k : Nat) : Int) := by simp
  simp only [e, wrap64]
  omega
theorem wrap_pow' (k : Nat) (h : k ≤ 10) : wrap64 ((2 : Int) ^ k) = (2 : Int) ^ k := by
  rw [wrap_pow k h]; simp
theorem or_pow (a k : Nat) (ha : a < 1024) (h : k ≤ 10) : bits .or .i64 (a : Int) ((2 : Int) ^ k) = ((a ||| 2 ^ k : Nat) : Int) := by
  have hp := two_pow_le k h
  have e : (2 : Int) ^ k = ((2 ^ k : Nat) : Int) := by simp
  rw [e]
  exact i64_or_nat a (2 ^ k) (by omega) (Nat.lt_of_le_of_lt hp.2 (by decide))
theorem pow_or (a k : Nat) (ha : a < 1024) (h : k ≤ 10) : bits .or .i64 ((2 : Int) ^ k) (a : Int) = ((2 ^ k ||| a : Nat) : Int) := by
  have hp := two_pow_le k h
  have e : (2 : Int) ^ k = ((2 ^ k : Nat) : Int) := by simp
  rw [e]
  exact i64_or_nat (2 ^ k) a (Nat.lt_of_le_of_lt hp.2 (by decide)) (by omega)
def Ints (w : World) (v : Value) (xs : List Int) : Prop :=
  ∃ A c, v = .slice A xs.length c ∧ (xs ≠ [] → ∃ b o, A = some ⟨b, o, none⟩ ∧ b < w.heap.size ∧ ∀ j, j < xs.length → w.cell? ⟨b, o + j, none⟩ = some (.int .i64 (xs.getD j 0)))
theorem Ints.below {w w' : World} {v : Value} {xs : List Int} (h : Ints w v xs) (hb : Below w.heap.size w w') : Ints w' v xs := by
  obtain ⟨A, c, rfl, h⟩ := h
  refine ⟨A, c, rfl, fun hx => ?_⟩
  obtain ⟨b, o, rfl, hlt, hc⟩ := h hx
  exact ⟨b, o, rfl, Nat.lt_of_lt_of_le hlt hb.size, fun j hj => (hb.cell (p := ⟨b, o + j, none⟩) hlt).trans (hc j hj)⟩
theorem Ints.alloc {w : World} {v : Value} {xs : List Int} (h : Ints w v xs) (o : Obj) : Ints (w.alloc o) v xs := h.below ((Below.refl _ _).alloc (Nat.le_refl _) o)
theorem Ints.drewN {w : World} {v : Value} {xs : List Int} (h : Ints w v xs) (n : Nat) : Ints (w.drewN n) v xs := h.below (Go.Joins.below_draws _ _ _)
theorem below_drewN {B : Nat} {a w : World} (h : Below B a w) (n : Nat) : Below B a (w.drewN n) := ⟨h.os, h.tape, h.output, h.size, h.block⟩
def Blk (w : World) (g : Nat) (t : TypeId) (cs : Array Value) : Prop := w.heap[g]? = some (.cells cs t (0, 0))
theorem Blk.lt {w : World} {g : Nat} {t : TypeId} {cs : Array Value} (h : Blk w g t cs) : g < w.heap.size := by
  rcases Nat.lt_or_ge g w.heap.size with hlt | hge
  · exact hlt
  · unfold Blk at h; rw [Array.getElem?_eq_none hge] at h; cases h
theorem Blk.cell {w : World} {g : Nat} {t : TypeId} {cs : Array Value} (h : Blk w g t cs) (i : Nat) : w.cell? ⟨g, i, none⟩ = cs[i]? := cell_of_row w g i cs t (0, 0) h
theorem Blk.frozen {w : World} {g : Nat} {t : TypeId} {cs : Array Value} (h : Blk w g t cs) (i : Nat) : w.frozen? ⟨g, i, none⟩ = false := by
  unfold Blk at h
  simp [World.frozen?, h]
theorem Blk.new (w : World) (t : TypeId) (cs : Array Value) : Blk (w.alloc (.cells cs t)) w.heap.size t cs := heap_alloc_new w _
theorem Blk.below {w w' : World} {g B : Nat} {t : TypeId} {cs : Array Value} (h : Blk w g t cs) (hb : Below B w w') (hg : g < B) : Blk w' g t cs := (hb.block g hg).trans h
theorem Blk.set_ {w : World} {g : Nat} {t : TypeId} {cs : Array Value} (h : Blk w g t cs) (i : Nat) (u : Value) : Blk (w.setCell ⟨g, i, none⟩ u) g t (cs.setIfInBounds i u) := by
  unfold Blk at h ⊢
  simp [World.setCell, Array.getElem?_modify, h]
theorem Blk.far {w : World} {g : Nat} {t : TypeId} {cs : Array Value} (h : Blk w g t cs) {p : Addr} (hp : g ≠ p.block) (u : Value) : Blk (w.setCell p u) g t cs := (Below.heap_setCell w p u g hp).trans h
theorem Blk.alloc {w : World} {g : Nat} {t : TypeId} {cs : Array Value} (h : Blk w g t cs) (o : Obj) : Blk (w.alloc o) g t cs := (Below.heap_alloc w o g h.lt).trans h
theorem Blk.newAt (w : World) (t : TypeId) (cs : Array Value) (g : Nat) (hg : g = w.heap.size) : Blk (w.alloc (.cells cs t)) g t cs := by subst hg; exact Blk.new w t cs
theorem Blk.ints {w : World} {g c : Nat} {t : TypeId} {xs : List Int} (h : Blk w g t (xs.map (Value.int .i64)).toArray) : Ints w (.slice (some ⟨g, 0, none⟩) xs.length c) xs := by
  refine ⟨_, _, rfl, fun _ => ⟨g, 0, rfl, h.lt, fun j hj => ?_⟩⟩
  rw [Nat.zero_add, h.cell]
  simp [hj]
theorem bcell {W w1 : World} (hb : Below W.heap.size W w1) : (∀ b o, b < W.heap.size → w1.cell? ⟨b, o, none⟩ = W.cell? ⟨b, o, none⟩) ∧ (∀ b o, b < W.heap.size → w1.frozen? ⟨b, o, none⟩ = W.frozen? ⟨b, o, none⟩) :=
  ⟨fun b o h => hb.cell (p := ⟨b, o, none⟩) h, fun b o h => hb.frozen (p := ⟨b, o, none⟩) h⟩
def At (w : World) (b : Nat) (v : Value) : Prop := w.cell? ⟨b, 0, none⟩ = some v ∧ b < w.heap.size
theorem At.below {w w' : World} {b : Nat} {v : Value} (h : At w b v) (hb : Below w.heap.size w w') : At w' b v :=
  ⟨(hb.cell (p := ⟨b, 0, none⟩) h.2).trans h.1, Nat.lt_of_lt_of_le h.2 hb.size⟩
theorem At.alloc {w : World} {b : Nat} {v : Value} (h : At w b v) (o : Obj) : At (w.alloc o) b v := h.below ((Below.refl _ _).alloc (Nat.le_refl _) o)
theorem At.drewN {w : World} {b : Nat} {v : Value} (h : At w b v) (n : Nat) : At (w.drewN n) b v := h.below (Go.Joins.below_draws _ _ _)
theorem At.drew {w : World} {b : Nat} {v : Value} (h : At w b v) : At w.drew b v := h.drewN 1
theorem Ints.drew {w : World} {v : Value} {xs : List Int} (h : Ints w v xs) : Ints w.drew v xs := h.drewN 1
theorem At.new (w : World) (v : Value) (t : TypeId) : At (w.alloc (.cells #[v] t)) w.heap.size v := ⟨(Blk.new w t #[v]).cell 0, by simp⟩
theorem At.far {w : World} {b : Nat} {v : Value} (h : At w b v) {p : Addr} (hp : b ≠ p.block) (u : Value) : At (w.setCell p u) b v :=
  ⟨(World.cell?_of_block (a := ⟨b, 0, none⟩) (Below.heap_setCell w p u b hp)).trans h.1, by simpa [World.setCell] using h.2⟩
theorem below_to {a w w' : World} (h : Below a.heap.size a w) (hb : Below w.heap.size w w') : Below a.heap.size a w' := h.trans (hb.mono h.size)
theorem below_alloc {a w : World} (h : Below a.heap.size a w) (o : Obj) : Below a.heap.size a (w.alloc o) := h.alloc h.size o
def OwnI (e : TypeId) (w : World) (B : Nat) (v : Value) (xs : List Int) : Prop := w.ownsRow B e 1 v xs.length (xs.map (Value.int .i64))
theorem OwnI.nil (e : TypeId) (w : World) (B : Nat) : OwnI e w B (.slice none 0 0) [] := World.ownsRow_nil w B e 1
theorem OwnI.shape {e : TypeId} {w : World} {B : Nat} {v : Value} {xs : List Int} (h : OwnI e w B v xs) :
    ∃ A c, v = .slice A xs.length c ∧ (xs ≠ [] → ∃ g, A = some ⟨g, 0, none⟩ ∧ g < w.heap.size ∧ B ≤ g) := by
  obtain ⟨-, h2⟩ := h
  rcases h2 with ⟨rfl, hn⟩ | ⟨g, cap, cur, rfl, hB, hh, _⟩
  · refine ⟨none, 0, by rw [hn], fun hx => ?_⟩
    exact absurd (List.eq_nil_of_length_eq_zero hn) hx
  · refine ⟨_, cap, rfl, fun _ => ⟨g, rfl, ?_, hB⟩⟩
    rcases Nat.lt_or_ge g w.heap.size with hlt | hge
    · exact hlt
    · rw [Array.getElem?_eq_none hge] at hh; cases hh
theorem OwnI.shape3 {e : TypeId} {w : World} {B : Nat} {v : Value} {xs : List Int} (h : OwnI e w B v xs) : ∃ A n c, v = .slice A n c := by
  obtain ⟨A, c, h, _⟩ := h.shape
  exact ⟨A, _, c, h⟩
theorem OwnI.ints {e : TypeId} {w : World} {B : Nat} {v : Value} {xs : List Int} (h : OwnI e w B v xs) : Ints w v xs := by
  obtain ⟨A, c, rfl, hA⟩ := h.shape
  refine ⟨A, c, rfl, fun hx => ?_⟩
  obtain ⟨g, rfl, hlt, -⟩ := hA hx
  refine ⟨g, 0, rfl, hlt, fun j hj => ?_⟩
  have h' : w.ownsRow B e 1 (.slice (some ⟨g, 0, none⟩) xs.length c) xs.length (xs.map (Value.int .i64)) := h
  have := h'.cellAt j (by omega)
  rw [Nat.zero_add, this]
  simp [hj]
theorem OwnI.grown {e : TypeId} {w w' : World} {B : Nat} {v : Value} {xs : List Int} {row : Option Nat} (h : OwnI e w B v xs) (hg : w.grownBy w' row) (hne : v.ownBlock = none ∨ v.ownBlock ≠ row) : OwnI e w' B v xs := World.ownsRow.kept h hg hne
theorem grown_of_below {a w : World} (h : Below a.heap.size a w) (row : Option Nat) : a.grownBy w row := ⟨h.os, h.tape, h.output, h.size, fun i hi _ => h.block i hi⟩
theorem OwnI.below {e : TypeId} {w w' : World} {B : Nat} {v : Value} {xs : List Int} (h : OwnI e w B v xs) (hb : Below w.heap.size w w') : OwnI e w' B v xs := by
  by_cases hv : v.ownBlock = none
  · exact h.grown (grown_of_below hb none) (.inl hv)
  · exact h.grown (grown_of_below hb none) (.inr hv)
theorem OwnI.alloc {e : TypeId} {w : World} {B : Nat} {v : Value} {xs : List Int} (h : OwnI e w B v xs) (o : Obj) : OwnI e (w.alloc o) B v xs := h.below ((Below.refl _ _).alloc (Nat.le_refl _) o)
theorem OwnI.drew {e : TypeId} {w : World} {B : Nat} {v : Value} {xs : List Int} (h : OwnI e w B v xs) : OwnI e w.drew B v xs := h
theorem OwnI.mono {e : TypeId} {w : World} {B B' : Nat} {v : Value} {xs : List Int} (h : OwnI e w B v xs) (hB : B' ≤ B) : OwnI e w B' v xs := by
  obtain ⟨h1, h2⟩ := h
  refine ⟨h1, ?_⟩
  rcases h2 with h2 | ⟨g, cap, cur, hv, hg, r⟩
  · exact .inl h2
  · exact .inr ⟨g, cap, cur, hv, by omega, r⟩
theorem Blk.own {e : TypeId} {w : World} {g B : Nat} {xs : List Int} (h : Blk w g e (xs.map (Value.int .i64)).toArray) (hB : B ≤ g) (hl : xs.length ≤ 1048576) : OwnI e w B (.slice (some ⟨g, 0, none⟩) xs.length xs.length) xs :=
  ⟨by simp, .inr ⟨g, xs.length, _, rfl, hB, h, Nat.le_refl _, by unfold maxLen; omega, by simp, by rw [Nat.mul_one]; exact List.take_of_length_le (by simp)⟩⟩
theorem OwnI.apart {e : TypeId} {w : World} {B : Nat} {v : Value} {xs : List Int} (h : OwnI e w B v xs) {k : Nat} (hk : k < B ∨ w.heap.size ≤ k) : v.ownBlock = none ∨ v.ownBlock ≠ some k := by
  refine .inr fun e => ?_
  have := World.ownsRow.lt h k e
  omega
theorem OwnI.blockLt {e : TypeId} {w : World} {B : Nat} {v : Value} {xs : List Int} (h : OwnI e w B v xs) : ∀ k, v.ownBlock = some k → B ≤ k ∧ k < w.heap.size := World.ownsRow.lt h
theorem grown_trans {a b c : World} {row : Option Nat} (h : a.grownBy b row) (k : b.grownBy c row) : a.grownBy c row :=
  ⟨k.os.trans h.os, k.tape.trans h.tape, k.output.trans h.output, Nat.le_trans h.size k.size, fun i hi hne => (k.block i (Nat.lt_of_lt_of_le hi h.size) hne).trans (h.block i hi hne)⟩
theorem grown_setCell {a w : World} {g : Nat} (h : a.grownBy w (some g)) (i : Nat) (u : Value) : a.grownBy (w.setCell ⟨g, i, none⟩ u) (some g) :=
  ⟨h.os, h.tape, h.output, by simpa [World.setCell] using h.size, fun k hk hne => (Below.heap_setCell w ⟨g, i, none⟩ u k (by rintro rfl; exact hne rfl)).trans (h.block k hk hne)⟩
theorem At.grown {w w' : World} {b : Nat} {v : Value} {row : Option Nat} (h : At w b v) (hg : w.grownBy w' row) (hne : row ≠ some b) : At w' b v :=
  ⟨hg.cell (a := ⟨b, 0, none⟩) h.1 (fun e => hne e.symm), Nat.lt_of_lt_of_le h.2 hg.size⟩
theorem below_grown {a w w' : World} {row : Option Nat} (h : Below a.heap.size a w) (hg : w.grownBy w' row) (hr : ∀ k, row = some k → a.heap.size ≤ k) : Below a.heap.size a w' := h.grown hg h.size hr
theorem Ints.later {a w : World} {v : Value} {xs : List Int} (h : Ints a v xs) (hb : Below a.heap.size a w) : Ints w v xs := h.below hb
theorem wpList_append_int {P : Program} {w W : World} {ops : Array Oper} {rest : List Oper} {o : Oper} {a : Act} {Q : Exit → Act → World → Prop} (hgd : o.guard = none) (s x : Operand) (t e : TypeId)
    (ho : o.op = .call { callee := .builtin .append, args := #[s, x], argTypes := #[t, t] }) (ht : P.underlying t = some (.slice e)) (hinfo : (P.info? e).map (fun i => (i.zero, i.size, i.bytes)) = some (some (.int .i64 0), 1, 8))
    (B : Nat) (v : Value) (xs : List Int) (y : Int) (hs : a.eval s = v) (hown : OwnI e w B v xs) (hW : W = w.alloc (.cells #[.int .i64 y] e)) (hx : a.eval x = .slice (some ⟨w.heap.size, 0, none⟩) 1 1) (hlen : xs.length < 1048576) (hB : B ≤ w.heap.size)
    (h : ∀ v' w', OwnI e w' B v' (xs ++ [y]) → Below B w w' → wpList P ops Q rest (a.put o.dst v') w') : wpList P ops Q (o :: rest) a W := by
  subst hW
  obtain ⟨i0, hi, hz0, hz1, hz2⟩ := info_parts hinfo
  refine wpList_append_own _ hgd s x t ho B e i0 (.int .i64 0) 1 8 ht hi hz0 hz1 hz2 rfl (by decide) v xs.length (xs.map (Value.int .i64)) hs (World.ownsRow.alloc hown _) ⟨w.heap.size, 0, none⟩ 1 1 [.int .i64 y] hx rfl ?_ ?_ ?_ ?_ ?_ ?_
  · intro j u hj
    match j, hj with
    | 0, hj =>
      simp only [List.getElem?_cons_zero, Option.some.injEq] at hj
      subst hj
      exact (Blk.new w e #[.int .i64 y]).cell 0
    | j + 1, hj => simp at hj
  · intro u hu
    simp only [List.mem_singleton] at hu
    subst hu; rfl
  · unfold maxLen; omega
  · omega
  · simp; omega
  · intro v' w' h2 h3 _
    refine h v' w' ?_ ?_
    · unfold OwnI
      simpa using h2
    · have h4 : Below B w (w.alloc (.cells #[.int .i64 y] e)) := (Below.refl _ _).alloc hB _
      refine h4.grown h3 (by simp; omega) fun k hk => ?_
      exact (World.ownsRow.lt hown k hk).1
theorem run_append_of_nil {P : Program} (w : World) (base : Nat) (t ty e : TypeId) (i : TypeInfo) (size : Nat) (ht : P.underlying t = some (.slice e)) (hi : P.info? e = some i)
    (v : Value) (n : Nat) (xs : List Value) (hown : w.ownsRow base e size v n xs) (c : Nat) : (Builtin.append_ #[t, t] ty #[v, .slice none 0 c]).run P w = .ok v w := by
  rcases hown.2 with ⟨rfl, rfl⟩ | ⟨g, cap, cur, rfl, _, _, hnc, _⟩
  · simp [Builtin.append_, run_underlying ht, sizeOf, typeInfo, hi, Builtin.lenOf, Builtin.firstCells]
  · simp [Builtin.append_, run_underlying ht, sizeOf, typeInfo, hi, Builtin.lenOf, Builtin.firstCells, hnc, storeCells]
theorem wpList_append_ints {P : Program} {w : World} {ops : Array Oper} {rest : List Oper} {o : Oper} {a : Act} {Q : Exit → Act → World → Prop} (hgd : o.guard = none) (s x : Operand) (t e : TypeId)
    (ho : o.op = .call { callee := .builtin .append, args := #[s, x], argTypes := #[t, t] }) (ht : P.underlying t = some (.slice e)) (hinfo : (P.info? e).map (fun i => (i.zero, i.size, i.bytes)) = some (some (.int .i64 0), 1, 8))
    (B : Nat) (v : Value) (xs : List Int) (hs : a.eval s = v) (hown : OwnI e w B v xs) (u : Value) (ys : List Int) (hx : a.eval x = u) (hu : Ints w u ys) (hlen : xs.length + ys.length ≤ 1048576) (hB : B ≤ w.heap.size)
    (h : ∀ v' w', OwnI e w' B v' (xs ++ ys) → Below B w w' → wpList P ops Q rest (a.put o.dst v') w') : wpList P ops Q (o :: rest) a w := by
  obtain ⟨i0, hi, hz0, hz1, hz2⟩ := info_parts hinfo
  obtain ⟨A, c, rfl, hA⟩ := hu
  have main : ∀ ad : Addr, A = some ad → (∀ j u, (ys.map (Value.int .i64))[j]? = some u → w.cell? (ad.add j) = some u) → wpList P ops Q (o :: rest) a w := by
    rintro ad rfl hcells
    refine wpList_append_own _ hgd s x t ho B e i0 (.int .i64 0) 1 8 ht hi hz0 hz1 hz2 rfl (by decide) v xs.length (xs.map (Value.int .i64)) hs hown ad ys.length c (ys.map (Value.int .i64)) hx (by simp) hcells ?_ ?_ ?_ ?_ ?_
    · intro u hu
      simp only [List.mem_map] at hu
      obtain ⟨y, _, rfl⟩ := hu
      rfl
    · unfold maxLen; omega
    · omega
    · exact hB
    · intro v' w' h2 h3 _
      refine h v' w' ?_ ?_
      · unfold OwnI
        simpa using h2
      · exact (Below.refl _ _).grown h3 hB fun k hk => (World.ownsRow.lt hown k hk).1
  by_cases hy : ys = []
  · subst hy
    rcases A with _ | ad
    · refine wpList_plain hgd fun K hK => ?_
      have hrun := run_append_of_nil (P := P) w B t o.type e i0 1 ht hi v xs.length _ hown c
      unfold Oper.wp
      simp [execOp, ho, resolve, invoke, builtin, hs, hx, hrun, Result.andThen]
      exact hK _ _ (h v w (by simpa using hown) (Below.refl _ _))
    · exact main ad rfl (by simp)
  · obtain ⟨b, off, rfl, hb, hc⟩ := hA hy
    refine main _ rfl fun j u hj => ?_
    rw [Go.WideShapes.add_plain]
    rw [List.getElem?_map] at hj
    by_cases hlt : j < ys.length
    · rw [hc j hlt, List.getD_eq_getElem?_getD]
      revert hj
      cases ys[j]? <;> simp
    · rw [List.getElem?_eq_none (by omega)] at hj; cases hj
theorem OwnI.empty (e : TypeId) (w : World) : OwnI e (w.alloc (.cells #[] e)) w.heap.size (.slice (some ⟨w.heap.size, 0, none⟩) 0 0) [] :=
  ⟨by simp, .inr ⟨w.heap.size, 0, #[], rfl, Nat.le_refl _, heap_alloc_new w _, Nat.le_refl _, by unfold maxLen; omega, by simp, by simp⟩⟩
theorem At.newAt (w : World) (v : Value) (t : TypeId) (b : Nat) (hb : b = w.heap.size) : At (w.alloc (.cells #[v] t)) b v := by subst hb; exact At.new w v t
theorem row_ne_row {v u : Value} {B E B' E' : Nat} (h : ∀ k, v.ownBlock = some k → B ≤ k ∧ k < E) (h' : ∀ k, u.ownBlock = some k → B' ≤ k ∧ k < E') (hs : E ≤ B' ∨ E' ≤ B) : v.ownBlock = none ∨ v.ownBlock ≠ u.ownBlock := by
  rcases hv : v.ownBlock with _ | k
  · exact .inl rfl
  · refine .inr fun e => ?_
    have h1 := h k hv
    have h2 := h' k e.symm
    omega
section
variable {H : Type} {enc : TypeId × Value → H} {P : Program}
theorem post_of_below {f : Func} {s : ChangeSpec} {apart fresh handsOn again : Bool} {W W' : World} {args : Array Value} {v : Value} {ds gs : List (DataW H)} {before pa pv : List MemPlace}
    (hW : DataW.Whole enc P f.params.toList s.vars apart W args.toList ds gs before)
    (hres : ∀ (b : Nat) (sp : Nat → Bool) (hd : Bool), DataW.TrodAll enc P W' b sp hd f.resultTypes.toList (v.resultList f.resultTypes.size) (s.fn H (ds ++ gs)).results [])
    (hargs : ∀ sp : Nat → Bool, (∀ p ∈ before, sp p.block = true) → DataW.TrodAll enc P W' 0 sp true f.params.toList args.toList (s.fn H (ds ++ gs)).args pa)
    (hvars : ∀ sp : Nat → Bool, (∀ p ∈ before, sp p.block = true) → DataW.TrodVars enc P W' sp s.vars (s.fn H (ds ++ gs)).vars pv)
    (hps : before = pa ++ pv) (hb : Below W.heap.size W W')
    (hok : ∀ (j : Nat) (t : TypeId) (r : Value), f.resultTypes[j]? = some t → (v.resultList f.resultTypes.size)[j]? = some r → Value.okWide P W' .any 0 t r) :
    s.post enc P f apart fresh handsOn again W args v W' := by
  have hlt : ∀ p ∈ before, p.block < W.heap.size := fun p hp => hW.lt p hp
  have hold : ∀ p ∈ before, (fun b => decide (b < W.heap.size)) p.block = true := fun p hp => by simpa using hlt p hp
  refine ⟨ds, gs, before, [], pa, pv, hW, hres _ _ _, hargs _ hold, hvars _ hold, World.keptBut_mono (fun p hp => ⟨hp, ?_⟩) (hb.frame (· ∈ before)), fun _ => ?_⟩
  · rw [hps, List.mem_append] at hp
    exact Or.inr hp
  · obtain ⟨_, _, _, _, _, hz, hn⟩ := hW
    refine ⟨hok, _, _, ([] ++ pa) ++ pv, ⟨[] ++ pa, pv, trodAll_append (hargs _ (fun _ _ => rfl)) (hres _ _ _), hvars _ (fun _ _ => rfl), rfl, ?_, ?_⟩, ?_⟩
    · intro b off hp
      have hin : MemPlace.cell b off ∈ before := by rw [hps]; simpa using hp
      rw [hb.frozen (hlt _ hin)]
      exact hz b off hin
    · intro ha
      have := hn ha
      rw [hps] at this
      simpa using this
    · intro p hp _
      rw [hps]
      simpa using hp
end
theorem trod_below {H : Type} {enc : TypeId × Value → H} {P : Program} {t : TypeId} (hl : laidOutB P = true) (hr : P.readableRec t = true) (hrow : t < P.types.size) {W W' : World} {sp : Nat → Bool} {v : Value} {d : DataW H} {ps : List MemPlace}
    (h : DataW.Trod enc P W 0 (fun _ => true) true t v d ps) (hb : Below W.heap.size W W') (hlt : ∀ x ∈ ps, x.block < W.heap.size) (hsp : ∀ x ∈ ps, sp x.block = true) :
    DataW.Trod enc P W' 0 sp true t v d ps := WideElems.Trod_stays hl hr hrow h (fun x hx => hb.same (hlt x hx)) hsp
end Go.Proofs.YtbmhaamenjhjfaaGreatDoor
namespace Go.Proofs.YtbmhaamenjhjfaaGreatDoor
def underN (xs : List Int) (s : Nat) : Nat → Nat
  | 0 => 0
  | k + 1 => if s.testBit k then underN xs s k ||| (xs.getD k 0).toNat else underN xs s k
def under (xs : List Int) (s : Nat) : Nat := underN xs s xs.length
def Small (xs : List Int) (s : Nat) : Prop := ∀ e, e < xs.length → s.testBit e = true → 0 ≤ xs.getD e 0 ∧ xs.getD e 0 < 1024
theorem underN_lt (xs : List Int) (s : Nat) (hs : Small xs s) (k : Nat) (hk : k ≤ xs.length) : underN xs s k < 1024 := by
  induction k with
  | zero => simp [underN]
  | succ k ih =>
    have := ih (by omega)
    unfold underN
    split
    · rename_i h
      have h2 := hs k (by omega) h
      exact Nat.or_lt_two_pow (n := 10) this (by omega)
    · exact this
theorem underN_testBit (xs : List Int) (s k j : Nat) : (underN xs s k).testBit j = true ↔ ∃ e, e < k ∧ s.testBit e = true ∧ (xs.getD e 0).toNat.testBit j = true := by
  induction k with
  | zero => simp [underN]
  | succ k ih =>
    unfold underN
    split
    · rename_i h
      rw [Nat.testBit_or, Bool.or_eq_true, ih]
      constructor
      · rintro (⟨e, h1, h2, h3⟩ | h3)
        · exact ⟨e, by omega, h2, h3⟩
        · exact ⟨k, by omega, h, h3⟩
      · rintro ⟨e, h1, h2, h3⟩
        by_cases he : e = k
        · subst he; exact .inr h3
        · exact .inl ⟨e, by omega, h2, h3⟩
    · rename_i h
      rw [ih]
      constructor
      · rintro ⟨e, h1, h2, h3⟩; exact ⟨e, by omega, h2, h3⟩
      · rintro ⟨e, h1, h2, h3⟩
        by_cases he : e = k
        · subst he; exact absurd h2 h
        · exact ⟨e, by omega, h2, h3⟩
def holdsIdeal (xs : List Int) (s : Nat) : Bool := sub (under xs s) s == 0
def top (xs : List Int) (s : Nat) : Nat := sub s (under xs s)
def down (xs : List Int) (s : Nat) : Nat := s ||| under xs s
def bottomN (xs : List Int) (s : Nat) : Nat → Nat
  | 0 => 0
  | k + 1 => if s.testBit k && ((xs.getD k 0).toNat &&& s == 0) then bottomN xs s k ||| 2 ^ k else bottomN xs s k
def bottom (xs : List Int) (s : Nat) : Nat := bottomN xs s xs.length
def okAt (xs : List Int) (i : Nat) : Bool := decide (0 ≤ xs.getD i 0) && decide (xs.getD i 0 ≤ (2 ^ i - 1 : Nat)) && holdsIdeal xs (xs.getD i 0).toNat
def good (xs : List Int) : Bool := (decide (1 ≤ xs.length) && decide (xs.length ≤ 10)) && (List.range xs.length).all (okAt xs)
def okSet (xs : List Int) (s : Int) : Bool := good xs && (decide (0 ≤ s) && decide (s ≤ (2 ^ xs.length - 1 : Nat)))
theorem sub_eq_zero (a b : Nat) : sub a b = 0 ↔ ∀ i, a.testBit i = true → b.testBit i = true := by
  constructor
  · intro h i hi
    have := sub_testBit a b i
    rw [h, hi] at this
    revert this
    cases b.testBit i <;> simp
  · intro h
    apply Nat.eq_of_testBit_eq
    intro i
    rw [sub_testBit]
    have := h i
    cases ha : a.testBit i
    · simp
    · simp [this ha]
theorem holdsIdeal_iff (xs : List Int) (s : Nat) : holdsIdeal xs s = true ↔ ∀ e, e < xs.length → s.testBit e = true → sub (xs.getD e 0).toNat s = 0 := by
  unfold holdsIdeal
  rw [beq_iff_eq, sub_eq_zero]
  constructor
  · intro h e he hb
    rw [sub_eq_zero]
    exact fun i hi => h i ((underN_testBit xs s xs.length i).2 ⟨e, he, hb, hi⟩)
  · intro h i hi
    obtain ⟨e, he, hb, h2⟩ := (underN_testBit xs s xs.length i).1 hi
    exact (sub_eq_zero _ _).1 (h e he hb) i h2
theorem testBit_lt {s n e : Nat} (h : s < 2 ^ n) (hb : s.testBit e = true) : e < n := by
  rcases Nat.lt_or_ge e n with h1 | h1
  · exact h1
  · rw [Nat.testBit_lt_two_pow (Nat.lt_of_lt_of_le h (Nat.pow_le_pow_right (by decide) h1))] at hb
    cases hb
theorem okAt_range {xs : List Int} {i : Nat} (h : okAt xs i = true) : 0 ≤ xs.getD i 0 ∧ xs.getD i 0 ≤ (2 ^ i - 1 : Nat) := by
  simp only [okAt, Bool.and_eq_true, decide_eq_true_eq] at h
  exact h.1
theorem okAt_not {xs : List Int} {i : Nat} (h : ¬ (0 ≤ xs.getD i 0 ∧ xs.getD i 0 ≤ (2 ^ i - 1 : Nat))) : okAt xs i = false := by
  cases hc : okAt xs i
  · rfl
  · exact absurd (okAt_range hc) h
theorem okAt_small {xs : List Int} {i : Nat} (h : okAt xs i = true) (hi : i < 10) : 0 ≤ xs.getD i 0 ∧ xs.getD i 0 < 512 := by
  have := okAt_range h
  have hp := Nat.pow_le_pow_right (n := 2) (by decide) (Nat.le_of_lt_succ hi)
  omega
theorem good_length {xs : List Int} (h : good xs = true) : 1 ≤ xs.length ∧ xs.length ≤ 10 := by
  simp only [good, Bool.and_eq_true, decide_eq_true_eq] at h
  exact h.1
theorem good_at {xs : List Int} (h : good xs = true) {i : Nat} (hi : i < xs.length) : okAt xs i = true := by
  simp only [good, Bool.and_eq_true] at h
  exact List.all_eq_true.1 h.2 i (List.mem_range.2 hi)
theorem good_small {xs : List Int} (h : good xs = true) (s : Nat) : Small xs s := fun e he _ => by
  have := okAt_small (good_at h he) (by have := good_length h; omega)
  omega
theorem small_of {xs : List Int} {s k : Nat} (hs : s < 2 ^ k) (hk : k ≤ 10) (h : ∀ j, j < k → okAt xs j = true) : Small xs s := fun e _ hb => by
  have h1 := testBit_lt hs hb
  have := okAt_small (h e h1) (by omega)
  omega
theorem good_of {xs : List Int} (h1 : 1 ≤ xs.length) (h2 : xs.length ≤ 10) (h : ∀ j, j < xs.length → okAt xs j = true) : good xs = true := by
  simp only [good, Bool.and_eq_true, decide_eq_true_eq]
  exact ⟨⟨h1, h2⟩, List.all_eq_true.2 fun j hj => h j (List.mem_range.1 hj)⟩
theorem not_good {xs : List Int} {k : Nat} (hk : k < xs.length) (h : okAt xs k = false) : good xs = false := by
  cases hg : good xs
  · rfl
  · rw [good_at hg hk] at h; cases h
theorem not_good_length {xs : List Int} (h : ¬ (1 ≤ xs.length ∧ xs.length ≤ 10)) : good xs = false := by
  cases hg : good xs
  · rfl
  · exact absurd (good_length hg) h
theorem okSet_good {xs : List Int} {s : Int} (h : okSet xs s = true) : good xs = true ∧ 0 ≤ s ∧ s ≤ (2 ^ xs.length - 1 : Nat) := by
  simp only [okSet, Bool.and_eq_true, decide_eq_true_eq] at h
  exact h
theorem okSet_lt {xs : List Int} {s : Int} (h : okSet xs s = true) : 0 ≤ s ∧ s < 1024 := by
  obtain ⟨h1, h2, h3⟩ := okSet_good h
  have := two_pow_le xs.length (good_length h1).2
  omega
end Go.Proofs.YtbmhaamenjhjfaaGreatDoor
namespace Go.Proofs.YtbmhaamenjhjfaaGreatDoor
open Go.RowKit Go.WideShapes Go.ChangeShapes
theorem hasElement_any (s e : Nat) (hs : s < 9223372036854775808) (he : e < 64) (w : World) : Calls Tryz.prog 165 #[.int .i64 s, .int .i64 e] w fun r w' => r = .returned (.bool (s.testBit e)) ∧ w = w' := by
  have hb := hid (bit_and s e hs)
  have hm := hid (Nat.min_eq_left (Nat.le_of_lt he))
  clear hs
  go_enter Tryz.func165, Tryz.ntmps165
  go_wp2
  go_ret
  exact ⟨ret_bool (by simpa [hm.out] using hb.out), rfl⟩
theorem poIn_any (s e : Nat) (he : e < 64) (w : World) : Calls Tryz.prog 130 #[.int .i64 s, .int .i64 e] w fun r w' => r = .returned (.bool (s.testBit e)) ∧ w = w' := by
  have hb := hid (bit_tmod s e)
  have hm := hid (Nat.min_eq_left (Nat.le_of_lt he))
  go_enter Tryz.func130, Tryz.ntmps130
  go_wp2
  go_ret
  exact ⟨ret_bool (by simpa [hm.out] using hb.out), rfl⟩
theorem wholeSet_any (n : Nat) (h : n ≤ 10) (w : World) : Calls Tryz.prog 148 #[.int .i64 n] w fun r w' => r = .returned (.int .i64 (2 ^ n - 1 : Nat)) ∧ w = w' := by
  have hp := two_pow_le n h
  go_enter Tryz.func148, Tryz.ntmps148
  go_wp2
  go_ret
  refine ⟨ret_int ?_, rfl⟩
  have e : (2 : Int) ^ n = ((2 ^ n : Nat) : Int) := by simp
  simp only [e]
  simp [wrap64]
  omega
theorem isSize_any (s : Int) (w : World) : Calls Tryz.prog 162 #[.int .i64 s] w fun r w' => r = .returned (.bool (decide (1 ≤ s) && decide (s ≤ 10))) ∧ w = w' := by
  go_enter Tryz.func162, Tryz.ntmps162
  go_wp2
  all_goals go_ret
  all_goals exact ⟨ret_bool (by simp <;> omega), rfl⟩
theorem l1In_any (n lo hi : Int) (w : World) : Calls Tryz.prog 129 #[.int .i64 n, .int .i64 lo, .int .i64 hi] w fun r w' => r = .returned (.bool (decide (lo ≤ n) && decide (n ≤ hi))) ∧ w = w' := by
  go_enter Tryz.func129, Tryz.ntmps129
  go_wp2
  all_goals go_ret
  all_goals exact ⟨ret_bool (by simp <;> omega), rfl⟩
theorem under_any (v : Value) (xs : List Int) (s : Nat) (w : World) (hv : Ints w v xs) (hl : xs.length ≤ 10) (hs : s < 1024) (hsm : Small xs s) :
    Calls Tryz.prog 149 #[.agg #[v], .int .i64 s] w fun r w' => r = .returned (.int .i64 (under xs s : Nat)) ∧ Below w.heap.size w w' := by
  obtain ⟨A, c, rfl, hA⟩ := hv
  have hlt := fun k hk => underN_lt xs s hsm k hk
  have HA := hid hA
  have Hlt := hid hlt
  have Hs := hid hsm
  clear hA hlt hsm
  go_enter Tryz.func149, Tryz.ntmps149
  go_wp2
  go_loop [5, 11] (fun f i => ∃ k : Nat, k ≤ xs.length ∧ i = .int .i64 k ∧ f = .int .i64 (underN xs s k : Nat)) (fun _ i => xs.length - (intOf i).toNat)
  case atStart => exact ⟨0, Nat.zero_le _, rfl, rfl⟩
  case round =>
    obtain ⟨k, hk, rfl, rfl⟩ := hrel
    by_cases hlt : k < xs.length
    · obtain ⟨b, o, rfl, hb, hc⟩ := HA.out (by intro h; simp [h] at hlt)
      have hcell := hc k hlt
      clear hc
      cases hbit : s.testBit k
      · have Hbit := hid hbit
        clear hbit
        go_wp2_with (go_at_call 165; refine (hasElement_any s k (by omega) (by omega) _).mono ?_; rw [Hbit.out]; rintro e w' ⟨rfl, rfl⟩)
        go_round
        case rel => exact ⟨k + 1, by omega, by go_num, by simp [underN, Hbit.out]⟩
        case measure => simp [intOf]; omega
      · have h2 := Hs.out k hlt hbit
        have h3 := Hlt.out k hk
        obtain ⟨z, hz⟩ := Int.eq_ofNat_of_zero_le h2.1
        rw [hz] at hcell
        have hor := i64_or_nat (underN xs s k) z (by omega) (by omega)
        have Hz := hid hz
        have Hbit := hid hbit
        clear hz hbit h2 h3
        go_wp2_with (go_at_call 165; refine (hasElement_any s k (by omega) (by omega) _).mono ?_; rw [Hbit.out]; rintro e w' ⟨rfl, rfl⟩)
        go_round
        case rel => exact ⟨k + 1, by omega, by go_num, by rw [underN, if_pos Hbit.out, Hz.out]; rfl⟩
        case measure => simp [intOf]; omega
    · obtain rfl : k = xs.length := by omega
      go_wp2
      go_ret
      exact ⟨rfl, (Below.refl _ _).alloc (Nat.le_refl _) _⟩
theorem top_any (v : Value) (xs : List Int) (s : Nat) (w : World) (hv : Ints w v xs) (hl : xs.length ≤ 10) (hs : s < 1024) (hsm : Small xs s) :
    Calls Tryz.prog 178 #[.agg #[v], .int .i64 s] w fun r w' => r = .returned (.int .i64 (top xs s : Nat)) ∧ Below w.heap.size w w' := by
  have hu := underN_lt xs s hsm xs.length (Nat.le_refl _)
  have hb := i64_andNot_nat s (under xs s) (by omega) (by unfold under; omega)
  have HV := hid hv
  have HS := hid hsm
  clear hv hsm hu
  go_enter Tryz.func178, Tryz.ntmps178
  go_wp2_with (go_at_call 149; refine (under_any v xs s _ (HV.out.alloc _) hl hs HS.out).mono ?_; rintro e w1 ⟨rfl, hb1⟩)
  go_ret
  exact ⟨ret_int rfl, ((Below.refl _ _).alloc (Nat.le_refl _) _).trans (hb1.mono (by simp))⟩
theorem holdsIdeal_any (v : Value) (xs : List Int) (s : Nat) (w : World) (hv : Ints w v xs) (hl : xs.length ≤ 10) (hs : s < 1024) (hsm : Small xs s) :
    Calls Tryz.prog 95 #[.agg #[v], .int .i64 s] w fun r w' => r = .returned (.bool (holdsIdeal xs s)) ∧ Below w.heap.size w w' := by
  have hu := underN_lt xs s hsm xs.length (Nat.le_refl _)
  have hb := i64_andNot_nat (under xs s) s (by unfold under; omega) (by omega)
  have HV := hid hv
  have HS := hid hsm
  clear hv hsm hu
  go_enter Tryz.func95, Tryz.ntmps95
  go_wp2_with (go_at_call 149; refine (under_any v xs s _ (HV.out.alloc _) hl hs HS.out).mono ?_; rintro e w1 ⟨rfl, hb1⟩)
  go_ret
  exact ⟨ret_bool (by rw [holdsIdeal, nat_beq0]), ((Below.refl _ _).alloc (Nat.le_refl _) _).trans (hb1.mono (by simp))⟩
end Go.Proofs.YtbmhaamenjhjfaaGreatDoor
namespace Go.Proofs.YtbmhaamenjhjfaaGreatDoor
open Go.RowKit Go.WideShapes Go.ChangeShapes
theorem box_cell {w wr : World} {cs : Array Value} {T : TypeId} (h : Below (w.heap.size + 1) (w.alloc (.cells cs T)) wr) (i : Nat) : wr.cell? ⟨w.heap.size, i, none⟩ = cs[i]? := by
  rw [h.cell (p := ⟨w.heap.size, i, none⟩) (Nat.lt_succ_self _), (Blk.new w T cs).cell]
theorem Ints.box {w wr : World} {v : Value} {xs : List Int} {cs : Array Value} {T : TypeId} (hv : Ints w v xs) (h : Below (w.heap.size + 1) (w.alloc (.cells cs T)) wr) : Ints wr v xs :=
  (hv.alloc (.cells cs T)).below (h.mono (by simp))
theorem below_box {w wr : World} {cs : Array Value} {T : TypeId} (h : Below (w.heap.size + 1) (w.alloc (.cells cs T)) wr) : Below w.heap.size w wr :=
  ((Below.refl _ _).alloc (Nat.le_refl _) _).trans (h.mono (by omega))
theorem implIsPoset_any (v : Value) (xs : List Int) (w : World) (hv : Ints w v xs) (hl : xs.length ≤ 1048576) :
    Calls Tryz.prog 147 #[.agg #[v]] w fun r w' => r = .returned (.bool (good xs)) ∧ Below w.heap.size w w' := by
  have HV := hid hv
  obtain ⟨A, c, rfl, hA⟩ := hv
  have HA := hid hA
  clear hA
  by_cases hn : 1 ≤ xs.length ∧ xs.length ≤ 10
  · have hd : (decide ((1 : Int) ≤ (xs.length : Int)) && decide ((xs.length : Int) ≤ 10)) = true := by simp; omega
    have Hd := hid hd
    clear hd
    obtain ⟨hn1, hn2⟩ := hn
    go_enter Tryz.func147, Tryz.ntmps147
    go_wp2_with (go_at_call 162; refine (isSize_any _ _).mono ?_; rw [Hd.out]; rintro e w' ⟨rfl, rfl⟩)
    go_loopw [13] (fun i wr => ∃ k : Nat, k ≤ xs.length ∧ i = .int .i64 k ∧ Hid (∀ j, j < k → okAt xs j = true) ∧ Below (w.heap.size + 1) (w.alloc (.cells #[.slice A xs.length c] 28)) wr) (fun i _ => xs.length - (intOf i).toNat)
    case atStart => exact ⟨0, Nat.zero_le _, rfl, hid (fun j hj => absurd hj (Nat.not_lt_zero _)), Below.refl _ _⟩
    case round =>
      obtain ⟨k, hk, rfl, Hok, hb⟩ := hrel
      by_cases hlt : k < xs.length
      · obtain ⟨b, o, rfl, hbl, hc⟩ := HA.out (by intro h; simp [h] at hlt)
        have hcell : wr.cell? ⟨b, o + k, none⟩ = some (.int .i64 (xs.getD k 0)) := by
          rw [(below_box hb).cell (p := ⟨b, o + k, none⟩) hbl]; exact hc k hlt
        have hbox := box_cell hb 0
        have HB := hid hb
        clear hc hb
        obtain ⟨x, hx⟩ : ∃ x, xs.getD k 0 = x := ⟨_, rfl⟩
        rw [hx] at hcell
        have Hx := hid hx
        clear hx
        by_cases hneg : x < 0
        · have hg : good xs = false := not_good hlt (okAt_not (by rw [Hx.out]; omega))
          have Hg := hid hg
          clear hg
          go_wp2
          go_ret
          exact ⟨ret_bool Hg.out.symm, below_box HB.out⟩
        · obtain ⟨z, hz⟩ := Int.eq_ofNat_of_zero_le (by omega : 0 ≤ x)
          have hp := two_pow_le k (by omega)
          subst hz
          by_cases hbig : z < 2 ^ k
          · have hh : okAt xs k = holdsIdeal xs z := by
              simp only [okAt, Hx.out, Int.toNat_natCast]
              rw [decide_eq_true (by omega : (0 : Int) ≤ (z : Int)), decide_eq_true (by omega : (z : Int) ≤ ((2 ^ k - 1 : Nat) : Int))]
              rfl
            have hsm := small_of hbig (by omega) Hok.out
            have Hsm := hid hsm
            clear hsm hneg
            have hle : ¬ ((2 ^ k - 1 : Nat) : Int) < (z : Int) := by omega
            cases hI : holdsIdeal xs z
            · have hg : good xs = false := not_good hlt (hh.trans hI)
              have Hg := hid hg
              have HI := hid hI
              clear hg hI hh
              go_wp2_with (first | (go_at_call 148; refine (wholeSet_any k (by omega) _).mono ?_; rintro e w' ⟨rfl, rfl⟩) | (go_at_call 95; refine (holdsIdeal_any _ xs z _ (Ints.box HV.out HB.out) (by omega) (by omega) Hsm.out).mono ?_; rw [HI.out]; rintro e w1 ⟨rfl, hb1⟩))
              go_ret
              exact ⟨ret_bool Hg.out.symm, (below_box HB.out).trans (hb1.mono (below_box HB.out).size)⟩
            · have HI := hid hI
              have Hk := hid (hh.trans hI)
              clear hI hh
              go_wp2_with (first | (go_at_call 148; refine (wholeSet_any k (by omega) _).mono ?_; rintro e w' ⟨rfl, rfl⟩) | (go_at_call 95; refine (holdsIdeal_any _ xs z _ (Ints.box HV.out HB.out) (by omega) (by omega) Hsm.out).mono ?_; rw [HI.out]; rintro e w1 ⟨rfl, hb1⟩))
              go_roundw
              case rel => exact ⟨k + 1, by omega, by go_num, hid (fun j hj => by
                by_cases h : j = k
                · subst h; exact Hk.out
                · exact Hok.out j (by omega)), HB.out.trans (hb1.mono (by have := HB.out.size; simp at this; omega))⟩
              case measure => simp [intOf]; omega
          · have hg : good xs = false := not_good hlt (okAt_not (by rw [Hx.out]; omega))
            have Hg := hid hg
            have hle : ((2 ^ k - 1 : Nat) : Int) < (z : Int) := by omega
            clear hg hbig
            go_wp2_with (go_at_call 148; refine (wholeSet_any k (by omega) _).mono ?_; rintro e w' ⟨rfl, rfl⟩)
            go_ret
            exact ⟨ret_bool Hg.out.symm, below_box HB.out⟩
      · obtain rfl : k = xs.length := by omega
        have hg := good_of hn1 hn2 Hok.out
        have HB := hid hb
        clear hb
        go_wp2
        go_ret
        exact ⟨ret_bool hg.symm, below_box HB.out⟩
  · have hd : (decide ((1 : Int) ≤ (xs.length : Int)) && decide ((xs.length : Int) ≤ 10)) = false := by
      rw [Bool.eq_false_iff]; simp; omega
    have Hd := hid hd
    have Hg := hid (not_good_length hn)
    clear hd hn
    go_enter Tryz.func147, Tryz.ntmps147
    go_wp2_with (go_at_call 162; refine (isSize_any _ _).mono ?_; rw [Hd.out]; rintro e w' ⟨rfl, rfl⟩)
    go_ret
    exact ⟨ret_bool Hg.out.symm, (Below.refl _ _).alloc (Nat.le_refl _) _⟩
end Go.Proofs.YtbmhaamenjhjfaaGreatDoor
