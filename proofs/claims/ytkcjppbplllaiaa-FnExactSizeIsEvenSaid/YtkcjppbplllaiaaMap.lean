/- A set of ideals kept in a map: the least of it, and what is left behind a removal. -/
import Derived.Test.YtkcjppbplllaiaaLaw
import Derived.Test.YtkcjppbplllaiaaNest
import Derived.Maps.RangeWalk
namespace Go.Proofs.Ytkcjppbplllaiaa
open Go.RowKit Go.WideShapes Go.ChangeShapes
open Go.Maps (Keyed keyOf_int_mk int_keyed)
set_option linter.unusedVariables false

theorem lawInt : Keyed Try.prog 3 := int_keyed Try.underlying3
theorem plainElem_bool_inv {H : Type} {P : Program} {e : TypeId} (he : P.underlying e = some .bool) {v : Value} {z : DataW H × List MemPlace} (h : plainElem P e v = some z) : ∃ c, v = .bool c := by
  unfold plainElem at h
  rw [he] at h
  cases v <;> simp at h
  exact ⟨_, rfl⟩
/-- block b is a map whose keys are the numbers of S -/
def MSet (w : World) (b n : Nat) (S : Nat → Bool) : Prop :=
  ∃ D : DataW Unit, w.ownsMap Try.prog 3 (plainElem Try.prog 4) b n D ∧ ∀ x : Int, Maps.has D (.int .i64 x) = true ↔ ∃ s : Nat, x = (s : Int) ∧ S s = true
theorem MSet.made (w : World) : MSet (w.alloc (.map #[] 0)) w.heap.size 0 (fun _ => false) :=
  ⟨.map [], World.ownsMap_made _ _ _ _, fun x => by simp [Maps.has_eq]⟩
theorem MSet.lt {w : World} {b n : Nat} {S : Nat → Bool} (h : MSet w b n S) : b < w.heap.size := by
  obtain ⟨D, h1, _⟩ := h; exact h1.lt
theorem MSet.belowB {w w' : World} {b n B : Nat} {S : Nat → Bool} (h : MSet w b n S) (hb : Below B w w') (hB : b < B) : MSet w' b n S := by
  obtain ⟨D, ⟨es, clock, h1, h2⟩, h3⟩ := h
  exact ⟨D, ⟨es, clock, (hb.block b hB).trans h1, h2⟩, h3⟩
theorem MSet.below {w w' : World} {b n : Nat} {S : Nat → Bool} (h : MSet w b n S) (hb : Below w.heap.size w w') : MSet w' b n S := h.belowB hb h.lt
theorem MSet.drew {w : World} {b n : Nat} {S : Nat → Bool} (h : MSet w b n S) : MSet w.drew b n S := h
theorem MSet.mono {w : World} {b n n' : Nat} {S : Nat → Bool} (h : MSet w b n S) (hn : n ≤ n') : MSet w b n' S := by
  obtain ⟨D, h1, h2⟩ := h; exact ⟨D, h1.mono hn, h2⟩
theorem MSet.congr {w : World} {b n : Nat} {S S' : Nat → Bool} (h : MSet w b n S) (e : ∀ s, S s = S' s) : MSet w b n S' := by
  obtain ⟨D, h1, h2⟩ := h
  exact ⟨D, h1, fun x => by rw [h2]; constructor <;> rintro ⟨s, hs, hS⟩ <;> exact ⟨s, hs, by simpa [e] using hS⟩⟩
theorem lit_ne {x y : Int} (h : x ≠ y) : (Lit.int .i64 x) ≠ (Lit.int .i64 y) := fun e => h (by injection e)
theorem has_put {D : DataW Unit} (hD : Maps.IsMap D) {S : Nat → Bool} (h : ∀ x : Int, Maps.has D (.int .i64 x) = true ↔ ∃ s : Nat, x = (s : Int) ∧ S s = true) (t : Nat) (d : DataW Unit) (x : Int) :
    Maps.has (D.put (.int .i64 (t : Int)) d) (.int .i64 x) = true ↔ ∃ s : Nat, x = (s : Int) ∧ (S s || s == t) = true := by
  by_cases e : x = (t : Int)
  · subst e
    rw [Maps.has_put_same hD (by trivial)]
    exact ⟨fun _ => ⟨t, rfl, by simp⟩, fun _ => rfl⟩
  · rw [Maps.has_put_other (lit_ne e), h]
    constructor
    · rintro ⟨s, hs, hS⟩; exact ⟨s, hs, by simp [hS]⟩
    · rintro ⟨s, hs, hS⟩
      refine ⟨s, hs, ?_⟩
      simp only [Bool.or_eq_true, beq_iff_eq] at hS
      rcases hS with hS | hS
      · exact hS
      · exact absurd (by rw [hs, hS]) e
theorem has_del {D : DataW Unit} {S : Nat → Bool} (h : ∀ x : Int, Maps.has D (.int .i64 x) = true ↔ ∃ s : Nat, x = (s : Int) ∧ S s = true) (t : Nat) (x : Int) :
    Maps.has (D.del (.int .i64 (t : Int))) (.int .i64 x) = true ↔ ∃ s : Nat, x = (s : Int) ∧ (S s && !(s == t)) = true := by
  by_cases e : x = (t : Int)
  · subst e
    rw [Maps.has_del_same]
    constructor
    · intro h; cases h
    · rintro ⟨s, hs, hS⟩
      have : s = t := by omega
      subst this
      simp at hS
  · rw [Maps.has_del_other (lit_ne e), h]
    constructor
    · rintro ⟨s, hs, hS⟩; exact ⟨s, hs, by simp [hS]; rintro rfl; exact e hs⟩
    · rintro ⟨s, hs, hS⟩
      simp only [Bool.and_eq_true] at hS
      exact ⟨s, hs, hS.1⟩
/-- a map that has entries has a key; one that has none has none -/
theorem size_pos {w : World} {b n : Nat} {D : DataW Unit} (h : w.ownsMap Try.prog 3 (plainElem Try.prog 4) b n D) (hs : 0 < Maps.size D) : ∃ x : Int, Maps.has D (.int .i64 x) = true := by
  obtain ⟨es, clock, hb, F, hz, rfl⟩ := h
  have e1 : 0 < es.toList.length := by simpa [Maps.size, length_sorted] using hs
  obtain ⟨x, hx⟩ := List.exists_mem_of_length_pos e1
  obtain ⟨y, hy⟩ := F.reads x hx
  have hk := WideElems.rd_key hy
  obtain ⟨a, h1, h2, h3⟩ := Maps.keyOf_int_inv Try.underlying3 hk
  refine ⟨a, ?_⟩
  refine List.any_eq_true.2 ⟨WideElems.rg Try.prog 3 (plainElem Try.prog 4) x, mem_sorted.2 (List.mem_map.2 ⟨x, hx, rfl⟩), ?_⟩
  rw [WideElems.rg_of hy, h2]
  exact WideAt.sameKey_self trivial
theorem pos_of_has {D : DataW Unit} (hD : Maps.IsMap D) {kl : Lit} (h : Maps.has D kl = true) : 0 < Maps.size D := by
  obtain ⟨es, rfl⟩ := hD
  rw [Maps.has_eq] at h
  rw [Maps.size_eq]
  obtain ⟨p, hp, _⟩ := List.any_eq_true.1 h
  exact List.length_pos_of_mem hp
theorem grown_below {w w' : World} {r : Nat} {B : Nat} (h : Below B w w') {w'' : World} (hg : w'.grownBy w'' (some r)) (hr : B ≤ r) (hB : B ≤ w.heap.size) : Below B w w'' :=
  h.grown hg (Nat.le_trans hB h.size) (fun k hk => by simp only [Option.some.injEq] at hk; subst hk; exact hr)
set_option maxRecDepth 100000 in
set_option maxHeartbeats 800000 in
theorem least_any (b n m : Nat) (S : Nat → Bool) (w : World) (hm : MSet w b n S) (hm1 : S m = true) (hm2 : ∀ s, S s = true → m ≤ s) (hbig : m < 1024) :
    Calls Try.prog 58 #[.map (some b)] w fun r w' => r = .returned (.int .i64 (m : Nat)) ∧ Below w.heap.size w w' := by
  obtain ⟨D, hown, hD⟩ := hm
  have HD := hid hD
  have HM1 := hid hm1
  have HM2 := hid hm2
  clear hD hm1 hm2
  go_enter Try.func58, Try.ntmps58
  go_wp2_with (first
    | (at_range; refine wpList_range_own _ rfl _ 60 rfl 3 4 lawInt Try.underlying60 _ b n _ rfl hown ?_; intro w0 hrg0 hg0 hs0)
    | go_in)
  go_frame
  go_loopw [3] (fun q wr => ∃ (left : Lit → Bool) (cnt : Nat) (y : Int), q = .int .i64 y ∧ wr.ranges Try.prog 3 (plainElem Try.prog 4) b w.heap.size n D left cnt ∧ Below w.heap.size w wr ∧ Hid (∀ x : Int, Maps.has D (.int .i64 x) = true → left (.int .i64 x) = false → y ≤ x) ∧ Hid (y = 9223372036854775807 ∨ Maps.has D (.int .i64 y) = true)) (fun _ wr => wr.rangeLeft b w.heap.size)
  case atStart => exact ⟨_, _, _, rfl, hrg0, (Below.refl _ _).grown hg0 (Nat.le_refl _) (fun k hk => by cases hk), hid (fun x h1 h2 => by rw [h1] at h2; cases h2), hid (Or.inl rfl)⟩
  case round =>
    obtain ⟨left, cnt, y, rfl, hrg, hb, HY, HE⟩ := hrel
    go_wp2_with (first
      | (at_next; refine wpList_next_ranges _ rfl _ rfl 3 lawInt (plainElem Try.prog 4) (Value.int .i64) (fun v : Value => v) (fun key kl hkey => by obtain ⟨x, rfl, _⟩ := Maps.keyOf_int_inv Try.underlying3 hkey; exact ⟨x, rfl⟩) (fun v y hv => ⟨v, rfl⟩) b w.heap.size n _ _ _ rfl hrg ?_ ?_)
      | go_in)
    · intro hc0 hl0
      have HR : Hid (y = (m : Int)) := hid (by
        have h1 := HY.out m ((HD.out m).2 ⟨m, rfl, HM1.out⟩) (hl0 _)
        rcases HE.out with h2 | h2
        · omega
        · obtain ⟨s, hs, hS⟩ := (HD.out y).1 h2
          have := HM2.out s hS
          omega)
      clear hl0
      go_wp2
      go_ret
      exact ⟨ret_int (by rw [HR.out]), hb⟩
    · intro x c kl ya yb w1 cnt1 hkey hlx hv hat hrg1 hlt hg1 hs1 hen
      obtain ⟨x', ex, hkl, hwx⟩ := Maps.keyOf_int_inv Try.underlying3 hkey
      cases ex
      subst hkl
      have hhas : Maps.has D (.int .i64 x) = true := Maps.has_true_of_atKey hat
      have HHas := hid hhas
      have HB1 := hid (grown_below hb hg1 (Nat.le_refl _) (Nat.le_refl _))
      clear hat hhas hkey hv
      go_wp2
      go_roundw
      case rel => exact ⟨_, cnt1, _, rfl, hrg1, HB1.out, hid (fun z hz hz2 => by
        rw [Bool.and_eq_false_iff] at hz2
        rcases hz2 with hz2 | hz2
        · have := HY.out z hz hz2
          omega
        · have h3 : (Lit.int .i64 z).sameKey (.int .i64 x) = true := by simpa using hz2
          have h4 := WideAt.sameKey_eq h3
          injection h4 with _ h4
          omega), hid (by
        by_cases hle : x < y
        · rw [if_pos hle]; exact .inr HHas.out
        · rw [if_neg hle]; exact HE.out)⟩
      case measure => rw [hrg1.left_eq, hrg.left_eq]; exact hlt
theorem take_contains {ls : List Int} {k : Nat} (hk : k < ls.length) {s : Nat} (hs : ls.getD k 0 = (s : Int)) (t : Nat) : (ls.take (k + 1)).contains (t : Int) = ((ls.take k).contains (t : Int) || t == s) := by
  have e : ls.take (k + 1) = ls.take k ++ [(s : Int)] := by
    rw [List.take_succ_eq_append_getElem hk]
    have : ls[k] = (s : Int) := by rw [← hs]; simp [List.getD, hk]
    rw [this]
  rw [e, List.contains_eq_any_beq, List.contains_eq_any_beq, List.any_append]
  congr 1
  simp only [List.any_cons, List.any_nil, Bool.or_false]
  rw [Bool.eq_iff_iff, beq_iff_eq, beq_iff_eq]; omega
theorem cell_no_map {w : World} {b o : Nat} {es : Array MapEntry} {clock : Nat} (h : w.heap[b]? = some (.map es clock)) {y : Value} (hc : w.cell? ⟨b, o, none⟩ = some y) : False := by
  simp [World.cell?, h] at hc
set_option maxRecDepth 100000 in
set_option maxHeartbeats 800000 in
theorem remove_any (b n : Nat) (S : Nat → Bool) (u : Value) (ls : List Int) (w : World) (hm : MSet w b n S) (hu : Ints w u ls) (hl : ls.length ≤ 1048576) (hp : ∀ j, j < ls.length → ∃ s : Nat, ls.getD j 0 = (s : Int) ∧ s < 1024) :
    Calls Try.prog 59 #[.map (some b), u] w fun r w' => r = .returned (.tuple #[]) ∧ MSet w' b n (fun t => S t && !(ls.contains (t : Int))) ∧ w.grownBy w' (some b) := by
  have HM := hid hm
  have HP := hid hp
  obtain ⟨A, c, rfl, hA⟩ := hu
  have HA := hid hA
  clear hA hm hp
  go_enter Try.func59, Try.ntmps59
  go_wp2
  go_loopw [8] (fun i wr => ∃ k : Nat, k ≤ ls.length ∧ i = .int .i64 k ∧ MSet wr b n (fun t => S t && !((ls.take k).contains (t : Int))) ∧ w.grownBy wr (some b)) (fun i _ => ls.length - (intOf i).toNat)
  case atStart => exact ⟨0, Nat.zero_le _, rfl, HM.out.congr (fun s => by simp), World.grownBy.refl _ _⟩
  case round =>
    obtain ⟨k, hk, rfl, hm, hg⟩ := hrel
    by_cases hlt : k < ls.length
    · obtain ⟨b2, o, rfl, hbl, hc⟩ := HA.out (by intro h; simp [h] at hlt)
      obtain ⟨s, hs, hD⟩ := HP.out k hlt
      have hc1 := hc k hlt
      rw [hs] at hc1
      have hne : b2 ≠ b := by
        rintro rfl
        obtain ⟨D, ⟨es, clock, h1, _⟩, _⟩ := HM.out
        exact cell_no_map h1 hc1
      have hcell : wr.cell? ⟨b2, o + k, none⟩ = some (.int .i64 (s : Nat)) := hg.cell (a := ⟨b2, o + k, none⟩) hc1 (by simp only [ne_eq, Option.some.injEq]; exact hne)
      have HTk := hid (take_contains hlt hs)
      obtain ⟨D, hown, hDD⟩ := hm
      have HDD := hid hDD
      have HG := hid hg
      clear hc hc1 hs hDD hg hne
      go_wp2_with (first
        | (at_delete; refine wpList_delete_own _ rfl _ _ 60 3 rfl 4 lawInt Try.underlying60 _ b n _ rfl hown _ _ rfl (keyOf_int_mk Try.underlying3 (WalkArith.wf_i64 (by omega))) ?_; intro w1 hown1 hturn1; go_frame)
        | go_in)
      go_roundw
      case rel => exact ⟨k + 1, by omega, by go_num, ⟨_, hown1, fun x => by
        rw [has_del HDD.out]
        constructor
        · rintro ⟨t, ht, hS⟩
          refine ⟨t, ht, ?_⟩
          show (S t && !((ls.take (k + 1)).contains (t : Int))) = true
          rw [HTk.out]
          revert hS
          cases S t <;> cases (ls.take k).contains (t : Int) <;> cases (t == s) <;> simp
        · rintro ⟨t, ht, hS⟩
          refine ⟨t, ht, ?_⟩
          have hS : (S t && !((ls.take (k + 1)).contains (t : Int))) = true := hS
          rw [HTk.out] at hS
          revert hS
          cases S t <;> cases (ls.take k).contains (t : Int) <;> cases (t == s) <;> simp⟩, grown_trans HG.out hturn1.grown⟩
      case measure => simp [intOf]; omega
    · obtain rfl : k = ls.length := by omega
      go_wp2
      go_end0
      exact ⟨rfl, hm.congr (fun s => by rw [List.take_length]), hg⟩
end Go.Proofs.Ytkcjppbplllaiaa
