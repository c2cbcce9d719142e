/- The library's functions that ParsePoset calls, at any text. -/
import Derived.Test.YtiodligebnnodaaDoorPsM
import Derived.Test.YtiodligebnnodaaDoorShelfP
import Derived.Test.YtiodligebnnodaaDoorAddRow
import Derived.Lib.AtoiAllCases
namespace Go.Proofs.YtiodligebnnodaaDoor
open Go.RowKit Go.WideShapes Go.ChangeShapes
set_option linter.unusedVariables false

/-- the library's variables hold something of their types -/
structure Glob (w : World) : Prop where
  max : ∃ m, w.cell? ⟨0, 0, none⟩ = some (.int .i64 m)
  syn : ∃ ev, w.cell? ⟨1, 0, none⟩ = some ev ∧ (ev = .nilIface ∨ ∃ te pe, ev = .iface te pe)
  rng : ∃ ev, w.cell? ⟨2, 0, none⟩ = some ev ∧ (ev = .nilIface ∨ ∃ te pe, ev = .iface te pe)
theorem cell_later {w w' : World} {p : Addr} {v : Value} (h : w.cell? p = some v) (hb : Below w.heap.size w w') : w'.cell? p = some v := (hb.cell (World.block_lt_of_cell? w _ h)).trans h
theorem Glob.later {w w' : World} (h : Glob w) (hb : Below w.heap.size w w') : Glob w' := by
  obtain ⟨⟨m, h1⟩, ⟨e1, h2, h3⟩, ⟨e2, h4, h5⟩⟩ := h
  exact ⟨⟨m, cell_later h1 hb⟩, ⟨e1, cell_later h2 hb, h3⟩, ⟨e2, cell_later h4 hb, h5⟩⟩
theorem sB_list (l : List UInt8) : (sB l).data.toList = l := by show l.toArray.toList = l; simp
theorem sB_of (b : ByteArray) : sB b.data.toList = b := by
  apply ByteArray.ext; show b.data.toList.toArray = b.data; simp
theorem sB_inj {a b : List UInt8} (h : sB a = sB b) : a = b := by rw [← sB_list a, h, sB_list]
theorem cut_any (c : UInt8) (l : List UInt8) (w : World) (hG : Glob w) (hl : l.length ≤ 1048576) :
    Calls Tryd.prog 10 #[.string (sB l), .string { data := #[c] }] w fun r w' => r = .returned (.tuple #[.string (sB (cutL c l).1), .string (sB (cutL c l).2.1), .bool (cutL c l).2.2]) ∧ Below w.heap.size w w' := by
  obtain ⟨m, hm⟩ := hG.max
  refine (Tryd.strings_Cut (sB l) { data := #[c] } m w (by rw [sB_size]; omega) hm).mono ?_
  rintro r w' ⟨rfl, n, rfl⟩
  rw [sB_list]
  exact ⟨rfl, below_drewN (Below.refl _ _) _⟩
/-- a slice of texts that is read -/
def Strs (w : World) (v : Value) (ls : List (List UInt8)) : Prop :=
  ∃ A c, v = .slice A ls.length c ∧ ∀ j, j < ls.length → ∃ b o, A = some ⟨b, o, none⟩ ∧ b < w.heap.size ∧ w.cell? ⟨b, o + j, none⟩ = some (.string (sB (ls.getD j [])))
theorem Strs.below {w w' : World} {v : Value} {ls : List (List UInt8)} (h : Strs w v ls) (hb : Below w.heap.size w w') : Strs w' v ls := by
  obtain ⟨A, c, rfl, h⟩ := h
  refine ⟨A, c, rfl, fun j hj => ?_⟩
  obtain ⟨b, o, rfl, h1, h2⟩ := h j hj
  exact ⟨b, o, rfl, Nat.lt_of_lt_of_le h1 hb.size, (hb.cell (p := ⟨b, o + j, none⟩) h1).trans h2⟩
theorem StrOwn.read {ts : TypeId} {w : World} {B : Nat} {v : Value} {ls : List (List UInt8)} (h : StrOwn ts w B v ls) : Strs w v ls := by
  have h2 : w.ownsRow B ts 1 v ls.length (strs ls) := h
  rcases Nat.eq_zero_or_pos ls.length with h0 | h0
  · rcases h2.2 with ⟨rfl, h3⟩ | ⟨g, cap, cur, rfl, _⟩
    · exact ⟨none, 0, by rw [h3], fun j hj => by omega⟩
    · exact ⟨_, cap, rfl, fun j hj => by omega⟩
  · obtain ⟨g, cap, rfl, hB, hg⟩ := h2.form h0
    refine ⟨_, cap, rfl, fun j hj => ⟨g, 0, rfl, hg, ?_⟩⟩
    rw [Nat.zero_add, h2.cellAt j (by omega)]
    simp [strs, List.getD, hj]
theorem splitN_any (l : List UInt8) (w : World) (hG : Glob w) (hl : l.length ≤ 1048576) :
    Calls Tryd.prog 25 #[.string (sB l), .string { data := #[44] }, .int .i64 101] w fun (r : Ending) w' => ∃ u, r = Ending.returned u ∧ Strs w' u (splC l) ∧ Below w.heap.size w w' := by
  obtain ⟨m, hm⟩ := hG.max
  have h := Tryd.strings_SplitN (sB l) { data := #[44] } 101 m w (by rw [sB_size]; omega) hm (by decide) (by decide) (by decide)
  refine h.mono ?_
  rintro r w' ⟨rfl, rfl⟩
  have hd := Lib.splitB_data { data := #[44] } 0 (min 101 ((sB l).size + 1) - 1) (sB l)
  rw [sB_list, sB_size] at hd
  have hd2 : (Lib.splitB { data := #[44] } 0 (min 101 (l.length + 1) - 1) (sB l)).map (·.data.toList) = splC l := hd
  rw [sB_size]
  generalize Lib.splitB { data := #[44] } 0 (min 101 (l.length + 1) - 1) (sB l) = bs at hd2
  have hlen : bs.length = (splC l).length := by rw [← hd2, List.length_map]
  refine ⟨_, rfl, ⟨_, _, by rw [hlen], fun j hj => ⟨w.heap.size, 0, rfl, by simp, ?_⟩⟩, below_alloc (Below.refl _ w) _⟩
  rw [Nat.zero_add, (Blk.new w _ _).cell]
  have hj2 : j < bs.length := by omega
  have hx : (splC l).getD j [] = bs[j].data.toList := by
    rw [← hd2]; simp [List.getD, hj2]
  rw [hx, sB_of]
  unfold Lib.cellsOf
  rw [List.getElem?_toArray, List.getElem?_append_left (by simpa using hj2)]
  simp [hj2]
theorem atoi_any (l : List UInt8) (w : World) (hG : Glob w) (hl : l.length ≤ 1048576) :
    Calls Tryd.prog 11 #[.string (sB l)] w fun (r : Ending) w' => ∃ n e, r = Ending.returned (.tuple #[.int .i64 n, e]) ∧ ((Lib.atoiAll l = .ok n ∧ e = .nilIface ∧ (Lit.int .i64 n).wf = true) ∨ ((∀ v, Lib.atoiAll l ≠ .ok v) ∧ ∃ t p, e = .iface t (.pointer (some p)))) ∧ Below w.heap.size w w' := by
  have hz : (sB l).size ≤ 281474976710656 := by rw [sB_size]; omega
  cases ha : Lib.atoiAll l
  case ok v =>
    have h := Tryd.strconv_Atoi_ok (sB l) (by omega) v (by rw [sB_list]; exact ha) w
    refine h.mono ?_
    rintro r w' ⟨rfl, hw⟩
    have hb := Lib.atoiAll_bounds ha
    refine ⟨v, _, rfl, .inl ⟨rfl, rfl, ?_⟩, ?_⟩
    · have e1 : IntKind.i64.min = -9223372036854775808 := rfl
      have e2 : IntKind.i64.max = 9223372036854775807 := rfl
      simp [Lit.wf]; omega
    · rcases hw with rfl | ⟨t, rfl⟩
      · exact Below.refl _ _
      · exact Lib.bytesWorld_below _ _ _
  case range =>
    obtain ⟨ev, h1, h2⟩ := hG.rng
    have h := Tryd.strconv_Atoi_range (sB l) hz (by rw [sB_list]; exact ha) ev w h1 h2
    refine h.mono ?_
    rintro r w' ⟨N, rfl, _, _, hb⟩
    exact ⟨_, _, rfl, .inr ⟨(fun v h => by cases h), _, _, rfl⟩, hb⟩
  · obtain ⟨ev, h1, h2⟩ := hG.syn
    have h := Tryd.strconv_Atoi_bad (sB l) hz (by rw [sB_list, ha]; intro v e; cases e) (by rw [sB_list, ha]; intro e; cases e) ev w h1 h2
    refine h.mono ?_
    rintro r w' ⟨N, rfl, _, _, hb⟩
    exact ⟨_, _, rfl, .inr ⟨(fun v h => by cases h), _, _, rfl⟩, hb⟩
end Go.Proofs.YtiodligebnnodaaDoor
