/- A slice of bytes as an argument of a law, and the draws that hand on. -/
import Derived.Test.YtclhebpkpmholaaDrw
namespace Go.Proofs.Ytclhebpkpmholaa
open Go.RowKit Go.WideShapes Go.ChangeShapes
set_option linter.unusedVariables false

theorem open_bytes {H : Type} {enc : TypeId × Value → H} {P : Program} {w : World} {base : Nat} {spare : Nat → Bool} {held : Bool} {r : Reach} {b0 : Nat} {ts ti : TypeId} {v : Value} {d : DataW H} {p : List MemPlace}
    (hts : P.underlying ts = some (.slice ti)) (hti : P.underlying ti = some (.int .u8)) (hc1 : P.cellsOf ti = 1)
    (hv : Value.okWide P w r b0 ts v) (h : DataW.Trod enc P w base spare held ts v d p) :
    ∃ (xs : List Int), BytesB w w.heap.size v xs ∧ xs.length ≤ maxLen := by
  obtain ⟨A, len, cap, rfl⟩ := okWide_slice hts hv
  obtain ⟨fuel, hf⟩ := h
  rcases open_ints hts hti hc1 hf with ⟨hcs, _⟩ | ⟨a, len, cap, zs, hcs, _, hle, hm, hz, _, hc, hwz⟩
  · simp [Value.cells] at hcs
    obtain ⟨rfl, rfl, rfl⟩ := hcs
    exact ⟨[], ⟨none, 0, rfl, by simp, fun h => absurd rfl h⟩, by simp⟩
  · simp [Value.cells] at hcs
    obtain ⟨rfl, rfl, rfl⟩ := hcs
    have hzl : len ≤ zs.length := by rw [hz]; split <;> omega
    have hl' : (zs.take len).length = len := by rw [List.length_take]; omega
    refine ⟨zs.take len, ⟨some a, cap, by rw [hl'], ?_, fun hx => ?_⟩, by rw [hl']; omega⟩
    · intro j
      by_cases hj : j < (zs.take len).length
      · have e : (zs.take len).getD j 0 = (zs.take len)[j] := by rw [List.getD, List.getElem?_eq_getElem hj]; rfl
        have hmem : (zs.take len)[j] ∈ zs := List.mem_of_mem_take (List.getElem_mem hj)
        have := hwz _ hmem
        rw [e]
        have h8 : (decide (IntKind.u8.min ≤ (zs.take len)[j]) && decide ((zs.take len)[j] ≤ IntKind.u8.max)) = true := this
        rw [show IntKind.u8.min = 0 from by decide, show IntKind.u8.max = 255 from by decide] at h8
        simp only [Bool.and_eq_true, decide_eq_true_eq] at h8
        omega
      · simp [List.getD, List.getElem?_eq_none (Nat.le_of_not_lt hj)]
    · have hp : 0 < len := by
        rcases Nat.eq_zero_or_pos len with h0 | h0
        · subst h0; simp at hx
        · exact h0
      obtain ⟨b, off, rfl, hcell⟩ := ints_at hc (by omega)
      have hbl : b < w.heap.size := World.block_lt_of_cell? w _ (hcell 0 (by omega))
      refine ⟨b, off, rfl, hbl, hbl, fun j hj => ?_⟩
      rw [hl'] at hj
      rw [hcell j (by omega)]
      congr 2
      simp [List.getD, hj]
theorem drawHeightsOf_any (v : Value) (bs : List Int) (w : World) (hb : BytesB w w.heap.size v bs) (hl : bs.length ≤ 1048576) :
    Calls Try.prog 83 #[v] w fun (r : Ending) w' => ∃ u xs, r = .returned (.agg #[u]) ∧ OwnI 3 w' w.heap.size u xs ∧ xs.length ≤ 21 ∧ Below w.heap.size w w' := by
  have HBy := hid hb
  obtain ⟨vA, vc, rfl, -⟩ := hb
  have HA0 := hid (Blk.new w 26 #[.slice none 0 0])
  have HB0 := hid (below_alloc (Below.refl _ w) (.cells #[.slice none 0 0] 26))
  go_enter Try.func83, Try.ntmps83
  go_wp2_with fail
  refine (drawIsPoset_any _ bs _ ((HBy.out.below HB0.out).up (by simp)) hl).mono ?_
  rintro e w2 ⟨u, xs, rfl, ho, hl2, hb2⟩
  have HB2 := hid (below_to HB0.out hb2)
  have HA2 := hid (HA0.out.below hb2 HA0.out.lt)
  have HO := hid (ho.mono (show w.heap.size + 1 ≤ _ by simp))
  obtain ⟨uA, un, uc, rfl⟩ := ho.shape3
  clear ho hb2 HA0 HB0
  have a1 := HA2.out.cell 0
  have a2 := HA2.out.frozen 0
  go_wp2
  refine bodyPost_ret (v := .agg #[.slice uA un uc]) (by simp [results, Try.results83, go_sem, a1]) rfl ⟨_, xs, rfl, HO.out.box (Nat.le_refl _) _, hl2, HB2.out.setCell (p := ⟨w.heap.size, 0, none⟩) (Nat.le_refl _) _⟩
/-- 'big': more than a million of bytes -/
theorem big_any (u v : Value) (bs cs : List Int) (w : World) (hu : BytesB w w.heap.size u bs) (hv : BytesB w w.heap.size v cs) (hbl : bs.length ≤ maxLen) (hcl : cs.length ≤ maxLen) :
    Calls Try.prog 7 #[u, v] w fun (r : Ending) w' => r = .returned (.bool (decide (1048576 < bs.length + cs.length))) ∧ w = w' := by
  obtain ⟨uA, uc, rfl, -⟩ := hu
  obtain ⟨vA, vc, rfl, -⟩ := hv
  unfold maxLen at hbl hcl
  go_enter Try.func7, Try.ntmps7
  by_cases h1 : 1048576 < bs.length
  · go_wp2
    go_ret
    exact ⟨ret_bool (by simp; omega), rfl⟩
  · go_wp2
    go_ret
    exact ⟨ret_bool (by rw [Bool.eq_iff_iff]; simp; omega), rfl⟩
end Go.Proofs.Ytclhebpkpmholaa
