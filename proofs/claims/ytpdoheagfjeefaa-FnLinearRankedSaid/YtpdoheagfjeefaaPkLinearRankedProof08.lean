/- Texts Byt, LwH, IaM, DrI, DrW, DrO, DrR, one behind the other. -/
import Derived.BigQuiet
import Derived.Test.YtpdoheagfjeefaaPkLinearRankedProof00
import Derived.Test.YtpdoheagfjeefaaPkLinearRankedProof01
import Derived.Test.YtpdoheagfjeefaaPkLinearRankedProof05
import Derived.Test.YtpdoheagfjeefaaPkLinearRankedProof07
/- A slice of bytes as an argument of a law, and the draws that hand on. -/
namespace Go.Proofs.Ytpdoheagfjeefaa
open Go.RowKit Go.WideShapes Go.ChangeShapes
set_option linter.unusedVariables false

theorem open_bytes {H : Type} {enc : TypeId × Value → H} {P : Program} {w : World} {base : Nat} {spare : Nat → Bool} {held : Bool} {r : Reach} {b0 : Nat} {ts ti : TypeId} {v : Value} {d : DataW H} {p : List MemPlace}
    (hts : P.underlying ts = some (.slice ti)) (hti : P.underlying ti = some (.int .u8)) (hc1 : P.cellsOf ti = 1)
    (hv : Value.okWide P w r b0 ts v) (h : DataW.Trod enc P w base spare held ts v d p) :
    ∃ (xs : List Int), BytesB w w.heap.size v xs ∧ xs.length ≤ maxLen := by
  obtain ⟨A, len, cap, rfl⟩ := okWide_slice hts hv
  obtain ⟨fuel, hf⟩ := h
  rcases open_ints hts hti hc1 hf with ⟨hcs, _⟩ | ⟨a, len, cap, zs, hcs, _, hle, hm, hz, _, hc, hwz⟩
  · simp [Value.cells] at hcs
    obtain ⟨rfl, rfl, rfl⟩ := hcs
    exact ⟨[], ⟨none, 0, rfl, by simp, fun h => absurd rfl h⟩, by simp⟩
  · simp [Value.cells] at hcs
    obtain ⟨rfl, rfl, rfl⟩ := hcs
    have hzl : len ≤ zs.length := by rw [hz]; split <;> omega
    have hl' : (zs.take len).length = len := by rw [List.length_take]; omega
    refine ⟨zs.take len, ⟨some a, cap, by rw [hl'], ?_, fun hx => ?_⟩, by rw [hl']; omega⟩
    · intro j
      by_cases hj : j < (zs.take len).length
      · have e : (zs.take len).getD j 0 = (zs.take len)[j] := by rw [List.getD, List.getElem?_eq_getElem hj]; rfl
        have hmem : (zs.take len)[j] ∈ zs := List.mem_of_mem_take (List.getElem_mem hj)
        have := hwz _ hmem
        rw [e]
        have h8 : (decide (IntKind.u8.min ≤ (zs.take len)[j]) && decide ((zs.take len)[j] ≤ IntKind.u8.max)) = true := this
        rw [show IntKind.u8.min = 0 from by decide, show IntKind.u8.max = 255 from by decide] at h8
        simp only [Bool.and_eq_true, decide_eq_true_eq] at h8
        omega
      · simp [List.getD, List.getElem?_eq_none (Nat.le_of_not_lt hj)]
    · have hp : 0 < len := by
        rcases Nat.eq_zero_or_pos len with h0 | h0
        · subst h0; simp at hx
        · exact h0
      obtain ⟨b, off, rfl, hcell⟩ := ints_at hc (by omega)
      have hbl : b < w.heap.size := World.block_lt_of_cell? w _ (hcell 0 (by omega))
      refine ⟨b, off, rfl, hbl, hbl, fun j hj => ?_⟩
      rw [hl'] at hj
      rw [hcell j (by omega)]
      congr 2
      simp [List.getD, hj]
/-- 'big': more than a million of bytes -/
theorem big_any (u v : Value) (bs cs : List Int) (w : World) (hu : BytesB w w.heap.size u bs) (hv : BytesB w w.heap.size v cs) (hbl : bs.length ≤ maxLen) (hcl : cs.length ≤ maxLen) :
    Calls Try.prog 8 #[u, v] w fun (r : Ending) w' => r = .returned (.bool (decide (1048576 < bs.length + cs.length))) ∧ w = w' := by
  obtain ⟨uA, uc, rfl, -⟩ := hu
  obtain ⟨vA, vc, rfl, -⟩ := hv
  unfold maxLen at hbl hcl
  go_enter Try.func8, Try.ntmps8
  by_cases h1 : 1048576 < bs.length
  · go_wp2
    go_ret
    exact ⟨ret_bool (by simp; omega), rfl⟩
  · go_wp2
    go_ret
    exact ⟨ret_bool (by rw [Bool.eq_iff_iff]; simp; omega), rfl⟩
end Go.Proofs.Ytpdoheagfjeefaa

/- The general laws' own helpers. · The general laws' own helpers: numberOf, nHas, nIdeal. -/
namespace Go.Proofs.Ytpdoheagfjeefaa
open Go.RowKit Go.WideShapes Go.ChangeShapes
set_option linter.unusedVariables false

theorem nSame_any (v u : Value) (xs : List Int) (w : World) (hv : Ints w v xs) (hu : Ints w u xs) (hl : xs.length ≤ 1048576) :
    Calls Try.prog 43 #[v, u] w fun r w' => r = .returned (.bool true) ∧ Below w.heap.size w w' := by
  obtain ⟨A, c, rfl, hA⟩ := hv
  obtain ⟨B, d, rfl, hB⟩ := hu
  have HA := hid hA
  have HB := hid hB
  clear hA hB
  go_enter Try.func43, Try.ntmps43
  go_wp2
  go_loopw [13] (fun i wr => ∃ k : Nat, k ≤ xs.length ∧ i = .int .i64 k ∧ Below w.heap.size w wr) (fun i _ => xs.length - (intOf i).toNat)
  case atStart => exact ⟨0, Nat.zero_le _, rfl, Below.refl _ _⟩
  case round =>
    obtain ⟨k, hk, rfl, hb⟩ := hrel
    by_cases hlt : k < xs.length
    · obtain ⟨b, o, rfl, hbl, hc⟩ := HA.out (by intro h; simp [h] at hlt)
      obtain ⟨b2, o2, rfl, hbl2, hc2⟩ := HB.out (by intro h; simp [h] at hlt)
      have hcell : wr.cell? ⟨b, o + k, none⟩ = some (.int .i64 (xs.getD k 0)) := by
        rw [hb.cell (p := ⟨b, o + k, none⟩) hbl]; exact hc k hlt
      have hcell2 : wr.cell? ⟨b2, o2 + k, none⟩ = some (.int .i64 (xs.getD k 0)) := by
        rw [hb.cell (p := ⟨b2, o2 + k, none⟩) hbl2]; exact hc2 k hlt
      obtain ⟨x, hx⟩ : ∃ x, xs.getD k 0 = x := ⟨_, rfl⟩
      rw [hx] at hcell hcell2
      have Hb := hid hb
      have hlt' : (k : Int) < xs.length := by omega
      clear hc hb hc2 hx
      go_wp2
      go_quiet (fail)
      go_wp2
      go_roundw
      case rel => exact ⟨k + 1, by omega, by go_num, below_drewN Hb.out _⟩
      case measure => simp [intOf]; omega
    · obtain rfl : k = xs.length := by omega
      have Hb := hid hb
      clear hb
      go_wp2
      go_ret
      exact ⟨rfl, Hb.out⟩
end Go.Proofs.Ytpdoheagfjeefaa
namespace Go.Proofs.Ytpdoheagfjeefaa
open Go.RowKit Go.WideShapes Go.ChangeShapes
set_option linter.unusedVariables false

theorem nIdeal_any (v : Value) (xs : List Int) (s : Int) (w : World) (hv : Ints w v xs) (hl : xs.length ≤ 1048576) (wf : (Lit.int .i64 s).wf = true) :
    Calls Try.prog 27 #[.agg #[v], .int .i64 s] w fun r w' => r = .returned (.bool (ansB xs s holdsIdeal)) ∧ Below w.heap.size w w' := by
  obtain ⟨A, c, rfl, -⟩ := id hv
  have HV := hid hv
  clear hv
  go_enter Try.func27, Try.ntmps27
  go_wp2_with fail
  have HB0 := hid (below_alloc (Below.refl _ w) (.cells #[.slice A xs.length c] 26))
  refine (implIsIdeal_any _ xs s _ (HV.out.alloc _) hl wf).mono ?_
  rintro e w1 ⟨rfl, hb1⟩
  have HB1 := hid (below_to HB0.out hb1)
  clear hb1 HB0
  have hab : ansB xs s holdsIdeal = (okSet xs s && holdsIdeal xs s.toNat) := rfl
  cases ho : okSet xs s
  · rw [ho] at hab
    simp at hab
    have HAb := hid hab
    clear hab
    rw [HAb.out]
    go_wp2
    go_ret
    exact ⟨ret_bool HAb.out.symm, HB1.out⟩
  · clear hab
    cases ha : ansB xs s holdsIdeal
    · have HAb := hid ha
      clear ha
      go_wp2
      go_ret
      exact ⟨ret_bool HAb.out.symm, HB1.out⟩
    · have HAb := hid ha
      clear ha
      go_wp2
      go_ret
      exact ⟨ret_bool HAb.out.symm, HB1.out⟩
end Go.Proofs.Ytpdoheagfjeefaa

/- Ideals and antichains tell each other: mathematics. -/
namespace Go.Proofs.Ytpdoheagfjeefaa
open Go.RowKit Go.WideShapes Go.ChangeShapes
set_option linter.unusedVariables false

theorem under_bit (xs : List Int) (s j : Nat) : (under xs s).testBit j = true ↔ ∃ e, e < xs.length ∧ s.testBit e = true ∧ (row xs e).testBit j = true := underN_testBit xs s xs.length j
theorem top_bit (xs : List Int) (s j : Nat) : (top xs s).testBit j = true ↔ s.testBit j = true ∧ ¬ ∃ e, e < xs.length ∧ s.testBit e = true ∧ (row xs e).testBit j = true := by
  rw [← under_bit, top, sub_testBit]
  simp
theorem row_less {xs : List Int} (hg : good xs = true) {e j : Nat} (he : e < xs.length) (h : (row xs e).testBit j = true) : j < e := testBit_lt (row_lt hg he).2 h
theorem anti_iff (xs : List Int) (s : Nat) : holdsAntichain xs s = true ↔ ∀ e, e < xs.length → s.testBit e = true → ∀ j, (row xs e).testBit j = true → s.testBit j = false := by
  unfold holdsAntichain
  rw [beq_iff_eq]
  constructor
  · intro h e he hs j hj
    have h1 : (under xs s).testBit j = true := (under_bit xs s j).2 ⟨e, he, hs, hj⟩
    have h2 : (under xs s &&& s).testBit j = false := by rw [h]; simp
    rw [Nat.testBit_and, h1] at h2
    simpa using h2
  · intro h
    apply Nat.eq_of_testBit_eq
    intro j
    rw [Nat.testBit_and, Nat.zero_testBit]
    cases hu : (under xs s).testBit j
    · rfl
    · obtain ⟨e, he, hs, hj⟩ := (under_bit xs s j).1 hu
      rw [h e he hs j hj]; rfl
/-- what lies in s, or below it, lies under a greatest one -/
theorem top_over {xs : List Int} (hg : good xs = true) {s : Nat} (hs : s < 2 ^ xs.length) : ∀ (d j : Nat), xs.length - j ≤ d → s.testBit j = true → (top xs s).testBit j = true ∨ ∃ e, e < xs.length ∧ (top xs s).testBit e = true ∧ (row xs e).testBit j = true := by
  intro d
  induction d with
  | zero => intro j hd hj; have := testBit_lt hs hj; omega
  | succ d ih =>
    intro j hd hj
    by_cases hc : ∃ e, e < xs.length ∧ s.testBit e = true ∧ (row xs e).testBit j = true
    · obtain ⟨e, he, hse, hr⟩ := hc
      have hlt := row_less hg he hr
      rcases ih e (by omega) hse with h | ⟨f, hf, ht, hrf⟩
      · exact Or.inr ⟨e, he, h, hr⟩
      · exact Or.inr ⟨f, hf, ht, row_closed hg hf hrf hr⟩
    · exact Or.inl ((top_bit xs s j).2 ⟨hj, hc⟩)
theorem down_top {xs : List Int} (hg : good xs = true) {s : Nat} (hs : s < 2 ^ xs.length) (hi : holdsIdeal xs s = true) : down xs (top xs s) = s := by
  apply Nat.eq_of_testBit_eq
  intro j
  rw [Bool.eq_iff_iff, down_testBit]
  constructor
  · rintro (h | ⟨e, he, h, hr⟩)
    · exact ((top_bit xs s j).1 h).1
    · exact holdsIdeal_row.1 hi e he ((top_bit xs s e).1 h).1 j hr
  · intro h
    exact top_over hg hs _ j (Nat.le_refl _) h
theorem top_anti (xs : List Int) (s : Nat) : holdsAntichain xs (top xs s) = true := by
  rw [anti_iff]
  intro e he ht j hj
  rw [Bool.eq_false_iff]
  intro h
  exact ((top_bit xs s j).1 h).2 ⟨e, he, ((top_bit xs s e).1 ht).1, hj⟩
theorem down_ideal {xs : List Int} (hg : good xs = true) (s : Nat) : holdsIdeal xs (down xs s) = true := by
  rw [holdsIdeal_row]
  intro e he h j hj
  rw [down_testBit] at h ⊢
  rcases h with h | ⟨f, hf, hsf, hr⟩
  · exact Or.inr ⟨e, he, h, hj⟩
  · exact Or.inr ⟨f, hf, hsf, row_closed hg hf hr hj⟩
theorem top_down_eq {xs : List Int} (hg : good xs = true) {a : Nat} (ha : holdsAntichain xs a = true) : top xs (down xs a) = a := by
  apply Nat.eq_of_testBit_eq
  intro j
  rw [Bool.eq_iff_iff, top_bit, down_testBit]
  constructor
  · rintro ⟨h | ⟨e, he, h, hr⟩, hn⟩
    · exact h
    · exact absurd ⟨e, he, (down_testBit xs a e).2 (Or.inl h), hr⟩ hn
  · intro h
    refine ⟨Or.inl h, ?_⟩
    rintro ⟨e, he, hd, hr⟩
    have hA := (anti_iff xs a).1 ha
    rcases (down_testBit xs a e).1 hd with h2 | ⟨f, hf, h2, hr2⟩
    · rw [hA e he h2 j hr] at h; cases h
    · rw [hA f hf h2 j (row_closed hg hf hr2 hr)] at h; cases h
theorem top_lt_len {xs : List Int} {s : Nat} (hs : s < 2 ^ xs.length) : top xs s < 2 ^ xs.length := by
  apply Nat.lt_pow_two_of_testBit
  intro i hi
  rw [Bool.eq_false_iff]
  intro h
  have := testBit_lt hs ((top_bit xs s i).1 h).1
  omega
theorem down_lt_len {xs : List Int} (hg : good xs = true) {s : Nat} (hs : s < 2 ^ xs.length) : down xs s < 2 ^ xs.length := by
  apply Nat.lt_pow_two_of_testBit
  intro i hi
  rw [Bool.eq_false_iff]
  intro h
  rcases (down_testBit xs s i).1 h with h | ⟨e, he, h, hr⟩
  · have := testBit_lt hs h; omega
  · have := row_less hg he hr; omega
theorem bottom_lt_len {xs : List Int} {s : Nat} : bottom xs s < 2 ^ xs.length := by
  apply Nat.lt_pow_two_of_testBit
  intro i hi
  rw [Bool.eq_false_iff]
  intro h
  have := ((bottomN_testBit xs s xs.length i).1 h).1
  omega
theorem and_zero_bit {a s : Nat} (h : a &&& s = 0) {j : Nat} (ha : a.testBit j = true) : s.testBit j = false := by
  have h2 : (a &&& s).testBit j = false := by rw [h]; simp
  rw [Nat.testBit_and, ha] at h2
  simpa using h2
theorem bottom_anti (xs : List Int) (s : Nat) : holdsAntichain xs (bottom xs s) = true := by
  rw [anti_iff]
  intro e he hb j hj
  obtain ⟨-, h1, h2⟩ := (bottomN_testBit xs s xs.length e).1 hb
  rw [Bool.eq_false_iff]
  intro h
  obtain ⟨-, h3, -⟩ := (bottomN_testBit xs s xs.length j).1 h
  rw [and_zero_bit h2 hj] at h3; cases h3
theorem or_ideal {xs : List Int} {s t : Nat} (hs : holdsIdeal xs s = true) (ht : holdsIdeal xs t = true) : holdsIdeal xs (s ||| t) = true := by
  rw [holdsIdeal_row] at *
  intro e he h j hj
  rw [Nat.testBit_or, Bool.or_eq_true] at *
  rcases h with h | h
  · exact Or.inl (hs e he h j hj)
  · exact Or.inr (ht e he h j hj)
theorem and_ideal {xs : List Int} {s t : Nat} (hs : holdsIdeal xs s = true) (ht : holdsIdeal xs t = true) : holdsIdeal xs (s &&& t) = true := by
  rw [holdsIdeal_row] at *
  intro e he h j hj
  rw [Nat.testBit_and, Bool.and_eq_true] at *
  exact ⟨hs e he h.1 j hj, ht e he h.2 j hj⟩
theorem ideal_down {xs : List Int} (s : Nat) : holdsIdeal xs s = true ↔ down xs s = s := by
  rw [holdsIdeal_row]
  constructor
  · intro h
    apply Nat.eq_of_testBit_eq
    intro j
    rw [Bool.eq_iff_iff, down_testBit]
    exact ⟨fun hh => hh.elim id fun ⟨e, he, h1, h2⟩ => h e he h1 j h2, Or.inl⟩
  · intro h e he h1 j hj
    rw [← h, down_testBit]
    exact Or.inr ⟨e, he, h1, hj⟩
theorem some_bit {s : Nat} (h : s ≠ 0) : ∃ j, s.testBit j = true := by
  apply Classical.byContradiction
  intro hn
  apply h
  apply Nat.eq_of_testBit_eq
  intro i
  rw [Nat.zero_testBit, Bool.eq_false_iff]
  intro hi
  exact hn ⟨i, hi⟩
theorem top_some {xs : List Int} (hg : good xs = true) {s : Nat} (hs : s < 2 ^ xs.length) (h : s ≠ 0) : top xs s ≠ 0 := by
  obtain ⟨j, hj⟩ := some_bit h
  intro hz
  rcases top_over hg hs _ j (Nat.le_refl _) hj with h | ⟨e, -, h, -⟩ <;> (rw [hz] at h; simp at h)
theorem bottom_some {xs : List Int} (hg : good xs = true) {s : Nat} (hs : s < 2 ^ xs.length) (h : s ≠ 0) : bottom xs s ≠ 0 := by
  obtain ⟨j, hj⟩ := some_bit h
  have : ∀ (d j : Nat), j ≤ d → s.testBit j = true → bottom xs s ≠ 0 := by
    intro d
    induction d with
    | zero =>
      intro j hd hj hz
      obtain rfl : j = 0 := by omega
      have hjl := testBit_lt hs hj
      have : (bottom xs s).testBit 0 = true := (bottomN_testBit xs s xs.length 0).2 ⟨hjl, hj, by
        have := (row_lt hg hjl).2
        have h0 : row xs 0 = 0 := by omega
        rw [h0, Nat.zero_and]⟩
      rw [hz] at this; simp at this
    | succ d ih =>
      intro j hd hj
      by_cases hc : ∃ i, (row xs j).testBit i = true ∧ s.testBit i = true
      · obtain ⟨i, h1, h2⟩ := hc
        have := row_less hg (testBit_lt hs hj) h1
        exact ih i (by omega) h2
      · intro hz
        have : (bottom xs s).testBit j = true := (bottomN_testBit xs s xs.length j).2 ⟨testBit_lt hs hj, hj, by
          apply Nat.eq_of_testBit_eq
          intro i
          rw [Nat.testBit_and, Nat.zero_testBit, Bool.eq_false_iff]
          intro h
          rw [Bool.and_eq_true] at h
          exact hc ⟨i, h.1, h.2⟩⟩
        rw [hz] at this; simp at this
  exact this j j (Nat.le_refl _) hj
/-! ### the lists -/
theorem iaL_mem {f : Nat → Bool} {N s : Nat} (hs : s < N) (hf : f s = true) : ∃ j, j < (setsL f N).length ∧ (setsL f N).getD j 0 = (s : Int) := by
  have hm : (s : Int) ∈ setsL f N := List.mem_map.2 ⟨s, List.mem_filter.2 ⟨List.mem_range.2 hs, hf⟩, rfl⟩
  obtain ⟨j, hj, he⟩ := List.getElem_of_mem hm
  exact ⟨j, hj, by rw [List.getD, List.getElem?_eq_getElem hj]; exact he⟩
theorem iaL_at {f : Nat → Bool} {N j : Nat} (hj : j < (setsL f N).length) : ∃ s, s < N ∧ f s = true ∧ (setsL f N).getD j 0 = (s : Int) := by
  have hm : (setsL f N).getD j 0 ∈ setsL f N := by rw [List.getD, List.getElem?_eq_getElem hj]; exact List.getElem_mem hj
  obtain ⟨s, hs, he⟩ := List.mem_map.1 hm
  have := List.mem_filter.1 hs
  exact ⟨s, List.mem_range.1 this.1, this.2, he.symm⟩
theorem iaL_lt {f : Nat → Bool} {N i j : Nat} (hij : i < j) (hj : j < (setsL f N).length) : (setsL f N).getD i 0 < (setsL f N).getD j 0 := by
  have hp : (setsL f N).Pairwise (· < ·) := by
    unfold setsL
    rw [List.pairwise_map]
    exact (List.pairwise_lt_range.filter f).imp (fun h => Int.ofNat_lt.2 h)
  have h := List.pairwise_iff_getElem.1 hp i j (by omega) hj hij
  rw [List.getD, List.getD, List.getElem?_eq_getElem hj, List.getElem?_eq_getElem (by omega)]
  exact h
theorem iaL_zeroth {f : Nat → Bool} {N : Nat} (hN : 0 < N) (h0 : f 0 = true) : 0 < (setsL f N).length ∧ (setsL f N).getD 0 0 = 0 := by
  obtain ⟨j, hj, he⟩ := iaL_mem hN h0
  refine ⟨by omega, ?_⟩
  obtain ⟨s, hs, hf, e2⟩ := iaL_at (show 0 < (setsL f N).length by omega)
  rcases Nat.eq_zero_or_pos j with rfl | hp
  · simpa using he
  · have := iaL_lt hp hj
    rw [he, e2] at this
    exact absurd this (by simp)
theorem iaL_last {f : Nat → Bool} {M : Nat} (h0 : f M = true) : (setsL f (M + 1)).getD ((setsL f (M + 1)).length - 1) 0 = (M : Int) := by
  rw [setsL_yes h0, List.length_append, List.length_singleton]
  simp [List.getD]
theorem iaL_count {f g : Nat → Bool} {N : Nat} (A B : Nat → Nat) (h1 : ∀ s, s < N → f s = true → A s < N ∧ g (A s) = true ∧ B (A s) = s) (h2 : ∀ s, s < N → g s = true → B s < N ∧ f (B s) = true ∧ A (B s) = s) :
    (setsL g N).length = (setsL f N).length := by
  have hf : ((List.range N).filter f).Nodup := List.Pairwise.filter _ List.nodup_range
  have hg : ((List.range N).filter g).Nodup := List.Pairwise.filter _ List.nodup_range
  have hm : (((List.range N).filter f).map A).Nodup := by
    unfold List.Nodup
    rw [List.pairwise_map]
    refine List.Pairwise.imp_of_mem ?_ hf
    intro a b ha hb hne he
    have ha2 := List.mem_filter.1 ha
    have hb2 := List.mem_filter.1 hb
    have e1 := (h1 a (List.mem_range.1 ha2.1) ha2.2).2.2
    have e2 := (h1 b (List.mem_range.1 hb2.1) hb2.2).2.2
    exact hne (by rw [← e1, ← e2, he])
  have hp : (((List.range N).filter f).map A).Perm ((List.range N).filter g) := by
    refine (List.perm_ext_iff_of_nodup hm hg).2 fun t => ?_
    rw [List.mem_map, List.mem_filter, List.mem_range]
    constructor
    · rintro ⟨s, hs, rfl⟩
      have := List.mem_filter.1 hs
      have := h1 s (List.mem_range.1 this.1) this.2
      exact ⟨this.1, this.2.1⟩
    · rintro ⟨ht, hgt⟩
      have := h2 t ht hgt
      exact ⟨B t, List.mem_filter.2 ⟨List.mem_range.2 this.1, this.2.1⟩, this.2.2⟩
  have := hp.length_eq
  rw [List.length_map] at this
  simp only [setsL, List.length_map]
  exact this.symm
theorem full_ideal {xs : List Int} (hg : good xs = true) : holdsIdeal xs (2 ^ xs.length - 1) = true := by
  rw [holdsIdeal_row]
  intro e he _ j hj
  have := row_less hg he hj
  rw [Nat.testBit_two_pow_sub_one]
  simp; omega
theorem zero_ideal (xs : List Int) : holdsIdeal xs 0 = true := by
  rw [holdsIdeal_row]
  intro e he h
  simp at h
theorem chains_count {xs : List Int} (hg : good xs = true) : (antichainsL xs).length = (idealsL xs).length := by
  rw [antichainsL, idealsL, if_pos hg, if_pos hg]
  exact iaL_count (top xs) (down xs) (fun s hs h => ⟨top_lt_len hs, top_anti xs s, down_top hg hs h⟩) (fun a ha h => ⟨down_lt_len hg ha, down_ideal hg a, top_down_eq hg h⟩)
end Go.Proofs.Ytpdoheagfjeefaa

/- Draws of the model: a poset and a set, an ideal, an antichain. -/
namespace Go.Proofs.Ytpdoheagfjeefaa
open Go.RowKit Go.WideShapes Go.ChangeShapes
set_option linter.unusedVariables false

def DI (ti tp : TypeId) (w : World) (A B5 : Nat) (v : Value) (xs : List Int) (W : World) : Prop :=
  Below w.heap.size w W ∧ Cur W (w.heap.size + 1) A ∧ Blk W w.heap.size tp #[.slice none 0 0] ∧ Blk W B5 tp #[v] ∧ OwnI ti W (w.heap.size + 2) v xs
theorem DI.below {ti tp : TypeId} {w W W' : World} {A B5 : Nat} {v : Value} {xs : List Int} (h : DI ti tp w A B5 v xs W) (hb : Below W.heap.size W W') : DI ti tp w A B5 v xs W' :=
  ⟨below_to h.1 hb, h.2.1.below hb, h.2.2.1.below hb h.2.2.1.lt, h.2.2.2.1.below hb h.2.2.2.1.lt, h.2.2.2.2.below hb⟩
theorem DI.drawn {ti tp : TypeId} {w W W' : World} {A A' B5 : Nat} {v : Value} {xs : List Int} (h : DI ti tp w A B5 v xs W) (hd : Cur W' (w.heap.size + 1) A') (ht : TurnedIn (w.heap.size + 1) (w.heap.size + 1 + 1) W W') (hB : w.heap.size + 2 ≤ B5) : DI ti tp w A' B5 v xs W' :=
  ⟨below_turned h.1 ht (by omega), hd, h.2.2.1.turned ht (Or.inl (by omega)), h.2.2.2.1.turned ht (Or.inr (by omega)), h.2.2.2.2.turnedLow ht (by omega)⟩
theorem DI.fin {ti tp : TypeId} {w W : World} {A B5 : Nat} {v : Value} {xs : List Int} (h : DI ti tp w A B5 v xs W) (y : Value) : OwnI ti (W.setCell ⟨w.heap.size, 0, none⟩ y) w.heap.size v xs ∧ Below w.heap.size w (W.setCell ⟨w.heap.size, 0, none⟩ y) :=
  ⟨h.2.2.2.2.box (by omega) _, h.1.setCell (p := ⟨w.heap.size, 0, none⟩) (Nat.le_refl _) _⟩
/-- the same behind a store of the result, the cursor forgotten -/
def DZ (ti tp : TypeId) (w : World) (B5 : Nat) (z v : Value) (xs : List Int) (W : World) : Prop :=
  Below w.heap.size w W ∧ Blk W w.heap.size tp #[z] ∧ Blk W B5 tp #[v] ∧ OwnI ti W (w.heap.size + 2) v xs
theorem DZ.of {ti tp : TypeId} {w W : World} {A B5 : Nat} {v : Value} {xs : List Int} (h : DI ti tp w A B5 v xs W) : DZ ti tp w B5 (.slice none 0 0) v xs W := ⟨h.1, h.2.2.1, h.2.2.2.1, h.2.2.2.2⟩
theorem DZ.below {ti tp : TypeId} {w W W' : World} {B5 : Nat} {z v : Value} {xs : List Int} (h : DZ ti tp w B5 z v xs W) (hb : Below W.heap.size W W') : DZ ti tp w B5 z v xs W' :=
  ⟨below_to h.1 hb, h.2.1.below hb h.2.1.lt, h.2.2.1.below hb h.2.2.1.lt, h.2.2.2.below hb⟩
theorem DZ.box {ti tp : TypeId} {w W : World} {B5 : Nat} {z v : Value} {xs : List Int} (h : DZ ti tp w B5 z v xs W) (hB : w.heap.size + 2 ≤ B5) (y : Value) : DZ ti tp w B5 y v xs (W.setCell ⟨w.heap.size, 0, none⟩ y) :=
  ⟨h.1.setCell (p := ⟨w.heap.size, 0, none⟩) (Nat.le_refl _) _, h.2.1.set_ 0 y, h.2.2.1.turned ((TurnedIn.refl w.heap.size (w.heap.size + 1) W).set_ ⟨w.heap.size, 0, none⟩ ⟨Nat.le_refl _, Nat.lt_succ_self _⟩ y) (Or.inr (by omega)), h.2.2.2.turnedLow ((TurnedIn.refl w.heap.size (w.heap.size + 1) W).set_ ⟨w.heap.size, 0, none⟩ ⟨Nat.le_refl _, Nat.lt_succ_self _⟩ y) (by omega)⟩
end Go.Proofs.Ytpdoheagfjeefaa

/- Draws of the model: a word of toggles. -/
namespace Go.Proofs.Ytpdoheagfjeefaa
open Go.RowKit Go.WideShapes Go.ChangeShapes
set_option linter.unusedVariables false

def lenVW : Value → Nat
  | .slice _ n _ => n
  | _ => 0
set_option maxHeartbeats 1600000 in
theorem word2_any (g A : Nat) (v : Value) (xs : List Int) (w : World) (h : Cur w g A) (hA : A < 600000000000) (hv : Ints w v xs) (hl : xs.length ≤ 1048576) :
    Calls Try.prog 96 #[.pointer (some ⟨g, 0, none⟩), .agg #[v]] w fun (r : Ending) w' => ∃ u ys, r = .returned u ∧ OwnI 3 w' w.heap.size u ys ∧ ys.length ≤ 120 ∧ Drawn w g (A + 400) w' := by
  have HC := hid h
  have hgl := h.lt
  clear h
  obtain ⟨vA, vc, rfl, -⟩ := hv
  go_enter Try.func96, Try.ntmps96
  have HD0 := hid ((Drawn.mk HC.out (TurnedIn.refl _ _ _)).below (below_alloc (Below.refl _ w) (.cells #[.slice vA xs.length vc] 26)))
  have HA0 := hid (Blk.new w 26 #[.slice vA xs.length vc])
  go_wp2_with fail
  have HD1 := hid (HD0.out.below (below_alloc (Below.refl _ _) (.cells #[.int .i64 0, .int .i64 1, .int .i64 2, .int .i64 4, .int .i64 10] 3)))
  have HA1 := hid (HA0.out.alloc (.cells #[.int .i64 0, .int .i64 1, .int .i64 2, .int .i64 4, .int .i64 10] 3))
  refine (among_any g A _ [0, 1, 2, 4, 10] _ HD1.out.cur (by omega) ⟨_, Blk.new _ _ _, by simp; omega, by simp⟩ (by decide) (by decide)).mono ?_
  rintro e w2 ⟨m, hm, rfl, hc2, ht2⟩
  have HD2 := hid (Drawn.mk hc2 (HD1.out.turned.trans ht2))
  have HA2 := hid (HA1.out.turned ht2 (Or.inr (by omega)))
  have hy := hid (getD_range (p := fun x => 0 ≤ x ∧ x ≤ 10) (l := [0, 1, 2, 4, 10]) (by decide) hm)
  obtain ⟨y, hy2⟩ : ∃ y, [(0 : Int), 1, 2, 4, 10].getD m 0 = y := ⟨_, rfl⟩
  rw [hy2] at hy ⊢
  obtain ⟨n0, rfl⟩ := Int.eq_ofNat_of_zero_le hy.out.1
  have hn0 : n0 ≤ 10 := by have := hy.out.2; omega
  clear hc2 ht2 hy2 hm hy HD0 HD1 HA0 HA1
  go_wp2
  go_loopw [5, 6] (fun q i wr => ∃ (n : Nat) (ys : List Int), n ≤ 10 ∧ i = .int .i64 (n : Int) ∧ OwnI 3 wr (w.heap.size + 1) q ys ∧ ys.length + n ≤ 10 ∧ Drawn w g (A + 2 + 2 * (10 - n)) wr ∧ Blk wr w.heap.size 26 #[.slice vA xs.length vc]) (fun _ i _ => (intOf i).toNat)
  case atStart => exact ⟨n0, [], hn0, rfl, OwnI.nil _ _ _, by simpa using hn0, HD2.out.le (by omega), HA2.out⟩
  case round =>
    obtain ⟨n, ys, hn, rfl, ho, hlen, hd, ha⟩ := hrel
    have HO := hid ho
    have HD := hid hd
    have HA := hid ha
    have hz : w.heap.size + 1 ≤ wr.heap.size := ha.lt
    obtain ⟨qA, qc, rfl, -⟩ := ho.shape
    have t0 := ha.cell 0
    clear ho hd ha
    by_cases hn1 : 0 < n
    · go_wp2_with fail
      refine (l1Most_any 1 (xs.length : Int) _).mono ?_
      rintro e w3 ⟨rfl, rfl⟩
      go_wp2_with fail
      refine (pick_any g (A + 2 + 2 * (10 - n)) _ _ HD.out.cur (by omega)).mono ?_
      rintro e w4 ⟨p, hp, rfl, hc4, ht4⟩
      have HD4 := hid (Drawn.mk hc4 (HD.out.turned.trans ht4))
      have HA4 := hid (HA.out.turned ht4 (Or.inr (by omega)))
      have HO4 := hid (HO.out.turnedLow ht4 (by omega))
      have hz4 : w.heap.size + 1 ≤ w4.heap.size := by have := ht4.size; omega
      have hlen4 : ys.length < 1048576 := by omega
      clear hc4 ht4 HD HA HO hp
      go_wp2_with (at_builtin; refine wpList_append_int rfl _ _ 24 3 rfl Try.underlying24 Try.info3 (w.heap.size + 1) _ _ (p : Int) rfl HO4.out rfl rfl hlen4 hz4 ?_; rintro q2 w5 ho5 hb5)
      have HO5 := hid ho5
      have HD5 := hid (HD4.out.belowB hb5 (by omega) (by omega))
      have HA5 := hid (HA4.out.below hb5 (by omega))
      clear ho5 hb5
      go_roundw
      case rel => exact ⟨n - 1, ys ++ [(p : Int)], by omega, by go_num, HO5.out, by (rw [List.length_append, List.length_singleton]; omega), HD5.out.le (by omega), HA5.out⟩
      case measure => simp [intOf]; omega
    · obtain rfl : n = 0 := by omega
      have hl10 : ys.length ≤ 10 := by omega
      clear hn1 hn hlen t0
      go_wp2_with fail
      refine (pick_any g (A + 22) 20 _ HD.out.cur (by omega)).mono ?_
      rintro e w4 ⟨p, hp, rfl, hc4, ht4⟩
      have HD4 := hid (Drawn.mk hc4 (HD.out.turned.trans ht4))
      have HO4 := hid (HO.out.turnedLow ht4 (by omega))
      have hz4 : w.heap.size + 1 ≤ w4.heap.size := by have := ht4.size; omega
      have hlen4 : ys.length < 1048576 := by omega
      clear hc4 ht4 HD HA HO
      rcases (by omega : p = 0 ∨ p = 1 ∨ 2 ≤ p) with rfl | rfl | hp2
      · go_wp2_with fail
        have HD5 := hid (HD4.out.below (below_alloc (Below.refl _ _) (.cells #[.int .i64 (-1), .int .i64 10, .int .i64 4611686018427387904] 3)))
        have HO5 := hid (HO4.out.alloc (.cells #[.int .i64 (-1), .int .i64 10, .int .i64 4611686018427387904] 3))
        refine (among_any g (A + 24) _ [-1, 10, 4611686018427387904] _ HD5.out.cur (by omega) ⟨_, Blk.new _ _ _, by omega, by simp⟩ (by decide) (by decide)).mono ?_
        rintro e w6 ⟨m, hm, rfl, hc6, ht6⟩
        have HD6 := hid (Drawn.mk hc6 (HD5.out.turned.trans ht6))
        have HO6 := hid (HO5.out.turnedLow ht6 (by omega))
        have hz6 : w.heap.size + 1 ≤ w6.heap.size := by have := ht6.size; simp at this; omega
        obtain ⟨y, hy2⟩ : ∃ y, [(-1 : Int), 10, 4611686018427387904].getD m 0 = y := ⟨_, rfl⟩
        rw [hy2]
        clear hc6 ht6 HD4 HO4 HD5 HO5 hy2 hm
        go_wp2_with (at_builtin; refine wpList_append_int rfl _ _ 24 3 rfl Try.underlying24 Try.info3 (w.heap.size + 1) _ _ y rfl HO6.out rfl rfl hlen4 hz6 ?_; rintro q2 w7 ho7 hb7)
        go_ret
        exact ⟨_, _, rfl, ho7.mono (by omega), by (rw [List.length_append, List.length_singleton]; omega), (HD6.out.belowB hb7 (by omega) (by omega)).le (by omega)⟩
      · go_wp2
        go_loopw [5] (fun q wr => ∃ (zs : List Int), OwnI 3 wr (w.heap.size + 1) q zs ∧ zs.length ≤ 101 ∧ Drawn w g (A + 24 + 2 * zs.length) wr ∧ w.heap.size + 1 ≤ wr.heap.size) (fun q _ => 102 - lenVW q)
        case atStart => exact ⟨ys, HO4.out, by omega, HD4.out.le (by omega), hz4⟩
        case round =>
          obtain ⟨zs, ho, hlen, hd, hz⟩ := hrel
          have HO := hid ho
          have HD := hid hd
          obtain ⟨zA, zc, rfl, -⟩ := ho.shape
          clear ho hd
          go_wp2_with fail
          refine (pick_any g (A + 24 + 2 * zs.length) 2 _ HD.out.cur (by omega)).mono ?_
          rintro e w6 ⟨p, hp, rfl, hc6, ht6⟩
          have HD6 := hid (Drawn.mk hc6 (HD.out.turned.trans ht6))
          have HO6 := hid (HO.out.turnedLow ht6 (by omega))
          have hz6 : w.heap.size + 1 ≤ w6.heap.size := by have := ht6.size; omega
          have hlen6 : zs.length < 1048576 := by omega
          have hp1 : p ≤ 1 := by omega
          clear hc6 ht6 HD HO hp
          by_cases hlt : zs.length < 100 + p
          · go_wp2_with (at_builtin; refine wpList_append_int rfl _ _ 24 3 rfl Try.underlying24 Try.info3 (w.heap.size + 1) _ _ (0 : Int) rfl HO6.out rfl rfl hlen6 hz6 ?_; rintro q2 w7 ho7 hb7)
            have hsz : w.heap.size + 1 ≤ w7.heap.size := by have := hb7.size; omega
            have hsh := ho7.shape
            have HO7 := hid ho7
            have HD7 := hid (HD6.out.belowB hb7 (by omega) (by omega))
            obtain ⟨q2A, q2c, rfl, -⟩ := hsh
            clear ho7 hb7
            go_roundw
            case rel => exact ⟨_, HO7.out, by (rw [List.length_append, List.length_singleton]; omega), HD7.out.le (by rw [List.length_append, List.length_singleton]; omega), hsz⟩
            case measure => simp [lenVW]; omega
          · go_wp2
            go_ret
            exact ⟨_, _, rfl, HO6.out.mono (by omega), by omega, HD6.out.le (by omega)⟩
      · go_wp2
        go_ret
        exact ⟨_, _, rfl, HO4.out.mono (by omega), by omega, HD4.out.le (by omega)⟩
end Go.Proofs.Ytpdoheagfjeefaa

/- Draws of the model: an order, spoilt at times. -/
namespace Go.Proofs.Ytpdoheagfjeefaa
open Go.RowKit Go.WideShapes Go.ChangeShapes
set_option linter.unusedVariables false

theorem OwnI.storedO {e : TypeId} {w : World} {B g n c : Nat} {xs : List Int} (h : OwnI e w B (.slice (some ⟨g, 0, none⟩) n c) xs) (j : Nat) (y : Int) : OwnI e (w.setCell ⟨g, j, none⟩ (.int .i64 y)) B (.slice (some ⟨g, 0, none⟩) n c) (xs.set j y) := by
  obtain ⟨A, c', e', -⟩ := h.shape
  injection e' with e1 e2 e3
  subst e2
  have h' : w.ownsRow B e 1 (.slice (some ⟨g, 0, none⟩) xs.length c) xs.length (xs.map (Value.int .i64)) := h
  have := (h'.stored j (.int .i64 y)).1
  unfold OwnI
  rw [List.length_set, List.map_set]
  exact this
theorem OwnI.cellO {e : TypeId} {w : World} {B g n c : Nat} {xs : List Int} (h : OwnI e w B (.slice (some ⟨g, 0, none⟩) n c) xs) {j : Nat} (hj : j < xs.length) : w.cell? ⟨g, j, none⟩ = some (.int .i64 (xs.getD j 0)) ∧ w.frozen? ⟨g, j, none⟩ = false := by
  obtain ⟨A, c', e', -⟩ := h.shape
  injection e' with e1 e2 e3
  subst e2
  have h' : w.ownsRow B e 1 (.slice (some ⟨g, 0, none⟩) xs.length c) xs.length (xs.map (Value.int .i64)) := h
  exact ⟨by rw [h'.cellAt j (by omega)]; simp [hj], h'.frozenAt j⟩
/-- a list that was there before, in no block of the cursor -/
def IntsLow (w : World) (g : Nat) (vA : Option Addr) (xs : List Int) (W : World) : Prop :=
  xs ≠ [] → ∃ b o, vA = some ⟨b, o, none⟩ ∧ b < w.heap.size ∧ b ≠ g ∧ ∀ j, j < xs.length → W.cell? ⟨b, o + j, none⟩ = some (.int .i64 (xs.getD j 0))
theorem IntsLow.below {w W W' : World} {g B : Nat} {vA : Option Addr} {xs : List Int} (h : IntsLow w g vA xs W) (hb : Below B W W') (hB : w.heap.size ≤ B) : IntsLow w g vA xs W' := by
  intro hx
  obtain ⟨b, o, e, h1, h2, hc⟩ := h hx
  exact ⟨b, o, e, h1, h2, fun j hj => (hb.cell (p := ⟨b, o + j, none⟩) (by show b < B; omega)).trans (hc j hj)⟩
theorem IntsLow.turned {w W W' : World} {g : Nat} {vA : Option Addr} {xs : List Int} (h : IntsLow w g vA xs W) (ht : TurnedIn g (g + 1) W W') (hz : w.heap.size ≤ W.heap.size) : IntsLow w g vA xs W' := by
  intro hx
  obtain ⟨b, o, e, h1, h2, hc⟩ := h hx
  exact ⟨b, o, e, h1, h2, fun j hj => (World.cell?_of_block (a := ⟨b, o + j, none⟩) (ht.block b (by omega) (by omega))).trans (hc j hj)⟩
theorem IntsLow.of {ti : TypeId} {w : World} {g n c : Nat} {vA : Option Addr} {xs : List Int} (h : OwnI ti w (g + 1) (.slice vA n c) xs) : IntsLow w g vA xs w := by
  intro hx
  have hsh := h.shape
  obtain ⟨A', c', e1, hA'⟩ := h.ints
  injection e1 with e1 e2 e3
  subst e1
  obtain ⟨b, o, e4, hbl, hc⟩ := hA' hx
  obtain ⟨A2, c2, e5, hs⟩ := hsh
  injection e5 with e5 e6 e7
  subst e5
  obtain ⟨g2, e8, h1, h2⟩ := hs hx
  rw [e4] at e8
  injection e8 with e8
  injection e8 with e9 e10 e11
  exact ⟨b, o, e4, hbl, by omega, hc⟩
/-- what a draw of a list keeps: the list, the cursor, the poset's box and its own list -/
def OW (ti tp : TypeId) (w : World) (g A : Nat) (q : Value) (ys : List Int) (vA : Option Addr) (vc : Nat) (xs : List Int) (W : World) : Prop :=
  OwnI ti W (w.heap.size + 1) q ys ∧ Drawn w g A W ∧ Blk W w.heap.size tp #[.slice vA xs.length vc] ∧ IntsLow w g vA xs W ∧ w.heap.size + 1 ≤ W.heap.size
theorem OW.drawn {ti tp : TypeId} {w W W' : World} {g A A' vc : Nat} {q : Value} {vA : Option Addr} {ys xs : List Int} (h : OW ti tp w g A q ys vA vc xs W) (hg : g < w.heap.size) (hc : Cur W' g A') (ht : TurnedIn g (g + 1) W W') : OW ti tp w g A' q ys vA vc xs W' :=
  ⟨h.1.turnedLow ht (by omega), Drawn.mk hc (h.2.1.turned.trans ht), h.2.2.1.turned ht (Or.inr (by omega)), h.2.2.2.1.turned ht (by have := h.2.2.2.2; omega), Nat.le_trans h.2.2.2.2 ht.size⟩
theorem OW.le {ti tp : TypeId} {w W : World} {g A B vc : Nat} {q : Value} {vA : Option Addr} {ys xs : List Int} (h : OW ti tp w g A q ys vA vc xs W) (hb : A ≤ B) : OW ti tp w g B q ys vA vc xs W := ⟨h.1, h.2.1.le hb, h.2.2⟩
theorem OW.app {ti tp : TypeId} {w W W' : World} {g A vc : Nat} {q q2 : Value} {vA : Option Addr} {ys zs xs : List Int} (h : OW ti tp w g A q ys vA vc xs W) (hg : g < w.heap.size) (ho : OwnI ti W' (w.heap.size + 1) q2 zs) (hb : Below (w.heap.size + 1) W W') : OW ti tp w g A q2 zs vA vc xs W' :=
  ⟨ho, h.2.1.belowB hb (by omega) (by omega), h.2.2.1.below hb (by omega), h.2.2.2.1.below hb (by omega), Nat.le_trans h.2.2.2.2 hb.size⟩
theorem OW.set {ti tp : TypeId} {w W : World} {g A vc Bq n c : Nat} {vA : Option Addr} {ys xs : List Int} (h : OW ti tp w g A (.slice (some ⟨Bq, 0, none⟩) n c) ys vA vc xs W) (hg : g < w.heap.size) (hB : w.heap.size + 1 ≤ Bq) (j : Nat) (y : Int) : OW ti tp w g A (.slice (some ⟨Bq, 0, none⟩) n c) (ys.set j y) vA vc xs (W.setCell ⟨Bq, j, none⟩ (.int .i64 y)) :=
  h.app hg (h.1.storedO j y) ((Below.refl _ _).setCell (p := ⟨Bq, j, none⟩) hB _)
end Go.Proofs.Ytpdoheagfjeefaa

/- Draws of the model: rowmotion's arguments. -/
namespace Go.Proofs.Ytpdoheagfjeefaa
open Go.RowKit Go.WideShapes Go.ChangeShapes
set_option linter.unusedVariables false

theorem drawCanToggle_any (v : Value) (bs : List Int) (w : World) (hb : BytesB w w.heap.size v bs) (hl : bs.length ≤ 1048576) :
    Calls Try.prog 36 #[v] w fun (r : Ending) w' => ∃ u xs s, r = .returned (.tuple #[.agg #[u], .int .i64 s]) ∧ (Lit.int .i64 s).wf = true ∧ OwnI 3 w' w.heap.size u xs ∧ xs.length ≤ 21 ∧ Below w.heap.size w w' := by
  have HBy := hid hb
  obtain ⟨vA, vc, rfl, -⟩ := hb
  have HA0 := hid (Blk.new w 26 #[.slice none 0 0])
  have HB0 := hid (below_alloc (Below.refl _ w) (.cells #[.slice none 0 0] 26))
  go_enter Try.func36, Try.ntmps36
  go_wp2_with fail
  have HC := hid (Cur.new (w.alloc (.cells #[.slice none 0 0] 26)) _ bs (w.heap.size + 1) (by simp) ((HBy.out.below HB0.out).up (by simp)) hl)
  have HB1 := hid (below_alloc HB0.out (.cells #[.slice vA bs.length vc, .int .i64 0, .int .u64 0] 79))
  have HA1 := hid (HA0.out.alloc (.cells #[.slice vA bs.length vc, .int .i64 0, .int .u64 0] 79))
  refine (ideal_any (w.heap.size + 1) 0 10 _ HC.out (by decide) (by decide) (by decide)).mono ?_
  rintro e w2 ⟨u, xs, s, rfl, hwf, ho, hl2, hd⟩
  have HB2 := hid (hd.belowAll HB1.out (by omega))
  have HA2 := hid (HA1.out.turned hd.turned (Or.inl (by omega)))
  have HO := hid (ho.mono (show w.heap.size + 1 ≤ _ by simp))
  have HW := hid hwf
  obtain ⟨uA, uc, rfl, -⟩ := HO.out.shape
  clear ho hd hwf HA0 HA1 HB0 HB1 HC
  have a1 := HA2.out.cell 0
  have a2 := HA2.out.frozen 0
  go_wp2
  refine bodyPost_ret (v := .tuple #[.agg #[.slice uA xs.length uc], .int .i64 s]) (by simp [results, Try.results36, go_sem, a1]) rfl ⟨_, xs, _, rfl, HW.out, HO.out.box (Nat.le_refl _) _, hl2, HB2.out.setCell (p := ⟨w.heap.size, 0, none⟩) (Nat.le_refl _) _⟩
end Go.Proofs.Ytpdoheagfjeefaa
