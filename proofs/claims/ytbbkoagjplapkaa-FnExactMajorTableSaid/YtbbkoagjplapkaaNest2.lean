/- Slices of slices as arguments: read, sized, copied. -/
import Derived.Test.YtbbkoagjplapkaaNest
import Derived.Test.YtbbkoagjplapkaaPairs
import Derived.Deep.Matrix
namespace Go.Proofs.Ytbbkoagjplapkaa
open Go.RowKit Go.WideShapes Go.ChangeShapes
set_option linter.unusedVariables false

theorem open_lists {H : Type} {enc : TypeId × Value → H} {P : Program} {w : World} {base : Nat} {held : Bool} {r : Reach} {b0 : Nat} {t e q : TypeId} {v : Value} {d : DataW H} {p : List MemPlace}
    (ht : P.underlying t = some (.slice e)) (he : P.underlying e = some (.slice q)) (hq : P.underlying q = some (.int .i64)) (ce : P.cellsOf e = 1) (cq : P.cellsOf q = 1)
    (hv : Value.okWide P w r b0 t v) (h : DataW.Trod enc P w base (fun _ => true) held t v d p) :
    ∃ ls : List (List Int), IntsSS w v ls ∧ ls.length ≤ maxLen ∧ ∀ j, j < ls.length → (ls.getD j []).length ≤ maxLen := by
  obtain ⟨A0, len0, cap0, rfl⟩ := okWide_slice ht hv
  obtain ⟨fuel, hf⟩ := h
  rcases Go.Deep.open_int_rows ht he hq ce cq hf with ⟨hcs, _⟩ | ⟨a, len, cap, A, L, C, Z, hcs, hb, hl, hm, _, hr⟩
  · simp [Value.cells] at hcs
    obtain ⟨rfl, rfl, rfl⟩ := hcs
    exact ⟨[], ⟨none, 0, rfl, fun j hj => absurd hj (Nat.not_lt_zero _)⟩, Nat.zero_le _, fun j hj => absurd hj (Nat.not_lt_zero _)⟩
  · simp [Value.cells] at hcs
    obtain ⟨rfl, rfl, rfl⟩ := hcs
    have hlen : ((List.range len0).map fun r => (Z r).take (L r)).length = len0 := by simp
    have hget : ∀ j, j < len0 → ((List.range len0).map fun r => (Z r).take (L r)).getD j [] = (Z j).take (L j) := fun j hj => by simp [List.getD, hj]
    refine ⟨(List.range len0).map fun r => (Z r).take (L r), ⟨some a, cap0, by rw [hlen], fun j hj => ?_⟩, by rw [hlen]; omega, fun j hj => ?_⟩
    · rw [hlen] at hj
      obtain ⟨h1, h2, h3, h4, -, h5, h6⟩ := hr j (by omega)
      rw [hget j hj]
      obtain ⟨ab, ao, rfl⟩ : ∃ b o, a = ⟨b, o, none⟩ := by
        have h0 := (hr 0 (by omega)).1
        obtain ⟨b, o, pt⟩ := a
        have hspot : pt = none := by simpa [Addr.add] using World.cell?_spot h0
        subst hspot
        exact ⟨b, o, rfl⟩
      have hadd : ((⟨ab, ao, none⟩ : Addr).add j) = ⟨ab, ao + j, none⟩ := Go.WideShapes.add_plain _ _ _
      rw [hadd] at h1
      have hlt := World.block_lt_of_cell? w _ h1
      refine ⟨ab, ao, _, rfl, hlt, h1, A j, C j, ?_, fun hx => ?_⟩
      · rw [List.length_take]; congr 1; omega
      · have hLp : 0 < L j := by
          rcases Nat.eq_zero_or_pos (L j) with h0 | h0
          · rw [h0] at hx; simp at hx
          · exact h0
        cases hA : A j with
        | none => have := h5 hA; omega
        | some a' =>
          obtain ⟨-, hc⟩ := h6 a' hA
          obtain ⟨b', o', rfl, hcell⟩ := ints_at (zs := Z j) (fun i hi => hc i (by omega)) (by omega)
          refine ⟨b', o', rfl, ?_, fun i hi => ?_⟩
          · exact World.block_lt_of_cell? w _ (hcell 0 (by omega))
          · rw [List.length_take] at hi
            rw [hcell i (by omega)]
            congr 2
            simp [List.getD, show i < L j by omega]
    · rw [hlen] at hj
      obtain ⟨h1, h2, h3, h4, -⟩ := hr j (by omega)
      rw [hget j hj, List.length_take]
      omega
/-! ### sizes -/
def szN (left : Int) (ls : List (List Int)) : Nat → Int
  | 0 => left
  | k + 1 => if szN left ls k < 0 then -1 else szRes (szN left ls k) (ls.getD k []).length
def szAll (left : Int) (ls : List (List Int)) : Int := if left < ls.length then -1 else szN (left - ls.length) ls ls.length
theorem szN_neg {left : Int} {ls : List (List Int)} {k : Nat} (h : szN left ls k < 0) (j : Nat) (hj : k < j) : szN left ls j = -1 := by
  induction j with
  | zero => omega
  | succ j ih =>
    unfold szN
    by_cases e : k = j
    · subst e; rw [if_pos h]
    · rw [if_pos (by rw [ih (by omega)]; decide)]
theorem szN_off {left : Int} {ls : List (List Int)} (k : Nat) (h : 0 ≤ szN left ls k) : szN left ls k = left - offL ls k := by
  induction k with
  | zero => simp [szN, offL]
  | succ k ih =>
    have hs : offL ls (k + 1) = offL ls k + (ls.getD k []).length := rfl
    unfold szN at h ⊢
    by_cases h0 : szN left ls k < 0
    · rw [if_pos h0] at h; omega
    · rw [if_neg h0] at h ⊢
      have h1 := ih (by omega)
      by_cases h2 : szN left ls k < (ls.getD k []).length
      · rw [szRes_neg h2] at h; omega
      · rw [szRes_pos h2, h1]; omega
theorem szAll_small {ls : List (List Int)} {left : Int} (hl : left ≤ 1048576) (h : 0 ≤ szAll left ls) : SSmall ls := by
  unfold szAll at h
  split at h
  · omega
  · rename_i hn
    have h1 := szN_off _ h
    refine ⟨by omega, fun j hj => ?_, by omega⟩
    have h2 := offL_mono ls (show j + 1 ≤ ls.length by omega)
    have hs : offL ls (j + 1) = offL ls j + (ls.getD j []).length := rfl
    omega
set_option maxHeartbeats 800000 in
theorem szIntSS_any (v : Value) (ls : List (List Int)) (left : Int) (w : World) (hv : IntsSS w v ls) (hl : ls.length ≤ maxLen) (hr : ∀ j, j < ls.length → (ls.getD j []).length ≤ maxLen) (h0 : 0 ≤ left) (h1 : left ≤ 1048576) :
    Calls Try.prog 15 #[v, .int .i64 left] w fun r w' => r = .returned (.int .i64 (szAll left ls)) ∧ Below w.heap.size w w' := by
  obtain ⟨A, c, rfl, hA⟩ := hv
  have HA := hid hA
  have HR := hid hr
  unfold maxLen at hl
  clear hA hr
  by_cases hlt : left < ls.length
  · have H := hid (show szAll left ls = -1 from if_pos hlt)
    go_enter Try.func15, Try.ntmps15
    go_wp2
    go_ret
    exact ⟨ret_int H.out.symm, Below.refl _ _⟩
  · have H := hid (show szAll left ls = szN (left - ls.length) ls ls.length from if_neg hlt)
    have hln : ls.length ≤ 1048576 := by omega
    go_enter Try.func15, Try.ntmps15
    go_wp2
    go_loopw [1, 5] (fun q i wr => ∃ (k : Nat) (t : Int), k ≤ ls.length ∧ i = .int .i64 k ∧ q = .int .i64 t ∧ 0 ≤ t ∧ t ≤ 1048576 ∧ Hid (szN (left - ls.length) ls k = t) ∧ Below w.heap.size w wr) (fun _ i _ => ls.length - (intOf i).toNat)
    case atStart => exact ⟨0, left - ls.length, Nat.zero_le _, rfl, rfl, by omega, by omega, hid rfl, Below.refl _ _⟩
    case round =>
      obtain ⟨k, t, hk, rfl, rfl, ht0, ht1, HT, hb⟩ := hrel
      by_cases hkl : k < ls.length
      · obtain ⟨b, o, u, rfl, hbl, hc, hi⟩ := HA.out k hkl
        have hcell : wr.cell? ⟨b, o + k, none⟩ = some u := (hb.cell (p := ⟨b, o + k, none⟩) hbl).trans hc
        have HI := hid (hi.below hb)
        have HLn := hid (HR.out k hkl)
        have HB := hid hb
        obtain ⟨uA, uc, hu, -⟩ := hi
        have HS : Hid (szN (left - ls.length) ls (k + 1) = szRes t (ls.getD k []).length) := hid (by unfold szN; rw [if_neg (by rw [HT.out]; omega), HT.out])
        obtain ⟨n, hn⟩ : ∃ n, (ls.getD k []).length = n := ⟨_, rfl⟩
        rw [hn] at HS hu
        subst hu
        have HC := hid (szIntS_any _ _ t wr HI.out HLn.out ht0 ht1)
        rw [hn] at HC
        clear hc hb hn
        by_cases hs : t < n
        · have HSn := hid (szRes_neg hs)
          rw [HSn.out] at HC HS
          have HN : Hid (szN (left - ls.length) ls ls.length = -1) := hid (by
            by_cases e : k + 1 = ls.length
            · have h := HS.out
              rw [e] at h
              exact h
            · exact szN_neg (k := k + 1) (by rw [HS.out]; decide) _ (by omega))
          go_wp2_with fail
          refine HC.out.mono ?_
          rintro e w2 ⟨rfl, hb2⟩
          have HB2 := hid (below_to HB.out hb2)
          clear hb2 hcell
          go_wp2
          go_ret
          exact ⟨ret_int (by rw [H.out, HN.out]), HB2.out⟩
        · have HSp := hid (szRes_pos hs)
          rw [HSp.out] at HC HS
          go_wp2_with fail
          refine HC.out.mono ?_
          rintro e w2 ⟨rfl, hb2⟩
          have HB2 := hid (below_to HB.out hb2)
          have ht2 : ¬ t - (n : Int) < 0 := by omega
          clear hb2 hcell
          go_wp2
          go_roundw
          case rel => exact ⟨k + 1, t - n, by omega, by go_num, rfl, by omega, by omega, HS, HB2.out⟩
          case measure => simp [intOf]; omega
      · obtain rfl : k = ls.length := by omega
        have HB := hid hb
        clear hb
        go_wp2
        go_ret
        exact ⟨ret_int (by rw [H.out, HT.out]), HB.out⟩

/-! ### copies -/
def fillSS (ls : List (List Int)) (k : Nat) : List (List Int) := (List.range ls.length).map fun j => if j < k then ls.getD j [] else []
theorem fillSS_length (ls : List (List Int)) (k : Nat) : (fillSS ls k).length = ls.length := by simp [fillSS]
theorem fillSS_set (ls : List (List Int)) (k : Nat) (hk : k < ls.length) : (fillSS ls k).set k (ls.getD k []) = fillSS ls (k + 1) := by
  apply List.ext_getElem?
  intro i
  rw [List.getElem?_set, fillSS_length]
  simp only [fillSS, List.getElem?_map]
  by_cases hi : i < ls.length
  · by_cases e : k = i
    · subst e; simp [hk]
    · simp only [e, if_false, List.getElem?_range hi, Option.map_some]
      by_cases h2 : i < k
      · rw [if_pos h2, if_pos (by omega)]
      · rw [if_neg h2, if_neg (by omega)]
  · simp [hi]
    intro h; omega
theorem fillSS_full (ls : List (List Int)) : fillSS ls ls.length = ls := by
  apply List.ext_getElem?
  intro i
  simp only [fillSS, List.getElem?_map]
  by_cases hi : i < ls.length
  · simp [hi]
  · simp [hi]
/-- one row of a slice of slices is replaced by a fresh one -/
theorem OwnSS.put {ti ts : TypeId} {w : World} {B E E' : Nat} {A : Option Addr} {n c : Nat} {ls : List (List Int)} (h : OwnSS ti ts w B E (.slice A n c) ls) (hne : ti ≠ ts) (hE : E ≤ E') {j : Nat} (hj : j < ls.length) {u : Value} {l : List Int}
    (hu : OwnI ti w B u l) (hfr : ∀ k, u.ownBlock = some k → E ≤ k ∧ k < E') :
    ∃ b, A = some ⟨b, 0, none⟩ ∧ b < E ∧ w.frozen? ⟨b, j, none⟩ = false ∧ (∃ x, w.cell? ⟨b, j, none⟩ = some x) ∧ OwnSS ti ts (w.setCell ⟨b, j, none⟩ u) B E' (.slice A n c) (ls.set j l) := by
  obtain ⟨us, h1, h2, h3, h4, h5⟩ := h
  have h2' := h2
  rcases h2.2 with ⟨e, hn⟩ | ⟨b, cap, cur, e, hB, hh, r1, r2, r3, r4⟩
  · omega
  · injection e with e1 e2 e3
    subst e1; subst e2; subst e3
    have hbE : b < E := h3 b rfl
    have hrow : ∀ (u' : Value) (l' : List Int), OwnI ti w B u' l' → some b ≠ u'.ownBlock := by
      intro u' l' hi e
      rcases hi.2 with ⟨e', _⟩ | ⟨g, cap', cur', e', _, hh', _⟩
      · rw [e'] at e; simp [Value.ownBlock] at e
      · rw [e'] at e
        simp only [Value.ownBlock, Option.some.injEq] at e
        subst e
        rw [hh] at hh'
        injection hh' with hh'
        injection hh' with _ hh'
        exact hne hh'.symm
    refine ⟨b, rfl, hbE, h2.frozenAt j, ?_, us.set j u, by simp [h1], ?_, fun k hk => Nat.lt_of_lt_of_le (h3 k hk) hE, ?_, ?_⟩
    · have := h2.cellAt j (by omega)
      exact ⟨us[j]'(by omega), by rw [this]; exact List.getElem?_eq_getElem (by omega)⟩
    · rw [List.length_set]
      exact (h2'.stored j u).1
    · intro i u' l' hu' hl'
      have hset : ∀ (x : Value) (m : List Int), OwnI ti w B x m → OwnI ti (w.setCell ⟨b, j, none⟩ u) B x m := fun x m hx =>
        hx.grown (grown_setCell (g := b) (World.grownBy.refl w (some b)) j u) (.inr (fun e => hrow x m hx e.symm))
      by_cases e : j = i
      · subst e
        rw [List.getElem?_set_self (by omega)] at hu' hl'
        injection hu' with hu'
        injection hl' with hl'
        subst hu'; subst hl'
        exact ⟨hset _ _ hu, fun k hk => (hfr k hk).2⟩
      · rw [List.getElem?_set_ne e] at hu' hl'
        obtain ⟨hi, hk⟩ := h4 i u' l' hu' hl'
        exact ⟨hset _ _ hi, fun k hk' => Nat.lt_of_lt_of_le (hk k hk') hE⟩
    · intro i i' u1 u2 hii hu1 hu2
      by_cases e : j = i
      · subst e
        rw [List.getElem?_set_self (by omega)] at hu1
        rw [List.getElem?_set_ne hii] at hu2
        injection hu1 with hu1
        subst hu1
        have hl2 : i' < us.length := (List.getElem?_eq_some_iff.1 hu2).1
        obtain ⟨-, hk2⟩ := h4 i' u2 ls[i'] hu2 (List.getElem?_eq_getElem (by omega))
        rcases hq : u.ownBlock with _ | k
        · exact .inl rfl
        · refine .inr fun e => ?_
          have a := hfr k hq
          have b := hk2 k e.symm
          omega
      · rw [List.getElem?_set_ne e] at hu1
        by_cases e' : j = i'
        · subst e'
          rw [List.getElem?_set_self (by omega)] at hu2
          injection hu2 with hu2
          subst hu2
          have hl1 : i < us.length := (List.getElem?_eq_some_iff.1 hu1).1
          obtain ⟨-, hk1⟩ := h4 i u1 ls[i] hu1 (List.getElem?_eq_getElem (by omega))
          rcases hq : u1.ownBlock with _ | k
          · exact .inl rfl
          · refine .inr fun e => ?_
            have a := hfr k e.symm
            have b := hk1 k hq
            omega
        · rw [List.getElem?_set_ne e'] at hu2
          exact h5 i i' u1 u2 hii hu1 hu2
theorem OwnSS.made {P : Program} (ti ts : TypeId) (w : World) (ls : List (List Int)) (hl : ls.length ≤ 1048576) :
    OwnSS ti ts (w.alloc (.cells (madeCells #[.slice none 0 0] ls.length) ts)) w.heap.size (w.heap.size + 1) (.slice (some ⟨w.heap.size, 0, none⟩) ls.length ls.length) (fillSS ls 0) := by
  have hm := toList_madeCells_one (.slice none 0 0) ls.length
  have hsz : (madeCells #[.slice none 0 0] ls.length).size = ls.length := by
    have := congrArg List.length hm
    simpa using this
  refine ⟨List.replicate ls.length (.slice none 0 0), by simp [fillSS_length], ?_, ?_, ?_, ?_⟩
  · rw [fillSS_length]
    refine ⟨by simp, .inr ⟨w.heap.size, ls.length, _, rfl, Nat.le_refl _, heap_alloc_new w _, Nat.le_refl _, by unfold maxLen; omega, by rw [hsz, Nat.mul_one], ?_⟩⟩
    rw [hm, Nat.mul_one]
    exact List.take_of_length_le (by simp)
  · intro k hk
    simp [Value.ownBlock] at hk
    omega
  · intro j u l hu hl'
    obtain ⟨hj, rfl⟩ := List.getElem?_eq_some_iff.1 hu
    obtain ⟨hj', rfl⟩ := List.getElem?_eq_some_iff.1 hl'
    simp only [fillSS, List.getElem_map, List.getElem_replicate, Nat.not_lt_zero, if_false]
    exact ⟨OwnI.nil _ _ _, fun k hk => by simp [Value.ownBlock] at hk⟩
  · intro i j u u' hij hu hu'
    obtain ⟨hj, rfl⟩ := List.getElem?_eq_some_iff.1 hu
    left
    simp [Value.ownBlock]
theorem OwnSS.mono {ti ts : TypeId} {w : World} {B E E' : Nat} {v : Value} {ls : List (List Int)} (h : OwnSS ti ts w B E v ls) (hE : E ≤ E') : OwnSS ti ts w B E' v ls := by
  obtain ⟨us, h1, h2, h3, h4, h5⟩ := h
  exact ⟨us, h1, h2, fun k hk => Nat.lt_of_lt_of_le (h3 k hk) hE, fun j u l hu hl => ⟨(h4 j u l hu hl).1, fun k hk => Nat.lt_of_lt_of_le ((h4 j u l hu hl).2 k hk) hE⟩, h5⟩
set_option maxHeartbeats 800000 in
theorem toIntSS_own (v : Value) (ls : List (List Int)) (w : World) (hv : IntsSS w v ls) (hs : SSmall ls) :
    Calls Try.prog 17 #[v] w fun (r : Ending) w' => ∃ u, r = Ending.returned u ∧ OwnSS 3 27 w' w.heap.size w'.heap.size u ls ∧ Below w.heap.size w w' := by
  obtain ⟨A, c, rfl, hA⟩ := hv
  have HA := hid hA
  have HR := hid hs.2.1
  have hl := hs.1
  have hmk := run_make_row' (P := Try.prog) 22 27 (.slice none 0 0) 24 Try.underlying22 Try.info27 rfl .i64 .i64 ls.length (by omega) (by omega)
  have HM := hid (OwnSS.made (P := Try.prog) 3 27 w ls hl)
  clear hA hs
  go_enter Try.func17, Try.ntmps17
  go_wp2
  clear hmk
  go_loopw [4] (fun i wr => ∃ k : Nat, k ≤ ls.length ∧ i = .int .i64 k ∧ OwnSS 3 27 wr w.heap.size wr.heap.size (.slice (some ⟨w.heap.size, 0, none⟩) ls.length ls.length) (fillSS ls k) ∧ Below w.heap.size w wr ∧ w.heap.size < wr.heap.size) (fun i _ => ls.length - (intOf i).toNat)
  case atStart => exact ⟨0, Nat.zero_le _, rfl, by simpa using HM.out, below_alloc (Below.refl _ _) _, by simp⟩
  case round =>
    obtain ⟨k, hk, rfl, ho, hb, hz⟩ := hrel
    by_cases hkl : k < ls.length
    · obtain ⟨b, o, u, rfl, hbl, hc, hi⟩ := HA.out k hkl
      have hcell : wr.cell? ⟨b, o + k, none⟩ = some u := (hb.cell (p := ⟨b, o + k, none⟩) hbl).trans hc
      have HI := hid (hi.below hb)
      have HLn := hid (HR.out k hkl)
      have HO := hid ho
      have HB := hid hb
      obtain ⟨uA, uc, hu, -⟩ := hi
      obtain ⟨n, hn⟩ : ∃ n, (ls.getD k []).length = n := ⟨_, rfl⟩
      rw [hn] at hu
      subst hu
      clear hc hb hn ho
      go_wp2_with fail
      refine (toIntS_own _ (ls.getD k []) _ HI.out HLn.out).mono ?_
      rintro e w2 ⟨q, rfl, ho2, hb2⟩
      obtain ⟨bb, hbb, hbE, hfz, ⟨x, hx⟩, hput⟩ := (HO.out.below hb2).put (by decide) hb2.size (j := k) (by rw [fillSS_length]; exact hkl) (ho2.mono (Nat.le_of_lt hz)) (fun k' hk' => ho2.blockLt k' hk')
      have hbb2 : bb = w.heap.size := by injection hbb with h; injection h with h; exact h.symm
      subst hbb2
      rw [fillSS_set ls k hkl] at hput
      have HP := hid hput
      have HB2 := hid (below_to HB.out hb2)
      have hz2 : w.heap.size < w2.heap.size := Nat.lt_of_lt_of_le hz hb2.size
      obtain ⟨qA, qn, qc, rfl⟩ := ho2.shape3
      clear hcell hput hbb ho2 hb2
      go_wp2
      go_roundw
      case rel => exact ⟨k + 1, by omega, by go_num, by simpa [World.setCell] using HP.out, HB2.out.setCell (Nat.le_refl _) _, by simpa [World.setCell] using hz2⟩
      case measure => simp [intOf]; omega
    · obtain rfl : k = ls.length := by omega
      rw [fillSS_full] at ho
      have HO := hid ho
      have HB := hid hb
      clear ho hb
      go_wp2
      go_ret
      exact ⟨_, rfl, HO.out, HB.out⟩
end Go.Proofs.Ytbbkoagjplapkaa
