/- Law DskF JoinI LawD OpenD -/
import Derived.Test.YtbmhaamenjhjfaaGreatDoorRows
import Derived.Outline
import Derived.Lib.SliceRun
import Derived.Test.YtbmhaamenjhjfaaGreatDoorPkD17
import Derived.Test.YtbmhaamenjhjfaaGreatDoorPkD40
namespace Go.Proofs.YtbmhaamenjhjfaaGreatDoor
open Go.RowKit Go.WideShapes Go.ChangeShapes
def szRes (left : Int) (n : Nat) : Int := if left < n then -1 else left - n
theorem szRes_neg {left : Int} {n : Nat} (h : left < n) : szRes left n = -1 := if_pos h
theorem szRes_pos {left : Int} {n : Nat} (h : ¬ left < n) : szRes left n = left - n := if_neg h
theorem szIntS_any (v : Value) (xs : List Int) (left : Int) (w : World) (hv : Ints w v xs) (hl : xs.length ≤ maxLen) (h0 : 0 ≤ left) (h1 : left ≤ 1048576) :
    Calls Tryz.prog 44 #[v, .int .i64 left] w fun r w' => r = .returned (.int .i64 (szRes left xs.length)) ∧ Below w.heap.size w w' := by
  obtain ⟨A, c, rfl, hA⟩ := hv
  unfold maxLen at hl
  clear hA
  by_cases hlt : left < xs.length
  · have H := hid (szRes_neg hlt)
    go_enter Tryz.func44, Tryz.ntmps44
    go_wp2
    go_ret
    exact ⟨ret_int H.out.symm, Below.refl _ _⟩
  · have H := hid (szRes_pos hlt)
    go_enter Tryz.func44, Tryz.ntmps44
    go_wp2
    go_ret
    exact ⟨ret_int H.out.symm, Below.refl _ _⟩
theorem szPoset_any (v : Value) (xs : List Int) (left : Int) (w : World) (hv : Ints w v xs) (hl : xs.length ≤ maxLen) (h0 : 0 ≤ left) (h1 : left ≤ 1048576) :
    Calls Tryz.prog 26 #[.agg #[v], .int .i64 left] w fun r w' => r = .returned (.int .i64 (szRes left xs.length)) ∧ Below w.heap.size w w' := by
  have HV := hid hv
  clear hv
  by_cases hlt : left < xs.length
  · have H := hid (szRes_neg hlt)
    go_enter Tryz.func26, Tryz.ntmps26
    go_wp2_with (go_at_call 44; refine (szIntS_any v xs left _ (HV.out.alloc _) hl h0 h1).mono ?_; rw [H.out]; rintro e w1 ⟨rfl, hb1⟩)
    go_ret
    exact ⟨ret_int H.out.symm, ((Below.refl _ _).alloc (Nat.le_refl _) _).trans (hb1.mono (by simp))⟩
  · have H := hid (szRes_pos hlt)
    go_enter Tryz.func26, Tryz.ntmps26
    go_wp2_with (go_at_call 44; refine (szIntS_any v xs left _ (HV.out.alloc _) hl h0 h1).mono ?_; rw [H.out]; rintro e w1 ⟨rfl, hb1⟩)
    go_ret
    exact ⟨ret_int H.out.symm, ((Below.refl _ _).alloc (Nat.le_refl _) _).trans (hb1.mono (by simp))⟩
def fillI (xs : List Int) (k : Nat) : Array Value := ((List.range xs.length).map fun j => Value.int .i64 (if j < k then xs.getD j 0 else 0)).toArray
theorem fillI_get (xs : List Int) (k i : Nat) (hi : i < xs.length) : (fillI xs k)[i]? = some (.int .i64 (if i < k then xs.getD i 0 else 0)) := by
  simp [fillI, hi]
theorem fillI_size (xs : List Int) (k : Nat) : (fillI xs k).size = xs.length := by simp [fillI]
theorem fillI_set (xs : List Int) (k : Nat) (hk : k < xs.length) : (fillI xs k).setIfInBounds k (.int .i64 (xs.getD k 0)) = fillI xs (k + 1) := by
  apply Array.ext_getElem?
  intro i
  rw [Array.getElem?_setIfInBounds, fillI_size]
  by_cases hi : i < xs.length
  · rw [fillI_get xs _ i hi, fillI_get xs _ i hi]
    by_cases h : k = i
    · subst h; simp [hk]
    · simp only [h, if_false]
      by_cases h2 : i < k
      · rw [if_pos h2, if_pos (by omega)]
      · rw [if_neg h2, if_neg (by omega)]
  · rw [Array.getElem?_eq_none (by rw [fillI_size]; omega), Array.getElem?_eq_none (by rw [fillI_size]; omega)]
    split
    · omega
    · rfl
theorem fillI_full (xs : List Int) : fillI xs xs.length = (xs.map (Value.int .i64)).toArray := by
  apply Array.ext_getElem?
  intro i
  by_cases hi : i < xs.length
  · rw [fillI_get xs _ i hi]; simp [hi]
  · rw [Array.getElem?_eq_none (by rw [fillI_size]; omega)]; simp [hi]
theorem fillI_zero (xs : List Int) : fillI xs 0 = madeCells #[.int .i64 0] xs.length := by
  have := toList_madeCells_one (.int .i64 0) xs.length
  rw [← Array.toList_inj, this]
  apply List.ext_getElem?
  intro i
  simp only [fillI, Nat.not_lt_zero, if_false, List.getElem?_map, List.getElem?_replicate]
  by_cases hi : i < xs.length <;> simp [hi]
theorem toIntS_any (v : Value) (xs : List Int) (w : World) (hv : Ints w v xs) (hl : xs.length ≤ 1048576) :
    Calls Tryz.prog 50 #[v] w fun (r : Ending) w' => ∃ g, r = Ending.returned (.slice (some ⟨g, 0, none⟩) xs.length xs.length) ∧ w.heap.size ≤ g ∧ Blk w' g 3 (xs.map (Value.int .i64)).toArray ∧ Below w.heap.size w w' := by
  obtain ⟨A, c, rfl, hA⟩ := hv
  have HA := hid hA
  clear hA
  have hmk := run_make_row' (P := Tryz.prog) 22 3 (.int .i64 0) 8 Tryz.underlying22 Tryz.info3 rfl .i64 .i64 xs.length (by omega) (by omega)
  have hz := hid (fillI_zero xs)
  go_enter Tryz.func50, Tryz.ntmps50
  go_wp2
  rw [← hz.out]
  clear hmk
  go_loopw [4] (fun i wr => ∃ k : Nat, k ≤ xs.length ∧ i = .int .i64 k ∧ Blk wr w.heap.size 3 (fillI xs k) ∧ Below w.heap.size w wr) (fun i _ => xs.length - (intOf i).toNat)
  case atStart => exact ⟨0, Nat.zero_le _, rfl, Blk.new _ _ _, (Below.refl _ _).alloc (Nat.le_refl _) _⟩
  case round =>
    obtain ⟨k, hk, rfl, hB, hb⟩ := hrel
    by_cases hlt : k < xs.length
    · obtain ⟨b, o, rfl, hbl, hc⟩ := HA.out (by intro h; simp [h] at hlt)
      have hcell : wr.cell? ⟨b, o + k, none⟩ = some (.int .i64 (xs.getD k 0)) := by
        rw [hb.cell (p := ⟨b, o + k, none⟩) hbl]; exact hc k hlt
      have hst : wr.cell? ⟨w.heap.size, k, none⟩ = some (.int .i64 0) := by rw [hB.cell, fillI_get xs k k hlt]; simp
      have hfz := hB.frozen k
      have HB := hid hB
      have Hb := hid hb
      clear hc hB hb
      obtain ⟨x, hx⟩ : ∃ x, xs.getD k 0 = x := ⟨_, rfl⟩
      rw [hx] at hcell
      have Hx := hid hx
      clear hx
      go_wp2
      go_roundw
      case rel => exact ⟨k + 1, by omega, by go_num, by rw [← fillI_set xs k hlt, Hx.out]; exact HB.out.set_ k _, Hb.out.setCell (Nat.le_refl _) _⟩
      case measure => simp [intOf]; omega
    · obtain rfl : k = xs.length := by omega
      have HB := hid hB
      have Hb := hid hb
      clear hB hb
      go_wp2
      go_ret
      exact ⟨_, rfl, Nat.le_refl _, by rw [← fillI_full]; exact HB.out, Hb.out⟩
theorem toPoset_any (v : Value) (xs : List Int) (w : World) (hv : Ints w v xs) (hl : xs.length ≤ 1048576) :
    Calls Tryz.prog 31 #[.agg #[v]] w fun (r : Ending) w' => ∃ g, r = Ending.returned (.agg #[.slice (some ⟨g, 0, none⟩) xs.length xs.length]) ∧ w.heap.size ≤ g ∧ Blk w' g 3 (xs.map (Value.int .i64)).toArray ∧ Below w.heap.size w w' := by
  have HV := hid hv
  clear hv
  go_enter Tryz.func31, Tryz.ntmps31
  go_wp2_with fail
  refine (toIntS_any v xs _ (((HV.out.alloc _).alloc _).alloc _) hl).mono ?_
  rintro e w1 ⟨g, rfl, hg, hB, hb1⟩
  obtain ⟨hc, hf⟩ := bcell hb1
  have hz : w.heap.size + 2 < w1.heap.size := by have := hb1.size; simp at this; omega
  have hg2 : w.heap.size + 3 ≤ g := by simp at hg; omega
  have HB := hid hB
  have HB1 := hid hb1
  clear hB hb1 hg
  go_wp2
  refine bodyPost_ret (v := .agg #[.slice (some ⟨g, 0, none⟩) xs.length xs.length]) (by simp [results, Tryz.results31, go_sem, hc]) rfl ⟨g, rfl, by omega, ?_, ?_⟩
  · exact (HB.out.far (by simp; omega) _).far (by simp; omega) _
  · exact (((((((Below.refl _ _).alloc (Nat.le_refl _) _).alloc (by simp) _).alloc (by simp; omega) _).trans (HB1.out.mono (by simp; omega))).setCell (by simp; omega) _).setCell (by simp) _)
theorem toPoset_own (v : Value) (xs : List Int) (w : World) (hv : Ints w v xs) (hl : xs.length ≤ 1048576) :
    Calls Tryz.prog 31 #[.agg #[v]] w fun (r : Ending) w' => ∃ u, r = Ending.returned (.agg #[u]) ∧ OwnI 3 w' w.heap.size u xs ∧ Below w.heap.size w w' :=
  (toPoset_any v xs w hv hl).mono fun _ _ ⟨_, he, hg, hB, hb⟩ => ⟨_, he, hB.own hg hl, hb⟩
end Go.Proofs.YtbmhaamenjhjfaaGreatDoor
namespace Go.Proofs.YtbmhaamenjhjfaaGreatDoor
open Go.RowKit Go.WideShapes Go.ChangeShapes
set_option linter.unusedVariables false
theorem coGood_any (v : Value) (xs : List Int) (s : Int) (w : World) (hv : Ints w v xs) (hl : xs.length ≤ 1048576) :
    Calls Tryz.prog 27 #[.agg #[v, .int .i64 s]] w fun r w' => r = .returned (.bool (okIdeal xs s)) ∧ Below w.heap.size w w' := by
  have HV := hid hv
  obtain ⟨A, c, rfl, -⟩ := hv
  go_enter Tryz.func27, Tryz.ntmps27
  go_wp2_with (go_at_call 45; refine (tgIn_any _ xs s _ (HV.out.alloc _) hl).mono ?_; rintro e w1 ⟨rfl, hb1⟩)
  go_ret
  exact ⟨rfl, below_to (below_alloc (Below.refl _ w) _) hb1⟩
theorem implIsDesk_any (v : Value) (xs : List Int) (s : Int) (w : World) (hv : Ints w v xs) (hl : xs.length ≤ 1048576) :
    Calls Tryz.prog 32 #[.agg #[v, .int .i64 s]] w fun r w' => r = .returned (.bool (okIdeal xs s)) ∧ Below w.heap.size w w' := by
  have HV := hid hv
  obtain ⟨A, c, rfl, -⟩ := hv
  go_enter Tryz.func32, Tryz.ntmps32
  go_wp2_with (go_at_call 51; refine (hasIdeal_any _ xs s _ (HV.out.alloc _) hl).mono ?_; rintro e w1 ⟨rfl, hb1⟩)
  go_ret
  exact ⟨rfl, below_to (below_alloc (Below.refl _ w) _) hb1⟩
end Go.Proofs.YtbmhaamenjhjfaaGreatDoor
namespace Go.Proofs.YtbmhaamenjhjfaaGreatDoor
open Go.RowKit Go.WideShapes Go.ChangeShapes
set_option linter.unusedVariables false
theorem cloneI_any (v : Value) (xs : List Int) (w : World) (hv : Ints w v xs) (hl : xs.length ≤ 1048576) :
    Calls Tryz.prog 35 #[v] w fun (r : Ending) w' => ∃ u, r = Ending.returned u ∧ OwnI 3 w' w.heap.size u xs ∧ Below w.heap.size w w' := by
  have HV := hid hv
  obtain ⟨A, c, rfl, hA⟩ := hv
  have HA := hid hA
  clear hA
  have qT : ∀ (w : World) (a : Option Addr) (n c n' c' : Nat), (binOp .eql 22 (.slice a n c) (.slice none n' c')).run Tryz.prog w = .ok (.bool a.isNone) w := fun w a n c n' c' => Lib.run_eql_slice_nil w _ _ a n c n' c' Tryz.underlying22
  rcases A with _ | ⟨b, o, pt⟩
  · by_cases hx : xs = []
    · subst hx
      go_enter Tryz.func35, Tryz.ntmps35
      go_wp2
      go_ret
      exact ⟨_, rfl, OwnI.nil _ _ _, Below.refl _ _⟩
    · obtain ⟨b, o, h, -⟩ := HA.out hx
      cases h
  · skip
    go_enter Tryz.func35, Tryz.ntmps35
    go_wp2_with (at_builtin; refine wpList_append_ints rfl _ _ 22 3 rfl Tryz.underlying22 Tryz.info3 w.heap.size _ [] rfl (OwnI.empty 3 w) _ xs rfl (HV.out.alloc _) (by simpa using hl) (by simp) ?_; rintro u w1 ho hb)
    go_ret
    exact ⟨_, rfl, by simpa using ho, (below_alloc (Below.refl _ w) _).trans hb⟩
end Go.Proofs.YtbmhaamenjhjfaaGreatDoor
namespace Go.Proofs.YtbmhaamenjhjfaaGreatDoor
open Go.RowKit Go.WideShapes Go.ChangeShapes
set_option linter.unusedVariables false
theorem szDesk_any (v : Value) (xs : List Int) (s left : Int) (w : World) (hv : Ints w v xs) (hl : xs.length ≤ maxLen) (h0 : 0 ≤ left) (h1 : left ≤ 1048576) :
    Calls Tryz.prog 7 #[.agg #[v, .int .i64 s], .int .i64 left] w fun r w' => r = .returned (.int .i64 (szRes left xs.length)) ∧ Below w.heap.size w w' := by
  have HV := hid hv
  obtain ⟨A, c, rfl, -⟩ := hv
  by_cases hlt : left < xs.length
  · have Hs := hid (szRes_neg hlt)
    go_enter Tryz.func7, Tryz.ntmps7
    go_wp2_with (go_at_call 26; refine (szPoset_any _ xs _ _ (HV.out.alloc _) hl h0 h1).mono ?_; rw [Hs.out]; rintro e w1 ⟨rfl, hb1⟩)
    go_ret
    exact ⟨by rw [Hs.out]; rfl, below_to (below_alloc (Below.refl _ w) _) hb1⟩
  · have Hs := hid (szRes_pos hlt)
    have hn : 0 ≤ left - (xs.length : Int) := by omega
    obtain ⟨d, hd⟩ : ∃ d, left - (xs.length : Int) = d := ⟨_, rfl⟩
    rw [hd] at hn Hs
    go_enter Tryz.func7, Tryz.ntmps7
    go_wp2_with (go_at_call 26; refine (szPoset_any _ xs _ _ (HV.out.alloc _) hl h0 h1).mono ?_; rw [Hs.out]; rintro e w1 ⟨rfl, hb1⟩)
    go_ret
    exact ⟨by rw [Hs.out]; rfl, below_to (below_alloc (Below.refl _ w) _) hb1⟩
theorem toDesk_own (v : Value) (xs : List Int) (s : Int) (w : World) (hv : Ints w v xs) (hl : xs.length ≤ 1048576) :
    Calls Tryz.prog 9 #[.agg #[v, .int .i64 s]] w fun (r : Ending) w' => ∃ u, r = Ending.returned (.agg #[u, .int .i64 s]) ∧ OwnI 3 w' w.heap.size u xs ∧ Below w.heap.size w w' := by
  have HV := hid hv
  obtain ⟨A, c, rfl, -⟩ := hv
  go_enter Tryz.func9, Tryz.ntmps9
  have HA := hid (Blk.new w 26 #[.slice A xs.length c, .int .i64 s])
  go_wp2_with fail
  refine (toPoset_own _ xs _ (((HV.out.alloc _).alloc _).alloc _) hl).mono ?_
  rintro e w1 ⟨u, rfl, ho, hb⟩
  obtain ⟨uA, uc, rfl, -⟩ := ho.ints
  have h3 : OwnI 3 w1 (w.heap.size + 3) (.slice uA xs.length uc) xs := by simpa using ho
  have HO := hid h3
  have hz : w.heap.size + 3 ≤ w1.heap.size := by have := hb.size; simp at this; omega
  have HA1 := hid (((HA.out.alloc (.cells #[.slice none 0 0, .int .i64 0] 30)).alloc (.cells #[.slice none 0 0, .int .i64 0] 30)).below hb (by simp; omega))
  have HR : Hid (Blk w1 (w.heap.size + 1) 30 #[.slice none 0 0, .int .i64 0]) := hid (((Blk.newAt (w.alloc (.cells #[.slice A xs.length c, .int .i64 s] 26)) 30 #[.slice none 0 0, .int .i64 0] (w.heap.size + 1) (by simp)).alloc (.cells #[.slice none 0 0, .int .i64 0] 30)).below hb (by simp))
  have HR2 : Hid (Blk w1 (w.heap.size + 2) 30 #[.slice none 0 0, .int .i64 0]) := hid ((Blk.newAt ((w.alloc (.cells #[.slice A xs.length c, .int .i64 s] 26)).alloc (.cells #[.slice none 0 0, .int .i64 0] 30)) 30 #[.slice none 0 0, .int .i64 0] (w.heap.size + 2) (by simp)).below hb (by simp))
  have HB := hid (below_to (below_alloc (below_alloc (below_alloc (Below.refl _ w) _) _) _) hb)
  have c0 : w1.cell? ⟨w.heap.size, 0, none⟩ = some (.slice A xs.length c) := HA1.out.cell 0
  have c1 : w1.cell? ⟨w.heap.size, 1, none⟩ = some (.int .i64 s) := HA1.out.cell 1
  have d0 : w1.cell? ⟨w.heap.size + 1, 0, none⟩ = some (.slice none 0 0) := HR.out.cell 0
  have d1 : w1.cell? ⟨w.heap.size + 1, 1, none⟩ = some (.int .i64 0) := HR.out.cell 1
  have e0 : w1.cell? ⟨w.heap.size + 2, 0, none⟩ = some (.slice none 0 0) := HR2.out.cell 0
  have e1 : w1.cell? ⟨w.heap.size + 2, 1, none⟩ = some (.int .i64 0) := HR2.out.cell 1
  have f0 := HR.out.frozen 0
  have f1 := HR.out.frozen 1
  have g0 := HR2.out.frozen 0
  have g1 := HR2.out.frozen 1
  clear ho hb h3
  go_wp2
  have HT := (((((TurnedIn.refl (w.heap.size + 1) (w.heap.size + 3) w1).set_ ⟨w.heap.size + 1 + 1, 0, none⟩ ⟨by show w.heap.size + 1 ≤ w.heap.size + 1 + 1; omega, by show w.heap.size + 1 + 1 < w.heap.size + 3; omega⟩ (.slice uA xs.length uc)).set_ ⟨w.heap.size + 1 + 1, 1, none⟩ ⟨by show w.heap.size + 1 ≤ w.heap.size + 1 + 1; omega, by show w.heap.size + 1 + 1 < w.heap.size + 3; omega⟩ (.int .i64 s)).set_ ⟨w.heap.size + 1, 0, none⟩ ⟨Nat.le_refl _, by show w.heap.size + 1 < w.heap.size + 3; omega⟩ (.slice uA xs.length uc)).set_ ⟨w.heap.size + 1, 1, none⟩ ⟨Nat.le_refl _, by show w.heap.size + 1 < w.heap.size + 3; omega⟩ (.int .i64 s))
  refine bodyPost_ret (v := .agg #[.slice uA xs.length uc, .int .i64 s]) (by simp [results, Tryz.results9, go_sem, d0, d1]) rfl ⟨_, rfl, (HO.out.turned HT (OwnI.blockLt HO.out) (Or.inr (by omega))).mono (by omega), ?_⟩
  exact (((HB.out.setCell (p := ⟨w.heap.size + 1 + 1, 0, none⟩) (by show w.heap.size ≤ w.heap.size + 1 + 1; omega) _).setCell (p := ⟨w.heap.size + 1 + 1, 1, none⟩) (by show w.heap.size ≤ w.heap.size + 1 + 1; omega) _).setCell (p := ⟨w.heap.size + 1, 0, none⟩) (by show w.heap.size ≤ w.heap.size + 1; omega) _).setCell (p := ⟨w.heap.size + 1, 1, none⟩) (by show w.heap.size ≤ w.heap.size + 1; omega) _
end Go.Proofs.YtbmhaamenjhjfaaGreatDoor
namespace Go.Proofs.YtbmhaamenjhjfaaGreatDoor
open Go.RowKit Go.WideShapes Go.ChangeShapes Go.ChangeAt
set_option linter.unusedVariables false
theorem ints_trod {H : Type} {enc : TypeId × Value → H} {P : Program} {w : World} {base : Nat} {spare : Nat → Bool} {held : Bool} {ts ti : TypeId} {c0 : Value} {n : Nat} {y0 : DataW H × List MemPlace}
    (hts : P.underlying ts = some (.slice ti)) (hti : P.underlying ti = some (.int .i64)) (hc1 : P.cellsOf ti = 1) (h0 : DataW.trod enc P w base spare held n ts [c0] = some y0) :
    ∃ xs : List Int, Ints w c0 xs ∧ xs.length ≤ maxLen := by
  rcases open_ints hts hti hc1 h0 with ⟨hcs, _⟩ | ⟨a, len, cap, zs, hcs, _, hle, hm, hz, _, hc, _⟩
  · simp only [List.cons.injEq, and_true] at hcs
    subst hcs
    exact ⟨[], ⟨none, 0, rfl, fun h => absurd rfl h⟩, by simp⟩
  · simp only [List.cons.injEq, and_true] at hcs
    subst hcs
    have hzl : len ≤ zs.length := by rw [hz]; split <;> omega
    have hl' : (zs.take len).length = len := by rw [List.length_take]; omega
    refine ⟨zs.take len, ⟨some a, cap, by rw [hl'], fun hx => ?_⟩, by rw [hl']; omega⟩
    have hp : 0 < len := by
      rcases Nat.eq_zero_or_pos len with h0 | h0
      · subst h0; simp at hx
      · exact h0
    obtain ⟨b, off, rfl, hcell⟩ := ints_at hc (by omega)
    refine ⟨b, off, rfl, ?_, fun j hj => ?_⟩
    · have := hcell 0 (by omega)
      exact World.block_lt_of_cell? w _ this
    · rw [hl'] at hj
      rw [hcell j (by omega)]
      congr 2
      simp [List.getD, hj]
theorem open_desk {H : Type} {enc : TypeId × Value → H} {P : Program} {w : World} {base : Nat} {spare : Nat → Bool} {held : Bool} {r : Reach} {b0 : Nat} {td tp ts ti : TypeId} {f0 f1 g0 : Field} {v : Value} {d : DataW H} {p : List MemPlace}
    (hs : P.underlying td = some (.struct #[f0, f1])) (hf0 : f0.type = tp) (ho0 : f0.offset = 0) (hf1 : f1.type = ti) (ho1 : f1.offset = 1) (hC : P.cellsOf td = 2) (hC1 : P.cellsOf tp = 1)
    (hp : P.underlying tp = some (.struct #[g0])) (hg : g0.type = ts) (hgo : g0.offset = 0) (hCs : P.cellsOf ts = 1)
    (hts : P.underlying ts = some (.slice ti)) (hti : P.underlying ti = some (.int .i64)) (hc1 : P.cellsOf ti = 1)
    (hv : Value.okWide P w r b0 td v) (h : DataW.Trod enc P w base spare held td v d p) :
    ∃ (u : Value) (xs : List Int) (s : Int), v = .agg #[u, .int .i64 s] ∧ Ints w u xs ∧ xs.length ≤ maxLen ∧ (Lit.int .i64 s).wf = true := by
  obtain ⟨cs, rfl, hsz⟩ := okWide_struct hs hv
  obtain ⟨c0, c1, rfl⟩ : ∃ c0 c1, cs = #[c0, c1] := by
    obtain ⟨l⟩ := cs
    match l, hsz.trans hC with
    | [c0, c1], _ => exact ⟨c0, c1, rfl⟩
  obtain ⟨fuel, hf⟩ := h
  obtain ⟨y0, y1, n, -, -, h0, h1⟩ := trod_struct2 hs hf
  rw [hf0, ho0, hC1] at h0
  rw [hf1, ho1, hc1] at h1
  have h0' : DataW.trod enc P w base spare held n tp [c0] = some y0 := by simpa [Value.cells] using h0
  have h1' : DataW.trod enc P w base spare held n ti [c1] = some y1 := by simpa [Value.cells] using h1
  obtain ⟨z0, m, -, -, k0⟩ := trod_struct1 hp h0'
  rw [hg, hgo, hCs] at k0
  have k0' : DataW.trod enc P w base spare held m ts [c0] = some z0 := by simpa using k0
  obtain ⟨xs, hx, hm⟩ := ints_trod hts hti hc1 k0'
  obtain ⟨s, hs1, -, hw⟩ := DataW.trod_int hti h1'
  simp at hs1
  subst hs1
  exact ⟨c0, xs, s, rfl, hx, hm, hw⟩
end Go.Proofs.YtbmhaamenjhjfaaGreatDoor
