/- Words backwards: slices.Clone and slices.Reverse at the words of toggles; the motion that leads back. -/
import Derived.Test.YtbjidoihnbjjdabUndo
import Derived.Lib.SliceRun
import Derived.RegionTactic
namespace Go.Proofs.Ytbjidoihnbjjdab
open Go.RowKit Go.WideShapes Go.ChangeShapes
set_option linter.unusedVariables false

theorem cloneWord_any (v : Value) (xs : List Int) (w : World) (hv : Ints w v xs) (hl : xs.length ≤ 1048576) :
    Calls Try.prog 82 #[v] w fun (r : Ending) w' => ∃ u, r = Ending.returned u ∧ OwnI 3 w' w.heap.size u xs ∧ Below w.heap.size w w' := by
  have HV := hid hv
  obtain ⟨A, c, rfl, hA⟩ := hv
  have HA := hid hA
  clear hA
  have qT : ∀ (w : World) (a : Option Addr) (n c n' c' : Nat), (binOp .eql 62 (.slice a n c) (.slice none n' c')).run Try.prog w = .ok (.bool a.isNone) w := fun w a n c n' c' => Lib.run_eql_slice_nil w _ _ a n c n' c' Try.underlying62
  rcases A with _ | ⟨b, o, pt⟩
  · by_cases hx : xs = []
    · subst hx
      go_enter Try.func82, Try.ntmps82
      go_wp2
      go_ret
      exact ⟨_, rfl, OwnI.nil _ _ _, Below.refl _ _⟩
    · obtain ⟨b, o, h, -⟩ := HA.out hx
      cases h
  · skip
    go_enter Try.func82, Try.ntmps82
    go_wp2_with (at_builtin; refine wpList_append_ints rfl _ _ 62 3 rfl Try.underlying62 Try.info3 w.heap.size _ [] rfl (OwnI.empty 3 w) _ xs rfl (HV.out.alloc _) (by simpa using hl) (by simp) ?_; rintro u w1 ho hb)
    go_ret
    exact ⟨_, rfl, by simpa using ho, (below_alloc (Below.refl _ w) _).trans hb⟩

/-! ### the first k pairs exchanged -/
def revK (xs : List Int) (k : Nat) : List Int := (List.range xs.length).map fun t => if t < k ∨ xs.length - 1 - t < k then xs.getD (xs.length - 1 - t) 0 else xs.getD t 0
theorem grown_drew {a w : World} {row : Option Nat} (h : a.grownBy w row) : a.grownBy w.drew row := ⟨h.os, h.tape, h.output, h.size, h.block⟩
theorem revK_length (xs : List Int) (k : Nat) : (revK xs k).length = xs.length := by simp [revK]
theorem revK_at (xs : List Int) (k t : Nat) (ht : t < xs.length) : (revK xs k)[t]? = some (if t < k ∨ xs.length - 1 - t < k then xs.getD (xs.length - 1 - t) 0 else xs.getD t 0) := by
  simp [revK, ht]
theorem getD_eq (xs : List Int) (t : Nat) (ht : t < xs.length) : xs[t]? = some (xs.getD t 0) := by simp [List.getD, ht]
theorem revK_zero (xs : List Int) : revK xs 0 = xs := by
  apply List.ext_getElem?
  intro t
  by_cases ht : t < xs.length
  · rw [revK_at xs 0 t ht, if_neg (by omega), getD_eq xs t ht]
  · rw [List.getElem?_eq_none (by rw [revK_length]; omega), List.getElem?_eq_none (by omega)]
theorem revK_mid (xs : List Int) (k : Nat) (hk : k < xs.length - 1 - k) : (revK xs k).getD k 0 = xs.getD k 0 ∧ (revK xs k).getD (xs.length - 1 - k) 0 = xs.getD (xs.length - 1 - k) 0 := by
  constructor
  · rw [List.getD_eq_getElem?_getD, revK_at xs k k (by omega), if_neg (by omega)]; rfl
  · rw [List.getD_eq_getElem?_getD, revK_at xs k _ (by omega), if_neg (by omega)]; rfl
theorem revK_step (xs : List Int) (k : Nat) (hk : k < xs.length - 1 - k) : ((revK xs k).set k (xs.getD (xs.length - 1 - k) 0)).set (xs.length - 1 - k) (xs.getD k 0) = revK xs (k + 1) := by
  apply List.ext_getElem?
  intro t
  by_cases ht : t < xs.length
  · rw [revK_at xs (k + 1) t ht, List.getElem?_set, List.getElem?_set, List.length_set, revK_length, revK_at xs k t ht]
    by_cases h1 : xs.length - 1 - k = t
    · rw [if_pos h1, if_pos (by omega), if_pos (by omega)]
      have : xs.length - 1 - t = k := by omega
      rw [this]
    · rw [if_neg h1]
      by_cases h2 : k = t
      · subst h2
        rw [if_pos rfl, if_pos (by omega), if_pos (by omega)]
      · rw [if_neg h2]
        by_cases h3 : t < k ∨ xs.length - 1 - t < k
        · rw [if_pos h3, if_pos (by omega)]
        · rw [if_neg h3, if_neg (by omega)]
  · rw [List.getElem?_eq_none (by simp [revK_length]; omega), List.getElem?_eq_none (by rw [revK_length]; omega)]
theorem revK_full (xs : List Int) (k : Nat) (hk : ¬ k < xs.length - 1 - k) : revK xs k = xs.reverse := by
  apply List.ext_getElem?
  intro t
  by_cases ht : t < xs.length
  · rw [revK_at xs k t ht, List.getElem?_reverse ht, getD_eq xs _ (by omega)]
    by_cases h : t < k ∨ xs.length - 1 - t < k
    · rw [if_pos h]
    · rw [if_neg h]
      have : xs.length - 1 - t = t := by omega
      rw [this]
  · rw [List.getElem?_eq_none (by rw [revK_length]; omega), List.getElem?_eq_none (by simp; omega)]
set_option maxHeartbeats 1600000 in
theorem reverseWord_any (v : Value) (xs : List Int) (B : Nat) (w : World) (hv : OwnI 3 w B v xs) (hl : xs.length ≤ 1048576) :
    Calls Try.prog 83 #[v] w fun r w' => r = .returned (.tuple #[]) ∧ OwnI 3 w' B v xs.reverse ∧ w.grownBy w' v.ownBlock := by
  have HO := hid hv
  obtain ⟨A, c, rfl, hA⟩ := hv.shape
  have HA := hid hA
  clear hA hv
  go_enter Try.func83, Try.ntmps83
  go_wp2
  go_loopw [2, 3] (fun i j wr => ∃ (k : Nat) (x : Int), i = .int .i64 k ∧ j = .int .i64 x ∧ k ≤ xs.length ∧ x + k + 1 = xs.length ∧ wr.ownsRow B 3 1 (.slice A xs.length c) xs.length ((revK xs k).map (Value.int .i64)) ∧ w.grownBy wr (Value.slice A xs.length c).ownBlock) (fun i _ _ => xs.length - (intOf i).toNat)
  case atStart => exact ⟨0, (xs.length : Int) - 1, rfl, rfl, Nat.zero_le _, by omega, by rw [revK_zero]; exact HO.out, World.grownBy.refl _ _⟩
  case round =>
    obtain ⟨k, x, rfl, rfl, hk, hx, ho, hg⟩ := hrel
    by_cases hlt : (k : Int) < x
    · obtain ⟨m, rfl⟩ := Int.eq_ofNat_of_zero_le (show 0 ≤ x by omega)
      obtain ⟨g, rfl, hgl, hgB⟩ := HA.out (by intro h; simp [h] at hx; omega)
      have hm : xs.length - 1 - k = m := by omega
      obtain ⟨h1, h2⟩ := revK_mid xs k (by omega)
      have h3 := revK_step xs k (by omega)
      rw [hm] at h2 h3
      have hck : wr.cell? ⟨g, k, none⟩ = some (.int .i64 (xs.getD k 0)) := by
        rw [ho.cellAt k (by omega), List.getElem?_map, getD_eq (revK xs k) k (by rw [revK_length]; omega), h1]; rfl
      have hcm : wr.cell? ⟨g, m, none⟩ = some (.int .i64 (xs.getD m 0)) := by
        rw [ho.cellAt m (by omega), List.getElem?_map, getD_eq (revK xs k) m (by rw [revK_length]; omega), h2]; rfl
      have hfk := ho.frozenAt k
      have hfm := ho.frozenAt m
      obtain ⟨p, hp⟩ : ∃ p, xs.getD k 0 = p := ⟨_, rfl⟩
      obtain ⟨q, hq⟩ : ∃ q, xs.getD m 0 = q := ⟨_, rfl⟩
      rw [hp, hq] at h3
      rw [hp] at hck
      rw [hq] at hcm
      have H3 := hid h3
      have Ho := hid ho
      have Hg := hid hg
      have hm1 : m < xs.length := by omega
      have hk1 : k < xs.length := by omega
      have hkm : k < m := by omega
      have HX := hid hx
      clear hp hq h1 h2 h3 ho hg hm hx
      go_wp2_with fail
      go_region
      go_wp2
      go_roundw
      case rel => exact ⟨k + 1, (m : Int) - 1, by go_num, rfl, by omega, by have := HX.out; omega, (by rw [← H3.out, List.map_set, List.map_set]; exact ((Ho.out.stored k (.int .i64 q)).1.stored m (.int .i64 p)).1), grown_drew (grown_setCell (grown_setCell Hg.out k _) m _)⟩
      case measure => simp [intOf]; omega
    · have hr := hid (revK_full xs k (by omega))
      have Ho := hid ho
      have Hg := hid hg
      clear ho hg
      go_wp2
      go_end0
      refine ⟨rfl, ?_, Hg.out⟩
      unfold OwnI
      rw [List.length_reverse, ← hr.out]
      exact Ho.out
theorem undoneWord_any (v : Value) (xs : List Int) (w : World) (hv : Ints w v xs) (hl : xs.length ≤ 1048576) :
    Calls Try.prog 48 #[.iface 62 v] w fun (r : Ending) w' => ∃ u, r = Ending.returned (.iface 62 u) ∧ Ints w' u xs.reverse ∧ Below w.heap.size w w' := by
  have HV := hid hv
  obtain ⟨A, c, rfl, hA⟩ := hv
  have h2 := ta2 A xs.length c
  have h3 := ta3 A xs.length c
  clear hA
  go_enter Try.func48, Try.ntmps48
  go_wp2_with fail
  refine (cloneWord_any _ xs _ HV.out hl).mono ?_
  rintro e w1 ⟨u, rfl, ho, hb⟩
  have HO := hid ho
  have HB := hid hb
  have HU := hid ho.blockLt
  obtain ⟨uA, un, uc, rfl⟩ := ho.shape3
  clear hb ho
  go_wp2_with fail
  refine (reverseWord_any _ xs _ _ HO.out hl).mono ?_
  rintro e w2 ⟨rfl, ho, hg⟩
  have HO2 := hid ho
  have HG2 := hid hg
  clear ho hg
  go_wp2
  go_ret
  exact ⟨_, rfl, HO2.out.ints, below_grown HB.out HG2.out (fun k hk => (HU.out k hk).1)⟩
end Go.Proofs.Ytbjidoihnbjjdab
