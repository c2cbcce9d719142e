/- A number put into a list in order: the model (chapter 9). -/
import Derived.Test.YtkalpichninncabSortM
import Derived.Test.YtkalpichninncabHas
import Derived.Test.YtkalpichninncabLiIs
namespace Go.Proofs.Ytkalpichninncab
open Go.RowKit Go.WideShapes Go.ChangeShapes
set_option linter.unusedVariables false

set_option maxHeartbeats 1600000 in
theorem rvPut_any (v : Value) (l : List Int) (x : Int) (B : Nat) (w : World) (h : OwnI 3 w B v (sortL l)) (hl : l.length ≤ 10000) :
    Calls Try.prog 42 #[v, .int .i64 x] w fun (r : Ending) w' => ∃ u, r = Ending.returned u ∧ OwnI 3 w' w.heap.size u (sortL (l ++ [x])) ∧ Below w.heap.size w w' := by
  have H0 := hid h
  have HIn := hid (fun k => insAt_sort (l := l) (x := x) (k := k))
  obtain ⟨ol, hol⟩ : ∃ ol, sortL l = ol := ⟨_, rfl⟩
  have holl : ol.length ≤ 10000 := by rw [← hol, sortL_length]; exact hl
  rw [hol] at H0 HIn
  obtain ⟨oA, oc, rfl, -⟩ := h.shape
  rw [hol] at H0 ⊢
  have hcap := H0.out.capH
  clear h hol
  rcases H0.out.nilOr with ⟨rfl, rfl, rfl⟩ | ⟨g, rfl, hBg, hgl, hcl⟩
  · have HNew : Hid (sortL (l ++ [x]) = ([] ++ [x] ++ [] : List Int)) := hid (by
      rw [← HIn.out 0 (Nat.zero_le _) (fun i hi => absurd hi (Nat.not_lt_zero _)) (fun h => absurd h (Nat.lt_irrefl _))]; rfl)
    go_enter Try.func42, Try.ntmps42
    go_wp2
    go_loop [5] (fun i => i = .int .i64 0) (fun _ => 0)
    case atStart => rfl
    case round =>
      subst hrel
      go_wp2_with fail
      refine (l1OwnL_any _ [] _ (Ints.noneL _ _ _ _ rfl) (by simp)).mono ?_
      rintro e w5 ⟨u5, rfl, ho5, hb5⟩
      have HU5 := hid ho5
      have HB5 := hid hb5
      obtain ⟨u5A, u5c, rfl, -⟩ := ho5.shape
      rw [List.length_nil] at HU5 ⊢
      have hz5 := hb5.size
      clear ho5 hb5
      go_wp2_with (at_builtin; first
        | (refine wpList_append_int rfl _ _ 22 3 rfl Try.underlying22 Try.info3 w.heap.size _ [] x rfl HU5.out rfl rfl (by simp) hz5 ?_
           intro v6 w6 ho6 hb6
           have HV6 := hid ho6
           have HB6 := hid (HB5.out.trans hb6)
           have hz6 := HB6.out.size
           obtain ⟨v6A, v6c, rfl, -⟩ := ho6.shape
           have hul : ([] ++ [x] : List Int).length = 1 := rfl
           rw [hul] at HV6 ⊢
           clear ho6 hb6 hul)
        | (refine wpList_append_ints rfl _ _ 22 3 rfl Try.underlying22 Try.info3 w.heap.size _ ([] ++ [x]) rfl HV6.out _ [] rfl (Ints.noneL _ _ _ _ rfl) (by simp) hz6 ?_; intro v7 w7 ho7 hb7))
      have HB7 := hid (HB6.out.trans hb7)
      have HV7 : Hid (OwnI 3 w7 w.heap.size v7 (sortL (l ++ [x]))) := hid (by rw [HNew.out]; exact ho7)
      obtain ⟨v7A, v7c, rfl, -⟩ := ho7.shape
      clear ho7 hb7
      go_wp2
      go_ret
      exact ⟨_, rfl, HV7.out, HB7.out⟩
  · have HCl := hid hcl
    clear hcl
    go_enter Try.func42, Try.ntmps42
    go_wp2
    go_loop [5] (fun i => ∃ s : Nat, s ≤ ol.length ∧ i = .int .i64 s ∧ Hid (∀ i, i < s → ol.getD i 0 ≤ x)) (fun i => ol.length - (intOf i).toNat)
    case atStart => exact ⟨0, Nat.zero_le _, rfl, hid (fun i hi => absurd hi (Nat.not_lt_zero _))⟩
    case round =>
      obtain ⟨s, hs1, rfl, HLe⟩ := hrel
      by_cases hsn : s < ol.length
      · have hcell := HCl.out s hsn
        obtain ⟨y, hy⟩ : ∃ y, ol.getD s 0 = y := ⟨_, rfl⟩
        rw [hy] at hcell
        have HY := hid hy
        have hsi : (s : Int) < (ol.length : Int) := by omega
        clear hy
        by_cases hxP : y ≤ x
        · go_wp2
          go_round
          case rel => exact ⟨s + 1, by omega, by go_num, hid (fun i hi => by
            by_cases e : i = s
            · subst e; rw [HY.out]; exact hxP
            · exact HLe.out i (by omega))⟩
          case measure => simp [intOf]; omega
        · have hxd : decide (y ≤ x) = false := by simp; omega
          have HNew : Hid (sortL (l ++ [x]) = ol.take s ++ [x] ++ ol.drop s) := hid (by
            rw [← HIn.out s hs1 HLe.out (fun _ => by rw [HY.out]; omega)])
          go_wp2_with fail
          refine (l1OwnL_any _ (ol.take s) _ (H0.out.ints.takeK hs1 _) (by rw [List.length_take]; omega)).mono ?_
          rintro e w5 ⟨u5, rfl, ho5, hb5⟩
          have HU5 := hid ho5
          have HB5 := hid hb5
          obtain ⟨u5A, u5c, rfl, -⟩ := ho5.shape
          have hul : (ol.take s).length = s := by rw [List.length_take]; omega
          rw [hul] at HU5 ⊢
          have hz5 := hb5.size
          clear ho5 hb5 hul
          go_wp2_with (at_builtin; first
            | (refine wpList_append_int rfl _ _ 22 3 rfl Try.underlying22 Try.info3 w.heap.size _ (ol.take s) x rfl HU5.out rfl rfl (by rw [List.length_take]; omega) hz5 ?_
               intro v6 w6 ho6 hb6
               have HV6 := hid ho6
               have HB6 := hid (HB5.out.trans hb6)
               have HO6 := hid (H0.out.below HB6.out)
               have hz6 := HB6.out.size
               obtain ⟨v6A, v6c, rfl, -⟩ := ho6.shape
               have hul : (ol.take s ++ [x]).length = s + 1 := by rw [List.length_append, List.length_take]; simp; omega
               rw [hul] at HV6 ⊢
               clear ho6 hb6 hul)
            | (refine wpList_append_ints rfl _ _ 22 3 rfl Try.underlying22 Try.info3 w.heap.size _ (ol.take s ++ [x]) rfl HV6.out _ (ol.drop s) rfl (HO6.out.ints.dropK0 hs1 _ _ (by omega)) (by rw [List.length_append, List.length_take, List.length_drop]; simp; omega) hz6 ?_; intro v7 w7 ho7 hb7))
          have HB7 := hid (HB6.out.trans hb7)
          have HV7 : Hid (OwnI 3 w7 w.heap.size v7 (sortL (l ++ [x]))) := hid (by rw [HNew.out]; exact ho7)
          obtain ⟨v7A, v7c, rfl, -⟩ := ho7.shape
          clear ho7 hb7
          go_wp2
          go_ret
          exact ⟨_, rfl, HV7.out, HB7.out⟩
      · have hse2 : ol.length ≤ s := by omega
        have hsi : ¬ (s : Int) < (ol.length : Int) := by omega
        have HNew : Hid (sortL (l ++ [x]) = ol.take s ++ [x] ++ ol.drop s) := hid (by
          rw [← HIn.out s hs1 HLe.out (fun h => by omega)])
        by_cases hcc : s < oc
        · go_wp2_with fail
          refine (l1OwnL_any _ (ol.take s) _ (H0.out.ints.takeK hs1 _) (by rw [List.length_take]; omega)).mono ?_
          rintro e w5 ⟨u5, rfl, ho5, hb5⟩
          have HU5 := hid ho5
          have HB5 := hid hb5
          obtain ⟨u5A, u5c, rfl, -⟩ := ho5.shape
          have hul : (ol.take s).length = s := by rw [List.length_take]; omega
          rw [hul] at HU5 ⊢
          have hz5 := hb5.size
          clear ho5 hb5 hul
          go_wp2_with (at_builtin; first
            | (refine wpList_append_int rfl _ _ 22 3 rfl Try.underlying22 Try.info3 w.heap.size _ (ol.take s) x rfl HU5.out rfl rfl (by rw [List.length_take]; omega) hz5 ?_
               intro v6 w6 ho6 hb6
               have HV6 := hid ho6
               have HB6 := hid (HB5.out.trans hb6)
               have HO6 := hid (H0.out.below HB6.out)
               have hz6 := HB6.out.size
               obtain ⟨v6A, v6c, rfl, -⟩ := ho6.shape
               have hul : (ol.take s ++ [x]).length = s + 1 := by rw [List.length_append, List.length_take]; simp; omega
               rw [hul] at HV6 ⊢
               clear ho6 hb6 hul)
            | (refine wpList_append_ints rfl _ _ 22 3 rfl Try.underlying22 Try.info3 w.heap.size _ (ol.take s ++ [x]) rfl HV6.out _ (ol.drop s) rfl (HO6.out.ints.dropK0 hs1 _ _ (by omega)) (by rw [List.length_append, List.length_take, List.length_drop]; simp; omega) hz6 ?_; intro v7 w7 ho7 hb7))
          have HB7 := hid (HB6.out.trans hb7)
          have HV7 : Hid (OwnI 3 w7 w.heap.size v7 (sortL (l ++ [x]))) := hid (by rw [HNew.out]; exact ho7)
          obtain ⟨v7A, v7c, rfl, -⟩ := ho7.shape
          clear ho7 hb7
          go_wp2
          go_ret
          exact ⟨_, rfl, HV7.out, HB7.out⟩
        · have hcc2 : oc ≤ s := by omega
          go_wp2_with fail
          refine (l1OwnL_any _ (ol.take s) _ (H0.out.ints.takeK hs1 _) (by rw [List.length_take]; omega)).mono ?_
          rintro e w5 ⟨u5, rfl, ho5, hb5⟩
          have HU5 := hid ho5
          have HB5 := hid hb5
          obtain ⟨u5A, u5c, rfl, -⟩ := ho5.shape
          have hul : (ol.take s).length = s := by rw [List.length_take]; omega
          rw [hul] at HU5 ⊢
          have hz5 := hb5.size
          clear ho5 hb5 hul
          go_wp2_with (at_builtin; first
            | (refine wpList_append_int rfl _ _ 22 3 rfl Try.underlying22 Try.info3 w.heap.size _ (ol.take s) x rfl HU5.out rfl rfl (by rw [List.length_take]; omega) hz5 ?_
               intro v6 w6 ho6 hb6
               have HV6 := hid ho6
               have HB6 := hid (HB5.out.trans hb6)
               have HO6 := hid (H0.out.below HB6.out)
               have hz6 := HB6.out.size
               obtain ⟨v6A, v6c, rfl, -⟩ := ho6.shape
               have hul : (ol.take s ++ [x]).length = s + 1 := by rw [List.length_append, List.length_take]; simp; omega
               rw [hul] at HV6 ⊢
               clear ho6 hb6 hul)
            | (refine wpList_append_ints rfl _ _ 22 3 rfl Try.underlying22 Try.info3 w.heap.size _ (ol.take s ++ [x]) rfl HV6.out _ (ol.drop s) rfl (by rw [show ol.drop s = [] from List.drop_of_length_le hse2]; exact Ints.noneL _ _ _ _ (by omega)) (by rw [List.length_append, List.length_take, List.length_drop]; simp; omega) hz6 ?_; intro v7 w7 ho7 hb7))
          have HB7 := hid (HB6.out.trans hb7)
          have HV7 : Hid (OwnI 3 w7 w.heap.size v7 (sortL (l ++ [x]))) := hid (by rw [HNew.out]; exact ho7)
          obtain ⟨v7A, v7c, rfl, -⟩ := ho7.shape
          clear ho7 hb7
          go_wp2
          go_ret
          exact ⟨_, rfl, HV7.out, HB7.out⟩
end Go.Proofs.Ytkalpichninncab
