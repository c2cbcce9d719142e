/- Texts RvP, RvN, CycC, RvS, Tg3, one behind the other. -/
import Derived.RegionTactic
import Derived.Deep.AppendLies
import Derived.Test.YtdemikjaghegnaaGreatPkRanksMakeRowmotionProof01
import Derived.Test.YtdemikjaghegnaaGreatPkRanksMakeRowmotionProof02
import Derived.Test.YtdemikjaghegnaaGreatPkRanksMakeRowmotionProof05
import Derived.Test.YtdemikjaghegnaaGreatPkRanksMakeRowmotionProof07
import Derived.Test.YtdemikjaghegnaaGreatPkRanksMakeRowmotionProof11
import Derived.Test.YtdemikjaghegnaaGreatPkRanksMakeRowmotionProof12
import Derived.Test.YtdemikjaghegnaaGreatPkRanksMakeRowmotionProof14
/- A number put into a list in order: the model (chapter 9). -/
namespace Go.Proofs.YtdemikjaghegnaaGreat
open Go.RowKit Go.WideShapes Go.ChangeShapes
set_option linter.unusedVariables false

set_option maxHeartbeats 1600000 in
theorem rvPut_any (v : Value) (l : List Int) (x : Int) (B : Nat) (w : World) (h : OwnI 3 w B v (sortL l)) (hl : l.length ≤ 10000) :
    Calls Tryz.prog 77 #[v, .int .i64 x] w fun (r : Ending) w' => ∃ u, r = Ending.returned u ∧ OwnI 3 w' w.heap.size u (sortL (l ++ [x])) ∧ Below w.heap.size w w' := by
  have H0 := hid h
  have HIn := hid (fun k => insAt_sort (l := l) (x := x) (k := k))
  obtain ⟨ol, hol⟩ : ∃ ol, sortL l = ol := ⟨_, rfl⟩
  have holl : ol.length ≤ 10000 := by rw [← hol, sortL_length]; exact hl
  rw [hol] at H0 HIn
  obtain ⟨oA, oc, rfl, -⟩ := h.shape
  rw [hol] at H0 ⊢
  have hcap := H0.out.capH
  clear h hol
  rcases H0.out.nilOr with ⟨rfl, rfl, rfl⟩ | ⟨g, rfl, hBg, hgl, hcl⟩
  · have HNew : Hid (sortL (l ++ [x]) = ([] ++ [x] ++ [] : List Int)) := hid (by
      rw [← HIn.out 0 (Nat.zero_le _) (fun i hi => absurd hi (Nat.not_lt_zero _)) (fun h => absurd h (Nat.lt_irrefl _))]; rfl)
    go_enter Tryz.func77, Tryz.ntmps77
    go_wp2
    go_loop [5] (fun i => i = .int .i64 0) (fun _ => 0)
    case atStart => rfl
    case round =>
      subst hrel
      go_wp2_with fail
      refine (l1OwnL_any _ [] _ (Ints.noneL _ _ _ _ rfl) (by simp)).mono ?_
      rintro e w5 ⟨u5, rfl, ho5, hb5⟩
      have HU5 := hid ho5
      have HB5 := hid hb5
      obtain ⟨u5A, u5c, rfl, -⟩ := ho5.shape
      rw [List.length_nil] at HU5 ⊢
      have hz5 := hb5.size
      clear ho5 hb5
      go_wp2_with (at_builtin; first
        | (refine wpList_append_int rfl _ _ 24 3 rfl Tryz.underlying24 Tryz.info3 w.heap.size _ [] x rfl HU5.out rfl rfl (by simp) hz5 ?_
           intro v6 w6 ho6 hb6
           have HV6 := hid ho6
           have HB6 := hid (HB5.out.trans hb6)
           have hz6 := HB6.out.size
           obtain ⟨v6A, v6c, rfl, -⟩ := ho6.shape
           have hul : ([] ++ [x] : List Int).length = 1 := rfl
           rw [hul] at HV6 ⊢
           clear ho6 hb6 hul)
        | (refine wpList_append_ints rfl _ _ 24 3 rfl Tryz.underlying24 Tryz.info3 w.heap.size _ ([] ++ [x]) rfl HV6.out _ [] rfl (Ints.noneL _ _ _ _ rfl) (by simp) hz6 ?_; intro v7 w7 ho7 hb7))
      have HB7 := hid (HB6.out.trans hb7)
      have HV7 : Hid (OwnI 3 w7 w.heap.size v7 (sortL (l ++ [x]))) := hid (by rw [HNew.out]; exact ho7)
      obtain ⟨v7A, v7c, rfl, -⟩ := ho7.shape
      clear ho7 hb7
      go_wp2
      go_ret
      exact ⟨_, rfl, HV7.out, HB7.out⟩
  · have HCl := hid hcl
    clear hcl
    go_enter Tryz.func77, Tryz.ntmps77
    go_wp2
    go_loop [5] (fun i => ∃ s : Nat, s ≤ ol.length ∧ i = .int .i64 s ∧ Hid (∀ i, i < s → ol.getD i 0 ≤ x)) (fun i => ol.length - (intOf i).toNat)
    case atStart => exact ⟨0, Nat.zero_le _, rfl, hid (fun i hi => absurd hi (Nat.not_lt_zero _))⟩
    case round =>
      obtain ⟨s, hs1, rfl, HLe⟩ := hrel
      by_cases hsn : s < ol.length
      · have hcell := HCl.out s hsn
        obtain ⟨y, hy⟩ : ∃ y, ol.getD s 0 = y := ⟨_, rfl⟩
        rw [hy] at hcell
        have HY := hid hy
        have hsi : (s : Int) < (ol.length : Int) := by omega
        clear hy
        by_cases hxP : y ≤ x
        · go_wp2
          go_round
          case rel => exact ⟨s + 1, by omega, by go_num, hid (fun i hi => by
            by_cases e : i = s
            · subst e; rw [HY.out]; exact hxP
            · exact HLe.out i (by omega))⟩
          case measure => simp [intOf]; omega
        · have hxd : decide (y ≤ x) = false := by simp; omega
          have HNew : Hid (sortL (l ++ [x]) = ol.take s ++ [x] ++ ol.drop s) := hid (by
            rw [← HIn.out s hs1 HLe.out (fun _ => by rw [HY.out]; omega)])
          go_wp2_with fail
          refine (l1OwnL_any _ (ol.take s) _ (H0.out.ints.takeK hs1 _) (by rw [List.length_take]; omega)).mono ?_
          rintro e w5 ⟨u5, rfl, ho5, hb5⟩
          have HU5 := hid ho5
          have HB5 := hid hb5
          obtain ⟨u5A, u5c, rfl, -⟩ := ho5.shape
          have hul : (ol.take s).length = s := by rw [List.length_take]; omega
          rw [hul] at HU5 ⊢
          have hz5 := hb5.size
          clear ho5 hb5 hul
          go_wp2_with (at_builtin; first
            | (refine wpList_append_int rfl _ _ 24 3 rfl Tryz.underlying24 Tryz.info3 w.heap.size _ (ol.take s) x rfl HU5.out rfl rfl (by rw [List.length_take]; omega) hz5 ?_
               intro v6 w6 ho6 hb6
               have HV6 := hid ho6
               have HB6 := hid (HB5.out.trans hb6)
               have HO6 := hid (H0.out.below HB6.out)
               have hz6 := HB6.out.size
               obtain ⟨v6A, v6c, rfl, -⟩ := ho6.shape
               have hul : (ol.take s ++ [x]).length = s + 1 := by rw [List.length_append, List.length_take]; simp; omega
               rw [hul] at HV6 ⊢
               clear ho6 hb6 hul)
            | (refine wpList_append_ints rfl _ _ 24 3 rfl Tryz.underlying24 Tryz.info3 w.heap.size _ (ol.take s ++ [x]) rfl HV6.out _ (ol.drop s) rfl (HO6.out.ints.dropK0 hs1 _ _ (by omega)) (by rw [List.length_append, List.length_take, List.length_drop]; simp; omega) hz6 ?_; intro v7 w7 ho7 hb7))
          have HB7 := hid (HB6.out.trans hb7)
          have HV7 : Hid (OwnI 3 w7 w.heap.size v7 (sortL (l ++ [x]))) := hid (by rw [HNew.out]; exact ho7)
          obtain ⟨v7A, v7c, rfl, -⟩ := ho7.shape
          clear ho7 hb7
          go_wp2
          go_ret
          exact ⟨_, rfl, HV7.out, HB7.out⟩
      · have hse2 : ol.length ≤ s := by omega
        have hsi : ¬ (s : Int) < (ol.length : Int) := by omega
        have HNew : Hid (sortL (l ++ [x]) = ol.take s ++ [x] ++ ol.drop s) := hid (by
          rw [← HIn.out s hs1 HLe.out (fun h => by omega)])
        by_cases hcc : s < oc
        · go_wp2_with fail
          refine (l1OwnL_any _ (ol.take s) _ (H0.out.ints.takeK hs1 _) (by rw [List.length_take]; omega)).mono ?_
          rintro e w5 ⟨u5, rfl, ho5, hb5⟩
          have HU5 := hid ho5
          have HB5 := hid hb5
          obtain ⟨u5A, u5c, rfl, -⟩ := ho5.shape
          have hul : (ol.take s).length = s := by rw [List.length_take]; omega
          rw [hul] at HU5 ⊢
          have hz5 := hb5.size
          clear ho5 hb5 hul
          go_wp2_with (at_builtin; first
            | (refine wpList_append_int rfl _ _ 24 3 rfl Tryz.underlying24 Tryz.info3 w.heap.size _ (ol.take s) x rfl HU5.out rfl rfl (by rw [List.length_take]; omega) hz5 ?_
               intro v6 w6 ho6 hb6
               have HV6 := hid ho6
               have HB6 := hid (HB5.out.trans hb6)
               have HO6 := hid (H0.out.below HB6.out)
               have hz6 := HB6.out.size
               obtain ⟨v6A, v6c, rfl, -⟩ := ho6.shape
               have hul : (ol.take s ++ [x]).length = s + 1 := by rw [List.length_append, List.length_take]; simp; omega
               rw [hul] at HV6 ⊢
               clear ho6 hb6 hul)
            | (refine wpList_append_ints rfl _ _ 24 3 rfl Tryz.underlying24 Tryz.info3 w.heap.size _ (ol.take s ++ [x]) rfl HV6.out _ (ol.drop s) rfl (HO6.out.ints.dropK0 hs1 _ _ (by omega)) (by rw [List.length_append, List.length_take, List.length_drop]; simp; omega) hz6 ?_; intro v7 w7 ho7 hb7))
          have HB7 := hid (HB6.out.trans hb7)
          have HV7 : Hid (OwnI 3 w7 w.heap.size v7 (sortL (l ++ [x]))) := hid (by rw [HNew.out]; exact ho7)
          obtain ⟨v7A, v7c, rfl, -⟩ := ho7.shape
          clear ho7 hb7
          go_wp2
          go_ret
          exact ⟨_, rfl, HV7.out, HB7.out⟩
        · have hcc2 : oc ≤ s := by omega
          go_wp2_with fail
          refine (l1OwnL_any _ (ol.take s) _ (H0.out.ints.takeK hs1 _) (by rw [List.length_take]; omega)).mono ?_
          rintro e w5 ⟨u5, rfl, ho5, hb5⟩
          have HU5 := hid ho5
          have HB5 := hid hb5
          obtain ⟨u5A, u5c, rfl, -⟩ := ho5.shape
          have hul : (ol.take s).length = s := by rw [List.length_take]; omega
          rw [hul] at HU5 ⊢
          have hz5 := hb5.size
          clear ho5 hb5 hul
          go_wp2_with (at_builtin; first
            | (refine wpList_append_int rfl _ _ 24 3 rfl Tryz.underlying24 Tryz.info3 w.heap.size _ (ol.take s) x rfl HU5.out rfl rfl (by rw [List.length_take]; omega) hz5 ?_
               intro v6 w6 ho6 hb6
               have HV6 := hid ho6
               have HB6 := hid (HB5.out.trans hb6)
               have HO6 := hid (H0.out.below HB6.out)
               have hz6 := HB6.out.size
               obtain ⟨v6A, v6c, rfl, -⟩ := ho6.shape
               have hul : (ol.take s ++ [x]).length = s + 1 := by rw [List.length_append, List.length_take]; simp; omega
               rw [hul] at HV6 ⊢
               clear ho6 hb6 hul)
            | (refine wpList_append_ints rfl _ _ 24 3 rfl Tryz.underlying24 Tryz.info3 w.heap.size _ (ol.take s ++ [x]) rfl HV6.out _ (ol.drop s) rfl (by rw [show ol.drop s = [] from List.drop_of_length_le hse2]; exact Ints.noneL _ _ _ _ (by omega)) (by rw [List.length_append, List.length_take, List.length_drop]; simp; omega) hz6 ?_; intro v7 w7 ho7 hb7))
          have HB7 := hid (HB6.out.trans hb7)
          have HV7 : Hid (OwnI 3 w7 w.heap.size v7 (sortL (l ++ [x]))) := hid (by rw [HNew.out]; exact ho7)
          obtain ⟨v7A, v7c, rfl, -⟩ := ho7.shape
          clear ho7 hb7
          go_wp2
          go_ret
          exact ⟨_, rfl, HV7.out, HB7.out⟩
end Go.Proofs.YtdemikjaghegnaaGreat

/- The library's sort of no list at all. -/
namespace Go.Proofs.YtdemikjaghegnaaGreat
open Go.RowKit Go.WideShapes Go.ChangeShapes
set_option linter.unusedVariables false

set_option maxRecDepth 100000 in
theorem len64_0 (w : World) : Calls Tryz.prog 147 #[.int .u64 0] w fun r w' => r = .returned (.int .i64 0) ∧ w = w' := by
  have h0 : wrap64 (wrap64 (Lib.len8 0)) = 0 := by first | decide | kernel_rfl
  go_enter Tryz.func147, Tryz.ntmps147
  go_wp2
  go_ret
  exact ⟨ret_int h0, rfl⟩
set_option maxRecDepth 100000 in
theorem len_0 (w : World) : Calls Tryz.prog 121 #[.int .u64 0] w fun r w' => r = .returned (.int .i64 0) ∧ w = w' := by
  go_enter Tryz.func121, Tryz.ntmps121
  go_wp2_with (go_at_call 147; refine (len64_0 _).mono ?_; rintro e w' ⟨rfl, rfl⟩)
  go_ret
  exact ⟨rfl, rfl⟩
theorem ins_0 (A : Option Addr) (c : Nat) (w : World) : Calls Tryz.prog 137 #[.slice A 0 c, .int .i64 0, .int .i64 0] w fun (r : Ending) w' => r = .returned (.tuple #[]) ∧ w = w' := by
  go_enter Tryz.func137, Tryz.ntmps137
  go_wp2
  go_loop [6] (fun i => i = .int .i64 1) (fun _ => 0)
  case atStart => rfl
  case round =>
    subst hrel
    go_wp2
    go_end0
    exact ⟨rfl, rfl⟩
theorem pdq_0 (A : Option Addr) (c : Nat) (k : Int) (w : World) : Calls Tryz.prog 120 #[.slice A 0 c, .int .i64 0, .int .i64 0, .int .i64 k] w fun (r : Ending) w' => r = .returned (.tuple #[]) ∧ w = w' := by
  go_enter Tryz.func120, Tryz.ntmps120
  go_wp2
  go_loop [1, 2] (fun a b => a = .int .i64 0 ∧ b = .int .i64 0) (fun _ _ => 0)
  case atStart => exact ⟨rfl, rfl⟩
  case round =>
    obtain ⟨rfl, rfl⟩ := hrel
    go_wp2_with (go_at_call 137; refine (ins_0 A c _).mono ?_; rintro e w' ⟨rfl, rfl⟩)
    exact bodyPost_ret (results_none rfl _ _ _) rfl ⟨rfl, rfl⟩
theorem sortNil_any (A : Option Addr) (c : Nat) (w : World) : Calls Tryz.prog 75 #[.slice A 0 c] w fun (r : Ending) w' => r = .returned (.tuple #[]) ∧ w = w' := by
  go_enter Tryz.func75, Tryz.ntmps75
  go_wp2_with (first | (go_at_call 121; refine (len_0 _).mono ?_; rintro e w' ⟨rfl, rfl⟩) | (go_at_call 120; refine (pdq_0 A c _ _).mono ?_; rintro e w' ⟨rfl, rfl⟩))
  go_end0
  exact ⟨rfl, rfl⟩
theorem ret_vbS {u : Value} {a b : Bool} (h : a = b) : Ending.returned (.tuple #[u, .bool a]) = .returned (.tuple #[u, .bool b]) := by rw [h]
theorem sortL_nil : sortL [] = [] := by
  have := sortL_length []; exact List.eq_nil_of_length_eq_zero (by simpa using this)
end Go.Proofs.YtdemikjaghegnaaGreat

/- Cycles of a word on the ideals. -/
namespace Go.Proofs.YtdemikjaghegnaaGreat
open Go.RowKit Go.WideShapes Go.ChangeShapes
set_option linter.unusedVariables false

theorem setsL_bound {f : Nat → Bool} {N j : Nat} (hj : j < (setsL f N).length) : ∃ s : Nat, (setsL f N).getD j 0 = (s : Int) ∧ s < N ∧ f s = true := by
  have hj' : j < ((List.range N).filter f).length := by simpa [setsL] using hj
  have hmem2 := List.mem_filter.1 (List.getElem_mem hj')
  exact ⟨((List.range N).filter f)[j], by simp [setsL, List.getD, hj'], List.mem_range.1 hmem2.1, hmem2.2⟩
/-- the word's motion on sets -/
def wordF (xs ys : List Int) (s : Nat) : Nat := togW xs s ys

set_option maxHeartbeats 3200000 in
theorem cyclesOf_any (v u : Value) (xs ys : List Int) (w : World) (hv : Ints w v xs) (hu : Ints w u ys) (hg : good xs = true) (hy : inW xs.length ys = true) (hm : ys.length ≤ 1048576) :
    Calls Tryz.prog 74 #[.agg #[v], .iface 62 u] w fun (r : Ending) w' => ∃ q, r = Ending.returned q ∧ OwnI 3 w' w.heap.size q (cyclesL (wordF xs ys) (2 ^ xs.length) (setsL (holdsIdeal xs) (2 ^ xs.length))) ∧ Below w.heap.size w w' := by
  have hl10 := (good_length hg).2
  have HV := hid hv
  have HUW := hid hu
  have HG := hid hg
  have HY := hid hy
  obtain ⟨A, c, rfl, -⟩ := hv
  obtain ⟨N, hN⟩ : ∃ N, 2 ^ xs.length = N := ⟨_, rfl⟩
  have hN2 := two_pow_le xs.length hl10
  rw [hN] at hN2
  obtain ⟨I, hI⟩ : ∃ I, setsL (holdsIdeal xs) N = I := ⟨_, rfl⟩
  have HAt := hid (fun j hj => setsL_bound (f := holdsIdeal xs) (N := N) (j := j) hj)
  have hIN := setsL_length (holdsIdeal xs) N
  rw [hI] at HAt hIN
  rw [hN, hI]
  have HI := hid (show setsL (holdsIdeal xs) (2 ^ xs.length) = I by rw [hN]; exact hI)
  have HN := hid hN
  have hM : ((N - 1 : Nat) : Int) + 1 = (N : Int) := by omega
  have hmk := run_make_row' (P := Tryz.prog) 73 4 (.bool false) 1 Tryz.underlying73 infoBool rfl .i64 .i64 N (by omega) (by omega)
  clear hu hg hy hI
  go_enter Tryz.func74, Tryz.ntmps74
  go_wp2_with (go_at_call 107; refine (wholeSet_any xs.length hl10 _).mono ?_; rw [hN]; rintro e w2 ⟨rfl, rfl⟩)
  clear hM
  refine (setsI_any _ xs _ ((HV.out.alloc _).alloc _) HG.out).mono ?_
  rw [HI.out]
  rintro e w' ⟨iu, rfl, ho, hb⟩
  obtain ⟨g, hg⟩ : ∃ g, w.heap.size + 1 = g := ⟨_, rfl⟩
  have HB := hid (below_to (below_alloc (below_alloc (Below.refl _ w) _) _) hb)
  have HBox : Hid (At w' w.heap.size (.slice A xs.length c)) := hid (((At.new _ _ _).alloc _).below hb)
  have HSeen : Hid (Blk w' g 4 (BVals (List.replicate N false))) := hid (by
    subst hg
    rw [← BVals_made]
    exact (Blk.newAt _ 4 (madeCells #[.bool false] N) (w.heap.size + 1) (by simp)).below hb (by simp))
  obtain ⟨iA, iN, ic, rfl⟩ := ho.shape3
  have hiN : iN = I.length := by
    obtain ⟨_, _, h, _⟩ := ho.shape
    cases h; rfl
  subst hiN
  have HO := hid (ho.mono (B' := g + 1) (by simp; omega))
  have HOB : Hid (∀ k, (Value.slice iA I.length ic).ownBlock = some k → g + 1 ≤ k ∧ k < w'.heap.size) := hid (fun k hk => by
    have h1 := ho.blockLt k hk
    simp at h1
    omega)
  have hgw : g < w'.heap.size := HSeen.out.lt
  have hwg : w.heap.size < g := by omega
  have hbx := HBox.out.1
  rw [hg]
  clear hb ho hmk hg hN
  go_wp2
  clear hbx
  go_loopw [5, 20] (fun q i wr => ∃ (j : Nat) (oA : Option Addr) (on oc : Nat), j ≤ I.length ∧ i = .int .i64 j ∧ q = .slice oA on oc ∧ Blk wr g 4 (BVals (cycSt (wordF xs ys) N I j).1) ∧ OwnI 3 wr w'.heap.size (.slice oA on oc) (cycSt (wordF xs ys) N I j).2 ∧ TurnedIn g (g + 1) w' wr) (fun _ i _ => I.length - (intOf i).toNat)
  case atStart => exact ⟨0, none, 0, 0, Nat.zero_le _, rfl, rfl, HSeen.out, OwnI.nil _ _ _, TurnedIn.refl _ _ _⟩
  case round =>
    obtain ⟨j, oA, on, oc, hj, rfl, rfl, hB, hq, ht⟩ := hrel
    have HBk := hid hB
    have HQ := hid hq
    have HT := hid ht
    clear hB hq
    by_cases hlt : j < I.length
    · obtain ⟨s, hs, hsN, hIs⟩ := HAt.out j hlt
      have hoi := HO.out.turned ht HOB.out (.inr (Nat.le_refl _))
      have hcell : ∃ b, iA = some ⟨b, 0, none⟩ ∧ wr.cell? ⟨b, 0 + j, none⟩ = some (.int .i64 s) := by
        obtain ⟨A', c', h1, h2⟩ := hoi.shape
        obtain ⟨A2, c2, h3, h4⟩ := hoi.ints
        cases h1
        obtain ⟨b, h5, -, -⟩ := h2 (by intro h; simp [h] at hlt)
        cases h3
        obtain ⟨b2, o2, h6, -, h7⟩ := h4 (by intro h; simp [h] at hlt)
        have h8 : b2 = b ∧ o2 = 0 := by rw [h5] at h6; cases h6; exact ⟨rfl, rfl⟩
        obtain ⟨rfl, rfl⟩ := h8
        exact ⟨_, h5, by rw [h7 j hlt, hs]⟩
      obtain ⟨b, rfl, hcell⟩ := hcell
      rw [Nat.zero_add] at hcell
      have HS := hid hs
      obtain ⟨seen0, hs0⟩ : ∃ l, (cycSt (wordF xs ys) N I j).1 = l := ⟨_, rfl⟩
      obtain ⟨out0, ho0⟩ : ∃ l, (cycSt (wordF xs ys) N I j).2 = l := ⟨_, rfl⟩
      have hlen := cycSt_length (wordF xs ys) N I j
      rw [hs0] at HBk hlen
      rw [ho0] at HQ hlen
      obtain ⟨R, hR⟩ : ∃ R, cyc1 (wordF xs ys) seen0 s 0 = R := ⟨_, rfl⟩
      have HStep : Hid (cycSt (wordF xs ys) N I (j + 1) = (R.1, if 0 < R.2 then out0 ++ [(R.2 : Int)] else out0)) := hid (by
        simp only [cycSt, hs0, ho0, hs, Int.toNat_natCast, hR])
      have HLen := hid hlen.1
      have ho10 : out0.length ≤ 1024 := by omega
      have hc0 := cntF_le seen0
      have hc1 : 0 + cntF seen0 ≤ N := by rw [← hlen.1]; omega
      have HR := hid hR
      clear hs hs0 ho0 hR hoi ht hIs hlen hc0
      go_wp2
      clear hcell
      go_loopw [10, 9] (fun a i wi => ∃ (seen : List Bool) (t n : Nat), a = .int .i64 t ∧ i = .int .i64 n ∧ t < N ∧ Hid (seen.length = N) ∧ n + cntF seen ≤ N ∧ Hid (cyc1 (wordF xs ys) seen t n = R) ∧ Blk wi g 4 (BVals seen) ∧ Hid (OwnI 3 wi w'.heap.size (.slice oA on oc) out0) ∧ TurnedIn g (g + 1) w' wi) (fun _ i _ => N - (intOf i).toNat)
      case atStart => exact ⟨seen0, s, 0, rfl, rfl, hsN, HLen, hc1, HR, HBk.out, HQ, HT.out⟩
      case round =>
        obtain ⟨seen, t, n, rfl, rfl, htN, HSL, hcn, HC, hB, HOut, ht⟩ := hrel
        have hct : wr.cell? ⟨g, t, none⟩ = some (.bool (seen.getD t true)) := by
          rw [hB.cell, BVals_get (by rw [HSL.out]; exact htN)]
        have hft := hB.frozen t
        have HBk2 := hid hB
        have HT2 := hid ht
        clear hB ht
        cases hst : seen.getD t true
        · rw [hst] at hct
          have hcs := cntF_set (show t < seen.length by rw [HSL.out]; exact htN) hst
          have HGo := hid (cyc1_go (f := wordF xs ys) (n := n) (show t < seen.length by rw [HSL.out]; exact htN) hst)
          have hn1 : n < N := by omega
          have hcn2 : n + 1 + cntF (seen.set t true) ≤ N := by omega
          have HL2 : Hid ((seen.set t true).length = N) := hid (by rw [List.length_set]; exact HSL.out)
          have hbox := (HBox.out.turned HT2.out (.inl hwg)).1
          have hboxz := (HBox.out.turned HT2.out (.inl hwg)).2
          have hne : w.heap.size ≠ g := by omega
          have hf1 : wordF xs ys t < N := by rw [← HN.out]; exact togW_lt (by rw [HN.out]; exact htN) HY.out
          have HBk3 : Hid (Blk (wr.setCell ⟨g, t, none⟩ (.bool true)) g 4 (BVals (seen.set t true))) := hid (by rw [← BVals_set]; exact HBk2.out.set_ t _)
          have HT3 : Hid (TurnedIn g (g + 1) w' (wr.setCell ⟨g, t, none⟩ (.bool true))) := hid (HT2.out.set_ ⟨g, t, none⟩ ⟨Nat.le_refl _, Nat.lt_succ_self _⟩ _)
          have HOut3 : Hid (OwnI 3 (wr.setCell ⟨g, t, none⟩ (.bool true)) w'.heap.size (.slice oA on oc) out0) := hid (HOut.out.grown (grown_setCell (World.grownBy.refl _ _) t _) (HOut.out.apart (.inl hgw)))
          have HB3 := hid (below_turned HB.out HT3.out (Nat.le_of_lt hwg))
          have HTN : Hid (t < 2 ^ xs.length) := hid (by rw [HN.out]; exact htN)
          have hbox3 := (HBox.out.turned HT3.out (.inl hwg)).1
          clear hst hcs
          go_wp2_with fail
          clear hct hft hbox hboxz hbox3
          refine (step_any _ _ xs ys t _ (HV.out.below HB3.out) (HUW.out.below HB3.out) HG.out HTN.out HY.out hm).mono ?_
          rintro e' w5 ⟨rfl, hb5⟩
          have HBk5 := hid (HBk3.out.below hb5 HBk3.out.lt)
          have HT5 := hid (HT3.out.trans (TurnedIn.of_below hb5))
          have HOut5 := hid (HOut3.out.below hb5)
          clear hb5
          go_wp2
          go_roundw
          case rel => exact ⟨seen.set t true, wordF xs ys t, n + 1, rfl, by go_num, hf1, HL2, hcn2, hid (by rw [← HGo.out]; exact HC.out), HBk5.out, HOut5, HT5.out⟩
          case measure => simp [intOf]; omega
        · rw [hst] at hct
          have HStop : Hid (R = (seen, n)) := hid (by rw [← HC.out]; exact cyc1_stop hst)
          have hnN : n ≤ N := by omega
          have HBel := hid (below_turned HB.out HT2.out (Nat.le_of_lt hwg))
          clear hst
          by_cases hn0 : 0 < n
          · have HSt2 : Hid (cycSt (wordF xs ys) N I (j + 1) = (seen, out0 ++ [(n : Int)])) := hid (by rw [HStep.out, HStop.out]; simp [hn0])
            have hwz : w'.heap.size ≤ wr.heap.size := HT2.out.size
            go_wp2_with (at_builtin; refine wpList_append_int rfl _ _ 24 3 rfl Tryz.underlying24 Tryz.info3 w'.heap.size _ _ n rfl HOut.out rfl rfl (by omega) (by omega) ?_; rintro q2 w6 ho6 hb6; obtain ⟨qA, qn, qc, rfl⟩ := ho6.shape3)
            go_roundw
            case rel => exact ⟨j + 1, qA, qn, qc, by omega, by go_num, rfl, (by rw [HSt2.out]; exact HBk2.out.below hb6 hgw), (by rw [HSt2.out]; exact ho6), HT2.out.belowB hb6 (Nat.le_refl _)⟩
            case measure => simp [intOf]; omega
          · have HSt2 : Hid (cycSt (wordF xs ys) N I (j + 1) = (seen, out0)) := hid (by rw [HStep.out, HStop.out]; simp [hn0])
            go_wp2
            go_roundw
            case rel => exact ⟨j + 1, oA, on, oc, by omega, by go_num, rfl, (by rw [HSt2.out]; exact HBk2.out), (by rw [HSt2.out]; exact HOut.out), HT2.out⟩
            case measure => simp [intOf]; omega
    · obtain rfl : j = I.length := by omega
      have HBel := hid (below_turned HB.out ht (Nat.le_of_lt hwg))
      have hww := HB.out.size
      clear ht
      go_wp2
      go_ret
      exact ⟨_, rfl, HQ.out.mono hww, HBel.out⟩
end Go.Proofs.YtdemikjaghegnaaGreat

/- Ranks in the model: ranks, toggles of ranks, words of ranks. -/
namespace Go.Proofs.YtdemikjaghegnaaGreat
open Go.RowKit Go.WideShapes Go.ChangeShapes
set_option linter.unusedVariables false

theorem OwnI.storedR {e : TypeId} {w : World} {B g n c : Nat} {xs : List Int} (h : OwnI e w B (.slice (some ⟨g, 0, none⟩) n c) xs) (j : Nat) (y : Int) : OwnI e (w.setCell ⟨g, j, none⟩ (.int .i64 y)) B (.slice (some ⟨g, 0, none⟩) n c) (xs.set j y) := by
  obtain ⟨A, c', e', -⟩ := h.shape
  injection e' with e1 e2 e3
  subst e2
  have h' : w.ownsRow B e 1 (.slice (some ⟨g, 0, none⟩) xs.length c) xs.length (xs.map (Value.int .i64)) := h
  have := (h'.stored j (.int .i64 y)).1
  unfold OwnI
  rw [List.length_set, List.map_set]
  exact this
theorem OwnI.cellR {e : TypeId} {w : World} {B g n c : Nat} {xs : List Int} (h : OwnI e w B (.slice (some ⟨g, 0, none⟩) n c) xs) {j : Nat} (hj : j < xs.length) : w.cell? ⟨g, j, none⟩ = some (.int .i64 (xs.getD j 0)) ∧ w.frozen? ⟨g, j, none⟩ = false := by
  obtain ⟨A, c', e', -⟩ := h.shape
  injection e' with e1 e2 e3
  subst e2
  have h' : w.ownsRow B e 1 (.slice (some ⟨g, 0, none⟩) xs.length c) xs.length (xs.map (Value.int .i64)) := h
  refine ⟨?_, h'.frozenAt j⟩
  rw [h'.cellAt j (by omega)]
  simp [List.getD, hj]
theorem OwnI.blockR {e : TypeId} {w : World} {B : Nat} {v : Value} {xs : List Int} (h : OwnI e w B v xs) (hx : 0 < xs.length) : ∃ g c, v = .slice (some ⟨g, 0, none⟩) xs.length c ∧ B ≤ g ∧ g < w.heap.size := by
  obtain ⟨g, c, e1, h1, h2⟩ := World.ownsRow.form h hx
  exact ⟨g, c, e1, h1, h2⟩
def lenQ : Value → Nat
  | .slice _ n _ => n
  | _ => 0
theorem lenQ_own {e : TypeId} {w : World} {B : Nat} {v : Value} {xs : List Int} (h : OwnI e w B v xs) : lenQ v = xs.length := by
  obtain ⟨_, _, rfl, -⟩ := h.shape; rfl
set_option maxHeartbeats 1600000 in
theorem rvRanks_any (v : Value) (xs : List Int) (w : World) (hv : Ints w v xs) (hg : good xs = true) :
    Calls Tryz.prog 53 #[.agg #[v]] w fun (r : Ending) w' => ∃ u, r = Ending.returned u ∧ OwnI 3 w' w.heap.size u (rankL xs) ∧ Below w.heap.size w w' := by
  have HV := hid hv
  have HG := hid hg
  have hl10 := (good_length hg).2
  have HN := hid (heights_nat hg)
  have HML := hid (fun k => rkM_le (fun e => (heights_nat hg e).2) k)
  clear hv hg
  go_enter Tryz.func53, Tryz.ntmps53
  have HB := hid (below_alloc (Below.refl _ w) (.cells #[v] 26))
  have A0 := hid (At.newAt w v 26 w.heap.size (by simp))
  go_wp2_with fail
  refine (poHeights_any _ xs _ (HV.out.below HB.out) HG.out).mono ?_
  rintro e w' ⟨u, rfl, ho, hb⟩
  replace HB := hid (below_to HB.out hb)
  replace A0 := hid (A0.out.below hb)
  clear hb
  have hz := HB.out.size
  have HI := hid ho.ints
  have hlen := heights_len HG.out
  have HEnd : Hid (rankL xs = rkQ (heightsL xs) xs.length (rkM (heightsL xs) xs.length)) := hid rfl
  obtain ⟨ls, hls⟩ : ∃ ls, heightsL xs = ls := ⟨_, rfl⟩
  rw [hls] at HI HN HML HEnd hlen
  obtain ⟨A, c, rfl, hA⟩ := HI.out
  have HA := hid hA
  rw [← hlen] at HEnd hl10
  clear ho HI hA hls hlen
  go_wp2
  go_loopw [4, 11] (fun q i wr => ∃ k : Nat, k ≤ ls.length ∧ i = .int .i64 k ∧ OwnI 3 wr w'.heap.size q (rkQ ls k (rkM ls k)) ∧ Below w'.heap.size w' wr) (fun _ i _ => ls.length - (intOf i).toNat)
  case atStart => exact ⟨0, Nat.zero_le _, rfl, OwnI.nil _ _ _, Below.refl _ _⟩
  case round =>
    obtain ⟨k, hk, rfl, ho, hb⟩ := hrel
    have HO := hid ho
    have HB1 := hid hb
    by_cases hlt : k < ls.length
    · obtain ⟨b, o, rfl, hbl, hc⟩ := HA.out (by intro h; simp [h] at hlt)
      have hcell : wr.cell? ⟨b, o + k, none⟩ = some (.int .i64 (ls.getD k 0)) := (hb.cell (p := ⟨b, o + k, none⟩) hbl).trans (hc k hlt)
      obtain ⟨hn1, hn2⟩ := HN.out k
      have hMk := HML.out k
      have HMd : Hid (rkM ls (k + 1) = max (rkM ls k) ((ls.getD k 0).toNat + 1)) := hid rfl
      obtain ⟨h, hh⟩ : ∃ h, (ls.getD k 0).toNat = h := ⟨_, rfl⟩
      rw [hh] at hn1 hn2 HMd
      rw [hn1] at hcell
      have HH := hid hh
      clear hc ho hb hn1 hh
      go_wp2
      go_loopw [4] (fun q wi => ∃ m : Nat, rkM ls k ≤ m ∧ m ≤ max (rkM ls k) (h + 1) ∧ OwnI 3 wi w'.heap.size q (rkQ ls k m) ∧ Below w'.heap.size w' wi) (fun q _ => h + 1 - lenQ q)
      case atStart => exact ⟨rkM ls k, Nat.le_refl _, Nat.le_max_left _ _, HO.out, HB1.out⟩
      case round =>
        obtain ⟨m, hm1, hm2, ho, hb⟩ := hrel
        have HO2 := hid ho
        have HB2 := hid hb
        have hz2 := hb.size
        obtain ⟨qA, qc, rfl, -⟩ := ho.shape
        rw [rkQ_length] at HO2 ⊢
        clear ho hb
        by_cases hmh : m ≤ h
        · have hl48 : (rkQ ls k m).length < 1048576 := by rw [rkQ_length]; omega
          go_wp2_with (at_builtin; refine wpList_append_int rfl _ _ 24 3 rfl Tryz.underlying24 Tryz.info3 w'.heap.size _ _ 0 rfl HO2.out rfl rfl hl48 hz2 ?_; rintro q2 w6 ho6 hb6)
          have HGw := hid (rkQ_grow ls (k := k) (m := m) hm1)
          have hq2 := lenQ_own ho6
          rw [List.length_append, rkQ_length] at hq2
          go_roundw
          case rel => exact ⟨m + 1, by omega, by omega, (by rw [← HGw.out]; exact ho6), HB2.out.trans hb6⟩
          case measure => rw [hq2]; simp [lenQ]; omega
        · have hMe : m = rkM ls (k + 1) := by rw [HMd.out]; omega
          obtain ⟨g, c2, hsh, hg1, hg2⟩ := HO2.out.blockR (by rw [rkQ_length]; omega)
          rw [rkQ_length] at hsh
          cases hsh
          obtain ⟨t1, t2⟩ := HO2.out.cellR (j := h) (by rw [rkQ_length]; omega)
          rw [rkQ_get ls k (show h < m by omega)] at t1
          have hE := rkE_lt ls (Nat.le_refl k) h
          have HSet := hid (rkQ_set ls (k := k) (m := m) (i := h) HH.out (by omega))
          have hp9 := pow_lt10 k (by omega)
          obtain ⟨E, hEq⟩ : ∃ E, rkE ls k h = E := ⟨_, rfl⟩
          rw [hEq] at t1 hE HSet
          have wp := wrap_pow' k (by omega)
          have hor := or_pow E k (by omega) (by omega)
          have hhm : (h : Int) < m := by omega
          have hm10 : m ≤ 10 := by omega
          clear hEq hE hp9 hm1 hm2
          go_wp2
          go_region
          go_wp2
          go_roundw
          case rel => exact ⟨k + 1, by omega, by go_num, (by rw [← hMe, ← HSet.out]; exact (HO2.out.storedR h _).drew), (HB2.out.setCell (p := ⟨g, h, none⟩) hg1 _).drew⟩
          case measure => simp [intOf]; omega
    · obtain rfl : k = ls.length := by omega
      clear ho hb
      go_wp2
      go_ret
      exact ⟨_, rfl, (by rw [HEnd.out]; exact HO.out.mono hz), below_to HB.out HB1.out⟩
/-- is it a ranked poset, and one with the ideal? -/
def okRk (xs : List Int) : Bool := good xs && rankedB xs
def okRI (xs : List Int) (s : Int) : Bool := okRk xs && okIdeal xs s
theorem okRk_no {xs : List Int} (h : good xs = false) : okRk xs = false := by simp [okRk, h]
theorem okRk_yes {xs : List Int} (h : good xs = true) : okRk xs = rankedB xs := by simp [okRk, h]
theorem okRk_good {xs : List Int} (h : okRk xs = true) : good xs = true ∧ rankedB xs = true := by simpa [okRk] using h
theorem okRI_no {xs : List Int} {s : Int} (h : okRk xs = false) : okRI xs s = false := by simp [okRI, h]
theorem okRI_yes {xs : List Int} {s : Int} (h : okRk xs = true) : okRI xs s = okIdeal xs s := by simp [okRI, h]
theorem okRI_all {xs : List Int} {s : Int} (h : okRI xs s = true) : ∃ z : Nat, s = (z : Int) ∧ good xs = true ∧ rankedB xs = true ∧ z < 2 ^ xs.length ∧ holdsIdeal xs z = true := by
  have h1 : okRk xs = true ∧ okIdeal xs s = true := by simpa [okRI] using h
  obtain ⟨z, h2, h3, h4, h5⟩ := okIdeal_all h1.2
  exact ⟨z, h2, h3, (okRk_good h1.1).2, h4, h5⟩
theorem rvGood_any (v : Value) (xs : List Int) (w : World) (hv : Ints w v xs) (hl : xs.length ≤ 1048576) :
    Calls Tryz.prog 69 #[.agg #[v]] w fun r w' => r = .returned (.bool (okRk xs)) ∧ Below w.heap.size w w' := by
  have HV := hid hv
  clear hv
  go_enter Tryz.func69, Tryz.ntmps69
  have HB := hid (below_alloc (Below.refl _ w) (.cells #[v] 26))
  have A0 := hid (At.newAt w v 26 w.heap.size (by simp))
  go_wp2_with fail
  refine (poGood_any _ xs _ (HV.out.below HB.out) hl).mono ?_
  rintro e w' ⟨rfl, hb⟩
  replace HB := hid (below_to HB.out hb)
  replace A0 := hid (A0.out.below hb)
  clear hb
  cases hq : good xs
  · have HQ := hid hq
    clear hq
    have ebox0 := A0.out.1
    go_wp2
    go_ret
    exact ⟨ret_bool (okRk_no HQ.out).symm, HB.out⟩
  · have HQ := hid hq
    clear hq
    have ebox0 := A0.out.1
    go_wp2_with fail
    clear ebox0
    refine (poRanked_any _ xs _ (HV.out.below HB.out) HQ.out).mono ?_
    rintro e w' ⟨rfl, hb⟩
    replace HB := hid (below_to HB.out hb)
    replace A0 := hid (A0.out.below hb)
    clear hb
    cases hr : rankedB xs
    · have HR := hid hr
      clear hr
      have ebox0 := A0.out.1
      go_wp2
      go_ret
      exact ⟨ret_bool (by rw [okRk_yes HQ.out, HR.out]), HB.out⟩
    · have HR := hid hr
      clear hr
      have ebox0 := A0.out.1
      go_wp2
      go_ret
      exact ⟨ret_bool (by rw [okRk_yes HQ.out, HR.out]), HB.out⟩
theorem rvIn_any (v : Value) (xs : List Int) (s : Int) (w : World) (hv : Ints w v xs) (hl : xs.length ≤ 1048576) :
    Calls Tryz.prog 52 #[.agg #[v], .int .i64 s] w fun r w' => r = .returned (.bool (okRI xs s)) ∧ Below w.heap.size w w' := by
  have HV := hid hv
  clear hv
  go_enter Tryz.func52, Tryz.ntmps52
  have HB := hid (below_alloc (Below.refl _ w) (.cells #[v] 26))
  have A0 := hid (At.newAt w v 26 w.heap.size (by simp))
  go_wp2_with fail
  refine (rvGood_any _ xs _ (HV.out.below HB.out) hl).mono ?_
  rintro e w' ⟨rfl, hb⟩
  replace HB := hid (below_to HB.out hb)
  replace A0 := hid (A0.out.below hb)
  clear hb
  cases hq : okRk xs
  · have HQ := hid hq
    clear hq
    have ebox0 := A0.out.1
    go_wp2
    go_ret
    exact ⟨ret_bool (okRI_no HQ.out).symm, HB.out⟩
  · have HQ := hid hq
    have HG := hid (okRk_good hq).1
    clear hq
    have ebox0 := A0.out.1
    go_wp2_with fail
    clear ebox0
    refine (poSet_ok _ xs s _ (HV.out.below HB.out) HG.out).mono ?_
    rintro e w' ⟨rfl, hb⟩
    replace HB := hid (below_to HB.out hb)
    replace A0 := hid (A0.out.below hb)
    clear hb
    cases hs : okSet xs s
    · have HS := hid hs
      clear hs
      have ebox0 := A0.out.1
      go_wp2
      go_ret
      exact ⟨ret_bool (by rw [okRI_yes HQ.out, okIdeal_no HS.out]), HB.out⟩
    · have HS := hid hs
      obtain ⟨z, rfl⟩ := Int.eq_ofNat_of_zero_le (okSet_lt hs).1
      have hz := (okSet_lt hs).2
      have HI := hid (okIdeal_nat hs)
      clear hs
      have ebox0 := A0.out.1
      go_wp2_with fail
      clear ebox0
      refine (poIdeal_any _ xs z _ (HV.out.below HB.out) (good_length HG.out).2 (by omega) (good_small HG.out z)).mono ?_
      rintro e w' ⟨rfl, hb⟩
      replace HB := hid (below_to HB.out hb)
      replace A0 := hid (A0.out.below hb)
      clear hb
      cases hi : holdsIdeal xs z
      · have HJ := hid hi
        clear hi
        have ebox0 := A0.out.1
        go_wp2
        go_ret
        exact ⟨ret_bool (by rw [okRI_yes HQ.out, HI.out, HJ.out]), HB.out⟩
      · have HJ := hid hi
        clear hi
        have ebox0 := A0.out.1
        go_wp2
        go_ret
        exact ⟨ret_bool (by rw [okRI_yes HQ.out, HI.out, HJ.out]), HB.out⟩
theorem rvAt_any (v : Value) (xs : List Int) (s r : Nat) (w : World) (hv : Ints w v xs) (hg : good xs = true) (hs : s < 2 ^ xs.length) (hr : r < 1024) :
    Calls Tryz.prog 104 #[.agg #[v], .int .i64 s, .int .i64 r] w fun q w' => q = .returned (.int .i64 (togW xs s (elL xs.length r) : Nat)) ∧ Below w.heap.size w w' := by
  have HV := hid hv
  have HG := hid hg
  have HN := hid hs
  have hl10 := (good_length hg).2
  have HIn : Hid (∀ k, k ≤ xs.length → inW xs.length (elL k r) = true) := hid (fun k hk => List.all_eq_true.2 fun y hy => by
    obtain ⟨e, he, rfl⟩ := List.mem_map.1 hy
    have := (elN_mem.1 he).1
    simp; omega)
  obtain ⟨A, c, rfl, -⟩ := hv
  clear hg hs
  go_enter Tryz.func104, Tryz.ntmps104
  have HB := hid (below_alloc (Below.refl _ w) (.cells #[(.slice A xs.length c)] 26))
  have A0 := hid (At.newAt w (.slice A xs.length c) 26 w.heap.size (by simp))
  go_wp2
  go_loopw [1, 11] (fun q i wr => ∃ k t : Nat, k ≤ xs.length ∧ i = .int .i64 k ∧ q = .int .i64 (t : Nat) ∧ Hid (togW xs s (elL k r) = t) ∧ Below w.heap.size w wr ∧ At wr w.heap.size (.slice A xs.length c)) (fun _ i _ => xs.length - (intOf i).toNat)
  case atStart => exact ⟨0, s, Nat.zero_le _, rfl, rfl, hid rfl, HB.out, A0.out⟩
  case round =>
    obtain ⟨k, t, hk, rfl, rfl, HT, hb, ha⟩ := hrel
    have HB1 := hid hb
    have HA1 := hid ha
    by_cases hlt : k < xs.length
    · cases hbit : r.testBit k
      · have HBit := hid hbit
        clear hbit hb ha
        go_wp2_with (go_at_call 127; refine (poIn_any r k (by omega) _).mono ?_; rw [HBit.out]; rintro e w' ⟨rfl, rfl⟩)
        go_roundw
        case rel => exact ⟨k + 1, t, by omega, by go_num, rfl, hid (by rw [elL_no HBit.out]; exact HT.out), HB1.out, HA1.out⟩
        case measure => simp [intOf]; omega
      · have HBit := hid hbit
        have hl2 : togW xs s (elL k r) < 2 ^ xs.length := togW_lt HN.out (HIn.out k hk)
        have HL := hid (show t < 2 ^ xs.length by rw [← HT.out]; exact hl2)
        have hbox := ha.1
        clear hbit hb ha hl2
        go_wp2_with (go_at_call 127; refine (poIn_any r k (by omega) _).mono ?_; rw [HBit.out]; rintro e w' ⟨rfl, rfl⟩)
        clear hbox
        refine (tgAt_any _ xs t k _ (HV.out.below HB1.out) HG.out HL.out hlt).mono ?_
        rintro e' w' ⟨rfl, hb⟩
        have HB2 := hid (below_to HB1.out hb)
        have HA2 := hid (HA1.out.below hb)
        clear hb
        go_wp2
        go_roundw
        case rel => exact ⟨k + 1, _, by omega, by go_num, rfl, hid (by rw [elL_yes HBit.out, togW_app, HT.out]; rfl), HB2.out, HA2.out⟩
        case measure => simp [intOf]; omega
    · obtain rfl : k = xs.length := by omega
      clear hb ha
      go_wp2
      go_ret
      exact ⟨ret_int (by rw [← HT.out]), HB1.out⟩
end Go.Proofs.YtdemikjaghegnaaGreat

/- ToggleAt, CanToggle. -/
namespace Go.Proofs.YtdemikjaghegnaaGreat
open Go.RowKit Go.WideShapes Go.ChangeShapes
set_option linter.unusedVariables false

theorem okWord_one (xs : List Int) (e : Int) : okWord xs [e] = (decide (0 ≤ e) && decide (e < xs.length)) := by
  simp [okWord, inW]
theorem togW_one (xs : List Int) (s : Nat) (e : Nat) : togW xs s [(e : Int)] = tog xs s e := by simp [togW]
/-! ### CanToggle -/
def ansCT (xs : List Int) (s : Int) : Int := if okIdeal xs s then (canT xs s.toNat xs.length : Int) else 0
theorem ansCT_no {xs : List Int} {s : Int} (h : okIdeal xs s = false) : ansCT xs s = 0 := by simp [ansCT, h]
theorem ansCT_yes {xs : List Int} {z : Nat} (h : okIdeal xs z = true) : ansCT xs z = (canT xs z xs.length : Int) := by simp [ansCT, h]
end Go.Proofs.YtdemikjaghegnaaGreat
