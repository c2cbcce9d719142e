/- Texts Sort, SortM, RvP, RvN, RvY, RvL, one behind the other. -/
import Derived.Shelf.Sort.Plain
import Derived.Test.YtdemikjaghegnaaGreatProg
import Derived.Sort.OwnSortedInts
import Derived.Test.YtdemikjaghegnaaGreatPkRanksMakeRowmotionProof00
import Derived.Test.YtdemikjaghegnaaGreatPkRanksMakeRowmotionProof14
import Derived.Test.YtdemikjaghegnaaGreatPkRanksMakeRowmotionProof15
import Derived.Test.YtdemikjaghegnaaGreatPkRanksMakeRowmotionProof17
import Derived.Test.YtdemikjaghegnaaGreatPkRanksMakeRowmotionProof19
import Derived.Test.YtdemikjaghegnaaGreatPkRanksMakeRowmotionProof20
/- Contracts of the library's functions at this program (written by shelf.sh; literal numbers: seat aa.Z of g3). -/
namespace Go.Proofs
open Go.Shelf
def Tryz.lays189_ren : Go.Shelf.Ren := ⟨fun | 189 => 75 | 125 => 121 | 257 => 120 | 128 => 146 | 129 => 147 | 294 => 137 | 295 => 138 | 296 => 139 | 297 => 140 | 298 => 141 | 299 => 142 | 216 => 143 | 300 => 144 | 301 => 145 | 328 => 149 | 329 => 150 | 330 => 151 | 331 => 152 | 332 => 153 | 215 => 154 | 343 => 155 | n => n, fun | 28 => 24 | 3 => 3 | 46 => 101 | 0 => 0 | 51 => 114 | 53 => 45 | 4 => 4 | 183 => 109 | 182 => 108 | 131 => 29 | 5 => 5 | 9 => 9 | 218 => 117 | 222 => 121 | 228 => 123 | 229 => 124 | n => n, fun | n => n⟩
theorem Tryz.lays189 : Go.Proofs.Lays.n189 Tryz.prog Tryz.lays189_ren := {
  mixed := by kernel_rfl
  f125 := Tryz.func121.trans (congrArg some (by kernel_rfl))
  f128 := Tryz.func146.trans (congrArg some (by kernel_rfl))
  f129 := Tryz.func147.trans (congrArg some (by kernel_rfl))
  f189 := Tryz.func75.trans (congrArg some (by kernel_rfl))
  f215 := Tryz.func154.trans (congrArg some (by kernel_rfl))
  f216 := Tryz.func143.trans (congrArg some (by kernel_rfl))
  f257 := Tryz.func120.trans (congrArg some (by kernel_rfl))
  f294 := Tryz.func137.trans (congrArg some (by kernel_rfl))
  f295 := Tryz.func138.trans (congrArg some (by kernel_rfl))
  f296 := Tryz.func139.trans (congrArg some (by kernel_rfl))
  f297 := Tryz.func140.trans (congrArg some (by kernel_rfl))
  f298 := Tryz.func141.trans (congrArg some (by kernel_rfl))
  f299 := Tryz.func142.trans (congrArg some (by kernel_rfl))
  f300 := Tryz.func144.trans (congrArg some (by kernel_rfl))
  f301 := Tryz.func145.trans (congrArg some (by kernel_rfl))
  f328 := Tryz.func149.trans (congrArg some (by kernel_rfl))
  f329 := Tryz.func150.trans (congrArg some (by kernel_rfl))
  f330 := Tryz.func151.trans (congrArg some (by kernel_rfl))
  f331 := Tryz.func152.trans (congrArg some (by kernel_rfl))
  f332 := Tryz.func153.trans (congrArg some (by kernel_rfl))
  f343 := Tryz.func155.trans (congrArg some (by kernel_rfl))
  t0 := Tryz.underlying0
  a0 := Tryz.isAgg0
  z0 := Tryz.sizeOf0
  v0 := Tryz.zeroValue0
  t3 := Tryz.underlying3
  a3 := Tryz.isAgg3
  z3 := Tryz.sizeOf3
  v3 := Tryz.zeroValue3
  t4 := Tryz.underlying4
  a4 := Tryz.isAgg4
  z4 := Tryz.sizeOf4
  v4 := Tryz.zeroValue4
  t5 := Tryz.underlying5
  a5 := Tryz.isAgg5
  z5 := Tryz.sizeOf5
  v5 := Tryz.zeroValue5
  t9 := Tryz.underlying9
  a9 := Tryz.isAgg9
  z9 := Tryz.sizeOf9
  v9 := Tryz.zeroValue9
  t28 := Tryz.underlying24
  a28 := Tryz.isAgg24
  z28 := Tryz.sizeOf24
  v28 := Tryz.zeroValue24
  t46 := Tryz.underlying101
  a46 := Tryz.isAgg101
  z46 := Tryz.sizeOf101
  v46 := Tryz.zeroValue101
  t51 := Tryz.underlying114
  a51 := Tryz.isAgg114
  z51 := Tryz.sizeOf114
  v51 := Tryz.zeroValue114
  t53 := Tryz.underlying45
  a53 := Tryz.isAgg45
  z53 := Tryz.sizeOf45
  v53 := Tryz.zeroValue45
  t131 := Tryz.underlying29
  a131 := Tryz.isAgg29
  z131 := Tryz.sizeOf29
  v131 := Tryz.zeroValue29
  t182 := Tryz.underlying108
  a182 := Tryz.isAgg108
  z182 := Tryz.sizeOf108
  v182 := Tryz.zeroValue108
  t183 := Tryz.underlying109
  a183 := Tryz.isAgg109
  z183 := Tryz.sizeOf109
  v183 := Tryz.zeroValue109
  t218 := Tryz.underlying117
  a218 := Tryz.isAgg117
  z218 := Tryz.sizeOf117
  v218 := Tryz.zeroValue117
  t222 := Tryz.underlying121
  a222 := Tryz.isAgg121
  z222 := Tryz.sizeOf121
  v222 := Tryz.zeroValue121
  t228 := Tryz.underlying123
  a228 := Tryz.isAgg123
  z228 := Tryz.sizeOf123
  v228 := Tryz.zeroValue123
  t229 := Tryz.underlying124
  a229 := Tryz.isAgg124
  z229 := Tryz.sizeOf124
  v229 := Tryz.zeroValue124 }
open Go.Sort Go.RowKit in
theorem Tryz.slices_Sort_int (blk off cap : Nat) (zs : List Int) (w : World) (hH : Holds (Value.int .i64) w blk off zs.toArray) (hblk : blk < w.heap.size) (hsz : zs.length < 4611686018427387904) :
    Calls Tryz.prog 75 #[.slice (some ⟨blk, off, none⟩) zs.length cap] w fun e w' =>
      e = .returned (.tuple #[]) ∧ ∃ n os, w' = grow (putRow (Value.int .i64) (Sort.ahead w n) blk off (zs.mergeSort fun x y => decide (x ≤ y)).toArray) os := Any.slices_Sort_int Tryz.lays189 blk off cap zs w hH hblk hsz
end Go.Proofs
namespace Go.Proofs.YtdemikjaghegnaaGreat
open Go.RowKit Go.WideShapes Go.ChangeShapes
set_option linter.unusedVariables false

def sortL (l : List Int) : List Int := l.mergeSort fun x y => decide (x ≤ y)
theorem sortL_length (l : List Int) : (sortL l).length = l.length := by unfold sortL; exact List.length_mergeSort _
theorem Below.of_grownB {B q : Nat} {w w' : World} (h : w.grownBy w' (some q)) (hB : B ≤ q) (hq : q < w.heap.size) : Below B w w' :=
  ⟨h.os, h.tape, h.output, h.size, fun k hk => h.block k (by omega) (by intro e; injection e with e; omega)⟩
theorem sort_any (v : Value) (ls : List Int) (B : Nat) (w : World) (h : OwnI 3 w B v ls) (h0 : ls ≠ []) (hL : ls.length ≤ 1048576) :
    Calls Tryz.prog 75 #[v] w fun (r : Ending) w' => r = .returned (.tuple #[]) ∧ OwnI 3 w' B v (sortL ls) ∧ Below B w w' := by
  obtain ⟨h1, h2⟩ := h
  rcases h2 with ⟨-, e⟩ | ⟨g, cap, cur, rfl, hB, hh, hn, hc, hs, ht⟩
  · exact absurd (by simpa using e) h0
  · have hg : g < w.heap.size := (Array.getElem?_eq_some_iff.1 hh).1
    have ht2 : cur.toList.take ls.length = ls.map (Value.int .i64) := by simpa using ht
    have hS := Tryz.slices_Sort_int g 0 cap ls w (holds_of_blockI hh ht2) hg (by omega)
    refine hS.mono ?_
    rintro e w' ⟨rfl, n, os, rfl⟩
    have hl : (sortL ls).length = ls.length := sortL_length ls
    refine ⟨rfl, ?_, Below.of_grownB (grownBy_sortedI _) hB hg⟩
    have := ownsRow_sortedI (os := os) (ts := sortL ls) hl hB hh hn hc hs (base := B) (n := n) (w := w)
    unfold OwnI
    rw [hl]
    exact this
end Go.Proofs.YtdemikjaghegnaaGreat

/- Sorted lists: insertion in order. -/
namespace Go.Proofs.YtdemikjaghegnaaGreat
open Go.RowKit Go.WideShapes Go.ChangeShapes
set_option linter.unusedVariables false

theorem sortL_sorted (l : List Int) : (sortL l).Pairwise fun a b => a ≤ b := by
  have h := List.pairwise_mergeSort (le := fun (x y : Int) => decide (x ≤ y)) (fun a b c h1 h2 => by simp only [decide_eq_true_eq] at *; omega) (fun a b => by simp only [Bool.or_eq_true, decide_eq_true_eq]; omega) l
  exact h.imp fun {a b} h => by simpa using h
theorem sortL_perm (l : List Int) : (sortL l).Perm l := List.mergeSort_perm _ _
theorem sorted_eq {l m : List Int} (hl : l.Pairwise fun a b => a ≤ b) (hm : m.Pairwise fun a b => a ≤ b) (h : l.Perm m) : l = m :=
  List.Perm.eq_of_pairwise (le := fun a b => a ≤ b) (fun a b _ _ h1 h2 => by omega) hl hm h
theorem insAt_sort {l : List Int} {x : Int} {k : Nat} (hk : k ≤ (sortL l).length) (h1 : ∀ j, j < k → (sortL l).getD j 0 ≤ x) (h2 : k < (sortL l).length → x < (sortL l).getD k 0) :
    (sortL l).take k ++ [x] ++ (sortL l).drop k = sortL (l ++ [x]) := by
  have hs := sortL_sorted l
  have hp := sortL_perm l
  generalize sortL l = s at *
  refine sorted_eq ?_ (sortL_sorted _) ?_
  · have hsp : (s.take k ++ s.drop k).Pairwise fun a b => a ≤ b := by rw [List.take_append_drop]; exact hs
    rw [List.pairwise_append] at hsp
    obtain ⟨p1, p2, p3⟩ := hsp
    have q1 : ∀ a ∈ s.take k, a ≤ x := fun a ha => by
      obtain ⟨j, hj, rfl⟩ := List.mem_iff_getElem.1 ha
      rw [List.length_take] at hj
      have := h1 j (by omega)
      rw [List.getElem_take]
      simpa [List.getD, show j < s.length by omega] using this
    have q2 : ∀ b ∈ s.drop k, x ≤ b := fun b hb => by
      obtain ⟨j, hj, rfl⟩ := List.mem_iff_getElem.1 hb
      rw [List.length_drop] at hj
      have hx := h2 (by omega)
      rw [List.getElem_drop]
      have hle : s[k]'(by omega) ≤ s[k + j]'(by omega) := by
        rcases Nat.eq_zero_or_pos j with h0 | h0
        · subst h0; simp
        · exact (List.pairwise_iff_getElem.1 hs) k (k + j) (by omega) (by omega) (by omega)
      have : s.getD k 0 = s[k]'(by omega) := by simp [List.getD, show k < s.length by omega]
      omega
    rw [List.append_assoc, List.pairwise_append]
    refine ⟨p1, ?_, fun a ha b hb => ?_⟩
    · simp only [List.cons_append, List.nil_append, List.pairwise_cons]
      exact ⟨q2, p2⟩
    · simp only [List.cons_append, List.nil_append, List.mem_cons] at hb
      rcases hb with rfl | hb
      · exact q1 a ha
      · exact p3 a ha b hb
  · refine List.Perm.trans ?_ (List.Perm.trans (List.Perm.append_right [x] hp) (sortL_perm _).symm)
    have e : (s.take k ++ s.drop k ++ [x]).Perm (s ++ [x]) := by rw [List.take_append_drop]
    refine List.Perm.trans ?_ e
    rw [List.append_assoc, List.append_assoc]
    exact List.Perm.append_left _ List.perm_append_comm
end Go.Proofs.YtdemikjaghegnaaGreat

/- A number put into a list in order: the model (chapter 9). -/
namespace Go.Proofs.YtdemikjaghegnaaGreat
open Go.RowKit Go.WideShapes Go.ChangeShapes
set_option linter.unusedVariables false

set_option maxHeartbeats 1600000 in
theorem rvPut_any (v : Value) (l : List Int) (x : Int) (B : Nat) (w : World) (h : OwnI 3 w B v (sortL l)) (hl : l.length ≤ 10000) :
    Calls Tryz.prog 77 #[v, .int .i64 x] w fun (r : Ending) w' => ∃ u, r = Ending.returned u ∧ OwnI 3 w' w.heap.size u (sortL (l ++ [x])) ∧ Below w.heap.size w w' := by
  have H0 := hid h
  have HIn := hid (fun k => insAt_sort (l := l) (x := x) (k := k))
  obtain ⟨ol, hol⟩ : ∃ ol, sortL l = ol := ⟨_, rfl⟩
  have holl : ol.length ≤ 10000 := by rw [← hol, sortL_length]; exact hl
  rw [hol] at H0 HIn
  obtain ⟨oA, oc, rfl, -⟩ := h.shape
  rw [hol] at H0 ⊢
  have hcap := H0.out.capH
  clear h hol
  rcases H0.out.nilOr with ⟨rfl, rfl, rfl⟩ | ⟨g, rfl, hBg, hgl, hcl⟩
  · have HNew : Hid (sortL (l ++ [x]) = ([] ++ [x] ++ [] : List Int)) := hid (by
      rw [← HIn.out 0 (Nat.zero_le _) (fun i hi => absurd hi (Nat.not_lt_zero _)) (fun h => absurd h (Nat.lt_irrefl _))]; rfl)
    go_enter Tryz.func77, Tryz.ntmps77
    go_wp2
    go_loop [5] (fun i => i = .int .i64 0) (fun _ => 0)
    case atStart => rfl
    case round =>
      subst hrel
      go_wp2_with fail
      refine (l1OwnL_any _ [] _ (Ints.noneL _ _ _ _ rfl) (by simp)).mono ?_
      rintro e w5 ⟨u5, rfl, ho5, hb5⟩
      have HU5 := hid ho5
      have HB5 := hid hb5
      obtain ⟨u5A, u5c, rfl, -⟩ := ho5.shape
      rw [List.length_nil] at HU5 ⊢
      have hz5 := hb5.size
      clear ho5 hb5
      go_wp2_with (at_builtin; first
        | (refine wpList_append_int rfl _ _ 24 3 rfl Tryz.underlying24 Tryz.info3 w.heap.size _ [] x rfl HU5.out rfl rfl (by simp) hz5 ?_
           intro v6 w6 ho6 hb6
           have HV6 := hid ho6
           have HB6 := hid (HB5.out.trans hb6)
           have hz6 := HB6.out.size
           obtain ⟨v6A, v6c, rfl, -⟩ := ho6.shape
           have hul : ([] ++ [x] : List Int).length = 1 := rfl
           rw [hul] at HV6 ⊢
           clear ho6 hb6 hul)
        | (refine wpList_append_ints rfl _ _ 24 3 rfl Tryz.underlying24 Tryz.info3 w.heap.size _ ([] ++ [x]) rfl HV6.out _ [] rfl (Ints.noneL _ _ _ _ rfl) (by simp) hz6 ?_; intro v7 w7 ho7 hb7))
      have HB7 := hid (HB6.out.trans hb7)
      have HV7 : Hid (OwnI 3 w7 w.heap.size v7 (sortL (l ++ [x]))) := hid (by rw [HNew.out]; exact ho7)
      obtain ⟨v7A, v7c, rfl, -⟩ := ho7.shape
      clear ho7 hb7
      go_wp2
      go_ret
      exact ⟨_, rfl, HV7.out, HB7.out⟩
  · have HCl := hid hcl
    clear hcl
    go_enter Tryz.func77, Tryz.ntmps77
    go_wp2
    go_loop [5] (fun i => ∃ s : Nat, s ≤ ol.length ∧ i = .int .i64 s ∧ Hid (∀ i, i < s → ol.getD i 0 ≤ x)) (fun i => ol.length - (intOf i).toNat)
    case atStart => exact ⟨0, Nat.zero_le _, rfl, hid (fun i hi => absurd hi (Nat.not_lt_zero _))⟩
    case round =>
      obtain ⟨s, hs1, rfl, HLe⟩ := hrel
      by_cases hsn : s < ol.length
      · have hcell := HCl.out s hsn
        obtain ⟨y, hy⟩ : ∃ y, ol.getD s 0 = y := ⟨_, rfl⟩
        rw [hy] at hcell
        have HY := hid hy
        have hsi : (s : Int) < (ol.length : Int) := by omega
        clear hy
        by_cases hxP : y ≤ x
        · go_wp2
          go_round
          case rel => exact ⟨s + 1, by omega, by go_num, hid (fun i hi => by
            by_cases e : i = s
            · subst e; rw [HY.out]; exact hxP
            · exact HLe.out i (by omega))⟩
          case measure => simp [intOf]; omega
        · have hxd : decide (y ≤ x) = false := by simp; omega
          have HNew : Hid (sortL (l ++ [x]) = ol.take s ++ [x] ++ ol.drop s) := hid (by
            rw [← HIn.out s hs1 HLe.out (fun _ => by rw [HY.out]; omega)])
          go_wp2_with fail
          refine (l1OwnL_any _ (ol.take s) _ (H0.out.ints.takeK hs1 _) (by rw [List.length_take]; omega)).mono ?_
          rintro e w5 ⟨u5, rfl, ho5, hb5⟩
          have HU5 := hid ho5
          have HB5 := hid hb5
          obtain ⟨u5A, u5c, rfl, -⟩ := ho5.shape
          have hul : (ol.take s).length = s := by rw [List.length_take]; omega
          rw [hul] at HU5 ⊢
          have hz5 := hb5.size
          clear ho5 hb5 hul
          go_wp2_with (at_builtin; first
            | (refine wpList_append_int rfl _ _ 24 3 rfl Tryz.underlying24 Tryz.info3 w.heap.size _ (ol.take s) x rfl HU5.out rfl rfl (by rw [List.length_take]; omega) hz5 ?_
               intro v6 w6 ho6 hb6
               have HV6 := hid ho6
               have HB6 := hid (HB5.out.trans hb6)
               have HO6 := hid (H0.out.below HB6.out)
               have hz6 := HB6.out.size
               obtain ⟨v6A, v6c, rfl, -⟩ := ho6.shape
               have hul : (ol.take s ++ [x]).length = s + 1 := by rw [List.length_append, List.length_take]; simp; omega
               rw [hul] at HV6 ⊢
               clear ho6 hb6 hul)
            | (refine wpList_append_ints rfl _ _ 24 3 rfl Tryz.underlying24 Tryz.info3 w.heap.size _ (ol.take s ++ [x]) rfl HV6.out _ (ol.drop s) rfl (HO6.out.ints.dropK0 hs1 _ _ (by omega)) (by rw [List.length_append, List.length_take, List.length_drop]; simp; omega) hz6 ?_; intro v7 w7 ho7 hb7))
          have HB7 := hid (HB6.out.trans hb7)
          have HV7 : Hid (OwnI 3 w7 w.heap.size v7 (sortL (l ++ [x]))) := hid (by rw [HNew.out]; exact ho7)
          obtain ⟨v7A, v7c, rfl, -⟩ := ho7.shape
          clear ho7 hb7
          go_wp2
          go_ret
          exact ⟨_, rfl, HV7.out, HB7.out⟩
      · have hse2 : ol.length ≤ s := by omega
        have hsi : ¬ (s : Int) < (ol.length : Int) := by omega
        have HNew : Hid (sortL (l ++ [x]) = ol.take s ++ [x] ++ ol.drop s) := hid (by
          rw [← HIn.out s hs1 HLe.out (fun h => by omega)])
        by_cases hcc : s < oc
        · go_wp2_with fail
          refine (l1OwnL_any _ (ol.take s) _ (H0.out.ints.takeK hs1 _) (by rw [List.length_take]; omega)).mono ?_
          rintro e w5 ⟨u5, rfl, ho5, hb5⟩
          have HU5 := hid ho5
          have HB5 := hid hb5
          obtain ⟨u5A, u5c, rfl, -⟩ := ho5.shape
          have hul : (ol.take s).length = s := by rw [List.length_take]; omega
          rw [hul] at HU5 ⊢
          have hz5 := hb5.size
          clear ho5 hb5 hul
          go_wp2_with (at_builtin; first
            | (refine wpList_append_int rfl _ _ 24 3 rfl Tryz.underlying24 Tryz.info3 w.heap.size _ (ol.take s) x rfl HU5.out rfl rfl (by rw [List.length_take]; omega) hz5 ?_
               intro v6 w6 ho6 hb6
               have HV6 := hid ho6
               have HB6 := hid (HB5.out.trans hb6)
               have HO6 := hid (H0.out.below HB6.out)
               have hz6 := HB6.out.size
               obtain ⟨v6A, v6c, rfl, -⟩ := ho6.shape
               have hul : (ol.take s ++ [x]).length = s + 1 := by rw [List.length_append, List.length_take]; simp; omega
               rw [hul] at HV6 ⊢
               clear ho6 hb6 hul)
            | (refine wpList_append_ints rfl _ _ 24 3 rfl Tryz.underlying24 Tryz.info3 w.heap.size _ (ol.take s ++ [x]) rfl HV6.out _ (ol.drop s) rfl (HO6.out.ints.dropK0 hs1 _ _ (by omega)) (by rw [List.length_append, List.length_take, List.length_drop]; simp; omega) hz6 ?_; intro v7 w7 ho7 hb7))
          have HB7 := hid (HB6.out.trans hb7)
          have HV7 : Hid (OwnI 3 w7 w.heap.size v7 (sortL (l ++ [x]))) := hid (by rw [HNew.out]; exact ho7)
          obtain ⟨v7A, v7c, rfl, -⟩ := ho7.shape
          clear ho7 hb7
          go_wp2
          go_ret
          exact ⟨_, rfl, HV7.out, HB7.out⟩
        · have hcc2 : oc ≤ s := by omega
          go_wp2_with fail
          refine (l1OwnL_any _ (ol.take s) _ (H0.out.ints.takeK hs1 _) (by rw [List.length_take]; omega)).mono ?_
          rintro e w5 ⟨u5, rfl, ho5, hb5⟩
          have HU5 := hid ho5
          have HB5 := hid hb5
          obtain ⟨u5A, u5c, rfl, -⟩ := ho5.shape
          have hul : (ol.take s).length = s := by rw [List.length_take]; omega
          rw [hul] at HU5 ⊢
          have hz5 := hb5.size
          clear ho5 hb5 hul
          go_wp2_with (at_builtin; first
            | (refine wpList_append_int rfl _ _ 24 3 rfl Tryz.underlying24 Tryz.info3 w.heap.size _ (ol.take s) x rfl HU5.out rfl rfl (by rw [List.length_take]; omega) hz5 ?_
               intro v6 w6 ho6 hb6
               have HV6 := hid ho6
               have HB6 := hid (HB5.out.trans hb6)
               have HO6 := hid (H0.out.below HB6.out)
               have hz6 := HB6.out.size
               obtain ⟨v6A, v6c, rfl, -⟩ := ho6.shape
               have hul : (ol.take s ++ [x]).length = s + 1 := by rw [List.length_append, List.length_take]; simp; omega
               rw [hul] at HV6 ⊢
               clear ho6 hb6 hul)
            | (refine wpList_append_ints rfl _ _ 24 3 rfl Tryz.underlying24 Tryz.info3 w.heap.size _ (ol.take s ++ [x]) rfl HV6.out _ (ol.drop s) rfl (by rw [show ol.drop s = [] from List.drop_of_length_le hse2]; exact Ints.noneL _ _ _ _ (by omega)) (by rw [List.length_append, List.length_take, List.length_drop]; simp; omega) hz6 ?_; intro v7 w7 ho7 hb7))
          have HB7 := hid (HB6.out.trans hb7)
          have HV7 : Hid (OwnI 3 w7 w.heap.size v7 (sortL (l ++ [x]))) := hid (by rw [HNew.out]; exact ho7)
          obtain ⟨v7A, v7c, rfl, -⟩ := ho7.shape
          clear ho7 hb7
          go_wp2
          go_ret
          exact ⟨_, rfl, HV7.out, HB7.out⟩
end Go.Proofs.YtdemikjaghegnaaGreat

/- The library's sort of no list at all. -/
namespace Go.Proofs.YtdemikjaghegnaaGreat
open Go.RowKit Go.WideShapes Go.ChangeShapes
set_option linter.unusedVariables false

set_option maxRecDepth 100000 in
theorem len64_0 (w : World) : Calls Tryz.prog 147 #[.int .u64 0] w fun r w' => r = .returned (.int .i64 0) ∧ w = w' := by
  have h0 : wrap64 (wrap64 (Lib.len8 0)) = 0 := by first | decide | kernel_rfl
  go_enter Tryz.func147, Tryz.ntmps147
  go_wp2
  go_ret
  exact ⟨ret_int h0, rfl⟩
set_option maxRecDepth 100000 in
theorem len_0 (w : World) : Calls Tryz.prog 121 #[.int .u64 0] w fun r w' => r = .returned (.int .i64 0) ∧ w = w' := by
  go_enter Tryz.func121, Tryz.ntmps121
  go_wp2_with (go_at_call 147; refine (len64_0 _).mono ?_; rintro e w' ⟨rfl, rfl⟩)
  go_ret
  exact ⟨rfl, rfl⟩
theorem ins_0 (A : Option Addr) (c : Nat) (w : World) : Calls Tryz.prog 137 #[.slice A 0 c, .int .i64 0, .int .i64 0] w fun (r : Ending) w' => r = .returned (.tuple #[]) ∧ w = w' := by
  go_enter Tryz.func137, Tryz.ntmps137
  go_wp2
  go_loop [6] (fun i => i = .int .i64 1) (fun _ => 0)
  case atStart => rfl
  case round =>
    subst hrel
    go_wp2
    go_end0
    exact ⟨rfl, rfl⟩
theorem pdq_0 (A : Option Addr) (c : Nat) (k : Int) (w : World) : Calls Tryz.prog 120 #[.slice A 0 c, .int .i64 0, .int .i64 0, .int .i64 k] w fun (r : Ending) w' => r = .returned (.tuple #[]) ∧ w = w' := by
  go_enter Tryz.func120, Tryz.ntmps120
  go_wp2
  go_loop [1, 2] (fun a b => a = .int .i64 0 ∧ b = .int .i64 0) (fun _ _ => 0)
  case atStart => exact ⟨rfl, rfl⟩
  case round =>
    obtain ⟨rfl, rfl⟩ := hrel
    go_wp2_with (go_at_call 137; refine (ins_0 A c _).mono ?_; rintro e w' ⟨rfl, rfl⟩)
    exact bodyPost_ret (results_none rfl _ _ _) rfl ⟨rfl, rfl⟩
theorem sortNil_any (A : Option Addr) (c : Nat) (w : World) : Calls Tryz.prog 75 #[.slice A 0 c] w fun (r : Ending) w' => r = .returned (.tuple #[]) ∧ w = w' := by
  go_enter Tryz.func75, Tryz.ntmps75
  go_wp2_with (first | (go_at_call 121; refine (len_0 _).mono ?_; rintro e w' ⟨rfl, rfl⟩) | (go_at_call 120; refine (pdq_0 A c _ _).mono ?_; rintro e w' ⟨rfl, rfl⟩))
  go_end0
  exact ⟨rfl, rfl⟩
theorem ret_vbS {u : Value} {a b : Bool} (h : a = b) : Ending.returned (.tuple #[u, .bool a]) = .returned (.tuple #[u, .bool b]) := by rw [h]
theorem sortL_nil : sortL [] = [] := by
  have := sortL_length []; exact List.eq_nil_of_length_eq_zero (by simpa using this)
end Go.Proofs.YtdemikjaghegnaaGreat

/- The lengths of all orbits of gyration, in order: the model's and the program's contracts. -/
namespace Go.Proofs.YtdemikjaghegnaaGreat
open Go.RowKit Go.WideShapes Go.ChangeShapes
set_option linter.unusedVariables false

theorem cycIn_congr {f g : Nat → Nat} {D : Nat → Bool} (h : ∀ s, D s = true → f s = g s ∧ D (f s) = true) (c : Nat) : ∀ (seen : List Bool) (s n : Nat), D s = true → cycIn f c seen s n = cycIn g c seen s n := by
  induction c with
  | zero => intro seen s n _; rfl
  | succ c ih =>
    intro seen s n hs
    obtain ⟨h1, h2⟩ := h s hs
    simp only [cycIn]
    rw [← h1, ih _ (f s) _ h2]
theorem cycSt_congr {f g : Nat → Nat} {D : Nat → Bool} (h : ∀ s, D s = true → f s = g s ∧ D (f s) = true) {N : Nat} {ids : List Int} (hD : ∀ j, j < ids.length → D (ids.getD j 0).toNat = true) (k : Nat) (hk : k ≤ ids.length) : cycSt f N ids k = cycSt g N ids k := by
  induction k with
  | zero => rfl
  | succ k ih =>
    simp only [cycSt]
    rw [ih (by omega)]
    unfold cyc1
    rw [cycIn_congr h _ _ _ _ (hD k (by omega))]
theorem gyr_cycles {xs : List Int} (hg : good xs = true) (hr : rankedB xs = true) {h : Nat} (hh : rkN xs = h + 1) :
    cyclesL (gyF xs) (2 ^ xs.length) (setsL (holdsIdeal xs) (2 ^ xs.length)) = cyclesL (wordF xs (rkW (rankL xs) (wGyr h))) (2 ^ xs.length) (setsL (holdsIdeal xs) (2 ^ xs.length)) := by
  unfold cyclesL
  rw [cycSt_congr (g := wordF xs (rkW (rankL xs) (wGyr h))) (D := holdsIdeal xs) (ids := setsL (holdsIdeal xs) (2 ^ xs.length)) (fun s hs => ⟨gyF_word hg hr hh hs, togW_ideal (togW_ideal hs)⟩) (fun j hj => by
    obtain ⟨s, h1, _, h2⟩ := setsL_bound hj
    rw [h1, Int.toNat_natCast]; exact h2) _ (Nat.le_refl _)]
def idsR (xs : List Int) : List Int := setsL (holdsIdeal xs) (2 ^ xs.length)
theorem idsR_length {xs : List Int} : 1 ≤ (idsR xs).length := by
  have h0 : holdsIdeal xs 0 = true := by rw [holdsIdeal_row]; intro e he hb; simp at hb
  unfold idsR setsL
  rw [List.length_map]
  apply List.length_pos_of_mem (a := 0)
  rw [List.mem_filter]
  exact ⟨List.mem_range.2 (Nat.two_pow_pos _), h0⟩
theorem idsR_D (xs : List Int) (j : Nat) (hj : j < (idsR xs).length) : idB xs ((idsR xs).getD j 0).toNat = true := by
  obtain ⟨s, h1, h2, h3⟩ := setsL_bound (f := holdsIdeal xs) (N := 2 ^ xs.length) hj
  have : (idsR xs).getD j 0 = (s : Int) := h1
  rw [this, Int.toNat_natCast]
  exact idB_iff.2 ⟨h2, h3⟩
/-- the lengths of the orbits of gyration -/
def gyCy (xs : List Int) : List Int := cyclesL (gyF xs) (2 ^ xs.length) (setsL (holdsIdeal xs) (2 ^ xs.length))
theorem gyCy_length {xs : List Int} (hg : good xs = true) : (gyCy xs).length ≤ 1024 := by
  have h1 := (cycSt_length (gyF xs) (2 ^ xs.length) (setsL (holdsIdeal xs) (2 ^ xs.length)) (setsL (holdsIdeal xs) (2 ^ xs.length)).length).2
  have h2 := setsL_length (holdsIdeal xs) (2 ^ xs.length)
  have h3 := pow10 (good_length hg).2
  unfold gyCy cyclesL
  omega
theorem gyCy_ne {xs : List Int} (hg : good xs = true) (hr : rankedB xs = true) : gyCy xs ≠ [] := by
  obtain ⟨h, hh, h9⟩ := rkN_some hg
  have hw : inW xs.length (rkW (rankL xs) (wGyr h)) = true := inW_rkW hg (inW_wGyr (by omega))
  unfold gyCy
  rw [gyr_cycles hg hr hh]
  intro hn
  have h0 : 0 < (idsR xs).length := idsR_length
  have hs := startsN_seen (togMov hw) (idsR_D xs) (Nat.le_refl _) h0
  have he : startsN (fun s => togW xs s (rkW (rankL xs) (wGyr h))) (2 ^ xs.length) (idsR xs) (idsR xs).length = [] := by
    have hcy := cyclesL_starts (togMov hw) (idsR_D xs)
    have hn2 : cyclesL (fun s => togW xs s (rkW (rankL xs) (wGyr h))) (2 ^ xs.length) (idsR xs) = [] := hn
    rw [hcy] at hn2
    exact List.map_eq_nil_iff.1 hn2
  rw [he] at hs
  cases hs
def ansGL (xs : List Int) : List Int := if okRk xs then sortL (gyCy xs) else []
theorem ansGL_no {xs : List Int} (h : okRk xs = false) : ansGL xs = [] := by simp [ansGL, h]
theorem ansGL_yes {xs : List Int} (h : okRk xs = true) : ansGL xs = sortL (gyCy xs) := by simp [ansGL, h]
theorem ansGL_length (xs : List Int) : (ansGL xs).length ≤ 1048576 := by
  cases h : okRk xs
  · rw [ansGL_no h]; simp
  · rw [ansGL_yes h, sortL_length]; have := gyCy_length (okRk_good h).1; omega
theorem cyc_SR (v u : Value) (xs ys : List Int) (w0 : World) (b : Nat) (W : World) (hv : Ints w0 v xs) (hu : Ints W u ys) (hg : good xs = true) (hy : inW xs.length ys = true) (hm : ys.length ≤ 1048576) (hS : SR w0 b v W) :
    Calls Tryz.prog 74 #[.agg #[v], .iface 62 u] W fun (r : Ending) w' => ∃ q, r = Ending.returned q ∧ OwnI 3 w' w0.heap.size q (cyclesL (wordF xs ys) (2 ^ xs.length) (setsL (holdsIdeal xs) (2 ^ xs.length))) ∧ SR w0 b v w' :=
  (cyclesOf_any v u xs ys W (hv.below hS.below) hu hg hy hm).mono fun _ _ ⟨q, h1, h2, h3⟩ => ⟨q, h1, h2.mono hS.below.size, hS.to h3⟩
set_option maxHeartbeats 1600000 in
theorem implGyrationLengths_any (v : Value) (xs : List Int) (w : World) (hv : Ints w v xs) (hl : xs.length ≤ 1048576) :
    Calls Tryz.prog 27 #[.agg #[v]] w fun (r : Ending) w' => ∃ q, r = Ending.returned (.tuple #[q, .bool (okRk xs)]) ∧ OwnI 3 w' w.heap.size q (ansGL xs) ∧ (ansGL xs).length ≤ 1048576 ∧ Below w.heap.size w w' := by
  have HV := hid hv
  have HL := hid (ansGL_length xs)
  clear hv
  go_enter Tryz.func27, Tryz.ntmps27
  have HB := hid (below_alloc (Below.refl _ w) (.cells #[v] 26))
  have A0 := hid (At.newAt w v 26 w.heap.size (by simp))
  go_wp2_with fail
  refine (implRanksOf_any _ xs _ (HV.out.below HB.out) hl).mono ?_
  rintro e w' ⟨q, rfl, ho, -, hb⟩
  replace HB := hid (below_to HB.out hb)
  replace A0 := hid (A0.out.below hb)
  clear hb
  cases hk : okRk xs
  · have HO := hid hk
    obtain ⟨qA, qn, qc, rfl⟩ := ho.shape3
    clear hk ho
    have ebox0 := A0.out.1
    go_wp2
    go_ret2
    exact ⟨_, ret_vbS HO.out.symm, by rw [ansGL_no HO.out]; exact OwnI.nil _ _ _, HL.out, HB.out⟩
  · have HO := hid hk
    rw [ansRO_yes hk] at ho
    obtain ⟨hg, hr⟩ := okRk_good hk
    obtain ⟨h, hh, h9⟩ := rkN_some hg
    have HQ := hid ho.ints
    have HG := hid hg
    have HCy := hid (gyr_cycles hg hr hh)
    have HNe := hid (gyCy_ne hg hr)
    have HLl : Hid ((gyCy xs).length ≤ 1048576) := hid (by have := gyCy_length hg; omega)
    have HEl := hid (inW_rkW hg (show inW (rkN xs) (wGyr h) = true from inW_wGyr (by omega)))
    have HLn := hid (rkW_length (rankL xs) (wGyr h))
    have HLw := hid (wGyr_length h9)
    have HSm := hid (rank_small hg)
    have HRl : Hid ((rankL xs).length = h + 1) := hid (by rw [rankL_length, hh])
    have HV1 := hid (HV.out.below HB.out)
    have HS := hid (show SR w' w.heap.size v w' from ⟨A0.out, Below.refl _ _⟩)
    have hbx := A0.out.1
    have hz := HB.out.size
    clear hk ho hg hr hh
    go_wp2_with fail
    go_region_held3 (fun W => W.cell? ⟨w.heap.size, 0, none⟩ = some v ∧ Hid (SR w' w.heap.size v W)) (first | exact ⟨HS3.out.at_.1, HS3⟩ | exact ⟨HS2.out.at_.1, HS2⟩ | exact ⟨HS.out.drew.at_.1, hid HS.out.drew⟩) (first | (go_at_call 73; refine (sTGyr_SR _ (rankL xs) h w' w.heap.size _ HQ.out HRl.out h9 HSm.out v (Hid.out (by first | assumption | exact hid HS.out.drew))).mono ?_; rintro e' w4 ⟨q4, rfl, hu4, hs4⟩; have HU4 := hid hu4; have HS2 := hid hs4; clear hu4 hs4) | (go_at_call 74; refine (cyc_SR v _ xs _ w' w.heap.size _ HV1.out HU4.out HG.out HEl.out (by have := HLn.out; have := HLw.out; omega) HS2.out).mono ?_; rintro e' w5 ⟨q5, rfl, ho5, hs5⟩; have HO5 := hid ho5; have HS3 := hid hs5; clear ho5 hs5))
    have HB3 := hid (below_to HB.out HS3.out.below)
    rw [← HCy.out] at HO5
    have HO6 : Hid (OwnI 3 _ w.heap.size _ (gyCy xs)) := hid (HO5.out.mono hz)
    obtain ⟨qA, qn, qc, rfl⟩ := HO6.out.shape3
    clear hbx
    go_wp2_with fail
    refine (sort_any _ (gyCy xs) _ _ HO6.out HNe.out HLl.out).mono ?_
    rintro e w6 ⟨rfl, ho7, hb7⟩
    have HO7 := hid ho7
    have HB7 := hid (HB3.out.trans hb7)
    clear ho7 hb7
    go_wp2
    go_ret2
    exact ⟨_, ret_vbS HO.out.symm, by rw [ansGL_yes HO.out]; exact HO7.out, HL.out, HB7.out⟩
theorem gyF_lt {xs : List Int} {s : Nat} (hs : s < 2 ^ xs.length) : gyF xs s < 2 ^ xs.length := togW_lt (togW_lt hs (ev_in 0)) (ev_in 1)
set_option maxHeartbeats 3200000 in
theorem specGyrationLengths_any (v : Value) (xs : List Int) (w : World) (hv : Ints w v xs) (hl : xs.length ≤ 1048576) :
    Calls Tryz.prog 28 #[.agg #[v]] w fun (r : Ending) w' => ∃ q, r = Ending.returned (.tuple #[q, .bool (okRk xs)]) ∧ OwnI 3 w' w.heap.size q (ansGL xs) ∧ (ansGL xs).length ≤ 1048576 ∧ Below w.heap.size w w' := by
  have HV := hid hv
  have HL := hid (ansGL_length xs)
  obtain ⟨A, c, rfl, -⟩ := hv
  go_enter Tryz.func28, Tryz.ntmps28
  have HB := hid (below_alloc (Below.refl _ w) (.cells #[(.slice A xs.length c)] 26))
  have A0 := hid (At.newAt w (.slice A xs.length c) 26 w.heap.size (by simp))
  go_wp2_with fail
  refine (rvGood_any _ xs _ (HV.out.below HB.out) hl).mono ?_
  rintro e w' ⟨rfl, hb⟩
  replace HB := hid (below_to HB.out hb)
  replace A0 := hid (A0.out.below hb)
  clear hb
  cases hq : okRk xs
  · have HO := hid hq
    clear hq
    have ebox0 := A0.out.1
    go_wp2
    go_ret2
    exact ⟨_, ret_vbS HO.out.symm, by rw [ansGL_no HO.out]; exact OwnI.nil _ _ _, HL.out, HB.out⟩
  · have HOk := hid hq
    have HG := hid (okRk_good hq).1
    have hl10 := (good_length HG.out).2
    have HEnd := hid (ansGL_yes hq)
    have HGl := hid (fun s (hs : s < 2 ^ xs.length) => gyF_lt hs)
    obtain ⟨w1, hw1⟩ : ∃ x, x = w' := ⟨_, rfl⟩
    rw [← hw1] at HB A0 ⊢
    obtain ⟨g, hg⟩ : ∃ g, w1.heap.size = g := ⟨_, rfl⟩
    have hw1g : w.heap.size < g := by rw [← hg]; exact A0.out.2
    obtain ⟨N, hN⟩ : ∃ N, 2 ^ xs.length = N := ⟨_, rfl⟩
    have hN2 := two_pow_le xs.length hl10
    rw [hN] at hN2 HGl
    obtain ⟨I, hI⟩ : ∃ I, setsL (holdsIdeal xs) N = I := ⟨_, rfl⟩
    have HAt := hid (fun j hj => setsL_bound (f := holdsIdeal xs) (N := N) (j := j) hj)
    have hIN := setsL_length (holdsIdeal xs) N
    rw [hI] at HAt hIN
    have HI := hid (show setsL (holdsIdeal xs) (2 ^ xs.length) = I by rw [hN]; exact hI)
    have HN := hid hN
    have HFin : Hid (ansGL xs = sortL (cycSt (gyF xs) N I I.length).2) := hid (by rw [HEnd.out, gyCy, hN, hI]; rfl)
    have wp : wrap64 ((2 : Int) ^ xs.length) = (N : Int) := by rw [wrap_pow xs.length hl10, hN]
    have hmk := run_make_row' (P := Tryz.prog) 73 4 (.bool false) 1 Tryz.underlying73 infoBool rfl .i64 .i64 N (by omega) (by omega)
    have hbx := A0.out.1
    obtain ⟨F, hF⟩ : ∃ F, gyF xs = F := ⟨_, rfl⟩
    rw [hF] at HGl HFin
    have HFd := hid hF
    clear hq hw1 hI hF hN
    go_wp2_with fail
    clear wp hbx
    refine (poIdeals_any _ xs _ ((HV.out.below HB.out).alloc _) HG.out).mono ?_
    rw [HI.out]
    rintro e w' ⟨iu, rfl, ho, hb⟩
    have HB2 := hid (below_to (below_alloc HB.out _) hb)
    have HBox : Hid (At w' w.heap.size (.slice A xs.length c)) := hid ((A0.out.alloc _).below hb)
    have HSeen : Hid (Blk w' g 4 (BVals (List.replicate N false))) := hid (by
      rw [← BVals_made]
      exact (Blk.newAt _ 4 (madeCells #[.bool false] N) g hg.symm).below hb (by simp; omega))
    obtain ⟨iA, iN, ic, rfl⟩ := ho.shape3
    have hiN : iN = I.length := by
      obtain ⟨_, _, h, _⟩ := ho.shape
      cases h; rfl
    subst hiN
    have HO := hid (ho.mono (B' := g + 1) (by simp; omega))
    have HOB : Hid (∀ k, (Value.slice iA I.length ic).ownBlock = some k → g + 1 ≤ k ∧ k < w'.heap.size) := hid (fun k hk => by
      have h1 := ho.blockLt k hk
      simp at h1
      omega)
    have hgw : g < w'.heap.size := HSeen.out.lt
    have hwg : w.heap.size < g := hw1g
    have hbx := HBox.out.1
    clear hb ho hmk hg
    go_wp2
    clear hbx
    go_loopw [5, 20] (fun q i wr => ∃ (j : Nat) (oA : Option Addr) (on oc : Nat), j ≤ I.length ∧ i = .int .i64 j ∧ q = .slice oA on oc ∧ Blk wr g 4 (BVals (cycSt F N I j).1) ∧ OwnI 3 wr w'.heap.size (.slice oA on oc) (sortL (cycSt F N I j).2) ∧ TurnedIn g (g + 1) w' wr) (fun _ i _ => I.length - (intOf i).toNat)
    case atStart => exact ⟨0, none, 0, 0, Nat.zero_le _, rfl, rfl, HSeen.out, (by show OwnI _ _ _ _ (sortL []); rw [sortL_nil]; exact OwnI.nil _ _ _), TurnedIn.refl _ _ _⟩
    case round =>
      obtain ⟨j, oA, on, oc, hj, rfl, rfl, hB, hq, ht⟩ := hrel
      have HBk := hid hB
      have HQ := hid hq
      have HT := hid ht
      clear hB hq
      by_cases hlt : j < I.length
      · obtain ⟨s, hs, hsN, hIs⟩ := HAt.out j hlt
        have hoi := HO.out.turned ht HOB.out (.inr (Nat.le_refl _))
        have hcell : ∃ b, iA = some ⟨b, 0, none⟩ ∧ wr.cell? ⟨b, 0 + j, none⟩ = some (.int .i64 s) := by
          obtain ⟨A', c', h1, h2⟩ := hoi.shape
          obtain ⟨A2, c2, h3, h4⟩ := hoi.ints
          cases h1
          obtain ⟨b, h5, -, -⟩ := h2 (by intro h; simp [h] at hlt)
          cases h3
          obtain ⟨b2, o2, h6, -, h7⟩ := h4 (by intro h; simp [h] at hlt)
          have h8 : b2 = b ∧ o2 = 0 := by rw [h5] at h6; cases h6; exact ⟨rfl, rfl⟩
          obtain ⟨rfl, rfl⟩ := h8
          exact ⟨_, h5, by rw [h7 j hlt, hs]⟩
        obtain ⟨b, rfl, hcell⟩ := hcell
        rw [Nat.zero_add] at hcell
        have HS := hid hs
        obtain ⟨seen0, hs0⟩ : ∃ l, (cycSt F N I j).1 = l := ⟨_, rfl⟩
        obtain ⟨out0, ho0⟩ : ∃ l, (cycSt F N I j).2 = l := ⟨_, rfl⟩
        have hlen := cycSt_length F N I j
        rw [hs0] at HBk hlen
        rw [ho0] at HQ hlen
        obtain ⟨R, hR⟩ : ∃ R, cyc1 F seen0 s 0 = R := ⟨_, rfl⟩
        have HStep : Hid (cycSt F N I (j + 1) = (R.1, if 0 < R.2 then out0 ++ [(R.2 : Int)] else out0)) := hid (by
          simp only [cycSt, hs0, ho0, hs, Int.toNat_natCast, hR])
        have HLen := hid hlen.1
        have ho10 : out0.length ≤ 1024 := by omega
        have hc0 := cntF_le seen0
        have hc1 : 0 + cntF seen0 ≤ N := by rw [← hlen.1]; omega
        have HR := hid hR
        clear hs hs0 ho0 hR hoi ht hIs hlen hc0
        go_wp2
        clear hcell
        go_loopw [7, 8] (fun a i wi => ∃ (seen : List Bool) (t n : Nat), a = .int .i64 t ∧ i = .int .i64 n ∧ t < N ∧ Hid (seen.length = N) ∧ n + cntF seen ≤ N ∧ Hid (cyc1 F seen t n = R) ∧ Blk wi g 4 (BVals seen) ∧ Hid (OwnI 3 wi w'.heap.size (.slice oA on oc) (sortL out0)) ∧ TurnedIn g (g + 1) w' wi) (fun _ i _ => N - (intOf i).toNat)
        case atStart => exact ⟨seen0, s, 0, rfl, rfl, hsN, HLen, hc1, HR, HBk.out, HQ, HT.out⟩
        case round =>
          obtain ⟨seen, t, n, rfl, rfl, htN, HSL, hcn, HC, hB, HOut, ht⟩ := hrel
          have hct : wr.cell? ⟨g, t, none⟩ = some (.bool (seen.getD t true)) := by
            rw [hB.cell, BVals_get (by rw [HSL.out]; exact htN)]
          have hft := hB.frozen t
          have HBk2 := hid hB
          have HT2 := hid ht
          clear hB ht
          cases hst : seen.getD t true
          · rw [hst] at hct
            have hcs := cntF_set (show t < seen.length by rw [HSL.out]; exact htN) hst
            have HGo := hid (cyc1_go (f := F) (n := n) (show t < seen.length by rw [HSL.out]; exact htN) hst)
            have hn1 : n < N := by omega
            have hcn2 : n + 1 + cntF (seen.set t true) ≤ N := by omega
            have HL2 : Hid ((seen.set t true).length = N) := hid (by rw [List.length_set]; exact HSL.out)
            have hbox := (HBox.out.turned HT2.out (.inl hwg)).1
            have hne : w.heap.size ≠ g := by omega
            have hf1 : F t < N := HGl.out t htN
            have HBk3 : Hid (Blk (wr.setCell ⟨g, t, none⟩ (.bool true)) g 4 (BVals (seen.set t true))) := hid (by rw [← BVals_set]; exact HBk2.out.set_ t _)
            have HT3 : Hid (TurnedIn g (g + 1) w' (wr.setCell ⟨g, t, none⟩ (.bool true))) := hid (HT2.out.set_ ⟨g, t, none⟩ ⟨Nat.le_refl _, Nat.lt_succ_self _⟩ _)
            have HOut3 : Hid (OwnI 3 (wr.setCell ⟨g, t, none⟩ (.bool true)) w'.heap.size (.slice oA on oc) (sortL out0)) := hid (HOut.out.grown (grown_setCell (World.grownBy.refl _ _) t _) (HOut.out.apart (.inl hgw)))
            have HB3 := hid (below_turned HB2.out HT3.out (Nat.le_of_lt hwg))
            have HTN : Hid (t < 2 ^ xs.length) := hid (by rw [HN.out]; exact htN)
            have hbox3 := (HBox.out.turned HT3.out (.inl hwg)).1
            clear hst hcs
            go_wp2_with fail
            clear hct hft hbox hbox3
            refine (rvGyrate_any _ xs t false _ (HV.out.below HB3.out) HG.out HTN.out).mono ?_
            rintro e' w5 ⟨rfl, hb5⟩
            have HBk5 := hid (HBk3.out.below hb5 HBk3.out.lt)
            have HT5 := hid (HT3.out.trans (TurnedIn.of_below hb5))
            have HOut5 := hid (HOut3.out.below hb5)
            have HFt : Hid ((if false = true then gyB xs t else gyF xs t) = F t) := hid (by rw [← HFd.out]; rfl)
            rw [HFt.out]
            clear hb5
            go_wp2
            go_roundw
            case rel => exact ⟨seen.set t true, F t, n + 1, rfl, by go_num, hf1, HL2, hcn2, hid (by rw [← HGo.out]; exact HC.out), HBk5.out, HOut5, HT5.out⟩
            case measure => simp [intOf]; omega
          · rw [hst] at hct
            have HStop : Hid (R = (seen, n)) := hid (by rw [← HC.out]; exact cyc1_stop hst)
            have hnN : n ≤ N := by omega
            have HBel := hid (below_turned HB2.out HT2.out (Nat.le_of_lt hwg))
            clear hst
            by_cases hn0 : 0 < n
            · have HSt2 : Hid (cycSt F N I (j + 1) = (seen, out0 ++ [(n : Int)])) := hid (by rw [HStep.out, HStop.out]; simp [hn0])
              have hwz : w'.heap.size ≤ wr.heap.size := HT2.out.size
              go_wp2_with fail
              clear hct hft
              refine (rvPut_any _ out0 n _ _ HOut.out (by omega)).mono ?_
              rintro e' w6 ⟨q2, rfl, ho6, hb6⟩
              obtain ⟨qA, qn, qc, rfl⟩ := ho6.shape3
              have HO6 := hid (ho6.mono hwz)
              have HB6 := hid hb6
              have hgw6 : g < wr.heap.size := HBk2.out.lt
              clear ho6 hb6
              go_wp2
              go_roundw
              case rel => exact ⟨j + 1, qA, qn, qc, by omega, by go_num, rfl, (by rw [HSt2.out]; exact HBk2.out.below HB6.out hgw6), (by rw [HSt2.out]; exact HO6.out), HT2.out.trans (TurnedIn.of_below HB6.out)⟩
              case measure => simp [intOf]; omega
            · have HSt2 : Hid (cycSt F N I (j + 1) = (seen, out0)) := hid (by rw [HStep.out, HStop.out]; simp [hn0])
              go_wp2
              go_roundw
              case rel => exact ⟨j + 1, oA, on, oc, by omega, by go_num, rfl, (by rw [HSt2.out]; exact HBk2.out), (by rw [HSt2.out]; exact HOut.out), HT2.out⟩
              case measure => simp [intOf]; omega
      · obtain rfl : j = I.length := by omega
        have HBel := hid (below_turned HB2.out ht (Nat.le_of_lt hwg))
        have hww := HB2.out.size
        clear ht
        go_wp2
        go_ret2
        exact ⟨_, ret_vbS HOk.out.symm, by rw [HFin.out]; exact HQ.out.mono hww, HL.out, HBel.out⟩
end Go.Proofs.YtdemikjaghegnaaGreat

/- The lengths of all orbits of rowmotion, in order: the model's and the program's contracts. -/
namespace Go.Proofs.YtdemikjaghegnaaGreat
open Go.RowKit Go.WideShapes Go.ChangeShapes
set_option linter.unusedVariables false

theorem take_snocR {ls : List Int} {j : Nat} (hj : j < ls.length) : ls.take (j + 1) = ls.take j ++ [ls.getD j 0] := by
  rw [List.take_add_one]; congr 1; rw [List.getD_eq_getElem?_getD, List.getElem?_eq_getElem hj]; rfl
theorem lensXs_neR {xs : List Int} (hg : good xs = true) : lensXs xs ≠ [] := by
  rw [lensXs_starts]
  intro h
  have h0 : 0 < (idsXs xs).length := (idsXs_length hg).1
  have hs := startsN_seen (rowMov hg) (idsXs_D xs) (Nat.le_refl _) h0
  have he : startsN (rowmo xs) (2 ^ xs.length) (idsXs xs) (idsXs xs).length = [] := by
    have := List.map_eq_nil_iff.1 h
    exact this
  rw [he] at hs
  cases hs
def ansSL (xs : List Int) : List Int := if good xs then sortL (lensXs xs) else []
theorem ansSL_no {xs : List Int} (h : good xs = false) : ansSL xs = [] := by simp [ansSL, h]
theorem ansSL_yes {xs : List Int} (h : good xs = true) : ansSL xs = sortL (lensXs xs) := by simp [ansSL, h]
theorem ansSL_length (xs : List Int) : (ansSL xs).length ≤ 1048576 := by
  cases h : good xs
  · rw [ansSL_no h]; simp
  · rw [ansSL_yes h, sortL_length]; have := lensXs_length h; omega
theorem implSortedLengths_any (v : Value) (xs : List Int) (w : World) (hv : Ints w v xs) (hl : xs.length ≤ 1048576) :
    Calls Tryz.prog 29 #[.agg #[v]] w fun (r : Ending) w' => ∃ q, r = Ending.returned (.tuple #[q, .bool (good xs)]) ∧ OwnI 3 w' w.heap.size q (ansSL xs) ∧ (ansSL xs).length ≤ 1048576 ∧ Below w.heap.size w w' := by
  have HV := hid hv
  have HL := hid (ansSL_length xs)
  clear hv
  go_enter Tryz.func29, Tryz.ntmps29
  have HB := hid (below_alloc (Below.refl _ w) (.cells #[v] 26))
  have A0 := hid (At.newAt w v 26 w.heap.size (by simp))
  have hz0 := HB.out.size
  go_wp2_with fail
  refine (implOrbitLengths_any _ xs _ (HV.out.below HB.out) hl).mono ?_
  rintro e w' ⟨q, rfl, ho, hlo, hb⟩
  replace HB := hid (below_to HB.out hb)
  replace A0 := hid (A0.out.below hb)
  clear hb
  have hz1 := HB.out.size
  cases hq : good xs
  · have HQ := hid hq
    rw [ansOL_no hq] at ho
    have ho0 := ho.mono (B' := w.heap.size) (by simp)
    obtain ⟨qA, qc, rfl, -⟩ := ho.shape
    rw [List.length_nil] at ho0 ⊢
    have HO0 := hid ho0
    clear ho hq ho0
    go_wp2_with (go_at_call 75; refine (sortNil_any _ _ _).mono ?_; rintro e w' ⟨rfl, rfl⟩)
    go_ret2
    exact ⟨_, ret_vbS HQ.out.symm, by rw [ansSL_no HQ.out]; exact HO0.out, HL.out, HB.out⟩
  · have HQ := hid hq
    have HNe := hid (lensXs_neR hq)
    have HLl : Hid ((lensXs xs).length ≤ 1048576) := hid (by have := lensXs_length hq; omega)
    rw [ansOL_yes hq] at ho
    have HO := hid (ho.mono (B' := w.heap.size) (by simp))
    obtain ⟨qA, qn, qc, rfl⟩ := ho.shape3
    clear ho hq
    go_wp2_with fail
    refine (sort_any _ (lensXs xs) _ _ HO.out HNe.out HLl.out).mono ?_
    rintro e w3 ⟨rfl, ho3, hb3⟩
    have HO3 := hid ho3
    have HB3 := hid (HB.out.trans hb3)
    clear ho3 hb3
    go_wp2
    go_ret2
    exact ⟨_, ret_vbS HQ.out.symm, by rw [ansSL_yes HQ.out]; exact HO3.out, HL.out, HB3.out⟩
end Go.Proofs.YtdemikjaghegnaaGreat
