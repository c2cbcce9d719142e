/- Lengths of promotion's orbits on staircases, in order. · Lengths of promotion's orbits on staircases: the program. · Lengths of promotion's orbits on staircases: the model. -/
import Derived.Test.YtbbkoagjplapkabPrLn
import Derived.Test.YtbbkoagjplapkabSort
import Derived.Test.YtbbkoagjplapkabEndF
import Derived.Test.YtbbkoagjplapkabStairS
import Derived.Test.YtbbkoagjplapkabHas
import Derived.Test.YtbbkoagjplapkabAllL
namespace Go.Proofs.Ytbbkoagjplapkab
open Go.RowKit Go.WideShapes Go.ChangeShapes
set_option linter.unusedVariables false

theorem sortL_sorted (l : List Int) : (sortL l).Pairwise fun a b => a ≤ b := by
  have h := List.pairwise_mergeSort (le := fun (x y : Int) => decide (x ≤ y)) (fun a b c h1 h2 => by simp only [decide_eq_true_eq] at *; omega) (fun a b => by simp only [Bool.or_eq_true, decide_eq_true_eq]; omega) l
  exact h.imp fun {a b} h => by simpa using h
theorem sortL_perm (l : List Int) : (sortL l).Perm l := List.mergeSort_perm _ _
theorem sorted_eq {l m : List Int} (hl : l.Pairwise fun a b => a ≤ b) (hm : m.Pairwise fun a b => a ≤ b) (h : l.Perm m) : l = m :=
  List.Perm.eq_of_pairwise (le := fun a b => a ≤ b) (fun a b _ _ h1 h2 => by omega) hl hm h
theorem insAt_sort {l : List Int} {x : Int} {k : Nat} (hk : k ≤ (sortL l).length) (h1 : ∀ j, j < k → (sortL l).getD j 0 ≤ x) (h2 : k < (sortL l).length → x < (sortL l).getD k 0) :
    (sortL l).take k ++ [x] ++ (sortL l).drop k = sortL (l ++ [x]) := by
  have hs := sortL_sorted l
  have hp := sortL_perm l
  generalize sortL l = s at *
  refine sorted_eq ?_ (sortL_sorted _) ?_
  · have hsp : (s.take k ++ s.drop k).Pairwise fun a b => a ≤ b := by rw [List.take_append_drop]; exact hs
    rw [List.pairwise_append] at hsp
    obtain ⟨p1, p2, p3⟩ := hsp
    have q1 : ∀ a ∈ s.take k, a ≤ x := fun a ha => by
      obtain ⟨j, hj, rfl⟩ := List.mem_iff_getElem.1 ha
      rw [List.length_take] at hj
      have := h1 j (by omega)
      rw [List.getElem_take]
      simpa [List.getD, show j < s.length by omega] using this
    have q2 : ∀ b ∈ s.drop k, x ≤ b := fun b hb => by
      obtain ⟨j, hj, rfl⟩ := List.mem_iff_getElem.1 hb
      rw [List.length_drop] at hj
      have hx := h2 (by omega)
      rw [List.getElem_drop]
      have hle : s[k]'(by omega) ≤ s[k + j]'(by omega) := by
        rcases Nat.eq_zero_or_pos j with h0 | h0
        · subst h0; simp
        · exact (List.pairwise_iff_getElem.1 hs) k (k + j) (by omega) (by omega) (by omega)
      have : s.getD k 0 = s[k]'(by omega) := by simp [List.getD, show k < s.length by omega]
      omega
    rw [List.append_assoc, List.pairwise_append]
    refine ⟨p1, ?_, fun a ha b hb => ?_⟩
    · simp only [List.cons_append, List.nil_append, List.pairwise_cons]
      exact ⟨q2, p2⟩
    · simp only [List.cons_append, List.nil_append, List.mem_cons] at hb
      rcases hb with rfl | hb
      · exact q1 a ha
      · exact p3 a ha b hb
  · refine List.Perm.trans ?_ (List.Perm.trans (List.Perm.append_right [x] hp) (sortL_perm _).symm)
    have e : (s.take k ++ s.drop k ++ [x]).Perm (s ++ [x]) := by rw [List.take_append_drop]
    refine List.Perm.trans ?_ e
    rw [List.append_assoc, List.append_assoc]
    exact List.Perm.append_left _ List.perm_append_comm
def chkST (n : Nat) : Bool := good (stcL n) && decide (endF (stcL n) (stcL n).length 0 ≤ 500) && decide (1 ≤ endF (stcL n) (stcL n).length 0)
theorem chk_ST : ((List.range 4).all fun n => decide (n = 0) || chkST n) = true := by decide +kernel
theorem stc_facts {m : Nat} (h1 : 1 ≤ m) (h2 : m ≤ 3) : good (stcL m) = true ∧ ends (stcL m) 0 ≤ 500 ∧ 1 ≤ ends (stcL m) 0 := by
  have h := List.all_eq_true.1 chk_ST m (List.mem_range.2 (by omega))
  simp only [chkST, Bool.or_eq_true, Bool.and_eq_true, decide_eq_true_eq] at h
  rcases h with h | h
  · omega
  · rw [endF_all] at h
    exact ⟨h.1.1, h.1.2, h.2⟩
def ansSO (n : Int) : List Int := if 1 ≤ n ∧ n ≤ 3 then sortL (lensP (stcL n)) else []
theorem ansSO_no {n : Int} (h : ¬ (1 ≤ n ∧ n ≤ 3)) : ansSO n = [] := if_neg h
theorem ansSO_yes {n : Int} (h : 1 ≤ n ∧ n ≤ 3) : ansSO n = sortL (lensP (stcL n)) := if_pos h
theorem ansSO_length (n : Int) : (ansSO n).length ≤ 1048576 := by
  by_cases h : 1 ≤ n ∧ n ≤ 3
  · obtain ⟨m, rfl⟩ := Int.eq_ofNat_of_zero_le (show 0 ≤ n by omega)
    rw [ansSO_yes h, sortL_length]
    have h1 := lens_length (stcL m)
    have h2 := (stc_facts (m := m) (by omega) (by omega)).2.1
    have h3 : lensP (stcL ((m : Nat) : Int)) = lensP (stcL m) := rfl
    omega
  · rw [ansSO_no h]; simp
theorem lensK_one {xs : List Int} (k : Nat) (h : 1 ≤ k) (hk : k ≤ ends xs 0) : lensK xs k ≠ [] := by
  induction k with
  | zero => omega
  | succ k ih =>
    cases hs : seenP xs k k
    · rw [(seenP_no (by omega) hs).2]; simp
    · rw [(seenP_yes (by omega) hs).2]
      rcases Nat.eq_zero_or_pos k with h0 | h0
      · subst h0; simp [seenP, seenB, startsN] at hs
      · exact ih h0 (by omega)
theorem lensP_ne {xs : List Int} (h : 1 ≤ ends xs 0) : lensP xs ≠ [] := by rw [← lensK_full]; exact lensK_one _ h (Nat.le_refl _)
end Go.Proofs.Ytbbkoagjplapkab
namespace Go.Proofs.Ytbbkoagjplapkab
open Go.RowKit Go.WideShapes Go.ChangeShapes
set_option linter.unusedVariables false

set_option maxRecDepth 100000 in
set_option maxHeartbeats 3200000 in
theorem implStairOf_any (n : Int) (w : World) (wf : (Lit.int .i64 n).wf = true) :
    Calls Try.prog 11 #[.int .i64 n] w fun (r : Ending) w' => ∃ u, r = Ending.returned (.tuple #[u, .bool (decide (1 ≤ n) && decide (n ≤ 3))]) ∧ OwnI 3 w' w.heap.size u (ansSO n) ∧ (ansSO n).length ≤ 1048576 ∧ Below w.heap.size w w' := by
  have HL := hid (ansSO_length n)
  have HSt := hid (implStaircase_any n w wf)
  clear wf
  cases hs : (decide (1 ≤ n) && decide (n ≤ 4))
  · have hs2 : ¬ (1 ≤ n ∧ n ≤ 3) := fun h => by rw [decide_eq_true (show 1 ≤ n by omega), decide_eq_true (show n ≤ 4 by omega)] at hs; cases hs
    have HN := hid (ansSO_no hs2)
    have HB3 : Hid ((decide (1 ≤ n) && decide (n ≤ 3)) = false) := hid (by
      by_cases h : 1 ≤ n
      · rw [decide_eq_false (show ¬ n ≤ 3 by omega), Bool.and_false]
      · rw [decide_eq_false h, Bool.false_and])
    rw [HB3.out]
    rw [hs] at HSt
    clear hs hs2
    go_enter Try.func11, Try.ntmps11
    go_wp2_with fail
    refine HSt.out.mono ?_
    rintro e w1 ⟨p, rfl, hp, -, hb⟩
    obtain ⟨pA, pn, pc, rfl⟩ := hp.shape3
    have HB := hid (below_alloc hb (.cells #[.slice pA pn pc] 33))
    clear hp hb
    go_wp2
    go_ret2
    exact ⟨_, rfl, by rw [HN.out]; exact OwnI.nil _ _ _, HL.out, HB.out⟩
  · have hs' : 1 ≤ n ∧ n ≤ 4 := by simpa using hs
    obtain ⟨m, rfl⟩ := Int.eq_ofNat_of_zero_le (show 0 ≤ n by omega)
    by_cases h3 : 3 < m
    · have HN := hid (ansSO_no (n := m) (by omega))
      have HB3 : Hid ((decide (1 ≤ (m : Int)) && decide ((m : Int) ≤ 3)) = false) := hid (by rw [decide_eq_false (show ¬ (m : Int) ≤ 3 by omega), Bool.and_false])
      rw [HB3.out]
      rw [hs] at HSt
      have d3 : decide ((3 : Int) < (m : Int)) = true := by simp; omega
      have d4 : (3 : Int) < (m : Int) := by omega
      clear hs hs' h3
      go_enter Try.func11, Try.ntmps11
      go_wp2_with fail
      refine HSt.out.mono ?_
      rintro e w1 ⟨p, rfl, hp, -, hb⟩
      obtain ⟨pA, pn, pc, rfl⟩ := hp.shape3
      have HB := hid (below_alloc hb (.cells #[.slice pA pn pc] 33))
      clear hp hb
      go_wp2
      go_ret2
      exact ⟨_, rfl, by rw [HN.out]; exact OwnI.nil _ _ _, HL.out, HB.out⟩
    · have h1 : 1 ≤ m := by omega
      have HAns := hid (ansSO_yes (n := m) (by omega))
      obtain ⟨hg, hc5, hc1⟩ := stc_facts h1 (show m ≤ 3 by omega)
      have HB3 : Hid ((decide (1 ≤ (m : Int)) && decide ((m : Int) ≤ 3)) = true) := hid (by rw [decide_eq_true (show (1 : Int) ≤ (m : Int) by omega), decide_eq_true (show (m : Int) ≤ 3 by omega)]; rfl)
      rw [HB3.out]
      rw [hs] at HSt
      obtain ⟨xs, hxs⟩ : ∃ xs, stcL (m : Int) = xs := ⟨_, rfl⟩
      rw [hxs] at HSt HAns hg hc5 hc1
      have HG := hid hg
      have HAL := hid (okAL_yes hg hc5)
      have HAA := hid (ansAL_yes HAL.out)
      have HC5 := hid hc5
      have hl10 := (good_length hg).2
      have HNe := hid (lensP_ne hc1)
      have HLl := hid (show (lensP xs).length ≤ 1048576 by have := lens_length xs; omega)
      have hl2 : xs.length ≤ 1048576 := by omega
      have d3 : decide ((3 : Int) < (m : Int)) = false := by simp; omega
      have d4 : ¬ (3 : Int) < (m : Int) := by omega
      clear hs hs' h3 hxs hg hc5 hc1
      go_enter Try.func11, Try.ntmps11
      go_wp2_with fail
      refine HSt.out.mono ?_
      rintro e w1 ⟨p, rfl, hp, -, hb⟩
      obtain ⟨pA, pn, pc, rfl⟩ := hp.shape3
      have HB := hid (below_alloc hb (.cells #[.slice pA pn pc] 33))
      have HP := hid (hp.ints.alloc (.cells #[.slice pA pn pc] 33))
      have A4 := hid (At.new w1 (.slice pA pn pc) 33)
      obtain ⟨W1, hW1⟩ : ∃ W1 : World, W1 = w1.alloc (.cells #[.slice pA pn pc] 33) := ⟨_, rfl⟩
      rw [← hW1] at HB HP A4
      have t0 := A4.out.1
      rw [hW1] at t0
      clear hp hb
      go_wp2_with fail
      rw [← hW1]
      clear hW1 t0
      refine (implAllLinear_any _ xs W1 HP.out hl2).mono ?_
      rintro e w2 ⟨q, rfl, ho, -, hb2⟩
      rw [HAA.out] at ho
      rw [HAL.out]
      have HI := hid ho.ints
      obtain ⟨qA, qn, qc, rfl⟩ := ho.shape3
      have HB2 := hid (below_to HB.out hb2)
      have HP2 := hid (HP.out.below hb2)
      have A5 := hid (A4.out.below hb2)
      have t0 := A5.out.1
      clear ho hb2
      go_wp2_with fail
      clear t0
      refine (promotionLengths_any _ _ xs _ HP2.out HG.out HC5.out HI.out).mono ?_
      rintro e w3 ⟨u, rfl, ho3, hb3⟩
      have HB4 := hid (below_to HB2.out hb3)
      obtain ⟨uA, uc, rfl, -⟩ := ho3.shape
      have HO3 := hid ho3
      have hz := HB2.out.size
      clear ho3 hb3
      go_wp2_with fail
      refine (sort_any _ (lensP xs) _ _ HO3.out HNe.out HLl.out).mono ?_
      rintro e w4 ⟨rfl, ho4, hb4⟩
      have HO4 := hid ho4
      have HB5 := hid (HB4.out.trans (hb4.mono hz))
      clear ho4 hb4
      go_wp2
      go_ret2
      exact ⟨_, rfl, by rw [HAns.out]; exact HO4.out.mono hz, HL.out, HB5.out⟩
end Go.Proofs.Ytbbkoagjplapkab
namespace Go.Proofs.Ytbbkoagjplapkab
open Go.RowKit Go.WideShapes Go.ChangeShapes
set_option linter.unusedVariables false

theorem stc_len10 {m : Nat} (h : good (stcL m) = true) : (stcL m).length ≤ 10 := (good_length h).2
set_option maxRecDepth 100000 in
set_option maxHeartbeats 6400000 in
theorem specStairOf_any (n : Int) (w : World) (wf : (Lit.int .i64 n).wf = true) :
    Calls Try.prog 10 #[.int .i64 n] w fun (r : Ending) w' => ∃ u, r = Ending.returned (.tuple #[u, .bool (decide (1 ≤ n) && decide (n ≤ 3))]) ∧ OwnI 3 w' w.heap.size u (ansSO n) ∧ (ansSO n).length ≤ 1048576 ∧ Below w.heap.size w w' := by
  have HL := hid (ansSO_length n)
  have HSt := hid (specStaircase_any n w wf)
  have HIn := hid (l1In_any n 1 3 w)
  clear wf
  cases hs : (decide (1 ≤ n) && decide (n ≤ 3))
  · have hs2 : ¬ (1 ≤ n ∧ n ≤ 3) := fun h => by rw [decide_eq_true h.1, decide_eq_true h.2] at hs; cases hs
    have HN := hid (ansSO_no hs2)
    rw [hs] at HIn
    clear hs hs2
    go_enter Try.func10, Try.ntmps10
    go_wp2_with fail
    refine HIn.out.mono ?_
    rintro e w' ⟨rfl, rfl⟩
    go_wp2
    go_ret2
    exact ⟨_, rfl, by rw [HN.out]; exact OwnI.nil _ _ _, HL.out, Below.refl _ _⟩
  · have hs' : 1 ≤ n ∧ n ≤ 3 := by simpa using hs
    have HAns := hid (ansSO_yes hs')
    obtain ⟨m, rfl⟩ := Int.eq_ofNat_of_zero_le (show 0 ≤ n by omega)
    obtain ⟨hg, hc5, hc1⟩ := stc_facts (m := m) (by omega) (by omega)
    have HB4 : Hid ((decide (1 ≤ (m : Int)) && decide ((m : Int) ≤ 4)) = true) := hid (by rw [decide_eq_true (show (1 : Int) ≤ (m : Int) by omega), decide_eq_true (show (m : Int) ≤ 4 by omega)]; rfl)
    rw [hs] at HIn
    rw [HB4.out] at HSt
    obtain ⟨xs, hxs⟩ : ∃ xs, stcL (m : Int) = xs := ⟨_, rfl⟩
    rw [hxs] at HSt HAns hg hc5 hc1
    have HG := hid hg
    have HAL := hid (okAL_yes hg hc5)
    have HAA := hid (ansAL_yes HAL.out)
    have hl1 := (good_length hg).1
    have hl10 := (good_length hg).2
    have HXl : Hid (xs.length ≤ 1048576) := hid (by omega)
    obtain ⟨N, hN⟩ : ∃ N, ends xs 0 = N := ⟨_, rfl⟩
    have HNe := hid hN
    have HPR := hid (fun r (hr : r < N) => perR_range (xs := xs) hl1 (r := r) (by rw [hN]; exact hr))
    rw [hN] at hc5 HPR
    have hlen : (allLn xs).length = N := (rowsN_length _ _).trans hN
    have HLen := hid hlen
    clear hs hs' hxs hg hN hc1 hlen
    go_enter Try.func10, Try.ntmps10
    go_wp2_with fail
    refine HIn.out.mono ?_
    rintro e w' ⟨rfl, rfl⟩
    go_wp2_with fail
    refine HSt.out.mono ?_
    rintro e w1 ⟨p, rfl, hp, -, hb⟩
    obtain ⟨pA, pn, pc, rfl⟩ := hp.shape3
    have HB := hid (below_alloc hb (.cells #[.slice pA pn pc] 33))
    have HP := hid (hp.ints.alloc (.cells #[.slice pA pn pc] 33))
    have A4 := hid (At.new w1 (.slice pA pn pc) 33)
    obtain ⟨W1, hW1⟩ : ∃ W1 : World, W1 = w1.alloc (.cells #[.slice pA pn pc] 33) := ⟨_, rfl⟩
    rw [← hW1] at HB HP A4
    have t0 := A4.out.1
    rw [hW1] at t0
    clear hp hb
    go_wp2_with fail
    rw [← hW1]
    clear hW1 t0
    refine (liAll_any _ xs W1 HP.out HG.out).mono ?_
    rintro e w2 ⟨q, rfl, ho, -, hb2⟩
    rw [HAA.out] at ho
    rw [HAL.out]
    have HI := hid ho.ints
    obtain ⟨qA, qc, rfl, -⟩ := ho.rows
    rw [HLen.out] at HI ⊢
    have HB2 := hid (below_to HB.out hb2)
    have HP2 := hid (HP.out.below hb2)
    have A5 := hid (A4.out.below hb2)
    clear ho hb2
    go_wp2
    go_loopw [8, 9, 33] (fun out seen i wr => ∃ k : Nat, ∃ sl : List Int, k ≤ N ∧ i = .int .i64 k ∧ OwnI 3 wr w2.heap.size out (sortL (lensK xs k)) ∧ OwnI 3 wr w2.heap.size seen sl ∧ (out.ownBlock = none ∨ out.ownBlock ≠ seen.ownBlock) ∧ Hid (∀ t : Nat, hasL sl t = seenP xs k t) ∧ sl.length ≤ k * 500 ∧ Below w2.heap.size w2 wr) (fun _ _ i _ => N - (intOf i).toNat)
    case atStart => exact ⟨0, [], Nat.zero_le _, rfl, by rw [show sortL (lensK xs 0) = [] by simp [lensK, startsN, sortL]]; exact OwnI.nil _ _ _, OwnI.nil _ _ _, .inl rfl, hid (fun t => rfl), Nat.zero_le _, Below.refl _ _⟩
    case round =>
      obtain ⟨k, sl, hk, rfl, ho, hse, hne, HSl, hsl, hb⟩ := hrel
      have HO := hid ho
      have HSe := hid hse
      have HNeq := hid hne
      have Hb := hid hb
      have HKl := hid (lensK_length xs k)
      obtain ⟨oA, oc, rfl, -⟩ := ho.shape
      obtain ⟨sA, sc, rfl, -⟩ := hse.shape
      have hbx := (A5.out.below hb).1
      have hz := hb.size
      clear ho hse hne hb
      by_cases hlt : k < N
      · have hkx : k < ends xs 0 := by rw [HNe.out]; exact hlt
        obtain ⟨b, o', c', u, hsh, hbl, hc, hi⟩ := rows_cell HI.out (k := k) (by rw [HLen.out]; exact hlt)
        unfold allLn at hi
        rw [rowsN_getD _ (show k < cntL xs from hkx)] at hi
        injection hsh with hsA hsB hsC
        subst hsA
        subst hsC
        clear hsB
        have hcell := (Hb.out.cell (p := ⟨b, o' + k, none⟩) hbl).trans hc
        have HIk := hid (hi.below Hb.out)
        have HIk0 := hid hi
        obtain ⟨uA, un, uc, rfl⟩ : ∃ uA un uc, u = .slice uA un uc := by obtain ⟨A, c, e, -⟩ := hi; exact ⟨_, _, _, e⟩
        have Hkx := hid hkx
        have hsl2 : sl.length ≤ 1048576 := by omega
        clear hc hi hkx
        go_wp2_with fail
        clear hcell hbx
        refine (l1HasL_any _ sl _ _ HSe.out.ints hsl2).mono ?_
        rintro e w3 ⟨rfl, rfl⟩
        rw [HSl.out k]
        cases hs : seenP xs k k
        · have HNo := hid (seenP_no Hkx.out hs)
          obtain ⟨hp1, hp2⟩ := HPR.out k hlt
          have HNeP := hid (fun j (h1 : 1 ≤ j) (h2 : j < perR xs k) => sameL_not (it_ne hl1 Hkx.out h1 h2))
          have HEq := hid (sameL_yes (it_per hl1 Hkx.out))
          have HIt := hid (fun j => it_unr hl1 Hkx.out j)
          have HLw := hid (unrL_Lw (xs := xs) (r := k) Hkx.out)
          obtain ⟨P, hP⟩ : ∃ P, perR xs k = P := ⟨_, rfl⟩
          rw [hP] at hp1 hp2 HNeP HEq HNo
          have hP500 : P ≤ 500 := by omega
          obtain ⟨ol, hol⟩ : ∃ ol, sortL (lensK xs k) = ol := ⟨_, rfl⟩
          have HOl := hid hol
          have holl : ol.length ≤ 500 := by rw [← hol, sortL_length]; have := HKl.out; omega
          rw [hol] at HO HNeq ⊢
          clear hs hP hol
          go_wp2
          go_loopw [9, 12, 13] (fun seen cN nw wi => ∃ j : Nat, ∃ sj : List Int, j ≤ P ∧ cN = .int .i64 j ∧ Ints wi nw (itP xs (unrL xs k) j) ∧ ((j = 0 ∧ nw = Value.slice uA un uc) ∨ (1 ≤ j ∧ OwnI 3 wi w2.heap.size nw (itP xs (unrL xs k) j) ∧ (nw.ownBlock = none ∨ nw.ownBlock ≠ seen.ownBlock))) ∧ OwnI 3 wi w2.heap.size seen sj ∧ OwnI 3 wi w2.heap.size (.slice oA ol.length oc) ol ∧ ((Value.slice oA ol.length oc).ownBlock = none ∨ (Value.slice oA ol.length oc).ownBlock ≠ seen.ownBlock) ∧ Hid (∀ t : Nat, hasL sj t = (seenP xs k t || (orbT (proR xs) k j).contains t)) ∧ sj.length ≤ k * 500 + j ∧ Below w2.heap.size w2 wi) (fun _ cN _ _ => P - (intOf cN).toNat)
          case atStart => exact ⟨0, sl, Nat.zero_le _, rfl, HIk.out, .inl ⟨rfl, rfl⟩, HSe.out, HO.out, HNeq.out, hid (fun t => by rw [HSl.out t]; simp [orbT]), by omega, Hb.out⟩
          case round =>
            obtain ⟨j, sj, hj, rfl, hi, hnw, hse, ho, hne, HSj, hsj, hb⟩ := hrel
            have HNw := hid hnw
            obtain ⟨wi, rfl⟩ : ∃ x, x = wr := ⟨wr, rfl⟩
            have HIj := hid hi
            have HSe3 := hid hse
            have HO3 := hid ho
            have HNeq3 := hid hne
            have Hb3 := hid hb
            have HLj := hid (itP_Lw hl1 HLw.out j)
            have hlj : (itP xs (unrL xs k) j).length ≤ 1048576 := by rw [HLj.out.len]; omega
            obtain ⟨nA, nn, nc, rfl⟩ : ∃ uA un uc, _ = Value.slice uA un uc := by obtain ⟨A, c, e, -⟩ := hi; exact ⟨_, _, _, e⟩
            obtain ⟨jA, jc, rfl, -⟩ := hse.shape
            have HIk3 := hid (HIk0.out.below hb)
            have hbx := (A5.out.below hb).1
            have hz3 := hb.size
            clear hi hse ho hne hb hnw
            obtain ⟨hIt1, hIt2⟩ := HIt.out j
            obtain ⟨t, ht⟩ : ∃ t, iter (proR xs) j k = t := ⟨_, rfl⟩
            have hitu : itP xs (unrL xs k) j = unrL xs t := by rw [← ht]; exact hIt1
            have HCs := hid (fun x => orbT_contains_succ (proR xs) k j x)
            rw [ht] at HCs hIt2
            have HOkk : Hid (okLin xs (itP xs (unrL xs k) j) = true) := hid (by rw [hitu]; exact okLin_unr HG.out hIt2)
            have HRk : Hid (ansRk xs (itP xs (unrL xs k) j) = (t : Int)) := hid (by rw [ansRk_yes HOkk.out, hitu, rank_unr hIt2])
            have HItj : Hid (proL xs 1 (itP xs (unrL xs k) j) = itP xs (unrL xs k) (j + 1)) := hid (proL_one xs _)
            have hnj : nn = (itP xs (unrL xs k) j).length := by obtain ⟨A, c, e, -⟩ := HIj.out; injection e
            clear hIt1 hIt2 ht hitu hnj hbx
            by_cases h0 : j = 0
            · have hj0 : ((j : Int) == 0) = true := by rw [h0]; rfl
              have hbx4 := (A5.out.below Hb3.out).1
              go_wp2_with fail
              clear hbx4
              refine (specRankLinear_any _ xs _ (itP xs (unrL xs k) j) _ (HP2.out.below Hb3.out) HXl.out HIj.out hlj).mono ?_
              rintro e w5 ⟨rfl, hb5⟩
              rw [HOkk.out, HRk.out]
              have HI5 := hid (HIj.out.below hb5)
              have HS5 := hid (HSe3.out.below hb5)
              have HO5 := hid (HO3.out.below hb5)
              have Hb5 := hid (below_to Hb3.out hb5)
              have hz5 := Hb5.out.size
              have HB5 := hid hb5
              clear hb5
              have HNw0 : Hid (Value.slice nA nn nc = Value.slice uA un uc) := hid (by
                rcases HNw.out with ⟨-, h⟩ | ⟨h, -⟩
                · exact h
                · omega)
              have HIt0 : Hid (itP xs (unrL xs k) j = unrL xs k) := hid (by rw [h0]; rfl)
              go_wp2_with (at_builtin; refine wpList_append_int2 rfl _ _ 27 3 rfl Try.underlying27 Try.info3 w2.heap.size _ sj (t : Int) rfl HS5.out rfl rfl (by omega) hz5 ?_; intro v6 w6 hs6 hb6 hk6; have hbx6 := (A5.out.below (Hb5.out.trans hb6)).1)
              have HI6 : Hid (Ints w6 (Value.slice nA nn nc) (itP xs (unrL xs k) j)) := hid (by rw [HNw0.out, HIt0.out]; exact HIk0.out.below (Hb5.out.trans hb6))
              obtain ⟨ho6, hn6⟩ := hk6 _ _ HO5.out HNeq3.out
              have HO6 := hid ho6
              have HN6 := hid hn6
              have HS6 := hid hs6
              obtain ⟨vA, vc, rfl, -⟩ := hs6.shape
              have hvl : (sj ++ [(t : Int)]).length = sj.length + 1 := by simp
              rw [hvl] at HS6 HN6 ⊢
              have Hb6 := hid (Hb5.out.trans hb6)
              clear hs6 hb6 hk6 ho6 hn6 hvl
              go_wp2_with fail
              clear hbx6
              refine (liPromote_any _ _ xs (itP xs (unrL xs k) j) 1 _ (HP2.out.below Hb6.out) HI6.out HG.out HLj.out (by omega) (by omega)).mono ?_
              rintro e w7 ⟨u7, rfl, ho7, hb7⟩
              rw [HItj.out] at ho7
              have HI7 := hid ho7
              have HS7 := hid (HS6.out.below hb7)
              have HO7 := hid (HO6.out.below hb7)
              have Hb7 := hid (below_to Hb6.out hb7)
              have hz6 := Hb6.out.size
              have HNw7 : Hid (u7.ownBlock = none ∨ u7.ownBlock ≠ (Value.slice vA (sj.length + 1) vc).ownBlock) := hid (by
                rcases hq : u7.ownBlock with _ | q
                · exact .inl rfl
                · refine .inr fun e2 => ?_
                  have h1 := (OwnI.blockLt ho7 q hq).1
                  have h2 := (OwnI.blockLt HS6.out q e2.symm).2
                  omega)
              obtain ⟨u7A, u7n, u7c, rfl⟩ := ho7.shape3
              clear ho7 hb7
              go_wp2
              go_roundw
              case rel => exact ⟨j + 1, sj ++ [(t : Int)], by omega, by go_num, HI7.out.ints, .inr ⟨by omega, HI7.out.mono (by omega), HNw7.out⟩, by first | exact HS7.out | (rw [List.length_append]; exact HS7.out), HO7.out, HN6.out, hid (fun x => by rw [hasL_snoc, HSj.out x, HCs.out x, Bool.or_assoc]; congr 2; rw [Bool.eq_iff_iff]; simp; omega), by simp; omega, Hb7.out⟩
              case measure => simp [intOf]; omega

            · have hj0 : ((j : Int) == 0) = false := by rw [beq_eq_false_iff_ne]; omega
              go_wp2_with fail
              refine (l1SameL_any _ _ (itP xs (unrL xs k) j) (unrL xs k) _ HIj.out HIk3.out hlj).mono ?_
              rintro e w4 ⟨rfl, hb4⟩
              have H4I := hid (HIj.out.below hb4)
              have H4S := hid (HSe3.out.below hb4)
              have H4O := hid (HO3.out.below hb4)
              have H4b := hid (below_to Hb3.out hb4)
              have HB4 := hid hb4
              clear hb4
              by_cases hjP : j < P
              · rw [show sameL (itP xs (unrL xs k) j) (unrL xs k) = false from HNeP.out j (by omega) hjP]
                have hbx4 := (A5.out.below H4b.out).1
                go_wp2_with fail
                clear hbx4
                refine (specRankLinear_any _ xs _ (itP xs (unrL xs k) j) _ (HP2.out.below H4b.out) HXl.out H4I.out hlj).mono ?_
                rintro e w5 ⟨rfl, hb5⟩
                rw [HOkk.out, HRk.out]
                have HI5 := hid (H4I.out.below hb5)
                have HS5 := hid (H4S.out.below hb5)
                have HO5 := hid (H4O.out.below hb5)
                have Hb5 := hid (below_to H4b.out hb5)
                have hz5 := Hb5.out.size
                have HB5 := hid hb5
                clear hb5
                have HNw5 : Hid (OwnI 3 w5 w2.heap.size (Value.slice nA nn nc) (itP xs (unrL xs k) j) ∧ ((Value.slice nA nn nc).ownBlock = none ∨ (Value.slice nA nn nc).ownBlock ≠ (Value.slice jA sj.length jc).ownBlock)) := hid (by
                  rcases HNw.out with ⟨h, -⟩ | ⟨-, h1, h2⟩
                  · exact absurd h h0
                  · exact ⟨(h1.below HB4.out).below HB5.out, h2⟩)
                go_wp2_with (at_builtin; refine wpList_append_int2 rfl _ _ 27 3 rfl Try.underlying27 Try.info3 w2.heap.size _ sj (t : Int) rfl HS5.out rfl rfl (by omega) hz5 ?_; intro v6 w6 hs6 hb6 hk6; have hbx6 := (A5.out.below (Hb5.out.trans hb6)).1)
                have HI6 : Hid (Ints w6 (Value.slice nA nn nc) (itP xs (unrL xs k) j)) := hid ((hk6 _ _ HNw5.out.1 HNw5.out.2).1.ints)
                obtain ⟨ho6, hn6⟩ := hk6 _ _ HO5.out HNeq3.out
                have HO6 := hid ho6
                have HN6 := hid hn6
                have HS6 := hid hs6
                obtain ⟨vA, vc, rfl, -⟩ := hs6.shape
                have hvl : (sj ++ [(t : Int)]).length = sj.length + 1 := by simp
                rw [hvl] at HS6 HN6 ⊢
                have Hb6 := hid (Hb5.out.trans hb6)
                clear hs6 hb6 hk6 ho6 hn6 hvl
                go_wp2_with fail
                clear hbx6
                refine (liPromote_any _ _ xs (itP xs (unrL xs k) j) 1 _ (HP2.out.below Hb6.out) HI6.out HG.out HLj.out (by omega) (by omega)).mono ?_
                rintro e w7 ⟨u7, rfl, ho7, hb7⟩
                rw [HItj.out] at ho7
                have HI7 := hid ho7
                have HS7 := hid (HS6.out.below hb7)
                have HO7 := hid (HO6.out.below hb7)
                have Hb7 := hid (below_to Hb6.out hb7)
                have hz6 := Hb6.out.size
                have HNw7 : Hid (u7.ownBlock = none ∨ u7.ownBlock ≠ (Value.slice vA (sj.length + 1) vc).ownBlock) := hid (by
                  rcases hq : u7.ownBlock with _ | q
                  · exact .inl rfl
                  · refine .inr fun e2 => ?_
                    have h1 := (OwnI.blockLt ho7 q hq).1
                    have h2 := (OwnI.blockLt HS6.out q e2.symm).2
                    omega)
                obtain ⟨u7A, u7n, u7c, rfl⟩ := ho7.shape3
                clear ho7 hb7
                go_wp2
                go_roundw
                case rel => exact ⟨j + 1, sj ++ [(t : Int)], by omega, by go_num, HI7.out.ints, .inr ⟨by omega, HI7.out.mono (by omega), HNw7.out⟩, by first | exact HS7.out | (rw [List.length_append]; exact HS7.out), HO7.out, HN6.out, hid (fun x => by rw [hasL_snoc, HSj.out x, HCs.out x, Bool.or_assoc]; congr 2; rw [Bool.eq_iff_iff]; simp; omega), by simp; omega, Hb7.out⟩
                case measure => simp [intOf]; omega

              · obtain rfl : j = P := by omega
                rw [show sameL (itP xs (unrL xs k) j) (unrL xs k) = true from HEq.out]
                have hz4 := H4b.out.size
                have hcap := H4O.out.capH
                rcases H4O.out.nilOr with ⟨rfl, rfl, rfl⟩ | ⟨g, rfl, hBg, hgl, hcl⟩
                · have HNew : Hid (sortL (lensK xs (k + 1)) = ([] ++ [(j : Int)] ++ [] : List Int)) := hid (by
                    rw [HNo.out.2, ← insAt_sort (l := lensK xs k) (x := (j : Int)) (k := 0) (Nat.zero_le _) (fun i hi => absurd hi (Nat.not_lt_zero _)) (by rw [HOl.out]; intro h; exact absurd h (Nat.lt_irrefl _)), HOl.out]; rfl)
                  go_wp2
                  go_loopw [16] (fun i wx => i = .int .i64 0 ∧ w4 = wx) (fun _ _ => 0)
                  case atStart => exact ⟨rfl, by first | rfl | trivial⟩
                  case round =>
                    obtain ⟨rfl, rfl⟩ := hrel
                    go_wp2_with fail
                    refine (l1OwnL_any _ [] _ (Ints.noneL _ _ _ _ rfl) (by simp)).mono ?_
                    rintro e w5 ⟨u5, rfl, ho5, hb5⟩
                    have HU5 := hid ho5
                    have HB5 := hid hb5
                    obtain ⟨u5A, u5c, rfl, -⟩ := ho5.shape
                    rw [List.length_nil] at HU5 ⊢
                    have hz5 := hb5.size
                    clear ho5 hb5
                    go_wp2_with (at_builtin; first
                      | (refine wpList_append_int rfl _ _ 27 3 rfl Try.underlying27 Try.info3 w4.heap.size _ [] (j : Int) rfl HU5.out rfl rfl (by simp) hz5 ?_
                         intro v6 w6 ho6 hb6
                         have HV6 := hid ho6
                         have HB6 := hid (HB5.out.trans hb6)
                         have hz6 := HB6.out.size
                         obtain ⟨v6A, v6c, rfl, -⟩ := ho6.shape
                         have hul : ([] ++ [(j : Int)] : List Int).length = 1 := rfl
                         rw [hul] at HV6 ⊢
                         clear ho6 hb6 hul)
                      | (refine wpList_append_ints rfl _ _ 27 3 rfl Try.underlying27 Try.info3 w4.heap.size _ ([] ++ [(j : Int)]) rfl HV6.out _ [] rfl (Ints.noneL _ _ _ _ rfl) (by simp) hz6 ?_; intro v7 w7 ho7 hb7))
                    have HB7 := hid (HB6.out.trans hb7)
                    have HS7 := hid (H4S.out.below HB7.out)
                    have Hb7 := hid (below_to H4b.out HB7.out)
                    have HN7 : Hid (v7.ownBlock = none ∨ v7.ownBlock ≠ (Value.slice jA sj.length jc).ownBlock) := hid (by
                      rcases hq : v7.ownBlock with _ | q
                      · exact .inl rfl
                      · refine .inr fun e2 => ?_
                        have h1 := (OwnI.blockLt ho7 q hq).1
                        have h2 := (OwnI.blockLt H4S.out q e2.symm).2
                        omega)
                    have HV7 : Hid (OwnI 3 w7 w2.heap.size v7 (sortL (lensK xs (k + 1)))) := hid (by rw [HNew.out]; exact ho7.mono hz4)
                    obtain ⟨v7A, v7c, rfl, -⟩ := ho7.shape
                    clear ho7 hb7
                    go_wp2
                    go_roundw
                    case rel => exact ⟨k + 1, sj, by omega, by go_num, HV7.out, HS7.out, HN7.out, hid (fun t => by rw [HSj.out t, HNo.out.1 t]), by omega, Hb7.out⟩
                    case measure => simp [intOf]; omega
                · have HCl := hid hcl
                  clear hcl
                  go_wp2
                  go_loopw [16] (fun i wx => ∃ s : Nat, s ≤ ol.length ∧ i = .int .i64 s ∧ Hid (∀ i, i < s → ol.getD i 0 ≤ (j : Int)) ∧ w4 = wx) (fun i _ => ol.length - (intOf i).toNat)
                  case atStart => exact ⟨0, Nat.zero_le _, rfl, hid (fun i hi => absurd hi (Nat.not_lt_zero _)), by first | rfl | trivial⟩
                  case round =>
                    obtain ⟨s, hs1, rfl, HLe, rfl⟩ := hrel
                    by_cases hsn : s < ol.length
                    · have hcell := HCl.out s hsn
                      obtain ⟨x, hx⟩ : ∃ x, ol.getD s 0 = x := ⟨_, rfl⟩
                      rw [hx] at hcell
                      have HX := hid hx
                      have hsi : (s : Int) < (ol.length : Int) := by omega
                      clear hx
                      by_cases hxP : x ≤ (j : Int)
                      · go_wp2
                        go_roundw
                        case rel => exact ⟨s + 1, by omega, by go_num, hid (fun i hi => by
                          by_cases e : i = s
                          · subst e; rw [HX.out]; exact hxP
                          · exact HLe.out i (by omega)), by first | rfl | trivial⟩
                        case measure => simp [intOf]; omega
                      · have hxd : decide (x ≤ (j : Int)) = false := by simp; omega
                        go_wp2_with fail
                        refine (l1OwnL_any _ (ol.take s) _ (H4O.out.ints.takeK hs1 _) (by rw [List.length_take]; omega)).mono ?_
                        rintro e w5 ⟨u5, rfl, ho5, hb5⟩
                        have HU5 := hid ho5
                        have HB5 := hid hb5
                        obtain ⟨u5A, u5c, rfl, -⟩ := ho5.shape
                        have hul : (ol.take s).length = s := by rw [List.length_take]; omega
                        rw [hul] at HU5 ⊢
                        have hz5 := hb5.size
                        clear ho5 hb5 hul
                        go_wp2_with (at_builtin; first
                          | (refine wpList_append_int rfl _ _ 27 3 rfl Try.underlying27 Try.info3 w4.heap.size _ (ol.take s) (j : Int) rfl HU5.out rfl rfl (by rw [List.length_take]; omega) hz5 ?_
                             intro v6 w6 ho6 hb6
                             have HV6 := hid ho6
                             have HB6 := hid (HB5.out.trans hb6)
                             have HO6 := hid (H4O.out.below HB6.out)
                             have hz6 := HB6.out.size
                             obtain ⟨v6A, v6c, rfl, -⟩ := ho6.shape
                             have hul : (ol.take s ++ [(j : Int)]).length = s + 1 := by rw [List.length_append, List.length_take]; simp; omega
                             rw [hul] at HV6 ⊢
                             clear ho6 hb6 hul)
                          | (refine wpList_append_ints rfl _ _ 27 3 rfl Try.underlying27 Try.info3 w4.heap.size _ (ol.take s ++ [(j : Int)]) rfl HV6.out _ (ol.drop s) rfl (HO6.out.ints.dropK0 hs1 _ _ (by omega)) (by rw [List.length_append, List.length_take, List.length_drop]; simp; omega) hz6 ?_; intro v7 w7 ho7 hb7))
                        have HB7 := hid (HB6.out.trans hb7)
                        have HS7 := hid (H4S.out.below HB7.out)
                        have Hb7 := hid (below_to H4b.out HB7.out)
                        have HNew : Hid (sortL (lensK xs (k + 1)) = ol.take s ++ [(j : Int)] ++ ol.drop s) := hid (by
                          rw [HNo.out.2, ← insAt_sort (l := lensK xs k) (x := (j : Int)) (k := s) (by rw [HOl.out]; exact hs1) (by rw [HOl.out]; exact HLe.out) (by rw [HOl.out]; intro _; rw [HX.out]; omega), HOl.out])
                        have HN7 : Hid (v7.ownBlock = none ∨ v7.ownBlock ≠ (Value.slice jA sj.length jc).ownBlock) := hid (by
                          rcases hq : v7.ownBlock with _ | q
                          · exact .inl rfl
                          · refine .inr fun e2 => ?_
                            have h1 := (OwnI.blockLt ho7 q hq).1
                            have h2 := (OwnI.blockLt H4S.out q e2.symm).2
                            omega)
                        have HV7 : Hid (OwnI 3 w7 w2.heap.size v7 (sortL (lensK xs (k + 1)))) := hid (by rw [HNew.out]; exact ho7.mono hz4)
                        obtain ⟨v7A, v7c, rfl, -⟩ := ho7.shape
                        clear ho7 hb7
                        go_wp2
                        go_roundw
                        case rel => exact ⟨k + 1, sj, by omega, by go_num, HV7.out, HS7.out, HN7.out, hid (fun t => by rw [HSj.out t, HNo.out.1 t]), by omega, Hb7.out⟩
                        case measure => simp [intOf]; omega

                    · have Hse := hid (show s = ol.length by omega)
                      have hse2 : ol.length ≤ s := by omega
                      have hsi : ¬ (s : Int) < (ol.length : Int) := by omega
                      by_cases hcc : s < oc
                      · go_wp2_with fail
                        refine (l1OwnL_any _ (ol.take s) _ (H4O.out.ints.takeK hs1 _) (by rw [List.length_take]; omega)).mono ?_
                        rintro e w5 ⟨u5, rfl, ho5, hb5⟩
                        have HU5 := hid ho5
                        have HB5 := hid hb5
                        obtain ⟨u5A, u5c, rfl, -⟩ := ho5.shape
                        have hul : (ol.take s).length = s := by rw [List.length_take]; omega
                        rw [hul] at HU5 ⊢
                        have hz5 := hb5.size
                        clear ho5 hb5 hul
                        go_wp2_with (at_builtin; first
                          | (refine wpList_append_int rfl _ _ 27 3 rfl Try.underlying27 Try.info3 w4.heap.size _ (ol.take s) (j : Int) rfl HU5.out rfl rfl (by rw [List.length_take]; omega) hz5 ?_
                             intro v6 w6 ho6 hb6
                             have HV6 := hid ho6
                             have HB6 := hid (HB5.out.trans hb6)
                             have HO6 := hid (H4O.out.below HB6.out)
                             have hz6 := HB6.out.size
                             obtain ⟨v6A, v6c, rfl, -⟩ := ho6.shape
                             have hul : (ol.take s ++ [(j : Int)]).length = s + 1 := by rw [List.length_append, List.length_take]; simp; omega
                             rw [hul] at HV6 ⊢
                             clear ho6 hb6 hul)
                          | (refine wpList_append_ints rfl _ _ 27 3 rfl Try.underlying27 Try.info3 w4.heap.size _ (ol.take s ++ [(j : Int)]) rfl HV6.out _ (ol.drop s) rfl (HO6.out.ints.dropK0 hs1 _ _ (by omega)) (by rw [List.length_append, List.length_take, List.length_drop]; simp; omega) hz6 ?_; intro v7 w7 ho7 hb7))
                        have HB7 := hid (HB6.out.trans hb7)
                        have HS7 := hid (H4S.out.below HB7.out)
                        have Hb7 := hid (below_to H4b.out HB7.out)
                        have HNew : Hid (sortL (lensK xs (k + 1)) = ol.take s ++ [(j : Int)] ++ ol.drop s) := hid (by
                          rw [HNo.out.2, ← insAt_sort (l := lensK xs k) (x := (j : Int)) (k := s) (by rw [HOl.out]; exact hs1) (by rw [HOl.out]; exact HLe.out) (by rw [HOl.out]; intro h; omega), HOl.out])
                        have HN7 : Hid (v7.ownBlock = none ∨ v7.ownBlock ≠ (Value.slice jA sj.length jc).ownBlock) := hid (by
                          rcases hq : v7.ownBlock with _ | q
                          · exact .inl rfl
                          · refine .inr fun e2 => ?_
                            have h1 := (OwnI.blockLt ho7 q hq).1
                            have h2 := (OwnI.blockLt H4S.out q e2.symm).2
                            omega)
                        have HV7 : Hid (OwnI 3 w7 w2.heap.size v7 (sortL (lensK xs (k + 1)))) := hid (by rw [HNew.out]; exact ho7.mono hz4)
                        obtain ⟨v7A, v7c, rfl, -⟩ := ho7.shape
                        clear ho7 hb7
                        go_wp2
                        go_roundw
                        case rel => exact ⟨k + 1, sj, by omega, by go_num, HV7.out, HS7.out, HN7.out, hid (fun t => by rw [HSj.out t, HNo.out.1 t]), by omega, Hb7.out⟩
                        case measure => simp [intOf]; omega
                      · have hcc2 : oc ≤ s := by omega
                        go_wp2_with fail
                        refine (l1OwnL_any _ (ol.take s) _ (H4O.out.ints.takeK hs1 _) (by rw [List.length_take]; omega)).mono ?_
                        rintro e w5 ⟨u5, rfl, ho5, hb5⟩
                        have HU5 := hid ho5
                        have HB5 := hid hb5
                        obtain ⟨u5A, u5c, rfl, -⟩ := ho5.shape
                        have hul : (ol.take s).length = s := by rw [List.length_take]; omega
                        rw [hul] at HU5 ⊢
                        have hz5 := hb5.size
                        clear ho5 hb5 hul
                        go_wp2_with (at_builtin; first
                          | (refine wpList_append_int rfl _ _ 27 3 rfl Try.underlying27 Try.info3 w4.heap.size _ (ol.take s) (j : Int) rfl HU5.out rfl rfl (by rw [List.length_take]; omega) hz5 ?_
                             intro v6 w6 ho6 hb6
                             have HV6 := hid ho6
                             have HB6 := hid (HB5.out.trans hb6)
                             have HO6 := hid (H4O.out.below HB6.out)
                             have hz6 := HB6.out.size
                             obtain ⟨v6A, v6c, rfl, -⟩ := ho6.shape
                             have hul : (ol.take s ++ [(j : Int)]).length = s + 1 := by rw [List.length_append, List.length_take]; simp; omega
                             rw [hul] at HV6 ⊢
                             clear ho6 hb6 hul)
                          | (refine wpList_append_ints rfl _ _ 27 3 rfl Try.underlying27 Try.info3 w4.heap.size _ (ol.take s ++ [(j : Int)]) rfl HV6.out _ (ol.drop s) rfl (by rw [show ol.drop s = [] from List.drop_of_length_le hse2]; exact Ints.noneL _ _ _ _ (by omega)) (by rw [List.length_append, List.length_take, List.length_drop]; simp; omega) hz6 ?_; intro v7 w7 ho7 hb7))
                        have HB7 := hid (HB6.out.trans hb7)
                        have HS7 := hid (H4S.out.below HB7.out)
                        have Hb7 := hid (below_to H4b.out HB7.out)
                        have HNew : Hid (sortL (lensK xs (k + 1)) = ol.take s ++ [(j : Int)] ++ ol.drop s) := hid (by
                          rw [HNo.out.2, ← insAt_sort (l := lensK xs k) (x := (j : Int)) (k := s) (by rw [HOl.out]; exact hs1) (by rw [HOl.out]; exact HLe.out) (by rw [HOl.out]; intro h; omega), HOl.out])
                        have HN7 : Hid (v7.ownBlock = none ∨ v7.ownBlock ≠ (Value.slice jA sj.length jc).ownBlock) := hid (by
                          rcases hq : v7.ownBlock with _ | q
                          · exact .inl rfl
                          · refine .inr fun e2 => ?_
                            have h1 := (OwnI.blockLt ho7 q hq).1
                            have h2 := (OwnI.blockLt H4S.out q e2.symm).2
                            omega)
                        have HV7 : Hid (OwnI 3 w7 w2.heap.size v7 (sortL (lensK xs (k + 1)))) := hid (by rw [HNew.out]; exact ho7.mono hz4)
                        obtain ⟨v7A, v7c, rfl, -⟩ := ho7.shape
                        clear ho7 hb7
                        go_wp2
                        go_roundw
                        case rel => exact ⟨k + 1, sj, by omega, by go_num, HV7.out, HS7.out, HN7.out, hid (fun t => by rw [HSj.out t, HNo.out.1 t]), by omega, Hb7.out⟩
                        case measure => simp [intOf]; omega
        · have HYes := hid (seenP_yes Hkx.out hs)
          clear hs
          go_wp2
          go_roundw
          case rel => exact ⟨k + 1, sl, by omega, by go_num, by rw [HYes.out.2]; exact HO.out, HSe.out, HNeq.out, hid (fun t => by rw [HSl.out t, HYes.out.1]), by omega, Hb.out⟩
          case measure => simp [intOf]; omega
      · have Hk := hid (show k = N by omega)
        have hlt' : ¬ (k : Int) < (N : Int) := by omega
        clear hlt
        go_wp2
        go_ret2
        exact ⟨_, rfl, by rw [HAns.out, ← lensK_full, HNe.out, ← Hk.out]; exact HO.out.mono HB2.out.size, HL.out, below_to HB2.out Hb.out⟩
end Go.Proofs.Ytbbkoagjplapkab
