/- Fence. -/
import Derived.Test.YtclhebpkpmholaaFrom
namespace Go.Proofs.Ytclhebpkpmholaa
open Go.RowKit Go.WideShapes Go.ChangeShapes
set_option linter.unusedVariables false

def fencePS (low : Nat) : Nat → List (Nat × Nat)
  | 0 => []
  | h + 1 => if h + 1 < low then (fencePS low h ++ [(h, low + h)]) ++ [(h + 1, low + h)] else fencePS low h ++ [(h, low + h)]
theorem fencePS_length (low h : Nat) : (fencePS low h).length ≤ 2 * h := by
  induction h with
  | zero => simp [fencePS]
  | succ h ih => unfold fencePS; split <;> simp <;> omega
def fenceF (low : Nat) (j i : Nat) : Bool := decide (low ≤ i) && (decide (j < low) && (decide (j = i - low) || decide (j = i - low + 1)))
def fenceL (n : Int) : List Int := if 1 ≤ n ∧ n ≤ 10 then whereL (fenceF ((n.toNat + 1) / 2)) n.toNat else []
theorem fence_eq (n : Nat) (h1 : 1 ≤ n) (h2 : n ≤ 10) : fromL n (fencePS ((n + 1) / 2) (n - (n + 1) / 2)) = whereL (fenceF ((n + 1) / 2)) n := by
  rcases (by omega : n = 1 ∨ n = 2 ∨ n = 3 ∨ n = 4 ∨ n = 5 ∨ n = 6 ∨ n = 7 ∨ n = 8 ∨ n = 9 ∨ n = 10) with rfl | rfl | rfl | rfl | rfl | rfl | rfl | rfl | rfl | rfl <;> decide +kernel
theorem fence_ok (n : Nat) (h1 : 1 ≤ n) (h2 : n ≤ 10) : PairsOk n (fencePS ((n + 1) / 2) (n - (n + 1) / 2)) := by
  rcases (by omega : n = 1 ∨ n = 2 ∨ n = 3 ∨ n = 4 ∨ n = 5 ∨ n = 6 ∨ n = 7 ∨ n = 8 ∨ n = 9 ∨ n = 10) with rfl | rfl | rfl | rfl | rfl | rfl | rfl | rfl | rfl | rfl <;> (unfold PairsOk; decide +kernel)
theorem fenceL_length (n : Int) : (fenceL n).length ≤ 1048576 := by
  unfold fenceL
  split
  · unfold whereL; rw [mkL_length]; omega
  · simp
theorem fenceL_yes {n : Nat} (h1 : 1 ≤ n) (h2 : n ≤ 10) : fenceL n = whereL (fenceF ((n + 1) / 2)) n := by
  unfold fenceL
  rw [if_pos (by omega), Int.toNat_natCast]
theorem fenceL_no {n : Int} (h : ¬ (1 ≤ n ∧ n ≤ 10)) : fenceL n = [] := if_neg h

theorem fenceClosure_any (low a j i : Nat) (w : World) (h1 : At w a (.int .i64 (low : Int))) (hj : j < i) (hi : i < 10) (hlow : low ≤ 10) :
    Calls Try.prog 138 #[.int .i64 j, .int .i64 i, .pointer (some ⟨a, 0, none⟩)] w fun r w' => r = .returned (.bool (fenceF low j i)) ∧ Below w.heap.size w w' := by
  obtain ⟨h1, -⟩ := h1
  by_cases c1 : low ≤ i
  · by_cases c2 : j < low
    · obtain ⟨d, hd⟩ : ∃ d, i - low = d := ⟨_, rfl⟩
      have e1 : IntKind.i64.wrap ((i : Int) - (low : Int)) = (d : Int) := by rw [IntWalk.i64_in _ (by omega)]; omega
      have e2 : (i : Int) - (low : Int) = (d : Int) := by omega
      have H : Hid (fenceF low j i = (decide (j = d) || decide (j = d + 1))) := by unfold Hid fenceF; simp [c1, c2, hd]
      by_cases c3 : j = d
      · have b1 : ((j : Int) == (d : Int)) = true := by rw [beq_iff_eq]; omega
        have H2 : Hid (fenceF low j i = true) := by unfold Hid; rw [H.out]; simp [c3]
        clear hd c3 H
        go_enter Try.func138, Try.ntmps138
        go_wp2
        go_ret
        exact ⟨ret_bool H2.out.symm, Below.refl _ _⟩
      · have b1 : ((j : Int) == (d : Int)) = false := by rw [beq_eq_false_iff_ne]; omega
        by_cases c4 : j = d + 1
        · have b2 : ((j : Int) == (d : Int) + 1) = true := by rw [beq_iff_eq]; omega
          have H2 : Hid (fenceF low j i = true) := by unfold Hid; rw [H.out]; simp [c4]
          clear hd c3 c4 H
          go_enter Try.func138, Try.ntmps138
          go_wp2
          go_ret
          exact ⟨ret_bool H2.out.symm, Below.refl _ _⟩
        · have b2 : ((j : Int) == (d : Int) + 1) = false := by rw [beq_eq_false_iff_ne]; omega
          have H2 : Hid (fenceF low j i = false) := by unfold Hid; rw [H.out]; simp [c3, c4]
          clear hd c3 c4 H
          go_enter Try.func138, Try.ntmps138
          go_wp2
          go_ret
          exact ⟨ret_bool H2.out.symm, Below.refl _ _⟩
    · have H2 : Hid (fenceF low j i = false) := by unfold Hid fenceF; simp [c2]
      go_enter Try.func138, Try.ntmps138
      go_wp2
      go_ret
      exact ⟨ret_bool H2.out.symm, Below.refl _ _⟩
  · have H2 : Hid (fenceF low j i = false) := by unfold Hid fenceF; simp [c1]
    go_enter Try.func138, Try.ntmps138
    go_wp2
    go_ret
    exact ⟨ret_bool H2.out.symm, Below.refl _ _⟩

theorem specFence_any (n : Int) (w : World) (wf : (Lit.int .i64 n).wf = true) :
    Calls Try.prog 82 #[.int .i64 n] w fun (r : Ending) w' => ∃ u, r = Ending.returned (.tuple #[.agg #[u], .bool (decide (1 ≤ n) && decide (n ≤ 10))]) ∧ OwnI 3 w' w.heap.size u (fenceL n) ∧ (fenceL n).length ≤ 1048576 ∧ Below w.heap.size w w' := by
  have HL := hid (fenceL_length n)
  clear wf
  by_cases hn : 1 ≤ n ∧ n ≤ 10
  · obtain ⟨m, rfl⟩ := Int.eq_ofNat_of_zero_le (by omega : 0 ≤ n)
    have h1 : 1 ≤ m := by omega
    have h2 : m ≤ 10 := by omega
    have hd : (decide ((1 : Int) ≤ (m : Int)) && decide ((m : Int) ≤ 10)) = true := by simp; omega
    have HY := hid (fenceL_yes h1 h2)
    have HE := hid (fence_eq m h1 h2)
    have HK := hid (fence_ok m h1 h2)
    rw [hd]
    have Hd := hid hd
    obtain ⟨low, hlow⟩ : ∃ low, (m + 1) / 2 = low := ⟨_, rfl⟩
    have e1 : ((m : Int) + 1) / 2 = (low : Int) := by omega
    have hl1 : low ≤ m := by omega
    rw [hlow] at HY HE HK
    clear hd hn hlow
    go_enter Try.func82, Try.ntmps82
    go_wp2_with (go_at_call 131; refine (l1In_any _ _ _ _).mono ?_; rw [Hd.out]; rintro e w' ⟨rfl, rfl⟩)
    rw [e1]
    clear e1
    go_loopw [5, 6] (fun q i wr => ∃ h : Nat, low + h ≤ m ∧ i = .int .i64 h ∧ Pairs 3 24 wr (w.heap.size + 1) q (fencePS low h) ∧ Below (w.heap.size + 1) (w.alloc (.cells #[.slice none 0 0] 26)) wr) (fun _ i _ => m - (intOf i).toNat)
    case atStart => exact ⟨0, by omega, rfl, Pairs.nil _ _ _ _, Below.refl _ _⟩
    case round =>
      obtain ⟨h, hh, rfl, hP, hb⟩ := hrel
      have hbz : w.heap.size + 1 ≤ wr.heap.size := by have := hb.size; simp at this; omega
      have hlen := fencePS_length low h
      have HP := hid hP
      have HB := hid hb
      clear hP hb
      by_cases hlt : low + h < m
      · have hlt' : (low : Int) + (h : Int) < m := by omega
        by_cases h3 : h + 1 < low
        · have h3' : (h : Int) + 1 < low := by omega
          have tok1 : True := trivial
          go_wp2_with (first | (at_builtin; have _t := tok1; refine wpList_append_pair rfl _ _ 49 24 3 rfl Try.underlying49 Try.info24 (by decide) (w.heap.size + 1) _ _ h (low + h) rfl HP.out rfl rfl (by omega) (by omega) ?_; intro q2 w2 hp2 hb2; clear tok1; have hz2 : w.heap.size + 1 ≤ w2.heap.size := Nat.le_trans hbz hb2.size; have HP2 := hid hp2; have HB2 := hid (HB.out.trans hb2); clear hp2 hb2) | (at_builtin; refine wpList_append_pair rfl _ _ 49 24 3 rfl Try.underlying49 Try.info24 (by decide) (w.heap.size + 1) _ _ (h + 1) (low + h) rfl HP2.out rfl rfl (by simp; omega) (by omega) ?_; intro q3 w3 hp3 hb3))
          go_roundw
          case rel => exact ⟨h + 1, by omega, by go_num, by rw [fencePS, if_pos h3]; exact hp3, HB2.out.trans hb3⟩
          case measure => simp [intOf]; omega
        · have h3' : ¬ (h : Int) + 1 < low := by omega
          go_wp2_with (at_builtin; refine wpList_append_pair rfl _ _ 49 24 3 rfl Try.underlying49 Try.info24 (by decide) (w.heap.size + 1) _ _ h (low + h) rfl HP.out rfl rfl (by omega) (by omega) ?_; intro q2 w2 hp2 hb2)
          go_roundw
          case rel => exact ⟨h + 1, by omega, by go_num, by rw [fencePS, if_neg h3]; exact hp2, HB.out.trans hb2⟩
          case measure => simp [intOf]; omega
      · obtain rfl : m = low + h := by omega
        have hsub : low + h - low = h := by omega
        rw [hsub] at HE HK
        have hlt' : ¬ (low : Int) + (h : Int) < ((low + h : Nat) : Int) := by omega
        have HS := hid hsub
        have hbx := box_cell HB.out 0
        have hbf : wr.frozen? ⟨w.heap.size, 0, none⟩ = false := by rw [HB.out.frozen (p := ⟨w.heap.size, 0, none⟩) (Nat.lt_succ_self _)]; exact (Blk.new w 26 #[.slice none 0 0]).frozen 0
        clear hsub hbx hbf
        go_wp2_with fail
        refine (poFrom_any _ _ (low + h) _ _ HP.out h2 HK.out (by omega)).mono ?_
        rintro e w2 ⟨u, rfl, ho, hb2⟩
        have hr : Blk w2 w.heap.size 26 #[.slice none 0 0] := ((Blk.new w _ _).below HB.out (Nat.lt_succ_self _)).below hb2 (by omega)
        have t1 := hr.cell 0
        have t2 := hr.frozen 0
        obtain ⟨uA, un, uc, rfl⟩ := ho.shape3
        have HO := hid ho
        have HB3 := hid (below_to (below_box HB.out) hb2)
        clear hr ho hb2
        go_wp2
        refine bodyPost_ret (v := .tuple #[.agg #[.slice uA un uc], .bool true]) (by simp [results, Try.results82, go_sem, t1]) rfl ⟨_, rfl, ?_, HL.out, ?_⟩
        · rw [HY.out, ← HE.out]
          refine (HO.out.grown (grown_setCell (World.grownBy.refl _ _) 0 _) ?_).mono (by omega)
          exact HO.out.apart (.inl (by omega))
        · exact HB3.out.setCell (p := ⟨w.heap.size, 0, none⟩) (Nat.le_refl _) _
  · have hd : (decide ((1 : Int) ≤ n) && decide (n ≤ 10)) = false := by rw [Bool.eq_false_iff]; simp; omega
    have HN := hid (fenceL_no hn)
    rw [hd]
    have Hd := hid hd
    clear hd hn
    go_enter Try.func82, Try.ntmps82
    go_wp2_with (go_at_call 131; refine (l1In_any _ _ _ _).mono ?_; rw [Hd.out]; rintro e w' ⟨rfl, rfl⟩)
    refine bodyPost_ret (v := .tuple #[.agg #[.slice none 0 0], .bool false]) (by simp [results, Try.results82, go_sem]) rfl ⟨_, rfl, by rw [HN.out]; exact OwnI.nil _ _ _, HL.out, ?_⟩
    exact (Below.refl _ _).alloc (Nat.le_refl _) _
theorem implFence_any (n : Int) (w : World) (wf : (Lit.int .i64 n).wf = true) :
    Calls Try.prog 81 #[.int .i64 n] w fun (r : Ending) w' => ∃ u, r = Ending.returned (.tuple #[.agg #[u], .bool (decide (1 ≤ n) && decide (n ≤ 10))]) ∧ OwnI 3 w' w.heap.size u (fenceL n) ∧ (fenceL n).length ≤ 1048576 ∧ Below w.heap.size w w' := by
  have HL := hid (fenceL_length n)
  clear wf
  by_cases hn : 1 ≤ n ∧ n ≤ 10
  · obtain ⟨m, rfl⟩ := Int.eq_ofNat_of_zero_le (by omega : 0 ≤ n)
    have h1 : 1 ≤ m := by omega
    have h2 : m ≤ 10 := by omega
    have hd : (decide ((1 : Int) ≤ (m : Int)) && decide ((m : Int) ≤ 10)) = true := by simp; omega
    have HY := hid (fenceL_yes h1 h2)
    rw [hd]
    have Hd := hid hd
    obtain ⟨low, hlow⟩ : ∃ low, (m + 1) / 2 = low := ⟨_, rfl⟩
    have e1 : ((m : Int) + 1) / 2 = (low : Int) := by omega
    have hl1 : low ≤ m := by omega
    rw [hlow] at HY
    clear hd hn hlow
    go_enter Try.func81, Try.ntmps81
    go_wp2_with (go_at_call 93; refine (isSize_any _ _).mono ?_; rw [Hd.out]; rintro e w' ⟨rfl, rfl⟩)
    rw [e1]
    obtain ⟨W, hW⟩ : ∃ W : World, W = (w.alloc (.cells #[.slice none 0 0] 26)).alloc (.cells #[.int .i64 (low : Int)] 3) := ⟨_, rfl⟩
    have HA2 : Hid (At W (w.heap.size + 1) (.int .i64 (low : Int))) := hid (by subst hW; exact At.newAt _ _ _ _ (by simp))
    have HR2 : Hid (Blk W w.heap.size 26 #[.slice none 0 0]) := hid (by subst hW; exact Blk.alloc (Blk.new _ _ _) _)
    have HB2 : Hid (Below w.heap.size w W) := hid (by subst hW; exact below_alloc (below_alloc (Below.refl _ _) _) _)
    have hzW : w.heap.size + 1 < W.heap.size := by subst hW; simp
    rw [← hW]
    clear hW e1
    refine (posetWhereFence_any m _ (fenceF low) W h2 (fun j i W' hj hi hb => fenceClosure_any low (w.heap.size + 1) j i W' (HA2.out.below hb) hj (by omega) (by omega))).mono ?_
    rintro e w2 ⟨u, rfl, ho, hb2⟩
    have hr := HR2.out.below hb2 (by omega)
    have t1 := hr.cell 0
    have t2 := hr.frozen 0
    obtain ⟨uA, un, uc, rfl⟩ := ho.shape3
    have HO := hid ho
    have HB3 := hid (below_to HB2.out hb2)
    clear hr ho hb2
    go_wp2
    refine bodyPost_ret (v := .tuple #[.agg #[.slice uA un uc], .bool true]) (by simp [results, Try.results81, go_sem, t1]) rfl ⟨_, rfl, ?_, HL.out, ?_⟩
    · rw [HY.out]
      refine (HO.out.grown (grown_setCell (World.grownBy.refl _ _) 0 _) ?_).mono (by omega)
      exact HO.out.apart (.inl (by omega))
    · exact HB3.out.setCell (p := ⟨w.heap.size, 0, none⟩) (Nat.le_refl _) _
  · have hd : (decide ((1 : Int) ≤ n) && decide (n ≤ 10)) = false := by rw [Bool.eq_false_iff]; simp; omega
    have HN := hid (fenceL_no hn)
    rw [hd]
    have Hd := hid hd
    clear hd hn
    go_enter Try.func81, Try.ntmps81
    go_wp2_with (go_at_call 93; refine (isSize_any _ _).mono ?_; rw [Hd.out]; rintro e w' ⟨rfl, rfl⟩)
    refine bodyPost_ret (v := .tuple #[.agg #[.slice none 0 0], .bool false]) (by simp [results, Try.results81, go_sem]) rfl ⟨_, rfl, by rw [HN.out]; exact OwnI.nil _ _ _, HL.out, ?_⟩
    exact (Below.refl _ _).alloc (Nat.le_refl _) _
end Go.Proofs.Ytclhebpkpmholaa
