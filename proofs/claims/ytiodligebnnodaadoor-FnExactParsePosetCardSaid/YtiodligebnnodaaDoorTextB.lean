/- The text of a poset: the model's. -/
import Derived.Test.YtiodligebnnodaaDoorTextA
namespace Go.Proofs.YtiodligebnnodaaDoor
open Go.RowKit Go.WideShapes Go.ChangeShapes
set_option linter.unusedVariables false

theorem covIn_mem {xs : List Int} {j : Nat} (i : Nat) {p : Nat × Nat} (h : p ∈ covIn xs j i) : p.1 = j ∧ p.2 < i := by
  induction i with
  | zero => simp [covIn] at h
  | succ i ih =>
    unfold covIn at h
    split at h
    · rw [List.mem_append] at h
      rcases h with h | h
      · have := ih h; omega
      · simp at h; subst h; simp
    · have := ih h; omega
theorem covPS_mem {xs : List Int} {n : Nat} (j : Nat) {p : Nat × Nat} (h : p ∈ covPS xs n j) : p.1 < j ∧ p.2 < n := by
  induction j with
  | zero => simp [covPS] at h
  | succ j ih =>
    unfold covPS at h
    rw [List.mem_append] at h
    rcases h with h | h
    · have := ih h; omega
    · have := covIn_mem n h; omega
theorem covPS_at {xs : List Int} {n k : Nat} (h : k < (covPS xs n n).length) : ((covPS xs n n).getD k (0, 0)).1 < n ∧ ((covPS xs n n).getD k (0, 0)).2 < n := by
  have : (covPS xs n n).getD k (0, 0) = (covPS xs n n)[k] := by simp [List.getD, h]
  rw [this]
  exact covPS_mem n (List.getElem_mem h)
theorem sB_toList (l : List UInt8) : (sB l).toList = l := by rw [Lib.toList_data]; show l.toArray.toList = l; simp
def pairT (p : Nat × Nat) : List UInt8 := (numL p.1 ++ [60]) ++ numL p.2
theorem pairT_length (p : Nat × Nat) : (pairT p).length ≤ 5 := by
  have h1 := numL_length p.1
  have h2 := numL_length p.2
  unfold pairT
  simp only [List.length_append, List.length_singleton]
  omega
theorem pairT_ne (p : Nat × Nat) : 1 ≤ (pairT p).length := by
  unfold pairT
  simp only [List.length_append, List.length_singleton]
  omega
/-- the first k pairs, commas between -/
def lsT (ps : List (Nat × Nat)) : Nat → List UInt8
  | 0 => []
  | k + 1 => (if 0 < k then lsT ps k ++ [44] else lsT ps k) ++ pairT (ps.getD k (0, 0))
theorem lsT_length (ps : List (Nat × Nat)) (k : Nat) : (lsT ps k).length ≤ 6 * k := by
  induction k with
  | zero => simp [lsT]
  | succ k ih =>
    have := pairT_length (ps.getD k (0, 0))
    unfold lsT
    split <;> simp only [List.length_append, List.length_singleton] <;> omega
theorem lsT_ne (ps : List (Nat × Nat)) (k : Nat) (h : 1 ≤ k) : 1 ≤ (lsT ps k).length := by
  obtain ⟨j, rfl⟩ : ∃ j, k = j + 1 := ⟨k - 1, by omega⟩
  have := pairT_ne (ps.getD j (0, 0))
  unfold lsT
  rw [List.length_append]
  omega
def textL (n : Nat) (ps : List (Nat × Nat)) : List UInt8 := (numL n ++ [58]) ++ (if ps.length = 0 then [45] else lsT ps ps.length)
theorem run_sBc (l : List UInt8) (c : UInt8) (h : l.length ≤ 900000) (w : World) : (Op.stringOp .add (sB l) { data := #[c] }).run Tryd.prog w = .ok (.string (sB (l ++ [c]))) w := run_sB1 l c h w
set_option maxRecDepth 100000 in
set_option maxHeartbeats 3200000 in
theorem poText_any (v : Value) (xs : List Int) (w : World) (hv : Ints w v xs) (hg : good xs = true) :
    Calls Tryd.prog 21 #[.agg #[v]] w fun r w' => r = .returned (.string (sB (textL xs.length (covPS xs xs.length xs.length)))) ∧ Below w.heap.size w w' := by
  have hl10 := (good_length hg).2
  have HV := hid hv
  have HG := hid hg
  have HE : Hid (Value.string { data := #[] } = Value.string (sB [])) := hid rfl
  obtain ⟨A, c, rfl, -⟩ := hv
  have HM := hid (fun k (h : k < (covPS xs xs.length xs.length).length) => covPS_at h)
  have hc1 := covPS_length xs xs.length xs.length
  obtain ⟨ps, hps⟩ : ∃ ps, covPS xs xs.length xs.length = ps := ⟨_, rfl⟩
  have hc2 : ps.length ≤ 100 := by
    have h3 : xs.length * xs.length ≤ 10 * 10 := Nat.mul_le_mul hl10 hl10
    rw [← hps]; omega
  have HPP := hid (fun W (hV : Ints W (.slice A xs.length c) xs) => poPairs_any (.slice A xs.length c) xs W hV hg)
  rw [hps] at HM HPP ⊢
  obtain ⟨n, hn⟩ : ∃ n, xs.length = n := ⟨_, rfl⟩
  rw [hn] at hl10 HV HM HPP ⊢
  clear hg hn hc1 hps
  go_enter Tryd.func21, Tryd.ntmps21
  go_wp2_with fail
  refine (HPP.out _ (HV.out.alloc _)).mono ?_
  rintro e w1 ⟨u, rfl, hP, hb⟩
  obtain ⟨pA, pc, rfl, hcs⟩ := hP.shape
  have HC := hid hcs
  have HB1 := hid (below_to (below_alloc (Below.refl _ w) _) hb)
  have HA1 := hid ((At.new w (.slice A n c) 24).below hb)
  clear hP hb hcs
  go_wp2
  go_loopw [3, 9] (fun s i wr => ∃ (k : Nat) (l : List UInt8), k ≤ ps.length ∧ s = .string (sB l) ∧ i = .int .i64 k ∧ Hid (lsT ps k = l) ∧ Below w1.heap.size w1 wr) (fun _ i _ => ps.length - (intOf i).toNat)
  case atStart => exact ⟨0, [], Nat.zero_le _, HE.out, rfl, hid rfl, Below.refl _ _⟩
  case round =>
    obtain ⟨k, l, hk, rfl, rfl, HL, hb⟩ := hrel
    have HB := hid hb
    have hll : l.length ≤ 600 := by
      have := lsT_length ps k
      rw [HL.out] at this; omega
    by_cases hkl : k < ps.length
    · obtain ⟨b, g, rfl, hb1, hb2, hc3, hc4, hc5⟩ := HC.out k hkl
      obtain ⟨m1, m2⟩ := HM.out k hkl
      have HS : Hid (lsT ps (k + 1) = (if 0 < k then l ++ [44] else l) ++ pairT (ps.getD k (0, 0))) := hid (by rw [lsT, HL.out])
      obtain ⟨p, hp⟩ : ∃ p, ps.getD k (0, 0) = p := ⟨_, rfl⟩
      rw [hp] at hc4 hc5 m1 m2 HS
      obtain ⟨x, hx⟩ : ∃ x, p.1 = x := ⟨_, rfl⟩
      obtain ⟨y, hy⟩ : ∃ y, p.2 = y := ⟨_, rfl⟩
      have HPT : Hid (pairT p = (numL x ++ [60]) ++ numL y) := hid (by rw [pairT, hx, hy])
      rw [hx] at hc4 m1; rw [hy] at hc5 m2
      have hct := (hb.cell (p := ⟨b, k, none⟩) hb1).trans hc3
      have hcx := (hb.cell (p := ⟨g, 0, none⟩) hb2).trans hc4
      have hcy := (hb.cell (p := ⟨g, 1, none⟩) hb2).trans hc5
      have HCx := hid hcx
      have HCy := hid hcy
      have hgw : g < wr.heap.size := Nat.lt_of_lt_of_le hb2 hb.size
      have hn1 := numL_length x
      have hn2 := numL_length y
      obtain ⟨X1, hX1⟩ : ∃ X1, numL x ++ [60] = X1 := ⟨_, rfl⟩
      obtain ⟨X2, hX2⟩ : ∃ X2, X1 ++ numL y = X2 := ⟨_, rfl⟩
      have hX1l : X1.length ≤ 3 := by rw [← hX1]; simp; omega
      have hX2l : X2.length ≤ 5 := by rw [← hX2]; simp; omega
      have Hadd1 := hid (fun W => run_sBc (numL x) 60 (by omega) W)
      have Hadd2 := hid (fun W => run_sB X1 (numL y) (by omega) W)
      rw [hX1] at Hadd1 HPT
      rw [hX2] at Hadd2 HPT
      have hx10 : x ≤ 10 := by omega
      have hy10 : y ≤ 10 := by omega
      clear hb hc3 hc4 hc5 hp hx hy hX1 hX2
      by_cases h0 : 0 < k
      · have h0' : (0 : Int) < (k : Int) := by omega
        obtain ⟨L1, hL1⟩ : ∃ L1, l ++ [44] = L1 := ⟨_, rfl⟩
        have hL1l : L1.length ≤ 601 := by rw [← hL1]; simp; omega
        obtain ⟨L4, hL4⟩ : ∃ L4, L1 ++ X2 = L4 := ⟨_, rfl⟩
        have hadd0 := fun W => run_sBc l 44 (by omega) W
        have Hadd3 := hid (fun W => run_sB L1 X2 (by omega) W)
        rw [hL4] at Hadd3
        rw [hL1] at hadd0
        have HS2 : Hid (lsT ps (k + 1) = L4) := hid (by rw [HS.out, HPT.out, if_pos h0, hL1, hL4])
        clear hL1 hL4
        go_wp2_with fail
        clear hct hadd0
        have hadd1 := Hadd1.out
        have hadd2 := Hadd2.out
        have hadd3 := Hadd3.out
        go_region_with (first | (go_at_call 35; (with_reducible refine (l1Num_any x _ hx10).mono ?_); rintro e w3 ⟨rfl, hb3⟩; (first | (have H3 := hid (below_to H3.out hb3)) | (have H3 := hid (below_to (Below.refl wr.heap.size wr).drew hb3))); have hcx3 := (H3.out.cell (p := ⟨g, 0, none⟩) hgw).trans HCx.out; have hcy3 := (H3.out.cell (p := ⟨g, 1, none⟩) hgw).trans HCy.out; clear hb3) | (go_at_call 35; (with_reducible refine (l1Num_any y _ hy10).mono ?_); rintro e w3 ⟨rfl, hb3⟩; (first | (have H3 := hid (below_to H3.out hb3)) | (have H3 := hid (below_to (Below.refl wr.heap.size wr).drew hb3))); have hcx3 := (H3.out.cell (p := ⟨g, 0, none⟩) hgw).trans HCx.out; have hcy3 := (H3.out.cell (p := ⟨g, 1, none⟩) hgw).trans HCy.out; clear hb3))
        all_goals clear hcx3 hcy3 hadd1 hadd2 hadd3
        all_goals go_wp2
        all_goals go_roundw
        all_goals first
          | exact ⟨k + 1, L4, by omega, rfl, by go_num, HS2.out, below_to HB.out H3.out⟩
          | (simp [intOf]; omega)
      · have h0' : ¬ (0 : Int) < (k : Int) := by omega
        obtain ⟨L4, hL4⟩ : ∃ L4, l ++ X2 = L4 := ⟨_, rfl⟩
        have Hadd3 := hid (fun W => run_sB l X2 (by omega) W)
        rw [hL4] at Hadd3
        have HS2 : Hid (lsT ps (k + 1) = L4) := hid (by rw [HS.out, HPT.out, if_neg h0, hL4])
        clear hL4
        go_wp2_with fail
        clear hct
        have hadd1 := Hadd1.out
        have hadd2 := Hadd2.out
        have hadd3 := Hadd3.out
        go_region_with (first | (go_at_call 35; (with_reducible refine (l1Num_any x _ hx10).mono ?_); rintro e w3 ⟨rfl, hb3⟩; (first | (have H3 := hid (below_to H3.out hb3)) | (have H3 := hid (below_to (Below.refl wr.heap.size wr).drew hb3))); have hcx3 := (H3.out.cell (p := ⟨g, 0, none⟩) hgw).trans HCx.out; have hcy3 := (H3.out.cell (p := ⟨g, 1, none⟩) hgw).trans HCy.out; clear hb3) | (go_at_call 35; (with_reducible refine (l1Num_any y _ hy10).mono ?_); rintro e w3 ⟨rfl, hb3⟩; (first | (have H3 := hid (below_to H3.out hb3)) | (have H3 := hid (below_to (Below.refl wr.heap.size wr).drew hb3))); have hcx3 := (H3.out.cell (p := ⟨g, 0, none⟩) hgw).trans HCx.out; have hcy3 := (H3.out.cell (p := ⟨g, 1, none⟩) hgw).trans HCy.out; clear hb3))
        all_goals clear hcx3 hcy3 hadd1 hadd2 hadd3
        all_goals go_wp2
        all_goals go_roundw
        all_goals first
          | exact ⟨k + 1, L4, by omega, rfl, by go_num, HS2.out, below_to HB.out H3.out⟩
          | (simp [intOf]; omega)
    · obtain rfl : k = ps.length := by omega
      have HB2 := hid (below_to HB1.out hb)
      have hbx := ((HA1.out.below hb)).1
      have hn10 : n ≤ 10 := hl10
      have hnn := numL_length n
      clear hb
      by_cases h0 : ps.length = 0
      · have hl0 : l = [] := by rw [← HL.out, h0]; rfl
        have HT : Hid (textL n ps = (numL n ++ [58]) ++ [45]) := hid (by rw [textL, if_pos h0])
        have he : (sB l).toList.isEmpty = true := by rw [sB_toList]; rw [hl0]; rfl
        obtain ⟨T1, hT1⟩ : ∃ T1, numL n ++ [58] = T1 := ⟨_, rfl⟩
        have hT1l : T1.length ≤ 3 := by rw [← hT1]; simp; omega
        obtain ⟨T2, hT2⟩ : ∃ T2, T1 ++ [45] = T2 := ⟨_, rfl⟩
        have Ha1 := hid (fun W => run_sBc (numL n) 58 (by omega) W)
        have Ha2 := hid (fun W => run_sB T1 [45] (by simp; omega) W)
        rw [hT1] at Ha1 HT
        rw [hT2] at Ha2 HT
        clear hT1 hT2 hl0
        go_wp2_with fail
        refine (l1Num_any n _ hn10).mono ?_
        rintro e w3 ⟨rfl, hb3⟩
        have HB3 := hid (below_to HB2.out hb3)
        have ha1 := Ha1.out
        have ha2 : ∀ W, (Op.stringOp .add (sB T1) { data := #[45] }).run Tryd.prog W = .ok (.string (sB T2)) W := Ha2.out
        clear hb3 he
        go_wp2
        go_ret
        exact ⟨ret_s (by rw [HT.out]), HB3.out⟩
      · have hne : 1 ≤ l.length := by rw [← HL.out]; exact lsT_ne ps _ (by omega)
        have HT : Hid (textL n ps = (numL n ++ [58]) ++ l) := hid (by rw [textL, if_neg h0, HL.out])
        have he : (sB l).toList.isEmpty = false := by rw [sB_toList]; cases l with | nil => simp at hne | cons => rfl
        obtain ⟨T1, hT1⟩ : ∃ T1, numL n ++ [58] = T1 := ⟨_, rfl⟩
        have hT1l : T1.length ≤ 3 := by rw [← hT1]; simp; omega
        obtain ⟨T2, hT2⟩ : ∃ T2, T1 ++ l = T2 := ⟨_, rfl⟩
        have Ha1 := hid (fun W => run_sBc (numL n) 58 (by omega) W)
        have Ha2 := hid (fun W => run_sB T1 l (by omega) W)
        rw [hT1] at Ha1 HT
        rw [hT2] at Ha2 HT
        clear hT1 hT2
        go_wp2_with fail
        refine (l1Num_any n _ hn10).mono ?_
        rintro e w3 ⟨rfl, hb3⟩
        have HB3 := hid (below_to HB2.out hb3)
        have ha1 := Ha1.out
        have ha2 : ∀ W, (Op.stringOp .add (sB T1) (sB l)).run Tryd.prog W = .ok (.string (sB T2)) W := Ha2.out
        clear hb3 he
        go_wp2
        go_ret
        exact ⟨ret_s (by rw [HT.out]), HB3.out⟩
end Go.Proofs.YtiodligebnnodaaDoor
