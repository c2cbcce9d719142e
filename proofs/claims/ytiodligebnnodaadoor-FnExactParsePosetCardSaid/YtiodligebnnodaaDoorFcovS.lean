/- FromCovers of the model. -/
import Derived.Test.YtiodligebnnodaaDoorFcov
namespace Go.Proofs.YtiodligebnnodaaDoor
open Go.RowKit Go.WideShapes Go.ChangeShapes
set_option linter.unusedVariables false

def prOf (l : List Int) : Nat × Nat := ((l.getD 0 0).toNat, (l.getD 1 0).toNat)
def okPr (n : Nat) (l : List Int) : Bool := decide (l.length = 2) && (inW n l && decide (l.getD 0 0 < l.getD 1 0))
def okFC (n : Int) (ls : List (List Int)) : Bool := (decide (1 ≤ n) && decide (n ≤ 10)) && (decide (ls.length ≤ 100) && ls.all (okPr n.toNat))
def fcL (n : Int) (ls : List (List Int)) : List Int := if okFC n ls then fromL n.toNat (ls.map prOf) else []
theorem okFC_no1 {n : Int} {ls : List (List Int)} (h : (decide (1 ≤ n) && decide (n ≤ 10)) = false) : okFC n ls = false := by simp only [okFC, h]; rfl
theorem okFC_no2 {n : Int} {ls : List (List Int)} (h : 100 < ls.length) : okFC n ls = false := by simp [okFC, show ¬ ls.length ≤ 100 by omega]
theorem okFC_no3 {n : Int} {ls : List (List Int)} {k : Nat} (hk : k < ls.length) (h : okPr n.toNat (ls.getD k []) = false) : okFC n ls = false := by
  rw [Bool.eq_false_iff]
  intro hc
  simp only [okFC, Bool.and_eq_true] at hc
  have := List.all_eq_true.1 hc.2.2 (ls.getD k []) (by simp [List.getD, hk])
  rw [h] at this; cases this
theorem okFC_yes {n : Nat} {ls : List (List Int)} (h : (decide (1 ≤ (n : Int)) && decide ((n : Int) ≤ 10)) = true) (hl : ls.length ≤ 100) (ha : ∀ j, j < ls.length → okPr n (ls.getD j []) = true) : okFC n ls = true := by
  simp only [okFC, h, Bool.true_and, Bool.and_eq_true, decide_eq_true_eq]
  refine ⟨hl, List.all_eq_true.2 fun l hl' => ?_⟩
  obtain ⟨j, hj, rfl⟩ := List.mem_iff_getElem.1 hl'
  have := ha j hj
  simpa [List.getD, hj] using this
theorem fcL_no {n : Int} {ls : List (List Int)} (h : okFC n ls = false) : fcL n ls = [] := by simp [fcL, h]
theorem fcL_yes {n : Nat} {ls : List (List Int)} (h : okFC n ls = true) : fcL n ls = fromL n (ls.map prOf) := by simp [fcL, h]
theorem fcL_length (n : Int) (ls : List (List Int)) : (fcL n ls).length ≤ 1048576 := by
  unfold fcL
  split
  · rename_i h
    simp only [okFC, Bool.and_eq_true, decide_eq_true_eq] at h
    unfold fromL
    rw [mkL_length]
    omega
  · simp
theorem okPr_facts {n : Nat} {l : List Int} (h : okPr n l = true) : l.length = 2 ∧ ∃ a b : Nat, l.getD 0 0 = a ∧ l.getD 1 0 = b ∧ a < b ∧ b < n ∧ prOf l = (a, b) := by
  simp only [okPr, Bool.and_eq_true, decide_eq_true_eq] at h
  obtain ⟨h1, h2, h3⟩ := h
  obtain ⟨a1, a2⟩ := inW_at h2 (show 0 < l.length by omega)
  obtain ⟨b1, b2⟩ := inW_at h2 (show 1 < l.length by omega)
  obtain ⟨a, ha⟩ := Int.eq_ofNat_of_zero_le a1
  obtain ⟨b, hb⟩ := Int.eq_ofNat_of_zero_le b1
  refine ⟨h1, a, b, ha, hb, by omega, by omega, ?_⟩
  unfold prOf
  rw [ha, hb]; rfl
theorem prs_getD (ls : List (List Int)) (j : Nat) (hj : j < ls.length) : (ls.map prOf).getD j (0, 0) = prOf (ls.getD j []) := by
  simp [List.getD, hj]
theorem okPr_up {n : Nat} {ls : List (List Int)} (ha : ∀ j, j < ls.length → okPr n (ls.getD j []) = true) : UpPairs n (ls.map prOf) := by
  intro k hk
  rw [List.length_map] at hk
  obtain ⟨-, a, b, -, -, h1, h2, h3⟩ := okPr_facts (ha k hk)
  rw [prs_getD ls k hk, h3]
  exact ⟨h1, h2⟩
theorem up_ok {n : Nat} {ps : List (Nat × Nat)} (h : UpPairs n ps) : PairsOk n ps := fun k hk => by have := h k hk; omega
theorem okPr_read {n : Nat} {w : World} {v : Value} {ls : List (List Int)} (hv : IntsSS w v ls) (ha : ∀ j, j < ls.length → okPr n (ls.getD j []) = true) : PairsR w v (ls.map prOf) := by
  obtain ⟨A, c, rfl, h⟩ := hv
  refine ⟨A, c, by rw [List.length_map], fun j hj => ?_⟩
  rw [List.length_map] at hj
  obtain ⟨b, o, u, rfl, hb, hc, hi⟩ := h j hj
  obtain ⟨h1, x, y, hx, hy, -, -, h3⟩ := okPr_facts (ha j hj)
  obtain ⟨A', m, rfl, h4⟩ := hi
  obtain ⟨g, p, rfl, hg, hcell⟩ := h4 (by intro e; rw [e] at h1; simp at h1)
  rw [prs_getD ls j hj, h3]
  refine ⟨b, o, g, p, m, rfl, hb, hg, by rw [hc, h1], ?_, ?_⟩
  · have := hcell 0 (by omega); rw [hx] at this; simpa using this
  · have := hcell 1 (by omega); rw [hy] at this; exact this
set_option maxHeartbeats 3200000 in
theorem specFromCovers_any (n : Int) (v : Value) (ls : List (List Int)) (w : World) (wf : (Lit.int .i64 n).wf = true) (hv : IntsSS w v ls) (hs : SSmall ls) :
    Calls Tryd.prog 20 #[.int .i64 n, v] w fun (r : Ending) w' => ∃ q, r = Ending.returned (.tuple #[.agg #[q], .bool (okFC n ls)]) ∧ OwnI 3 w' w.heap.size q (fcL n ls) ∧ (fcL n ls).length ≤ 1048576 ∧ Below w.heap.size w w' := by
  have HV := hid hv
  obtain ⟨A, c, rfl, hA⟩ := hv
  have HA := hid hA
  have HL := hid (fcL_length n ls)
  have hl := hs.1
  have HR := hid hs.2.1
  clear hA hs wf
  have HZ0 := hid (Blk.new w 24 #[.slice none 0 0])
  have HB0 := hid (below_alloc (Below.refl _ w) (.cells #[.slice none 0 0] 24))
  obtain ⟨W, hW⟩ : ∃ W, w.alloc (.cells #[.slice none 0 0] 24) = W := ⟨_, rfl⟩
  rw [hW] at HZ0 HB0
  have t1 := HZ0.out.cell 0
  have t2 := HZ0.out.frozen 0
  cases hn : (decide (1 ≤ n) && decide (n ≤ 10))
  · have HD := hid hn
    have HF := hid (okFC_no1 (ls := ls) hn)
    clear hn
    go_enter Tryd.func20, Tryd.ntmps20
    go_wp2_with (go_at_call 31; refine (l1In_any _ _ _ _).mono ?_; rw [HD.out]; rintro e w' ⟨rfl, rfl⟩)
    refine bodyPost_ret (v := .tuple #[.agg #[.slice none 0 0], .bool false]) (by simp [results, Tryd.results20, go_sem, t1]) rfl ⟨_, by rw [HF.out], by rw [fcL_no HF.out]; exact OwnI.nil _ _ _, HL.out, ?_⟩
    exact HB0.out.setCell (p := ⟨w.heap.size, 0, none⟩) (Nat.le_refl _) _
  · have HD := hid hn
    obtain ⟨m, rfl⟩ := Int.eq_ofNat_of_zero_le (show 0 ≤ n by simp at hn; omega)
    have hm1 : 1 ≤ m ∧ m ≤ 10 := by simp at hn; omega
    clear hn
    by_cases h100 : 100 < ls.length
    · have HF := hid (okFC_no2 (n := m) h100)
      have h100' : (100 : Int) < ls.length := by omega
      go_enter Tryd.func20, Tryd.ntmps20
      go_wp2_with (go_at_call 31; refine (l1In_any _ _ _ _).mono ?_; rw [HD.out]; rintro e w' ⟨rfl, rfl⟩)
      refine bodyPost_ret (v := .tuple #[.agg #[.slice none 0 0], .bool false]) (by simp [results, Tryd.results20, go_sem, t1]) rfl ⟨_, by rw [HF.out], by rw [fcL_no HF.out]; exact OwnI.nil _ _ _, HL.out, ?_⟩
      exact HB0.out.setCell (p := ⟨w.heap.size, 0, none⟩) (Nat.le_refl _) _
    · have h100' : ¬ (100 : Int) < ls.length := by omega
      go_enter Tryd.func20, Tryd.ntmps20
      go_wp2_with (go_at_call 31; refine (l1In_any _ _ _ _).mono ?_; rw [HD.out]; rintro e w' ⟨rfl, rfl⟩)
      clear t1 t2
      go_loopw [19] (fun i wr => ∃ k : Nat, k ≤ ls.length ∧ i = .int .i64 k ∧ Hid (∀ j, j < k → okPr m (ls.getD j []) = true) ∧ Blk wr w.heap.size 24 #[.slice none 0 0] ∧ Below w.heap.size w wr) (fun i _ => ls.length - (intOf i).toNat)
      case atStart => exact ⟨0, Nat.zero_le _, rfl, hid (fun j hj => absurd hj (Nat.not_lt_zero _)), HZ0.out, HB0.out⟩
      case round =>
        obtain ⟨k, hk, rfl, HK, hz, hb⟩ := hrel
        have HZ := hid hz
        have HB := hid hb
        have z1 := hz.cell 0
        have z2 := hz.frozen 0
        have z3 := hz.lt
        by_cases hkl : k < ls.length
        · obtain ⟨b, o, u, rfl, hbl, hc, hi⟩ := HA.out k hkl
          have hcell : wr.cell? ⟨b, o + k, none⟩ = some u := (hb.cell (p := ⟨b, o + k, none⟩) hbl).trans hc
          have HI := hid (hi.below hb)
          have HLn := hid (HR.out k hkl)
          obtain ⟨l, hll⟩ : ∃ l, ls.getD k [] = l := ⟨_, rfl⟩
          rw [hll] at HI HLn
          have Hll := hid hll
          obtain ⟨A', m', rfl, hA'⟩ := HI.out
          have HA' := hid hA'
          clear hc hi hb hz hll hA'
          by_cases h2 : l.length = 2
          · have H2 := hid h2
            rw [h2] at hcell
            have HI2 : Hid (Ints wr (.slice A' 2 m') l) := hid (by rw [← h2]; exact HI.out)
            have hne2 : ((2 : Int) != 2) = false := rfl
            have HWm : Hid (IntKind.i64.wrap ((m : Int) - 1) = (m : Int) - 1) := hid (IntWalk.i64_in _ (by omega))
            clear h2
            cases hin : inW m l
            · have HIn := hid hin
              have HF : Hid (okFC m ls = false) := hid (okFC_no3 hkl (by rw [Hll.out]; show okPr m l = false; simp [okPr, hin]))
              clear hin
              have hwm := HWm.out
              go_wp2_with fail
              go_quiet ((go_at_call 32; exact Calls.quiet_of_same ((l1All_same _ l m _ (HI2.out.drewN _) HLn.out (by omega)).mono fun _ _ ⟨a, b⟩ => ⟨a.trans (by rw [HIn.out]), b.symm⟩)))
              go_wp2
              (refine bodyPost_ret (v := .tuple #[.agg #[.slice none 0 0], .bool false]) (by simp [results, Tryd.results20, go_sem, z1]) rfl ⟨_, by rw [HF.out], by rw [fcL_no HF.out]; exact OwnI.nil _ _ _, HL.out, ?_⟩)
              exact (below_drewN HB.out _).setCell (p := ⟨w.heap.size, 0, none⟩) (Nat.le_refl _) _
            · have HIn := hid hin
              obtain ⟨g, p, rfl, hg, hpc⟩ := HA'.out (by intro e; have := H2.out; rw [e] at this; simp at this)
              have c0 : wr.cell? ⟨g, p, none⟩ = some (.int .i64 (l.getD 0 0)) := by have := hpc 0 (by rw [H2.out]; decide); simpa using this
              have c1 : wr.cell? ⟨g, p + 1, none⟩ = some (.int .i64 (l.getD 1 0)) := hpc 1 (by rw [H2.out]; decide)
              obtain ⟨x, hx⟩ : ∃ x, l.getD 0 0 = x := ⟨_, rfl⟩
              obtain ⟨y, hy⟩ : ∃ y, l.getD 1 0 = y := ⟨_, rfl⟩
              have HOp : Hid (okPr m l = decide (x < y)) := hid (by simp only [okPr, H2.out, hin, hx, hy]; rfl)
              rw [hx] at c0
              rw [hy] at c1
              clear hin hpc hx hy
              by_cases hxy : x < y
              · have hxy' : ¬ y ≤ x := by omega
                have HK2 : Hid (∀ j, j < k + 1 → okPr m (ls.getD j []) = true) := hid (fun j hj => by
                  by_cases e : j = k
                  · subst e; rw [Hll.out, HOp.out]; exact decide_eq_true hxy
                  · exact HK.out j (by omega))
                have hwm := HWm.out
                go_wp2_with fail
                go_quiet ((go_at_call 32; exact Calls.quiet_of_same ((l1All_same _ l m _ (HI2.out.drewN _) HLn.out (by omega)).mono fun _ _ ⟨a, b⟩ => ⟨a.trans (by rw [HIn.out]), b.symm⟩)))
                clear hwm
                go_wp2
                go_roundw
                case rel => exact ⟨k + 1, by omega, by go_num, HK2, (show Blk (wr.drewN _) _ _ _ from HZ.out), below_drewN HB.out _⟩
                case measure => simp [intOf]; omega
              · have hxy' : y ≤ x := by omega
                have HF : Hid (okFC m ls = false) := hid (okFC_no3 hkl (by rw [Hll.out]; show okPr m l = false; rw [HOp.out]; exact decide_eq_false hxy))
                have hwm := HWm.out
                go_wp2_with fail
                go_quiet ((go_at_call 32; exact Calls.quiet_of_same ((l1All_same _ l m _ (HI2.out.drewN _) HLn.out (by omega)).mono fun _ _ ⟨a, b⟩ => ⟨a.trans (by rw [HIn.out]), b.symm⟩)))
                go_wp2
                (refine bodyPost_ret (v := .tuple #[.agg #[.slice none 0 0], .bool false]) (by simp [results, Tryd.results20, go_sem, z1]) rfl ⟨_, by rw [HF.out], by rw [fcL_no HF.out]; exact OwnI.nil _ _ _, HL.out, ?_⟩)
                exact (below_drewN HB.out _).setCell (p := ⟨w.heap.size, 0, none⟩) (Nat.le_refl _) _
          · have HF : Hid (okFC m ls = false) := hid (okFC_no3 hkl (by rw [Hll.out]; simp [okPr, h2]))
            have hne2 : ((l.length : Int) != 2) = true := by rw [bne_iff_ne]; omega
            clear h2
            go_wp2_with fail
            go_quiet (fail)
            go_wp2
            refine bodyPost_ret (v := .tuple #[.agg #[.slice none 0 0], .bool false]) (by simp [results, Tryd.results20, go_sem, z1]) rfl ⟨_, by rw [HF.out], by rw [fcL_no HF.out]; exact OwnI.nil _ _ _, HL.out, ?_⟩
            exact (below_drewN HB.out _).setCell (p := ⟨w.heap.size, 0, none⟩) (Nat.le_refl _) _
        · obtain rfl : k = ls.length := by omega
          have HF : Hid (okFC m ls = true) := hid (okFC_yes HD.out (by omega) HK.out)
          have HPR := hid (okPr_read (HV.out.below hb) HK.out)
          have hml : (ls.map prOf).length ≤ 1048576 := by rw [List.length_map]; omega
          have HUp := hid (up_ok (okPr_up HK.out))
          clear hb hz
          go_wp2_with fail
          refine (poFromR_any _ (ls.map prOf) m _ HPR.out hm1.2 HUp.out hml).mono ?_
          rintro e w2 ⟨q, rfl, ho, hb2⟩
          have y1 := (HZ.out.below hb2 z3).cell 0
          have y2 := (HZ.out.below hb2 z3).frozen 0
          have HB2 := hid (below_to HB.out hb2)
          have HO := hid ho
          obtain ⟨qA, qn, qc, rfl⟩ := ho.shape3
          clear z1 z2 hb2 ho
          go_wp2
          refine bodyPost_ret (v := .tuple #[.agg #[.slice qA qn qc], .bool true]) (by simp [results, Tryd.results20, go_sem, y1]) rfl ⟨_, by rw [HF.out], ?_, HL.out, ?_⟩
          · rw [fcL_yes HF.out]
            exact (HO.out.grown (grown_setCell (g := w.heap.size) (World.grownBy.refl _ _) 0 _) (HO.out.apart (.inl z3))).mono (Nat.le_of_lt z3)
          · exact HB2.out.setCell (p := ⟨w.heap.size, 0, none⟩) (Nat.le_refl _) _
end Go.Proofs.YtiodligebnnodaaDoor
