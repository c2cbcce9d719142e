/- Rowmotion, RowmotionBack, RowmotionTimes. -/
import Derived.Test.YtbjidoihnbjjdaaUndo
namespace Go.Proofs.Ytbjidoihnbjjdaa
open Go.RowKit Go.WideShapes Go.ChangeShapes
set_option linter.unusedVariables false

/-! ### what is asked of the number of motions -/
def okK (k : Int) : Bool := decide (-1000 ≤ k) && decide (k ≤ 1000)
def okRT (xs : List Int) (s k : Int) : Bool := okIdeal xs s && okK k
def rowK (xs : List Int) (s : Nat) (k : Int) : Nat := if 0 ≤ k then iter (rowmo xs) k.toNat s else iter (rowba xs) (-k).toNat s
def ansRT (xs : List Int) (s k : Int) : Int := if okRT xs s k then (rowK xs s.toNat k : Int) else 0
theorem okRT_no1 {xs : List Int} {s k : Int} (h : okIdeal xs s = false) : okRT xs s k = false := by simp [okRT, h]
theorem okRT_no2 {xs : List Int} {s k : Int} (h : okK k = false) : okRT xs s k = false := by simp [okRT, h]
theorem okRT_yes {xs : List Int} {s k : Int} (h : okIdeal xs s = true) (g : okK k = true) : okRT xs s k = true := by simp [okRT, h, g]
theorem ansRT_no {xs : List Int} {s k : Int} (h : okRT xs s k = false) : ansRT xs s k = 0 := by simp [ansRT, h]
theorem ansRT_pos {xs : List Int} {z n : Nat} (h : okRT xs z n = true) : ansRT xs z n = (iter (rowmo xs) n z : Int) := by
  simp [ansRT, h, rowK]
theorem ansRT_neg {xs : List Int} {z : Nat} {k : Int} {n : Nat} (h : okRT xs z k = true) (hk : k < 0) (hn : -k = n) : ansRT xs z k = (iter (rowba xs) n z : Int) := by
  have h2 : ¬ 0 ≤ k := by omega
  simp [ansRT, h, rowK, h2, hn]
theorem okK_no {k : Int} (h : ¬ (-1000 ≤ k ∧ k ≤ 1000)) : okK k = false := by
  rw [Bool.eq_false_iff]; simp only [okK, ne_eq, Bool.and_eq_true, decide_eq_true_eq]; exact h
theorem okK_yes {k : Int} (h : -1000 ≤ k ∧ k ≤ 1000) : okK k = true := by
  simp only [okK, Bool.and_eq_true, decide_eq_true_eq]; exact h
theorem okK_of {k : Int} (h : okK k = true) : -1000 ≤ k ∧ k ≤ 1000 := by simpa [okK] using h
set_option maxHeartbeats 800000 in
theorem implRowmotionTimes_any (v : Value) (xs : List Int) (s k : Int) (w : World) (hv : Ints w v xs) (hl : xs.length ≤ 1048576) (wf : (Lit.int .i64 s).wf = true) (wfk : (Lit.int .i64 k).wf = true) :
    Calls Try.prog 76 #[.agg #[v], .int .i64 s, .int .i64 k] w fun r w' => r = .returned (.tuple #[.int .i64 (ansRT xs s k), .bool (okRT xs s k)]) ∧ Below w.heap.size w w' := by
  have HV := hid hv
  clear hv wf wfk
  go_enter Try.func76, Try.ntmps76
  have HB := hid (below_alloc (Below.refl _ w) (.cells #[v] 28))
  have A0 := hid (At.newAt w v 28 w.heap.size (by simp))
  go_wp2_with fail
  refine (hasIdeal_any _ xs s _ (HV.out.below HB.out) hl).mono ?_
  rintro e w' ⟨rfl, hb⟩
  replace HB := hid (below_to HB.out hb)
  replace A0 := hid (A0.out.below hb)
  clear hb
  cases hq : okIdeal xs s
  · have HO := hid (okRT_no1 (k := k) hq)
    clear hq
    have ebox0 := A0.out.1
    go_wp2
    go_ret2
    exact ⟨ret_ib (ansRT_no HO.out).symm HO.out.symm, HB.out⟩
  · have HQ := hid hq
    clear hq
    obtain ⟨z, rfl, h3, h4, h5⟩ := okIdeal_all HQ.out
    have HG := hid h3
    have HN := hid h4
    clear h3 h4 h5
    by_cases h1 : k < -1000
    · have HO := hid (okRT_no2 (xs := xs) (s := z) (okK_no (show ¬ (-1000 ≤ k ∧ k ≤ 1000) by omega)))
      have ebox0 := A0.out.1
      go_wp2
      go_ret2
      exact ⟨ret_ib (ansRT_no HO.out).symm HO.out.symm, HB.out⟩
    · by_cases h2 : 1000 < k
      · have HO := hid (okRT_no2 (xs := xs) (s := z) (okK_no (show ¬ (-1000 ≤ k ∧ k ≤ 1000) by omega)))
        have ebox0 := A0.out.1
        go_wp2
        go_ret2
        exact ⟨ret_ib (ansRT_no HO.out).symm HO.out.symm, HB.out⟩
      · have HO := hid (okRT_yes HQ.out (okK_yes (show -1000 ≤ k ∧ k ≤ 1000 by omega)))
        by_cases h3 : k < 0
        · obtain ⟨n, hn⟩ := Int.eq_ofNat_of_zero_le (show 0 ≤ -k by omega)
          have HA := hid (ansRT_neg HO.out h3 hn)
          have hn1 : n ≤ 1000 := by omega
          have hw : IntKind.i64.wrap (-k) = (n : Int) := by rw [IntWalk.i64_in _ (by omega)]; exact hn
          have hneg : k = -(n : Int) := by omega
          clear hn
          subst hneg
          have hnn : - -(n : Int) = (n : Int) := by omega
          rw [hnn] at hw
          have ebox0 := A0.out.1
          go_wp2
          have hbx0 := A0.out.1
          go_region_with (first | (go_at_call 94; refine (undoneRow_any _).mono ?_; rintro e w1 ⟨rfl, hb1⟩; have H1 := hid (below_to HB.out.drew hb1); have hbx := (A0.out.drew.below hb1).1; clear hb1) | (go_at_call 93; refine (repeatedBack_any _ xs z n _ (HV.out.below H1.out) HG.out HN.out hn1).mono ?_; rintro e w2 ⟨rfl, hb2⟩; have H2 := hid (below_to H1.out hb2); clear hb2))
          all_goals go_wp2
          all_goals go_ret2
          all_goals exact ⟨ret_ib HA.out.symm HO.out.symm, H2.out⟩
        · obtain ⟨n, rfl⟩ := Int.eq_ofNat_of_zero_le (show 0 ≤ k by omega)
          have HA := hid (ansRT_pos HO.out)
          have ebox0 := A0.out.1
          go_wp2_with fail
          clear ebox0
          refine (repeatedRow_any _ xs z n _ (HV.out.below HB.out) HG.out HN.out (by omega)).mono ?_
          rintro e w' ⟨rfl, hb⟩
          replace HB := hid (below_to HB.out hb)
          replace A0 := hid (A0.out.below hb)
          clear hb
          have ebox0 := A0.out.1
          go_wp2
          go_ret2
          exact ⟨ret_ib HA.out.symm HO.out.symm, HB.out⟩

/-! ### one motion -/
def ansRow (xs : List Int) (s : Int) (f : List Int → Nat → Nat) : Int := if okIdeal xs s then (f xs s.toNat : Int) else 0
theorem ansRow_no {xs : List Int} {s : Int} {f : List Int → Nat → Nat} (h : okIdeal xs s = false) : ansRow xs s f = 0 := by simp [ansRow, h]
theorem ansRow_yes {xs : List Int} {z : Nat} {f : List Int → Nat → Nat} (h : okIdeal xs z = true) : ansRow xs z f = (f xs z : Int) := by simp [ansRow, h]
theorem ansRT_one (xs : List Int) (s : Int) : ansRT xs s 1 = ansRow xs s rowmo ∧ okRT xs s 1 = okIdeal xs s := by
  have : okRT xs s 1 = okIdeal xs s := by simp [okRT, okK]
  refine ⟨?_, this⟩
  unfold ansRT ansRow
  rw [this]
  rfl
theorem ansRT_mone (xs : List Int) (s : Int) : ansRT xs s (-1) = ansRow xs s rowba ∧ okRT xs s (-1) = okIdeal xs s := by
  have : okRT xs s (-1) = okIdeal xs s := by simp [okRT, okK]
  refine ⟨?_, this⟩
  unfold ansRT ansRow
  rw [this]
  rfl
theorem implRowmotion_any (v : Value) (xs : List Int) (s : Int) (w : World) (hv : Ints w v xs) (hl : xs.length ≤ 1048576) (wf : (Lit.int .i64 s).wf = true) :
    Calls Try.prog 43 #[.agg #[v], .int .i64 s] w fun r w' => r = .returned (.tuple #[.int .i64 (ansRow xs s rowmo), .bool (okIdeal xs s)]) ∧ Below w.heap.size w w' := by
  have HV := hid hv
  have WF := hid wf
  have H1 := hid (ansRT_one xs s)
  clear hv wf
  go_enter Try.func43, Try.ntmps43
  have HB := hid (below_alloc (Below.refl _ w) (.cells #[v] 28))
  have A0 := hid (At.newAt w v 28 w.heap.size (by simp))
  go_wp2_with fail
  refine (implRowmotionTimes_any _ xs s 1 _ (HV.out.below HB.out) hl WF.out (by decide)).mono ?_
  rintro e w' ⟨rfl, hb⟩
  replace HB := hid (below_to HB.out hb)
  replace A0 := hid (A0.out.below hb)
  clear hb
  have ebox0 := A0.out.1
  go_wp2
  go_ret2
  exact ⟨ret_ib H1.out.1 H1.out.2, HB.out⟩
theorem specRowmotion_any (v : Value) (xs : List Int) (s : Int) (w : World) (hv : Ints w v xs) (hl : xs.length ≤ 1048576) (wf : (Lit.int .i64 s).wf = true) :
    Calls Try.prog 42 #[.agg #[v], .int .i64 s] w fun r w' => r = .returned (.tuple #[.int .i64 (ansRow xs s rowmo), .bool (okIdeal xs s)]) ∧ Below w.heap.size w w' := by
  have HV := hid hv
  clear hv wf
  go_enter Try.func42, Try.ntmps42
  have HB := hid (below_alloc (Below.refl _ w) (.cells #[v] 28))
  have A0 := hid (At.newAt w v 28 w.heap.size (by simp))
  go_wp2_with fail
  refine (tgIn_any _ xs s _ (HV.out.below HB.out) hl).mono ?_
  rintro e w' ⟨rfl, hb⟩
  replace HB := hid (below_to HB.out hb)
  replace A0 := hid (A0.out.below hb)
  clear hb
  cases hq : okIdeal xs s
  · have HQ := hid hq
    clear hq
    have ebox0 := A0.out.1
    go_wp2
    go_ret2
    exact ⟨ret_ib (ansRow_no HQ.out).symm HQ.out.symm, HB.out⟩
  · have HQ := hid hq
    clear hq
    obtain ⟨z, rfl, h3, h4, h5⟩ := okIdeal_all HQ.out
    have HG := hid h3
    have HN := hid h4
    clear h3 h4 h5
    have ebox0 := A0.out.1
    go_wp2_with fail
    clear ebox0
    refine (tgRow_any _ xs z _ (HV.out.below HB.out) HG.out HN.out).mono ?_
    rintro e w' ⟨rfl, hb⟩
    replace HB := hid (below_to HB.out hb)
    replace A0 := hid (A0.out.below hb)
    clear hb
    have ebox0 := A0.out.1
    go_wp2
    go_ret2
    exact ⟨ret_ib (ansRow_yes HQ.out).symm HQ.out.symm, HB.out⟩
end Go.Proofs.Ytbjidoihnbjjdaa
