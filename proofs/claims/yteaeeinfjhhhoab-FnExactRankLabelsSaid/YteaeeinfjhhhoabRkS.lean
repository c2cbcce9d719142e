/- RankLabels of the model. -/
import Derived.Test.YteaeeinfjhhhoabLwS
import Derived.Test.YteaeeinfjhhhoabLbN
import Derived.Test.YteaeeinfjhhhoabSam
namespace Go.Proofs.Yteaeeinfjhhhoab
open Go.RowKit Go.WideShapes Go.ChangeShapes
set_option linter.unusedVariables false

theorem ret_ibR {i j : Int} {a b : Bool} (h : i = j) (k : a = b) : Ending.returned (.tuple #[.int .i64 i, .bool a]) = .returned (.tuple #[.int .i64 j, .bool b]) := by rw [h, k]
/-- the place of f -/
def ixF (f : List Int) : List (List Int) → Nat
  | [] => 0
  | a :: l => if a = f then 0 else ixF f l + 1
theorem ixF_mem {f : List Int} {A : List (List Int)} (h : f ∈ A) : ixF f A < A.length ∧ A.getD (ixF f A) [] = f := by
  induction A with
  | nil => cases h
  | cons a l ih =>
    rw [ixF]
    by_cases e : a = f
    · rw [if_pos e]; exact ⟨by simp, by simpa [List.getD] using e⟩
    · rw [if_neg e]
      have h2 : f ∈ l := by
        rcases List.mem_cons.1 h with q | q
        · exact absurd q.symm e
        · exact q
      obtain ⟨k1, k2⟩ := ih h2
      exact ⟨by simp; omega, by simpa [List.getD] using k2⟩
theorem getD_rows {A : List (List Int)} {i : Nat} (h : i < A.length) : A.getD i [] = A[i] := by simp [List.getD, h]
theorem nodup_ne {A : List (List Int)} (hn : A.Nodup) {i j : Nat} (hi : i < A.length) (hj : j < A.length) (hne : i ≠ j) : A.getD i [] ≠ A.getD j [] := by
  rw [getD_rows hi, getD_rows hj]
  have hp := List.pairwise_iff_getElem.1 hn
  rcases Nat.lt_or_gt_of_ne hne with q | q
  · exact hp i j hi hj q
  · exact fun e => hp j i hj hi q e.symm
theorem allF_mem {xs f : List Int} {m : Nat} : f ∈ allF xs m ↔ labB xs f m 0 = true := by
  unfold allF
  rw [lbF_mem]
  constructor
  · rintro ⟨h1, -, h3⟩
    have h1' : f.length = xs.length := by simpa using h1
    refine labB_yes h1' fun e he => labAt_iff.2 ?_
    have := h3 e (Nat.zero_le _) (by simp; omega)
    exact ⟨this.2, this.1⟩
  · intro h
    obtain ⟨h1, h2⟩ := labB_all h
    refine ⟨by simpa using h1, fun j hj => by simp at hj, fun e _ he => ?_⟩
    have := labAt_iff.1 (h2 e (by rw [h1]; simpa using he))
    exact ⟨this.2, this.1⟩
/-- are these labels with a rank? -/
def rkB (xs f : List Int) (m : Int) : Bool := fewB xs m && labB xs f m 0
def ansRK6 (xs f : List Int) (m : Int) : Int := if rkB xs f m then (ixF f (allF xs m.toNat) : Int) else 0
theorem rkB_no {xs f : List Int} {m : Int} (h : fewB xs m = false) : rkB xs f m = false := by simp [rkB, h]
theorem ansRK6_no {xs f : List Int} {m : Int} (h : rkB xs f m = false) : ansRK6 xs f m = 0 := by simp [ansRK6, h]
theorem ansRK6_yes {xs f : List Int} {m : Nat} (h : rkB xs f m = true) : ansRK6 xs f m = (ixF f (allF xs m) : Int) := by
  unfold ansRK6; rw [if_pos h, Int.toNat_natCast]
/-- what the rank is -/
theorem rk_place {xs f : List Int} {m : Nat} (h : rkB xs f m = true) : ixF f (allF xs m) < (allF xs m).length ∧ (allF xs m).getD (ixF f (allF xs m)) [] = f ∧ ∀ j, j < (allF xs m).length → j ≠ ixF f (allF xs m) → (allF xs m).getD j [] ≠ f := by
  simp only [rkB, Bool.and_eq_true] at h
  obtain ⟨h1, h2⟩ := ixF_mem (allF_mem.2 h.2)
  refine ⟨h1, h2, fun j hj hne e => ?_⟩
  exact nodup_ne (lbF_nodup xs.length []) hj h1 hne (e.trans h2.symm)
set_option maxHeartbeats 800000 in
theorem specRankLabels_any (v : Value) (xs : List Int) (u : Value) (f : List Int) (m : Int) (w : World) (hv : Ints w v xs) (hl : xs.length ≤ 1048576) (hu : Ints w u f) (hm : f.length ≤ 1048576) (wf : (Lit.int .i64 m).wf = true) :
    Calls Try.prog 29 #[.agg #[v], u, .int .i64 m] w fun r w' => r = .returned (.tuple #[.int .i64 (ansRK6 xs f m), .bool (rkB xs f m)]) ∧ Below w.heap.size w w' := by
  have HV := hid hv
  have HU := hid hu
  clear hv hu wf
  cases hf : fewB xs m
  · have HF := hid hf
    have HO := hid (rkB_no (f := f) hf)
    have HN := hid (ansRK6_no HO.out)
    clear hf
    go_enter Try.func29, Try.ntmps29
    have HB := hid (below_alloc (Below.refl _ w) (.cells #[v] 28))
    have A0 := hid (At.newAt w v 28 w.heap.size (by simp))
    go_wp2_with fail
    refine (laFew_any _ xs _ _ (HV.out.below HB.out) hl).mono ?_
    rw [HF.out]
    rintro e w' ⟨rfl, hb⟩
    replace HB := hid (below_to HB.out hb)
    replace A0 := hid (A0.out.below hb)
    clear hb
    have ebox0 := A0.out.1
    go_wp2
    go_ret2
    exact ⟨ret_ibR HN.out.symm HO.out.symm, HB.out⟩
  obtain ⟨hg, M, rfl, hM, hN⟩ := fewB_all hf
  have HF := hid hf
  have HAre := hid (fun W hW hW2 => laAre_any v u xs f M 0 W hW hW2 hg hm hM (by omega) (by omega))
  cases hb : labB xs f M 0
  · have HO : Hid (rkB xs f M = false) := hid (by rw [rkB, hb, Bool.and_false])
    have HN := hid (ansRK6_no HO.out)
    rw [hb] at HAre
    clear hf hb
    go_enter Try.func29, Try.ntmps29
    have HB := hid (below_alloc (Below.refl _ w) (.cells #[v] 28))
    have A0 := hid (At.newAt w v 28 w.heap.size (by simp))
    go_wp2_with fail
    refine (laFew_any _ xs _ _ (HV.out.below HB.out) hl).mono ?_
    rw [HF.out]
    rintro e w' ⟨rfl, hb⟩
    replace HB := hid (below_to HB.out hb)
    replace A0 := hid (A0.out.below hb)
    clear hb
    have ebox0 := A0.out.1
    go_wp2_with fail
    clear ebox0
    refine (HAre.out _ (HV.out.below HB.out) (HU.out.below HB.out)).mono ?_
    rintro e w' ⟨rfl, hb⟩
    replace HB := hid (below_to HB.out hb)
    clear hb
    go_wp2
    go_ret2
    exact ⟨ret_ibR HN.out.symm HO.out.symm, HB.out⟩
  · have HO : Hid (rkB xs f M = true) := hid (by rw [rkB, hb, hf]; rfl)
    have HN := hid (ansRK6_yes HO.out)
    obtain ⟨hp1, hp2, hp3⟩ := rk_place HO.out
    have HAll := hid (fun W hW => laAll_any xs.length v (.slice none 0 0) xs [] M 1000 W hW ⟨none, 0, rfl, fun h => absurd rfl h⟩ hg (by simp) (fun j hj => by simp at hj) hM (by omega) (by omega))
    have HT : Hid ((lbF xs M xs.length []).take 1000 = allF xs M) := hid (List.take_of_length_le hN)
    have HRow := hid (fun i hi => (allF_row (xs := xs) (m := M) (i := i) hi).1)
    have hx10 := (good_length hg).2
    rw [HT.out] at HAll
    rw [hb] at HAre
    obtain ⟨A, hA⟩ : ∃ A, allF xs M = A := ⟨_, rfl⟩
    rw [hA] at HAll hN hp1 hp2 hp3 HN HRow
    obtain ⟨R, hR⟩ : ∃ R, ixF f A = R := ⟨_, rfl⟩
    rw [hR] at hp1 hp2 hp3 HN
    obtain ⟨N, hNe⟩ : ∃ N, A.length = N := ⟨_, rfl⟩
    have HNe := hid hNe
    rw [hNe] at hN hp1 hp3 HRow
    have HP2 := hid hp2
    have HP3 := hid hp3
    clear hf hb hA hR hNe hp2 hp3 hg
    go_enter Try.func29, Try.ntmps29
    have HB := hid (below_alloc (Below.refl _ w) (.cells #[v] 28))
    have A0 := hid (At.newAt w v 28 w.heap.size (by simp))
    go_wp2_with fail
    refine (laFew_any _ xs _ _ (HV.out.below HB.out) hl).mono ?_
    rw [HF.out]
    rintro e w' ⟨rfl, hb⟩
    replace HB := hid (below_to HB.out hb)
    replace A0 := hid (A0.out.below hb)
    clear hb
    have ebox0 := A0.out.1
    go_wp2_with fail
    clear ebox0
    refine (HAre.out _ (HV.out.below HB.out) (HU.out.below HB.out)).mono ?_
    rintro e w1 ⟨rfl, hb⟩
    replace HB := hid (below_to HB.out hb)
    have HA1 := hid (A0.out.below hb)
    clear hb
    have ebox1 := HA1.out.1
    go_wp2_with fail
    clear ebox1
    refine (HAll.out _ (HV.out.below HB.out)).mono ?_
    rintro e w2 ⟨q, rfl, ho, hb⟩
    replace HB := hid (below_to HB.out hb)
    obtain ⟨qA, qc, rfl, hrow⟩ := ho.rows
    rw [HNe.out] at hrow ⊢
    have HRw := hid hrow
    have HU2 := hid (HU.out.below HB.out)
    clear ho hb hrow
    go_wp2
    go_loopw [8, 26] (fun q i wr => ∃ k : Nat, k ≤ N ∧ i = .int .i64 k ∧ q = .int .i64 ((if R < k then R else 0 : Nat) : Int) ∧ Below w2.heap.size w2 wr) (fun _ i _ => N - (intOf i).toNat)
    case atStart => exact ⟨0, Nat.zero_le _, rfl, by simp, Below.refl _ _⟩
    case round =>
      obtain ⟨k, hk, rfl, rfl, hb⟩ := hrel
      have HB2 := hid hb
      clear hb
      obtain ⟨Q, hQ⟩ : ∃ Q, (if R < k then R else 0 : Nat) = Q := ⟨_, rfl⟩
      have HQ := hid hQ
      rw [hQ]
      clear hQ
      by_cases hlt : k < N
      · obtain ⟨b, y, rfl, hbl, hc, hown, -⟩ := HRw.out k hlt
        have hcell := (HB2.out.cell (p := ⟨b, k, none⟩) hbl).trans hc
        have HOw := hid (hown.ints.below HB2.out)
        clear hc hown
        have HLk := hid (HRow.out k hlt)
        by_cases hkR : k = R
        · have HS : Hid (sameL (A.getD k []) f = true) := hid (by unfold sameL; exact decide_eq_true (by rw [hkR]; exact HP2.out))
          have HQ2 : Hid ((if R < k + 1 then R else 0 : Nat) = k) := hid (by rw [if_pos (by omega)]; exact hkR.symm)
          clear hkR
          go_wp2_with fail
          clear hcell
          refine (l1SameL_any _ _ (A.getD k []) f _ HOw.out (HU2.out.below HB2.out) (by rw [HLk.out]; omega)).mono ?_
          rw [HS.out]
          rintro e w' ⟨rfl, hb⟩
          have HB3 := hid (below_to HB2.out hb)
          clear hb
          go_wp2
          go_roundw
          case rel => exact ⟨k + 1, by omega, by go_num, by rw [HQ2.out], HB3.out⟩
          case measure => simp [intOf]; omega
        · have HS : Hid (sameL (A.getD k []) f = false) := hid (by unfold sameL; exact decide_eq_false (HP3.out k hlt hkR))
          have HQ2 : Hid ((if R < k + 1 then R else 0 : Nat) = Q) := hid (by
            rw [← HQ.out]
            by_cases e : R < k
            · rw [if_pos e, if_pos (by omega)]
            · rw [if_neg e, if_neg (by omega)])
          clear hkR
          go_wp2_with fail
          clear hcell
          refine (l1SameL_any _ _ (A.getD k []) f _ HOw.out (HU2.out.below HB2.out) (by rw [HLk.out]; omega)).mono ?_
          rw [HS.out]
          rintro e w' ⟨rfl, hb⟩
          have HB3 := hid (below_to HB2.out hb)
          clear hb
          go_wp2
          go_roundw
          case rel => exact ⟨k + 1, by omega, by go_num, by rw [HQ2.out], HB3.out⟩
          case measure => simp [intOf]; omega
      · have HQR : Hid (Q = R) := hid (by rw [← HQ.out]; exact if_pos (by omega))
        go_wp2
        go_ret2
        exact ⟨ret_ibR (by rw [HN.out, HQR.out]) HO.out.symm, below_to HB.out HB2.out⟩
end Go.Proofs.Yteaeeinfjhhhoab
