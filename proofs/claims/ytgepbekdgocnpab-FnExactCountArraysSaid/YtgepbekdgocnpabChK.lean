/- Chains counted by the program: CountLabels and CountStrict. -/
import Derived.Test.YtgepbekdgocnpabChCs
import Derived.Test.YtgepbekdgocnpabChG
import Derived.Test.YtgepbekdgocnpabChU
namespace Go.Proofs.Ytgepbekdgocnpab
open Go.RowKit Go.WideShapes Go.ChangeShapes
set_option linter.unusedVariables false

theorem wholeI_any (P fb n : Nat) (vi vb fv : Value) (ids : List Int) (bl : List (List Int)) (c : Nat → Nat) (w : World) (h : ChJ 82 w P fb vi vb fv ids bl (mkL n c)) (hn1 : 1 ≤ n) (hn : n ≤ 1024) :
    Calls Try.prog 75 #[.pointer (some ⟨P, 0, none⟩)] w fun (r : Ending) w' => r = Ending.returned (.int .i64 (c (n - 1) : Nat)) ∧ Below w.heap.size w w' := by
  obtain ⟨vc, hP, hI, hB, hC⟩ := h.here
  obtain ⟨cA, cc, rfl, hcells⟩ := hC
  rw [mkL_length] at hP hcells
  obtain ⟨cb, co, rfl, hcl, hcc⟩ := hcells (by intro h; have := congrArg List.length h; rw [mkL_length, List.length_nil] at this; omega)
  have hc1 := hcc (n - 1) (by omega)
  rw [mkL_getD (by omega)] at hc1
  have hp2 : w.cell? ⟨P, 2, none⟩ = some (.slice (some ⟨cb, co, none⟩) n cc) := by rw [hP.cell]; rfl
  have hnw : IntKind.i64.wrap ((n : Int) - 1) = ((n - 1 : Nat) : Int) := by rw [IntWalk.i64_in _ (by omega)]; omega
  have hPl := hP.lt
  obtain ⟨m, hm⟩ : ∃ m, n - 1 = m := ⟨_, rfl⟩
  rw [hm] at hc1 hnw ⊢
  have hmn : m < n := by omega
  obtain ⟨y, hy⟩ : ∃ y, c m = y := ⟨_, rfl⟩
  rw [hy] at hc1 ⊢
  clear hcells hcc hI hB hP h hm hy
  go_enter Try.func75, Try.ntmps75
  go_wp2
  go_region
  go_wp2
  go_ret
  exact ⟨rfl, by first | exact Below.refl _ _ | exact below_drewN (Below.refl _ _) 1⟩
theorem stpB_false (xs : List Int) : stpB xs false = wk := by funext s t; rfl
theorem stpB_true (xs : List Int) : stpB xs true = stk xs := by funext s t; rfl
/-- chains to the i-th ideal -/
def cN (xs : List Int) (stp : Nat → Nat → Bool) (k i : Nat) : Nat := chN (onId xs stp) (2 ^ xs.length) k (idA xs i)
def stI (xs : List Int) (stp : Nat → Nat → Bool) (j i : Nat) : Bool := stp (idA xs j) (idA xs i)
theorem blCh_rows (xs : List Int) (stp : Nat → Nat → Bool) : blCh xs stp = rowsSt (stI xs stp) (idN xs).length := rfl
theorem cN_next {xs : List Int} {stp : Nat → Nat → Bool} (hle : ∀ s t, stp s t = true → s ≤ t) (k : Nat) {i : Nat} (hi : i < (idN xs).length) : nxN (stI xs stp) (cN xs stp k) i = cN xs stp (k + 1) i := (chN_list hle k hi).symm
theorem c0_cN {xs : List Int} (stp : Nat → Nat → Bool) : c0 xs = mkL (idN xs).length (cN xs stp 0) := mkL_congr fun i hi => by
  unfold cN chN
  by_cases e : i = 0
  · subst e; rw [idA_zero]
  · rw [if_neg e, if_neg]
    intro h
    have := idA_lt (xs := xs) (show 0 < i by omega) hi
    omega
theorem cN_last {xs : List Int} (hg : good xs = true) (stp : Nat → Nat → Bool) (k : Nat) : cN xs stp k ((idN xs).length - 1) = chN (onId xs stp) (2 ^ xs.length) k (2 ^ xs.length - 1) := by
  unfold cN; rw [idA_last hg]
theorem cN_small {xs : List Int} (hg : good xs = true) {stp : Nat → Nat → Bool} (hp : ∀ s t, stp s t = true → sub s t = 0) {k i : Nat} (hk : k ≤ 13) (hi : i < (idN xs).length) : cN xs stp k i ≤ 137858491849 :=
  chN_small (good_length hg).2 (fun s t h => by unfold onId at h; simp only [Bool.and_eq_true] at h; exact hp s t h.2) hk (idA_mem hi).1
set_option maxHeartbeats 1600000 in
theorem countWk_any (v : Value) (xs : List Int) (S : Nat) (w : World) (hv : Ints w v xs) (hg : good xs = true) (hS : S ≤ 13) :
    Calls Try.prog 60 #[.agg #[v], .int .i64 S, .func (.func 61) #[] #[]] w fun (r : Ending) w' => r = Ending.returned (.int .i64 (cnt xs false S (2 ^ xs.length - 1) : Nat)) ∧ Below w.heap.size w w' := by
  have HV := hid hv
  have HCo := hid (fun W hW => chainsWk_any v xs W hW hg)
  have hn1 : 1 ≤ (idN xs).length := idN_pos xs
  have hn2 := idN_le hg
  have HNx := hid (fun k i (hi : i < (idN xs).length) => cN_next (stp := wk) wk_le k hi)
  have HSm := hid (fun k i (hk : k ≤ 13) (hi : i < (idN xs).length) => cN_small hg (stp := wk) (fun s t h => by simpa [wk] using h) hk hi)
  have HLa : Hid (cN xs wk S ((idN xs).length - 1) = cnt xs false S (2 ^ xs.length - 1)) := hid (by rw [cN_last hg]; unfold cnt; rw [stpB_false])
  rw [blCh_rows, c0_cN wk] at HCo
  obtain ⟨n, hn⟩ : ∃ n, (idN xs).length = n := ⟨_, rfl⟩
  rw [hn] at HCo hn1 hn2 HNx HSm HLa
  clear hv hg hn
  go_enter Try.func60, Try.ntmps60
  have HB := hid (below_alloc (Below.refl _ w) (.cells #[v] 28))
  have A0 := hid (At.newAt w v 28 w.heap.size (by simp))
  have ebox0 := A0.out.1
  go_wp2_with fail
  clear ebox0
  with_reducible refine (HCo.out _ (HV.out.below HB.out)).mono ?_
  rintro e w1 ⟨P, vi, vb, rfl, hwP, hch, hb⟩
  have HCh := hid (ChJ.ofI hch)
  have hwP2 : w.heap.size ≤ P := Nat.le_trans HB.out.size hwP
  replace HB := hid (below_to HB.out hb)
  clear hch hb hwP
  go_wp2
  go_loopw [12] (fun i wr => ∃ k : Nat, k ≤ S ∧ i = .int .i64 k ∧ ChJ 82 wr P P vi vb (.func (.func 73) #[] #[]) (setsL (holdsIdeal xs) (2 ^ xs.length)) (rowsSt (stI xs wk) n) (mkL n (cN xs wk k)) ∧ Below w.heap.size w wr) (fun i _ => S - (intOf i).toNat)
  case atStart => exact ⟨0, Nat.zero_le _, rfl, HCh.out, HB.out⟩
  case round =>
    obtain ⟨k, hk, rfl, hch, hb⟩ := hrel
    have HC := hid hch
    have HB1 := hid hb
    clear hch hb
    by_cases hlt : k < S
    · go_wp2_with fail
      with_reducible refine (growI_any P P n vi vb _ (stI xs wk) (cN xs wk k) wr HC.out hn1 hn2 (fun i hi => by rw [HNx.out k i hi]; exact Nat.le_trans (HSm.out (k + 1) i (by omega) hi) (by decide))).mono ?_
      rintro e w2 ⟨rfl, hch, hb, -⟩
      have HC2 : Hid (ChJ 82 w2 P P vi vb (.func (.func 73) #[] #[]) (setsL (holdsIdeal xs) (2 ^ xs.length)) (rowsSt (stI xs wk) n) (mkL n (cN xs wk (k + 1)))) := hid (by
        rw [← mkL_congr (fun i hi => HNx.out k i hi)]; exact hch)
      have HB2 := hid (HB1.out.trans (hb.mono hwP2))
      clear hch hb
      go_wp2
      go_roundw
      case rel => exact ⟨k + 1, by omega, by go_num, HC2.out, HB2.out⟩
      case measure => simp [intOf]; omega
    · have hkS : k = S := by omega
      subst hkS
      go_wp2_with fail
      with_reducible refine (wholeI_any P P n vi vb _ _ _ (cN xs wk k) wr HC.out hn1 hn2).mono ?_
      rintro e w2 ⟨rfl, hb⟩
      have HB2 := hid (below_to HB1.out hb)
      clear hb
      go_wp2
      go_ret
      exact ⟨ret_int (by rw [HLa.out]), HB2.out⟩
end Go.Proofs.Ytgepbekdgocnpab
