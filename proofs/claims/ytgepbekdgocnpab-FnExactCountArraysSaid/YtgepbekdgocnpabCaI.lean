/- CountArrays of the program. -/
import Derived.Test.YtgepbekdgocnpabCaS
import Derived.Test.YtgepbekdgocnpabChK
namespace Go.Proofs.Ytgepbekdgocnpab
open Go.RowKit Go.WideShapes Go.ChangeShapes
set_option linter.unusedVariables false

set_option maxHeartbeats 1600000 in
theorem countHi_any (v : Value) (xs : List Int) (S : Nat) (w : World) (hv : Ints w v xs) (hg : good xs = true) (h6 : xs.length ≤ 6) (hS : S ≤ 22) :
    Calls Try.prog 60 #[.agg #[v], .int .i64 S, .func (.func 61) #[] #[]] w fun (r : Ending) w' => r = Ending.returned (.int .i64 (cnt xs false S (2 ^ xs.length - 1) : Nat)) ∧ Below w.heap.size w w' := by
  have HV := hid hv
  have HCo := hid (fun W hW => chainsWk_any v xs W hW hg)
  have hn1 : 1 ≤ (idN xs).length := idN_pos xs
  have hn2 := idN_le hg
  have HNx := hid (fun k i (hi : i < (idN xs).length) => cN_next (stp := wk) wk_le k hi)
  have HSm := hid (fun k i (hk : k ≤ 22) (hi : i < (idN xs).length) => show cN xs wk k i ≤ 113379904 from chN_small6 h6 (fun s t h => onWk h) hk (idA_mem hi).1)
  have HLa : Hid (cN xs wk S ((idN xs).length - 1) = cnt xs false S (2 ^ xs.length - 1)) := hid (by rw [cN_last hg]; unfold cnt; rw [stpB_false])
  rw [blCh_rows, c0_cN wk] at HCo
  obtain ⟨n, hn⟩ : ∃ n, (idN xs).length = n := ⟨_, rfl⟩
  rw [hn] at HCo hn1 hn2 HNx HSm HLa
  clear hv hg hn
  go_enter Try.func60, Try.ntmps60
  have HB := hid (below_alloc (Below.refl _ w) (.cells #[v] 28))
  have A0 := hid (At.newAt w v 28 w.heap.size (by simp))
  have ebox0 := A0.out.1
  go_wp2_with fail
  clear ebox0
  with_reducible refine (HCo.out _ (HV.out.below HB.out)).mono ?_
  rintro e w1 ⟨P, vi, vb, rfl, hwP, hch, hb⟩
  have HCh := hid (ChJ.ofI hch)
  have hwP2 : w.heap.size ≤ P := Nat.le_trans HB.out.size hwP
  replace HB := hid (below_to HB.out hb)
  clear hch hb hwP
  go_wp2
  go_loopw [12] (fun i wr => ∃ k : Nat, k ≤ S ∧ i = .int .i64 k ∧ ChJ 82 wr P P vi vb (.func (.func 73) #[] #[]) (setsL (holdsIdeal xs) (2 ^ xs.length)) (rowsSt (stI xs wk) n) (mkL n (cN xs wk k)) ∧ Below w.heap.size w wr) (fun i _ => S - (intOf i).toNat)
  case atStart => exact ⟨0, Nat.zero_le _, rfl, HCh.out, HB.out⟩
  case round =>
    obtain ⟨k, hk, rfl, hch, hb⟩ := hrel
    have HC := hid hch
    have HB1 := hid hb
    clear hch hb
    by_cases hlt : k < S
    · go_wp2_with fail
      with_reducible refine (growI_any P P n vi vb _ (stI xs wk) (cN xs wk k) wr HC.out hn1 hn2 (fun i hi => by rw [HNx.out k i hi]; exact Nat.le_trans (HSm.out (k + 1) i (by omega) hi) (by decide))).mono ?_
      rintro e w2 ⟨rfl, hch, hb, -⟩
      have HC2 : Hid (ChJ 82 w2 P P vi vb (.func (.func 73) #[] #[]) (setsL (holdsIdeal xs) (2 ^ xs.length)) (rowsSt (stI xs wk) n) (mkL n (cN xs wk (k + 1)))) := hid (by
        rw [← mkL_congr (fun i hi => HNx.out k i hi)]; exact hch)
      have HB2 := hid (HB1.out.trans (hb.mono hwP2))
      clear hch hb
      go_wp2
      go_roundw
      case rel => exact ⟨k + 1, by omega, by go_num, HC2.out, HB2.out⟩
      case measure => simp [intOf]; omega
    · have hkS : k = S := by omega
      subst hkS
      go_wp2_with fail
      with_reducible refine (wholeI_any P P n vi vb _ _ _ (cN xs wk k) wr HC.out hn1 hn2).mono ?_
      rintro e w2 ⟨rfl, hb⟩
      have HB2 := hid (below_to HB1.out hb)
      clear hb
      go_wp2
      go_ret
      exact ⟨ret_int (by rw [HLa.out]), HB2.out⟩
theorem implCountArrays_any (v : Value) (xs : List Int) (b : Int) (w : World) (hv : Ints w v xs) (hl : xs.length ≤ 1048576) (wf : (Lit.int .i64 b).wf = true) :
    Calls Try.prog 34 #[.agg #[v], .int .i64 b] w fun r w' => r = .returned (.tuple #[.int .i64 (ansCA xs b), .bool (okCA xs b)]) ∧ Below w.heap.size w w' := by
  have HV := hid hv
  clear hv wf
  cases hls : okLs xs
  · have HG := hid hls
    have HO := hid (okCA_no1 (b := b) hls)
    have HN := hid (ansCA_no HO.out)
    clear hls
    go_enter Try.func34, Try.ntmps34
    have HB := hid (below_alloc (Below.refl _ w) (.cells #[v] 28))
    have A0 := hid (At.newAt w v 28 w.heap.size (by simp))
    go_wp2_with fail
    refine (isListed_any _ xs _ (HV.out.below HB.out) hl).mono ?_
    rw [HG.out]
    rintro e w' ⟨rfl, hb⟩
    replace HB := hid (below_to HB.out hb)
    replace A0 := hid (A0.out.below hb)
    clear hb
    have ebox0 := A0.out.1
    go_wp2
    go_ret2
    exact ⟨ret_ib HN.out.symm HO.out.symm, HB.out⟩
  cases hb : hiB b
  · have HG := hid hls
    have HD := hid hb
    have HO := hid (okCA_no2 (xs := xs) hb)
    have HN := hid (ansCA_no HO.out)
    clear hls hb
    go_enter Try.func34, Try.ntmps34
    have HB := hid (below_alloc (Below.refl _ w) (.cells #[v] 28))
    have A0 := hid (At.newAt w v 28 w.heap.size (by simp))
    go_wp2_with fail
    refine (isListed_any _ xs _ (HV.out.below HB.out) hl).mono ?_
    rw [HG.out]
    rintro e w' ⟨rfl, hb⟩
    replace HB := hid (below_to HB.out hb)
    replace A0 := hid (A0.out.below hb)
    clear hb
    have ebox0 := A0.out.1
    go_wp2_with (go_at_call 40; refine (isHigh_any b _).mono ?_; rw [HD.out]; rintro e w' ⟨rfl, rfl⟩)
    go_ret2
    exact ⟨ret_ib HN.out.symm HO.out.symm, HB.out⟩
  · have HG := hid hls
    have HD := hid hb
    have HO := hid (okCA_yes hls hb)
    obtain ⟨b0, b1⟩ := hiB_all hb
    obtain ⟨m, rfl⟩ := Int.eq_ofNat_of_zero_le b0
    have HN := hid (ansCA_yes HO.out)
    obtain ⟨hg, h6⟩ := okLs_all hls
    have HCt := hid (fun W hW => countHi_any v xs (m + 1) W hW hg h6 (by omega))
    obtain ⟨S, hS⟩ : ∃ S, m + 1 = S := ⟨_, rfl⟩
    have hSw : IntKind.i64.wrap ((m : Int) + 1) = (S : Int) := by rw [IntWalk.i64_in _ (by omega)]; omega
    rw [hS] at HCt HN
    have HSw := hid hSw
    clear hls hb hg h6 hS hSw
    go_enter Try.func34, Try.ntmps34
    have HB := hid (below_alloc (Below.refl _ w) (.cells #[v] 28))
    have A0 := hid (At.newAt w v 28 w.heap.size (by simp))
    go_wp2_with fail
    refine (isListed_any _ xs _ (HV.out.below HB.out) hl).mono ?_
    rw [HG.out]
    rintro e w' ⟨rfl, hb⟩
    replace HB := hid (below_to HB.out hb)
    replace A0 := hid (A0.out.below hb)
    clear hb
    have ebox0 := A0.out.1
    have hSw := HSw.out
    go_wp2_with (first | (go_at_call 40; refine (isHigh_any (m : Int) _).mono ?_; rw [HD.out]; rintro e w2 ⟨rfl, rfl⟩) | fail)
    clear ebox0 hSw
    with_reducible refine (HCt.out _ (HV.out.below HB.out)).mono ?_
    rintro e w1 ⟨rfl, hb⟩
    replace HB := hid (below_to HB.out hb)
    clear hb
    go_wp2
    go_ret2
    exact ⟨ret_ib HN.out.symm HO.out.symm, HB.out⟩
end Go.Proofs.Ytgepbekdgocnpab
