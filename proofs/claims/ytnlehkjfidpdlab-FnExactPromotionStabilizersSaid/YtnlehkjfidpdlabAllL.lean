/- AllLinear of both sides. -/
import Derived.Test.YtnlehkjfidpdlabAllI
import Derived.Test.YtnlehkjfidpdlabRowsL
import Derived.Test.YtnlehkjfidpdlabEndL
namespace Go.Proofs.Ytnlehkjfidpdlab
open Go.RowKit Go.WideShapes Go.ChangeShapes
set_option linter.unusedVariables false

set_option maxHeartbeats 1600000 in
theorem liAll_any (v : Value) (xs : List Int) (w : World) (hv : Ints w v xs) (hg : good xs = true) :
    Calls Try.prog 38 #[.agg #[v]] w fun (r : Ending) w' => ∃ q, r = Ending.returned (.tuple #[q, .bool (okAL xs)]) ∧ OwnSS 3 25 w' w.heap.size w'.heap.size q (ansAL xs) ∧ SSmall (ansAL xs) ∧ Below w.heap.size w w' := by
  have HV := hid hv
  have HG := hid hg
  have HL := hid (ansAL_small xs)
  have hl10 := (good_length hg).2
  have hN2 := two_pow_le xs.length hl10
  obtain ⟨N, hN⟩ : ∃ N, 2 ^ xs.length = N := ⟨_, rfl⟩
  rw [hN] at hN2
  have hNi : (0 : Int) < (N : Int) := by omega
  have hxl := cntL_le hl10
  have HNe := hid hN
  clear hv hg hN
  go_enter Try.func38, Try.ntmps38
  have HB := hid (below_alloc (Below.refl _ w) (.cells #[v] 35))
  have A0 := hid (At.newAt w v 35 w.heap.size (by simp))
  go_wp2_with fail
  refine (liCounts_any _ xs N _ (HV.out.below HB.out) HG.out HNe.out).mono ?_
  rintro e w' ⟨g, rfl, hT, hgw, hb⟩
  replace HB := hid (below_to HB.out hb)
  replace A0 := hid (A0.out.below hb)
  clear hb
  have hc := cell_zero hT (by omega)
  have HT := hid hT
  obtain ⟨x, hx⟩ : ∃ x, cntL xs = x := ⟨_, rfl⟩
  rw [hx] at hc hxl
  have HX := hid hx
  have HC := hid hc
  clear hT hx
  by_cases h5 : (500 : Int) < (x : Int)
  · have HO := hid (okAL_no2 (xs := xs) (by rw [HX.out]; omega))
    have ebox0 := A0.out.1
    go_wp2
    go_ret2
    exact ⟨_, ret_vbL HO.out.symm, by rw [ansAL_no HO.out]; exact OwnSS.nil _ _ _ _ _, HL.out, HB.out⟩
  · have HO := hid (okAL_yes (xs := xs) HG.out (by rw [HX.out]; omega))
    have hx5 : x ≤ 500 := by omega
    have ebox0 := A0.out.1
    go_wp2
    clear hc h5
    go_loopw [5, 6] (fun out i wr => ∃ k : Nat, k ≤ x ∧ i = .int .i64 k ∧ OwnSS 3 25 wr w'.heap.size wr.heap.size out (rowsN (unrL xs) k) ∧ Below w'.heap.size w' wr) (fun _ i _ => x - (intOf i).toNat)
    case atStart => exact ⟨0, Nat.zero_le _, rfl, OwnSS.nil _ _ _ _ _, Below.refl _ _⟩
    case round =>
      obtain ⟨k, hk, rfl, hS, hb⟩ := hrel
      have Hb := hid hb
      have HS := hid hS
      have hbx := (A0.out.below hb).1
      have hcx := (hb.cell (p := ⟨g, 0, none⟩) (World.block_lt_of_cell? w' _ HC.out)).trans HC.out
      obtain ⟨oA, oc, rfl, -⟩ := hS.rows
      have hbz := hb.size
      clear hS hb
      by_cases hlt : k < x
      · have hgb : g < w'.heap.size := World.block_lt_of_cell? w' _ HC.out
        have HRS := hid (rowsN_succ (unrL xs) k)
        go_wp2_with fail
        clear hbx hcx
        refine (liWith_any g N v xs k _ ((HV.out.below HB.out).below Hb.out) (HT.out.below Hb.out hgb) HNe.out HG.out (by have := HX.out; unfold cntL at this; omega)).mono ?_
        rintro e w4 ⟨u, rfl, ho, hb4⟩
        have HS4 := hid (HS.out.below hb4)
        have HO4 := hid (ho.mono hbz)
        have HOB := hid (fun b hb => (ho.blockLt b hb).1)
        have Hb4 := hid (below_to Hb.out hb4)
        have hz4 := hb4.size
        obtain ⟨uA, un, uc, rfl⟩ := ho.shape3
        clear ho hb4
        go_wp2_with (at_builtin; refine wpList_append_row rfl _ _ 51 25 3 rfl Try.underlying51 Try.info25 (by decide) w'.heap.size wr.heap.size _ _ (rowsN (unrL xs) k) (unrL xs k) rfl HS4.out HO4.out HOB.out rfl rfl (by rw [rowsN_length]; omega) (by omega) (by omega) ?_; rintro u5 w5 ho5 hb5)
        go_roundw
        case rel => exact ⟨k + 1, by omega, by go_num, by rw [HRS.out]; exact ho5, Hb4.out.trans hb5⟩
        case measure => simp [intOf]; omega
      · obtain rfl : k = x := by omega
        have HY : Hid (ansAL xs = rowsN (unrL xs) k) := hid (by rw [ansAL_yes HO.out]; unfold allLn; rw [HX.out])
        go_wp2
        go_ret2
        exact ⟨_, ret_vbL HO.out.symm, by rw [HY.out]; exact HS.out.monoBR HB.out.size, HL.out, below_to HB.out Hb.out⟩
end Go.Proofs.Ytnlehkjfidpdlab
