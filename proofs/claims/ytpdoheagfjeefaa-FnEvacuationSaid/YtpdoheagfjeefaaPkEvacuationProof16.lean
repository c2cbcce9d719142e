/- Texts AllI, one behind the other. -/
import Derived.Test.YtpdoheagfjeefaaPkEvacuationProof10
import Derived.Test.YtpdoheagfjeefaaPkEvacuationProof15
/- AllLinear of the program. -/
namespace Go.Proofs.Ytpdoheagfjeefaa
open Go.RowKit Go.WideShapes Go.ChangeShapes
set_option linter.unusedVariables false

def okAL (xs : List Int) : Bool := good xs && decide (cntL xs ≤ 500)
def allLn (xs : List Int) : List (List Int) := rowsN (unrL xs) (cntL xs)
def ansAL (xs : List Int) : List (List Int) := if okAL xs then allLn xs else []
theorem okAL_no1 {xs : List Int} (h : good xs = false) : okAL xs = false := by simp [okAL, h]
theorem okAL_no2 {xs : List Int} (h : 500 < cntL xs) : okAL xs = false := by simp only [okAL, decide_eq_false (show ¬ cntL xs ≤ 500 by omega)]; simp
theorem okAL_yes {xs : List Int} (h : good xs = true) (k : cntL xs ≤ 500) : okAL xs = true := by simp only [okAL, h, decide_eq_true k]; rfl
theorem okAL_all {xs : List Int} (h : okAL xs = true) : good xs = true ∧ cntL xs ≤ 500 := by simpa [okAL] using h
theorem ansAL_no {xs : List Int} (h : okAL xs = false) : ansAL xs = [] := by simp [ansAL, h]
theorem ansAL_yes {xs : List Int} (h : okAL xs = true) : ansAL xs = allLn xs := by simp [ansAL, h]
theorem ansAL_small (xs : List Int) : SSmall (ansAL xs) := by
  cases h : okAL xs
  · rw [ansAL_no h]; exact ⟨by simp, by simp, by simp [offL]⟩
  · rw [ansAL_yes h]
    obtain ⟨h1, h2⟩ := okAL_all h
    exact rowsN_small _ h2 fun j _ => by rw [unrL_length]; exact (good_length h1).2
set_option maxHeartbeats 1600000 in
theorem implAllLinear_any (v : Value) (xs : List Int) (w : World) (hv : Ints w v xs) (hl : xs.length ≤ 1048576) :
    Calls Try.prog 68 #[.agg #[v]] w fun (r : Ending) w' => ∃ q, r = Ending.returned (.tuple #[q, .bool (okAL xs)]) ∧ OwnSS 3 24 w' w.heap.size w'.heap.size q (ansAL xs) ∧ SSmall (ansAL xs) ∧ Below w.heap.size w w' := by
  have HV := hid hv
  have HL := hid (ansAL_small xs)
  clear hv
  go_enter Try.func68, Try.ntmps68
  have HB := hid (below_alloc (Below.refl _ w) (.cells #[v] 26))
  have A0 := hid (At.newAt w v 26 w.heap.size (by simp))
  go_wp2_with fail
  refine (implIsPoset_any _ xs _ (HV.out.below HB.out) hl).mono ?_
  rintro e w' ⟨rfl, hb⟩
  replace HB := hid (below_to HB.out hb)
  replace A0 := hid (A0.out.below hb)
  clear hb
  cases hq : good xs
  · have HO := hid (okAL_no1 hq)
    clear hq
    have ebox0 := A0.out.1
    go_wp2
    go_ret2
    exact ⟨_, ret_vbL HO.out.symm, by rw [ansAL_no HO.out]; exact OwnSS.nil _ _ _ _ _, HL.out, HB.out⟩
  · have HG := hid hq
    have hl10 := (good_length hq).2
    have hxl := cntL_le hl10
    clear hq
    have ebox0 := A0.out.1
    go_wp2_with fail
    clear ebox0
    refine (endingsOf_any _ xs _ (HV.out.below HB.out) HG.out).mono ?_
    rintro e w' ⟨g, rfl, hT, hgw, hb⟩
    replace HB := hid (below_to HB.out hb)
    replace A0 := hid (A0.out.below hb)
    clear hb
    have hc := cell_zero hT (by omega)
    have HT := hid hT
    obtain ⟨x, hx⟩ : ∃ x, cntL xs = x := ⟨_, rfl⟩
    rw [hx] at hc hxl
    have HX := hid hx
    have HC := hid hc
    clear hT hx
    by_cases h5 : (500 : Int) < (x : Int)
    · have HO := hid (okAL_no2 (xs := xs) (by rw [HX.out]; omega))
      have ebox0 := A0.out.1
      go_wp2
      go_ret2
      exact ⟨_, ret_vbL HO.out.symm, by rw [ansAL_no HO.out]; exact OwnSS.nil _ _ _ _ _, HL.out, HB.out⟩
    · have HO := hid (okAL_yes (xs := xs) HG.out (by rw [HX.out]; omega))
      have hx5 : x ≤ 500 := by omega
      have ebox0 := A0.out.1
      go_wp2
      clear hc h5
      go_loopw [5, 21] (fun out i wr => ∃ k : Nat, k ≤ x ∧ i = .int .i64 k ∧ OwnSS 3 24 wr w'.heap.size wr.heap.size out (rowsN (unrL xs) k) ∧ Below w'.heap.size w' wr) (fun _ i _ => x - (intOf i).toNat)
      case atStart => exact ⟨0, Nat.zero_le _, rfl, OwnSS.nil _ _ _ _ _, Below.refl _ _⟩
      case round =>
        obtain ⟨k, hk, rfl, hS, hb⟩ := hrel
        have Hb := hid hb
        have HS := hid hS
        have hbx := (A0.out.below hb).1
        obtain ⟨oA, oc, rfl, -⟩ := hS.rows
        have hbz := hb.size
        clear hS hb
        by_cases hlt : k < x
        · have hgb : g < w'.heap.size := World.block_lt_of_cell? w' _ HC.out
          have HRS := hid (rowsN_succ (unrL xs) k)
          go_wp2_with fail
          clear hbx
          refine (linearWith_any g v xs k _ ((HV.out.below HB.out).below Hb.out) (HT.out.below Hb.out hgb) HG.out (by have := HX.out; unfold cntL at this; omega)).mono ?_
          rintro e w4 ⟨u, rfl, ho, hb4⟩
          have HS4 := hid (HS.out.below hb4)
          have HO4 := hid (ho.mono hbz)
          have HOB := hid (fun b hb => (ho.blockLt b hb).1)
          have Hb4 := hid (below_to Hb.out hb4)
          have hz4 := hb4.size
          obtain ⟨uA, un, uc, rfl⟩ := ho.shape3
          clear ho hb4
          go_wp2_with (at_builtin; refine wpList_append_row rfl _ _ 49 24 3 rfl Try.underlying49 Try.info24 (by decide) w'.heap.size wr.heap.size _ _ (rowsN (unrL xs) k) (unrL xs k) rfl HS4.out HO4.out HOB.out rfl rfl (by rw [rowsN_length]; omega) (by omega) (by omega) ?_; rintro u5 w5 ho5 hb5)
          go_roundw
          case rel => exact ⟨k + 1, by omega, by go_num, by rw [HRS.out]; exact ho5, Hb4.out.trans hb5⟩
          case measure => simp [intOf]; omega
        · obtain rfl : k = x := by omega
          have HY : Hid (ansAL xs = rowsN (unrL xs) k) := hid (by rw [ansAL_yes HO.out]; unfold allLn; rw [HX.out])
          go_wp2
          go_ret2
          exact ⟨_, ret_vbL HO.out.symm, by rw [HY.out]; exact HS.out.monoBR HB.out.size, HL.out, below_to HB.out Hb.out⟩
theorem unrL_Lw {xs : List Int} {r : Nat} (hr : r < cntL xs) : Lw xs.length (unrL xs r) :=
  ⟨unrL_length xs r, inW_of fun j hj => by
    rw [unrL_length] at hj
    unfold unrL
    rw [mkL_getD hj]
    have := unE_lt (xs := xs) (r := r) hr hj
    omega⟩
end Go.Proofs.Ytpdoheagfjeefaa
