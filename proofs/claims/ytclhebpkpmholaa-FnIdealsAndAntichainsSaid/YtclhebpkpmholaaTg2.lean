/- The program's own test of words; the functions that toggle by words. -/
import Derived.Test.YtclhebpkpmholaaTg
import Derived.Test.YtclhebpkpmholaaLaw
import Derived.Test.YtclhebpkpmholaaApi
namespace Go.Proofs.Ytclhebpkpmholaa
open Go.RowKit Go.WideShapes Go.ChangeShapes
set_option linter.unusedVariables false

theorem hasWordClosure_any (v : Value) (xs : List Int) (y : Int) (a : Nat) (w : World) (hv : Ints w v xs) (hl : xs.length ≤ 1048576) (h1 : At w a v) :
    Calls Try.prog 146 #[.int .i64 y, .pointer (some ⟨a, 0, none⟩)] w fun r w' => r = .returned (.bool (!(decide (0 ≤ y) && decide (y < xs.length)))) ∧ Below w.heap.size w w' := by
  have HV := hid hv
  have hbox := h1.1
  clear h1 hv
  go_enter Try.func146, Try.ntmps146
  go_wp2_with fail
  clear hbox
  refine (hasIndex_any _ xs y _ HV.out hl).mono ?_
  rintro e w' ⟨rfl, hb⟩
  obtain ⟨q, hq⟩ : ∃ q, (decide (0 ≤ y) && decide (y < (xs.length : Int))) = q := ⟨_, rfl⟩
  rw [hq]
  have HB := hid hb
  have HQ := hid hq
  clear hb hq
  cases q
  · go_wp2
    go_ret
    exact ⟨ret_bool (by rw [HQ.out]; rfl), HB.out⟩
  · go_wp2
    go_ret
    exact ⟨ret_bool (by rw [HQ.out]; rfl), HB.out⟩
theorem indexFunc_any (v u : Value) (xs ys : List Int) (a : Nat) (w : World) (hv : Ints w v xs) (hu : Ints w u ys) (hl : xs.length ≤ 1048576) (hm : ys.length ≤ 1048576) (h1 : At w a v) :
    Calls Try.prog 157 #[u, .func (.func 146) #[] #[.pointer (some ⟨a, 0, none⟩)]] w fun (r : Ending) w' => ∃ i : Int, r = Ending.returned (.int .i64 i) ∧ Hid (decide (0 ≤ i) = !inW xs.length ys) ∧ -1 ≤ i ∧ i ≤ 1048576 ∧ Below w.heap.size w w' := by
  have HV := hid hv
  have H1 := hid h1
  obtain ⟨A, c, rfl, hA⟩ := hu
  have HA := hid hA
  clear hA hv h1
  go_enter Try.func157, Try.ntmps157
  go_wp2
  go_loopw [8] (fun i wr => ∃ k : Nat, k ≤ ys.length ∧ i = .int .i64 k ∧ Hid (∀ j, j < k → (0 ≤ ys.getD j 0 ∧ ys.getD j 0 < xs.length)) ∧ Below w.heap.size w wr) (fun i _ => ys.length - (intOf i).toNat)
  case atStart => exact ⟨0, Nat.zero_le _, rfl, hid (fun j hj => absurd hj (Nat.not_lt_zero _)), Below.refl _ _⟩
  case round =>
    obtain ⟨k, hk, rfl, Hk, hb⟩ := hrel
    by_cases hlt : k < ys.length
    · obtain ⟨b, o, rfl, hbl, hc⟩ := HA.out (by intro h; simp [h] at hlt)
      have hcell : wr.cell? ⟨b, o + k, none⟩ = some (.int .i64 (ys.getD k 0)) := by
        rw [hb.cell (p := ⟨b, o + k, none⟩) hbl]; exact hc k hlt
      obtain ⟨x, hx⟩ : ∃ x, ys.getD k 0 = x := ⟨_, rfl⟩
      rw [hx] at hcell
      have HX := hid hx
      have HB := hid hb
      clear hc hx hb
      go_wp2_with fail
      refine (hasWordClosure_any v xs x a _ (HV.out.below HB.out) hl (H1.out.below HB.out)).mono ?_
      rintro e w' ⟨rfl, hb⟩
      have HB2 := hid (below_to HB.out hb)
      clear hb hcell
      cases hq : (decide (0 ≤ x) && decide (x < (xs.length : Int)))
      · have HN := hid (not_inW hlt (n := xs.length) (by
          rw [HX.out]; intro hc; rw [Bool.eq_false_iff] at hq; apply hq; simp only [Bool.and_eq_true, decide_eq_true_eq]; exact hc))
        clear hq
        go_wp2
        go_ret
        exact ⟨_, rfl, hid (by rw [HN.out]; simp), by omega, by omega, HB2.out⟩
      · have HQ := hid hq
        clear hq
        go_wp2
        go_roundw
        case rel => exact ⟨k + 1, by omega, by go_num, hid (fun j hj => by
          by_cases h : j = k
          · subst h; rw [HX.out]; simpa using HQ.out
          · exact Hk.out j (by omega)), HB2.out⟩
        case measure => simp [intOf]; omega
    · obtain rfl : k = ys.length := by omega
      have HN := hid (inW_of Hk.out)
      have HB := hid hb
      clear hb
      go_wp2
      go_ret
      exact ⟨_, rfl, hid (by rw [HN.out]; rfl), by omega, by omega, HB.out⟩
theorem containsFunc_any (v u : Value) (xs ys : List Int) (a : Nat) (w : World) (hv : Ints w v xs) (hu : Ints w u ys) (hl : xs.length ≤ 1048576) (hm : ys.length ≤ 1048576) (h1 : At w a v) :
    Calls Try.prog 145 #[u, .func (.func 146) #[] #[.pointer (some ⟨a, 0, none⟩)]] w fun r w' => r = .returned (.bool (!inW xs.length ys)) ∧ Below w.heap.size w w' := by
  have HV := hid hv
  have HU := hid hu
  have H1 := hid h1
  clear hv hu h1
  go_enter Try.func145, Try.ntmps145
  go_wp2_with fail
  refine (indexFunc_any v u xs ys a _ HV.out HU.out hl hm H1.out).mono ?_
  rintro e w' ⟨i, rfl, HI, h1, h2, hb⟩
  have HB := hid hb
  clear hb
  go_wp2
  go_ret
  exact ⟨ret_bool (by rw [← HI.out]), HB.out⟩
theorem hasWord_any (v u : Value) (xs ys : List Int) (w : World) (hv : Ints w v xs) (hu : Ints w u ys) (hl : xs.length ≤ 1048576) (hm : ys.length ≤ 1048576) :
    Calls Try.prog 108 #[.agg #[v], u] w fun r w' => r = .returned (.bool (okWord xs ys)) ∧ Below w.heap.size w w' := by
  have HV := hid hv
  have HU := hid hu
  obtain ⟨A2, c2, rfl, hA2⟩ := hu
  clear hA2 hv
  by_cases h100 : ys.length ≤ 100
  · have HO := hid (okWord_short (xs := xs) h100)
    go_enter Try.func108, Try.ntmps108
    have HB := hid (below_alloc (Below.refl _ w) (.cells #[v] 26))
    have A0 := hid (At.newAt w v 26 w.heap.size (by simp))
    go_wp2_with fail
    refine (containsFunc_any v _ xs ys w.heap.size _ (HV.out.below HB.out) (HU.out.below HB.out) hl hm A0.out).mono ?_
    rintro e w' ⟨rfl, hb⟩
    replace HB := hid (below_to HB.out hb)
    replace A0 := hid (A0.out.below hb)
    clear hb
    cases hq : inW xs.length ys
    · have HQ := hid hq
      clear hq
      have ebox0 := A0.out.1
      go_wp2
      go_ret
      exact ⟨ret_bool (by rw [HO.out, HQ.out]), HB.out⟩
    · have HQ := hid hq
      clear hq
      have ebox0 := A0.out.1
      go_wp2
      go_ret
      exact ⟨ret_bool (by rw [HO.out, HQ.out]), HB.out⟩
  · have HO := hid (okWord_long (xs := xs) h100)
    go_enter Try.func108, Try.ntmps108
    have HB := hid (below_alloc (Below.refl _ w) (.cells #[v] 26))
    have A0 := hid (At.newAt w v 26 w.heap.size (by simp))
    go_wp2
    go_ret
    exact ⟨ret_bool HO.out.symm, HB.out⟩

/-! ### ToggleWord, ToggleAt -/
def okTW (xs ys : List Int) (s : Int) : Bool := okIdeal xs s && okWord xs ys
def ansTW (xs ys : List Int) (s : Int) : Int := if okTW xs ys s then (togW xs s.toNat ys : Int) else 0
theorem okTW_no1 {xs ys : List Int} {s : Int} (h : okIdeal xs s = false) : okTW xs ys s = false := by simp [okTW, h]
theorem okTW_no2 {xs ys : List Int} {s : Int} (h : okWord xs ys = false) : okTW xs ys s = false := by simp [okTW, h]
theorem okTW_yes {xs ys : List Int} {s : Int} (h : okIdeal xs s = true) (k : okWord xs ys = true) : okTW xs ys s = true := by simp [okTW, h, k]
theorem ansTW_no {xs ys : List Int} {s : Int} (h : okTW xs ys s = false) : ansTW xs ys s = 0 := by simp [ansTW, h]
theorem ansTW_yes {xs ys : List Int} {z : Nat} (h : okTW xs ys z = true) : ansTW xs ys z = (togW xs z ys : Int) := by simp [ansTW, h]
theorem specToggleWord_any (v : Value) (xs : List Int) (s : Int) (u : Value) (ys : List Int) (w : World) (hv : Ints w v xs) (hl : xs.length ≤ 1048576) (wf : (Lit.int .i64 s).wf = true) (hu : Ints w u ys) (hm : ys.length ≤ 1048576) :
    Calls Try.prog 34 #[.agg #[v], .int .i64 s, u] w fun r w' => r = .returned (.tuple #[.int .i64 (ansTW xs ys s), .bool (okTW xs ys s)]) ∧ Below w.heap.size w w' := by
  have HV := hid hv
  have HU := hid hu
  clear hv hu wf
  go_enter Try.func34, Try.ntmps34
  have HB := hid (below_alloc (Below.refl _ w) (.cells #[v] 26))
  have A0 := hid (At.newAt w v 26 w.heap.size (by simp))
  go_wp2_with fail
  refine (tgIn_any _ xs s _ (HV.out.below HB.out) hl).mono ?_
  rintro e w' ⟨rfl, hb⟩
  replace HB := hid (below_to HB.out hb)
  replace A0 := hid (A0.out.below hb)
  clear hb
  cases hq : okIdeal xs s
  · have HO := hid (okTW_no1 (ys := ys) hq)
    clear hq
    have ebox0 := A0.out.1
    go_wp2
    go_ret2
    exact ⟨ret_ib (ansTW_no HO.out).symm HO.out.symm, HB.out⟩
  · have HQ := hid hq
    clear hq
    have ebox0 := A0.out.1
    go_wp2_with fail
    clear ebox0
    refine (tgIsWord_any _ _ xs ys _ (HV.out.below HB.out) (HU.out.below HB.out) hl hm).mono ?_
    rintro e w' ⟨rfl, hb⟩
    replace HB := hid (below_to HB.out hb)
    replace A0 := hid (A0.out.below hb)
    clear hb
    cases hk : okWord xs ys
    · have HO := hid (okTW_no2 (s := s) hk)
      clear hk
      have ebox0 := A0.out.1
      go_wp2
      go_ret2
      exact ⟨ret_ib (ansTW_no HO.out).symm HO.out.symm, HB.out⟩
    · have HO := hid (okTW_yes HQ.out hk)
      have HK := hid hk
      clear hk
      obtain ⟨z, rfl, h3, h4, h5⟩ := okIdeal_all HQ.out
      have HG := hid h3
      have HN := hid h4
      clear h3 h4 h5
      have ebox0 := A0.out.1
      go_wp2_with fail
      clear ebox0
      refine (tgWord_any _ _ xs ys z _ (HV.out.below HB.out) (HU.out.below HB.out) HG.out HN.out (okWord_in HK.out).2 hm).mono ?_
      rintro e w' ⟨rfl, hb⟩
      replace HB := hid (below_to HB.out hb)
      replace A0 := hid (A0.out.below hb)
      clear hb
      have ebox0 := A0.out.1
      go_wp2
      go_ret2
      exact ⟨ret_ib (ansTW_yes HO.out).symm HO.out.symm, HB.out⟩
theorem implToggleWord_any (v : Value) (xs : List Int) (s : Int) (u : Value) (ys : List Int) (w : World) (hv : Ints w v xs) (hl : xs.length ≤ 1048576) (wf : (Lit.int .i64 s).wf = true) (hu : Ints w u ys) (hm : ys.length ≤ 1048576) :
    Calls Try.prog 33 #[.agg #[v], .int .i64 s, u] w fun r w' => r = .returned (.tuple #[.int .i64 (ansTW xs ys s), .bool (okTW xs ys s)]) ∧ Below w.heap.size w w' := by
  have HV := hid hv
  have HU := hid hu
  clear hv hu wf
  go_enter Try.func33, Try.ntmps33
  have HB := hid (below_alloc (Below.refl _ w) (.cells #[v] 26))
  have A0 := hid (At.newAt w v 26 w.heap.size (by simp))
  go_wp2_with fail
  refine (hasIdeal_any _ xs s _ (HV.out.below HB.out) hl).mono ?_
  rintro e w' ⟨rfl, hb⟩
  replace HB := hid (below_to HB.out hb)
  replace A0 := hid (A0.out.below hb)
  clear hb
  cases hq : okIdeal xs s
  · have HO := hid (okTW_no1 (ys := ys) hq)
    clear hq
    have ebox0 := A0.out.1
    go_wp2
    go_ret2
    exact ⟨ret_ib (ansTW_no HO.out).symm HO.out.symm, HB.out⟩
  · have HQ := hid hq
    clear hq
    have ebox0 := A0.out.1
    go_wp2_with fail
    clear ebox0
    refine (hasWord_any _ _ xs ys _ (HV.out.below HB.out) (HU.out.below HB.out) hl hm).mono ?_
    rintro e w' ⟨rfl, hb⟩
    replace HB := hid (below_to HB.out hb)
    replace A0 := hid (A0.out.below hb)
    clear hb
    cases hk : okWord xs ys
    · have HO := hid (okTW_no2 (s := s) hk)
      clear hk
      have ebox0 := A0.out.1
      go_wp2
      go_ret2
      exact ⟨ret_ib (ansTW_no HO.out).symm HO.out.symm, HB.out⟩
    · have HO := hid (okTW_yes HQ.out hk)
      have HK := hid hk
      clear hk
      obtain ⟨z, rfl, h3, h4, h5⟩ := okIdeal_all HQ.out
      have HG := hid h3
      have HN := hid h4
      clear h3 h4 h5
      have ebox0 := A0.out.1
      go_wp2_with fail
      clear ebox0
      refine (step_any _ _ xs ys z _ (HV.out.below HB.out) (HU.out.below HB.out) HG.out HN.out (okWord_in HK.out).2 hm).mono ?_
      rintro e w' ⟨rfl, hb⟩
      replace HB := hid (below_to HB.out hb)
      replace A0 := hid (A0.out.below hb)
      clear hb
      have ebox0 := A0.out.1
      go_wp2
      go_ret2
      exact ⟨ret_ib (ansTW_yes HO.out).symm HO.out.symm, HB.out⟩
end Go.Proofs.Ytclhebpkpmholaa
