/- Row3 -/
import Derived.Test.YtbmhaamenjhjfaaGreatDoorPkD12
namespace Go.Proofs.YtbmhaamenjhjfaaGreatDoor
open Go.RowKit Go.WideShapes Go.ChangeShapes
set_option linter.unusedVariables false
set_option maxHeartbeats 1600000 in
theorem specRowmotionTimes_any (v : Value) (xs : List Int) (s k : Int) (w : World) (hv : Ints w v xs) (hl : xs.length ≤ 1048576) (wf : (Lit.int .i64 s).wf = true) (wfk : (Lit.int .i64 k).wf = true) :
    Calls Tryz.prog 82 #[.agg #[v], .int .i64 s, .int .i64 k] w fun r w' => r = .returned (.tuple #[.int .i64 (ansRT xs s k), .bool (okRT xs s k)]) ∧ Below w.heap.size w w' := by
  have HV := hid hv
  clear hv wf wfk
  go_enter Tryz.func82, Tryz.ntmps82
  have HB := hid (below_alloc (Below.refl _ w) (.cells #[v] 28))
  have A0 := hid (At.newAt w v 28 w.heap.size (by simp))
  go_wp2_with fail
  refine (tgIn_any _ xs s _ (HV.out.below HB.out) hl).mono ?_
  rintro e w' ⟨rfl, hb⟩
  replace HB := hid (below_to HB.out hb)
  replace A0 := hid (A0.out.below hb)
  clear hb
  cases hq : okIdeal xs s
  · have HO := hid (okRT_no1 (k := k) hq)
    clear hq
    have ebox0 := A0.out.1
    go_wp2
    go_ret2
    exact ⟨ret_ib (ansRT_no HO.out).symm HO.out.symm, HB.out⟩
  · have HQ := hid hq
    clear hq
    obtain ⟨z, rfl, h3, h4, h5⟩ := okIdeal_all HQ.out
    have HG := hid h3
    have HN := hid h4
    clear h3 h4 h5
    have ebox0 := A0.out.1
    cases hk : okK k
    · have HO := hid (okRT_no2 (xs := xs) (s := z) hk)
      have HK : Hid ((decide (-1000 ≤ k) && decide (k ≤ 1000)) = false) := hid hk
      clear hk
      go_wp2_with (go_at_call 129; refine (l1In_any _ _ _ _).mono ?_; rw [HK.out]; rintro e w' ⟨rfl, rfl⟩)
      go_ret2
      exact ⟨ret_ib (ansRT_no HO.out).symm HO.out.symm, HB.out⟩
    · have HO := hid (okRT_yes HQ.out hk)
      have HK : Hid ((decide (-1000 ≤ k) && decide (k ≤ 1000)) = true) := hid hk
      have hkk := okK_of hk
      clear hk
      go_wp2_with (go_at_call 129; refine (l1In_any _ _ _ _).mono ?_; rw [HK.out]; rintro e w' ⟨rfl, rfl⟩)
      clear ebox0
      by_cases h0 : 0 ≤ k
      · obtain ⟨n, rfl⟩ := Int.eq_ofNat_of_zero_le h0
        have HAns := hid (ansRT_pos HO.out)
        have HL := hid (fun k => iter_lt (f := rowmo xs) (m := 2 ^ xs.length) (fun s _ => rowmo_lt HG.out s) HN.out k)
        have hn : n ≤ 1000 := by omega
        clear hkk h0
        go_loopw [1, 2] (fun q i wr => ∃ j t : Nat, j ≤ n ∧ i = .int .i64 ((n - j : Nat) : Int) ∧ q = .int .i64 t ∧ Hid (iter (rowmo xs) j z = t) ∧ Below w.heap.size w wr ∧ At wr w.heap.size v) (fun _ i _ => (intOf i).toNat)
        case atStart => exact ⟨0, z, Nat.zero_le _, rfl, rfl, hid rfl, HB.out, A0.out⟩
        case round =>
          obtain ⟨j, t, hj, rfl, rfl, HT, hb, ha⟩ := hrel
          have hbox := ha.1
          have HB1 := hid hb
          have HA1 := hid ha
          clear hb ha
          obtain ⟨m, hm⟩ : ∃ m, n - j = m := ⟨_, rfl⟩
          rw [hm]
          by_cases hlt : 0 < m
          · have ht : t < 2 ^ xs.length := by rw [← HT.out]; exact HL.out j
            have HT2 := hid ht
            have hj2 : j + 1 ≤ n := by omega
            have HM : Hid (n - (j + 1) = m - 1) := hid (by omega)
            have hm1 : m ≤ 1000 := by omega
            clear ht hm
            go_wp2_with fail
            clear hbox
            refine (tgRow_any _ xs t _ (HV.out.below HB1.out) HG.out HT2.out).mono ?_
            rintro e' w' ⟨rfl, hb⟩
            have HB2 := hid (below_to HB1.out hb)
            have HA2 := hid (HA1.out.below hb)
            clear hb
            go_wp2
            go_roundw
            case rel => exact ⟨j + 1, _, by omega, (by rw [HM.out]; congr 1; omega), rfl, hid (by rw [iter, HT.out]), HB2.out, HA2.out⟩
            case measure => simp [intOf]; omega
          · obtain rfl : m = 0 := by omega
            have hjn : j = n := by omega
            subst hjn
            clear hm hlt
            go_wp2
            go_loopw [1, 2] (fun q i wr => i = .int .i64 0 ∧ q = .int .i64 t ∧ Below w.heap.size w wr) (fun _ _ _ => 0)
            case atStart => exact ⟨rfl, rfl, HB1.out⟩
            case round =>
              obtain ⟨rfl, rfl, hb⟩ := hrel
              have HB3 := hid hb
              clear hb
              go_wp2
              go_ret2
              exact ⟨ret_ib (by rw [HAns.out, ← HT.out]) HO.out.symm, HB3.out⟩
      · obtain ⟨n, hn⟩ := Int.eq_ofNat_of_zero_le (show 0 ≤ -k by omega)
        have HAns := hid (ansRT_neg HO.out (by omega) hn)
        have HL := hid (fun k => iter_lt (f := rowba xs) (m := 2 ^ xs.length) (fun s _ => rowba_lt xs s) HN.out k)
        have hneg : k = -(n : Int) := by omega
        have hn2 : n ≤ 1000 := by omega
        clear hn
        subst hneg
        clear hkk
        go_loopw [1, 2] (fun q i wr => i = .int .i64 (-(n : Int)) ∧ q = .int .i64 z ∧ Below w.heap.size w wr ∧ At wr w.heap.size v) (fun _ _ _ => 0)
        case atStart => exact ⟨rfl, rfl, HB.out, A0.out⟩
        case round =>
          obtain ⟨rfl, rfl, hb, ha⟩ := hrel
          have HB1 := hid hb
          have HA1 := hid ha
          clear hb ha
          have h0' : ¬ (0 : Int) < -(n : Int) := by omega
          go_wp2
          go_loopw [1, 2] (fun q i wr => ∃ (j t : Nat) (x : Int), j ≤ n ∧ i = .int .i64 x ∧ x + n = j ∧ q = .int .i64 t ∧ Hid (iter (rowba xs) j z = t) ∧ Below w.heap.size w wr ∧ At wr w.heap.size v) (fun _ i _ => (-(intOf i)).toNat)
          case atStart => exact ⟨0, z, _, Nat.zero_le _, rfl, by omega, rfl, hid rfl, HB1.out, HA1.out⟩
          case round =>
            obtain ⟨j, t, x, hj, rfl, hx, rfl, HT, hb, ha⟩ := hrel
            have hbox := ha.1
            have HB1 := hid hb
            have HA1 := hid ha
            have HX := hid hx
            clear hb ha
            by_cases hlt : x < 0
            · have ht : t < 2 ^ xs.length := by rw [← HT.out]; exact HL.out j
              have HT2 := hid ht
              have hxl : -1000 ≤ x := by omega
              clear ht hx
              go_wp2_with fail
              clear hbox
              refine (tgBack_any _ xs t _ (HV.out.below HB1.out) HG.out HT2.out).mono ?_
              rintro e' w' ⟨rfl, hb⟩
              have HB2 := hid (below_to HB1.out hb)
              have HA2 := hid (HA1.out.below hb)
              clear hb
              go_wp2
              go_roundw
              case rel => exact ⟨j + 1, _, x + 1, by have := HX.out; omega, rfl, by have := HX.out; omega, rfl, hid (by rw [iter, HT.out]), HB2.out, HA2.out⟩
              case measure => simp [intOf]; omega
            · have hjn : j = n := by omega
              subst hjn
              clear hx
              go_wp2
              go_ret2
              exact ⟨ret_ib (by rw [HAns.out, ← HT.out]) HO.out.symm, HB1.out⟩
end Go.Proofs.YtbmhaamenjhjfaaGreatDoor
