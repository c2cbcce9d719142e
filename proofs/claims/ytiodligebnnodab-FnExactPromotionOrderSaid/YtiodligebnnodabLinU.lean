/- Toggles one after the other, promotion and evacuation in the model. -/
import Derived.Test.YtiodligebnnodabLinT
namespace Go.Proofs.Ytiodligebnnodab
open Go.RowKit Go.WideShapes Go.ChangeShapes
set_option linter.unusedVariables false

theorem Ints.lw {w : World} {q : Value} {n : Nat} {ws : List Int} (h : Ints w q ws) (hl : Lw n ws) : ∃ A c, q = .slice A n c := by
  obtain ⟨A, c, rfl, -⟩ := h
  exact ⟨A, c, by rw [hl.len]⟩
theorem liUp_any (v u : Value) (xs ws : List Int) (K : Nat) (w : World) (hv : Ints w v xs) (hu : Ints w u ws) (hg : good xs = true) (hw : Lw xs.length ws) (hK : K + 1 ≤ xs.length) :
    Calls Try.prog 41 #[.agg #[v], u, .int .i64 K] w fun (r : Ending) w' => ∃ q, r = Ending.returned q ∧ Ints w' q (upL xs K ws) ∧ Below w.heap.size w w' := by
  have HV := hid hv
  have HU := hid hu
  have HG := hid hg
  have HW := hid hw
  have hl10 := (good_length hg).2
  obtain ⟨A, c, rfl⟩ := hu.lw hw
  clear hv hu hg hw
  go_enter Try.func41, Try.ntmps41
  have HB := hid (below_alloc (Below.refl _ w) (.cells #[v] 28))
  have A0 := hid (At.newAt w v 28 w.heap.size (by simp))
  go_wp2
  go_loopw [1, 7] (fun q i wr => ∃ k : Nat, k ≤ K ∧ i = .int .i64 k ∧ Ints wr q (upL xs k ws) ∧ Below w.heap.size w wr ∧ At wr w.heap.size v) (fun _ i _ => K - (intOf i).toNat)
  case atStart => exact ⟨0, Nat.zero_le _, rfl, HU.out.below HB.out, HB.out, A0.out⟩
  case round =>
    obtain ⟨k, hk, rfl, hi, hb, ha⟩ := hrel
    have HI := hid hi
    have HB1 := hid hb
    have HA1 := hid ha
    have HWk := hid (HW.out.up (xs := xs) (k := k) (by omega))
    obtain ⟨A, c, rfl⟩ := hi.lw HWk.out
    have hbx := ha.1
    clear hi hb ha
    by_cases hlt : k < K
    · go_wp2_with fail
      refine (liToggle_any _ _ xs (upL xs k ws) k _ (HV.out.below HB1.out) HI.out HG.out HWk.out (by omega)).mono ?_
      rintro e w2 ⟨q2, rfl, ho2, hb2⟩
      have HI2 := hid ho2.ints
      have HB2 := hid (below_to HB1.out hb2)
      have HA2 := hid (HA1.out.below hb2)
      clear ho2 hb2 hbx
      go_wp2
      go_roundw
      case rel => exact ⟨k + 1, by omega, by go_num, HI2.out, HB2.out, HA2.out⟩
      case measure => simp [intOf]; omega
    · obtain rfl : k = K := by omega
      clear hbx
      go_wp2
      go_ret
      exact ⟨_, rfl, HI.out, HB1.out⟩

theorem liPromotePos_any (v u : Value) (xs ws : List Int) (T : Nat) (w : World) (hv : Ints w v xs) (hu : Ints w u ws) (hg : good xs = true) (hw : Lw xs.length ws) (hT : T ≤ 100) :
    Calls Try.prog 26 #[.agg #[v], u, .int .i64 T] w fun (r : Ending) w' => ∃ q, r = Ending.returned q ∧ OwnI 3 w' w.heap.size q (turnN (fun _ => pro1 xs) T ws) ∧ Below w.heap.size w w' := by
  have HV := hid hv
  have HU := hid hu
  have HG := hid hg
  have HW := hid hw
  have hl1 := (good_length hg).1
  have hl10 := (good_length hg).2
  obtain ⟨A, c, rfl⟩ := hu.lw hw
  clear hv hu hg hw
  go_enter Try.func26, Try.ntmps26
  have HB := hid (below_alloc (Below.refl _ w) (.cells #[v] 28))
  have A0 := hid (At.newAt w v 28 w.heap.size (by simp))
  go_wp2
  go_loopw [1, 2] (fun q i wr => ∃ k : Nat, k ≤ T ∧ i = .int .i64 ((T - k : Nat) : Int) ∧ Ints wr q (turnN (fun _ => pro1 xs) k ws) ∧ Below w.heap.size w wr ∧ At wr w.heap.size v) (fun _ i _ => (intOf i).toNat)
  case atStart => exact ⟨0, Nat.zero_le _, by simp, HU.out.below HB.out, HB.out, A0.out⟩
  case round =>
    obtain ⟨k, hk, rfl, hi, hb, ha⟩ := hrel
    have HI := hid hi
    have HB1 := hid hb
    have HA1 := hid ha
    have HWk := hid (show Lw xs.length (turnN (fun _ => pro1 xs) k ws) from HW.out.turn fun _ _ a ha => ha.pro1 hl1)
    obtain ⟨A, c, rfl⟩ := hi.lw HWk.out
    have hbx := ha.1
    clear hi hb ha
    by_cases hlt : k < T
    · obtain ⟨d, hd⟩ : ∃ d, T - k = d + 1 := ⟨T - k - 1, by omega⟩
      have hd2 : T - (k + 1) = d := by omega
      have HD2 := hid hd2
      rw [hd]
      obtain ⟨n, hn⟩ : ∃ n, xs.length = n + 1 := ⟨xs.length - 1, by omega⟩
      have HN := hid (show xs.length - 1 = n by omega)
      have hn1 : n + 1 ≤ xs.length := by omega
      have hn2 : n < 10 := by omega
      have hdle : d < 100 := by omega
      have e1 : (xs.length : Int) - 1 = (n : Int) := by omega
      clear hn hd hd2
      go_wp2_with fail
      refine (liUp_any _ _ xs (turnN (fun _ => pro1 xs) k ws) n _ (HV.out.below HB1.out) HI.out HG.out HWk.out hn1).mono ?_
      rintro e w2 ⟨q2, rfl, hi2, hb2⟩
      have HI2 : Hid (Ints w2 q2 (turnN (fun _ => pro1 xs) (k + 1) ws)) := hid (by show Ints w2 q2 (upL xs (xs.length - 1) _); rw [HN.out]; exact hi2)
      have HB2 := hid (below_to HB1.out hb2)
      have HA2 := hid (HA1.out.below hb2)
      clear hi2 hb2 hbx
      go_wp2
      go_roundw
      case rel => exact ⟨k + 1, by omega, (by rw [HD2.out]), HI2.out, HB2.out, HA2.out⟩
      case measure => simp [intOf]
    · obtain rfl : k = T := by omega
      have hd : k - k = 0 := Nat.sub_self k
      rw [hd]
      clear hbx hd
      go_wp2
      go_loop [1, 2, 7] (fun q i j => Hid (q = .slice A xs.length c) ∧ i = .int .i64 0) (fun _ _ _ => 0)
      case atStart => exact ⟨hid rfl, rfl⟩
      case round =>
        obtain ⟨HQ, rfl⟩ := hrel
        have := HQ.out
        subst this
        go_wp2_with fail
        refine (l1OwnL_any _ _ _ HI.out (by rw [HWk.out.len]; omega)).mono ?_
        rintro e w3 ⟨q3, rfl, ho, hb3⟩
        have HO := hid (ho.mono HB1.out.size)
        have HB3 := hid (below_to HB1.out hb3)
        obtain ⟨qA, qn, qc, rfl⟩ := ho.shape3
        clear ho hb3
        go_wp2
        go_ret
        exact ⟨_, rfl, HO.out, HB3.out⟩

set_option maxHeartbeats 1600000 in
theorem liPromoteNeg_any (v u : Value) (xs ws : List Int) (T : Nat) (w : World) (hv : Ints w v xs) (hu : Ints w u ws) (hg : good xs = true) (hw : Lw xs.length ws) (hT0 : 1 ≤ T) (hT : T ≤ 100) :
    Calls Try.prog 26 #[.agg #[v], u, .int .i64 (-(T : Int))] w fun (r : Ending) w' => ∃ q, r = Ending.returned q ∧ OwnI 3 w' w.heap.size q (turnN (fun _ => orp1 xs) T ws) ∧ Below w.heap.size w w' := by
  have HV := hid hv
  have HU := hid hu
  have HG := hid hg
  have HW := hid hw
  have hl1 := (good_length hg).1
  have hl10 := (good_length hg).2
  obtain ⟨A, c, rfl⟩ := hu.lw hw
  clear hv hu hg hw
  go_enter Try.func26, Try.ntmps26
  have HB := hid (below_alloc (Below.refl _ w) (.cells #[v] 28))
  have A0 := hid (At.newAt w v 28 w.heap.size (by simp))
  go_wp2
  go_loop [1, 2] (fun q i => Hid (q = .slice A xs.length c) ∧ i = .int .i64 (-(T : Int))) (fun _ _ => 0)
  case atStart => exact ⟨hid rfl, rfl⟩
  case round =>
    obtain ⟨HQ, rfl⟩ := hrel
    have := HQ.out
    subst this
    have hTd1 : decide ((0 : Int) < -(T : Int)) = false := by simp
    have hTd2 : decide ((T : Int) < 0) = false := by simp
    have hTd3 : decide (-(T : Int) < 0) = true := by simp; omega
    have hTd4 : decide ((0 : Int) < (T : Int)) = true := by simp; omega
    go_wp2
    clear hTd1 hTd2 hTd3 hTd4
    go_loopw [1, 2, 7] (fun q i j wr => ∃ k : Nat, k ≤ T ∧ i = .int .i64 (-((T - k : Nat) : Int)) ∧ Ints wr q (turnN (fun _ => orp1 xs) k ws) ∧ Below w.heap.size w wr ∧ At wr w.heap.size v) (fun _ i _ _ => (-(intOf i)).toNat)
    case atStart => exact ⟨0, Nat.zero_le _, by simp, HU.out.below HB.out, HB.out, A0.out⟩
    case round =>
      obtain ⟨k, hk, rfl, hi, hb, ha⟩ := hrel
      have HI := hid hi
      have HB1 := hid hb
      have HA1 := hid ha
      have HWk := hid (show Lw xs.length (turnN (fun _ => orp1 xs) k ws) from HW.out.turn fun _ _ a ha => ha.orp1 hl1)
      obtain ⟨A, c, rfl⟩ := hi.lw HWk.out
      clear hi hb ha
      by_cases hlt : k < T
      · obtain ⟨d, hd⟩ : ∃ d, T - k = d := ⟨_, rfl⟩
        have HD2 := hid (show (-(d : Int) + 1) = -((T - (k + 1) : Nat) : Int) by omega)
        have hd1 : 1 ≤ d := by omega
        rw [hd]
        obtain ⟨n, hn⟩ : ∃ n, xs.length = n + 1 := ⟨xs.length - 1, by omega⟩
        have HN := hid (show xs.length - 1 = n by omega)
        have hn1 : n + 1 ≤ xs.length := by omega
        have hn2 : n < 10 := by omega
        have hdle : d ≤ 100 := by omega
        have e1 : (xs.length : Int) - 2 = (n : Int) - 1 := by omega
        have hdd : decide (0 < d) = true := by simp; omega
        clear hn hd
        go_wp2
        clear e1 hdd
        go_loopw [1, 7] (fun q j wi => ∃ m : Nat, m ≤ n ∧ j = .int .i64 ((n : Int) - 1 - (m : Int)) ∧ Ints wi q (downL xs n m (turnN (fun _ => orp1 xs) k ws)) ∧ Below w.heap.size w wi ∧ At wi w.heap.size v) (fun _ j _ => (intOf j + 1).toNat)
        case atStart => exact ⟨0, Nat.zero_le _, by simp, HI.out, HB1.out, HA1.out⟩
        case round =>
          obtain ⟨m, hm, rfl, hi, hb, ha⟩ := hrel
          have HI1 := hid hi
          have HB2 := hid hb
          have HA2 := hid ha
          have HWm := hid (HWk.out.down (xs := xs) (t := n) (k := m) (by omega) hm)
          obtain ⟨A, c, rfl⟩ := hi.lw HWm.out
          have hbx := ha.1
          clear hi hb ha
          by_cases hlm : m < n
          · obtain ⟨p, hp⟩ : ∃ p, n - 1 - m = p := ⟨_, rfl⟩
            have hp2 : (n : Int) - 1 - (m : Int) = (p : Int) := by omega
            have HP := hid hp
            have HP2 := hid hp2
            have hp3 : p + 1 < xs.length := by omega
            rw [hp2]
            clear hp hp2
            go_wp2_with fail
            refine (liToggle_any _ _ xs _ p _ (HV.out.below HB2.out) HI1.out HG.out HWm.out hp3).mono ?_
            rintro e w2 ⟨q2, rfl, ho2, hb2⟩
            have HI2 : Hid (Ints w2 q2 (downL xs n (m + 1) (turnN (fun _ => orp1 xs) k ws))) := hid (by rw [downL_succ, HP.out]; exact ho2.ints)
            have HB3 := hid (below_to HB2.out hb2)
            have HA3 := hid (HA2.out.below hb2)
            clear ho2 hb2 hbx
            go_wp2
            go_roundw
            case rel => exact ⟨m + 1, by omega, (by have := HP2.out; first | (congr 1; omega) | (simp; omega)), HI2.out, HB3.out, HA3.out⟩
            case measure => first | (simp [intOf]; done) | (simp [intOf]; have := HP2.out; omega)
          · obtain rfl : m = n := by omega
            have e2 : (m : Int) - 1 - (m : Int) = -1 := by omega
            rw [e2]
            clear hbx e2
            have HI2 : Hid (Ints wr (.slice A xs.length c) (turnN (fun _ => orp1 xs) (k + 1) ws)) := hid (by show Ints _ _ (downL xs (xs.length - 1) (xs.length - 1) _); rw [HN.out]; exact HI1.out)
            go_wp2
            go_roundw
            case rel => exact ⟨k + 1, by omega, (by rw [← HD2.out]), HI2.out, HB2.out, HA2.out⟩
            case measure => simp [intOf]; omega
      · obtain rfl : k = T := by omega
        have hd : k - k = 0 := Nat.sub_self k
        rw [hd]
        clear hd
        go_wp2_with fail
        refine (l1OwnL_any _ _ _ HI.out (by rw [HWk.out.len]; omega)).mono ?_
        rintro e w3 ⟨q3, rfl, ho, hb3⟩
        have HO := hid (ho.mono HB1.out.size)
        have HB3 := hid (below_to HB1.out hb3)
        obtain ⟨qA, qn, qc, rfl⟩ := ho.shape3
        clear ho hb3
        go_wp2
        go_ret
        exact ⟨_, rfl, HO.out, HB3.out⟩
theorem liPromote_any (v u : Value) (xs ws : List Int) (t : Int) (w : World) (hv : Ints w v xs) (hu : Ints w u ws) (hg : good xs = true) (hw : Lw xs.length ws) (h1 : -100 ≤ t) (h2 : t ≤ 100) :
    Calls Try.prog 26 #[.agg #[v], u, .int .i64 t] w fun (r : Ending) w' => ∃ q, r = Ending.returned q ∧ OwnI 3 w' w.heap.size q (proL xs t ws) ∧ Below w.heap.size w w' := by
  by_cases h : t < 0
  · obtain ⟨T, hT⟩ := Int.eq_ofNat_of_zero_le (show 0 ≤ -t by omega)
    have e : t = -(T : Int) := by omega
    subst e
    have := liPromoteNeg_any v u xs ws T w hv hu hg hw (by omega) (by omega)
    rw [proL_neg h, show (- -(T : Int)).toNat = T by omega]
    exact this
  · obtain ⟨T, rfl⟩ := Int.eq_ofNat_of_zero_le (show 0 ≤ t by omega)
    rw [proL_nat]
    exact liPromotePos_any v u xs ws T w hv hu hg hw (by omega)

theorem liEvacuate_any (v u : Value) (xs ws : List Int) (w : World) (hv : Ints w v xs) (hu : Ints w u ws) (hg : good xs = true) (hw : Lw xs.length ws) :
    Calls Try.prog 37 #[.agg #[v], u] w fun (r : Ending) w' => ∃ q, r = Ending.returned q ∧ OwnI 3 w' w.heap.size q (evaL xs ws) ∧ Below w.heap.size w w' := by
  have HV := hid hv
  have HU := hid hu
  have HG := hid hg
  have HW := hid hw
  have hl1 := (good_length hg).1
  have hl10 := (good_length hg).2
  obtain ⟨A, c, rfl⟩ := hu.lw hw
  obtain ⟨n, hn⟩ : ∃ n, xs.length = n + 1 := ⟨xs.length - 1, by omega⟩
  have HN := hid (show xs.length - 1 = n by omega)
  have HN1 := hid hn
  have hn2 : n < 10 := by omega
  have e1 : (xs.length : Int) - 1 = (n : Int) := by omega
  clear hv hu hg hw hn
  go_enter Try.func37, Try.ntmps37
  have HB := hid (below_alloc (Below.refl _ w) (.cells #[v] 28))
  have A0 := hid (At.newAt w v 28 w.heap.size (by simp))
  go_wp2
  clear e1
  go_loopw [1, 5] (fun q i wr => ∃ k : Nat, k ≤ n ∧ i = .int .i64 ((n - k : Nat) : Int) ∧ Ints wr q (turnN (fun k => upL xs (n - k)) k ws) ∧ Below w.heap.size w wr ∧ At wr w.heap.size v) (fun _ i _ => (intOf i).toNat)
  case atStart => exact ⟨0, Nat.zero_le _, by simp, HU.out.below HB.out, HB.out, A0.out⟩
  case round =>
    obtain ⟨k, hk, rfl, hi, hb, ha⟩ := hrel
    have HI := hid hi
    have HB1 := hid hb
    have HA1 := hid ha
    have HWk := hid (show Lw xs.length (turnN (fun k => upL xs (n - k)) k ws) from HW.out.turn fun _ _ a ha => ha.up (by have := HN1.out; omega))
    obtain ⟨A, c, rfl⟩ := hi.lw HWk.out
    have hbx := ha.1
    clear hi hb ha
    by_cases hlt : k < n
    · obtain ⟨d, hd⟩ : ∃ d, n - k = d + 1 := ⟨n - k - 1, by omega⟩
      have HD := hid hd
      have HD2 := hid (show n - (k + 1) = d by omega)
      rw [hd]
      have hd1 : d + 1 + 1 ≤ xs.length := by have := HN1.out; omega
      have hdle : d < 10 := by omega
      clear hd
      go_wp2_with fail
      refine (liUp_any _ _ xs (turnN (fun k => upL xs (n - k)) k ws) (d + 1) _ (HV.out.below HB1.out) HI.out HG.out HWk.out hd1).mono ?_
      rintro e w2 ⟨q2, rfl, hi2, hb2⟩
      have HI2 : Hid (Ints w2 q2 (turnN (fun k => upL xs (n - k)) (k + 1) ws)) := hid (by show Ints w2 q2 (upL xs (n - k) _); rw [HD.out]; exact hi2)
      have HB2 := hid (below_to HB1.out hb2)
      have HA2 := hid (HA1.out.below hb2)
      clear hi2 hb2 hbx
      go_wp2
      go_roundw
      case rel => exact ⟨k + 1, by omega, (by rw [HD2.out]), HI2.out, HB2.out, HA2.out⟩
      case measure => simp [intOf]
    · obtain rfl : k = n := by omega
      have hd : k - k = 0 := Nat.sub_self k
      rw [hd]
      clear hbx hd
      have HEq : Hid (evaL xs ws = turnN (fun j => upL xs (k - j)) k ws) := hid (by unfold evaL; rw [HN.out])
      go_wp2_with fail
      refine (l1OwnL_any _ _ _ HI.out (by rw [HWk.out.len]; omega)).mono ?_
      rintro e w3 ⟨q3, rfl, ho, hb3⟩
      have HO := hid (ho.mono HB1.out.size)
      have HB3 := hid (below_to HB1.out hb3)
      obtain ⟨qA, qn, qc, rfl⟩ := ho.shape3
      clear ho hb3
      go_wp2
      go_ret
      exact ⟨_, rfl, by rw [HEq.out]; exact HO.out, HB3.out⟩
end Go.Proofs.Ytiodligebnnodab
