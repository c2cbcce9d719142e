/- Sums of powers of roots of unity: both sides. -/
import Derived.Test.YtnlehkjfidpdlaaSvD
import Derived.Test.YtnlehkjfidpdlaaApi
namespace Go.Proofs.Ytnlehkjfidpdlaa
open Go.RowKit Go.WideShapes Go.ChangeShapes
set_option linter.unusedVariables false

def okRS (m d : Int) : Bool := tnB m && stB d
def ansRS (m d : Int) : Int := if okRS m d then rsN m.toNat d.toNat else 0
theorem okRS_no1 {m d : Int} (h : tnB m = false) : okRS m d = false := by unfold okRS; rw [h]; rfl
theorem okRS_no2 {m d : Int} (h : stB d = false) : okRS m d = false := by unfold okRS; rw [h, Bool.and_false]
theorem okRS_yes {m d : Int} (h : tnB m = true) (k : stB d = true) : okRS m d = true := by unfold okRS; rw [h, k]; rfl
theorem ansRS_no {m d : Int} (h : okRS m d = false) : ansRS m d = 0 := by simp [ansRS, h]
theorem ansRS_yes {m d : Nat} (h : okRS m d = true) : ansRS m d = rsN m d := by simp [ansRS, h]
set_option maxHeartbeats 800000 in
theorem svRoots_any (m d : Nat) (w : World) (hm : m ≤ 60) (hd : d ≤ 60) : Calls Try.prog 38 #[.int .i64 m, .int .i64 d] w fun r w' => r = .returned (.int .i64 (rsN m d)) ∧ w = w' := by
  have HLe := hid (fun j (hj : j ≤ 60) => rsT_le m d j hj)
  have HEnd : Hid (rsT m d m = rsN m d) := hid rfl
  go_enter Try.func38, Try.ntmps38
  go_wp2
  go_loop [5, 6] (fun q i => ∃ (j k : Nat) (z : Int), k = j + 1 ∧ k ≤ m + 1 ∧ q = .int .i64 z ∧ i = .int .i64 (k : Int) ∧ Hid (rsT m d j = z)) (fun _ i => m + 1 - (intOf i).toNat)
  case atStart => exact ⟨0, 1, 0, rfl, by omega, rfl, rfl, hid rfl⟩
  case round =>
    obtain ⟨j, k, z, hkj, hk, rfl, rfl, HZ⟩ := hrel
    by_cases hlt : k ≤ m
    · have hz := HLe.out j (by omega)
      rw [HZ.out] at hz
      have hz60 : -3600 ≤ z ∧ z ≤ 3600 := by omega
      have hkI : (k : Int) ≤ (m : Int) := by omega
      have hm1 := tmod_natC m k
      have hm2 : ((m : Int) % (k : Int)) = ((m % k : Nat) : Int) := by simp
      have hd1 := tmod_natC d k
      have hd2 : ((d : Int) % (k : Int)) = ((d % k : Nat) : Int) := by simp
      have hz3 : ¬ (k : Int) = 0 := by omega
      have hz4 : ((k : Int) == 0) = false := by rw [beq_eq_false_iff_ne]; omega
      have hz5 : (0 : Int) < (k : Int) := by omega
      have HM : Hid (m + 1 - (k + 1) < m + 1 - k) := hid (by omega)
      have HK1 : Hid (k + 1 = j + 1 + 1) := hid (by omega)
      have HK2 : Hid (k + 1 ≤ m + 1) := hid (by omega)
      have HY := hid (fun h h2 => rsT_yes (m := m) (d := d) (j := j) h h2)
      have HN := hid (fun h => rsT_no (m := m) (d := d) (j := j) h)
      rw [← hkj, HZ.out] at HY HN
      have HKj := hid hkj
      by_cases h0 : m % k = 0
      · rw [h0] at hm1 hm2
        by_cases h1 : d % k = 0
        · rw [h1] at hd1 hd2
          have HS := hid (HY.out h0 h1)
          have hq1 := tdiv_natC m k
          have hq2 : ((m : Int) / (k : Int)) = ((m / k : Nat) : Int) := by simp
          have hle : m / k ≤ m := Nat.div_le_self _ _
          have hge : 1 ≤ m / k := Nat.div_pos hlt (by omega)
          obtain ⟨y, hy⟩ : ∃ y, m / k = y := ⟨_, rfl⟩
          rw [hy] at hq1 hq2 hle hge HS
          have hwy : IntKind.i64.wrap (y : Int) = (y : Int) := IntWalk.i64_in _ (by omega)
          have HSv := hid (fun W => svSign_any y W hge (by omega))
          have hsg := mul_sg (k := k) (sgN_le y)
          obtain ⟨s, hs⟩ : ∃ s, sgN y = s := ⟨_, rfl⟩
          rw [hs] at HSv hsg HS
          obtain ⟨p, hp⟩ : ∃ p, (k : Int) * s = p := ⟨_, rfl⟩
          rw [hp] at hsg HS
          have hwp : IntKind.i64.wrap p = p := IntWalk.i64_in _ (by omega)
          have hws : IntKind.i64.wrap (z + p) = z + p := IntWalk.i64_in _ (by omega)
          clear hy h0 h1 hs hsg hz hkj HY HN
          go_wp2_with (go_at_call 55; refine (HSv.out _).mono ?_; rintro e w' ⟨rfl, rfl⟩)
          clear hm1 hm2 hd1 hd2 hz3 hz4 hq1 hq2 hwy hwp hws hp
          go_round
          case rel => exact ⟨k, k + 1, z + p, rfl, HK2.out, by first | rfl | go_num, by go_num, hid HS.out⟩
          case measure => simp [intOf]; first | exact HM.out | (have h := HM.out; omega)
        · have HS := hid (HN.out (fun h => h1 h.2))
          obtain ⟨r, hr⟩ : ∃ r, d % k = r := ⟨_, rfl⟩
          rw [hr] at hd1 hd2 h1
          have hr3 : ((r : Int) == 0) = false := by rw [beq_eq_false_iff_ne]; omega
          clear hr h1 h0 hz hkj HY HN
          go_wp2
          clear hm1 hm2 hd1 hd2 hz3 hz4 hr3
          go_round
          case rel => exact ⟨k, k + 1, z, rfl, HK2.out, rfl, by go_num, hid HS.out⟩
          case measure => simp [intOf]; first | exact HM.out | (have h := HM.out; omega)
      · have HS := hid (HN.out (fun h => h0 h.1))
        obtain ⟨r, hr⟩ : ∃ r, m % k = r := ⟨_, rfl⟩
        rw [hr] at hm1 hm2 h0
        have hr3 : ((r : Int) == 0) = false := by rw [beq_eq_false_iff_ne]; omega
        clear hr h0 hz hkj HY HN
        go_wp2
        clear hm1 hm2 hd1 hd2 hz3 hz4 hr3
        go_round
        case rel => exact ⟨k, k + 1, z, rfl, HK2.out, rfl, by go_num, hid HS.out⟩
        case measure => simp [intOf]; first | exact HM.out | (have h := HM.out; omega)
    · have HE : Hid (z = rsN m d) := hid (by rw [← HZ.out, ← HEnd.out, show j = m by omega])
      have hkI : ¬ (k : Int) ≤ (m : Int) := by omega
      clear hkj hk hlt
      go_wp2
      go_ret
      exact ⟨ret_int HE.out, rfl⟩
theorem specRootSum_any (m d : Int) (w : World) (wm : (Lit.int .i64 m).wf = true) (wd : (Lit.int .i64 d).wf = true) :
    Calls Try.prog 20 #[.int .i64 m, .int .i64 d] w fun r w' => r = .returned (.tuple #[.int .i64 (ansRS m d), .bool (okRS m d)]) ∧ Below w.heap.size w w' := by
  have HI1 : Hid (∀ W, Calls Try.prog 34 #[.int .i64 m, .int .i64 1, .int .i64 60] W fun r w' => r = .returned (.bool (tnB m)) ∧ W = w') := hid (fun W => l1In_any m 1 60 W)
  have HI2 : Hid (∀ W, Calls Try.prog 34 #[.int .i64 d, .int .i64 0, .int .i64 60] W fun r w' => r = .returned (.bool (stB d)) ∧ W = w') := hid (fun W => l1In_any d 0 60 W)
  clear wm wd
  cases hm : tnB m
  · have HO := hid (okRS_no1 (d := d) hm)
    rw [hm] at HI1
    clear hm
    go_enter Try.func20, Try.ntmps20
    go_wp2_with (go_at_call 34; refine (HI1.out _).mono ?_; rintro e w' ⟨rfl, rfl⟩)
    go_ret2
    exact ⟨ret_ib (ansRS_no HO.out).symm HO.out.symm, Below.refl _ _⟩
  · cases hd : stB d
    · have HO := hid (okRS_no2 (m := m) hd)
      rw [hm] at HI1
      rw [hd] at HI2
      clear hm hd
      go_enter Try.func20, Try.ntmps20
      go_wp2_with fail
      refine (HI1.out _).mono ?_
      rintro e w' ⟨rfl, rfl⟩
      go_wp2_with fail
      refine (HI2.out _).mono ?_
      rintro e w' ⟨rfl, rfl⟩
      go_wp2
      go_ret2
      exact ⟨ret_ib (ansRS_no HO.out).symm HO.out.symm, Below.refl _ _⟩
    · have HO := hid (okRS_yes hm hd)
      obtain ⟨x, rfl, hx1, hx2⟩ := tnB_nat hm
      obtain ⟨y, rfl, hy2⟩ := stB_nat hd
      rw [hm] at HI1
      rw [hd] at HI2
      have HA := hid (ansRS_yes HO.out)
      clear hm hd
      go_enter Try.func20, Try.ntmps20
      go_wp2_with fail
      refine (HI1.out _).mono ?_
      rintro e w' ⟨rfl, rfl⟩
      go_wp2_with fail
      refine (HI2.out _).mono ?_
      rintro e w' ⟨rfl, rfl⟩
      go_wp2_with fail
      refine (svRoots_any x y _ hx2 hy2).mono ?_
      rintro e w' ⟨rfl, rfl⟩
      go_wp2
      go_ret2
      exact ⟨ret_ib HA.out.symm HO.out.symm, Below.refl _ _⟩
set_option maxHeartbeats 800000 in
theorem implRootSum_any (m d : Int) (w : World) (wm : (Lit.int .i64 m).wf = true) (wd : (Lit.int .i64 d).wf = true) :
    Calls Try.prog 21 #[.int .i64 m, .int .i64 d] w fun r w' => r = .returned (.tuple #[.int .i64 (ansRS m d), .bool (okRS m d)]) ∧ Below w.heap.size w w' := by
  have HI1 := hid (fun W => isTurn_any m W)
  have HI2 := hid (fun W => areSteps_any d W)
  clear wm wd
  cases hm : tnB m
  · have HO := hid (okRS_no1 (d := d) hm)
    rw [hm] at HI1
    clear hm
    go_enter Try.func21, Try.ntmps21
    go_wp2_with (go_at_call 37; refine (HI1.out _).mono ?_; rintro e w' ⟨rfl, rfl⟩)
    go_ret2
    exact ⟨ret_ib (ansRS_no HO.out).symm HO.out.symm, Below.refl _ _⟩
  · cases hd : stB d
    · have HO := hid (okRS_no2 (m := m) hd)
      rw [hm] at HI1
      rw [hd] at HI2
      clear hm hd
      go_enter Try.func21, Try.ntmps21
      go_wp2_with fail
      refine (HI1.out _).mono ?_
      rintro e w' ⟨rfl, rfl⟩
      go_wp2_with fail
      refine (HI2.out _).mono ?_
      rintro e w' ⟨rfl, rfl⟩
      go_wp2
      go_ret2
      exact ⟨ret_ib (ansRS_no HO.out).symm HO.out.symm, Below.refl _ _⟩
    · have HO := hid (okRS_yes hm hd)
      obtain ⟨x, rfl, hx1, hx2⟩ := tnB_nat hm
      obtain ⟨y, rfl, hy2⟩ := stB_nat hd
      rw [hm] at HI1
      rw [hd] at HI2
      have HA := hid (ansRS_yes HO.out)
      have HG := hid (rs_gcd hx1 hx2 hy2)
      have hgx : Nat.gcd x y ≤ x := Nat.le_of_dvd (by omega) (Nat.gcd_dvd_left _ _)
      have HCd := hid (fun W => commonDivisor_any x y W (by omega) (by omega))
      have hMm : ∀ k, k ∈ dvN (Nat.gcd x y) → 1 ≤ k ∧ k ≤ x := fun k hk => by have := dvT_mem hk; omega
      have hLl : (dvN (Nat.gcd x y)).length ≤ 60 := Nat.le_trans (dvT_length _ _) (by omega)
      obtain ⟨g, hg⟩ : ∃ g, Nat.gcd x y = g := ⟨_, rfl⟩
      rw [hg] at HG hgx HCd hMm hLl
      have HLst : Hid (dvN g = dvN g) := hid rfl
      obtain ⟨L, hL⟩ : ∃ L, dvN g = L := ⟨_, rfl⟩
      have HL := hid hL
      rw [hL] at HG hMm hLl
      have HMm := hid hMm
      have HLe := hid (fun j (hj : j ≤ L.length) => rsL_le x (ks := L) (fun k hk => by have := hMm k hk; omega) j hj)
      clear hm hd hg hL hMm
      go_enter Try.func21, Try.ntmps21
      go_wp2_with fail
      refine (HI1.out _).mono ?_
      rintro e w' ⟨rfl, rfl⟩
      go_wp2_with fail
      refine (HI2.out _).mono ?_
      rintro e w' ⟨rfl, rfl⟩
      go_wp2_with fail
      refine (HCd.out _).mono ?_
      rintro e w1 ⟨rfl, hb⟩
      have HB := hid hb
      clear hb
      go_wp2_with fail
      refine (divisorsOf_any g _ (by omega)).mono ?_
      rintro e w2 ⟨u, rfl, ho, hb⟩
      rw [HL.out] at ho
      obtain ⟨A, c, rfl, hA⟩ := ho.ints
      rw [intsN_length] at hA ⊢
      have HA2 := hid hA
      have HB2 := hid (below_to HB.out hb)
      clear ho hb hA
      go_wp2
      go_loopw [6, 22] (fun q i wr => ∃ (j : Nat) (z : Int), j ≤ L.length ∧ q = .int .i64 z ∧ i = .int .i64 (j : Int) ∧ Hid (rsL x L j = z) ∧ Below w2.heap.size w2 wr) (fun _ i _ => L.length - (intOf i).toNat)
      case atStart => exact ⟨0, 0, Nat.zero_le _, rfl, rfl, hid rfl, Below.refl _ _⟩
      case round =>
        obtain ⟨j, z, hj, rfl, rfl, HZ, hb⟩ := hrel
        have HBr := hid hb
        by_cases hlt : j < L.length
        · obtain ⟨b, o, rfl, hbl, hc⟩ := HA2.out (by intro h; have := congrArg List.length h; rw [intsN_length, List.length_nil] at this; omega)
          have hcell := (hb.cell (p := ⟨b, o + j, none⟩) hbl).trans (hc j hlt)
          rw [intsN_get hlt] at hcell
          have hmem : L.getD j 0 ∈ L := by rw [List.getD_eq_getElem?_getD, List.getElem?_eq_getElem hlt]; exact List.getElem_mem _
          have hkk := HMm.out _ hmem
          have hz := HLe.out j hj
          have HS : Hid (rsL x L (j + 1) = rsL x L j + ((L.getD j 0 : Nat) : Int) * sgN (x / L.getD j 0)) := hid rfl
          rw [HZ.out] at hz HS
          obtain ⟨k, hk⟩ : ∃ k, L.getD j 0 = k := ⟨_, rfl⟩
          rw [hk] at hcell hkk HS
          have hz60 : -3600 ≤ z ∧ z ≤ 3600 := by omega
          have hz3 : ¬ (k : Int) = 0 := by omega
          have hz4 : ((k : Int) == 0) = false := by rw [beq_eq_false_iff_ne]; omega
          have hz5 : (0 : Int) < (k : Int) := by omega
          have hq1 := tdiv_natC x k
          have hq2 : ((x : Int) / (k : Int)) = ((x / k : Nat) : Int) := by simp
          have hle : x / k ≤ x := Nat.div_le_self _ _
          have hge : 1 ≤ x / k := Nat.div_pos hkk.2 (by omega)
          obtain ⟨y2, hy⟩ : ∃ y2, x / k = y2 := ⟨_, rfl⟩
          rw [hy] at hq1 hq2 hle hge HS
          have hwy : IntKind.i64.wrap (y2 : Int) = (y2 : Int) := IntWalk.i64_in _ (by omega)
          have HSv := hid (fun W => signOf_any y2 W hge (by omega))
          have hsg := mul_sg (k := k) (sgN_le y2)
          obtain ⟨s, hs⟩ : ∃ s, sgN y2 = s := ⟨_, rfl⟩
          rw [hs] at HSv hsg HS
          obtain ⟨p, hp⟩ : ∃ p, (k : Int) * s = p := ⟨_, rfl⟩
          rw [hp] at hsg HS
          have hwp : IntKind.i64.wrap p = p := IntWalk.i64_in _ (by omega)
          have hws : IntKind.i64.wrap (z + p) = z + p := IntWalk.i64_in _ (by omega)
          have HM : Hid (L.length - (j + 1) < L.length - j) := hid (by omega)
          clear hy hs hsg hz hc hmem hk hb
          go_wp2_with fail
          refine (HSv.out _).mono ?_
          rintro e w5 ⟨rfl, hb⟩
          have HB5 := hid (below_to HBr.out hb)
          clear hb hcell
          go_wp2
          clear hz3 hz4 hq1 hq2 hwy hwp hws hp
          go_roundw
          case rel => exact ⟨j + 1, z + p, hlt, by first | rfl | go_num, by go_num, hid HS.out, HB5.out⟩
          case measure => simp [intOf]; first | exact HM.out | (have h := HM.out; omega)
        · have HE : Hid (z = rsN x y) := hid (by rw [← HZ.out, ← HG.out, show j = L.length by omega])
          go_wp2
          go_ret2
          exact ⟨ret_ib (by rw [HA.out, HE.out]) HO.out.symm, below_to HB2.out HBr.out⟩
end Go.Proofs.Ytnlehkjfidpdlaa
