/- ValueByRemainders: both sides. -/
import Derived.Test.YtnlehkjfidpdlaaSvR
namespace Go.Proofs.Ytnlehkjfidpdlaa
open Go.RowKit Go.WideShapes Go.ChangeShapes
set_option linter.unusedVariables false

def okVB (rs : List Int) (d : Int) : Bool := restB rs && (eqB rs && stB d)
def ansVB (rs : List Int) (d : Int) : Int := if okVB rs d then vlN rs d.toNat else 0
theorem okVB_no1 {rs : List Int} {d : Int} (h : restB rs = false) : okVB rs d = false := by unfold okVB; rw [h]; rfl
theorem okVB_no2 {rs : List Int} {d : Int} (h : eqB rs = false) : okVB rs d = false := by unfold okVB; rw [h]; simp
theorem okVB_no3 {rs : List Int} {d : Int} (h : stB d = false) : okVB rs d = false := by unfold okVB; rw [h]; simp
theorem okVB_yes {rs : List Int} {d : Int} (h : restB rs = true) (h2 : eqB rs = true) (h3 : stB d = true) : okVB rs d = true := by unfold okVB; rw [h, h2, h3]; rfl
theorem ansVB_no {rs : List Int} {d : Int} (h : okVB rs d = false) : ansVB rs d = 0 := by simp [ansVB, h]
theorem ansVB_yes {rs : List Int} {d : Nat} (h : okVB rs d = true) : ansVB rs d = vlN rs d := by simp [ansVB, h]
set_option maxHeartbeats 1600000 in
theorem specValueByRemainders_any (v : Value) (rs : List Int) (d : Int) (w : World) (hv : Ints w v rs) (hl : rs.length ≤ 1048576) (wd : (Lit.int .i64 d).wf = true) :
    Calls Try.prog 22 #[v, .int .i64 d] w fun r w' => r = .returned (.tuple #[.int .i64 (ansVB rs d), .bool (okVB rs d)]) ∧ Below w.heap.size w w' := by
  have HI1 := hid (fun W (hW : Ints W v rs) => svRests_any v rs W hW hl)
  have HI2 : Hid (∀ W, Calls Try.prog 34 #[.int .i64 d, .int .i64 0, .int .i64 60] W fun r w' => r = .returned (.bool (stB d)) ∧ W = w') := hid (fun W => l1In_any d 0 60 W)
  have HV := hid hv
  obtain ⟨A, c, rfl, hA⟩ := hv
  have HA := hid hA
  clear wd hA
  cases hr : restB rs
  · have HO := hid (okVB_no1 (d := d) hr)
    rw [hr] at HI1
    clear hr
    go_enter Try.func22, Try.ntmps22
    go_wp2_with (go_at_call 43; refine (HI1.out _ HV.out).mono ?_; rintro e w' ⟨rfl, rfl⟩)
    go_ret2
    exact ⟨ret_ib (ansVB_no HO.out).symm HO.out.symm, Below.refl _ _⟩
  cases hd : stB d
  · have HO := hid (okVB_no3 (rs := rs) hd)
    rw [hr] at HI1
    rw [hd] at HI2
    clear hr hd
    go_enter Try.func22, Try.ntmps22
    go_wp2_with fail
    refine (HI1.out _ HV.out).mono ?_
    rintro e w' ⟨rfl, rfl⟩
    go_wp2_with fail
    refine (HI2.out _).mono ?_
    rintro e w' ⟨rfl, rfl⟩
    go_wp2
    go_ret2
    exact ⟨ret_ib (ansVB_no HO.out).symm HO.out.symm, Below.refl _ _⟩
  obtain ⟨y, rfl, hy2⟩ := stB_nat hd
  have HR := hid hr
  have HSt := hid hd
  obtain ⟨h1, h2, h3⟩ := restB_all hr
  have HEn := hid (fun r (hr : r < rs.length) h => eqB_no hr h)
  have HEy := hid (fun h => eqB_yes (rs := rs) h)
  have HLe := hid (fun j => vlT_le hr y j)
  have HVt := hid (fun g => vt_le hr y g)
  have HEnd : Hid (vlT rs y rs.length = vlN rs y) := hid rfl
  have HCell := hid h3
  rw [hr] at HI1
  rw [hd] at HI2
  have hne : rs ≠ [] := by intro h; rw [h] at h1; simp at h1
  obtain ⟨b, o, rfl, hbl, hc⟩ := HA.out hne
  have HC := hid (fun W (hW : Below w.heap.size w W) j (hj : j < rs.length) => (hW.cell (p := ⟨b, o + j, none⟩) hbl).trans (hc j hj))
  have HVlY := hid (fun j h => vlT_yes (rs := rs) (d := y) (j := j) h)
  have HVlN := hid (fun j h => vlT_no (rs := rs) (d := y) (j := j) h)
  have HVtE : Hid (∀ g, vt rs y g = rs.getD (g % rs.length) 0 * rsN (rs.length / g) y) := hid (fun g => rfl)
  have HOk := hid (fun h => okVB_yes (rs := rs) (d := y) hr h hd)
  have HNo := hid (fun h => okVB_no2 (rs := rs) (d := y) h)
  have HAn := hid (fun h => ansVB_yes (rs := rs) (d := y) h)
  have HAz := hid (fun h => ansVB_no (rs := rs) (d := (y : Int)) h)
  obtain ⟨n, hn⟩ : ∃ n, rs.length = n := ⟨_, rfl⟩
  rw [hn] at HEn HEy HEnd HCell HC HVlY HVlN HVtE h1 h2 ⊢
  rw [hn] at HV
  rw [hn] at HI1
  clear hr hd hn h3 hbl hc hne HA
  go_enter Try.func22, Try.ntmps22
  go_wp2_with fail
  refine (HI1.out _ HV.out).mono ?_
  rintro e w' ⟨rfl, rfl⟩
  go_wp2_with fail
  refine (HI2.out _).mono ?_
  rintro e w' ⟨rfl, rfl⟩
  go_wp2
  go_loopw [23] (fun i wr => ∃ k : Nat, k ≤ n ∧ i = .int .i64 (k : Int) ∧ Hid (∀ r, r < k → rs.getD r 0 = rs.getD (Nat.gcd n r % n) 0) ∧ Below w.heap.size w wr) (fun i _ => n - (intOf i).toNat)
  case atStart => exact ⟨0, Nat.zero_le _, rfl, hid (fun r hr => absurd hr (Nat.not_lt_zero _)), Below.refl _ _⟩
  case round =>
    obtain ⟨k, hk, rfl, HK, hb⟩ := hrel
    have HB := hid hb
    clear hb
    by_cases hlt : k < n
    · have hc1 := HC.out _ HB.out k hlt
      obtain ⟨x, hx⟩ : ∃ x, rs.getD k 0 = x := ⟨_, rfl⟩
      have HX := hid hx
      rw [hx] at hc1
      have HGc := hid (fun W => liGcd_any n k W (by omega) (by omega))
      have HEk := hid (HEn.out k hlt)
      obtain ⟨g, hg⟩ : ∃ g, Nat.gcd n k = g := ⟨_, rfl⟩
      have HG := hid hg
      rw [hg] at HGc HEk
      have hgl : g % n < n := Nat.mod_lt _ (by omega)
      have hm1 := tmod_natC g n
      have hm2 : ((g : Int) % (n : Int)) = ((g % n : Nat) : Int) := by simp
      obtain ⟨r, hr⟩ : ∃ r, g % n = r := ⟨_, rfl⟩
      have HRr := hid hr
      rw [hr] at hgl hm1 hm2 HEk
      have hz3 : ¬ (n : Int) = 0 := by omega
      have hz4 : ((n : Int) == 0) = false := by rw [beq_eq_false_iff_ne]; omega
      have hz5 : (0 : Int) < (n : Int) := by omega
      have hrI : (r : Int) < (n : Int) := by omega
      obtain ⟨y2, hy⟩ : ∃ y2, rs.getD r 0 = y2 := ⟨_, rfl⟩
      have HY := hid hy
      rw [HX.out, hy] at HEk
      clear hx hg hr hy
      go_wp2_with fail
      refine (HGc.out _).mono ?_
      rintro e w1 ⟨rfl, hb⟩
      have HB1 := hid (below_to HB.out hb)
      have hc2 := HC.out _ HB1.out r hgl
      rw [HY.out] at hc2
      clear hb hc1
      by_cases hxy : x = y2
      · subst hxy
        go_wp2
        clear hm1 hm2 hz3 hz4 hc2
        go_roundw
        case rel => exact ⟨k + 1, hlt, by go_num, hid (fun r' hr' => by
          by_cases h : r' = k
          · subst h; rw [HX.out, HG.out, HRr.out, HY.out]
          · exact HK.out r' (by omega)), HB1.out⟩
        case measure => simp [intOf]; omega
      · have HO := hid (HNo.out (HEk.out hxy))
        have hxy2 : (x != y2) = true := by rw [bne_iff_ne]; exact hxy
        go_wp2
        go_ret2
        exact ⟨ret_ib (HAz.out HO.out).symm HO.out.symm, HB1.out⟩
    · have HO := hid (HOk.out (HEy.out (fun r hr => HK.out r (by omega))))
      have HA2 := hid (HAn.out HO.out)
      have hkn : ¬ (k : Int) < (n : Int) := by omega
      clear hlt hk
      go_wp2
      go_loopw [9, 10] (fun q i w2 => ∃ (j k : Nat) (z : Int), k = j + 1 ∧ k ≤ n + 1 ∧ q = .int .i64 z ∧ i = .int .i64 (k : Int) ∧ Hid (vlT rs y j = z) ∧ Below w.heap.size w w2) (fun _ i _ => n + 1 - (intOf i).toNat)
      case atStart => exact ⟨0, 1, 0, rfl, by omega, rfl, rfl, hid rfl, HB.out⟩
      case round =>
        obtain ⟨j, k, z, hkj, hk, rfl, rfl, HZ, hb⟩ := hrel
        have HB2 := hid hb
        clear hb
        by_cases hlt : k ≤ n
        · have hz := HLe.out j
          rw [HZ.out] at hz
          have hz60 : -30000000000000 ≤ z ∧ z ≤ 30000000000000 := by omega
          have hkI : (k : Int) ≤ (n : Int) := by omega
          have hm1 := tmod_natC n k
          have hm2 : ((n : Int) % (k : Int)) = ((n % k : Nat) : Int) := by simp
          have hz3 : ¬ (k : Int) = 0 := by omega
          have hz4 : ((k : Int) == 0) = false := by rw [beq_eq_false_iff_ne]; omega
          have hz5 : (0 : Int) < (k : Int) := by omega
          have HM : Hid (n + 1 - (k + 1) < n + 1 - k) := hid (by omega)
          have HK2 : Hid (k + 1 ≤ n + 1) := hid (by omega)
          have HYy := hid (HVlY.out j)
          have HNn := hid (HVlN.out j)
          rw [← hkj, HZ.out] at HYy HNn
          by_cases h0 : n % k = 0
          · have HS := hid (HYy.out h0)
            rw [h0] at hm1 hm2
            have hvt := HVt.out k
            have hve := HVtE.out k
            have hrl : k % n < n := Nat.mod_lt _ (by omega)
            have hc2 := HC.out _ HB2.out _ hrl
            have hcb := HCell.out _ hrl
            have hm3 := tmod_natC k n
            have hm4 : ((k : Int) % (n : Int)) = ((k % n : Nat) : Int) := by simp
            obtain ⟨r, hr⟩ : ∃ r, k % n = r := ⟨_, rfl⟩
            rw [hr] at hrl hc2 hm3 hm4 hve hcb
            have hq1 := tdiv_natC n k
            have hq2 : ((n : Int) / (k : Int)) = ((n / k : Nat) : Int) := by simp
            have hle : n / k ≤ n := Nat.div_le_self _ _
            have HSv := hid (fun W => svRoots_any (n / k) y W (by omega) hy2)
            obtain ⟨y2, hy⟩ : ∃ y2, n / k = y2 := ⟨_, rfl⟩
            rw [hy] at hq1 hq2 hle HSv hve
            have hwy : IntKind.i64.wrap (y2 : Int) = (y2 : Int) := IntWalk.i64_in _ (by omega)
            have hwr : IntKind.i64.wrap (r : Int) = (r : Int) := IntWalk.i64_in _ (by omega)
            obtain ⟨x, hx⟩ : ∃ x, rs.getD r 0 = x := ⟨_, rfl⟩
            obtain ⟨s, hs⟩ : ∃ s, rsN y2 y = s := ⟨_, rfl⟩
            obtain ⟨p, hp⟩ : ∃ p, vt rs y k = p := ⟨_, rfl⟩
            rw [hx] at hc2 hve hcb
            rw [hs] at HSv hve
            rw [hp] at hvt hve HS
            have hmul : x * s = p := hve.symm
            have hwp : IntKind.i64.wrap p = p := IntWalk.i64_in _ (by omega)
            have hws : IntKind.i64.wrap (z + p) = z + p := IntWalk.i64_in _ (by omega)
            have hn3 : ¬ (n : Int) = 0 := by omega
            have hn4 : ((n : Int) == 0) = false := by rw [beq_eq_false_iff_ne]; omega
            have hn5 : (0 : Int) < (n : Int) := by omega
            have hrI : (r : Int) < (n : Int) := by omega
            clear hr hy hx hs hp hve hvt hz hkj h0 HYy HNn hcb
            go_wp2_with fail
            go_quiet ((go_at_call 38; exact Calls.quiet_of_same ((HSv.out _).mono fun _ _ ⟨a, b⟩ => ⟨a, b.symm⟩)))
            go_wp2
            clear hm1 hm2 hm3 hm4 hz3 hz4 hq1 hq2 hwy hwr hwp hws hmul hn3 hn4
            go_roundw
            case rel => exact ⟨k, k + 1, z + p, rfl, HK2.out, by first | rfl | go_num, by go_num, hid HS.out, below_drewN HB2.out _⟩
            case measure => simp [intOf]; first | exact HM.out | (have h := HM.out; omega)
          · have HS := hid (HNn.out h0)
            obtain ⟨r, hr⟩ : ∃ r, n % k = r := ⟨_, rfl⟩
            rw [hr] at hm1 hm2 h0
            have hr3 : ((r : Int) == 0) = false := by rw [beq_eq_false_iff_ne]; omega
            clear hr h0 hz hkj HYy HNn
            go_wp2
            clear hm1 hm2 hz3 hz4 hr3
            go_roundw
            case rel => exact ⟨k, k + 1, z, rfl, HK2.out, rfl, by go_num, hid HS.out, HB2.out⟩
            case measure => simp [intOf]; first | exact HM.out | (have h := HM.out; omega)
        · have HE : Hid (z = vlN rs y) := hid (by rw [← HZ.out, ← HEnd.out, show j = n by omega])
          have hkI : ¬ (k : Int) ≤ (n : Int) := by omega
          clear hkj hk hlt
          go_wp2
          go_ret2
          exact ⟨ret_ib (by rw [HA2.out, HE.out]) HO.out.symm, HB2.out⟩
set_option maxHeartbeats 800000 in
theorem areEqualByDivisor_any (v : Value) (rs : List Int) (w : World) (hv : Ints w v rs) (hr : restB rs = true) :
    Calls Try.prog 46 #[v] w fun r w' => r = .returned (.bool (eqB rs)) ∧ Below w.heap.size w w' := by
  obtain ⟨A, c, rfl, hA⟩ := hv
  obtain ⟨h1, h2, h3⟩ := restB_all hr
  have HEn := hid (fun r (hr : r < rs.length) h => eqB_no hr h)
  have HEy := hid (fun h => eqB_yes (rs := rs) h)
  have hne : rs ≠ [] := by intro h; rw [h] at h1; simp at h1
  obtain ⟨b, o, rfl, hbl, hc⟩ := hA hne
  have HC := hid (fun W (hW : Below w.heap.size w W) j (hj : j < rs.length) => (hW.cell (p := ⟨b, o + j, none⟩) hbl).trans (hc j hj))
  obtain ⟨n, hn⟩ : ∃ n, rs.length = n := ⟨_, rfl⟩
  rw [hn] at HEn HEy HC h1 h2 ⊢
  clear hr hn h3 hbl hc hne hA
  go_enter Try.func46, Try.ntmps46
  go_wp2
  go_loopw [10] (fun i wr => ∃ k : Nat, k ≤ n ∧ i = .int .i64 (k : Int) ∧ Hid (∀ r, r < k → rs.getD r 0 = rs.getD (Nat.gcd n r % n) 0) ∧ Below w.heap.size w wr) (fun i _ => n - (intOf i).toNat)
  case atStart => exact ⟨0, Nat.zero_le _, rfl, hid (fun r hr => absurd hr (Nat.not_lt_zero _)), Below.refl _ _⟩
  case round =>
    obtain ⟨k, hk, rfl, HK, hb⟩ := hrel
    have HB := hid hb
    clear hb
    by_cases hlt : k < n
    · have hc1 := HC.out _ HB.out k hlt
      obtain ⟨x, hx⟩ : ∃ x, rs.getD k 0 = x := ⟨_, rfl⟩
      have HX := hid hx
      rw [hx] at hc1
      have HGc := hid (fun W => commonDivisor_any n k W (by omega) (by omega))
      have HEk := hid (HEn.out k hlt)
      obtain ⟨g, hg⟩ : ∃ g, Nat.gcd n k = g := ⟨_, rfl⟩
      have HG := hid hg
      rw [hg] at HGc HEk
      have hgl : g % n < n := Nat.mod_lt _ (by omega)
      have hm1 := tmod_natC g n
      have hm2 : ((g : Int) % (n : Int)) = ((g % n : Nat) : Int) := by simp
      obtain ⟨r, hr⟩ : ∃ r, g % n = r := ⟨_, rfl⟩
      have HRr := hid hr
      rw [hr] at hgl hm1 hm2 HEk
      have hz3 : ¬ (n : Int) = 0 := by omega
      have hz4 : ((n : Int) == 0) = false := by rw [beq_eq_false_iff_ne]; omega
      have hz5 : (0 : Int) < (n : Int) := by omega
      have hrI : (r : Int) < (n : Int) := by omega
      obtain ⟨y2, hy⟩ : ∃ y2, rs.getD r 0 = y2 := ⟨_, rfl⟩
      have HY := hid hy
      rw [HX.out, hy] at HEk
      clear hx hg hr hy
      go_wp2_with fail
      refine (HGc.out _).mono ?_
      rintro e w1 ⟨rfl, hb⟩
      have HB1 := hid (below_to HB.out hb)
      have hc2 := HC.out _ HB1.out r hgl
      rw [HY.out] at hc2
      clear hb hc1
      by_cases hxy : x = y2
      · subst hxy
        go_wp2
        clear hm1 hm2 hz3 hz4 hc2
        go_roundw
        case rel => exact ⟨k + 1, hlt, by go_num, hid (fun r' hr' => by
          by_cases h : r' = k
          · subst h; rw [HX.out, HG.out, HRr.out, HY.out]
          · exact HK.out r' (by omega)), HB1.out⟩
        case measure => simp [intOf]; omega
      · have HO := hid (HEk.out hxy)
        have hxy2 : (x != y2) = true := by rw [bne_iff_ne]; exact hxy
        go_wp2
        go_ret
        exact ⟨ret_bool HO.out.symm, HB1.out⟩
    · have HO := hid (HEy.out (fun r hr => HK.out r (by omega)))
      have hkn : ¬ (k : Int) < (n : Int) := by omega
      clear hlt hk
      go_wp2
      go_ret
      exact ⟨ret_bool HO.out.symm, HB.out⟩
set_option maxHeartbeats 1600000 in
theorem implValueByRemainders_any (v : Value) (rs : List Int) (d : Int) (w : World) (hv : Ints w v rs) (hl : rs.length ≤ 1048576) (wd : (Lit.int .i64 d).wf = true) :
    Calls Try.prog 23 #[v, .int .i64 d] w fun r w' => r = .returned (.tuple #[.int .i64 (ansVB rs d), .bool (okVB rs d)]) ∧ Below w.heap.size w w' := by
  have HI1 := hid (fun W (hW : Ints W v rs) => areRests_any v rs W hW hl)
  have HI2 := hid (fun W => areSteps_any d W)
  have HV := hid hv
  obtain ⟨A, c, rfl, hA⟩ := hv
  have HA := hid hA
  clear wd hA
  cases hr : restB rs
  · have HO := hid (okVB_no1 (d := d) hr)
    rw [hr] at HI1
    clear hr
    go_enter Try.func23, Try.ntmps23
    go_wp2_with fail
    refine (HI1.out _ HV.out).mono ?_
    rintro e w1 ⟨rfl, hb⟩
    have HB := hid hb
    clear hb
    go_wp2
    go_ret2
    exact ⟨ret_ib (ansVB_no HO.out).symm HO.out.symm, HB.out⟩
  have HI3 := hid (fun W (hW : Ints W (.slice A rs.length c) rs) => areEqualByDivisor_any (.slice A rs.length c) rs W hW hr)
  cases he : eqB rs
  · have HO := hid (okVB_no2 (d := d) he)
    rw [hr] at HI1
    rw [he] at HI3
    clear hr he
    go_enter Try.func23, Try.ntmps23
    go_wp2_with fail
    refine (HI1.out _ HV.out).mono ?_
    rintro e w1 ⟨rfl, hb⟩
    have HB := hid hb
    clear hb
    go_wp2_with fail
    refine (HI3.out _ (HV.out.below HB.out)).mono ?_
    rintro e w1 ⟨rfl, hb⟩
    have HB2 := hid (below_to HB.out hb)
    clear hb
    go_wp2
    go_ret2
    exact ⟨ret_ib (ansVB_no HO.out).symm HO.out.symm, HB2.out⟩
  cases hd : stB d
  · have HO := hid (okVB_no3 (rs := rs) hd)
    rw [hr] at HI1
    rw [he] at HI3
    rw [hd] at HI2
    clear hr he hd
    go_enter Try.func23, Try.ntmps23
    go_wp2_with fail
    refine (HI1.out _ HV.out).mono ?_
    rintro e w1 ⟨rfl, hb⟩
    have HB := hid hb
    clear hb
    go_wp2_with fail
    refine (HI3.out _ (HV.out.below HB.out)).mono ?_
    rintro e w1 ⟨rfl, hb⟩
    have HB2 := hid (below_to HB.out hb)
    clear hb
    go_wp2_with fail
    refine (HI2.out _).mono ?_
    rintro e w1 ⟨rfl, rfl⟩
    go_wp2
    go_ret2
    exact ⟨ret_ib (ansVB_no HO.out).symm HO.out.symm, HB2.out⟩
  obtain ⟨y, rfl, hy2⟩ := stB_nat hd
  have HO := hid (okVB_yes hr he hd)
  have HAn := hid (ansVB_yes HO.out)
  obtain ⟨h1, h2, h3⟩ := restB_all hr
  have HLe := hid (fun j => vlL_le hr y (dvN rs.length) j)
  have HVt := hid (fun g => vt_le hr y g)
  have HEnd := hid (vlL_full rs y)
  have HCell := hid h3
  rw [hr] at HI1
  rw [he] at HI3
  rw [hd] at HI2
  have hne : rs ≠ [] := by intro h; rw [h] at h1; simp at h1
  obtain ⟨b, o, rfl, hbl, hc⟩ := HA.out hne
  have HC := hid (fun W (hW : Below w.heap.size w W) j (hj : j < rs.length) => (hW.cell (p := ⟨b, o + j, none⟩) hbl).trans (hc j hj))
  have HVtE : Hid (∀ g, vt rs y g = rs.getD (g % rs.length) 0 * rsN (rs.length / g) y) := hid (fun g => rfl)
  have hMm : ∀ k, k ∈ dvN rs.length → 1 ≤ k ∧ k ≤ rs.length := fun k hk => by have := dvT_mem hk; omega
  have hLl : (dvN rs.length).length ≤ 60 := Nat.le_trans (dvT_length _ _) (by omega)
  obtain ⟨n, hn⟩ : ∃ n, rs.length = n := ⟨_, rfl⟩
  rw [hn] at HLe HEnd HCell HC HVtE hMm hLl h1 h2 ⊢
  rw [hn] at HV
  rw [hn] at HI1
  rw [hn] at HI3
  have HSt : Hid (∀ j, vlL rs y (dvN n) (j + 1) = vlL rs y (dvN n) j + vt rs y ((dvN n).getD j 0)) := hid (fun j => rfl)
  obtain ⟨L, hL⟩ : ∃ L, dvN n = L := ⟨_, rfl⟩
  have HL := hid hL
  rw [hL] at HLe HEnd hMm hLl HSt
  have HMm := hid hMm
  clear hr hd he hn h3 hbl hc hne HA hMm hL
  go_enter Try.func23, Try.ntmps23
  go_wp2_with fail
  refine (HI1.out _ HV.out).mono ?_
  rintro e w1 ⟨rfl, hb⟩
  have HB := hid hb
  clear hb
  go_wp2_with fail
  refine (HI3.out _ (HV.out.below HB.out)).mono ?_
  rintro e w2 ⟨rfl, hb⟩
  have HB2 := hid (below_to HB.out hb)
  clear hb
  go_wp2_with fail
  refine (HI2.out _).mono ?_
  rintro e w3 ⟨rfl, rfl⟩
  go_wp2_with fail
  refine (divisorsOf_any n _ (by omega)).mono ?_
  rintro e w4 ⟨u, rfl, ho, hb⟩
  rw [HL.out] at ho
  obtain ⟨A2, c2, rfl, hA⟩ := ho.ints
  rw [intsN_length] at hA ⊢
  have HA2 := hid hA
  have HB4 := hid (below_to HB2.out hb)
  clear ho hb hA
  go_wp2
  go_loopw [7, 30] (fun q i wr => ∃ (j : Nat) (z : Int), j ≤ L.length ∧ q = .int .i64 z ∧ i = .int .i64 (j : Int) ∧ Hid (vlL rs y L j = z) ∧ Below w4.heap.size w4 wr) (fun _ i _ => L.length - (intOf i).toNat)
  case atStart => exact ⟨0, 0, Nat.zero_le _, rfl, rfl, hid rfl, Below.refl _ _⟩
  case round =>
    obtain ⟨j, z, hj, rfl, rfl, HZ, hb⟩ := hrel
    have HBr := hid hb
    by_cases hlt : j < L.length
    · obtain ⟨b2, o2, rfl, hbl, hc⟩ := HA2.out (by intro h; have := congrArg List.length h; rw [intsN_length, List.length_nil] at this; omega)
      have hcell := (hb.cell (p := ⟨b2, o2 + j, none⟩) hbl).trans (hc j hlt)
      rw [intsN_get hlt] at hcell
      have hmem : L.getD j 0 ∈ L := by rw [List.getD_eq_getElem?_getD, List.getElem?_eq_getElem hlt]; exact List.getElem_mem _
      have hkk := HMm.out _ hmem
      have hz := HLe.out j
      have HS := hid (HSt.out j)
      rw [HZ.out] at hz HS
      obtain ⟨k, hk⟩ : ∃ k, L.getD j 0 = k := ⟨_, rfl⟩
      rw [hk] at hcell hkk HS
      have hz60 : -30000000000000 ≤ z ∧ z ≤ 30000000000000 := by omega
      have hz3 : ¬ (k : Int) = 0 := by omega
      have hz4 : ((k : Int) == 0) = false := by rw [beq_eq_false_iff_ne]; omega
      have hz5 : (0 : Int) < (k : Int) := by omega
      have hq1 := tdiv_natC n k
      have hq2 : ((n : Int) / (k : Int)) = ((n / k : Nat) : Int) := by simp
      have hle : n / k ≤ n := Nat.div_le_self _ _
      have hge : 1 ≤ n / k := Nat.div_pos hkk.2 (by omega)
      have hvt := HVt.out k
      have hve := HVtE.out k
      have hrl : k % n < n := Nat.mod_lt _ (by omega)
      have HC2 := hid (fun W hW => HC.out W hW _ hrl)
      have hm3 := tmod_natC k n
      have hm4 : ((k : Int) % (n : Int)) = ((k % n : Nat) : Int) := by simp
      obtain ⟨r, hr⟩ : ∃ r, k % n = r := ⟨_, rfl⟩
      rw [hr] at hrl HC2 hm3 hm4 hve
      obtain ⟨y2, hy⟩ : ∃ y2, n / k = y2 := ⟨_, rfl⟩
      rw [hy] at hq1 hq2 hle hge hve
      have hwy : IntKind.i64.wrap (y2 : Int) = (y2 : Int) := IntWalk.i64_in _ (by omega)
      have HRs := hid (fun W => implRootSum_any (y2 : Int) (y : Int) W (WalkArith.wf_i64 (by omega)) (WalkArith.wf_i64 (by omega)))
      have hok : okRS (y2 : Int) (y : Int) = true := okRS_yes (tnB_of hge (by omega)) (stB_of hy2)
      rw [hok, ansRS_yes hok] at HRs
      obtain ⟨x, hx⟩ : ∃ x, rs.getD r 0 = x := ⟨_, rfl⟩
      obtain ⟨s, hs⟩ : ∃ s, rsN y2 y = s := ⟨_, rfl⟩
      obtain ⟨p, hp⟩ : ∃ p, vt rs y k = p := ⟨_, rfl⟩
      rw [hx] at HC2 hve
      rw [hs] at HRs hve
      rw [hp] at hvt hve HS
      have hmul : x * s = p := hve.symm
      have hwp : IntKind.i64.wrap p = p := IntWalk.i64_in _ (by omega)
      have hws : IntKind.i64.wrap (z + p) = z + p := IntWalk.i64_in _ (by omega)
      have hn3 : ¬ (n : Int) = 0 := by omega
      have hn4 : ((n : Int) == 0) = false := by rw [beq_eq_false_iff_ne]; omega
      have hn5 : (0 : Int) < (n : Int) := by omega
      have hrI : (r : Int) < (n : Int) := by omega
      have HM : Hid (L.length - (j + 1) < L.length - j) := hid (by omega)
      have hjn : j + 1 ≤ L.length := hlt
      clear hr hy hx hs hp hve hvt hz hmem hk hb hc hok
      go_wp2_with fail
      refine (HRs.out _).mono ?_
      rintro e w5 ⟨rfl, hb⟩
      have HB5 := hid (below_to HBr.out hb)
      have hc2 := HC2.out _ (below_to HB4.out HB5.out)
      clear hb hcell
      go_wp2
      clear hz3 hz4 hq1 hq2 hwy hwp hws hmul hn3 hn4 hm3 hm4 hc2
      go_roundw
      case rel => exact ⟨j + 1, z + p, hjn, by first | rfl | go_num, by go_num, hid HS.out, HB5.out⟩
      case measure => simp [intOf]; first | exact HM.out | (have h := HM.out; omega)
    · have HE : Hid (z = vlN rs y) := hid (by rw [← HZ.out, ← HEnd.out, show j = L.length by omega])
      go_wp2
      go_ret2
      exact ⟨ret_ib (by rw [HAn.out, HE.out]) HO.out.symm, below_to HB4.out HBr.out⟩
end Go.Proofs.Ytnlehkjfidpdlaa
