/- OrderOfWord. -/
import Derived.Test.YtbjidoihnbjjdabCycD
import Derived.Test.YtbjidoihnbjjdabOrdC
namespace Go.Proofs.Ytbjidoihnbjjdab
open Go.RowKit Go.WideShapes Go.ChangeShapes
set_option linter.unusedVariables false

def okOW (xs ys : List Int) : Bool := okGW xs ys && (lcmAll (cycW xs ys)).isSome
def ansOW (xs ys : List Int) : Int := if okOW xs ys then (((lcmAll (cycW xs ys)).getD 0 : Nat) : Int) else 0
theorem okOW_no1 {xs ys : List Int} (h : okGW xs ys = false) : okOW xs ys = false := by simp [okOW, h]
theorem okOW_no2 {xs ys : List Int} (h : lcmAll (cycW xs ys) = none) : okOW xs ys = false := by simp [okOW, h]
theorem okOW_yes {xs ys : List Int} {m : Nat} (h : okGW xs ys = true) (k : lcmAll (cycW xs ys) = some m) : okOW xs ys = true := by simp [okOW, h, k]
theorem ansOW_no {xs ys : List Int} (h : okOW xs ys = false) : ansOW xs ys = 0 := by simp [ansOW, h]
theorem ansOW_yes {xs ys : List Int} {m : Nat} (h : okOW xs ys = true) (k : lcmAll (cycW xs ys) = some m) : ansOW xs ys = (m : Int) := by simp [ansOW, h, k]
/-- what lcmAll tells, as the program's pair -/
def lcmV (o : Option Nat) : Int := ((o.getD 0 : Nat) : Int)
theorem lcm_step {ls : List Int} {k m x : Nat} (h : lcmN ls k = some m) (hx : ls.getD k 0 = (x : Int)) : lcmN ls (k + 1) = if 1000000000000000 < m / Nat.gcd m x * x then none else some (m / Nat.gcd m x * x) := by
  simp only [lcmN, h, Option.bind_some, hx, Int.toNat_natCast]
theorem lcm_facts {ls : List Int} {k m x : Nat} (hp : ∀ y ∈ ls, 1 ≤ y ∧ y ≤ 1024) (hk : k < ls.length) (h : lcmN ls k = some m) (hx : ls.getD k 0 = (x : Int)) :
    1 ≤ m ∧ m ≤ 1000000000000000 ∧ 1 ≤ x ∧ x ≤ 1024 ∧ 1 ≤ Nat.gcd m x ∧ Nat.gcd m x ≤ 1024 ∧ x / Nat.gcd m x ≤ 1024 ∧ m / Nat.gcd m x ≤ 1000000000000000 ∧ m / Nat.gcd m x * x ≤ 1024000000000000000 := by
  have h1 := lcmN_le (fun y hy => (hp y hy).1) k (by omega) m h
  have h2 := hp (ls.getD k 0) (by simp [List.getD, hk])
  rw [hx] at h2
  have h3 := Nat.gcd_le_right m (show 0 < x by omega)
  have h4 : 0 < Nat.gcd m x := Nat.gcd_pos_of_pos_left _ (by omega)
  have h5 := Nat.div_le_self x (Nat.gcd m x)
  have h6 := Nat.div_le_self m (Nat.gcd m x)
  have h7 : m / Nat.gcd m x * x ≤ 1000000000000000 * 1024 := Nat.mul_le_mul (by omega) (by omega)
  exact ⟨h1.1, h1.2, by omega, by omega, h4, by omega, by omega, by omega, by omega⟩
set_option maxHeartbeats 800000 in
theorem commonMultiple_any (u : Value) (ls : List Int) (w : World) (hu : Ints w u ls) (hl : ls.length ≤ 1048576) (hp : ∀ y ∈ ls, 1 ≤ y ∧ y ≤ 1024) :
    Calls Try.prog 73 #[u] w fun r w' => r = .returned (.tuple #[.int .i64 (lcmV (lcmAll ls)), .bool (lcmAll ls).isSome]) ∧ Below w.heap.size w w' := by
  have HP := hid hp
  obtain ⟨A, c, rfl, hA⟩ := hu
  have HA := hid hA
  clear hA hp
  go_enter Try.func73, Try.ntmps73
  go_wp2
  go_loopw [4, 9] (fun q i wr => ∃ k m : Nat, k ≤ ls.length ∧ i = .int .i64 k ∧ q = .int .i64 m ∧ Hid (lcmN ls k = some m) ∧ Below w.heap.size w wr) (fun _ i _ => ls.length - (intOf i).toNat)
  case atStart => exact ⟨0, 1, Nat.zero_le _, rfl, rfl, hid rfl, Below.refl _ _⟩
  case round =>
    obtain ⟨k, m, hk, rfl, rfl, HM, hb⟩ := hrel
    by_cases hlt : k < ls.length
    · obtain ⟨b, o, rfl, hbl, hc⟩ := HA.out (by intro h; simp [h] at hlt)
      have hcell : wr.cell? ⟨b, o + k, none⟩ = some (.int .i64 (ls.getD k 0)) := (hb.cell (p := ⟨b, o + k, none⟩) hbl).trans (hc k hlt)
      have hx0 := HP.out (ls.getD k 0) (by simp [List.getD, hlt])
      obtain ⟨x, hx⟩ := Int.eq_ofNat_of_zero_le (show 0 ≤ ls.getD k 0 by omega)
      rw [hx] at hcell
      obtain ⟨f1, f2, f3, f4, f5, f6, f7, f8, f9⟩ := lcm_facts HP.out hlt HM.out hx
      have HSt := hid (lcm_step HM.out hx)
      have hsw := mul_gcd_swap m x f3
      obtain ⟨g, hg⟩ : ∃ g, Nat.gcd m x = g := ⟨_, rfl⟩
      have HGc := hid (commonDivisor_any m x)
      rw [hg] at hsw HSt f5 f6 f7 f8 f9 HGc
      obtain ⟨q, hq⟩ : ∃ q, x / g = q := ⟨_, rfl⟩
      obtain ⟨p, hpp⟩ : ∃ p, m / g * x = p := ⟨_, rfl⟩
      rw [hpp] at hsw HSt f9
      have hdiv := tdiv_nat x g
      have hdiv2 : ((x : Int) / (g : Int)) = ((x / g : Nat) : Int) := by simp
      rw [hq] at hdiv hdiv2 hsw f7
      have hk1 : k + 1 ≤ ls.length := by omega
      have HC := hid (HGc.out wr f2 (by omega))
      have hg0 : ¬ (g : Int) = 0 := by omega
      have hg1 : ((g : Int) == 0) = false := by rw [beq_eq_false_iff_ne]; omega
      have HB := hid hb
      have hg2 : (0 : Int) < g := by omega
      have hmul : ((m : Int) * (q : Int)) = (p : Int) := by rw [hsw]; simp
      have HMul := hid hmul
      have HP2 : Hid (wrap64 (p : Int) = (p : Int)) := hid (by unfold wrap64; omega)
      have HDiv := hid hdiv
      have HDiv2 := hid hdiv2
      clear hc hx0 hx hg hq hpp hsw hb f1 f2 f3 f4 f5 f6 f8 HGc hmul hdiv hdiv2
      by_cases hbI : (1000000000000000 : Int) < (p : Int)
      · have hbig : 1000000000000000 < p := by omega
        have HN := hid (HSt.out.trans (if_pos hbig))
        have HNo : Hid (lcmAll ls = none) := hid (lcmN_none HN.out _ hk1)
        clear hbig f9 HSt
        have hmul := HMul.out
        have hp2 := HP2.out
        have hdiv := HDiv.out
        have hdiv2 := HDiv2.out
        go_wp2_with fail
        refine HC.out.mono ?_
        rintro e' w' ⟨rfl, hb⟩
        have HB2 := hid (below_to HB.out hb)
        clear hb hcell
        go_wp2
        go_ret2
        exact ⟨ret_ib (by rw [HNo.out]; rfl) (by rw [HNo.out]; rfl), HB2.out⟩
      · have hbig : ¬ 1000000000000000 < p := by omega
        have HN := hid (HSt.out.trans (if_neg hbig))
        clear hbig f9 HSt
        have hmul := HMul.out
        have hp2 := HP2.out
        have hdiv := HDiv.out
        have hdiv2 := HDiv2.out
        go_wp2_with fail
        refine HC.out.mono ?_
        rintro e' w' ⟨rfl, hb⟩
        have HB2 := hid (below_to HB.out hb)
        clear hb hcell
        go_wp2
        clear hmul hp2 hdiv hdiv2
        go_roundw
        case rel => exact ⟨k + 1, p, hk1, by go_num, rfl, HN, HB2.out⟩
        case measure => simp [intOf]; omega
    · obtain rfl : k = ls.length := by omega
      have HAll : Hid (lcmAll ls = some m) := HM
      have HB := hid hb
      clear hb
      go_wp2
      go_ret2
      exact ⟨ret_ib (by rw [HAll.out]; rfl) (by rw [HAll.out]; rfl), HB.out⟩
set_option maxHeartbeats 800000 in
theorem implOrderOfWord_any (v : Value) (xs : List Int) (u : Value) (ys : List Int) (w : World) (hv : Ints w v xs) (hl : xs.length ≤ 1048576) (hu : Ints w u ys) (hm : ys.length ≤ 1048576) :
    Calls Try.prog 36 #[.agg #[v], u] w fun r w' => r = .returned (.tuple #[.int .i64 (ansOW xs ys), .bool (okOW xs ys)]) ∧ Below w.heap.size w w' := by
  have HV := hid hv
  have HU := hid hu
  clear hv hu
  go_enter Try.func36, Try.ntmps36
  have HB := hid (below_alloc (Below.refl _ w) (.cells #[v] 28))
  have A0 := hid (At.newAt w v 28 w.heap.size (by simp))
  go_wp2_with fail
  refine (implToggleCycles_any _ xs _ ys _ (HV.out.below HB.out) hl (HU.out.below HB.out) hm).mono ?_
  rintro e w' ⟨q, rfl, ho, hlen, hb⟩
  replace HB := hid (below_to HB.out hb)
  replace A0 := hid (A0.out.below hb)
  clear hb
  cases hk : okGW xs ys
  · have HO := hid (okOW_no1 hk)
    clear hk ho hlen
    have ebox0 := A0.out.1
    go_wp2
    go_ret2
    exact ⟨ret_ib (ansOW_no HO.out).symm HO.out.symm, HB.out⟩
  · have HK := hid hk
    have HI := hid ho.ints
    rw [tcL_yes hk] at HI hlen
    clear hk ho
    have HP := hid (cycW_pos (ys := ys) (okGW_good HK.out).1)
    obtain ⟨qA, qn, qc, hqs⟩ : ∃ A n c, q = .slice A n c := by obtain ⟨A, c, h, -⟩ := HI.out; exact ⟨A, _, c, h⟩
    subst hqs
    have ebox0 := A0.out.1
    go_wp2_with fail
    clear ebox0
    refine (commonMultiple_any _ (cycW xs ys) _ HI.out hlen HP.out).mono ?_
    rintro e w' ⟨rfl, hb⟩
    replace HB := hid (below_to HB.out hb)
    replace A0 := hid (A0.out.below hb)
    clear hb
    cases hm : lcmAll (cycW xs ys) with
    | none =>
      have HO := hid (okOW_no2 hm)
      have HM := hid hm
      clear hm
      have ebox0 := A0.out.1
      go_wp2
      go_ret2
      exact ⟨ret_ib (by rw [ansOW_no HO.out]; rfl) (by rw [HO.out]), HB.out⟩
    | some m =>
      have HO := hid (okOW_yes HK.out hm)
      have HM := hid hm
      clear hm
      have ebox0 := A0.out.1
      go_wp2
      go_ret2
      exact ⟨ret_ib (by rw [ansOW_yes HO.out HM.out]; rfl) (by rw [HO.out]), HB.out⟩
set_option maxHeartbeats 1600000 in
theorem specOrderOfWord_any (v : Value) (xs : List Int) (u : Value) (ys : List Int) (w : World) (hv : Ints w v xs) (hl : xs.length ≤ 1048576) (hu : Ints w u ys) (hm : ys.length ≤ 1048576) :
    Calls Try.prog 35 #[.agg #[v], u] w fun r w' => r = .returned (.tuple #[.int .i64 (ansOW xs ys), .bool (okOW xs ys)]) ∧ Below w.heap.size w w' := by
  have HV := hid hv
  have HU := hid hu
  clear hv hu
  go_enter Try.func35, Try.ntmps35
  have HB := hid (below_alloc (Below.refl _ w) (.cells #[v] 28))
  have A0 := hid (At.newAt w v 28 w.heap.size (by simp))
  go_wp2_with fail
  refine (poGood_any _ xs _ (HV.out.below HB.out) hl).mono ?_
  rintro e w' ⟨rfl, hb⟩
  replace HB := hid (below_to HB.out hb)
  replace A0 := hid (A0.out.below hb)
  clear hb
  cases hq : good xs
  · have HO := hid (okOW_no1 (okGW_no1 (ys := ys) hq))
    clear hq
    have ebox0 := A0.out.1
    go_wp2
    go_ret2
    exact ⟨ret_ib (ansOW_no HO.out).symm HO.out.symm, HB.out⟩
  · have HQ := hid hq
    clear hq
    have ebox0 := A0.out.1
    go_wp2_with fail
    clear ebox0
    refine (tgIsWord_any _ _ xs ys _ (HV.out.below HB.out) (HU.out.below HB.out) hl hm).mono ?_
    rintro e w' ⟨rfl, hb⟩
    replace HB := hid (below_to HB.out hb)
    replace A0 := hid (A0.out.below hb)
    clear hb
    cases hk : okWord xs ys
    · have HO := hid (okOW_no1 (okGW_no2 (xs := xs) hk))
      clear hk
      have ebox0 := A0.out.1
      go_wp2
      go_ret2
      exact ⟨ret_ib (ansOW_no HO.out).symm HO.out.symm, HB.out⟩
    · have HK := hid (okGW_yes HQ.out hk)
      have HW := hid (okWord_in hk).2
      clear hk
      have ebox0 := A0.out.1
      go_wp2_with fail
      clear ebox0
      refine (tgCycles_any _ _ xs ys _ (HV.out.below HB.out) (HU.out.below HB.out) HQ.out HW.out hm).mono ?_
      rintro e w' ⟨q, rfl, ho, hb⟩
      replace HB := hid (below_to HB.out hb)
      replace A0 := hid (A0.out.below hb)
      clear hb
      have HI := hid ho.ints
      have HI2 : Hid (Ints w' q (cycW xs ys)) := HI
      clear ho HI
      have HP := hid (cycW_pos (ys := ys) HQ.out)
      have hlen := cycW_length (ys := ys) HQ.out
      obtain ⟨ls, hls⟩ : ∃ ls, cycW xs ys = ls := ⟨_, rfl⟩
      rw [hls] at HI2 HP hlen
      have HLs := hid hls
      clear hls
      obtain ⟨A, c, rfl, hA⟩ := HI2.out
      have HA := hid hA
      clear hA
      go_wp2
      go_loopw [6, 22] (fun q i wr => ∃ k m : Nat, k ≤ ls.length ∧ i = .int .i64 k ∧ q = .int .i64 m ∧ Hid (lcmN ls k = some m) ∧ Below w.heap.size w wr ∧ Below w'.heap.size w' wr) (fun _ i _ => ls.length - (intOf i).toNat)
      case atStart => exact ⟨0, 1, Nat.zero_le _, rfl, rfl, hid rfl, HB.out, Below.refl _ _⟩
      case round =>
        obtain ⟨k, m, hk, rfl, rfl, HM, hb, hu⟩ := hrel
        have HB1 := hid hb
        have HU1 := hid hu
        by_cases hlt : k < ls.length
        · obtain ⟨b, o, rfl, hbl, hc⟩ := HA.out (by intro h; simp [h] at hlt)
          have hcell := (hu.cell (p := ⟨b, o + k, none⟩) hbl).trans (hc k hlt)
          clear hb hu
          have hx0 := HP.out (ls.getD k 0) (by simp [List.getD, hlt])
          obtain ⟨x, hx⟩ := Int.eq_ofNat_of_zero_le (show 0 ≤ ls.getD k 0 by omega)
          rw [hx] at hcell
          obtain ⟨f1, f2, f3, f4, f5, f6, f7, f8, f9⟩ := lcm_facts HP.out hlt HM.out hx
          have HSt := hid (lcm_step HM.out hx)
          obtain ⟨g, hg⟩ : ∃ g, Nat.gcd m x = g := ⟨_, rfl⟩
          have HGc := hid (fun W => tgGcd_any x m W f2 (by omega))
          rw [hg] at HSt f5 f6 f7 f8 f9 HGc
          obtain ⟨q, hq⟩ : ∃ q, m / g = q := ⟨_, rfl⟩
          obtain ⟨p, hpp⟩ : ∃ p, m / g * x = p := ⟨_, rfl⟩
          rw [hpp] at HSt f9
          have hdiv := tdiv_nat m g
          have hdiv2 : ((m : Int) / (g : Int)) = ((m / g : Nat) : Int) := by simp
          rw [hq] at hdiv hdiv2 hpp f8
          have hk1 : k + 1 ≤ ls.length := by omega
          have hg0 : ¬ (g : Int) = 0 := by omega
          have hg1 : ((g : Int) == 0) = false := by rw [beq_eq_false_iff_ne]; omega
          have hx1 : ¬ (x : Int) = 0 := by omega
          have hx2 : ((x : Int) == 0) = false := by rw [beq_eq_false_iff_ne]; omega
          have hxp : (0 : Int) < x := by omega
          have hgp : (0 : Int) < g := by omega
          obtain ⟨D, hD⟩ : ∃ D, 1000000000000000 / x = D := ⟨_, rfl⟩
          have hdq := tdiv_nat 1000000000000000 x
          have hdq2 : ((1000000000000000 : Int) / (x : Int)) = ((1000000000000000 / x : Nat) : Int) := by simp
          rw [hD] at hdq hdq2
          have hdq3 : (1000000000000000 : Int).tdiv (x : Int) = (D : Int) := hdq
          have hbd := div_bound (a := q) (M := 1000000000000000) (n := x) (by omega)
          rw [hD, hpp] at hbd
          have HMul := hid (show ((q : Int) * (x : Int)) = (p : Int) by rw [← hpp]; simp)
          have HQ3 : Hid (IntKind.i64.wrap (q : Int) = (q : Int)) := hid (IntWalk.i64_in _ (by omega))
          have HWq : Hid (wrap64 (q : Int) = (q : Int)) := hid (by unfold wrap64; omega)
          have hDle : D ≤ 1000000000000000 := by rw [← hD]; exact Nat.div_le_self _ _
          have HD3 : Hid (IntKind.i64.wrap (D : Int) = (D : Int)) := hid (IntWalk.i64_in _ (by omega))
          clear hDle
          have HP2 : Hid (wrap64 (p : Int) = (p : Int)) := hid (by unfold wrap64; omega)
          have HDiv := hid hdiv
          have HDiv2 := hid hdiv2
          have HDq := hid hdq3
          have HDq2 := hid hdq2
          clear hc hx0 hx hg hq hpp hD hdq f1 f2 f3 f4 f5 f6 f7 f8 hdiv hdiv2 hdq3 hdq2
          by_cases hbN : D < q
          · have HN := hid (HSt.out.trans (if_pos (hbd.1 hbN)))
            have HNo : Hid (lcmAll (cycW xs ys) = none) := hid (by rw [HLs.out]; exact lcmN_none HN.out _ hk1)
            have HO := hid (okOW_no2 HNo.out)
            have hbI : (D : Int) < (q : Int) := by omega
            clear f9 HSt hbd
            have hdiv := HDiv.out
            have hdiv2 := HDiv2.out
            have hdq := HDq.out
            have hdq2 := HDq2.out
            go_wp2_with fail
            have hq3 := HQ3.out
            have hd3 := HD3.out
            go_quiet ((go_at_call 72; exact Calls.quiet_of_same ((HGc.out _).mono fun _ _ ⟨a, b⟩ => ⟨a, b.symm⟩)))
            clear hq3 hd3
            go_wp2
            go_ret2
            exact ⟨ret_ib (ansOW_no HO.out).symm HO.out.symm, below_drewN HB1.out _⟩
          · have HN := hid (HSt.out.trans (if_neg (fun h => hbN (hbd.2 h))))
            have hbI : ¬ (D : Int) < (q : Int) := by omega
            clear f9 HSt hbd
            have hdiv := HDiv.out
            have hdiv2 := HDiv2.out
            have hdq := HDq.out
            have hdq2 := HDq2.out
            go_wp2_with fail
            have hq3 := HQ3.out
            have hd3 := HD3.out
            go_quiet ((go_at_call 72; exact Calls.quiet_of_same ((HGc.out _).mono fun _ _ ⟨a, b⟩ => ⟨a, b.symm⟩)))
            clear hq3 hd3
            clear hdq hdq2
            have hmul := HMul.out
            have hp2 := HP2.out
            have hwq := HWq.out
            go_wp2_with fail
            refine (HGc.out _).mono ?_
            rintro e' w3 ⟨rfl, rfl⟩
            go_wp2
            clear hmul hp2 hdiv hdiv2 hwq
            go_roundw
            case rel => exact ⟨k + 1, p, hk1, by go_num, by rw [HP2.out], HN, below_drewN HB1.out _, below_drewN HU1.out _⟩
            case measure => simp [intOf]; omega
        · obtain rfl : k = ls.length := by omega
          have HAll : Hid (lcmAll (cycW xs ys) = some m) := hid (by rw [HLs.out]; exact HM.out)
          have HO := hid (okOW_yes HK.out HAll.out)
          go_wp2
          go_ret2
          exact ⟨ret_ib (ansOW_yes HO.out HAll.out).symm HO.out.symm, HB1.out⟩
end Go.Proofs.Ytbjidoihnbjjdab
