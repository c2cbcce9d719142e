/- Texts CycE, TgG, Nest2, Fcov, one behind the other. -/
import Derived.Deep.Matrix
import Derived.Test.YtpdoheagfjeefaaPkTogglesUndoProof01
import Derived.Test.YtpdoheagfjeefaaPkTogglesUndoProof02
import Derived.Test.YtpdoheagfjeefaaPkTogglesUndoProof05
import Derived.Test.YtpdoheagfjeefaaPkTogglesUndoProof07
import Derived.Test.YtpdoheagfjeefaaPkTogglesUndoProof11
import Derived.Test.YtpdoheagfjeefaaPkTogglesUndoProof12
/- OrderOfWord. -/
namespace Go.Proofs.Ytpdoheagfjeefaa
open Go.RowKit Go.WideShapes Go.ChangeShapes
set_option linter.unusedVariables false

def okOW (xs ys : List Int) : Bool := okGW xs ys && (lcmAll (cycW xs ys)).isSome
def ansOW (xs ys : List Int) : Int := if okOW xs ys then (((lcmAll (cycW xs ys)).getD 0 : Nat) : Int) else 0
theorem okOW_no1 {xs ys : List Int} (h : okGW xs ys = false) : okOW xs ys = false := by simp [okOW, h]
theorem okOW_no2 {xs ys : List Int} (h : lcmAll (cycW xs ys) = none) : okOW xs ys = false := by simp [okOW, h]
theorem okOW_yes {xs ys : List Int} {m : Nat} (h : okGW xs ys = true) (k : lcmAll (cycW xs ys) = some m) : okOW xs ys = true := by simp [okOW, h, k]
theorem ansOW_no {xs ys : List Int} (h : okOW xs ys = false) : ansOW xs ys = 0 := by simp [ansOW, h]
theorem ansOW_yes {xs ys : List Int} {m : Nat} (h : okOW xs ys = true) (k : lcmAll (cycW xs ys) = some m) : ansOW xs ys = (m : Int) := by simp [ansOW, h, k]
/-- what lcmAll tells, as the program's pair -/
def lcmV (o : Option Nat) : Int := ((o.getD 0 : Nat) : Int)
theorem lcm_step {ls : List Int} {k m x : Nat} (h : lcmN ls k = some m) (hx : ls.getD k 0 = (x : Int)) : lcmN ls (k + 1) = if 1000000000000000 < m / Nat.gcd m x * x then none else some (m / Nat.gcd m x * x) := by
  simp only [lcmN, h, Option.bind_some, hx, Int.toNat_natCast]
theorem lcm_facts {ls : List Int} {k m x : Nat} (hp : ∀ y ∈ ls, 1 ≤ y ∧ y ≤ 1024) (hk : k < ls.length) (h : lcmN ls k = some m) (hx : ls.getD k 0 = (x : Int)) :
    1 ≤ m ∧ m ≤ 1000000000000000 ∧ 1 ≤ x ∧ x ≤ 1024 ∧ 1 ≤ Nat.gcd m x ∧ Nat.gcd m x ≤ 1024 ∧ x / Nat.gcd m x ≤ 1024 ∧ m / Nat.gcd m x ≤ 1000000000000000 ∧ m / Nat.gcd m x * x ≤ 1024000000000000000 := by
  have h1 := lcmN_le (fun y hy => (hp y hy).1) k (by omega) m h
  have h2 := hp (ls.getD k 0) (by simp [List.getD, hk])
  rw [hx] at h2
  have h3 := Nat.gcd_le_right m (show 0 < x by omega)
  have h4 : 0 < Nat.gcd m x := Nat.gcd_pos_of_pos_left _ (by omega)
  have h5 := Nat.div_le_self x (Nat.gcd m x)
  have h6 := Nat.div_le_self m (Nat.gcd m x)
  have h7 : m / Nat.gcd m x * x ≤ 1000000000000000 * 1024 := Nat.mul_le_mul (by omega) (by omega)
  exact ⟨h1.1, h1.2, by omega, by omega, h4, by omega, by omega, by omega, by omega⟩
set_option maxHeartbeats 800000 in
theorem commonMultiple_any (u : Value) (ls : List Int) (w : World) (hu : Ints w u ls) (hl : ls.length ≤ 1048576) (hp : ∀ y ∈ ls, 1 ≤ y ∧ y ≤ 1024) :
    Calls Try.prog 114 #[u] w fun r w' => r = .returned (.tuple #[.int .i64 (lcmV (lcmAll ls)), .bool (lcmAll ls).isSome]) ∧ Below w.heap.size w w' := by
  have HP := hid hp
  obtain ⟨A, c, rfl, hA⟩ := hu
  have HA := hid hA
  clear hA hp
  go_enter Try.func114, Try.ntmps114
  go_wp2
  go_loopw [4, 9] (fun q i wr => ∃ k m : Nat, k ≤ ls.length ∧ i = .int .i64 k ∧ q = .int .i64 m ∧ Hid (lcmN ls k = some m) ∧ Below w.heap.size w wr) (fun _ i _ => ls.length - (intOf i).toNat)
  case atStart => exact ⟨0, 1, Nat.zero_le _, rfl, rfl, hid rfl, Below.refl _ _⟩
  case round =>
    obtain ⟨k, m, hk, rfl, rfl, HM, hb⟩ := hrel
    by_cases hlt : k < ls.length
    · obtain ⟨b, o, rfl, hbl, hc⟩ := HA.out (by intro h; simp [h] at hlt)
      have hcell : wr.cell? ⟨b, o + k, none⟩ = some (.int .i64 (ls.getD k 0)) := (hb.cell (p := ⟨b, o + k, none⟩) hbl).trans (hc k hlt)
      have hx0 := HP.out (ls.getD k 0) (by simp [List.getD, hlt])
      obtain ⟨x, hx⟩ := Int.eq_ofNat_of_zero_le (show 0 ≤ ls.getD k 0 by omega)
      rw [hx] at hcell
      obtain ⟨f1, f2, f3, f4, f5, f6, f7, f8, f9⟩ := lcm_facts HP.out hlt HM.out hx
      have HSt := hid (lcm_step HM.out hx)
      have hsw := mul_gcd_swap m x f3
      obtain ⟨g, hg⟩ : ∃ g, Nat.gcd m x = g := ⟨_, rfl⟩
      have HGc := hid (commonDivisor_any m x)
      rw [hg] at hsw HSt f5 f6 f7 f8 f9 HGc
      obtain ⟨q, hq⟩ : ∃ q, x / g = q := ⟨_, rfl⟩
      obtain ⟨p, hpp⟩ : ∃ p, m / g * x = p := ⟨_, rfl⟩
      rw [hpp] at hsw HSt f9
      have hdiv := tdiv_nat x g
      have hdiv2 : ((x : Int) / (g : Int)) = ((x / g : Nat) : Int) := by simp
      rw [hq] at hdiv hdiv2 hsw f7
      have hk1 : k + 1 ≤ ls.length := by omega
      have HC := hid (HGc.out wr f2 (by omega))
      have hg0 : ¬ (g : Int) = 0 := by omega
      have hg1 : ((g : Int) == 0) = false := by rw [beq_eq_false_iff_ne]; omega
      have HB := hid hb
      have hg2 : (0 : Int) < g := by omega
      have hmul : ((m : Int) * (q : Int)) = (p : Int) := by rw [hsw]; simp
      have HMul := hid hmul
      have HP2 : Hid (wrap64 (p : Int) = (p : Int)) := hid (by unfold wrap64; omega)
      have HDiv := hid hdiv
      have HDiv2 := hid hdiv2
      clear hc hx0 hx hg hq hpp hsw hb f1 f2 f3 f4 f5 f6 f8 HGc hmul hdiv hdiv2
      by_cases hbI : (1000000000000000 : Int) < (p : Int)
      · have hbig : 1000000000000000 < p := by omega
        have HN := hid (HSt.out.trans (if_pos hbig))
        have HNo : Hid (lcmAll ls = none) := hid (lcmN_none HN.out _ hk1)
        clear hbig f9 HSt
        have hmul := HMul.out
        have hp2 := HP2.out
        have hdiv := HDiv.out
        have hdiv2 := HDiv2.out
        go_wp2_with fail
        refine HC.out.mono ?_
        rintro e' w' ⟨rfl, hb⟩
        have HB2 := hid (below_to HB.out hb)
        clear hb hcell
        go_wp2
        go_ret2
        exact ⟨ret_ib (by rw [HNo.out]; rfl) (by rw [HNo.out]; rfl), HB2.out⟩
      · have hbig : ¬ 1000000000000000 < p := by omega
        have HN := hid (HSt.out.trans (if_neg hbig))
        clear hbig f9 HSt
        have hmul := HMul.out
        have hp2 := HP2.out
        have hdiv := HDiv.out
        have hdiv2 := HDiv2.out
        go_wp2_with fail
        refine HC.out.mono ?_
        rintro e' w' ⟨rfl, hb⟩
        have HB2 := hid (below_to HB.out hb)
        clear hb hcell
        go_wp2
        clear hmul hp2 hdiv hdiv2
        go_roundw
        case rel => exact ⟨k + 1, p, hk1, by go_num, rfl, HN, HB2.out⟩
        case measure => simp [intOf]; omega
    · obtain rfl : k = ls.length := by omega
      have HAll : Hid (lcmAll ls = some m) := HM
      have HB := hid hb
      clear hb
      go_wp2
      go_ret2
      exact ⟨ret_ib (by rw [HAll.out]; rfl) (by rw [HAll.out]; rfl), HB.out⟩
set_option maxHeartbeats 800000 in
theorem implOrderOfWord_any (v : Value) (xs : List Int) (u : Value) (ys : List Int) (w : World) (hv : Ints w v xs) (hl : xs.length ≤ 1048576) (hu : Ints w u ys) (hm : ys.length ≤ 1048576) :
    Calls Try.prog 41 #[.agg #[v], u] w fun r w' => r = .returned (.tuple #[.int .i64 (ansOW xs ys), .bool (okOW xs ys)]) ∧ Below w.heap.size w w' := by
  have HV := hid hv
  have HU := hid hu
  clear hv hu
  go_enter Try.func41, Try.ntmps41
  have HB := hid (below_alloc (Below.refl _ w) (.cells #[v] 26))
  have A0 := hid (At.newAt w v 26 w.heap.size (by simp))
  go_wp2_with fail
  refine (implToggleCycles_any _ xs _ ys _ (HV.out.below HB.out) hl (HU.out.below HB.out) hm).mono ?_
  rintro e w' ⟨q, rfl, ho, hlen, hb⟩
  replace HB := hid (below_to HB.out hb)
  replace A0 := hid (A0.out.below hb)
  clear hb
  cases hk : okGW xs ys
  · have HO := hid (okOW_no1 hk)
    clear hk ho hlen
    have ebox0 := A0.out.1
    go_wp2
    go_ret2
    exact ⟨ret_ib (ansOW_no HO.out).symm HO.out.symm, HB.out⟩
  · have HK := hid hk
    have HI := hid ho.ints
    rw [tcL_yes hk] at HI hlen
    clear hk ho
    have HP := hid (cycW_pos (ys := ys) (okGW_good HK.out).1)
    obtain ⟨qA, qn, qc, hqs⟩ : ∃ A n c, q = .slice A n c := by obtain ⟨A, c, h, -⟩ := HI.out; exact ⟨A, _, c, h⟩
    subst hqs
    have ebox0 := A0.out.1
    go_wp2_with fail
    clear ebox0
    refine (commonMultiple_any _ (cycW xs ys) _ HI.out hlen HP.out).mono ?_
    rintro e w' ⟨rfl, hb⟩
    replace HB := hid (below_to HB.out hb)
    replace A0 := hid (A0.out.below hb)
    clear hb
    cases hm : lcmAll (cycW xs ys) with
    | none =>
      have HO := hid (okOW_no2 hm)
      have HM := hid hm
      clear hm
      have ebox0 := A0.out.1
      go_wp2
      go_ret2
      exact ⟨ret_ib (by rw [ansOW_no HO.out]; rfl) (by rw [HO.out]), HB.out⟩
    | some m =>
      have HO := hid (okOW_yes HK.out hm)
      have HM := hid hm
      clear hm
      have ebox0 := A0.out.1
      go_wp2
      go_ret2
      exact ⟨ret_ib (by rw [ansOW_yes HO.out HM.out]; rfl) (by rw [HO.out]), HB.out⟩
set_option maxHeartbeats 1600000 in
theorem specOrderOfWord_any (v : Value) (xs : List Int) (u : Value) (ys : List Int) (w : World) (hv : Ints w v xs) (hl : xs.length ≤ 1048576) (hu : Ints w u ys) (hm : ys.length ≤ 1048576) :
    Calls Try.prog 42 #[.agg #[v], u] w fun r w' => r = .returned (.tuple #[.int .i64 (ansOW xs ys), .bool (okOW xs ys)]) ∧ Below w.heap.size w w' := by
  have HV := hid hv
  have HU := hid hu
  clear hv hu
  go_enter Try.func42, Try.ntmps42
  have HB := hid (below_alloc (Below.refl _ w) (.cells #[v] 26))
  have A0 := hid (At.newAt w v 26 w.heap.size (by simp))
  go_wp2_with fail
  refine (poGood_any _ xs _ (HV.out.below HB.out) hl).mono ?_
  rintro e w' ⟨rfl, hb⟩
  replace HB := hid (below_to HB.out hb)
  replace A0 := hid (A0.out.below hb)
  clear hb
  cases hq : good xs
  · have HO := hid (okOW_no1 (okGW_no1 (ys := ys) hq))
    clear hq
    have ebox0 := A0.out.1
    go_wp2
    go_ret2
    exact ⟨ret_ib (ansOW_no HO.out).symm HO.out.symm, HB.out⟩
  · have HQ := hid hq
    clear hq
    have ebox0 := A0.out.1
    go_wp2_with fail
    clear ebox0
    refine (tgIsWord_any _ _ xs ys _ (HV.out.below HB.out) (HU.out.below HB.out) hl hm).mono ?_
    rintro e w' ⟨rfl, hb⟩
    replace HB := hid (below_to HB.out hb)
    replace A0 := hid (A0.out.below hb)
    clear hb
    cases hk : okWord xs ys
    · have HO := hid (okOW_no1 (okGW_no2 (xs := xs) hk))
      clear hk
      have ebox0 := A0.out.1
      go_wp2
      go_ret2
      exact ⟨ret_ib (ansOW_no HO.out).symm HO.out.symm, HB.out⟩
    · have HK := hid (okGW_yes HQ.out hk)
      have HW := hid (okWord_in hk).2
      clear hk
      have ebox0 := A0.out.1
      go_wp2_with fail
      clear ebox0
      refine (tgCycles_any _ _ xs ys _ (HV.out.below HB.out) (HU.out.below HB.out) HQ.out HW.out hm).mono ?_
      rintro e w' ⟨q, rfl, ho, hb⟩
      replace HB := hid (below_to HB.out hb)
      replace A0 := hid (A0.out.below hb)
      clear hb
      have HI := hid ho.ints
      have HI2 : Hid (Ints w' q (cycW xs ys)) := HI
      clear ho HI
      have HP := hid (cycW_pos (ys := ys) HQ.out)
      have hlen := cycW_length (ys := ys) HQ.out
      obtain ⟨ls, hls⟩ : ∃ ls, cycW xs ys = ls := ⟨_, rfl⟩
      rw [hls] at HI2 HP hlen
      have HLs := hid hls
      clear hls
      obtain ⟨A, c, rfl, hA⟩ := HI2.out
      have HA := hid hA
      clear hA
      go_wp2
      go_loopw [6, 22] (fun q i wr => ∃ k m : Nat, k ≤ ls.length ∧ i = .int .i64 k ∧ q = .int .i64 m ∧ Hid (lcmN ls k = some m) ∧ Below w.heap.size w wr ∧ Below w'.heap.size w' wr) (fun _ i _ => ls.length - (intOf i).toNat)
      case atStart => exact ⟨0, 1, Nat.zero_le _, rfl, rfl, hid rfl, HB.out, Below.refl _ _⟩
      case round =>
        obtain ⟨k, m, hk, rfl, rfl, HM, hb, hu⟩ := hrel
        have HB1 := hid hb
        have HU1 := hid hu
        by_cases hlt : k < ls.length
        · obtain ⟨b, o, rfl, hbl, hc⟩ := HA.out (by intro h; simp [h] at hlt)
          have hcell := (hu.cell (p := ⟨b, o + k, none⟩) hbl).trans (hc k hlt)
          clear hb hu
          have hx0 := HP.out (ls.getD k 0) (by simp [List.getD, hlt])
          obtain ⟨x, hx⟩ := Int.eq_ofNat_of_zero_le (show 0 ≤ ls.getD k 0 by omega)
          rw [hx] at hcell
          obtain ⟨f1, f2, f3, f4, f5, f6, f7, f8, f9⟩ := lcm_facts HP.out hlt HM.out hx
          have HSt := hid (lcm_step HM.out hx)
          obtain ⟨g, hg⟩ : ∃ g, Nat.gcd m x = g := ⟨_, rfl⟩
          have HGc := hid (fun W => tgGcd_any x m W f2 (by omega))
          rw [hg] at HSt f5 f6 f7 f8 f9 HGc
          obtain ⟨q, hq⟩ : ∃ q, m / g = q := ⟨_, rfl⟩
          obtain ⟨p, hpp⟩ : ∃ p, m / g * x = p := ⟨_, rfl⟩
          rw [hpp] at HSt f9
          have hdiv := tdiv_nat m g
          have hdiv2 : ((m : Int) / (g : Int)) = ((m / g : Nat) : Int) := by simp
          rw [hq] at hdiv hdiv2 hpp f8
          have hk1 : k + 1 ≤ ls.length := by omega
          have hg0 : ¬ (g : Int) = 0 := by omega
          have hg1 : ((g : Int) == 0) = false := by rw [beq_eq_false_iff_ne]; omega
          have hx1 : ¬ (x : Int) = 0 := by omega
          have hx2 : ((x : Int) == 0) = false := by rw [beq_eq_false_iff_ne]; omega
          have hxp : (0 : Int) < x := by omega
          have hgp : (0 : Int) < g := by omega
          obtain ⟨D, hD⟩ : ∃ D, 1000000000000000 / x = D := ⟨_, rfl⟩
          have hdq := tdiv_nat 1000000000000000 x
          have hdq2 : ((1000000000000000 : Int) / (x : Int)) = ((1000000000000000 / x : Nat) : Int) := by simp
          rw [hD] at hdq hdq2
          have hdq3 : (1000000000000000 : Int).tdiv (x : Int) = (D : Int) := hdq
          have hbd := div_bound (a := q) (M := 1000000000000000) (n := x) (by omega)
          rw [hD, hpp] at hbd
          have HMul := hid (show ((q : Int) * (x : Int)) = (p : Int) by rw [← hpp]; simp)
          have HQ3 : Hid (IntKind.i64.wrap (q : Int) = (q : Int)) := hid (IntWalk.i64_in _ (by omega))
          have HWq : Hid (wrap64 (q : Int) = (q : Int)) := hid (by unfold wrap64; omega)
          have hDle : D ≤ 1000000000000000 := by rw [← hD]; exact Nat.div_le_self _ _
          have HD3 : Hid (IntKind.i64.wrap (D : Int) = (D : Int)) := hid (IntWalk.i64_in _ (by omega))
          clear hDle
          have HP2 : Hid (wrap64 (p : Int) = (p : Int)) := hid (by unfold wrap64; omega)
          have HDiv := hid hdiv
          have HDiv2 := hid hdiv2
          have HDq := hid hdq3
          have HDq2 := hid hdq2
          clear hc hx0 hx hg hq hpp hD hdq f1 f2 f3 f4 f5 f6 f7 f8 hdiv hdiv2 hdq3 hdq2
          by_cases hbN : D < q
          · have HN := hid (HSt.out.trans (if_pos (hbd.1 hbN)))
            have HNo : Hid (lcmAll (cycW xs ys) = none) := hid (by rw [HLs.out]; exact lcmN_none HN.out _ hk1)
            have HO := hid (okOW_no2 HNo.out)
            have hbI : (D : Int) < (q : Int) := by omega
            clear f9 HSt hbd
            have hdiv := HDiv.out
            have hdiv2 := HDiv2.out
            have hdq := HDq.out
            have hdq2 := HDq2.out
            go_wp2_with fail
            have hq3 := HQ3.out
            have hd3 := HD3.out
            go_quiet ((go_at_call 115; exact Calls.quiet_of_same ((HGc.out _).mono fun _ _ ⟨a, b⟩ => ⟨a, b.symm⟩)))
            clear hq3 hd3
            go_wp2
            go_ret2
            exact ⟨ret_ib (ansOW_no HO.out).symm HO.out.symm, below_drewN HB1.out _⟩
          · have HN := hid (HSt.out.trans (if_neg (fun h => hbN (hbd.2 h))))
            have hbI : ¬ (D : Int) < (q : Int) := by omega
            clear f9 HSt hbd
            have hdiv := HDiv.out
            have hdiv2 := HDiv2.out
            have hdq := HDq.out
            have hdq2 := HDq2.out
            go_wp2_with fail
            have hq3 := HQ3.out
            have hd3 := HD3.out
            go_quiet ((go_at_call 115; exact Calls.quiet_of_same ((HGc.out _).mono fun _ _ ⟨a, b⟩ => ⟨a, b.symm⟩)))
            clear hq3 hd3
            clear hdq hdq2
            have hmul := HMul.out
            have hp2 := HP2.out
            have hwq := HWq.out
            go_wp2_with fail
            refine (HGc.out _).mono ?_
            rintro e' w3 ⟨rfl, rfl⟩
            go_wp2
            clear hmul hp2 hdiv hdiv2 hwq
            go_roundw
            case rel => exact ⟨k + 1, p, hk1, by go_num, by rw [HP2.out], HN, below_drewN HB1.out _, below_drewN HU1.out _⟩
            case measure => simp [intOf]; omega
        · obtain rfl : k = ls.length := by omega
          have HAll : Hid (lcmAll (cycW xs ys) = some m) := hid (by rw [HLs.out]; exact HM.out)
          have HO := hid (okOW_yes HK.out HAll.out)
          go_wp2
          go_ret2
          exact ⟨ret_ib (ansOW_yes HO.out HAll.out).symm HO.out.symm, HB1.out⟩
end Go.Proofs.Ytpdoheagfjeefaa

/- The facts that the law on toggles asks for: the cycles of a word make up all ideals, and its order is divided by each. -/
namespace Go.Proofs.Ytpdoheagfjeefaa
open Go.RowKit Go.WideShapes Go.ChangeShapes
set_option linter.unusedVariables false

/-- the sum of a list's first k -/
def smI (ls : List Int) : Nat → Int
  | 0 => 0
  | k + 1 => smI ls k + ls.getD k 0
theorem smI_take (ls : List Int) (k : Nat) (hk : k ≤ ls.length) : smI ls k = (ls.take k).sum := by
  induction k with
  | zero => rfl
  | succ k ih =>
    have hlt : k < ls.length := by omega
    have e : ls.take (k + 1) = ls.take k ++ [ls[k]] := by rw [List.take_add_one, List.getElem?_eq_getElem hlt]; rfl
    rw [smI, ih (by omega), e, List.sum_append, show ls.getD k 0 = ls[k] from by simp [List.getD, hlt]]
    simp
theorem flat_length (f : Nat → Nat) (N : Nat) : ∀ st : List Nat, ((flatO f N st).length : Int) = (st.map fun s => ((per f N s : Nat) : Int)).sum
  | [] => rfl
  | s :: st => by
    have h : flatO f N (s :: st) = orbN f N s ++ flatO f N st := rfl
    rw [h, List.length_append, List.map_cons, List.sum_cons, ← flat_length f N st, orbN_length]
    omega
theorem setsD (xs : List Int) (j : Nat) (hj : j < (setsL (holdsIdeal xs) (2 ^ xs.length)).length) : idB xs ((setsL (holdsIdeal xs) (2 ^ xs.length)).getD j 0).toNat = true := by
  obtain ⟨s, h1, h2, h3⟩ := setsL_bound (f := holdsIdeal xs) (N := 2 ^ xs.length) hj
  rw [h1, Int.toNat_natCast]
  exact idB_iff.2 ⟨h2, h3⟩
theorem setsAll (xs : List Int) (t : Nat) (ht : idB xs t = true) : ∃ j, j < (setsL (holdsIdeal xs) (2 ^ xs.length)).length ∧ ((setsL (holdsIdeal xs) (2 ^ xs.length)).getD j 0).toNat = t := by
  obtain ⟨h1, h2⟩ := idB_iff.1 ht
  have hm : (t : Int) ∈ setsL (holdsIdeal xs) (2 ^ xs.length) := List.mem_map.2 ⟨t, List.mem_filter.2 ⟨List.mem_range.2 h1, h2⟩, rfl⟩
  obtain ⟨j, hj, e⟩ := List.mem_iff_getElem.1 hm
  refine ⟨j, hj, ?_⟩
  rw [show (setsL (holdsIdeal xs) (2 ^ xs.length)).getD j 0 = (setsL (holdsIdeal xs) (2 ^ xs.length))[j] from by simp [List.getD, hj], e, Int.toNat_natCast]
/-- the cycles make up all ideals -/
theorem cycSum {xs ys : List Int} (h : okGW xs ys = true) : smI (tcL xs ys) (tcL xs ys).length = ((idealsL xs).length : Int) ∧ (idealsL xs).length ≤ 1024 := by
  obtain ⟨hg, hw⟩ := okGW_good h
  have hin : inW xs.length ys = true := by have := hw; rw [okWord, Bool.and_eq_true] at this; exact this.2
  have hn : ((List.range (2 ^ xs.length)).filter (idB xs)).Nodup := List.Nodup.sublist List.filter_sublist List.nodup_range
  have hL : ∀ t, t ∈ (List.range (2 ^ xs.length)).filter (idB xs) ↔ idB xs t = true := fun t => by
    rw [List.mem_filter, List.mem_range]
    exact ⟨fun h => h.2, fun h => ⟨(idB_iff.1 h).1, h⟩⟩
  have hp := flatO_perm (togMov hin) (setsD xs) (setsAll xs) hn hL
  have hl := hp.length_eq
  have e1 : tcL xs ys = (starts (fun s => togW xs s ys) (2 ^ xs.length) (setsL (holdsIdeal xs) (2 ^ xs.length))).map fun s => ((per (fun s => togW xs s ys) (2 ^ xs.length) s : Nat) : Int) := by
    rw [tcL_yes h]
    exact cyclesL_starts (togMov hin) (setsD xs)
  have e2 : (idealsL xs).length = ((List.range (2 ^ xs.length)).filter (idB xs)).length := by
    rw [idealsL_yes hg]
    unfold setsL
    rw [List.length_map]
    congr 1
    apply List.filter_congr
    intro t ht
    rw [List.mem_range] at ht
    simp [idB, ht]
  refine ⟨?_, ?_⟩
  · rw [smI_take _ _ (Nat.le_refl _), List.take_length, e1, ← flat_length, e2, hl]
  · rw [e2]
    exact Nat.le_trans (List.length_filter_le _ _) (by rw [List.length_range]; exact (two_pow_le _ (good_length hg).2).2)
theorem lcmN_dvds {ls : List Int} : ∀ (k : Nat) (m : Nat), lcmN ls k = some m → ∀ j, j < k → (ls.getD j 0).toNat ∣ m
  | 0, m, _, j, hj => by omega
  | k + 1, m, h, j, hj => by
    simp only [lcmN] at h
    cases hk : lcmN ls k with
    | none => rw [hk] at h; cases h
    | some a =>
      rw [hk] at h
      simp only [Option.bind_some] at h
      split at h
      · cases h
      · simp only [Option.some.injEq] at h
        have hm : m = Nat.lcm a (ls.getD k 0).toNat := by
          rw [← h, Nat.lcm, Nat.div_mul_right_comm (Nat.gcd_dvd_left _ _)]
        rcases Nat.lt_or_ge j k with h1 | h1
        · rw [hm]; exact Nat.dvd_trans (lcmN_dvds k a hk j h1) (Nat.dvd_lcm_left _ _)
        · obtain rfl : j = k := by omega
          rw [hm]; exact Nat.dvd_lcm_right _ _
/-- each cycle, and the word's order -/
theorem cycFacts {xs ys : List Int} (h : okGW xs ys = true) {k : Nat} (hk : k < (tcL xs ys).length) : ∃ n : Nat, (tcL xs ys).getD k 0 = (n : Int) ∧ 1 ≤ n ∧ n ≤ 1024 ∧
    (okOW xs ys = true → ∃ m : Nat, ansOW xs ys = (m : Int) ∧ m ≤ 1000000000000000 ∧ m % n = 0) := by
  obtain ⟨hg, hw⟩ := okGW_good h
  rw [tcL_yes h] at hk ⊢
  have hm : (cycW xs ys).getD k 0 ∈ cycW xs ys := by
    rw [show (cycW xs ys).getD k 0 = (cycW xs ys)[k] from by simp [List.getD, hk]]
    exact List.getElem_mem hk
  obtain ⟨b1, b2⟩ := cycW_pos hg _ hm
  obtain ⟨n, hn⟩ := Int.eq_ofNat_of_zero_le (show 0 ≤ (cycW xs ys).getD k 0 by omega)
  refine ⟨n, hn, by omega, by omega, fun ho => ?_⟩
  cases hl : lcmAll (cycW xs ys) with
  | none => rw [okOW_no2 hl] at ho; cases ho
  | some m =>
    refine ⟨m, ansOW_yes ho hl, (lcmN_le (fun x hx => (cycW_pos hg x hx).1) _ (Nat.le_refl _) m hl).2, ?_⟩
    have := lcmN_dvds _ m hl k hk
    rw [hn] at this
    exact Nat.mod_eq_zero_of_dvd this
end Go.Proofs.Ytpdoheagfjeefaa

/- Slices of slices as arguments: read, sized, copied. -/
namespace Go.Proofs.Ytpdoheagfjeefaa
open Go.RowKit Go.WideShapes Go.ChangeShapes
set_option linter.unusedVariables false

theorem open_lists {H : Type} {enc : TypeId × Value → H} {P : Program} {w : World} {base : Nat} {held : Bool} {r : Reach} {b0 : Nat} {t e q : TypeId} {v : Value} {d : DataW H} {p : List MemPlace}
    (ht : P.underlying t = some (.slice e)) (he : P.underlying e = some (.slice q)) (hq : P.underlying q = some (.int .i64)) (ce : P.cellsOf e = 1) (cq : P.cellsOf q = 1)
    (hv : Value.okWide P w r b0 t v) (h : DataW.Trod enc P w base (fun _ => true) held t v d p) :
    ∃ ls : List (List Int), IntsSS w v ls ∧ ls.length ≤ maxLen ∧ ∀ j, j < ls.length → (ls.getD j []).length ≤ maxLen := by
  obtain ⟨A0, len0, cap0, rfl⟩ := okWide_slice ht hv
  obtain ⟨fuel, hf⟩ := h
  rcases Go.Deep.open_int_rows ht he hq ce cq hf with ⟨hcs, _⟩ | ⟨a, len, cap, A, L, C, Z, hcs, hb, hl, hm, _, hr⟩
  · simp [Value.cells] at hcs
    obtain ⟨rfl, rfl, rfl⟩ := hcs
    exact ⟨[], ⟨none, 0, rfl, fun j hj => absurd hj (Nat.not_lt_zero _)⟩, Nat.zero_le _, fun j hj => absurd hj (Nat.not_lt_zero _)⟩
  · simp [Value.cells] at hcs
    obtain ⟨rfl, rfl, rfl⟩ := hcs
    have hlen : ((List.range len0).map fun r => (Z r).take (L r)).length = len0 := by simp
    have hget : ∀ j, j < len0 → ((List.range len0).map fun r => (Z r).take (L r)).getD j [] = (Z j).take (L j) := fun j hj => by simp [List.getD, hj]
    refine ⟨(List.range len0).map fun r => (Z r).take (L r), ⟨some a, cap0, by rw [hlen], fun j hj => ?_⟩, by rw [hlen]; omega, fun j hj => ?_⟩
    · rw [hlen] at hj
      obtain ⟨h1, h2, h3, h4, -, h5, h6⟩ := hr j (by omega)
      rw [hget j hj]
      obtain ⟨ab, ao, rfl⟩ : ∃ b o, a = ⟨b, o, none⟩ := by
        have h0 := (hr 0 (by omega)).1
        obtain ⟨b, o, pt⟩ := a
        have hspot : pt = none := by simpa [Addr.add] using World.cell?_spot h0
        subst hspot
        exact ⟨b, o, rfl⟩
      have hadd : ((⟨ab, ao, none⟩ : Addr).add j) = ⟨ab, ao + j, none⟩ := Go.WideShapes.add_plain _ _ _
      rw [hadd] at h1
      have hlt := World.block_lt_of_cell? w _ h1
      refine ⟨ab, ao, _, rfl, hlt, h1, A j, C j, ?_, fun hx => ?_⟩
      · rw [List.length_take]; congr 1; omega
      · have hLp : 0 < L j := by
          rcases Nat.eq_zero_or_pos (L j) with h0 | h0
          · rw [h0] at hx; simp at hx
          · exact h0
        cases hA : A j with
        | none => have := h5 hA; omega
        | some a' =>
          obtain ⟨-, hc⟩ := h6 a' hA
          obtain ⟨b', o', rfl, hcell⟩ := ints_at (zs := Z j) (fun i hi => hc i (by omega)) (by omega)
          refine ⟨b', o', rfl, ?_, fun i hi => ?_⟩
          · exact World.block_lt_of_cell? w _ (hcell 0 (by omega))
          · rw [List.length_take] at hi
            rw [hcell i (by omega)]
            congr 2
            simp [List.getD, show i < L j by omega]
    · rw [hlen] at hj
      obtain ⟨h1, h2, h3, h4, -⟩ := hr j (by omega)
      rw [hget j hj, List.length_take]
      omega
/-! ### sizes -/
def szN (left : Int) (ls : List (List Int)) : Nat → Int
  | 0 => left
  | k + 1 => if szN left ls k < 0 then -1 else szRes (szN left ls k) (ls.getD k []).length
def szAll (left : Int) (ls : List (List Int)) : Int := if left < ls.length then -1 else szN (left - ls.length) ls ls.length
theorem szN_neg {left : Int} {ls : List (List Int)} {k : Nat} (h : szN left ls k < 0) (j : Nat) (hj : k < j) : szN left ls j = -1 := by
  induction j with
  | zero => omega
  | succ j ih =>
    unfold szN
    by_cases e : k = j
    · subst e; rw [if_pos h]
    · rw [if_pos (by rw [ih (by omega)]; decide)]
theorem szN_off {left : Int} {ls : List (List Int)} (k : Nat) (h : 0 ≤ szN left ls k) : szN left ls k = left - offL ls k := by
  induction k with
  | zero => simp [szN, offL]
  | succ k ih =>
    have hs : offL ls (k + 1) = offL ls k + (ls.getD k []).length := rfl
    unfold szN at h ⊢
    by_cases h0 : szN left ls k < 0
    · rw [if_pos h0] at h; omega
    · rw [if_neg h0] at h ⊢
      have h1 := ih (by omega)
      by_cases h2 : szN left ls k < (ls.getD k []).length
      · rw [szRes_neg h2] at h; omega
      · rw [szRes_pos h2, h1]; omega
theorem szAll_small {ls : List (List Int)} {left : Int} (hl : left ≤ 1048576) (h : 0 ≤ szAll left ls) : SSmall ls := by
  unfold szAll at h
  split at h
  · omega
  · rename_i hn
    have h1 := szN_off _ h
    refine ⟨by omega, fun j hj => ?_, by omega⟩
    have h2 := offL_mono ls (show j + 1 ≤ ls.length by omega)
    have hs : offL ls (j + 1) = offL ls j + (ls.getD j []).length := rfl
    omega
/-! ### copies -/
def fillSS (ls : List (List Int)) (k : Nat) : List (List Int) := (List.range ls.length).map fun j => if j < k then ls.getD j [] else []
theorem fillSS_length (ls : List (List Int)) (k : Nat) : (fillSS ls k).length = ls.length := by simp [fillSS]
theorem fillSS_set (ls : List (List Int)) (k : Nat) (hk : k < ls.length) : (fillSS ls k).set k (ls.getD k []) = fillSS ls (k + 1) := by
  apply List.ext_getElem?
  intro i
  rw [List.getElem?_set, fillSS_length]
  simp only [fillSS, List.getElem?_map]
  by_cases hi : i < ls.length
  · by_cases e : k = i
    · subst e; simp [hk]
    · simp only [e, if_false, List.getElem?_range hi, Option.map_some]
      by_cases h2 : i < k
      · rw [if_pos h2, if_pos (by omega)]
      · rw [if_neg h2, if_neg (by omega)]
  · simp [hi]
    intro h; omega
theorem fillSS_full (ls : List (List Int)) : fillSS ls ls.length = ls := by
  apply List.ext_getElem?
  intro i
  simp only [fillSS, List.getElem?_map]
  by_cases hi : i < ls.length
  · simp [hi]
  · simp [hi]
/-- one row of a slice of slices is replaced by a fresh one -/
theorem OwnSS.put {ti ts : TypeId} {w : World} {B E E' : Nat} {A : Option Addr} {n c : Nat} {ls : List (List Int)} (h : OwnSS ti ts w B E (.slice A n c) ls) (hne : ti ≠ ts) (hE : E ≤ E') {j : Nat} (hj : j < ls.length) {u : Value} {l : List Int}
    (hu : OwnI ti w B u l) (hfr : ∀ k, u.ownBlock = some k → E ≤ k ∧ k < E') :
    ∃ b, A = some ⟨b, 0, none⟩ ∧ b < E ∧ w.frozen? ⟨b, j, none⟩ = false ∧ (∃ x, w.cell? ⟨b, j, none⟩ = some x) ∧ OwnSS ti ts (w.setCell ⟨b, j, none⟩ u) B E' (.slice A n c) (ls.set j l) := by
  obtain ⟨us, h1, h2, h3, h4, h5⟩ := h
  have h2' := h2
  rcases h2.2 with ⟨e, hn⟩ | ⟨b, cap, cur, e, hB, hh, r1, r2, r3, r4⟩
  · omega
  · injection e with e1 e2 e3
    subst e1; subst e2; subst e3
    have hbE : b < E := h3 b rfl
    have hrow : ∀ (u' : Value) (l' : List Int), OwnI ti w B u' l' → some b ≠ u'.ownBlock := by
      intro u' l' hi e
      rcases hi.2 with ⟨e', _⟩ | ⟨g, cap', cur', e', _, hh', _⟩
      · rw [e'] at e; simp [Value.ownBlock] at e
      · rw [e'] at e
        simp only [Value.ownBlock, Option.some.injEq] at e
        subst e
        rw [hh] at hh'
        injection hh' with hh'
        injection hh' with _ hh'
        exact hne hh'.symm
    refine ⟨b, rfl, hbE, h2.frozenAt j, ?_, us.set j u, by simp [h1], ?_, fun k hk => Nat.lt_of_lt_of_le (h3 k hk) hE, ?_, ?_⟩
    · have := h2.cellAt j (by omega)
      exact ⟨us[j]'(by omega), by rw [this]; exact List.getElem?_eq_getElem (by omega)⟩
    · rw [List.length_set]
      exact (h2'.stored j u).1
    · intro i u' l' hu' hl'
      have hset : ∀ (x : Value) (m : List Int), OwnI ti w B x m → OwnI ti (w.setCell ⟨b, j, none⟩ u) B x m := fun x m hx =>
        hx.grown (grown_setCell (g := b) (World.grownBy.refl w (some b)) j u) (.inr (fun e => hrow x m hx e.symm))
      by_cases e : j = i
      · subst e
        rw [List.getElem?_set_self (by omega)] at hu' hl'
        injection hu' with hu'
        injection hl' with hl'
        subst hu'; subst hl'
        exact ⟨hset _ _ hu, fun k hk => (hfr k hk).2⟩
      · rw [List.getElem?_set_ne e] at hu' hl'
        obtain ⟨hi, hk⟩ := h4 i u' l' hu' hl'
        exact ⟨hset _ _ hi, fun k hk' => Nat.lt_of_lt_of_le (hk k hk') hE⟩
    · intro i i' u1 u2 hii hu1 hu2
      by_cases e : j = i
      · subst e
        rw [List.getElem?_set_self (by omega)] at hu1
        rw [List.getElem?_set_ne hii] at hu2
        injection hu1 with hu1
        subst hu1
        have hl2 : i' < us.length := (List.getElem?_eq_some_iff.1 hu2).1
        obtain ⟨-, hk2⟩ := h4 i' u2 ls[i'] hu2 (List.getElem?_eq_getElem (by omega))
        rcases hq : u.ownBlock with _ | k
        · exact .inl rfl
        · refine .inr fun e => ?_
          have a := hfr k hq
          have b := hk2 k e.symm
          omega
      · rw [List.getElem?_set_ne e] at hu1
        by_cases e' : j = i'
        · subst e'
          rw [List.getElem?_set_self (by omega)] at hu2
          injection hu2 with hu2
          subst hu2
          have hl1 : i < us.length := (List.getElem?_eq_some_iff.1 hu1).1
          obtain ⟨-, hk1⟩ := h4 i u1 ls[i] hu1 (List.getElem?_eq_getElem (by omega))
          rcases hq : u1.ownBlock with _ | k
          · exact .inl rfl
          · refine .inr fun e => ?_
            have a := hfr k e.symm
            have b := hk1 k hq
            omega
        · rw [List.getElem?_set_ne e'] at hu2
          exact h5 i i' u1 u2 hii hu1 hu2
theorem OwnSS.made {P : Program} (ti ts : TypeId) (w : World) (ls : List (List Int)) (hl : ls.length ≤ 1048576) :
    OwnSS ti ts (w.alloc (.cells (madeCells #[.slice none 0 0] ls.length) ts)) w.heap.size (w.heap.size + 1) (.slice (some ⟨w.heap.size, 0, none⟩) ls.length ls.length) (fillSS ls 0) := by
  have hm := toList_madeCells_one (.slice none 0 0) ls.length
  have hsz : (madeCells #[.slice none 0 0] ls.length).size = ls.length := by
    have := congrArg List.length hm
    simpa using this
  refine ⟨List.replicate ls.length (.slice none 0 0), by simp [fillSS_length], ?_, ?_, ?_, ?_⟩
  · rw [fillSS_length]
    refine ⟨by simp, .inr ⟨w.heap.size, ls.length, _, rfl, Nat.le_refl _, heap_alloc_new w _, Nat.le_refl _, by unfold maxLen; omega, by rw [hsz, Nat.mul_one], ?_⟩⟩
    rw [hm, Nat.mul_one]
    exact List.take_of_length_le (by simp)
  · intro k hk
    simp [Value.ownBlock] at hk
    omega
  · intro j u l hu hl'
    obtain ⟨hj, rfl⟩ := List.getElem?_eq_some_iff.1 hu
    obtain ⟨hj', rfl⟩ := List.getElem?_eq_some_iff.1 hl'
    simp only [fillSS, List.getElem_map, List.getElem_replicate, Nat.not_lt_zero, if_false]
    exact ⟨OwnI.nil _ _ _, fun k hk => by simp [Value.ownBlock] at hk⟩
  · intro i j u u' hij hu hu'
    obtain ⟨hj, rfl⟩ := List.getElem?_eq_some_iff.1 hu
    left
    simp [Value.ownBlock]
theorem OwnSS.mono {ti ts : TypeId} {w : World} {B E E' : Nat} {v : Value} {ls : List (List Int)} (h : OwnSS ti ts w B E v ls) (hE : E ≤ E') : OwnSS ti ts w B E' v ls := by
  obtain ⟨us, h1, h2, h3, h4, h5⟩ := h
  exact ⟨us, h1, h2, fun k hk => Nat.lt_of_lt_of_le (h3 k hk) hE, fun j u l hu hl => ⟨(h4 j u l hu hl).1, fun k hk => Nat.lt_of_lt_of_le ((h4 j u l hu hl).2 k hk) hE⟩, h5⟩
end Go.Proofs.Ytpdoheagfjeefaa

/- FromCovers: relations that follow, in two ways. -/
namespace Go.Proofs.Ytpdoheagfjeefaa
open Go.RowKit Go.WideShapes Go.ChangeShapes
set_option linter.unusedVariables false

/-! ### the model's rows, bit by bit -/
theorem fin_other {ps : List (Nat × Nat)} {i : Nat} {g : Nat → Nat} (k r : Nat) (h : r ≠ i) : fin_ ps i g k r = g r := by
  induction k with
  | zero => rfl
  | succ k ih =>
    unfold fin_ fstep
    split
    · first | exact ih | (rw [if_neg h]; exact ih)
    · exact ih
theorem fout_high {ps : List (Nat × Nat)} (m r : Nat) (h : m ≤ r) : fout ps m r = 0 := by
  induction m with
  | zero => rfl
  | succ m ih =>
    unfold fout
    rw [fin_other _ _ (by omega)]
    exact ih (by omega)
theorem fout_low {ps : List (Nat × Nat)} {r : Nat} (m : Nat) (h : r < m) : fout ps m r = fout ps (r + 1) r := by
  induction m with
  | zero => omega
  | succ m ih =>
    by_cases e : r = m
    · subst e; rfl
    · rw [fout, fin_other _ _ e]
      exact ih (by omega)
/-- pairs upwards, below n -/
def UpPairs (n : Nat) (ps : List (Nat × Nat)) : Prop := ∀ k, k < ps.length → (ps.getD k (0, 0)).1 < (ps.getD k (0, 0)).2 ∧ (ps.getD k (0, 0)).2 < n
theorem fin_bit {n : Nat} {ps : List (Nat × Nat)} (hp : UpPairs n ps) {i : Nat} {g : Nat → Nat} (k : Nat) (hk : k ≤ ps.length) (b : Nat) :
    (fin_ ps i g k i).testBit b = true ↔ (g i).testBit b = true ∨ ∃ t, t < k ∧ (ps.getD t (0, 0)).2 = i ∧ (b = (ps.getD t (0, 0)).1 ∨ (g (ps.getD t (0, 0)).1).testBit b = true) := by
  induction k with
  | zero => simp [fin_]
  | succ k ih =>
    have ih := ih (by omega)
    have hpk := hp k (by omega)
    unfold fin_ fstep
    split
    · rename_i hi
      rw [if_pos rfl, Nat.testBit_or, Nat.testBit_or, Nat.testBit_two_pow, Bool.or_eq_true, Bool.or_eq_true, decide_eq_true_eq, ih, fin_other (g := g) k (ps.getD k (0, 0)).1 (by omega)]
      constructor
      · rintro ((h | ⟨t, h1, h2, h3⟩) | h)
        · exact .inl h
        · exact .inr ⟨t, by omega, h2, h3⟩
        · refine .inr ⟨k, by omega, hi, ?_⟩
          rcases h with h | h
          · exact .inl h.symm
          · exact .inr h
      · rintro (h | ⟨t, h1, h2, h3⟩)
        · exact .inl (.inl h)
        · by_cases e : t = k
          · subst e
            refine .inr ?_
            rcases h3 with h3 | h3
            · exact .inl h3.symm
            · exact .inr h3
          · exact .inl (.inr ⟨t, by omega, h2, h3⟩)
    · rename_i hi
      rw [ih]
      constructor
      · rintro (h | ⟨t, h1, h2, h3⟩)
        · exact .inl h
        · exact .inr ⟨t, by omega, h2, h3⟩
      · rintro (h | ⟨t, h1, h2, h3⟩)
        · exact .inl h
        · refine .inr ⟨t, ?_, h2, h3⟩
          by_cases e : t = k
          · subst e; exact absurd h2 hi
          · omega
theorem fout_bit {n : Nat} {ps : List (Nat × Nat)} (hp : UpPairs n ps) {r : Nat} (hr : r < n) (b : Nat) :
    (fout ps n r).testBit b = true ↔ ∃ t, t < ps.length ∧ (ps.getD t (0, 0)).2 = r ∧ (b = (ps.getD t (0, 0)).1 ∨ (fout ps n (ps.getD t (0, 0)).1).testBit b = true) := by
  rw [fout_low n hr, fout, fin_bit hp _ (Nat.le_refl _), fout_high r r (Nat.le_refl _)]
  simp only [Nat.zero_testBit, Bool.false_eq_true, false_or]
  constructor
  · rintro ⟨t, h1, h2, h3⟩
    have := hp t h1
    rw [fout_low r (by omega), ← fout_low n (by omega)] at h3
    exact ⟨t, h1, h2, h3⟩
  · rintro ⟨t, h1, h2, h3⟩
    have := hp t h1
    refine ⟨t, h1, h2, ?_⟩
    rw [fout_low r (by omega), ← fout_low n (by omega)]
    exact h3

/-! ### the program's rows -/
def dirN (ps : List (Nat × Nat)) : Nat → Nat → Nat
  | 0, _ => 0
  | k + 1, r => if (ps.getD k (0, 0)).2 = r then dirN ps k r ||| 2 ^ (ps.getD k (0, 0)).1 else dirN ps k r
def clN (ps : List (Nat × Nat)) (n : Nat) : Nat → Nat → Nat
  | 0, r => dirN ps ps.length r
  | k + 1, r => if r = k then clN ps n k k ||| under (mkL n (clN ps n k)) (clN ps n k k) else clN ps n k r
theorem dirN_bit (ps : List (Nat × Nat)) (k r b : Nat) : (dirN ps k r).testBit b = true ↔ ∃ t, t < k ∧ (ps.getD t (0, 0)).2 = r ∧ b = (ps.getD t (0, 0)).1 := by
  induction k with
  | zero => simp [dirN]
  | succ k ih =>
    unfold dirN
    split
    · rename_i h
      rw [Nat.testBit_or, Nat.testBit_two_pow, Bool.or_eq_true, ih, decide_eq_true_eq]
      constructor
      · rintro (⟨t, h1, h2, h3⟩ | h3)
        · exact ⟨t, by omega, h2, h3⟩
        · exact ⟨k, by omega, h, h3.symm⟩
      · rintro ⟨t, h1, h2, h3⟩
        by_cases e : t = k
        · subst e; exact .inr h3.symm
        · exact .inl ⟨t, by omega, h2, h3⟩
    · rename_i h
      rw [ih]
      constructor
      · rintro ⟨t, h1, h2, h3⟩; exact ⟨t, by omega, h2, h3⟩
      · rintro ⟨t, h1, h2, h3⟩
        by_cases e : t = k
        · subst e; exact absurd h2 h
        · exact ⟨t, by omega, h2, h3⟩
theorem dirN_lt {n : Nat} {ps : List (Nat × Nat)} (hp : UpPairs n ps) (hn : n ≤ 10) (k : Nat) (hk : k ≤ ps.length) (r : Nat) : dirN ps k r < 1024 := by
  apply Nat.lt_pow_two_of_testBit (n := 10)
  intro i hi
  rw [Bool.eq_false_iff]
  intro h
  obtain ⟨t, h1, h2, h3⟩ := (dirN_bit ps k r i).1 h
  have := hp t (by omega)
  omega
theorem clN_high {ps : List (Nat × Nat)} {n : Nat} (k r : Nat) (h : k ≤ r) : clN ps n k r = dirN ps ps.length r := by
  induction k with
  | zero => rfl
  | succ k ih => rw [clN, if_neg (by omega)]; exact ih (by omega)
theorem clN_low {ps : List (Nat × Nat)} {n r : Nat} (m : Nat) (h : r < m) : clN ps n m r = clN ps n (r + 1) r := by
  induction m with
  | zero => omega
  | succ m ih =>
    by_cases e : r = m
    · subst e; rfl
    · rw [clN, if_neg e]; exact ih (by omega)
theorem under_mkL {n : Nat} {g : Nat → Nat} {s b : Nat} : (under (mkL n g) s).testBit b = true ↔ ∃ e, e < n ∧ s.testBit e = true ∧ (g e).testBit b = true := by
  unfold under
  rw [underN_testBit, mkL_length]
  constructor
  · rintro ⟨e, h1, h2, h3⟩
    rw [mkL_getD h1, Int.toNat_natCast] at h3
    exact ⟨e, h1, h2, h3⟩
  · rintro ⟨e, h1, h2, h3⟩
    exact ⟨e, h1, h2, by rw [mkL_getD h1, Int.toNat_natCast]; exact h3⟩
theorem clN_fout {n : Nat} {ps : List (Nat × Nat)} (hp : UpPairs n ps) (r : Nat) : r < n → clN ps n n r = fout ps n r := by
  induction r using Nat.strongRecOn with
  | _ r ih =>
    intro hr
    apply Nat.eq_of_testBit_eq
    intro b
    rw [Bool.eq_iff_iff, fout_bit hp hr, clN_low n hr, clN, if_pos rfl, clN_high r r (Nat.le_refl _), Nat.testBit_or, Bool.or_eq_true, under_mkL, dirN_bit]
    constructor
    · rintro (⟨t, h1, h2, h3⟩ | ⟨e, h1, h2, h3⟩)
      · exact ⟨t, h1, h2, .inl h3⟩
      · obtain ⟨t, h4, h5, h6⟩ := (dirN_bit ps _ r e).1 h2
        have := hp t h4
        rw [clN_low r (by omega), ← clN_low n (by omega), ih e (by omega) (by omega)] at h3
        exact ⟨t, h4, h5, .inr (by rw [← h6]; exact h3)⟩
    · rintro ⟨t, h1, h2, h3⟩
      have := hp t h1
      rcases h3 with h3 | h3
      · exact .inl ⟨t, h1, h2, h3⟩
      · refine .inr ⟨(ps.getD t (0, 0)).1, by omega, (dirN_bit ps _ r _).2 ⟨t, h1, h2, rfl⟩, ?_⟩
        rw [clN_low r (by omega), ← clN_low n (by omega), ih _ (by omega) (by omega)]
        exact h3
theorem clN_lt {n : Nat} {ps : List (Nat × Nat)} (hp : UpPairs n ps) (hn : n ≤ 10) (k : Nat) (hk : k ≤ n) (r : Nat) : clN ps n k r < 1024 := by
  induction k generalizing r with
  | zero => exact dirN_lt hp hn _ (Nat.le_refl _) r
  | succ k ih =>
    unfold clN
    split
    · refine Nat.or_lt_two_pow (n := 10) (ih (by omega) k) ?_
      apply Nat.lt_pow_two_of_testBit
      intro i hi
      rw [Bool.eq_false_iff]
      intro h
      obtain ⟨e, h1, h2, h3⟩ := under_mkL.1 h
      have := ih (by omega) e
      rw [Nat.testBit_lt_two_pow (Nat.lt_of_lt_of_le this (Nat.pow_le_pow_right (n := 2) (by decide) hi : 2 ^ 10 ≤ 2 ^ i))] at h3
      cases h3
    · exact ih (by omega) r
theorem clN_full {n : Nat} {ps : List (Nat × Nat)} (hp : UpPairs n ps) : mkL n (clN ps n n) = fromL n ps := mkL_congr fun i hi => clN_fout hp i hi
end Go.Proofs.Ytpdoheagfjeefaa
