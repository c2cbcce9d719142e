/- OrderOfWord. -/
import Derived.Test.YtiodligebnnodabCycD
import Derived.Test.YtiodligebnnodabOrdC
namespace Go.Proofs.Ytiodligebnnodab
open Go.RowKit Go.WideShapes Go.ChangeShapes
set_option linter.unusedVariables false

def okOW (xs ys : List Int) : Bool := okGW xs ys && (lcmAll (cycW xs ys)).isSome
def ansOW (xs ys : List Int) : Int := if okOW xs ys then (((lcmAll (cycW xs ys)).getD 0 : Nat) : Int) else 0
theorem okOW_no1 {xs ys : List Int} (h : okGW xs ys = false) : okOW xs ys = false := by simp [okOW, h]
theorem okOW_no2 {xs ys : List Int} (h : lcmAll (cycW xs ys) = none) : okOW xs ys = false := by simp [okOW, h]
theorem okOW_yes {xs ys : List Int} {m : Nat} (h : okGW xs ys = true) (k : lcmAll (cycW xs ys) = some m) : okOW xs ys = true := by simp [okOW, h, k]
theorem ansOW_no {xs ys : List Int} (h : okOW xs ys = false) : ansOW xs ys = 0 := by simp [ansOW, h]
theorem ansOW_yes {xs ys : List Int} {m : Nat} (h : okOW xs ys = true) (k : lcmAll (cycW xs ys) = some m) : ansOW xs ys = (m : Int) := by simp [ansOW, h, k]
/-- what lcmAll tells, as the program's pair -/
def lcmV (o : Option Nat) : Int := ((o.getD 0 : Nat) : Int)
theorem lcm_step {ls : List Int} {k m x : Nat} (h : lcmN ls k = some m) (hx : ls.getD k 0 = (x : Int)) : lcmN ls (k + 1) = if 1000000000000000 < m / Nat.gcd m x * x then none else some (m / Nat.gcd m x * x) := by
  simp only [lcmN, h, Option.bind_some, hx, Int.toNat_natCast]
theorem lcm_facts {ls : List Int} {k m x : Nat} (hp : ∀ y ∈ ls, 1 ≤ y ∧ y ≤ 1024) (hk : k < ls.length) (h : lcmN ls k = some m) (hx : ls.getD k 0 = (x : Int)) :
    1 ≤ m ∧ m ≤ 1000000000000000 ∧ 1 ≤ x ∧ x ≤ 1024 ∧ 1 ≤ Nat.gcd m x ∧ Nat.gcd m x ≤ 1024 ∧ x / Nat.gcd m x ≤ 1024 ∧ m / Nat.gcd m x ≤ 1000000000000000 ∧ m / Nat.gcd m x * x ≤ 1024000000000000000 := by
  have h1 := lcmN_le (fun y hy => (hp y hy).1) k (by omega) m h
  have h2 := hp (ls.getD k 0) (by simp [List.getD, hk])
  rw [hx] at h2
  have h3 := Nat.gcd_le_right m (show 0 < x by omega)
  have h4 : 0 < Nat.gcd m x := Nat.gcd_pos_of_pos_left _ (by omega)
  have h5 := Nat.div_le_self x (Nat.gcd m x)
  have h6 := Nat.div_le_self m (Nat.gcd m x)
  have h7 : m / Nat.gcd m x * x ≤ 1000000000000000 * 1024 := Nat.mul_le_mul (by omega) (by omega)
  exact ⟨h1.1, h1.2, by omega, by omega, h4, by omega, by omega, by omega, by omega⟩
set_option maxHeartbeats 800000 in
theorem commonMultiple_any (u : Value) (ls : List Int) (w : World) (hu : Ints w u ls) (hl : ls.length ≤ 1048576) (hp : ∀ y ∈ ls, 1 ≤ y ∧ y ≤ 1024) :
    Calls Try.prog 30 #[u] w fun r w' => r = .returned (.tuple #[.int .i64 (lcmV (lcmAll ls)), .bool (lcmAll ls).isSome]) ∧ Below w.heap.size w w' := by
  have HP := hid hp
  obtain ⟨A, c, rfl, hA⟩ := hu
  have HA := hid hA
  clear hA hp
  go_enter Try.func30, Try.ntmps30
  go_wp2
  go_loopw [4, 9] (fun q i wr => ∃ k m : Nat, k ≤ ls.length ∧ i = .int .i64 k ∧ q = .int .i64 m ∧ Hid (lcmN ls k = some m) ∧ Below w.heap.size w wr) (fun _ i _ => ls.length - (intOf i).toNat)
  case atStart => exact ⟨0, 1, Nat.zero_le _, rfl, rfl, hid rfl, Below.refl _ _⟩
  case round =>
    obtain ⟨k, m, hk, rfl, rfl, HM, hb⟩ := hrel
    by_cases hlt : k < ls.length
    · obtain ⟨b, o, rfl, hbl, hc⟩ := HA.out (by intro h; simp [h] at hlt)
      have hcell : wr.cell? ⟨b, o + k, none⟩ = some (.int .i64 (ls.getD k 0)) := (hb.cell (p := ⟨b, o + k, none⟩) hbl).trans (hc k hlt)
      have hx0 := HP.out (ls.getD k 0) (by simp [List.getD, hlt])
      obtain ⟨x, hx⟩ := Int.eq_ofNat_of_zero_le (show 0 ≤ ls.getD k 0 by omega)
      rw [hx] at hcell
      obtain ⟨f1, f2, f3, f4, f5, f6, f7, f8, f9⟩ := lcm_facts HP.out hlt HM.out hx
      have HSt := hid (lcm_step HM.out hx)
      have hsw := mul_gcd_swap m x f3
      obtain ⟨g, hg⟩ : ∃ g, Nat.gcd m x = g := ⟨_, rfl⟩
      have HGc := hid (commonDivisor_any m x)
      rw [hg] at hsw HSt f5 f6 f7 f8 f9 HGc
      obtain ⟨q, hq⟩ : ∃ q, x / g = q := ⟨_, rfl⟩
      obtain ⟨p, hpp⟩ : ∃ p, m / g * x = p := ⟨_, rfl⟩
      rw [hpp] at hsw HSt f9
      have hdiv := tdiv_nat x g
      have hdiv2 : ((x : Int) / (g : Int)) = ((x / g : Nat) : Int) := by simp
      rw [hq] at hdiv hdiv2 hsw f7
      have hk1 : k + 1 ≤ ls.length := by omega
      have HC := hid (HGc.out wr f2 (by omega))
      have hg0 : ¬ (g : Int) = 0 := by omega
      have hg1 : ((g : Int) == 0) = false := by rw [beq_eq_false_iff_ne]; omega
      have HB := hid hb
      have hg2 : (0 : Int) < g := by omega
      have hmul : ((m : Int) * (q : Int)) = (p : Int) := by rw [hsw]; simp
      have HMul := hid hmul
      have HP2 : Hid (wrap64 (p : Int) = (p : Int)) := hid (by unfold wrap64; omega)
      have HDiv := hid hdiv
      have HDiv2 := hid hdiv2
      clear hc hx0 hx hg hq hpp hsw hb f1 f2 f3 f4 f5 f6 f8 HGc hmul hdiv hdiv2
      by_cases hbI : (1000000000000000 : Int) < (p : Int)
      · have hbig : 1000000000000000 < p := by omega
        have HN := hid (HSt.out.trans (if_pos hbig))
        have HNo : Hid (lcmAll ls = none) := hid (lcmN_none HN.out _ hk1)
        clear hbig f9 HSt
        have hmul := HMul.out
        have hp2 := HP2.out
        have hdiv := HDiv.out
        have hdiv2 := HDiv2.out
        go_wp2_with fail
        refine HC.out.mono ?_
        rintro e' w' ⟨rfl, hb⟩
        have HB2 := hid (below_to HB.out hb)
        clear hb hcell
        go_wp2
        go_ret2
        exact ⟨ret_ib (by rw [HNo.out]; rfl) (by rw [HNo.out]; rfl), HB2.out⟩
      · have hbig : ¬ 1000000000000000 < p := by omega
        have HN := hid (HSt.out.trans (if_neg hbig))
        clear hbig f9 HSt
        have hmul := HMul.out
        have hp2 := HP2.out
        have hdiv := HDiv.out
        have hdiv2 := HDiv2.out
        go_wp2_with fail
        refine HC.out.mono ?_
        rintro e' w' ⟨rfl, hb⟩
        have HB2 := hid (below_to HB.out hb)
        clear hb hcell
        go_wp2
        clear hmul hp2 hdiv hdiv2
        go_roundw
        case rel => exact ⟨k + 1, p, hk1, by go_num, rfl, HN, HB2.out⟩
        case measure => simp [intOf]; omega
    · obtain rfl : k = ls.length := by omega
      have HAll : Hid (lcmAll ls = some m) := HM
      have HB := hid hb
      clear hb
      go_wp2
      go_ret2
      exact ⟨ret_ib (by rw [HAll.out]; rfl) (by rw [HAll.out]; rfl), HB.out⟩
end Go.Proofs.Ytiodligebnnodab
