/- Texts CycD, CycE, PrM, Fac, Gcd, LwO, one behind the other. -/
import Derived.Deep.RegionWith
import Derived.Test.YtpdoheagfjeefaaPkLinearRankedProof00
import Derived.Test.YtpdoheagfjeefaaPkLinearRankedProof01
import Derived.Test.YtpdoheagfjeefaaPkLinearRankedProof02
import Derived.Test.YtpdoheagfjeefaaPkLinearRankedProof07
import Derived.Test.YtpdoheagfjeefaaPkLinearRankedProof13
import Derived.Test.YtpdoheagfjeefaaPkLinearRankedProof14
import Derived.Test.YtpdoheagfjeefaaPkLinearRankedProof20
/- ToggleCycles, OrderOfWord. -/
namespace Go.Proofs.Ytpdoheagfjeefaa
open Go.RowKit Go.WideShapes Go.ChangeShapes
set_option linter.unusedVariables false

theorem ret_vb {u : Value} {a b : Bool} (h : a = b) : Ending.returned (.tuple #[u, .bool a]) = .returned (.tuple #[u, .bool b]) := by rw [h]
def okGW (xs ys : List Int) : Bool := good xs && okWord xs ys
def cycW (xs ys : List Int) : List Int := cyclesL (wordF xs ys) (2 ^ xs.length) (setsL (holdsIdeal xs) (2 ^ xs.length))
def tcL (xs ys : List Int) : List Int := if okGW xs ys then cycW xs ys else []
theorem okGW_no1 {xs ys : List Int} (h : good xs = false) : okGW xs ys = false := by simp [okGW, h]
theorem okGW_no2 {xs ys : List Int} (h : okWord xs ys = false) : okGW xs ys = false := by simp [okGW, h]
theorem okGW_yes {xs ys : List Int} (h : good xs = true) (k : okWord xs ys = true) : okGW xs ys = true := by simp [okGW, h, k]
theorem tcL_no {xs ys : List Int} (h : okGW xs ys = false) : tcL xs ys = [] := by simp [tcL, h]
theorem tcL_yes {xs ys : List Int} (h : okGW xs ys = true) : tcL xs ys = cycW xs ys := by simp [tcL, h]
theorem okGW_good {xs ys : List Int} (h : okGW xs ys = true) : good xs = true ∧ okWord xs ys = true := by simpa [okGW] using h
theorem cycW_length {xs ys : List Int} (h : good xs = true) : (cycW xs ys).length ≤ 1024 := by
  have h1 := (cycSt_length (wordF xs ys) (2 ^ xs.length) (setsL (holdsIdeal xs) (2 ^ xs.length)) (setsL (holdsIdeal xs) (2 ^ xs.length)).length).2
  have h2 := setsL_length (holdsIdeal xs) (2 ^ xs.length)
  have h3 := pow10 (good_length h).2
  unfold cycW cyclesL
  omega
theorem cycW_pos {xs ys : List Int} (h : good xs = true) : ∀ x ∈ cycW xs ys, 1 ≤ x ∧ x ≤ 1024 := by
  intro x hx
  have h3 := pow10 (good_length h).2
  unfold cycW at hx
  obtain ⟨N, hN⟩ : ∃ N, 2 ^ xs.length = N := ⟨_, rfl⟩
  rw [hN] at hx h3
  have h1 := cycSt_pos (wordF xs ys) N (setsL (holdsIdeal xs) N) _ x hx
  omega
theorem tcL_length (xs ys : List Int) : (tcL xs ys).length ≤ 1048576 := by
  unfold tcL
  split
  · rename_i h
    have := cycW_length (ys := ys) (okGW_good h).1
    omega
  · simp
theorem specToggleCycles_any (v : Value) (xs : List Int) (u : Value) (ys : List Int) (w : World) (hv : Ints w v xs) (hl : xs.length ≤ 1048576) (hu : Ints w u ys) (hm : ys.length ≤ 1048576) :
    Calls Try.prog 40 #[.agg #[v], u] w fun (r : Ending) w' => ∃ q, r = Ending.returned (.tuple #[q, .bool (okGW xs ys)]) ∧ OwnI 3 w' w.heap.size q (tcL xs ys) ∧ (tcL xs ys).length ≤ 1048576 ∧ Below w.heap.size w w' := by
  have HV := hid hv
  have HU := hid hu
  have HL := hid (tcL_length xs ys)
  clear hv hu
  go_enter Try.func40, Try.ntmps40
  have HB := hid (below_alloc (Below.refl _ w) (.cells #[v] 26))
  have A0 := hid (At.newAt w v 26 w.heap.size (by simp))
  go_wp2_with fail
  refine (poGood_any _ xs _ (HV.out.below HB.out) hl).mono ?_
  rintro e w' ⟨rfl, hb⟩
  replace HB := hid (below_to HB.out hb)
  replace A0 := hid (A0.out.below hb)
  clear hb
  cases hq : good xs
  · have HO := hid (okGW_no1 (ys := ys) hq)
    clear hq
    have ebox0 := A0.out.1
    go_wp2
    go_ret2
    exact ⟨_, ret_vb HO.out.symm, by rw [tcL_no HO.out]; exact OwnI.nil _ _ _, HL.out, HB.out⟩
  · have HQ := hid hq
    clear hq
    have ebox0 := A0.out.1
    go_wp2_with fail
    clear ebox0
    refine (tgIsWord_any _ _ xs ys _ (HV.out.below HB.out) (HU.out.below HB.out) hl hm).mono ?_
    rintro e w' ⟨rfl, hb⟩
    replace HB := hid (below_to HB.out hb)
    replace A0 := hid (A0.out.below hb)
    clear hb
    cases hk : okWord xs ys
    · have HO := hid (okGW_no2 hk)
      clear hk
      have ebox0 := A0.out.1
      go_wp2
      go_ret2
      exact ⟨_, ret_vb HO.out.symm, by rw [tcL_no HO.out]; exact OwnI.nil _ _ _, HL.out, HB.out⟩
    · have HO := hid (okGW_yes HQ.out hk)
      have HK := hid (okWord_in hk).2
      clear hk
      have hz := HB.out.size
      have ebox0 := A0.out.1
      go_wp2_with fail
      clear ebox0
      refine (tgCycles_any _ _ xs ys _ (HV.out.below HB.out) (HU.out.below HB.out) HQ.out HK.out hm).mono ?_
      rintro e w' ⟨q, rfl, ho, hb⟩
      replace HB := hid (below_to HB.out hb)
      replace A0 := hid (A0.out.below hb)
      clear hb
      have ebox0 := A0.out.1
      go_wp2
      go_ret2
      exact ⟨_, ret_vb HO.out.symm, by rw [tcL_yes HO.out]; exact ho.mono hz, HL.out, HB.out⟩
theorem implToggleCycles_any (v : Value) (xs : List Int) (u : Value) (ys : List Int) (w : World) (hv : Ints w v xs) (hl : xs.length ≤ 1048576) (hu : Ints w u ys) (hm : ys.length ≤ 1048576) :
    Calls Try.prog 39 #[.agg #[v], u] w fun (r : Ending) w' => ∃ q, r = Ending.returned (.tuple #[q, .bool (okGW xs ys)]) ∧ OwnI 3 w' w.heap.size q (tcL xs ys) ∧ (tcL xs ys).length ≤ 1048576 ∧ Below w.heap.size w w' := by
  have HV := hid hv
  have HU := hid hu
  have HL := hid (tcL_length xs ys)
  clear hv hu
  go_enter Try.func39, Try.ntmps39
  have HB := hid (below_alloc (Below.refl _ w) (.cells #[v] 26))
  have A0 := hid (At.newAt w v 26 w.heap.size (by simp))
  go_wp2_with fail
  refine (implIsPoset_any _ xs _ (HV.out.below HB.out) hl).mono ?_
  rintro e w' ⟨rfl, hb⟩
  replace HB := hid (below_to HB.out hb)
  replace A0 := hid (A0.out.below hb)
  clear hb
  cases hq : good xs
  · have HO := hid (okGW_no1 (ys := ys) hq)
    clear hq
    have ebox0 := A0.out.1
    go_wp2
    go_ret2
    exact ⟨_, ret_vb HO.out.symm, by rw [tcL_no HO.out]; exact OwnI.nil _ _ _, HL.out, HB.out⟩
  · have HQ := hid hq
    clear hq
    have ebox0 := A0.out.1
    go_wp2_with fail
    clear ebox0
    refine (hasWord_any _ _ xs ys _ (HV.out.below HB.out) (HU.out.below HB.out) hl hm).mono ?_
    rintro e w' ⟨rfl, hb⟩
    replace HB := hid (below_to HB.out hb)
    replace A0 := hid (A0.out.below hb)
    clear hb
    cases hk : okWord xs ys
    · have HO := hid (okGW_no2 hk)
      clear hk
      have ebox0 := A0.out.1
      go_wp2
      go_ret2
      exact ⟨_, ret_vb HO.out.symm, by rw [tcL_no HO.out]; exact OwnI.nil _ _ _, HL.out, HB.out⟩
    · have HO := hid (okGW_yes HQ.out hk)
      have HK := hid (okWord_in hk).2
      clear hk
      have hz := HB.out.size
      have ebox0 := A0.out.1
      go_wp2_with fail
      clear ebox0
      refine (cyclesOf_any _ _ xs ys _ (HV.out.below HB.out) (HU.out.below HB.out) HQ.out HK.out hm).mono ?_
      rintro e w' ⟨q, rfl, ho, hb⟩
      replace HB := hid (below_to HB.out hb)
      replace A0 := hid (A0.out.below hb)
      clear hb
      have ebox0 := A0.out.1
      go_wp2
      go_ret2
      exact ⟨_, ret_vb HO.out.symm, by rw [tcL_yes HO.out]; exact ho.mono hz, HL.out, HB.out⟩

/-! ### common multiples -/
theorem tgGcd_any (b a : Nat) (w : World) (ha : a ≤ 1000000000000000) (hb : b ≤ 1000000000000000) :
    Calls Try.prog 115 #[.int .i64 a, .int .i64 b] w fun r w' => r = .returned (.int .i64 (Nat.gcd a b : Nat)) ∧ w = w' := by
  induction b using Nat.strongRecOn generalizing a w with
  | _ b ih =>
    by_cases h0 : b = 0
    · subst h0
      have HG : Hid (Nat.gcd a 0 = a) := hid (Nat.gcd_zero_right a)
      clear ih ha hb
      go_enter Try.func115, Try.ntmps115
      go_wp2
      go_ret
      exact ⟨ret_int (by rw [HG.out]), rfl⟩
    · have HI := hid (ih (a % b) (Nat.mod_lt _ (by omega)) b)
      have HG : Hid (Nat.gcd b (a % b) = Nat.gcd a b) := hid (by rw [Nat.gcd_comm a b, Nat.gcd_rec b a, Nat.gcd_comm])
      have hb0 : ((b : Int) == 0) = false := by rw [beq_eq_false_iff_ne]; omega
      have hbne : ¬ (b : Int) = 0 := by omega
      have hml := Nat.mod_le a b
      have hb1 : (0 : Int) < b := by omega
      have HI2 := hid (HI.out w hb (Nat.le_trans hml ha))
      have hmod := tmod_nat a b
      have hmod2 : ((a : Int) % (b : Int)) = ((a % b : Nat) : Int) := by simp
      obtain ⟨r, hr⟩ : ∃ r, a % b = r := ⟨_, rfl⟩
      rw [hr] at hmod hmod2 HI2 HG
      clear ih ha hb hml HI hr
      go_enter Try.func115, Try.ntmps115
      go_wp2_with fail
      refine HI2.out.mono ?_
      rintro e w' ⟨rfl, rfl⟩
      go_wp2
      go_ret
      exact ⟨ret_int (by rw [HG.out]), rfl⟩
theorem commonDivisor_any (a b : Nat) (w : World) (ha : a ≤ 1000000000000000) (hb : b ≤ 1000000000000000) :
    Calls Try.prog 164 #[.int .i64 a, .int .i64 b] w fun r w' => r = .returned (.int .i64 (Nat.gcd a b : Nat)) ∧ Below w.heap.size w w' := by
  obtain ⟨R, hR⟩ : ∃ R, Nat.gcd a b = R := ⟨_, rfl⟩
  have HR := hid hR
  have HA := hid ha
  have HB0 := hid hb
  rw [hR]
  clear hR ha hb
  go_enter Try.func164, Try.ntmps164
  go_wp2
  go_loopw [0, 1] (fun p q wr => ∃ m n : Nat, p = .int .i64 m ∧ q = .int .i64 n ∧ Hid (m ≤ 1000000000000000) ∧ Hid (n ≤ 1000000000000000) ∧ Hid (Nat.gcd m n = R) ∧ Below w.heap.size w wr) (fun _ q _ => (intOf q).toNat)
  case atStart => exact ⟨a, b, rfl, rfl, HA, HB0, HR, Below.refl _ _⟩
  case round =>
    obtain ⟨m, n, rfl, rfl, hm, hn, HG, hbl⟩ := hrel
    have HB := hid hbl
    clear hbl
    by_cases h0 : n = 0
    · subst h0
      have HG2 : Hid (m = R) := hid (by rw [← HG.out, Nat.gcd_zero_right])
      go_wp2
      go_ret
      exact ⟨ret_int (by rw [HG2.out]), HB.out⟩
    · have HG2 : Hid (Nat.gcd n (m % n) = R) := hid (by rw [← HG.out, Nat.gcd_comm m n, Nat.gcd_rec n m, Nat.gcd_comm])
      have hb0 : ((n : Int) != 0) = true := by rw [bne_iff_ne]; omega
      have hbne : ¬ (n : Int) = 0 := by omega
      have hml := Nat.mod_lt m (show 0 < n by omega)
      have hmod := tmod_nat m n
      have hmod2 : ((m : Int) % (n : Int)) = ((m % n : Nat) : Int) := by simp
      obtain ⟨r, hr⟩ : ∃ r, m % n = r := ⟨_, rfl⟩
      rw [hr] at hmod hmod2 HG2 hml
      clear hr
      have hb1 : (0 : Int) < n := by omega
      go_wp2_with fail
      go_region
      go_wp2
      go_roundw
      case rel => exact ⟨n, r, rfl, rfl, hn, hid (by have := hn.out; omega), HG2, HB.out.drew⟩
      case measure => simp [intOf]; omega
end Go.Proofs.Ytpdoheagfjeefaa

/- OrderOfWord. -/
namespace Go.Proofs.Ytpdoheagfjeefaa
open Go.RowKit Go.WideShapes Go.ChangeShapes
set_option linter.unusedVariables false

def okOW (xs ys : List Int) : Bool := okGW xs ys && (lcmAll (cycW xs ys)).isSome
def ansOW (xs ys : List Int) : Int := if okOW xs ys then (((lcmAll (cycW xs ys)).getD 0 : Nat) : Int) else 0
theorem okOW_no1 {xs ys : List Int} (h : okGW xs ys = false) : okOW xs ys = false := by simp [okOW, h]
theorem okOW_no2 {xs ys : List Int} (h : lcmAll (cycW xs ys) = none) : okOW xs ys = false := by simp [okOW, h]
theorem okOW_yes {xs ys : List Int} {m : Nat} (h : okGW xs ys = true) (k : lcmAll (cycW xs ys) = some m) : okOW xs ys = true := by simp [okOW, h, k]
theorem ansOW_no {xs ys : List Int} (h : okOW xs ys = false) : ansOW xs ys = 0 := by simp [ansOW, h]
theorem ansOW_yes {xs ys : List Int} {m : Nat} (h : okOW xs ys = true) (k : lcmAll (cycW xs ys) = some m) : ansOW xs ys = (m : Int) := by simp [ansOW, h, k]
/-- what lcmAll tells, as the program's pair -/
def lcmV (o : Option Nat) : Int := ((o.getD 0 : Nat) : Int)
theorem lcm_step {ls : List Int} {k m x : Nat} (h : lcmN ls k = some m) (hx : ls.getD k 0 = (x : Int)) : lcmN ls (k + 1) = if 1000000000000000 < m / Nat.gcd m x * x then none else some (m / Nat.gcd m x * x) := by
  simp only [lcmN, h, Option.bind_some, hx, Int.toNat_natCast]
theorem lcm_facts {ls : List Int} {k m x : Nat} (hp : ∀ y ∈ ls, 1 ≤ y ∧ y ≤ 1024) (hk : k < ls.length) (h : lcmN ls k = some m) (hx : ls.getD k 0 = (x : Int)) :
    1 ≤ m ∧ m ≤ 1000000000000000 ∧ 1 ≤ x ∧ x ≤ 1024 ∧ 1 ≤ Nat.gcd m x ∧ Nat.gcd m x ≤ 1024 ∧ x / Nat.gcd m x ≤ 1024 ∧ m / Nat.gcd m x ≤ 1000000000000000 ∧ m / Nat.gcd m x * x ≤ 1024000000000000000 := by
  have h1 := lcmN_le (fun y hy => (hp y hy).1) k (by omega) m h
  have h2 := hp (ls.getD k 0) (by simp [List.getD, hk])
  rw [hx] at h2
  have h3 := Nat.gcd_le_right m (show 0 < x by omega)
  have h4 : 0 < Nat.gcd m x := Nat.gcd_pos_of_pos_left _ (by omega)
  have h5 := Nat.div_le_self x (Nat.gcd m x)
  have h6 := Nat.div_le_self m (Nat.gcd m x)
  have h7 : m / Nat.gcd m x * x ≤ 1000000000000000 * 1024 := Nat.mul_le_mul (by omega) (by omega)
  exact ⟨h1.1, h1.2, by omega, by omega, h4, by omega, by omega, by omega, by omega⟩
set_option maxHeartbeats 800000 in
theorem commonMultiple_any (u : Value) (ls : List Int) (w : World) (hu : Ints w u ls) (hl : ls.length ≤ 1048576) (hp : ∀ y ∈ ls, 1 ≤ y ∧ y ≤ 1024) :
    Calls Try.prog 114 #[u] w fun r w' => r = .returned (.tuple #[.int .i64 (lcmV (lcmAll ls)), .bool (lcmAll ls).isSome]) ∧ Below w.heap.size w w' := by
  have HP := hid hp
  obtain ⟨A, c, rfl, hA⟩ := hu
  have HA := hid hA
  clear hA hp
  go_enter Try.func114, Try.ntmps114
  go_wp2
  go_loopw [4, 9] (fun q i wr => ∃ k m : Nat, k ≤ ls.length ∧ i = .int .i64 k ∧ q = .int .i64 m ∧ Hid (lcmN ls k = some m) ∧ Below w.heap.size w wr) (fun _ i _ => ls.length - (intOf i).toNat)
  case atStart => exact ⟨0, 1, Nat.zero_le _, rfl, rfl, hid rfl, Below.refl _ _⟩
  case round =>
    obtain ⟨k, m, hk, rfl, rfl, HM, hb⟩ := hrel
    by_cases hlt : k < ls.length
    · obtain ⟨b, o, rfl, hbl, hc⟩ := HA.out (by intro h; simp [h] at hlt)
      have hcell : wr.cell? ⟨b, o + k, none⟩ = some (.int .i64 (ls.getD k 0)) := (hb.cell (p := ⟨b, o + k, none⟩) hbl).trans (hc k hlt)
      have hx0 := HP.out (ls.getD k 0) (by simp [List.getD, hlt])
      obtain ⟨x, hx⟩ := Int.eq_ofNat_of_zero_le (show 0 ≤ ls.getD k 0 by omega)
      rw [hx] at hcell
      obtain ⟨f1, f2, f3, f4, f5, f6, f7, f8, f9⟩ := lcm_facts HP.out hlt HM.out hx
      have HSt := hid (lcm_step HM.out hx)
      have hsw := mul_gcd_swap m x f3
      obtain ⟨g, hg⟩ : ∃ g, Nat.gcd m x = g := ⟨_, rfl⟩
      have HGc := hid (commonDivisor_any m x)
      rw [hg] at hsw HSt f5 f6 f7 f8 f9 HGc
      obtain ⟨q, hq⟩ : ∃ q, x / g = q := ⟨_, rfl⟩
      obtain ⟨p, hpp⟩ : ∃ p, m / g * x = p := ⟨_, rfl⟩
      rw [hpp] at hsw HSt f9
      have hdiv := tdiv_nat x g
      have hdiv2 : ((x : Int) / (g : Int)) = ((x / g : Nat) : Int) := by simp
      rw [hq] at hdiv hdiv2 hsw f7
      have hk1 : k + 1 ≤ ls.length := by omega
      have HC := hid (HGc.out wr f2 (by omega))
      have hg0 : ¬ (g : Int) = 0 := by omega
      have hg1 : ((g : Int) == 0) = false := by rw [beq_eq_false_iff_ne]; omega
      have HB := hid hb
      have hg2 : (0 : Int) < g := by omega
      have hmul : ((m : Int) * (q : Int)) = (p : Int) := by rw [hsw]; simp
      have HMul := hid hmul
      have HP2 : Hid (wrap64 (p : Int) = (p : Int)) := hid (by unfold wrap64; omega)
      have HDiv := hid hdiv
      have HDiv2 := hid hdiv2
      clear hc hx0 hx hg hq hpp hsw hb f1 f2 f3 f4 f5 f6 f8 HGc hmul hdiv hdiv2
      by_cases hbI : (1000000000000000 : Int) < (p : Int)
      · have hbig : 1000000000000000 < p := by omega
        have HN := hid (HSt.out.trans (if_pos hbig))
        have HNo : Hid (lcmAll ls = none) := hid (lcmN_none HN.out _ hk1)
        clear hbig f9 HSt
        have hmul := HMul.out
        have hp2 := HP2.out
        have hdiv := HDiv.out
        have hdiv2 := HDiv2.out
        go_wp2_with fail
        refine HC.out.mono ?_
        rintro e' w' ⟨rfl, hb⟩
        have HB2 := hid (below_to HB.out hb)
        clear hb hcell
        go_wp2
        go_ret2
        exact ⟨ret_ib (by rw [HNo.out]; rfl) (by rw [HNo.out]; rfl), HB2.out⟩
      · have hbig : ¬ 1000000000000000 < p := by omega
        have HN := hid (HSt.out.trans (if_neg hbig))
        clear hbig f9 HSt
        have hmul := HMul.out
        have hp2 := HP2.out
        have hdiv := HDiv.out
        have hdiv2 := HDiv2.out
        go_wp2_with fail
        refine HC.out.mono ?_
        rintro e' w' ⟨rfl, hb⟩
        have HB2 := hid (below_to HB.out hb)
        clear hb hcell
        go_wp2
        clear hmul hp2 hdiv hdiv2
        go_roundw
        case rel => exact ⟨k + 1, p, hk1, by go_num, rfl, HN, HB2.out⟩
        case measure => simp [intOf]; omega
    · obtain rfl : k = ls.length := by omega
      have HAll : Hid (lcmAll ls = some m) := HM
      have HB := hid hb
      clear hb
      go_wp2
      go_ret2
      exact ⟨ret_ib (by rw [HAll.out]; rfl) (by rw [HAll.out]; rfl), HB.out⟩
set_option maxHeartbeats 800000 in
theorem implOrderOfWord_any (v : Value) (xs : List Int) (u : Value) (ys : List Int) (w : World) (hv : Ints w v xs) (hl : xs.length ≤ 1048576) (hu : Ints w u ys) (hm : ys.length ≤ 1048576) :
    Calls Try.prog 41 #[.agg #[v], u] w fun r w' => r = .returned (.tuple #[.int .i64 (ansOW xs ys), .bool (okOW xs ys)]) ∧ Below w.heap.size w w' := by
  have HV := hid hv
  have HU := hid hu
  clear hv hu
  go_enter Try.func41, Try.ntmps41
  have HB := hid (below_alloc (Below.refl _ w) (.cells #[v] 26))
  have A0 := hid (At.newAt w v 26 w.heap.size (by simp))
  go_wp2_with fail
  refine (implToggleCycles_any _ xs _ ys _ (HV.out.below HB.out) hl (HU.out.below HB.out) hm).mono ?_
  rintro e w' ⟨q, rfl, ho, hlen, hb⟩
  replace HB := hid (below_to HB.out hb)
  replace A0 := hid (A0.out.below hb)
  clear hb
  cases hk : okGW xs ys
  · have HO := hid (okOW_no1 hk)
    clear hk ho hlen
    have ebox0 := A0.out.1
    go_wp2
    go_ret2
    exact ⟨ret_ib (ansOW_no HO.out).symm HO.out.symm, HB.out⟩
  · have HK := hid hk
    have HI := hid ho.ints
    rw [tcL_yes hk] at HI hlen
    clear hk ho
    have HP := hid (cycW_pos (ys := ys) (okGW_good HK.out).1)
    obtain ⟨qA, qn, qc, hqs⟩ : ∃ A n c, q = .slice A n c := by obtain ⟨A, c, h, -⟩ := HI.out; exact ⟨A, _, c, h⟩
    subst hqs
    have ebox0 := A0.out.1
    go_wp2_with fail
    clear ebox0
    refine (commonMultiple_any _ (cycW xs ys) _ HI.out hlen HP.out).mono ?_
    rintro e w' ⟨rfl, hb⟩
    replace HB := hid (below_to HB.out hb)
    replace A0 := hid (A0.out.below hb)
    clear hb
    cases hm : lcmAll (cycW xs ys) with
    | none =>
      have HO := hid (okOW_no2 hm)
      have HM := hid hm
      clear hm
      have ebox0 := A0.out.1
      go_wp2
      go_ret2
      exact ⟨ret_ib (by rw [ansOW_no HO.out]; rfl) (by rw [HO.out]), HB.out⟩
    | some m =>
      have HO := hid (okOW_yes HK.out hm)
      have HM := hid hm
      clear hm
      have ebox0 := A0.out.1
      go_wp2
      go_ret2
      exact ⟨ret_ib (by rw [ansOW_yes HO.out HM.out]; rfl) (by rw [HO.out]), HB.out⟩
set_option maxHeartbeats 1600000 in
theorem specOrderOfWord_any (v : Value) (xs : List Int) (u : Value) (ys : List Int) (w : World) (hv : Ints w v xs) (hl : xs.length ≤ 1048576) (hu : Ints w u ys) (hm : ys.length ≤ 1048576) :
    Calls Try.prog 42 #[.agg #[v], u] w fun r w' => r = .returned (.tuple #[.int .i64 (ansOW xs ys), .bool (okOW xs ys)]) ∧ Below w.heap.size w w' := by
  have HV := hid hv
  have HU := hid hu
  clear hv hu
  go_enter Try.func42, Try.ntmps42
  have HB := hid (below_alloc (Below.refl _ w) (.cells #[v] 26))
  have A0 := hid (At.newAt w v 26 w.heap.size (by simp))
  go_wp2_with fail
  refine (poGood_any _ xs _ (HV.out.below HB.out) hl).mono ?_
  rintro e w' ⟨rfl, hb⟩
  replace HB := hid (below_to HB.out hb)
  replace A0 := hid (A0.out.below hb)
  clear hb
  cases hq : good xs
  · have HO := hid (okOW_no1 (okGW_no1 (ys := ys) hq))
    clear hq
    have ebox0 := A0.out.1
    go_wp2
    go_ret2
    exact ⟨ret_ib (ansOW_no HO.out).symm HO.out.symm, HB.out⟩
  · have HQ := hid hq
    clear hq
    have ebox0 := A0.out.1
    go_wp2_with fail
    clear ebox0
    refine (tgIsWord_any _ _ xs ys _ (HV.out.below HB.out) (HU.out.below HB.out) hl hm).mono ?_
    rintro e w' ⟨rfl, hb⟩
    replace HB := hid (below_to HB.out hb)
    replace A0 := hid (A0.out.below hb)
    clear hb
    cases hk : okWord xs ys
    · have HO := hid (okOW_no1 (okGW_no2 (xs := xs) hk))
      clear hk
      have ebox0 := A0.out.1
      go_wp2
      go_ret2
      exact ⟨ret_ib (ansOW_no HO.out).symm HO.out.symm, HB.out⟩
    · have HK := hid (okGW_yes HQ.out hk)
      have HW := hid (okWord_in hk).2
      clear hk
      have ebox0 := A0.out.1
      go_wp2_with fail
      clear ebox0
      refine (tgCycles_any _ _ xs ys _ (HV.out.below HB.out) (HU.out.below HB.out) HQ.out HW.out hm).mono ?_
      rintro e w' ⟨q, rfl, ho, hb⟩
      replace HB := hid (below_to HB.out hb)
      replace A0 := hid (A0.out.below hb)
      clear hb
      have HI := hid ho.ints
      have HI2 : Hid (Ints w' q (cycW xs ys)) := HI
      clear ho HI
      have HP := hid (cycW_pos (ys := ys) HQ.out)
      have hlen := cycW_length (ys := ys) HQ.out
      obtain ⟨ls, hls⟩ : ∃ ls, cycW xs ys = ls := ⟨_, rfl⟩
      rw [hls] at HI2 HP hlen
      have HLs := hid hls
      clear hls
      obtain ⟨A, c, rfl, hA⟩ := HI2.out
      have HA := hid hA
      clear hA
      go_wp2
      go_loopw [6, 22] (fun q i wr => ∃ k m : Nat, k ≤ ls.length ∧ i = .int .i64 k ∧ q = .int .i64 m ∧ Hid (lcmN ls k = some m) ∧ Below w.heap.size w wr ∧ Below w'.heap.size w' wr) (fun _ i _ => ls.length - (intOf i).toNat)
      case atStart => exact ⟨0, 1, Nat.zero_le _, rfl, rfl, hid rfl, HB.out, Below.refl _ _⟩
      case round =>
        obtain ⟨k, m, hk, rfl, rfl, HM, hb, hu⟩ := hrel
        have HB1 := hid hb
        have HU1 := hid hu
        by_cases hlt : k < ls.length
        · obtain ⟨b, o, rfl, hbl, hc⟩ := HA.out (by intro h; simp [h] at hlt)
          have hcell := (hu.cell (p := ⟨b, o + k, none⟩) hbl).trans (hc k hlt)
          clear hb hu
          have hx0 := HP.out (ls.getD k 0) (by simp [List.getD, hlt])
          obtain ⟨x, hx⟩ := Int.eq_ofNat_of_zero_le (show 0 ≤ ls.getD k 0 by omega)
          rw [hx] at hcell
          obtain ⟨f1, f2, f3, f4, f5, f6, f7, f8, f9⟩ := lcm_facts HP.out hlt HM.out hx
          have HSt := hid (lcm_step HM.out hx)
          obtain ⟨g, hg⟩ : ∃ g, Nat.gcd m x = g := ⟨_, rfl⟩
          have HGc := hid (fun W => tgGcd_any x m W f2 (by omega))
          rw [hg] at HSt f5 f6 f7 f8 f9 HGc
          obtain ⟨q, hq⟩ : ∃ q, m / g = q := ⟨_, rfl⟩
          obtain ⟨p, hpp⟩ : ∃ p, m / g * x = p := ⟨_, rfl⟩
          rw [hpp] at HSt f9
          have hdiv := tdiv_nat m g
          have hdiv2 : ((m : Int) / (g : Int)) = ((m / g : Nat) : Int) := by simp
          rw [hq] at hdiv hdiv2 hpp f8
          have hk1 : k + 1 ≤ ls.length := by omega
          have hg0 : ¬ (g : Int) = 0 := by omega
          have hg1 : ((g : Int) == 0) = false := by rw [beq_eq_false_iff_ne]; omega
          have hx1 : ¬ (x : Int) = 0 := by omega
          have hx2 : ((x : Int) == 0) = false := by rw [beq_eq_false_iff_ne]; omega
          have hxp : (0 : Int) < x := by omega
          have hgp : (0 : Int) < g := by omega
          obtain ⟨D, hD⟩ : ∃ D, 1000000000000000 / x = D := ⟨_, rfl⟩
          have hdq := tdiv_nat 1000000000000000 x
          have hdq2 : ((1000000000000000 : Int) / (x : Int)) = ((1000000000000000 / x : Nat) : Int) := by simp
          rw [hD] at hdq hdq2
          have hdq3 : (1000000000000000 : Int).tdiv (x : Int) = (D : Int) := hdq
          have hbd := div_bound (a := q) (M := 1000000000000000) (n := x) (by omega)
          rw [hD, hpp] at hbd
          have HMul := hid (show ((q : Int) * (x : Int)) = (p : Int) by rw [← hpp]; simp)
          have HQ3 : Hid (IntKind.i64.wrap (q : Int) = (q : Int)) := hid (IntWalk.i64_in _ (by omega))
          have HWq : Hid (wrap64 (q : Int) = (q : Int)) := hid (by unfold wrap64; omega)
          have hDle : D ≤ 1000000000000000 := by rw [← hD]; exact Nat.div_le_self _ _
          have HD3 : Hid (IntKind.i64.wrap (D : Int) = (D : Int)) := hid (IntWalk.i64_in _ (by omega))
          clear hDle
          have HP2 : Hid (wrap64 (p : Int) = (p : Int)) := hid (by unfold wrap64; omega)
          have HDiv := hid hdiv
          have HDiv2 := hid hdiv2
          have HDq := hid hdq3
          have HDq2 := hid hdq2
          clear hc hx0 hx hg hq hpp hD hdq f1 f2 f3 f4 f5 f6 f7 f8 hdiv hdiv2 hdq3 hdq2
          by_cases hbN : D < q
          · have HN := hid (HSt.out.trans (if_pos (hbd.1 hbN)))
            have HNo : Hid (lcmAll (cycW xs ys) = none) := hid (by rw [HLs.out]; exact lcmN_none HN.out _ hk1)
            have HO := hid (okOW_no2 HNo.out)
            have hbI : (D : Int) < (q : Int) := by omega
            clear f9 HSt hbd
            have hdiv := HDiv.out
            have hdiv2 := HDiv2.out
            have hdq := HDq.out
            have hdq2 := HDq2.out
            go_wp2_with fail
            have hq3 := HQ3.out
            have hd3 := HD3.out
            go_quiet ((go_at_call 115; exact Calls.quiet_of_same ((HGc.out _).mono fun _ _ ⟨a, b⟩ => ⟨a, b.symm⟩)))
            clear hq3 hd3
            go_wp2
            go_ret2
            exact ⟨ret_ib (ansOW_no HO.out).symm HO.out.symm, below_drewN HB1.out _⟩
          · have HN := hid (HSt.out.trans (if_neg (fun h => hbN (hbd.2 h))))
            have hbI : ¬ (D : Int) < (q : Int) := by omega
            clear f9 HSt hbd
            have hdiv := HDiv.out
            have hdiv2 := HDiv2.out
            have hdq := HDq.out
            have hdq2 := HDq2.out
            go_wp2_with fail
            have hq3 := HQ3.out
            have hd3 := HD3.out
            go_quiet ((go_at_call 115; exact Calls.quiet_of_same ((HGc.out _).mono fun _ _ ⟨a, b⟩ => ⟨a, b.symm⟩)))
            clear hq3 hd3
            clear hdq hdq2
            have hmul := HMul.out
            have hp2 := HP2.out
            have hwq := HWq.out
            go_wp2_with fail
            refine (HGc.out _).mono ?_
            rintro e' w3 ⟨rfl, rfl⟩
            go_wp2
            clear hmul hp2 hdiv hdiv2 hwq
            go_roundw
            case rel => exact ⟨k + 1, p, hk1, by go_num, by rw [HP2.out], HN, below_drewN HB1.out _, below_drewN HU1.out _⟩
            case measure => simp [intOf]; omega
        · obtain rfl : k = ls.length := by omega
          have HAll : Hid (lcmAll (cycW xs ys) = some m) := hid (by rw [HLs.out]; exact HM.out)
          have HO := hid (okOW_yes HK.out HAll.out)
          go_wp2
          go_ret2
          exact ⟨ret_ib (ansOW_yes HO.out HAll.out).symm HO.out.symm, HB1.out⟩
end Go.Proofs.Ytpdoheagfjeefaa

/- The order of promotion: least common multiples of the lengths of orbits, of all and of those that begin them. No program is named here. -/
namespace Go.Proofs.Ytpdoheagfjeefaa
set_option linter.unusedVariables false

/-- the least common multiple of the first k numbers, none above B -/
def bl (B : Nat) (p : Nat → Nat) : Nat → Option Nat
  | 0 => some 1
  | k + 1 => (bl B p k).bind fun m => if B < m / Nat.gcd m (p k) * p k then none else some (m / Nat.gcd m (p k) * p k)
def LC (p : Nat → Nat) : Nat → Nat
  | 0 => 1
  | k + 1 => Nat.lcm (LC p k) (p k)
theorem div_gcd_lcm (m x : Nat) : m / Nat.gcd m x * x = Nat.lcm m x := by
  unfold Nat.lcm
  rw [Nat.mul_comm, ← Nat.mul_div_assoc x (Nat.gcd_dvd_left m x), Nat.mul_comm x m]
theorem LC_pos {p : Nat → Nat} {k : Nat} (h : ∀ j, j < k → 1 ≤ p j) : 1 ≤ LC p k := by
  induction k with
  | zero => exact Nat.le_refl _
  | succ k ih => exact Nat.lcm_pos (ih fun j hj => h j (by omega)) (h k (by omega))
theorem bl_eq {B : Nat} {p : Nat → Nat} (hB : 1 ≤ B) (k : Nat) (h : ∀ j, j < k → 1 ≤ p j) : bl B p k = if LC p k ≤ B then some (LC p k) else none := by
  induction k with
  | zero => show some 1 = if 1 ≤ B then some 1 else none; rw [if_pos hB]
  | succ k ih =>
    rw [bl, ih (fun j hj => h j (by omega))]
    have h1 := LC_pos (p := p) (k := k) (fun j hj => h j (by omega))
    have h2 : LC p k ≤ LC p (k + 1) := Nat.le_of_dvd (LC_pos h) (Nat.dvd_lcm_left _ _)
    by_cases hc : LC p k ≤ B
    · rw [if_pos hc, Option.bind_some, div_gcd_lcm]
      by_cases hd : LC p (k + 1) ≤ B
      · rw [if_pos hd, if_neg (show ¬ B < Nat.lcm (LC p k) (p k) from Nat.not_lt.2 hd)]; rfl
      · rw [if_neg hd, if_pos (show B < Nat.lcm (LC p k) (p k) from Nat.lt_of_not_le hd)]
    · rw [if_neg hc, if_neg (by omega)]; rfl
theorem bl_none {B : Nat} {p : Nat → Nat} {k : Nat} (h : bl B p k = none) (j : Nat) (hj : k ≤ j) : bl B p j = none := by
  induction j with
  | zero => have : k = 0 := by omega
            subst this; exact h
  | succ j ih =>
    by_cases e : k = j + 1
    · subst e; exact h
    · rw [bl, ih (by omega)]; rfl
theorem bl_step {B : Nat} {p : Nat → Nat} {k m : Nat} (h : bl B p k = some m) : bl B p (k + 1) = if B < m / Nat.gcd m (p k) * p k then none else some (m / Nat.gcd m (p k) * p k) := by
  rw [bl, h]; rfl
theorem bl_range {B : Nat} {p : Nat → Nat} (hB : 1 ≤ B) {k m : Nat} (hp : ∀ j, j < k → 1 ≤ p j) (h : bl B p k = some m) : 1 ≤ m ∧ m ≤ B := by
  rw [bl_eq hB k hp] at h
  split at h
  · simp only [Option.some.injEq] at h
    have := LC_pos hp
    omega
  · cases h
theorem LC_dvd {p : Nat → Nat} {k M : Nat} (h : ∀ j, j < k → p j ∣ M) : LC p k ∣ M := by
  induction k with
  | zero => exact Nat.one_dvd _
  | succ k ih => exact Nat.lcm_dvd (ih fun j hj => h j (by omega)) (h k (by omega))
theorem dvd_LC (p : Nat → Nat) {k j : Nat} (hj : j < k) : p j ∣ LC p k := by
  induction k with
  | zero => omega
  | succ k ih =>
    by_cases e : j = k
    · subst e; exact Nat.dvd_lcm_right _ _
    · exact Nat.dvd_trans (ih (by omega)) (Nat.dvd_lcm_left _ _)
theorem lcmN_bl (ls : List Int) (k : Nat) : lcmN ls k = bl 1000000000000000 (fun j => (ls.getD j 0).toNat) k := by
  induction k with
  | zero => rfl
  | succ k ih => rw [lcmN, bl, ih]
theorem per_orb {f : Nat → Nat} {D : Nat → Bool} {N : Nat} (h : Mov f D N) {s t : Nat} (hs : D s = true) (ht : t ∈ orbN f N s) : per f N t = per f N s := by
  have le : ∀ {s t : Nat}, D s = true → t ∈ orbN f N s → per f N t ≤ per f N s := by
    intro s t hs ht
    have hd := mem_orbN_D h hs ht
    obtain ⟨a1, a2, a3, a4⟩ := h.perS hs
    obtain ⟨b1, b2, b3, b4⟩ := h.perS hd
    obtain ⟨k, rfl⟩ := (mem_orbN h hs t).1 ht
    rcases Nat.lt_or_ge (per f N s) (per f N (iter f k s)) with h1 | h1
    · exfalso
      refine b4 (per f N s) a2 h1 ?_
      rw [← iter_add, Nat.add_comm, iter_add, a1]
    · exact h1
  exact Nat.le_antisymm (le hs ht) (le (mem_orbN_D h hs ht) (mem_orbN_symm h hs ht))
theorem lens_LC {xs : List Int} (h1 : 1 ≤ xs.length) : LC (fun j => ((lensP xs).getD j 0).toNat) (lensP xs).length = LC (perR xs) (ends xs 0) := by
  have hget : ∀ j, j < (lensP xs).length → ∃ s, s ∈ starts (proR xs) (ends xs 0) (idsN (ends xs 0)) ∧ ((lensP xs).getD j 0).toNat = perR xs s := by
    intro j hj
    have hj' : j < (starts (proR xs) (ends xs 0) (idsN (ends xs 0))).length := by simpa [lensP] using hj
    refine ⟨(starts (proR xs) (ends xs 0) (idsN (ends xs 0)))[j], List.getElem_mem hj', ?_⟩
    simp [lensP, List.getD, hj']
  refine Nat.dvd_antisymm (LC_dvd fun j hj => ?_) (LC_dvd fun r hr => ?_)
  · obtain ⟨s, hs, e⟩ := hget j hj
    show ((lensP xs).getD j 0).toNat ∣ _
    rw [e]
    exact dvd_LC (perR xs) (starts_lt hs)
  · have hseen := startsN_seen (proMov h1) (ids := idsN (ends xs 0)) idsD (Nat.le_refl _) (j := r) (by rw [idsN_length]; exact hr)
    rw [idsN_get hr] at hseen
    unfold seenB at hseen
    rw [List.any_eq_true] at hseen
    obtain ⟨s, hs, hm⟩ := hseen
    have hm' : r ∈ orbN (proR xs) (ends xs 0) s := by simpa using hm
    have hsl := starts_lt (xs := xs) hs
    have he : perR xs r = perR xs s := per_orb (proMov h1) (ltB_of hsl) hm'
    rw [he]
    obtain ⟨j, hj, e⟩ := List.mem_iff_getElem.1 hs
    have hj2 : j < (lensP xs).length := by simpa [lensP, starts] using hj
    have := dvd_LC (fun j => ((lensP xs).getD j 0).toNat) hj2
    have e2 : ((lensP xs).getD j 0).toNat = perR xs s := by
      have hj3 : j < (starts (proR xs) (ends xs 0) (idsN (ends xs 0))).length := hj
      have e3 : (starts (proR xs) (ends xs 0) (idsN (ends xs 0)))[j] = s := e
      simp [lensP, List.getD, hj3, e3]
    simp only [e2] at this
    exact this
theorem lens_all {xs : List Int} (h1 : 1 ≤ xs.length) : lcmAll (lensP xs) = if LC (perR xs) (ends xs 0) ≤ 1000000000000000 then some (LC (perR xs) (ends xs 0)) else none := by
  unfold lcmAll
  rw [lcmN_bl, bl_eq (by decide), lens_LC h1]
  intro j hj
  have := lens_range h1 ((lensP xs).getD j 0) (by simp [List.getD, hj])
  show 1 ≤ ((lensP xs).getD j 0).toNat
  omega
end Go.Proofs.Ytpdoheagfjeefaa

/- Factorials. -/
namespace Go.Proofs.Ytpdoheagfjeefaa
open Go.RowKit Go.WideShapes Go.ChangeShapes
set_option linter.unusedVariables false

theorem ret_ibC {x y : Int} {a b : Bool} (e : x = y) (h : a = b) : Ending.returned (.tuple #[.int .i64 x, .bool a]) = .returned (.tuple #[.int .i64 y, .bool b]) := by rw [e, h]
theorem tdiv_natC (m n : Nat) : ((m : Int).tdiv (n : Int)) = ((m / n : Nat) : Int) := by
  rw [Int.tdiv_eq_ediv_of_nonneg (Int.natCast_nonneg _)]; simp
theorem tmod_natC (m n : Nat) : ((m : Int).tmod (n : Int)) = ((m % n : Nat) : Int) := by
  rw [Int.tmod_eq_emod_of_nonneg (Int.natCast_nonneg _)]; simp
def facN : Nat → Nat
  | 0 => 1
  | k + 1 => facN k * (k + 1)
theorem facN_le {k : Nat} (h : k ≤ 10) : facN k ≤ 3628800 := by
  have : ∀ k, k < 11 → facN k ≤ 3628800 := by decide
  exact this k (by omega)
theorem facN_succ (k : Nat) : ((facN k : Nat) : Int) * ((k : Int) + 1) = ((facN (k + 1) : Nat) : Int) := by
  show ((facN k : Nat) : Int) * ((k : Int) + 1) = ((facN k * (k + 1) : Nat) : Int)
  rw [Int.natCast_mul]; rfl
/-! ### staircases -/
def stP (n : Nat) : Nat → Nat
  | 0 => 1
  | i + 1 => stP n i * (2 * i + 1) ^ (n - i)
def stQ (n i k : Nat) : Nat := stP n i * (2 * i + 1) ^ k
theorem stQ_zero (n i : Nat) : stQ n i 0 = stP n i := by simp [stQ]
theorem stQ_end (n i : Nat) : stQ n i (n - i) = stP n (i + 1) := rfl
theorem stQ_succ (n i k : Nat) : stQ n i (k + 1) = stQ n i k * (2 * i + 1) := by unfold stQ; rw [Nat.pow_succ, Nat.mul_assoc]
theorem stQ_bnd {n i k : Nat} (hn : n ≤ 4) (hi : i ≤ 4) (hk : k ≤ 4) : 1 ≤ stQ n i k ∧ stQ n i k ≤ 1000000000000 := by
  have : ∀ n, n < 5 → ∀ i, i < 5 → ∀ k, k < 5 → 1 ≤ stQ n i k ∧ stQ n i k ≤ 1000000000000 := by decide +kernel
  exact this n (by omega) i (by omega) k (by omega)
theorem stP_bnd {n i : Nat} (hn : n ≤ 4) (hi : i ≤ 4) : 1 ≤ stP n i ∧ stP n i ≤ 1000000000000 := by
  have := stQ_bnd (k := 0) hn hi (by omega)
  rwa [stQ_zero] at this
def okST (n : Int) : Bool := decide (1 ≤ n) && decide (n ≤ 4)
def cntS (n : Int) : Int := if okST n then ((facN (n.toNat * (n.toNat + 1) / 2) / stP n.toNat n.toNat : Nat) : Int) else 0
theorem cntS_no {n : Int} (h : (decide (1 ≤ n) && decide (n ≤ 4)) = false) : cntS n = 0 := by
  have : okST n = false := h
  simp [cntS, this]
theorem cntS_yes {m : Nat} (h : (decide (1 ≤ (m : Int)) && decide ((m : Int) ≤ 4)) = true) : cntS m = ((facN (m * (m + 1) / 2) / stP m m : Nat) : Int) := by
  have : okST m = true := h
  simp [cntS, this]
end Go.Proofs.Ytpdoheagfjeefaa

/- The model's greatest common divisor. -/
namespace Go.Proofs.Ytpdoheagfjeefaa
open Go.RowKit Go.WideShapes Go.ChangeShapes
set_option linter.unusedVariables false

theorem liGcd_any (a b : Nat) (w : World) (ha : a ≤ 1000000000000000) (hb : b ≤ 1000000000000000) :
    Calls Try.prog 127 #[.int .i64 a, .int .i64 b] w fun r w' => r = .returned (.int .i64 (Nat.gcd a b : Nat)) ∧ Below w.heap.size w w' := by
  obtain ⟨R, hR⟩ : ∃ R, Nat.gcd a b = R := ⟨_, rfl⟩
  have HR := hid hR
  have HA := hid ha
  have HB0 := hid hb
  rw [hR]
  clear hR ha hb
  go_enter Try.func127, Try.ntmps127
  go_wp2
  go_loopw [0, 1] (fun p q wr => ∃ m n : Nat, p = .int .i64 m ∧ q = .int .i64 n ∧ Hid (m ≤ 1000000000000000) ∧ Hid (n ≤ 1000000000000000) ∧ Hid (Nat.gcd m n = R) ∧ Below w.heap.size w wr) (fun _ q _ => (intOf q).toNat)
  case atStart => exact ⟨a, b, rfl, rfl, HA, HB0, HR, Below.refl _ _⟩
  case round =>
    obtain ⟨m, n, rfl, rfl, hm, hn, HG, hbl⟩ := hrel
    have HB := hid hbl
    clear hbl
    by_cases h0 : n = 0
    · subst h0
      have HG2 : Hid (m = R) := hid (by rw [← HG.out, Nat.gcd_zero_right])
      go_wp2
      go_ret
      exact ⟨ret_int (by rw [HG2.out]), HB.out⟩
    · have HG2 : Hid (Nat.gcd n (m % n) = R) := hid (by rw [← HG.out, Nat.gcd_comm m n, Nat.gcd_rec n m, Nat.gcd_comm])
      have hb0 : decide ((0 : Int) < (n : Int)) = true := by simp; omega
      have hbne : ¬ (n : Int) = 0 := by omega
      have hml := Nat.mod_lt m (show 0 < n by omega)
      have hmod := tmod_natC m n
      have hmod2 : ((m : Int) % (n : Int)) = ((m % n : Nat) : Int) := by simp
      obtain ⟨r, hr⟩ : ∃ r, m % n = r := ⟨_, rfl⟩
      rw [hr] at hmod hmod2 HG2 hml
      clear hr
      have hb1 : (0 : Int) < n := by omega
      go_wp2_with fail
      go_region
      go_wp2
      go_roundw
      case rel => exact ⟨n, r, rfl, rfl, hn, hid (by have := hn.out; omega), HG2, HB.out.drew⟩
      case measure => simp [intOf]; omega
end Go.Proofs.Ytpdoheagfjeefaa

/- The general laws' own helpers: oSame, oLinear. -/
namespace Go.Proofs.Ytpdoheagfjeefaa
open Go.RowKit Go.WideShapes Go.ChangeShapes
set_option linter.unusedVariables false

theorem oSame_any (v u : Value) (xs : List Int) (w : World) (hv : Ints w v xs) (hu : Ints w u xs) (hl : xs.length ≤ 1048576) :
    Calls Try.prog 16 #[v, u] w fun r w' => r = .returned (.bool true) ∧ Below w.heap.size w w' := by
  obtain ⟨A, c, rfl, hA⟩ := hv
  obtain ⟨B, d, rfl, hB⟩ := hu
  have HA := hid hA
  have HB := hid hB
  clear hA hB
  go_enter Try.func16, Try.ntmps16
  go_wp2
  go_loopw [13] (fun i wr => ∃ k : Nat, k ≤ xs.length ∧ i = .int .i64 k ∧ Below w.heap.size w wr) (fun i _ => xs.length - (intOf i).toNat)
  case atStart => exact ⟨0, Nat.zero_le _, rfl, Below.refl _ _⟩
  case round =>
    obtain ⟨k, hk, rfl, hb⟩ := hrel
    by_cases hlt : k < xs.length
    · obtain ⟨b, o, rfl, hbl, hc⟩ := HA.out (by intro h; simp [h] at hlt)
      obtain ⟨b2, o2, rfl, hbl2, hc2⟩ := HB.out (by intro h; simp [h] at hlt)
      have hcell : wr.cell? ⟨b, o + k, none⟩ = some (.int .i64 (xs.getD k 0)) := by
        rw [hb.cell (p := ⟨b, o + k, none⟩) hbl]; exact hc k hlt
      have hcell2 : wr.cell? ⟨b2, o2 + k, none⟩ = some (.int .i64 (xs.getD k 0)) := by
        rw [hb.cell (p := ⟨b2, o2 + k, none⟩) hbl2]; exact hc2 k hlt
      obtain ⟨x, hx⟩ : ∃ x, xs.getD k 0 = x := ⟨_, rfl⟩
      rw [hx] at hcell hcell2
      have Hb := hid hb
      have hlt' : (k : Int) < xs.length := by omega
      clear hc hb hc2 hx
      go_wp2
      go_quiet (fail)
      go_wp2
      go_roundw
      case rel => exact ⟨k + 1, by omega, by go_num, below_drewN Hb.out _⟩
      case measure => simp [intOf]; omega
    · obtain rfl : k = xs.length := by omega
      have Hb := hid hb
      clear hb
      go_wp2
      go_ret
      exact ⟨rfl, Hb.out⟩
theorem oLinear_any (v : Value) (xs : List Int) (u : Value) (ys : List Int) (w : World) (hv : Ints w v xs) (hl : xs.length ≤ 1048576) (hu : Ints w u ys) (hm : ys.length ≤ 1048576) :
    Calls Try.prog 17 #[.agg #[v], u] w fun r w' => r = .returned (.bool (okLin xs ys)) ∧ Below w.heap.size w w' := by
  obtain ⟨A, c, rfl, -⟩ := id hv
  obtain ⟨B, d, rfl, -⟩ := id hu
  have HV := hid hv
  have HU := hid hu
  clear hv hu
  go_enter Try.func17, Try.ntmps17
  go_wp2_with fail
  have HB0 := hid (below_alloc (Below.refl _ w) (.cells #[.slice A xs.length c] 26))
  refine (implIsLinear_any _ xs _ ys _ (HV.out.alloc _) hl (HU.out.alloc _) hm).mono ?_
  rintro e w1 ⟨rfl, hb1⟩
  have HB1 := hid (below_to HB0.out hb1)
  clear hb1 HB0
  cases hg : good xs
  · have HO : Hid (okLin xs ys = false) := hid (okOrder_no hg)
    rw [show okOrder xs ys = false from HO.out]
    clear hg
    go_wp2
    go_ret
    exact ⟨ret_bool HO.out.symm, HB1.out⟩
  · clear hg
    cases ho : okOrder xs ys
    · have HO : Hid (okLin xs ys = false) := hid ho
      clear ho
      go_wp2
      go_ret
      exact ⟨ret_bool HO.out.symm, HB1.out⟩
    · have HO : Hid (okLin xs ys = true) := hid ho
      clear ho
      go_wp2
      go_ret
      exact ⟨ret_bool HO.out.symm, HB1.out⟩
end Go.Proofs.Ytpdoheagfjeefaa
