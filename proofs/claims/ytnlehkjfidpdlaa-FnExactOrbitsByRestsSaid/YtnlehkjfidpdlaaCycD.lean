/- ToggleCycles, OrderOfWord. -/
import Derived.Test.YtnlehkjfidpdlaaCycC
namespace Go.Proofs.Ytnlehkjfidpdlaa
open Go.RowKit Go.WideShapes Go.ChangeShapes
set_option linter.unusedVariables false

theorem ret_vb {u : Value} {a b : Bool} (h : a = b) : Ending.returned (.tuple #[u, .bool a]) = .returned (.tuple #[u, .bool b]) := by rw [h]
def okGW (xs ys : List Int) : Bool := good xs && okWord xs ys
def cycW (xs ys : List Int) : List Int := cyclesL (wordF xs ys) (2 ^ xs.length) (setsL (holdsIdeal xs) (2 ^ xs.length))
def tcL (xs ys : List Int) : List Int := if okGW xs ys then cycW xs ys else []
theorem okGW_no1 {xs ys : List Int} (h : good xs = false) : okGW xs ys = false := by simp [okGW, h]
theorem okGW_no2 {xs ys : List Int} (h : okWord xs ys = false) : okGW xs ys = false := by simp [okGW, h]
theorem okGW_yes {xs ys : List Int} (h : good xs = true) (k : okWord xs ys = true) : okGW xs ys = true := by simp [okGW, h, k]
theorem tcL_no {xs ys : List Int} (h : okGW xs ys = false) : tcL xs ys = [] := by simp [tcL, h]
theorem tcL_yes {xs ys : List Int} (h : okGW xs ys = true) : tcL xs ys = cycW xs ys := by simp [tcL, h]
theorem okGW_good {xs ys : List Int} (h : okGW xs ys = true) : good xs = true ∧ okWord xs ys = true := by simpa [okGW] using h
theorem cycW_length {xs ys : List Int} (h : good xs = true) : (cycW xs ys).length ≤ 1024 := by
  have h1 := (cycSt_length (wordF xs ys) (2 ^ xs.length) (setsL (holdsIdeal xs) (2 ^ xs.length)) (setsL (holdsIdeal xs) (2 ^ xs.length)).length).2
  have h2 := setsL_length (holdsIdeal xs) (2 ^ xs.length)
  have h3 := pow10 (good_length h).2
  unfold cycW cyclesL
  omega
theorem cycW_pos {xs ys : List Int} (h : good xs = true) : ∀ x ∈ cycW xs ys, 1 ≤ x ∧ x ≤ 1024 := by
  intro x hx
  have h3 := pow10 (good_length h).2
  unfold cycW at hx
  obtain ⟨N, hN⟩ : ∃ N, 2 ^ xs.length = N := ⟨_, rfl⟩
  rw [hN] at hx h3
  have h1 := cycSt_pos (wordF xs ys) N (setsL (holdsIdeal xs) N) _ x hx
  omega
theorem tcL_length (xs ys : List Int) : (tcL xs ys).length ≤ 1048576 := by
  unfold tcL
  split
  · rename_i h
    have := cycW_length (ys := ys) (okGW_good h).1
    omega
  · simp
/-! ### common multiples -/
theorem commonDivisor_any (a b : Nat) (w : World) (ha : a ≤ 1000000000000000) (hb : b ≤ 1000000000000000) :
    Calls Try.prog 41 #[.int .i64 a, .int .i64 b] w fun r w' => r = .returned (.int .i64 (Nat.gcd a b : Nat)) ∧ Below w.heap.size w w' := by
  obtain ⟨R, hR⟩ : ∃ R, Nat.gcd a b = R := ⟨_, rfl⟩
  have HR := hid hR
  have HA := hid ha
  have HB0 := hid hb
  rw [hR]
  clear hR ha hb
  go_enter Try.func41, Try.ntmps41
  go_wp2
  go_loopw [0, 1] (fun p q wr => ∃ m n : Nat, p = .int .i64 m ∧ q = .int .i64 n ∧ Hid (m ≤ 1000000000000000) ∧ Hid (n ≤ 1000000000000000) ∧ Hid (Nat.gcd m n = R) ∧ Below w.heap.size w wr) (fun _ q _ => (intOf q).toNat)
  case atStart => exact ⟨a, b, rfl, rfl, HA, HB0, HR, Below.refl _ _⟩
  case round =>
    obtain ⟨m, n, rfl, rfl, hm, hn, HG, hbl⟩ := hrel
    have HB := hid hbl
    clear hbl
    by_cases h0 : n = 0
    · subst h0
      have HG2 : Hid (m = R) := hid (by rw [← HG.out, Nat.gcd_zero_right])
      go_wp2
      go_ret
      exact ⟨ret_int (by rw [HG2.out]), HB.out⟩
    · have HG2 : Hid (Nat.gcd n (m % n) = R) := hid (by rw [← HG.out, Nat.gcd_comm m n, Nat.gcd_rec n m, Nat.gcd_comm])
      have hb0 : ((n : Int) != 0) = true := by rw [bne_iff_ne]; omega
      have hbne : ¬ (n : Int) = 0 := by omega
      have hml := Nat.mod_lt m (show 0 < n by omega)
      have hmod := tmod_nat m n
      have hmod2 : ((m : Int) % (n : Int)) = ((m % n : Nat) : Int) := by simp
      obtain ⟨r, hr⟩ : ∃ r, m % n = r := ⟨_, rfl⟩
      rw [hr] at hmod hmod2 HG2 hml
      clear hr
      have hb1 : (0 : Int) < n := by omega
      go_wp2_with fail
      go_region
      go_wp2
      go_roundw
      case rel => exact ⟨n, r, rfl, rfl, hn, hid (by have := hn.out; omega), HG2, HB.out.drew⟩
      case measure => simp [intOf]; omega
end Go.Proofs.Ytnlehkjfidpdlaa
