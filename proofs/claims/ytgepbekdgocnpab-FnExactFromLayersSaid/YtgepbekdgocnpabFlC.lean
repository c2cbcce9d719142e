/- Sets counted: how many of them do not have an element, for any numbers. -/
import Derived.Test.YtgepbekdgocnpabArF
import Derived.Test.YtgepbekdgocnpabFun
namespace Go.Proofs.Ytgepbekdgocnpab
open Go.RowKit Go.WideShapes Go.ChangeShapes
set_option linter.unusedVariables false

theorem bits_one (z : Int) : bits .and .i64 z 1 = z % 2 := by
  show IntKind.i64.wrap ((BitVec.ofInt 64 z &&& BitVec.ofInt 64 1).toNat : Int) = _
  rw [BitVec.toNat_and, BitVec.toNat_ofInt, BitVec.toNat_ofInt]
  have h1 : ((1 : Int) % ((2 ^ 64 : Nat) : Int)).toNat = 1 := by decide
  rw [h1, Nat.and_one_is_mod, IntKind.wrap_i64]
  omega
/-- the bit as a number -/
def bitZ (e : Nat) (s : Int) : Nat := (s / 2 ^ e % 2).toNat
theorem bitZ_val (e : Nat) (s : Int) : ((bitZ e s : Nat) : Int) = s / 2 ^ e % 2 := by unfold bitZ; omega
theorem bitZ_le (e : Nat) (s : Int) : bitZ e s ≤ 1 := by unfold bitZ; omega
theorem bitZ_bit (e : Nat) (s : Int) : bitZ e s = if bitI s e then 1 else 0 := by
  unfold bitZ bitI
  by_cases h : s / 2 ^ e % 2 = 1
  · simp [h]
  · simp [h]; omega
def sumZ (e : Nat) (L : List Int) : Nat → Nat
  | 0 => 0
  | k + 1 => sumZ e L k + bitZ e (L.getD k 0)
theorem sumZ_cnt (e : Nat) (L : List Int) (k : Nat) : sumZ e L k + cntF (fun j => bitI (L.getD j 0) e) k = k := by
  induction k with
  | zero => rfl
  | succ k ih =>
    rw [sumZ, cntF, bitZ_bit]
    cases bitI (L.getD k 0) e <;> simp only [if_true, Bool.false_eq_true, if_false] <;> omega
theorem countWithZ1_any (e a : Nat) (s : Int) (w : World) (ha : At w a (.int .i64 e)) (he : e < 10) :
    Calls Try.prog 80 #[.int .i64 s, .pointer (some ⟨a, 0, none⟩)] w fun r w' => r = .returned (.int .i64 (bitZ e s : Nat)) ∧ Below w.heap.size w w' := by
  have hb := ha.1
  have hm := hid (Nat.min_eq_left (Nat.le_of_lt (show e < 64 by omega)))
  have HX := hid (bits_one (s / 2 ^ e))
  have HV := hid (bitZ_val e s)
  clear ha
  go_enter Try.func80, Try.ntmps80
  go_wp2
  go_ret
  refine ⟨ret_int ?_, Below.refl _ _⟩
  rw [HV.out, ← HX.out]
  try first | (rw [hm.out]) | (simp only [hm.out])
set_option maxHeartbeats 400000 in
theorem sumOverZ_any (u : Value) (L : List Int) (e a : Nat) (w : World) (hu : Ints w u L) (hl : L.length ≤ 1024) (ha : At w a (.int .i64 e)) (he : e < 10) :
    Calls Try.prog 79 #[u, .func (.func 80) #[] #[.pointer (some ⟨a, 0, none⟩)]] w fun r w' => r = .returned (.int .i64 (sumZ e L L.length : Nat)) ∧ Below w.heap.size w w' := by
  have HA := hid ha
  obtain ⟨A, c, rfl, hA⟩ := hu
  have HC := hid hA
  obtain ⟨n, hn⟩ : ∃ n, L.length = n := ⟨_, rfl⟩
  have HN := hid hn
  rw [hn] at HC hl ⊢
  clear hA ha hn
  go_enter Try.func79, Try.ntmps79
  go_wp2
  go_loopw [5, 10] (fun q i wr => ∃ k t : Nat, k ≤ n ∧ i = .int .i64 k ∧ q = .int .i64 t ∧ Hid (sumZ e L k = t) ∧ t ≤ k ∧ Below w.heap.size w wr) (fun _ i _ => n - (intOf i).toNat)
  case atStart => exact ⟨0, 0, Nat.zero_le _, rfl, rfl, hid rfl, Nat.zero_le _, Below.refl _ _⟩
  case round =>
    obtain ⟨k, t, hk, rfl, rfl, HT, ht, hb⟩ := hrel
    have HB := hid hb
    by_cases hlt : k < n
    · obtain ⟨b, o, rfl, hbl, hc⟩ := HC.out (by intro h; have := HN.out; simp [h] at this; omega)
      have hcell : wr.cell? ⟨b, o + k, none⟩ = some (.int .i64 (L.getD k 0)) := (hb.cell (p := ⟨b, o + k, none⟩) hbl).trans (hc k hlt)
      have HSt := hid (show sumZ e L (k + 1) = sumZ e L k + bitZ e (L.getD k 0) from rfl)
      have hg1 := bitZ_le e (L.getD k 0)
      obtain ⟨s, hs⟩ : ∃ s, L.getD k 0 = s := ⟨_, rfl⟩
      rw [hs] at hcell HSt hg1
      have HCl := hid (countWithZ1_any e a s wr (HA.out.below hb) he)
      obtain ⟨y, hy⟩ : ∃ y, bitZ e s = y := ⟨_, rfl⟩
      rw [hy] at HCl HSt hg1
      clear hc hs hb hy
      go_wp2_with fail
      refine HCl.out.mono ?_
      rintro e' w2 ⟨rfl, hb2⟩
      have HB2 := hid (below_to HB.out hb2)
      clear hb2 hcell
      go_wp2
      go_roundw
      case rel => exact ⟨k + 1, t + y, by omega, by go_num, by go_num, hid (by rw [HSt.out, HT.out]), by omega, HB2.out⟩
      case measure => simp [intOf]; omega
    · obtain rfl : k = n := by omega
      clear hb
      go_wp2
      go_ret
      exact ⟨ret_int (by rw [HT.out]), HB.out⟩
theorem countWithout_any (u : Value) (L : List Int) (e : Nat) (w : World) (hu : Ints w u L) (hl : L.length ≤ 1024) (he : e < 10) :
    Calls Try.prog 52 #[u, .int .i64 e] w fun r w' => r = .returned (.int .i64 (cntF (fun j => bitI (L.getD j 0) e) L.length : Nat)) ∧ Below w.heap.size w w' := by
  have HU := hid hu
  have HCn := hid (sumZ_cnt e L L.length)
  have HCw : Hid (∀ W, Ints W u L → Calls Try.prog 68 #[u, .int .i64 e] W fun r w' => r = .returned (.int .i64 (sumZ e L L.length : Nat)) ∧ Below W.heap.size W w') := hid (fun W hW => by
    have HW := hid hW
    go_enter Try.func68, Try.ntmps68
    go_wp2_with fail
    refine (sumOverZ_any u L e W.heap.size _ (HW.out.alloc _) hl (At.new _ _ _) he).mono ?_
    rintro e' w1 ⟨rfl, hb⟩
    have HB := hid (below_to (below_alloc (Below.refl _ W) _) hb)
    clear hb
    go_wp2
    go_ret
    exact ⟨rfl, HB.out⟩)
  obtain ⟨A, c, rfl, -⟩ := hu
  obtain ⟨n, hn⟩ : ∃ n, L.length = n := ⟨_, rfl⟩
  obtain ⟨S, hS⟩ : ∃ S, sumZ e L L.length = S := ⟨_, rfl⟩
  obtain ⟨C, hC⟩ : ∃ C, cntF (fun j => bitI (L.getD j 0) e) L.length = C := ⟨_, rfl⟩
  rw [hS, hC, hn] at HCn
  rw [hS] at HCw
  rw [hC]
  rw [hn] at HU HCw hl ⊢
  have hcn := HCn.out
  have hw : IntKind.i64.wrap ((n : Int) - (S : Int)) = (C : Int) := by rw [IntWalk.i64_in _ (by omega)]; omega
  have Hw := hid hw
  clear hn hS hC hcn hw
  go_enter Try.func52, Try.ntmps52
  go_wp2_with fail
  refine (HCw.out _ HU.out).mono ?_
  rintro e' w1 ⟨rfl, hb⟩
  have HB := hid hb
  have hw := Hw.out
  clear hb
  go_wp2
  go_ret
  exact ⟨rfl, HB.out⟩
end Go.Proofs.Ytgepbekdgocnpab
