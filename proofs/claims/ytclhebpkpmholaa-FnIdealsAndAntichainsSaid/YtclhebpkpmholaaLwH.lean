/- The general laws' own helpers: numberOf, nHas, nIdeal. -/
import Derived.Test.YtclhebpkpmholaaLwN
import Derived.Test.YtclhebpkpmholaaByt
import Derived.Test.YtclhebpkpmholaaApi
namespace Go.Proofs.Ytclhebpkpmholaa
open Go.RowKit Go.WideShapes Go.ChangeShapes
set_option linter.unusedVariables false

theorem numberOf_any (v : Value) (bs : List Int) (B : Nat) (w : World) (hb : BytesB w B v bs) (hl : bs.length ≤ 1048576) :
    Calls Try.prog 19 #[v] w fun (r : Ending) w' => ∃ n : Nat, n < 1000003 ∧ r = .returned (.int .i64 n) ∧ w = w' := by
  obtain ⟨A, c, rfl, hr, hc⟩ := hb
  have HR := hid hr
  have HC := hid hc
  clear hr hc
  go_enter Try.func19, Try.ntmps19
  go_wp2
  go_loop [3, 8] (fun q i => ∃ k n : Nat, k ≤ bs.length ∧ n < 1000003 ∧ i = .int .i64 k ∧ q = .int .i64 n) (fun _ i => bs.length - (intOf i).toNat)
  case atStart => exact ⟨0, 0, Nat.zero_le _, by decide, rfl, rfl⟩
  case round =>
    obtain ⟨k, n, hk, hn, rfl, rfl⟩ := hrel
    by_cases hlt : k < bs.length
    · obtain ⟨b, o, rfl, -, -, hce⟩ := HC.out (by intro h; simp [h] at hlt)
      have hcell := hce k hlt
      clear hce
      have hy := HR.out k
      obtain ⟨y, hy2⟩ : ∃ y, bs.getD k 0 = y := ⟨_, rfl⟩
      rw [hy2] at hcell hy
      obtain ⟨z, rfl⟩ := Int.eq_ofNat_of_zero_le hy.1
      obtain ⟨m, hm, hm2⟩ : ∃ m : Nat, (31 * (n : Int) + (z : Int)) % 1000003 = (m : Int) ∧ m < 1000003 := ⟨(31 * n + z) % 1000003, by omega, Nat.mod_lt _ (by decide)⟩
      clear hy2
      go_wp2
      go_round
      case rel => exact ⟨k + 1, m, by omega, hm2, by go_num, by rw [hm]⟩
      case measure => simp [intOf]; omega
    · go_wp2
      go_ret
      exact ⟨n, hn, rfl, rfl⟩
theorem nHas_any (v : Value) (xs : List Int) (x : Int) (w : World) (hv : Ints w v xs) (hl : xs.length ≤ 1048576) (hx : ∃ j, j < xs.length ∧ xs.getD j 0 = x) :
    Calls Try.prog 20 #[v, .int .i64 x] w fun r w' => r = .returned (.bool true) ∧ w = w' := by
  obtain ⟨A, c, rfl, hA⟩ := hv
  obtain ⟨j, hj, hx⟩ := hx
  obtain ⟨b, o, rfl, hbl, hc⟩ := hA (by intro h; simp [h] at hj)
  have HC := hid hc
  have HX := hid hx
  clear hc hA hx
  go_enter Try.func20, Try.ntmps20
  go_wp2
  go_loop [9] (fun i => ∃ k : Nat, k ≤ j ∧ i = .int .i64 k) (fun i => xs.length - (intOf i).toNat)
  case atStart => exact ⟨0, Nat.zero_le _, rfl⟩
  case round =>
    obtain ⟨k, hk, rfl⟩ := hrel
    have hlt : k < xs.length := by omega
    have hcell := HC.out k hlt
    obtain ⟨y, hy⟩ : ∃ y, xs.getD k 0 = y := ⟨_, rfl⟩
    rw [hy] at hcell
    by_cases he : y = x
    · subst he
      clear hy HX
      go_wp2
      go_ret
      exact ⟨rfl, rfl⟩
    · have hkj : k < j := by
        rcases Nat.lt_or_ge k j with h | h
        · exact h
        · obtain rfl : k = j := by omega
          exact absurd (hy.symm.trans HX.out) he
      clear hy
      go_wp2
      go_round
      case rel => exact ⟨k + 1, by omega, by go_num⟩
      case measure => simp [intOf]; omega
theorem nIdeal_any (v : Value) (xs : List Int) (s : Int) (w : World) (hv : Ints w v xs) (hl : xs.length ≤ 1048576) (wf : (Lit.int .i64 s).wf = true) :
    Calls Try.prog 29 #[.agg #[v], .int .i64 s] w fun r w' => r = .returned (.bool (ansB xs s holdsIdeal)) ∧ Below w.heap.size w w' := by
  obtain ⟨A, c, rfl, -⟩ := id hv
  have HV := hid hv
  clear hv
  go_enter Try.func29, Try.ntmps29
  go_wp2_with fail
  have HB0 := hid (below_alloc (Below.refl _ w) (.cells #[.slice A xs.length c] 26))
  refine (implIsIdeal_any _ xs s _ (HV.out.alloc _) hl wf).mono ?_
  rintro e w1 ⟨rfl, hb1⟩
  have HB1 := hid (below_to HB0.out hb1)
  clear hb1 HB0
  have hab : ansB xs s holdsIdeal = (okSet xs s && holdsIdeal xs s.toNat) := rfl
  cases ho : okSet xs s
  · rw [ho] at hab
    simp at hab
    have HAb := hid hab
    clear hab
    rw [HAb.out]
    go_wp2
    go_ret
    exact ⟨ret_bool HAb.out.symm, HB1.out⟩
  · clear hab
    cases ha : ansB xs s holdsIdeal
    · have HAb := hid ha
      clear ha
      go_wp2
      go_ret
      exact ⟨ret_bool HAb.out.symm, HB1.out⟩
    · have HAb := hid ha
      clear ha
      go_wp2
      go_ret
      exact ⟨ret_bool HAb.out.symm, HB1.out⟩
end Go.Proofs.Ytclhebpkpmholaa
