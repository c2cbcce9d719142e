/- The program's steps between ideals, and sums. -/
import Derived.Test.YtgepbekdgocnpabChL
import Derived.Test.YtgepbekdgocnpabFun
namespace Go.Proofs.Ytgepbekdgocnpab
open Go.RowKit Go.WideShapes Go.ChangeShapes
set_option linter.unusedVariables false

theorem isPartC_any (s t : Nat) (w : World) (hs : s < 1024) (ht : t < 1024) : Calls Try.prog 61 #[.int .i64 s, .int .i64 t] w fun r w' => r = .returned (.bool (wk s t)) ∧ Below w.heap.size w w' := by
  have hb := i64_andNot_nat s t (by omega) (by omega)
  go_enter Try.func61, Try.ntmps61
  go_wp2
  go_ret
  exact ⟨ret_bool (by rw [nat_beq0]; rfl), Below.refl _ _⟩
theorem isPartS_any (s t : Nat) (w : World) (hs : s < 1024) (ht : t < 1024) : Calls Try.prog 61 #[.int .i64 s, .int .i64 t] w fun r w' => r = .returned (.bool (wk s t)) ∧ w = w' := by
  have hb := i64_andNot_nat s t (by omega) (by omega)
  go_enter Try.func61, Try.ntmps61
  go_wp2
  go_ret
  exact ⟨ret_bool (by rw [nat_beq0]; rfl), rfl⟩
theorem sum_take_le (ns : List Nat) (k : Nat) : (ns.take k).sum ≤ ns.sum := by
  induction ns generalizing k with
  | nil => simp
  | cons a l ih =>
    cases k with
    | zero => simp
    | succ k => have := ih k; simp; omega
theorem sum_take_succ {ns : List Nat} {k : Nat} (hk : k < ns.length) : (ns.take (k + 1)).sum = (ns.take k).sum + ns.getD k 0 := by
  rw [List.take_add_one, List.sum_append]
  simp [List.getD, hk]
theorem total_any (v : Value) (ns : List Nat) (w : World) (hv : Ints w v (ns.map fun x : Nat => (x : Int))) (hl : ns.length ≤ 1024) (hs : ns.sum ≤ 1000000000000000) :
    Calls Try.prog 73 #[v] w fun r w' => r = .returned (.int .i64 (ns.sum : Nat)) ∧ w = w' := by
  obtain ⟨A, c, rfl, hA⟩ := hv
  rw [List.length_map]
  have HA := hid hA
  have HLe := hid (fun k => sum_take_le ns k)
  have HSu := hid (fun k (hk : k < ns.length) => sum_take_succ hk)
  clear hA
  go_enter Try.func73, Try.ntmps73
  go_wp2
  go_loop [3, 8] (fun q i => ∃ k t : Nat, k ≤ ns.length ∧ i = .int .i64 k ∧ q = .int .i64 t ∧ Hid ((ns.take k).sum = t)) (fun _ i => ns.length - (intOf i).toNat)
  case atStart => exact ⟨0, 0, Nat.zero_le _, rfl, rfl, hid rfl⟩
  case round =>
    obtain ⟨k, t, hk, rfl, rfl, HT⟩ := hrel
    by_cases hlt : k < ns.length
    · obtain ⟨b, o, rfl, hbl, hc⟩ := HA.out (by intro h; have := congrArg List.length h; rw [List.length_map, List.length_nil] at this; omega)
      have hcell := hc k (by rw [List.length_map]; exact hlt)
      have e : (ns.map fun x : Nat => (x : Int)).getD k 0 = ((ns.getD k 0 : Nat) : Int) := by simp [List.getD, hlt]
      rw [e] at hcell
      have h1 := HSu.out k hlt
      have h2 := HLe.out (k + 1)
      rw [HT.out] at h1
      obtain ⟨y, hy⟩ : ∃ y, ns.getD k 0 = y := ⟨_, rfl⟩
      rw [hy] at hcell h1
      have HT2 := hid h1
      have hty : t + y ≤ 1000000000000000 := by omega
      have hsum : IntKind.i64.wrap ((t : Int) + (y : Int)) = ((t + y : Nat) : Int) := by rw [IntWalk.i64_in _ (by omega)]; omega
      clear hc e hy h1 h2
      go_wp2
      clear hsum
      go_round
      case rel => exact ⟨k + 1, t + y, by omega, by go_num, by go_num, HT2⟩
      case measure => simp [intOf]; omega
    · have hkn : k = ns.length := by omega
      have HE : Hid (ns.sum = t) := hid (by rw [← HT.out, hkn, List.take_length])
      go_wp2
      go_ret
      exact ⟨ret_int (by rw [HE.out]), rfl⟩
end Go.Proofs.Ytgepbekdgocnpab
