/- The program's steps between ideals, and sums. -/
import Derived.Test.YteaeeinfjhhhoabChL
import Derived.Test.YteaeeinfjhhhoabFun
namespace Go.Proofs.Yteaeeinfjhhhoab
open Go.RowKit Go.WideShapes Go.ChangeShapes
set_option linter.unusedVariables false

theorem isPartC_any (s t : Nat) (w : World) (hs : s < 1024) (ht : t < 1024) : Calls Try.prog 38 #[.int .i64 s, .int .i64 t] w fun r w' => r = .returned (.bool (wk s t)) ∧ Below w.heap.size w w' := by
  have hb := i64_andNot_nat s t (by omega) (by omega)
  go_enter Try.func38, Try.ntmps38
  go_wp2
  go_ret
  exact ⟨ret_bool (by rw [nat_beq0]; rfl), Below.refl _ _⟩
theorem isPartS_any (s t : Nat) (w : World) (hs : s < 1024) (ht : t < 1024) : Calls Try.prog 38 #[.int .i64 s, .int .i64 t] w fun r w' => r = .returned (.bool (wk s t)) ∧ w = w' := by
  have hb := i64_andNot_nat s t (by omega) (by omega)
  go_enter Try.func38, Try.ntmps38
  go_wp2
  go_ret
  exact ⟨ret_bool (by rw [nat_beq0]; rfl), rfl⟩
theorem isStrictStep_any (v : Value) (xs : List Int) (s t : Nat) (w : World) (hv : Ints w v xs) (hg : good xs = true) (hs : s < 1024) (ht : t < 1024) :
    Calls Try.prog 39 #[.agg #[v], .int .i64 s, .int .i64 t] w fun r w' => r = .returned (.bool (stk xs s t)) ∧ Below w.heap.size w w' := by
  have HV := hid hv
  have HG := hid hg
  have hl10 := (good_length hg).2
  have HSm := hid (good_small hg (sub t s))
  have hand := i64_andNot_nat t s (by omega) (by omega)
  have hle : sub t s < 1024 := Nat.lt_of_le_of_lt (sub_le t s) ht
  clear hv hg
  cases hp : wk s t
  · have HP := hid hp
    have HO : Hid (stk xs s t = false) := hid (by unfold stk; rw [show (sub s t == 0) = false from hp]; rfl)
    clear hp
    go_enter Try.func39, Try.ntmps39
    have HB := hid (below_alloc (Below.refl _ w) (.cells #[v] 28))
    have A0 := hid (At.newAt w v 28 w.heap.size (by simp))
    go_wp2_with (go_at_call 38; refine (isPartS_any s t _ hs ht).mono ?_; rw [HP.out]; rintro e w' ⟨rfl, rfl⟩)
    go_ret
    exact ⟨ret_bool HO.out.symm, HB.out⟩
  · have HP := hid hp
    have HO : Hid (stk xs s t = holdsAntichain xs (sub t s)) := hid (by unfold stk; rw [show (sub s t == 0) = true from hp]; rfl)
    clear hp
    go_enter Try.func39, Try.ntmps39
    have HB := hid (below_alloc (Below.refl _ w) (.cells #[v] 28))
    have A0 := hid (At.newAt w v 28 w.heap.size (by simp))
    have ebox0 := A0.out.1
    go_wp2_with (first | (go_at_call 38; refine (isPartS_any s t _ hs ht).mono ?_; rw [HP.out]; rintro e w' ⟨rfl, rfl⟩) | fail)
    clear ebox0
    refine (holdsAntichain_any v xs (sub t s) _ (HV.out.below HB.out) hl10 hle HSm.out).mono ?_
    rintro e w' ⟨rfl, hb⟩
    replace HB := hid (below_to HB.out hb)
    clear hb
    go_wp2
    go_ret
    exact ⟨ret_bool HO.out.symm, HB.out⟩
theorem stepClosure_any (v : Value) (xs : List Int) (a s t : Nat) (w : World) (h1 : At w a v) (hv : Ints w v xs) (hg : good xs = true) (hs : s < 1024) (ht : t < 1024) :
    Calls Try.prog 42 #[.int .i64 s, .int .i64 t, .pointer (some ⟨a, 0, none⟩)] w fun r w' => r = .returned (.bool (prop xs s t)) ∧ Below w.heap.size w w' := by
  have HC := hid (isStrictStep_any v xs s t w hv hg hs ht)
  have hbx := h1.1
  clear hv hg h1
  by_cases e : s = t
  · have HO : Hid (prop xs s t = false) := hid (by simp [prop, e])
    have hne : ((s : Int) != (t : Int)) = false := by rw [bne_eq_false_iff_eq, e]
    clear e
    go_enter Try.func42, Try.ntmps42
    go_wp2
    go_ret
    exact ⟨ret_bool HO.out.symm, Below.refl _ _⟩
  · have HO : Hid (prop xs s t = stk xs s t) := hid (by simp [prop, e])
    have hne : ((s : Int) != (t : Int)) = true := by rw [bne_iff_ne]; omega
    clear e
    go_enter Try.func42, Try.ntmps42
    go_wp2_with fail
    refine HC.out.mono ?_
    rintro e w' ⟨rfl, hb⟩
    have HB := hid hb
    clear hb hbx
    go_wp2
    go_ret
    exact ⟨ret_bool HO.out.symm, HB.out⟩
theorem sum_take_le (ns : List Nat) (k : Nat) : (ns.take k).sum ≤ ns.sum := by
  induction ns generalizing k with
  | nil => simp
  | cons a l ih =>
    cases k with
    | zero => simp
    | succ k => have := ih k; simp; omega
theorem sum_take_succ {ns : List Nat} {k : Nat} (hk : k < ns.length) : (ns.take (k + 1)).sum = (ns.take k).sum + ns.getD k 0 := by
  rw [List.take_add_one, List.sum_append]
  simp [List.getD, hk]
theorem total_any (v : Value) (ns : List Nat) (w : World) (hv : Ints w v (ns.map fun x : Nat => (x : Int))) (hl : ns.length ≤ 1024) (hs : ns.sum ≤ 1000000000000000) :
    Calls Try.prog 44 #[v] w fun r w' => r = .returned (.int .i64 (ns.sum : Nat)) ∧ w = w' := by
  obtain ⟨A, c, rfl, hA⟩ := hv
  rw [List.length_map]
  have HA := hid hA
  have HLe := hid (fun k => sum_take_le ns k)
  have HSu := hid (fun k (hk : k < ns.length) => sum_take_succ hk)
  clear hA
  go_enter Try.func44, Try.ntmps44
  go_wp2
  go_loop [3, 8] (fun q i => ∃ k t : Nat, k ≤ ns.length ∧ i = .int .i64 k ∧ q = .int .i64 t ∧ Hid ((ns.take k).sum = t)) (fun _ i => ns.length - (intOf i).toNat)
  case atStart => exact ⟨0, 0, Nat.zero_le _, rfl, rfl, hid rfl⟩
  case round =>
    obtain ⟨k, t, hk, rfl, rfl, HT⟩ := hrel
    by_cases hlt : k < ns.length
    · obtain ⟨b, o, rfl, hbl, hc⟩ := HA.out (by intro h; have := congrArg List.length h; rw [List.length_map, List.length_nil] at this; omega)
      have hcell := hc k (by rw [List.length_map]; exact hlt)
      have e : (ns.map fun x : Nat => (x : Int)).getD k 0 = ((ns.getD k 0 : Nat) : Int) := by simp [List.getD, hlt]
      rw [e] at hcell
      have h1 := HSu.out k hlt
      have h2 := HLe.out (k + 1)
      rw [HT.out] at h1
      obtain ⟨y, hy⟩ : ∃ y, ns.getD k 0 = y := ⟨_, rfl⟩
      rw [hy] at hcell h1
      have HT2 := hid h1
      have hty : t + y ≤ 1000000000000000 := by omega
      have hsum : IntKind.i64.wrap ((t : Int) + (y : Int)) = ((t + y : Nat) : Int) := by rw [IntWalk.i64_in _ (by omega)]; omega
      clear hc e hy h1 h2
      go_wp2
      clear hsum
      go_round
      case rel => exact ⟨k + 1, t + y, by omega, by go_num, by go_num, HT2⟩
      case measure => simp [intOf]; omega
    · have hkn : k = ns.length := by omega
      have HE : Hid (ns.sum = t) := hid (by rw [← HT.out, hkn, List.take_length])
      go_wp2
      go_ret
      exact ⟨ret_int (by rw [HE.out]), rfl⟩
end Go.Proofs.Yteaeeinfjhhhoab
