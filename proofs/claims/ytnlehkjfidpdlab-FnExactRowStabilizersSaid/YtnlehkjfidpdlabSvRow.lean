/- The model's rowmotion of an ideal, by its complement as a number. -/
import Derived.Test.YtnlehkjfidpdlabRev
namespace Go.Proofs.Ytnlehkjfidpdlab
open Go.RowKit Go.WideShapes Go.ChangeShapes
set_option linter.unusedVariables false

theorem compl_chk : ((List.range 11).all fun n => (List.range (2 ^ n)).all fun s => compl n s == 2 ^ n - 1 - s) = true := by decide +kernel
theorem compl_sub {n s : Nat} (hn : n ≤ 10) (hs : s < 2 ^ n) : compl n s = 2 ^ n - 1 - s := by
  have h1 := List.all_eq_true.1 compl_chk n (List.mem_range.2 (by omega))
  exact eq_of_beq (List.all_eq_true.1 h1 s (List.mem_range.2 hs))
set_option maxHeartbeats 1600000 in
theorem svRow_any (v : Value) (xs : List Int) (s : Nat) (w : World) (hv : Ints w v xs) (hg : good xs = true) (hs : s < 2 ^ xs.length) :
    Calls Try.prog 29 #[.agg #[v], .int .i64 s] w fun r w' => r = .returned (.int .i64 (rowmo xs s : Nat)) ∧ Below w.heap.size w w' := by
  have hl10 := (good_length hg).2
  have HV := hid hv
  have HR := hid (rowmo_spec hg s)
  have HS := hid (good_small hg)
  have hc10 := lt1024 (compl_lt xs.length s) hl10
  have hcs := compl_sub hl10 hs
  obtain ⟨A, c, rfl, -⟩ := hv
  obtain ⟨N, hN⟩ : ∃ N, 2 ^ xs.length = N := ⟨_, rfl⟩
  have wp : wrap64 ((2 : Int) ^ xs.length) = (N : Int) := by rw [wrap_pow xs.length hl10, hN]
  have hN1 := two_pow_le xs.length hl10
  have wp2 : IntKind.i64.wrap ((2 : Int) ^ xs.length) = (N : Int) := by
    have e2 : ((2 : Int) ^ xs.length) = (N : Int) := by rw [← hN]; simp
    rw [e2]; exact IntWalk.i64_in _ (by omega)
  rw [hN] at hN1 hcs hs
  obtain ⟨z, hz⟩ : ∃ z, compl xs.length s = z := ⟨_, rfl⟩
  rw [hz] at hcs hc10
  have HZ := hid hz
  have hbl : bottom xs z < 1024 := bottomN_lt xs z xs.length hl10
  have wN : IntKind.i64.wrap (N : Int) = (N : Int) := IntWalk.i64_in _ (by omega)
  have w1 : IntKind.i64.wrap ((N : Int) - 1) = (N : Int) - 1 := IntWalk.i64_in _ (by omega)
  have w2 : IntKind.i64.wrap ((N : Int) - 1 - (s : Int)) = (z : Int) := by rw [IntWalk.i64_in _ (by omega)]; omega
  have w3 : IntKind.i64.wrap (z : Int) = (z : Int) := IntWalk.i64_in _ (by omega)
  clear hg hs hN hz hcs
  go_enter Try.func29, Try.ntmps29
  have HB := hid (below_alloc (Below.refl _ w) (.cells #[(.slice A xs.length c)] 35))
  have A0 := hid (At.newAt w (.slice A xs.length c) 35 w.heap.size (by simp))
  have hbx0 := A0.out.1
  have hbx1 := hbx0
  go_wp2_with fail
  go_region_with (first | (go_at_call 61; refine (poBottom_any _ xs z _ (HV.out.below HB.out).drew hl10 hc10 (HS.out z)).mono ?_; rintro e w1 ⟨rfl, hb1⟩; have H1 := hid (below_to HB.out.drew hb1); have hbx := (A0.out.drew.below hb1).1; clear hb1) | (go_at_call 60; refine (poDown_any _ xs (bottom xs z) _ (HV.out.below H1.out) hl10 hbl (HS.out _)).mono ?_; rintro e w2 ⟨rfl, hb2⟩; have H2 := hid (below_to H1.out hb2); clear hb2))
  all_goals go_wp2
  all_goals go_ret
  all_goals exact ⟨ret_int (by rw [← HR.out, HZ.out]), H2.out⟩
end Go.Proofs.Ytnlehkjfidpdlab
