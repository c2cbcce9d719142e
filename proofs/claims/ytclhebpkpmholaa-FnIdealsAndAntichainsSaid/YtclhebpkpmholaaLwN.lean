/- The general laws' own helpers. -/
import Derived.Test.YtclhebpkpmholaaLaw
import Derived.Test.YtclhebpkpmholaaNest
namespace Go.Proofs.Ytclhebpkpmholaa
open Go.RowKit Go.WideShapes Go.ChangeShapes
set_option linter.unusedVariables false

theorem nSame_any (v u : Value) (xs : List Int) (w : World) (hv : Ints w v xs) (hu : Ints w u xs) (hl : xs.length ≤ 1048576) :
    Calls Try.prog 14 #[v, u] w fun r w' => r = .returned (.bool true) ∧ Below w.heap.size w w' := by
  obtain ⟨A, c, rfl, hA⟩ := hv
  obtain ⟨B, d, rfl, hB⟩ := hu
  have HA := hid hA
  have HB := hid hB
  clear hA hB
  go_enter Try.func14, Try.ntmps14
  go_wp2
  go_loopw [13] (fun i wr => ∃ k : Nat, k ≤ xs.length ∧ i = .int .i64 k ∧ Below w.heap.size w wr) (fun i _ => xs.length - (intOf i).toNat)
  case atStart => exact ⟨0, Nat.zero_le _, rfl, Below.refl _ _⟩
  case round =>
    obtain ⟨k, hk, rfl, hb⟩ := hrel
    by_cases hlt : k < xs.length
    · obtain ⟨b, o, rfl, hbl, hc⟩ := HA.out (by intro h; simp [h] at hlt)
      obtain ⟨b2, o2, rfl, hbl2, hc2⟩ := HB.out (by intro h; simp [h] at hlt)
      have hcell : wr.cell? ⟨b, o + k, none⟩ = some (.int .i64 (xs.getD k 0)) := by
        rw [hb.cell (p := ⟨b, o + k, none⟩) hbl]; exact hc k hlt
      have hcell2 : wr.cell? ⟨b2, o2 + k, none⟩ = some (.int .i64 (xs.getD k 0)) := by
        rw [hb.cell (p := ⟨b2, o2 + k, none⟩) hbl2]; exact hc2 k hlt
      obtain ⟨x, hx⟩ : ∃ x, xs.getD k 0 = x := ⟨_, rfl⟩
      rw [hx] at hcell hcell2
      have Hb := hid hb
      have hlt' : (k : Int) < xs.length := by omega
      clear hc hb hc2 hx
      go_wp2
      go_quiet (fail)
      go_wp2
      go_roundw
      case rel => exact ⟨k + 1, by omega, by go_num, below_drewN Hb.out _⟩
      case measure => simp [intOf]; omega
    · obtain rfl : k = xs.length := by omega
      have Hb := hid hb
      clear hb
      go_wp2
      go_ret
      exact ⟨rfl, Hb.out⟩
theorem nPoset_any (v u : Value) (xs : List Int) (w : World) (hv : Ints w v xs) (hu : Ints w u xs) (hl : xs.length ≤ 1048576) :
    Calls Try.prog 74 #[.agg #[v], .agg #[u]] w fun r w' => r = .returned (.bool true) ∧ Below w.heap.size w w' := by
  have HV := hid hv
  have HU := hid hu
  clear hv hu
  go_enter Try.func74, Try.ntmps74
  go_wp2_with (go_at_call 14; refine (nSame_any v u xs _ ((HV.out.alloc _).alloc _) ((HU.out.alloc _).alloc _) hl).mono ?_; rintro e w1 ⟨rfl, hb1⟩)
  go_ret
  exact ⟨rfl, (((Below.refl _ _).alloc (Nat.le_refl _) _).alloc (by simp) _).trans (hb1.mono (by simp; omega))⟩
end Go.Proofs.Ytclhebpkpmholaa
