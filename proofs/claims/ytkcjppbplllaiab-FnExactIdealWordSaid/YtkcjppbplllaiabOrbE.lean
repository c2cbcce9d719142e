/- ElementSum, MeanOfIdeals: contracts. -/
import Derived.Test.YtkcjppbplllaiabOrbT
import Derived.Test.YtkcjppbplllaiabCycD
import Derived.Test.YtkcjppbplllaiabIdeals
namespace Go.Proofs.Ytkcjppbplllaiab
open Go.RowKit Go.WideShapes Go.ChangeShapes
set_option linter.unusedVariables false

def okES (xs : List Int) (s e : Int) : Bool := okIdeal xs s && (decide (0 ≤ e) && decide (e < xs.length))
def ansES (xs : List Int) (s e : Int) : Int := if okES xs s e then (sumL (bitN e.toNat) (orbXs xs s.toNat) : Nat) else 0
theorem okES_no1 {xs : List Int} {s e : Int} (h : okIdeal xs s = false) : okES xs s e = false := by simp [okES, h]
theorem okES_no2 {xs : List Int} {s e : Int} (h : (decide (0 ≤ e) && decide (e < (xs.length : Int))) = false) : okES xs s e = false := by unfold okES; rw [h, Bool.and_false]
theorem okES_yes {xs : List Int} {s e : Int} (h : okIdeal xs s = true) (k : (decide (0 ≤ e) && decide (e < (xs.length : Int))) = true) : okES xs s e = true := by unfold okES; rw [h, k]; rfl
theorem ansES_no {xs : List Int} {s e : Int} (h : okES xs s e = false) : ansES xs s e = 0 := by simp [ansES, h]
theorem ansES_yes {xs : List Int} {z n : Nat} (h : okES xs z n = true) : ansES xs z n = ((sumTo (bitN n) (orbXs xs z) (orbXs xs z).length : Nat) : Int) := by unfold ansES; rw [if_pos h]; rfl
theorem bitN_bit (e s : Nat) : bitN e s = if s.testBit e then 1 else 0 := by
  unfold bitN
  rw [Nat.testBit_eq_decide_div_mod_eq]
  by_cases h : s / 2 ^ e % 2 = 1
  · simp [h]
  · simp [h]; omega
theorem countWith_any (u : Value) (ls : List Int) (n : Nat) (w : World) (hu : Ints w u ls) (hl : ls.length ≤ 1024) (hn : n < 10) (hp : ∀ j, j < ls.length → ∃ s : Nat, ls.getD j 0 = (s : Int) ∧ s < 1024) :
    Calls Try.prog 50 #[u, .int .i64 n] w fun r w' => r = .returned (.int .i64 (sumTo (bitN n) ls ls.length : Nat)) ∧ Below w.heap.size w w' := by
  have HU := hid hu
  have HP := hid hp
  clear hu hp
  go_enter Try.func50, Try.ntmps50
  have HB := hid (below_alloc (Below.refl _ w) (.cells #[(.int .i64 n)] 3))
  have A0 := hid (At.newAt w (.int .i64 n) 3 w.heap.size (by simp))
  go_wp2_with fail
  refine (sumOverWith_any u ls ⟨w.heap.size, 0, none⟩ (bitN n) (· < 1024) _ (HU.out.below HB.out) hl HP.out (bitN_le n) (fun s W hD hb => countWith1_any n s w.heap.size W (A0.out.below hb) hD hn)).mono ?_
  rintro e w' ⟨rfl, hb⟩
  replace HB := hid (below_to HB.out hb)
  replace A0 := hid (A0.out.below hb)
  clear hb
  have ebox0 := A0.out.1
  go_wp2
  go_ret
  exact ⟨rfl, HB.out⟩
end Go.Proofs.Ytkcjppbplllaiab
