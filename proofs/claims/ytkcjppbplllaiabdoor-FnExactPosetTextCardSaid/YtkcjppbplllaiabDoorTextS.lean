/- The text of a poset: PosetText of the model. -/
import Derived.Test.YtkcjppbplllaiabDoorTextI
namespace Go.Proofs.YtkcjppbplllaiabDoor
open Go.RowKit Go.WideShapes Go.ChangeShapes
set_option linter.unusedVariables false

set_option maxRecDepth 100000 in
theorem specPosetText_any (v : Value) (xs : List Int) (w : World) (hv : Ints w v xs) (hl : xs.length ≤ 1048576) :
    Calls Tryd.prog 6 #[.agg #[v]] w fun r w' => r = .returned (.tuple #[.string (sB (ansPT xs)), .bool (good xs)]) ∧ Below w.heap.size w w' := by
  have HV := hid hv
  clear hv
  cases hg : good xs
  · have HG := hid hg
    have HN := hid (ansPT_no hg)
    clear hg
    go_enter Tryd.func6, Tryd.ntmps6
    go_wp2_with (go_at_call 15; refine (poGood_any _ xs _ (HV.out.alloc _) hl).mono ?_; rw [HG.out]; rintro e w1 ⟨rfl, hb1⟩)
    go_ret2
    exact ⟨ret_sb (by rw [HN.out]; rfl) rfl, ((Below.refl _ _).alloc (Nat.le_refl _) _).trans (hb1.mono (by simp))⟩
  · have HG := hid hg
    have HN := hid (ansPT_yes hg)
    clear hg
    go_enter Tryd.func6, Tryd.ntmps6
    go_wp2_with fail
    refine (poGood_any _ xs _ (HV.out.alloc _) hl).mono ?_
    rw [HG.out]
    rintro e w1 ⟨rfl, hb1⟩
    have hbox := ((At.new w v 28).below hb1).1
    have HB1 := hid (below_to (below_alloc (Below.refl _ w) _) hb1)
    have HV1 := hid ((HV.out.alloc _).below hb1)
    clear hb1
    go_wp2_with (go_at_call 16; refine (poText_any _ xs _ HV1.out HG.out).mono ?_; rintro e w2 ⟨rfl, hb2⟩)
    go_ret2
    exact ⟨ret_sb (by rw [HN.out]) rfl, below_to HB1.out hb2⟩
end Go.Proofs.YtkcjppbplllaiabDoor
