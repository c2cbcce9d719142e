/- DskT -/
import Derived.Test.YtbmhaamenjhjfaaGreatDoorPkD29
namespace Go.Proofs.YtbmhaamenjhjfaaGreatDoor
open Go.RowKit Go.WideShapes Go.ChangeShapes
set_option linter.unusedVariables false
def txD (t : List UInt8) : Nat → List UInt8
  | 0 => t
  | 1 => [110, 111]
  | _ => [119, 104, 97, 116]
theorem text_ok (t : List UInt8) (w : World) {a0 a1 : Addr} (hG : GlobD w a0 a1) :
    Calls Tryz.prog 36 #[.agg #[.string (sB t), .nilIface]] w fun r w' => r = .returned (.string (sB t)) ∧ Below w.heap.size w w' := by
  have HG := hid hG
  have HK := hid (Blk.new w 60 #[.string (sB t), .nilIface])
  have HB := hid (below_alloc (Below.refl _ w) (.cells #[.string (sB t), .nilIface] 60))
  clear hG
  go_enter Tryz.func36, Tryz.ntmps36
  go_upto_region 1 with (fail)
  generalize w.alloc (.cells #[.string (sB t), .nilIface] 60) = W0 at HK HB ⊢
  have c1 : W0.cell? ⟨w.heap.size, 1, none⟩ = some (.nilIface) := HK.out.cell 1
  have g1 := (HG.out.later HB.out).no
  go_wp2_with fail
  clear c1 g1
  refine (errIs_nil _ _).mono ?_
  rintro e W1 ⟨rfl, hb⟩
  obtain rfl := hb
  have c1 : W1.cell? ⟨w.heap.size, 1, none⟩ = some (.nilIface) := HK.out.cell 1
  have g0 := (HG.out.later HB.out).what
  go_wp2_with fail
  clear c1 g0
  refine (errIs_nil _ _).mono ?_
  rintro e W2 ⟨rfl, hb⟩
  obtain rfl := hb
  have c0 : W2.cell? ⟨w.heap.size, 0, none⟩ = some (.string (sB t)) := HK.out.cell 0
  go_wp2
  go_ret
  exact ⟨rfl, HB.out⟩
end Go.Proofs.YtbmhaamenjhjfaaGreatDoor
