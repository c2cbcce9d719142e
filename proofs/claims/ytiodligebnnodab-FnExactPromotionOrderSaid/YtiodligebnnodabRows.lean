/-
  No cell of these rows narrows 'for every input' (looked for: loops, veiled, ifaces, maps, wideKeys, modest, calm, conditions, laid).
  DERIVED. THE GIVEN ROWS OF THIS SEAT. 4 by the template 'for every input the law returns true; each argument reads behind the call as it read before'; 0 by the template 'total and deterministic' (their statements: YtiodligebnnodabTotals.lean).
  GIVEN WITH THE SEED: the statements are not yours to turn. If you find one false, say at which input.
  Laid BY PROGRAM, IN A SANDBOX (cutbox-rows.mjs): the forced cells as the released guide's own fill.sh prints them over the translation 4f5d02de7dcd0199… (all of the seat's roots in one cut). By AI agents, Wed Nov 11 2026. No macro, syntax, notation, axiom, sorry.
-/
import Derived.Test.YtiodligebnnodabChecked
import GoSem.Claim
import GoSem.ClaimJoined
import GoSem.ClaimMapViews
import Derived.JoinedTies
import Derived.KernelRfl
namespace Go.Proofs.Ytiodligebnnodab
/- THE CELL 'sum', in the pinned program and in every row, IS THE sha256 OF THE DUMP (.gsa) THAT YtiodligebnnodabProg.lean LOADS. Nothing in Lean hashes anything: it is a label: what it is worth is what the hold of that sum in a sandbox is worth. -/
noncomputable def Try.pinned : Pinned := { name := "ytiodligebnnodab", sum := "4f5d02de7dcd019949994c14d92d1584b660932936baa1bbf70ec4b57b67ce52", checked := Try.checked }
namespace Rows
def none {H : Type} : Left H := { results := [], args := [] }

/-- 'laws.FnExactPromotionOrder': WHATEVER THE INPUT: true; the input reads as it did. -/
def fnExactPromotionOrderSpec : ChangeSpec := { name := "fnExactPromotionOrder", fn := fun _ => fun
  | [d] => { results := [.lit (.bool true)], args := [d] }
  | _ => none }
def fnExactPromotionOrderRow : OpenClaim := { program := "ytiodligebnnodab", sum := "4f5d02de7dcd019949994c14d92d1584b660932936baa1bbf70ec4b57b67ce52", func := "loop.example/g01138/laws.FnExactPromotionOrder", spec := "fnExactPromotionOrder", unfollowed := true, recurses := true, apart := false }
def FnExactPromotionOrderSaid : Prop := fnExactPromotionOrderRow.holds Try.pinned (OpenSpec.ofChange fnExactPromotionOrderSpec)

/-- ITS FALSE NEIGHBOUR: 'it returns false'. Refute it at one input. -/
def fnExactPromotionOrderWrong : ChangeSpec := { name := "fnExactPromotionOrder", fn := fun _ => fun
  | [d] => { results := [.lit (.bool false)], args := [d] }
  | _ => none }
def FnExactPromotionOrderWrongFalsely : Prop := fnExactPromotionOrderRow.holds Try.pinned (OpenSpec.ofChange fnExactPromotionOrderWrong)

/-- 'laws.FnExactDualLinear': WHATEVER THE INPUT: true; the input reads as it did. -/
def fnExactDualLinearSpec : ChangeSpec := { name := "fnExactDualLinear", fn := fun _ => fun
  | [d1, d2] => { results := [.lit (.bool true)], args := [d1, d2] }
  | _ => none }
def fnExactDualLinearRow : OpenClaim := { program := "ytiodligebnnodab", sum := "4f5d02de7dcd019949994c14d92d1584b660932936baa1bbf70ec4b57b67ce52", func := "loop.example/g01138/laws.FnExactDualLinear", spec := "fnExactDualLinear", apart := false }
def FnExactDualLinearSaid : Prop := fnExactDualLinearRow.holds Try.pinned (OpenSpec.ofChange fnExactDualLinearSpec)

/-- ITS FALSE NEIGHBOUR: 'it returns false'. Refute it at one input. -/
def fnExactDualLinearWrong : ChangeSpec := { name := "fnExactDualLinear", fn := fun _ => fun
  | [d1, d2] => { results := [.lit (.bool false)], args := [d1, d2] }
  | _ => none }
def FnExactDualLinearWrongFalsely : Prop := fnExactDualLinearRow.holds Try.pinned (OpenSpec.ofChange fnExactDualLinearWrong)

/-- 'laws.FnExactCountReturned': WHATEVER THE INPUT: true; the input reads as it did. -/
def fnExactCountReturnedSpec : ChangeSpec := { name := "fnExactCountReturned", fn := fun _ => fun
  | [d1, d2] => { results := [.lit (.bool true)], args := [d1, d2] }
  | _ => none }
def fnExactCountReturnedRow : OpenClaim := { program := "ytiodligebnnodab", sum := "4f5d02de7dcd019949994c14d92d1584b660932936baa1bbf70ec4b57b67ce52", func := "loop.example/g01138/laws.FnExactCountReturned", spec := "fnExactCountReturned", unfollowed := true, recurses := true, apart := false }
def FnExactCountReturnedSaid : Prop := fnExactCountReturnedRow.holds Try.pinned (OpenSpec.ofChange fnExactCountReturnedSpec)

/-- ITS FALSE NEIGHBOUR: 'it returns false'. Refute it at one input. -/
def fnExactCountReturnedWrong : ChangeSpec := { name := "fnExactCountReturned", fn := fun _ => fun
  | [d1, d2] => { results := [.lit (.bool false)], args := [d1, d2] }
  | _ => none }
def FnExactCountReturnedWrongFalsely : Prop := fnExactCountReturnedRow.holds Try.pinned (OpenSpec.ofChange fnExactCountReturnedWrong)

/-- 'laws.FnExactSelfEvacuated': WHATEVER THE INPUT: true; the input reads as it did. -/
def fnExactSelfEvacuatedSpec : ChangeSpec := { name := "fnExactSelfEvacuated", fn := fun _ => fun
  | [d] => { results := [.lit (.bool true)], args := [d] }
  | _ => none }
def fnExactSelfEvacuatedRow : OpenClaim := { program := "ytiodligebnnodab", sum := "4f5d02de7dcd019949994c14d92d1584b660932936baa1bbf70ec4b57b67ce52", func := "loop.example/g01138/laws.FnExactSelfEvacuated", spec := "fnExactSelfEvacuated", unfollowed := true, recurses := true, apart := false }
def FnExactSelfEvacuatedSaid : Prop := fnExactSelfEvacuatedRow.holds Try.pinned (OpenSpec.ofChange fnExactSelfEvacuatedSpec)

/-- ITS FALSE NEIGHBOUR: 'it returns false'. Refute it at one input. -/
def fnExactSelfEvacuatedWrong : ChangeSpec := { name := "fnExactSelfEvacuated", fn := fun _ => fun
  | [d] => { results := [.lit (.bool false)], args := [d] }
  | _ => none }
def FnExactSelfEvacuatedWrongFalsely : Prop := fnExactSelfEvacuatedRow.holds Try.pinned (OpenSpec.ofChange fnExactSelfEvacuatedWrong)

/- THE SECOND FORM. 'bulk': how many values and letters a reading holds, each counted each time it is reached (what is shared counts as often as it is met; a slice's spare places count too). A statement '..UptoSaid' is the law's where the arguments, and the package variables that the reading takes, are together of bulk at most 1048576: NARROWER than '..Said'. Prove '..Said' where nothing that the law and all that it calls make is longer than what came in: it says more and counts as full. Else prove '..UptoSaid'. A law counts once. -/
mutual
def uptoBulk {H : Type} : DataW H → Nat
  | .lit (.string bytes) => bytes.length + 1
  | .lit _ => 1
  | .nil => 1
  | .ptr d => uptoBulk d + 1
  | .slice elems spare => uptoBulkAll elems + uptoBulkAll spare + 1
  | .agg parts => uptoBulkAll parts + 1
  | .iface _ d => uptoBulk d + 1
  | .map entries => uptoBulkEntries entries + 1
  | .held _ => 1
def uptoBulkAll {H : Type} : List (DataW H) → Nat
  | [] => 0
  | d :: r => uptoBulk d + uptoBulkAll r
def uptoBulkEntries {H : Type} : List (Lit × DataW H) → Nat
  | [] => 0
  | x :: r => uptoBulkEntry x + uptoBulkEntries r
def uptoBulkEntry {H : Type} : Lit × DataW H → Nat
  | (.string bytes, d) => bytes.length + uptoBulk d + 1
  | (_, d) => uptoBulk d + 1
 end
def uptoSmall : (H : Type) → List (DataW H) → Bool := fun _ ds => decide (uptoBulkAll ds ≤ 1048576)
def OpenSpec.upto (s : _root_.Go.ChangeSpec) : _root_.Go.OpenSpec := { _root_.Go.OpenSpec.ofChange s with cond := some uptoSmall }

/-- 'laws.FnExactPromotionOrder', WHERE WHAT IT READS IS OF BULK AT MOST 1048576: true; the input reads as it did. -/
def fnExactPromotionOrderUptoRow : OpenClaim := { program := "ytiodligebnnodab", sum := "4f5d02de7dcd019949994c14d92d1584b660932936baa1bbf70ec4b57b67ce52", func := "loop.example/g01138/laws.FnExactPromotionOrder", spec := "fnExactPromotionOrder", unfollowed := true, recurses := true, apart := false, narrowed := true }
def FnExactPromotionOrderUptoSaid : Prop := fnExactPromotionOrderUptoRow.holds Try.pinned (OpenSpec.upto fnExactPromotionOrderSpec)

/-- 'laws.FnExactDualLinear', WHERE WHAT IT READS IS OF BULK AT MOST 1048576: true; the input reads as it did. -/
def fnExactDualLinearUptoRow : OpenClaim := { program := "ytiodligebnnodab", sum := "4f5d02de7dcd019949994c14d92d1584b660932936baa1bbf70ec4b57b67ce52", func := "loop.example/g01138/laws.FnExactDualLinear", spec := "fnExactDualLinear", apart := false, narrowed := true }
def FnExactDualLinearUptoSaid : Prop := fnExactDualLinearUptoRow.holds Try.pinned (OpenSpec.upto fnExactDualLinearSpec)

/-- 'laws.FnExactCountReturned', WHERE WHAT IT READS IS OF BULK AT MOST 1048576: true; the input reads as it did. -/
def fnExactCountReturnedUptoRow : OpenClaim := { program := "ytiodligebnnodab", sum := "4f5d02de7dcd019949994c14d92d1584b660932936baa1bbf70ec4b57b67ce52", func := "loop.example/g01138/laws.FnExactCountReturned", spec := "fnExactCountReturned", unfollowed := true, recurses := true, apart := false, narrowed := true }
def FnExactCountReturnedUptoSaid : Prop := fnExactCountReturnedUptoRow.holds Try.pinned (OpenSpec.upto fnExactCountReturnedSpec)

/-- 'laws.FnExactSelfEvacuated', WHERE WHAT IT READS IS OF BULK AT MOST 1048576: true; the input reads as it did. -/
def fnExactSelfEvacuatedUptoRow : OpenClaim := { program := "ytiodligebnnodab", sum := "4f5d02de7dcd019949994c14d92d1584b660932936baa1bbf70ec4b57b67ce52", func := "loop.example/g01138/laws.FnExactSelfEvacuated", spec := "fnExactSelfEvacuated", unfollowed := true, recurses := true, apart := false, narrowed := true }
def FnExactSelfEvacuatedUptoSaid : Prop := fnExactSelfEvacuatedUptoRow.holds Try.pinned (OpenSpec.upto fnExactSelfEvacuatedSpec)

end Rows
end Go.Proofs.Ytiodligebnnodab
