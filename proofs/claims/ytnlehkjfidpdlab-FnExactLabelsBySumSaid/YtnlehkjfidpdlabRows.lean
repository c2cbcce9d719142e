/-
  No cell of these rows narrows 'for every input' (looked for: loops, veiled, ifaces, maps, wideKeys, modest, calm, conditions, laid).
  DERIVED. THE GIVEN ROWS OF THIS SEAT. 5 by the template 'for every input the law returns true; each argument reads behind the call as it read before'; 0 by the template 'total and deterministic' (their statements: YtnlehkjfidpdlabTotals.lean).
  GIVEN WITH THE SEED: the statements are not yours to turn. If you find one false, say at which input.
  Laid BY PROGRAM, IN A SANDBOX (cutbox-rows.mjs): the forced cells as the released guide's own fill.sh prints them over the translation cc632dfeff89c49b… (all of the seat's roots in one cut). By AI agents, Wed Nov 11 2026. No macro, syntax, notation, axiom, sorry.
-/
import Derived.Test.YtnlehkjfidpdlabChecked
import GoSem.Claim
import GoSem.ClaimJoined
import GoSem.ClaimMapViews
import Derived.JoinedTies
import Derived.KernelRfl
namespace Go.Proofs.Ytnlehkjfidpdlab
/- THE CELL 'sum', in the pinned program and in every row, IS THE sha256 OF THE DUMP (.gsa) THAT YtnlehkjfidpdlabProg.lean LOADS. Nothing in Lean hashes anything: it is a label: what it is worth is what the hold of that sum in a sandbox is worth. -/
noncomputable def Try.pinned : Pinned := { name := "ytnlehkjfidpdlab", sum := "cc632dfeff89c49bea31c3804e5eee5df52a2038c8c4f3c077ac5abe90a48c8f", checked := Try.checked }
namespace Rows
def none {H : Type} : Left H := { results := [], args := [] }

/-- 'laws.FnExactRowFixed': WHATEVER THE INPUT: true; the input reads as it did. -/
def fnExactRowFixedSpec : ChangeSpec := { name := "fnExactRowFixed", fn := fun _ => fun
  | [d1, d2, d3] => { results := [.lit (.bool true)], args := [d1, d2, d3] }
  | _ => none }
def fnExactRowFixedRow : OpenClaim := { program := "ytnlehkjfidpdlab", sum := "cc632dfeff89c49bea31c3804e5eee5df52a2038c8c4f3c077ac5abe90a48c8f", func := "loop.example/g01138/laws.FnExactRowFixed", spec := "fnExactRowFixed", unfollowed := true, recurses := true, apart := false }
def FnExactRowFixedSaid : Prop := fnExactRowFixedRow.holds Try.pinned (OpenSpec.ofChange fnExactRowFixedSpec)

/-- ITS FALSE NEIGHBOUR: 'it returns false'. Refute it at one input. -/
def fnExactRowFixedWrong : ChangeSpec := { name := "fnExactRowFixed", fn := fun _ => fun
  | [d1, d2, d3] => { results := [.lit (.bool false)], args := [d1, d2, d3] }
  | _ => none }
def FnExactRowFixedWrongFalsely : Prop := fnExactRowFixedRow.holds Try.pinned (OpenSpec.ofChange fnExactRowFixedWrong)

/-- 'laws.FnExactPromotionFixed': WHATEVER THE INPUT: true; the input reads as it did. -/
def fnExactPromotionFixedSpec : ChangeSpec := { name := "fnExactPromotionFixed", fn := fun _ => fun
  | [d1, d2, d3] => { results := [.lit (.bool true)], args := [d1, d2, d3] }
  | _ => none }
def fnExactPromotionFixedRow : OpenClaim := { program := "ytnlehkjfidpdlab", sum := "cc632dfeff89c49bea31c3804e5eee5df52a2038c8c4f3c077ac5abe90a48c8f", func := "loop.example/g01138/laws.FnExactPromotionFixed", spec := "fnExactPromotionFixed", unfollowed := true, recurses := true, apart := false }
def FnExactPromotionFixedSaid : Prop := fnExactPromotionFixedRow.holds Try.pinned (OpenSpec.ofChange fnExactPromotionFixedSpec)

/-- ITS FALSE NEIGHBOUR: 'it returns false'. Refute it at one input. -/
def fnExactPromotionFixedWrong : ChangeSpec := { name := "fnExactPromotionFixed", fn := fun _ => fun
  | [d1, d2, d3] => { results := [.lit (.bool false)], args := [d1, d2, d3] }
  | _ => none }
def FnExactPromotionFixedWrongFalsely : Prop := fnExactPromotionFixedRow.holds Try.pinned (OpenSpec.ofChange fnExactPromotionFixedWrong)

/-- 'laws.FnExactRowStabilizers': WHATEVER THE INPUT: true; the input reads as it did. -/
def fnExactRowStabilizersSpec : ChangeSpec := { name := "fnExactRowStabilizers", fn := fun _ => fun
  | [d1, d2] => { results := [.lit (.bool true)], args := [d1, d2] }
  | _ => none }
def fnExactRowStabilizersRow : OpenClaim := { program := "ytnlehkjfidpdlab", sum := "cc632dfeff89c49bea31c3804e5eee5df52a2038c8c4f3c077ac5abe90a48c8f", func := "loop.example/g01138/laws.FnExactRowStabilizers", spec := "fnExactRowStabilizers", unfollowed := true, recurses := true, apart := false }
def FnExactRowStabilizersSaid : Prop := fnExactRowStabilizersRow.holds Try.pinned (OpenSpec.ofChange fnExactRowStabilizersSpec)

/-- ITS FALSE NEIGHBOUR: 'it returns false'. Refute it at one input. -/
def fnExactRowStabilizersWrong : ChangeSpec := { name := "fnExactRowStabilizers", fn := fun _ => fun
  | [d1, d2] => { results := [.lit (.bool false)], args := [d1, d2] }
  | _ => none }
def FnExactRowStabilizersWrongFalsely : Prop := fnExactRowStabilizersRow.holds Try.pinned (OpenSpec.ofChange fnExactRowStabilizersWrong)

/-- 'laws.FnExactPromotionStabilizers': WHATEVER THE INPUT: true; the input reads as it did. -/
def fnExactPromotionStabilizersSpec : ChangeSpec := { name := "fnExactPromotionStabilizers", fn := fun _ => fun
  | [d1, d2] => { results := [.lit (.bool true)], args := [d1, d2] }
  | _ => none }
def fnExactPromotionStabilizersRow : OpenClaim := { program := "ytnlehkjfidpdlab", sum := "cc632dfeff89c49bea31c3804e5eee5df52a2038c8c4f3c077ac5abe90a48c8f", func := "loop.example/g01138/laws.FnExactPromotionStabilizers", spec := "fnExactPromotionStabilizers", unfollowed := true, recurses := true, apart := false }
def FnExactPromotionStabilizersSaid : Prop := fnExactPromotionStabilizersRow.holds Try.pinned (OpenSpec.ofChange fnExactPromotionStabilizersSpec)

/-- ITS FALSE NEIGHBOUR: 'it returns false'. Refute it at one input. -/
def fnExactPromotionStabilizersWrong : ChangeSpec := { name := "fnExactPromotionStabilizers", fn := fun _ => fun
  | [d1, d2] => { results := [.lit (.bool false)], args := [d1, d2] }
  | _ => none }
def FnExactPromotionStabilizersWrongFalsely : Prop := fnExactPromotionStabilizersRow.holds Try.pinned (OpenSpec.ofChange fnExactPromotionStabilizersWrong)

/-- 'laws.FnExactLabelsBySum': WHATEVER THE INPUT: true; the input reads as it did. -/
def fnExactLabelsBySumSpec : ChangeSpec := { name := "fnExactLabelsBySum", fn := fun _ => fun
  | [d1, d2] => { results := [.lit (.bool true)], args := [d1, d2] }
  | _ => none }
def fnExactLabelsBySumRow : OpenClaim := { program := "ytnlehkjfidpdlab", sum := "cc632dfeff89c49bea31c3804e5eee5df52a2038c8c4f3c077ac5abe90a48c8f", func := "loop.example/g01138/laws.FnExactLabelsBySum", spec := "fnExactLabelsBySum", unfollowed := true, recurses := true, apart := false }
def FnExactLabelsBySumSaid : Prop := fnExactLabelsBySumRow.holds Try.pinned (OpenSpec.ofChange fnExactLabelsBySumSpec)

/-- ITS FALSE NEIGHBOUR: 'it returns false'. Refute it at one input. -/
def fnExactLabelsBySumWrong : ChangeSpec := { name := "fnExactLabelsBySum", fn := fun _ => fun
  | [d1, d2] => { results := [.lit (.bool false)], args := [d1, d2] }
  | _ => none }
def FnExactLabelsBySumWrongFalsely : Prop := fnExactLabelsBySumRow.holds Try.pinned (OpenSpec.ofChange fnExactLabelsBySumWrong)

/- THE SECOND FORM. 'bulk': how many values and letters a reading holds, each counted each time it is reached (what is shared counts as often as it is met; a slice's spare places count too). A statement '..UptoSaid' is the law's where the arguments, and the package variables that the reading takes, are together of bulk at most 1048576: NARROWER than '..Said'. Prove '..Said' where nothing that the law and all that it calls make is longer than what came in: it says more and counts as full. Else prove '..UptoSaid'. A law counts once. -/
mutual
def uptoBulk {H : Type} : DataW H → Nat
  | .lit (.string bytes) => bytes.length + 1
  | .lit _ => 1
  | .nil => 1
  | .ptr d => uptoBulk d + 1
  | .slice elems spare => uptoBulkAll elems + uptoBulkAll spare + 1
  | .agg parts => uptoBulkAll parts + 1
  | .iface _ d => uptoBulk d + 1
  | .map entries => uptoBulkEntries entries + 1
  | .held _ => 1
def uptoBulkAll {H : Type} : List (DataW H) → Nat
  | [] => 0
  | d :: r => uptoBulk d + uptoBulkAll r
def uptoBulkEntries {H : Type} : List (Lit × DataW H) → Nat
  | [] => 0
  | x :: r => uptoBulkEntry x + uptoBulkEntries r
def uptoBulkEntry {H : Type} : Lit × DataW H → Nat
  | (.string bytes, d) => bytes.length + uptoBulk d + 1
  | (_, d) => uptoBulk d + 1
 end
def uptoSmall : (H : Type) → List (DataW H) → Bool := fun _ ds => decide (uptoBulkAll ds ≤ 1048576)
def OpenSpec.upto (s : _root_.Go.ChangeSpec) : _root_.Go.OpenSpec := { _root_.Go.OpenSpec.ofChange s with cond := some uptoSmall }

/-- 'laws.FnExactRowFixed', WHERE WHAT IT READS IS OF BULK AT MOST 1048576: true; the input reads as it did. -/
def fnExactRowFixedUptoRow : OpenClaim := { program := "ytnlehkjfidpdlab", sum := "cc632dfeff89c49bea31c3804e5eee5df52a2038c8c4f3c077ac5abe90a48c8f", func := "loop.example/g01138/laws.FnExactRowFixed", spec := "fnExactRowFixed", unfollowed := true, recurses := true, apart := false, narrowed := true }
def FnExactRowFixedUptoSaid : Prop := fnExactRowFixedUptoRow.holds Try.pinned (OpenSpec.upto fnExactRowFixedSpec)

/-- 'laws.FnExactPromotionFixed', WHERE WHAT IT READS IS OF BULK AT MOST 1048576: true; the input reads as it did. -/
def fnExactPromotionFixedUptoRow : OpenClaim := { program := "ytnlehkjfidpdlab", sum := "cc632dfeff89c49bea31c3804e5eee5df52a2038c8c4f3c077ac5abe90a48c8f", func := "loop.example/g01138/laws.FnExactPromotionFixed", spec := "fnExactPromotionFixed", unfollowed := true, recurses := true, apart := false, narrowed := true }
def FnExactPromotionFixedUptoSaid : Prop := fnExactPromotionFixedUptoRow.holds Try.pinned (OpenSpec.upto fnExactPromotionFixedSpec)

/-- 'laws.FnExactRowStabilizers', WHERE WHAT IT READS IS OF BULK AT MOST 1048576: true; the input reads as it did. -/
def fnExactRowStabilizersUptoRow : OpenClaim := { program := "ytnlehkjfidpdlab", sum := "cc632dfeff89c49bea31c3804e5eee5df52a2038c8c4f3c077ac5abe90a48c8f", func := "loop.example/g01138/laws.FnExactRowStabilizers", spec := "fnExactRowStabilizers", unfollowed := true, recurses := true, apart := false, narrowed := true }
def FnExactRowStabilizersUptoSaid : Prop := fnExactRowStabilizersUptoRow.holds Try.pinned (OpenSpec.upto fnExactRowStabilizersSpec)

/-- 'laws.FnExactPromotionStabilizers', WHERE WHAT IT READS IS OF BULK AT MOST 1048576: true; the input reads as it did. -/
def fnExactPromotionStabilizersUptoRow : OpenClaim := { program := "ytnlehkjfidpdlab", sum := "cc632dfeff89c49bea31c3804e5eee5df52a2038c8c4f3c077ac5abe90a48c8f", func := "loop.example/g01138/laws.FnExactPromotionStabilizers", spec := "fnExactPromotionStabilizers", unfollowed := true, recurses := true, apart := false, narrowed := true }
def FnExactPromotionStabilizersUptoSaid : Prop := fnExactPromotionStabilizersUptoRow.holds Try.pinned (OpenSpec.upto fnExactPromotionStabilizersSpec)

/-- 'laws.FnExactLabelsBySum', WHERE WHAT IT READS IS OF BULK AT MOST 1048576: true; the input reads as it did. -/
def fnExactLabelsBySumUptoRow : OpenClaim := { program := "ytnlehkjfidpdlab", sum := "cc632dfeff89c49bea31c3804e5eee5df52a2038c8c4f3c077ac5abe90a48c8f", func := "loop.example/g01138/laws.FnExactLabelsBySum", spec := "fnExactLabelsBySum", unfollowed := true, recurses := true, apart := false, narrowed := true }
def FnExactLabelsBySumUptoSaid : Prop := fnExactLabelsBySumUptoRow.holds Try.pinned (OpenSpec.upto fnExactLabelsBySumSpec)

end Rows
end Go.Proofs.Ytnlehkjfidpdlab
