/-
  No cell of these rows narrows 'for every input' (looked for: loops, veiled, ifaces, maps, wideKeys, modest, calm, conditions, laid).
  DERIVED. THE GIVEN ROWS OF THIS SEAT. 7 by the template 'for every input the law returns true; each argument reads behind the call as it read before'; 0 by the template 'total and deterministic' (their statements: YteaeeinfjhhhoaaTotals.lean).
  GIVEN WITH THE SEED: the statements are not yours to turn. If you find one false, say at which input.
  Laid BY PROGRAM, IN A SANDBOX (cutbox-rows.mjs): the forced cells as the released guide's own fill.sh prints them over the translation e6a937061940b661… (all of the seat's roots in one cut). By AI agents, Wed Nov 11 2026. No macro, syntax, notation, axiom, sorry.
-/
import Derived.Test.YteaeeinfjhhhoaaChecked
import GoSem.Claim
import GoSem.ClaimJoined
import GoSem.ClaimMapViews
import Derived.JoinedTies
import Derived.KernelRfl
namespace Go.Proofs.Yteaeeinfjhhhoaa
/- THE CELL 'sum', in the pinned program and in every row, IS THE sha256 OF THE DUMP (.gsa) THAT YteaeeinfjhhhoaaProg.lean LOADS. Nothing in Lean hashes anything: it is a label: what it is worth is what the hold of that sum in a sandbox is worth. -/
noncomputable def Try.pinned : Pinned := { name := "yteaeeinfjhhhoaa", sum := "e6a937061940b6610c0427fa080c1007e6152a8b64bb46999d6d70400ff8a276", checked := Try.checked }
namespace Rows
def none {H : Type} : Left H := { results := [], args := [] }

/-- 'laws.FnExactAreLabels': WHATEVER THE INPUT: true; the input reads as it did. -/
def fnExactAreLabelsSpec : ChangeSpec := { name := "fnExactAreLabels", fn := fun _ => fun
  | [d1, d2, d3] => { results := [.lit (.bool true)], args := [d1, d2, d3] }
  | _ => none }
def fnExactAreLabelsRow : OpenClaim := { program := "yteaeeinfjhhhoaa", sum := "e6a937061940b6610c0427fa080c1007e6152a8b64bb46999d6d70400ff8a276", func := "loop.example/g01138/laws.FnExactAreLabels", spec := "fnExactAreLabels", apart := false }
def FnExactAreLabelsSaid : Prop := fnExactAreLabelsRow.holds Try.pinned (OpenSpec.ofChange fnExactAreLabelsSpec)

/-- ITS FALSE NEIGHBOUR: 'it returns false'. Refute it at one input. -/
def fnExactAreLabelsWrong : ChangeSpec := { name := "fnExactAreLabels", fn := fun _ => fun
  | [d1, d2, d3] => { results := [.lit (.bool false)], args := [d1, d2, d3] }
  | _ => none }
def FnExactAreLabelsWrongFalsely : Prop := fnExactAreLabelsRow.holds Try.pinned (OpenSpec.ofChange fnExactAreLabelsWrong)

/-- 'laws.FnExactAreStrict': WHATEVER THE INPUT: true; the input reads as it did. -/
def fnExactAreStrictSpec : ChangeSpec := { name := "fnExactAreStrict", fn := fun _ => fun
  | [d1, d2, d3] => { results := [.lit (.bool true)], args := [d1, d2, d3] }
  | _ => none }
def fnExactAreStrictRow : OpenClaim := { program := "yteaeeinfjhhhoaa", sum := "e6a937061940b6610c0427fa080c1007e6152a8b64bb46999d6d70400ff8a276", func := "loop.example/g01138/laws.FnExactAreStrict", spec := "fnExactAreStrict", apart := false }
def FnExactAreStrictSaid : Prop := fnExactAreStrictRow.holds Try.pinned (OpenSpec.ofChange fnExactAreStrictSpec)

/-- ITS FALSE NEIGHBOUR: 'it returns false'. Refute it at one input. -/
def fnExactAreStrictWrong : ChangeSpec := { name := "fnExactAreStrict", fn := fun _ => fun
  | [d1, d2, d3] => { results := [.lit (.bool false)], args := [d1, d2, d3] }
  | _ => none }
def FnExactAreStrictWrongFalsely : Prop := fnExactAreStrictRow.holds Try.pinned (OpenSpec.ofChange fnExactAreStrictWrong)

/-- 'laws.FnExactIdealsOfLabels': WHATEVER THE INPUT: true; the input reads as it did. -/
def fnExactIdealsOfLabelsSpec : ChangeSpec := { name := "fnExactIdealsOfLabels", fn := fun _ => fun
  | [d1, d2, d3] => { results := [.lit (.bool true)], args := [d1, d2, d3] }
  | _ => none }
def fnExactIdealsOfLabelsRow : OpenClaim := { program := "yteaeeinfjhhhoaa", sum := "e6a937061940b6610c0427fa080c1007e6152a8b64bb46999d6d70400ff8a276", func := "loop.example/g01138/laws.FnExactIdealsOfLabels", spec := "fnExactIdealsOfLabels", apart := false }
def FnExactIdealsOfLabelsSaid : Prop := fnExactIdealsOfLabelsRow.holds Try.pinned (OpenSpec.ofChange fnExactIdealsOfLabelsSpec)

/-- ITS FALSE NEIGHBOUR: 'it returns false'. Refute it at one input. -/
def fnExactIdealsOfLabelsWrong : ChangeSpec := { name := "fnExactIdealsOfLabels", fn := fun _ => fun
  | [d1, d2, d3] => { results := [.lit (.bool false)], args := [d1, d2, d3] }
  | _ => none }
def FnExactIdealsOfLabelsWrongFalsely : Prop := fnExactIdealsOfLabelsRow.holds Try.pinned (OpenSpec.ofChange fnExactIdealsOfLabelsWrong)

/-- 'laws.FnExactLabelsOfIdeals': WHATEVER THE INPUT: true; the input reads as it did. -/
def fnExactLabelsOfIdealsSpec : ChangeSpec := { name := "fnExactLabelsOfIdeals", fn := fun _ => fun
  | [d1, d2] => { results := [.lit (.bool true)], args := [d1, d2] }
  | _ => none }
def fnExactLabelsOfIdealsRow : OpenClaim := { program := "yteaeeinfjhhhoaa", sum := "e6a937061940b6610c0427fa080c1007e6152a8b64bb46999d6d70400ff8a276", func := "loop.example/g01138/laws.FnExactLabelsOfIdeals", spec := "fnExactLabelsOfIdeals", apart := false }
def FnExactLabelsOfIdealsSaid : Prop := fnExactLabelsOfIdealsRow.holds Try.pinned (OpenSpec.ofChange fnExactLabelsOfIdealsSpec)

/-- ITS FALSE NEIGHBOUR: 'it returns false'. Refute it at one input. -/
def fnExactLabelsOfIdealsWrong : ChangeSpec := { name := "fnExactLabelsOfIdeals", fn := fun _ => fun
  | [d1, d2] => { results := [.lit (.bool false)], args := [d1, d2] }
  | _ => none }
def FnExactLabelsOfIdealsWrongFalsely : Prop := fnExactLabelsOfIdealsRow.holds Try.pinned (OpenSpec.ofChange fnExactLabelsOfIdealsWrong)

/-- 'laws.FnExactComplementLabels': WHATEVER THE INPUT: true; the input reads as it did. -/
def fnExactComplementLabelsSpec : ChangeSpec := { name := "fnExactComplementLabels", fn := fun _ => fun
  | [d1, d2, d3] => { results := [.lit (.bool true)], args := [d1, d2, d3] }
  | _ => none }
def fnExactComplementLabelsRow : OpenClaim := { program := "yteaeeinfjhhhoaa", sum := "e6a937061940b6610c0427fa080c1007e6152a8b64bb46999d6d70400ff8a276", func := "loop.example/g01138/laws.FnExactComplementLabels", spec := "fnExactComplementLabels", apart := false }
def FnExactComplementLabelsSaid : Prop := fnExactComplementLabelsRow.holds Try.pinned (OpenSpec.ofChange fnExactComplementLabelsSpec)

/-- ITS FALSE NEIGHBOUR: 'it returns false'. Refute it at one input. -/
def fnExactComplementLabelsWrong : ChangeSpec := { name := "fnExactComplementLabels", fn := fun _ => fun
  | [d1, d2, d3] => { results := [.lit (.bool false)], args := [d1, d2, d3] }
  | _ => none }
def FnExactComplementLabelsWrongFalsely : Prop := fnExactComplementLabelsRow.holds Try.pinned (OpenSpec.ofChange fnExactComplementLabelsWrong)

/-- 'laws.FnExactBoxCount': WHATEVER THE INPUT: true; the input reads as it did. -/
def fnExactBoxCountSpec : ChangeSpec := { name := "fnExactBoxCount", fn := fun _ => fun
  | [d1, d2, d3] => { results := [.lit (.bool true)], args := [d1, d2, d3] }
  | _ => none }
def fnExactBoxCountRow : OpenClaim := { program := "yteaeeinfjhhhoaa", sum := "e6a937061940b6610c0427fa080c1007e6152a8b64bb46999d6d70400ff8a276", func := "loop.example/g01138/laws.FnExactBoxCount", spec := "fnExactBoxCount", unfollowed := true, recurses := true, apart := false }
def FnExactBoxCountSaid : Prop := fnExactBoxCountRow.holds Try.pinned (OpenSpec.ofChange fnExactBoxCountSpec)

/-- ITS FALSE NEIGHBOUR: 'it returns false'. Refute it at one input. -/
def fnExactBoxCountWrong : ChangeSpec := { name := "fnExactBoxCount", fn := fun _ => fun
  | [d1, d2, d3] => { results := [.lit (.bool false)], args := [d1, d2, d3] }
  | _ => none }
def FnExactBoxCountWrongFalsely : Prop := fnExactBoxCountRow.holds Try.pinned (OpenSpec.ofChange fnExactBoxCountWrong)

/-- 'laws.FnExactBoxBySum': WHATEVER THE INPUT: true; the input reads as it did. -/
def fnExactBoxBySumSpec : ChangeSpec := { name := "fnExactBoxBySum", fn := fun _ => fun
  | [d1, d2, d3] => { results := [.lit (.bool true)], args := [d1, d2, d3] }
  | _ => none }
def fnExactBoxBySumRow : OpenClaim := { program := "yteaeeinfjhhhoaa", sum := "e6a937061940b6610c0427fa080c1007e6152a8b64bb46999d6d70400ff8a276", func := "loop.example/g01138/laws.FnExactBoxBySum", spec := "fnExactBoxBySum", unfollowed := true, recurses := true, apart := false }
def FnExactBoxBySumSaid : Prop := fnExactBoxBySumRow.holds Try.pinned (OpenSpec.ofChange fnExactBoxBySumSpec)

/-- ITS FALSE NEIGHBOUR: 'it returns false'. Refute it at one input. -/
def fnExactBoxBySumWrong : ChangeSpec := { name := "fnExactBoxBySum", fn := fun _ => fun
  | [d1, d2, d3] => { results := [.lit (.bool false)], args := [d1, d2, d3] }
  | _ => none }
def FnExactBoxBySumWrongFalsely : Prop := fnExactBoxBySumRow.holds Try.pinned (OpenSpec.ofChange fnExactBoxBySumWrong)

/- THE SECOND FORM. 'bulk': how many values and letters a reading holds, each counted each time it is reached (what is shared counts as often as it is met; a slice's spare places count too). A statement '..UptoSaid' is the law's where the arguments, and the package variables that the reading takes, are together of bulk at most 1048576: NARROWER than '..Said'. Prove '..Said' where nothing that the law and all that it calls make is longer than what came in: it says more and counts as full. Else prove '..UptoSaid'. A law counts once. -/
mutual
def uptoBulk {H : Type} : DataW H → Nat
  | .lit (.string bytes) => bytes.length + 1
  | .lit _ => 1
  | .nil => 1
  | .ptr d => uptoBulk d + 1
  | .slice elems spare => uptoBulkAll elems + uptoBulkAll spare + 1
  | .agg parts => uptoBulkAll parts + 1
  | .iface _ d => uptoBulk d + 1
  | .map entries => uptoBulkEntries entries + 1
  | .held _ => 1
def uptoBulkAll {H : Type} : List (DataW H) → Nat
  | [] => 0
  | d :: r => uptoBulk d + uptoBulkAll r
def uptoBulkEntries {H : Type} : List (Lit × DataW H) → Nat
  | [] => 0
  | x :: r => uptoBulkEntry x + uptoBulkEntries r
def uptoBulkEntry {H : Type} : Lit × DataW H → Nat
  | (.string bytes, d) => bytes.length + uptoBulk d + 1
  | (_, d) => uptoBulk d + 1
 end
def uptoSmall : (H : Type) → List (DataW H) → Bool := fun _ ds => decide (uptoBulkAll ds ≤ 1048576)
def OpenSpec.upto (s : _root_.Go.ChangeSpec) : _root_.Go.OpenSpec := { _root_.Go.OpenSpec.ofChange s with cond := some uptoSmall }

/-- 'laws.FnExactAreLabels', WHERE WHAT IT READS IS OF BULK AT MOST 1048576: true; the input reads as it did. -/
def fnExactAreLabelsUptoRow : OpenClaim := { program := "yteaeeinfjhhhoaa", sum := "e6a937061940b6610c0427fa080c1007e6152a8b64bb46999d6d70400ff8a276", func := "loop.example/g01138/laws.FnExactAreLabels", spec := "fnExactAreLabels", apart := false, narrowed := true }
def FnExactAreLabelsUptoSaid : Prop := fnExactAreLabelsUptoRow.holds Try.pinned (OpenSpec.upto fnExactAreLabelsSpec)

/-- 'laws.FnExactAreStrict', WHERE WHAT IT READS IS OF BULK AT MOST 1048576: true; the input reads as it did. -/
def fnExactAreStrictUptoRow : OpenClaim := { program := "yteaeeinfjhhhoaa", sum := "e6a937061940b6610c0427fa080c1007e6152a8b64bb46999d6d70400ff8a276", func := "loop.example/g01138/laws.FnExactAreStrict", spec := "fnExactAreStrict", apart := false, narrowed := true }
def FnExactAreStrictUptoSaid : Prop := fnExactAreStrictUptoRow.holds Try.pinned (OpenSpec.upto fnExactAreStrictSpec)

/-- 'laws.FnExactIdealsOfLabels', WHERE WHAT IT READS IS OF BULK AT MOST 1048576: true; the input reads as it did. -/
def fnExactIdealsOfLabelsUptoRow : OpenClaim := { program := "yteaeeinfjhhhoaa", sum := "e6a937061940b6610c0427fa080c1007e6152a8b64bb46999d6d70400ff8a276", func := "loop.example/g01138/laws.FnExactIdealsOfLabels", spec := "fnExactIdealsOfLabels", apart := false, narrowed := true }
def FnExactIdealsOfLabelsUptoSaid : Prop := fnExactIdealsOfLabelsUptoRow.holds Try.pinned (OpenSpec.upto fnExactIdealsOfLabelsSpec)

/-- 'laws.FnExactLabelsOfIdeals', WHERE WHAT IT READS IS OF BULK AT MOST 1048576: true; the input reads as it did. -/
def fnExactLabelsOfIdealsUptoRow : OpenClaim := { program := "yteaeeinfjhhhoaa", sum := "e6a937061940b6610c0427fa080c1007e6152a8b64bb46999d6d70400ff8a276", func := "loop.example/g01138/laws.FnExactLabelsOfIdeals", spec := "fnExactLabelsOfIdeals", apart := false, narrowed := true }
def FnExactLabelsOfIdealsUptoSaid : Prop := fnExactLabelsOfIdealsUptoRow.holds Try.pinned (OpenSpec.upto fnExactLabelsOfIdealsSpec)

/-- 'laws.FnExactComplementLabels', WHERE WHAT IT READS IS OF BULK AT MOST 1048576: true; the input reads as it did. -/
def fnExactComplementLabelsUptoRow : OpenClaim := { program := "yteaeeinfjhhhoaa", sum := "e6a937061940b6610c0427fa080c1007e6152a8b64bb46999d6d70400ff8a276", func := "loop.example/g01138/laws.FnExactComplementLabels", spec := "fnExactComplementLabels", apart := false, narrowed := true }
def FnExactComplementLabelsUptoSaid : Prop := fnExactComplementLabelsUptoRow.holds Try.pinned (OpenSpec.upto fnExactComplementLabelsSpec)

/-- 'laws.FnExactBoxCount', WHERE WHAT IT READS IS OF BULK AT MOST 1048576: true; the input reads as it did. -/
def fnExactBoxCountUptoRow : OpenClaim := { program := "yteaeeinfjhhhoaa", sum := "e6a937061940b6610c0427fa080c1007e6152a8b64bb46999d6d70400ff8a276", func := "loop.example/g01138/laws.FnExactBoxCount", spec := "fnExactBoxCount", unfollowed := true, recurses := true, apart := false, narrowed := true }
def FnExactBoxCountUptoSaid : Prop := fnExactBoxCountUptoRow.holds Try.pinned (OpenSpec.upto fnExactBoxCountSpec)

/-- 'laws.FnExactBoxBySum', WHERE WHAT IT READS IS OF BULK AT MOST 1048576: true; the input reads as it did. -/
def fnExactBoxBySumUptoRow : OpenClaim := { program := "yteaeeinfjhhhoaa", sum := "e6a937061940b6610c0427fa080c1007e6152a8b64bb46999d6d70400ff8a276", func := "loop.example/g01138/laws.FnExactBoxBySum", spec := "fnExactBoxBySum", unfollowed := true, recurses := true, apart := false, narrowed := true }
def FnExactBoxBySumUptoSaid : Prop := fnExactBoxBySumUptoRow.holds Try.pinned (OpenSpec.upto fnExactBoxBySumSpec)

end Rows
end Go.Proofs.Yteaeeinfjhhhoaa
