/-
  No cell of these rows narrows 'for every input' (looked for: loops, veiled, ifaces, maps, wideKeys, modest, calm, conditions, laid).
  DERIVED. THE GIVEN ROWS OF THIS SEAT. 9 by the template 'for every input the law returns true; each argument reads behind the call as it read before'; 0 by the template 'total and deterministic' (their statements: YtgoghgkpmmgcgabTotals.lean).
  GIVEN WITH THE SEED: the statements are not yours to turn. If you find one false, say at which input.
  Laid BY PROGRAM, IN A SANDBOX (cutbox-rows.mjs): the forced cells as the released guide's own fill.sh prints them over the translation d0c66bc42ecf81eb… (all of the seat's roots in one cut). By AI agents, Wed Nov 11 2026. No macro, syntax, notation, axiom, sorry.
-/
import Derived.Test.YtgoghgkpmmgcgabChecked
import GoSem.Claim
import GoSem.ClaimJoined
import GoSem.ClaimMapViews
import Derived.JoinedTies
import Derived.KernelRfl
namespace Go.Proofs.Ytgoghgkpmmgcgab
/- THE CELL 'sum', in the pinned program and in every row, IS THE sha256 OF THE DUMP (.gsa) THAT YtgoghgkpmmgcgabProg.lean LOADS. Nothing in Lean hashes anything: it is a label: what it is worth is what the hold of that sum in a sandbox is worth. -/
noncomputable def Try.pinned : Pinned := { name := "ytgoghgkpmmgcgab", sum := "d0c66bc42ecf81eb70bf297f65aa35bcc148ebeedb561f8ae2e5278dc8778db0", checked := Try.checked }
namespace Rows
def none {H : Type} : Left H := { results := [], args := [] }

/-- 'laws.FnExactCoversOf': WHATEVER THE INPUT: true; the input reads as it did. -/
def fnExactCoversOfSpec : ChangeSpec := { name := "fnExactCoversOf", fn := fun _ => fun
  | [d] => { results := [.lit (.bool true)], args := [d] }
  | _ => none }
def fnExactCoversOfRow : OpenClaim := { program := "ytgoghgkpmmgcgab", sum := "d0c66bc42ecf81eb70bf297f65aa35bcc148ebeedb561f8ae2e5278dc8778db0", func := "loop.example/g01138/laws.FnExactCoversOf", spec := "fnExactCoversOf", apart := false }
def FnExactCoversOfSaid : Prop := fnExactCoversOfRow.holds Try.pinned (OpenSpec.ofChange fnExactCoversOfSpec)

/-- ITS FALSE NEIGHBOUR: 'it returns false'. Refute it at one input. -/
def fnExactCoversOfWrong : ChangeSpec := { name := "fnExactCoversOf", fn := fun _ => fun
  | [d] => { results := [.lit (.bool false)], args := [d] }
  | _ => none }
def FnExactCoversOfWrongFalsely : Prop := fnExactCoversOfRow.holds Try.pinned (OpenSpec.ofChange fnExactCoversOfWrong)

/-- 'laws.FnExactFromCovers': WHATEVER THE INPUT: true; the input reads as it did. -/
def fnExactFromCoversSpec : ChangeSpec := { name := "fnExactFromCovers", fn := fun _ => fun
  | [d1, d2] => { results := [.lit (.bool true)], args := [d1, d2] }
  | _ => none }
def fnExactFromCoversRow : OpenClaim := { program := "ytgoghgkpmmgcgab", sum := "d0c66bc42ecf81eb70bf297f65aa35bcc148ebeedb561f8ae2e5278dc8778db0", func := "loop.example/g01138/laws.FnExactFromCovers", spec := "fnExactFromCovers", apart := false }
def FnExactFromCoversSaid : Prop := fnExactFromCoversRow.holds Try.pinned (OpenSpec.ofChange fnExactFromCoversSpec)

/-- ITS FALSE NEIGHBOUR: 'it returns false'. Refute it at one input. -/
def fnExactFromCoversWrong : ChangeSpec := { name := "fnExactFromCovers", fn := fun _ => fun
  | [d1, d2] => { results := [.lit (.bool false)], args := [d1, d2] }
  | _ => none }
def FnExactFromCoversWrongFalsely : Prop := fnExactFromCoversRow.holds Try.pinned (OpenSpec.ofChange fnExactFromCoversWrong)

/-- 'laws.FnExactHeightsOf': WHATEVER THE INPUT: true; the input reads as it did. -/
def fnExactHeightsOfSpec : ChangeSpec := { name := "fnExactHeightsOf", fn := fun _ => fun
  | [d] => { results := [.lit (.bool true)], args := [d] }
  | _ => none }
def fnExactHeightsOfRow : OpenClaim := { program := "ytgoghgkpmmgcgab", sum := "d0c66bc42ecf81eb70bf297f65aa35bcc148ebeedb561f8ae2e5278dc8778db0", func := "loop.example/g01138/laws.FnExactHeightsOf", spec := "fnExactHeightsOf", apart := false }
def FnExactHeightsOfSaid : Prop := fnExactHeightsOfRow.holds Try.pinned (OpenSpec.ofChange fnExactHeightsOfSpec)

/-- ITS FALSE NEIGHBOUR: 'it returns false'. Refute it at one input. -/
def fnExactHeightsOfWrong : ChangeSpec := { name := "fnExactHeightsOf", fn := fun _ => fun
  | [d] => { results := [.lit (.bool false)], args := [d] }
  | _ => none }
def FnExactHeightsOfWrongFalsely : Prop := fnExactHeightsOfRow.holds Try.pinned (OpenSpec.ofChange fnExactHeightsOfWrong)

/-- 'laws.FnExactIsRanked': WHATEVER THE INPUT: true; the input reads as it did. -/
def fnExactIsRankedSpec : ChangeSpec := { name := "fnExactIsRanked", fn := fun _ => fun
  | [d] => { results := [.lit (.bool true)], args := [d] }
  | _ => none }
def fnExactIsRankedRow : OpenClaim := { program := "ytgoghgkpmmgcgab", sum := "d0c66bc42ecf81eb70bf297f65aa35bcc148ebeedb561f8ae2e5278dc8778db0", func := "loop.example/g01138/laws.FnExactIsRanked", spec := "fnExactIsRanked", apart := false }
def FnExactIsRankedSaid : Prop := fnExactIsRankedRow.holds Try.pinned (OpenSpec.ofChange fnExactIsRankedSpec)

/-- ITS FALSE NEIGHBOUR: 'it returns false'. Refute it at one input. -/
def fnExactIsRankedWrong : ChangeSpec := { name := "fnExactIsRanked", fn := fun _ => fun
  | [d] => { results := [.lit (.bool false)], args := [d] }
  | _ => none }
def FnExactIsRankedWrongFalsely : Prop := fnExactIsRankedRow.holds Try.pinned (OpenSpec.ofChange fnExactIsRankedWrong)

/-- 'laws.FnExactDualOf': WHATEVER THE INPUT: true; the input reads as it did. -/
def fnExactDualOfSpec : ChangeSpec := { name := "fnExactDualOf", fn := fun _ => fun
  | [d] => { results := [.lit (.bool true)], args := [d] }
  | _ => none }
def fnExactDualOfRow : OpenClaim := { program := "ytgoghgkpmmgcgab", sum := "d0c66bc42ecf81eb70bf297f65aa35bcc148ebeedb561f8ae2e5278dc8778db0", func := "loop.example/g01138/laws.FnExactDualOf", spec := "fnExactDualOf", unfollowed := true, recurses := true, apart := false }
def FnExactDualOfSaid : Prop := fnExactDualOfRow.holds Try.pinned (OpenSpec.ofChange fnExactDualOfSpec)

/-- ITS FALSE NEIGHBOUR: 'it returns false'. Refute it at one input. -/
def fnExactDualOfWrong : ChangeSpec := { name := "fnExactDualOf", fn := fun _ => fun
  | [d] => { results := [.lit (.bool false)], args := [d] }
  | _ => none }
def FnExactDualOfWrongFalsely : Prop := fnExactDualOfRow.holds Try.pinned (OpenSpec.ofChange fnExactDualOfWrong)

/-- 'laws.FnExactSumOf': WHATEVER THE INPUT: true; the input reads as it did. -/
def fnExactSumOfSpec : ChangeSpec := { name := "fnExactSumOf", fn := fun _ => fun
  | [d1, d2] => { results := [.lit (.bool true)], args := [d1, d2] }
  | _ => none }
def fnExactSumOfRow : OpenClaim := { program := "ytgoghgkpmmgcgab", sum := "d0c66bc42ecf81eb70bf297f65aa35bcc148ebeedb561f8ae2e5278dc8778db0", func := "loop.example/g01138/laws.FnExactSumOf", spec := "fnExactSumOf", unfollowed := true, recurses := true, apart := false }
def FnExactSumOfSaid : Prop := fnExactSumOfRow.holds Try.pinned (OpenSpec.ofChange fnExactSumOfSpec)

/-- ITS FALSE NEIGHBOUR: 'it returns false'. Refute it at one input. -/
def fnExactSumOfWrong : ChangeSpec := { name := "fnExactSumOf", fn := fun _ => fun
  | [d1, d2] => { results := [.lit (.bool false)], args := [d1, d2] }
  | _ => none }
def FnExactSumOfWrongFalsely : Prop := fnExactSumOfRow.holds Try.pinned (OpenSpec.ofChange fnExactSumOfWrong)

/-- 'laws.FnExactStackOf': WHATEVER THE INPUT: true; the input reads as it did. -/
def fnExactStackOfSpec : ChangeSpec := { name := "fnExactStackOf", fn := fun _ => fun
  | [d1, d2] => { results := [.lit (.bool true)], args := [d1, d2] }
  | _ => none }
def fnExactStackOfRow : OpenClaim := { program := "ytgoghgkpmmgcgab", sum := "d0c66bc42ecf81eb70bf297f65aa35bcc148ebeedb561f8ae2e5278dc8778db0", func := "loop.example/g01138/laws.FnExactStackOf", spec := "fnExactStackOf", unfollowed := true, recurses := true, apart := false }
def FnExactStackOfSaid : Prop := fnExactStackOfRow.holds Try.pinned (OpenSpec.ofChange fnExactStackOfSpec)

/-- ITS FALSE NEIGHBOUR: 'it returns false'. Refute it at one input. -/
def fnExactStackOfWrong : ChangeSpec := { name := "fnExactStackOf", fn := fun _ => fun
  | [d1, d2] => { results := [.lit (.bool false)], args := [d1, d2] }
  | _ => none }
def FnExactStackOfWrongFalsely : Prop := fnExactStackOfRow.holds Try.pinned (OpenSpec.ofChange fnExactStackOfWrong)

/-- 'laws.FnExactRectangle': WHATEVER THE INPUT: true; the input reads as it did. -/
def fnExactRectangleSpec : ChangeSpec := { name := "fnExactRectangle", fn := fun _ => fun
  | [d1, d2] => { results := [.lit (.bool true)], args := [d1, d2] }
  | _ => none }
def fnExactRectangleRow : OpenClaim := { program := "ytgoghgkpmmgcgab", sum := "d0c66bc42ecf81eb70bf297f65aa35bcc148ebeedb561f8ae2e5278dc8778db0", func := "loop.example/g01138/laws.FnExactRectangle", spec := "fnExactRectangle", unfollowed := true, recurses := true, apart := false }
def FnExactRectangleSaid : Prop := fnExactRectangleRow.holds Try.pinned (OpenSpec.ofChange fnExactRectangleSpec)

/-- ITS FALSE NEIGHBOUR: 'it returns false'. Refute it at one input. -/
def fnExactRectangleWrong : ChangeSpec := { name := "fnExactRectangle", fn := fun _ => fun
  | [d1, d2] => { results := [.lit (.bool false)], args := [d1, d2] }
  | _ => none }
def FnExactRectangleWrongFalsely : Prop := fnExactRectangleRow.holds Try.pinned (OpenSpec.ofChange fnExactRectangleWrong)

/-- 'laws.FnExactFence': WHATEVER THE INPUT: true; the input reads as it did. -/
def fnExactFenceSpec : ChangeSpec := { name := "fnExactFence", fn := fun _ => fun
  | [d] => { results := [.lit (.bool true)], args := [d] }
  | _ => none }
def fnExactFenceRow : OpenClaim := { program := "ytgoghgkpmmgcgab", sum := "d0c66bc42ecf81eb70bf297f65aa35bcc148ebeedb561f8ae2e5278dc8778db0", func := "loop.example/g01138/laws.FnExactFence", spec := "fnExactFence", unfollowed := true, recurses := true, apart := false }
def FnExactFenceSaid : Prop := fnExactFenceRow.holds Try.pinned (OpenSpec.ofChange fnExactFenceSpec)

/-- ITS FALSE NEIGHBOUR: 'it returns false'. Refute it at one input. -/
def fnExactFenceWrong : ChangeSpec := { name := "fnExactFence", fn := fun _ => fun
  | [d] => { results := [.lit (.bool false)], args := [d] }
  | _ => none }
def FnExactFenceWrongFalsely : Prop := fnExactFenceRow.holds Try.pinned (OpenSpec.ofChange fnExactFenceWrong)

/- THE SECOND FORM. 'bulk': how many values and letters a reading holds, each counted each time it is reached (what is shared counts as often as it is met; a slice's spare places count too). A statement '..UptoSaid' is the law's where the arguments, and the package variables that the reading takes, are together of bulk at most 1048576: NARROWER than '..Said'. Prove '..Said' where nothing that the law and all that it calls make is longer than what came in: it says more and counts as full. Else prove '..UptoSaid'. A law counts once. -/
mutual
def uptoBulk {H : Type} : DataW H → Nat
  | .lit (.string bytes) => bytes.length + 1
  | .lit _ => 1
  | .nil => 1
  | .ptr d => uptoBulk d + 1
  | .slice elems spare => uptoBulkAll elems + uptoBulkAll spare + 1
  | .agg parts => uptoBulkAll parts + 1
  | .iface _ d => uptoBulk d + 1
  | .map entries => uptoBulkEntries entries + 1
  | .held _ => 1
def uptoBulkAll {H : Type} : List (DataW H) → Nat
  | [] => 0
  | d :: r => uptoBulk d + uptoBulkAll r
def uptoBulkEntries {H : Type} : List (Lit × DataW H) → Nat
  | [] => 0
  | x :: r => uptoBulkEntry x + uptoBulkEntries r
def uptoBulkEntry {H : Type} : Lit × DataW H → Nat
  | (.string bytes, d) => bytes.length + uptoBulk d + 1
  | (_, d) => uptoBulk d + 1
 end
def uptoSmall : (H : Type) → List (DataW H) → Bool := fun _ ds => decide (uptoBulkAll ds ≤ 1048576)
def OpenSpec.upto (s : _root_.Go.ChangeSpec) : _root_.Go.OpenSpec := { _root_.Go.OpenSpec.ofChange s with cond := some uptoSmall }

/-- 'laws.FnExactCoversOf', WHERE WHAT IT READS IS OF BULK AT MOST 1048576: true; the input reads as it did. -/
def fnExactCoversOfUptoRow : OpenClaim := { program := "ytgoghgkpmmgcgab", sum := "d0c66bc42ecf81eb70bf297f65aa35bcc148ebeedb561f8ae2e5278dc8778db0", func := "loop.example/g01138/laws.FnExactCoversOf", spec := "fnExactCoversOf", apart := false, narrowed := true }
def FnExactCoversOfUptoSaid : Prop := fnExactCoversOfUptoRow.holds Try.pinned (OpenSpec.upto fnExactCoversOfSpec)

/-- 'laws.FnExactFromCovers', WHERE WHAT IT READS IS OF BULK AT MOST 1048576: true; the input reads as it did. -/
def fnExactFromCoversUptoRow : OpenClaim := { program := "ytgoghgkpmmgcgab", sum := "d0c66bc42ecf81eb70bf297f65aa35bcc148ebeedb561f8ae2e5278dc8778db0", func := "loop.example/g01138/laws.FnExactFromCovers", spec := "fnExactFromCovers", apart := false, narrowed := true }
def FnExactFromCoversUptoSaid : Prop := fnExactFromCoversUptoRow.holds Try.pinned (OpenSpec.upto fnExactFromCoversSpec)

/-- 'laws.FnExactHeightsOf', WHERE WHAT IT READS IS OF BULK AT MOST 1048576: true; the input reads as it did. -/
def fnExactHeightsOfUptoRow : OpenClaim := { program := "ytgoghgkpmmgcgab", sum := "d0c66bc42ecf81eb70bf297f65aa35bcc148ebeedb561f8ae2e5278dc8778db0", func := "loop.example/g01138/laws.FnExactHeightsOf", spec := "fnExactHeightsOf", apart := false, narrowed := true }
def FnExactHeightsOfUptoSaid : Prop := fnExactHeightsOfUptoRow.holds Try.pinned (OpenSpec.upto fnExactHeightsOfSpec)

/-- 'laws.FnExactIsRanked', WHERE WHAT IT READS IS OF BULK AT MOST 1048576: true; the input reads as it did. -/
def fnExactIsRankedUptoRow : OpenClaim := { program := "ytgoghgkpmmgcgab", sum := "d0c66bc42ecf81eb70bf297f65aa35bcc148ebeedb561f8ae2e5278dc8778db0", func := "loop.example/g01138/laws.FnExactIsRanked", spec := "fnExactIsRanked", apart := false, narrowed := true }
def FnExactIsRankedUptoSaid : Prop := fnExactIsRankedUptoRow.holds Try.pinned (OpenSpec.upto fnExactIsRankedSpec)

/-- 'laws.FnExactDualOf', WHERE WHAT IT READS IS OF BULK AT MOST 1048576: true; the input reads as it did. -/
def fnExactDualOfUptoRow : OpenClaim := { program := "ytgoghgkpmmgcgab", sum := "d0c66bc42ecf81eb70bf297f65aa35bcc148ebeedb561f8ae2e5278dc8778db0", func := "loop.example/g01138/laws.FnExactDualOf", spec := "fnExactDualOf", unfollowed := true, recurses := true, apart := false, narrowed := true }
def FnExactDualOfUptoSaid : Prop := fnExactDualOfUptoRow.holds Try.pinned (OpenSpec.upto fnExactDualOfSpec)

/-- 'laws.FnExactSumOf', WHERE WHAT IT READS IS OF BULK AT MOST 1048576: true; the input reads as it did. -/
def fnExactSumOfUptoRow : OpenClaim := { program := "ytgoghgkpmmgcgab", sum := "d0c66bc42ecf81eb70bf297f65aa35bcc148ebeedb561f8ae2e5278dc8778db0", func := "loop.example/g01138/laws.FnExactSumOf", spec := "fnExactSumOf", unfollowed := true, recurses := true, apart := false, narrowed := true }
def FnExactSumOfUptoSaid : Prop := fnExactSumOfUptoRow.holds Try.pinned (OpenSpec.upto fnExactSumOfSpec)

/-- 'laws.FnExactStackOf', WHERE WHAT IT READS IS OF BULK AT MOST 1048576: true; the input reads as it did. -/
def fnExactStackOfUptoRow : OpenClaim := { program := "ytgoghgkpmmgcgab", sum := "d0c66bc42ecf81eb70bf297f65aa35bcc148ebeedb561f8ae2e5278dc8778db0", func := "loop.example/g01138/laws.FnExactStackOf", spec := "fnExactStackOf", unfollowed := true, recurses := true, apart := false, narrowed := true }
def FnExactStackOfUptoSaid : Prop := fnExactStackOfUptoRow.holds Try.pinned (OpenSpec.upto fnExactStackOfSpec)

/-- 'laws.FnExactRectangle', WHERE WHAT IT READS IS OF BULK AT MOST 1048576: true; the input reads as it did. -/
def fnExactRectangleUptoRow : OpenClaim := { program := "ytgoghgkpmmgcgab", sum := "d0c66bc42ecf81eb70bf297f65aa35bcc148ebeedb561f8ae2e5278dc8778db0", func := "loop.example/g01138/laws.FnExactRectangle", spec := "fnExactRectangle", unfollowed := true, recurses := true, apart := false, narrowed := true }
def FnExactRectangleUptoSaid : Prop := fnExactRectangleUptoRow.holds Try.pinned (OpenSpec.upto fnExactRectangleSpec)

/-- 'laws.FnExactFence', WHERE WHAT IT READS IS OF BULK AT MOST 1048576: true; the input reads as it did. -/
def fnExactFenceUptoRow : OpenClaim := { program := "ytgoghgkpmmgcgab", sum := "d0c66bc42ecf81eb70bf297f65aa35bcc148ebeedb561f8ae2e5278dc8778db0", func := "loop.example/g01138/laws.FnExactFence", spec := "fnExactFence", unfollowed := true, recurses := true, apart := false, narrowed := true }
def FnExactFenceUptoSaid : Prop := fnExactFenceUptoRow.holds Try.pinned (OpenSpec.upto fnExactFenceSpec)

end Rows
end Go.Proofs.Ytgoghgkpmmgcgab
