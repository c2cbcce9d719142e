/-
  No cell of these rows narrows 'for every input' (looked for: loops, veiled, ifaces, maps, wideKeys, modest, calm, conditions, laid).
  DERIVED. THE GIVEN ROWS OF THIS SEAT. 10 by the template 'for every input the law returns true; each argument reads behind the call as it read before'; 0 by the template 'total and deterministic' (their statements: YtbjidoihnbjjdaaTotals.lean).
  GIVEN WITH THE SEED: the statements are not yours to turn. If you find one false, say at which input.
  Laid BY PROGRAM, IN A SANDBOX (cutbox-rows.mjs): the forced cells as the released guide's own fill.sh prints them over the translation 41ef9f7cb55248a8… (all of the seat's roots in one cut). By AI agents, Wed Nov 11 2026. No macro, syntax, notation, axiom, sorry.
-/
import Derived.Test.YtbjidoihnbjjdaaChecked
import GoSem.Claim
import GoSem.ClaimJoined
import GoSem.ClaimMapViews
import Derived.JoinedTies
import Derived.KernelRfl
namespace Go.Proofs.Ytbjidoihnbjjdaa
/- THE CELL 'sum', in the pinned program and in every row, IS THE sha256 OF THE DUMP (.gsa) THAT YtbjidoihnbjjdaaProg.lean LOADS. Nothing in Lean hashes anything: it is a label: what it is worth is what the hold of that sum in a sandbox is worth. -/
noncomputable def Try.pinned : Pinned := { name := "ytbjidoihnbjjdaa", sum := "41ef9f7cb55248a87f6ce065abb173fb9e44a8b4f543a7f748b8d8ecf84000e5", checked := Try.checked }
namespace Rows
def none {H : Type} : Left H := { results := [], args := [] }

/-- 'laws.FnExactIsRanked': WHATEVER THE INPUT: true; the input reads as it did. -/
def fnExactIsRankedSpec : ChangeSpec := { name := "fnExactIsRanked", fn := fun _ => fun
  | [d] => { results := [.lit (.bool true)], args := [d] }
  | _ => none }
def fnExactIsRankedRow : OpenClaim := { program := "ytbjidoihnbjjdaa", sum := "41ef9f7cb55248a87f6ce065abb173fb9e44a8b4f543a7f748b8d8ecf84000e5", func := "loop.example/g01138/laws.FnExactIsRanked", spec := "fnExactIsRanked", apart := false }
def FnExactIsRankedSaid : Prop := fnExactIsRankedRow.holds Try.pinned (OpenSpec.ofChange fnExactIsRankedSpec)

/-- ITS FALSE NEIGHBOUR: 'it returns false'. Refute it at one input. -/
def fnExactIsRankedWrong : ChangeSpec := { name := "fnExactIsRanked", fn := fun _ => fun
  | [d] => { results := [.lit (.bool false)], args := [d] }
  | _ => none }
def FnExactIsRankedWrongFalsely : Prop := fnExactIsRankedRow.holds Try.pinned (OpenSpec.ofChange fnExactIsRankedWrong)

/-- 'laws.FnExactFromCovers': WHATEVER THE INPUT: true; the input reads as it did. -/
def fnExactFromCoversSpec : ChangeSpec := { name := "fnExactFromCovers", fn := fun _ => fun
  | [d1, d2] => { results := [.lit (.bool true)], args := [d1, d2] }
  | _ => none }
def fnExactFromCoversRow : OpenClaim := { program := "ytbjidoihnbjjdaa", sum := "41ef9f7cb55248a87f6ce065abb173fb9e44a8b4f543a7f748b8d8ecf84000e5", func := "loop.example/g01138/laws.FnExactFromCovers", spec := "fnExactFromCovers", apart := false }
def FnExactFromCoversSaid : Prop := fnExactFromCoversRow.holds Try.pinned (OpenSpec.ofChange fnExactFromCoversSpec)

/-- ITS FALSE NEIGHBOUR: 'it returns false'. Refute it at one input. -/
def fnExactFromCoversWrong : ChangeSpec := { name := "fnExactFromCovers", fn := fun _ => fun
  | [d1, d2] => { results := [.lit (.bool false)], args := [d1, d2] }
  | _ => none }
def FnExactFromCoversWrongFalsely : Prop := fnExactFromCoversRow.holds Try.pinned (OpenSpec.ofChange fnExactFromCoversWrong)

/-- 'laws.FnExactSumOf': WHATEVER THE INPUT: true; the input reads as it did. -/
def fnExactSumOfSpec : ChangeSpec := { name := "fnExactSumOf", fn := fun _ => fun
  | [d1, d2] => { results := [.lit (.bool true)], args := [d1, d2] }
  | _ => none }
def fnExactSumOfRow : OpenClaim := { program := "ytbjidoihnbjjdaa", sum := "41ef9f7cb55248a87f6ce065abb173fb9e44a8b4f543a7f748b8d8ecf84000e5", func := "loop.example/g01138/laws.FnExactSumOf", spec := "fnExactSumOf", unfollowed := true, recurses := true, apart := false }
def FnExactSumOfSaid : Prop := fnExactSumOfRow.holds Try.pinned (OpenSpec.ofChange fnExactSumOfSpec)

/-- ITS FALSE NEIGHBOUR: 'it returns false'. Refute it at one input. -/
def fnExactSumOfWrong : ChangeSpec := { name := "fnExactSumOf", fn := fun _ => fun
  | [d1, d2] => { results := [.lit (.bool false)], args := [d1, d2] }
  | _ => none }
def FnExactSumOfWrongFalsely : Prop := fnExactSumOfRow.holds Try.pinned (OpenSpec.ofChange fnExactSumOfWrong)

/-- 'laws.FnExactStackOf': WHATEVER THE INPUT: true; the input reads as it did. -/
def fnExactStackOfSpec : ChangeSpec := { name := "fnExactStackOf", fn := fun _ => fun
  | [d1, d2] => { results := [.lit (.bool true)], args := [d1, d2] }
  | _ => none }
def fnExactStackOfRow : OpenClaim := { program := "ytbjidoihnbjjdaa", sum := "41ef9f7cb55248a87f6ce065abb173fb9e44a8b4f543a7f748b8d8ecf84000e5", func := "loop.example/g01138/laws.FnExactStackOf", spec := "fnExactStackOf", unfollowed := true, recurses := true, apart := false }
def FnExactStackOfSaid : Prop := fnExactStackOfRow.holds Try.pinned (OpenSpec.ofChange fnExactStackOfSpec)

/-- ITS FALSE NEIGHBOUR: 'it returns false'. Refute it at one input. -/
def fnExactStackOfWrong : ChangeSpec := { name := "fnExactStackOf", fn := fun _ => fun
  | [d1, d2] => { results := [.lit (.bool false)], args := [d1, d2] }
  | _ => none }
def FnExactStackOfWrongFalsely : Prop := fnExactStackOfRow.holds Try.pinned (OpenSpec.ofChange fnExactStackOfWrong)

/-- 'laws.FnExactStaircase': WHATEVER THE INPUT: true; the input reads as it did. -/
def fnExactStaircaseSpec : ChangeSpec := { name := "fnExactStaircase", fn := fun _ => fun
  | [d] => { results := [.lit (.bool true)], args := [d] }
  | _ => none }
def fnExactStaircaseRow : OpenClaim := { program := "ytbjidoihnbjjdaa", sum := "41ef9f7cb55248a87f6ce065abb173fb9e44a8b4f543a7f748b8d8ecf84000e5", func := "loop.example/g01138/laws.FnExactStaircase", spec := "fnExactStaircase", unfollowed := true, recurses := true, apart := false }
def FnExactStaircaseSaid : Prop := fnExactStaircaseRow.holds Try.pinned (OpenSpec.ofChange fnExactStaircaseSpec)

/-- ITS FALSE NEIGHBOUR: 'it returns false'. Refute it at one input. -/
def fnExactStaircaseWrong : ChangeSpec := { name := "fnExactStaircase", fn := fun _ => fun
  | [d] => { results := [.lit (.bool false)], args := [d] }
  | _ => none }
def FnExactStaircaseWrongFalsely : Prop := fnExactStaircaseRow.holds Try.pinned (OpenSpec.ofChange fnExactStaircaseWrong)

/-- 'laws.FnExactIsOrder': WHATEVER THE INPUT: true; the input reads as it did. -/
def fnExactIsOrderSpec : ChangeSpec := { name := "fnExactIsOrder", fn := fun _ => fun
  | [d1, d2] => { results := [.lit (.bool true)], args := [d1, d2] }
  | _ => none }
def fnExactIsOrderRow : OpenClaim := { program := "ytbjidoihnbjjdaa", sum := "41ef9f7cb55248a87f6ce065abb173fb9e44a8b4f543a7f748b8d8ecf84000e5", func := "loop.example/g01138/laws.FnExactIsOrder", spec := "fnExactIsOrder", apart := false }
def FnExactIsOrderSaid : Prop := fnExactIsOrderRow.holds Try.pinned (OpenSpec.ofChange fnExactIsOrderSpec)

/-- ITS FALSE NEIGHBOUR: 'it returns false'. Refute it at one input. -/
def fnExactIsOrderWrong : ChangeSpec := { name := "fnExactIsOrder", fn := fun _ => fun
  | [d1, d2] => { results := [.lit (.bool false)], args := [d1, d2] }
  | _ => none }
def FnExactIsOrderWrongFalsely : Prop := fnExactIsOrderRow.holds Try.pinned (OpenSpec.ofChange fnExactIsOrderWrong)

/-- 'laws.FnExactToggleAt': WHATEVER THE INPUT: true; the input reads as it did. -/
def fnExactToggleAtSpec : ChangeSpec := { name := "fnExactToggleAt", fn := fun _ => fun
  | [d1, d2, d3] => { results := [.lit (.bool true)], args := [d1, d2, d3] }
  | _ => none }
def fnExactToggleAtRow : OpenClaim := { program := "ytbjidoihnbjjdaa", sum := "41ef9f7cb55248a87f6ce065abb173fb9e44a8b4f543a7f748b8d8ecf84000e5", func := "loop.example/g01138/laws.FnExactToggleAt", spec := "fnExactToggleAt", unfollowed := true, recurses := true, apart := false }
def FnExactToggleAtSaid : Prop := fnExactToggleAtRow.holds Try.pinned (OpenSpec.ofChange fnExactToggleAtSpec)

/-- ITS FALSE NEIGHBOUR: 'it returns false'. Refute it at one input. -/
def fnExactToggleAtWrong : ChangeSpec := { name := "fnExactToggleAt", fn := fun _ => fun
  | [d1, d2, d3] => { results := [.lit (.bool false)], args := [d1, d2, d3] }
  | _ => none }
def FnExactToggleAtWrongFalsely : Prop := fnExactToggleAtRow.holds Try.pinned (OpenSpec.ofChange fnExactToggleAtWrong)

/-- 'laws.FnExactToggleWord': WHATEVER THE INPUT: true; the input reads as it did. -/
def fnExactToggleWordSpec : ChangeSpec := { name := "fnExactToggleWord", fn := fun _ => fun
  | [d1, d2, d3] => { results := [.lit (.bool true)], args := [d1, d2, d3] }
  | _ => none }
def fnExactToggleWordRow : OpenClaim := { program := "ytbjidoihnbjjdaa", sum := "41ef9f7cb55248a87f6ce065abb173fb9e44a8b4f543a7f748b8d8ecf84000e5", func := "loop.example/g01138/laws.FnExactToggleWord", spec := "fnExactToggleWord", unfollowed := true, recurses := true, apart := false }
def FnExactToggleWordSaid : Prop := fnExactToggleWordRow.holds Try.pinned (OpenSpec.ofChange fnExactToggleWordSpec)

/-- ITS FALSE NEIGHBOUR: 'it returns false'. Refute it at one input. -/
def fnExactToggleWordWrong : ChangeSpec := { name := "fnExactToggleWord", fn := fun _ => fun
  | [d1, d2, d3] => { results := [.lit (.bool false)], args := [d1, d2, d3] }
  | _ => none }
def FnExactToggleWordWrongFalsely : Prop := fnExactToggleWordRow.holds Try.pinned (OpenSpec.ofChange fnExactToggleWordWrong)

/-- 'laws.FnExactCanToggle': WHATEVER THE INPUT: true; the input reads as it did. -/
def fnExactCanToggleSpec : ChangeSpec := { name := "fnExactCanToggle", fn := fun _ => fun
  | [d1, d2] => { results := [.lit (.bool true)], args := [d1, d2] }
  | _ => none }
def fnExactCanToggleRow : OpenClaim := { program := "ytbjidoihnbjjdaa", sum := "41ef9f7cb55248a87f6ce065abb173fb9e44a8b4f543a7f748b8d8ecf84000e5", func := "loop.example/g01138/laws.FnExactCanToggle", spec := "fnExactCanToggle", apart := false }
def FnExactCanToggleSaid : Prop := fnExactCanToggleRow.holds Try.pinned (OpenSpec.ofChange fnExactCanToggleSpec)

/-- ITS FALSE NEIGHBOUR: 'it returns false'. Refute it at one input. -/
def fnExactCanToggleWrong : ChangeSpec := { name := "fnExactCanToggle", fn := fun _ => fun
  | [d1, d2] => { results := [.lit (.bool false)], args := [d1, d2] }
  | _ => none }
def FnExactCanToggleWrongFalsely : Prop := fnExactCanToggleRow.holds Try.pinned (OpenSpec.ofChange fnExactCanToggleWrong)

/-- 'laws.FnExactRowmotion': WHATEVER THE INPUT: true; the input reads as it did. -/
def fnExactRowmotionSpec : ChangeSpec := { name := "fnExactRowmotion", fn := fun _ => fun
  | [d1, d2] => { results := [.lit (.bool true)], args := [d1, d2] }
  | _ => none }
def fnExactRowmotionRow : OpenClaim := { program := "ytbjidoihnbjjdaa", sum := "41ef9f7cb55248a87f6ce065abb173fb9e44a8b4f543a7f748b8d8ecf84000e5", func := "loop.example/g01138/laws.FnExactRowmotion", spec := "fnExactRowmotion", unfollowed := true, recurses := true, apart := false }
def FnExactRowmotionSaid : Prop := fnExactRowmotionRow.holds Try.pinned (OpenSpec.ofChange fnExactRowmotionSpec)

/-- ITS FALSE NEIGHBOUR: 'it returns false'. Refute it at one input. -/
def fnExactRowmotionWrong : ChangeSpec := { name := "fnExactRowmotion", fn := fun _ => fun
  | [d1, d2] => { results := [.lit (.bool false)], args := [d1, d2] }
  | _ => none }
def FnExactRowmotionWrongFalsely : Prop := fnExactRowmotionRow.holds Try.pinned (OpenSpec.ofChange fnExactRowmotionWrong)

/- THE SECOND FORM. 'bulk': how many values and letters a reading holds, each counted each time it is reached (what is shared counts as often as it is met; a slice's spare places count too). A statement '..UptoSaid' is the law's where the arguments, and the package variables that the reading takes, are together of bulk at most 1048576: NARROWER than '..Said'. Prove '..Said' where nothing that the law and all that it calls make is longer than what came in: it says more and counts as full. Else prove '..UptoSaid'. A law counts once. -/
mutual
def uptoBulk {H : Type} : DataW H → Nat
  | .lit (.string bytes) => bytes.length + 1
  | .lit _ => 1
  | .nil => 1
  | .ptr d => uptoBulk d + 1
  | .slice elems spare => uptoBulkAll elems + uptoBulkAll spare + 1
  | .agg parts => uptoBulkAll parts + 1
  | .iface _ d => uptoBulk d + 1
  | .map entries => uptoBulkEntries entries + 1
  | .held _ => 1
def uptoBulkAll {H : Type} : List (DataW H) → Nat
  | [] => 0
  | d :: r => uptoBulk d + uptoBulkAll r
def uptoBulkEntries {H : Type} : List (Lit × DataW H) → Nat
  | [] => 0
  | x :: r => uptoBulkEntry x + uptoBulkEntries r
def uptoBulkEntry {H : Type} : Lit × DataW H → Nat
  | (.string bytes, d) => bytes.length + uptoBulk d + 1
  | (_, d) => uptoBulk d + 1
 end
def uptoSmall : (H : Type) → List (DataW H) → Bool := fun _ ds => decide (uptoBulkAll ds ≤ 1048576)
def OpenSpec.upto (s : _root_.Go.ChangeSpec) : _root_.Go.OpenSpec := { _root_.Go.OpenSpec.ofChange s with cond := some uptoSmall }

/-- 'laws.FnExactIsRanked', WHERE WHAT IT READS IS OF BULK AT MOST 1048576: true; the input reads as it did. -/
def fnExactIsRankedUptoRow : OpenClaim := { program := "ytbjidoihnbjjdaa", sum := "41ef9f7cb55248a87f6ce065abb173fb9e44a8b4f543a7f748b8d8ecf84000e5", func := "loop.example/g01138/laws.FnExactIsRanked", spec := "fnExactIsRanked", apart := false, narrowed := true }
def FnExactIsRankedUptoSaid : Prop := fnExactIsRankedUptoRow.holds Try.pinned (OpenSpec.upto fnExactIsRankedSpec)

/-- 'laws.FnExactFromCovers', WHERE WHAT IT READS IS OF BULK AT MOST 1048576: true; the input reads as it did. -/
def fnExactFromCoversUptoRow : OpenClaim := { program := "ytbjidoihnbjjdaa", sum := "41ef9f7cb55248a87f6ce065abb173fb9e44a8b4f543a7f748b8d8ecf84000e5", func := "loop.example/g01138/laws.FnExactFromCovers", spec := "fnExactFromCovers", apart := false, narrowed := true }
def FnExactFromCoversUptoSaid : Prop := fnExactFromCoversUptoRow.holds Try.pinned (OpenSpec.upto fnExactFromCoversSpec)

/-- 'laws.FnExactSumOf', WHERE WHAT IT READS IS OF BULK AT MOST 1048576: true; the input reads as it did. -/
def fnExactSumOfUptoRow : OpenClaim := { program := "ytbjidoihnbjjdaa", sum := "41ef9f7cb55248a87f6ce065abb173fb9e44a8b4f543a7f748b8d8ecf84000e5", func := "loop.example/g01138/laws.FnExactSumOf", spec := "fnExactSumOf", unfollowed := true, recurses := true, apart := false, narrowed := true }
def FnExactSumOfUptoSaid : Prop := fnExactSumOfUptoRow.holds Try.pinned (OpenSpec.upto fnExactSumOfSpec)

/-- 'laws.FnExactStackOf', WHERE WHAT IT READS IS OF BULK AT MOST 1048576: true; the input reads as it did. -/
def fnExactStackOfUptoRow : OpenClaim := { program := "ytbjidoihnbjjdaa", sum := "41ef9f7cb55248a87f6ce065abb173fb9e44a8b4f543a7f748b8d8ecf84000e5", func := "loop.example/g01138/laws.FnExactStackOf", spec := "fnExactStackOf", unfollowed := true, recurses := true, apart := false, narrowed := true }
def FnExactStackOfUptoSaid : Prop := fnExactStackOfUptoRow.holds Try.pinned (OpenSpec.upto fnExactStackOfSpec)

/-- 'laws.FnExactStaircase', WHERE WHAT IT READS IS OF BULK AT MOST 1048576: true; the input reads as it did. -/
def fnExactStaircaseUptoRow : OpenClaim := { program := "ytbjidoihnbjjdaa", sum := "41ef9f7cb55248a87f6ce065abb173fb9e44a8b4f543a7f748b8d8ecf84000e5", func := "loop.example/g01138/laws.FnExactStaircase", spec := "fnExactStaircase", unfollowed := true, recurses := true, apart := false, narrowed := true }
def FnExactStaircaseUptoSaid : Prop := fnExactStaircaseUptoRow.holds Try.pinned (OpenSpec.upto fnExactStaircaseSpec)

/-- 'laws.FnExactIsOrder', WHERE WHAT IT READS IS OF BULK AT MOST 1048576: true; the input reads as it did. -/
def fnExactIsOrderUptoRow : OpenClaim := { program := "ytbjidoihnbjjdaa", sum := "41ef9f7cb55248a87f6ce065abb173fb9e44a8b4f543a7f748b8d8ecf84000e5", func := "loop.example/g01138/laws.FnExactIsOrder", spec := "fnExactIsOrder", apart := false, narrowed := true }
def FnExactIsOrderUptoSaid : Prop := fnExactIsOrderUptoRow.holds Try.pinned (OpenSpec.upto fnExactIsOrderSpec)

/-- 'laws.FnExactToggleAt', WHERE WHAT IT READS IS OF BULK AT MOST 1048576: true; the input reads as it did. -/
def fnExactToggleAtUptoRow : OpenClaim := { program := "ytbjidoihnbjjdaa", sum := "41ef9f7cb55248a87f6ce065abb173fb9e44a8b4f543a7f748b8d8ecf84000e5", func := "loop.example/g01138/laws.FnExactToggleAt", spec := "fnExactToggleAt", unfollowed := true, recurses := true, apart := false, narrowed := true }
def FnExactToggleAtUptoSaid : Prop := fnExactToggleAtUptoRow.holds Try.pinned (OpenSpec.upto fnExactToggleAtSpec)

/-- 'laws.FnExactToggleWord', WHERE WHAT IT READS IS OF BULK AT MOST 1048576: true; the input reads as it did. -/
def fnExactToggleWordUptoRow : OpenClaim := { program := "ytbjidoihnbjjdaa", sum := "41ef9f7cb55248a87f6ce065abb173fb9e44a8b4f543a7f748b8d8ecf84000e5", func := "loop.example/g01138/laws.FnExactToggleWord", spec := "fnExactToggleWord", unfollowed := true, recurses := true, apart := false, narrowed := true }
def FnExactToggleWordUptoSaid : Prop := fnExactToggleWordUptoRow.holds Try.pinned (OpenSpec.upto fnExactToggleWordSpec)

/-- 'laws.FnExactCanToggle', WHERE WHAT IT READS IS OF BULK AT MOST 1048576: true; the input reads as it did. -/
def fnExactCanToggleUptoRow : OpenClaim := { program := "ytbjidoihnbjjdaa", sum := "41ef9f7cb55248a87f6ce065abb173fb9e44a8b4f543a7f748b8d8ecf84000e5", func := "loop.example/g01138/laws.FnExactCanToggle", spec := "fnExactCanToggle", apart := false, narrowed := true }
def FnExactCanToggleUptoSaid : Prop := fnExactCanToggleUptoRow.holds Try.pinned (OpenSpec.upto fnExactCanToggleSpec)

/-- 'laws.FnExactRowmotion', WHERE WHAT IT READS IS OF BULK AT MOST 1048576: true; the input reads as it did. -/
def fnExactRowmotionUptoRow : OpenClaim := { program := "ytbjidoihnbjjdaa", sum := "41ef9f7cb55248a87f6ce065abb173fb9e44a8b4f543a7f748b8d8ecf84000e5", func := "loop.example/g01138/laws.FnExactRowmotion", spec := "fnExactRowmotion", unfollowed := true, recurses := true, apart := false, narrowed := true }
def FnExactRowmotionUptoSaid : Prop := fnExactRowmotionUptoRow.holds Try.pinned (OpenSpec.upto fnExactRowmotionSpec)

end Rows
end Go.Proofs.Ytbjidoihnbjjdaa
