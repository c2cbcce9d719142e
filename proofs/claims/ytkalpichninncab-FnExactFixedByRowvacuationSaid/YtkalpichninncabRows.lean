/-
  No cell of these rows narrows 'for every input' (looked for: loops, veiled, ifaces, maps, wideKeys, modest, calm, conditions, laid).
  DERIVED. THE GIVEN ROWS OF THIS SEAT. 6 by the template 'for every input the law returns true; each argument reads behind the call as it read before'; 0 by the template 'total and deterministic' (their statements: YtkalpichninncabTotals.lean).
  GIVEN WITH THE SEED: the statements are not yours to turn. If you find one false, say at which input.
  Laid BY PROGRAM, IN A SANDBOX (cutbox-rows.mjs): the forced cells as the released guide's own fill.sh prints them over the translation bb62bbfe694d01c0… (all of the seat's roots in one cut). By AI agents, Wed Nov 11 2026. No macro, syntax, notation, axiom, sorry.
-/
import Derived.Test.YtkalpichninncabChecked
import GoSem.Claim
import GoSem.ClaimJoined
import GoSem.ClaimMapViews
import Derived.JoinedTies
import Derived.KernelRfl
namespace Go.Proofs.Ytkalpichninncab
/- THE CELL 'sum', in the pinned program and in every row, IS THE sha256 OF THE DUMP (.gsa) THAT YtkalpichninncabProg.lean LOADS. Nothing in Lean hashes anything: it is a label: what it is worth is what the hold of that sum in a sandbox is worth. -/
noncomputable def Try.pinned : Pinned := { name := "ytkalpichninncab", sum := "bb62bbfe694d01c05017a085f29f65bddf33f7828f7487017c9ecfe3bd4fff06", checked := Try.checked }
namespace Rows
def none {H : Type} : Left H := { results := [], args := [] }

/-- 'laws.FnExactRowvacuationWord': WHATEVER THE INPUT: true; the input reads as it did. -/
def fnExactRowvacuationWordSpec : ChangeSpec := { name := "fnExactRowvacuationWord", fn := fun _ => fun
  | [d] => { results := [.lit (.bool true)], args := [d] }
  | _ => none }
def fnExactRowvacuationWordRow : OpenClaim := { program := "ytkalpichninncab", sum := "bb62bbfe694d01c05017a085f29f65bddf33f7828f7487017c9ecfe3bd4fff06", func := "loop.example/g01138/laws.FnExactRowvacuationWord", spec := "fnExactRowvacuationWord", unfollowed := true, recurses := true, apart := false }
def FnExactRowvacuationWordSaid : Prop := fnExactRowvacuationWordRow.holds Try.pinned (OpenSpec.ofChange fnExactRowvacuationWordSpec)

/-- ITS FALSE NEIGHBOUR: 'it returns false'. Refute it at one input. -/
def fnExactRowvacuationWordWrong : ChangeSpec := { name := "fnExactRowvacuationWord", fn := fun _ => fun
  | [d] => { results := [.lit (.bool false)], args := [d] }
  | _ => none }
def FnExactRowvacuationWordWrongFalsely : Prop := fnExactRowvacuationWordRow.holds Try.pinned (OpenSpec.ofChange fnExactRowvacuationWordWrong)

/-- 'laws.FnExactFixedByRowvacuation': WHATEVER THE INPUT: true; the input reads as it did. -/
def fnExactFixedByRowvacuationSpec : ChangeSpec := { name := "fnExactFixedByRowvacuation", fn := fun _ => fun
  | [d] => { results := [.lit (.bool true)], args := [d] }
  | _ => none }
def fnExactFixedByRowvacuationRow : OpenClaim := { program := "ytkalpichninncab", sum := "bb62bbfe694d01c05017a085f29f65bddf33f7828f7487017c9ecfe3bd4fff06", func := "loop.example/g01138/laws.FnExactFixedByRowvacuation", spec := "fnExactFixedByRowvacuation", unfollowed := true, recurses := true, apart := false }
def FnExactFixedByRowvacuationSaid : Prop := fnExactFixedByRowvacuationRow.holds Try.pinned (OpenSpec.ofChange fnExactFixedByRowvacuationSpec)

/-- ITS FALSE NEIGHBOUR: 'it returns false'. Refute it at one input. -/
def fnExactFixedByRowvacuationWrong : ChangeSpec := { name := "fnExactFixedByRowvacuation", fn := fun _ => fun
  | [d] => { results := [.lit (.bool false)], args := [d] }
  | _ => none }
def FnExactFixedByRowvacuationWrongFalsely : Prop := fnExactFixedByRowvacuationRow.holds Try.pinned (OpenSpec.ofChange fnExactFixedByRowvacuationWrong)

/-- 'laws.FnExactGyrationLengths': WHATEVER THE INPUT: true; the input reads as it did. -/
def fnExactGyrationLengthsSpec : ChangeSpec := { name := "fnExactGyrationLengths", fn := fun _ => fun
  | [d] => { results := [.lit (.bool true)], args := [d] }
  | _ => none }
def fnExactGyrationLengthsRow : OpenClaim := { program := "ytkalpichninncab", sum := "bb62bbfe694d01c05017a085f29f65bddf33f7828f7487017c9ecfe3bd4fff06", func := "loop.example/g01138/laws.FnExactGyrationLengths", spec := "fnExactGyrationLengths", unfollowed := true, recurses := true, apart := false }
def FnExactGyrationLengthsSaid : Prop := fnExactGyrationLengthsRow.holds Try.pinned (OpenSpec.ofChange fnExactGyrationLengthsSpec)

/-- ITS FALSE NEIGHBOUR: 'it returns false'. Refute it at one input. -/
def fnExactGyrationLengthsWrong : ChangeSpec := { name := "fnExactGyrationLengths", fn := fun _ => fun
  | [d] => { results := [.lit (.bool false)], args := [d] }
  | _ => none }
def FnExactGyrationLengthsWrongFalsely : Prop := fnExactGyrationLengthsRow.holds Try.pinned (OpenSpec.ofChange fnExactGyrationLengthsWrong)

/-- 'laws.FnExactDualIdeal': WHATEVER THE INPUT: true; the input reads as it did. -/
def fnExactDualIdealSpec : ChangeSpec := { name := "fnExactDualIdeal", fn := fun _ => fun
  | [d1, d2] => { results := [.lit (.bool true)], args := [d1, d2] }
  | _ => none }
def fnExactDualIdealRow : OpenClaim := { program := "ytkalpichninncab", sum := "bb62bbfe694d01c05017a085f29f65bddf33f7828f7487017c9ecfe3bd4fff06", func := "loop.example/g01138/laws.FnExactDualIdeal", spec := "fnExactDualIdeal", apart := false }
def FnExactDualIdealSaid : Prop := fnExactDualIdealRow.holds Try.pinned (OpenSpec.ofChange fnExactDualIdealSpec)

/-- ITS FALSE NEIGHBOUR: 'it returns false'. Refute it at one input. -/
def fnExactDualIdealWrong : ChangeSpec := { name := "fnExactDualIdeal", fn := fun _ => fun
  | [d1, d2] => { results := [.lit (.bool false)], args := [d1, d2] }
  | _ => none }
def FnExactDualIdealWrongFalsely : Prop := fnExactDualIdealRow.holds Try.pinned (OpenSpec.ofChange fnExactDualIdealWrong)

/-- 'laws.FnExactRowOnDual': WHATEVER THE INPUT: true; the input reads as it did. -/
def fnExactRowOnDualSpec : ChangeSpec := { name := "fnExactRowOnDual", fn := fun _ => fun
  | [d1, d2] => { results := [.lit (.bool true)], args := [d1, d2] }
  | _ => none }
def fnExactRowOnDualRow : OpenClaim := { program := "ytkalpichninncab", sum := "bb62bbfe694d01c05017a085f29f65bddf33f7828f7487017c9ecfe3bd4fff06", func := "loop.example/g01138/laws.FnExactRowOnDual", spec := "fnExactRowOnDual", unfollowed := true, recurses := true, apart := false }
def FnExactRowOnDualSaid : Prop := fnExactRowOnDualRow.holds Try.pinned (OpenSpec.ofChange fnExactRowOnDualSpec)

/-- ITS FALSE NEIGHBOUR: 'it returns false'. Refute it at one input. -/
def fnExactRowOnDualWrong : ChangeSpec := { name := "fnExactRowOnDual", fn := fun _ => fun
  | [d1, d2] => { results := [.lit (.bool false)], args := [d1, d2] }
  | _ => none }
def FnExactRowOnDualWrongFalsely : Prop := fnExactRowOnDualRow.holds Try.pinned (OpenSpec.ofChange fnExactRowOnDualWrong)

/-- 'laws.FnExactSortedLengths': WHATEVER THE INPUT: true; the input reads as it did. -/
def fnExactSortedLengthsSpec : ChangeSpec := { name := "fnExactSortedLengths", fn := fun _ => fun
  | [d] => { results := [.lit (.bool true)], args := [d] }
  | _ => none }
def fnExactSortedLengthsRow : OpenClaim := { program := "ytkalpichninncab", sum := "bb62bbfe694d01c05017a085f29f65bddf33f7828f7487017c9ecfe3bd4fff06", func := "loop.example/g01138/laws.FnExactSortedLengths", spec := "fnExactSortedLengths", unfollowed := true, recurses := true, apart := false }
def FnExactSortedLengthsSaid : Prop := fnExactSortedLengthsRow.holds Try.pinned (OpenSpec.ofChange fnExactSortedLengthsSpec)

/-- ITS FALSE NEIGHBOUR: 'it returns false'. Refute it at one input. -/
def fnExactSortedLengthsWrong : ChangeSpec := { name := "fnExactSortedLengths", fn := fun _ => fun
  | [d] => { results := [.lit (.bool false)], args := [d] }
  | _ => none }
def FnExactSortedLengthsWrongFalsely : Prop := fnExactSortedLengthsRow.holds Try.pinned (OpenSpec.ofChange fnExactSortedLengthsWrong)

/- THE SECOND FORM. 'bulk': how many values and letters a reading holds, each counted each time it is reached (what is shared counts as often as it is met; a slice's spare places count too). A statement '..UptoSaid' is the law's where the arguments, and the package variables that the reading takes, are together of bulk at most 1048576: NARROWER than '..Said'. Prove '..Said' where nothing that the law and all that it calls make is longer than what came in: it says more and counts as full. Else prove '..UptoSaid'. A law counts once. -/
mutual
def uptoBulk {H : Type} : DataW H → Nat
  | .lit (.string bytes) => bytes.length + 1
  | .lit _ => 1
  | .nil => 1
  | .ptr d => uptoBulk d + 1
  | .slice elems spare => uptoBulkAll elems + uptoBulkAll spare + 1
  | .agg parts => uptoBulkAll parts + 1
  | .iface _ d => uptoBulk d + 1
  | .map entries => uptoBulkEntries entries + 1
  | .held _ => 1
def uptoBulkAll {H : Type} : List (DataW H) → Nat
  | [] => 0
  | d :: r => uptoBulk d + uptoBulkAll r
def uptoBulkEntries {H : Type} : List (Lit × DataW H) → Nat
  | [] => 0
  | x :: r => uptoBulkEntry x + uptoBulkEntries r
def uptoBulkEntry {H : Type} : Lit × DataW H → Nat
  | (.string bytes, d) => bytes.length + uptoBulk d + 1
  | (_, d) => uptoBulk d + 1
 end
def uptoSmall : (H : Type) → List (DataW H) → Bool := fun _ ds => decide (uptoBulkAll ds ≤ 1048576)
def OpenSpec.upto (s : _root_.Go.ChangeSpec) : _root_.Go.OpenSpec := { _root_.Go.OpenSpec.ofChange s with cond := some uptoSmall }

/-- 'laws.FnExactRowvacuationWord', WHERE WHAT IT READS IS OF BULK AT MOST 1048576: true; the input reads as it did. -/
def fnExactRowvacuationWordUptoRow : OpenClaim := { program := "ytkalpichninncab", sum := "bb62bbfe694d01c05017a085f29f65bddf33f7828f7487017c9ecfe3bd4fff06", func := "loop.example/g01138/laws.FnExactRowvacuationWord", spec := "fnExactRowvacuationWord", unfollowed := true, recurses := true, apart := false, narrowed := true }
def FnExactRowvacuationWordUptoSaid : Prop := fnExactRowvacuationWordUptoRow.holds Try.pinned (OpenSpec.upto fnExactRowvacuationWordSpec)

/-- 'laws.FnExactFixedByRowvacuation', WHERE WHAT IT READS IS OF BULK AT MOST 1048576: true; the input reads as it did. -/
def fnExactFixedByRowvacuationUptoRow : OpenClaim := { program := "ytkalpichninncab", sum := "bb62bbfe694d01c05017a085f29f65bddf33f7828f7487017c9ecfe3bd4fff06", func := "loop.example/g01138/laws.FnExactFixedByRowvacuation", spec := "fnExactFixedByRowvacuation", unfollowed := true, recurses := true, apart := false, narrowed := true }
def FnExactFixedByRowvacuationUptoSaid : Prop := fnExactFixedByRowvacuationUptoRow.holds Try.pinned (OpenSpec.upto fnExactFixedByRowvacuationSpec)

/-- 'laws.FnExactGyrationLengths', WHERE WHAT IT READS IS OF BULK AT MOST 1048576: true; the input reads as it did. -/
def fnExactGyrationLengthsUptoRow : OpenClaim := { program := "ytkalpichninncab", sum := "bb62bbfe694d01c05017a085f29f65bddf33f7828f7487017c9ecfe3bd4fff06", func := "loop.example/g01138/laws.FnExactGyrationLengths", spec := "fnExactGyrationLengths", unfollowed := true, recurses := true, apart := false, narrowed := true }
def FnExactGyrationLengthsUptoSaid : Prop := fnExactGyrationLengthsUptoRow.holds Try.pinned (OpenSpec.upto fnExactGyrationLengthsSpec)

/-- 'laws.FnExactDualIdeal', WHERE WHAT IT READS IS OF BULK AT MOST 1048576: true; the input reads as it did. -/
def fnExactDualIdealUptoRow : OpenClaim := { program := "ytkalpichninncab", sum := "bb62bbfe694d01c05017a085f29f65bddf33f7828f7487017c9ecfe3bd4fff06", func := "loop.example/g01138/laws.FnExactDualIdeal", spec := "fnExactDualIdeal", apart := false, narrowed := true }
def FnExactDualIdealUptoSaid : Prop := fnExactDualIdealUptoRow.holds Try.pinned (OpenSpec.upto fnExactDualIdealSpec)

/-- 'laws.FnExactRowOnDual', WHERE WHAT IT READS IS OF BULK AT MOST 1048576: true; the input reads as it did. -/
def fnExactRowOnDualUptoRow : OpenClaim := { program := "ytkalpichninncab", sum := "bb62bbfe694d01c05017a085f29f65bddf33f7828f7487017c9ecfe3bd4fff06", func := "loop.example/g01138/laws.FnExactRowOnDual", spec := "fnExactRowOnDual", unfollowed := true, recurses := true, apart := false, narrowed := true }
def FnExactRowOnDualUptoSaid : Prop := fnExactRowOnDualUptoRow.holds Try.pinned (OpenSpec.upto fnExactRowOnDualSpec)

/-- 'laws.FnExactSortedLengths', WHERE WHAT IT READS IS OF BULK AT MOST 1048576: true; the input reads as it did. -/
def fnExactSortedLengthsUptoRow : OpenClaim := { program := "ytkalpichninncab", sum := "bb62bbfe694d01c05017a085f29f65bddf33f7828f7487017c9ecfe3bd4fff06", func := "loop.example/g01138/laws.FnExactSortedLengths", spec := "fnExactSortedLengths", unfollowed := true, recurses := true, apart := false, narrowed := true }
def FnExactSortedLengthsUptoSaid : Prop := fnExactSortedLengthsUptoRow.holds Try.pinned (OpenSpec.upto fnExactSortedLengthsSpec)

end Rows
end Go.Proofs.Ytkalpichninncab
