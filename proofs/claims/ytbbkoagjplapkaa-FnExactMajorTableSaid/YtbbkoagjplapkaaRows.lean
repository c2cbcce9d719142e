/-
  No cell of these rows narrows 'for every input' (looked for: loops, veiled, ifaces, maps, wideKeys, modest, calm, conditions, laid).
  DERIVED. THE GIVEN ROWS OF THIS SEAT. 12 by the template 'for every input the law returns true; each argument reads behind the call as it read before'; 0 by the template 'total and deterministic' (their statements: YtbbkoagjplapkaaTotals.lean).
  GIVEN WITH THE SEED: the statements are not yours to turn. If you find one false, say at which input.
  Laid BY PROGRAM, IN A SANDBOX (cutbox-rows.mjs): the forced cells as the released guide's own fill.sh prints them over the translation 920d4499d4752368… (all of the seat's roots in one cut). By AI agents, Wed Nov 11 2026. No macro, syntax, notation, axiom, sorry.
-/
import Derived.Test.YtbbkoagjplapkaaChecked
import GoSem.Claim
import GoSem.ClaimJoined
import GoSem.ClaimMapViews
import Derived.JoinedTies
import Derived.KernelRfl
namespace Go.Proofs.Ytbbkoagjplapkaa
/- THE CELL 'sum', in the pinned program and in every row, IS THE sha256 OF THE DUMP (.gsa) THAT YtbbkoagjplapkaaProg.lean LOADS. Nothing in Lean hashes anything: it is a label: what it is worth is what the hold of that sum in a sandbox is worth. -/
noncomputable def Try.pinned : Pinned := { name := "ytbbkoagjplapkaa", sum := "920d4499d4752368590d166390d5210141d94296bae82392cd6f0e8de2dca340", checked := Try.checked }
namespace Rows
def none {H : Type} : Left H := { results := [], args := [] }

/-- 'laws.FnExactIsTableau': WHATEVER THE INPUT: true; the input reads as it did. -/
def fnExactIsTableauSpec : ChangeSpec := { name := "fnExactIsTableau", fn := fun _ => fun
  | [d] => { results := [.lit (.bool true)], args := [d] }
  | _ => none }
def fnExactIsTableauRow : OpenClaim := { program := "ytbbkoagjplapkaa", sum := "920d4499d4752368590d166390d5210141d94296bae82392cd6f0e8de2dca340", func := "loop.example/g01138/laws.FnExactIsTableau", spec := "fnExactIsTableau", unfollowed := true, recurses := true, apart := false }
def FnExactIsTableauSaid : Prop := fnExactIsTableauRow.holds Try.pinned (OpenSpec.ofChange fnExactIsTableauSpec)

/-- ITS FALSE NEIGHBOUR: 'it returns false'. Refute it at one input. -/
def fnExactIsTableauWrong : ChangeSpec := { name := "fnExactIsTableau", fn := fun _ => fun
  | [d] => { results := [.lit (.bool false)], args := [d] }
  | _ => none }
def FnExactIsTableauWrongFalsely : Prop := fnExactIsTableauRow.holds Try.pinned (OpenSpec.ofChange fnExactIsTableauWrong)

/-- 'laws.FnExactTableauOf': WHATEVER THE INPUT: true; the input reads as it did. -/
def fnExactTableauOfSpec : ChangeSpec := { name := "fnExactTableauOf", fn := fun _ => fun
  | [d1, d2, d3] => { results := [.lit (.bool true)], args := [d1, d2, d3] }
  | _ => none }
def fnExactTableauOfRow : OpenClaim := { program := "ytbbkoagjplapkaa", sum := "920d4499d4752368590d166390d5210141d94296bae82392cd6f0e8de2dca340", func := "loop.example/g01138/laws.FnExactTableauOf", spec := "fnExactTableauOf", unfollowed := true, recurses := true, apart := false }
def FnExactTableauOfSaid : Prop := fnExactTableauOfRow.holds Try.pinned (OpenSpec.ofChange fnExactTableauOfSpec)

/-- ITS FALSE NEIGHBOUR: 'it returns false'. Refute it at one input. -/
def fnExactTableauOfWrong : ChangeSpec := { name := "fnExactTableauOf", fn := fun _ => fun
  | [d1, d2, d3] => { results := [.lit (.bool false)], args := [d1, d2, d3] }
  | _ => none }
def FnExactTableauOfWrongFalsely : Prop := fnExactTableauOfRow.holds Try.pinned (OpenSpec.ofChange fnExactTableauOfWrong)

/-- 'laws.FnExactLinearOf': WHATEVER THE INPUT: true; the input reads as it did. -/
def fnExactLinearOfSpec : ChangeSpec := { name := "fnExactLinearOf", fn := fun _ => fun
  | [d] => { results := [.lit (.bool true)], args := [d] }
  | _ => none }
def fnExactLinearOfRow : OpenClaim := { program := "ytbbkoagjplapkaa", sum := "920d4499d4752368590d166390d5210141d94296bae82392cd6f0e8de2dca340", func := "loop.example/g01138/laws.FnExactLinearOf", spec := "fnExactLinearOf", unfollowed := true, recurses := true, apart := false }
def FnExactLinearOfSaid : Prop := fnExactLinearOfRow.holds Try.pinned (OpenSpec.ofChange fnExactLinearOfSpec)

/-- ITS FALSE NEIGHBOUR: 'it returns false'. Refute it at one input. -/
def fnExactLinearOfWrong : ChangeSpec := { name := "fnExactLinearOf", fn := fun _ => fun
  | [d] => { results := [.lit (.bool false)], args := [d] }
  | _ => none }
def FnExactLinearOfWrongFalsely : Prop := fnExactLinearOfRow.holds Try.pinned (OpenSpec.ofChange fnExactLinearOfWrong)

/-- 'laws.FnExactHookOf': WHATEVER THE INPUT: true; the input reads as it did. -/
def fnExactHookOfSpec : ChangeSpec := { name := "fnExactHookOf", fn := fun _ => fun
  | [d1, d2, d3, d4] => { results := [.lit (.bool true)], args := [d1, d2, d3, d4] }
  | _ => none }
def fnExactHookOfRow : OpenClaim := { program := "ytbbkoagjplapkaa", sum := "920d4499d4752368590d166390d5210141d94296bae82392cd6f0e8de2dca340", func := "loop.example/g01138/laws.FnExactHookOf", spec := "fnExactHookOf", unfollowed := true, recurses := true, apart := false }
def FnExactHookOfSaid : Prop := fnExactHookOfRow.holds Try.pinned (OpenSpec.ofChange fnExactHookOfSpec)

/-- ITS FALSE NEIGHBOUR: 'it returns false'. Refute it at one input. -/
def fnExactHookOfWrong : ChangeSpec := { name := "fnExactHookOf", fn := fun _ => fun
  | [d1, d2, d3, d4] => { results := [.lit (.bool false)], args := [d1, d2, d3, d4] }
  | _ => none }
def FnExactHookOfWrongFalsely : Prop := fnExactHookOfRow.holds Try.pinned (OpenSpec.ofChange fnExactHookOfWrong)

/-- 'laws.FnExactPromoteTableau': WHATEVER THE INPUT: true; the input reads as it did. -/
def fnExactPromoteTableauSpec : ChangeSpec := { name := "fnExactPromoteTableau", fn := fun _ => fun
  | [d] => { results := [.lit (.bool true)], args := [d] }
  | _ => none }
def fnExactPromoteTableauRow : OpenClaim := { program := "ytbbkoagjplapkaa", sum := "920d4499d4752368590d166390d5210141d94296bae82392cd6f0e8de2dca340", func := "loop.example/g01138/laws.FnExactPromoteTableau", spec := "fnExactPromoteTableau", unfollowed := true, recurses := true, apart := false }
def FnExactPromoteTableauSaid : Prop := fnExactPromoteTableauRow.holds Try.pinned (OpenSpec.ofChange fnExactPromoteTableauSpec)

/-- ITS FALSE NEIGHBOUR: 'it returns false'. Refute it at one input. -/
def fnExactPromoteTableauWrong : ChangeSpec := { name := "fnExactPromoteTableau", fn := fun _ => fun
  | [d] => { results := [.lit (.bool false)], args := [d] }
  | _ => none }
def FnExactPromoteTableauWrongFalsely : Prop := fnExactPromoteTableauRow.holds Try.pinned (OpenSpec.ofChange fnExactPromoteTableauWrong)

/-- 'laws.FnExactEvacuateTableau': WHATEVER THE INPUT: true; the input reads as it did. -/
def fnExactEvacuateTableauSpec : ChangeSpec := { name := "fnExactEvacuateTableau", fn := fun _ => fun
  | [d] => { results := [.lit (.bool true)], args := [d] }
  | _ => none }
def fnExactEvacuateTableauRow : OpenClaim := { program := "ytbbkoagjplapkaa", sum := "920d4499d4752368590d166390d5210141d94296bae82392cd6f0e8de2dca340", func := "loop.example/g01138/laws.FnExactEvacuateTableau", spec := "fnExactEvacuateTableau", unfollowed := true, recurses := true, apart := false }
def FnExactEvacuateTableauSaid : Prop := fnExactEvacuateTableauRow.holds Try.pinned (OpenSpec.ofChange fnExactEvacuateTableauSpec)

/-- ITS FALSE NEIGHBOUR: 'it returns false'. Refute it at one input. -/
def fnExactEvacuateTableauWrong : ChangeSpec := { name := "fnExactEvacuateTableau", fn := fun _ => fun
  | [d] => { results := [.lit (.bool false)], args := [d] }
  | _ => none }
def FnExactEvacuateTableauWrongFalsely : Prop := fnExactEvacuateTableauRow.holds Try.pinned (OpenSpec.ofChange fnExactEvacuateTableauWrong)

/-- 'laws.FnExactTurnTableau': WHATEVER THE INPUT: true; the input reads as it did. -/
def fnExactTurnTableauSpec : ChangeSpec := { name := "fnExactTurnTableau", fn := fun _ => fun
  | [d] => { results := [.lit (.bool true)], args := [d] }
  | _ => none }
def fnExactTurnTableauRow : OpenClaim := { program := "ytbbkoagjplapkaa", sum := "920d4499d4752368590d166390d5210141d94296bae82392cd6f0e8de2dca340", func := "loop.example/g01138/laws.FnExactTurnTableau", spec := "fnExactTurnTableau", unfollowed := true, recurses := true, apart := false }
def FnExactTurnTableauSaid : Prop := fnExactTurnTableauRow.holds Try.pinned (OpenSpec.ofChange fnExactTurnTableauSpec)

/-- ITS FALSE NEIGHBOUR: 'it returns false'. Refute it at one input. -/
def fnExactTurnTableauWrong : ChangeSpec := { name := "fnExactTurnTableau", fn := fun _ => fun
  | [d] => { results := [.lit (.bool false)], args := [d] }
  | _ => none }
def FnExactTurnTableauWrongFalsely : Prop := fnExactTurnTableauRow.holds Try.pinned (OpenSpec.ofChange fnExactTurnTableauWrong)

/-- 'laws.FnExactDescentsOf': WHATEVER THE INPUT: true; the input reads as it did. -/
def fnExactDescentsOfSpec : ChangeSpec := { name := "fnExactDescentsOf", fn := fun _ => fun
  | [d] => { results := [.lit (.bool true)], args := [d] }
  | _ => none }
def fnExactDescentsOfRow : OpenClaim := { program := "ytbbkoagjplapkaa", sum := "920d4499d4752368590d166390d5210141d94296bae82392cd6f0e8de2dca340", func := "loop.example/g01138/laws.FnExactDescentsOf", spec := "fnExactDescentsOf", unfollowed := true, recurses := true, apart := false }
def FnExactDescentsOfSaid : Prop := fnExactDescentsOfRow.holds Try.pinned (OpenSpec.ofChange fnExactDescentsOfSpec)

/-- ITS FALSE NEIGHBOUR: 'it returns false'. Refute it at one input. -/
def fnExactDescentsOfWrong : ChangeSpec := { name := "fnExactDescentsOf", fn := fun _ => fun
  | [d] => { results := [.lit (.bool false)], args := [d] }
  | _ => none }
def FnExactDescentsOfWrongFalsely : Prop := fnExactDescentsOfRow.holds Try.pinned (OpenSpec.ofChange fnExactDescentsOfWrong)

/-- 'laws.FnExactMajorOf': WHATEVER THE INPUT: true; the input reads as it did. -/
def fnExactMajorOfSpec : ChangeSpec := { name := "fnExactMajorOf", fn := fun _ => fun
  | [d] => { results := [.lit (.bool true)], args := [d] }
  | _ => none }
def fnExactMajorOfRow : OpenClaim := { program := "ytbbkoagjplapkaa", sum := "920d4499d4752368590d166390d5210141d94296bae82392cd6f0e8de2dca340", func := "loop.example/g01138/laws.FnExactMajorOf", spec := "fnExactMajorOf", unfollowed := true, recurses := true, apart := false }
def FnExactMajorOfSaid : Prop := fnExactMajorOfRow.holds Try.pinned (OpenSpec.ofChange fnExactMajorOfSpec)

/-- ITS FALSE NEIGHBOUR: 'it returns false'. Refute it at one input. -/
def fnExactMajorOfWrong : ChangeSpec := { name := "fnExactMajorOf", fn := fun _ => fun
  | [d] => { results := [.lit (.bool false)], args := [d] }
  | _ => none }
def FnExactMajorOfWrongFalsely : Prop := fnExactMajorOfRow.holds Try.pinned (OpenSpec.ofChange fnExactMajorOfWrong)

/-- 'laws.FnExactMajorTable': WHATEVER THE INPUT: true; the input reads as it did. -/
def fnExactMajorTableSpec : ChangeSpec := { name := "fnExactMajorTable", fn := fun _ => fun
  | [d1, d2] => { results := [.lit (.bool true)], args := [d1, d2] }
  | _ => none }
def fnExactMajorTableRow : OpenClaim := { program := "ytbbkoagjplapkaa", sum := "920d4499d4752368590d166390d5210141d94296bae82392cd6f0e8de2dca340", func := "loop.example/g01138/laws.FnExactMajorTable", spec := "fnExactMajorTable", unfollowed := true, recurses := true, apart := false }
def FnExactMajorTableSaid : Prop := fnExactMajorTableRow.holds Try.pinned (OpenSpec.ofChange fnExactMajorTableSpec)

/-- ITS FALSE NEIGHBOUR: 'it returns false'. Refute it at one input. -/
def fnExactMajorTableWrong : ChangeSpec := { name := "fnExactMajorTable", fn := fun _ => fun
  | [d1, d2] => { results := [.lit (.bool false)], args := [d1, d2] }
  | _ => none }
def FnExactMajorTableWrongFalsely : Prop := fnExactMajorTableRow.holds Try.pinned (OpenSpec.ofChange fnExactMajorTableWrong)

/-- 'laws.FnExactLatticeWord': WHATEVER THE INPUT: true; the input reads as it did. -/
def fnExactLatticeWordSpec : ChangeSpec := { name := "fnExactLatticeWord", fn := fun _ => fun
  | [d] => { results := [.lit (.bool true)], args := [d] }
  | _ => none }
def fnExactLatticeWordRow : OpenClaim := { program := "ytbbkoagjplapkaa", sum := "920d4499d4752368590d166390d5210141d94296bae82392cd6f0e8de2dca340", func := "loop.example/g01138/laws.FnExactLatticeWord", spec := "fnExactLatticeWord", unfollowed := true, recurses := true, apart := false }
def FnExactLatticeWordSaid : Prop := fnExactLatticeWordRow.holds Try.pinned (OpenSpec.ofChange fnExactLatticeWordSpec)

/-- ITS FALSE NEIGHBOUR: 'it returns false'. Refute it at one input. -/
def fnExactLatticeWordWrong : ChangeSpec := { name := "fnExactLatticeWord", fn := fun _ => fun
  | [d] => { results := [.lit (.bool false)], args := [d] }
  | _ => none }
def FnExactLatticeWordWrongFalsely : Prop := fnExactLatticeWordRow.holds Try.pinned (OpenSpec.ofChange fnExactLatticeWordWrong)

/-- 'laws.FnExactFromLattice': WHATEVER THE INPUT: true; the input reads as it did. -/
def fnExactFromLatticeSpec : ChangeSpec := { name := "fnExactFromLattice", fn := fun _ => fun
  | [d] => { results := [.lit (.bool true)], args := [d] }
  | _ => none }
def fnExactFromLatticeRow : OpenClaim := { program := "ytbbkoagjplapkaa", sum := "920d4499d4752368590d166390d5210141d94296bae82392cd6f0e8de2dca340", func := "loop.example/g01138/laws.FnExactFromLattice", spec := "fnExactFromLattice", unfollowed := true, recurses := true, apart := false }
def FnExactFromLatticeSaid : Prop := fnExactFromLatticeRow.holds Try.pinned (OpenSpec.ofChange fnExactFromLatticeSpec)

/-- ITS FALSE NEIGHBOUR: 'it returns false'. Refute it at one input. -/
def fnExactFromLatticeWrong : ChangeSpec := { name := "fnExactFromLattice", fn := fun _ => fun
  | [d] => { results := [.lit (.bool false)], args := [d] }
  | _ => none }
def FnExactFromLatticeWrongFalsely : Prop := fnExactFromLatticeRow.holds Try.pinned (OpenSpec.ofChange fnExactFromLatticeWrong)

/- THE SECOND FORM. 'bulk': how many values and letters a reading holds, each counted each time it is reached (what is shared counts as often as it is met; a slice's spare places count too). A statement '..UptoSaid' is the law's where the arguments, and the package variables that the reading takes, are together of bulk at most 1048576: NARROWER than '..Said'. Prove '..Said' where nothing that the law and all that it calls make is longer than what came in: it says more and counts as full. Else prove '..UptoSaid'. A law counts once. -/
mutual
def uptoBulk {H : Type} : DataW H → Nat
  | .lit (.string bytes) => bytes.length + 1
  | .lit _ => 1
  | .nil => 1
  | .ptr d => uptoBulk d + 1
  | .slice elems spare => uptoBulkAll elems + uptoBulkAll spare + 1
  | .agg parts => uptoBulkAll parts + 1
  | .iface _ d => uptoBulk d + 1
  | .map entries => uptoBulkEntries entries + 1
  | .held _ => 1
def uptoBulkAll {H : Type} : List (DataW H) → Nat
  | [] => 0
  | d :: r => uptoBulk d + uptoBulkAll r
def uptoBulkEntries {H : Type} : List (Lit × DataW H) → Nat
  | [] => 0
  | x :: r => uptoBulkEntry x + uptoBulkEntries r
def uptoBulkEntry {H : Type} : Lit × DataW H → Nat
  | (.string bytes, d) => bytes.length + uptoBulk d + 1
  | (_, d) => uptoBulk d + 1
 end
def uptoSmall : (H : Type) → List (DataW H) → Bool := fun _ ds => decide (uptoBulkAll ds ≤ 1048576)
def OpenSpec.upto (s : _root_.Go.ChangeSpec) : _root_.Go.OpenSpec := { _root_.Go.OpenSpec.ofChange s with cond := some uptoSmall }

/-- 'laws.FnExactIsTableau', WHERE WHAT IT READS IS OF BULK AT MOST 1048576: true; the input reads as it did. -/
def fnExactIsTableauUptoRow : OpenClaim := { program := "ytbbkoagjplapkaa", sum := "920d4499d4752368590d166390d5210141d94296bae82392cd6f0e8de2dca340", func := "loop.example/g01138/laws.FnExactIsTableau", spec := "fnExactIsTableau", unfollowed := true, recurses := true, apart := false, narrowed := true }
def FnExactIsTableauUptoSaid : Prop := fnExactIsTableauUptoRow.holds Try.pinned (OpenSpec.upto fnExactIsTableauSpec)

/-- 'laws.FnExactTableauOf', WHERE WHAT IT READS IS OF BULK AT MOST 1048576: true; the input reads as it did. -/
def fnExactTableauOfUptoRow : OpenClaim := { program := "ytbbkoagjplapkaa", sum := "920d4499d4752368590d166390d5210141d94296bae82392cd6f0e8de2dca340", func := "loop.example/g01138/laws.FnExactTableauOf", spec := "fnExactTableauOf", unfollowed := true, recurses := true, apart := false, narrowed := true }
def FnExactTableauOfUptoSaid : Prop := fnExactTableauOfUptoRow.holds Try.pinned (OpenSpec.upto fnExactTableauOfSpec)

/-- 'laws.FnExactLinearOf', WHERE WHAT IT READS IS OF BULK AT MOST 1048576: true; the input reads as it did. -/
def fnExactLinearOfUptoRow : OpenClaim := { program := "ytbbkoagjplapkaa", sum := "920d4499d4752368590d166390d5210141d94296bae82392cd6f0e8de2dca340", func := "loop.example/g01138/laws.FnExactLinearOf", spec := "fnExactLinearOf", unfollowed := true, recurses := true, apart := false, narrowed := true }
def FnExactLinearOfUptoSaid : Prop := fnExactLinearOfUptoRow.holds Try.pinned (OpenSpec.upto fnExactLinearOfSpec)

/-- 'laws.FnExactHookOf', WHERE WHAT IT READS IS OF BULK AT MOST 1048576: true; the input reads as it did. -/
def fnExactHookOfUptoRow : OpenClaim := { program := "ytbbkoagjplapkaa", sum := "920d4499d4752368590d166390d5210141d94296bae82392cd6f0e8de2dca340", func := "loop.example/g01138/laws.FnExactHookOf", spec := "fnExactHookOf", unfollowed := true, recurses := true, apart := false, narrowed := true }
def FnExactHookOfUptoSaid : Prop := fnExactHookOfUptoRow.holds Try.pinned (OpenSpec.upto fnExactHookOfSpec)

/-- 'laws.FnExactPromoteTableau', WHERE WHAT IT READS IS OF BULK AT MOST 1048576: true; the input reads as it did. -/
def fnExactPromoteTableauUptoRow : OpenClaim := { program := "ytbbkoagjplapkaa", sum := "920d4499d4752368590d166390d5210141d94296bae82392cd6f0e8de2dca340", func := "loop.example/g01138/laws.FnExactPromoteTableau", spec := "fnExactPromoteTableau", unfollowed := true, recurses := true, apart := false, narrowed := true }
def FnExactPromoteTableauUptoSaid : Prop := fnExactPromoteTableauUptoRow.holds Try.pinned (OpenSpec.upto fnExactPromoteTableauSpec)

/-- 'laws.FnExactEvacuateTableau', WHERE WHAT IT READS IS OF BULK AT MOST 1048576: true; the input reads as it did. -/
def fnExactEvacuateTableauUptoRow : OpenClaim := { program := "ytbbkoagjplapkaa", sum := "920d4499d4752368590d166390d5210141d94296bae82392cd6f0e8de2dca340", func := "loop.example/g01138/laws.FnExactEvacuateTableau", spec := "fnExactEvacuateTableau", unfollowed := true, recurses := true, apart := false, narrowed := true }
def FnExactEvacuateTableauUptoSaid : Prop := fnExactEvacuateTableauUptoRow.holds Try.pinned (OpenSpec.upto fnExactEvacuateTableauSpec)

/-- 'laws.FnExactTurnTableau', WHERE WHAT IT READS IS OF BULK AT MOST 1048576: true; the input reads as it did. -/
def fnExactTurnTableauUptoRow : OpenClaim := { program := "ytbbkoagjplapkaa", sum := "920d4499d4752368590d166390d5210141d94296bae82392cd6f0e8de2dca340", func := "loop.example/g01138/laws.FnExactTurnTableau", spec := "fnExactTurnTableau", unfollowed := true, recurses := true, apart := false, narrowed := true }
def FnExactTurnTableauUptoSaid : Prop := fnExactTurnTableauUptoRow.holds Try.pinned (OpenSpec.upto fnExactTurnTableauSpec)

/-- 'laws.FnExactDescentsOf', WHERE WHAT IT READS IS OF BULK AT MOST 1048576: true; the input reads as it did. -/
def fnExactDescentsOfUptoRow : OpenClaim := { program := "ytbbkoagjplapkaa", sum := "920d4499d4752368590d166390d5210141d94296bae82392cd6f0e8de2dca340", func := "loop.example/g01138/laws.FnExactDescentsOf", spec := "fnExactDescentsOf", unfollowed := true, recurses := true, apart := false, narrowed := true }
def FnExactDescentsOfUptoSaid : Prop := fnExactDescentsOfUptoRow.holds Try.pinned (OpenSpec.upto fnExactDescentsOfSpec)

/-- 'laws.FnExactMajorOf', WHERE WHAT IT READS IS OF BULK AT MOST 1048576: true; the input reads as it did. -/
def fnExactMajorOfUptoRow : OpenClaim := { program := "ytbbkoagjplapkaa", sum := "920d4499d4752368590d166390d5210141d94296bae82392cd6f0e8de2dca340", func := "loop.example/g01138/laws.FnExactMajorOf", spec := "fnExactMajorOf", unfollowed := true, recurses := true, apart := false, narrowed := true }
def FnExactMajorOfUptoSaid : Prop := fnExactMajorOfUptoRow.holds Try.pinned (OpenSpec.upto fnExactMajorOfSpec)

/-- 'laws.FnExactMajorTable', WHERE WHAT IT READS IS OF BULK AT MOST 1048576: true; the input reads as it did. -/
def fnExactMajorTableUptoRow : OpenClaim := { program := "ytbbkoagjplapkaa", sum := "920d4499d4752368590d166390d5210141d94296bae82392cd6f0e8de2dca340", func := "loop.example/g01138/laws.FnExactMajorTable", spec := "fnExactMajorTable", unfollowed := true, recurses := true, apart := false, narrowed := true }
def FnExactMajorTableUptoSaid : Prop := fnExactMajorTableUptoRow.holds Try.pinned (OpenSpec.upto fnExactMajorTableSpec)

/-- 'laws.FnExactLatticeWord', WHERE WHAT IT READS IS OF BULK AT MOST 1048576: true; the input reads as it did. -/
def fnExactLatticeWordUptoRow : OpenClaim := { program := "ytbbkoagjplapkaa", sum := "920d4499d4752368590d166390d5210141d94296bae82392cd6f0e8de2dca340", func := "loop.example/g01138/laws.FnExactLatticeWord", spec := "fnExactLatticeWord", unfollowed := true, recurses := true, apart := false, narrowed := true }
def FnExactLatticeWordUptoSaid : Prop := fnExactLatticeWordUptoRow.holds Try.pinned (OpenSpec.upto fnExactLatticeWordSpec)

/-- 'laws.FnExactFromLattice', WHERE WHAT IT READS IS OF BULK AT MOST 1048576: true; the input reads as it did. -/
def fnExactFromLatticeUptoRow : OpenClaim := { program := "ytbbkoagjplapkaa", sum := "920d4499d4752368590d166390d5210141d94296bae82392cd6f0e8de2dca340", func := "loop.example/g01138/laws.FnExactFromLattice", spec := "fnExactFromLattice", unfollowed := true, recurses := true, apart := false, narrowed := true }
def FnExactFromLatticeUptoSaid : Prop := fnExactFromLatticeUptoRow.holds Try.pinned (OpenSpec.upto fnExactFromLatticeSpec)

end Rows
end Go.Proofs.Ytbbkoagjplapkaa
