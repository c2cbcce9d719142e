/-
  No cell of these rows narrows 'for every input' (looked for: loops, veiled, ifaces, maps, wideKeys, modest, calm, conditions, laid).
  DERIVED. THE GIVEN ROWS OF THIS SEAT. 3 by the template 'for every input the law returns true; each argument reads behind the call as it read before'; 0 by the template 'total and deterministic' (their statements: YtbbkoagjplapkabTotals.lean).
  GIVEN WITH THE SEED: the statements are not yours to turn. If you find one false, say at which input.
  Laid BY PROGRAM, IN A SANDBOX (cutbox-rows.mjs): the forced cells as the released guide's own fill.sh prints them over the translation 58f90ff5991aabbb… (all of the seat's roots in one cut). By AI agents, Wed Nov 11 2026. No macro, syntax, notation, axiom, sorry.
-/
import Derived.Test.YtbbkoagjplapkabChecked
import GoSem.Claim
import GoSem.ClaimJoined
import GoSem.ClaimMapViews
import Derived.JoinedTies
import Derived.KernelRfl
namespace Go.Proofs.Ytbbkoagjplapkab
/- THE CELL 'sum', in the pinned program and in every row, IS THE sha256 OF THE DUMP (.gsa) THAT YtbbkoagjplapkabProg.lean LOADS. Nothing in Lean hashes anything: it is a label: what it is worth is what the hold of that sum in a sandbox is worth. -/
noncomputable def Try.pinned : Pinned := { name := "ytbbkoagjplapkab", sum := "58f90ff5991aabbbf13bd443772148291448a0214a7376ab7c630e814c9d9479", checked := Try.checked }
namespace Rows
def none {H : Type} : Left H := { results := [], args := [] }

/-- 'laws.FnExactCountTableaux': WHATEVER THE INPUT: true; the input reads as it did. -/
def fnExactCountTableauxSpec : ChangeSpec := { name := "fnExactCountTableaux", fn := fun _ => fun
  | [d1, d2] => { results := [.lit (.bool true)], args := [d1, d2] }
  | _ => none }
def fnExactCountTableauxRow : OpenClaim := { program := "ytbbkoagjplapkab", sum := "58f90ff5991aabbbf13bd443772148291448a0214a7376ab7c630e814c9d9479", func := "loop.example/g01138/laws.FnExactCountTableaux", spec := "fnExactCountTableaux", unfollowed := true, recurses := true, apart := false }
def FnExactCountTableauxSaid : Prop := fnExactCountTableauxRow.holds Try.pinned (OpenSpec.ofChange fnExactCountTableauxSpec)

/-- ITS FALSE NEIGHBOUR: 'it returns false'. Refute it at one input. -/
def fnExactCountTableauxWrong : ChangeSpec := { name := "fnExactCountTableaux", fn := fun _ => fun
  | [d1, d2] => { results := [.lit (.bool false)], args := [d1, d2] }
  | _ => none }
def FnExactCountTableauxWrongFalsely : Prop := fnExactCountTableauxRow.holds Try.pinned (OpenSpec.ofChange fnExactCountTableauxWrong)

/-- 'laws.FnExactCountStairs': WHATEVER THE INPUT: true; the input reads as it did. -/
def fnExactCountStairsSpec : ChangeSpec := { name := "fnExactCountStairs", fn := fun _ => fun
  | [d] => { results := [.lit (.bool true)], args := [d] }
  | _ => none }
def fnExactCountStairsRow : OpenClaim := { program := "ytbbkoagjplapkab", sum := "58f90ff5991aabbbf13bd443772148291448a0214a7376ab7c630e814c9d9479", func := "loop.example/g01138/laws.FnExactCountStairs", spec := "fnExactCountStairs", unfollowed := true, recurses := true, apart := false }
def FnExactCountStairsSaid : Prop := fnExactCountStairsRow.holds Try.pinned (OpenSpec.ofChange fnExactCountStairsSpec)

/-- ITS FALSE NEIGHBOUR: 'it returns false'. Refute it at one input. -/
def fnExactCountStairsWrong : ChangeSpec := { name := "fnExactCountStairs", fn := fun _ => fun
  | [d] => { results := [.lit (.bool false)], args := [d] }
  | _ => none }
def FnExactCountStairsWrongFalsely : Prop := fnExactCountStairsRow.holds Try.pinned (OpenSpec.ofChange fnExactCountStairsWrong)

/-- 'laws.FnExactStairOf': WHATEVER THE INPUT: true; the input reads as it did. -/
def fnExactStairOfSpec : ChangeSpec := { name := "fnExactStairOf", fn := fun _ => fun
  | [d] => { results := [.lit (.bool true)], args := [d] }
  | _ => none }
def fnExactStairOfRow : OpenClaim := { program := "ytbbkoagjplapkab", sum := "58f90ff5991aabbbf13bd443772148291448a0214a7376ab7c630e814c9d9479", func := "loop.example/g01138/laws.FnExactStairOf", spec := "fnExactStairOf", unfollowed := true, recurses := true, apart := false }
def FnExactStairOfSaid : Prop := fnExactStairOfRow.holds Try.pinned (OpenSpec.ofChange fnExactStairOfSpec)

/-- ITS FALSE NEIGHBOUR: 'it returns false'. Refute it at one input. -/
def fnExactStairOfWrong : ChangeSpec := { name := "fnExactStairOf", fn := fun _ => fun
  | [d] => { results := [.lit (.bool false)], args := [d] }
  | _ => none }
def FnExactStairOfWrongFalsely : Prop := fnExactStairOfRow.holds Try.pinned (OpenSpec.ofChange fnExactStairOfWrong)

/- THE SECOND FORM. 'bulk': how many values and letters a reading holds, each counted each time it is reached (what is shared counts as often as it is met; a slice's spare places count too). A statement '..UptoSaid' is the law's where the arguments, and the package variables that the reading takes, are together of bulk at most 1048576: NARROWER than '..Said'. Prove '..Said' where nothing that the law and all that it calls make is longer than what came in: it says more and counts as full. Else prove '..UptoSaid'. A law counts once. -/
mutual
def uptoBulk {H : Type} : DataW H → Nat
  | .lit (.string bytes) => bytes.length + 1
  | .lit _ => 1
  | .nil => 1
  | .ptr d => uptoBulk d + 1
  | .slice elems spare => uptoBulkAll elems + uptoBulkAll spare + 1
  | .agg parts => uptoBulkAll parts + 1
  | .iface _ d => uptoBulk d + 1
  | .map entries => uptoBulkEntries entries + 1
  | .held _ => 1
def uptoBulkAll {H : Type} : List (DataW H) → Nat
  | [] => 0
  | d :: r => uptoBulk d + uptoBulkAll r
def uptoBulkEntries {H : Type} : List (Lit × DataW H) → Nat
  | [] => 0
  | x :: r => uptoBulkEntry x + uptoBulkEntries r
def uptoBulkEntry {H : Type} : Lit × DataW H → Nat
  | (.string bytes, d) => bytes.length + uptoBulk d + 1
  | (_, d) => uptoBulk d + 1
 end
def uptoSmall : (H : Type) → List (DataW H) → Bool := fun _ ds => decide (uptoBulkAll ds ≤ 1048576)
def OpenSpec.upto (s : _root_.Go.ChangeSpec) : _root_.Go.OpenSpec := { _root_.Go.OpenSpec.ofChange s with cond := some uptoSmall }

/-- 'laws.FnExactCountTableaux', WHERE WHAT IT READS IS OF BULK AT MOST 1048576: true; the input reads as it did. -/
def fnExactCountTableauxUptoRow : OpenClaim := { program := "ytbbkoagjplapkab", sum := "58f90ff5991aabbbf13bd443772148291448a0214a7376ab7c630e814c9d9479", func := "loop.example/g01138/laws.FnExactCountTableaux", spec := "fnExactCountTableaux", unfollowed := true, recurses := true, apart := false, narrowed := true }
def FnExactCountTableauxUptoSaid : Prop := fnExactCountTableauxUptoRow.holds Try.pinned (OpenSpec.upto fnExactCountTableauxSpec)

/-- 'laws.FnExactCountStairs', WHERE WHAT IT READS IS OF BULK AT MOST 1048576: true; the input reads as it did. -/
def fnExactCountStairsUptoRow : OpenClaim := { program := "ytbbkoagjplapkab", sum := "58f90ff5991aabbbf13bd443772148291448a0214a7376ab7c630e814c9d9479", func := "loop.example/g01138/laws.FnExactCountStairs", spec := "fnExactCountStairs", unfollowed := true, recurses := true, apart := false, narrowed := true }
def FnExactCountStairsUptoSaid : Prop := fnExactCountStairsUptoRow.holds Try.pinned (OpenSpec.upto fnExactCountStairsSpec)

/-- 'laws.FnExactStairOf', WHERE WHAT IT READS IS OF BULK AT MOST 1048576: true; the input reads as it did. -/
def fnExactStairOfUptoRow : OpenClaim := { program := "ytbbkoagjplapkab", sum := "58f90ff5991aabbbf13bd443772148291448a0214a7376ab7c630e814c9d9479", func := "loop.example/g01138/laws.FnExactStairOf", spec := "fnExactStairOf", unfollowed := true, recurses := true, apart := false, narrowed := true }
def FnExactStairOfUptoSaid : Prop := fnExactStairOfUptoRow.holds Try.pinned (OpenSpec.upto fnExactStairOfSpec)

end Rows
end Go.Proofs.Ytbbkoagjplapkab
