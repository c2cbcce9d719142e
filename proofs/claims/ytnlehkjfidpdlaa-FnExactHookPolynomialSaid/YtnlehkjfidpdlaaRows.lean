/-
  No cell of these rows narrows 'for every input' (looked for: loops, veiled, ifaces, maps, wideKeys, modest, calm, conditions, laid).
  DERIVED. THE GIVEN ROWS OF THIS SEAT. 7 by the template 'for every input the law returns true; each argument reads behind the call as it read before'; 0 by the template 'total and deterministic' (their statements: YtnlehkjfidpdlaaTotals.lean).
  GIVEN WITH THE SEED: the statements are not yours to turn. If you find one false, say at which input.
  Laid BY PROGRAM, IN A SANDBOX (cutbox-rows.mjs): the forced cells as the released guide's own fill.sh prints them over the translation 8d94cf798fbe096c… (all of the seat's roots in one cut). By AI agents, Wed Nov 11 2026. No macro, syntax, notation, axiom, sorry.
-/
import Derived.Test.YtnlehkjfidpdlaaChecked
import GoSem.Claim
import GoSem.ClaimJoined
import GoSem.ClaimMapViews
import Derived.JoinedTies
import Derived.KernelRfl
namespace Go.Proofs.Ytnlehkjfidpdlaa
/- THE CELL 'sum', in the pinned program and in every row, IS THE sha256 OF THE DUMP (.gsa) THAT YtnlehkjfidpdlaaProg.lean LOADS. Nothing in Lean hashes anything: it is a label: what it is worth is what the hold of that sum in a sandbox is worth. -/
noncomputable def Try.pinned : Pinned := { name := "ytnlehkjfidpdlaa", sum := "8d94cf798fbe096c421b2b173024807fd1c1d6862b0e33b215386005c4b9251b", checked := Try.checked }
namespace Rows
def none {H : Type} : Left H := { results := [], args := [] }

/-- 'laws.FnExactGaussOf': WHATEVER THE INPUT: true; the input reads as it did. -/
def fnExactGaussOfSpec : ChangeSpec := { name := "fnExactGaussOf", fn := fun _ => fun
  | [d1, d2] => { results := [.lit (.bool true)], args := [d1, d2] }
  | _ => none }
def fnExactGaussOfRow : OpenClaim := { program := "ytnlehkjfidpdlaa", sum := "8d94cf798fbe096c421b2b173024807fd1c1d6862b0e33b215386005c4b9251b", func := "loop.example/g01138/laws.FnExactGaussOf", spec := "fnExactGaussOf", unfollowed := true, recurses := true, apart := false }
def FnExactGaussOfSaid : Prop := fnExactGaussOfRow.holds Try.pinned (OpenSpec.ofChange fnExactGaussOfSpec)

/-- ITS FALSE NEIGHBOUR: 'it returns false'. Refute it at one input. -/
def fnExactGaussOfWrong : ChangeSpec := { name := "fnExactGaussOf", fn := fun _ => fun
  | [d1, d2] => { results := [.lit (.bool false)], args := [d1, d2] }
  | _ => none }
def FnExactGaussOfWrongFalsely : Prop := fnExactGaussOfRow.holds Try.pinned (OpenSpec.ofChange fnExactGaussOfWrong)

/-- 'laws.FnExactHookPolynomial': WHATEVER THE INPUT: true; the input reads as it did. -/
def fnExactHookPolynomialSpec : ChangeSpec := { name := "fnExactHookPolynomial", fn := fun _ => fun
  | [d1, d2] => { results := [.lit (.bool true)], args := [d1, d2] }
  | _ => none }
def fnExactHookPolynomialRow : OpenClaim := { program := "ytnlehkjfidpdlaa", sum := "8d94cf798fbe096c421b2b173024807fd1c1d6862b0e33b215386005c4b9251b", func := "loop.example/g01138/laws.FnExactHookPolynomial", spec := "fnExactHookPolynomial", unfollowed := true, recurses := true, apart := false }
def FnExactHookPolynomialSaid : Prop := fnExactHookPolynomialRow.holds Try.pinned (OpenSpec.ofChange fnExactHookPolynomialSpec)

/-- ITS FALSE NEIGHBOUR: 'it returns false'. Refute it at one input. -/
def fnExactHookPolynomialWrong : ChangeSpec := { name := "fnExactHookPolynomial", fn := fun _ => fun
  | [d1, d2] => { results := [.lit (.bool false)], args := [d1, d2] }
  | _ => none }
def FnExactHookPolynomialWrongFalsely : Prop := fnExactHookPolynomialRow.holds Try.pinned (OpenSpec.ofChange fnExactHookPolynomialWrong)

/-- 'laws.FnExactRemaindersOf': WHATEVER THE INPUT: true; the input reads as it did. -/
def fnExactRemaindersOfSpec : ChangeSpec := { name := "fnExactRemaindersOf", fn := fun _ => fun
  | [d1, d2] => { results := [.lit (.bool true)], args := [d1, d2] }
  | _ => none }
def fnExactRemaindersOfRow : OpenClaim := { program := "ytnlehkjfidpdlaa", sum := "8d94cf798fbe096c421b2b173024807fd1c1d6862b0e33b215386005c4b9251b", func := "loop.example/g01138/laws.FnExactRemaindersOf", spec := "fnExactRemaindersOf", unfollowed := true, recurses := true, apart := false }
def FnExactRemaindersOfSaid : Prop := fnExactRemaindersOfRow.holds Try.pinned (OpenSpec.ofChange fnExactRemaindersOfSpec)

/-- ITS FALSE NEIGHBOUR: 'it returns false'. Refute it at one input. -/
def fnExactRemaindersOfWrong : ChangeSpec := { name := "fnExactRemaindersOf", fn := fun _ => fun
  | [d1, d2] => { results := [.lit (.bool false)], args := [d1, d2] }
  | _ => none }
def FnExactRemaindersOfWrongFalsely : Prop := fnExactRemaindersOfRow.holds Try.pinned (OpenSpec.ofChange fnExactRemaindersOfWrong)

/-- 'laws.FnExactRootSum': WHATEVER THE INPUT: true; the input reads as it did. -/
def fnExactRootSumSpec : ChangeSpec := { name := "fnExactRootSum", fn := fun _ => fun
  | [d1, d2] => { results := [.lit (.bool true)], args := [d1, d2] }
  | _ => none }
def fnExactRootSumRow : OpenClaim := { program := "ytnlehkjfidpdlaa", sum := "8d94cf798fbe096c421b2b173024807fd1c1d6862b0e33b215386005c4b9251b", func := "loop.example/g01138/laws.FnExactRootSum", spec := "fnExactRootSum", apart := false }
def FnExactRootSumSaid : Prop := fnExactRootSumRow.holds Try.pinned (OpenSpec.ofChange fnExactRootSumSpec)

/-- ITS FALSE NEIGHBOUR: 'it returns false'. Refute it at one input. -/
def fnExactRootSumWrong : ChangeSpec := { name := "fnExactRootSum", fn := fun _ => fun
  | [d1, d2] => { results := [.lit (.bool false)], args := [d1, d2] }
  | _ => none }
def FnExactRootSumWrongFalsely : Prop := fnExactRootSumRow.holds Try.pinned (OpenSpec.ofChange fnExactRootSumWrong)

/-- 'laws.FnExactValueByRemainders': WHATEVER THE INPUT: true; the input reads as it did. -/
def fnExactValueByRemaindersSpec : ChangeSpec := { name := "fnExactValueByRemainders", fn := fun _ => fun
  | [d1, d2] => { results := [.lit (.bool true)], args := [d1, d2] }
  | _ => none }
def fnExactValueByRemaindersRow : OpenClaim := { program := "ytnlehkjfidpdlaa", sum := "8d94cf798fbe096c421b2b173024807fd1c1d6862b0e33b215386005c4b9251b", func := "loop.example/g01138/laws.FnExactValueByRemainders", spec := "fnExactValueByRemainders", unfollowed := true, recurses := true, apart := false }
def FnExactValueByRemaindersSaid : Prop := fnExactValueByRemaindersRow.holds Try.pinned (OpenSpec.ofChange fnExactValueByRemaindersSpec)

/-- ITS FALSE NEIGHBOUR: 'it returns false'. Refute it at one input. -/
def fnExactValueByRemaindersWrong : ChangeSpec := { name := "fnExactValueByRemainders", fn := fun _ => fun
  | [d1, d2] => { results := [.lit (.bool false)], args := [d1, d2] }
  | _ => none }
def FnExactValueByRemaindersWrongFalsely : Prop := fnExactValueByRemaindersRow.holds Try.pinned (OpenSpec.ofChange fnExactValueByRemaindersWrong)

/-- 'laws.FnExactOrbitsByRests': WHATEVER THE INPUT: true; the input reads as it did. -/
def fnExactOrbitsByRestsSpec : ChangeSpec := { name := "fnExactOrbitsByRests", fn := fun _ => fun
  | [d] => { results := [.lit (.bool true)], args := [d] }
  | _ => none }
def fnExactOrbitsByRestsRow : OpenClaim := { program := "ytnlehkjfidpdlaa", sum := "8d94cf798fbe096c421b2b173024807fd1c1d6862b0e33b215386005c4b9251b", func := "loop.example/g01138/laws.FnExactOrbitsByRests", spec := "fnExactOrbitsByRests", unfollowed := true, recurses := true, apart := false }
def FnExactOrbitsByRestsSaid : Prop := fnExactOrbitsByRestsRow.holds Try.pinned (OpenSpec.ofChange fnExactOrbitsByRestsSpec)

/-- ITS FALSE NEIGHBOUR: 'it returns false'. Refute it at one input. -/
def fnExactOrbitsByRestsWrong : ChangeSpec := { name := "fnExactOrbitsByRests", fn := fun _ => fun
  | [d] => { results := [.lit (.bool false)], args := [d] }
  | _ => none }
def FnExactOrbitsByRestsWrongFalsely : Prop := fnExactOrbitsByRestsRow.holds Try.pinned (OpenSpec.ofChange fnExactOrbitsByRestsWrong)

/-- 'laws.FnExactIsSieved': WHATEVER THE INPUT: true; the input reads as it did. -/
def fnExactIsSievedSpec : ChangeSpec := { name := "fnExactIsSieved", fn := fun _ => fun
  | [d1, d2] => { results := [.lit (.bool true)], args := [d1, d2] }
  | _ => none }
def fnExactIsSievedRow : OpenClaim := { program := "ytnlehkjfidpdlaa", sum := "8d94cf798fbe096c421b2b173024807fd1c1d6862b0e33b215386005c4b9251b", func := "loop.example/g01138/laws.FnExactIsSieved", spec := "fnExactIsSieved", unfollowed := true, recurses := true, apart := false }
def FnExactIsSievedSaid : Prop := fnExactIsSievedRow.holds Try.pinned (OpenSpec.ofChange fnExactIsSievedSpec)

/-- ITS FALSE NEIGHBOUR: 'it returns false'. Refute it at one input. -/
def fnExactIsSievedWrong : ChangeSpec := { name := "fnExactIsSieved", fn := fun _ => fun
  | [d1, d2] => { results := [.lit (.bool false)], args := [d1, d2] }
  | _ => none }
def FnExactIsSievedWrongFalsely : Prop := fnExactIsSievedRow.holds Try.pinned (OpenSpec.ofChange fnExactIsSievedWrong)

/- THE SECOND FORM. 'bulk': how many values and letters a reading holds, each counted each time it is reached (what is shared counts as often as it is met; a slice's spare places count too). A statement '..UptoSaid' is the law's where the arguments, and the package variables that the reading takes, are together of bulk at most 1048576: NARROWER than '..Said'. Prove '..Said' where nothing that the law and all that it calls make is longer than what came in: it says more and counts as full. Else prove '..UptoSaid'. A law counts once. -/
mutual
def uptoBulk {H : Type} : DataW H → Nat
  | .lit (.string bytes) => bytes.length + 1
  | .lit _ => 1
  | .nil => 1
  | .ptr d => uptoBulk d + 1
  | .slice elems spare => uptoBulkAll elems + uptoBulkAll spare + 1
  | .agg parts => uptoBulkAll parts + 1
  | .iface _ d => uptoBulk d + 1
  | .map entries => uptoBulkEntries entries + 1
  | .held _ => 1
def uptoBulkAll {H : Type} : List (DataW H) → Nat
  | [] => 0
  | d :: r => uptoBulk d + uptoBulkAll r
def uptoBulkEntries {H : Type} : List (Lit × DataW H) → Nat
  | [] => 0
  | x :: r => uptoBulkEntry x + uptoBulkEntries r
def uptoBulkEntry {H : Type} : Lit × DataW H → Nat
  | (.string bytes, d) => bytes.length + uptoBulk d + 1
  | (_, d) => uptoBulk d + 1
 end
def uptoSmall : (H : Type) → List (DataW H) → Bool := fun _ ds => decide (uptoBulkAll ds ≤ 1048576)
def OpenSpec.upto (s : _root_.Go.ChangeSpec) : _root_.Go.OpenSpec := { _root_.Go.OpenSpec.ofChange s with cond := some uptoSmall }

/-- 'laws.FnExactGaussOf', WHERE WHAT IT READS IS OF BULK AT MOST 1048576: true; the input reads as it did. -/
def fnExactGaussOfUptoRow : OpenClaim := { program := "ytnlehkjfidpdlaa", sum := "8d94cf798fbe096c421b2b173024807fd1c1d6862b0e33b215386005c4b9251b", func := "loop.example/g01138/laws.FnExactGaussOf", spec := "fnExactGaussOf", unfollowed := true, recurses := true, apart := false, narrowed := true }
def FnExactGaussOfUptoSaid : Prop := fnExactGaussOfUptoRow.holds Try.pinned (OpenSpec.upto fnExactGaussOfSpec)

/-- 'laws.FnExactHookPolynomial', WHERE WHAT IT READS IS OF BULK AT MOST 1048576: true; the input reads as it did. -/
def fnExactHookPolynomialUptoRow : OpenClaim := { program := "ytnlehkjfidpdlaa", sum := "8d94cf798fbe096c421b2b173024807fd1c1d6862b0e33b215386005c4b9251b", func := "loop.example/g01138/laws.FnExactHookPolynomial", spec := "fnExactHookPolynomial", unfollowed := true, recurses := true, apart := false, narrowed := true }
def FnExactHookPolynomialUptoSaid : Prop := fnExactHookPolynomialUptoRow.holds Try.pinned (OpenSpec.upto fnExactHookPolynomialSpec)

/-- 'laws.FnExactRemaindersOf', WHERE WHAT IT READS IS OF BULK AT MOST 1048576: true; the input reads as it did. -/
def fnExactRemaindersOfUptoRow : OpenClaim := { program := "ytnlehkjfidpdlaa", sum := "8d94cf798fbe096c421b2b173024807fd1c1d6862b0e33b215386005c4b9251b", func := "loop.example/g01138/laws.FnExactRemaindersOf", spec := "fnExactRemaindersOf", unfollowed := true, recurses := true, apart := false, narrowed := true }
def FnExactRemaindersOfUptoSaid : Prop := fnExactRemaindersOfUptoRow.holds Try.pinned (OpenSpec.upto fnExactRemaindersOfSpec)

/-- 'laws.FnExactRootSum', WHERE WHAT IT READS IS OF BULK AT MOST 1048576: true; the input reads as it did. -/
def fnExactRootSumUptoRow : OpenClaim := { program := "ytnlehkjfidpdlaa", sum := "8d94cf798fbe096c421b2b173024807fd1c1d6862b0e33b215386005c4b9251b", func := "loop.example/g01138/laws.FnExactRootSum", spec := "fnExactRootSum", apart := false, narrowed := true }
def FnExactRootSumUptoSaid : Prop := fnExactRootSumUptoRow.holds Try.pinned (OpenSpec.upto fnExactRootSumSpec)

/-- 'laws.FnExactValueByRemainders', WHERE WHAT IT READS IS OF BULK AT MOST 1048576: true; the input reads as it did. -/
def fnExactValueByRemaindersUptoRow : OpenClaim := { program := "ytnlehkjfidpdlaa", sum := "8d94cf798fbe096c421b2b173024807fd1c1d6862b0e33b215386005c4b9251b", func := "loop.example/g01138/laws.FnExactValueByRemainders", spec := "fnExactValueByRemainders", unfollowed := true, recurses := true, apart := false, narrowed := true }
def FnExactValueByRemaindersUptoSaid : Prop := fnExactValueByRemaindersUptoRow.holds Try.pinned (OpenSpec.upto fnExactValueByRemaindersSpec)

/-- 'laws.FnExactOrbitsByRests', WHERE WHAT IT READS IS OF BULK AT MOST 1048576: true; the input reads as it did. -/
def fnExactOrbitsByRestsUptoRow : OpenClaim := { program := "ytnlehkjfidpdlaa", sum := "8d94cf798fbe096c421b2b173024807fd1c1d6862b0e33b215386005c4b9251b", func := "loop.example/g01138/laws.FnExactOrbitsByRests", spec := "fnExactOrbitsByRests", unfollowed := true, recurses := true, apart := false, narrowed := true }
def FnExactOrbitsByRestsUptoSaid : Prop := fnExactOrbitsByRestsUptoRow.holds Try.pinned (OpenSpec.upto fnExactOrbitsByRestsSpec)

/-- 'laws.FnExactIsSieved', WHERE WHAT IT READS IS OF BULK AT MOST 1048576: true; the input reads as it did. -/
def fnExactIsSievedUptoRow : OpenClaim := { program := "ytnlehkjfidpdlaa", sum := "8d94cf798fbe096c421b2b173024807fd1c1d6862b0e33b215386005c4b9251b", func := "loop.example/g01138/laws.FnExactIsSieved", spec := "fnExactIsSieved", unfollowed := true, recurses := true, apart := false, narrowed := true }
def FnExactIsSievedUptoSaid : Prop := fnExactIsSievedUptoRow.holds Try.pinned (OpenSpec.upto fnExactIsSievedSpec)

end Rows
end Go.Proofs.Ytnlehkjfidpdlaa
