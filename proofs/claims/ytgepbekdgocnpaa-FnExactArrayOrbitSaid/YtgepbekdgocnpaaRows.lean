/-
  No cell of these rows narrows 'for every input' (looked for: loops, veiled, ifaces, maps, wideKeys, modest, calm, conditions, laid).
  DERIVED. THE GIVEN ROWS OF THIS SEAT. 8 by the template 'for every input the law returns true; each argument reads behind the call as it read before'; 0 by the template 'total and deterministic' (their statements: YtgepbekdgocnpaaTotals.lean).
  GIVEN WITH THE SEED: the statements are not yours to turn. If you find one false, say at which input.
  Laid BY PROGRAM, IN A SANDBOX (cutbox-rows.mjs): the forced cells as the released guide's own fill.sh prints them over the translation fd83a26e87523da2… (all of the seat's roots in one cut). By AI agents, Wed Nov 11 2026. No macro, syntax, notation, axiom, sorry.
-/
import Derived.Test.YtgepbekdgocnpaaChecked
import GoSem.Claim
import GoSem.ClaimJoined
import GoSem.ClaimMapViews
import Derived.JoinedTies
import Derived.KernelRfl
namespace Go.Proofs.Ytgepbekdgocnpaa
/- THE CELL 'sum', in the pinned program and in every row, IS THE sha256 OF THE DUMP (.gsa) THAT YtgepbekdgocnpaaProg.lean LOADS. Nothing in Lean hashes anything: it is a label: what it is worth is what the hold of that sum in a sandbox is worth. -/
noncomputable def Try.pinned : Pinned := { name := "ytgepbekdgocnpaa", sum := "fd83a26e87523da23e95297e2e81843e124fa69b1429c5f5ee317b0d47faa9eb", checked := Try.checked }
namespace Rows
def none {H : Type} : Left H := { results := [], args := [] }

/-- 'laws.FnExactIsArray': WHATEVER THE INPUT: true; the input reads as it did. -/
def fnExactIsArraySpec : ChangeSpec := { name := "fnExactIsArray", fn := fun _ => fun
  | [d1, d2, d3] => { results := [.lit (.bool true)], args := [d1, d2, d3] }
  | _ => none }
def fnExactIsArrayRow : OpenClaim := { program := "ytgepbekdgocnpaa", sum := "fd83a26e87523da23e95297e2e81843e124fa69b1429c5f5ee317b0d47faa9eb", func := "loop.example/g01138/laws.FnExactIsArray", spec := "fnExactIsArray", apart := false }
def FnExactIsArraySaid : Prop := fnExactIsArrayRow.holds Try.pinned (OpenSpec.ofChange fnExactIsArraySpec)

/-- ITS FALSE NEIGHBOUR: 'it returns false'. Refute it at one input. -/
def fnExactIsArrayWrong : ChangeSpec := { name := "fnExactIsArray", fn := fun _ => fun
  | [d1, d2, d3] => { results := [.lit (.bool false)], args := [d1, d2, d3] }
  | _ => none }
def FnExactIsArrayWrongFalsely : Prop := fnExactIsArrayRow.holds Try.pinned (OpenSpec.ofChange fnExactIsArrayWrong)

/-- 'laws.FnExactRangeAt': WHATEVER THE INPUT: true; the input reads as it did. -/
def fnExactRangeAtSpec : ChangeSpec := { name := "fnExactRangeAt", fn := fun _ => fun
  | [d1, d2, d3, d4] => { results := [.lit (.bool true)], args := [d1, d2, d3, d4] }
  | _ => none }
def fnExactRangeAtRow : OpenClaim := { program := "ytgepbekdgocnpaa", sum := "fd83a26e87523da23e95297e2e81843e124fa69b1429c5f5ee317b0d47faa9eb", func := "loop.example/g01138/laws.FnExactRangeAt", spec := "fnExactRangeAt", apart := false }
def FnExactRangeAtSaid : Prop := fnExactRangeAtRow.holds Try.pinned (OpenSpec.ofChange fnExactRangeAtSpec)

/-- ITS FALSE NEIGHBOUR: 'it returns false'. Refute it at one input. -/
def fnExactRangeAtWrong : ChangeSpec := { name := "fnExactRangeAt", fn := fun _ => fun
  | [d1, d2, d3, d4] => { results := [.lit (.bool false)], args := [d1, d2, d3, d4] }
  | _ => none }
def FnExactRangeAtWrongFalsely : Prop := fnExactRangeAtRow.holds Try.pinned (OpenSpec.ofChange fnExactRangeAtWrong)

/-- 'laws.FnExactToggleNumber': WHATEVER THE INPUT: true; the input reads as it did. -/
def fnExactToggleNumberSpec : ChangeSpec := { name := "fnExactToggleNumber", fn := fun _ => fun
  | [d1, d2, d3, d4] => { results := [.lit (.bool true)], args := [d1, d2, d3, d4] }
  | _ => none }
def fnExactToggleNumberRow : OpenClaim := { program := "ytgepbekdgocnpaa", sum := "fd83a26e87523da23e95297e2e81843e124fa69b1429c5f5ee317b0d47faa9eb", func := "loop.example/g01138/laws.FnExactToggleNumber", spec := "fnExactToggleNumber", unfollowed := true, recurses := true, apart := false }
def FnExactToggleNumberSaid : Prop := fnExactToggleNumberRow.holds Try.pinned (OpenSpec.ofChange fnExactToggleNumberSpec)

/-- ITS FALSE NEIGHBOUR: 'it returns false'. Refute it at one input. -/
def fnExactToggleNumberWrong : ChangeSpec := { name := "fnExactToggleNumber", fn := fun _ => fun
  | [d1, d2, d3, d4] => { results := [.lit (.bool false)], args := [d1, d2, d3, d4] }
  | _ => none }
def FnExactToggleNumberWrongFalsely : Prop := fnExactToggleNumberRow.holds Try.pinned (OpenSpec.ofChange fnExactToggleNumberWrong)

/-- 'laws.FnExactToggleNumbers': WHATEVER THE INPUT: true; the input reads as it did. -/
def fnExactToggleNumbersSpec : ChangeSpec := { name := "fnExactToggleNumbers", fn := fun _ => fun
  | [d1, d2, d3, d4] => { results := [.lit (.bool true)], args := [d1, d2, d3, d4] }
  | _ => none }
def fnExactToggleNumbersRow : OpenClaim := { program := "ytgepbekdgocnpaa", sum := "fd83a26e87523da23e95297e2e81843e124fa69b1429c5f5ee317b0d47faa9eb", func := "loop.example/g01138/laws.FnExactToggleNumbers", spec := "fnExactToggleNumbers", unfollowed := true, recurses := true, apart := false }
def FnExactToggleNumbersSaid : Prop := fnExactToggleNumbersRow.holds Try.pinned (OpenSpec.ofChange fnExactToggleNumbersSpec)

/-- ITS FALSE NEIGHBOUR: 'it returns false'. Refute it at one input. -/
def fnExactToggleNumbersWrong : ChangeSpec := { name := "fnExactToggleNumbers", fn := fun _ => fun
  | [d1, d2, d3, d4] => { results := [.lit (.bool false)], args := [d1, d2, d3, d4] }
  | _ => none }
def FnExactToggleNumbersWrongFalsely : Prop := fnExactToggleNumbersRow.holds Try.pinned (OpenSpec.ofChange fnExactToggleNumbersWrong)

/-- 'laws.FnExactRowArray': WHATEVER THE INPUT: true; the input reads as it did. -/
def fnExactRowArraySpec : ChangeSpec := { name := "fnExactRowArray", fn := fun _ => fun
  | [d1, d2, d3] => { results := [.lit (.bool true)], args := [d1, d2, d3] }
  | _ => none }
def fnExactRowArrayRow : OpenClaim := { program := "ytgepbekdgocnpaa", sum := "fd83a26e87523da23e95297e2e81843e124fa69b1429c5f5ee317b0d47faa9eb", func := "loop.example/g01138/laws.FnExactRowArray", spec := "fnExactRowArray", apart := false }
def FnExactRowArraySaid : Prop := fnExactRowArrayRow.holds Try.pinned (OpenSpec.ofChange fnExactRowArraySpec)

/-- ITS FALSE NEIGHBOUR: 'it returns false'. Refute it at one input. -/
def fnExactRowArrayWrong : ChangeSpec := { name := "fnExactRowArray", fn := fun _ => fun
  | [d1, d2, d3] => { results := [.lit (.bool false)], args := [d1, d2, d3] }
  | _ => none }
def FnExactRowArrayWrongFalsely : Prop := fnExactRowArrayRow.holds Try.pinned (OpenSpec.ofChange fnExactRowArrayWrong)

/-- 'laws.FnExactRowArrayBack': WHATEVER THE INPUT: true; the input reads as it did. -/
def fnExactRowArrayBackSpec : ChangeSpec := { name := "fnExactRowArrayBack", fn := fun _ => fun
  | [d1, d2, d3] => { results := [.lit (.bool true)], args := [d1, d2, d3] }
  | _ => none }
def fnExactRowArrayBackRow : OpenClaim := { program := "ytgepbekdgocnpaa", sum := "fd83a26e87523da23e95297e2e81843e124fa69b1429c5f5ee317b0d47faa9eb", func := "loop.example/g01138/laws.FnExactRowArrayBack", spec := "fnExactRowArrayBack", apart := false }
def FnExactRowArrayBackSaid : Prop := fnExactRowArrayBackRow.holds Try.pinned (OpenSpec.ofChange fnExactRowArrayBackSpec)

/-- ITS FALSE NEIGHBOUR: 'it returns false'. Refute it at one input. -/
def fnExactRowArrayBackWrong : ChangeSpec := { name := "fnExactRowArrayBack", fn := fun _ => fun
  | [d1, d2, d3] => { results := [.lit (.bool false)], args := [d1, d2, d3] }
  | _ => none }
def FnExactRowArrayBackWrongFalsely : Prop := fnExactRowArrayBackRow.holds Try.pinned (OpenSpec.ofChange fnExactRowArrayBackWrong)

/-- 'laws.FnExactRowArrayTimes': WHATEVER THE INPUT: true; the input reads as it did. -/
def fnExactRowArrayTimesSpec : ChangeSpec := { name := "fnExactRowArrayTimes", fn := fun _ => fun
  | [d1, d2, d3, d4] => { results := [.lit (.bool true)], args := [d1, d2, d3, d4] }
  | _ => none }
def fnExactRowArrayTimesRow : OpenClaim := { program := "ytgepbekdgocnpaa", sum := "fd83a26e87523da23e95297e2e81843e124fa69b1429c5f5ee317b0d47faa9eb", func := "loop.example/g01138/laws.FnExactRowArrayTimes", spec := "fnExactRowArrayTimes", apart := false }
def FnExactRowArrayTimesSaid : Prop := fnExactRowArrayTimesRow.holds Try.pinned (OpenSpec.ofChange fnExactRowArrayTimesSpec)

/-- ITS FALSE NEIGHBOUR: 'it returns false'. Refute it at one input. -/
def fnExactRowArrayTimesWrong : ChangeSpec := { name := "fnExactRowArrayTimes", fn := fun _ => fun
  | [d1, d2, d3, d4] => { results := [.lit (.bool false)], args := [d1, d2, d3, d4] }
  | _ => none }
def FnExactRowArrayTimesWrongFalsely : Prop := fnExactRowArrayTimesRow.holds Try.pinned (OpenSpec.ofChange fnExactRowArrayTimesWrong)

/-- 'laws.FnExactArrayOrbit': WHATEVER THE INPUT: true; the input reads as it did. -/
def fnExactArrayOrbitSpec : ChangeSpec := { name := "fnExactArrayOrbit", fn := fun _ => fun
  | [d1, d2, d3] => { results := [.lit (.bool true)], args := [d1, d2, d3] }
  | _ => none }
def fnExactArrayOrbitRow : OpenClaim := { program := "ytgepbekdgocnpaa", sum := "fd83a26e87523da23e95297e2e81843e124fa69b1429c5f5ee317b0d47faa9eb", func := "loop.example/g01138/laws.FnExactArrayOrbit", spec := "fnExactArrayOrbit", apart := false }
def FnExactArrayOrbitSaid : Prop := fnExactArrayOrbitRow.holds Try.pinned (OpenSpec.ofChange fnExactArrayOrbitSpec)

/-- ITS FALSE NEIGHBOUR: 'it returns false'. Refute it at one input. -/
def fnExactArrayOrbitWrong : ChangeSpec := { name := "fnExactArrayOrbit", fn := fun _ => fun
  | [d1, d2, d3] => { results := [.lit (.bool false)], args := [d1, d2, d3] }
  | _ => none }
def FnExactArrayOrbitWrongFalsely : Prop := fnExactArrayOrbitRow.holds Try.pinned (OpenSpec.ofChange fnExactArrayOrbitWrong)

/- THE SECOND FORM. 'bulk': how many values and letters a reading holds, each counted each time it is reached (what is shared counts as often as it is met; a slice's spare places count too). A statement '..UptoSaid' is the law's where the arguments, and the package variables that the reading takes, are together of bulk at most 1048576: NARROWER than '..Said'. Prove '..Said' where nothing that the law and all that it calls make is longer than what came in: it says more and counts as full. Else prove '..UptoSaid'. A law counts once. -/
mutual
def uptoBulk {H : Type} : DataW H → Nat
  | .lit (.string bytes) => bytes.length + 1
  | .lit _ => 1
  | .nil => 1
  | .ptr d => uptoBulk d + 1
  | .slice elems spare => uptoBulkAll elems + uptoBulkAll spare + 1
  | .agg parts => uptoBulkAll parts + 1
  | .iface _ d => uptoBulk d + 1
  | .map entries => uptoBulkEntries entries + 1
  | .held _ => 1
def uptoBulkAll {H : Type} : List (DataW H) → Nat
  | [] => 0
  | d :: r => uptoBulk d + uptoBulkAll r
def uptoBulkEntries {H : Type} : List (Lit × DataW H) → Nat
  | [] => 0
  | x :: r => uptoBulkEntry x + uptoBulkEntries r
def uptoBulkEntry {H : Type} : Lit × DataW H → Nat
  | (.string bytes, d) => bytes.length + uptoBulk d + 1
  | (_, d) => uptoBulk d + 1
 end
def uptoSmall : (H : Type) → List (DataW H) → Bool := fun _ ds => decide (uptoBulkAll ds ≤ 1048576)
def OpenSpec.upto (s : _root_.Go.ChangeSpec) : _root_.Go.OpenSpec := { _root_.Go.OpenSpec.ofChange s with cond := some uptoSmall }

/-- 'laws.FnExactIsArray', WHERE WHAT IT READS IS OF BULK AT MOST 1048576: true; the input reads as it did. -/
def fnExactIsArrayUptoRow : OpenClaim := { program := "ytgepbekdgocnpaa", sum := "fd83a26e87523da23e95297e2e81843e124fa69b1429c5f5ee317b0d47faa9eb", func := "loop.example/g01138/laws.FnExactIsArray", spec := "fnExactIsArray", apart := false, narrowed := true }
def FnExactIsArrayUptoSaid : Prop := fnExactIsArrayUptoRow.holds Try.pinned (OpenSpec.upto fnExactIsArraySpec)

/-- 'laws.FnExactRangeAt', WHERE WHAT IT READS IS OF BULK AT MOST 1048576: true; the input reads as it did. -/
def fnExactRangeAtUptoRow : OpenClaim := { program := "ytgepbekdgocnpaa", sum := "fd83a26e87523da23e95297e2e81843e124fa69b1429c5f5ee317b0d47faa9eb", func := "loop.example/g01138/laws.FnExactRangeAt", spec := "fnExactRangeAt", apart := false, narrowed := true }
def FnExactRangeAtUptoSaid : Prop := fnExactRangeAtUptoRow.holds Try.pinned (OpenSpec.upto fnExactRangeAtSpec)

/-- 'laws.FnExactToggleNumber', WHERE WHAT IT READS IS OF BULK AT MOST 1048576: true; the input reads as it did. -/
def fnExactToggleNumberUptoRow : OpenClaim := { program := "ytgepbekdgocnpaa", sum := "fd83a26e87523da23e95297e2e81843e124fa69b1429c5f5ee317b0d47faa9eb", func := "loop.example/g01138/laws.FnExactToggleNumber", spec := "fnExactToggleNumber", unfollowed := true, recurses := true, apart := false, narrowed := true }
def FnExactToggleNumberUptoSaid : Prop := fnExactToggleNumberUptoRow.holds Try.pinned (OpenSpec.upto fnExactToggleNumberSpec)

/-- 'laws.FnExactToggleNumbers', WHERE WHAT IT READS IS OF BULK AT MOST 1048576: true; the input reads as it did. -/
def fnExactToggleNumbersUptoRow : OpenClaim := { program := "ytgepbekdgocnpaa", sum := "fd83a26e87523da23e95297e2e81843e124fa69b1429c5f5ee317b0d47faa9eb", func := "loop.example/g01138/laws.FnExactToggleNumbers", spec := "fnExactToggleNumbers", unfollowed := true, recurses := true, apart := false, narrowed := true }
def FnExactToggleNumbersUptoSaid : Prop := fnExactToggleNumbersUptoRow.holds Try.pinned (OpenSpec.upto fnExactToggleNumbersSpec)

/-- 'laws.FnExactRowArray', WHERE WHAT IT READS IS OF BULK AT MOST 1048576: true; the input reads as it did. -/
def fnExactRowArrayUptoRow : OpenClaim := { program := "ytgepbekdgocnpaa", sum := "fd83a26e87523da23e95297e2e81843e124fa69b1429c5f5ee317b0d47faa9eb", func := "loop.example/g01138/laws.FnExactRowArray", spec := "fnExactRowArray", apart := false, narrowed := true }
def FnExactRowArrayUptoSaid : Prop := fnExactRowArrayUptoRow.holds Try.pinned (OpenSpec.upto fnExactRowArraySpec)

/-- 'laws.FnExactRowArrayBack', WHERE WHAT IT READS IS OF BULK AT MOST 1048576: true; the input reads as it did. -/
def fnExactRowArrayBackUptoRow : OpenClaim := { program := "ytgepbekdgocnpaa", sum := "fd83a26e87523da23e95297e2e81843e124fa69b1429c5f5ee317b0d47faa9eb", func := "loop.example/g01138/laws.FnExactRowArrayBack", spec := "fnExactRowArrayBack", apart := false, narrowed := true }
def FnExactRowArrayBackUptoSaid : Prop := fnExactRowArrayBackUptoRow.holds Try.pinned (OpenSpec.upto fnExactRowArrayBackSpec)

/-- 'laws.FnExactRowArrayTimes', WHERE WHAT IT READS IS OF BULK AT MOST 1048576: true; the input reads as it did. -/
def fnExactRowArrayTimesUptoRow : OpenClaim := { program := "ytgepbekdgocnpaa", sum := "fd83a26e87523da23e95297e2e81843e124fa69b1429c5f5ee317b0d47faa9eb", func := "loop.example/g01138/laws.FnExactRowArrayTimes", spec := "fnExactRowArrayTimes", apart := false, narrowed := true }
def FnExactRowArrayTimesUptoSaid : Prop := fnExactRowArrayTimesUptoRow.holds Try.pinned (OpenSpec.upto fnExactRowArrayTimesSpec)

/-- 'laws.FnExactArrayOrbit', WHERE WHAT IT READS IS OF BULK AT MOST 1048576: true; the input reads as it did. -/
def fnExactArrayOrbitUptoRow : OpenClaim := { program := "ytgepbekdgocnpaa", sum := "fd83a26e87523da23e95297e2e81843e124fa69b1429c5f5ee317b0d47faa9eb", func := "loop.example/g01138/laws.FnExactArrayOrbit", spec := "fnExactArrayOrbit", apart := false, narrowed := true }
def FnExactArrayOrbitUptoSaid : Prop := fnExactArrayOrbitUptoRow.holds Try.pinned (OpenSpec.upto fnExactArrayOrbitSpec)

end Rows
end Go.Proofs.Ytgepbekdgocnpaa
