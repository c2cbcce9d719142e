/-
  No cell of these rows narrows 'for every input' (looked for: loops, veiled, ifaces, maps, wideKeys, modest, calm, conditions, laid).
  DERIVED. THE GIVEN ROWS OF THIS SEAT. 12 by the template 'for every input the law returns true; each argument reads behind the call as it read before'; 0 by the template 'total and deterministic' (their statements: YtkcjppbplllaiaaTotals.lean).
  GIVEN WITH THE SEED: the statements are not yours to turn. If you find one false, say at which input.
  Laid BY PROGRAM, IN A SANDBOX (cutbox-rows.mjs): the forced cells as the released guide's own fill.sh prints them over the translation 10c7a275c63f74eb… (all of the seat's roots in one cut). By AI agents, Wed Nov 11 2026. No macro, syntax, notation, axiom, sorry.
-/
import Derived.Test.YtkcjppbplllaiaaChecked
import GoSem.Claim
import GoSem.ClaimJoined
import GoSem.ClaimMapViews
import Derived.JoinedTies
import Derived.KernelRfl
namespace Go.Proofs.Ytkcjppbplllaiaa
/- THE CELL 'sum', in the pinned program and in every row, IS THE sha256 OF THE DUMP (.gsa) THAT YtkcjppbplllaiaaProg.lean LOADS. Nothing in Lean hashes anything: it is a label: what it is worth is what the hold of that sum in a sandbox is worth. -/
noncomputable def Try.pinned : Pinned := { name := "ytkcjppbplllaiaa", sum := "10c7a275c63f74eb3af69bfd552b4a3aeb3fda4d4fdb63896a1eccdafbaa9c32", checked := Try.checked }
namespace Rows
def none {H : Type} : Left H := { results := [], args := [] }

/-- 'laws.FnExactOrbitOf': WHATEVER THE INPUT: true; the input reads as it did. -/
def fnExactOrbitOfSpec : ChangeSpec := { name := "fnExactOrbitOf", fn := fun _ => fun
  | [d1, d2] => { results := [.lit (.bool true)], args := [d1, d2] }
  | _ => none }
def fnExactOrbitOfRow : OpenClaim := { program := "ytkcjppbplllaiaa", sum := "10c7a275c63f74eb3af69bfd552b4a3aeb3fda4d4fdb63896a1eccdafbaa9c32", func := "loop.example/g01138/laws.FnExactOrbitOf", spec := "fnExactOrbitOf", unfollowed := true, recurses := true, apart := false }
def FnExactOrbitOfSaid : Prop := fnExactOrbitOfRow.holds Try.pinned (OpenSpec.ofChange fnExactOrbitOfSpec)

/-- ITS FALSE NEIGHBOUR: 'it returns false'. Refute it at one input. -/
def fnExactOrbitOfWrong : ChangeSpec := { name := "fnExactOrbitOf", fn := fun _ => fun
  | [d1, d2] => { results := [.lit (.bool false)], args := [d1, d2] }
  | _ => none }
def FnExactOrbitOfWrongFalsely : Prop := fnExactOrbitOfRow.holds Try.pinned (OpenSpec.ofChange fnExactOrbitOfWrong)

/-- 'laws.FnExactAllOrbits': WHATEVER THE INPUT: true; the input reads as it did. -/
def fnExactAllOrbitsSpec : ChangeSpec := { name := "fnExactAllOrbits", fn := fun _ => fun
  | [d] => { results := [.lit (.bool true)], args := [d] }
  | _ => none }
def fnExactAllOrbitsRow : OpenClaim := { program := "ytkcjppbplllaiaa", sum := "10c7a275c63f74eb3af69bfd552b4a3aeb3fda4d4fdb63896a1eccdafbaa9c32", func := "loop.example/g01138/laws.FnExactAllOrbits", spec := "fnExactAllOrbits", unfollowed := true, recurses := true, apart := false }
def FnExactAllOrbitsSaid : Prop := fnExactAllOrbitsRow.holds Try.pinned (OpenSpec.ofChange fnExactAllOrbitsSpec)

/-- ITS FALSE NEIGHBOUR: 'it returns false'. Refute it at one input. -/
def fnExactAllOrbitsWrong : ChangeSpec := { name := "fnExactAllOrbits", fn := fun _ => fun
  | [d] => { results := [.lit (.bool false)], args := [d] }
  | _ => none }
def FnExactAllOrbitsWrongFalsely : Prop := fnExactAllOrbitsRow.holds Try.pinned (OpenSpec.ofChange fnExactAllOrbitsWrong)

/-- 'laws.FnExactOrbitLengths': WHATEVER THE INPUT: true; the input reads as it did. -/
def fnExactOrbitLengthsSpec : ChangeSpec := { name := "fnExactOrbitLengths", fn := fun _ => fun
  | [d] => { results := [.lit (.bool true)], args := [d] }
  | _ => none }
def fnExactOrbitLengthsRow : OpenClaim := { program := "ytkcjppbplllaiaa", sum := "10c7a275c63f74eb3af69bfd552b4a3aeb3fda4d4fdb63896a1eccdafbaa9c32", func := "loop.example/g01138/laws.FnExactOrbitLengths", spec := "fnExactOrbitLengths", unfollowed := true, recurses := true, apart := false }
def FnExactOrbitLengthsSaid : Prop := fnExactOrbitLengthsRow.holds Try.pinned (OpenSpec.ofChange fnExactOrbitLengthsSpec)

/-- ITS FALSE NEIGHBOUR: 'it returns false'. Refute it at one input. -/
def fnExactOrbitLengthsWrong : ChangeSpec := { name := "fnExactOrbitLengths", fn := fun _ => fun
  | [d] => { results := [.lit (.bool false)], args := [d] }
  | _ => none }
def FnExactOrbitLengthsWrongFalsely : Prop := fnExactOrbitLengthsRow.holds Try.pinned (OpenSpec.ofChange fnExactOrbitLengthsWrong)

/-- 'laws.FnExactOrderOfRow': WHATEVER THE INPUT: true; the input reads as it did. -/
def fnExactOrderOfRowSpec : ChangeSpec := { name := "fnExactOrderOfRow", fn := fun _ => fun
  | [d] => { results := [.lit (.bool true)], args := [d] }
  | _ => none }
def fnExactOrderOfRowRow : OpenClaim := { program := "ytkcjppbplllaiaa", sum := "10c7a275c63f74eb3af69bfd552b4a3aeb3fda4d4fdb63896a1eccdafbaa9c32", func := "loop.example/g01138/laws.FnExactOrderOfRow", spec := "fnExactOrderOfRow", unfollowed := true, recurses := true, apart := false }
def FnExactOrderOfRowSaid : Prop := fnExactOrderOfRowRow.holds Try.pinned (OpenSpec.ofChange fnExactOrderOfRowSpec)

/-- ITS FALSE NEIGHBOUR: 'it returns false'. Refute it at one input. -/
def fnExactOrderOfRowWrong : ChangeSpec := { name := "fnExactOrderOfRow", fn := fun _ => fun
  | [d] => { results := [.lit (.bool false)], args := [d] }
  | _ => none }
def FnExactOrderOfRowWrongFalsely : Prop := fnExactOrderOfRowRow.holds Try.pinned (OpenSpec.ofChange fnExactOrderOfRowWrong)

/-- 'laws.FnExactSizeOf': WHATEVER THE INPUT: true; the input reads as it did. -/
def fnExactSizeOfSpec : ChangeSpec := { name := "fnExactSizeOf", fn := fun _ => fun
  | [d1, d2] => { results := [.lit (.bool true)], args := [d1, d2] }
  | _ => none }
def fnExactSizeOfRow : OpenClaim := { program := "ytkcjppbplllaiaa", sum := "10c7a275c63f74eb3af69bfd552b4a3aeb3fda4d4fdb63896a1eccdafbaa9c32", func := "loop.example/g01138/laws.FnExactSizeOf", spec := "fnExactSizeOf", apart := false }
def FnExactSizeOfSaid : Prop := fnExactSizeOfRow.holds Try.pinned (OpenSpec.ofChange fnExactSizeOfSpec)

/-- ITS FALSE NEIGHBOUR: 'it returns false'. Refute it at one input. -/
def fnExactSizeOfWrong : ChangeSpec := { name := "fnExactSizeOf", fn := fun _ => fun
  | [d1, d2] => { results := [.lit (.bool false)], args := [d1, d2] }
  | _ => none }
def FnExactSizeOfWrongFalsely : Prop := fnExactSizeOfRow.holds Try.pinned (OpenSpec.ofChange fnExactSizeOfWrong)

/-- 'laws.FnExactOrbitSum': WHATEVER THE INPUT: true; the input reads as it did. -/
def fnExactOrbitSumSpec : ChangeSpec := { name := "fnExactOrbitSum", fn := fun _ => fun
  | [d1, d2] => { results := [.lit (.bool true)], args := [d1, d2] }
  | _ => none }
def fnExactOrbitSumRow : OpenClaim := { program := "ytkcjppbplllaiaa", sum := "10c7a275c63f74eb3af69bfd552b4a3aeb3fda4d4fdb63896a1eccdafbaa9c32", func := "loop.example/g01138/laws.FnExactOrbitSum", spec := "fnExactOrbitSum", unfollowed := true, recurses := true, apart := false }
def FnExactOrbitSumSaid : Prop := fnExactOrbitSumRow.holds Try.pinned (OpenSpec.ofChange fnExactOrbitSumSpec)

/-- ITS FALSE NEIGHBOUR: 'it returns false'. Refute it at one input. -/
def fnExactOrbitSumWrong : ChangeSpec := { name := "fnExactOrbitSum", fn := fun _ => fun
  | [d1, d2] => { results := [.lit (.bool false)], args := [d1, d2] }
  | _ => none }
def FnExactOrbitSumWrongFalsely : Prop := fnExactOrbitSumRow.holds Try.pinned (OpenSpec.ofChange fnExactOrbitSumWrong)

/-- 'laws.FnExactAntichainSum': WHATEVER THE INPUT: true; the input reads as it did. -/
def fnExactAntichainSumSpec : ChangeSpec := { name := "fnExactAntichainSum", fn := fun _ => fun
  | [d1, d2] => { results := [.lit (.bool true)], args := [d1, d2] }
  | _ => none }
def fnExactAntichainSumRow : OpenClaim := { program := "ytkcjppbplllaiaa", sum := "10c7a275c63f74eb3af69bfd552b4a3aeb3fda4d4fdb63896a1eccdafbaa9c32", func := "loop.example/g01138/laws.FnExactAntichainSum", spec := "fnExactAntichainSum", unfollowed := true, recurses := true, apart := false }
def FnExactAntichainSumSaid : Prop := fnExactAntichainSumRow.holds Try.pinned (OpenSpec.ofChange fnExactAntichainSumSpec)

/-- ITS FALSE NEIGHBOUR: 'it returns false'. Refute it at one input. -/
def fnExactAntichainSumWrong : ChangeSpec := { name := "fnExactAntichainSum", fn := fun _ => fun
  | [d1, d2] => { results := [.lit (.bool false)], args := [d1, d2] }
  | _ => none }
def FnExactAntichainSumWrongFalsely : Prop := fnExactAntichainSumRow.holds Try.pinned (OpenSpec.ofChange fnExactAntichainSumWrong)

/-- 'laws.FnExactElementSum': WHATEVER THE INPUT: true; the input reads as it did. -/
def fnExactElementSumSpec : ChangeSpec := { name := "fnExactElementSum", fn := fun _ => fun
  | [d1, d2, d3] => { results := [.lit (.bool true)], args := [d1, d2, d3] }
  | _ => none }
def fnExactElementSumRow : OpenClaim := { program := "ytkcjppbplllaiaa", sum := "10c7a275c63f74eb3af69bfd552b4a3aeb3fda4d4fdb63896a1eccdafbaa9c32", func := "loop.example/g01138/laws.FnExactElementSum", spec := "fnExactElementSum", unfollowed := true, recurses := true, apart := false }
def FnExactElementSumSaid : Prop := fnExactElementSumRow.holds Try.pinned (OpenSpec.ofChange fnExactElementSumSpec)

/-- ITS FALSE NEIGHBOUR: 'it returns false'. Refute it at one input. -/
def fnExactElementSumWrong : ChangeSpec := { name := "fnExactElementSum", fn := fun _ => fun
  | [d1, d2, d3] => { results := [.lit (.bool false)], args := [d1, d2, d3] }
  | _ => none }
def FnExactElementSumWrongFalsely : Prop := fnExactElementSumRow.holds Try.pinned (OpenSpec.ofChange fnExactElementSumWrong)

/-- 'laws.FnExactSizeIsEven': WHATEVER THE INPUT: true; the input reads as it did. -/
def fnExactSizeIsEvenSpec : ChangeSpec := { name := "fnExactSizeIsEven", fn := fun _ => fun
  | [d] => { results := [.lit (.bool true)], args := [d] }
  | _ => none }
def fnExactSizeIsEvenRow : OpenClaim := { program := "ytkcjppbplllaiaa", sum := "10c7a275c63f74eb3af69bfd552b4a3aeb3fda4d4fdb63896a1eccdafbaa9c32", func := "loop.example/g01138/laws.FnExactSizeIsEven", spec := "fnExactSizeIsEven", unfollowed := true, recurses := true, apart := false }
def FnExactSizeIsEvenSaid : Prop := fnExactSizeIsEvenRow.holds Try.pinned (OpenSpec.ofChange fnExactSizeIsEvenSpec)

/-- ITS FALSE NEIGHBOUR: 'it returns false'. Refute it at one input. -/
def fnExactSizeIsEvenWrong : ChangeSpec := { name := "fnExactSizeIsEven", fn := fun _ => fun
  | [d] => { results := [.lit (.bool false)], args := [d] }
  | _ => none }
def FnExactSizeIsEvenWrongFalsely : Prop := fnExactSizeIsEvenRow.holds Try.pinned (OpenSpec.ofChange fnExactSizeIsEvenWrong)

/-- 'laws.FnExactAntichainIsEven': WHATEVER THE INPUT: true; the input reads as it did. -/
def fnExactAntichainIsEvenSpec : ChangeSpec := { name := "fnExactAntichainIsEven", fn := fun _ => fun
  | [d] => { results := [.lit (.bool true)], args := [d] }
  | _ => none }
def fnExactAntichainIsEvenRow : OpenClaim := { program := "ytkcjppbplllaiaa", sum := "10c7a275c63f74eb3af69bfd552b4a3aeb3fda4d4fdb63896a1eccdafbaa9c32", func := "loop.example/g01138/laws.FnExactAntichainIsEven", spec := "fnExactAntichainIsEven", unfollowed := true, recurses := true, apart := false }
def FnExactAntichainIsEvenSaid : Prop := fnExactAntichainIsEvenRow.holds Try.pinned (OpenSpec.ofChange fnExactAntichainIsEvenSpec)

/-- ITS FALSE NEIGHBOUR: 'it returns false'. Refute it at one input. -/
def fnExactAntichainIsEvenWrong : ChangeSpec := { name := "fnExactAntichainIsEven", fn := fun _ => fun
  | [d] => { results := [.lit (.bool false)], args := [d] }
  | _ => none }
def FnExactAntichainIsEvenWrongFalsely : Prop := fnExactAntichainIsEvenRow.holds Try.pinned (OpenSpec.ofChange fnExactAntichainIsEvenWrong)

/-- 'laws.FnExactMeanOfIdeals': WHATEVER THE INPUT: true; the input reads as it did. -/
def fnExactMeanOfIdealsSpec : ChangeSpec := { name := "fnExactMeanOfIdeals", fn := fun _ => fun
  | [d] => { results := [.lit (.bool true)], args := [d] }
  | _ => none }
def fnExactMeanOfIdealsRow : OpenClaim := { program := "ytkcjppbplllaiaa", sum := "10c7a275c63f74eb3af69bfd552b4a3aeb3fda4d4fdb63896a1eccdafbaa9c32", func := "loop.example/g01138/laws.FnExactMeanOfIdeals", spec := "fnExactMeanOfIdeals", unfollowed := true, recurses := true, apart := false }
def FnExactMeanOfIdealsSaid : Prop := fnExactMeanOfIdealsRow.holds Try.pinned (OpenSpec.ofChange fnExactMeanOfIdealsSpec)

/-- ITS FALSE NEIGHBOUR: 'it returns false'. Refute it at one input. -/
def fnExactMeanOfIdealsWrong : ChangeSpec := { name := "fnExactMeanOfIdeals", fn := fun _ => fun
  | [d] => { results := [.lit (.bool false)], args := [d] }
  | _ => none }
def FnExactMeanOfIdealsWrongFalsely : Prop := fnExactMeanOfIdealsRow.holds Try.pinned (OpenSpec.ofChange fnExactMeanOfIdealsWrong)

/-- 'laws.FnExactFixedIdeals': WHATEVER THE INPUT: true; the input reads as it did. -/
def fnExactFixedIdealsSpec : ChangeSpec := { name := "fnExactFixedIdeals", fn := fun _ => fun
  | [d1, d2] => { results := [.lit (.bool true)], args := [d1, d2] }
  | _ => none }
def fnExactFixedIdealsRow : OpenClaim := { program := "ytkcjppbplllaiaa", sum := "10c7a275c63f74eb3af69bfd552b4a3aeb3fda4d4fdb63896a1eccdafbaa9c32", func := "loop.example/g01138/laws.FnExactFixedIdeals", spec := "fnExactFixedIdeals", unfollowed := true, recurses := true, apart := false }
def FnExactFixedIdealsSaid : Prop := fnExactFixedIdealsRow.holds Try.pinned (OpenSpec.ofChange fnExactFixedIdealsSpec)

/-- ITS FALSE NEIGHBOUR: 'it returns false'. Refute it at one input. -/
def fnExactFixedIdealsWrong : ChangeSpec := { name := "fnExactFixedIdeals", fn := fun _ => fun
  | [d1, d2] => { results := [.lit (.bool false)], args := [d1, d2] }
  | _ => none }
def FnExactFixedIdealsWrongFalsely : Prop := fnExactFixedIdealsRow.holds Try.pinned (OpenSpec.ofChange fnExactFixedIdealsWrong)

/- THE SECOND FORM. 'bulk': how many values and letters a reading holds, each counted each time it is reached (what is shared counts as often as it is met; a slice's spare places count too). A statement '..UptoSaid' is the law's where the arguments, and the package variables that the reading takes, are together of bulk at most 1048576: NARROWER than '..Said'. Prove '..Said' where nothing that the law and all that it calls make is longer than what came in: it says more and counts as full. Else prove '..UptoSaid'. A law counts once. -/
mutual
def uptoBulk {H : Type} : DataW H → Nat
  | .lit (.string bytes) => bytes.length + 1
  | .lit _ => 1
  | .nil => 1
  | .ptr d => uptoBulk d + 1
  | .slice elems spare => uptoBulkAll elems + uptoBulkAll spare + 1
  | .agg parts => uptoBulkAll parts + 1
  | .iface _ d => uptoBulk d + 1
  | .map entries => uptoBulkEntries entries + 1
  | .held _ => 1
def uptoBulkAll {H : Type} : List (DataW H) → Nat
  | [] => 0
  | d :: r => uptoBulk d + uptoBulkAll r
def uptoBulkEntries {H : Type} : List (Lit × DataW H) → Nat
  | [] => 0
  | x :: r => uptoBulkEntry x + uptoBulkEntries r
def uptoBulkEntry {H : Type} : Lit × DataW H → Nat
  | (.string bytes, d) => bytes.length + uptoBulk d + 1
  | (_, d) => uptoBulk d + 1
 end
def uptoSmall : (H : Type) → List (DataW H) → Bool := fun _ ds => decide (uptoBulkAll ds ≤ 1048576)
def OpenSpec.upto (s : _root_.Go.ChangeSpec) : _root_.Go.OpenSpec := { _root_.Go.OpenSpec.ofChange s with cond := some uptoSmall }

/-- 'laws.FnExactOrbitOf', WHERE WHAT IT READS IS OF BULK AT MOST 1048576: true; the input reads as it did. -/
def fnExactOrbitOfUptoRow : OpenClaim := { program := "ytkcjppbplllaiaa", sum := "10c7a275c63f74eb3af69bfd552b4a3aeb3fda4d4fdb63896a1eccdafbaa9c32", func := "loop.example/g01138/laws.FnExactOrbitOf", spec := "fnExactOrbitOf", unfollowed := true, recurses := true, apart := false, narrowed := true }
def FnExactOrbitOfUptoSaid : Prop := fnExactOrbitOfUptoRow.holds Try.pinned (OpenSpec.upto fnExactOrbitOfSpec)

/-- 'laws.FnExactAllOrbits', WHERE WHAT IT READS IS OF BULK AT MOST 1048576: true; the input reads as it did. -/
def fnExactAllOrbitsUptoRow : OpenClaim := { program := "ytkcjppbplllaiaa", sum := "10c7a275c63f74eb3af69bfd552b4a3aeb3fda4d4fdb63896a1eccdafbaa9c32", func := "loop.example/g01138/laws.FnExactAllOrbits", spec := "fnExactAllOrbits", unfollowed := true, recurses := true, apart := false, narrowed := true }
def FnExactAllOrbitsUptoSaid : Prop := fnExactAllOrbitsUptoRow.holds Try.pinned (OpenSpec.upto fnExactAllOrbitsSpec)

/-- 'laws.FnExactOrbitLengths', WHERE WHAT IT READS IS OF BULK AT MOST 1048576: true; the input reads as it did. -/
def fnExactOrbitLengthsUptoRow : OpenClaim := { program := "ytkcjppbplllaiaa", sum := "10c7a275c63f74eb3af69bfd552b4a3aeb3fda4d4fdb63896a1eccdafbaa9c32", func := "loop.example/g01138/laws.FnExactOrbitLengths", spec := "fnExactOrbitLengths", unfollowed := true, recurses := true, apart := false, narrowed := true }
def FnExactOrbitLengthsUptoSaid : Prop := fnExactOrbitLengthsUptoRow.holds Try.pinned (OpenSpec.upto fnExactOrbitLengthsSpec)

/-- 'laws.FnExactOrderOfRow', WHERE WHAT IT READS IS OF BULK AT MOST 1048576: true; the input reads as it did. -/
def fnExactOrderOfRowUptoRow : OpenClaim := { program := "ytkcjppbplllaiaa", sum := "10c7a275c63f74eb3af69bfd552b4a3aeb3fda4d4fdb63896a1eccdafbaa9c32", func := "loop.example/g01138/laws.FnExactOrderOfRow", spec := "fnExactOrderOfRow", unfollowed := true, recurses := true, apart := false, narrowed := true }
def FnExactOrderOfRowUptoSaid : Prop := fnExactOrderOfRowUptoRow.holds Try.pinned (OpenSpec.upto fnExactOrderOfRowSpec)

/-- 'laws.FnExactSizeOf', WHERE WHAT IT READS IS OF BULK AT MOST 1048576: true; the input reads as it did. -/
def fnExactSizeOfUptoRow : OpenClaim := { program := "ytkcjppbplllaiaa", sum := "10c7a275c63f74eb3af69bfd552b4a3aeb3fda4d4fdb63896a1eccdafbaa9c32", func := "loop.example/g01138/laws.FnExactSizeOf", spec := "fnExactSizeOf", apart := false, narrowed := true }
def FnExactSizeOfUptoSaid : Prop := fnExactSizeOfUptoRow.holds Try.pinned (OpenSpec.upto fnExactSizeOfSpec)

/-- 'laws.FnExactOrbitSum', WHERE WHAT IT READS IS OF BULK AT MOST 1048576: true; the input reads as it did. -/
def fnExactOrbitSumUptoRow : OpenClaim := { program := "ytkcjppbplllaiaa", sum := "10c7a275c63f74eb3af69bfd552b4a3aeb3fda4d4fdb63896a1eccdafbaa9c32", func := "loop.example/g01138/laws.FnExactOrbitSum", spec := "fnExactOrbitSum", unfollowed := true, recurses := true, apart := false, narrowed := true }
def FnExactOrbitSumUptoSaid : Prop := fnExactOrbitSumUptoRow.holds Try.pinned (OpenSpec.upto fnExactOrbitSumSpec)

/-- 'laws.FnExactAntichainSum', WHERE WHAT IT READS IS OF BULK AT MOST 1048576: true; the input reads as it did. -/
def fnExactAntichainSumUptoRow : OpenClaim := { program := "ytkcjppbplllaiaa", sum := "10c7a275c63f74eb3af69bfd552b4a3aeb3fda4d4fdb63896a1eccdafbaa9c32", func := "loop.example/g01138/laws.FnExactAntichainSum", spec := "fnExactAntichainSum", unfollowed := true, recurses := true, apart := false, narrowed := true }
def FnExactAntichainSumUptoSaid : Prop := fnExactAntichainSumUptoRow.holds Try.pinned (OpenSpec.upto fnExactAntichainSumSpec)

/-- 'laws.FnExactElementSum', WHERE WHAT IT READS IS OF BULK AT MOST 1048576: true; the input reads as it did. -/
def fnExactElementSumUptoRow : OpenClaim := { program := "ytkcjppbplllaiaa", sum := "10c7a275c63f74eb3af69bfd552b4a3aeb3fda4d4fdb63896a1eccdafbaa9c32", func := "loop.example/g01138/laws.FnExactElementSum", spec := "fnExactElementSum", unfollowed := true, recurses := true, apart := false, narrowed := true }
def FnExactElementSumUptoSaid : Prop := fnExactElementSumUptoRow.holds Try.pinned (OpenSpec.upto fnExactElementSumSpec)

/-- 'laws.FnExactSizeIsEven', WHERE WHAT IT READS IS OF BULK AT MOST 1048576: true; the input reads as it did. -/
def fnExactSizeIsEvenUptoRow : OpenClaim := { program := "ytkcjppbplllaiaa", sum := "10c7a275c63f74eb3af69bfd552b4a3aeb3fda4d4fdb63896a1eccdafbaa9c32", func := "loop.example/g01138/laws.FnExactSizeIsEven", spec := "fnExactSizeIsEven", unfollowed := true, recurses := true, apart := false, narrowed := true }
def FnExactSizeIsEvenUptoSaid : Prop := fnExactSizeIsEvenUptoRow.holds Try.pinned (OpenSpec.upto fnExactSizeIsEvenSpec)

/-- 'laws.FnExactAntichainIsEven', WHERE WHAT IT READS IS OF BULK AT MOST 1048576: true; the input reads as it did. -/
def fnExactAntichainIsEvenUptoRow : OpenClaim := { program := "ytkcjppbplllaiaa", sum := "10c7a275c63f74eb3af69bfd552b4a3aeb3fda4d4fdb63896a1eccdafbaa9c32", func := "loop.example/g01138/laws.FnExactAntichainIsEven", spec := "fnExactAntichainIsEven", unfollowed := true, recurses := true, apart := false, narrowed := true }
def FnExactAntichainIsEvenUptoSaid : Prop := fnExactAntichainIsEvenUptoRow.holds Try.pinned (OpenSpec.upto fnExactAntichainIsEvenSpec)

/-- 'laws.FnExactMeanOfIdeals', WHERE WHAT IT READS IS OF BULK AT MOST 1048576: true; the input reads as it did. -/
def fnExactMeanOfIdealsUptoRow : OpenClaim := { program := "ytkcjppbplllaiaa", sum := "10c7a275c63f74eb3af69bfd552b4a3aeb3fda4d4fdb63896a1eccdafbaa9c32", func := "loop.example/g01138/laws.FnExactMeanOfIdeals", spec := "fnExactMeanOfIdeals", unfollowed := true, recurses := true, apart := false, narrowed := true }
def FnExactMeanOfIdealsUptoSaid : Prop := fnExactMeanOfIdealsUptoRow.holds Try.pinned (OpenSpec.upto fnExactMeanOfIdealsSpec)

/-- 'laws.FnExactFixedIdeals', WHERE WHAT IT READS IS OF BULK AT MOST 1048576: true; the input reads as it did. -/
def fnExactFixedIdealsUptoRow : OpenClaim := { program := "ytkcjppbplllaiaa", sum := "10c7a275c63f74eb3af69bfd552b4a3aeb3fda4d4fdb63896a1eccdafbaa9c32", func := "loop.example/g01138/laws.FnExactFixedIdeals", spec := "fnExactFixedIdeals", unfollowed := true, recurses := true, apart := false, narrowed := true }
def FnExactFixedIdealsUptoSaid : Prop := fnExactFixedIdealsUptoRow.holds Try.pinned (OpenSpec.upto fnExactFixedIdealsSpec)

end Rows
end Go.Proofs.Ytkcjppbplllaiaa
