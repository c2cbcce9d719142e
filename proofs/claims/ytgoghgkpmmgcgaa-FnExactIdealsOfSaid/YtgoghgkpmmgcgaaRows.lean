/-
  No cell of these rows narrows 'for every input' (looked for: loops, veiled, ifaces, maps, wideKeys, modest, calm, conditions, laid).
  DERIVED. THE GIVEN ROWS OF THIS SEAT. 9 by the template 'for every input the law returns true; each argument reads behind the call as it read before'; 0 by the template 'total and deterministic' (their statements: YtgoghgkpmmgcgaaTotals.lean).
  GIVEN WITH THE SEED: the statements are not yours to turn. If you find one false, say at which input.
  Laid BY PROGRAM, IN A SANDBOX (cutbox-rows.mjs): the forced cells as the released guide's own fill.sh prints them over the translation 754e9283e5602f90… (all of the seat's roots in one cut). By AI agents, Wed Nov 11 2026. No macro, syntax, notation, axiom, sorry.
-/
import Derived.Test.YtgoghgkpmmgcgaaChecked
import GoSem.Claim
import GoSem.ClaimJoined
import GoSem.ClaimMapViews
import Derived.JoinedTies
import Derived.KernelRfl
namespace Go.Proofs.Ytgoghgkpmmgcgaa
/- THE CELL 'sum', in the pinned program and in every row, IS THE sha256 OF THE DUMP (.gsa) THAT YtgoghgkpmmgcgaaProg.lean LOADS. Nothing in Lean hashes anything: it is a label: what it is worth is what the hold of that sum in a sandbox is worth. -/
noncomputable def Try.pinned : Pinned := { name := "ytgoghgkpmmgcgaa", sum := "754e9283e5602f900bcfb26469845339224985c71bdee0db5b5b13bd4f055190", checked := Try.checked }
namespace Rows
def none {H : Type} : Left H := { results := [], args := [] }

/-- 'laws.FnExactIsPoset': WHATEVER THE INPUT: true; the input reads as it did. -/
def fnExactIsPosetSpec : ChangeSpec := { name := "fnExactIsPoset", fn := fun _ => fun
  | [d] => { results := [.lit (.bool true)], args := [d] }
  | _ => none }
def fnExactIsPosetRow : OpenClaim := { program := "ytgoghgkpmmgcgaa", sum := "754e9283e5602f900bcfb26469845339224985c71bdee0db5b5b13bd4f055190", func := "loop.example/g01138/laws.FnExactIsPoset", spec := "fnExactIsPoset", apart := false }
def FnExactIsPosetSaid : Prop := fnExactIsPosetRow.holds Try.pinned (OpenSpec.ofChange fnExactIsPosetSpec)

/-- ITS FALSE NEIGHBOUR: 'it returns false'. Refute it at one input. -/
def fnExactIsPosetWrong : ChangeSpec := { name := "fnExactIsPoset", fn := fun _ => fun
  | [d] => { results := [.lit (.bool false)], args := [d] }
  | _ => none }
def FnExactIsPosetWrongFalsely : Prop := fnExactIsPosetRow.holds Try.pinned (OpenSpec.ofChange fnExactIsPosetWrong)

/-- 'laws.FnExactIsIdeal': WHATEVER THE INPUT: true; the input reads as it did. -/
def fnExactIsIdealSpec : ChangeSpec := { name := "fnExactIsIdeal", fn := fun _ => fun
  | [d1, d2] => { results := [.lit (.bool true)], args := [d1, d2] }
  | _ => none }
def fnExactIsIdealRow : OpenClaim := { program := "ytgoghgkpmmgcgaa", sum := "754e9283e5602f900bcfb26469845339224985c71bdee0db5b5b13bd4f055190", func := "loop.example/g01138/laws.FnExactIsIdeal", spec := "fnExactIsIdeal", apart := false }
def FnExactIsIdealSaid : Prop := fnExactIsIdealRow.holds Try.pinned (OpenSpec.ofChange fnExactIsIdealSpec)

/-- ITS FALSE NEIGHBOUR: 'it returns false'. Refute it at one input. -/
def fnExactIsIdealWrong : ChangeSpec := { name := "fnExactIsIdeal", fn := fun _ => fun
  | [d1, d2] => { results := [.lit (.bool false)], args := [d1, d2] }
  | _ => none }
def FnExactIsIdealWrongFalsely : Prop := fnExactIsIdealRow.holds Try.pinned (OpenSpec.ofChange fnExactIsIdealWrong)

/-- 'laws.FnExactIdealOf': WHATEVER THE INPUT: true; the input reads as it did. -/
def fnExactIdealOfSpec : ChangeSpec := { name := "fnExactIdealOf", fn := fun _ => fun
  | [d1, d2] => { results := [.lit (.bool true)], args := [d1, d2] }
  | _ => none }
def fnExactIdealOfRow : OpenClaim := { program := "ytgoghgkpmmgcgaa", sum := "754e9283e5602f900bcfb26469845339224985c71bdee0db5b5b13bd4f055190", func := "loop.example/g01138/laws.FnExactIdealOf", spec := "fnExactIdealOf", apart := false }
def FnExactIdealOfSaid : Prop := fnExactIdealOfRow.holds Try.pinned (OpenSpec.ofChange fnExactIdealOfSpec)

/-- ITS FALSE NEIGHBOUR: 'it returns false'. Refute it at one input. -/
def fnExactIdealOfWrong : ChangeSpec := { name := "fnExactIdealOf", fn := fun _ => fun
  | [d1, d2] => { results := [.lit (.bool false)], args := [d1, d2] }
  | _ => none }
def FnExactIdealOfWrongFalsely : Prop := fnExactIdealOfRow.holds Try.pinned (OpenSpec.ofChange fnExactIdealOfWrong)

/-- 'laws.FnExactTopOf': WHATEVER THE INPUT: true; the input reads as it did. -/
def fnExactTopOfSpec : ChangeSpec := { name := "fnExactTopOf", fn := fun _ => fun
  | [d1, d2] => { results := [.lit (.bool true)], args := [d1, d2] }
  | _ => none }
def fnExactTopOfRow : OpenClaim := { program := "ytgoghgkpmmgcgaa", sum := "754e9283e5602f900bcfb26469845339224985c71bdee0db5b5b13bd4f055190", func := "loop.example/g01138/laws.FnExactTopOf", spec := "fnExactTopOf", apart := false }
def FnExactTopOfSaid : Prop := fnExactTopOfRow.holds Try.pinned (OpenSpec.ofChange fnExactTopOfSpec)

/-- ITS FALSE NEIGHBOUR: 'it returns false'. Refute it at one input. -/
def fnExactTopOfWrong : ChangeSpec := { name := "fnExactTopOf", fn := fun _ => fun
  | [d1, d2] => { results := [.lit (.bool false)], args := [d1, d2] }
  | _ => none }
def FnExactTopOfWrongFalsely : Prop := fnExactTopOfRow.holds Try.pinned (OpenSpec.ofChange fnExactTopOfWrong)

/-- 'laws.FnExactBottomOf': WHATEVER THE INPUT: true; the input reads as it did. -/
def fnExactBottomOfSpec : ChangeSpec := { name := "fnExactBottomOf", fn := fun _ => fun
  | [d1, d2] => { results := [.lit (.bool true)], args := [d1, d2] }
  | _ => none }
def fnExactBottomOfRow : OpenClaim := { program := "ytgoghgkpmmgcgaa", sum := "754e9283e5602f900bcfb26469845339224985c71bdee0db5b5b13bd4f055190", func := "loop.example/g01138/laws.FnExactBottomOf", spec := "fnExactBottomOf", apart := false }
def FnExactBottomOfSaid : Prop := fnExactBottomOfRow.holds Try.pinned (OpenSpec.ofChange fnExactBottomOfSpec)

/-- ITS FALSE NEIGHBOUR: 'it returns false'. Refute it at one input. -/
def fnExactBottomOfWrong : ChangeSpec := { name := "fnExactBottomOf", fn := fun _ => fun
  | [d1, d2] => { results := [.lit (.bool false)], args := [d1, d2] }
  | _ => none }
def FnExactBottomOfWrongFalsely : Prop := fnExactBottomOfRow.holds Try.pinned (OpenSpec.ofChange fnExactBottomOfWrong)

/-- 'laws.FnExactIsAntichain': WHATEVER THE INPUT: true; the input reads as it did. -/
def fnExactIsAntichainSpec : ChangeSpec := { name := "fnExactIsAntichain", fn := fun _ => fun
  | [d1, d2] => { results := [.lit (.bool true)], args := [d1, d2] }
  | _ => none }
def fnExactIsAntichainRow : OpenClaim := { program := "ytgoghgkpmmgcgaa", sum := "754e9283e5602f900bcfb26469845339224985c71bdee0db5b5b13bd4f055190", func := "loop.example/g01138/laws.FnExactIsAntichain", spec := "fnExactIsAntichain", apart := false }
def FnExactIsAntichainSaid : Prop := fnExactIsAntichainRow.holds Try.pinned (OpenSpec.ofChange fnExactIsAntichainSpec)

/-- ITS FALSE NEIGHBOUR: 'it returns false'. Refute it at one input. -/
def fnExactIsAntichainWrong : ChangeSpec := { name := "fnExactIsAntichain", fn := fun _ => fun
  | [d1, d2] => { results := [.lit (.bool false)], args := [d1, d2] }
  | _ => none }
def FnExactIsAntichainWrongFalsely : Prop := fnExactIsAntichainRow.holds Try.pinned (OpenSpec.ofChange fnExactIsAntichainWrong)

/-- 'laws.FnExactIdealsOf': WHATEVER THE INPUT: true; the input reads as it did. -/
def fnExactIdealsOfSpec : ChangeSpec := { name := "fnExactIdealsOf", fn := fun _ => fun
  | [d] => { results := [.lit (.bool true)], args := [d] }
  | _ => none }
def fnExactIdealsOfRow : OpenClaim := { program := "ytgoghgkpmmgcgaa", sum := "754e9283e5602f900bcfb26469845339224985c71bdee0db5b5b13bd4f055190", func := "loop.example/g01138/laws.FnExactIdealsOf", spec := "fnExactIdealsOf", unfollowed := true, recurses := true, apart := false }
def FnExactIdealsOfSaid : Prop := fnExactIdealsOfRow.holds Try.pinned (OpenSpec.ofChange fnExactIdealsOfSpec)

/-- ITS FALSE NEIGHBOUR: 'it returns false'. Refute it at one input. -/
def fnExactIdealsOfWrong : ChangeSpec := { name := "fnExactIdealsOf", fn := fun _ => fun
  | [d] => { results := [.lit (.bool false)], args := [d] }
  | _ => none }
def FnExactIdealsOfWrongFalsely : Prop := fnExactIdealsOfRow.holds Try.pinned (OpenSpec.ofChange fnExactIdealsOfWrong)

/-- 'laws.FnExactCountIdeals': WHATEVER THE INPUT: true; the input reads as it did. -/
def fnExactCountIdealsSpec : ChangeSpec := { name := "fnExactCountIdeals", fn := fun _ => fun
  | [d] => { results := [.lit (.bool true)], args := [d] }
  | _ => none }
def fnExactCountIdealsRow : OpenClaim := { program := "ytgoghgkpmmgcgaa", sum := "754e9283e5602f900bcfb26469845339224985c71bdee0db5b5b13bd4f055190", func := "loop.example/g01138/laws.FnExactCountIdeals", spec := "fnExactCountIdeals", unfollowed := true, recurses := true, apart := false }
def FnExactCountIdealsSaid : Prop := fnExactCountIdealsRow.holds Try.pinned (OpenSpec.ofChange fnExactCountIdealsSpec)

/-- ITS FALSE NEIGHBOUR: 'it returns false'. Refute it at one input. -/
def fnExactCountIdealsWrong : ChangeSpec := { name := "fnExactCountIdeals", fn := fun _ => fun
  | [d] => { results := [.lit (.bool false)], args := [d] }
  | _ => none }
def FnExactCountIdealsWrongFalsely : Prop := fnExactCountIdealsRow.holds Try.pinned (OpenSpec.ofChange fnExactCountIdealsWrong)

/-- 'laws.FnExactAntichainsOf': WHATEVER THE INPUT: true; the input reads as it did. -/
def fnExactAntichainsOfSpec : ChangeSpec := { name := "fnExactAntichainsOf", fn := fun _ => fun
  | [d] => { results := [.lit (.bool true)], args := [d] }
  | _ => none }
def fnExactAntichainsOfRow : OpenClaim := { program := "ytgoghgkpmmgcgaa", sum := "754e9283e5602f900bcfb26469845339224985c71bdee0db5b5b13bd4f055190", func := "loop.example/g01138/laws.FnExactAntichainsOf", spec := "fnExactAntichainsOf", unfollowed := true, recurses := true, apart := false }
def FnExactAntichainsOfSaid : Prop := fnExactAntichainsOfRow.holds Try.pinned (OpenSpec.ofChange fnExactAntichainsOfSpec)

/-- ITS FALSE NEIGHBOUR: 'it returns false'. Refute it at one input. -/
def fnExactAntichainsOfWrong : ChangeSpec := { name := "fnExactAntichainsOf", fn := fun _ => fun
  | [d] => { results := [.lit (.bool false)], args := [d] }
  | _ => none }
def FnExactAntichainsOfWrongFalsely : Prop := fnExactAntichainsOfRow.holds Try.pinned (OpenSpec.ofChange fnExactAntichainsOfWrong)

/- THE SECOND FORM. 'bulk': how many values and letters a reading holds, each counted each time it is reached (what is shared counts as often as it is met; a slice's spare places count too). A statement '..UptoSaid' is the law's where the arguments, and the package variables that the reading takes, are together of bulk at most 1048576: NARROWER than '..Said'. Prove '..Said' where nothing that the law and all that it calls make is longer than what came in: it says more and counts as full. Else prove '..UptoSaid'. A law counts once. -/
mutual
def uptoBulk {H : Type} : DataW H → Nat
  | .lit (.string bytes) => bytes.length + 1
  | .lit _ => 1
  | .nil => 1
  | .ptr d => uptoBulk d + 1
  | .slice elems spare => uptoBulkAll elems + uptoBulkAll spare + 1
  | .agg parts => uptoBulkAll parts + 1
  | .iface _ d => uptoBulk d + 1
  | .map entries => uptoBulkEntries entries + 1
  | .held _ => 1
def uptoBulkAll {H : Type} : List (DataW H) → Nat
  | [] => 0
  | d :: r => uptoBulk d + uptoBulkAll r
def uptoBulkEntries {H : Type} : List (Lit × DataW H) → Nat
  | [] => 0
  | x :: r => uptoBulkEntry x + uptoBulkEntries r
def uptoBulkEntry {H : Type} : Lit × DataW H → Nat
  | (.string bytes, d) => bytes.length + uptoBulk d + 1
  | (_, d) => uptoBulk d + 1
 end
def uptoSmall : (H : Type) → List (DataW H) → Bool := fun _ ds => decide (uptoBulkAll ds ≤ 1048576)
def OpenSpec.upto (s : _root_.Go.ChangeSpec) : _root_.Go.OpenSpec := { _root_.Go.OpenSpec.ofChange s with cond := some uptoSmall }

/-- 'laws.FnExactIsPoset', WHERE WHAT IT READS IS OF BULK AT MOST 1048576: true; the input reads as it did. -/
def fnExactIsPosetUptoRow : OpenClaim := { program := "ytgoghgkpmmgcgaa", sum := "754e9283e5602f900bcfb26469845339224985c71bdee0db5b5b13bd4f055190", func := "loop.example/g01138/laws.FnExactIsPoset", spec := "fnExactIsPoset", apart := false, narrowed := true }
def FnExactIsPosetUptoSaid : Prop := fnExactIsPosetUptoRow.holds Try.pinned (OpenSpec.upto fnExactIsPosetSpec)

/-- 'laws.FnExactIsIdeal', WHERE WHAT IT READS IS OF BULK AT MOST 1048576: true; the input reads as it did. -/
def fnExactIsIdealUptoRow : OpenClaim := { program := "ytgoghgkpmmgcgaa", sum := "754e9283e5602f900bcfb26469845339224985c71bdee0db5b5b13bd4f055190", func := "loop.example/g01138/laws.FnExactIsIdeal", spec := "fnExactIsIdeal", apart := false, narrowed := true }
def FnExactIsIdealUptoSaid : Prop := fnExactIsIdealUptoRow.holds Try.pinned (OpenSpec.upto fnExactIsIdealSpec)

/-- 'laws.FnExactIdealOf', WHERE WHAT IT READS IS OF BULK AT MOST 1048576: true; the input reads as it did. -/
def fnExactIdealOfUptoRow : OpenClaim := { program := "ytgoghgkpmmgcgaa", sum := "754e9283e5602f900bcfb26469845339224985c71bdee0db5b5b13bd4f055190", func := "loop.example/g01138/laws.FnExactIdealOf", spec := "fnExactIdealOf", apart := false, narrowed := true }
def FnExactIdealOfUptoSaid : Prop := fnExactIdealOfUptoRow.holds Try.pinned (OpenSpec.upto fnExactIdealOfSpec)

/-- 'laws.FnExactTopOf', WHERE WHAT IT READS IS OF BULK AT MOST 1048576: true; the input reads as it did. -/
def fnExactTopOfUptoRow : OpenClaim := { program := "ytgoghgkpmmgcgaa", sum := "754e9283e5602f900bcfb26469845339224985c71bdee0db5b5b13bd4f055190", func := "loop.example/g01138/laws.FnExactTopOf", spec := "fnExactTopOf", apart := false, narrowed := true }
def FnExactTopOfUptoSaid : Prop := fnExactTopOfUptoRow.holds Try.pinned (OpenSpec.upto fnExactTopOfSpec)

/-- 'laws.FnExactBottomOf', WHERE WHAT IT READS IS OF BULK AT MOST 1048576: true; the input reads as it did. -/
def fnExactBottomOfUptoRow : OpenClaim := { program := "ytgoghgkpmmgcgaa", sum := "754e9283e5602f900bcfb26469845339224985c71bdee0db5b5b13bd4f055190", func := "loop.example/g01138/laws.FnExactBottomOf", spec := "fnExactBottomOf", apart := false, narrowed := true }
def FnExactBottomOfUptoSaid : Prop := fnExactBottomOfUptoRow.holds Try.pinned (OpenSpec.upto fnExactBottomOfSpec)

/-- 'laws.FnExactIsAntichain', WHERE WHAT IT READS IS OF BULK AT MOST 1048576: true; the input reads as it did. -/
def fnExactIsAntichainUptoRow : OpenClaim := { program := "ytgoghgkpmmgcgaa", sum := "754e9283e5602f900bcfb26469845339224985c71bdee0db5b5b13bd4f055190", func := "loop.example/g01138/laws.FnExactIsAntichain", spec := "fnExactIsAntichain", apart := false, narrowed := true }
def FnExactIsAntichainUptoSaid : Prop := fnExactIsAntichainUptoRow.holds Try.pinned (OpenSpec.upto fnExactIsAntichainSpec)

/-- 'laws.FnExactIdealsOf', WHERE WHAT IT READS IS OF BULK AT MOST 1048576: true; the input reads as it did. -/
def fnExactIdealsOfUptoRow : OpenClaim := { program := "ytgoghgkpmmgcgaa", sum := "754e9283e5602f900bcfb26469845339224985c71bdee0db5b5b13bd4f055190", func := "loop.example/g01138/laws.FnExactIdealsOf", spec := "fnExactIdealsOf", unfollowed := true, recurses := true, apart := false, narrowed := true }
def FnExactIdealsOfUptoSaid : Prop := fnExactIdealsOfUptoRow.holds Try.pinned (OpenSpec.upto fnExactIdealsOfSpec)

/-- 'laws.FnExactCountIdeals', WHERE WHAT IT READS IS OF BULK AT MOST 1048576: true; the input reads as it did. -/
def fnExactCountIdealsUptoRow : OpenClaim := { program := "ytgoghgkpmmgcgaa", sum := "754e9283e5602f900bcfb26469845339224985c71bdee0db5b5b13bd4f055190", func := "loop.example/g01138/laws.FnExactCountIdeals", spec := "fnExactCountIdeals", unfollowed := true, recurses := true, apart := false, narrowed := true }
def FnExactCountIdealsUptoSaid : Prop := fnExactCountIdealsUptoRow.holds Try.pinned (OpenSpec.upto fnExactCountIdealsSpec)

/-- 'laws.FnExactAntichainsOf', WHERE WHAT IT READS IS OF BULK AT MOST 1048576: true; the input reads as it did. -/
def fnExactAntichainsOfUptoRow : OpenClaim := { program := "ytgoghgkpmmgcgaa", sum := "754e9283e5602f900bcfb26469845339224985c71bdee0db5b5b13bd4f055190", func := "loop.example/g01138/laws.FnExactAntichainsOf", spec := "fnExactAntichainsOf", unfollowed := true, recurses := true, apart := false, narrowed := true }
def FnExactAntichainsOfUptoSaid : Prop := fnExactAntichainsOfUptoRow.holds Try.pinned (OpenSpec.upto fnExactAntichainsOfSpec)

end Rows
end Go.Proofs.Ytgoghgkpmmgcgaa
