/-
  No cell of these rows narrows 'for every input' (looked for: loops, veiled, ifaces, maps, wideKeys, modest, calm, conditions, laid).
  DERIVED. THE GIVEN ROWS OF THIS SEAT. 8 by the template 'for every input the law returns true; each argument reads behind the call as it read before'; 0 by the template 'total and deterministic' (their statements: YtkalpichninncaaTotals.lean).
  GIVEN WITH THE SEED: the statements are not yours to turn. If you find one false, say at which input.
  Laid BY PROGRAM, IN A SANDBOX (cutbox-rows.mjs): the forced cells as the released guide's own fill.sh prints them over the translation 1b8804d411c861b3… (all of the seat's roots in one cut). By AI agents, Wed Nov 11 2026. No macro, syntax, notation, axiom, sorry.
-/
import Derived.Test.YtkalpichninncaaChecked
import GoSem.Claim
import GoSem.ClaimJoined
import GoSem.ClaimMapViews
import Derived.JoinedTies
import Derived.KernelRfl
namespace Go.Proofs.Ytkalpichninncaa
/- THE CELL 'sum', in the pinned program and in every row, IS THE sha256 OF THE DUMP (.gsa) THAT YtkalpichninncaaProg.lean LOADS. Nothing in Lean hashes anything: it is a label: what it is worth is what the hold of that sum in a sandbox is worth. -/
noncomputable def Try.pinned : Pinned := { name := "ytkalpichninncaa", sum := "1b8804d411c861b339d0a894035d1e42cb2cd02bf304115d7114df77d4cf65f2", checked := Try.checked }
namespace Rows
def none {H : Type} : Left H := { results := [], args := [] }

/-- 'laws.FnExactRanksOf': WHATEVER THE INPUT: true; the input reads as it did. -/
def fnExactRanksOfSpec : ChangeSpec := { name := "fnExactRanksOf", fn := fun _ => fun
  | [d] => { results := [.lit (.bool true)], args := [d] }
  | _ => none }
def fnExactRanksOfRow : OpenClaim := { program := "ytkalpichninncaa", sum := "1b8804d411c861b339d0a894035d1e42cb2cd02bf304115d7114df77d4cf65f2", func := "loop.example/g01138/laws.FnExactRanksOf", spec := "fnExactRanksOf", apart := false }
def FnExactRanksOfSaid : Prop := fnExactRanksOfRow.holds Try.pinned (OpenSpec.ofChange fnExactRanksOfSpec)

/-- ITS FALSE NEIGHBOUR: 'it returns false'. Refute it at one input. -/
def fnExactRanksOfWrong : ChangeSpec := { name := "fnExactRanksOf", fn := fun _ => fun
  | [d] => { results := [.lit (.bool false)], args := [d] }
  | _ => none }
def FnExactRanksOfWrongFalsely : Prop := fnExactRanksOfRow.holds Try.pinned (OpenSpec.ofChange fnExactRanksOfWrong)

/-- 'laws.FnExactToggleRank': WHATEVER THE INPUT: true; the input reads as it did. -/
def fnExactToggleRankSpec : ChangeSpec := { name := "fnExactToggleRank", fn := fun _ => fun
  | [d1, d2, d3] => { results := [.lit (.bool true)], args := [d1, d2, d3] }
  | _ => none }
def fnExactToggleRankRow : OpenClaim := { program := "ytkalpichninncaa", sum := "1b8804d411c861b339d0a894035d1e42cb2cd02bf304115d7114df77d4cf65f2", func := "loop.example/g01138/laws.FnExactToggleRank", spec := "fnExactToggleRank", unfollowed := true, recurses := true, apart := false }
def FnExactToggleRankSaid : Prop := fnExactToggleRankRow.holds Try.pinned (OpenSpec.ofChange fnExactToggleRankSpec)

/-- ITS FALSE NEIGHBOUR: 'it returns false'. Refute it at one input. -/
def fnExactToggleRankWrong : ChangeSpec := { name := "fnExactToggleRank", fn := fun _ => fun
  | [d1, d2, d3] => { results := [.lit (.bool false)], args := [d1, d2, d3] }
  | _ => none }
def FnExactToggleRankWrongFalsely : Prop := fnExactToggleRankRow.holds Try.pinned (OpenSpec.ofChange fnExactToggleRankWrong)

/-- 'laws.FnExactToggleRanks': WHATEVER THE INPUT: true; the input reads as it did. -/
def fnExactToggleRanksSpec : ChangeSpec := { name := "fnExactToggleRanks", fn := fun _ => fun
  | [d1, d2, d3] => { results := [.lit (.bool true)], args := [d1, d2, d3] }
  | _ => none }
def fnExactToggleRanksRow : OpenClaim := { program := "ytkalpichninncaa", sum := "1b8804d411c861b339d0a894035d1e42cb2cd02bf304115d7114df77d4cf65f2", func := "loop.example/g01138/laws.FnExactToggleRanks", spec := "fnExactToggleRanks", unfollowed := true, recurses := true, apart := false }
def FnExactToggleRanksSaid : Prop := fnExactToggleRanksRow.holds Try.pinned (OpenSpec.ofChange fnExactToggleRanksSpec)

/-- ITS FALSE NEIGHBOUR: 'it returns false'. Refute it at one input. -/
def fnExactToggleRanksWrong : ChangeSpec := { name := "fnExactToggleRanks", fn := fun _ => fun
  | [d1, d2, d3] => { results := [.lit (.bool false)], args := [d1, d2, d3] }
  | _ => none }
def FnExactToggleRanksWrongFalsely : Prop := fnExactToggleRanksRow.holds Try.pinned (OpenSpec.ofChange fnExactToggleRanksWrong)

/-- 'laws.FnExactRowByRanks': WHATEVER THE INPUT: true; the input reads as it did. -/
def fnExactRowByRanksSpec : ChangeSpec := { name := "fnExactRowByRanks", fn := fun _ => fun
  | [d1, d2] => { results := [.lit (.bool true)], args := [d1, d2] }
  | _ => none }
def fnExactRowByRanksRow : OpenClaim := { program := "ytkalpichninncaa", sum := "1b8804d411c861b339d0a894035d1e42cb2cd02bf304115d7114df77d4cf65f2", func := "loop.example/g01138/laws.FnExactRowByRanks", spec := "fnExactRowByRanks", unfollowed := true, recurses := true, apart := false }
def FnExactRowByRanksSaid : Prop := fnExactRowByRanksRow.holds Try.pinned (OpenSpec.ofChange fnExactRowByRanksSpec)

/-- ITS FALSE NEIGHBOUR: 'it returns false'. Refute it at one input. -/
def fnExactRowByRanksWrong : ChangeSpec := { name := "fnExactRowByRanks", fn := fun _ => fun
  | [d1, d2] => { results := [.lit (.bool false)], args := [d1, d2] }
  | _ => none }
def FnExactRowByRanksWrongFalsely : Prop := fnExactRowByRanksRow.holds Try.pinned (OpenSpec.ofChange fnExactRowByRanksWrong)

/-- 'laws.FnExactRowvacuation': WHATEVER THE INPUT: true; the input reads as it did. -/
def fnExactRowvacuationSpec : ChangeSpec := { name := "fnExactRowvacuation", fn := fun _ => fun
  | [d1, d2] => { results := [.lit (.bool true)], args := [d1, d2] }
  | _ => none }
def fnExactRowvacuationRow : OpenClaim := { program := "ytkalpichninncaa", sum := "1b8804d411c861b339d0a894035d1e42cb2cd02bf304115d7114df77d4cf65f2", func := "loop.example/g01138/laws.FnExactRowvacuation", spec := "fnExactRowvacuation", unfollowed := true, recurses := true, apart := false }
def FnExactRowvacuationSaid : Prop := fnExactRowvacuationRow.holds Try.pinned (OpenSpec.ofChange fnExactRowvacuationSpec)

/-- ITS FALSE NEIGHBOUR: 'it returns false'. Refute it at one input. -/
def fnExactRowvacuationWrong : ChangeSpec := { name := "fnExactRowvacuation", fn := fun _ => fun
  | [d1, d2] => { results := [.lit (.bool false)], args := [d1, d2] }
  | _ => none }
def FnExactRowvacuationWrongFalsely : Prop := fnExactRowvacuationRow.holds Try.pinned (OpenSpec.ofChange fnExactRowvacuationWrong)

/-- 'laws.FnExactDualRowvacuation': WHATEVER THE INPUT: true; the input reads as it did. -/
def fnExactDualRowvacuationSpec : ChangeSpec := { name := "fnExactDualRowvacuation", fn := fun _ => fun
  | [d1, d2] => { results := [.lit (.bool true)], args := [d1, d2] }
  | _ => none }
def fnExactDualRowvacuationRow : OpenClaim := { program := "ytkalpichninncaa", sum := "1b8804d411c861b339d0a894035d1e42cb2cd02bf304115d7114df77d4cf65f2", func := "loop.example/g01138/laws.FnExactDualRowvacuation", spec := "fnExactDualRowvacuation", unfollowed := true, recurses := true, apart := false }
def FnExactDualRowvacuationSaid : Prop := fnExactDualRowvacuationRow.holds Try.pinned (OpenSpec.ofChange fnExactDualRowvacuationSpec)

/-- ITS FALSE NEIGHBOUR: 'it returns false'. Refute it at one input. -/
def fnExactDualRowvacuationWrong : ChangeSpec := { name := "fnExactDualRowvacuation", fn := fun _ => fun
  | [d1, d2] => { results := [.lit (.bool false)], args := [d1, d2] }
  | _ => none }
def FnExactDualRowvacuationWrongFalsely : Prop := fnExactDualRowvacuationRow.holds Try.pinned (OpenSpec.ofChange fnExactDualRowvacuationWrong)

/-- 'laws.FnExactGyrateIdeal': WHATEVER THE INPUT: true; the input reads as it did. -/
def fnExactGyrateIdealSpec : ChangeSpec := { name := "fnExactGyrateIdeal", fn := fun _ => fun
  | [d1, d2] => { results := [.lit (.bool true)], args := [d1, d2] }
  | _ => none }
def fnExactGyrateIdealRow : OpenClaim := { program := "ytkalpichninncaa", sum := "1b8804d411c861b339d0a894035d1e42cb2cd02bf304115d7114df77d4cf65f2", func := "loop.example/g01138/laws.FnExactGyrateIdeal", spec := "fnExactGyrateIdeal", unfollowed := true, recurses := true, apart := false }
def FnExactGyrateIdealSaid : Prop := fnExactGyrateIdealRow.holds Try.pinned (OpenSpec.ofChange fnExactGyrateIdealSpec)

/-- ITS FALSE NEIGHBOUR: 'it returns false'. Refute it at one input. -/
def fnExactGyrateIdealWrong : ChangeSpec := { name := "fnExactGyrateIdeal", fn := fun _ => fun
  | [d1, d2] => { results := [.lit (.bool false)], args := [d1, d2] }
  | _ => none }
def FnExactGyrateIdealWrongFalsely : Prop := fnExactGyrateIdealRow.holds Try.pinned (OpenSpec.ofChange fnExactGyrateIdealWrong)

/-- 'laws.FnExactGyrateBack': WHATEVER THE INPUT: true; the input reads as it did. -/
def fnExactGyrateBackSpec : ChangeSpec := { name := "fnExactGyrateBack", fn := fun _ => fun
  | [d1, d2] => { results := [.lit (.bool true)], args := [d1, d2] }
  | _ => none }
def fnExactGyrateBackRow : OpenClaim := { program := "ytkalpichninncaa", sum := "1b8804d411c861b339d0a894035d1e42cb2cd02bf304115d7114df77d4cf65f2", func := "loop.example/g01138/laws.FnExactGyrateBack", spec := "fnExactGyrateBack", unfollowed := true, recurses := true, apart := false }
def FnExactGyrateBackSaid : Prop := fnExactGyrateBackRow.holds Try.pinned (OpenSpec.ofChange fnExactGyrateBackSpec)

/-- ITS FALSE NEIGHBOUR: 'it returns false'. Refute it at one input. -/
def fnExactGyrateBackWrong : ChangeSpec := { name := "fnExactGyrateBack", fn := fun _ => fun
  | [d1, d2] => { results := [.lit (.bool false)], args := [d1, d2] }
  | _ => none }
def FnExactGyrateBackWrongFalsely : Prop := fnExactGyrateBackRow.holds Try.pinned (OpenSpec.ofChange fnExactGyrateBackWrong)

/- THE SECOND FORM. 'bulk': how many values and letters a reading holds, each counted each time it is reached (what is shared counts as often as it is met; a slice's spare places count too). A statement '..UptoSaid' is the law's where the arguments, and the package variables that the reading takes, are together of bulk at most 1048576: NARROWER than '..Said'. Prove '..Said' where nothing that the law and all that it calls make is longer than what came in: it says more and counts as full. Else prove '..UptoSaid'. A law counts once. -/
mutual
def uptoBulk {H : Type} : DataW H → Nat
  | .lit (.string bytes) => bytes.length + 1
  | .lit _ => 1
  | .nil => 1
  | .ptr d => uptoBulk d + 1
  | .slice elems spare => uptoBulkAll elems + uptoBulkAll spare + 1
  | .agg parts => uptoBulkAll parts + 1
  | .iface _ d => uptoBulk d + 1
  | .map entries => uptoBulkEntries entries + 1
  | .held _ => 1
def uptoBulkAll {H : Type} : List (DataW H) → Nat
  | [] => 0
  | d :: r => uptoBulk d + uptoBulkAll r
def uptoBulkEntries {H : Type} : List (Lit × DataW H) → Nat
  | [] => 0
  | x :: r => uptoBulkEntry x + uptoBulkEntries r
def uptoBulkEntry {H : Type} : Lit × DataW H → Nat
  | (.string bytes, d) => bytes.length + uptoBulk d + 1
  | (_, d) => uptoBulk d + 1
 end
def uptoSmall : (H : Type) → List (DataW H) → Bool := fun _ ds => decide (uptoBulkAll ds ≤ 1048576)
def OpenSpec.upto (s : _root_.Go.ChangeSpec) : _root_.Go.OpenSpec := { _root_.Go.OpenSpec.ofChange s with cond := some uptoSmall }

/-- 'laws.FnExactRanksOf', WHERE WHAT IT READS IS OF BULK AT MOST 1048576: true; the input reads as it did. -/
def fnExactRanksOfUptoRow : OpenClaim := { program := "ytkalpichninncaa", sum := "1b8804d411c861b339d0a894035d1e42cb2cd02bf304115d7114df77d4cf65f2", func := "loop.example/g01138/laws.FnExactRanksOf", spec := "fnExactRanksOf", apart := false, narrowed := true }
def FnExactRanksOfUptoSaid : Prop := fnExactRanksOfUptoRow.holds Try.pinned (OpenSpec.upto fnExactRanksOfSpec)

/-- 'laws.FnExactToggleRank', WHERE WHAT IT READS IS OF BULK AT MOST 1048576: true; the input reads as it did. -/
def fnExactToggleRankUptoRow : OpenClaim := { program := "ytkalpichninncaa", sum := "1b8804d411c861b339d0a894035d1e42cb2cd02bf304115d7114df77d4cf65f2", func := "loop.example/g01138/laws.FnExactToggleRank", spec := "fnExactToggleRank", unfollowed := true, recurses := true, apart := false, narrowed := true }
def FnExactToggleRankUptoSaid : Prop := fnExactToggleRankUptoRow.holds Try.pinned (OpenSpec.upto fnExactToggleRankSpec)

/-- 'laws.FnExactToggleRanks', WHERE WHAT IT READS IS OF BULK AT MOST 1048576: true; the input reads as it did. -/
def fnExactToggleRanksUptoRow : OpenClaim := { program := "ytkalpichninncaa", sum := "1b8804d411c861b339d0a894035d1e42cb2cd02bf304115d7114df77d4cf65f2", func := "loop.example/g01138/laws.FnExactToggleRanks", spec := "fnExactToggleRanks", unfollowed := true, recurses := true, apart := false, narrowed := true }
def FnExactToggleRanksUptoSaid : Prop := fnExactToggleRanksUptoRow.holds Try.pinned (OpenSpec.upto fnExactToggleRanksSpec)

/-- 'laws.FnExactRowByRanks', WHERE WHAT IT READS IS OF BULK AT MOST 1048576: true; the input reads as it did. -/
def fnExactRowByRanksUptoRow : OpenClaim := { program := "ytkalpichninncaa", sum := "1b8804d411c861b339d0a894035d1e42cb2cd02bf304115d7114df77d4cf65f2", func := "loop.example/g01138/laws.FnExactRowByRanks", spec := "fnExactRowByRanks", unfollowed := true, recurses := true, apart := false, narrowed := true }
def FnExactRowByRanksUptoSaid : Prop := fnExactRowByRanksUptoRow.holds Try.pinned (OpenSpec.upto fnExactRowByRanksSpec)

/-- 'laws.FnExactRowvacuation', WHERE WHAT IT READS IS OF BULK AT MOST 1048576: true; the input reads as it did. -/
def fnExactRowvacuationUptoRow : OpenClaim := { program := "ytkalpichninncaa", sum := "1b8804d411c861b339d0a894035d1e42cb2cd02bf304115d7114df77d4cf65f2", func := "loop.example/g01138/laws.FnExactRowvacuation", spec := "fnExactRowvacuation", unfollowed := true, recurses := true, apart := false, narrowed := true }
def FnExactRowvacuationUptoSaid : Prop := fnExactRowvacuationUptoRow.holds Try.pinned (OpenSpec.upto fnExactRowvacuationSpec)

/-- 'laws.FnExactDualRowvacuation', WHERE WHAT IT READS IS OF BULK AT MOST 1048576: true; the input reads as it did. -/
def fnExactDualRowvacuationUptoRow : OpenClaim := { program := "ytkalpichninncaa", sum := "1b8804d411c861b339d0a894035d1e42cb2cd02bf304115d7114df77d4cf65f2", func := "loop.example/g01138/laws.FnExactDualRowvacuation", spec := "fnExactDualRowvacuation", unfollowed := true, recurses := true, apart := false, narrowed := true }
def FnExactDualRowvacuationUptoSaid : Prop := fnExactDualRowvacuationUptoRow.holds Try.pinned (OpenSpec.upto fnExactDualRowvacuationSpec)

/-- 'laws.FnExactGyrateIdeal', WHERE WHAT IT READS IS OF BULK AT MOST 1048576: true; the input reads as it did. -/
def fnExactGyrateIdealUptoRow : OpenClaim := { program := "ytkalpichninncaa", sum := "1b8804d411c861b339d0a894035d1e42cb2cd02bf304115d7114df77d4cf65f2", func := "loop.example/g01138/laws.FnExactGyrateIdeal", spec := "fnExactGyrateIdeal", unfollowed := true, recurses := true, apart := false, narrowed := true }
def FnExactGyrateIdealUptoSaid : Prop := fnExactGyrateIdealUptoRow.holds Try.pinned (OpenSpec.upto fnExactGyrateIdealSpec)

/-- 'laws.FnExactGyrateBack', WHERE WHAT IT READS IS OF BULK AT MOST 1048576: true; the input reads as it did. -/
def fnExactGyrateBackUptoRow : OpenClaim := { program := "ytkalpichninncaa", sum := "1b8804d411c861b339d0a894035d1e42cb2cd02bf304115d7114df77d4cf65f2", func := "loop.example/g01138/laws.FnExactGyrateBack", spec := "fnExactGyrateBack", unfollowed := true, recurses := true, apart := false, narrowed := true }
def FnExactGyrateBackUptoSaid : Prop := fnExactGyrateBackUptoRow.holds Try.pinned (OpenSpec.upto fnExactGyrateBackSpec)

end Rows
end Go.Proofs.Ytkalpichninncaa
