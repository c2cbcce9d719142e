/-
  No cell of these rows narrows 'for every input' (looked for: loops, veiled, ifaces, maps, wideKeys, modest, calm, conditions, laid).
  DERIVED. THE GIVEN ROWS OF THIS SEAT. 5 by the template 'for every input the law returns true; each argument reads behind the call as it read before'; 0 by the template 'total and deterministic' (their statements: YtpdoheagfjeefaaTotals.lean).
  GIVEN WITH THE SEED: the statements are not yours to turn. If you find one false, say at which input.
  Laid BY PROGRAM, IN A SANDBOX (cutbox-rows.mjs): the forced cells as the released guide's own fill.sh prints them over the translation aa041165f9546354… (all of the seat's roots in one cut). By AI agents, Wed Nov 11 2026. No macro, syntax, notation, axiom, sorry.
-/
import Derived.Test.YtpdoheagfjeefaaChecked
import GoSem.Claim
import GoSem.ClaimJoined
import GoSem.ClaimMapViews
import Derived.JoinedTies
import Derived.KernelRfl
namespace Go.Proofs.Ytpdoheagfjeefaa
/- THE CELL 'sum', in the pinned program and in every row, IS THE sha256 OF THE DUMP (.gsa) THAT YtpdoheagfjeefaaProg.lean LOADS. Nothing in Lean hashes anything: it is a label: what it is worth is what the hold of that sum in a sandbox is worth. -/
noncomputable def Try.pinned : Pinned := { name := "ytpdoheagfjeefaa", sum := "aa041165f9546354db6556da114c962962cd7127c34d54182b4bf560c3fc1c58", checked := Try.checked }
namespace Rows
def none {H : Type} : Left H := { results := [], args := [] }

/-- 'laws.FnEvacuation': WHATEVER THE INPUT: true; the input reads as it did. -/
def fnEvacuationSpec : ChangeSpec := { name := "fnEvacuation", fn := fun _ => fun
  | [d1, d2] => { results := [.lit (.bool true)], args := [d1, d2] }
  | _ => none }
def fnEvacuationRow : OpenClaim := { program := "ytpdoheagfjeefaa", sum := "aa041165f9546354db6556da114c962962cd7127c34d54182b4bf560c3fc1c58", func := "loop.example/g01138/laws.FnEvacuation", spec := "fnEvacuation", unfollowed := true, recurses := true, apart := false }
def FnEvacuationSaid : Prop := fnEvacuationRow.holds Try.pinned (OpenSpec.ofChange fnEvacuationSpec)

/-- ITS FALSE NEIGHBOUR: 'it returns false'. Refute it at one input. -/
def fnEvacuationWrong : ChangeSpec := { name := "fnEvacuation", fn := fun _ => fun
  | [d1, d2] => { results := [.lit (.bool false)], args := [d1, d2] }
  | _ => none }
def FnEvacuationWrongFalsely : Prop := fnEvacuationRow.holds Try.pinned (OpenSpec.ofChange fnEvacuationWrong)

/-- 'laws.FnTogglesUndo': WHATEVER THE INPUT: true; the input reads as it did. -/
def fnTogglesUndoSpec : ChangeSpec := { name := "fnTogglesUndo", fn := fun _ => fun
  | [d1, d2] => { results := [.lit (.bool true)], args := [d1, d2] }
  | _ => none }
def fnTogglesUndoRow : OpenClaim := { program := "ytpdoheagfjeefaa", sum := "aa041165f9546354db6556da114c962962cd7127c34d54182b4bf560c3fc1c58", func := "loop.example/g01138/laws.FnTogglesUndo", spec := "fnTogglesUndo", unfollowed := true, recurses := true, apart := false }
def FnTogglesUndoSaid : Prop := fnTogglesUndoRow.holds Try.pinned (OpenSpec.ofChange fnTogglesUndoSpec)

/-- ITS FALSE NEIGHBOUR: 'it returns false'. Refute it at one input. -/
def fnTogglesUndoWrong : ChangeSpec := { name := "fnTogglesUndo", fn := fun _ => fun
  | [d1, d2] => { results := [.lit (.bool false)], args := [d1, d2] }
  | _ => none }
def FnTogglesUndoWrongFalsely : Prop := fnTogglesUndoRow.holds Try.pinned (OpenSpec.ofChange fnTogglesUndoWrong)

/-- 'laws.FnPromotionToggles': WHATEVER THE INPUT: true; the input reads as it did. -/
def fnPromotionTogglesSpec : ChangeSpec := { name := "fnPromotionToggles", fn := fun _ => fun
  | [d1, d2] => { results := [.lit (.bool true)], args := [d1, d2] }
  | _ => none }
def fnPromotionTogglesRow : OpenClaim := { program := "ytpdoheagfjeefaa", sum := "aa041165f9546354db6556da114c962962cd7127c34d54182b4bf560c3fc1c58", func := "loop.example/g01138/laws.FnPromotionToggles", spec := "fnPromotionToggles", unfollowed := true, recurses := true, apart := false }
def FnPromotionTogglesSaid : Prop := fnPromotionTogglesRow.holds Try.pinned (OpenSpec.ofChange fnPromotionTogglesSpec)

/-- ITS FALSE NEIGHBOUR: 'it returns false'. Refute it at one input. -/
def fnPromotionTogglesWrong : ChangeSpec := { name := "fnPromotionToggles", fn := fun _ => fun
  | [d1, d2] => { results := [.lit (.bool false)], args := [d1, d2] }
  | _ => none }
def FnPromotionTogglesWrongFalsely : Prop := fnPromotionTogglesRow.holds Try.pinned (OpenSpec.ofChange fnPromotionTogglesWrong)

/-- 'laws.FnPromotionOrbits': WHATEVER THE INPUT: true; the input reads as it did. -/
def fnPromotionOrbitsSpec : ChangeSpec := { name := "fnPromotionOrbits", fn := fun _ => fun
  | [d1, d2] => { results := [.lit (.bool true)], args := [d1, d2] }
  | _ => none }
def fnPromotionOrbitsRow : OpenClaim := { program := "ytpdoheagfjeefaa", sum := "aa041165f9546354db6556da114c962962cd7127c34d54182b4bf560c3fc1c58", func := "loop.example/g01138/laws.FnPromotionOrbits", spec := "fnPromotionOrbits", unfollowed := true, recurses := true, apart := false }
def FnPromotionOrbitsSaid : Prop := fnPromotionOrbitsRow.holds Try.pinned (OpenSpec.ofChange fnPromotionOrbitsSpec)

/-- ITS FALSE NEIGHBOUR: 'it returns false'. Refute it at one input. -/
def fnPromotionOrbitsWrong : ChangeSpec := { name := "fnPromotionOrbits", fn := fun _ => fun
  | [d1, d2] => { results := [.lit (.bool false)], args := [d1, d2] }
  | _ => none }
def FnPromotionOrbitsWrongFalsely : Prop := fnPromotionOrbitsRow.holds Try.pinned (OpenSpec.ofChange fnPromotionOrbitsWrong)

/-- 'laws.FnLinearRanked': WHATEVER THE INPUT: true; the input reads as it did. -/
def fnLinearRankedSpec : ChangeSpec := { name := "fnLinearRanked", fn := fun _ => fun
  | [d1, d2] => { results := [.lit (.bool true)], args := [d1, d2] }
  | _ => none }
def fnLinearRankedRow : OpenClaim := { program := "ytpdoheagfjeefaa", sum := "aa041165f9546354db6556da114c962962cd7127c34d54182b4bf560c3fc1c58", func := "loop.example/g01138/laws.FnLinearRanked", spec := "fnLinearRanked", apart := false }
def FnLinearRankedSaid : Prop := fnLinearRankedRow.holds Try.pinned (OpenSpec.ofChange fnLinearRankedSpec)

/-- ITS FALSE NEIGHBOUR: 'it returns false'. Refute it at one input. -/
def fnLinearRankedWrong : ChangeSpec := { name := "fnLinearRanked", fn := fun _ => fun
  | [d1, d2] => { results := [.lit (.bool false)], args := [d1, d2] }
  | _ => none }
def FnLinearRankedWrongFalsely : Prop := fnLinearRankedRow.holds Try.pinned (OpenSpec.ofChange fnLinearRankedWrong)

/- THE SECOND FORM. 'bulk': how many values and letters a reading holds, each counted each time it is reached (what is shared counts as often as it is met; a slice's spare places count too). A statement '..UptoSaid' is the law's where the arguments, and the package variables that the reading takes, are together of bulk at most 1048576: NARROWER than '..Said'. Prove '..Said' where nothing that the law and all that it calls make is longer than what came in: it says more and counts as full. Else prove '..UptoSaid'. A law counts once. -/
mutual
def uptoBulk {H : Type} : DataW H → Nat
  | .lit (.string bytes) => bytes.length + 1
  | .lit _ => 1
  | .nil => 1
  | .ptr d => uptoBulk d + 1
  | .slice elems spare => uptoBulkAll elems + uptoBulkAll spare + 1
  | .agg parts => uptoBulkAll parts + 1
  | .iface _ d => uptoBulk d + 1
  | .map entries => uptoBulkEntries entries + 1
  | .held _ => 1
def uptoBulkAll {H : Type} : List (DataW H) → Nat
  | [] => 0
  | d :: r => uptoBulk d + uptoBulkAll r
def uptoBulkEntries {H : Type} : List (Lit × DataW H) → Nat
  | [] => 0
  | x :: r => uptoBulkEntry x + uptoBulkEntries r
def uptoBulkEntry {H : Type} : Lit × DataW H → Nat
  | (.string bytes, d) => bytes.length + uptoBulk d + 1
  | (_, d) => uptoBulk d + 1
 end
def uptoSmall : (H : Type) → List (DataW H) → Bool := fun _ ds => decide (uptoBulkAll ds ≤ 1048576)
def OpenSpec.upto (s : _root_.Go.ChangeSpec) : _root_.Go.OpenSpec := { _root_.Go.OpenSpec.ofChange s with cond := some uptoSmall }

/-- 'laws.FnEvacuation', WHERE WHAT IT READS IS OF BULK AT MOST 1048576: true; the input reads as it did. -/
def fnEvacuationUptoRow : OpenClaim := { program := "ytpdoheagfjeefaa", sum := "aa041165f9546354db6556da114c962962cd7127c34d54182b4bf560c3fc1c58", func := "loop.example/g01138/laws.FnEvacuation", spec := "fnEvacuation", unfollowed := true, recurses := true, apart := false, narrowed := true }
def FnEvacuationUptoSaid : Prop := fnEvacuationUptoRow.holds Try.pinned (OpenSpec.upto fnEvacuationSpec)

/-- 'laws.FnTogglesUndo', WHERE WHAT IT READS IS OF BULK AT MOST 1048576: true; the input reads as it did. -/
def fnTogglesUndoUptoRow : OpenClaim := { program := "ytpdoheagfjeefaa", sum := "aa041165f9546354db6556da114c962962cd7127c34d54182b4bf560c3fc1c58", func := "loop.example/g01138/laws.FnTogglesUndo", spec := "fnTogglesUndo", unfollowed := true, recurses := true, apart := false, narrowed := true }
def FnTogglesUndoUptoSaid : Prop := fnTogglesUndoUptoRow.holds Try.pinned (OpenSpec.upto fnTogglesUndoSpec)

/-- 'laws.FnPromotionToggles', WHERE WHAT IT READS IS OF BULK AT MOST 1048576: true; the input reads as it did. -/
def fnPromotionTogglesUptoRow : OpenClaim := { program := "ytpdoheagfjeefaa", sum := "aa041165f9546354db6556da114c962962cd7127c34d54182b4bf560c3fc1c58", func := "loop.example/g01138/laws.FnPromotionToggles", spec := "fnPromotionToggles", unfollowed := true, recurses := true, apart := false, narrowed := true }
def FnPromotionTogglesUptoSaid : Prop := fnPromotionTogglesUptoRow.holds Try.pinned (OpenSpec.upto fnPromotionTogglesSpec)

/-- 'laws.FnPromotionOrbits', WHERE WHAT IT READS IS OF BULK AT MOST 1048576: true; the input reads as it did. -/
def fnPromotionOrbitsUptoRow : OpenClaim := { program := "ytpdoheagfjeefaa", sum := "aa041165f9546354db6556da114c962962cd7127c34d54182b4bf560c3fc1c58", func := "loop.example/g01138/laws.FnPromotionOrbits", spec := "fnPromotionOrbits", unfollowed := true, recurses := true, apart := false, narrowed := true }
def FnPromotionOrbitsUptoSaid : Prop := fnPromotionOrbitsUptoRow.holds Try.pinned (OpenSpec.upto fnPromotionOrbitsSpec)

/-- 'laws.FnLinearRanked', WHERE WHAT IT READS IS OF BULK AT MOST 1048576: true; the input reads as it did. -/
def fnLinearRankedUptoRow : OpenClaim := { program := "ytpdoheagfjeefaa", sum := "aa041165f9546354db6556da114c962962cd7127c34d54182b4bf560c3fc1c58", func := "loop.example/g01138/laws.FnLinearRanked", spec := "fnLinearRanked", apart := false, narrowed := true }
def FnLinearRankedUptoSaid : Prop := fnLinearRankedUptoRow.holds Try.pinned (OpenSpec.upto fnLinearRankedSpec)

end Rows
end Go.Proofs.Ytpdoheagfjeefaa
