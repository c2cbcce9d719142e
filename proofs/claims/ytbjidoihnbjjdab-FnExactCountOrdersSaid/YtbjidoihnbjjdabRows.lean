/-
  No cell of these rows narrows 'for every input' (looked for: loops, veiled, ifaces, maps, wideKeys, modest, calm, conditions, laid).
  DERIVED. THE GIVEN ROWS OF THIS SEAT. 10 by the template 'for every input the law returns true; each argument reads behind the call as it read before'; 0 by the template 'total and deterministic' (their statements: YtbjidoihnbjjdabTotals.lean).
  GIVEN WITH THE SEED: the statements are not yours to turn. If you find one false, say at which input.
  Laid BY PROGRAM, IN A SANDBOX (cutbox-rows.mjs): the forced cells as the released guide's own fill.sh prints them over the translation 0bd7e9e42c2d88a1… (all of the seat's roots in one cut). By AI agents, Wed Nov 11 2026. No macro, syntax, notation, axiom, sorry.
-/
import Derived.Test.YtbjidoihnbjjdabChecked
import GoSem.Claim
import GoSem.ClaimJoined
import GoSem.ClaimMapViews
import Derived.JoinedTies
import Derived.KernelRfl
namespace Go.Proofs.Ytbjidoihnbjjdab
/- THE CELL 'sum', in the pinned program and in every row, IS THE sha256 OF THE DUMP (.gsa) THAT YtbjidoihnbjjdabProg.lean LOADS. Nothing in Lean hashes anything: it is a label: what it is worth is what the hold of that sum in a sandbox is worth. -/
noncomputable def Try.pinned : Pinned := { name := "ytbjidoihnbjjdab", sum := "0bd7e9e42c2d88a11c3be8f05113b95c19112561a4710af42c63018de25f6a10", checked := Try.checked }
namespace Rows
def none {H : Type} : Left H := { results := [], args := [] }

/-- 'laws.FnExactRowmotionBack': WHATEVER THE INPUT: true; the input reads as it did. -/
def fnExactRowmotionBackSpec : ChangeSpec := { name := "fnExactRowmotionBack", fn := fun _ => fun
  | [d1, d2] => { results := [.lit (.bool true)], args := [d1, d2] }
  | _ => none }
def fnExactRowmotionBackRow : OpenClaim := { program := "ytbjidoihnbjjdab", sum := "0bd7e9e42c2d88a11c3be8f05113b95c19112561a4710af42c63018de25f6a10", func := "loop.example/g01138/laws.FnExactRowmotionBack", spec := "fnExactRowmotionBack", unfollowed := true, recurses := true, apart := false }
def FnExactRowmotionBackSaid : Prop := fnExactRowmotionBackRow.holds Try.pinned (OpenSpec.ofChange fnExactRowmotionBackSpec)

/-- ITS FALSE NEIGHBOUR: 'it returns false'. Refute it at one input. -/
def fnExactRowmotionBackWrong : ChangeSpec := { name := "fnExactRowmotionBack", fn := fun _ => fun
  | [d1, d2] => { results := [.lit (.bool false)], args := [d1, d2] }
  | _ => none }
def FnExactRowmotionBackWrongFalsely : Prop := fnExactRowmotionBackRow.holds Try.pinned (OpenSpec.ofChange fnExactRowmotionBackWrong)

/-- 'laws.FnExactRowmotionTimes': WHATEVER THE INPUT: true; the input reads as it did. -/
def fnExactRowmotionTimesSpec : ChangeSpec := { name := "fnExactRowmotionTimes", fn := fun _ => fun
  | [d1, d2, d3] => { results := [.lit (.bool true)], args := [d1, d2, d3] }
  | _ => none }
def fnExactRowmotionTimesRow : OpenClaim := { program := "ytbjidoihnbjjdab", sum := "0bd7e9e42c2d88a11c3be8f05113b95c19112561a4710af42c63018de25f6a10", func := "loop.example/g01138/laws.FnExactRowmotionTimes", spec := "fnExactRowmotionTimes", unfollowed := true, recurses := true, apart := false }
def FnExactRowmotionTimesSaid : Prop := fnExactRowmotionTimesRow.holds Try.pinned (OpenSpec.ofChange fnExactRowmotionTimesSpec)

/-- ITS FALSE NEIGHBOUR: 'it returns false'. Refute it at one input. -/
def fnExactRowmotionTimesWrong : ChangeSpec := { name := "fnExactRowmotionTimes", fn := fun _ => fun
  | [d1, d2, d3] => { results := [.lit (.bool false)], args := [d1, d2, d3] }
  | _ => none }
def FnExactRowmotionTimesWrongFalsely : Prop := fnExactRowmotionTimesRow.holds Try.pinned (OpenSpec.ofChange fnExactRowmotionTimesWrong)

/-- 'laws.FnExactRowByToggles': WHATEVER THE INPUT: true; the input reads as it did. -/
def fnExactRowByTogglesSpec : ChangeSpec := { name := "fnExactRowByToggles", fn := fun _ => fun
  | [d1, d2, d3] => { results := [.lit (.bool true)], args := [d1, d2, d3] }
  | _ => none }
def fnExactRowByTogglesRow : OpenClaim := { program := "ytbjidoihnbjjdab", sum := "0bd7e9e42c2d88a11c3be8f05113b95c19112561a4710af42c63018de25f6a10", func := "loop.example/g01138/laws.FnExactRowByToggles", spec := "fnExactRowByToggles", unfollowed := true, recurses := true, apart := false }
def FnExactRowByTogglesSaid : Prop := fnExactRowByTogglesRow.holds Try.pinned (OpenSpec.ofChange fnExactRowByTogglesSpec)

/-- ITS FALSE NEIGHBOUR: 'it returns false'. Refute it at one input. -/
def fnExactRowByTogglesWrong : ChangeSpec := { name := "fnExactRowByToggles", fn := fun _ => fun
  | [d1, d2, d3] => { results := [.lit (.bool false)], args := [d1, d2, d3] }
  | _ => none }
def FnExactRowByTogglesWrongFalsely : Prop := fnExactRowByTogglesRow.holds Try.pinned (OpenSpec.ofChange fnExactRowByTogglesWrong)

/-- 'laws.FnExactAntichainRow': WHATEVER THE INPUT: true; the input reads as it did. -/
def fnExactAntichainRowSpec : ChangeSpec := { name := "fnExactAntichainRow", fn := fun _ => fun
  | [d1, d2] => { results := [.lit (.bool true)], args := [d1, d2] }
  | _ => none }
def fnExactAntichainRowRow : OpenClaim := { program := "ytbjidoihnbjjdab", sum := "0bd7e9e42c2d88a11c3be8f05113b95c19112561a4710af42c63018de25f6a10", func := "loop.example/g01138/laws.FnExactAntichainRow", spec := "fnExactAntichainRow", apart := false }
def FnExactAntichainRowSaid : Prop := fnExactAntichainRowRow.holds Try.pinned (OpenSpec.ofChange fnExactAntichainRowSpec)

/-- ITS FALSE NEIGHBOUR: 'it returns false'. Refute it at one input. -/
def fnExactAntichainRowWrong : ChangeSpec := { name := "fnExactAntichainRow", fn := fun _ => fun
  | [d1, d2] => { results := [.lit (.bool false)], args := [d1, d2] }
  | _ => none }
def FnExactAntichainRowWrongFalsely : Prop := fnExactAntichainRowRow.holds Try.pinned (OpenSpec.ofChange fnExactAntichainRowWrong)

/-- 'laws.FnExactCountOrders': WHATEVER THE INPUT: true; the input reads as it did. -/
def fnExactCountOrdersSpec : ChangeSpec := { name := "fnExactCountOrders", fn := fun _ => fun
  | [d] => { results := [.lit (.bool true)], args := [d] }
  | _ => none }
def fnExactCountOrdersRow : OpenClaim := { program := "ytbjidoihnbjjdab", sum := "0bd7e9e42c2d88a11c3be8f05113b95c19112561a4710af42c63018de25f6a10", func := "loop.example/g01138/laws.FnExactCountOrders", spec := "fnExactCountOrders", unfollowed := true, recurses := true, apart := false }
def FnExactCountOrdersSaid : Prop := fnExactCountOrdersRow.holds Try.pinned (OpenSpec.ofChange fnExactCountOrdersSpec)

/-- ITS FALSE NEIGHBOUR: 'it returns false'. Refute it at one input. -/
def fnExactCountOrdersWrong : ChangeSpec := { name := "fnExactCountOrders", fn := fun _ => fun
  | [d] => { results := [.lit (.bool false)], args := [d] }
  | _ => none }
def FnExactCountOrdersWrongFalsely : Prop := fnExactCountOrdersRow.holds Try.pinned (OpenSpec.ofChange fnExactCountOrdersWrong)

/-- 'laws.FnExactDoCommute': WHATEVER THE INPUT: true; the input reads as it did. -/
def fnExactDoCommuteSpec : ChangeSpec := { name := "fnExactDoCommute", fn := fun _ => fun
  | [d1, d2, d3] => { results := [.lit (.bool true)], args := [d1, d2, d3] }
  | _ => none }
def fnExactDoCommuteRow : OpenClaim := { program := "ytbjidoihnbjjdab", sum := "0bd7e9e42c2d88a11c3be8f05113b95c19112561a4710af42c63018de25f6a10", func := "loop.example/g01138/laws.FnExactDoCommute", spec := "fnExactDoCommute", unfollowed := true, recurses := true, apart := false }
def FnExactDoCommuteSaid : Prop := fnExactDoCommuteRow.holds Try.pinned (OpenSpec.ofChange fnExactDoCommuteSpec)

/-- ITS FALSE NEIGHBOUR: 'it returns false'. Refute it at one input. -/
def fnExactDoCommuteWrong : ChangeSpec := { name := "fnExactDoCommute", fn := fun _ => fun
  | [d1, d2, d3] => { results := [.lit (.bool false)], args := [d1, d2, d3] }
  | _ => none }
def FnExactDoCommuteWrongFalsely : Prop := fnExactDoCommuteRow.holds Try.pinned (OpenSpec.ofChange fnExactDoCommuteWrong)

/-- 'laws.FnExactToggleCycles': WHATEVER THE INPUT: true; the input reads as it did. -/
def fnExactToggleCyclesSpec : ChangeSpec := { name := "fnExactToggleCycles", fn := fun _ => fun
  | [d1, d2] => { results := [.lit (.bool true)], args := [d1, d2] }
  | _ => none }
def fnExactToggleCyclesRow : OpenClaim := { program := "ytbjidoihnbjjdab", sum := "0bd7e9e42c2d88a11c3be8f05113b95c19112561a4710af42c63018de25f6a10", func := "loop.example/g01138/laws.FnExactToggleCycles", spec := "fnExactToggleCycles", unfollowed := true, recurses := true, apart := false }
def FnExactToggleCyclesSaid : Prop := fnExactToggleCyclesRow.holds Try.pinned (OpenSpec.ofChange fnExactToggleCyclesSpec)

/-- ITS FALSE NEIGHBOUR: 'it returns false'. Refute it at one input. -/
def fnExactToggleCyclesWrong : ChangeSpec := { name := "fnExactToggleCycles", fn := fun _ => fun
  | [d1, d2] => { results := [.lit (.bool false)], args := [d1, d2] }
  | _ => none }
def FnExactToggleCyclesWrongFalsely : Prop := fnExactToggleCyclesRow.holds Try.pinned (OpenSpec.ofChange fnExactToggleCyclesWrong)

/-- 'laws.FnExactOrderOfWord': WHATEVER THE INPUT: true; the input reads as it did. -/
def fnExactOrderOfWordSpec : ChangeSpec := { name := "fnExactOrderOfWord", fn := fun _ => fun
  | [d1, d2] => { results := [.lit (.bool true)], args := [d1, d2] }
  | _ => none }
def fnExactOrderOfWordRow : OpenClaim := { program := "ytbjidoihnbjjdab", sum := "0bd7e9e42c2d88a11c3be8f05113b95c19112561a4710af42c63018de25f6a10", func := "loop.example/g01138/laws.FnExactOrderOfWord", spec := "fnExactOrderOfWord", unfollowed := true, recurses := true, apart := false }
def FnExactOrderOfWordSaid : Prop := fnExactOrderOfWordRow.holds Try.pinned (OpenSpec.ofChange fnExactOrderOfWordSpec)

/-- ITS FALSE NEIGHBOUR: 'it returns false'. Refute it at one input. -/
def fnExactOrderOfWordWrong : ChangeSpec := { name := "fnExactOrderOfWord", fn := fun _ => fun
  | [d1, d2] => { results := [.lit (.bool false)], args := [d1, d2] }
  | _ => none }
def FnExactOrderOfWordWrongFalsely : Prop := fnExactOrderOfWordRow.holds Try.pinned (OpenSpec.ofChange fnExactOrderOfWordWrong)

/-- 'laws.FnExactPromoteIdeal': WHATEVER THE INPUT: true; the input reads as it did. -/
def fnExactPromoteIdealSpec : ChangeSpec := { name := "fnExactPromoteIdeal", fn := fun _ => fun
  | [d1, d2, d3] => { results := [.lit (.bool true)], args := [d1, d2, d3] }
  | _ => none }
def fnExactPromoteIdealRow : OpenClaim := { program := "ytbjidoihnbjjdab", sum := "0bd7e9e42c2d88a11c3be8f05113b95c19112561a4710af42c63018de25f6a10", func := "loop.example/g01138/laws.FnExactPromoteIdeal", spec := "fnExactPromoteIdeal", unfollowed := true, recurses := true, apart := false }
def FnExactPromoteIdealSaid : Prop := fnExactPromoteIdealRow.holds Try.pinned (OpenSpec.ofChange fnExactPromoteIdealSpec)

/-- ITS FALSE NEIGHBOUR: 'it returns false'. Refute it at one input. -/
def fnExactPromoteIdealWrong : ChangeSpec := { name := "fnExactPromoteIdeal", fn := fun _ => fun
  | [d1, d2, d3] => { results := [.lit (.bool false)], args := [d1, d2, d3] }
  | _ => none }
def FnExactPromoteIdealWrongFalsely : Prop := fnExactPromoteIdealRow.holds Try.pinned (OpenSpec.ofChange fnExactPromoteIdealWrong)

/-- 'laws.FnExactPromoteTimes': WHATEVER THE INPUT: true; the input reads as it did. -/
def fnExactPromoteTimesSpec : ChangeSpec := { name := "fnExactPromoteTimes", fn := fun _ => fun
  | [d1, d2, d3, d4] => { results := [.lit (.bool true)], args := [d1, d2, d3, d4] }
  | _ => none }
def fnExactPromoteTimesRow : OpenClaim := { program := "ytbjidoihnbjjdab", sum := "0bd7e9e42c2d88a11c3be8f05113b95c19112561a4710af42c63018de25f6a10", func := "loop.example/g01138/laws.FnExactPromoteTimes", spec := "fnExactPromoteTimes", unfollowed := true, recurses := true, apart := false }
def FnExactPromoteTimesSaid : Prop := fnExactPromoteTimesRow.holds Try.pinned (OpenSpec.ofChange fnExactPromoteTimesSpec)

/-- ITS FALSE NEIGHBOUR: 'it returns false'. Refute it at one input. -/
def fnExactPromoteTimesWrong : ChangeSpec := { name := "fnExactPromoteTimes", fn := fun _ => fun
  | [d1, d2, d3, d4] => { results := [.lit (.bool false)], args := [d1, d2, d3, d4] }
  | _ => none }
def FnExactPromoteTimesWrongFalsely : Prop := fnExactPromoteTimesRow.holds Try.pinned (OpenSpec.ofChange fnExactPromoteTimesWrong)

/- THE SECOND FORM. 'bulk': how many values and letters a reading holds, each counted each time it is reached (what is shared counts as often as it is met; a slice's spare places count too). A statement '..UptoSaid' is the law's where the arguments, and the package variables that the reading takes, are together of bulk at most 1048576: NARROWER than '..Said'. Prove '..Said' where nothing that the law and all that it calls make is longer than what came in: it says more and counts as full. Else prove '..UptoSaid'. A law counts once. -/
mutual
def uptoBulk {H : Type} : DataW H → Nat
  | .lit (.string bytes) => bytes.length + 1
  | .lit _ => 1
  | .nil => 1
  | .ptr d => uptoBulk d + 1
  | .slice elems spare => uptoBulkAll elems + uptoBulkAll spare + 1
  | .agg parts => uptoBulkAll parts + 1
  | .iface _ d => uptoBulk d + 1
  | .map entries => uptoBulkEntries entries + 1
  | .held _ => 1
def uptoBulkAll {H : Type} : List (DataW H) → Nat
  | [] => 0
  | d :: r => uptoBulk d + uptoBulkAll r
def uptoBulkEntries {H : Type} : List (Lit × DataW H) → Nat
  | [] => 0
  | x :: r => uptoBulkEntry x + uptoBulkEntries r
def uptoBulkEntry {H : Type} : Lit × DataW H → Nat
  | (.string bytes, d) => bytes.length + uptoBulk d + 1
  | (_, d) => uptoBulk d + 1
 end
def uptoSmall : (H : Type) → List (DataW H) → Bool := fun _ ds => decide (uptoBulkAll ds ≤ 1048576)
def OpenSpec.upto (s : _root_.Go.ChangeSpec) : _root_.Go.OpenSpec := { _root_.Go.OpenSpec.ofChange s with cond := some uptoSmall }

/-- 'laws.FnExactRowmotionBack', WHERE WHAT IT READS IS OF BULK AT MOST 1048576: true; the input reads as it did. -/
def fnExactRowmotionBackUptoRow : OpenClaim := { program := "ytbjidoihnbjjdab", sum := "0bd7e9e42c2d88a11c3be8f05113b95c19112561a4710af42c63018de25f6a10", func := "loop.example/g01138/laws.FnExactRowmotionBack", spec := "fnExactRowmotionBack", unfollowed := true, recurses := true, apart := false, narrowed := true }
def FnExactRowmotionBackUptoSaid : Prop := fnExactRowmotionBackUptoRow.holds Try.pinned (OpenSpec.upto fnExactRowmotionBackSpec)

/-- 'laws.FnExactRowmotionTimes', WHERE WHAT IT READS IS OF BULK AT MOST 1048576: true; the input reads as it did. -/
def fnExactRowmotionTimesUptoRow : OpenClaim := { program := "ytbjidoihnbjjdab", sum := "0bd7e9e42c2d88a11c3be8f05113b95c19112561a4710af42c63018de25f6a10", func := "loop.example/g01138/laws.FnExactRowmotionTimes", spec := "fnExactRowmotionTimes", unfollowed := true, recurses := true, apart := false, narrowed := true }
def FnExactRowmotionTimesUptoSaid : Prop := fnExactRowmotionTimesUptoRow.holds Try.pinned (OpenSpec.upto fnExactRowmotionTimesSpec)

/-- 'laws.FnExactRowByToggles', WHERE WHAT IT READS IS OF BULK AT MOST 1048576: true; the input reads as it did. -/
def fnExactRowByTogglesUptoRow : OpenClaim := { program := "ytbjidoihnbjjdab", sum := "0bd7e9e42c2d88a11c3be8f05113b95c19112561a4710af42c63018de25f6a10", func := "loop.example/g01138/laws.FnExactRowByToggles", spec := "fnExactRowByToggles", unfollowed := true, recurses := true, apart := false, narrowed := true }
def FnExactRowByTogglesUptoSaid : Prop := fnExactRowByTogglesUptoRow.holds Try.pinned (OpenSpec.upto fnExactRowByTogglesSpec)

/-- 'laws.FnExactAntichainRow', WHERE WHAT IT READS IS OF BULK AT MOST 1048576: true; the input reads as it did. -/
def fnExactAntichainRowUptoRow : OpenClaim := { program := "ytbjidoihnbjjdab", sum := "0bd7e9e42c2d88a11c3be8f05113b95c19112561a4710af42c63018de25f6a10", func := "loop.example/g01138/laws.FnExactAntichainRow", spec := "fnExactAntichainRow", apart := false, narrowed := true }
def FnExactAntichainRowUptoSaid : Prop := fnExactAntichainRowUptoRow.holds Try.pinned (OpenSpec.upto fnExactAntichainRowSpec)

/-- 'laws.FnExactCountOrders', WHERE WHAT IT READS IS OF BULK AT MOST 1048576: true; the input reads as it did. -/
def fnExactCountOrdersUptoRow : OpenClaim := { program := "ytbjidoihnbjjdab", sum := "0bd7e9e42c2d88a11c3be8f05113b95c19112561a4710af42c63018de25f6a10", func := "loop.example/g01138/laws.FnExactCountOrders", spec := "fnExactCountOrders", unfollowed := true, recurses := true, apart := false, narrowed := true }
def FnExactCountOrdersUptoSaid : Prop := fnExactCountOrdersUptoRow.holds Try.pinned (OpenSpec.upto fnExactCountOrdersSpec)

/-- 'laws.FnExactDoCommute', WHERE WHAT IT READS IS OF BULK AT MOST 1048576: true; the input reads as it did. -/
def fnExactDoCommuteUptoRow : OpenClaim := { program := "ytbjidoihnbjjdab", sum := "0bd7e9e42c2d88a11c3be8f05113b95c19112561a4710af42c63018de25f6a10", func := "loop.example/g01138/laws.FnExactDoCommute", spec := "fnExactDoCommute", unfollowed := true, recurses := true, apart := false, narrowed := true }
def FnExactDoCommuteUptoSaid : Prop := fnExactDoCommuteUptoRow.holds Try.pinned (OpenSpec.upto fnExactDoCommuteSpec)

/-- 'laws.FnExactToggleCycles', WHERE WHAT IT READS IS OF BULK AT MOST 1048576: true; the input reads as it did. -/
def fnExactToggleCyclesUptoRow : OpenClaim := { program := "ytbjidoihnbjjdab", sum := "0bd7e9e42c2d88a11c3be8f05113b95c19112561a4710af42c63018de25f6a10", func := "loop.example/g01138/laws.FnExactToggleCycles", spec := "fnExactToggleCycles", unfollowed := true, recurses := true, apart := false, narrowed := true }
def FnExactToggleCyclesUptoSaid : Prop := fnExactToggleCyclesUptoRow.holds Try.pinned (OpenSpec.upto fnExactToggleCyclesSpec)

/-- 'laws.FnExactOrderOfWord', WHERE WHAT IT READS IS OF BULK AT MOST 1048576: true; the input reads as it did. -/
def fnExactOrderOfWordUptoRow : OpenClaim := { program := "ytbjidoihnbjjdab", sum := "0bd7e9e42c2d88a11c3be8f05113b95c19112561a4710af42c63018de25f6a10", func := "loop.example/g01138/laws.FnExactOrderOfWord", spec := "fnExactOrderOfWord", unfollowed := true, recurses := true, apart := false, narrowed := true }
def FnExactOrderOfWordUptoSaid : Prop := fnExactOrderOfWordUptoRow.holds Try.pinned (OpenSpec.upto fnExactOrderOfWordSpec)

/-- 'laws.FnExactPromoteIdeal', WHERE WHAT IT READS IS OF BULK AT MOST 1048576: true; the input reads as it did. -/
def fnExactPromoteIdealUptoRow : OpenClaim := { program := "ytbjidoihnbjjdab", sum := "0bd7e9e42c2d88a11c3be8f05113b95c19112561a4710af42c63018de25f6a10", func := "loop.example/g01138/laws.FnExactPromoteIdeal", spec := "fnExactPromoteIdeal", unfollowed := true, recurses := true, apart := false, narrowed := true }
def FnExactPromoteIdealUptoSaid : Prop := fnExactPromoteIdealUptoRow.holds Try.pinned (OpenSpec.upto fnExactPromoteIdealSpec)

/-- 'laws.FnExactPromoteTimes', WHERE WHAT IT READS IS OF BULK AT MOST 1048576: true; the input reads as it did. -/
def fnExactPromoteTimesUptoRow : OpenClaim := { program := "ytbjidoihnbjjdab", sum := "0bd7e9e42c2d88a11c3be8f05113b95c19112561a4710af42c63018de25f6a10", func := "loop.example/g01138/laws.FnExactPromoteTimes", spec := "fnExactPromoteTimes", unfollowed := true, recurses := true, apart := false, narrowed := true }
def FnExactPromoteTimesUptoSaid : Prop := fnExactPromoteTimesUptoRow.holds Try.pinned (OpenSpec.upto fnExactPromoteTimesSpec)

end Rows
end Go.Proofs.Ytbjidoihnbjjdab
