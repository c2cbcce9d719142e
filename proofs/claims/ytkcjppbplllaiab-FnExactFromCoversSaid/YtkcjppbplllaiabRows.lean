/-
  No cell of these rows narrows 'for every input' (looked for: loops, veiled, ifaces, maps, wideKeys, modest, calm, conditions, laid).
  DERIVED. THE GIVEN ROWS OF THIS SEAT. 8 by the template 'for every input the law returns true; each argument reads behind the call as it read before'; 0 by the template 'total and deterministic' (their statements: YtkcjppbplllaiabTotals.lean).
  GIVEN WITH THE SEED: the statements are not yours to turn. If you find one false, say at which input.
  Laid BY PROGRAM, IN A SANDBOX (cutbox-rows.mjs): the forced cells as the released guide's own fill.sh prints them over the translation 4aa3bd64562c31e8… (all of the seat's roots in one cut). By AI agents, Wed Nov 11 2026. No macro, syntax, notation, axiom, sorry.
-/
import Derived.Test.YtkcjppbplllaiabChecked
import GoSem.Claim
import GoSem.ClaimJoined
import GoSem.ClaimMapViews
import Derived.JoinedTies
import Derived.KernelRfl
namespace Go.Proofs.Ytkcjppbplllaiab
/- THE CELL 'sum', in the pinned program and in every row, IS THE sha256 OF THE DUMP (.gsa) THAT YtkcjppbplllaiabProg.lean LOADS. Nothing in Lean hashes anything: it is a label: what it is worth is what the hold of that sum in a sandbox is worth. -/
noncomputable def Try.pinned : Pinned := { name := "ytkcjppbplllaiab", sum := "4aa3bd64562c31e8d7f5b8f80d9c696383aae3d4147ef85404feea92369c0be8", checked := Try.checked }
namespace Rows
def none {H : Type} : Left H := { results := [], args := [] }

/-- 'laws.FnExactPromotionOrbits': WHATEVER THE INPUT: true; the input reads as it did. -/
def fnExactPromotionOrbitsSpec : ChangeSpec := { name := "fnExactPromotionOrbits", fn := fun _ => fun
  | [d1, d2] => { results := [.lit (.bool true)], args := [d1, d2] }
  | _ => none }
def fnExactPromotionOrbitsRow : OpenClaim := { program := "ytkcjppbplllaiab", sum := "4aa3bd64562c31e8d7f5b8f80d9c696383aae3d4147ef85404feea92369c0be8", func := "loop.example/g01138/laws.FnExactPromotionOrbits", spec := "fnExactPromotionOrbits", unfollowed := true, recurses := true, apart := false }
def FnExactPromotionOrbitsSaid : Prop := fnExactPromotionOrbitsRow.holds Try.pinned (OpenSpec.ofChange fnExactPromotionOrbitsSpec)

/-- ITS FALSE NEIGHBOUR: 'it returns false'. Refute it at one input. -/
def fnExactPromotionOrbitsWrong : ChangeSpec := { name := "fnExactPromotionOrbits", fn := fun _ => fun
  | [d1, d2] => { results := [.lit (.bool false)], args := [d1, d2] }
  | _ => none }
def FnExactPromotionOrbitsWrongFalsely : Prop := fnExactPromotionOrbitsRow.holds Try.pinned (OpenSpec.ofChange fnExactPromotionOrbitsWrong)

/-- 'laws.FnExactFileSums': WHATEVER THE INPUT: true; the input reads as it did. -/
def fnExactFileSumsSpec : ChangeSpec := { name := "fnExactFileSums", fn := fun _ => fun
  | [d1, d2, d3] => { results := [.lit (.bool true)], args := [d1, d2, d3] }
  | _ => none }
def fnExactFileSumsRow : OpenClaim := { program := "ytkcjppbplllaiab", sum := "4aa3bd64562c31e8d7f5b8f80d9c696383aae3d4147ef85404feea92369c0be8", func := "loop.example/g01138/laws.FnExactFileSums", spec := "fnExactFileSums", unfollowed := true, recurses := true, apart := false }
def FnExactFileSumsSaid : Prop := fnExactFileSumsRow.holds Try.pinned (OpenSpec.ofChange fnExactFileSumsSpec)

/-- ITS FALSE NEIGHBOUR: 'it returns false'. Refute it at one input. -/
def fnExactFileSumsWrong : ChangeSpec := { name := "fnExactFileSums", fn := fun _ => fun
  | [d1, d2, d3] => { results := [.lit (.bool false)], args := [d1, d2, d3] }
  | _ => none }
def FnExactFileSumsWrongFalsely : Prop := fnExactFileSumsRow.holds Try.pinned (OpenSpec.ofChange fnExactFileSumsWrong)

/-- 'laws.FnExactIdealWord': WHATEVER THE INPUT: true; the input reads as it did. -/
def fnExactIdealWordSpec : ChangeSpec := { name := "fnExactIdealWord", fn := fun _ => fun
  | [d1, d2, d3] => { results := [.lit (.bool true)], args := [d1, d2, d3] }
  | _ => none }
def fnExactIdealWordRow : OpenClaim := { program := "ytkcjppbplllaiab", sum := "4aa3bd64562c31e8d7f5b8f80d9c696383aae3d4147ef85404feea92369c0be8", func := "loop.example/g01138/laws.FnExactIdealWord", spec := "fnExactIdealWord", inPlace := ["internal/abi.NoEscape", "internal/bytealg.MakeNoZero"], unfollowed := true, recurses := true, apart := false }
def FnExactIdealWordSaid : Prop := fnExactIdealWordRow.holds Try.pinned (OpenSpec.ofChange fnExactIdealWordSpec)

/-- ITS FALSE NEIGHBOUR: 'it returns false'. Refute it at one input. -/
def fnExactIdealWordWrong : ChangeSpec := { name := "fnExactIdealWord", fn := fun _ => fun
  | [d1, d2, d3] => { results := [.lit (.bool false)], args := [d1, d2, d3] }
  | _ => none }
def FnExactIdealWordWrongFalsely : Prop := fnExactIdealWordRow.holds Try.pinned (OpenSpec.ofChange fnExactIdealWordWrong)

/-- 'laws.FnExactFromWord': WHATEVER THE INPUT: true; the input reads as it did. -/
def fnExactFromWordSpec : ChangeSpec := { name := "fnExactFromWord", fn := fun _ => fun
  | [d1, d2, d3] => { results := [.lit (.bool true)], args := [d1, d2, d3] }
  | _ => none }
def fnExactFromWordRow : OpenClaim := { program := "ytkcjppbplllaiab", sum := "4aa3bd64562c31e8d7f5b8f80d9c696383aae3d4147ef85404feea92369c0be8", func := "loop.example/g01138/laws.FnExactFromWord", spec := "fnExactFromWord", inPlace := ["internal/bytealg.CountString", "internal/bytealg.IndexByteString", "internal/bytealg.IndexString"], unfollowed := true, recurses := true, named := ["internal/bytealg.MaxLen"], apart := false }
def FnExactFromWordSaid : Prop := fnExactFromWordRow.holds Try.pinned (OpenSpec.ofChange fnExactFromWordSpec)

/-- ITS FALSE NEIGHBOUR: 'it returns false'. Refute it at one input. -/
def fnExactFromWordWrong : ChangeSpec := { name := "fnExactFromWord", fn := fun _ => fun
  | [d1, d2, d3] => { results := [.lit (.bool false)], args := [d1, d2, d3] }
  | _ => none }
def FnExactFromWordWrongFalsely : Prop := fnExactFromWordRow.holds Try.pinned (OpenSpec.ofChange fnExactFromWordWrong)

/-- 'laws.FnExactFromCovers': WHATEVER THE INPUT: true; the input reads as it did. -/
def fnExactFromCoversSpec : ChangeSpec := { name := "fnExactFromCovers", fn := fun _ => fun
  | [d1, d2] => { results := [.lit (.bool true)], args := [d1, d2] }
  | _ => none }
def fnExactFromCoversRow : OpenClaim := { program := "ytkcjppbplllaiab", sum := "4aa3bd64562c31e8d7f5b8f80d9c696383aae3d4147ef85404feea92369c0be8", func := "loop.example/g01138/laws.FnExactFromCovers", spec := "fnExactFromCovers", apart := false }
def FnExactFromCoversSaid : Prop := fnExactFromCoversRow.holds Try.pinned (OpenSpec.ofChange fnExactFromCoversSpec)

/-- ITS FALSE NEIGHBOUR: 'it returns false'. Refute it at one input. -/
def fnExactFromCoversWrong : ChangeSpec := { name := "fnExactFromCovers", fn := fun _ => fun
  | [d1, d2] => { results := [.lit (.bool false)], args := [d1, d2] }
  | _ => none }
def FnExactFromCoversWrongFalsely : Prop := fnExactFromCoversRow.holds Try.pinned (OpenSpec.ofChange fnExactFromCoversWrong)

/-- 'laws.FnExactSumOf': WHATEVER THE INPUT: true; the input reads as it did. -/
def fnExactSumOfSpec : ChangeSpec := { name := "fnExactSumOf", fn := fun _ => fun
  | [d1, d2] => { results := [.lit (.bool true)], args := [d1, d2] }
  | _ => none }
def fnExactSumOfRow : OpenClaim := { program := "ytkcjppbplllaiab", sum := "4aa3bd64562c31e8d7f5b8f80d9c696383aae3d4147ef85404feea92369c0be8", func := "loop.example/g01138/laws.FnExactSumOf", spec := "fnExactSumOf", unfollowed := true, recurses := true, apart := false }
def FnExactSumOfSaid : Prop := fnExactSumOfRow.holds Try.pinned (OpenSpec.ofChange fnExactSumOfSpec)

/-- ITS FALSE NEIGHBOUR: 'it returns false'. Refute it at one input. -/
def fnExactSumOfWrong : ChangeSpec := { name := "fnExactSumOf", fn := fun _ => fun
  | [d1, d2] => { results := [.lit (.bool false)], args := [d1, d2] }
  | _ => none }
def FnExactSumOfWrongFalsely : Prop := fnExactSumOfRow.holds Try.pinned (OpenSpec.ofChange fnExactSumOfWrong)

/-- 'laws.FnExactStackOf': WHATEVER THE INPUT: true; the input reads as it did. -/
def fnExactStackOfSpec : ChangeSpec := { name := "fnExactStackOf", fn := fun _ => fun
  | [d1, d2] => { results := [.lit (.bool true)], args := [d1, d2] }
  | _ => none }
def fnExactStackOfRow : OpenClaim := { program := "ytkcjppbplllaiab", sum := "4aa3bd64562c31e8d7f5b8f80d9c696383aae3d4147ef85404feea92369c0be8", func := "loop.example/g01138/laws.FnExactStackOf", spec := "fnExactStackOf", unfollowed := true, recurses := true, apart := false }
def FnExactStackOfSaid : Prop := fnExactStackOfRow.holds Try.pinned (OpenSpec.ofChange fnExactStackOfSpec)

/-- ITS FALSE NEIGHBOUR: 'it returns false'. Refute it at one input. -/
def fnExactStackOfWrong : ChangeSpec := { name := "fnExactStackOf", fn := fun _ => fun
  | [d1, d2] => { results := [.lit (.bool false)], args := [d1, d2] }
  | _ => none }
def FnExactStackOfWrongFalsely : Prop := fnExactStackOfRow.holds Try.pinned (OpenSpec.ofChange fnExactStackOfWrong)

/-- 'laws.FnExactStaircase': WHATEVER THE INPUT: true; the input reads as it did. -/
def fnExactStaircaseSpec : ChangeSpec := { name := "fnExactStaircase", fn := fun _ => fun
  | [d] => { results := [.lit (.bool true)], args := [d] }
  | _ => none }
def fnExactStaircaseRow : OpenClaim := { program := "ytkcjppbplllaiab", sum := "4aa3bd64562c31e8d7f5b8f80d9c696383aae3d4147ef85404feea92369c0be8", func := "loop.example/g01138/laws.FnExactStaircase", spec := "fnExactStaircase", unfollowed := true, recurses := true, apart := false }
def FnExactStaircaseSaid : Prop := fnExactStaircaseRow.holds Try.pinned (OpenSpec.ofChange fnExactStaircaseSpec)

/-- ITS FALSE NEIGHBOUR: 'it returns false'. Refute it at one input. -/
def fnExactStaircaseWrong : ChangeSpec := { name := "fnExactStaircase", fn := fun _ => fun
  | [d] => { results := [.lit (.bool false)], args := [d] }
  | _ => none }
def FnExactStaircaseWrongFalsely : Prop := fnExactStaircaseRow.holds Try.pinned (OpenSpec.ofChange fnExactStaircaseWrong)

/- THE SECOND FORM. 'bulk': how many values and letters a reading holds, each counted each time it is reached (what is shared counts as often as it is met; a slice's spare places count too). A statement '..UptoSaid' is the law's where the arguments, and the package variables that the reading takes, are together of bulk at most 1048576: NARROWER than '..Said'. Prove '..Said' where nothing that the law and all that it calls make is longer than what came in: it says more and counts as full. Else prove '..UptoSaid'. A law counts once. -/
mutual
def uptoBulk {H : Type} : DataW H → Nat
  | .lit (.string bytes) => bytes.length + 1
  | .lit _ => 1
  | .nil => 1
  | .ptr d => uptoBulk d + 1
  | .slice elems spare => uptoBulkAll elems + uptoBulkAll spare + 1
  | .agg parts => uptoBulkAll parts + 1
  | .iface _ d => uptoBulk d + 1
  | .map entries => uptoBulkEntries entries + 1
  | .held _ => 1
def uptoBulkAll {H : Type} : List (DataW H) → Nat
  | [] => 0
  | d :: r => uptoBulk d + uptoBulkAll r
def uptoBulkEntries {H : Type} : List (Lit × DataW H) → Nat
  | [] => 0
  | x :: r => uptoBulkEntry x + uptoBulkEntries r
def uptoBulkEntry {H : Type} : Lit × DataW H → Nat
  | (.string bytes, d) => bytes.length + uptoBulk d + 1
  | (_, d) => uptoBulk d + 1
 end
def uptoSmall : (H : Type) → List (DataW H) → Bool := fun _ ds => decide (uptoBulkAll ds ≤ 1048576)
def OpenSpec.upto (s : _root_.Go.ChangeSpec) : _root_.Go.OpenSpec := { _root_.Go.OpenSpec.ofChange s with cond := some uptoSmall }

/-- 'laws.FnExactPromotionOrbits', WHERE WHAT IT READS IS OF BULK AT MOST 1048576: true; the input reads as it did. -/
def fnExactPromotionOrbitsUptoRow : OpenClaim := { program := "ytkcjppbplllaiab", sum := "4aa3bd64562c31e8d7f5b8f80d9c696383aae3d4147ef85404feea92369c0be8", func := "loop.example/g01138/laws.FnExactPromotionOrbits", spec := "fnExactPromotionOrbits", unfollowed := true, recurses := true, apart := false, narrowed := true }
def FnExactPromotionOrbitsUptoSaid : Prop := fnExactPromotionOrbitsUptoRow.holds Try.pinned (OpenSpec.upto fnExactPromotionOrbitsSpec)

/-- 'laws.FnExactFileSums', WHERE WHAT IT READS IS OF BULK AT MOST 1048576: true; the input reads as it did. -/
def fnExactFileSumsUptoRow : OpenClaim := { program := "ytkcjppbplllaiab", sum := "4aa3bd64562c31e8d7f5b8f80d9c696383aae3d4147ef85404feea92369c0be8", func := "loop.example/g01138/laws.FnExactFileSums", spec := "fnExactFileSums", unfollowed := true, recurses := true, apart := false, narrowed := true }
def FnExactFileSumsUptoSaid : Prop := fnExactFileSumsUptoRow.holds Try.pinned (OpenSpec.upto fnExactFileSumsSpec)

/-- 'laws.FnExactIdealWord', WHERE WHAT IT READS IS OF BULK AT MOST 1048576: true; the input reads as it did. -/
def fnExactIdealWordUptoRow : OpenClaim := { program := "ytkcjppbplllaiab", sum := "4aa3bd64562c31e8d7f5b8f80d9c696383aae3d4147ef85404feea92369c0be8", func := "loop.example/g01138/laws.FnExactIdealWord", spec := "fnExactIdealWord", inPlace := ["internal/abi.NoEscape", "internal/bytealg.MakeNoZero"], unfollowed := true, recurses := true, apart := false, narrowed := true }
def FnExactIdealWordUptoSaid : Prop := fnExactIdealWordUptoRow.holds Try.pinned (OpenSpec.upto fnExactIdealWordSpec)

/-- 'laws.FnExactFromWord', WHERE WHAT IT READS IS OF BULK AT MOST 1048576: true; the input reads as it did. -/
def fnExactFromWordUptoRow : OpenClaim := { program := "ytkcjppbplllaiab", sum := "4aa3bd64562c31e8d7f5b8f80d9c696383aae3d4147ef85404feea92369c0be8", func := "loop.example/g01138/laws.FnExactFromWord", spec := "fnExactFromWord", inPlace := ["internal/bytealg.CountString", "internal/bytealg.IndexByteString", "internal/bytealg.IndexString"], unfollowed := true, recurses := true, named := ["internal/bytealg.MaxLen"], apart := false, narrowed := true }
def FnExactFromWordUptoSaid : Prop := fnExactFromWordUptoRow.holds Try.pinned (OpenSpec.upto fnExactFromWordSpec)

/-- 'laws.FnExactFromCovers', WHERE WHAT IT READS IS OF BULK AT MOST 1048576: true; the input reads as it did. -/
def fnExactFromCoversUptoRow : OpenClaim := { program := "ytkcjppbplllaiab", sum := "4aa3bd64562c31e8d7f5b8f80d9c696383aae3d4147ef85404feea92369c0be8", func := "loop.example/g01138/laws.FnExactFromCovers", spec := "fnExactFromCovers", apart := false, narrowed := true }
def FnExactFromCoversUptoSaid : Prop := fnExactFromCoversUptoRow.holds Try.pinned (OpenSpec.upto fnExactFromCoversSpec)

/-- 'laws.FnExactSumOf', WHERE WHAT IT READS IS OF BULK AT MOST 1048576: true; the input reads as it did. -/
def fnExactSumOfUptoRow : OpenClaim := { program := "ytkcjppbplllaiab", sum := "4aa3bd64562c31e8d7f5b8f80d9c696383aae3d4147ef85404feea92369c0be8", func := "loop.example/g01138/laws.FnExactSumOf", spec := "fnExactSumOf", unfollowed := true, recurses := true, apart := false, narrowed := true }
def FnExactSumOfUptoSaid : Prop := fnExactSumOfUptoRow.holds Try.pinned (OpenSpec.upto fnExactSumOfSpec)

/-- 'laws.FnExactStackOf', WHERE WHAT IT READS IS OF BULK AT MOST 1048576: true; the input reads as it did. -/
def fnExactStackOfUptoRow : OpenClaim := { program := "ytkcjppbplllaiab", sum := "4aa3bd64562c31e8d7f5b8f80d9c696383aae3d4147ef85404feea92369c0be8", func := "loop.example/g01138/laws.FnExactStackOf", spec := "fnExactStackOf", unfollowed := true, recurses := true, apart := false, narrowed := true }
def FnExactStackOfUptoSaid : Prop := fnExactStackOfUptoRow.holds Try.pinned (OpenSpec.upto fnExactStackOfSpec)

/-- 'laws.FnExactStaircase', WHERE WHAT IT READS IS OF BULK AT MOST 1048576: true; the input reads as it did. -/
def fnExactStaircaseUptoRow : OpenClaim := { program := "ytkcjppbplllaiab", sum := "4aa3bd64562c31e8d7f5b8f80d9c696383aae3d4147ef85404feea92369c0be8", func := "loop.example/g01138/laws.FnExactStaircase", spec := "fnExactStaircase", unfollowed := true, recurses := true, apart := false, narrowed := true }
def FnExactStaircaseUptoSaid : Prop := fnExactStaircaseUptoRow.holds Try.pinned (OpenSpec.upto fnExactStaircaseSpec)

end Rows
end Go.Proofs.Ytkcjppbplllaiab
