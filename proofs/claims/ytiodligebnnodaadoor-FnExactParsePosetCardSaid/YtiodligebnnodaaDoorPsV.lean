/- ParsePoset's contracts at any text, as the law calls them. -/
import Derived.Test.YtiodligebnnodaaDoorPsT
namespace Go.Proofs.YtiodligebnnodaaDoor
open Go.RowKit Go.WideShapes Go.ChangeShapes
set_option linter.unusedVariables false

theorem prI_len (l : List UInt8) : ((prI l).getD []).length ≤ 1048576 := by
  cases h : prI l with
  | none => exact Nat.zero_le _
  | some xs =>
    have := (good_length (prI_some h).1).2
    show xs.length ≤ 1048576
    omega
theorem parse_s (s : ByteArray) (hs : s.size ≤ 1048576) : ∃ (b : Bool) (xs : List Int), xs.length ≤ 1048576 ∧
    (∀ W, Calls Tryd.prog 4 #[.string s] W fun (r : Ending) w' => ∃ q, r = Ending.returned (.tuple #[.agg #[q], .bool b]) ∧ OwnI 3 w' W.heap.size q xs ∧ xs.length ≤ 1048576 ∧ Below W.heap.size W w') ∧
    (∀ W, Glob W → Calls Tryd.prog 5 #[.string s] W fun (r : Ending) w' => ∃ q, r = Ending.returned (.tuple #[.agg #[q], .bool b]) ∧ OwnI 3 w' W.heap.size q xs ∧ xs.length ≤ 1048576 ∧ Below W.heap.size W w') := by
  have hl : s.data.toList.length ≤ 1048576 := by simpa using hs
  refine ⟨(prI s.data.toList).isSome, (prI s.data.toList).getD [], prI_len _, fun W => ?_, fun W hG => ?_⟩
  · have h := specParsePoset_any s.data.toList W hl
    rw [sB_of] at h
    exact h.mono fun e w' ⟨q, h1, h2, h3⟩ => ⟨q, h1, h2, prI_len _, h3⟩
  · have h := implParsePoset_any s.data.toList W hG hl
    rw [sB_of] at h
    exact h.mono fun e w' ⟨q, h1, h2, h3⟩ => ⟨q, h1, h2, prI_len _, h3⟩
end Go.Proofs.YtiodligebnnodaaDoor
