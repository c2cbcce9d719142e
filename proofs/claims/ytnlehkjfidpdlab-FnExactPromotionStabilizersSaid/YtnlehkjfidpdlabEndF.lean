/- Counts of linear extensions by plain recursion. No program is named here. -/
import Derived.Test.YtnlehkjfidpdlabLinX
namespace Go.Proofs.Ytnlehkjfidpdlab
set_option linter.unusedVariables false

/-- ways to go on, by plain recursion -/
def endF (xs : List Int) : Nat → Nat → Nat
  | 0, _ => 1
  | f + 1, s => if 2 ^ xs.length - 1 ≤ s then 1 else sumN (fun e => if stepP xs s e = true then endF xs f (s ||| 2 ^ e) else 0) xs.length
theorem endF_eq {xs : List Int} (f : Nat) : ∀ s, s < 2 ^ xs.length → xs.length - cntB s xs.length ≤ f → endF xs f s = ends xs s := by
  induction f with
  | zero =>
    intro s hs hc
    have h1 := cntB_le s xs.length
    have h2 := cntB_all hs (by omega)
    rw [ends_top (by omega)]; rfl
  | succ f ih =>
    intro s hs hc
    by_cases h : 2 ^ xs.length - 1 ≤ s
    · rw [ends_top h]; unfold endF; rw [if_pos h]
    · rw [ends_low (by omega)]
      unfold endF
      rw [if_neg h]
      refine sumN_congr fun e he => ?_
      unfold nterm
      cases hst : stepP xs s e
      · rfl
      · rw [if_pos rfl, if_pos rfl]
        refine ih _ (Nat.or_lt_two_pow hs (pow_lt_len he)) ?_
        rw [cntB_or he (stepP_bit hst)]
        omega
theorem endF_all (xs : List Int) : endF xs xs.length 0 = ends xs 0 :=
  endF_eq xs.length 0 (Nat.two_pow_pos _) (by omega)
end Go.Proofs.Ytnlehkjfidpdlab
