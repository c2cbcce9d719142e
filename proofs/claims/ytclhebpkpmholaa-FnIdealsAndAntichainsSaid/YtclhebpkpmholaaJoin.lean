/- Sums and stacks of posets. -/
import Derived.Test.YtclhebpkpmholaaSpec
import Derived.Test.YtclhebpkpmholaaLaw
import Derived.Test.YtclhebpkpmholaaHeights
import Derived.Test.YtclhebpkpmholaaRev
import Derived.Deep.AppendLies
import Derived.BigRegion
import Derived.Deep.RegionLaw
namespace Go.Proofs.Ytclhebpkpmholaa
open Go.RowKit Go.WideShapes Go.ChangeShapes
set_option linter.unusedVariables false

/-- 'append(out, y)' onto a slice of the call's own, as one step of a region that draws its order -/
theorem step_append_int {P : Program} {ops : Array Oper} {o : Oper} {a : Act} {w : World} {K : Act → World → Prop} {Q : Exit → Act → World → Prop} {E : Prop} (hgd : o.guard = none) (s x : Operand) (t e : TypeId)
    (ho : o.op = .call { callee := .builtin .append, args := #[s, x], argTypes := #[t, t] }) (ht : P.underlying t = some (.slice e)) (hinfo : (P.info? e).map (fun i => (i.zero, i.size, i.bytes)) = some (some (.int .i64 0), 1, 8))
    (B : Nat) (v : Value) (xs : List Int) (y : Int) (hs : a.eval s = v) (hown : OwnI e w B v xs) (g : Nat) (hx : a.eval x = .slice (some ⟨g, 0, none⟩) 1 1) (hg : Blk w g e #[.int .i64 y]) (hlen : xs.length < 1048576) (hB : B ≤ w.heap.size)
    (h : ∀ g' cap w', OwnI e w' B (.slice (some ⟨g', 0, none⟩) (xs.length + 1) cap) (xs ++ [y]) → w.grownBy w' v.ownBlock → (v.ownBlock = some g' ∨ g' = w.heap.size) → g' < w'.heap.size → K (a.put o.dst (.slice (some ⟨g', 0, none⟩) (xs.length + 1) cap)) w') :
    if Region.wanted o (yielded ops a.tmps) = true then Oper.wp P o a w K Q else E := by
  obtain ⟨i0, hi, hz0, hz1, hz2⟩ := info_parts hinfo
  refine step_append_lies w hgd s x t ho B e i0 (.int .i64 0) 1 8 ht hi hz0 hz1 hz2 rfl (by decide) v xs.length (xs.map (Value.int .i64)) hs hown ⟨g, 0, none⟩ 1 1 [.int .i64 y] hx rfl (World.news_of_block (cs := #[.int .i64 y]) hg) (by intro u hu; simp only [List.mem_singleton] at hu; subst hu; rfl) (by decide) (by unfold maxLen; omega) (by omega) hB _ rfl ?_
  intro g' cap w' h1 h2 h3 h4
  exact h g' cap w' (by unfold OwnI; simpa using h1) h2 h3 h4

/-- y moved up by n places, with all of 'below' -/
def shl (n below : Nat) (y : Int) : Int := ((y.toNat * 2 ^ n ||| below : Nat) : Int)
def joinL (xs ys : List Int) (below : Nat) : List Int := xs ++ ys.map (shl xs.length below)
def fits (xs ys : List Int) : Bool := (good xs && good ys) && decide (xs.length + ys.length ≤ 10)
theorem fits_good {xs ys : List Int} (h : fits xs ys = true) : good xs = true ∧ good ys = true ∧ xs.length + ys.length ≤ 10 := by
  simpa [fits, and_assoc] using h
def sumL (xs ys : List Int) : List Int := if fits xs ys then joinL xs ys 0 else []
def stackL (xs ys : List Int) : List Int := if fits xs ys then joinL xs ys (2 ^ xs.length - 1) else []
theorem joinL_take (xs ys : List Int) (below : Nat) {k : Nat} (hk : k < ys.length) : joinL xs (ys.take (k + 1)) below = joinL xs (ys.take k) below ++ [shl xs.length below (ys.getD k 0)] := by
  have e : ys.take (k + 1) = ys.take k ++ [ys.getD k 0] := by
    rw [List.take_succ_eq_append_getElem hk]; simp [List.getD, hk]
  unfold joinL
  rw [e, List.map_append, List.append_assoc]; rfl
theorem joinL_length (xs ys : List Int) (below : Nat) : (joinL xs ys below).length = xs.length + ys.length := by simp [joinL]
theorem l1Own_any (v : Value) (xs : List Int) (w : World) (hv : Ints w v xs) (hl : xs.length ≤ 1048576) :
    Calls Try.prog 150 #[v] w fun (r : Ending) w' => ∃ u, r = Ending.returned u ∧ OwnI 3 w' w.heap.size u xs ∧ Below w.heap.size w w' := by
  have HV := hid hv
  clear hv
  go_enter Try.func150, Try.ntmps150
  go_wp2_with (at_builtin; refine wpList_append_ints rfl _ _ 24 3 rfl Try.underlying24 Try.info3 w.heap.size _ [] rfl (OwnI.empty 3 w) _ xs rfl (HV.out.alloc _) (by simpa using hl) (by simp) ?_; rintro u w1 ho hb)
  go_ret
  exact ⟨_, rfl, by simpa using ho, (below_alloc (Below.refl _ w) _).trans hb⟩
end Go.Proofs.Ytclhebpkpmholaa
