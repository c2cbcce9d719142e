/- DoCommute. -/
import Derived.Test.YtnlehkjfidpdlabComm
import Derived.Test.YtnlehkjfidpdlabTg2
import Derived.Test.YtnlehkjfidpdlabIdeals
import Derived.Test.YtnlehkjfidpdlabOrdC
import Derived.Deep.RegionHeld3
namespace Go.Proofs.Ytnlehkjfidpdlab
open Go.RowKit Go.WideShapes Go.ChangeShapes
set_option linter.unusedVariables false

def okEl (xs : List Int) (d e : Int) : Bool := good xs && ((decide (0 ≤ d) && decide (d < xs.length)) && (decide (0 ≤ e) && decide (e < xs.length)))
def ansDC (xs : List Int) (d e : Int) : Bool := okEl xs d e && !covered xs d.toNat e.toNat
theorem ansDC_no {xs : List Int} {d e : Int} (h : okEl xs d e = false) : ansDC xs d e = false := by simp [ansDC, h]
theorem ansDC_yes {xs : List Int} {d e : Nat} (h : okEl xs d e = true) : ansDC xs d e = !covered xs d e := by simp [ansDC, h]
theorem okEl_no {xs : List Int} {d e : Int} (h : good xs = false) : okEl xs d e = false := by simp [okEl, h]
theorem okEl_no1 {xs : List Int} {d e : Int} (h : (decide (0 ≤ d) && decide (d < xs.length)) = false) : okEl xs d e = false := by simp only [okEl, h]; simp
theorem okEl_no2 {xs : List Int} {d e : Int} (h : (decide (0 ≤ e) && decide (e < xs.length)) = false) : okEl xs d e = false := by simp only [okEl, h]; simp
theorem okEl_yes {xs : List Int} {d e : Int} (h : good xs = true) (h1 : (decide (0 ≤ d) && decide (d < xs.length)) = true) (h2 : (decide (0 ≤ e) && decide (e < xs.length)) = true) : okEl xs d e = true := by simp only [okEl, h, h1, h2]; rfl
theorem setsL_mem {f : Nat → Bool} {N s : Nat} (hs : s < N) (hf : f s = true) : ∃ j, j < (setsL f N).length ∧ (setsL f N).getD j 0 = (s : Int) := by
  have : (s : Int) ∈ setsL f N := List.mem_map.2 ⟨s, List.mem_filter.2 ⟨List.mem_range.2 hs, hf⟩, rfl⟩
  obtain ⟨j, hj, e⟩ := List.mem_iff_getElem.1 this
  exact ⟨j, hj, by simp [List.getD, hj, e]⟩
/-- S of the region: the box and all that was there -/
structure SW (w : World) (b : Nat) (v : Value) (W : World) : Prop where
  at_ : At W b v
  below : Below w.heap.size w W
theorem SW.drew {w : World} {b : Nat} {v : Value} {W : World} (h : SW w b v W) : SW w b v W.drew := ⟨h.at_.drew, h.below.drew⟩
theorem SW.to {w : World} {b : Nat} {v : Value} {W W' : World} (h : SW w b v W) (hb : Below W.heap.size W W') : SW w b v W' := ⟨h.at_.below hb, below_to h.below hb⟩
theorem okWord_two (xs : List Int) (d e : Int) : okWord xs [d, e] = ((decide (0 ≤ d) && decide (d < xs.length)) && (decide (0 ≤ e) && decide (e < xs.length))) := by
  simp [okWord, inW]
end Go.Proofs.Ytnlehkjfidpdlab
