/- Arrays in the program: RangeAt, ToggleNumbers, ToggleNumber. -/
import Derived.Test.YtgepbekdgocnpabArK
import Derived.Test.YtgepbekdgocnpabArV
import Derived.Deep.RegionLaw
import Derived.Deep.RegionHeld3
namespace Go.Proofs.Ytgepbekdgocnpab
open Go.RowKit Go.WideShapes Go.ChangeShapes
set_option linter.unusedVariables false

theorem step_fill_ld {ops : Array Oper} {o : Oper} {a : Act} {w : World} {K : Act → World → Prop} {Q : Exit → Act → World → Prop} {E : Prop} (hgd : o.guard = none) (x : Operand) (ho : o.op = .load 56 x)
    (g : Nat) (hx : a.eval x = .pointer (some ⟨g, 0, none⟩)) (C : Array Value) (hg : Blk w g 56 C) (hs : C.size = 11)
    (h : K (a.put o.dst (.agg C)) w) : if Region.wanted o (yielded ops a.tmps) = true then Oper.wp Try.prog o a w K Q else E := by
  have hw : Region.wanted o (yielded ops a.tmps) = true := by simp [Region.wanted, hgd]
  rw [if_pos hw]
  exact wp_load_row _ x ho g hx _ C (0, 0) _ hg Try.underlying56 rfl (by rw [fillInfo, hs]) h
theorem fill_stN {w : World} {ops : Array Oper} {rest : List Oper} {o : Oper} {a : Act} {Q : Exit → Act → World → Prop} (hgd : o.guard = none) (x y : Operand) (ho : o.op = .store 56 x y)
    (g : Nat) (C D : Array Value) (hx : a.eval x = .pointer (some ⟨g, 0, none⟩)) (hy : a.eval y = .agg C) (hg : Blk w g 56 D) (hd : D.size = 11) (hs : C.size = 11) (h1 : C.all (·.oneCell') = true)
    (h : ∀ w2, Hid (Blk w2 g 56 C) → Hid (Below g w w2) → wpList Try.prog ops Q rest (a.put o.dst undef) w2) : wpList Try.prog ops Q (o :: rest) a w :=
  fill_stW hgd x y ho g C D hx hy hg hd hs h1 (h _ hg.setRowA (below_setRow (Below.refl _ _) (Nat.le_refl _) C))
theorem At.under {w w2 : World} {b g : Nat} {v : Value} (h : At w b v) (hb : Below g w w2) (hg : b < g) : At w2 b v :=
  ⟨(hb.cell (p := ⟨b, 0, none⟩) hg).trans h.1, Nat.lt_of_lt_of_le h.2 hb.size⟩
end Go.Proofs.Ytgepbekdgocnpab
