/- Arrays in the program: fillings loaded and stored whole; toggled. -/
import Derived.Test.YtgepbekdgocnpabArI
import Derived.Test.YtgepbekdgocnpabTg
import Derived.Laws.CopyOwn
namespace Go.Proofs.Ytgepbekdgocnpab
open Go.RowKit Go.WideShapes Go.ChangeShapes
set_option linter.unusedVariables false

theorem fill_load {w : World} {g : Nat} {C : Array Value} (h : Blk w g 56 C) (hs : C.size = 11) : (loadCellsFrom ⟨g, 0, none⟩ 0 11 #[]).run Try.prog w = .ok C w := by
  have := run_loadCells_list (P := Try.prog) w ⟨g, 0, none⟩ C.toList (fun j v hv => by
    have hadd : (⟨g, 0, none⟩ : Addr).add j = ⟨g, j, none⟩ := by unfold Addr.add; split <;> simp_all
    rw [hadd, cell_of_row _ _ j C _ (0, 0) h]
    simpa using hv)
  simpa [loadCells, hs] using this
theorem fill_store {w : World} {g : Nat} {C D : Array Value} (h : Blk w g 56 D) (hd : D.size = 11) (hs : C.size = 11) (h1 : C.all (·.oneCell') = true) : (storeCells ⟨g, 0, none⟩ C.toList 0).run Try.prog w = .ok () (w.setRow g C) := by
  have := run_storeCells_at Try.prog g 0 56 C.toList 0 D w h (by simp [hd, hs]) (fun v hv => by
    rw [Array.all_eq_true] at h1
    obtain ⟨i, hi, e⟩ := List.mem_iff_getElem.1 hv
    have := h1 i (by simpa using hi)
    rw [← e]; simpa using this)
  rw [this]
  have hdrop : D.toList.drop (0 + 0 + C.toList.length) = [] := List.drop_eq_nil_of_le (by simp [hd, hs])
  rw [hdrop]
  simp
theorem fillInfo : (Try.prog.info? 56).map (·.size) = some 11 := by kernel_rfl
theorem fill_ldW {w : World} {ops : Array Oper} {rest : List Oper} {o : Oper} {a : Act} {Q : Exit → Act → World → Prop} (hgd : o.guard = none) (x : Operand) (ho : o.op = .load 56 x)
    (g : Nat) (hx : a.eval x = .pointer (some ⟨g, 0, none⟩)) (C : Array Value) (hg : Blk w g 56 C) (hs : C.size = 11)
    (h : wpList Try.prog ops Q rest (a.put o.dst (.agg C)) w) : wpList Try.prog ops Q (o :: rest) a w :=
  wpList_load_row hgd _ x ho g hx _ C (0, 0) _ hg Try.underlying56 rfl (by rw [fillInfo, hs]) h
theorem fill_stW {w : World} {ops : Array Oper} {rest : List Oper} {o : Oper} {a : Act} {Q : Exit → Act → World → Prop} (hgd : o.guard = none) (x y : Operand) (ho : o.op = .store 56 x y)
    (g : Nat) (C D : Array Value) (hx : a.eval x = .pointer (some ⟨g, 0, none⟩)) (hy : a.eval y = .agg C) (hg : Blk w g 56 D) (hd : D.size = 11) (hs : C.size = 11) (h1 : C.all (·.oneCell') = true)
    (h : wpList Try.prog ops Q rest (a.put o.dst undef) (w.setRow g C)) : wpList Try.prog ops Q (o :: rest) a w :=
  wpList_store_row hgd _ x y ho g C hx hy _ D hg (by rw [fillInfo, hs]) (by rw [hd, hs]) h1 h
theorem Blk.setRowA {w : World} {g : Nat} {t : TypeId} {C D : Array Value} (h : Blk w g t D) : Blk (w.setRow g C) g t C := setRow_heap w g D C t (0, 0) h
theorem Blk.setRowFar {w : World} {g k : Nat} {t : TypeId} {C D : Array Value} (h : Blk w k t D) (hk : k ≠ g) : Blk (w.setRow g C) k t D := (setRow_other w g k C hk).trans h
end Go.Proofs.Ytgepbekdgocnpab
