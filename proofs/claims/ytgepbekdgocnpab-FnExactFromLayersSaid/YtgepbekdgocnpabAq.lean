/- Fillings compared. -/
import Derived.Test.YtgepbekdgocnpabArK
import Derived.ChangeKeysEq
namespace Go.Proofs.Ytgepbekdgocnpab
open Go.RowKit Go.WideShapes Go.ChangeShapes
set_option linter.unusedVariables false
theorem eqItems_ints (W : World) (d : Nat) (xs ys : Array Value) (a b : Nat → Int) (is : List Nat) (h : ∀ i, i ∈ is → xs[i]? = some (.int .i64 (a i)) ∧ ys[i]? = some (.int .i64 (b i))) :
    (Op.eqItems (d + 1) 3 1 xs ys is).run Try.prog W = .ok (is.all fun i => a i == b i) W := by
  have hp : Try.prog.plainKey 3 = true := by kernel_rfl
  induction is with
  | nil => simp [Op.eqItems]
  | cons i is ih =>
    obtain ⟨h1, h2⟩ := h i (by simp)
    have e1 := run_part_plain (P := Try.prog) W (off := i * 1) hp (by rw [Nat.mul_one]; exact h1)
    have e2 := run_part_plain (P := Try.prog) W (off := i * 1) hp (by rw [Nat.mul_one]; exact h2)
    have e3 := run_equalIn_int (P := Try.prog) W d 3 .i64 .i64 (a i) (b i) (by kernel_rfl)
    have ih' := ih (fun j hj => h j (by simp [hj]))
    simp only [Op.eqItems, Sem.run_bind, e1, e2, e3, Result.andThen_ok, List.all_cons]
    cases hab : (a i == b i)
    · simp
    · simpa using ih'
set_option maxRecDepth 100000 in
set_option maxHeartbeats 1600000 in
theorem fill_neq (W : World) (a0 a1 a2 a3 a4 a5 a6 a7 a8 a9 b0 b1 b2 b3 b4 b5 b6 b7 b8 b9 c : Int) :
    (binOp .neq 56 (.agg #[.int .i64 a0, .int .i64 a1, .int .i64 a2, .int .i64 a3, .int .i64 a4, .int .i64 a5, .int .i64 a6, .int .i64 a7, .int .i64 a8, .int .i64 a9, .int .i64 c]) (.agg #[.int .i64 b0, .int .i64 b1, .int .i64 b2, .int .i64 b3, .int .i64 b4, .int .i64 b5, .int .i64 b6, .int .i64 b7, .int .i64 b8, .int .i64 b9, .int .i64 c])).run Try.prog W =
      .ok (.bool (!((List.range 10).all fun i => [a0, a1, a2, a3, a4, a5, a6, a7, a8, a9].getD i 0 == [b0, b1, b2, b3, b4, b5, b6, b7, b8, b9].getD i 0))) W := by
  have harr : (Op.equalIn 9999 54 (.agg #[.int .i64 a0, .int .i64 a1, .int .i64 a2, .int .i64 a3, .int .i64 a4, .int .i64 a5, .int .i64 a6, .int .i64 a7, .int .i64 a8, .int .i64 a9]) (.agg #[.int .i64 b0, .int .i64 b1, .int .i64 b2, .int .i64 b3, .int .i64 b4, .int .i64 b5, .int .i64 b6, .int .i64 b7, .int .i64 b8, .int .i64 b9])).run Try.prog W = .ok ((List.range 10).all fun i => [a0, a1, a2, a3, a4, a5, a6, a7, a8, a9].getD i 0 == [b0, b1, b2, b3, b4, b5, b6, b7, b8, b9].getD i 0) W := by
    obtain ⟨i0, hi⟩ : ∃ i, Try.prog.info? 3 = some i := by
      cases h : Try.prog.info? 3 with
      | none => have := intSizeA; rw [h] at this; cases this
      | some i => exact ⟨i, rfl⟩
    rw [run_equalIn_array W 9998 (t := 54) (e := 3) (n := 10) _ _ (by kernel_rfl) hi]
    rw [show Try.prog.cellsOf 3 = 1 from by kernel_rfl]
    exact eqItems_ints W 9997 _ _ _ _ _ (fun i hi => by
      have : i < 10 := List.mem_range.1 hi
      match i, this with
      | 0, _ => exact ⟨rfl, rfl⟩
      | 1, _ => exact ⟨rfl, rfl⟩
      | 2, _ => exact ⟨rfl, rfl⟩
      | 3, _ => exact ⟨rfl, rfl⟩
      | 4, _ => exact ⟨rfl, rfl⟩
      | 5, _ => exact ⟨rfl, rfl⟩
      | 6, _ => exact ⟨rfl, rfl⟩
      | 7, _ => exact ⟨rfl, rfl⟩
      | 8, _ => exact ⟨rfl, rfl⟩
      | 9, _ => exact ⟨rfl, rfl⟩)
  obtain ⟨R, hR⟩ : ∃ R, ((List.range 10).all fun i => [a0, a1, a2, a3, a4, a5, a6, a7, a8, a9].getD i 0 == [b0, b1, b2, b3, b4, b5, b6, b7, b8, b9].getD i 0) = R := ⟨_, rfl⟩
  rw [hR] at harr ⊢
  clear hR
  go_simp
  cases R <;> simp
theorem getD10 (a0 a1 a2 a3 a4 a5 a6 a7 a8 a9 : Int) (f : Nat → Int) (h0 : f 0 = a0) (h1 : f 1 = a1) (h2 : f 2 = a2) (h3 : f 3 = a3) (h4 : f 4 = a4) (h5 : f 5 = a5) (h6 : f 6 = a6) (h7 : f 7 = a7) (h8 : f 8 = a8) (h9 : f 9 = a9) {i : Nat} (hi : i < 10) : [a0, a1, a2, a3, a4, a5, a6, a7, a8, a9].getD i 0 = f i := by
  match i, hi with
  | 0, _ => exact h0.symm
  | 1, _ => exact h1.symm
  | 2, _ => exact h2.symm
  | 3, _ => exact h3.symm
  | 4, _ => exact h4.symm
  | 5, _ => exact h5.symm
  | 6, _ => exact h6.symm
  | 7, _ => exact h7.symm
  | 8, _ => exact h8.symm
  | 9, _ => exact h9.symm
theorem fill_ne (W : World) (f g : List Int) (b : Int) (hl : f.length = g.length) (h10 : f.length ≤ 10) :
    (binOp .neq 56 (.agg (fc f b)) (.agg (fc g b))).run Try.prog W = .ok (.bool (!(decide (f = g)))) W := by
  have h := fill_neq W (f.getD 0 0) (f.getD 1 0) (f.getD 2 0) (f.getD 3 0) (f.getD 4 0) (f.getD 5 0) (f.getD 6 0) (f.getD 7 0) (f.getD 8 0) (f.getD 9 0) (g.getD 0 0) (g.getD 1 0) (g.getD 2 0) (g.getD 3 0) (g.getD 4 0) (g.getD 5 0) (g.getD 6 0) (g.getD 7 0) (g.getD 8 0) (g.getD 9 0) b
  refine h.trans ?_
  congr 3
  rw [Bool.eq_iff_iff, List.all_eq_true, decide_eq_true_eq]
  constructor
  · intro h
    refine List.ext_getElem hl fun i h1 h2 => ?_
    have := h i (List.mem_range.2 (by omega))
    rw [beq_iff_eq, getD10 _ _ _ _ _ _ _ _ _ _ (fun i => f.getD i 0) rfl rfl rfl rfl rfl rfl rfl rfl rfl rfl (by omega), getD10 _ _ _ _ _ _ _ _ _ _ (fun i => g.getD i 0) rfl rfl rfl rfl rfl rfl rfl rfl rfl rfl (by omega)] at this
    simpa [List.getD, h1, h2] using this
  · rintro rfl i hi
    exact beq_self_eq_true _
theorem fill_neW {w : World} {ops : Array Oper} {rest : List Oper} {o : Oper} {a : Act} {Q : Exit → Act → World → Prop} (hgd : o.guard = none) (x y : Operand) (ho : o.op = .binOp .neq 56 x y 56)
    (C D : Array Value) (R : Bool) (hx : a.eval x = .agg C) (hy : a.eval y = .agg D) (hR : (binOp .neq 56 (.agg C) (.agg D)).run Try.prog w = .ok (.bool R) w)
    (h : wpList Try.prog ops Q rest (a.put o.dst (.bool R)) w) : wpList Try.prog ops Q (o :: rest) a w := by
  refine wpList_plain hgd fun K hK => ?_
  have hg := run_eqGuard_agg (P := Try.prog) w .neq 56 x y C D (by kernel_rfl)
  unfold Oper.wp
  simp [execOp, ho, hx, hy, hg, hR, Result.andThen]
  exact hK _ _ h
end Go.Proofs.Ytgepbekdgocnpab
