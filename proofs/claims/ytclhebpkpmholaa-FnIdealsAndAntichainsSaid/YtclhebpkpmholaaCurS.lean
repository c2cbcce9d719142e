/- The model's cursor of draws: sets. -/
import Derived.Test.YtclhebpkpmholaaCurQ
namespace Go.Proofs.Ytclhebpkpmholaa
open Go.RowKit Go.WideShapes Go.ChangeShapes
set_option linter.unusedVariables false

theorem l1Least_any (a b : Int) (w : World) : Calls Try.prog 156 #[.int .i64 a, .int .i64 b] w fun r w' => r = .returned (.int .i64 (min a b)) ∧ w = w' := by
  go_enter Try.func156, Try.ntmps156
  by_cases h : a < b
  · go_wp2
    go_ret
    exact ⟨ret_int (by omega), rfl⟩
  · go_wp2
    go_ret
    exact ⟨ret_int (by omega), rfl⟩
theorem wrapI_range (x : Int) : -9223372036854775808 ≤ IntKind.i64.wrap x ∧ IntKind.i64.wrap x ≤ 9223372036854775807 := by
  rw [IntKind.wrap_i64]; omega
theorem and_range (x y : Int) : -9223372036854775808 ≤ bits .and .i64 x y ∧ bits .and .i64 x y ≤ 9223372036854775807 := wrapI_range _
theorem getD_range {l : List Int} {p : Int → Prop} (h : ∀ x ∈ l, p x) {m : Nat} (hm : m < l.length) : p (l.getD m 0) := by
  have e : l.getD m 0 = l[m] := by simp [List.getD, hm]
  rw [e]; exact h _ (List.getElem_mem hm)
set_option maxHeartbeats 3200000 in
theorem setOf_any (g A : Nat) (v : Value) (xs : List Int) (w : World) (h : Cur w g A) (hA : A < 800000000000) (hv : Ints w v xs) (hl : xs.length ≤ 1048576) :
    Calls Try.prog 143 #[.pointer (some ⟨g, 0, none⟩), .agg #[v]] w fun (r : Ending) w' => ∃ s : Int, (Lit.int .i64 s).wf = true ∧ r = .returned (.int .i64 s) ∧ Drawn w g (A + 10) w' := by
  obtain ⟨vA, vc, rfl, -⟩ := hv
  have HC := hid h
  have hgl := h.lt
  clear h
  obtain ⟨n, hn⟩ : ∃ n : Nat, min (xs.length : Int) 12 = n := ⟨min xs.length 12, by omega⟩
  have hn12 : n ≤ 12 := by omega
  have hln := l1Least_any (xs.length : Int) 12
  rw [hn] at hln
  have HL := hid hln
  clear hln hn
  have hbox := (Blk.new w 26 #[.slice vA xs.length vc]).cell 0
  have HD0 := hid ((Drawn.mk HC.out (TurnedIn.refl _ _ _)).below (below_alloc (Below.refl _ w) (.cells #[.slice vA xs.length vc] 26)))
  go_enter Try.func143, Try.ntmps143
  go_wp2_with fail
  refine (HL.out _).mono ?_
  rintro e w1 ⟨rfl, rfl⟩
  clear hbox
  go_wp2_with fail
  refine (pick_any g A 256 _ HD0.out.cur (by omega)).mono ?_
  rintro e w1 ⟨p, hp, rfl, hc1, ht1⟩
  have HD1 := hid (Drawn.mk hc1 (HD0.out.turned.trans ht1))
  clear hc1 ht1 HD0
  go_wp2_with fail
  refine (pick_any g (A + 2) 16 _ HD1.out.cur (by omega)).mono ?_
  rintro e w2 ⟨q, hq, rfl, hc2, ht2⟩
  have HD2 := hid (Drawn.mk hc2 (HD1.out.turned.trans ht2))
  clear hc2 ht2 HD1
  have hp2 : p < 256 := by omega
  have hq2 : q < 16 := by omega
  clear hp hq
  go_wp2_with fail
  refine (one_any g (A + 4) 12 _ HD2.out.cur (by omega)).mono ?_
  rintro e w3 ⟨b, rfl, hc3, ht3⟩
  have HD3 := hid (Drawn.mk hc3 (HD2.out.turned.trans ht3))
  clear hc3 ht3 HD2
  cases b
  · go_wp2
    go_ret
    exact ⟨_, wf_i64 _ (and_range _ _).1 (and_range _ _).2, rfl, HD3.out.le (by omega)⟩
  · have hgw := HD3.out.cur.lt
    have hy1 := wrapI_range ((2 : Int) ^ n)
    obtain ⟨y1, he1⟩ : ∃ z : Int, IntKind.i64.wrap ((2 : Int) ^ n) = z := ⟨_, rfl⟩
    rw [he1] at hy1
    have hy2 := wrapI_range (y1 - 1)
    obtain ⟨y2, he2⟩ : ∃ z : Int, IntKind.i64.wrap (y1 - 1) = z := ⟨_, rfl⟩
    rw [he2] at hy2
    have HY1 := hid hy1
    have HY2 := hid hy2
    clear hy1 hy2
    go_wp2
    go_region_with (go_at_call 129; refine (among_any g (A + 6) _ [-1, y1, 0, y2, 4611686018427387904] _ (HD3.out.cur.below (below_drewN (below_alloc (Below.refl _ _) _) 1)) (by omega) ⟨_, Blk.newDrew w3 _ _, by omega, rfl⟩ (by simp) (by simp)).mono ?_; rintro e w8 ⟨m2, hm2, rfl, hc8, ht8⟩; have HD8 := hid (Drawn.mk hc8 ((HD3.out.below (below_drewN (below_alloc (Below.refl _ _) _) 1)).turned.trans ht8)); have hy3 := hid (getD_range (p := fun x => -9223372036854775808 ≤ x ∧ x ≤ 9223372036854775807) (l := [-1, y1, 0, y2, 4611686018427387904]) (by simp [HY1.out.1, HY1.out.2, HY2.out.1, HY2.out.2]) hm2); obtain ⟨y, hy⟩ : ∃ y, [-1, y1, 0, y2, 4611686018427387904].getD m2 0 = y := ⟨_, rfl⟩; rw [hy] at hy3 ⊢; clear hc8 ht8 hm2 hy)
    all_goals go_wp2
    all_goals go_ret
    all_goals exact ⟨_, wf_i64 _ hy3.out.1 hy3.out.2, rfl, HD8.out.le (by omega)⟩
end Go.Proofs.Ytclhebpkpmholaa
