/- ParsePoset of the model. -/
import Derived.Test.YtiodligebnnodaaDoorPsI
import Derived.Test.YtiodligebnnodaaDoorTextS
import Derived.StillTailTactics
namespace Go.Proofs.YtiodligebnnodaaDoor
open Go.RowKit Go.WideShapes Go.ChangeShapes
set_option linter.unusedVariables false

theorem splR_part (c : UInt8) (l : List UInt8) : ∀ p ∈ splR c l, p.length ≤ l.length := by
  induction l with
  | nil => intro p hp; simp [splR] at hp; subst hp; exact Nat.le_refl _
  | cons b l ih =>
    unfold splR
    intro p hp
    split at hp
    · rw [List.mem_cons] at hp
      rcases hp with rfl | hp
      · exact Nat.zero_le _
      · have := ih p hp; simp; omega
    · split at hp
      · simp at hp; subst hp; simp
      · rename_i h t e
        rw [e] at ih
        rw [List.mem_cons] at hp
        rcases hp with rfl | hp
        · have := ih h (by simp); simp; omega
        · have := ih p (by simp [hp]); simp; omega
theorem splitL_part (c : UInt8) (l : List UInt8) (j : Nat) : ((splitL c l).getD j []).length ≤ l.length := by
  rcases Nat.lt_or_ge j (splitL c l).length with h | h
  · rw [splitL_eq] at h ⊢
    exact splR_part c l _ (by simp [List.getD, h])
  · simp [List.getD, h]
theorem splitL_length (c : UInt8) (l : List UInt8) : (splitL c l).length ≤ l.length + 1 := by rw [splitL_eq]; exact splR_length c l
theorem selK_none {ps : List (List UInt8)} {k : Nat} (h : selK ps k = none) (j : Nat) (hj : k ≤ j) : selK ps j = none := by
  induction j with
  | zero => have : k = 0 := by omega
            subst this; exact h
  | succ j ih =>
    by_cases e : k = j + 1
    · subst e; exact h
    · rw [selK, ih (by omega)]; rfl
theorem selK_yes {ps : List (List UInt8)} {k : Nat} {ls : List (List Int)} (h : selK ps k = some ls) (hl : ls.length ≠ 100) (h2 : (splitL 60 (ps.getD k [])).length = 2) : selK ps (k + 1) = some (ls ++ [[readL ((splitL 60 (ps.getD k [])).getD 0 []), readL ((splitL 60 (ps.getD k [])).getD 1 [])]]) := by
  rw [selK, h, Option.bind_some, if_neg hl, rdS, if_pos h2]; rfl
theorem selK_no1 {ps : List (List UInt8)} {k : Nat} {ls : List (List Int)} (h : selK ps k = some ls) (hl : ls.length = 100) : selK ps (k + 1) = none := by
  rw [selK, h, Option.bind_some, if_pos hl]
theorem selK_no2 {ps : List (List UInt8)} {k : Nat} {ls : List (List Int)} (h : selK ps k = some ls) (h2 : (splitL 60 (ps.getD k [])).length ≠ 2) : selK ps (k + 1) = none := by
  rw [selK, h, Option.bind_some, rdS, if_neg h2]; split <;> rfl
theorem selK_length {ps : List (List UInt8)} (k : Nat) : ∀ ls, selK ps k = some ls → ls.length = k ∧ k ≤ 100 ∧ ∀ r ∈ ls, r.length = 2 := by
  induction k with
  | zero => intro ls h; simp only [selK, Option.some.injEq] at h; subst h; exact ⟨rfl, by omega, fun r hr => by cases hr⟩
  | succ k ih =>
    intro ls h
    cases hq : selK ps k with
    | none => rw [selK, hq] at h; cases h
    | some q =>
      obtain ⟨a, b, c⟩ := ih q hq
      by_cases h100 : q.length = 100
      · rw [selK_no1 hq h100] at h; cases h
      · by_cases h2 : (splitL 60 (ps.getD k [])).length = 2
        · rw [selK_yes hq h100 h2, Option.some.injEq] at h
          subst h
          refine ⟨by simp [a], by omega, fun x hx => ?_⟩
          rw [List.mem_append, List.mem_singleton] at hx
          rcases hx with hx | rfl
          · exact c x hx
          · rfl
        · rw [selK_no2 hq h2] at h; cases h
theorem okFC_bad {n : Int} {ls : List (List Int)} (h : okFC n ls = false) : good (fcL n ls) = false := by rw [fcL_no h]; decide
theorem okFC_good {n : Int} {ls : List (List Int)} (h : okFC n ls = true) : good (fcL n ls) = true := by
  have h' := h
  simp only [okFC, Bool.and_eq_true, decide_eq_true_eq] at h'
  obtain ⟨m, rfl⟩ := Int.eq_ofNat_of_zero_le (show 0 ≤ n by omega)
  rw [fcL_yes h]
  refine good_from (okPr_up fun j hj => ?_) (by omega) (by omega)
  have := List.all_eq_true.1 h'.2.2 (ls.getD j []) (by simp [List.getD, hj])
  simpa using this
theorem prS_no1 {l : List UInt8} (h : (splitL 58 l).length ≠ 2) : prS l = none := by unfold prS; rw [if_neg h]
theorem prS_no2 {l : List UInt8} (h : selL ((splitL 58 l).getD 1 []) = none) : prS l = none := by
  unfold prS; rw [h]; split <;> rfl
theorem prS_at {l : List UInt8} {ls : List (List Int)} (h1 : (splitL 58 l).length = 2) (h2 : selL ((splitL 58 l).getD 1 []) = some ls) {xs : List Int} (hx : fcL (readL ((splitL 58 l).getD 0 [])) ls = xs) :
    prS l = if (good xs && decide (textL xs.length (covPS xs xs.length xs.length) = l)) = true then some xs else none := by
  unfold prS
  rw [if_pos h1, h2]
  simp only [hx]
theorem specParsePoset_of (l : List UInt8) (w : World)
    (h : Calls Tryd.prog 9 #[.string (sB l)] (w.alloc (.cells #[.slice none 0 0] 24)) fun (r : Ending) w' => ∃ q, r = Ending.returned (.tuple #[.agg #[q], .bool (prS l).isSome]) ∧ OwnI 3 w' (w.heap.size + 1) q ((prS l).getD []) ∧ Below (w.heap.size + 1) (w.alloc (.cells #[.slice none 0 0] 24)) w') :
    Calls Tryd.prog 4 #[.string (sB l)] w fun (r : Ending) w' => ∃ q, r = Ending.returned (.tuple #[.agg #[q], .bool (prS l).isSome]) ∧ OwnI 3 w' w.heap.size q ((prS l).getD []) ∧ Below w.heap.size w w' := by
  have H := hid h
  have HZ0 := hid (Blk.new w 24 #[.slice none 0 0])
  have HB0 := hid (below_alloc (Below.refl _ w) (.cells #[.slice none 0 0] 24))
  have Hz : Hid ((w.alloc (.cells #[.slice none 0 0] 24)).heap.size = w.heap.size + 1) := hid (by simp)
  clear h
  go_enter Tryd.func4, Tryd.ntmps4
  go_wp2_with fail
  refine H.out.mono ?_
  rintro e w1 ⟨q, rfl, ho, hb⟩
  have hb' := hb
  rw [← Hz.out] at hb'
  have HZ := hid (HZ0.out.below hb' HZ0.out.lt)
  have HB := hid (below_to HB0.out hb')
  have HO := hid ho
  obtain ⟨qA, qn, qc, rfl⟩ := ho.shape3
  have z1 := HZ.out.cell 0
  have z2 := HZ.out.frozen 0
  clear hb hb' ho
  go_wp2
  refine bodyPost_ret (v := .tuple #[.agg #[.slice qA qn qc], .bool (prS l).isSome]) (by simp [results, Tryd.results4, go_sem, z1]) rfl ⟨_, rfl, ?_, ?_⟩
  · refine (HO.out.grown (grown_setCell (g := w.heap.size) (World.grownBy.refl _ _) 0 _) ?_).mono (by omega)
    exact HO.out.apart (.inl (by omega))
  · exact HB.out.setCell (p := ⟨w.heap.size, 0, none⟩) (Nat.le_refl _) _
theorem readL_wf (l : List UInt8) : (Lit.int .i64 (readL l)).wf = true := by
  unfold readL
  split
  · rename_i h
    simp only [readOk, Bool.and_eq_true, decide_eq_true_eq] at h
    have h1 := digN_lt (l := l) l.length (fun j hj => by
      have := List.all_eq_true.1 h.2.2 (l.getD j 0) (by simp [List.getD, hj])
      exact this)
    have h2 : 10 ^ l.length ≤ 10 ^ 6 := Nat.pow_le_pow_right (by omega) h.1.2
    have e1 : IntKind.i64.min = -9223372036854775808 := rfl
    have e2 : IntKind.i64.max = 9223372036854775807 := rfl
    simp [Lit.wf]; omega
  · rfl
end Go.Proofs.YtiodligebnnodaaDoor
