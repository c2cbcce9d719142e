/- Texts of posets, cut and read as the program and the model do: mathematics. -/
import Derived.Test.YtiodligebnnodaaDoorTextQ
import Derived.Test.YtiodligebnnodaaDoorFcovS
import Derived.Lib.AtoiAll
import Derived.Lib.Split
import Derived.Lib.IndexMore
namespace Go.Proofs.YtiodligebnnodaaDoor
open Go.RowKit Go.WideShapes Go.ChangeShapes
set_option linter.unusedVariables false

def cutL (c : UInt8) (l : List UInt8) : List UInt8 × List UInt8 × Bool := Lib.cut l [c]
theorem index_no {c : UInt8} {l : List UInt8} (h : c ∉ l) : Lib.index l [c] = -1 := by
  induction l with
  | nil => rfl
  | cons b l ih =>
    simp only [List.mem_cons, not_or] at h
    have e : ([c].isPrefixOf (b :: l)) = false := by simp [List.isPrefixOf, h.1]
    rw [Lib.index, e, ih h.2]; rfl
theorem index_at {c : UInt8} {x : List UInt8} (h : c ∉ x) (y : List UInt8) : Lib.index (x ++ c :: y) [c] = (x.length : Int) := by
  induction x with
  | nil => simp [Lib.index, List.isPrefixOf]
  | cons b x ih =>
    simp only [List.mem_cons, not_or] at h
    have e : ([c].isPrefixOf (b :: (x ++ c :: y))) = false := by simp [List.isPrefixOf, h.1]
    rw [List.cons_append, Lib.index, e, ih h.2]
    have : ((x.length : Int) == -1) = false := by rw [beq_eq_false_iff_ne]; omega
    rw [this]
    simp
theorem cutL_at {c : UInt8} {x : List UInt8} (h : c ∉ x) (y : List UInt8) : cutL c (x ++ c :: y) = (x, y, true) := by
  unfold cutL Lib.cut
  rw [index_at h, if_pos (by omega), Int.toNat_natCast]
  have e1 : (x ++ c :: y).take x.length = x := by simp
  have e2 : (x ++ c :: y).drop (x.length + [c].length) = y := by
    rw [← List.drop_drop]; simp
  rw [e1, e2]
theorem cutL_length (c : UInt8) (l : List UInt8) : (cutL c l).1.length ≤ l.length ∧ (cutL c l).2.1.length ≤ l.length := by
  unfold cutL Lib.cut
  split
  · exact ⟨by simp; omega, by simp⟩
  · exact ⟨Nat.le_refl _, Nat.zero_le _⟩
def splC (l : List UInt8) : List (List UInt8) := Lib.splitK [44] 0 (min 101 (l.length + 1) - 1) l
theorem mem_cut (c : UInt8) (l : List UInt8) : c ∉ l ∨ ∃ x y, l = x ++ c :: y ∧ c ∉ x := by
  induction l with
  | nil => exact .inl (by simp)
  | cons b l ih =>
    by_cases e : b = c
    · subst e; exact .inr ⟨[], l, rfl, by simp⟩
    · rcases ih with h | ⟨x, y, rfl, h⟩
      · exact .inl (by simp [Ne.symm e, h])
      · exact .inr ⟨b :: x, y, rfl, by simp [Ne.symm e, h]⟩
theorem splitK_splR {c : UInt8} (k : Nat) : ∀ l : List UInt8, (splR c l).length ≤ k + 1 → Lib.splitK [c] 0 k l = splR c l := by
  induction k with
  | zero =>
    intro l h
    rcases mem_cut c l with hn | ⟨x, y, rfl, hx⟩
    · rw [splR_no hn]; rfl
    · rw [splR_cons hx, List.length_cons] at h
      have := List.length_pos_iff.2 (splR_ne c y)
      omega
  | succ k ih =>
    intro l h
    rcases mem_cut c l with hn | ⟨x, y, rfl, hx⟩
    · rw [splR_no hn]
      unfold Lib.splitK
      rw [index_no hn]; rfl
    · rw [splR_cons hx] at h ⊢
      rw [List.length_cons] at h
      unfold Lib.splitK
      rw [index_at hx]
      have e0 : ((x.length : Int) == -1) = false := by rw [beq_eq_false_iff_ne]; omega
      rw [e0, Int.toNat_natCast]
      have e1 : (x ++ c :: y).take (x.length + 0) = x := by simp
      have e2 : (x ++ c :: y).drop (x.length + [c].length) = y := by rw [← List.drop_drop]; simp
      rw [e1, e2, ih y (by omega)]
      rfl
theorem splitK_len (sep : List UInt8) (save k : Nat) (hs : save = 0) : ∀ (l : List UInt8), (Lib.splitK sep save k l).length ≤ k + 1 ∧ ∀ p ∈ Lib.splitK sep save k l, p.length ≤ l.length := by
  subst hs
  induction k with
  | zero => intro l; exact ⟨by simp [Lib.splitK], fun p hp => by simp [Lib.splitK] at hp; subst hp; exact Nat.le_refl _⟩
  | succ k ih =>
    intro l
    unfold Lib.splitK
    split
    · exact ⟨by simp, fun p hp => by simp at hp; subst hp; exact Nat.le_refl _⟩
    · obtain ⟨h1, h2⟩ := ih (l.drop ((Lib.index l sep).toNat + sep.length))
      refine ⟨by simp; omega, fun p hp => ?_⟩
      rw [List.mem_cons] at hp
      rcases hp with rfl | hp
      · simp; omega
      · have := h2 p hp
        rw [List.length_drop] at this
        omega
theorem splC_length (l : List UInt8) : (splC l).length ≤ 101 := by
  have := (splitK_len [44] 0 (min 101 (l.length + 1) - 1) rfl l).1
  unfold splC
  omega
theorem splC_part (l : List UInt8) {j : Nat} (hj : j < (splC l).length) : ((splC l).getD j []).length ≤ l.length := by
  refine (splitK_len [44] 0 (min 101 (l.length + 1) - 1) rfl l).2 _ ?_
  show (splC l).getD j [] ∈ splC l
  simp [List.getD, hj]
theorem splR_length (c : UInt8) (l : List UInt8) : (splR c l).length ≤ l.length + 1 := by
  induction l with
  | nil => simp [splR]
  | cons b l ih =>
    unfold splR
    split
    · simp; omega
    · split
      · simp
      · rename_i h t e
        rw [e] at ih
        simp at ih ⊢
        omega
theorem splC_eq {l : List UInt8} (h : (splR 44 l).length ≤ 101) : splC l = splR 44 l := by
  have := splR_length 44 l
  exact splitK_splR _ l (by omega)
theorem atoi_numL (n : Nat) (h : n ≤ 10) : Lib.atoiAll (numL n) = .ok (n : Int) := by
  rcases (by omega : n = 0 ∨ n = 1 ∨ n = 2 ∨ n = 3 ∨ n = 4 ∨ n = 5 ∨ n = 6 ∨ n = 7 ∨ n = 8 ∨ n = 9 ∨ n = 10) with rfl | rfl | rfl | rfl | rfl | rfl | rfl | rfl | rfl | rfl | rfl <;> decide +kernel
/-- a part of the list, as the program reads it -/
def rdP (p : List UInt8) : Option (List Int) := match Lib.atoiAll (cutL 60 p).1, Lib.atoiAll (cutL 60 p).2.1 with
  | .ok x, .ok y => some [x, y]
  | _, _ => none
def relK (ps : List (List UInt8)) : Nat → Option (List (List Int))
  | 0 => some []
  | k + 1 => (relK ps k).bind fun ls => (rdP (ps.getD k [])).map fun r => ls ++ [r]
def relL (l : List UInt8) : Option (List (List Int)) := if l = [45] then some [] else relK (splC l) (splC l).length
/-- a part of the list, as the model reads it -/
def rdS (p : List UInt8) : Option (List Int) := if (splitL 60 p).length = 2 then some [readL ((splitL 60 p).getD 0 []), readL ((splitL 60 p).getD 1 [])] else none
def selK (ps : List (List UInt8)) : Nat → Option (List (List Int))
  | 0 => some []
  | k + 1 => (selK ps k).bind fun ls => if ls.length = 100 then none else (rdS (ps.getD k [])).map fun r => ls ++ [r]
def selL (l : List UInt8) : Option (List (List Int)) := if l = [45] then some [] else selK (splitL 44 l) (splitL 44 l).length
def rowsOf (ps : List (Nat × Nat)) : List (List Int) := ps.map fun p => [(p.1 : Int), (p.2 : Int)]
theorem rdP_pair {p : Nat × Nat} (h1 : p.1 ≤ 10) (h2 : p.2 ≤ 10) : rdP (pairT p) = some [(p.1 : Int), (p.2 : Int)] := by
  have e : cutL 60 (pairT p) = (numL p.1, numL p.2, true) := by
    rw [pairT, List.append_assoc, List.singleton_append, cutL_at (numL_free _ h1).2.2.1]
  unfold rdP
  rw [e]
  simp only [atoi_numL _ h1, atoi_numL _ h2]
theorem rdS_pair {p : Nat × Nat} (h1 : p.1 ≤ 10) (h2 : p.2 ≤ 10) : rdS (pairT p) = some [(p.1 : Int), (p.2 : Int)] := by
  unfold rdS
  rw [split_pair h1 h2]
  simp [List.getD, readL_numL _ h1, readL_numL _ h2]
theorem partsL_getD {ps : List (Nat × Nat)} {k j : Nat} (h : j < k) : (partsL ps k).getD j [] = pairT (ps.getD j (0, 0)) := by simp [partsL, List.getD, h]
theorem rowsOf_take {ps : List (Nat × Nat)} {k : Nat} (hk : k < ps.length) : rowsOf (ps.take (k + 1)) = rowsOf (ps.take k) ++ [[((ps.getD k (0, 0)).1 : Int), ((ps.getD k (0, 0)).2 : Int)]] := by
  unfold rowsOf
  rw [List.take_succ_eq_append_getElem hk, List.map_append]
  simp [List.getD, hk]
theorem relK_parts {ps : List (Nat × Nat)} (hp : ∀ k, k < ps.length → (ps.getD k (0, 0)).1 ≤ 10 ∧ (ps.getD k (0, 0)).2 ≤ 10) (k : Nat) (hk : k ≤ ps.length) : relK (partsL ps ps.length) k = some (rowsOf (ps.take k)) := by
  induction k with
  | zero => rfl
  | succ k ih =>
    obtain ⟨a, b⟩ := hp k (by omega)
    rw [relK, ih (by omega), partsL_getD (by omega), rdP_pair a b, rowsOf_take (by omega)]; rfl
theorem selK_parts {ps : List (Nat × Nat)} (hl : ps.length ≤ 100) (hp : ∀ k, k < ps.length → (ps.getD k (0, 0)).1 ≤ 10 ∧ (ps.getD k (0, 0)).2 ≤ 10) (k : Nat) (hk : k ≤ ps.length) : selK (partsL ps ps.length) k = some (rowsOf (ps.take k)) := by
  induction k with
  | zero => rfl
  | succ k ih =>
    obtain ⟨a, b⟩ := hp k (by omega)
    rw [selK, ih (by omega), partsL_getD (by omega), rdS_pair a b, rowsOf_take (by omega), Option.bind_some, if_neg (by unfold rowsOf; rw [List.length_map, List.length_take]; omega)]; rfl
/-- the list of a text, as both read it -/
def restT (ps : List (Nat × Nat)) : List UInt8 := if ps.length = 0 then [45] else lsT ps ps.length
theorem rel_rest {ps : List (Nat × Nat)} (hl : ps.length ≤ 100) (hp : ∀ k, k < ps.length → (ps.getD k (0, 0)).1 ≤ 10 ∧ (ps.getD k (0, 0)).2 ≤ 10) : relL (restT ps) = some (rowsOf ps) ∧ selL (restT ps) = some (rowsOf ps) := by
  unfold restT relL selL
  by_cases h0 : ps.length = 0
  · rw [if_pos h0, if_pos rfl, if_pos rfl]
    have : ps = [] := List.eq_nil_of_length_eq_zero h0
    subst this
    exact ⟨rfl, rfl⟩
  · rw [if_neg h0]
    have hd := lsT_dash (ps := ps) ps.length (by omega)
    rw [if_neg hd, if_neg hd]
    have hs := split_list hp ps.length (by omega) (Nat.le_refl _)
    have hs2 := hs
    rw [splitL_eq] at hs2
    have hc : splC (lsT ps ps.length) = partsL ps ps.length := by rw [splC_eq (by rw [hs2, partsL_length]; omega), hs2]
    rw [hc, hs, partsL_length, relK_parts hp _ (Nat.le_refl _), selK_parts hl hp _ (Nat.le_refl _), List.take_length]
    exact ⟨rfl, rfl⟩
/-- what the program makes of a text, and what the model makes of it -/
def prI (l : List UInt8) : Option (List Int) := match Lib.atoiAll (cutL 58 l).1, relL (cutL 58 l).2.1 with
  | .ok n, some ls => if (good (fcL n ls) && decide (textL (fcL n ls).length (covPS (fcL n ls) (fcL n ls).length (fcL n ls).length) = l)) = true then some (fcL n ls) else none
  | _, _ => none
def prS (l : List UInt8) : Option (List Int) := if (splitL 58 l).length = 2 then
    match selL ((splitL 58 l).getD 1 []) with
    | some ls => if (good (fcL (readL ((splitL 58 l).getD 0 [])) ls) && decide (textL (fcL (readL ((splitL 58 l).getD 0 [])) ls).length (covPS (fcL (readL ((splitL 58 l).getD 0 [])) ls) (fcL (readL ((splitL 58 l).getD 0 [])) ls).length (fcL (readL ((splitL 58 l).getD 0 [])) ls).length) = l)) = true then some (fcL (readL ((splitL 58 l).getD 0 [])) ls) else none
    | none => none
  else none
theorem covers_le {xs : List Int} (hg : good xs = true) (k : Nat) (hk : k < (covPS xs xs.length xs.length).length) : ((covPS xs xs.length xs.length).getD k (0, 0)).1 ≤ 10 ∧ ((covPS xs xs.length xs.length).getD k (0, 0)).2 ≤ 10 := by
  have h := cover_up hg k hk
  have := (good_length hg).2
  omega
theorem okFC_rows {xs : List Int} (hg : good xs = true) : fcL (xs.length : Int) (rowsOf (covPS xs xs.length xs.length)) = xs := by
  have hl := good_length hg
  have hup := cover_up hg
  have hok : okFC (xs.length : Int) (rowsOf (covPS xs xs.length xs.length)) = true := by
    have h1 := coversP_length xs
    rw [coversP_yes hg] at h1
    unfold okFC
    simp only [Bool.and_eq_true, decide_eq_true_eq, Int.toNat_natCast]
    refine ⟨by omega, by unfold rowsOf; rw [List.length_map]; exact h1, List.all_eq_true.2 fun r hr => ?_⟩
    unfold rowsOf at hr
    rw [List.mem_map] at hr
    obtain ⟨p, hp, rfl⟩ := hr
    obtain ⟨j, hj, e⟩ := List.mem_iff_getElem.1 hp
    have := hup j hj
    rw [show (covPS xs xs.length xs.length).getD j (0, 0) = p by simp [List.getD, hj, e]] at this
    have hin : inW xs.length [(p.1 : Int), (p.2 : Int)] = true := inW_of fun i hi => by
      rcases (by simp at hi; omega : i = 0 ∨ i = 1) with rfl | rfl <;> simp [List.getD] <;> omega
    unfold okPr
    rw [hin]
    simp [List.getD]
    omega
  unfold fcL
  rw [if_pos hok, Int.toNat_natCast]
  have e : (rowsOf (covPS xs xs.length xs.length)).map prOf = covPS xs xs.length xs.length := by
    unfold rowsOf
    rw [List.map_map]
    conv => rhs; rw [← List.map_id (covPS xs xs.length xs.length)]
    exact List.map_congr_left fun p _ => by simp [prOf]
  rw [e, fromL_cov hg]
theorem prI_text {xs : List Int} (hg : good xs = true) : prI (textL xs.length (covPS xs xs.length xs.length)) = some xs := by
  have hl := good_length hg
  have h1 := coversP_length xs
  rw [coversP_yes hg] at h1
  have e : cutL 58 (textL xs.length (covPS xs xs.length xs.length)) = (numL xs.length, restT (covPS xs xs.length xs.length), true) := by
    unfold textL
    rw [List.append_assoc, List.singleton_append, cutL_at (numL_free _ hl.2).1]; rfl
  unfold prI
  rw [e]
  simp only [atoi_numL _ hl.2, (rel_rest h1 (covers_le hg)).1, okFC_rows hg, hg]
  simp
theorem prS_text {xs : List Int} (hg : good xs = true) : prS (textL xs.length (covPS xs xs.length xs.length)) = some xs := by
  have hl := good_length hg
  have h1 := coversP_length xs
  rw [coversP_yes hg] at h1
  have e := split_text (n := xs.length) (ps := covPS xs xs.length xs.length) hl.2 (covers_le hg)
  unfold prS
  rw [e]
  have e1 : selL (([numL xs.length, if (covPS xs xs.length xs.length).length = 0 then [45] else lsT (covPS xs xs.length xs.length) (covPS xs xs.length xs.length).length] : List (List UInt8)).getD 1 []) = some (rowsOf (covPS xs xs.length xs.length)) := (rel_rest h1 (covers_le hg)).2
  have e0 : readL (([numL xs.length, if (covPS xs xs.length xs.length).length = 0 then [45] else lsT (covPS xs xs.length xs.length) (covPS xs xs.length xs.length).length] : List (List UInt8)).getD 0 []) = (xs.length : Int) := readL_numL _ hl.2
  rw [e1]
  simp only [e0, okFC_rows hg, hg]
  simp
theorem prI_some {l : List UInt8} {xs : List Int} (h : prI l = some xs) : good xs = true ∧ textL xs.length (covPS xs xs.length xs.length) = l := by
  unfold prI at h
  split at h
  · split at h
    · rename_i hc
      simp only [Option.some.injEq] at h
      subst h
      simpa using hc
    · cases h
  · cases h
theorem prS_some {l : List UInt8} {xs : List Int} (h : prS l = some xs) : good xs = true ∧ textL xs.length (covPS xs xs.length xs.length) = l := by
  unfold prS at h
  split at h
  · split at h
    · split at h
      · rename_i hc
        simp only [Option.some.injEq] at h
        subst h
        simpa using hc
      · cases h
    · cases h
  · cases h
/-- both read the same -/
theorem prS_eq (l : List UInt8) : prS l = prI l := by
  cases hi : prI l with
  | some xs =>
    obtain ⟨h1, h2⟩ := prI_some hi
    rw [← h2, prS_text h1]
  | none =>
    cases hs : prS l with
    | none => rfl
    | some xs =>
      obtain ⟨h1, h2⟩ := prS_some hs
      rw [← h2, prI_text h1] at hi
      cases hi
end Go.Proofs.YtiodligebnnodaaDoor
