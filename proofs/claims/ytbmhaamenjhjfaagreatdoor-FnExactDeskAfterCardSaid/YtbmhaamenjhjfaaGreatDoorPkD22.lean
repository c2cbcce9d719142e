/- PsM Dsk DskA -/
import Derived.Lib.AtoiAll
import Derived.Lib.Split
import Derived.Lib.IndexMore
import Derived.Test.YtbmhaamenjhjfaaGreatDoorPkD12
import Derived.Test.YtbmhaamenjhjfaaGreatDoorPkD16
import Derived.Test.YtbmhaamenjhjfaaGreatDoorPkD18
import Derived.Test.YtbmhaamenjhjfaaGreatDoorPkD21
namespace Go.Proofs.YtbmhaamenjhjfaaGreatDoor
open Go.RowKit Go.WideShapes Go.ChangeShapes
set_option linter.unusedVariables false
def cutL (c : UInt8) (l : List UInt8) : List UInt8 × List UInt8 × Bool := Lib.cut l [c]
theorem index_no {c : UInt8} {l : List UInt8} (h : c ∉ l) : Lib.index l [c] = -1 := by
  induction l with
  | nil => rfl
  | cons b l ih =>
    simp only [List.mem_cons, not_or] at h
    have e : ([c].isPrefixOf (b :: l)) = false := by simp [List.isPrefixOf, h.1]
    rw [Lib.index, e, ih h.2]; rfl
theorem index_at {c : UInt8} {x : List UInt8} (h : c ∉ x) (y : List UInt8) : Lib.index (x ++ c :: y) [c] = (x.length : Int) := by
  induction x with
  | nil => simp [Lib.index, List.isPrefixOf]
  | cons b x ih =>
    simp only [List.mem_cons, not_or] at h
    have e : ([c].isPrefixOf (b :: (x ++ c :: y))) = false := by simp [List.isPrefixOf, h.1]
    rw [List.cons_append, Lib.index, e, ih h.2]
    have : ((x.length : Int) == -1) = false := by rw [beq_eq_false_iff_ne]; omega
    rw [this]
    simp
theorem cutL_at {c : UInt8} {x : List UInt8} (h : c ∉ x) (y : List UInt8) : cutL c (x ++ c :: y) = (x, y, true) := by
  unfold cutL Lib.cut
  rw [index_at h, if_pos (by omega), Int.toNat_natCast]
  have e1 : (x ++ c :: y).take x.length = x := by simp
  have e2 : (x ++ c :: y).drop (x.length + [c].length) = y := by
    rw [← List.drop_drop]; simp
  rw [e1, e2]
theorem cutL_length (c : UInt8) (l : List UInt8) : (cutL c l).1.length ≤ l.length ∧ (cutL c l).2.1.length ≤ l.length := by
  unfold cutL Lib.cut
  split
  · exact ⟨by simp; omega, by simp⟩
  · exact ⟨Nat.le_refl _, Nat.zero_le _⟩
def splC (l : List UInt8) : List (List UInt8) := Lib.splitK [44] 0 (min 101 (l.length + 1) - 1) l
theorem mem_cut (c : UInt8) (l : List UInt8) : c ∉ l ∨ ∃ x y, l = x ++ c :: y ∧ c ∉ x := by
  induction l with
  | nil => exact .inl (by simp)
  | cons b l ih =>
    by_cases e : b = c
    · subst e; exact .inr ⟨[], l, rfl, by simp⟩
    · rcases ih with h | ⟨x, y, rfl, h⟩
      · exact .inl (by simp [Ne.symm e, h])
      · exact .inr ⟨b :: x, y, rfl, by simp [Ne.symm e, h]⟩
theorem splitK_splR {c : UInt8} (k : Nat) : ∀ l : List UInt8, (splR c l).length ≤ k + 1 → Lib.splitK [c] 0 k l = splR c l := by
  induction k with
  | zero =>
    intro l h
    rcases mem_cut c l with hn | ⟨x, y, rfl, hx⟩
    · rw [splR_no hn]; rfl
    · rw [splR_cons hx, List.length_cons] at h
      have := List.length_pos_iff.2 (splR_ne c y)
      omega
  | succ k ih =>
    intro l h
    rcases mem_cut c l with hn | ⟨x, y, rfl, hx⟩
    · rw [splR_no hn]
      unfold Lib.splitK
      rw [index_no hn]; rfl
    · rw [splR_cons hx] at h ⊢
      rw [List.length_cons] at h
      unfold Lib.splitK
      rw [index_at hx]
      have e0 : ((x.length : Int) == -1) = false := by rw [beq_eq_false_iff_ne]; omega
      rw [e0, Int.toNat_natCast]
      have e1 : (x ++ c :: y).take (x.length + 0) = x := by simp
      have e2 : (x ++ c :: y).drop (x.length + [c].length) = y := by rw [← List.drop_drop]; simp
      rw [e1, e2, ih y (by omega)]
      rfl
theorem splitK_len (sep : List UInt8) (save k : Nat) (hs : save = 0) : ∀ (l : List UInt8), (Lib.splitK sep save k l).length ≤ k + 1 ∧ ∀ p ∈ Lib.splitK sep save k l, p.length ≤ l.length := by
  subst hs
  induction k with
  | zero => intro l; exact ⟨by simp [Lib.splitK], fun p hp => by simp [Lib.splitK] at hp; subst hp; exact Nat.le_refl _⟩
  | succ k ih =>
    intro l
    unfold Lib.splitK
    split
    · exact ⟨by simp, fun p hp => by simp at hp; subst hp; exact Nat.le_refl _⟩
    · obtain ⟨h1, h2⟩ := ih (l.drop ((Lib.index l sep).toNat + sep.length))
      refine ⟨by simp; omega, fun p hp => ?_⟩
      rw [List.mem_cons] at hp
      rcases hp with rfl | hp
      · simp; omega
      · have := h2 p hp
        rw [List.length_drop] at this
        omega
theorem splC_length (l : List UInt8) : (splC l).length ≤ 101 := by
  have := (splitK_len [44] 0 (min 101 (l.length + 1) - 1) rfl l).1
  unfold splC
  omega
theorem splC_part (l : List UInt8) {j : Nat} (hj : j < (splC l).length) : ((splC l).getD j []).length ≤ l.length := by
  refine (splitK_len [44] 0 (min 101 (l.length + 1) - 1) rfl l).2 _ ?_
  show (splC l).getD j [] ∈ splC l
  simp [List.getD, hj]
theorem splR_length (c : UInt8) (l : List UInt8) : (splR c l).length ≤ l.length + 1 := by
  induction l with
  | nil => simp [splR]
  | cons b l ih =>
    unfold splR
    split
    · simp; omega
    · split
      · simp
      · rename_i h t e
        rw [e] at ih
        simp at ih ⊢
        omega
theorem splC_eq {l : List UInt8} (h : (splR 44 l).length ≤ 101) : splC l = splR 44 l := by
  have := splR_length 44 l
  exact splitK_splR _ l (by omega)
theorem atoi_numL (n : Nat) (h : n ≤ 10) : Lib.atoiAll (numL n) = .ok (n : Int) := by
  rcases (by omega : n = 0 ∨ n = 1 ∨ n = 2 ∨ n = 3 ∨ n = 4 ∨ n = 5 ∨ n = 6 ∨ n = 7 ∨ n = 8 ∨ n = 9 ∨ n = 10) with rfl | rfl | rfl | rfl | rfl | rfl | rfl | rfl | rfl | rfl | rfl <;> decide +kernel
def rdP (p : List UInt8) : Option (List Int) := match Lib.atoiAll (cutL 60 p).1, Lib.atoiAll (cutL 60 p).2.1 with
  | .ok x, .ok y => some [x, y]
  | _, _ => none
def relK (ps : List (List UInt8)) : Nat → Option (List (List Int))
  | 0 => some []
  | k + 1 => (relK ps k).bind fun ls => (rdP (ps.getD k [])).map fun r => ls ++ [r]
def relL (l : List UInt8) : Option (List (List Int)) := if l = [45] then some [] else relK (splC l) (splC l).length
def rdS (p : List UInt8) : Option (List Int) := if (splitL 60 p).length = 2 then some [readL ((splitL 60 p).getD 0 []), readL ((splitL 60 p).getD 1 [])] else none
def selK (ps : List (List UInt8)) : Nat → Option (List (List Int))
  | 0 => some []
  | k + 1 => (selK ps k).bind fun ls => if ls.length = 100 then none else (rdS (ps.getD k [])).map fun r => ls ++ [r]
def selL (l : List UInt8) : Option (List (List Int)) := if l = [45] then some [] else selK (splitL 44 l) (splitL 44 l).length
def rowsOf (ps : List (Nat × Nat)) : List (List Int) := ps.map fun p => [(p.1 : Int), (p.2 : Int)]
theorem rdP_pair {p : Nat × Nat} (h1 : p.1 ≤ 10) (h2 : p.2 ≤ 10) : rdP (pairT p) = some [(p.1 : Int), (p.2 : Int)] := by
  have e : cutL 60 (pairT p) = (numL p.1, numL p.2, true) := by
    rw [pairT, List.append_assoc, List.singleton_append, cutL_at (numL_free _ h1).2.2.1]
  unfold rdP
  rw [e]
  simp only [atoi_numL _ h1, atoi_numL _ h2]
theorem rdS_pair {p : Nat × Nat} (h1 : p.1 ≤ 10) (h2 : p.2 ≤ 10) : rdS (pairT p) = some [(p.1 : Int), (p.2 : Int)] := by
  unfold rdS
  rw [split_pair h1 h2]
  simp [List.getD, readL_numL _ h1, readL_numL _ h2]
theorem partsL_getD {ps : List (Nat × Nat)} {k j : Nat} (h : j < k) : (partsL ps k).getD j [] = pairT (ps.getD j (0, 0)) := by simp [partsL, List.getD, h]
theorem rowsOf_take {ps : List (Nat × Nat)} {k : Nat} (hk : k < ps.length) : rowsOf (ps.take (k + 1)) = rowsOf (ps.take k) ++ [[((ps.getD k (0, 0)).1 : Int), ((ps.getD k (0, 0)).2 : Int)]] := by
  unfold rowsOf
  rw [List.take_succ_eq_append_getElem hk, List.map_append]
  simp [List.getD, hk]
theorem relK_parts {ps : List (Nat × Nat)} (hp : ∀ k, k < ps.length → (ps.getD k (0, 0)).1 ≤ 10 ∧ (ps.getD k (0, 0)).2 ≤ 10) (k : Nat) (hk : k ≤ ps.length) : relK (partsL ps ps.length) k = some (rowsOf (ps.take k)) := by
  induction k with
  | zero => rfl
  | succ k ih =>
    obtain ⟨a, b⟩ := hp k (by omega)
    rw [relK, ih (by omega), partsL_getD (by omega), rdP_pair a b, rowsOf_take (by omega)]; rfl
theorem selK_parts {ps : List (Nat × Nat)} (hl : ps.length ≤ 100) (hp : ∀ k, k < ps.length → (ps.getD k (0, 0)).1 ≤ 10 ∧ (ps.getD k (0, 0)).2 ≤ 10) (k : Nat) (hk : k ≤ ps.length) : selK (partsL ps ps.length) k = some (rowsOf (ps.take k)) := by
  induction k with
  | zero => rfl
  | succ k ih =>
    obtain ⟨a, b⟩ := hp k (by omega)
    rw [selK, ih (by omega), partsL_getD (by omega), rdS_pair a b, rowsOf_take (by omega), Option.bind_some, if_neg (by unfold rowsOf; rw [List.length_map, List.length_take]; omega)]; rfl
def restT (ps : List (Nat × Nat)) : List UInt8 := if ps.length = 0 then [45] else lsT ps ps.length
theorem rel_rest {ps : List (Nat × Nat)} (hl : ps.length ≤ 100) (hp : ∀ k, k < ps.length → (ps.getD k (0, 0)).1 ≤ 10 ∧ (ps.getD k (0, 0)).2 ≤ 10) : relL (restT ps) = some (rowsOf ps) ∧ selL (restT ps) = some (rowsOf ps) := by
  unfold restT relL selL
  by_cases h0 : ps.length = 0
  · rw [if_pos h0, if_pos rfl, if_pos rfl]
    have : ps = [] := List.eq_nil_of_length_eq_zero h0
    subst this
    exact ⟨rfl, rfl⟩
  · rw [if_neg h0]
    have hd := lsT_dash (ps := ps) ps.length (by omega)
    rw [if_neg hd, if_neg hd]
    have hs := split_list hp ps.length (by omega) (Nat.le_refl _)
    have hs2 := hs
    rw [splitL_eq] at hs2
    have hc : splC (lsT ps ps.length) = partsL ps ps.length := by rw [splC_eq (by rw [hs2, partsL_length]; omega), hs2]
    rw [hc, hs, partsL_length, relK_parts hp _ (Nat.le_refl _), selK_parts hl hp _ (Nat.le_refl _), List.take_length]
    exact ⟨rfl, rfl⟩
def prI (l : List UInt8) : Option (List Int) := match Lib.atoiAll (cutL 58 l).1, relL (cutL 58 l).2.1 with
  | .ok n, some ls => if (good (fcL n ls) && decide (textL (fcL n ls).length (covPS (fcL n ls) (fcL n ls).length (fcL n ls).length) = l)) = true then some (fcL n ls) else none
  | _, _ => none
def prS (l : List UInt8) : Option (List Int) := if (splitL 58 l).length = 2 then
    match selL ((splitL 58 l).getD 1 []) with
    | some ls => if (good (fcL (readL ((splitL 58 l).getD 0 [])) ls) && decide (textL (fcL (readL ((splitL 58 l).getD 0 [])) ls).length (covPS (fcL (readL ((splitL 58 l).getD 0 [])) ls) (fcL (readL ((splitL 58 l).getD 0 [])) ls).length (fcL (readL ((splitL 58 l).getD 0 [])) ls).length) = l)) = true then some (fcL (readL ((splitL 58 l).getD 0 [])) ls) else none
    | none => none
  else none
theorem covers_le {xs : List Int} (hg : good xs = true) (k : Nat) (hk : k < (covPS xs xs.length xs.length).length) : ((covPS xs xs.length xs.length).getD k (0, 0)).1 ≤ 10 ∧ ((covPS xs xs.length xs.length).getD k (0, 0)).2 ≤ 10 := by
  have h := cover_up hg k hk
  have := (good_length hg).2
  omega
theorem okFC_rows {xs : List Int} (hg : good xs = true) : fcL (xs.length : Int) (rowsOf (covPS xs xs.length xs.length)) = xs := by
  have hl := good_length hg
  have hup := cover_up hg
  have hok : okFC (xs.length : Int) (rowsOf (covPS xs xs.length xs.length)) = true := by
    have h1 := coversP_length xs
    rw [coversP_yes hg] at h1
    unfold okFC
    simp only [Bool.and_eq_true, decide_eq_true_eq, Int.toNat_natCast]
    refine ⟨by omega, by unfold rowsOf; rw [List.length_map]; exact h1, List.all_eq_true.2 fun r hr => ?_⟩
    unfold rowsOf at hr
    rw [List.mem_map] at hr
    obtain ⟨p, hp, rfl⟩ := hr
    obtain ⟨j, hj, e⟩ := List.mem_iff_getElem.1 hp
    have := hup j hj
    rw [show (covPS xs xs.length xs.length).getD j (0, 0) = p by simp [List.getD, hj, e]] at this
    have hin : inW xs.length [(p.1 : Int), (p.2 : Int)] = true := inW_of fun i hi => by
      rcases (by simp at hi; omega : i = 0 ∨ i = 1) with rfl | rfl <;> simp [List.getD] <;> omega
    unfold okPr
    rw [hin]
    simp [List.getD]
    omega
  unfold fcL
  rw [if_pos hok, Int.toNat_natCast]
  have e : (rowsOf (covPS xs xs.length xs.length)).map prOf = covPS xs xs.length xs.length := by
    unfold rowsOf
    rw [List.map_map]
    conv => rhs; rw [← List.map_id (covPS xs xs.length xs.length)]
    exact List.map_congr_left fun p _ => by simp [prOf]
  rw [e, fromL_cov hg]
theorem prI_text {xs : List Int} (hg : good xs = true) : prI (textL xs.length (covPS xs xs.length xs.length)) = some xs := by
  have hl := good_length hg
  have h1 := coversP_length xs
  rw [coversP_yes hg] at h1
  have e : cutL 58 (textL xs.length (covPS xs xs.length xs.length)) = (numL xs.length, restT (covPS xs xs.length xs.length), true) := by
    unfold textL
    rw [List.append_assoc, List.singleton_append, cutL_at (numL_free _ hl.2).1]; rfl
  unfold prI
  rw [e]
  simp only [atoi_numL _ hl.2, (rel_rest h1 (covers_le hg)).1, okFC_rows hg, hg]
  simp
theorem prS_text {xs : List Int} (hg : good xs = true) : prS (textL xs.length (covPS xs xs.length xs.length)) = some xs := by
  have hl := good_length hg
  have h1 := coversP_length xs
  rw [coversP_yes hg] at h1
  have e := split_text (n := xs.length) (ps := covPS xs xs.length xs.length) hl.2 (covers_le hg)
  unfold prS
  rw [e]
  have e1 : selL (([numL xs.length, if (covPS xs xs.length xs.length).length = 0 then [45] else lsT (covPS xs xs.length xs.length) (covPS xs xs.length xs.length).length] : List (List UInt8)).getD 1 []) = some (rowsOf (covPS xs xs.length xs.length)) := (rel_rest h1 (covers_le hg)).2
  have e0 : readL (([numL xs.length, if (covPS xs xs.length xs.length).length = 0 then [45] else lsT (covPS xs xs.length xs.length) (covPS xs xs.length xs.length).length] : List (List UInt8)).getD 0 []) = (xs.length : Int) := readL_numL _ hl.2
  rw [e1]
  simp only [e0, okFC_rows hg, hg]
  simp
theorem prI_some {l : List UInt8} {xs : List Int} (h : prI l = some xs) : good xs = true ∧ textL xs.length (covPS xs xs.length xs.length) = l := by
  unfold prI at h
  split at h
  · split at h
    · rename_i hc
      simp only [Option.some.injEq] at h
      subst h
      simpa using hc
    · cases h
  · cases h
theorem prS_some {l : List UInt8} {xs : List Int} (h : prS l = some xs) : good xs = true ∧ textL xs.length (covPS xs xs.length xs.length) = l := by
  unfold prS at h
  split at h
  · split at h
    · split at h
      · rename_i hc
        simp only [Option.some.injEq] at h
        subst h
        simpa using hc
      · cases h
    · cases h
  · cases h
theorem prS_eq (l : List UInt8) : prS l = prI l := by
  cases hi : prI l with
  | some xs =>
    obtain ⟨h1, h2⟩ := prI_some hi
    rw [← h2, prS_text h1]
  | none =>
    cases hs : prS l with
    | none => rfl
    | some xs =>
      obtain ⟨h1, h2⟩ := prS_some hs
      rw [← h2, prI_text h1] at hi
      cases hi
end Go.Proofs.YtbmhaamenjhjfaaGreatDoor
namespace Go.Proofs.YtbmhaamenjhjfaaGreatDoor
open Go.RowKit Go.WideShapes Go.ChangeShapes
set_option linter.unusedVariables false
def nmD : Nat → List UInt8
  | 1 => [112, 111, 115, 101, 116]
  | 2 => [114, 101, 99, 116, 97, 110, 103, 108, 101]
  | 3 => [115, 116, 97, 105, 114, 115]
  | 4 => [102, 101, 110, 99, 101]
  | 5 => [100, 117, 97, 108]
  | 6 => [116, 97, 107, 101]
  | 7 => [116, 111, 103, 103, 108, 101]
  | 8 => [114, 111, 119]
  | 9 => [98, 97, 99, 107]
  | 10 => [116, 105, 109, 101, 115]
  | 11 => [118, 97, 99, 117, 97, 116, 101]
  | 12 => [103, 121, 114, 97, 116, 101]
  | 13 => [115, 104, 111, 119]
  | 14 => [105, 100, 101, 97, 108]
  | 15 => [115, 105, 122, 101]
  | 16 => [111, 114, 98, 105, 116]
  | 17 => [105, 100, 101, 97, 108, 115]
  | 18 => [111, 114, 100, 101, 114, 115]
  | 19 => [108, 101, 110, 103, 116, 104, 115]
  | 20 => [109, 101, 97, 110]
  | 21 => [101, 118, 101, 110]
  | _ => [32]
def ksD : Nat → List Nat
  | 1 => [1]
  | 2 => [0, 0]
  | 3 => [0]
  | 4 => [0]
  | 6 => [0]
  | 7 => [0]
  | 10 => [0]
  | _ => []
def sfx : List Nat → List UInt8
  | [] => []
  | k :: r => 32 :: (if k = 0 then 78 else 80) :: sfx r
def fmD (c : Nat) : List UInt8 := nmD c ++ sfx (ksD c)
def ixD (l : List UInt8) : Nat := ((List.range 22).find? fun c => decide (nmD c = l)).getD 0
theorem nmD_inj : ∀ a : Fin 22, ∀ b : Fin 22, nmD a.val = nmD b.val → a = b := by decide +kernel
theorem nmD_free : ∀ a : Fin 22, 1 ≤ a.val → (32 : UInt8) ∉ nmD a.val := by decide +kernel
theorem ixD_nm {c : Nat} (h : c < 22) : ixD (nmD c) = c := by
  unfold ixD
  cases hf : (List.range 22).find? fun d => decide (nmD d = nmD c) with
  | none =>
    have := List.find?_eq_none.1 hf c (List.mem_range.2 h)
    simp at this
  | some d =>
    have h1 := List.find?_some hf
    have h2 := List.mem_range.1 (List.mem_of_find?_eq_some hf)
    have := nmD_inj ⟨d, h2⟩ ⟨c, h⟩ (by simpa using h1)
    simpa using congrArg Fin.val this
theorem ixD_lt (l : List UInt8) : ixD l < 22 := by
  unfold ixD
  cases hf : (List.range 22).find? fun d => decide (nmD d = l) with
  | none => decide
  | some d => exact List.mem_range.1 (List.mem_of_find?_eq_some hf)
theorem ixD_at {l : List UInt8} (h : ixD l ≠ 0) : nmD (ixD l) = l := by
  unfold ixD at h ⊢
  cases hf : (List.range 22).find? fun d => decide (nmD d = l) with
  | none => rw [hf] at h; exact absurd rfl h
  | some d => simpa using List.find?_some hf
theorem ixD_zero {l : List UInt8} (hf : (32 : UInt8) ∉ l) (c : Nat) (hc : c < 22) (h : ixD l = 0) : l ≠ nmD c := by
  intro e
  have := ixD_nm hc
  rw [← e, h] at this
  subst this
  rw [e] at hf
  exact hf (by decide)
def kdW (t : List UInt8) : Nat := if 0 ≤ readL t then 0 else if (prI t).isSome then 1 else 2
theorem kdW_num {t : List UInt8} (h : 0 ≤ readL t) : kdW t = 0 := if_pos h
theorem kdW_pos {t : List UInt8} (h : readL t < 0) {q : List Int} (hq : prI t = some q) : kdW t = 1 := by
  unfold kdW; rw [if_neg (by omega), hq]; rfl
theorem kdW_none {t : List UInt8} (h : readL t < 0) (hq : prI t = none) : kdW t = 2 := by
  unfold kdW; rw [if_neg (by omega), hq]; rfl
theorem prI_num {t : List UInt8} {q : List Int} (h : prI t = some q) : readL t = -1 := by
  cases hr : readOk t
  · exact readL_no hr
  · obtain ⟨-, e⟩ := prI_some h
    have ha := (readOk_iff.1 hr).2.2
    have hm : (58 : UInt8) ∈ t := by rw [← e]; unfold textL; simp
    have := List.all_eq_true.1 ha 58 hm
    exact absurd this (by decide)
def rqK (w0 : List UInt8) (ts : List (List UInt8)) : Nat → Option (List UInt8 × List Int × List Int)
  | 0 => some (w0, [], [])
  | k + 1 => match rqK w0 ts k with
    | none => none
    | some (f, ns, p) => if 0 ≤ readL (ts.getD k []) then some (f ++ [32, 78], ns ++ [readL (ts.getD k [])], p) else
      match prI (ts.getD k []) with
      | some q => some (f ++ [32, 80], ns, q)
      | none => none
def rmK (ks : List Nat) (ts : List (List UInt8)) : Nat → Option (List Int × List Int)
  | 0 => some ([], [])
  | k + 1 => match rmK ks ts k with
    | none => none
    | some (ns, p) => if ks.getD k 2 = 0 then (if 0 ≤ readL (ts.getD k []) then some (ns ++ [readL (ts.getD k [])], p) else none)
      else if ks.getD k 2 = 1 then (match prI (ts.getD k []) with | some q => some (ns, q) | none => none) else none
def vlK (ts : List (List UInt8)) : Nat → List Int × List Int
  | 0 => ([], [])
  | k + 1 => if 0 ≤ readL (ts.getD k []) then ((vlK ts k).1 ++ [readL (ts.getD k [])], (vlK ts k).2) else ((vlK ts k).1, (prI (ts.getD k [])).getD [])
def kdK (ts : List (List UInt8)) (k : Nat) : List Nat := (List.range k).map fun j => kdW (ts.getD j [])
theorem kdK_succ (ts : List (List UInt8)) (k : Nat) : kdK ts (k + 1) = kdK ts k ++ [kdW (ts.getD k [])] := by simp [kdK, List.range_succ]
theorem kdK_length (ts : List (List UInt8)) (k : Nat) : (kdK ts k).length = k := by simp [kdK]
theorem sfx_app (a b : List Nat) : sfx (a ++ b) = sfx a ++ sfx b := by
  induction a with
  | nil => rfl
  | cons x a ih => simp [sfx, ih]
theorem rqK_val (w0 : List UInt8) (ts : List (List UInt8)) (k : Nat) : rqK w0 ts k = if (2 : Nat) ∈ kdK ts k then none else some (w0 ++ sfx (kdK ts k), (vlK ts k).1, (vlK ts k).2) := by
  induction k with
  | zero => simp [rqK, kdK, sfx, vlK]
  | succ k ih =>
    rw [rqK, ih, kdK_succ, vlK]
    by_cases h2 : (2 : Nat) ∈ kdK ts k
    · rw [if_pos h2, if_pos (by simp [h2])]
    · rw [if_neg h2]
      simp only []
      by_cases h0 : 0 ≤ readL (ts.getD k [])
      · rw [if_pos h0, kdW_num h0, if_neg (by simp [h2]), if_pos h0, sfx_app, List.append_assoc]
        rfl
      · rw [if_neg h0, if_neg h0]
        cases hp : prI (ts.getD k []) with
        | none => rw [kdW_none (by omega) hp, if_pos (by simp)]
        | some q => rw [kdW_pos (by omega) hp, if_neg (by simp [h2]), sfx_app, List.append_assoc]; rfl
theorem rmK_val {ks : List Nat} (ts : List (List UInt8)) (hks : ∀ x ∈ ks, x = 0 ∨ x = 1) (k : Nat) (hk : k ≤ ks.length) : rmK ks ts k = if kdK ts k = ks.take k then some ((vlK ts k).1, (vlK ts k).2) else none := by
  induction k with
  | zero => simp [rmK, kdK, vlK]
  | succ k ih =>
    have hlt : k < ks.length := by omega
    have e : ks.take (k + 1) = ks.take k ++ [ks[k]] := by rw [List.take_add_one, List.getElem?_eq_getElem hlt]; rfl
    have e2 : ks.getD k 2 = ks[k] := by simp [List.getD, hlt]
    have hin : (kdK ts k ++ [kdW (ts.getD k [])] = ks.take k ++ [ks[k]]) ↔ (kdK ts k = ks.take k ∧ kdW (ts.getD k []) = ks[k]) := by
      constructor
      · intro h
        have := List.append_inj h (by rw [kdK_length, List.length_take]; omega)
        exact ⟨this.1, by simpa using this.2⟩
      · rintro ⟨h1, h2⟩; rw [h1, h2]
    rw [rmK, ih (by omega), kdK_succ, vlK, e, e2]
    by_cases h1 : kdK ts k = ks.take k
    · rw [if_pos h1]
      simp only []
      rcases hks _ (List.getElem_mem hlt) with h | h
      · rw [if_pos h]
        by_cases h0 : 0 ≤ readL (ts.getD k [])
        · rw [if_pos h0, if_pos h0, if_pos (hin.2 ⟨h1, by rw [kdW_num h0, h]⟩)]
        · rw [if_neg h0, if_neg (fun h5 => by
            have h6 := (hin.1 h5).2
            rw [h] at h6
            unfold kdW at h6
            rw [if_neg h0] at h6
            split at h6 <;> omega)]
      · rw [if_neg (by omega), if_pos h]
        cases hp : prI (ts.getD k []) with
        | none =>
          rw [if_neg (fun h5 => by
            have h6 := (hin.1 h5).2
            rw [h] at h6
            unfold kdW at h6
            rw [hp] at h6
            split at h6
            · omega
            · simp at h6)]
        | some q =>
          have hn := prI_num hp
          rw [if_pos (hin.2 ⟨h1, by rw [kdW_pos (by omega) hp, h]⟩), if_neg (by omega)]
          rfl
    · rw [if_neg h1, if_neg (fun h => h1 (hin.1 h).1)]
theorem ksD_01 (c : Nat) : ∀ x ∈ ksD c, x = 0 ∨ x = 1 := by
  unfold ksD
  split <;> simp
theorem free_cut {a b s t : List UInt8} (ha : (32 : UInt8) ∉ a) (hb : (32 : UInt8) ∉ b) (hs : s = [] ∨ ∃ r, s = 32 :: r) (ht : t = [] ∨ ∃ r, t = 32 :: r) (h : a ++ s = b ++ t) : a = b ∧ s = t := by
  have key : ∀ {x y : List UInt8}, (32 : UInt8) ∉ x → (y = [] ∨ ∃ r, y = 32 :: r) → (x ++ y).takeWhile (· != 32) = x := by
    intro x y hx hy
    have h1 : x.takeWhile (· != 32) = x := by
      clear hy
      induction x with
      | nil => rfl
      | cons c x ih =>
        simp only [List.mem_cons, not_or] at hx
        rw [List.takeWhile_cons, if_pos (by simp; exact fun e => hx.1 e.symm), ih hx.2]
    rw [List.takeWhile_append, if_pos (by rw [h1])]
    rcases hy with rfl | ⟨r, rfl⟩
    · simp
    · simp
  have e1 := key ha hs
  have e2 := key hb ht
  rw [h] at e1
  have e : a = b := e1.symm.trans e2
  refine ⟨e, ?_⟩
  rw [e] at h
  exact List.append_cancel_left h
theorem sfx_head (ks : List Nat) : sfx ks = [] ∨ ∃ r, sfx ks = 32 :: r := by
  cases ks with
  | nil => exact .inl rfl
  | cons k r => exact .inr ⟨_, rfl⟩
theorem sfx_inj : ∀ {a b : List Nat}, (∀ x ∈ a, x = 0 ∨ x = 1) → (∀ x ∈ b, x = 0 ∨ x = 1) → sfx a = sfx b → a = b
  | [], [], _, _, _ => rfl
  | [], _ :: _, _, _, h => by simp [sfx] at h
  | _ :: _, [], _, _, h => by simp [sfx] at h
  | x :: a, y :: b, ha, hb, h => by
    simp only [sfx, List.cons.injEq, true_and] at h
    have h1 := sfx_inj (fun z hz => ha z (by simp [hz])) (fun z hz => hb z (by simp [hz])) h.2
    have h2 : x = y := by
      have := h.1
      rcases ha x (by simp) with rfl | rfl <;> rcases hb y (by simp) with rfl | rfl <;> first | rfl | (revert this; decide)
    rw [h1, h2]
theorem kdW_le (t : List UInt8) : kdW t ≤ 2 := by unfold kdW; split <;> (try split) <;> omega
theorem kdK_01 {ts : List (List UInt8)} {k : Nat} (h : (2 : Nat) ∉ kdK ts k) : ∀ x ∈ kdK ts k, x = 0 ∨ x = 1 := by
  intro x hx
  have h1 : x ≤ 2 := by
    obtain ⟨j, -, rfl⟩ := List.mem_map.1 hx
    exact kdW_le _
  have h2 : x ≠ 2 := fun e => h (e ▸ hx)
  omega
theorem form_iff {w0 : List UInt8} {ts : List (List UInt8)} {k c : Nat} (hw : (32 : UInt8) ∉ w0) (h2 : (2 : Nat) ∉ kdK ts k) (hc1 : 1 ≤ c) (hc : c < 22) : w0 ++ sfx (kdK ts k) = fmD c ↔ (w0 = nmD c ∧ kdK ts k = ksD c) := by
  constructor
  · intro h
    obtain ⟨e1, e2⟩ := free_cut hw (nmD_free ⟨c, hc⟩ hc1) (sfx_head _) (sfx_head _) h
    exact ⟨e1, sfx_inj (kdK_01 h2) (ksD_01 c) e2⟩
  · rintro ⟨e1, e2⟩; rw [e1, e2]; rfl
def rdD (w0 : List UInt8) (ts : List (List UInt8)) : Option (Nat × List Int × List Int) :=
  if ixD w0 ≠ 0 ∧ kdK ts ts.length = ksD (ixD w0) then some (ixD w0, (vlK ts ts.length).1, (vlK ts ts.length).2) else none
theorem rdD_model {w0 : List UInt8} {ts : List (List UInt8)} (hc : ixD w0 ≠ 0) (hl : (ksD (ixD w0)).length = ts.length) : (rmK (ksD (ixD w0)) ts ts.length).map (fun x => (ixD w0, x.1, x.2)) = rdD w0 ts := by
  rw [rmK_val ts (ksD_01 _) ts.length (by omega), show (ksD (ixD w0)).take ts.length = ksD (ixD w0) from List.take_of_length_le (by omega)]
  unfold rdD
  by_cases h : kdK ts ts.length = ksD (ixD w0)
  · rw [if_pos h, if_pos ⟨hc, h⟩]; rfl
  · rw [if_neg h, if_neg (fun x => h x.2)]; rfl
theorem rdD_long {w0 : List UInt8} {ts : List (List UInt8)} (h : (ksD (ixD w0)).length ≠ ts.length) : rdD w0 ts = none := by
  unfold rdD
  rw [if_neg]
  rintro ⟨-, e⟩
  rw [← e, kdK_length] at h
  exact h rfl
theorem rdD_zero {w0 : List UInt8} {ts : List (List UInt8)} (h : ixD w0 = 0) : rdD w0 ts = none := by
  unfold rdD; rw [if_neg (fun x => x.1 h)]
theorem rdD_prog_none {w0 : List UInt8} {ts : List (List UInt8)} (h : rqK w0 ts ts.length = none) : rdD w0 ts = none := by
  rw [rqK_val] at h
  by_cases h2 : (2 : Nat) ∈ kdK ts ts.length
  · unfold rdD
    rw [if_neg]
    rintro ⟨-, e⟩
    rw [e] at h2
    have := ksD_01 _ 2 h2
    omega
  · rw [if_neg h2] at h; cases h
theorem rdD_prog_some {w0 f : List UInt8} {ts : List (List UInt8)} {ns p : List Int} (hw : (32 : UInt8) ∉ w0) (h : rqK w0 ts ts.length = some (f, ns, p)) :
    (∃ c, 1 ≤ c ∧ c < 22 ∧ f = fmD c ∧ rdD w0 ts = some (c, ns, p) ∧ ns.length ≤ ts.length ∧ ts.length = (ksD c).length ∧ ((ksD c).all (· == 0) = true → ns.length = (ksD c).length)) ∨ ((∀ c, 1 ≤ c → c < 22 → f ≠ fmD c) ∧ rdD w0 ts = none) := by
  rw [rqK_val] at h
  by_cases h2 : (2 : Nat) ∈ kdK ts ts.length
  · rw [if_pos h2] at h; cases h
  rw [if_neg h2] at h
  simp only [Option.some.injEq, Prod.mk.injEq] at h
  obtain ⟨rfl, rfl, rfl⟩ := h
  have hns : ∀ k, ((vlK ts k).1).length ≤ k ∧ ((kdK ts k).all (· == 0) = true → ((vlK ts k).1).length = k) := by
    intro k
    induction k with
    | zero => simp [vlK]
    | succ k ih =>
      rw [vlK, kdK_succ]
      by_cases h0 : 0 ≤ readL (ts.getD k [])
      · rw [if_pos h0]
        refine ⟨by simp; omega, fun h => ?_⟩
        rw [List.all_append, Bool.and_eq_true] at h
        simp [ih.2 h.1]
      · rw [if_neg h0]
        refine ⟨by simp; omega, fun h => ?_⟩
        rw [List.all_append, Bool.and_eq_true] at h
        have h3 := h.2
        unfold kdW at h3
        rw [if_neg h0] at h3
        exfalso
        split at h3 <;> simp at h3
  by_cases hx : ∃ c, 1 ≤ c ∧ c < 22 ∧ w0 ++ sfx (kdK ts ts.length) = fmD c
  · obtain ⟨c, h1, h3, h4⟩ := hx
    obtain ⟨e1, e2⟩ := (form_iff hw h2 h1 h3).1 h4
    have ei : ixD w0 = c := by rw [e1]; exact ixD_nm h3
    have hl : ts.length = (ksD c).length := by rw [← e2, kdK_length]
    refine .inl ⟨c, h1, h3, h4, ?_, (hns _).1, hl, fun ha => ?_⟩
    · unfold rdD
      rw [ei, if_pos ⟨by omega, e2⟩]
    · rw [← e2] at ha ⊢
      rw [kdK_length]
      exact (hns _).2 ha
  · refine .inr ⟨fun c h1 h3 h4 => hx ⟨c, h1, h3, h4⟩, ?_⟩
    unfold rdD
    rw [if_neg]
    rintro ⟨h5, h6⟩
    have hl := ixD_lt w0
    exact hx ⟨ixD w0, by omega, hl, (form_iff hw h2 (by omega) hl).2 ⟨(ixD_at h5).symm, h6⟩⟩
theorem vlK_bound (ts : List (List UInt8)) (k : Nat) : ∀ x ∈ (vlK ts k).1, 0 ≤ x ∧ x ≤ 999999 := by
  induction k with
  | zero => simp [vlK]
  | succ k ih =>
    rw [vlK]
    by_cases h0 : 0 ≤ readL (ts.getD k [])
    · rw [if_pos h0]
      intro x hx
      rcases List.mem_append.1 hx with h | h
      · exact ih x h
      · obtain rfl : x = readL (ts.getD k []) := by simpa using h
        exact ⟨h0, (readL_atoi h0).2⟩
    · rw [if_neg h0]; exact ih
theorem rdD_fits {w0 : List UInt8} {ts : List (List UInt8)} {c : Nat} {ns p : List Int} (h : rdD w0 ts = some (c, ns, p)) :
    1 ≤ c ∧ c < 22 ∧ w0 = nmD c ∧ (∀ x ∈ ns, 0 ≤ x ∧ x ≤ 999999) ∧ (c ≠ 1 → ns.length = (ksD c).length) ∧ (c = 1 → good p = true) := by
  unfold rdD at h
  by_cases hc : ixD w0 ≠ 0 ∧ kdK ts ts.length = ksD (ixD w0)
  · rw [if_pos hc] at h
    simp only [Option.some.injEq, Prod.mk.injEq] at h
    obtain ⟨rfl, rfl, rfl⟩ := h
    have hk := hc.2
    have hl : ts.length = (ksD (ixD w0)).length := by rw [← hk, kdK_length]
    refine ⟨by omega, ixD_lt _, (ixD_at hc.1).symm, vlK_bound ts _, fun h1 => ?_, fun h1 => ?_⟩
    · have key : ∀ k, (kdK ts k).all (· == 0) = true → ((vlK ts k).1).length = k := by
        intro k
        induction k with
        | zero => simp [vlK]
        | succ k ih =>
          intro h
          rw [kdK_succ, List.all_append, Bool.and_eq_true] at h
          have h0 : 0 ≤ readL (ts.getD k []) := by
            by_cases h0 : 0 ≤ readL (ts.getD k [])
            · exact h0
            · have h3 := h.2
              unfold kdW at h3
              rw [if_neg h0] at h3
              exfalso
              split at h3 <;> simp at h3
          rw [vlK, if_pos h0]
          simp [ih h.1]
      have ha : ∀ c : Fin 22, c.val ≠ 1 → (ksD c.val).all (· == 0) = true := by decide +kernel
      rw [key ts.length (by rw [hk]; exact ha ⟨ixD w0, ixD_lt _⟩ h1), hl]
    · rw [h1] at hk hl
      have hl1 : ts.length = 1 := hl
      rw [hl1] at hk ⊢
      have hk0 : kdW (ts.getD 0 []) = 1 := by
        have : kdK ts 1 = [kdW (ts.getD 0 [])] := rfl
        rw [this] at hk
        have e1 : ksD 1 = [1] := rfl
        rw [e1] at hk
        simpa using hk
      unfold kdW at hk0
      by_cases h0 : 0 ≤ readL (ts.getD 0 [])
      · rw [if_pos h0] at hk0; omega
      · rw [if_neg h0] at hk0
        show good (vlK ts 1).2 = true
        rw [vlK, if_neg h0]
        cases hp : prI (ts.getD 0 []) with
        | none => rw [hp] at hk0; simp at hk0
        | some q => exact (prI_some hp).1
  · rw [if_neg hc] at h; cases h
end Go.Proofs.YtbmhaamenjhjfaaGreatDoor
namespace Go.Proofs.YtbmhaamenjhjfaaGreatDoor
open Go.RowKit Go.WideShapes Go.ChangeShapes
set_option linter.unusedVariables false
def numT (x : Int) : List UInt8 := decD x.toNat
def lisN (ls : List Int) : Nat → List UInt8
  | 0 => []
  | k + 1 => (if k = 0 then [] else lisN ls k ++ [44]) ++ numT (ls.getD k 0)
def lisT (ls : List Int) : List UInt8 := lisN ls ls.length
def stdD (p : List Int) (b : Bool) : Option (List Int × Int × List UInt8) := if b then some (p, 0, ansTX p) else none
def putD (xs : List Int) (s : Int) (b : Bool) : Option (List Int × Int × List UInt8) := if b then some (xs, s, numT s) else none
def actD (c : Nat) (ns p xs : List Int) (s : Int) : Option (List Int × Int × List UInt8) := match c with
  | 1 => stdD p true
  | 2 => stdD (rectL (ns.getD 0 0) (ns.getD 1 0)) (sides (ns.getD 0 0) (ns.getD 1 0))
  | 3 => stdD (stcL (ns.getD 0 0)) (decide (1 ≤ ns.getD 0 0) && decide (ns.getD 0 0 ≤ 4))
  | 4 => stdD (fenceL (ns.getD 0 0)) (decide (1 ≤ ns.getD 0 0) && decide (ns.getD 0 0 ≤ 10))
  | 5 => some (dualL xs, ansDU xs s id, ansTX (dualL xs))
  | 6 => putD xs (ns.getD 0 0) (okIdeal xs (ns.getD 0 0))
  | 7 => putD xs (ansTW xs [ns.getD 0 0] s) (okTW xs [ns.getD 0 0] s)
  | 8 => putD xs (ansRow xs s rowmo) true
  | 9 => putD xs (ansRow xs s rowba) true
  | 10 => putD xs (ansRT xs s (ns.getD 0 0)) (okRT xs s (ns.getD 0 0))
  | 11 => putD xs (ansSW wVac xs s) (okRI xs s)
  | 12 => putD xs (ansSW wGyr xs s) (okRI xs s)
  | 13 => some (xs, s, ansTX xs)
  | 14 => some (xs, s, numT s)
  | 15 => some (xs, s, numT (ansSz xs s))
  | 16 => some (xs, s, lisT (ansOO xs s))
  | 17 => some (xs, s, numT ((idealsL xs).length : Int))
  | 18 => some (xs, s, numT (ansN xs ordersN))
  | 19 => some (xs, s, lisT (ansOL xs))
  | 20 => some (xs, s, (numT (ansMU xs) ++ [47]) ++ numT (ansMD xs))
  | 21 => some (xs, s, if ansSizeIsEven xs then [121, 101, 115] else [117, 110, 108, 105, 107, 101])
  | _ => none
def wdD (l : List UInt8) : List (List UInt8) := splitL 32 l
def w0D (l : List UInt8) : List UInt8 := (wdD l).getD 0 []
def tsD (l : List UInt8) : List (List UInt8) := (wdD l).drop 1
def lnD (l : List UInt8) : Option (Nat × List Int × List Int) := rdD (w0D l) (tsD l)
def stepD (xs : List Int) (s : Int) (l : List UInt8) : List Int × Int × List UInt8 × Nat := match lnD l with
  | none => (xs, s, [119, 104, 97, 116], 2)
  | some (c, ns, p) => match actD c ns p xs s with
    | none => (xs, s, [110, 111], 1)
    | some (xs', s', t) => (xs', s', t, 0)
def heads (t : List UInt8) : Bool := match t with
  | [] => false
  | c :: _ => isDig c || c == 121 || c == 117
theorem heads_app {t : List UInt8} (h : heads t = true) (r : List UInt8) : heads (t ++ r) = true := by
  cases t with
  | nil => cases h
  | cons c t => exact h
theorem decD_heads (n : Nat) : heads (decD n) = true := by
  have h1 := decD_ne n
  have h2 := decD_dig n
  cases h : decD n with
  | nil => rw [h] at h1; simp at h1
  | cons c t =>
    rw [h] at h2
    simp only [List.all_cons, Bool.and_eq_true] at h2
    simp [heads, h2.1]
theorem textL_heads {n : Nat} (hn : n ≤ 10) (ps : List (Nat × Nat)) : heads (textL n ps) = true := by
  unfold textL
  rw [List.append_assoc]
  refine heads_app ?_ _
  rw [numL_dec hn]
  exact decD_heads n
theorem ansTX_heads {xs : List Int} (hg : good xs = true) : heads (ansTX xs) = true := by
  rw [ansTX_yes hg]; exact textL_heads (good_length hg).2 _
theorem lisN_heads (ls : List Int) : ∀ k, 1 ≤ k → heads (lisN ls k) = true := by
  intro k
  induction k with
  | zero => intro h; omega
  | succ k ih =>
    intro _
    rw [lisN]
    rcases Nat.eq_zero_or_pos k with rfl | hk
    · rw [if_pos rfl, List.nil_append]; exact decD_heads _
    · rw [if_neg (by omega), List.append_assoc]; exact heads_app (ih hk) _
theorem okTW_partsD {xs ys : List Int} {s : Int} (h : okTW xs ys s = true) : okIdeal xs s = true ∧ okWord xs ys = true := by simpa [okTW] using h
theorem okIdD {xs : List Int} {z : Nat} (hg : good xs = true) (hz : z < 2 ^ xs.length) (hi : holdsIdeal xs z = true) : okIdeal xs (z : Int) = true := by
  rw [okIdeal, okSet_nat hg hz, Int.toNat_natCast, hi]; rfl
theorem okId_zero {xs : List Int} (hg : good xs = true) : okIdeal xs 0 = true := okIdD (z := 0) hg (Nat.two_pow_pos _) (zero_ideal xs)
theorem iterD_ideal {xs : List Int} {f : Nat → Nat} (hf : ∀ s, holdsIdeal xs (f s) = true) {s : Nat} (hs : holdsIdeal xs s = true) : ∀ k, holdsIdeal xs (iter f k s) = true := by
  intro k
  induction k generalizing s with
  | zero => exact hs
  | succ k ih => exact hf _
theorem rectD_good {a b : Int} (h : sides a b = true) : good (rectL a b) = true := by
  have h' := h
  unfold sides at h
  simp only [Bool.and_eq_true, decide_eq_true_eq] at h
  obtain ⟨⟨h1, h2⟩, ⟨h3, h4⟩, h5⟩ := h
  obtain ⟨x, rfl⟩ := Int.eq_ofNat_of_zero_le (show 0 ≤ a by omega)
  obtain ⟨y, rfl⟩ := Int.eq_ofNat_of_zero_le (show 0 ≤ b by omega)
  unfold rectL
  rw [if_pos h']
  have h6 : x * y ≤ 10 := by
    have : ((x * y : Nat) : Int) ≤ 10 := by rw [Int.natCast_mul]; exact h5
    omega
  exact rectGood (by omega) (by omega) (by omega) (by omega) h6
theorem stcD_good {n : Int} (h : (decide (1 ≤ n) && decide (n ≤ 4)) = true) : good (stcL n) = true := by
  simp only [Bool.and_eq_true, decide_eq_true_eq] at h
  obtain ⟨m, rfl⟩ := Int.eq_ofNat_of_zero_le (show 0 ≤ n by omega)
  exact (kn_st m (by omega) (by omega)).2.2
theorem fenceD_good {n : Int} (h : (decide (1 ≤ n) && decide (n ≤ 10)) = true) : good (fenceL n) = true := by
  simp only [Bool.and_eq_true, decide_eq_true_eq] at h
  obtain ⟨m, rfl⟩ := Int.eq_ofNat_of_zero_le (show 0 ≤ n by omega)
  exact (kn_fe m (by omega) (by omega)).2
theorem numT_heads (x : Int) : heads (numT x) = true := decD_heads _
theorem reach {xs : List Int} {s : Int} (h : okIdeal xs s = true) :
    okIdeal xs (ansRow xs s rowmo) = true ∧ okIdeal xs (ansRow xs s rowba) = true ∧ (∀ e, okTW xs [e] s = true → okIdeal xs (ansTW xs [e] s) = true) ∧ (∀ k, okRT xs s k = true → okIdeal xs (ansRT xs s k) = true) ∧
      (∀ f, (∀ h, inW (h + 1) (f h) = true) → okRI xs s = true → okIdeal xs (ansSW f xs s) = true) ∧ okIdeal (dualL xs) (ansDU xs s id) = true := by
  obtain ⟨z, rfl, hg, hz, hi⟩ := okIdeal_all h
  refine ⟨?_, ?_, fun e he => ?_, fun k hk => ?_, fun f hf hr => ?_, ?_⟩
  · rw [ansRow_yes h]; exact okIdD hg (rowmo_lt hg z) (rowmo_ideal hg z)
  · rw [ansRow_yes h]; exact okIdD hg (rowba_lt xs z) (rowba_ideal hg z)
  · rw [ansTW_yes he]
    have hw := (okTW_partsD he).2
    rw [okWord, Bool.and_eq_true] at hw
    exact okIdD hg (togW_lt hz hw.2) (togW_ideal hi)
  · unfold ansRT
    rw [if_pos hk, Int.toNat_natCast]
    unfold rowKt
    split
    · exact okIdD hg (iter_lt (fun s _ => rowmo_lt hg s) hz _) (iterD_ideal (rowmo_ideal hg) hi _)
    · exact okIdD hg (iter_lt (fun s _ => rowba_lt xs s) hz _) (iterD_ideal (rowba_ideal hg) hi _)
  · obtain ⟨h', hh, -⟩ := rkN_some hg
    rw [ansSW_yes hr hh]
    have hin : inW (rkN xs) (f h') = true := by rw [hh]; exact hf h'
    exact okIdD hg (togW_lt hz (inW_rkW hg hin)) (togW_ideal hi)
  · rw [ansDU_yes h]; exact duN_ok hg hi
theorem lensD_ne {xs : List Int} (hg : good xs = true) : lensXs xs ≠ [] := by
  rw [lensXs_starts]
  intro h
  have h0 : 0 < (idsXs xs).length := (idsXs_length hg).1
  have hs := startsN_seen (rowMov hg) (idsXs_D xs) (Nat.le_refl _) h0
  have he : startsN (rowmo xs) (2 ^ xs.length) (idsXs xs) (idsXs xs).length = [] := by
    have := List.map_eq_nil_iff.1 h
    exact this
  rw [he] at hs
  cases hs
theorem stdD_inv {p : List Int} {b : Bool} {xs' : List Int} {s' : Int} {t : List UInt8} (hb : b = true → good p = true) (h : stdD p b = some (xs', s', t)) : okIdeal xs' s' = true ∧ heads t = true := by
  unfold stdD at h
  cases b
  · simp at h
  · simp only [if_true, Option.some.injEq, Prod.mk.injEq] at h
    obtain ⟨rfl, rfl, rfl⟩ := h
    exact ⟨okId_zero (hb rfl), ansTX_heads (hb rfl)⟩
theorem putD_inv {xs : List Int} {r : Int} {b : Bool} {xs' : List Int} {s' : Int} {t : List UInt8} (hb : b = true → okIdeal xs r = true) (h : putD xs r b = some (xs', s', t)) : okIdeal xs' s' = true ∧ heads t = true := by
  unfold putD at h
  cases b
  · simp at h
  · simp only [if_true, Option.some.injEq, Prod.mk.injEq] at h
    obtain ⟨rfl, rfl, rfl⟩ := h
    exact ⟨hb rfl, numT_heads _⟩
theorem someD_inv {xs : List Int} {s : Int} {r : List UInt8} {xs' : List Int} {s' : Int} {t : List UInt8} (hi : okIdeal xs s = true) (hr : heads r = true) (h : some (xs, s, r) = some (xs', s', t)) : okIdeal xs' s' = true ∧ heads t = true := by
  simp only [Option.some.injEq, Prod.mk.injEq] at h
  obtain ⟨rfl, rfl, rfl⟩ := h
  exact ⟨hi, hr⟩
theorem actD_inv {c : Nat} {ns p xs : List Int} {s : Int} (h : okIdeal xs s = true) (hp : c = 1 → good p = true) {xs' : List Int} {s' : Int} {t : List UInt8} (ha : actD c ns p xs s = some (xs', s', t)) : okIdeal xs' s' = true ∧ heads t = true := by
  obtain ⟨r1, r2, r3, r4, r5, r6⟩ := reach h
  obtain ⟨z, e, hg, hz, hi⟩ := okIdeal_all h
  unfold actD at ha
  split at ha
  · exact stdD_inv (fun _ => hp rfl) ha
  · exact stdD_inv (fun h => rectD_good h) ha
  · exact stdD_inv (fun h => stcD_good h) ha
  · exact stdD_inv (fun h => fenceD_good h) ha
  · exact someD_inv r6 (ansTX_heads (dualD_good hg)) ha
  · exact putD_inv (fun h => h) ha
  · exact putD_inv (fun h => r3 _ h) ha
  · exact putD_inv (fun _ => r1) ha
  · exact putD_inv (fun _ => r2) ha
  · exact putD_inv (fun h => r4 _ h) ha
  · exact putD_inv (fun h => r5 _ (fun _ => inW_wVac (by omega)) h) ha
  · exact putD_inv (fun h => r5 _ (fun _ => inW_wGyr (by omega)) h) ha
  · exact someD_inv h (ansTX_heads hg) ha
  · exact someD_inv h (numT_heads _) ha
  · exact someD_inv h (numT_heads _) ha
  · refine someD_inv h (lisN_heads _ _ ?_) ha
    unfold ansOO
    rw [if_pos h, e, Int.toNat_natCast]
    exact (orbXs_length hg (idB_iff.2 ⟨hz, hi⟩)).1
  · exact someD_inv h (numT_heads _) ha
  · exact someD_inv h (numT_heads _) ha
  · refine someD_inv h (lisN_heads _ _ ?_) ha
    unfold ansOL
    rw [if_pos hg]
    exact List.length_pos_iff.2 (lensD_ne hg)
  · exact someD_inv h (by rw [List.append_assoc]; exact heads_app (numT_heads _) _) ha
  · refine someD_inv h ?_ ha
    split <;> decide
  · cases ha
theorem stepD_inv {xs : List Int} {s : Int} (l : List UInt8) (h : okIdeal xs s = true) : okIdeal (stepD xs s l).1 (stepD xs s l).2.1 = true ∧
    (((stepD xs s l).2.2.2 = 0 ∧ heads (stepD xs s l).2.2.1 = true) ∨ ((stepD xs s l).2.2.2 = 1 ∧ (stepD xs s l).2.2.1 = [110, 111]) ∨ ((stepD xs s l).2.2.2 = 2 ∧ (stepD xs s l).2.2.1 = [119, 104, 97, 116])) := by
  unfold stepD
  cases hl : lnD l with
  | none => exact ⟨h, .inr (.inr ⟨rfl, rfl⟩)⟩
  | some x =>
    obtain ⟨c, ns, p⟩ := x
    simp only []
    cases ha : actD c ns p xs s with
    | none => exact ⟨h, .inr (.inl ⟨rfl, rfl⟩)⟩
    | some y =>
      obtain ⟨xs', s', t⟩ := y
      obtain ⟨h1, h2⟩ := actD_inv h (rdD_fits hl).2.2.2.2.2 ha
      exact ⟨h1, .inl ⟨rfl, h2⟩⟩
end Go.Proofs.YtbmhaamenjhjfaaGreatDoor
