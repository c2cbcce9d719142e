/- Api Tg2 Fcov CovRow FcovS -/
import Derived.Test.YtbmhaamenjhjfaaGreatDoorPkD04
import Derived.Test.YtbmhaamenjhjfaaGreatDoorPkD05
namespace Go.Proofs.YtbmhaamenjhjfaaGreatDoor
open Go.RowKit Go.WideShapes Go.ChangeShapes
set_option linter.unusedVariables false
theorem ret_bb {a b c d : Bool} (h : a = c) (k : b = d) : Ending.returned (.tuple #[.bool a, .bool b]) = .returned (.tuple #[.bool c, .bool d]) := by rw [h, k]
theorem ret_ib {a c : Int} {b d : Bool} (h : a = c) (k : b = d) : Ending.returned (.tuple #[.int .i64 a, .bool b]) = .returned (.tuple #[.int .i64 c, .bool d]) := by rw [h, k]
end Go.Proofs.YtbmhaamenjhjfaaGreatDoor
namespace Go.Proofs.YtbmhaamenjhjfaaGreatDoor
open Go.RowKit Go.WideShapes Go.ChangeShapes
set_option linter.unusedVariables false
theorem hasWordClosure_any (v : Value) (xs : List Int) (y : Int) (a : Nat) (w : World) (hv : Ints w v xs) (hl : xs.length ≤ 1048576) (h1 : At w a v) :
    Calls Tryz.prog 228 #[.int .i64 y, .pointer (some ⟨a, 0, none⟩)] w fun r w' => r = .returned (.bool (!(decide (0 ≤ y) && decide (y < xs.length)))) ∧ Below w.heap.size w w' := by
  have HV := hid hv
  have hbox := h1.1
  clear h1 hv
  go_enter Tryz.func228, Tryz.ntmps228
  go_wp2_with fail
  clear hbox
  refine (hasIndex_any _ xs y _ HV.out hl).mono ?_
  rintro e w' ⟨rfl, hb⟩
  obtain ⟨q, hq⟩ : ∃ q, (decide (0 ≤ y) && decide (y < (xs.length : Int))) = q := ⟨_, rfl⟩
  rw [hq]
  have HB := hid hb
  have HQ := hid hq
  clear hb hq
  cases q
  · go_wp2
    go_ret
    exact ⟨ret_bool (by rw [HQ.out]; rfl), HB.out⟩
  · go_wp2
    go_ret
    exact ⟨ret_bool (by rw [HQ.out]; rfl), HB.out⟩
theorem indexFunc_any (v u : Value) (xs ys : List Int) (a : Nat) (w : World) (hv : Ints w v xs) (hu : Ints w u ys) (hl : xs.length ≤ 1048576) (hm : ys.length ≤ 1048576) (h1 : At w a v) :
    Calls Tryz.prog 249 #[u, .func (.func 228) #[] #[.pointer (some ⟨a, 0, none⟩)]] w fun (r : Ending) w' => ∃ i : Int, r = Ending.returned (.int .i64 i) ∧ Hid (decide (0 ≤ i) = !inW xs.length ys) ∧ -1 ≤ i ∧ i ≤ 1048576 ∧ Below w.heap.size w w' := by
  have HV := hid hv
  have H1 := hid h1
  obtain ⟨A, c, rfl, hA⟩ := hu
  have HA := hid hA
  clear hA hv h1
  go_enter Tryz.func249, Tryz.ntmps249
  go_wp2
  go_loopw [8] (fun i wr => ∃ k : Nat, k ≤ ys.length ∧ i = .int .i64 k ∧ Hid (∀ j, j < k → (0 ≤ ys.getD j 0 ∧ ys.getD j 0 < xs.length)) ∧ Below w.heap.size w wr) (fun i _ => ys.length - (intOf i).toNat)
  case atStart => exact ⟨0, Nat.zero_le _, rfl, hid (fun j hj => absurd hj (Nat.not_lt_zero _)), Below.refl _ _⟩
  case round =>
    obtain ⟨k, hk, rfl, Hk, hb⟩ := hrel
    by_cases hlt : k < ys.length
    · obtain ⟨b, o, rfl, hbl, hc⟩ := HA.out (by intro h; simp [h] at hlt)
      have hcell : wr.cell? ⟨b, o + k, none⟩ = some (.int .i64 (ys.getD k 0)) := by
        rw [hb.cell (p := ⟨b, o + k, none⟩) hbl]; exact hc k hlt
      obtain ⟨x, hx⟩ : ∃ x, ys.getD k 0 = x := ⟨_, rfl⟩
      rw [hx] at hcell
      have HX := hid hx
      have HB := hid hb
      clear hc hx hb
      go_wp2_with fail
      refine (hasWordClosure_any v xs x a _ (HV.out.below HB.out) hl (H1.out.below HB.out)).mono ?_
      rintro e w' ⟨rfl, hb⟩
      have HB2 := hid (below_to HB.out hb)
      clear hb hcell
      cases hq : (decide (0 ≤ x) && decide (x < (xs.length : Int)))
      · have HN := hid (not_inW hlt (n := xs.length) (by
          rw [HX.out]; intro hc; rw [Bool.eq_false_iff] at hq; apply hq; simp only [Bool.and_eq_true, decide_eq_true_eq]; exact hc))
        clear hq
        go_wp2
        go_ret
        exact ⟨_, rfl, hid (by rw [HN.out]; simp), by omega, by omega, HB2.out⟩
      · have HQ := hid hq
        clear hq
        go_wp2
        go_roundw
        case rel => exact ⟨k + 1, by omega, by go_num, hid (fun j hj => by
          by_cases h : j = k
          · subst h; rw [HX.out]; simpa using HQ.out
          · exact Hk.out j (by omega)), HB2.out⟩
        case measure => simp [intOf]; omega
    · obtain rfl : k = ys.length := by omega
      have HN := hid (inW_of Hk.out)
      have HB := hid hb
      clear hb
      go_wp2
      go_ret
      exact ⟨_, rfl, hid (by rw [HN.out]; rfl), by omega, by omega, HB.out⟩
theorem containsFunc_any (v u : Value) (xs ys : List Int) (a : Nat) (w : World) (hv : Ints w v xs) (hu : Ints w u ys) (hl : xs.length ≤ 1048576) (hm : ys.length ≤ 1048576) (h1 : At w a v) :
    Calls Tryz.prog 227 #[u, .func (.func 228) #[] #[.pointer (some ⟨a, 0, none⟩)]] w fun r w' => r = .returned (.bool (!inW xs.length ys)) ∧ Below w.heap.size w w' := by
  have HV := hid hv
  have HU := hid hu
  have H1 := hid h1
  clear hv hu h1
  go_enter Tryz.func227, Tryz.ntmps227
  go_wp2_with fail
  refine (indexFunc_any v u xs ys a _ HV.out HU.out hl hm H1.out).mono ?_
  rintro e w' ⟨i, rfl, HI, h1, h2, hb⟩
  have HB := hid hb
  clear hb
  go_wp2
  go_ret
  exact ⟨ret_bool (by rw [← HI.out]), HB.out⟩
theorem hasWord_any (v u : Value) (xs ys : List Int) (w : World) (hv : Ints w v xs) (hu : Ints w u ys) (hl : xs.length ≤ 1048576) (hm : ys.length ≤ 1048576) :
    Calls Tryz.prog 200 #[.agg #[v], u] w fun r w' => r = .returned (.bool (okWord xs ys)) ∧ Below w.heap.size w w' := by
  have HV := hid hv
  have HU := hid hu
  obtain ⟨A2, c2, rfl, hA2⟩ := hu
  clear hA2 hv
  by_cases h100 : ys.length ≤ 100
  · have HO := hid (okWord_short (xs := xs) h100)
    go_enter Tryz.func200, Tryz.ntmps200
    have HB := hid (below_alloc (Below.refl _ w) (.cells #[v] 28))
    have A0 := hid (At.newAt w v 28 w.heap.size (by simp))
    go_wp2_with fail
    refine (containsFunc_any v _ xs ys w.heap.size _ (HV.out.below HB.out) (HU.out.below HB.out) hl hm A0.out).mono ?_
    rintro e w' ⟨rfl, hb⟩
    replace HB := hid (below_to HB.out hb)
    replace A0 := hid (A0.out.below hb)
    clear hb
    cases hq : inW xs.length ys
    · have HQ := hid hq
      clear hq
      have ebox0 := A0.out.1
      go_wp2
      go_ret
      exact ⟨ret_bool (by rw [HO.out, HQ.out]), HB.out⟩
    · have HQ := hid hq
      clear hq
      have ebox0 := A0.out.1
      go_wp2
      go_ret
      exact ⟨ret_bool (by rw [HO.out, HQ.out]), HB.out⟩
  · have HO := hid (okWord_long (xs := xs) h100)
    go_enter Tryz.func200, Tryz.ntmps200
    have HB := hid (below_alloc (Below.refl _ w) (.cells #[v] 28))
    have A0 := hid (At.newAt w v 28 w.heap.size (by simp))
    go_wp2
    go_ret
    exact ⟨ret_bool HO.out.symm, HB.out⟩
def okTW (xs ys : List Int) (s : Int) : Bool := okIdeal xs s && okWord xs ys
def ansTW (xs ys : List Int) (s : Int) : Int := if okTW xs ys s then (togW xs s.toNat ys : Int) else 0
theorem okTW_no1 {xs ys : List Int} {s : Int} (h : okIdeal xs s = false) : okTW xs ys s = false := by simp [okTW, h]
theorem okTW_no2 {xs ys : List Int} {s : Int} (h : okWord xs ys = false) : okTW xs ys s = false := by simp [okTW, h]
theorem okTW_yes {xs ys : List Int} {s : Int} (h : okIdeal xs s = true) (k : okWord xs ys = true) : okTW xs ys s = true := by simp [okTW, h, k]
theorem ansTW_no {xs ys : List Int} {s : Int} (h : okTW xs ys s = false) : ansTW xs ys s = 0 := by simp [ansTW, h]
theorem ansTW_yes {xs ys : List Int} {z : Nat} (h : okTW xs ys z = true) : ansTW xs ys z = (togW xs z ys : Int) := by simp [ansTW, h]
theorem implToggleWord_any (v : Value) (xs : List Int) (s : Int) (u : Value) (ys : List Int) (w : World) (hv : Ints w v xs) (hl : xs.length ≤ 1048576) (wf : (Lit.int .i64 s).wf = true) (hu : Ints w u ys) (hm : ys.length ≤ 1048576) :
    Calls Tryz.prog 168 #[.agg #[v], .int .i64 s, u] w fun r w' => r = .returned (.tuple #[.int .i64 (ansTW xs ys s), .bool (okTW xs ys s)]) ∧ Below w.heap.size w w' := by
  have HV := hid hv
  have HU := hid hu
  clear hv hu wf
  go_enter Tryz.func168, Tryz.ntmps168
  have HB := hid (below_alloc (Below.refl _ w) (.cells #[v] 28))
  have A0 := hid (At.newAt w v 28 w.heap.size (by simp))
  go_wp2_with fail
  refine (hasIdeal_any _ xs s _ (HV.out.below HB.out) hl).mono ?_
  rintro e w' ⟨rfl, hb⟩
  replace HB := hid (below_to HB.out hb)
  replace A0 := hid (A0.out.below hb)
  clear hb
  cases hq : okIdeal xs s
  · have HO := hid (okTW_no1 (ys := ys) hq)
    clear hq
    have ebox0 := A0.out.1
    go_wp2
    go_ret2
    exact ⟨ret_ib (ansTW_no HO.out).symm HO.out.symm, HB.out⟩
  · have HQ := hid hq
    clear hq
    have ebox0 := A0.out.1
    go_wp2_with fail
    clear ebox0
    refine (hasWord_any _ _ xs ys _ (HV.out.below HB.out) (HU.out.below HB.out) hl hm).mono ?_
    rintro e w' ⟨rfl, hb⟩
    replace HB := hid (below_to HB.out hb)
    replace A0 := hid (A0.out.below hb)
    clear hb
    cases hk : okWord xs ys
    · have HO := hid (okTW_no2 (s := s) hk)
      clear hk
      have ebox0 := A0.out.1
      go_wp2
      go_ret2
      exact ⟨ret_ib (ansTW_no HO.out).symm HO.out.symm, HB.out⟩
    · have HO := hid (okTW_yes HQ.out hk)
      have HK := hid hk
      clear hk
      obtain ⟨z, rfl, h3, h4, h5⟩ := okIdeal_all HQ.out
      have HG := hid h3
      have HN := hid h4
      clear h3 h4 h5
      have ebox0 := A0.out.1
      go_wp2_with fail
      clear ebox0
      refine (step_any _ _ xs ys z _ (HV.out.below HB.out) (HU.out.below HB.out) HG.out HN.out (okWord_in HK.out).2 hm).mono ?_
      rintro e w' ⟨rfl, hb⟩
      replace HB := hid (below_to HB.out hb)
      replace A0 := hid (A0.out.below hb)
      clear hb
      have ebox0 := A0.out.1
      go_wp2
      go_ret2
      exact ⟨ret_ib (ansTW_yes HO.out).symm HO.out.symm, HB.out⟩
end Go.Proofs.YtbmhaamenjhjfaaGreatDoor
namespace Go.Proofs.YtbmhaamenjhjfaaGreatDoor
open Go.RowKit Go.WideShapes Go.ChangeShapes
set_option linter.unusedVariables false
theorem fin_other {ps : List (Nat × Nat)} {i : Nat} {g : Nat → Nat} (k r : Nat) (h : r ≠ i) : fin_ ps i g k r = g r := by
  induction k with
  | zero => rfl
  | succ k ih =>
    unfold fin_ fstep
    split
    · first | exact ih | (rw [if_neg h]; exact ih)
    · exact ih
theorem fout_high {ps : List (Nat × Nat)} (m r : Nat) (h : m ≤ r) : fout ps m r = 0 := by
  induction m with
  | zero => rfl
  | succ m ih =>
    unfold fout
    rw [fin_other _ _ (by omega)]
    exact ih (by omega)
theorem fout_low {ps : List (Nat × Nat)} {r : Nat} (m : Nat) (h : r < m) : fout ps m r = fout ps (r + 1) r := by
  induction m with
  | zero => omega
  | succ m ih =>
    by_cases e : r = m
    · subst e; rfl
    · rw [fout, fin_other _ _ e]
      exact ih (by omega)
def UpPairs (n : Nat) (ps : List (Nat × Nat)) : Prop := ∀ k, k < ps.length → (ps.getD k (0, 0)).1 < (ps.getD k (0, 0)).2 ∧ (ps.getD k (0, 0)).2 < n
theorem fin_bit {n : Nat} {ps : List (Nat × Nat)} (hp : UpPairs n ps) {i : Nat} {g : Nat → Nat} (k : Nat) (hk : k ≤ ps.length) (b : Nat) :
    (fin_ ps i g k i).testBit b = true ↔ (g i).testBit b = true ∨ ∃ t, t < k ∧ (ps.getD t (0, 0)).2 = i ∧ (b = (ps.getD t (0, 0)).1 ∨ (g (ps.getD t (0, 0)).1).testBit b = true) := by
  induction k with
  | zero => simp [fin_]
  | succ k ih =>
    have ih := ih (by omega)
    have hpk := hp k (by omega)
    unfold fin_ fstep
    split
    · rename_i hi
      rw [if_pos rfl, Nat.testBit_or, Nat.testBit_or, Nat.testBit_two_pow, Bool.or_eq_true, Bool.or_eq_true, decide_eq_true_eq, ih, fin_other (g := g) k (ps.getD k (0, 0)).1 (by omega)]
      constructor
      · rintro ((h | ⟨t, h1, h2, h3⟩) | h)
        · exact .inl h
        · exact .inr ⟨t, by omega, h2, h3⟩
        · refine .inr ⟨k, by omega, hi, ?_⟩
          rcases h with h | h
          · exact .inl h.symm
          · exact .inr h
      · rintro (h | ⟨t, h1, h2, h3⟩)
        · exact .inl (.inl h)
        · by_cases e : t = k
          · subst e
            refine .inr ?_
            rcases h3 with h3 | h3
            · exact .inl h3.symm
            · exact .inr h3
          · exact .inl (.inr ⟨t, by omega, h2, h3⟩)
    · rename_i hi
      rw [ih]
      constructor
      · rintro (h | ⟨t, h1, h2, h3⟩)
        · exact .inl h
        · exact .inr ⟨t, by omega, h2, h3⟩
      · rintro (h | ⟨t, h1, h2, h3⟩)
        · exact .inl h
        · refine .inr ⟨t, ?_, h2, h3⟩
          by_cases e : t = k
          · subst e; exact absurd h2 hi
          · omega
theorem fout_bit {n : Nat} {ps : List (Nat × Nat)} (hp : UpPairs n ps) {r : Nat} (hr : r < n) (b : Nat) :
    (fout ps n r).testBit b = true ↔ ∃ t, t < ps.length ∧ (ps.getD t (0, 0)).2 = r ∧ (b = (ps.getD t (0, 0)).1 ∨ (fout ps n (ps.getD t (0, 0)).1).testBit b = true) := by
  rw [fout_low n hr, fout, fin_bit hp _ (Nat.le_refl _), fout_high r r (Nat.le_refl _)]
  simp only [Nat.zero_testBit, Bool.false_eq_true, false_or]
  constructor
  · rintro ⟨t, h1, h2, h3⟩
    have := hp t h1
    rw [fout_low r (by omega), ← fout_low n (by omega)] at h3
    exact ⟨t, h1, h2, h3⟩
  · rintro ⟨t, h1, h2, h3⟩
    have := hp t h1
    refine ⟨t, h1, h2, ?_⟩
    rw [fout_low r (by omega), ← fout_low n (by omega)]
    exact h3
def dirN (ps : List (Nat × Nat)) : Nat → Nat → Nat
  | 0, _ => 0
  | k + 1, r => if (ps.getD k (0, 0)).2 = r then dirN ps k r ||| 2 ^ (ps.getD k (0, 0)).1 else dirN ps k r
def clN (ps : List (Nat × Nat)) (n : Nat) : Nat → Nat → Nat
  | 0, r => dirN ps ps.length r
  | k + 1, r => if r = k then clN ps n k k ||| under (mkL n (clN ps n k)) (clN ps n k k) else clN ps n k r
theorem dirN_bit (ps : List (Nat × Nat)) (k r b : Nat) : (dirN ps k r).testBit b = true ↔ ∃ t, t < k ∧ (ps.getD t (0, 0)).2 = r ∧ b = (ps.getD t (0, 0)).1 := by
  induction k with
  | zero => simp [dirN]
  | succ k ih =>
    unfold dirN
    split
    · rename_i h
      rw [Nat.testBit_or, Nat.testBit_two_pow, Bool.or_eq_true, ih, decide_eq_true_eq]
      constructor
      · rintro (⟨t, h1, h2, h3⟩ | h3)
        · exact ⟨t, by omega, h2, h3⟩
        · exact ⟨k, by omega, h, h3.symm⟩
      · rintro ⟨t, h1, h2, h3⟩
        by_cases e : t = k
        · subst e; exact .inr h3.symm
        · exact .inl ⟨t, by omega, h2, h3⟩
    · rename_i h
      rw [ih]
      constructor
      · rintro ⟨t, h1, h2, h3⟩; exact ⟨t, by omega, h2, h3⟩
      · rintro ⟨t, h1, h2, h3⟩
        by_cases e : t = k
        · subst e; exact absurd h2 h
        · exact ⟨t, by omega, h2, h3⟩
theorem dirN_lt {n : Nat} {ps : List (Nat × Nat)} (hp : UpPairs n ps) (hn : n ≤ 10) (k : Nat) (hk : k ≤ ps.length) (r : Nat) : dirN ps k r < 1024 := by
  apply Nat.lt_pow_two_of_testBit (n := 10)
  intro i hi
  rw [Bool.eq_false_iff]
  intro h
  obtain ⟨t, h1, h2, h3⟩ := (dirN_bit ps k r i).1 h
  have := hp t (by omega)
  omega
theorem clN_high {ps : List (Nat × Nat)} {n : Nat} (k r : Nat) (h : k ≤ r) : clN ps n k r = dirN ps ps.length r := by
  induction k with
  | zero => rfl
  | succ k ih => rw [clN, if_neg (by omega)]; exact ih (by omega)
theorem clN_low {ps : List (Nat × Nat)} {n r : Nat} (m : Nat) (h : r < m) : clN ps n m r = clN ps n (r + 1) r := by
  induction m with
  | zero => omega
  | succ m ih =>
    by_cases e : r = m
    · subst e; rfl
    · rw [clN, if_neg e]; exact ih (by omega)
theorem under_mkL {n : Nat} {g : Nat → Nat} {s b : Nat} : (under (mkL n g) s).testBit b = true ↔ ∃ e, e < n ∧ s.testBit e = true ∧ (g e).testBit b = true := by
  unfold under
  rw [underN_testBit, mkL_length]
  constructor
  · rintro ⟨e, h1, h2, h3⟩
    rw [mkL_getD h1, Int.toNat_natCast] at h3
    exact ⟨e, h1, h2, h3⟩
  · rintro ⟨e, h1, h2, h3⟩
    exact ⟨e, h1, h2, by rw [mkL_getD h1, Int.toNat_natCast]; exact h3⟩
theorem clN_fout {n : Nat} {ps : List (Nat × Nat)} (hp : UpPairs n ps) (r : Nat) : r < n → clN ps n n r = fout ps n r := by
  induction r using Nat.strongRecOn with
  | _ r ih =>
    intro hr
    apply Nat.eq_of_testBit_eq
    intro b
    rw [Bool.eq_iff_iff, fout_bit hp hr, clN_low n hr, clN, if_pos rfl, clN_high r r (Nat.le_refl _), Nat.testBit_or, Bool.or_eq_true, under_mkL, dirN_bit]
    constructor
    · rintro (⟨t, h1, h2, h3⟩ | ⟨e, h1, h2, h3⟩)
      · exact ⟨t, h1, h2, .inl h3⟩
      · obtain ⟨t, h4, h5, h6⟩ := (dirN_bit ps _ r e).1 h2
        have := hp t h4
        rw [clN_low r (by omega), ← clN_low n (by omega), ih e (by omega) (by omega)] at h3
        exact ⟨t, h4, h5, .inr (by rw [← h6]; exact h3)⟩
    · rintro ⟨t, h1, h2, h3⟩
      have := hp t h1
      rcases h3 with h3 | h3
      · exact .inl ⟨t, h1, h2, h3⟩
      · refine .inr ⟨(ps.getD t (0, 0)).1, by omega, (dirN_bit ps _ r _).2 ⟨t, h1, h2, rfl⟩, ?_⟩
        rw [clN_low r (by omega), ← clN_low n (by omega), ih _ (by omega) (by omega)]
        exact h3
theorem clN_lt {n : Nat} {ps : List (Nat × Nat)} (hp : UpPairs n ps) (hn : n ≤ 10) (k : Nat) (hk : k ≤ n) (r : Nat) : clN ps n k r < 1024 := by
  induction k generalizing r with
  | zero => exact dirN_lt hp hn _ (Nat.le_refl _) r
  | succ k ih =>
    unfold clN
    split
    · refine Nat.or_lt_two_pow (n := 10) (ih (by omega) k) ?_
      apply Nat.lt_pow_two_of_testBit
      intro i hi
      rw [Bool.eq_false_iff]
      intro h
      obtain ⟨e, h1, h2, h3⟩ := under_mkL.1 h
      have := ih (by omega) e
      rw [Nat.testBit_lt_two_pow (Nat.lt_of_lt_of_le this (Nat.pow_le_pow_right (n := 2) (by decide) hi : 2 ^ 10 ≤ 2 ^ i))] at h3
      cases h3
    · exact ih (by omega) r
theorem clN_full {n : Nat} {ps : List (Nat × Nat)} (hp : UpPairs n ps) : mkL n (clN ps n n) = fromL n ps := mkL_congr fun i hi => clN_fout hp i hi
end Go.Proofs.YtbmhaamenjhjfaaGreatDoor
namespace Go.Proofs.YtbmhaamenjhjfaaGreatDoor
open Go.RowKit Go.WideShapes Go.ChangeShapes
set_option linter.unusedVariables false
theorem good_trans {xs : List Int} (hg : good xs = true) {i k j : Nat} (hi : i < xs.length) (h1 : bitAt xs i k = true) (h2 : bitAt xs k j = true) : bitAt xs i j = true := by
  have hk := good_bit hg hi h1
  have ho := good_at hg hi
  simp only [okAt, Bool.and_eq_true] at ho
  exact (sub_eq_zero _ _).1 ((holdsIdeal_iff xs _).1 ho.2 k (by omega) h1) j h2
theorem coverB_bit {xs : List Int} {j i : Nat} (h : coverB xs j i = true) : bitAt xs i j = true := by
  unfold coverB at h
  simp only [Bool.and_eq_true] at h
  exact h.1
theorem covIn_cov {xs : List Int} {j : Nat} (m : Nat) {p : Nat × Nat} (h : p ∈ covIn xs j m) : p.1 = j ∧ p.2 < m ∧ coverB xs j p.2 = true := by
  induction m with
  | zero => simp [covIn] at h
  | succ m ih =>
    unfold covIn at h
    split at h
    · rename_i hc
      rw [List.mem_append] at h
      rcases h with h | h
      · obtain ⟨a, b, c⟩ := ih h
        exact ⟨a, by omega, c⟩
      · simp at h; subst h; exact ⟨rfl, by simp, hc⟩
    · obtain ⟨a, b, c⟩ := ih h
      exact ⟨a, by omega, c⟩
theorem covPS_cov {xs : List Int} {n : Nat} (m : Nat) {p : Nat × Nat} (h : p ∈ covPS xs n m) : p.1 < m ∧ p.2 < n ∧ coverB xs p.1 p.2 = true := by
  induction m with
  | zero => simp [covPS] at h
  | succ m ih =>
    unfold covPS at h
    rw [List.mem_append] at h
    rcases h with h | h
    · obtain ⟨a, b, c⟩ := ih h
      exact ⟨by omega, b, c⟩
    · obtain ⟨a, b, c⟩ := covIn_cov n h
      exact ⟨by omega, b, by rw [a]; exact c⟩
theorem covIn_has {xs : List Int} {j i : Nat} (m : Nat) (hi : i < m) (h : coverB xs j i = true) : (j, i) ∈ covIn xs j m := by
  induction m with
  | zero => omega
  | succ m ih =>
    unfold covIn
    by_cases e : i = m
    · subst e
      rw [if_pos h]
      exact List.mem_append_right _ (by simp)
    · have := ih (by omega)
      split
      · exact List.mem_append_left _ this
      · exact this
theorem covPS_has {xs : List Int} {n j i : Nat} (m : Nat) (hj : j < m) (hi : i < n) (h : coverB xs j i = true) : (j, i) ∈ covPS xs n m := by
  induction m with
  | zero => omega
  | succ m ih =>
    unfold covPS
    by_cases e : j = m
    · subst e
      exact List.mem_append_right _ (covIn_has n hi h)
    · exact List.mem_append_left _ (ih (by omega))
theorem cover_up {xs : List Int} (hg : good xs = true) : UpPairs xs.length (covPS xs xs.length xs.length) := by
  intro k hk
  have e : (covPS xs xs.length xs.length).getD k (0, 0) = (covPS xs xs.length xs.length)[k] := by simp [List.getD, hk]
  rw [e]
  obtain ⟨a, b, c⟩ := covPS_cov _ (List.getElem_mem hk)
  exact ⟨good_bit hg b (coverB_bit c), b⟩
theorem cover_between {xs : List Int} (hg : good xs = true) {r b : Nat} (hr : r < xs.length) : ∀ (d c : Nat), r - c = d → bitAt xs r c = true → (c = b ∨ bitAt xs c b = true) → ∃ j, coverB xs j r = true ∧ (j = b ∨ bitAt xs j b = true) := by
  intro d
  induction d using Nat.strongRecOn with
  | _ d ih =>
    intro c hd h1 h2
    cases hc : coverB xs c r
    · have hcr := good_bit hg hr h1
      have ha : ((List.range r).any fun k => decide (c < k) && (bitAt xs r k && bitAt xs k c)) = true := by
        unfold coverB at hc
        rw [h1, Bool.true_and] at hc
        simpa using hc
      obtain ⟨k, hk, hk2⟩ := List.any_eq_true.1 ha
      rw [List.mem_range] at hk
      simp only [Bool.and_eq_true, decide_eq_true_eq] at hk2
      obtain ⟨k1, k2, k3⟩ := hk2
      refine ih (r - k) (by omega) k rfl k2 (.inr ?_)
      rcases h2 with h2 | h2
      · subst h2; exact k3
      · exact good_trans hg (by omega) k3 h2
    · exact ⟨c, hc, h2⟩
theorem fout_cov {xs : List Int} (hg : good xs = true) (r : Nat) : r < xs.length → ∀ b, (fout (covPS xs xs.length xs.length) xs.length r).testBit b = bitAt xs r b := by
  induction r using Nat.strongRecOn with
  | _ r ih =>
    intro hr b
    rw [Bool.eq_iff_iff, fout_bit (cover_up hg) hr]
    constructor
    · rintro ⟨t, ht, h1, h2⟩
      have e : (covPS xs xs.length xs.length).getD t (0, 0) = (covPS xs xs.length xs.length)[t] := by simp [List.getD, ht]
      rw [e] at h1 h2
      obtain ⟨a, b', c⟩ := covPS_cov _ (List.getElem_mem ht)
      have hbit := coverB_bit c
      rw [h1] at hbit
      rcases h2 with h2 | h2
      · rw [h2]; exact hbit
      · rw [ih _ (good_bit hg hr hbit) a] at h2
        exact good_trans hg hr hbit h2
    · intro h
      obtain ⟨j, hj, hjb⟩ := cover_between hg hr (r - b) b rfl h (.inl rfl)
      have hjr := good_bit hg hr (coverB_bit hj)
      have hm := covPS_has (n := xs.length) xs.length (show j < xs.length by omega) hr hj
      obtain ⟨t, ht, he⟩ := List.mem_iff_getElem.1 hm
      have e : (covPS xs xs.length xs.length).getD t (0, 0) = (j, r) := by rw [← he]; simp [List.getD, ht]
      refine ⟨t, ht, by rw [e], ?_⟩
      rw [e]
      rcases hjb with h3 | h3
      · exact .inl h3.symm
      · exact .inr (by rw [ih j hjr (by omega)]; exact h3)
theorem fromL_cov {xs : List Int} (hg : good xs = true) : fromL xs.length (covPS xs xs.length xs.length) = xs := by
  apply List.ext_getElem?
  intro i
  by_cases hi : i < xs.length
  · have h0 := okAt_range (good_at hg hi)
    have e : fout (covPS xs xs.length xs.length) xs.length i = (xs.getD i 0).toNat := Nat.eq_of_testBit_eq fun b => fout_cov hg i hi b
    unfold fromL mkL
    rw [List.getElem?_map, List.getElem?_range hi, Option.map_some, e]
    have hx : xs[i]? = some (xs.getD i 0) := by simp [List.getD, hi]
    rw [hx]
    congr 1
    omega
  · rw [List.getElem?_eq_none (by unfold fromL; rw [mkL_length]; omega), List.getElem?_eq_none (by omega)]
end Go.Proofs.YtbmhaamenjhjfaaGreatDoor
namespace Go.Proofs.YtbmhaamenjhjfaaGreatDoor
open Go.RowKit Go.WideShapes Go.ChangeShapes
set_option linter.unusedVariables false
def prOf (l : List Int) : Nat × Nat := ((l.getD 0 0).toNat, (l.getD 1 0).toNat)
def okPr (n : Nat) (l : List Int) : Bool := decide (l.length = 2) && (inW n l && decide (l.getD 0 0 < l.getD 1 0))
def okFC (n : Int) (ls : List (List Int)) : Bool := (decide (1 ≤ n) && decide (n ≤ 10)) && (decide (ls.length ≤ 100) && ls.all (okPr n.toNat))
def fcL (n : Int) (ls : List (List Int)) : List Int := if okFC n ls then fromL n.toNat (ls.map prOf) else []
theorem okFC_no1 {n : Int} {ls : List (List Int)} (h : (decide (1 ≤ n) && decide (n ≤ 10)) = false) : okFC n ls = false := by simp only [okFC, h]; rfl
theorem okFC_no2 {n : Int} {ls : List (List Int)} (h : 100 < ls.length) : okFC n ls = false := by simp [okFC, show ¬ ls.length ≤ 100 by omega]
theorem okFC_no3 {n : Int} {ls : List (List Int)} {k : Nat} (hk : k < ls.length) (h : okPr n.toNat (ls.getD k []) = false) : okFC n ls = false := by
  rw [Bool.eq_false_iff]
  intro hc
  simp only [okFC, Bool.and_eq_true] at hc
  have := List.all_eq_true.1 hc.2.2 (ls.getD k []) (by simp [List.getD, hk])
  rw [h] at this; cases this
theorem okFC_yes {n : Nat} {ls : List (List Int)} (h : (decide (1 ≤ (n : Int)) && decide ((n : Int) ≤ 10)) = true) (hl : ls.length ≤ 100) (ha : ∀ j, j < ls.length → okPr n (ls.getD j []) = true) : okFC n ls = true := by
  simp only [okFC, h, Bool.true_and, Bool.and_eq_true, decide_eq_true_eq]
  refine ⟨hl, List.all_eq_true.2 fun l hl' => ?_⟩
  obtain ⟨j, hj, rfl⟩ := List.mem_iff_getElem.1 hl'
  have := ha j hj
  simpa [List.getD, hj] using this
theorem fcL_no {n : Int} {ls : List (List Int)} (h : okFC n ls = false) : fcL n ls = [] := by simp [fcL, h]
theorem fcL_yes {n : Nat} {ls : List (List Int)} (h : okFC n ls = true) : fcL n ls = fromL n (ls.map prOf) := by simp [fcL, h]
theorem fcL_length (n : Int) (ls : List (List Int)) : (fcL n ls).length ≤ 1048576 := by
  unfold fcL
  split
  · rename_i h
    simp only [okFC, Bool.and_eq_true, decide_eq_true_eq] at h
    unfold fromL
    rw [mkL_length]
    omega
  · simp
theorem okPr_facts {n : Nat} {l : List Int} (h : okPr n l = true) : l.length = 2 ∧ ∃ a b : Nat, l.getD 0 0 = a ∧ l.getD 1 0 = b ∧ a < b ∧ b < n ∧ prOf l = (a, b) := by
  simp only [okPr, Bool.and_eq_true, decide_eq_true_eq] at h
  obtain ⟨h1, h2, h3⟩ := h
  obtain ⟨a1, a2⟩ := inW_at h2 (show 0 < l.length by omega)
  obtain ⟨b1, b2⟩ := inW_at h2 (show 1 < l.length by omega)
  obtain ⟨a, ha⟩ := Int.eq_ofNat_of_zero_le a1
  obtain ⟨b, hb⟩ := Int.eq_ofNat_of_zero_le b1
  refine ⟨h1, a, b, ha, hb, by omega, by omega, ?_⟩
  unfold prOf
  rw [ha, hb]; rfl
theorem prs_getD (ls : List (List Int)) (j : Nat) (hj : j < ls.length) : (ls.map prOf).getD j (0, 0) = prOf (ls.getD j []) := by
  simp [List.getD, hj]
theorem okPr_up {n : Nat} {ls : List (List Int)} (ha : ∀ j, j < ls.length → okPr n (ls.getD j []) = true) : UpPairs n (ls.map prOf) := by
  intro k hk
  rw [List.length_map] at hk
  obtain ⟨-, a, b, -, -, h1, h2, h3⟩ := okPr_facts (ha k hk)
  rw [prs_getD ls k hk, h3]
  exact ⟨h1, h2⟩
theorem up_ok {n : Nat} {ps : List (Nat × Nat)} (h : UpPairs n ps) : PairsOk n ps := fun k hk => by have := h k hk; omega
theorem okPr_read {n : Nat} {w : World} {v : Value} {ls : List (List Int)} (hv : IntsSS w v ls) (ha : ∀ j, j < ls.length → okPr n (ls.getD j []) = true) : PairsR w v (ls.map prOf) := by
  obtain ⟨A, c, rfl, h⟩ := hv
  refine ⟨A, c, by rw [List.length_map], fun j hj => ?_⟩
  rw [List.length_map] at hj
  obtain ⟨b, o, u, rfl, hb, hc, hi⟩ := h j hj
  obtain ⟨h1, x, y, hx, hy, -, -, h3⟩ := okPr_facts (ha j hj)
  obtain ⟨A', m, rfl, h4⟩ := hi
  obtain ⟨g, p, rfl, hg, hcell⟩ := h4 (by intro e; rw [e] at h1; simp at h1)
  rw [prs_getD ls j hj, h3]
  refine ⟨b, o, g, p, m, rfl, hb, hg, by rw [hc, h1], ?_, ?_⟩
  · have := hcell 0 (by omega); rw [hx] at this; simpa using this
  · have := hcell 1 (by omega); rw [hy] at this; exact this
set_option maxHeartbeats 3200000 in
theorem specFromCovers_any (n : Int) (v : Value) (ls : List (List Int)) (w : World) (wf : (Lit.int .i64 n).wf = true) (hv : IntsSS w v ls) (hs : SSmall ls) :
    Calls Tryz.prog 131 #[.int .i64 n, v] w fun (r : Ending) w' => ∃ q, r = Ending.returned (.tuple #[.agg #[q], .bool (okFC n ls)]) ∧ OwnI 3 w' w.heap.size q (fcL n ls) ∧ (fcL n ls).length ≤ 1048576 ∧ Below w.heap.size w w' := by
  have HV := hid hv
  obtain ⟨A, c, rfl, hA⟩ := hv
  have HA := hid hA
  have HL := hid (fcL_length n ls)
  have hl := hs.1
  have HR := hid hs.2.1
  clear hA hs wf
  have HZ0 := hid (Blk.new w 28 #[.slice none 0 0])
  have HB0 := hid (below_alloc (Below.refl _ w) (.cells #[.slice none 0 0] 28))
  obtain ⟨W, hW⟩ : ∃ W, w.alloc (.cells #[.slice none 0 0] 28) = W := ⟨_, rfl⟩
  rw [hW] at HZ0 HB0
  have t1 := HZ0.out.cell 0
  have t2 := HZ0.out.frozen 0
  cases hn : (decide (1 ≤ n) && decide (n ≤ 10))
  · have HD := hid hn
    have HF := hid (okFC_no1 (ls := ls) hn)
    clear hn
    go_enter Tryz.func131, Tryz.ntmps131
    go_wp2_with (go_at_call 129; refine (l1In_any _ _ _ _).mono ?_; rw [HD.out]; rintro e w' ⟨rfl, rfl⟩)
    refine bodyPost_ret (v := .tuple #[.agg #[.slice none 0 0], .bool false]) (by simp [results, Tryz.results131, go_sem, t1]) rfl ⟨_, by rw [HF.out], by rw [fcL_no HF.out]; exact OwnI.nil _ _ _, HL.out, ?_⟩
    exact HB0.out.setCell (p := ⟨w.heap.size, 0, none⟩) (Nat.le_refl _) _
  · have HD := hid hn
    obtain ⟨m, rfl⟩ := Int.eq_ofNat_of_zero_le (show 0 ≤ n by simp at hn; omega)
    have hm1 : 1 ≤ m ∧ m ≤ 10 := by simp at hn; omega
    clear hn
    by_cases h100 : 100 < ls.length
    · have HF := hid (okFC_no2 (n := m) h100)
      have h100' : (100 : Int) < ls.length := by omega
      go_enter Tryz.func131, Tryz.ntmps131
      go_wp2_with (go_at_call 129; refine (l1In_any _ _ _ _).mono ?_; rw [HD.out]; rintro e w' ⟨rfl, rfl⟩)
      refine bodyPost_ret (v := .tuple #[.agg #[.slice none 0 0], .bool false]) (by simp [results, Tryz.results131, go_sem, t1]) rfl ⟨_, by rw [HF.out], by rw [fcL_no HF.out]; exact OwnI.nil _ _ _, HL.out, ?_⟩
      exact HB0.out.setCell (p := ⟨w.heap.size, 0, none⟩) (Nat.le_refl _) _
    · have h100' : ¬ (100 : Int) < ls.length := by omega
      go_enter Tryz.func131, Tryz.ntmps131
      go_wp2_with (go_at_call 129; refine (l1In_any _ _ _ _).mono ?_; rw [HD.out]; rintro e w' ⟨rfl, rfl⟩)
      clear t1 t2
      go_loopw [19] (fun i wr => ∃ k : Nat, k ≤ ls.length ∧ i = .int .i64 k ∧ Hid (∀ j, j < k → okPr m (ls.getD j []) = true) ∧ Blk wr w.heap.size 28 #[.slice none 0 0] ∧ Below w.heap.size w wr) (fun i _ => ls.length - (intOf i).toNat)
      case atStart => exact ⟨0, Nat.zero_le _, rfl, hid (fun j hj => absurd hj (Nat.not_lt_zero _)), HZ0.out, HB0.out⟩
      case round =>
        obtain ⟨k, hk, rfl, HK, hz, hb⟩ := hrel
        have HZ := hid hz
        have HB := hid hb
        have z1 := hz.cell 0
        have z2 := hz.frozen 0
        have z3 := hz.lt
        by_cases hkl : k < ls.length
        · obtain ⟨b, o, u, rfl, hbl, hc, hi⟩ := HA.out k hkl
          have hcell : wr.cell? ⟨b, o + k, none⟩ = some u := (hb.cell (p := ⟨b, o + k, none⟩) hbl).trans hc
          have HI := hid (hi.below hb)
          have HLn := hid (HR.out k hkl)
          obtain ⟨l, hll⟩ : ∃ l, ls.getD k [] = l := ⟨_, rfl⟩
          rw [hll] at HI HLn
          have Hll := hid hll
          obtain ⟨A', m', rfl, hA'⟩ := HI.out
          have HA' := hid hA'
          clear hc hi hb hz hll hA'
          by_cases h2 : l.length = 2
          · have H2 := hid h2
            rw [h2] at hcell
            have HI2 : Hid (Ints wr (.slice A' 2 m') l) := hid (by rw [← h2]; exact HI.out)
            have hne2 : ((2 : Int) != 2) = false := rfl
            have HWm : Hid (IntKind.i64.wrap ((m : Int) - 1) = (m : Int) - 1) := hid (IntWalk.i64_in _ (by omega))
            clear h2
            cases hin : inW m l
            · have HIn := hid hin
              have HF : Hid (okFC m ls = false) := hid (okFC_no3 hkl (by rw [Hll.out]; show okPr m l = false; simp [okPr, hin]))
              clear hin
              have hwm := HWm.out
              go_wp2_with fail
              go_quiet ((go_at_call 184; exact Calls.quiet_of_same ((l1All_same _ l m _ (HI2.out.drewN _) HLn.out (by omega)).mono fun _ _ ⟨a, b⟩ => ⟨a.trans (by rw [HIn.out]), b.symm⟩)))
              go_wp2
              (refine bodyPost_ret (v := .tuple #[.agg #[.slice none 0 0], .bool false]) (by simp [results, Tryz.results131, go_sem, z1]) rfl ⟨_, by rw [HF.out], by rw [fcL_no HF.out]; exact OwnI.nil _ _ _, HL.out, ?_⟩)
              exact (below_drewN HB.out _).setCell (p := ⟨w.heap.size, 0, none⟩) (Nat.le_refl _) _
            · have HIn := hid hin
              obtain ⟨g, p, rfl, hg, hpc⟩ := HA'.out (by intro e; have := H2.out; rw [e] at this; simp at this)
              have c0 : wr.cell? ⟨g, p, none⟩ = some (.int .i64 (l.getD 0 0)) := by have := hpc 0 (by rw [H2.out]; decide); simpa using this
              have c1 : wr.cell? ⟨g, p + 1, none⟩ = some (.int .i64 (l.getD 1 0)) := hpc 1 (by rw [H2.out]; decide)
              obtain ⟨x, hx⟩ : ∃ x, l.getD 0 0 = x := ⟨_, rfl⟩
              obtain ⟨y, hy⟩ : ∃ y, l.getD 1 0 = y := ⟨_, rfl⟩
              have HOp : Hid (okPr m l = decide (x < y)) := hid (by simp only [okPr, H2.out, hin, hx, hy]; rfl)
              rw [hx] at c0
              rw [hy] at c1
              clear hin hpc hx hy
              by_cases hxy : x < y
              · have hxy' : ¬ y ≤ x := by omega
                have HK2 : Hid (∀ j, j < k + 1 → okPr m (ls.getD j []) = true) := hid (fun j hj => by
                  by_cases e : j = k
                  · subst e; rw [Hll.out, HOp.out]; exact decide_eq_true hxy
                  · exact HK.out j (by omega))
                have hwm := HWm.out
                go_wp2_with fail
                go_quiet ((go_at_call 184; exact Calls.quiet_of_same ((l1All_same _ l m _ (HI2.out.drewN _) HLn.out (by omega)).mono fun _ _ ⟨a, b⟩ => ⟨a.trans (by rw [HIn.out]), b.symm⟩)))
                clear hwm
                go_wp2
                go_roundw
                case rel => exact ⟨k + 1, by omega, by go_num, HK2, (show Blk (wr.drewN _) _ _ _ from HZ.out), below_drewN HB.out _⟩
                case measure => simp [intOf]; omega
              · have hxy' : y ≤ x := by omega
                have HF : Hid (okFC m ls = false) := hid (okFC_no3 hkl (by rw [Hll.out]; show okPr m l = false; rw [HOp.out]; exact decide_eq_false hxy))
                have hwm := HWm.out
                go_wp2_with fail
                go_quiet ((go_at_call 184; exact Calls.quiet_of_same ((l1All_same _ l m _ (HI2.out.drewN _) HLn.out (by omega)).mono fun _ _ ⟨a, b⟩ => ⟨a.trans (by rw [HIn.out]), b.symm⟩)))
                go_wp2
                (refine bodyPost_ret (v := .tuple #[.agg #[.slice none 0 0], .bool false]) (by simp [results, Tryz.results131, go_sem, z1]) rfl ⟨_, by rw [HF.out], by rw [fcL_no HF.out]; exact OwnI.nil _ _ _, HL.out, ?_⟩)
                exact (below_drewN HB.out _).setCell (p := ⟨w.heap.size, 0, none⟩) (Nat.le_refl _) _
          · have HF : Hid (okFC m ls = false) := hid (okFC_no3 hkl (by rw [Hll.out]; simp [okPr, h2]))
            have hne2 : ((l.length : Int) != 2) = true := by rw [bne_iff_ne]; omega
            clear h2
            go_wp2_with fail
            go_quiet (fail)
            go_wp2
            refine bodyPost_ret (v := .tuple #[.agg #[.slice none 0 0], .bool false]) (by simp [results, Tryz.results131, go_sem, z1]) rfl ⟨_, by rw [HF.out], by rw [fcL_no HF.out]; exact OwnI.nil _ _ _, HL.out, ?_⟩
            exact (below_drewN HB.out _).setCell (p := ⟨w.heap.size, 0, none⟩) (Nat.le_refl _) _
        · obtain rfl : k = ls.length := by omega
          have HF : Hid (okFC m ls = true) := hid (okFC_yes HD.out (by omega) HK.out)
          have HPR := hid (okPr_read (HV.out.below hb) HK.out)
          have hml : (ls.map prOf).length ≤ 1048576 := by rw [List.length_map]; omega
          have HUp := hid (up_ok (okPr_up HK.out))
          clear hb hz
          go_wp2_with fail
          refine (poFromR_any _ (ls.map prOf) m _ HPR.out hm1.2 HUp.out hml).mono ?_
          rintro e w2 ⟨q, rfl, ho, hb2⟩
          have y1 := (HZ.out.below hb2 z3).cell 0
          have y2 := (HZ.out.below hb2 z3).frozen 0
          have HB2 := hid (below_to HB.out hb2)
          have HO := hid ho
          obtain ⟨qA, qn, qc, rfl⟩ := ho.shape3
          clear z1 z2 hb2 ho
          go_wp2
          refine bodyPost_ret (v := .tuple #[.agg #[.slice qA qn qc], .bool true]) (by simp [results, Tryz.results131, go_sem, y1]) rfl ⟨_, by rw [HF.out], ?_, HL.out, ?_⟩
          · rw [fcL_yes HF.out]
            exact (HO.out.grown (grown_setCell (g := w.heap.size) (World.grownBy.refl _ _) 0 _) (HO.out.apart (.inl z3))).mono (Nat.le_of_lt z3)
          · exact HB2.out.setCell (p := ⟨w.heap.size, 0, none⟩) (Nat.le_refl _) _
end Go.Proofs.YtbmhaamenjhjfaaGreatDoor
