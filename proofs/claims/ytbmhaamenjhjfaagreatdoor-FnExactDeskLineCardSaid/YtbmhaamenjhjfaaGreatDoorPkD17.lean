/- Rect Fence -/
import Derived.Test.YtbmhaamenjhjfaaGreatDoorPkD04
namespace Go.Proofs.YtbmhaamenjhjfaaGreatDoor
open Go.RowKit Go.WideShapes Go.ChangeShapes
set_option linter.unusedVariables false
def rectStep (a b q r c : Nat) : List (Nat × Nat) := (if r + 1 < a then [(q + c, q + b + c)] else []) ++ (if c + 1 < b then [(q + c, q + c + 1)] else [])
def rectIn (a b q r : Nat) : Nat → List (Nat × Nat)
  | 0 => []
  | c + 1 => rectIn a b q r c ++ rectStep a b q r c
def rectPS (a b : Nat) : Nat → List (Nat × Nat)
  | 0 => []
  | r + 1 => rectPS a b r ++ rectIn a b (b * r) r b
theorem rectIn_length (a b q r c : Nat) : (rectIn a b q r c).length ≤ 2 * c := by
  induction c with
  | zero => simp [rectIn]
  | succ c ih =>
    unfold rectIn rectStep
    rw [List.length_append, List.length_append]
    split <;> split <;> simp <;> omega
theorem rectPS_length (a b r : Nat) (hb : b ≤ 10) : (rectPS a b r).length ≤ 20 * r := by
  induction r with
  | zero => simp [rectPS]
  | succ r ih =>
    unfold rectPS
    have := rectIn_length a b (b * r) r b
    rw [List.length_append]
    omega
def rectF (b : Nat) (j i : Nat) : Bool := decide (j / b ≤ i / b) && decide (j % b ≤ i % b)
def rectChk (a b : Nat) : Bool := decide (fromL (a * b) (rectPS a b a) = whereL (rectF b) (a * b)) && (List.range (rectPS a b a).length).all fun k => decide (((rectPS a b a).getD k (0, 0)).1 < a * b) && decide (((rectPS a b a).getD k (0, 0)).2 < a * b)
theorem rect_chk : ((List.range 11).all fun a => (List.range 11).all fun b => decide (a * b = 0) || decide (10 < a * b) || rectChk a b) = true := by decide +kernel
theorem rect_at {a b : Nat} (ha : a < 11) (hb : b < 11) (h1 : 1 ≤ a) (h2 : 1 ≤ b) (h : a * b ≤ 10) : rectChk a b = true := by
  have h3 := List.all_eq_true.1 (List.all_eq_true.1 rect_chk a (List.mem_range.2 ha)) b (List.mem_range.2 hb)
  have h4 : a * b ≠ 0 := Nat.pos_iff_ne_zero.1 (Nat.mul_pos h1 h2)
  simp only [Bool.or_eq_true, decide_eq_true_eq] at h3
  rcases h3 with (h3 | h3) | h3
  · exact absurd h3 h4
  · omega
  · exact h3
theorem rect_all (a : Nat) (ha : a < 11) (b : Nat) (hb : b < 11) (h1 : 1 ≤ a) (h2 : 1 ≤ b) (h : a * b ≤ 10) : fromL (a * b) (rectPS a b a) = whereL (rectF b) (a * b) := by
  have := rect_at ha hb h1 h2 h
  simp only [rectChk, Bool.and_eq_true, decide_eq_true_eq] at this
  exact this.1
theorem rect_ok_all (a : Nat) (ha : a < 11) (b : Nat) (hb : b < 11) (h1 : 1 ≤ a) (h2 : 1 ≤ b) (h : a * b ≤ 10) : PairsOk (a * b) (rectPS a b a) := by
  have := rect_at ha hb h1 h2 h
  simp only [rectChk, Bool.and_eq_true, decide_eq_true_eq] at this
  intro k hk
  have h3 := List.all_eq_true.1 this.2 k (List.mem_range.2 hk)
  simpa only [Bool.and_eq_true, decide_eq_true_eq] using h3
def sides (a b : Int) : Bool := (decide (1 ≤ a) && decide (a ≤ 10)) && ((decide (1 ≤ b) && decide (b ≤ 10)) && decide (a * b ≤ 10))
def rectL (a b : Int) : List Int := if sides a b then whereL (rectF b.toNat) (a.toNat * b.toNat) else []
theorem rectL_length (a b : Int) : (rectL a b).length ≤ 1048576 := by
  unfold rectL
  split
  · rename_i h
    simp only [sides, Bool.and_eq_true, decide_eq_true_eq] at h
    unfold whereL; rw [mkL_length]
    obtain ⟨x, rfl⟩ := Int.eq_ofNat_of_zero_le (by omega : 0 ≤ a)
    obtain ⟨y, rfl⟩ := Int.eq_ofNat_of_zero_le (by omega : 0 ≤ b)
    have := h.2.2
    rw [← Int.natCast_mul] at this
    simp only [Int.toNat_natCast]
    omega
  · simp
theorem sides_nat {a b : Int} (h : sides a b = true) : ∃ x y : Nat, a = x ∧ b = y ∧ 1 ≤ x ∧ x ≤ 10 ∧ 1 ≤ y ∧ y ≤ 10 ∧ x * y ≤ 10 := by
  simp only [sides, Bool.and_eq_true, decide_eq_true_eq] at h
  obtain ⟨x, rfl⟩ := Int.eq_ofNat_of_zero_le (by omega : 0 ≤ a)
  obtain ⟨y, rfl⟩ := Int.eq_ofNat_of_zero_le (by omega : 0 ≤ b)
  have := h.2.2
  rw [← Int.natCast_mul] at this
  exact ⟨x, y, rfl, rfl, by omega, by omega, by omega, by omega, by omega⟩
theorem rectL_yes {x y : Nat} (h : sides x y = true) : rectL x y = whereL (rectF y) (x * y) := by
  unfold rectL; rw [if_pos h]; simp
theorem rectL_no {a b : Int} (h : sides a b = false) : rectL a b = [] := by unfold rectL; rw [h]; rfl
def rectGoodChk (a b : Nat) : Bool := good (whereL (rectF b) (a * b))
theorem rectGood_chk : ((List.range 11).all fun a => (List.range 11).all fun b => decide (a * b = 0) || decide (10 < a * b) || rectGoodChk a b) = true := by decide +kernel
theorem rectGood {a b : Nat} (h1 : 1 ≤ a) (h2 : a ≤ 10) (h3 : 1 ≤ b) (h4 : b ≤ 10) (h5 : a * b ≤ 10) : good (whereL (rectF b) (a * b)) = true := by
  have h := List.all_eq_true.1 (List.all_eq_true.1 rectGood_chk a (List.mem_range.2 (by omega))) b (List.mem_range.2 (by omega))
  simp only [Bool.or_eq_true, decide_eq_true_eq] at h
  have h0 : 0 < a * b := Nat.mul_pos (by omega) (by omega)
  rcases h with (h | h) | h
  · omega
  · omega
  · exact h
theorem poSides_any (a b : Int) (w : World) (wa : (Lit.int .i64 a).wf = true) (wb : (Lit.int .i64 b).wf = true) :
    Calls Tryz.prog 132 #[.int .i64 a, .int .i64 b] w fun r w' => r = .returned (.bool (sides a b)) ∧ w = w' := by
  clear wa wb
  cases ha : (decide (1 ≤ a) && decide (a ≤ 10))
  · have Ha := hid ha
    have H : Hid (sides a b = false) := hid (by simp only [sides, ha, Bool.false_and])
    clear ha
    go_enter Tryz.func132, Tryz.ntmps132
    go_wp2_with (go_at_call 129; refine (l1In_any _ _ _ _).mono ?_; rw [Ha.out]; rintro e w' ⟨rfl, rfl⟩)
    go_ret
    exact ⟨ret_bool H.out.symm, rfl⟩
  · cases hb : (decide (1 ≤ b) && decide (b ≤ 10))
    · have Ha := hid ha
      have Hb := hid hb
      have H : Hid (sides a b = false) := hid (by simp only [sides, ha, hb, Bool.false_and, Bool.and_false])
      clear ha hb
      go_enter Tryz.func132, Tryz.ntmps132
      go_wp2_with fail
      refine (l1In_any _ _ _ _).mono ?_
      rw [Ha.out]
      rintro e w' ⟨rfl, rfl⟩
      go_wp2_with fail
      refine (l1In_any _ _ _ _).mono ?_
      rw [Hb.out]
      rintro e w' ⟨rfl, rfl⟩
      go_wp2
      go_ret
      exact ⟨ret_bool H.out.symm, rfl⟩
    · have Ha := hid ha
      have Hb := hid hb
      have H : Hid (sides a b = decide (a * b ≤ 10)) := hid (by simp only [sides, ha, hb, Bool.true_and])
      simp only [Bool.and_eq_true, decide_eq_true_eq] at ha hb
      have hm : 0 ≤ a * b ∧ a * b ≤ 100 := by
        obtain ⟨x, rfl⟩ := Int.eq_ofNat_of_zero_le (by omega : 0 ≤ a)
        obtain ⟨y, rfl⟩ := Int.eq_ofNat_of_zero_le (by omega : 0 ≤ b)
        have : x * y ≤ 10 * 10 := Nat.mul_le_mul (by omega) (by omega)
        rw [← Int.natCast_mul]
        omega
      obtain ⟨hm1, hm2⟩ := hm
      obtain ⟨q, hq⟩ : ∃ q, a * b = q := ⟨_, rfl⟩
      rw [hq] at hm1 hm2 H
      clear ha hb
      go_enter Tryz.func132, Tryz.ntmps132
      go_wp2_with fail
      refine (l1In_any _ _ _ _).mono ?_
      rw [Ha.out]
      rintro e w' ⟨rfl, rfl⟩
      go_wp2_with fail
      refine (l1In_any _ _ _ _).mono ?_
      rw [Hb.out]
      rintro e w' ⟨rfl, rfl⟩
      go_wp2
      go_ret
      exact ⟨ret_bool H.out.symm, rfl⟩
theorem poRectangle_any (a b : Nat) (w : World) (ha : 1 ≤ a) (ha2 : a ≤ 10) (hb1 : 1 ≤ b) (hb2 : b ≤ 10) (hab : a * b ≤ 10) :
    Calls Tryz.prog 126 #[.int .i64 a, .int .i64 b] w fun (r : Ending) w' => ∃ u, r = Ending.returned (.agg #[u]) ∧ OwnI 3 w' w.heap.size u (whereL (rectF b) (a * b)) ∧ Below w.heap.size w w' := by
  have HE := hid (rect_all a (by omega) b (by omega) ha hb1 hab)
  have HK := hid (rect_ok_all a (by omega) b (by omega) ha hb1 hab)
  have HM : Hid (∀ r, r < a → b * r + b ≤ 10) := hid (fun r hr => by
    have h : b * (r + 1) ≤ b * a := Nat.mul_le_mul (Nat.le_refl _) (by omega)
    rw [Nat.mul_comm b a, Nat.mul_add, Nat.mul_one] at h
    omega)
  have HAB := hid hab
  clear hab
  go_enter Tryz.func126, Tryz.ntmps126
  go_wp2
  go_loopw [5, 6] (fun p i wr => ∃ r : Nat, r ≤ a ∧ i = .int .i64 r ∧ Pairs 3 22 wr (w.heap.size + 1) p (rectPS a b r) ∧ Below (w.heap.size + 1) (w.alloc (.cells #[.slice none 0 0] 28)) wr) (fun _ i _ => a - (intOf i).toNat)
  case atStart => exact ⟨0, by omega, rfl, Pairs.nil _ _ _ _, Below.refl _ _⟩
  case round =>
    obtain ⟨r, hr, rfl, hP, hb⟩ := hrel
    have HPo := hid hP
    have HBr := hid hb
    clear hP hb
    by_cases hlt : r < a
    · obtain ⟨q, hq⟩ : ∃ q, b * r = q := ⟨_, rfl⟩
      have hq10 := HM.out r hlt
      rw [hq] at hq10
      have e1 : (b : Int) * (r : Int) = (q : Int) := by rw [← Int.natCast_mul, hq]
      have HQ := hid hq
      have hl1 := rectPS_length a b r hb2
      clear hq
      go_wp2
      go_loopw [5, 7] (fun p i wi => ∃ c : Nat, c ≤ b ∧ i = .int .i64 c ∧ Pairs 3 22 wi (w.heap.size + 1) p (rectPS a b r ++ rectIn a b q r c) ∧ Below (w.heap.size + 1) (w.alloc (.cells #[.slice none 0 0] 28)) wi) (fun _ i _ => b - (intOf i).toNat)
      case atStart => exact ⟨0, by omega, rfl, by simpa [rectIn] using HPo.out, HBr.out⟩
      case round =>
        obtain ⟨c, hc, rfl, hP, hb⟩ := hrel
        have hbz : w.heap.size + 1 ≤ wr.heap.size := by have := hb.size; simp at this; omega
        have hl2 := rectIn_length a b q r c
        obtain ⟨L, hL⟩ : ∃ L, rectPS a b r ++ rectIn a b q r c = L := ⟨_, rfl⟩
        rw [hL] at hP
        have hll : L.length ≤ 20 * r + 2 * c := by rw [← hL, List.length_append]; omega
        have HP := hid hP
        have HBo := hid hb
        have HLL := hid hL
        clear hP hb hL hl2
        by_cases hcb : c < b
        · have hcb' : (c : Int) < b := by omega
          by_cases h1 : r + 1 < a
          · have h1' : (r : Int) + 1 < a := by omega
            by_cases h2 : c + 1 < b
            · have h2' : (c : Int) + 1 < b := by omega
              have tok1 : True := trivial
              go_wp2_with (first | (at_builtin; have _t := tok1; refine wpList_append_pair rfl _ _ 163 22 3 rfl Tryz.underlying163 Tryz.info22 (by decide) (w.heap.size + 1) _ _ (q + c) (q + b + c) rfl HP.out rfl rfl (by omega) (by omega) ?_; intro q2 w2 hp2 hb2; clear tok1; have hz2 : w.heap.size + 1 ≤ w2.heap.size := Nat.le_trans hbz hb2.size; have HP2 := hid hp2; have HB2 := hid (HBo.out.trans hb2); clear hp2 hb2) | (at_builtin; refine wpList_append_pair rfl _ _ 163 22 3 rfl Tryz.underlying163 Tryz.info22 (by decide) (w.heap.size + 1) _ _ (q + c) (q + c + 1) rfl HP2.out rfl rfl (by simp; omega) (by omega) ?_; intro q3 w3 hp3 hb3))
              go_roundw
              case rel => exact ⟨c + 1, by omega, by go_num, by (rw [rectIn, rectStep, if_pos h1, if_pos h2, ← List.append_assoc, ← List.append_assoc, HLL.out]; exact hp3), HB2.out.trans hb3⟩
              case measure => simp [intOf]; omega
            · have h2' : ¬ (c : Int) + 1 < b := by omega
              go_wp2_with (at_builtin; refine wpList_append_pair rfl _ _ 163 22 3 rfl Tryz.underlying163 Tryz.info22 (by decide) (w.heap.size + 1) _ _ (q + c) (q + b + c) rfl HP.out rfl rfl (by omega) (by omega) ?_; intro q2 w2 hp2 hb2)
              go_roundw
              case rel => exact ⟨c + 1, by omega, by go_num, by (rw [rectIn, rectStep, if_pos h1, if_neg h2, ← List.append_assoc, ← List.append_assoc, HLL.out, List.append_nil]; exact hp2), HBo.out.trans hb2⟩
              case measure => simp [intOf]; omega
          · have h1' : ¬ (r : Int) + 1 < a := by omega
            by_cases h2 : c + 1 < b
            · have h2' : (c : Int) + 1 < b := by omega
              go_wp2_with (at_builtin; refine wpList_append_pair rfl _ _ 163 22 3 rfl Tryz.underlying163 Tryz.info22 (by decide) (w.heap.size + 1) _ _ (q + c) (q + c + 1) rfl HP.out rfl rfl (by omega) (by omega) ?_; intro q2 w2 hp2 hb2)
              go_roundw
              case rel => exact ⟨c + 1, by omega, by go_num, by (rw [rectIn, rectStep, if_neg h1, if_pos h2, List.nil_append, ← List.append_assoc, HLL.out]; exact hp2), HBo.out.trans hb2⟩
              case measure => simp [intOf]; omega
            · have h2' : ¬ (c : Int) + 1 < b := by omega
              go_wp2
              go_roundw
              case rel => exact ⟨c + 1, by omega, by go_num, by (rw [rectIn, rectStep, if_neg h1, if_neg h2, List.nil_append, ← List.append_assoc, HLL.out, List.append_nil]; exact HP.out), HBo.out⟩
              case measure => simp [intOf]; omega
        · obtain rfl : c = b := by omega
          go_wp2
          go_roundw
          case rel => exact ⟨r + 1, by omega, by go_num, by (rw [rectPS, HQ.out, HLL.out]; exact HP.out), HBo.out⟩
          case measure => simp [intOf]; omega
    · obtain rfl : r = a := by omega
      obtain ⟨n, hn⟩ : ∃ n, r * b = n := ⟨_, rfl⟩
      have e1 : (r : Int) * (b : Int) = (n : Int) := by rw [← Int.natCast_mul, hn]
      have hn10 : n ≤ 10 := by rw [← hn]; exact HAB.out
      have hl1 := rectPS_length r b r hb2
      have HE2 : Hid (fromL n (rectPS r b r) = whereL (rectF b) (r * b)) := hid (by rw [← hn]; exact HE.out)
      have HK2 : Hid (PairsOk n (rectPS r b r)) := hid (by rw [← hn]; exact HK.out)
      clear HE HK
      have hbz : w.heap.size + 1 ≤ wr.heap.size := by have := HBr.out.size; simp at this; omega
      clear hn
      go_wp2_with fail
      clear e1
      refine (poFrom_any _ _ n _ _ HPo.out hn10 HK2.out (by omega)).mono ?_
      rintro e w2 ⟨u, rfl, ho, hb2⟩
      have hr : Blk w2 w.heap.size 28 #[.slice none 0 0] := ((Blk.new w _ _).below HBr.out (Nat.lt_succ_self _)).below hb2 (by omega)
      have t1 := hr.cell 0
      have t2 := hr.frozen 0
      obtain ⟨uA, un, uc, rfl⟩ := ho.shape3
      have HO := hid ho
      have HB3 := hid (below_to (below_box HBr.out) hb2)
      clear hr ho hb2
      go_wp2
      refine bodyPost_ret (v := .agg #[.slice uA un uc]) (by simp [results, Tryz.results126, go_sem, t1]) rfl ⟨_, rfl, ?_, ?_⟩
      · rw [← HE2.out]
        refine (HO.out.grown (grown_setCell (World.grownBy.refl _ _) 0 _) ?_).mono (by omega)
        exact HO.out.apart (.inl (by omega))
      · exact HB3.out.setCell (p := ⟨w.heap.size, 0, none⟩) (Nat.le_refl _) _
theorem specRectangle_any (a b : Int) (w : World) (wa : (Lit.int .i64 a).wf = true) (wb : (Lit.int .i64 b).wf = true) :
    Calls Tryz.prog 72 #[.int .i64 a, .int .i64 b] w fun (r : Ending) w' => ∃ u, r = Ending.returned (.tuple #[.agg #[u], .bool (sides a b)]) ∧ OwnI 3 w' w.heap.size u (rectL a b) ∧ (rectL a b).length ≤ 1048576 ∧ Below w.heap.size w w' := by
  have HL := hid (rectL_length a b)
  have HS := hid (poSides_any a b · wa wb)
  clear wa wb
  cases hs : sides a b
  · have Hs := hid hs
    have HN := hid (rectL_no hs)
    clear hs
    go_enter Tryz.func72, Tryz.ntmps72
    go_wp2_with (go_at_call 132; refine (HS.out _).mono ?_; rw [Hs.out]; rintro e w' ⟨rfl, rfl⟩)
    refine bodyPost_ret (v := .tuple #[.agg #[.slice none 0 0], .bool false]) (by simp [results, Tryz.results72, go_sem]) rfl ⟨_, rfl, by rw [HN.out]; exact OwnI.nil _ _ _, HL.out, ?_⟩
    exact (Below.refl _ _).alloc (Nat.le_refl _) _
  · obtain ⟨x, y, rfl, rfl, h1, h2, h3, h4, h5⟩ := sides_nat hs
    have Hs := hid hs
    have HY := hid (rectL_yes hs)
    have H5 := hid h5
    clear hs h5
    go_enter Tryz.func72, Tryz.ntmps72
    go_wp2_with fail
    refine (HS.out _).mono ?_
    rw [Hs.out]
    rintro e w' ⟨rfl, rfl⟩
    go_wp2_with fail
    refine (poRectangle_any x y _ h1 h2 h3 h4 H5.out).mono ?_
    rintro e w2 ⟨u, rfl, ho, hb2⟩
    have hr : Blk w2 w.heap.size 28 #[.slice none 0 0] := (Blk.new w _ _).below hb2 (by simp)
    have t1 := hr.cell 0
    have t2 := hr.frozen 0
    obtain ⟨uA, un, uc, rfl⟩ := ho.shape3
    have HO := hid ho
    have HB3 := hid (below_to (below_alloc (Below.refl _ _) _) hb2)
    clear hr ho hb2
    go_wp2
    refine bodyPost_ret (v := .tuple #[.agg #[.slice uA un uc], .bool true]) (by simp [results, Tryz.results72, go_sem, t1]) rfl ⟨_, rfl, ?_, HL.out, ?_⟩
    · rw [HY.out]
      refine (HO.out.grown (grown_setCell (World.grownBy.refl _ _) 0 _) ?_).mono (by simp)
      exact HO.out.apart (.inl (by simp))
    · exact HB3.out.setCell (p := ⟨w.heap.size, 0, none⟩) (Nat.le_refl _) _
theorem rectClosure_any (b a j i : Nat) (w : World) (h1 : At w a (.int .i64 (b : Int))) (hb : 1 ≤ b) (hb2 : b ≤ 10) (hj : j < i) (hi : i < 10) :
    Calls Tryz.prog 160 #[.int .i64 j, .int .i64 i, .pointer (some ⟨a, 0, none⟩)] w fun r w' => r = .returned (.bool (rectF b j i)) ∧ Below w.heap.size w w' := by
  obtain ⟨h1, -⟩ := h1
  obtain ⟨p, hp⟩ : ∃ p, j / b = p := ⟨_, rfl⟩
  obtain ⟨q, hq⟩ : ∃ q, i / b = q := ⟨_, rfl⟩
  obtain ⟨y, hy⟩ : ∃ y, j % b = y := ⟨_, rfl⟩
  obtain ⟨z, hz⟩ : ∃ z, i % b = z := ⟨_, rfl⟩
  have e1 : (j : Int) / (b : Int) = (p : Int) := by rw [← Int.natCast_ediv, hp]
  have e2 : (i : Int) / (b : Int) = (q : Int) := by rw [← Int.natCast_ediv, hq]
  have e3 : (j : Int) % (b : Int) = (y : Int) := by rw [← Int.natCast_emod, hy]
  have e4 : (i : Int) % (b : Int) = (z : Int) := by rw [← Int.natCast_emod, hz]
  have f1 : (j : Int).tdiv (b : Int) = (p : Int) := by rw [Int.tdiv_eq_ediv_of_nonneg (by omega)]; exact e1
  have f2 : (i : Int).tdiv (b : Int) = (q : Int) := by rw [Int.tdiv_eq_ediv_of_nonneg (by omega)]; exact e2
  have f3 : (j : Int).tmod (b : Int) = (y : Int) := by rw [Int.tmod_eq_emod_of_nonneg (by omega)]; exact e3
  have f4 : (i : Int).tmod (b : Int) = (z : Int) := by rw [Int.tmod_eq_emod_of_nonneg (by omega)]; exact e4
  have hb0 : ((b : Int) == 0) = false := by rw [beq_eq_false_iff_ne]; omega
  have hb3 : ¬ ((b : Int) = 0) := by omega
  have hb4 : ¬ (b = 0) := by omega
  have hp10 : p ≤ 10 := by rw [← hp]; exact Nat.le_trans (Nat.div_le_self _ _) (by omega)
  have hq10 : q ≤ 10 := by rw [← hq]; exact Nat.le_trans (Nat.div_le_self _ _) (by omega)
  have w1 : IntKind.i64.wrap (p : Int) = (p : Int) := IntWalk.i64_in _ (by omega)
  have w2 : IntKind.i64.wrap (q : Int) = (q : Int) := IntWalk.i64_in _ (by omega)
  have H : Hid (rectF b j i = (decide (p ≤ q) && decide (y ≤ z))) := by unfold Hid rectF; rw [hp, hq, hy, hz]
  clear hp hq hy hz
  by_cases c1 : p ≤ q
  · have d1 : decide (p ≤ q) = true := by rw [decide_eq_true_eq]; omega
    have H2 : Hid (rectF b j i = decide (y ≤ z)) := by
      unfold Hid; rw [H.out, decide_eq_true c1, Bool.true_and]
    clear c1 H
    go_enter Tryz.func160, Tryz.ntmps160
    go_wp2
    go_quiet (fail)
    go_wp2
    go_ret
    exact ⟨ret_bool H2.out.symm, below_drewN (Below.refl _ _) _⟩
  · have d1 : decide (p ≤ q) = false := by rw [decide_eq_false_iff_not]; omega
    have H2 : Hid (rectF b j i = false) := by
      unfold Hid; rw [H.out, decide_eq_false c1, Bool.false_and]
    clear c1 H
    go_enter Tryz.func160, Tryz.ntmps160
    go_wp2
    go_quiet (fail)
    go_wp2
    go_ret
    exact ⟨ret_bool H2.out.symm, below_drewN (Below.refl _ _) _⟩
theorem implRectangle_no (a b : Int) (w : World) (hs : sides a b = false) (wa : (Lit.int .i64 a).wf = true) (wb : (Lit.int .i64 b).wf = true) :
    Calls Tryz.prog 100 #[.int .i64 a, .int .i64 b] w fun (r : Ending) w' => ∃ u, r = Ending.returned (.tuple #[.agg #[u], .bool false]) ∧ OwnI 3 w' w.heap.size u (rectL a b) ∧ (rectL a b).length ≤ 1048576 ∧ Below w.heap.size w w' := by
  have HL := hid (rectL_length a b)
  have HN := hid (rectL_no hs)
  have Hs := hid hs
  have Wa := hid wa
  have Wb := hid wb
  clear hs wa wb
  by_cases c1 : a < 1
  · have d1 : decide (a < 1) = true := by simpa using c1
    go_enter Tryz.func100, Tryz.ntmps100
    go_wp2
    go_quiet (fail)
    go_wp2
    refine bodyPost_ret (v := .tuple #[.agg #[.slice none 0 0], .bool false]) (by simp [results, Tryz.results100, go_sem]) rfl ⟨_, rfl, by rw [HN.out]; exact OwnI.nil _ _ _, HL.out, ?_⟩
    exact (below_drewN (below_alloc (below_alloc (Below.refl _ _) _) _) _).setCell (p := ⟨w.heap.size + 1, 0, none⟩) (by show w.heap.size ≤ w.heap.size + 1; omega) _
  · by_cases c2 : b < 1
    · have d1 : decide (a < 1) = false := by simpa using c1
      have d2 : decide (b < 1) = true := by simpa using c2
      go_enter Tryz.func100, Tryz.ntmps100
      go_wp2
      go_quiet (fail)
      go_wp2
      refine bodyPost_ret (v := .tuple #[.agg #[.slice none 0 0], .bool false]) (by simp [results, Tryz.results100, go_sem]) rfl ⟨_, rfl, by rw [HN.out]; exact OwnI.nil _ _ _, HL.out, ?_⟩
      exact (below_drewN (below_alloc (below_alloc (Below.refl _ _) _) _) _).setCell (p := ⟨w.heap.size + 1, 0, none⟩) (by show w.heap.size ≤ w.heap.size + 1; omega) _
    · have c3 : (10 : Int) / a < b := by
        obtain ⟨x, rfl⟩ := Int.eq_ofNat_of_zero_le (by omega : 0 ≤ a)
        obtain ⟨y, rfl⟩ := Int.eq_ofNat_of_zero_le (by omega : 0 ≤ b)
        have hx : 1 ≤ x := by omega
        have hy : 1 ≤ y := by omega
        have : 10 / x < y := by
          rw [Nat.div_lt_iff_lt_mul (by omega)]
          rcases Nat.lt_or_ge 10 (y * x) with h | h
          · exact h
          · exfalso
            have hx2 : x ≤ y * x := Nat.le_mul_of_pos_left x (by omega)
            have hy2 : y ≤ y * x := Nat.le_mul_of_pos_right y (by omega)
            have h2 := Hs.out
            rw [Bool.eq_false_iff] at h2
            apply h2
            simp only [sides, Bool.and_eq_true, decide_eq_true_eq]
            rw [← Int.natCast_mul, Nat.mul_comm x y]
            omega
        have e : (10 : Int) / (x : Int) = ((10 / x : Nat) : Int) := by simp
        rw [e]; omega
      have d1 : decide (a < 1) = false := by simpa using c1
      have d2 : decide (b < 1) = false := by simpa using c2
      have d3 : decide ((10 : Int) / a < b) = true := by simpa using c3
      have c1' : 1 ≤ a := by omega
      clear c1 c2
      go_enter Tryz.func100, Tryz.ntmps100
      go_wp2
      go_quiet (fail)
      go_wp2
      refine bodyPost_ret (v := .tuple #[.agg #[.slice none 0 0], .bool false]) (by simp [results, Tryz.results100, go_sem]) rfl ⟨_, rfl, by rw [HN.out]; exact OwnI.nil _ _ _, HL.out, ?_⟩
      exact (below_drewN (below_alloc (below_alloc (Below.refl _ _) _) _) _).setCell (p := ⟨w.heap.size + 1, 0, none⟩) (by show w.heap.size ≤ w.heap.size + 1; omega) _
theorem implRectangle_yes (x y : Nat) (w : World) (hs : sides x y = true) (h1 : 1 ≤ x) (h2 : x ≤ 10) (h3 : 1 ≤ y) (h4 : y ≤ 10) (h5 : x * y ≤ 10) :
    Calls Tryz.prog 100 #[.int .i64 x, .int .i64 y] w fun (r : Ending) w' => ∃ u, r = Ending.returned (.tuple #[.agg #[u], .bool true]) ∧ OwnI 3 w' w.heap.size u (rectL x y) ∧ (rectL x y).length ≤ 1048576 ∧ Below w.heap.size w w' := by
  have HL := hid (rectL_length x y)
  have HY := hid (rectL_yes hs)
  have d1 : decide ((x : Int) < 1) = false := by simp; omega
  have d2 : decide ((y : Int) < 1) = false := by simp; omega
  have d3 : decide ((10 : Int) / (x : Int) < (y : Int)) = false := by
    have : ¬ 10 / x < y := by
      rw [Nat.div_lt_iff_lt_mul (by omega), Nat.mul_comm y x]; omega
    have e : (10 : Int) / (x : Int) = ((10 / x : Nat) : Int) := by simp
    rw [e, decide_eq_false_iff_not]; omega
  obtain ⟨n, hn⟩ : ∃ n, x * y = n := ⟨_, rfl⟩
  have e1 : (x : Int) * (y : Int) = (n : Int) := by rw [← Int.natCast_mul, hn]
  rw [hn] at HY h5
  clear hs hn
  go_enter Tryz.func100, Tryz.ntmps100
  go_wp2
  go_quiet (fail)
  go_wp2_with fail
  clear e1 d1 d2 d3
  obtain ⟨W, hW⟩ : ∃ W : World, W = (((w.alloc (.cells #[.int .i64 (y : Int)] 3)).alloc (.cells #[.slice none 0 0] 28)).drewN nq) := ⟨_, rfl⟩
  have HA2 : Hid (At W w.heap.size (.int .i64 (y : Int))) := hid (by subst hW; exact ((At.new _ _ _).alloc _).drewN _)
  have HR2 : Hid (Blk W (w.heap.size + 1) 28 #[.slice none 0 0]) := hid (by subst hW; exact Blk.newAt _ _ _ _ (by simp))
  have HB2 : Hid (Below w.heap.size w W) := hid (by subst hW; exact below_drewN (below_alloc (below_alloc (Below.refl _ _) _) _) _)
  have hzW : w.heap.size + 1 < W.heap.size := by subst hW; simp
  rw [← hW]
  clear hW
  refine (posetWhereRectangle_any n _ (rectF y) W h5 (fun j i W' hj hi hb => rectClosure_any y w.heap.size j i W' (HA2.out.below hb) h3 h4 hj (by omega))).mono ?_
  rintro e w2 ⟨u, rfl, ho, hb2⟩
  have hr := HR2.out.below hb2 (by omega)
  have t1 := hr.cell 0
  have t2 := hr.frozen 0
  obtain ⟨uA, un, uc, rfl⟩ := ho.shape3
  have HO := hid ho
  have HB3 := hid (below_to HB2.out hb2)
  clear hr ho hb2
  go_wp2
  refine bodyPost_ret (v := .tuple #[.agg #[.slice uA un uc], .bool true]) (by simp [results, Tryz.results100, go_sem, t1]) rfl ⟨_, rfl, ?_, HL.out, ?_⟩
  · rw [HY.out]
    refine (HO.out.grown (grown_setCell (World.grownBy.refl _ _) 0 _) ?_).mono (by omega)
    exact HO.out.apart (.inl (by omega))
  · exact HB3.out.setCell (p := ⟨w.heap.size + 1, 0, none⟩) (by show w.heap.size ≤ w.heap.size + 1; omega) _
theorem implRectangle_any (a b : Int) (w : World) (wa : (Lit.int .i64 a).wf = true) (wb : (Lit.int .i64 b).wf = true) :
    Calls Tryz.prog 100 #[.int .i64 a, .int .i64 b] w fun (r : Ending) w' => ∃ u, r = Ending.returned (.tuple #[.agg #[u], .bool (sides a b)]) ∧ OwnI 3 w' w.heap.size u (rectL a b) ∧ (rectL a b).length ≤ 1048576 ∧ Below w.heap.size w w' := by
  cases hs : sides a b
  · exact implRectangle_no a b w hs wa wb
  · obtain ⟨x, y, rfl, rfl, h1, h2, h3, h4, h5⟩ := sides_nat hs
    exact implRectangle_yes x y w hs h1 h2 h3 h4 h5
end Go.Proofs.YtbmhaamenjhjfaaGreatDoor
namespace Go.Proofs.YtbmhaamenjhjfaaGreatDoor
open Go.RowKit Go.WideShapes Go.ChangeShapes
set_option linter.unusedVariables false
def fencePS (low : Nat) : Nat → List (Nat × Nat)
  | 0 => []
  | h + 1 => if h + 1 < low then (fencePS low h ++ [(h, low + h)]) ++ [(h + 1, low + h)] else fencePS low h ++ [(h, low + h)]
theorem fencePS_length (low h : Nat) : (fencePS low h).length ≤ 2 * h := by
  induction h with
  | zero => simp [fencePS]
  | succ h ih => unfold fencePS; split <;> simp <;> omega
def fenceF (low : Nat) (j i : Nat) : Bool := decide (low ≤ i) && (decide (j < low) && (decide (j = i - low) || decide (j = i - low + 1)))
def fenceL (n : Int) : List Int := if 1 ≤ n ∧ n ≤ 10 then whereL (fenceF ((n.toNat + 1) / 2)) n.toNat else []
theorem fence_eq (n : Nat) (h1 : 1 ≤ n) (h2 : n ≤ 10) : fromL n (fencePS ((n + 1) / 2) (n - (n + 1) / 2)) = whereL (fenceF ((n + 1) / 2)) n := by
  rcases (by omega : n = 1 ∨ n = 2 ∨ n = 3 ∨ n = 4 ∨ n = 5 ∨ n = 6 ∨ n = 7 ∨ n = 8 ∨ n = 9 ∨ n = 10) with rfl | rfl | rfl | rfl | rfl | rfl | rfl | rfl | rfl | rfl <;> decide +kernel
theorem fence_ok (n : Nat) (h1 : 1 ≤ n) (h2 : n ≤ 10) : PairsOk n (fencePS ((n + 1) / 2) (n - (n + 1) / 2)) := by
  rcases (by omega : n = 1 ∨ n = 2 ∨ n = 3 ∨ n = 4 ∨ n = 5 ∨ n = 6 ∨ n = 7 ∨ n = 8 ∨ n = 9 ∨ n = 10) with rfl | rfl | rfl | rfl | rfl | rfl | rfl | rfl | rfl | rfl <;> (unfold PairsOk; decide +kernel)
theorem fenceL_length (n : Int) : (fenceL n).length ≤ 1048576 := by
  unfold fenceL
  split
  · unfold whereL; rw [mkL_length]; omega
  · simp
theorem fenceL_yes {n : Nat} (h1 : 1 ≤ n) (h2 : n ≤ 10) : fenceL n = whereL (fenceF ((n + 1) / 2)) n := by
  unfold fenceL
  rw [if_pos (by omega), Int.toNat_natCast]
theorem fenceL_no {n : Int} (h : ¬ (1 ≤ n ∧ n ≤ 10)) : fenceL n = [] := if_neg h
theorem fenceClosure_any (low a j i : Nat) (w : World) (h1 : At w a (.int .i64 (low : Int))) (hj : j < i) (hi : i < 10) (hlow : low ≤ 10) :
    Calls Tryz.prog 163 #[.int .i64 j, .int .i64 i, .pointer (some ⟨a, 0, none⟩)] w fun r w' => r = .returned (.bool (fenceF low j i)) ∧ Below w.heap.size w w' := by
  obtain ⟨h1, -⟩ := h1
  by_cases c1 : low ≤ i
  · by_cases c2 : j < low
    · obtain ⟨d, hd⟩ : ∃ d, i - low = d := ⟨_, rfl⟩
      have e1 : IntKind.i64.wrap ((i : Int) - (low : Int)) = (d : Int) := by rw [IntWalk.i64_in _ (by omega)]; omega
      have e2 : (i : Int) - (low : Int) = (d : Int) := by omega
      have H : Hid (fenceF low j i = (decide (j = d) || decide (j = d + 1))) := by unfold Hid fenceF; simp [c1, c2, hd]
      by_cases c3 : j = d
      · have b1 : ((j : Int) == (d : Int)) = true := by rw [beq_iff_eq]; omega
        have H2 : Hid (fenceF low j i = true) := by unfold Hid; rw [H.out]; simp [c3]
        clear hd c3 H
        go_enter Tryz.func163, Tryz.ntmps163
        go_wp2
        go_ret
        exact ⟨ret_bool H2.out.symm, Below.refl _ _⟩
      · have b1 : ((j : Int) == (d : Int)) = false := by rw [beq_eq_false_iff_ne]; omega
        by_cases c4 : j = d + 1
        · have b2 : ((j : Int) == (d : Int) + 1) = true := by rw [beq_iff_eq]; omega
          have H2 : Hid (fenceF low j i = true) := by unfold Hid; rw [H.out]; simp [c4]
          clear hd c3 c4 H
          go_enter Tryz.func163, Tryz.ntmps163
          go_wp2
          go_ret
          exact ⟨ret_bool H2.out.symm, Below.refl _ _⟩
        · have b2 : ((j : Int) == (d : Int) + 1) = false := by rw [beq_eq_false_iff_ne]; omega
          have H2 : Hid (fenceF low j i = false) := by unfold Hid; rw [H.out]; simp [c3, c4]
          clear hd c3 c4 H
          go_enter Tryz.func163, Tryz.ntmps163
          go_wp2
          go_ret
          exact ⟨ret_bool H2.out.symm, Below.refl _ _⟩
    · have H2 : Hid (fenceF low j i = false) := by unfold Hid fenceF; simp [c2]
      go_enter Tryz.func163, Tryz.ntmps163
      go_wp2
      go_ret
      exact ⟨ret_bool H2.out.symm, Below.refl _ _⟩
  · have H2 : Hid (fenceF low j i = false) := by unfold Hid fenceF; simp [c1]
    go_enter Tryz.func163, Tryz.ntmps163
    go_wp2
    go_ret
    exact ⟨ret_bool H2.out.symm, Below.refl _ _⟩
theorem specFence_any (n : Int) (w : World) (wf : (Lit.int .i64 n).wf = true) :
    Calls Tryz.prog 74 #[.int .i64 n] w fun (r : Ending) w' => ∃ u, r = Ending.returned (.tuple #[.agg #[u], .bool (decide (1 ≤ n) && decide (n ≤ 10))]) ∧ OwnI 3 w' w.heap.size u (fenceL n) ∧ (fenceL n).length ≤ 1048576 ∧ Below w.heap.size w w' := by
  have HL := hid (fenceL_length n)
  clear wf
  by_cases hn : 1 ≤ n ∧ n ≤ 10
  · obtain ⟨m, rfl⟩ := Int.eq_ofNat_of_zero_le (by omega : 0 ≤ n)
    have h1 : 1 ≤ m := by omega
    have h2 : m ≤ 10 := by omega
    have hd : (decide ((1 : Int) ≤ (m : Int)) && decide ((m : Int) ≤ 10)) = true := by simp; omega
    have HY := hid (fenceL_yes h1 h2)
    have HE := hid (fence_eq m h1 h2)
    have HK := hid (fence_ok m h1 h2)
    rw [hd]
    have Hd := hid hd
    obtain ⟨low, hlow⟩ : ∃ low, (m + 1) / 2 = low := ⟨_, rfl⟩
    have e1 : ((m : Int) + 1) / 2 = (low : Int) := by omega
    have hl1 : low ≤ m := by omega
    rw [hlow] at HY HE HK
    clear hd hn hlow
    go_enter Tryz.func74, Tryz.ntmps74
    go_wp2_with (go_at_call 129; refine (l1In_any _ _ _ _).mono ?_; rw [Hd.out]; rintro e w' ⟨rfl, rfl⟩)
    rw [e1]
    clear e1
    go_loopw [5, 6] (fun q i wr => ∃ h : Nat, low + h ≤ m ∧ i = .int .i64 h ∧ Pairs 3 22 wr (w.heap.size + 1) q (fencePS low h) ∧ Below (w.heap.size + 1) (w.alloc (.cells #[.slice none 0 0] 28)) wr) (fun _ i _ => m - (intOf i).toNat)
    case atStart => exact ⟨0, by omega, rfl, Pairs.nil _ _ _ _, Below.refl _ _⟩
    case round =>
      obtain ⟨h, hh, rfl, hP, hb⟩ := hrel
      have hbz : w.heap.size + 1 ≤ wr.heap.size := by have := hb.size; simp at this; omega
      have hlen := fencePS_length low h
      have HP := hid hP
      have HB := hid hb
      clear hP hb
      by_cases hlt : low + h < m
      · have hlt' : (low : Int) + (h : Int) < m := by omega
        by_cases h3 : h + 1 < low
        · have h3' : (h : Int) + 1 < low := by omega
          have tok1 : True := trivial
          go_wp2_with (first | (at_builtin; have _t := tok1; refine wpList_append_pair rfl _ _ 163 22 3 rfl Tryz.underlying163 Tryz.info22 (by decide) (w.heap.size + 1) _ _ h (low + h) rfl HP.out rfl rfl (by omega) (by omega) ?_; intro q2 w2 hp2 hb2; clear tok1; have hz2 : w.heap.size + 1 ≤ w2.heap.size := Nat.le_trans hbz hb2.size; have HP2 := hid hp2; have HB2 := hid (HB.out.trans hb2); clear hp2 hb2) | (at_builtin; refine wpList_append_pair rfl _ _ 163 22 3 rfl Tryz.underlying163 Tryz.info22 (by decide) (w.heap.size + 1) _ _ (h + 1) (low + h) rfl HP2.out rfl rfl (by simp; omega) (by omega) ?_; intro q3 w3 hp3 hb3))
          go_roundw
          case rel => exact ⟨h + 1, by omega, by go_num, by rw [fencePS, if_pos h3]; exact hp3, HB2.out.trans hb3⟩
          case measure => simp [intOf]; omega
        · have h3' : ¬ (h : Int) + 1 < low := by omega
          go_wp2_with (at_builtin; refine wpList_append_pair rfl _ _ 163 22 3 rfl Tryz.underlying163 Tryz.info22 (by decide) (w.heap.size + 1) _ _ h (low + h) rfl HP.out rfl rfl (by omega) (by omega) ?_; intro q2 w2 hp2 hb2)
          go_roundw
          case rel => exact ⟨h + 1, by omega, by go_num, by rw [fencePS, if_neg h3]; exact hp2, HB.out.trans hb2⟩
          case measure => simp [intOf]; omega
      · obtain rfl : m = low + h := by omega
        have hsub : low + h - low = h := by omega
        rw [hsub] at HE HK
        have hlt' : ¬ (low : Int) + (h : Int) < ((low + h : Nat) : Int) := by omega
        have HS := hid hsub
        have hbx := box_cell HB.out 0
        have hbf : wr.frozen? ⟨w.heap.size, 0, none⟩ = false := by rw [HB.out.frozen (p := ⟨w.heap.size, 0, none⟩) (Nat.lt_succ_self _)]; exact (Blk.new w 28 #[.slice none 0 0]).frozen 0
        clear hsub hbx hbf
        go_wp2_with fail
        refine (poFrom_any _ _ (low + h) _ _ HP.out h2 HK.out (by omega)).mono ?_
        rintro e w2 ⟨u, rfl, ho, hb2⟩
        have hr : Blk w2 w.heap.size 28 #[.slice none 0 0] := ((Blk.new w _ _).below HB.out (Nat.lt_succ_self _)).below hb2 (by omega)
        have t1 := hr.cell 0
        have t2 := hr.frozen 0
        obtain ⟨uA, un, uc, rfl⟩ := ho.shape3
        have HO := hid ho
        have HB3 := hid (below_to (below_box HB.out) hb2)
        clear hr ho hb2
        go_wp2
        refine bodyPost_ret (v := .tuple #[.agg #[.slice uA un uc], .bool true]) (by simp [results, Tryz.results74, go_sem, t1]) rfl ⟨_, rfl, ?_, HL.out, ?_⟩
        · rw [HY.out, ← HE.out]
          refine (HO.out.grown (grown_setCell (World.grownBy.refl _ _) 0 _) ?_).mono (by omega)
          exact HO.out.apart (.inl (by omega))
        · exact HB3.out.setCell (p := ⟨w.heap.size, 0, none⟩) (Nat.le_refl _) _
  · have hd : (decide ((1 : Int) ≤ n) && decide (n ≤ 10)) = false := by rw [Bool.eq_false_iff]; simp; omega
    have HN := hid (fenceL_no hn)
    rw [hd]
    have Hd := hid hd
    clear hd hn
    go_enter Tryz.func74, Tryz.ntmps74
    go_wp2_with (go_at_call 129; refine (l1In_any _ _ _ _).mono ?_; rw [Hd.out]; rintro e w' ⟨rfl, rfl⟩)
    refine bodyPost_ret (v := .tuple #[.agg #[.slice none 0 0], .bool false]) (by simp [results, Tryz.results74, go_sem]) rfl ⟨_, rfl, by rw [HN.out]; exact OwnI.nil _ _ _, HL.out, ?_⟩
    exact (Below.refl _ _).alloc (Nat.le_refl _) _
theorem implFence_any (n : Int) (w : World) (wf : (Lit.int .i64 n).wf = true) :
    Calls Tryz.prog 102 #[.int .i64 n] w fun (r : Ending) w' => ∃ u, r = Ending.returned (.tuple #[.agg #[u], .bool (decide (1 ≤ n) && decide (n ≤ 10))]) ∧ OwnI 3 w' w.heap.size u (fenceL n) ∧ (fenceL n).length ≤ 1048576 ∧ Below w.heap.size w w' := by
  have HL := hid (fenceL_length n)
  clear wf
  by_cases hn : 1 ≤ n ∧ n ≤ 10
  · obtain ⟨m, rfl⟩ := Int.eq_ofNat_of_zero_le (by omega : 0 ≤ n)
    have h1 : 1 ≤ m := by omega
    have h2 : m ≤ 10 := by omega
    have hd : (decide ((1 : Int) ≤ (m : Int)) && decide ((m : Int) ≤ 10)) = true := by simp; omega
    have HY := hid (fenceL_yes h1 h2)
    rw [hd]
    have Hd := hid hd
    obtain ⟨low, hlow⟩ : ∃ low, (m + 1) / 2 = low := ⟨_, rfl⟩
    have e1 : ((m : Int) + 1) / 2 = (low : Int) := by omega
    have hl1 : low ≤ m := by omega
    rw [hlow] at HY
    clear hd hn hlow
    go_enter Tryz.func102, Tryz.ntmps102
    go_wp2_with (go_at_call 162; refine (isSize_any _ _).mono ?_; rw [Hd.out]; rintro e w' ⟨rfl, rfl⟩)
    rw [e1]
    obtain ⟨W, hW⟩ : ∃ W : World, W = (w.alloc (.cells #[.slice none 0 0] 28)).alloc (.cells #[.int .i64 (low : Int)] 3) := ⟨_, rfl⟩
    have HA2 : Hid (At W (w.heap.size + 1) (.int .i64 (low : Int))) := hid (by subst hW; exact At.newAt _ _ _ _ (by simp))
    have HR2 : Hid (Blk W w.heap.size 28 #[.slice none 0 0]) := hid (by subst hW; exact Blk.alloc (Blk.new _ _ _) _)
    have HB2 : Hid (Below w.heap.size w W) := hid (by subst hW; exact below_alloc (below_alloc (Below.refl _ _) _) _)
    have hzW : w.heap.size + 1 < W.heap.size := by subst hW; simp
    rw [← hW]
    clear hW e1
    refine (posetWhereFence_any m _ (fenceF low) W h2 (fun j i W' hj hi hb => fenceClosure_any low (w.heap.size + 1) j i W' (HA2.out.below hb) hj (by omega) (by omega))).mono ?_
    rintro e w2 ⟨u, rfl, ho, hb2⟩
    have hr := HR2.out.below hb2 (by omega)
    have t1 := hr.cell 0
    have t2 := hr.frozen 0
    obtain ⟨uA, un, uc, rfl⟩ := ho.shape3
    have HO := hid ho
    have HB3 := hid (below_to HB2.out hb2)
    clear hr ho hb2
    go_wp2
    refine bodyPost_ret (v := .tuple #[.agg #[.slice uA un uc], .bool true]) (by simp [results, Tryz.results102, go_sem, t1]) rfl ⟨_, rfl, ?_, HL.out, ?_⟩
    · rw [HY.out]
      refine (HO.out.grown (grown_setCell (World.grownBy.refl _ _) 0 _) ?_).mono (by omega)
      exact HO.out.apart (.inl (by omega))
    · exact HB3.out.setCell (p := ⟨w.heap.size, 0, none⟩) (Nat.le_refl _) _
  · have hd : (decide ((1 : Int) ≤ n) && decide (n ≤ 10)) = false := by rw [Bool.eq_false_iff]; simp; omega
    have HN := hid (fenceL_no hn)
    rw [hd]
    have Hd := hid hd
    clear hd hn
    go_enter Tryz.func102, Tryz.ntmps102
    go_wp2_with (go_at_call 162; refine (isSize_any _ _).mono ?_; rw [Hd.out]; rintro e w' ⟨rfl, rfl⟩)
    refine bodyPost_ret (v := .tuple #[.agg #[.slice none 0 0], .bool false]) (by simp [results, Tryz.results102, go_sem]) rfl ⟨_, rfl, by rw [HN.out]; exact OwnI.nil _ _ _, HL.out, ?_⟩
    exact (Below.refl _ _).alloc (Nat.le_refl _) _
end Go.Proofs.YtbmhaamenjhjfaaGreatDoor
