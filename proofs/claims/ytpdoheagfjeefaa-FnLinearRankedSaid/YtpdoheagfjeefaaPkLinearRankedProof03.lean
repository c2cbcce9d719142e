/- Texts Rect, Fence, StairS, one behind the other. -/
import Derived.BigQuiet
import Derived.Test.YtpdoheagfjeefaaPkLinearRankedProof02
/- Rectangle. -/
namespace Go.Proofs.Ytpdoheagfjeefaa
open Go.RowKit Go.WideShapes Go.ChangeShapes
set_option linter.unusedVariables false

def rectStep (a b q r c : Nat) : List (Nat × Nat) := (if r + 1 < a then [(q + c, q + b + c)] else []) ++ (if c + 1 < b then [(q + c, q + c + 1)] else [])
def rectIn (a b q r : Nat) : Nat → List (Nat × Nat)
  | 0 => []
  | c + 1 => rectIn a b q r c ++ rectStep a b q r c
def rectPS (a b : Nat) : Nat → List (Nat × Nat)
  | 0 => []
  | r + 1 => rectPS a b r ++ rectIn a b (b * r) r b
theorem rectIn_length (a b q r c : Nat) : (rectIn a b q r c).length ≤ 2 * c := by
  induction c with
  | zero => simp [rectIn]
  | succ c ih =>
    unfold rectIn rectStep
    rw [List.length_append, List.length_append]
    split <;> split <;> simp <;> omega
theorem rectPS_length (a b r : Nat) (hb : b ≤ 10) : (rectPS a b r).length ≤ 20 * r := by
  induction r with
  | zero => simp [rectPS]
  | succ r ih =>
    unfold rectPS
    have := rectIn_length a b (b * r) r b
    rw [List.length_append]
    omega
def rectF (b : Nat) (j i : Nat) : Bool := decide (j / b ≤ i / b) && decide (j % b ≤ i % b)
def rectChk (a b : Nat) : Bool := decide (fromL (a * b) (rectPS a b a) = whereL (rectF b) (a * b)) && (List.range (rectPS a b a).length).all fun k => decide (((rectPS a b a).getD k (0, 0)).1 < a * b) && decide (((rectPS a b a).getD k (0, 0)).2 < a * b)
theorem rect_chk : ((List.range 11).all fun a => (List.range 11).all fun b => decide (a * b = 0) || decide (10 < a * b) || rectChk a b) = true := by decide +kernel
theorem rect_at {a b : Nat} (ha : a < 11) (hb : b < 11) (h1 : 1 ≤ a) (h2 : 1 ≤ b) (h : a * b ≤ 10) : rectChk a b = true := by
  have h3 := List.all_eq_true.1 (List.all_eq_true.1 rect_chk a (List.mem_range.2 ha)) b (List.mem_range.2 hb)
  have h4 : a * b ≠ 0 := Nat.pos_iff_ne_zero.1 (Nat.mul_pos h1 h2)
  simp only [Bool.or_eq_true, decide_eq_true_eq] at h3
  rcases h3 with (h3 | h3) | h3
  · exact absurd h3 h4
  · omega
  · exact h3
theorem rect_all (a : Nat) (ha : a < 11) (b : Nat) (hb : b < 11) (h1 : 1 ≤ a) (h2 : 1 ≤ b) (h : a * b ≤ 10) : fromL (a * b) (rectPS a b a) = whereL (rectF b) (a * b) := by
  have := rect_at ha hb h1 h2 h
  simp only [rectChk, Bool.and_eq_true, decide_eq_true_eq] at this
  exact this.1
theorem rect_ok_all (a : Nat) (ha : a < 11) (b : Nat) (hb : b < 11) (h1 : 1 ≤ a) (h2 : 1 ≤ b) (h : a * b ≤ 10) : PairsOk (a * b) (rectPS a b a) := by
  have := rect_at ha hb h1 h2 h
  simp only [rectChk, Bool.and_eq_true, decide_eq_true_eq] at this
  intro k hk
  have h3 := List.all_eq_true.1 this.2 k (List.mem_range.2 hk)
  simpa only [Bool.and_eq_true, decide_eq_true_eq] using h3
/-- are a and b the sides of a rectangle? -/
def sides (a b : Int) : Bool := (decide (1 ≤ a) && decide (a ≤ 10)) && ((decide (1 ≤ b) && decide (b ≤ 10)) && decide (a * b ≤ 10))
def rectL (a b : Int) : List Int := if sides a b then whereL (rectF b.toNat) (a.toNat * b.toNat) else []
theorem rectL_length (a b : Int) : (rectL a b).length ≤ 1048576 := by
  unfold rectL
  split
  · rename_i h
    simp only [sides, Bool.and_eq_true, decide_eq_true_eq] at h
    unfold whereL; rw [mkL_length]
    obtain ⟨x, rfl⟩ := Int.eq_ofNat_of_zero_le (by omega : 0 ≤ a)
    obtain ⟨y, rfl⟩ := Int.eq_ofNat_of_zero_le (by omega : 0 ≤ b)
    have := h.2.2
    rw [← Int.natCast_mul] at this
    simp only [Int.toNat_natCast]
    omega
  · simp
theorem sides_nat {a b : Int} (h : sides a b = true) : ∃ x y : Nat, a = x ∧ b = y ∧ 1 ≤ x ∧ x ≤ 10 ∧ 1 ≤ y ∧ y ≤ 10 ∧ x * y ≤ 10 := by
  simp only [sides, Bool.and_eq_true, decide_eq_true_eq] at h
  obtain ⟨x, rfl⟩ := Int.eq_ofNat_of_zero_le (by omega : 0 ≤ a)
  obtain ⟨y, rfl⟩ := Int.eq_ofNat_of_zero_le (by omega : 0 ≤ b)
  have := h.2.2
  rw [← Int.natCast_mul] at this
  exact ⟨x, y, rfl, rfl, by omega, by omega, by omega, by omega, by omega⟩
theorem rectL_yes {x y : Nat} (h : sides x y = true) : rectL x y = whereL (rectF y) (x * y) := by
  unfold rectL; rw [if_pos h]; simp
theorem rectL_no {a b : Int} (h : sides a b = false) : rectL a b = [] := by unfold rectL; rw [h]; rfl

def rectGoodChk (a b : Nat) : Bool := good (whereL (rectF b) (a * b))
theorem rectGood_chk : ((List.range 11).all fun a => (List.range 11).all fun b => decide (a * b = 0) || decide (10 < a * b) || rectGoodChk a b) = true := by decide +kernel
theorem rectGood {a b : Nat} (h1 : 1 ≤ a) (h2 : a ≤ 10) (h3 : 1 ≤ b) (h4 : b ≤ 10) (h5 : a * b ≤ 10) : good (whereL (rectF b) (a * b)) = true := by
  have h := List.all_eq_true.1 (List.all_eq_true.1 rectGood_chk a (List.mem_range.2 (by omega))) b (List.mem_range.2 (by omega))
  simp only [Bool.or_eq_true, decide_eq_true_eq] at h
  have h0 : 0 < a * b := Nat.mul_pos (by omega) (by omega)
  rcases h with (h | h) | h
  · omega
  · omega
  · exact h
theorem cell_lt {a b r c : Nat} (hr : r < a) (hc : c < b) : b * r + c < a * b := by
  have h1 : b * (r + 1) ≤ b * a := Nat.mul_le_mul_left b hr
  have h2 : b * (r + 1) = b * r + b := Nat.mul_succ b r
  have h3 : b * a = a * b := Nat.mul_comm b a
  omega

theorem poRectangle_any (a b : Nat) (w : World) (ha : 1 ≤ a) (ha2 : a ≤ 10) (hb1 : 1 ≤ b) (hb2 : b ≤ 10) (hab : a * b ≤ 10) :
    Calls Try.prog 169 #[.int .i64 a, .int .i64 b] w fun (r : Ending) w' => ∃ u, r = Ending.returned (.agg #[u]) ∧ OwnI 3 w' w.heap.size u (whereL (rectF b) (a * b)) ∧ Below w.heap.size w w' := by
  have HE := hid (rect_all a (by omega) b (by omega) ha hb1 hab)
  have HK := hid (rect_ok_all a (by omega) b (by omega) ha hb1 hab)
  have HM : Hid (∀ r, r < a → b * r + b ≤ 10) := hid (fun r hr => by
    have h : b * (r + 1) ≤ b * a := Nat.mul_le_mul (Nat.le_refl _) (by omega)
    rw [Nat.mul_comm b a, Nat.mul_add, Nat.mul_one] at h
    omega)
  have HAB := hid hab
  clear hab
  go_enter Try.func169, Try.ntmps169
  go_wp2
  go_loopw [5, 6] (fun p i wr => ∃ r : Nat, r ≤ a ∧ i = .int .i64 r ∧ Pairs 3 24 wr (w.heap.size + 1) p (rectPS a b r) ∧ Below (w.heap.size + 1) (w.alloc (.cells #[.slice none 0 0] 26)) wr) (fun _ i _ => a - (intOf i).toNat)
  case atStart => exact ⟨0, by omega, rfl, Pairs.nil _ _ _ _, Below.refl _ _⟩
  case round =>
    obtain ⟨r, hr, rfl, hP, hb⟩ := hrel
    have HPo := hid hP
    have HBr := hid hb
    clear hP hb
    by_cases hlt : r < a
    · obtain ⟨q, hq⟩ : ∃ q, b * r = q := ⟨_, rfl⟩
      have hq10 := HM.out r hlt
      rw [hq] at hq10
      have e1 : (b : Int) * (r : Int) = (q : Int) := by rw [← Int.natCast_mul, hq]
      have HQ := hid hq
      have hl1 := rectPS_length a b r hb2
      clear hq
      go_wp2
      go_loopw [5, 7] (fun p i wi => ∃ c : Nat, c ≤ b ∧ i = .int .i64 c ∧ Pairs 3 24 wi (w.heap.size + 1) p (rectPS a b r ++ rectIn a b q r c) ∧ Below (w.heap.size + 1) (w.alloc (.cells #[.slice none 0 0] 26)) wi) (fun _ i _ => b - (intOf i).toNat)
      case atStart => exact ⟨0, by omega, rfl, by simpa [rectIn] using HPo.out, HBr.out⟩
      case round =>
        obtain ⟨c, hc, rfl, hP, hb⟩ := hrel
        have hbz : w.heap.size + 1 ≤ wr.heap.size := by have := hb.size; simp at this; omega
        have hl2 := rectIn_length a b q r c
        obtain ⟨L, hL⟩ : ∃ L, rectPS a b r ++ rectIn a b q r c = L := ⟨_, rfl⟩
        rw [hL] at hP
        have hll : L.length ≤ 20 * r + 2 * c := by rw [← hL, List.length_append]; omega
        have HP := hid hP
        have HBo := hid hb
        have HLL := hid hL
        clear hP hb hL hl2
        by_cases hcb : c < b
        · have hcb' : (c : Int) < b := by omega
          by_cases h1 : r + 1 < a
          · have h1' : (r : Int) + 1 < a := by omega
            by_cases h2 : c + 1 < b
            · have h2' : (c : Int) + 1 < b := by omega
              have tok1 : True := trivial
              go_wp2_with (first | (at_builtin; have _t := tok1; refine wpList_append_pair rfl _ _ 49 24 3 rfl Try.underlying49 Try.info24 (by decide) (w.heap.size + 1) _ _ (q + c) (q + b + c) rfl HP.out rfl rfl (by omega) (by omega) ?_; intro q2 w2 hp2 hb2; clear tok1; have hz2 : w.heap.size + 1 ≤ w2.heap.size := Nat.le_trans hbz hb2.size; have HP2 := hid hp2; have HB2 := hid (HBo.out.trans hb2); clear hp2 hb2) | (at_builtin; refine wpList_append_pair rfl _ _ 49 24 3 rfl Try.underlying49 Try.info24 (by decide) (w.heap.size + 1) _ _ (q + c) (q + c + 1) rfl HP2.out rfl rfl (by simp; omega) (by omega) ?_; intro q3 w3 hp3 hb3))
              go_roundw
              case rel => exact ⟨c + 1, by omega, by go_num, by (rw [rectIn, rectStep, if_pos h1, if_pos h2, ← List.append_assoc, ← List.append_assoc, HLL.out]; exact hp3), HB2.out.trans hb3⟩
              case measure => simp [intOf]; omega
            · have h2' : ¬ (c : Int) + 1 < b := by omega
              go_wp2_with (at_builtin; refine wpList_append_pair rfl _ _ 49 24 3 rfl Try.underlying49 Try.info24 (by decide) (w.heap.size + 1) _ _ (q + c) (q + b + c) rfl HP.out rfl rfl (by omega) (by omega) ?_; intro q2 w2 hp2 hb2)
              go_roundw
              case rel => exact ⟨c + 1, by omega, by go_num, by (rw [rectIn, rectStep, if_pos h1, if_neg h2, ← List.append_assoc, ← List.append_assoc, HLL.out, List.append_nil]; exact hp2), HBo.out.trans hb2⟩
              case measure => simp [intOf]; omega
          · have h1' : ¬ (r : Int) + 1 < a := by omega
            by_cases h2 : c + 1 < b
            · have h2' : (c : Int) + 1 < b := by omega
              go_wp2_with (at_builtin; refine wpList_append_pair rfl _ _ 49 24 3 rfl Try.underlying49 Try.info24 (by decide) (w.heap.size + 1) _ _ (q + c) (q + c + 1) rfl HP.out rfl rfl (by omega) (by omega) ?_; intro q2 w2 hp2 hb2)
              go_roundw
              case rel => exact ⟨c + 1, by omega, by go_num, by (rw [rectIn, rectStep, if_neg h1, if_pos h2, List.nil_append, ← List.append_assoc, HLL.out]; exact hp2), HBo.out.trans hb2⟩
              case measure => simp [intOf]; omega
            · have h2' : ¬ (c : Int) + 1 < b := by omega
              go_wp2
              go_roundw
              case rel => exact ⟨c + 1, by omega, by go_num, by (rw [rectIn, rectStep, if_neg h1, if_neg h2, List.nil_append, ← List.append_assoc, HLL.out, List.append_nil]; exact HP.out), HBo.out⟩
              case measure => simp [intOf]; omega
        · obtain rfl : c = b := by omega
          go_wp2
          go_roundw
          case rel => exact ⟨r + 1, by omega, by go_num, by (rw [rectPS, HQ.out, HLL.out]; exact HP.out), HBo.out⟩
          case measure => simp [intOf]; omega
    · obtain rfl : r = a := by omega
      obtain ⟨n, hn⟩ : ∃ n, r * b = n := ⟨_, rfl⟩
      have e1 : (r : Int) * (b : Int) = (n : Int) := by rw [← Int.natCast_mul, hn]
      have hn10 : n ≤ 10 := by rw [← hn]; exact HAB.out
      have hl1 := rectPS_length r b r hb2
      have HE2 : Hid (fromL n (rectPS r b r) = whereL (rectF b) (r * b)) := hid (by rw [← hn]; exact HE.out)
      have HK2 : Hid (PairsOk n (rectPS r b r)) := hid (by rw [← hn]; exact HK.out)
      clear HE HK
      have hbz : w.heap.size + 1 ≤ wr.heap.size := by have := HBr.out.size; simp at this; omega
      clear hn
      go_wp2_with fail
      clear e1
      refine (poFrom_any _ _ n _ _ HPo.out hn10 HK2.out (by omega)).mono ?_
      rintro e w2 ⟨u, rfl, ho, hb2⟩
      have hr : Blk w2 w.heap.size 26 #[.slice none 0 0] := ((Blk.new w _ _).below HBr.out (Nat.lt_succ_self _)).below hb2 (by omega)
      have t1 := hr.cell 0
      have t2 := hr.frozen 0
      obtain ⟨uA, un, uc, rfl⟩ := ho.shape3
      have HO := hid ho
      have HB3 := hid (below_to (below_box HBr.out) hb2)
      clear hr ho hb2
      go_wp2
      refine bodyPost_ret (v := .agg #[.slice uA un uc]) (by simp [results, Try.results169, go_sem, t1]) rfl ⟨_, rfl, ?_, ?_⟩
      · rw [← HE2.out]
        refine (HO.out.grown (grown_setCell (World.grownBy.refl _ _) 0 _) ?_).mono (by omega)
        exact HO.out.apart (.inl (by omega))
      · exact HB3.out.setCell (p := ⟨w.heap.size, 0, none⟩) (Nat.le_refl _) _
end Go.Proofs.Ytpdoheagfjeefaa

/- Fence. -/
namespace Go.Proofs.Ytpdoheagfjeefaa
open Go.RowKit Go.WideShapes Go.ChangeShapes
set_option linter.unusedVariables false

def fencePS (low : Nat) : Nat → List (Nat × Nat)
  | 0 => []
  | h + 1 => if h + 1 < low then (fencePS low h ++ [(h, low + h)]) ++ [(h + 1, low + h)] else fencePS low h ++ [(h, low + h)]
theorem fencePS_length (low h : Nat) : (fencePS low h).length ≤ 2 * h := by
  induction h with
  | zero => simp [fencePS]
  | succ h ih => unfold fencePS; split <;> simp <;> omega
def fenceF (low : Nat) (j i : Nat) : Bool := decide (low ≤ i) && (decide (j < low) && (decide (j = i - low) || decide (j = i - low + 1)))
def fenceL (n : Int) : List Int := if 1 ≤ n ∧ n ≤ 10 then whereL (fenceF ((n.toNat + 1) / 2)) n.toNat else []
theorem fence_eq (n : Nat) (h1 : 1 ≤ n) (h2 : n ≤ 10) : fromL n (fencePS ((n + 1) / 2) (n - (n + 1) / 2)) = whereL (fenceF ((n + 1) / 2)) n := by
  rcases (by omega : n = 1 ∨ n = 2 ∨ n = 3 ∨ n = 4 ∨ n = 5 ∨ n = 6 ∨ n = 7 ∨ n = 8 ∨ n = 9 ∨ n = 10) with rfl | rfl | rfl | rfl | rfl | rfl | rfl | rfl | rfl | rfl <;> decide +kernel
theorem fence_ok (n : Nat) (h1 : 1 ≤ n) (h2 : n ≤ 10) : PairsOk n (fencePS ((n + 1) / 2) (n - (n + 1) / 2)) := by
  rcases (by omega : n = 1 ∨ n = 2 ∨ n = 3 ∨ n = 4 ∨ n = 5 ∨ n = 6 ∨ n = 7 ∨ n = 8 ∨ n = 9 ∨ n = 10) with rfl | rfl | rfl | rfl | rfl | rfl | rfl | rfl | rfl | rfl <;> (unfold PairsOk; decide +kernel)
theorem fenceL_length (n : Int) : (fenceL n).length ≤ 1048576 := by
  unfold fenceL
  split
  · unfold whereL; rw [mkL_length]; omega
  · simp
theorem fenceL_yes {n : Nat} (h1 : 1 ≤ n) (h2 : n ≤ 10) : fenceL n = whereL (fenceF ((n + 1) / 2)) n := by
  unfold fenceL
  rw [if_pos (by omega), Int.toNat_natCast]
theorem fenceL_no {n : Int} (h : ¬ (1 ≤ n ∧ n ≤ 10)) : fenceL n = [] := if_neg h

theorem specFence_any (n : Int) (w : World) (wf : (Lit.int .i64 n).wf = true) :
    Calls Try.prog 171 #[.int .i64 n] w fun (r : Ending) w' => ∃ u, r = Ending.returned (.tuple #[.agg #[u], .bool (decide (1 ≤ n) && decide (n ≤ 10))]) ∧ OwnI 3 w' w.heap.size u (fenceL n) ∧ (fenceL n).length ≤ 1048576 ∧ Below w.heap.size w w' := by
  have HL := hid (fenceL_length n)
  clear wf
  by_cases hn : 1 ≤ n ∧ n ≤ 10
  · obtain ⟨m, rfl⟩ := Int.eq_ofNat_of_zero_le (by omega : 0 ≤ n)
    have h1 : 1 ≤ m := by omega
    have h2 : m ≤ 10 := by omega
    have hd : (decide ((1 : Int) ≤ (m : Int)) && decide ((m : Int) ≤ 10)) = true := by simp; omega
    have HY := hid (fenceL_yes h1 h2)
    have HE := hid (fence_eq m h1 h2)
    have HK := hid (fence_ok m h1 h2)
    rw [hd]
    have Hd := hid hd
    obtain ⟨low, hlow⟩ : ∃ low, (m + 1) / 2 = low := ⟨_, rfl⟩
    have e1 : ((m : Int) + 1) / 2 = (low : Int) := by omega
    have hl1 : low ≤ m := by omega
    rw [hlow] at HY HE HK
    clear hd hn hlow
    go_enter Try.func171, Try.ntmps171
    go_wp2_with (go_at_call 119; refine (l1In_any _ _ _ _).mono ?_; rw [Hd.out]; rintro e w' ⟨rfl, rfl⟩)
    rw [e1]
    clear e1
    go_loopw [5, 6] (fun q i wr => ∃ h : Nat, low + h ≤ m ∧ i = .int .i64 h ∧ Pairs 3 24 wr (w.heap.size + 1) q (fencePS low h) ∧ Below (w.heap.size + 1) (w.alloc (.cells #[.slice none 0 0] 26)) wr) (fun _ i _ => m - (intOf i).toNat)
    case atStart => exact ⟨0, by omega, rfl, Pairs.nil _ _ _ _, Below.refl _ _⟩
    case round =>
      obtain ⟨h, hh, rfl, hP, hb⟩ := hrel
      have hbz : w.heap.size + 1 ≤ wr.heap.size := by have := hb.size; simp at this; omega
      have hlen := fencePS_length low h
      have HP := hid hP
      have HB := hid hb
      clear hP hb
      by_cases hlt : low + h < m
      · have hlt' : (low : Int) + (h : Int) < m := by omega
        by_cases h3 : h + 1 < low
        · have h3' : (h : Int) + 1 < low := by omega
          have tok1 : True := trivial
          go_wp2_with (first | (at_builtin; have _t := tok1; refine wpList_append_pair rfl _ _ 49 24 3 rfl Try.underlying49 Try.info24 (by decide) (w.heap.size + 1) _ _ h (low + h) rfl HP.out rfl rfl (by omega) (by omega) ?_; intro q2 w2 hp2 hb2; clear tok1; have hz2 : w.heap.size + 1 ≤ w2.heap.size := Nat.le_trans hbz hb2.size; have HP2 := hid hp2; have HB2 := hid (HB.out.trans hb2); clear hp2 hb2) | (at_builtin; refine wpList_append_pair rfl _ _ 49 24 3 rfl Try.underlying49 Try.info24 (by decide) (w.heap.size + 1) _ _ (h + 1) (low + h) rfl HP2.out rfl rfl (by simp; omega) (by omega) ?_; intro q3 w3 hp3 hb3))
          go_roundw
          case rel => exact ⟨h + 1, by omega, by go_num, by rw [fencePS, if_pos h3]; exact hp3, HB2.out.trans hb3⟩
          case measure => simp [intOf]; omega
        · have h3' : ¬ (h : Int) + 1 < low := by omega
          go_wp2_with (at_builtin; refine wpList_append_pair rfl _ _ 49 24 3 rfl Try.underlying49 Try.info24 (by decide) (w.heap.size + 1) _ _ h (low + h) rfl HP.out rfl rfl (by omega) (by omega) ?_; intro q2 w2 hp2 hb2)
          go_roundw
          case rel => exact ⟨h + 1, by omega, by go_num, by rw [fencePS, if_neg h3]; exact hp2, HB.out.trans hb2⟩
          case measure => simp [intOf]; omega
      · obtain rfl : m = low + h := by omega
        have hsub : low + h - low = h := by omega
        rw [hsub] at HE HK
        have hlt' : ¬ (low : Int) + (h : Int) < ((low + h : Nat) : Int) := by omega
        have HS := hid hsub
        have hbx := box_cell HB.out 0
        have hbf : wr.frozen? ⟨w.heap.size, 0, none⟩ = false := by rw [HB.out.frozen (p := ⟨w.heap.size, 0, none⟩) (Nat.lt_succ_self _)]; exact (Blk.new w 26 #[.slice none 0 0]).frozen 0
        clear hsub hbx hbf
        go_wp2_with fail
        refine (poFrom_any _ _ (low + h) _ _ HP.out h2 HK.out (by omega)).mono ?_
        rintro e w2 ⟨u, rfl, ho, hb2⟩
        have hr : Blk w2 w.heap.size 26 #[.slice none 0 0] := ((Blk.new w _ _).below HB.out (Nat.lt_succ_self _)).below hb2 (by omega)
        have t1 := hr.cell 0
        have t2 := hr.frozen 0
        obtain ⟨uA, un, uc, rfl⟩ := ho.shape3
        have HO := hid ho
        have HB3 := hid (below_to (below_box HB.out) hb2)
        clear hr ho hb2
        go_wp2
        refine bodyPost_ret (v := .tuple #[.agg #[.slice uA un uc], .bool true]) (by simp [results, Try.results171, go_sem, t1]) rfl ⟨_, rfl, ?_, HL.out, ?_⟩
        · rw [HY.out, ← HE.out]
          refine (HO.out.grown (grown_setCell (World.grownBy.refl _ _) 0 _) ?_).mono (by omega)
          exact HO.out.apart (.inl (by omega))
        · exact HB3.out.setCell (p := ⟨w.heap.size, 0, none⟩) (Nat.le_refl _) _
  · have hd : (decide ((1 : Int) ≤ n) && decide (n ≤ 10)) = false := by rw [Bool.eq_false_iff]; simp; omega
    have HN := hid (fenceL_no hn)
    rw [hd]
    have Hd := hid hd
    clear hd hn
    go_enter Try.func171, Try.ntmps171
    go_wp2_with (go_at_call 119; refine (l1In_any _ _ _ _).mono ?_; rw [Hd.out]; rintro e w' ⟨rfl, rfl⟩)
    refine bodyPost_ret (v := .tuple #[.agg #[.slice none 0 0], .bool false]) (by simp [results, Try.results171, go_sem]) rfl ⟨_, rfl, by rw [HN.out]; exact OwnI.nil _ _ _, HL.out, ?_⟩
    exact (Below.refl _ _).alloc (Nat.le_refl _) _
end Go.Proofs.Ytpdoheagfjeefaa

/- Staircase: the steps, and the closure. · Staircase of the program. · Staircase of the model. -/
namespace Go.Proofs.Ytpdoheagfjeefaa
open Go.RowKit Go.WideShapes Go.ChangeShapes
set_option linter.unusedVariables false

def stIn (d : Nat) : Nat → List (Nat × Nat)
  | 0 => []
  | i + 1 => stIn d i ++ [(i, i + d)]
def stPS (n : Nat) : Nat → List (Nat × Nat)
  | 0 => []
  | e + 1 => stPS n e ++ stIn (e + 1) (n - e)
theorem stIn_length (d i : Nat) : (stIn d i).length = i := by
  induction i with
  | zero => rfl
  | succ i ih => rw [stIn, List.length_append, ih]; rfl
theorem stPS_length (n e : Nat) : (stPS n e).length ≤ e * n := by
  induction e with
  | zero => simp [stPS]
  | succ e ih =>
    rw [stPS, List.length_append, stIn_length, Nat.add_mul]
    omega
def stF (ps : List (Nat × Nat)) (j i : Nat) : Bool := decide ((ps.getD i (0, 0)).1 ≤ (ps.getD j (0, 0)).1) && decide ((ps.getD j (0, 0)).2 ≤ (ps.getD i (0, 0)).2)
def stG (ps : List (Nat × Nat)) (x y : Nat) : Bool := decide (x ≠ y) && stF ps y x
def stcL (n : Int) : List Int := if 1 ≤ n ∧ n ≤ 4 then whereL (stF (stPS n.toNat n.toNat)) (stPS n.toNat n.toNat).length else []
theorem st_eq (n : Nat) (h1 : 1 ≤ n) (h2 : n ≤ 4) : mkL (stPS n n).length (fun x => rowN (stG (stPS n n) x) (stPS n n).length) = whereL (stF (stPS n n)) (stPS n n).length := by
  rcases (by omega : n = 1 ∨ n = 2 ∨ n = 3 ∨ n = 4) with rfl | rfl | rfl | rfl <;> decide +kernel
theorem st_len (n : Nat) (h1 : 1 ≤ n) (h2 : n ≤ 4) : (stPS n n).length ≤ 10 ∧ 1 ≤ (stPS n n).length ∧ ∀ j, j < (stPS n n).length → ((stPS n n).getD j (0, 0)).1 ≤ 4 ∧ ((stPS n n).getD j (0, 0)).2 ≤ 4 := by
  rcases (by omega : n = 1 ∨ n = 2 ∨ n = 3 ∨ n = 4) with rfl | rfl | rfl | rfl <;> decide +kernel
theorem stcL_yes {n : Nat} (h1 : 1 ≤ n) (h2 : n ≤ 4) : stcL n = whereL (stF (stPS n n)) (stPS n n).length := by
  unfold stcL
  rw [if_pos (by omega), Int.toNat_natCast]
theorem stcL_no {n : Int} (h : ¬ (1 ≤ n ∧ n ≤ 4)) : stcL n = [] := if_neg h
theorem stcL_length (n : Int) : (stcL n).length ≤ 1048576 := by
  unfold stcL
  split
  · rename_i h
    have := (st_len n.toNat (by omega) (by omega)).1
    unfold whereL; rw [mkL_length]; omega
  · simp
/-- 'v' is a slice of the pairs ps, each in two cells -/
def FlatR (w : World) (v : Value) (ps : List (Nat × Nat)) : Prop :=
  ∃ b c, v = .slice (some ⟨b, 0, none⟩) ps.length c ∧ b < w.heap.size ∧ ∀ j, j < ps.length → w.cell? ⟨b, j * 2, none⟩ = some (.int .i64 ((ps.getD j (0, 0)).1 : Int)) ∧ w.cell? ⟨b, j * 2 + 1, none⟩ = some (.int .i64 ((ps.getD j (0, 0)).2 : Int))
theorem FlatR.below {w w' : World} {v : Value} {ps : List (Nat × Nat)} (h : FlatR w v ps) (hb : Below w.heap.size w w') : FlatR w' v ps := by
  obtain ⟨b, c, rfl, h1, h2⟩ := h
  exact ⟨b, c, rfl, Nat.lt_of_lt_of_le h1 hb.size, fun j hj => ⟨(hb.cell (p := ⟨b, j * 2, none⟩) h1).trans (h2 j hj).1, (hb.cell (p := ⟨b, j * 2 + 1, none⟩) h1).trans (h2 j hj).2⟩⟩
/-! ### a slice of pairs of its own, grown -/
def flat (ps : List (Nat × Nat)) : List Value := ps.flatMap fun p => [.int .i64 (p.1 : Int), .int .i64 (p.2 : Int)]
theorem flat_append (ps : List (Nat × Nat)) (a b : Nat) : flat (ps ++ [(a, b)]) = flat ps ++ [.int .i64 (a : Int), .int .i64 (b : Int)] := by simp [flat]
theorem flat_get (ps : List (Nat × Nat)) (j : Nat) (hj : j < ps.length) : (flat ps)[j * 2]? = some (.int .i64 ((ps.getD j (0, 0)).1 : Int)) ∧ (flat ps)[j * 2 + 1]? = some (.int .i64 ((ps.getD j (0, 0)).2 : Int)) := by
  induction ps generalizing j with
  | nil => simp at hj
  | cons p ps ih =>
    match j with
    | 0 => simp [flat]
    | j + 1 =>
      have h := ih j (by simpa using hj)
      have e1 : (j + 1) * 2 = (j * 2) + 1 + 1 := by omega
      rw [e1]
      simpa [flat] using h
def FlatOwn (ts : TypeId) (w : World) (B : Nat) (v : Value) (ps : List (Nat × Nat)) : Prop := w.ownsRow B ts 2 v ps.length (flat ps)
theorem FlatOwn.nil (ts : TypeId) (w : World) (B : Nat) : FlatOwn ts w B (.slice none 0 0) [] := World.ownsRow_nil w B ts 2
theorem FlatOwn.below {ts : TypeId} {w w' : World} {B : Nat} {v : Value} {ps : List (Nat × Nat)} (h : FlatOwn ts w B v ps) (hb : Below w.heap.size w w') : FlatOwn ts w' B v ps := by
  by_cases hv : v.ownBlock = none
  · exact World.ownsRow.kept h (grown_of_below hb none) (.inl hv)
  · exact World.ownsRow.kept h (grown_of_below hb none) (.inr hv)
theorem FlatOwn.far {ts : TypeId} {w : World} {B : Nat} {v : Value} {ps : List (Nat × Nat)} (h : FlatOwn ts w B v ps) {p : Addr} (hp : p.block < B) (hs : p.spot = none) (u : Value) : FlatOwn ts (w.setCell p u) B v ps := by
  refine World.ownsRow.kept (row := some p.block) h ?_ (.inr fun e => ?_)
  · obtain ⟨b, o, t⟩ := p
    simp only at hs
    subst hs
    exact grown_setCell (World.grownBy.refl w (some b)) o u
  · have := (World.ownsRow.lt h p.block e).1
    omega
theorem FlatOwn.shape3 {ts : TypeId} {w : World} {B : Nat} {v : Value} {ps : List (Nat × Nat)} (h : FlatOwn ts w B v ps) : ∃ A c, v = .slice A ps.length c := by
  rcases h.2 with ⟨rfl, h0⟩ | ⟨g, cap, cur, rfl, _⟩
  · exact ⟨none, 0, by rw [h0]⟩
  · exact ⟨_, _, rfl⟩
theorem FlatOwn.read {ts : TypeId} {w : World} {B : Nat} {v : Value} {ps : List (Nat × Nat)} (h : FlatOwn ts w B v ps) (h1 : 1 ≤ ps.length) : FlatR w v ps := by
  have h' := h
  rcases h.2 with ⟨-, h0⟩ | ⟨g, cap, cur, rfl, -, hh, -⟩
  · omega
  · refine ⟨g, cap, rfl, ?_, fun j hj => ?_⟩
    · rcases Nat.lt_or_ge g w.heap.size with hlt | hge
      · exact hlt
      · rw [Array.getElem?_eq_none hge] at hh; cases hh
    · have := flat_get ps j hj
      exact ⟨(World.ownsRow.cellAt h' (j * 2) (by omega)).trans this.1, (World.ownsRow.cellAt h' (j * 2 + 1) (by omega)).trans this.2⟩
theorem wpList_append_flat {P : Program} {w W : World} {ops : Array Oper} {rest : List Oper} {o : Oper} {ac : Act} {Q : Exit → Act → World → Prop} (hgd : o.guard = none) (s x : Operand) (t ts : TypeId)
    (ho : o.op = .call { callee := .builtin .append, args := #[s, x], argTypes := #[t, t] }) (ht : P.underlying t = some (.slice ts)) (hinfo : (P.info? ts).map (fun i => (i.zero, i.size, i.bytes)) = some (some (.agg #[.int .i64 0, .int .i64 0]), 2, 16))
    (B : Nat) (v : Value) (ps : List (Nat × Nat)) (a b : Nat) (hs : ac.eval s = v) (hown : FlatOwn ts w B v ps)
    (hW : W = w.alloc (.cells #[.int .i64 (a : Int), .int .i64 (b : Int)] ts)) (hx : ac.eval x = .slice (some ⟨w.heap.size, 0, none⟩) 1 1) (hlen : ps.length < 1048576) (hB : B ≤ w.heap.size)
    (h : ∀ v' w', FlatOwn ts w' B v' (ps ++ [(a, b)]) → Below B w w' → wpList P ops Q rest (ac.put o.dst v') w') : wpList P ops Q (o :: rest) ac W := by
  subst hW
  obtain ⟨i0, hi, hz0, hz1, hz2⟩ := info_parts hinfo
  refine wpList_append_own _ hgd s x t ho B ts i0 (.agg #[.int .i64 0, .int .i64 0]) 2 16 ht hi hz0 hz1 hz2 rfl (by decide) v ps.length (flat ps) hs (World.ownsRow.alloc hown _) ⟨w.heap.size, 0, none⟩ 1 1 [.int .i64 (a : Int), .int .i64 (b : Int)] hx rfl ?_ ?_ ?_ ?_ ?_ ?_
  · intro j u hj
    match j, hj with
    | 0, hj =>
      simp only [List.getElem?_cons_zero, Option.some.injEq] at hj
      subst hj
      exact (Blk.new w ts #[.int .i64 (a : Int), .int .i64 (b : Int)]).cell 0
    | 1, hj =>
      simp only [List.getElem?_cons_succ, List.getElem?_cons_zero, Option.some.injEq] at hj
      subst hj
      exact (Blk.new w ts #[.int .i64 (a : Int), .int .i64 (b : Int)]).cell 1
    | j + 2, hj => simp at hj
  · intro u hu
    simp only [List.mem_cons, List.not_mem_nil, or_false] at hu
    rcases hu with rfl | rfl <;> rfl
  · unfold maxLen; omega
  · omega
  · simp; omega
  · intro v' w' h4 h5 _
    refine h v' w' ?_ ?_
    · unfold FlatOwn
      rw [flat_append, List.length_append]
      exact h4
    · have hb : Below B w (w.alloc (.cells #[.int .i64 (a : Int), .int .i64 (b : Int)] ts)) := (Below.refl _ _).alloc hB _
      exact hb.grown h5 (by simp; omega) fun k hk => (World.ownsRow.lt hown k hk).1
end Go.Proofs.Ytpdoheagfjeefaa
namespace Go.Proofs.Ytpdoheagfjeefaa
open Go.RowKit Go.WideShapes Go.ChangeShapes
set_option linter.unusedVariables false

theorem stPS_step (n d : Nat) (h : 1 ≤ d) : stPS n d = stPS n (d - 1) ++ stIn d (n + 1 - d) := by
  obtain ⟨e, rfl⟩ : ∃ e, d = e + 1 := ⟨d - 1, by omega⟩
  rw [Nat.add_sub_cancel, stPS, show n + 1 - (e + 1) = n - e by omega]
theorem mul44 {a b : Nat} (h1 : a ≤ 4) (h2 : b ≤ 4) : a * b ≤ 16 := Nat.mul_le_mul h1 h2
end Go.Proofs.Ytpdoheagfjeefaa
namespace Go.Proofs.Ytpdoheagfjeefaa
open Go.RowKit Go.WideShapes Go.ChangeShapes
set_option linter.unusedVariables false

def stX (ps : List (Nat × Nat)) (N k x : Nat) : Nat := if x < k then rowN (stG ps x) N else 0
def stY (ps : List (Nat × Nat)) (N k t x : Nat) : Nat := if x < k then rowN (stG ps x) N else if x = k then rowN (stG ps k) t else 0
theorem stG_eq (ps : List (Nat × Nat)) (k t : Nat) : stG ps k t = (decide (k ≠ t) && (decide (((ps.getD k (0, 0)).1 : Int) ≤ ((ps.getD t (0, 0)).1 : Int)) && decide (((ps.getD t (0, 0)).2 : Int) ≤ ((ps.getD k (0, 0)).2 : Int)))) := by
  simp [stG, stF]
set_option maxHeartbeats 6400000 in
theorem specStaircase_any (n : Int) (w : World) (wf : (Lit.int .i64 n).wf = true) :
    Calls Try.prog 170 #[.int .i64 n] w fun (r : Ending) w' => ∃ u, r = Ending.returned (.tuple #[.agg #[u], .bool (decide (1 ≤ n) && decide (n ≤ 4))]) ∧ OwnI 3 w' w.heap.size u (stcL n) ∧ (stcL n).length ≤ 1048576 ∧ Below w.heap.size w w' := by
  have HL := hid (stcL_length n)
  clear wf
  by_cases hn : 1 ≤ n ∧ n ≤ 4
  · obtain ⟨m, rfl⟩ := Int.eq_ofNat_of_zero_le (by omega : 0 ≤ n)
    have h1 : 1 ≤ m := by omega
    have h2 : m ≤ 4 := by omega
    have hd : (decide ((1 : Int) ≤ (m : Int)) && decide ((m : Int) ≤ 4)) = true := by simp; omega
    have HY := hid (stcL_yes h1 h2)
    have HN := hid (st_len m h1 h2)
    have HE := hid (st_eq m h1 h2)
    rw [hd]
    have Hd := hid hd
    clear hd hn
    go_enter Try.func170, Try.ntmps170
    go_wp2_with (go_at_call 119; refine (l1In_any _ _ _ _).mono ?_; rw [Hd.out]; rintro e w' ⟨rfl, rfl⟩)
    go_loopw [4, 5] (fun q dd wr => ∃ d : Nat, 1 ≤ d ∧ d ≤ m + 1 ∧ dd = .int .i64 d ∧ Pairs 3 24 wr (w.heap.size + 1) q (stPS m (d - 1)) ∧ Below (w.heap.size + 1) (w.alloc (.cells #[.slice none 0 0] 26)) wr) (fun _ dd _ => m + 1 - (intOf dd).toNat)
    case atStart => exact ⟨1, by omega, by omega, rfl, Pairs.nil _ _ _ _, Below.refl _ _⟩
    case round =>
      obtain ⟨d, hd1, hd2, rfl, ho, hb⟩ := hrel
      have HO := hid ho
      have HB := hid hb
      by_cases hdm : d ≤ m
      · have hdm' : (d : Int) ≤ (m : Int) := by omega
        clear ho hb
        go_wp2
        go_loopw [4, 6] (fun q ii wi => ∃ c : Nat, c + d ≤ m + 1 ∧ ii = .int .i64 c ∧ Pairs 3 24 wi (w.heap.size + 1) q (stPS m (d - 1) ++ stIn d c) ∧ Below (w.heap.size + 1) (w.alloc (.cells #[.slice none 0 0] 26)) wi) (fun _ ii _ => m + 1 - (intOf ii).toNat)
        case atStart => exact ⟨0, by omega, rfl, by simpa [stIn] using HO.out, HB.out⟩
        case round =>
          obtain ⟨c, hc, rfl, ho, hb⟩ := hrel
          have hlen : (stPS m (d - 1) ++ stIn d c).length ≤ 20 := by
            have a1 := stPS_length m (d - 1)
            have a2 := mul44 (show d - 1 ≤ 4 by omega) h2
            rw [List.length_append, stIn_length]
            omega
          obtain ⟨L, hL⟩ : ∃ L, stPS m (d - 1) ++ stIn d c = L := ⟨_, rfl⟩
          rw [hL] at ho hlen
          have HLL := hid hL
          have HOi := hid ho
          have HBi := hid hb
          have hbz : w.heap.size + 1 ≤ wr.heap.size := by have := hb.size; simp at this; omega
          clear hL ho hb
          by_cases hcm : c + d ≤ m
          · have hcm' : (c : Int) + (d : Int) ≤ (m : Int) := by omega
            go_wp2_with (at_builtin; refine wpList_append_pair rfl _ _ 49 24 3 rfl Try.underlying49 Try.info24 (by decide) (w.heap.size + 1) _ _ c (c + d) rfl HOi.out rfl rfl (by omega) (by omega) ?_; intro q2 w2 hp2 hb2)
            go_roundw
            case rel => exact ⟨c + 1, by omega, by go_num, by rw [stIn, ← List.append_assoc, HLL.out]; exact hp2, HBi.out.trans hb2⟩
            case measure => simp [intOf]; omega
          · have hcm' : ¬ (c : Int) + (d : Int) ≤ (m : Int) := by omega
            obtain rfl : c = m + 1 - d := by omega
            go_wp2
            go_roundw
            case rel => exact ⟨d + 1, by omega, by omega, by go_num, (by rw [Nat.add_sub_cancel, stPS_step m d hd1, HLL.out]; exact HOi.out), HBi.out⟩
            case measure => simp [intOf]; omega
      · have hdm' : ¬ (d : Int) ≤ (m : Int) := by omega
        obtain rfl : d = m + 1 := by omega
        rw [Nat.add_sub_cancel] at ho
        obtain ⟨hn10, hn1, -⟩ := HN.out
        obtain ⟨L, hL⟩ : ∃ L, stPS m m = L := ⟨_, rfl⟩
        rw [hL] at ho HY HE hn10 hn1
        obtain ⟨sA, sc, rfl, hs⟩ := ho.shape
        have HS := hid hs
        have HBw := hid (below_box hb)
        have HR0 : Hid (Blk wr w.heap.size 26 #[.slice none 0 0]) := hid ((Blk.new w _ _).below hb (Nat.lt_succ_self _))
        have hr0 := HR0.out.lt
        obtain ⟨N, hN⟩ : ∃ N, L.length = N := ⟨_, rfl⟩
        have hmk := run_make_row' (P := Try.prog) 24 3 (.int .i64 0) 8 Try.underlying24 Try.info3 rfl .i64 .i64 N (by omega) (by omega)
        rw [hN] at HS hn10 hn1 HE HY ⊢
        have HNl := hid hN
        clear hL HN hN hs ho hb
        obtain ⟨W1, rfl⟩ : ∃ x, x = wr := ⟨wr, rfl⟩
        go_wp2
        clear hmk
        rw [Vals_made]
        go_loopw [42] (fun ii wi => ∃ k : Nat, k ≤ N ∧ ii = .int .i64 k ∧ Blk wi W1.heap.size 3 (Vals (mkL N (stX L N k))) ∧ Blk wi (W1.heap.size + 1) 26 #[.slice (some ⟨W1.heap.size, 0, none⟩) N N] ∧ Below W1.heap.size W1 wi) (fun ii _ => N - (intOf ii).toNat)
        case atStart =>
          refine ⟨0, Nat.zero_le _, rfl, ?_, Blk.newAt _ _ _ _ (by simp), below_alloc (below_alloc (Below.refl _ _) _) _⟩
          have e : mkL N (stX L N 0) = List.replicate N 0 := by rw [← mkL_zero]; exact mkL_congr (fun i _ => by simp [stX])
          rw [e]
          exact (Blk.new _ _ _).alloc _
        case round =>
          obtain ⟨k, hk, rfl, hrow, hbox, hb⟩ := hrel
          have HRow := hid hrow
          have HBox := hid hbox
          have HB3 := hid hb
          by_cases hkN : k < N
          · obtain ⟨sb, sg, rfl, hs1, hs2, hs3, hs4, hs5⟩ := HS.out k hkN
            have hc3 := (hb.cell (p := ⟨sb, k, none⟩) hs1).trans hs3
            have HG4 := hid hs4
            have HG5 := hid hs5
            clear hrow hbox hb hs3 hs4 hs5
            go_wp2
            clear hc3
            go_loopw [49] (fun jj wi => ∃ t : Nat, t ≤ N ∧ jj = .int .i64 t ∧ Blk wi W1.heap.size 3 (Vals (mkL N (stY L N k t))) ∧ Blk wi (W1.heap.size + 1) 26 #[.slice (some ⟨W1.heap.size, 0, none⟩) N N] ∧ Below W1.heap.size W1 wi) (fun jj _ => N - (intOf jj).toNat)
            case atStart => exact ⟨0, Nat.zero_le _, rfl, (by rw [mkL_congr (h := stX L N k) (fun i _ => by unfold stY stX; split; rfl; split <;> simp [rowN])]; exact HRow.out), HBox.out, HB3.out⟩
            case round =>
              obtain ⟨t, ht, rfl, hrow, hbox, hb⟩ := hrel
              have HRi := hid hrow
              have HBxi := hid hbox
              have HBi := hid hb
              by_cases htN : t < N
              · obtain ⟨tb, tg, e, -, ht2, ht3, ht4, ht5⟩ := HS.out t htN
                obtain rfl : sb = tb := by simpa using e
                have hct := (hb.cell (p := ⟨sb, t, none⟩) hs1).trans ht3
                have ca0 := (hb.cell (p := ⟨sg, 0, none⟩) hs2).trans HG4.out
                have ca1 := (hb.cell (p := ⟨sg, 1, none⟩) hs2).trans HG5.out
                have cb0 := (hb.cell (p := ⟨tg, 0, none⟩) ht2).trans ht4
                have cb1 := (hb.cell (p := ⟨tg, 1, none⟩) ht2).trans ht5
                have H := hid (stG_eq L k t)
                obtain ⟨a0, e0⟩ : ∃ x : Int, ((L.getD k (0, 0)).1 : Int) = x := ⟨_, rfl⟩
                obtain ⟨a1, e1⟩ : ∃ x : Int, ((L.getD k (0, 0)).2 : Int) = x := ⟨_, rfl⟩
                obtain ⟨b0, e2⟩ : ∃ x : Int, ((L.getD t (0, 0)).1 : Int) = x := ⟨_, rfl⟩
                obtain ⟨b1, e3⟩ : ∃ x : Int, ((L.getD t (0, 0)).2 : Int) = x := ⟨_, rfl⟩
                rw [e0] at ca0; rw [e1] at ca1; rw [e2] at cb0; rw [e3] at cb1; rw [e0, e1, e2, e3] at H
                clear e ht3 ht4 ht5 e0 e1 e2 e3 hrow hbox hb
                by_cases hkt : k = t
                · have HF : Hid (stG L k t = false) := hid (by rw [H.out]; simp [hkt])
                  have hbne : ((k : Int) != (t : Int)) = false := by simp [hkt]
                  clear hkt
                  go_wp2_with fail
                  go_quiet (fail)
                  go_wp2
                  go_roundw
                  case rel => exact ⟨t + 1, by omega, by go_num, (by rw [mkL_congr (h := stY L N k t) (fun i _ => by unfold stY; split; rfl; split; (rw [rowN, HF.out]; rfl); rfl)]; exact HRi.out), HBxi.out, below_drewN HBi.out _⟩
                  case measure => simp [intOf]; omega
                · have hbne : ((k : Int) != (t : Int)) = true := by rw [bne_iff_ne]; omega
                  by_cases c1 : a0 ≤ b0
                  · by_cases c2 : b1 ≤ a1
                    · have HT : Hid (stG L k t = true) := hid (by rw [H.out, decide_eq_true hkt, decide_eq_true c1, decide_eq_true c2]; rfl)
                      clear hkt
                      obtain ⟨p, hp⟩ : ∃ p, rowN (stG L k) t = p := ⟨_, rfl⟩
                      have hp2 := rowN_lt (stG L k) t
                      have hp3 := pow_lt10 t (by omega)
                      rw [hp] at hp2
                      have t1 : wr.cell? ⟨W1.heap.size, k, none⟩ = some (.int .i64 p) := by
                        rw [HRi.out.cell, Vals_get (by rw [mkL_length]; exact hkN), mkL_getD hkN, ← hp]; simp [stY]
                      have t2 := HRi.out.frozen k
                      have t3 := HBxi.out.cell 0
                      have wp := wrap_pow' t (by omega)
                      have hor := or_pow p t (by omega) (by omega)
                      have hkz : (k : Int) < N := by omega
                      have Hp := hid hp
                      clear hp hp2 hp3
                      go_wp2_with fail
                      go_quiet (fail)
                      go_wp2_with fail
                      go_region
                      go_wp2
                      go_roundw
                      case rel =>
                        refine ⟨t + 1, by omega, by go_num, ?_, ?_, ?_⟩
                        · rw [mkL_congr (h := fun i => if i = k then p ||| 2 ^ t else stY L N k t i) (fun i _ => by unfold stY; split; (rw [if_neg (by omega)]); split; (rw [rowN, if_pos HT.out, Hp.out]); rfl), ← mkL_set _ hkN, ← Vals_set]
                          exact HRi.out.set_ k _
                        · exact HBxi.out.far (p := ⟨W1.heap.size, k, none⟩) (by show W1.heap.size + 1 ≠ W1.heap.size; omega) _
                        · exact (below_drewN HBi.out _).setCell (p := ⟨W1.heap.size, k, none⟩) (Nat.le_refl _) _
                      case measure => simp [intOf]; omega
                    · have HF : Hid (stG L k t = false) := hid (by rw [H.out, decide_eq_false c2, Bool.and_false, Bool.and_false])
                      have d2 : decide (b1 ≤ a1) = false := decide_eq_false c2
                      clear hkt
                      go_wp2_with fail
                      go_quiet (fail)
                      go_wp2
                      go_roundw
                      case rel => exact ⟨t + 1, by omega, by go_num, (by rw [mkL_congr (h := stY L N k t) (fun i _ => by unfold stY; split; rfl; split; (rw [rowN, HF.out]; rfl); rfl)]; exact HRi.out), HBxi.out, below_drewN HBi.out _⟩
                      case measure => simp [intOf]; omega
                  · have HF : Hid (stG L k t = false) := hid (by rw [H.out, decide_eq_false c1, Bool.false_and, Bool.and_false])
                    have d1 : decide (a0 ≤ b0) = false := decide_eq_false c1
                    clear hkt
                    go_wp2_with fail
                    go_quiet (fail)
                    go_wp2
                    go_roundw
                    case rel => exact ⟨t + 1, by omega, by go_num, (by rw [mkL_congr (h := stY L N k t) (fun i _ => by unfold stY; split; rfl; split; (rw [rowN, HF.out]; rfl); rfl)]; exact HRi.out), HBxi.out, below_drewN HBi.out _⟩
                    case measure => simp [intOf]; omega
              · obtain rfl : t = N := by omega
                clear hrow hbox hb
                go_wp2
                go_roundw
                case rel => exact ⟨k + 1, by omega, by go_num, (by rw [mkL_congr (h := stY L t k t) (fun i _ => by unfold stY stX; by_cases h : i < k; (rw [if_pos h, if_pos (by omega)]); by_cases h2 : i = k; (subst h2; simp); (rw [if_neg h, if_neg h2, if_neg (by omega)]))]; exact HRi.out), HBxi.out, HBi.out⟩
                case measure => simp [intOf]; omega
          · obtain rfl : k = N := by omega
            have e : mkL k (stX L k k) = whereL (stF L) k := by rw [← HE.out]; exact mkL_congr (fun i hi => by simp [stX, hi])
            rw [e] at hrow
            have HOw := hid (Blk.own (xs := whereL (stF L) k) (B := w.heap.size) hrow (Nat.le_of_lt hr0) (by unfold whereL; rw [mkL_length]; omega))
            have hwl : (whereL (stF L) k).length = k := by unfold whereL; rw [mkL_length]
            rw [hwl] at HOw
            have hr := HR0.out.below hb hr0
            have z1 := hr.cell 0
            have z2 := hr.frozen 0
            have t3 := hbox.cell 0
            have HBf := hid (below_to HBw.out hb)
            clear e hrow hbox hb hr hwl
            go_wp2
            refine bodyPost_ret (v := .tuple #[.agg #[.slice (some ⟨W1.heap.size, 0, none⟩) k k], .bool true]) (by simp [results, Try.results170, go_sem, z1]) rfl ⟨_, rfl, ?_, HL.out, ?_⟩
            · rw [HY.out]
              exact HOw.out.grown (grown_setCell (World.grownBy.refl _ _) 0 _) (.inr (by simp [Value.ownBlock]; omega))
            · exact HBf.out.setCell (p := ⟨w.heap.size, 0, none⟩) (Nat.le_refl _) _
  · have hd : (decide ((1 : Int) ≤ n) && decide (n ≤ 4)) = false := by rw [Bool.eq_false_iff]; simp; omega
    have HNo := hid (stcL_no hn)
    rw [hd]
    have Hd := hid hd
    clear hd hn
    go_enter Try.func170, Try.ntmps170
    go_wp2_with (go_at_call 119; refine (l1In_any _ _ _ _).mono ?_; rw [Hd.out]; rintro e w' ⟨rfl, rfl⟩)
    refine bodyPost_ret (v := .tuple #[.agg #[.slice none 0 0], .bool false]) (by simp [results, Try.results170, go_sem]) rfl ⟨_, rfl, by rw [HNo.out]; exact OwnI.nil _ _ _, HL.out, ?_⟩
    exact (Below.refl _ _).alloc (Nat.le_refl _) _
end Go.Proofs.Ytpdoheagfjeefaa
