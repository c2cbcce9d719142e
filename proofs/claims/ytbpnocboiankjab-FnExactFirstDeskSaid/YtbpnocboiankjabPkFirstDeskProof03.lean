/- Texts From, Rect, Nest, one behind the other. -/
import Derived.Test.YtbpnocboiankjabPkFirstDeskProof02
/- poFrom: a poset out of relations, as the model makes it. -/
namespace Go.Proofs.Ytbpnocboiankjab
open Go.RowKit Go.WideShapes Go.ChangeShapes
set_option linter.unusedVariables false

def fstep (g : Nat → Nat) (i : Nat) (p : Nat × Nat) (r : Nat) : Nat := if p.2 = i then (if r = i then g i ||| (2 ^ p.1 ||| g p.1) else g r) else g r
def fin_ (ps : List (Nat × Nat)) (i : Nat) (g : Nat → Nat) : Nat → Nat → Nat
  | 0 => g
  | k + 1 => fstep (fin_ ps i g k) i (ps.getD k (0, 0))
def fout (ps : List (Nat × Nat)) : Nat → Nat → Nat
  | 0 => fun _ => 0
  | i + 1 => fin_ ps i (fout ps i) ps.length
theorem fin_lt {ps : List (Nat × Nat)} {i : Nat} {g : Nat → Nat} (hp : ∀ k, k < ps.length → (ps.getD k (0, 0)).1 < 10) (hg : ∀ r, g r < 1024) (k : Nat) (hk : k ≤ ps.length) : ∀ r, fin_ ps i g k r < 1024 := by
  induction k with
  | zero => exact hg
  | succ k ih =>
    have ih := ih (by omega)
    intro r
    unfold fin_ fstep
    split
    · split
      · exact Nat.or_lt_two_pow (n := 10) (ih _) (Nat.or_lt_two_pow (n := 10) (Nat.pow_lt_pow_right (by decide) (hp k (by omega))) (ih _))
      · exact ih r
    · exact ih r
theorem fout_lt {ps : List (Nat × Nat)} (hp : ∀ k, k < ps.length → (ps.getD k (0, 0)).1 < 10) (i : Nat) : ∀ r, fout ps i r < 1024 := by
  induction i with
  | zero => intro r; simp [fout]
  | succ i ih => exact fin_lt hp ih ps.length (Nat.le_refl _)
def fromL (n : Nat) (ps : List (Nat × Nat)) : List Int := mkL n (fout ps n)
def PairsOk (n : Nat) (ps : List (Nat × Nat)) : Prop := ∀ k, k < ps.length → (ps.getD k (0, 0)).1 < n ∧ (ps.getD k (0, 0)).2 < n

structure FromW (ti tp : TypeId) (n : Nat) (w : World) (g : Nat → Nat) (wr : World) : Prop where
  row : Blk wr (w.heap.size + 1) ti (Vals (mkL n g))
  out : Blk wr (w.heap.size + 1 + 1) tp #[.slice (some ⟨w.heap.size + 1, 0, none⟩) n n]
  res : Blk wr w.heap.size tp #[.slice none 0 0]
  below : Below w.heap.size w wr
theorem FromW.start (ti tp : TypeId) (n : Nat) (w : World) (g : Nat → Nat) :
    FromW ti tp n w g (((w.alloc (.cells #[.slice none 0 0] tp)).alloc (.cells (Vals (mkL n g)) ti)).alloc (.cells #[.slice (some ⟨w.heap.size + 1, 0, none⟩) n n] tp)) :=
  ⟨(Blk.newAt _ _ _ _ (by simp)).alloc _, Blk.newAt _ _ _ _ (by simp), ((Blk.new _ _ _).alloc _).alloc _, ((((Below.refl _ _).alloc (Nat.le_refl _) _).alloc (by simp) _).alloc (by simp; omega) _)⟩
theorem FromW.step {ti tp : TypeId} {n : Nat} {w wr : World} {g g' : Nat → Nat} {q : Nat} {y : Int} (h : FromW ti tp n w g wr) (e : mkL n g' = (mkL n g).set q y) :
    FromW ti tp n w g' ((wr.setCell ⟨w.heap.size + 1, q, none⟩ (.int .i64 y)).drew) := by
  refine ⟨?_, ?_, ?_, ?_⟩
  · rw [e, ← Vals_set]; exact h.row.set_ q _
  · exact h.out.far (p := ⟨w.heap.size + 1, q, none⟩) (by show w.heap.size + 1 + 1 ≠ w.heap.size + 1; omega) _
  · exact h.res.far (p := ⟨w.heap.size + 1, q, none⟩) (by show w.heap.size ≠ w.heap.size + 1; omega) _
  · exact (h.below.setCell (p := ⟨w.heap.size + 1, q, none⟩) (by show w.heap.size ≤ w.heap.size + 1; omega) _).drew

/-- 'v' reads as a list of pairs -/
def PairsR (w : World) (v : Value) (ps : List (Nat × Nat)) : Prop :=
  ∃ A c, v = .slice A ps.length c ∧ ∀ j, j < ps.length → ∃ b o g p m, A = some ⟨b, o, none⟩ ∧ b < w.heap.size ∧ g < w.heap.size ∧ w.cell? ⟨b, o + j, none⟩ = some (.slice (some ⟨g, p, none⟩) 2 m) ∧ w.cell? ⟨g, p, none⟩ = some (.int .i64 ((ps.getD j (0, 0)).1 : Int)) ∧ w.cell? ⟨g, p + 1, none⟩ = some (.int .i64 ((ps.getD j (0, 0)).2 : Int))
theorem Pairs.read {ti ts : TypeId} {w : World} {B : Nat} {v : Value} {ps : List (Nat × Nat)} (h : Pairs ti ts w B v ps) : PairsR w v ps := by
  obtain ⟨A, c, rfl, hA⟩ := h.shape
  refine ⟨A, c, rfl, fun j hj => ?_⟩
  obtain ⟨b, g, rfl, hb, hg, h0, h1, h2⟩ := hA j hj
  exact ⟨b, 0, g, 0, 2, rfl, hb, hg, by rw [Nat.zero_add]; exact h0, h1, by rw [Nat.zero_add]; exact h2⟩
theorem poFromR_any (v : Value) (ps : List (Nat × Nat)) (n : Nat) (w : World) (hv : PairsR w v ps) (hn : n ≤ 10) (hok : PairsOk n ps) (hl : ps.length ≤ 1048576) :
    Calls Try.prog 23 #[.int .i64 n, v] w fun (r : Ending) w' => ∃ u, r = Ending.returned (.agg #[u]) ∧ OwnI 3 w' w.heap.size u (fromL n ps) ∧ Below w.heap.size w w' := by
  obtain ⟨A, c, rfl, hA⟩ := hv
  have HA := hid hA
  have HK := hid hok
  clear hA hok
  have hmk := run_make_row' (P := Try.prog) 22 3 (.int .i64 0) 8 Try.underlying22 Try.info3 rfl .i64 .i64 n (by omega) (by omega)
  go_enter Try.func23, Try.ntmps23
  go_wp2
  clear hmk
  rw [Vals_made]
  go_loopw [6] (fun i wr => ∃ k : Nat, k ≤ n ∧ i = .int .i64 k ∧ FromW 3 24 n w (fout ps k) wr) (fun i _ => n - (intOf i).toNat)
  case atStart => exact ⟨0, Nat.zero_le _, rfl, by rw [← mkL_zero]; exact FromW.start _ _ _ _ _⟩
  case round =>
    obtain ⟨k, hk, rfl, hD⟩ := hrel
    have HD := hid hD
    clear hD
    by_cases hlt : k < n
    · go_wp2
      go_loopw [19] (fun j wi => ∃ t : Nat, t ≤ ps.length ∧ j = .int .i64 t ∧ FromW 3 24 n w (fin_ ps k (fout ps k) t) wi) (fun j _ => ps.length - (intOf j).toNat)
      case atStart => exact ⟨0, Nat.zero_le _, rfl, HD.out⟩
      case round =>
        obtain ⟨t, ht, rfl, hT⟩ := hrel
        have HT := hid hT
        clear hT
        by_cases htk : t < ps.length
        · obtain ⟨b, o, g, pp, m, rfl, hb, hg, hc0, hc1, hc2⟩ := HA.out t htk
          obtain ⟨p1, p2⟩ := HK.out t htk
          obtain ⟨a, ha⟩ : ∃ a, (ps.getD t (0, 0)).1 = a := ⟨_, rfl⟩
          obtain ⟨y, hy⟩ : ∃ y, (ps.getD t (0, 0)).2 = y := ⟨_, rfl⟩
          rw [ha] at hc1 p1
          rw [hy] at hc2 p2
          have t1 : wr.cell? ⟨b, o + t, none⟩ = some (.slice (some ⟨g, pp, none⟩) 2 m) := by rw [HT.out.below.cell (p := ⟨b, o + t, none⟩) hb]; exact hc0
          have t2 : wr.cell? ⟨g, pp, none⟩ = some (.int .i64 (a : Int)) := by rw [HT.out.below.cell (p := ⟨g, pp, none⟩) hg]; exact hc1
          have t3 : wr.cell? ⟨g, pp + 1, none⟩ = some (.int .i64 (y : Int)) := by rw [HT.out.below.cell (p := ⟨g, pp + 1, none⟩) hg]; exact hc2
          have hlp : ∀ k, k < ps.length → (ps.getD k (0, 0)).1 < 10 := fun k hk => by have := (HK.out k hk).1; omega
          have hlt2 := fin_lt (i := k) hlp (fout_lt hlp k) t (by omega)
          have Ha := hid ha
          have Hy := hid hy
          have Hlt2 := hid hlt2
          clear hc0 hc1 hc2 ha hy hlp hlt2
          by_cases hyk : y = k
          · subst hyk
            have hp := Hlt2.out y
            have hq := Hlt2.out a
            obtain ⟨p, hpp⟩ : ∃ p, fin_ ps y (fout ps y) t y = p := ⟨_, rfl⟩
            obtain ⟨q, hqq⟩ : ∃ q, fin_ ps y (fout ps y) t a = q := ⟨_, rfl⟩
            rw [hpp] at hp
            rw [hqq] at hq
            have t0 := HT.out.out.cell 0
            have t4 : wr.cell? ⟨w.heap.size + 1, y, none⟩ = some (.int .i64 p) := by rw [HT.out.row.cell, Vals_get (by rw [mkL_length]; exact hlt), mkL_getD hlt, hpp]
            have t5 : wr.cell? ⟨w.heap.size + 1, a, none⟩ = some (.int .i64 q) := by rw [HT.out.row.cell, Vals_get (by rw [mkL_length]; exact p1), mkL_getD p1, hqq]
            have t6 := HT.out.row.frozen y
            have wp := wrap_pow' a (by omega)
            have o1 := pow_or q a hq (by omega)
            have o3 : 2 ^ a ||| q < 1024 := Nat.or_lt_two_pow (n := 10) (Nat.pow_lt_pow_right (by decide) (by omega)) hq
            have o2 := i64_or_nat p (2 ^ a ||| q) (by omega) (Nat.lt_trans o3 (by decide))
            have h1 : (y : Int) < n := by omega
            have h2 : (a : Int) < n := by omega
            have Hp := hid hpp
            have Hq := hid hqq
            clear hpp hqq hp hq o3
            obtain ⟨z, hz⟩ : ∃ z, 2 ^ a ||| q = z := ⟨_, rfl⟩
            rw [hz] at o1 o2
            have Hz := hid hz
            clear hz
            go_wp2
            go_region
            go_wp2
            go_roundw
            case rel => exact ⟨t + 1, by omega, by go_num, (by
              have e : mkL n (fin_ ps y (fout ps y) (t + 1)) = (mkL n (fin_ ps y (fout ps y) t)).set y ((p ||| z : Nat) : Int) := by
                rw [mkL_set _ hlt]
                refine mkL_congr fun r _ => ?_
                rw [fin_, fstep, Hy.out, if_pos rfl, Ha.out, Hp.out, Hq.out, Hz.out]
              exact HT.out.step e)⟩
            case measure => simp [intOf]; omega
          · have hyz : ((y : Int) == (k : Int)) = false := by rw [beq_eq_false_iff_ne]; omega
            have Hyk := hid hyk
            clear hyk
            go_wp2
            go_roundw
            case rel => exact ⟨t + 1, by omega, by go_num, (by
              have e : fin_ ps k (fout ps k) (t + 1) = fin_ ps k (fout ps k) t := by
                funext r
                rw [fin_, fstep, Hy.out, if_neg Hyk.out]
              rw [e]; exact HT.out)⟩
            case measure => simp [intOf]; omega
        · obtain rfl : t = ps.length := by omega
          go_wp2
          go_roundw
          case rel => exact ⟨k + 1, by omega, by go_num, HT.out⟩
          case measure => simp [intOf]; omega
    · obtain rfl : k = n := by omega
      have t0 := HD.out.out.cell 0
      have t1 := HD.out.res.cell 0
      have t2 := HD.out.res.frozen 0
      go_wp2
      refine bodyPost_ret (v := .agg #[.slice (some ⟨w.heap.size + 1, 0, none⟩) k k]) (by simp [results, Try.results23, go_sem, t1]) rfl ⟨_, rfl, ?_, ?_⟩
      · have h := HD.out.row
        have hlen : (fromL k ps).length = k := mkL_length _ _
        have h2 : OwnI 3 wr w.heap.size (.slice (some ⟨w.heap.size + 1, 0, none⟩) (fromL k ps).length (fromL k ps).length) (fromL k ps) := Blk.own h (by omega) (by omega)
        rw [hlen] at h2
        exact h2.grown (grown_setCell (World.grownBy.refl _ _) 0 _) (.inr (by simp [Value.ownBlock]))
      · exact HD.out.below.setCell (p := ⟨w.heap.size, 0, none⟩) (Nat.le_refl _) _
theorem poFrom_any (v : Value) (ps : List (Nat × Nat)) (n B : Nat) (w : World) (hv : Pairs 3 22 w B v ps) (hn : n ≤ 10) (hok : PairsOk n ps) (hl : ps.length ≤ 1048576) :
    Calls Try.prog 23 #[.int .i64 n, v] w fun (r : Ending) w' => ∃ u, r = Ending.returned (.agg #[u]) ∧ OwnI 3 w' w.heap.size u (fromL n ps) ∧ Below w.heap.size w w' :=
  poFromR_any v ps n w hv.read hn hok hl
end Go.Proofs.Ytbpnocboiankjab

/- Rectangle. -/
namespace Go.Proofs.Ytbpnocboiankjab
open Go.RowKit Go.WideShapes Go.ChangeShapes
set_option linter.unusedVariables false

def rectStep (a b q r c : Nat) : List (Nat × Nat) := (if r + 1 < a then [(q + c, q + b + c)] else []) ++ (if c + 1 < b then [(q + c, q + c + 1)] else [])
def rectIn (a b q r : Nat) : Nat → List (Nat × Nat)
  | 0 => []
  | c + 1 => rectIn a b q r c ++ rectStep a b q r c
def rectPS (a b : Nat) : Nat → List (Nat × Nat)
  | 0 => []
  | r + 1 => rectPS a b r ++ rectIn a b (b * r) r b
theorem rectIn_length (a b q r c : Nat) : (rectIn a b q r c).length ≤ 2 * c := by
  induction c with
  | zero => simp [rectIn]
  | succ c ih =>
    unfold rectIn rectStep
    rw [List.length_append, List.length_append]
    split <;> split <;> simp <;> omega
theorem rectPS_length (a b r : Nat) (hb : b ≤ 10) : (rectPS a b r).length ≤ 20 * r := by
  induction r with
  | zero => simp [rectPS]
  | succ r ih =>
    unfold rectPS
    have := rectIn_length a b (b * r) r b
    rw [List.length_append]
    omega
def rectF (b : Nat) (j i : Nat) : Bool := decide (j / b ≤ i / b) && decide (j % b ≤ i % b)
def rectChk (a b : Nat) : Bool := decide (fromL (a * b) (rectPS a b a) = whereL (rectF b) (a * b)) && (List.range (rectPS a b a).length).all fun k => decide (((rectPS a b a).getD k (0, 0)).1 < a * b) && decide (((rectPS a b a).getD k (0, 0)).2 < a * b)
theorem rect_chk : ((List.range 11).all fun a => (List.range 11).all fun b => decide (a * b = 0) || decide (10 < a * b) || rectChk a b) = true := by decide +kernel
theorem rect_at {a b : Nat} (ha : a < 11) (hb : b < 11) (h1 : 1 ≤ a) (h2 : 1 ≤ b) (h : a * b ≤ 10) : rectChk a b = true := by
  have h3 := List.all_eq_true.1 (List.all_eq_true.1 rect_chk a (List.mem_range.2 ha)) b (List.mem_range.2 hb)
  have h4 : a * b ≠ 0 := Nat.pos_iff_ne_zero.1 (Nat.mul_pos h1 h2)
  simp only [Bool.or_eq_true, decide_eq_true_eq] at h3
  rcases h3 with (h3 | h3) | h3
  · exact absurd h3 h4
  · omega
  · exact h3
theorem rect_all (a : Nat) (ha : a < 11) (b : Nat) (hb : b < 11) (h1 : 1 ≤ a) (h2 : 1 ≤ b) (h : a * b ≤ 10) : fromL (a * b) (rectPS a b a) = whereL (rectF b) (a * b) := by
  have := rect_at ha hb h1 h2 h
  simp only [rectChk, Bool.and_eq_true, decide_eq_true_eq] at this
  exact this.1
theorem rect_ok_all (a : Nat) (ha : a < 11) (b : Nat) (hb : b < 11) (h1 : 1 ≤ a) (h2 : 1 ≤ b) (h : a * b ≤ 10) : PairsOk (a * b) (rectPS a b a) := by
  have := rect_at ha hb h1 h2 h
  simp only [rectChk, Bool.and_eq_true, decide_eq_true_eq] at this
  intro k hk
  have h3 := List.all_eq_true.1 this.2 k (List.mem_range.2 hk)
  simpa only [Bool.and_eq_true, decide_eq_true_eq] using h3
/-- are a and b the sides of a rectangle? -/
def sides (a b : Int) : Bool := (decide (1 ≤ a) && decide (a ≤ 10)) && ((decide (1 ≤ b) && decide (b ≤ 10)) && decide (a * b ≤ 10))
def rectL (a b : Int) : List Int := if sides a b then whereL (rectF b.toNat) (a.toNat * b.toNat) else []
theorem rectL_length (a b : Int) : (rectL a b).length ≤ 1048576 := by
  unfold rectL
  split
  · rename_i h
    simp only [sides, Bool.and_eq_true, decide_eq_true_eq] at h
    unfold whereL; rw [mkL_length]
    obtain ⟨x, rfl⟩ := Int.eq_ofNat_of_zero_le (by omega : 0 ≤ a)
    obtain ⟨y, rfl⟩ := Int.eq_ofNat_of_zero_le (by omega : 0 ≤ b)
    have := h.2.2
    rw [← Int.natCast_mul] at this
    simp only [Int.toNat_natCast]
    omega
  · simp
theorem sides_nat {a b : Int} (h : sides a b = true) : ∃ x y : Nat, a = x ∧ b = y ∧ 1 ≤ x ∧ x ≤ 10 ∧ 1 ≤ y ∧ y ≤ 10 ∧ x * y ≤ 10 := by
  simp only [sides, Bool.and_eq_true, decide_eq_true_eq] at h
  obtain ⟨x, rfl⟩ := Int.eq_ofNat_of_zero_le (by omega : 0 ≤ a)
  obtain ⟨y, rfl⟩ := Int.eq_ofNat_of_zero_le (by omega : 0 ≤ b)
  have := h.2.2
  rw [← Int.natCast_mul] at this
  exact ⟨x, y, rfl, rfl, by omega, by omega, by omega, by omega, by omega⟩
theorem rectL_yes {x y : Nat} (h : sides x y = true) : rectL x y = whereL (rectF y) (x * y) := by
  unfold rectL; rw [if_pos h]; simp
theorem rectL_no {a b : Int} (h : sides a b = false) : rectL a b = [] := by unfold rectL; rw [h]; rfl

def rectGoodChk (a b : Nat) : Bool := good (whereL (rectF b) (a * b))
theorem rectGood_chk : ((List.range 11).all fun a => (List.range 11).all fun b => decide (a * b = 0) || decide (10 < a * b) || rectGoodChk a b) = true := by decide +kernel
theorem rectGood {a b : Nat} (h1 : 1 ≤ a) (h2 : a ≤ 10) (h3 : 1 ≤ b) (h4 : b ≤ 10) (h5 : a * b ≤ 10) : good (whereL (rectF b) (a * b)) = true := by
  have h := List.all_eq_true.1 (List.all_eq_true.1 rectGood_chk a (List.mem_range.2 (by omega))) b (List.mem_range.2 (by omega))
  simp only [Bool.or_eq_true, decide_eq_true_eq] at h
  have h0 : 0 < a * b := Nat.mul_pos (by omega) (by omega)
  rcases h with (h | h) | h
  · omega
  · omega
  · exact h
theorem cell_lt {a b r c : Nat} (hr : r < a) (hc : c < b) : b * r + c < a * b := by
  have h1 : b * (r + 1) ≤ b * a := Nat.mul_le_mul_left b hr
  have h2 : b * (r + 1) = b * r + b := Nat.mul_succ b r
  have h3 : b * a = a * b := Nat.mul_comm b a
  omega

theorem poRectangle_any (a b : Nat) (w : World) (ha : 1 ≤ a) (ha2 : a ≤ 10) (hb1 : 1 ≤ b) (hb2 : b ≤ 10) (hab : a * b ≤ 10) :
    Calls Try.prog 14 #[.int .i64 a, .int .i64 b] w fun (r : Ending) w' => ∃ u, r = Ending.returned (.agg #[u]) ∧ OwnI 3 w' w.heap.size u (whereL (rectF b) (a * b)) ∧ Below w.heap.size w w' := by
  have HE := hid (rect_all a (by omega) b (by omega) ha hb1 hab)
  have HK := hid (rect_ok_all a (by omega) b (by omega) ha hb1 hab)
  have HM : Hid (∀ r, r < a → b * r + b ≤ 10) := hid (fun r hr => by
    have h : b * (r + 1) ≤ b * a := Nat.mul_le_mul (Nat.le_refl _) (by omega)
    rw [Nat.mul_comm b a, Nat.mul_add, Nat.mul_one] at h
    omega)
  have HAB := hid hab
  clear hab
  go_enter Try.func14, Try.ntmps14
  go_wp2
  go_loopw [5, 6] (fun p i wr => ∃ r : Nat, r ≤ a ∧ i = .int .i64 r ∧ Pairs 3 22 wr (w.heap.size + 1) p (rectPS a b r) ∧ Below (w.heap.size + 1) (w.alloc (.cells #[.slice none 0 0] 24)) wr) (fun _ i _ => a - (intOf i).toNat)
  case atStart => exact ⟨0, by omega, rfl, Pairs.nil _ _ _ _, Below.refl _ _⟩
  case round =>
    obtain ⟨r, hr, rfl, hP, hb⟩ := hrel
    have HPo := hid hP
    have HBr := hid hb
    clear hP hb
    by_cases hlt : r < a
    · obtain ⟨q, hq⟩ : ∃ q, b * r = q := ⟨_, rfl⟩
      have hq10 := HM.out r hlt
      rw [hq] at hq10
      have e1 : (b : Int) * (r : Int) = (q : Int) := by rw [← Int.natCast_mul, hq]
      have HQ := hid hq
      have hl1 := rectPS_length a b r hb2
      clear hq
      go_wp2
      go_loopw [5, 7] (fun p i wi => ∃ c : Nat, c ≤ b ∧ i = .int .i64 c ∧ Pairs 3 22 wi (w.heap.size + 1) p (rectPS a b r ++ rectIn a b q r c) ∧ Below (w.heap.size + 1) (w.alloc (.cells #[.slice none 0 0] 24)) wi) (fun _ i _ => b - (intOf i).toNat)
      case atStart => exact ⟨0, by omega, rfl, by simpa [rectIn] using HPo.out, HBr.out⟩
      case round =>
        obtain ⟨c, hc, rfl, hP, hb⟩ := hrel
        have hbz : w.heap.size + 1 ≤ wr.heap.size := by have := hb.size; simp at this; omega
        have hl2 := rectIn_length a b q r c
        obtain ⟨L, hL⟩ : ∃ L, rectPS a b r ++ rectIn a b q r c = L := ⟨_, rfl⟩
        rw [hL] at hP
        have hll : L.length ≤ 20 * r + 2 * c := by rw [← hL, List.length_append]; omega
        have HP := hid hP
        have HBo := hid hb
        have HLL := hid hL
        clear hP hb hL hl2
        by_cases hcb : c < b
        · have hcb' : (c : Int) < b := by omega
          by_cases h1 : r + 1 < a
          · have h1' : (r : Int) + 1 < a := by omega
            by_cases h2 : c + 1 < b
            · have h2' : (c : Int) + 1 < b := by omega
              have tok1 : True := trivial
              go_wp2_with (first | (at_builtin; have _t := tok1; refine wpList_append_pair rfl _ _ 46 22 3 rfl Try.underlying46 Try.info22 (by decide) (w.heap.size + 1) _ _ (q + c) (q + b + c) rfl HP.out rfl rfl (by omega) (by omega) ?_; intro q2 w2 hp2 hb2; clear tok1; have hz2 : w.heap.size + 1 ≤ w2.heap.size := Nat.le_trans hbz hb2.size; have HP2 := hid hp2; have HB2 := hid (HBo.out.trans hb2); clear hp2 hb2) | (at_builtin; refine wpList_append_pair rfl _ _ 46 22 3 rfl Try.underlying46 Try.info22 (by decide) (w.heap.size + 1) _ _ (q + c) (q + c + 1) rfl HP2.out rfl rfl (by simp; omega) (by omega) ?_; intro q3 w3 hp3 hb3))
              go_roundw
              case rel => exact ⟨c + 1, by omega, by go_num, by (rw [rectIn, rectStep, if_pos h1, if_pos h2, ← List.append_assoc, ← List.append_assoc, HLL.out]; exact hp3), HB2.out.trans hb3⟩
              case measure => simp [intOf]; omega
            · have h2' : ¬ (c : Int) + 1 < b := by omega
              go_wp2_with (at_builtin; refine wpList_append_pair rfl _ _ 46 22 3 rfl Try.underlying46 Try.info22 (by decide) (w.heap.size + 1) _ _ (q + c) (q + b + c) rfl HP.out rfl rfl (by omega) (by omega) ?_; intro q2 w2 hp2 hb2)
              go_roundw
              case rel => exact ⟨c + 1, by omega, by go_num, by (rw [rectIn, rectStep, if_pos h1, if_neg h2, ← List.append_assoc, ← List.append_assoc, HLL.out, List.append_nil]; exact hp2), HBo.out.trans hb2⟩
              case measure => simp [intOf]; omega
          · have h1' : ¬ (r : Int) + 1 < a := by omega
            by_cases h2 : c + 1 < b
            · have h2' : (c : Int) + 1 < b := by omega
              go_wp2_with (at_builtin; refine wpList_append_pair rfl _ _ 46 22 3 rfl Try.underlying46 Try.info22 (by decide) (w.heap.size + 1) _ _ (q + c) (q + c + 1) rfl HP.out rfl rfl (by omega) (by omega) ?_; intro q2 w2 hp2 hb2)
              go_roundw
              case rel => exact ⟨c + 1, by omega, by go_num, by (rw [rectIn, rectStep, if_neg h1, if_pos h2, List.nil_append, ← List.append_assoc, HLL.out]; exact hp2), HBo.out.trans hb2⟩
              case measure => simp [intOf]; omega
            · have h2' : ¬ (c : Int) + 1 < b := by omega
              go_wp2
              go_roundw
              case rel => exact ⟨c + 1, by omega, by go_num, by (rw [rectIn, rectStep, if_neg h1, if_neg h2, List.nil_append, ← List.append_assoc, HLL.out, List.append_nil]; exact HP.out), HBo.out⟩
              case measure => simp [intOf]; omega
        · obtain rfl : c = b := by omega
          go_wp2
          go_roundw
          case rel => exact ⟨r + 1, by omega, by go_num, by (rw [rectPS, HQ.out, HLL.out]; exact HP.out), HBo.out⟩
          case measure => simp [intOf]; omega
    · obtain rfl : r = a := by omega
      obtain ⟨n, hn⟩ : ∃ n, r * b = n := ⟨_, rfl⟩
      have e1 : (r : Int) * (b : Int) = (n : Int) := by rw [← Int.natCast_mul, hn]
      have hn10 : n ≤ 10 := by rw [← hn]; exact HAB.out
      have hl1 := rectPS_length r b r hb2
      have HE2 : Hid (fromL n (rectPS r b r) = whereL (rectF b) (r * b)) := hid (by rw [← hn]; exact HE.out)
      have HK2 : Hid (PairsOk n (rectPS r b r)) := hid (by rw [← hn]; exact HK.out)
      clear HE HK
      have hbz : w.heap.size + 1 ≤ wr.heap.size := by have := HBr.out.size; simp at this; omega
      clear hn
      go_wp2_with fail
      clear e1
      refine (poFrom_any _ _ n _ _ HPo.out hn10 HK2.out (by omega)).mono ?_
      rintro e w2 ⟨u, rfl, ho, hb2⟩
      have hr : Blk w2 w.heap.size 24 #[.slice none 0 0] := ((Blk.new w _ _).below HBr.out (Nat.lt_succ_self _)).below hb2 (by omega)
      have t1 := hr.cell 0
      have t2 := hr.frozen 0
      obtain ⟨uA, un, uc, rfl⟩ := ho.shape3
      have HO := hid ho
      have HB3 := hid (below_to (below_box HBr.out) hb2)
      clear hr ho hb2
      go_wp2
      refine bodyPost_ret (v := .agg #[.slice uA un uc]) (by simp [results, Try.results14, go_sem, t1]) rfl ⟨_, rfl, ?_, ?_⟩
      · rw [← HE2.out]
        refine (HO.out.grown (grown_setCell (World.grownBy.refl _ _) 0 _) ?_).mono (by omega)
        exact HO.out.apart (.inl (by omega))
      · exact HB3.out.setCell (p := ⟨w.heap.size, 0, none⟩) (Nat.le_refl _) _
theorem rectClosure_any (b a j i : Nat) (w : World) (h1 : At w a (.int .i64 (b : Int))) (hb : 1 ≤ b) (hb2 : b ≤ 10) (hj : j < i) (hi : i < 10) :
    Calls Try.prog 25 #[.int .i64 j, .int .i64 i, .pointer (some ⟨a, 0, none⟩)] w fun r w' => r = .returned (.bool (rectF b j i)) ∧ Below w.heap.size w w' := by
  obtain ⟨h1, -⟩ := h1
  obtain ⟨p, hp⟩ : ∃ p, j / b = p := ⟨_, rfl⟩
  obtain ⟨q, hq⟩ : ∃ q, i / b = q := ⟨_, rfl⟩
  obtain ⟨y, hy⟩ : ∃ y, j % b = y := ⟨_, rfl⟩
  obtain ⟨z, hz⟩ : ∃ z, i % b = z := ⟨_, rfl⟩
  have e1 : (j : Int) / (b : Int) = (p : Int) := by rw [← Int.natCast_ediv, hp]
  have e2 : (i : Int) / (b : Int) = (q : Int) := by rw [← Int.natCast_ediv, hq]
  have e3 : (j : Int) % (b : Int) = (y : Int) := by rw [← Int.natCast_emod, hy]
  have e4 : (i : Int) % (b : Int) = (z : Int) := by rw [← Int.natCast_emod, hz]
  have f1 : (j : Int).tdiv (b : Int) = (p : Int) := by rw [Int.tdiv_eq_ediv_of_nonneg (by omega)]; exact e1
  have f2 : (i : Int).tdiv (b : Int) = (q : Int) := by rw [Int.tdiv_eq_ediv_of_nonneg (by omega)]; exact e2
  have f3 : (j : Int).tmod (b : Int) = (y : Int) := by rw [Int.tmod_eq_emod_of_nonneg (by omega)]; exact e3
  have f4 : (i : Int).tmod (b : Int) = (z : Int) := by rw [Int.tmod_eq_emod_of_nonneg (by omega)]; exact e4
  have hb0 : ((b : Int) == 0) = false := by rw [beq_eq_false_iff_ne]; omega
  have hb3 : ¬ ((b : Int) = 0) := by omega
  have hb4 : ¬ (b = 0) := by omega
  have hp10 : p ≤ 10 := by rw [← hp]; exact Nat.le_trans (Nat.div_le_self _ _) (by omega)
  have hq10 : q ≤ 10 := by rw [← hq]; exact Nat.le_trans (Nat.div_le_self _ _) (by omega)
  have w1 : IntKind.i64.wrap (p : Int) = (p : Int) := IntWalk.i64_in _ (by omega)
  have w2 : IntKind.i64.wrap (q : Int) = (q : Int) := IntWalk.i64_in _ (by omega)
  have H : Hid (rectF b j i = (decide (p ≤ q) && decide (y ≤ z))) := by unfold Hid rectF; rw [hp, hq, hy, hz]
  clear hp hq hy hz
  by_cases c1 : p ≤ q
  · have d1 : decide (p ≤ q) = true := by rw [decide_eq_true_eq]; omega
    have H2 : Hid (rectF b j i = decide (y ≤ z)) := by
      unfold Hid; rw [H.out, decide_eq_true c1, Bool.true_and]
    clear c1 H
    go_enter Try.func25, Try.ntmps25
    go_wp2
    go_quiet (fail)
    go_wp2
    go_ret
    exact ⟨ret_bool H2.out.symm, below_drewN (Below.refl _ _) _⟩
  · have d1 : decide (p ≤ q) = false := by rw [decide_eq_false_iff_not]; omega
    have H2 : Hid (rectF b j i = false) := by
      unfold Hid; rw [H.out, decide_eq_false c1, Bool.false_and]
    clear c1 H
    go_enter Try.func25, Try.ntmps25
    go_wp2
    go_quiet (fail)
    go_wp2
    go_ret
    exact ⟨ret_bool H2.out.symm, below_drewN (Below.refl _ _) _⟩

theorem implRectangle_no (a b : Int) (w : World) (hs : sides a b = false) (wa : (Lit.int .i64 a).wf = true) (wb : (Lit.int .i64 b).wf = true) :
    Calls Try.prog 15 #[.int .i64 a, .int .i64 b] w fun (r : Ending) w' => ∃ u, r = Ending.returned (.tuple #[.agg #[u], .bool false]) ∧ OwnI 3 w' w.heap.size u (rectL a b) ∧ (rectL a b).length ≤ 1048576 ∧ Below w.heap.size w w' := by
  have HL := hid (rectL_length a b)
  have HN := hid (rectL_no hs)
  have Hs := hid hs
  have Wa := hid wa
  have Wb := hid wb
  clear hs wa wb
  by_cases c1 : a < 1
  · have d1 : decide (a < 1) = true := by simpa using c1
    go_enter Try.func15, Try.ntmps15
    go_wp2
    go_quiet (fail)
    go_wp2
    refine bodyPost_ret (v := .tuple #[.agg #[.slice none 0 0], .bool false]) (by simp [results, Try.results15, go_sem]) rfl ⟨_, rfl, by rw [HN.out]; exact OwnI.nil _ _ _, HL.out, ?_⟩
    exact (below_drewN (below_alloc (below_alloc (Below.refl _ _) _) _) _).setCell (p := ⟨w.heap.size + 1, 0, none⟩) (by show w.heap.size ≤ w.heap.size + 1; omega) _
  · by_cases c2 : b < 1
    · have d1 : decide (a < 1) = false := by simpa using c1
      have d2 : decide (b < 1) = true := by simpa using c2
      go_enter Try.func15, Try.ntmps15
      go_wp2
      go_quiet (fail)
      go_wp2
      refine bodyPost_ret (v := .tuple #[.agg #[.slice none 0 0], .bool false]) (by simp [results, Try.results15, go_sem]) rfl ⟨_, rfl, by rw [HN.out]; exact OwnI.nil _ _ _, HL.out, ?_⟩
      exact (below_drewN (below_alloc (below_alloc (Below.refl _ _) _) _) _).setCell (p := ⟨w.heap.size + 1, 0, none⟩) (by show w.heap.size ≤ w.heap.size + 1; omega) _
    · have c3 : (10 : Int) / a < b := by
        obtain ⟨x, rfl⟩ := Int.eq_ofNat_of_zero_le (by omega : 0 ≤ a)
        obtain ⟨y, rfl⟩ := Int.eq_ofNat_of_zero_le (by omega : 0 ≤ b)
        have hx : 1 ≤ x := by omega
        have hy : 1 ≤ y := by omega
        have : 10 / x < y := by
          rw [Nat.div_lt_iff_lt_mul (by omega)]
          rcases Nat.lt_or_ge 10 (y * x) with h | h
          · exact h
          · exfalso
            have hx2 : x ≤ y * x := Nat.le_mul_of_pos_left x (by omega)
            have hy2 : y ≤ y * x := Nat.le_mul_of_pos_right y (by omega)
            have h2 := Hs.out
            rw [Bool.eq_false_iff] at h2
            apply h2
            simp only [sides, Bool.and_eq_true, decide_eq_true_eq]
            rw [← Int.natCast_mul, Nat.mul_comm x y]
            omega
        have e : (10 : Int) / (x : Int) = ((10 / x : Nat) : Int) := by simp
        rw [e]; omega
      have d1 : decide (a < 1) = false := by simpa using c1
      have d2 : decide (b < 1) = false := by simpa using c2
      have d3 : decide ((10 : Int) / a < b) = true := by simpa using c3
      have c1' : 1 ≤ a := by omega
      clear c1 c2
      go_enter Try.func15, Try.ntmps15
      go_wp2
      go_quiet (fail)
      go_wp2
      refine bodyPost_ret (v := .tuple #[.agg #[.slice none 0 0], .bool false]) (by simp [results, Try.results15, go_sem]) rfl ⟨_, rfl, by rw [HN.out]; exact OwnI.nil _ _ _, HL.out, ?_⟩
      exact (below_drewN (below_alloc (below_alloc (Below.refl _ _) _) _) _).setCell (p := ⟨w.heap.size + 1, 0, none⟩) (by show w.heap.size ≤ w.heap.size + 1; omega) _
theorem implRectangle_yes (x y : Nat) (w : World) (hs : sides x y = true) (h1 : 1 ≤ x) (h2 : x ≤ 10) (h3 : 1 ≤ y) (h4 : y ≤ 10) (h5 : x * y ≤ 10) :
    Calls Try.prog 15 #[.int .i64 x, .int .i64 y] w fun (r : Ending) w' => ∃ u, r = Ending.returned (.tuple #[.agg #[u], .bool true]) ∧ OwnI 3 w' w.heap.size u (rectL x y) ∧ (rectL x y).length ≤ 1048576 ∧ Below w.heap.size w w' := by
  have HL := hid (rectL_length x y)
  have HY := hid (rectL_yes hs)
  have d1 : decide ((x : Int) < 1) = false := by simp; omega
  have d2 : decide ((y : Int) < 1) = false := by simp; omega
  have d3 : decide ((10 : Int) / (x : Int) < (y : Int)) = false := by
    have : ¬ 10 / x < y := by
      rw [Nat.div_lt_iff_lt_mul (by omega), Nat.mul_comm y x]; omega
    have e : (10 : Int) / (x : Int) = ((10 / x : Nat) : Int) := by simp
    rw [e, decide_eq_false_iff_not]; omega
  obtain ⟨n, hn⟩ : ∃ n, x * y = n := ⟨_, rfl⟩
  have e1 : (x : Int) * (y : Int) = (n : Int) := by rw [← Int.natCast_mul, hn]
  rw [hn] at HY h5
  clear hs hn
  go_enter Try.func15, Try.ntmps15
  go_wp2
  go_quiet (fail)
  go_wp2_with fail
  clear e1 d1 d2 d3
  obtain ⟨W, hW⟩ : ∃ W : World, W = (((w.alloc (.cells #[.int .i64 (y : Int)] 3)).alloc (.cells #[.slice none 0 0] 24)).drewN nq) := ⟨_, rfl⟩
  have HA2 : Hid (At W w.heap.size (.int .i64 (y : Int))) := hid (by subst hW; exact ((At.new _ _ _).alloc _).drewN _)
  have HR2 : Hid (Blk W (w.heap.size + 1) 24 #[.slice none 0 0]) := hid (by subst hW; exact Blk.newAt _ _ _ _ (by simp))
  have HB2 : Hid (Below w.heap.size w W) := hid (by subst hW; exact below_drewN (below_alloc (below_alloc (Below.refl _ _) _) _) _)
  have hzW : w.heap.size + 1 < W.heap.size := by subst hW; simp
  rw [← hW]
  clear hW
  refine (posetWhereRectangle_any n _ (rectF y) W h5 (fun j i W' hj hi hb => rectClosure_any y w.heap.size j i W' (HA2.out.below hb) h3 h4 hj (by omega))).mono ?_
  rintro e w2 ⟨u, rfl, ho, hb2⟩
  have hr := HR2.out.below hb2 (by omega)
  have t1 := hr.cell 0
  have t2 := hr.frozen 0
  obtain ⟨uA, un, uc, rfl⟩ := ho.shape3
  have HO := hid ho
  have HB3 := hid (below_to HB2.out hb2)
  clear hr ho hb2
  go_wp2
  refine bodyPost_ret (v := .tuple #[.agg #[.slice uA un uc], .bool true]) (by simp [results, Try.results15, go_sem, t1]) rfl ⟨_, rfl, ?_, HL.out, ?_⟩
  · rw [HY.out]
    refine (HO.out.grown (grown_setCell (World.grownBy.refl _ _) 0 _) ?_).mono (by omega)
    exact HO.out.apart (.inl (by omega))
  · exact HB3.out.setCell (p := ⟨w.heap.size + 1, 0, none⟩) (by show w.heap.size ≤ w.heap.size + 1; omega) _
theorem implRectangle_any (a b : Int) (w : World) (wa : (Lit.int .i64 a).wf = true) (wb : (Lit.int .i64 b).wf = true) :
    Calls Try.prog 15 #[.int .i64 a, .int .i64 b] w fun (r : Ending) w' => ∃ u, r = Ending.returned (.tuple #[.agg #[u], .bool (sides a b)]) ∧ OwnI 3 w' w.heap.size u (rectL a b) ∧ (rectL a b).length ≤ 1048576 ∧ Below w.heap.size w w' := by
  cases hs : sides a b
  · exact implRectangle_no a b w hs wa wb
  · obtain ⟨x, y, rfl, rfl, h1, h2, h3, h4, h5⟩ := sides_nat hs
    exact implRectangle_yes x y w hs h1 h2 h3 h4 h5
end Go.Proofs.Ytbpnocboiankjab

/- Slices of slices of integers: words for memory, and the laws' helpers over them. -/
namespace Go.Proofs.Ytbpnocboiankjab
open Go.RowKit Go.WideShapes Go.ChangeShapes
set_option linter.unusedVariables false

/-- below the heap's old size only blocks in [B, E) have turned -/
structure TurnedIn (B E : Nat) (w w' : World) : Prop where
  os : w'.os = w.os
  tape : w'.tape = w.tape
  output : w'.output = w.output
  size : w.heap.size ≤ w'.heap.size
  block : ∀ k, k < w.heap.size → k < B ∨ E ≤ k → w'.heap[k]? = w.heap[k]?
theorem TurnedIn.refl (B E : Nat) (w : World) : TurnedIn B E w w := ⟨rfl, rfl, rfl, Nat.le_refl _, fun _ _ _ => rfl⟩
theorem TurnedIn.trans {B E : Nat} {a b c : World} (h : TurnedIn B E a b) (k : TurnedIn B E b c) : TurnedIn B E a c :=
  ⟨k.os.trans h.os, k.tape.trans h.tape, k.output.trans h.output, Nat.le_trans h.size k.size, fun i hi ho => (k.block i (Nat.lt_of_lt_of_le hi h.size) ho).trans (h.block i hi ho)⟩
theorem TurnedIn.of_below {B E : Nat} {a b : World} (h : Below a.heap.size a b) : TurnedIn B E a b := ⟨h.os, h.tape, h.output, h.size, fun i hi _ => h.block i hi⟩
theorem TurnedIn.of_grown {B E : Nat} {a b : World} {row : Option Nat} (h : a.grownBy b row) (hr : ∀ k, row = some k → B ≤ k ∧ k < E) : TurnedIn B E a b :=
  ⟨h.os, h.tape, h.output, h.size, fun i hi ho => h.block i hi (fun e => by have := hr i e.symm; omega)⟩
theorem At.turned {w w' : World} {b : Nat} {v : Value} {B E : Nat} (h : At w b v) (hg : TurnedIn B E w w') (hb : b < B ∨ E ≤ b) : At w' b v :=
  ⟨(World.cell?_of_block (a := ⟨b, 0, none⟩) (hg.block b h.2 hb)).trans h.1, Nat.lt_of_lt_of_le h.2 hg.size⟩
theorem below_turned {a w w' : World} {B E : Nat} (h : Below a.heap.size a w) (hg : TurnedIn B E w w') (hB : a.heap.size ≤ B) : Below a.heap.size a w' :=
  h.trans ⟨hg.os, hg.tape, hg.output, hg.size, fun k hk => hg.block k (Nat.lt_of_lt_of_le hk h.size) (.inl (by omega))⟩
theorem OwnI.turned {e : TypeId} {w w' : World} {B B' E E' : Nat} {v : Value} {xs : List Int} (h : OwnI e w B v xs) (hg : TurnedIn B' E' w w') (hv : ∀ k, v.ownBlock = some k → B ≤ k ∧ k < E) (hs : E ≤ B' ∨ E' ≤ B) : OwnI e w' B v xs := by
  obtain ⟨h1, h2⟩ := h
  refine ⟨h1, ?_⟩
  rcases h2 with h2 | ⟨g, cap, cur, rfl, hB, hh, r⟩
  · exact .inl h2
  · refine .inr ⟨g, cap, cur, rfl, hB, ?_, r⟩
    have := hv g rfl
    have hlt : g < w.heap.size := by
      rcases Nat.lt_or_ge g w.heap.size with hlt | hge
      · exact hlt
      · rw [Array.getElem?_eq_none hge] at hh; cases hh
    rw [hg.block g hlt (by omega)]; exact hh

/-- 'v' is a slice of the slices 'ls' -/
def IntsSS (w : World) (v : Value) (ls : List (List Int)) : Prop :=
  ∃ A c, v = .slice A ls.length c ∧ ∀ j, j < ls.length → ∃ b o u, A = some ⟨b, o, none⟩ ∧ b < w.heap.size ∧ w.cell? ⟨b, o + j, none⟩ = some u ∧ Ints w u (ls.getD j [])
theorem IntsSS.below {w w' : World} {v : Value} {ls : List (List Int)} (h : IntsSS w v ls) (hb : Below w.heap.size w w') : IntsSS w' v ls := by
  obtain ⟨A, c, rfl, h⟩ := h
  refine ⟨A, c, rfl, fun j hj => ?_⟩
  obtain ⟨b, o, u, rfl, hlt, hc, hi⟩ := h j hj
  exact ⟨b, o, u, rfl, Nat.lt_of_lt_of_le hlt hb.size, (hb.cell (p := ⟨b, o + j, none⟩) hlt).trans hc, hi.below hb⟩
theorem IntsSS.alloc {w : World} {v : Value} {ls : List (List Int)} (h : IntsSS w v ls) (o : Obj) : IntsSS (w.alloc o) v ls := h.below ((Below.refl _ _).alloc (Nat.le_refl _) o)
/-- 'v' is a slice of slices of the call's own: all blocks lie in [B, E), no two rows share one, and the outer row is none of them -/
def OwnSS (ti ts : TypeId) (w : World) (B E : Nat) (v : Value) (ls : List (List Int)) : Prop :=
  ∃ us : List Value, us.length = ls.length ∧ w.ownsRow B ts 1 v ls.length us ∧ (∀ k, v.ownBlock = some k → k < E) ∧
    (∀ (j : Nat) (u : Value) (l : List Int), us[j]? = some u → ls[j]? = some l → OwnI ti w B u l ∧ ∀ k, u.ownBlock = some k → k < E) ∧
    (∀ (i j : Nat) (u u' : Value), i ≠ j → us[i]? = some u → us[j]? = some u' → u.ownBlock = none ∨ u.ownBlock ≠ u'.ownBlock)
theorem OwnSS.nil (ti ts : TypeId) (w : World) (B E : Nat) : OwnSS ti ts w B E (.slice none 0 0) [] :=
  ⟨[], rfl, World.ownsRow_nil w B ts 1, by simp [Value.ownBlock], by simp, by simp⟩
theorem OwnSS.rows {ti ts : TypeId} {w : World} {B E : Nat} {v : Value} {ls : List (List Int)} (h : OwnSS ti ts w B E v ls) :
    ∃ A c, v = .slice A ls.length c ∧ ∀ j, j < ls.length → ∃ b u, A = some ⟨b, 0, none⟩ ∧ b < w.heap.size ∧ w.cell? ⟨b, j, none⟩ = some u ∧ OwnI ti w B u (ls.getD j []) ∧ (∀ k, u.ownBlock = some k → k < E) := by
  obtain ⟨us, h1, h2, h3, h4, h5⟩ := h
  rcases h2.2 with ⟨rfl, hn⟩ | ⟨b, cap, cur, rfl, hB, hh, _⟩
  · exact ⟨none, 0, by rw [hn], fun j hj => by omega⟩
  · refine ⟨_, cap, rfl, fun j hj => ?_⟩
    have hu : us[j]? = some us[j] := List.getElem?_eq_getElem (by omega)
    have hl : ls[j]? = some ls[j] := List.getElem?_eq_getElem hj
    obtain ⟨hi, hk⟩ := h4 j _ _ hu hl
    have hc := h2.cellAt j (by omega)
    rw [hu] at hc
    have hbl : b < w.heap.size := by
      rcases Nat.lt_or_ge b w.heap.size with hlt | hge
      · exact hlt
      · rw [Array.getElem?_eq_none hge] at hh; cases hh
    have e2 : ls.getD j [] = ls[j] := by simp [List.getD, hl]
    exact ⟨b, us[j], rfl, hbl, hc, by rw [e2]; exact hi, hk⟩
theorem OwnSS.ints {ti ts : TypeId} {w : World} {B E : Nat} {v : Value} {ls : List (List Int)} (h : OwnSS ti ts w B E v ls) : IntsSS w v ls := by
  obtain ⟨A, c, rfl, hr⟩ := h.rows
  refine ⟨A, c, rfl, fun j hj => ?_⟩
  obtain ⟨b, u, rfl, hb, hc, hi, -⟩ := hr j hj
  exact ⟨b, 0, u, rfl, hb, by rw [Nat.zero_add]; exact hc, hi.ints⟩
theorem OwnSS.turned {ti ts : TypeId} {w w' : World} {B E B' E' : Nat} {v : Value} {ls : List (List Int)} (h : OwnSS ti ts w B E v ls) (hg : TurnedIn B' E' w w') (hs : E ≤ B' ∨ E' ≤ B) : OwnSS ti ts w' B E v ls := by
  obtain ⟨us, h1, h2, h3, h4, h5⟩ := h
  refine ⟨us, h1, ?_, h3, ?_, h5⟩
  · obtain ⟨a1, a2⟩ := h2
    refine ⟨a1, ?_⟩
    rcases a2 with a2 | ⟨g, cap, cur, rfl, hB, hh, r⟩
    · exact .inl a2
    · refine .inr ⟨g, cap, cur, rfl, hB, ?_, r⟩
      have := h3 g rfl
      have hlt : g < w.heap.size := by
        rcases Nat.lt_or_ge g w.heap.size with hlt | hge
        · exact hlt
        · rw [Array.getElem?_eq_none hge] at hh; cases hh
      rw [hg.block g hlt (by omega)]; exact hh
  · intro j u l hu hl
    obtain ⟨hi, hk⟩ := h4 j u l hu hl
    exact ⟨hi.turned hg (fun k e => ⟨(hi.blockLt k e).1, hk k e⟩) hs, hk⟩
theorem OwnSS.below {ti ts : TypeId} {w w' : World} {B E : Nat} {v : Value} {ls : List (List Int)} (h : OwnSS ti ts w B E v ls) (hb : Below w.heap.size w w') : OwnSS ti ts w' B E v ls := by
  obtain ⟨us, h1, h2, h3, h4, h5⟩ := h
  refine ⟨us, h1, ?_, h3, fun j u l hu hl => ⟨(h4 j u l hu hl).1.below hb, (h4 j u l hu hl).2⟩, h5⟩
  by_cases hv : v.ownBlock = none
  · exact h2.kept (grown_of_below hb none) (.inl hv)
  · exact h2.kept (grown_of_below hb none) (.inr hv)

theorem OwnSS.alloc {ti ts : TypeId} {w : World} {B E : Nat} {v : Value} {ls : List (List Int)} (h : OwnSS ti ts w B E v ls) (o : Obj) : OwnSS ti ts (w.alloc o) B E v ls := h.below ((Below.refl _ _).alloc (Nat.le_refl _) o)
theorem OwnSS.drew {ti ts : TypeId} {w : World} {B E : Nat} {v : Value} {ls : List (List Int)} (h : OwnSS ti ts w B E v ls) : OwnSS ti ts w.drew B E v ls := h.below (Go.Joins.below_draws _ _ 1)
theorem OwnSS.shape3 {ti ts : TypeId} {w : World} {B E : Nat} {v : Value} {ls : List (List Int)} (h : OwnSS ti ts w B E v ls) : ∃ A n c, v = .slice A n c := by
  obtain ⟨A, c, h, _⟩ := h.rows
  exact ⟨A, _, c, h⟩
/-! ### marks in slices of slices -/
def offL (ls : List (List Int)) : Nat → Nat
  | 0 => 0
  | i + 1 => offL ls i + (ls.getD i []).length
def marksSS (ls : List (List Int)) (k : Int) : List (List Int) := (List.range ls.length).map fun i => marks (ls.getD i []).length (k + (offL ls i : Int))
def markSS (ls : List (List Int)) (k : Int) (j : Nat) : List (List Int) := (List.range ls.length).map fun i => if i < j then marks (ls.getD i []).length (k + (offL ls i : Int)) else ls.getD i []
theorem markSS_length (ls : List (List Int)) (k : Int) (j : Nat) : (markSS ls k j).length = ls.length := by simp [markSS]
theorem marksSS_length (ls : List (List Int)) (k : Int) : (marksSS ls k).length = ls.length := by simp [marksSS]
theorem markSS_zero (ls : List (List Int)) (k : Int) : markSS ls k 0 = ls := by
  apply List.ext_getElem?
  intro i
  simp only [markSS, Nat.not_lt_zero, if_false, List.getElem?_map]
  by_cases hi : i < ls.length <;> simp [hi]
theorem markSS_full (ls : List (List Int)) (k : Int) : markSS ls k ls.length = marksSS ls k := by
  apply List.ext_getElem?
  intro i
  simp only [markSS, marksSS, List.getElem?_map]
  by_cases hi : i < ls.length <;> simp [hi]
theorem markSS_getD (ls : List (List Int)) (k : Int) (j i : Nat) (hi : i < ls.length) : (markSS ls k j).getD i [] = if i < j then marks (ls.getD i []).length (k + (offL ls i : Int)) else ls.getD i [] := by
  simp [markSS, List.getD, hi]
theorem marksSS_getD (ls : List (List Int)) (k : Int) (i : Nat) (hi : i < ls.length) : (marksSS ls k).getD i [] = marks (ls.getD i []).length (k + (offL ls i : Int)) := by
  simp [marksSS, List.getD, hi]
theorem markSS_set (ls : List (List Int)) (k : Int) (j : Nat) (hj : j < ls.length) : (markSS ls k j).set j (marks (ls.getD j []).length (k + (offL ls j : Int))) = markSS ls k (j + 1) := by
  apply List.ext_getElem?
  intro i
  rw [List.getElem?_set, markSS_length]
  simp only [markSS, List.getElem?_map]
  by_cases hi : i < ls.length
  · by_cases h : j = i
    · subst h; simp [hj]
    · simp only [h, if_false]
      by_cases h2 : i < j
      · simp [hi, h2, show i < j + 1 by omega]
      · simp [hi, h2, show ¬ i < j + 1 by omega]
  · simp [hi]
    intro h; omega
/-- all rows together are not long -/
def SSmall (ls : List (List Int)) : Prop := ls.length ≤ 1048576 ∧ (∀ j, j < ls.length → (ls.getD j []).length ≤ 1048576) ∧ offL ls ls.length ≤ 1000000000
theorem offL_mono (ls : List (List Int)) {i j : Nat} (h : i ≤ j) : offL ls i ≤ offL ls j := by
  induction j with
  | zero => have : i = 0 := by omega
            subst this; exact Nat.le_refl _
  | succ j ih =>
    by_cases e : i = j + 1
    · subst e; exact Nat.le_refl _
    · have h1 := ih (by omega)
      have h2 : offL ls (j + 1) = offL ls j + (ls.getD j []).length := rfl
      omega
theorem OwnSS.upd {ti ts : TypeId} {w : World} {B E : Nat} {A : Option Addr} {n c : Nat} {ls : List (List Int)} (h : OwnSS ti ts w B E (.slice A n c) ls) (hne : ti ≠ ts) :
    n = ls.length ∧ ∀ j, j < ls.length → ∃ b u, A = some ⟨b, 0, none⟩ ∧ b < w.heap.size ∧ w.cell? ⟨b, j, none⟩ = some u ∧ OwnI ti w B u (ls.getD j []) ∧ (∀ k, u.ownBlock = some k → k < E) ∧
      ∀ w' l', OwnI ti w' B u l' → w.grownBy w' u.ownBlock → OwnSS ti ts w' B E (.slice A n c) (ls.set j l') := by
  obtain ⟨us, h1, h2, h3, h4, h5⟩ := h
  refine ⟨?_, fun j hj => ?_⟩
  · rcases h2.2 with ⟨e, hn⟩ | ⟨b, cap, cur, e, _⟩
    · injection e with _ e _; omega
    · injection e
  · rcases h2.2 with ⟨e, hn⟩ | ⟨b, cap, cur, e, hB, hh, r1, r2, r3, r4⟩
    · omega
    · injection e with e1 e2 e3
      subst e1; subst e2; subst e3
      have hu : us[j]? = some us[j] := List.getElem?_eq_getElem (by omega)
      have hl : ls[j]? = some ls[j] := List.getElem?_eq_getElem hj
      obtain ⟨hi, hk⟩ := h4 j _ _ hu hl
      have hc := h2.cellAt j (by omega)
      rw [hu] at hc
      have hbl : b < w.heap.size := by
        rcases Nat.lt_or_ge b w.heap.size with hlt | hge
        · exact hlt
        · rw [Array.getElem?_eq_none hge] at hh; cases hh
      have e2 : ls.getD j [] = ls[j] := by simp [List.getD, hl]
      refine ⟨b, us[j], rfl, hbl, hc, by rw [e2]; exact hi, hk, fun w' l' ho hg => ?_⟩
      have hbne : some b ≠ us[j].ownBlock := by
        intro e
        rcases hi.2 with ⟨e', _⟩ | ⟨g, cap', cur', e', _, hh', _⟩
        · rw [e'] at e; simp [Value.ownBlock] at e
        · rw [e'] at e
          simp only [Value.ownBlock, Option.some.injEq] at e
          subst e
          rw [hh] at hh'
          injection hh' with hh'
          injection hh' with _ hh'
          exact hne hh'.symm
      refine ⟨us, by simp [h1], ?_, h3, ?_, h5⟩
      · rw [List.length_set]
        refine ⟨h2.1, .inr ⟨b, c, cur, rfl, hB, ?_, r1, r2, r3, r4⟩⟩
        rw [hg.block b hbl hbne]; exact hh
      · intro i u l hu' hl'
        by_cases e : j = i
        · subst e
          rw [hu] at hu'
          injection hu' with hu'
          subst hu'
          rw [List.getElem?_set_self (by omega)] at hl'
          injection hl' with hl'
          subst hl'
          exact ⟨ho, hk⟩
        · rw [List.getElem?_set_ne e] at hl'
          obtain ⟨hi', hk'⟩ := h4 i u l hu' hl'
          exact ⟨hi'.grown hg (h5 i j u us[j] (fun e' => e e'.symm) hu' hu), hk'⟩

end Go.Proofs.Ytbpnocboiankjab
