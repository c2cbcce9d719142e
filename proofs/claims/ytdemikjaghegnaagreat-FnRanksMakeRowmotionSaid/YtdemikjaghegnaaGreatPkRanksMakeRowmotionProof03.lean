/- Texts From, Rect, Fence, one behind the other. -/
import Derived.Test.YtdemikjaghegnaaGreatPkRanksMakeRowmotionProof02
/- poFrom: a poset out of relations, as the model makes it. -/
namespace Go.Proofs.YtdemikjaghegnaaGreat
open Go.RowKit Go.WideShapes Go.ChangeShapes
set_option linter.unusedVariables false

def fstep (g : Nat → Nat) (i : Nat) (p : Nat × Nat) (r : Nat) : Nat := if p.2 = i then (if r = i then g i ||| (2 ^ p.1 ||| g p.1) else g r) else g r
def fin_ (ps : List (Nat × Nat)) (i : Nat) (g : Nat → Nat) : Nat → Nat → Nat
  | 0 => g
  | k + 1 => fstep (fin_ ps i g k) i (ps.getD k (0, 0))
def fout (ps : List (Nat × Nat)) : Nat → Nat → Nat
  | 0 => fun _ => 0
  | i + 1 => fin_ ps i (fout ps i) ps.length
theorem fin_lt {ps : List (Nat × Nat)} {i : Nat} {g : Nat → Nat} (hp : ∀ k, k < ps.length → (ps.getD k (0, 0)).1 < 10) (hg : ∀ r, g r < 1024) (k : Nat) (hk : k ≤ ps.length) : ∀ r, fin_ ps i g k r < 1024 := by
  induction k with
  | zero => exact hg
  | succ k ih =>
    have ih := ih (by omega)
    intro r
    unfold fin_ fstep
    split
    · split
      · exact Nat.or_lt_two_pow (n := 10) (ih _) (Nat.or_lt_two_pow (n := 10) (Nat.pow_lt_pow_right (by decide) (hp k (by omega))) (ih _))
      · exact ih r
    · exact ih r
theorem fout_lt {ps : List (Nat × Nat)} (hp : ∀ k, k < ps.length → (ps.getD k (0, 0)).1 < 10) (i : Nat) : ∀ r, fout ps i r < 1024 := by
  induction i with
  | zero => intro r; simp [fout]
  | succ i ih => exact fin_lt hp ih ps.length (Nat.le_refl _)
def fromL (n : Nat) (ps : List (Nat × Nat)) : List Int := mkL n (fout ps n)
def PairsOk (n : Nat) (ps : List (Nat × Nat)) : Prop := ∀ k, k < ps.length → (ps.getD k (0, 0)).1 < n ∧ (ps.getD k (0, 0)).2 < n

structure FromW (ti tp : TypeId) (n : Nat) (w : World) (g : Nat → Nat) (wr : World) : Prop where
  row : Blk wr (w.heap.size + 1) ti (Vals (mkL n g))
  out : Blk wr (w.heap.size + 1 + 1) tp #[.slice (some ⟨w.heap.size + 1, 0, none⟩) n n]
  res : Blk wr w.heap.size tp #[.slice none 0 0]
  below : Below w.heap.size w wr
theorem FromW.start (ti tp : TypeId) (n : Nat) (w : World) (g : Nat → Nat) :
    FromW ti tp n w g (((w.alloc (.cells #[.slice none 0 0] tp)).alloc (.cells (Vals (mkL n g)) ti)).alloc (.cells #[.slice (some ⟨w.heap.size + 1, 0, none⟩) n n] tp)) :=
  ⟨(Blk.newAt _ _ _ _ (by simp)).alloc _, Blk.newAt _ _ _ _ (by simp), ((Blk.new _ _ _).alloc _).alloc _, ((((Below.refl _ _).alloc (Nat.le_refl _) _).alloc (by simp) _).alloc (by simp; omega) _)⟩
theorem FromW.step {ti tp : TypeId} {n : Nat} {w wr : World} {g g' : Nat → Nat} {q : Nat} {y : Int} (h : FromW ti tp n w g wr) (e : mkL n g' = (mkL n g).set q y) :
    FromW ti tp n w g' ((wr.setCell ⟨w.heap.size + 1, q, none⟩ (.int .i64 y)).drew) := by
  refine ⟨?_, ?_, ?_, ?_⟩
  · rw [e, ← Vals_set]; exact h.row.set_ q _
  · exact h.out.far (p := ⟨w.heap.size + 1, q, none⟩) (by show w.heap.size + 1 + 1 ≠ w.heap.size + 1; omega) _
  · exact h.res.far (p := ⟨w.heap.size + 1, q, none⟩) (by show w.heap.size ≠ w.heap.size + 1; omega) _
  · exact (h.below.setCell (p := ⟨w.heap.size + 1, q, none⟩) (by show w.heap.size ≤ w.heap.size + 1; omega) _).drew

/-- 'v' reads as a list of pairs -/
def PairsR (w : World) (v : Value) (ps : List (Nat × Nat)) : Prop :=
  ∃ A c, v = .slice A ps.length c ∧ ∀ j, j < ps.length → ∃ b o g p m, A = some ⟨b, o, none⟩ ∧ b < w.heap.size ∧ g < w.heap.size ∧ w.cell? ⟨b, o + j, none⟩ = some (.slice (some ⟨g, p, none⟩) 2 m) ∧ w.cell? ⟨g, p, none⟩ = some (.int .i64 ((ps.getD j (0, 0)).1 : Int)) ∧ w.cell? ⟨g, p + 1, none⟩ = some (.int .i64 ((ps.getD j (0, 0)).2 : Int))
theorem Pairs.read {ti ts : TypeId} {w : World} {B : Nat} {v : Value} {ps : List (Nat × Nat)} (h : Pairs ti ts w B v ps) : PairsR w v ps := by
  obtain ⟨A, c, rfl, hA⟩ := h.shape
  refine ⟨A, c, rfl, fun j hj => ?_⟩
  obtain ⟨b, g, rfl, hb, hg, h0, h1, h2⟩ := hA j hj
  exact ⟨b, 0, g, 0, 2, rfl, hb, hg, by rw [Nat.zero_add]; exact h0, h1, by rw [Nat.zero_add]; exact h2⟩
theorem poFromR_any (v : Value) (ps : List (Nat × Nat)) (n : Nat) (w : World) (hv : PairsR w v ps) (hn : n ≤ 10) (hok : PairsOk n ps) (hl : ps.length ≤ 1048576) :
    Calls Tryz.prog 83 #[.int .i64 n, v] w fun (r : Ending) w' => ∃ u, r = Ending.returned (.agg #[u]) ∧ OwnI 3 w' w.heap.size u (fromL n ps) ∧ Below w.heap.size w w' := by
  obtain ⟨A, c, rfl, hA⟩ := hv
  have HA := hid hA
  have HK := hid hok
  clear hA hok
  have hmk := run_make_row' (P := Tryz.prog) 24 3 (.int .i64 0) 8 Tryz.underlying24 Tryz.info3 rfl .i64 .i64 n (by omega) (by omega)
  go_enter Tryz.func83, Tryz.ntmps83
  go_wp2
  clear hmk
  rw [Vals_made]
  go_loopw [6] (fun i wr => ∃ k : Nat, k ≤ n ∧ i = .int .i64 k ∧ FromW 3 26 n w (fout ps k) wr) (fun i _ => n - (intOf i).toNat)
  case atStart => exact ⟨0, Nat.zero_le _, rfl, by rw [← mkL_zero]; exact FromW.start _ _ _ _ _⟩
  case round =>
    obtain ⟨k, hk, rfl, hD⟩ := hrel
    have HD := hid hD
    clear hD
    by_cases hlt : k < n
    · go_wp2
      go_loopw [19] (fun j wi => ∃ t : Nat, t ≤ ps.length ∧ j = .int .i64 t ∧ FromW 3 26 n w (fin_ ps k (fout ps k) t) wi) (fun j _ => ps.length - (intOf j).toNat)
      case atStart => exact ⟨0, Nat.zero_le _, rfl, HD.out⟩
      case round =>
        obtain ⟨t, ht, rfl, hT⟩ := hrel
        have HT := hid hT
        clear hT
        by_cases htk : t < ps.length
        · obtain ⟨b, o, g, pp, m, rfl, hb, hg, hc0, hc1, hc2⟩ := HA.out t htk
          obtain ⟨p1, p2⟩ := HK.out t htk
          obtain ⟨a, ha⟩ : ∃ a, (ps.getD t (0, 0)).1 = a := ⟨_, rfl⟩
          obtain ⟨y, hy⟩ : ∃ y, (ps.getD t (0, 0)).2 = y := ⟨_, rfl⟩
          rw [ha] at hc1 p1
          rw [hy] at hc2 p2
          have t1 : wr.cell? ⟨b, o + t, none⟩ = some (.slice (some ⟨g, pp, none⟩) 2 m) := by rw [HT.out.below.cell (p := ⟨b, o + t, none⟩) hb]; exact hc0
          have t2 : wr.cell? ⟨g, pp, none⟩ = some (.int .i64 (a : Int)) := by rw [HT.out.below.cell (p := ⟨g, pp, none⟩) hg]; exact hc1
          have t3 : wr.cell? ⟨g, pp + 1, none⟩ = some (.int .i64 (y : Int)) := by rw [HT.out.below.cell (p := ⟨g, pp + 1, none⟩) hg]; exact hc2
          have hlp : ∀ k, k < ps.length → (ps.getD k (0, 0)).1 < 10 := fun k hk => by have := (HK.out k hk).1; omega
          have hlt2 := fin_lt (i := k) hlp (fout_lt hlp k) t (by omega)
          have Ha := hid ha
          have Hy := hid hy
          have Hlt2 := hid hlt2
          clear hc0 hc1 hc2 ha hy hlp hlt2
          by_cases hyk : y = k
          · subst hyk
            have hp := Hlt2.out y
            have hq := Hlt2.out a
            obtain ⟨p, hpp⟩ : ∃ p, fin_ ps y (fout ps y) t y = p := ⟨_, rfl⟩
            obtain ⟨q, hqq⟩ : ∃ q, fin_ ps y (fout ps y) t a = q := ⟨_, rfl⟩
            rw [hpp] at hp
            rw [hqq] at hq
            have t0 := HT.out.out.cell 0
            have t4 : wr.cell? ⟨w.heap.size + 1, y, none⟩ = some (.int .i64 p) := by rw [HT.out.row.cell, Vals_get (by rw [mkL_length]; exact hlt), mkL_getD hlt, hpp]
            have t5 : wr.cell? ⟨w.heap.size + 1, a, none⟩ = some (.int .i64 q) := by rw [HT.out.row.cell, Vals_get (by rw [mkL_length]; exact p1), mkL_getD p1, hqq]
            have t6 := HT.out.row.frozen y
            have wp := wrap_pow' a (by omega)
            have o1 := pow_or q a hq (by omega)
            have o3 : 2 ^ a ||| q < 1024 := Nat.or_lt_two_pow (n := 10) (Nat.pow_lt_pow_right (by decide) (by omega)) hq
            have o2 := i64_or_nat p (2 ^ a ||| q) (by omega) (Nat.lt_trans o3 (by decide))
            have h1 : (y : Int) < n := by omega
            have h2 : (a : Int) < n := by omega
            have Hp := hid hpp
            have Hq := hid hqq
            clear hpp hqq hp hq o3
            obtain ⟨z, hz⟩ : ∃ z, 2 ^ a ||| q = z := ⟨_, rfl⟩
            rw [hz] at o1 o2
            have Hz := hid hz
            clear hz
            go_wp2
            go_region
            go_wp2
            go_roundw
            case rel => exact ⟨t + 1, by omega, by go_num, (by
              have e : mkL n (fin_ ps y (fout ps y) (t + 1)) = (mkL n (fin_ ps y (fout ps y) t)).set y ((p ||| z : Nat) : Int) := by
                rw [mkL_set _ hlt]
                refine mkL_congr fun r _ => ?_
                rw [fin_, fstep, Hy.out, if_pos rfl, Ha.out, Hp.out, Hq.out, Hz.out]
              exact HT.out.step e)⟩
            case measure => simp [intOf]; omega
          · have hyz : ((y : Int) == (k : Int)) = false := by rw [beq_eq_false_iff_ne]; omega
            have Hyk := hid hyk
            clear hyk
            go_wp2
            go_roundw
            case rel => exact ⟨t + 1, by omega, by go_num, (by
              have e : fin_ ps k (fout ps k) (t + 1) = fin_ ps k (fout ps k) t := by
                funext r
                rw [fin_, fstep, Hy.out, if_neg Hyk.out]
              rw [e]; exact HT.out)⟩
            case measure => simp [intOf]; omega
        · obtain rfl : t = ps.length := by omega
          go_wp2
          go_roundw
          case rel => exact ⟨k + 1, by omega, by go_num, HT.out⟩
          case measure => simp [intOf]; omega
    · obtain rfl : k = n := by omega
      have t0 := HD.out.out.cell 0
      have t1 := HD.out.res.cell 0
      have t2 := HD.out.res.frozen 0
      go_wp2
      refine bodyPost_ret (v := .agg #[.slice (some ⟨w.heap.size + 1, 0, none⟩) k k]) (by simp [results, Tryz.results83, go_sem, t1]) rfl ⟨_, rfl, ?_, ?_⟩
      · have h := HD.out.row
        have hlen : (fromL k ps).length = k := mkL_length _ _
        have h2 : OwnI 3 wr w.heap.size (.slice (some ⟨w.heap.size + 1, 0, none⟩) (fromL k ps).length (fromL k ps).length) (fromL k ps) := Blk.own h (by omega) (by omega)
        rw [hlen] at h2
        exact h2.grown (grown_setCell (World.grownBy.refl _ _) 0 _) (.inr (by simp [Value.ownBlock]))
      · exact HD.out.below.setCell (p := ⟨w.heap.size, 0, none⟩) (Nat.le_refl _) _
theorem poFrom_any (v : Value) (ps : List (Nat × Nat)) (n B : Nat) (w : World) (hv : Pairs 3 24 w B v ps) (hn : n ≤ 10) (hok : PairsOk n ps) (hl : ps.length ≤ 1048576) :
    Calls Tryz.prog 83 #[.int .i64 n, v] w fun (r : Ending) w' => ∃ u, r = Ending.returned (.agg #[u]) ∧ OwnI 3 w' w.heap.size u (fromL n ps) ∧ Below w.heap.size w w' :=
  poFromR_any v ps n w hv.read hn hok hl
end Go.Proofs.YtdemikjaghegnaaGreat

/- Rectangle. -/
namespace Go.Proofs.YtdemikjaghegnaaGreat
open Go.RowKit Go.WideShapes Go.ChangeShapes
set_option linter.unusedVariables false

def rectStep (a b q r c : Nat) : List (Nat × Nat) := (if r + 1 < a then [(q + c, q + b + c)] else []) ++ (if c + 1 < b then [(q + c, q + c + 1)] else [])
def rectIn (a b q r : Nat) : Nat → List (Nat × Nat)
  | 0 => []
  | c + 1 => rectIn a b q r c ++ rectStep a b q r c
def rectPS (a b : Nat) : Nat → List (Nat × Nat)
  | 0 => []
  | r + 1 => rectPS a b r ++ rectIn a b (b * r) r b
theorem rectIn_length (a b q r c : Nat) : (rectIn a b q r c).length ≤ 2 * c := by
  induction c with
  | zero => simp [rectIn]
  | succ c ih =>
    unfold rectIn rectStep
    rw [List.length_append, List.length_append]
    split <;> split <;> simp <;> omega
theorem rectPS_length (a b r : Nat) (hb : b ≤ 10) : (rectPS a b r).length ≤ 20 * r := by
  induction r with
  | zero => simp [rectPS]
  | succ r ih =>
    unfold rectPS
    have := rectIn_length a b (b * r) r b
    rw [List.length_append]
    omega
def rectF (b : Nat) (j i : Nat) : Bool := decide (j / b ≤ i / b) && decide (j % b ≤ i % b)
def rectChk (a b : Nat) : Bool := decide (fromL (a * b) (rectPS a b a) = whereL (rectF b) (a * b)) && (List.range (rectPS a b a).length).all fun k => decide (((rectPS a b a).getD k (0, 0)).1 < a * b) && decide (((rectPS a b a).getD k (0, 0)).2 < a * b)
theorem rect_chk : ((List.range 11).all fun a => (List.range 11).all fun b => decide (a * b = 0) || decide (10 < a * b) || rectChk a b) = true := by decide +kernel
theorem rect_at {a b : Nat} (ha : a < 11) (hb : b < 11) (h1 : 1 ≤ a) (h2 : 1 ≤ b) (h : a * b ≤ 10) : rectChk a b = true := by
  have h3 := List.all_eq_true.1 (List.all_eq_true.1 rect_chk a (List.mem_range.2 ha)) b (List.mem_range.2 hb)
  have h4 : a * b ≠ 0 := Nat.pos_iff_ne_zero.1 (Nat.mul_pos h1 h2)
  simp only [Bool.or_eq_true, decide_eq_true_eq] at h3
  rcases h3 with (h3 | h3) | h3
  · exact absurd h3 h4
  · omega
  · exact h3
theorem rect_all (a : Nat) (ha : a < 11) (b : Nat) (hb : b < 11) (h1 : 1 ≤ a) (h2 : 1 ≤ b) (h : a * b ≤ 10) : fromL (a * b) (rectPS a b a) = whereL (rectF b) (a * b) := by
  have := rect_at ha hb h1 h2 h
  simp only [rectChk, Bool.and_eq_true, decide_eq_true_eq] at this
  exact this.1
theorem rect_ok_all (a : Nat) (ha : a < 11) (b : Nat) (hb : b < 11) (h1 : 1 ≤ a) (h2 : 1 ≤ b) (h : a * b ≤ 10) : PairsOk (a * b) (rectPS a b a) := by
  have := rect_at ha hb h1 h2 h
  simp only [rectChk, Bool.and_eq_true, decide_eq_true_eq] at this
  intro k hk
  have h3 := List.all_eq_true.1 this.2 k (List.mem_range.2 hk)
  simpa only [Bool.and_eq_true, decide_eq_true_eq] using h3
/-- are a and b the sides of a rectangle? -/
def sides (a b : Int) : Bool := (decide (1 ≤ a) && decide (a ≤ 10)) && ((decide (1 ≤ b) && decide (b ≤ 10)) && decide (a * b ≤ 10))
def rectL (a b : Int) : List Int := if sides a b then whereL (rectF b.toNat) (a.toNat * b.toNat) else []
theorem rectL_length (a b : Int) : (rectL a b).length ≤ 1048576 := by
  unfold rectL
  split
  · rename_i h
    simp only [sides, Bool.and_eq_true, decide_eq_true_eq] at h
    unfold whereL; rw [mkL_length]
    obtain ⟨x, rfl⟩ := Int.eq_ofNat_of_zero_le (by omega : 0 ≤ a)
    obtain ⟨y, rfl⟩ := Int.eq_ofNat_of_zero_le (by omega : 0 ≤ b)
    have := h.2.2
    rw [← Int.natCast_mul] at this
    simp only [Int.toNat_natCast]
    omega
  · simp
theorem sides_nat {a b : Int} (h : sides a b = true) : ∃ x y : Nat, a = x ∧ b = y ∧ 1 ≤ x ∧ x ≤ 10 ∧ 1 ≤ y ∧ y ≤ 10 ∧ x * y ≤ 10 := by
  simp only [sides, Bool.and_eq_true, decide_eq_true_eq] at h
  obtain ⟨x, rfl⟩ := Int.eq_ofNat_of_zero_le (by omega : 0 ≤ a)
  obtain ⟨y, rfl⟩ := Int.eq_ofNat_of_zero_le (by omega : 0 ≤ b)
  have := h.2.2
  rw [← Int.natCast_mul] at this
  exact ⟨x, y, rfl, rfl, by omega, by omega, by omega, by omega, by omega⟩
theorem rectL_yes {x y : Nat} (h : sides x y = true) : rectL x y = whereL (rectF y) (x * y) := by
  unfold rectL; rw [if_pos h]; simp
theorem rectL_no {a b : Int} (h : sides a b = false) : rectL a b = [] := by unfold rectL; rw [h]; rfl

def rectGoodChk (a b : Nat) : Bool := good (whereL (rectF b) (a * b))
theorem rectGood_chk : ((List.range 11).all fun a => (List.range 11).all fun b => decide (a * b = 0) || decide (10 < a * b) || rectGoodChk a b) = true := by decide +kernel
theorem rectGood {a b : Nat} (h1 : 1 ≤ a) (h2 : a ≤ 10) (h3 : 1 ≤ b) (h4 : b ≤ 10) (h5 : a * b ≤ 10) : good (whereL (rectF b) (a * b)) = true := by
  have h := List.all_eq_true.1 (List.all_eq_true.1 rectGood_chk a (List.mem_range.2 (by omega))) b (List.mem_range.2 (by omega))
  simp only [Bool.or_eq_true, decide_eq_true_eq] at h
  have h0 : 0 < a * b := Nat.mul_pos (by omega) (by omega)
  rcases h with (h | h) | h
  · omega
  · omega
  · exact h
theorem cell_lt {a b r c : Nat} (hr : r < a) (hc : c < b) : b * r + c < a * b := by
  have h1 : b * (r + 1) ≤ b * a := Nat.mul_le_mul_left b hr
  have h2 : b * (r + 1) = b * r + b := Nat.mul_succ b r
  have h3 : b * a = a * b := Nat.mul_comm b a
  omega

theorem poRectangle_any (a b : Nat) (w : World) (ha : 1 ≤ a) (ha2 : a ≤ 10) (hb1 : 1 ≤ b) (hb2 : b ≤ 10) (hab : a * b ≤ 10) :
    Calls Tryz.prog 135 #[.int .i64 a, .int .i64 b] w fun (r : Ending) w' => ∃ u, r = Ending.returned (.agg #[u]) ∧ OwnI 3 w' w.heap.size u (whereL (rectF b) (a * b)) ∧ Below w.heap.size w w' := by
  have HE := hid (rect_all a (by omega) b (by omega) ha hb1 hab)
  have HK := hid (rect_ok_all a (by omega) b (by omega) ha hb1 hab)
  have HM : Hid (∀ r, r < a → b * r + b ≤ 10) := hid (fun r hr => by
    have h : b * (r + 1) ≤ b * a := Nat.mul_le_mul (Nat.le_refl _) (by omega)
    rw [Nat.mul_comm b a, Nat.mul_add, Nat.mul_one] at h
    omega)
  have HAB := hid hab
  clear hab
  go_enter Tryz.func135, Tryz.ntmps135
  go_wp2
  go_loopw [5, 6] (fun p i wr => ∃ r : Nat, r ≤ a ∧ i = .int .i64 r ∧ Pairs 3 24 wr (w.heap.size + 1) p (rectPS a b r) ∧ Below (w.heap.size + 1) (w.alloc (.cells #[.slice none 0 0] 26)) wr) (fun _ i _ => a - (intOf i).toNat)
  case atStart => exact ⟨0, by omega, rfl, Pairs.nil _ _ _ _, Below.refl _ _⟩
  case round =>
    obtain ⟨r, hr, rfl, hP, hb⟩ := hrel
    have HPo := hid hP
    have HBr := hid hb
    clear hP hb
    by_cases hlt : r < a
    · obtain ⟨q, hq⟩ : ∃ q, b * r = q := ⟨_, rfl⟩
      have hq10 := HM.out r hlt
      rw [hq] at hq10
      have e1 : (b : Int) * (r : Int) = (q : Int) := by rw [← Int.natCast_mul, hq]
      have HQ := hid hq
      have hl1 := rectPS_length a b r hb2
      clear hq
      go_wp2
      go_loopw [5, 7] (fun p i wi => ∃ c : Nat, c ≤ b ∧ i = .int .i64 c ∧ Pairs 3 24 wi (w.heap.size + 1) p (rectPS a b r ++ rectIn a b q r c) ∧ Below (w.heap.size + 1) (w.alloc (.cells #[.slice none 0 0] 26)) wi) (fun _ i _ => b - (intOf i).toNat)
      case atStart => exact ⟨0, by omega, rfl, by simpa [rectIn] using HPo.out, HBr.out⟩
      case round =>
        obtain ⟨c, hc, rfl, hP, hb⟩ := hrel
        have hbz : w.heap.size + 1 ≤ wr.heap.size := by have := hb.size; simp at this; omega
        have hl2 := rectIn_length a b q r c
        obtain ⟨L, hL⟩ : ∃ L, rectPS a b r ++ rectIn a b q r c = L := ⟨_, rfl⟩
        rw [hL] at hP
        have hll : L.length ≤ 20 * r + 2 * c := by rw [← hL, List.length_append]; omega
        have HP := hid hP
        have HBo := hid hb
        have HLL := hid hL
        clear hP hb hL hl2
        by_cases hcb : c < b
        · have hcb' : (c : Int) < b := by omega
          by_cases h1 : r + 1 < a
          · have h1' : (r : Int) + 1 < a := by omega
            by_cases h2 : c + 1 < b
            · have h2' : (c : Int) + 1 < b := by omega
              have tok1 : True := trivial
              go_wp2_with (first | (at_builtin; have _t := tok1; refine wpList_append_pair rfl _ _ 78 24 3 rfl Tryz.underlying78 Tryz.info24 (by decide) (w.heap.size + 1) _ _ (q + c) (q + b + c) rfl HP.out rfl rfl (by omega) (by omega) ?_; intro q2 w2 hp2 hb2; clear tok1; have hz2 : w.heap.size + 1 ≤ w2.heap.size := Nat.le_trans hbz hb2.size; have HP2 := hid hp2; have HB2 := hid (HBo.out.trans hb2); clear hp2 hb2) | (at_builtin; refine wpList_append_pair rfl _ _ 78 24 3 rfl Tryz.underlying78 Tryz.info24 (by decide) (w.heap.size + 1) _ _ (q + c) (q + c + 1) rfl HP2.out rfl rfl (by simp; omega) (by omega) ?_; intro q3 w3 hp3 hb3))
              go_roundw
              case rel => exact ⟨c + 1, by omega, by go_num, by (rw [rectIn, rectStep, if_pos h1, if_pos h2, ← List.append_assoc, ← List.append_assoc, HLL.out]; exact hp3), HB2.out.trans hb3⟩
              case measure => simp [intOf]; omega
            · have h2' : ¬ (c : Int) + 1 < b := by omega
              go_wp2_with (at_builtin; refine wpList_append_pair rfl _ _ 78 24 3 rfl Tryz.underlying78 Tryz.info24 (by decide) (w.heap.size + 1) _ _ (q + c) (q + b + c) rfl HP.out rfl rfl (by omega) (by omega) ?_; intro q2 w2 hp2 hb2)
              go_roundw
              case rel => exact ⟨c + 1, by omega, by go_num, by (rw [rectIn, rectStep, if_pos h1, if_neg h2, ← List.append_assoc, ← List.append_assoc, HLL.out, List.append_nil]; exact hp2), HBo.out.trans hb2⟩
              case measure => simp [intOf]; omega
          · have h1' : ¬ (r : Int) + 1 < a := by omega
            by_cases h2 : c + 1 < b
            · have h2' : (c : Int) + 1 < b := by omega
              go_wp2_with (at_builtin; refine wpList_append_pair rfl _ _ 78 24 3 rfl Tryz.underlying78 Tryz.info24 (by decide) (w.heap.size + 1) _ _ (q + c) (q + c + 1) rfl HP.out rfl rfl (by omega) (by omega) ?_; intro q2 w2 hp2 hb2)
              go_roundw
              case rel => exact ⟨c + 1, by omega, by go_num, by (rw [rectIn, rectStep, if_neg h1, if_pos h2, List.nil_append, ← List.append_assoc, HLL.out]; exact hp2), HBo.out.trans hb2⟩
              case measure => simp [intOf]; omega
            · have h2' : ¬ (c : Int) + 1 < b := by omega
              go_wp2
              go_roundw
              case rel => exact ⟨c + 1, by omega, by go_num, by (rw [rectIn, rectStep, if_neg h1, if_neg h2, List.nil_append, ← List.append_assoc, HLL.out, List.append_nil]; exact HP.out), HBo.out⟩
              case measure => simp [intOf]; omega
        · obtain rfl : c = b := by omega
          go_wp2
          go_roundw
          case rel => exact ⟨r + 1, by omega, by go_num, by (rw [rectPS, HQ.out, HLL.out]; exact HP.out), HBo.out⟩
          case measure => simp [intOf]; omega
    · obtain rfl : r = a := by omega
      obtain ⟨n, hn⟩ : ∃ n, r * b = n := ⟨_, rfl⟩
      have e1 : (r : Int) * (b : Int) = (n : Int) := by rw [← Int.natCast_mul, hn]
      have hn10 : n ≤ 10 := by rw [← hn]; exact HAB.out
      have hl1 := rectPS_length r b r hb2
      have HE2 : Hid (fromL n (rectPS r b r) = whereL (rectF b) (r * b)) := hid (by rw [← hn]; exact HE.out)
      have HK2 : Hid (PairsOk n (rectPS r b r)) := hid (by rw [← hn]; exact HK.out)
      clear HE HK
      have hbz : w.heap.size + 1 ≤ wr.heap.size := by have := HBr.out.size; simp at this; omega
      clear hn
      go_wp2_with fail
      clear e1
      refine (poFrom_any _ _ n _ _ HPo.out hn10 HK2.out (by omega)).mono ?_
      rintro e w2 ⟨u, rfl, ho, hb2⟩
      have hr : Blk w2 w.heap.size 26 #[.slice none 0 0] := ((Blk.new w _ _).below HBr.out (Nat.lt_succ_self _)).below hb2 (by omega)
      have t1 := hr.cell 0
      have t2 := hr.frozen 0
      obtain ⟨uA, un, uc, rfl⟩ := ho.shape3
      have HO := hid ho
      have HB3 := hid (below_to (below_box HBr.out) hb2)
      clear hr ho hb2
      go_wp2
      refine bodyPost_ret (v := .agg #[.slice uA un uc]) (by simp [results, Tryz.results135, go_sem, t1]) rfl ⟨_, rfl, ?_, ?_⟩
      · rw [← HE2.out]
        refine (HO.out.grown (grown_setCell (World.grownBy.refl _ _) 0 _) ?_).mono (by omega)
        exact HO.out.apart (.inl (by omega))
      · exact HB3.out.setCell (p := ⟨w.heap.size, 0, none⟩) (Nat.le_refl _) _
end Go.Proofs.YtdemikjaghegnaaGreat

/- Fence. -/
namespace Go.Proofs.YtdemikjaghegnaaGreat
open Go.RowKit Go.WideShapes Go.ChangeShapes
set_option linter.unusedVariables false

def fencePS (low : Nat) : Nat → List (Nat × Nat)
  | 0 => []
  | h + 1 => if h + 1 < low then (fencePS low h ++ [(h, low + h)]) ++ [(h + 1, low + h)] else fencePS low h ++ [(h, low + h)]
theorem fencePS_length (low h : Nat) : (fencePS low h).length ≤ 2 * h := by
  induction h with
  | zero => simp [fencePS]
  | succ h ih => unfold fencePS; split <;> simp <;> omega
def fenceF (low : Nat) (j i : Nat) : Bool := decide (low ≤ i) && (decide (j < low) && (decide (j = i - low) || decide (j = i - low + 1)))
def fenceL (n : Int) : List Int := if 1 ≤ n ∧ n ≤ 10 then whereL (fenceF ((n.toNat + 1) / 2)) n.toNat else []
theorem fence_eq (n : Nat) (h1 : 1 ≤ n) (h2 : n ≤ 10) : fromL n (fencePS ((n + 1) / 2) (n - (n + 1) / 2)) = whereL (fenceF ((n + 1) / 2)) n := by
  rcases (by omega : n = 1 ∨ n = 2 ∨ n = 3 ∨ n = 4 ∨ n = 5 ∨ n = 6 ∨ n = 7 ∨ n = 8 ∨ n = 9 ∨ n = 10) with rfl | rfl | rfl | rfl | rfl | rfl | rfl | rfl | rfl | rfl <;> decide +kernel
theorem fence_ok (n : Nat) (h1 : 1 ≤ n) (h2 : n ≤ 10) : PairsOk n (fencePS ((n + 1) / 2) (n - (n + 1) / 2)) := by
  rcases (by omega : n = 1 ∨ n = 2 ∨ n = 3 ∨ n = 4 ∨ n = 5 ∨ n = 6 ∨ n = 7 ∨ n = 8 ∨ n = 9 ∨ n = 10) with rfl | rfl | rfl | rfl | rfl | rfl | rfl | rfl | rfl | rfl <;> (unfold PairsOk; decide +kernel)
theorem fenceL_length (n : Int) : (fenceL n).length ≤ 1048576 := by
  unfold fenceL
  split
  · unfold whereL; rw [mkL_length]; omega
  · simp
theorem fenceL_yes {n : Nat} (h1 : 1 ≤ n) (h2 : n ≤ 10) : fenceL n = whereL (fenceF ((n + 1) / 2)) n := by
  unfold fenceL
  rw [if_pos (by omega), Int.toNat_natCast]
theorem fenceL_no {n : Int} (h : ¬ (1 ≤ n ∧ n ≤ 10)) : fenceL n = [] := if_neg h

theorem specFence_any (n : Int) (w : World) (wf : (Lit.int .i64 n).wf = true) :
    Calls Tryz.prog 136 #[.int .i64 n] w fun (r : Ending) w' => ∃ u, r = Ending.returned (.tuple #[.agg #[u], .bool (decide (1 ≤ n) && decide (n ≤ 10))]) ∧ OwnI 3 w' w.heap.size u (fenceL n) ∧ (fenceL n).length ≤ 1048576 ∧ Below w.heap.size w w' := by
  have HL := hid (fenceL_length n)
  clear wf
  by_cases hn : 1 ≤ n ∧ n ≤ 10
  · obtain ⟨m, rfl⟩ := Int.eq_ofNat_of_zero_le (by omega : 0 ≤ n)
    have h1 : 1 ≤ m := by omega
    have h2 : m ≤ 10 := by omega
    have hd : (decide ((1 : Int) ≤ (m : Int)) && decide ((m : Int) ≤ 10)) = true := by simp; omega
    have HY := hid (fenceL_yes h1 h2)
    have HE := hid (fence_eq m h1 h2)
    have HK := hid (fence_ok m h1 h2)
    rw [hd]
    have Hd := hid hd
    obtain ⟨low, hlow⟩ : ∃ low, (m + 1) / 2 = low := ⟨_, rfl⟩
    have e1 : ((m : Int) + 1) / 2 = (low : Int) := by omega
    have hl1 : low ≤ m := by omega
    rw [hlow] at HY HE HK
    clear hd hn hlow
    go_enter Tryz.func136, Tryz.ntmps136
    go_wp2_with (go_at_call 60; refine (l1In_any _ _ _ _).mono ?_; rw [Hd.out]; rintro e w' ⟨rfl, rfl⟩)
    rw [e1]
    clear e1
    go_loopw [5, 6] (fun q i wr => ∃ h : Nat, low + h ≤ m ∧ i = .int .i64 h ∧ Pairs 3 24 wr (w.heap.size + 1) q (fencePS low h) ∧ Below (w.heap.size + 1) (w.alloc (.cells #[.slice none 0 0] 26)) wr) (fun _ i _ => m - (intOf i).toNat)
    case atStart => exact ⟨0, by omega, rfl, Pairs.nil _ _ _ _, Below.refl _ _⟩
    case round =>
      obtain ⟨h, hh, rfl, hP, hb⟩ := hrel
      have hbz : w.heap.size + 1 ≤ wr.heap.size := by have := hb.size; simp at this; omega
      have hlen := fencePS_length low h
      have HP := hid hP
      have HB := hid hb
      clear hP hb
      by_cases hlt : low + h < m
      · have hlt' : (low : Int) + (h : Int) < m := by omega
        by_cases h3 : h + 1 < low
        · have h3' : (h : Int) + 1 < low := by omega
          have tok1 : True := trivial
          go_wp2_with (first | (at_builtin; have _t := tok1; refine wpList_append_pair rfl _ _ 78 24 3 rfl Tryz.underlying78 Tryz.info24 (by decide) (w.heap.size + 1) _ _ h (low + h) rfl HP.out rfl rfl (by omega) (by omega) ?_; intro q2 w2 hp2 hb2; clear tok1; have hz2 : w.heap.size + 1 ≤ w2.heap.size := Nat.le_trans hbz hb2.size; have HP2 := hid hp2; have HB2 := hid (HB.out.trans hb2); clear hp2 hb2) | (at_builtin; refine wpList_append_pair rfl _ _ 78 24 3 rfl Tryz.underlying78 Tryz.info24 (by decide) (w.heap.size + 1) _ _ (h + 1) (low + h) rfl HP2.out rfl rfl (by simp; omega) (by omega) ?_; intro q3 w3 hp3 hb3))
          go_roundw
          case rel => exact ⟨h + 1, by omega, by go_num, by rw [fencePS, if_pos h3]; exact hp3, HB2.out.trans hb3⟩
          case measure => simp [intOf]; omega
        · have h3' : ¬ (h : Int) + 1 < low := by omega
          go_wp2_with (at_builtin; refine wpList_append_pair rfl _ _ 78 24 3 rfl Tryz.underlying78 Tryz.info24 (by decide) (w.heap.size + 1) _ _ h (low + h) rfl HP.out rfl rfl (by omega) (by omega) ?_; intro q2 w2 hp2 hb2)
          go_roundw
          case rel => exact ⟨h + 1, by omega, by go_num, by rw [fencePS, if_neg h3]; exact hp2, HB.out.trans hb2⟩
          case measure => simp [intOf]; omega
      · obtain rfl : m = low + h := by omega
        have hsub : low + h - low = h := by omega
        rw [hsub] at HE HK
        have hlt' : ¬ (low : Int) + (h : Int) < ((low + h : Nat) : Int) := by omega
        have HS := hid hsub
        have hbx := box_cell HB.out 0
        have hbf : wr.frozen? ⟨w.heap.size, 0, none⟩ = false := by rw [HB.out.frozen (p := ⟨w.heap.size, 0, none⟩) (Nat.lt_succ_self _)]; exact (Blk.new w 26 #[.slice none 0 0]).frozen 0
        clear hsub hbx hbf
        go_wp2_with fail
        refine (poFrom_any _ _ (low + h) _ _ HP.out h2 HK.out (by omega)).mono ?_
        rintro e w2 ⟨u, rfl, ho, hb2⟩
        have hr : Blk w2 w.heap.size 26 #[.slice none 0 0] := ((Blk.new w _ _).below HB.out (Nat.lt_succ_self _)).below hb2 (by omega)
        have t1 := hr.cell 0
        have t2 := hr.frozen 0
        obtain ⟨uA, un, uc, rfl⟩ := ho.shape3
        have HO := hid ho
        have HB3 := hid (below_to (below_box HB.out) hb2)
        clear hr ho hb2
        go_wp2
        refine bodyPost_ret (v := .tuple #[.agg #[.slice uA un uc], .bool true]) (by simp [results, Tryz.results136, go_sem, t1]) rfl ⟨_, rfl, ?_, HL.out, ?_⟩
        · rw [HY.out, ← HE.out]
          refine (HO.out.grown (grown_setCell (World.grownBy.refl _ _) 0 _) ?_).mono (by omega)
          exact HO.out.apart (.inl (by omega))
        · exact HB3.out.setCell (p := ⟨w.heap.size, 0, none⟩) (Nat.le_refl _) _
  · have hd : (decide ((1 : Int) ≤ n) && decide (n ≤ 10)) = false := by rw [Bool.eq_false_iff]; simp; omega
    have HN := hid (fenceL_no hn)
    rw [hd]
    have Hd := hid hd
    clear hd hn
    go_enter Tryz.func136, Tryz.ntmps136
    go_wp2_with (go_at_call 60; refine (l1In_any _ _ _ _).mono ?_; rw [Hd.out]; rintro e w' ⟨rfl, rfl⟩)
    refine bodyPost_ret (v := .tuple #[.agg #[.slice none 0 0], .bool false]) (by simp [results, Tryz.results136, go_sem]) rfl ⟨_, rfl, by rw [HN.out]; exact OwnI.nil _ _ _, HL.out, ?_⟩
    exact (Below.refl _ _).alloc (Nat.le_refl _) _
end Go.Proofs.YtdemikjaghegnaaGreat
