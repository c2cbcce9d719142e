/- poFrom: a poset out of relations, as the model makes it. -/
import Derived.Test.YtclhebpkpmholaaPairs
namespace Go.Proofs.Ytclhebpkpmholaa
open Go.RowKit Go.WideShapes Go.ChangeShapes
set_option linter.unusedVariables false

def fstep (g : Nat → Nat) (i : Nat) (p : Nat × Nat) (r : Nat) : Nat := if p.2 = i then (if r = i then g i ||| (2 ^ p.1 ||| g p.1) else g r) else g r
def fin_ (ps : List (Nat × Nat)) (i : Nat) (g : Nat → Nat) : Nat → Nat → Nat
  | 0 => g
  | k + 1 => fstep (fin_ ps i g k) i (ps.getD k (0, 0))
def fout (ps : List (Nat × Nat)) : Nat → Nat → Nat
  | 0 => fun _ => 0
  | i + 1 => fin_ ps i (fout ps i) ps.length
theorem fin_lt {ps : List (Nat × Nat)} {i : Nat} {g : Nat → Nat} (hp : ∀ k, k < ps.length → (ps.getD k (0, 0)).1 < 10) (hg : ∀ r, g r < 1024) (k : Nat) (hk : k ≤ ps.length) : ∀ r, fin_ ps i g k r < 1024 := by
  induction k with
  | zero => exact hg
  | succ k ih =>
    have ih := ih (by omega)
    intro r
    unfold fin_ fstep
    split
    · split
      · exact Nat.or_lt_two_pow (n := 10) (ih _) (Nat.or_lt_two_pow (n := 10) (Nat.pow_lt_pow_right (by decide) (hp k (by omega))) (ih _))
      · exact ih r
    · exact ih r
theorem fout_lt {ps : List (Nat × Nat)} (hp : ∀ k, k < ps.length → (ps.getD k (0, 0)).1 < 10) (i : Nat) : ∀ r, fout ps i r < 1024 := by
  induction i with
  | zero => intro r; simp [fout]
  | succ i ih => exact fin_lt hp ih ps.length (Nat.le_refl _)
def fromL (n : Nat) (ps : List (Nat × Nat)) : List Int := mkL n (fout ps n)
def PairsOk (n : Nat) (ps : List (Nat × Nat)) : Prop := ∀ k, k < ps.length → (ps.getD k (0, 0)).1 < n ∧ (ps.getD k (0, 0)).2 < n

structure FromW (ti tp : TypeId) (n : Nat) (w : World) (g : Nat → Nat) (wr : World) : Prop where
  row : Blk wr (w.heap.size + 1) ti (Vals (mkL n g))
  out : Blk wr (w.heap.size + 1 + 1) tp #[.slice (some ⟨w.heap.size + 1, 0, none⟩) n n]
  res : Blk wr w.heap.size tp #[.slice none 0 0]
  below : Below w.heap.size w wr
theorem FromW.start (ti tp : TypeId) (n : Nat) (w : World) (g : Nat → Nat) :
    FromW ti tp n w g (((w.alloc (.cells #[.slice none 0 0] tp)).alloc (.cells (Vals (mkL n g)) ti)).alloc (.cells #[.slice (some ⟨w.heap.size + 1, 0, none⟩) n n] tp)) :=
  ⟨(Blk.newAt _ _ _ _ (by simp)).alloc _, Blk.newAt _ _ _ _ (by simp), ((Blk.new _ _ _).alloc _).alloc _, ((((Below.refl _ _).alloc (Nat.le_refl _) _).alloc (by simp) _).alloc (by simp; omega) _)⟩
theorem FromW.step {ti tp : TypeId} {n : Nat} {w wr : World} {g g' : Nat → Nat} {q : Nat} {y : Int} (h : FromW ti tp n w g wr) (e : mkL n g' = (mkL n g).set q y) :
    FromW ti tp n w g' ((wr.setCell ⟨w.heap.size + 1, q, none⟩ (.int .i64 y)).drew) := by
  refine ⟨?_, ?_, ?_, ?_⟩
  · rw [e, ← Vals_set]; exact h.row.set_ q _
  · exact h.out.far (p := ⟨w.heap.size + 1, q, none⟩) (by show w.heap.size + 1 + 1 ≠ w.heap.size + 1; omega) _
  · exact h.res.far (p := ⟨w.heap.size + 1, q, none⟩) (by show w.heap.size ≠ w.heap.size + 1; omega) _
  · exact (h.below.setCell (p := ⟨w.heap.size + 1, q, none⟩) (by show w.heap.size ≤ w.heap.size + 1; omega) _).drew

/-- 'v' reads as a list of pairs -/
def PairsR (w : World) (v : Value) (ps : List (Nat × Nat)) : Prop :=
  ∃ A c, v = .slice A ps.length c ∧ ∀ j, j < ps.length → ∃ b o g p m, A = some ⟨b, o, none⟩ ∧ b < w.heap.size ∧ g < w.heap.size ∧ w.cell? ⟨b, o + j, none⟩ = some (.slice (some ⟨g, p, none⟩) 2 m) ∧ w.cell? ⟨g, p, none⟩ = some (.int .i64 ((ps.getD j (0, 0)).1 : Int)) ∧ w.cell? ⟨g, p + 1, none⟩ = some (.int .i64 ((ps.getD j (0, 0)).2 : Int))
theorem Pairs.read {ti ts : TypeId} {w : World} {B : Nat} {v : Value} {ps : List (Nat × Nat)} (h : Pairs ti ts w B v ps) : PairsR w v ps := by
  obtain ⟨A, c, rfl, hA⟩ := h.shape
  refine ⟨A, c, rfl, fun j hj => ?_⟩
  obtain ⟨b, g, rfl, hb, hg, h0, h1, h2⟩ := hA j hj
  exact ⟨b, 0, g, 0, 2, rfl, hb, hg, by rw [Nat.zero_add]; exact h0, h1, by rw [Nat.zero_add]; exact h2⟩
theorem poFromR_any (v : Value) (ps : List (Nat × Nat)) (n : Nat) (w : World) (hv : PairsR w v ps) (hn : n ≤ 10) (hok : PairsOk n ps) (hl : ps.length ≤ 1048576) :
    Calls Try.prog 139 #[.int .i64 n, v] w fun (r : Ending) w' => ∃ u, r = Ending.returned (.agg #[u]) ∧ OwnI 3 w' w.heap.size u (fromL n ps) ∧ Below w.heap.size w w' := by
  obtain ⟨A, c, rfl, hA⟩ := hv
  have HA := hid hA
  have HK := hid hok
  clear hA hok
  have hmk := run_make_row' (P := Try.prog) 24 3 (.int .i64 0) 8 Try.underlying24 Try.info3 rfl .i64 .i64 n (by omega) (by omega)
  go_enter Try.func139, Try.ntmps139
  go_wp2
  clear hmk
  rw [Vals_made]
  go_loopw [6] (fun i wr => ∃ k : Nat, k ≤ n ∧ i = .int .i64 k ∧ FromW 3 26 n w (fout ps k) wr) (fun i _ => n - (intOf i).toNat)
  case atStart => exact ⟨0, Nat.zero_le _, rfl, by rw [← mkL_zero]; exact FromW.start _ _ _ _ _⟩
  case round =>
    obtain ⟨k, hk, rfl, hD⟩ := hrel
    have HD := hid hD
    clear hD
    by_cases hlt : k < n
    · go_wp2
      go_loopw [19] (fun j wi => ∃ t : Nat, t ≤ ps.length ∧ j = .int .i64 t ∧ FromW 3 26 n w (fin_ ps k (fout ps k) t) wi) (fun j _ => ps.length - (intOf j).toNat)
      case atStart => exact ⟨0, Nat.zero_le _, rfl, HD.out⟩
      case round =>
        obtain ⟨t, ht, rfl, hT⟩ := hrel
        have HT := hid hT
        clear hT
        by_cases htk : t < ps.length
        · obtain ⟨b, o, g, pp, m, rfl, hb, hg, hc0, hc1, hc2⟩ := HA.out t htk
          obtain ⟨p1, p2⟩ := HK.out t htk
          obtain ⟨a, ha⟩ : ∃ a, (ps.getD t (0, 0)).1 = a := ⟨_, rfl⟩
          obtain ⟨y, hy⟩ : ∃ y, (ps.getD t (0, 0)).2 = y := ⟨_, rfl⟩
          rw [ha] at hc1 p1
          rw [hy] at hc2 p2
          have t1 : wr.cell? ⟨b, o + t, none⟩ = some (.slice (some ⟨g, pp, none⟩) 2 m) := by rw [HT.out.below.cell (p := ⟨b, o + t, none⟩) hb]; exact hc0
          have t2 : wr.cell? ⟨g, pp, none⟩ = some (.int .i64 (a : Int)) := by rw [HT.out.below.cell (p := ⟨g, pp, none⟩) hg]; exact hc1
          have t3 : wr.cell? ⟨g, pp + 1, none⟩ = some (.int .i64 (y : Int)) := by rw [HT.out.below.cell (p := ⟨g, pp + 1, none⟩) hg]; exact hc2
          have hlp : ∀ k, k < ps.length → (ps.getD k (0, 0)).1 < 10 := fun k hk => by have := (HK.out k hk).1; omega
          have hlt2 := fin_lt (i := k) hlp (fout_lt hlp k) t (by omega)
          have Ha := hid ha
          have Hy := hid hy
          have Hlt2 := hid hlt2
          clear hc0 hc1 hc2 ha hy hlp hlt2
          by_cases hyk : y = k
          · subst hyk
            have hp := Hlt2.out y
            have hq := Hlt2.out a
            obtain ⟨p, hpp⟩ : ∃ p, fin_ ps y (fout ps y) t y = p := ⟨_, rfl⟩
            obtain ⟨q, hqq⟩ : ∃ q, fin_ ps y (fout ps y) t a = q := ⟨_, rfl⟩
            rw [hpp] at hp
            rw [hqq] at hq
            have t0 := HT.out.out.cell 0
            have t4 : wr.cell? ⟨w.heap.size + 1, y, none⟩ = some (.int .i64 p) := by rw [HT.out.row.cell, Vals_get (by rw [mkL_length]; exact hlt), mkL_getD hlt, hpp]
            have t5 : wr.cell? ⟨w.heap.size + 1, a, none⟩ = some (.int .i64 q) := by rw [HT.out.row.cell, Vals_get (by rw [mkL_length]; exact p1), mkL_getD p1, hqq]
            have t6 := HT.out.row.frozen y
            have wp := wrap_pow' a (by omega)
            have o1 := pow_or q a hq (by omega)
            have o3 : 2 ^ a ||| q < 1024 := Nat.or_lt_two_pow (n := 10) (Nat.pow_lt_pow_right (by decide) (by omega)) hq
            have o2 := i64_or_nat p (2 ^ a ||| q) (by omega) (Nat.lt_trans o3 (by decide))
            have h1 : (y : Int) < n := by omega
            have h2 : (a : Int) < n := by omega
            have Hp := hid hpp
            have Hq := hid hqq
            clear hpp hqq hp hq o3
            obtain ⟨z, hz⟩ : ∃ z, 2 ^ a ||| q = z := ⟨_, rfl⟩
            rw [hz] at o1 o2
            have Hz := hid hz
            clear hz
            go_wp2
            go_region
            go_wp2
            go_roundw
            case rel => exact ⟨t + 1, by omega, by go_num, (by
              have e : mkL n (fin_ ps y (fout ps y) (t + 1)) = (mkL n (fin_ ps y (fout ps y) t)).set y ((p ||| z : Nat) : Int) := by
                rw [mkL_set _ hlt]
                refine mkL_congr fun r _ => ?_
                rw [fin_, fstep, Hy.out, if_pos rfl, Ha.out, Hp.out, Hq.out, Hz.out]
              exact HT.out.step e)⟩
            case measure => simp [intOf]; omega
          · have hyz : ((y : Int) == (k : Int)) = false := by rw [beq_eq_false_iff_ne]; omega
            have Hyk := hid hyk
            clear hyk
            go_wp2
            go_roundw
            case rel => exact ⟨t + 1, by omega, by go_num, (by
              have e : fin_ ps k (fout ps k) (t + 1) = fin_ ps k (fout ps k) t := by
                funext r
                rw [fin_, fstep, Hy.out, if_neg Hyk.out]
              rw [e]; exact HT.out)⟩
            case measure => simp [intOf]; omega
        · obtain rfl : t = ps.length := by omega
          go_wp2
          go_roundw
          case rel => exact ⟨k + 1, by omega, by go_num, HT.out⟩
          case measure => simp [intOf]; omega
    · obtain rfl : k = n := by omega
      have t0 := HD.out.out.cell 0
      have t1 := HD.out.res.cell 0
      have t2 := HD.out.res.frozen 0
      go_wp2
      refine bodyPost_ret (v := .agg #[.slice (some ⟨w.heap.size + 1, 0, none⟩) k k]) (by simp [results, Try.results139, go_sem, t1]) rfl ⟨_, rfl, ?_, ?_⟩
      · have h := HD.out.row
        have hlen : (fromL k ps).length = k := mkL_length _ _
        have h2 : OwnI 3 wr w.heap.size (.slice (some ⟨w.heap.size + 1, 0, none⟩) (fromL k ps).length (fromL k ps).length) (fromL k ps) := Blk.own h (by omega) (by omega)
        rw [hlen] at h2
        exact h2.grown (grown_setCell (World.grownBy.refl _ _) 0 _) (.inr (by simp [Value.ownBlock]))
      · exact HD.out.below.setCell (p := ⟨w.heap.size, 0, none⟩) (Nat.le_refl _) _
theorem poFrom_any (v : Value) (ps : List (Nat × Nat)) (n B : Nat) (w : World) (hv : Pairs 3 24 w B v ps) (hn : n ≤ 10) (hok : PairsOk n ps) (hl : ps.length ≤ 1048576) :
    Calls Try.prog 139 #[.int .i64 n, v] w fun (r : Ending) w' => ∃ u, r = Ending.returned (.agg #[u]) ∧ OwnI 3 w' w.heap.size u (fromL n ps) ∧ Below w.heap.size w w' :=
  poFromR_any v ps n w hv.read hn hok hl
end Go.Proofs.Ytclhebpkpmholaa
