/- Arrays in the program: a filling (ten numbers and a bound), its ranges. -/
import Derived.Test.YtgepbekdgocnpaaAr
import Derived.Test.YtgepbekdgocnpaaLabS
import Derived.BigQuiet
namespace Go.Proofs.Ytgepbekdgocnpaa
open Go.RowKit Go.WideShapes Go.ChangeShapes
set_option linter.unusedVariables false

/-- the cells of a filling -/
def fc (f : List Int) (b : Int) : Array Value := ((List.range 11).map fun j => if j = 10 then Value.int .i64 b else .int .i64 (f.getD j 0)).toArray
theorem fc_size (f : List Int) (b : Int) : (fc f b).size = 11 := by simp [fc]
theorem fc_get {f : List Int} {b : Int} {j : Nat} (h : j < 10) : (fc f b)[j]? = some (.int .i64 (f.getD j 0)) := by
  simp [fc]
  rw [List.getElem?_range (by omega)]
  simp
  omega
theorem fc_bound (f : List Int) (b : Int) : (fc f b)[10]? = some (.int .i64 b) := rfl
theorem fc_set {f : List Int} {b y : Int} {e : Nat} (he : e < f.length) (h : f.length ≤ 10) : (fc f b).setIfInBounds e (.int .i64 y) = fc (f.set e y) b := by
  unfold fc
  rw [List.setIfInBounds_toArray]
  congr 1
  refine List.ext_getElem (by simp) fun i h1 h2 => ?_
  have h3 : i < 11 := by simpa using h2
  rw [List.getElem_set, List.getElem_map, List.getElem_map, List.getElem_range, getD_setA f he]
  by_cases e1 : e = i
  · subst e1; simp; omega
  · have e2 : ¬ i = e := fun h => e1 h.symm
    simp only [e1, e2, if_false]
theorem fc_one (f : List Int) (b : Int) : (fc f b).all (·.oneCell') = true := by
  rw [Array.all_eq_true]
  intro i hi
  have h3 : i < 11 := by simpa [fc] using hi
  simp only [fc, List.getElem_toArray, List.getElem_map, List.getElem_range]
  split <;> rfl
theorem min_ifA (p q : Int) : (if q < p then q else p) = min p q := by split <;> omega
set_option maxHeartbeats 1600000 in
theorem rangeAt_any (v : Value) (xs f : List Int) (b : Int) (e : Nat) (w : World) (hv : Ints w v xs) (hg : good xs = true) (he : e < xs.length) :
    Calls Try.prog 50 #[.agg (fc f b), .agg #[v], .int .i64 e] w fun r w' => r = .returned (.tuple #[.int .i64 (loN xs f e xs.length), .int .i64 (hiN xs f b e xs.length)]) ∧ Below w.heap.size w w' := by
  obtain ⟨A, c, rfl, hA⟩ := hv
  obtain ⟨xb, xo, rfl, hxl, hxc⟩ := hA (by intro h; rw [h] at he; simp at he)
  have hl10 := (good_length hg).2
  have hok := okAt_small (good_at hg he) (by omega)
  have HXc := hid hxc
  have hcell := hxc e he
  have HOk := hid (fun k (hk : k < xs.length) => okAt_small (good_at hg hk) (by omega))
  obtain ⟨z0, hz0⟩ : ∃ z, xs.getD e 0 = z := ⟨_, rfl⟩
  rw [hz0] at hok hcell
  obtain ⟨z, rfl⟩ := Int.eq_ofNat_of_zero_le hok.1
  have HZ := hid hz0
  have HGet := hid (fun j (hj : j < 10) => fc_get (f := f) (b := b) hj)
  have HBd := hid (fc_bound f b)
  obtain ⟨C, hC⟩ : ∃ C, fc f b = C := ⟨_, rfl⟩
  have HSz : Hid (C.size = 11) := hid (by rw [← hC]; exact fc_size f b)
  rw [hC] at HGet HBd ⊢
  obtain ⟨n, hnn⟩ : ∃ n, xs.length = n := ⟨_, rfl⟩
  rw [hnn] at HXc HOk he hl10 ⊢
  clear hA hxc hg hz0 hnn hC
  go_enter Try.func50, Try.ntmps50
  go_wp2_with fail
  have HB := hid (below_alloc (below_alloc (Below.refl _ w) (.cells C 59)) (.cells #[.slice (some ⟨xb, xo, none⟩) n c] 28))
  have HF : Hid (Blk ((w.alloc (.cells C 59)).alloc (.cells #[.slice (some ⟨xb, xo, none⟩) n c] 28)) w.heap.size 59 C) := hid ((Blk.new w _ C).alloc _)
  have HA : Hid (At ((w.alloc (.cells C 59)).alloc (.cells #[.slice (some ⟨xb, xo, none⟩) n c] 28)) (w.heap.size + 1) (.slice (some ⟨xb, xo, none⟩) n c)) := hid (At.newAt _ _ _ _ (by simp))
  obtain ⟨W0, hW0⟩ : ∃ W0, (w.alloc (.cells C 59)).alloc (.cells #[.slice (some ⟨xb, xo, none⟩) n c] 28) = W0 := ⟨_, rfl⟩
  rw [hW0] at HB HF HA ⊢
  clear hW0
  have hb10 : W0.cell? ⟨w.heap.size, 10, none⟩ = some (.int .i64 b) := by rw [HF.out.cell]; exact HBd.out
  go_quiet (fail)
  clear hb10
  have HB2 := hid (below_drewN HB.out nq)
  have HF2 : Hid (Blk (W0.drewN nq) w.heap.size 59 C) := hid (HF.out.below (below_drewN (Below.refl _ _) nq) HF.out.lt)
  have HA2 : Hid (At (W0.drewN nq) (w.heap.size + 1) (.slice (some ⟨xb, xo, none⟩) n c)) := hid (HA.out.drewN nq)
  obtain ⟨W1, hW1⟩ : ∃ W1, W0.drewN nq = W1 := ⟨_, rfl⟩
  rw [hW1] at HB2 HF2 HA2 ⊢
  clear hW1 HB HF HA
  have hbox := HA2.out.1
  go_wp2
  have hce := (HB2.out.cell (p := ⟨xb, xo + e, none⟩) hxl).trans hcell
  go_loop [8, 9, 17] (fun q r i => ∃ (k : Nat) (t s : Int), k ≤ n ∧ i = .int .i64 k ∧ q = .int .i64 t ∧ r = .int .i64 s ∧ Hid (loN xs f e k = t) ∧ Hid (hiN xs f b e k = s)) (fun _ _ i => n - (intOf i).toNat)
  case atStart => exact ⟨0, 0, b, Nat.zero_le _, rfl, rfl, rfl, hid rfl, hid rfl⟩
  case round =>
    obtain ⟨k, t, s, hk, rfl, rfl, rfl, HT, HS⟩ := hrel
    by_cases hlt : k < n
    · have hcx := (HB2.out.cell (p := ⟨xb, xo + k, none⟩) hxl).trans (HXc.out k hlt)
      have hoy := HOk.out k hlt
      have hcf : W1.cell? ⟨w.heap.size, k, none⟩ = some (.int .i64 (f.getD k 0)) := by rw [HF2.out.cell]; exact HGet.out k (by omega)
      obtain ⟨y0, hy0⟩ : ∃ y, xs.getD k 0 = y := ⟨_, rfl⟩
      rw [hy0] at hcx hoy
      obtain ⟨y, rfl⟩ := Int.eq_ofNat_of_zero_le hoy.1
      obtain ⟨x, hx⟩ : ∃ x, f.getD k 0 = x := ⟨_, rfl⟩
      rw [hx] at hcf
      have HY := hid hy0
      have HX := hid hx
      obtain ⟨t2, ht2⟩ : ∃ t2, (if z.testBit k then max t x else t) = t2 := ⟨_, rfl⟩
      obtain ⟨s2, hs2⟩ : ∃ s2, (if y.testBit e then min s x else s) = s2 := ⟨_, rfl⟩
      have HT2 : Hid (loN xs f e (k + 1) = t2) := hid (by rw [loN, HZ.out, Int.toNat_natCast, HT.out, HX.out]; exact ht2)
      have HS2 : Hid (hiN xs f b e (k + 1) = s2) := hid (by rw [hiN, HY.out, Int.toNat_natCast, HS.out, HX.out]; exact hs2)
      have he64 : e < 64 := by omega
      have hk64 : k < 64 := by omega
      have hk10 : k < 10 := by omega
      have hz : z < 9223372036854775808 := by omega
      have hy : y < 9223372036854775808 := by omega
      have H1 : Hid (∀ W, Calls Try.prog 71 #[.int .i64 z, .int .i64 k] W fun r w' => r = .returned (.bool (z.testBit k)) ∧ W = w') := hid (hasElement_any z k hz hk64)
      have H2 : Hid (∀ W, Calls Try.prog 71 #[.int .i64 y, .int .i64 e] W fun r w' => r = .returned (.bool (y.testBit e)) ∧ W = w') := hid (hasElement_any y e hy he64)
      clear hy0 hx
      cases hb1 : z.testBit k <;> cases hb2 : y.testBit e
      all_goals rw [hb1] at ht2 H1
      all_goals rw [hb2] at hs2 H2
      all_goals simp only [if_true, Bool.false_eq_true, if_false] at ht2 hs2
      all_goals have HT3 := hid ht2
      all_goals have HS3 := hid hs2
      all_goals clear hb1 hb2 ht2 hs2
      all_goals go_wp2_with (first
        | (go_at_call 71; with_reducible refine (H1.out _).mono ?_; rintro e' w' ⟨rfl, rfl⟩)
        | (go_at_call 71; with_reducible refine (H2.out _).mono ?_; rintro e' w' ⟨rfl, rfl⟩))
      all_goals go_round
      all_goals first
        | exact ⟨k + 1, _, _, by omega, by go_num, rfl, rfl, hid (by rw [HT2.out, ← HT3.out]; first | done | rfl | (rw [max_if])), hid (by rw [HS2.out, ← HS3.out]; first | done | rfl | (rw [min_ifA]))⟩
        | (simp [intOf]; omega)
    · obtain rfl : k = n := by omega
      clear hce
      go_wp2
      go_ret2
      exact ⟨by rw [HT.out, HS.out]; rfl, HB2.out⟩
end Go.Proofs.Ytgepbekdgocnpaa
