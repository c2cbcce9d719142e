/- GaussOf and HookPolynomial: what both sides are made of. -/
import Derived.Test.YtnlehkjfidpdlaaSvH
import Derived.Test.YtnlehkjfidpdlaaChI
import Derived.Test.YtnlehkjfidpdlaaHas
namespace Go.Proofs.Ytnlehkjfidpdlaa
open Go.RowKit Go.WideShapes Go.ChangeShapes
set_option linter.unusedVariables false

theorem cell_nat {w : World} {b o : Nat} {l : List Nat} {j : Nat} (hc : ∀ j, j < (intsN l).length → w.cell? ⟨b, o + j, none⟩ = some (.int .i64 ((intsN l).getD j 0))) (hj : j < l.length) : w.cell? ⟨b, o + j, none⟩ = some (.int .i64 ((l.getD j 0 : Nat) : Int)) := by
  rw [hc j (by rw [intsN_length]; exact hj), intsN_get hj]
theorem getD_memN {l : List Nat} {j : Nat} (hj : j < l.length) : l.getD j 0 ∈ l := by
  rw [List.getD_eq_getElem?_getD, List.getElem?_eq_getElem hj]; exact List.getElem_mem _
set_option maxRecDepth 100000 in
set_option maxHeartbeats 3200000 in
theorem svGauss_any (v u : Value) (up lo : List Nat) (D : Nat) (w : World) (hv : Ints w v (intsN up)) (hu : Ints w u (intsN lo)) (hD : D ≤ 200) (hup : ∀ k ∈ up, k ≤ 100) (hlo : ∀ k ∈ lo, k ≤ 100) (hl1 : up.length ≤ 100) (hl2 : lo.length ≤ 100) :
    Calls Try.prog 29 #[v, u, .int .i64 D] w fun (r : Ending) w' => ∃ q, r = Ending.returned q ∧ OwnI 3 w' w.heap.size q (gzS up lo (D + 1)) ∧ Below w.heap.size w w' := by
  obtain ⟨A1, c1, rfl, hA1⟩ := hv
  obtain ⟨A2, c2, rfl, hA2⟩ := hu
  rw [intsN_length] at hA1
  rw [intsN_length] at hA2
  rw [intsN_length up, intsN_length lo]
  have HA1 := hid hA1
  have HA2 := hid hA2
  have HUp := hid (fun j (hj : j < up.length) => hup _ (getD_memN hj))
  have HLo := hid (fun j (hj : j < lo.length) => hlo _ (getD_memN hj))
  obtain ⟨L, hL⟩ : ∃ L, D + 1 = L := ⟨_, rfl⟩
  have hwL : IntKind.i64.wrap ((D : Int) + 1) = (L : Int) := by rw [IntWalk.i64_in _ (by omega)]; omega
  have hL1 : 1 ≤ L := by omega
  have hL2 : L ≤ 201 := by omega
  have HU0 : Hid (gzU up L 0 = bs0 L) := hid rfl
  have HUs : Hid (∀ e, gzU up L (e + 1) = mulL (gzU up L e) (up.getD e 0)) := hid (fun e => rfl)
  have HUl := hid (fun e => gzU_length up L e)
  have HDs : Hid (∀ e, gzD (gzU up L up.length) lo (e + 1) = divL (gzD (gzU up L up.length) lo e) (lo.getD e 0)) := hid (fun e => rfl)
  have HDl := hid (fun e => (gzD_length (gzU up L up.length) lo e).trans (gzU_length up L _))
  have HEnd : Hid (gzD (gzU up L up.length) lo lo.length = gzS up lo L) := hid rfl
  have HSl := hid (gzS_length up lo L)
  have hDL : (D : Int) = (L : Int) - 1 := by omega
  have HDL := hid hDL
  rw [hL]
  have hmk := run_make_row' (P := Try.prog) 22 3 (.int .i64 0) 8 Try.underlying22 Try.info3 rfl .i64 .i64 L (by omega) (by omega)
  have hLp : (0 : Int) < (L : Int) := by omega
  have hcm : (madeCells #[Value.int IntKind.i64 0] L)[0]? = some (Value.int IntKind.i64 0) := made0 (by omega)
  clear hA1 hA2 hup hlo hL hDL
  go_enter Try.func29, Try.ntmps29
  go_wp2
  clear hmk hwL hcm
  rw [Vals_made, Vals_set, show (List.replicate L (0 : Int)).set 0 1 = bs0 L from rfl]
  have HK0 := hid (Blk.newAt w 3 (Vals (bs0 L)) w.heap.size rfl)
  have HB0 := hid (below_alloc (Below.refl _ w) (.cells (Vals (bs0 L)) 3))
  obtain ⟨W0, hW0⟩ : ∃ W0, w.alloc (.cells (Vals (bs0 L)) 3) = W0 := ⟨_, rfl⟩
  rw [hW0] at HK0 HB0 ⊢
  obtain ⟨G, hG⟩ : ∃ G, w.heap.size = G := ⟨_, rfl⟩
  have HG := hid hG
  rw [hG] at HK0 HB0 ⊢
  clear hW0 hG
  have HCw := hid (fun W (hW : Below G W0 W) => HB0.out.trans hW)
  go_loopw [21] (fun i wr => ∃ e : Nat, e ≤ up.length ∧ i = .int .i64 (e : Int) ∧ Blk wr G 3 (Vals (gzU up L e)) ∧ Below G W0 wr) (fun i _ => up.length - (intOf i).toNat)
  case atStart => exact ⟨0, Nat.zero_le _, rfl, HK0.out, Below.refl _ _⟩
  case round =>
    obtain ⟨e, he, rfl, hk, hb⟩ := hrel
    have HK := hid hk
    have Hb := hid hb
    clear hk hb
    by_cases hen : e < up.length
    · obtain ⟨b1, o1, rfl, hbl1, hc1⟩ := HA1.out (by intro h; have := congrArg List.length h; rw [intsN_length, List.length_nil] at this; omega)
      have hcell := ((HCw.out _ Hb.out).cell (p := ⟨b1, o1 + e, none⟩) (by rw [← HG.out]; exact hbl1)).trans (cell_nat (fun j hj => hc1 j (by rw [intsN_length] at hj; exact hj)) hen)
      have hkb := HUp.out e hen
      have HSt := hid (HUs.out e)
      have HLl := hid (HUl.out e)
      obtain ⟨k, hkk⟩ : ∃ k, up.getD e 0 = k := ⟨_, rfl⟩
      obtain ⟨l, hll⟩ : ∃ l, gzU up L e = l := ⟨_, rfl⟩
      rw [hkk] at hcell hkb HSt
      rw [hll] at HSt HLl HK
      have hen1 : e + 1 ≤ up.length := hen
      clear hkk hll hc1
      obtain ⟨W2, rfl⟩ : ∃ x, x = wr := ⟨wr, rfl⟩
      go_wp2
      clear hcell
      go_loopw [10] (fun i wr => ∃ (t : Nat) (q : Int), i = .int .i64 q ∧ q + 1 + t = L ∧ t ≤ L - k ∧ Blk wr G 3 (Vals (mulN l k t)) ∧ Below G W0 wr) (fun i _ => (intOf i + 1).toNat)
      case atStart => exact ⟨0, (D : Int), rfl, by have := HDL.out; omega, Nat.zero_le _, HK.out, Hb.out⟩
      case round =>
        obtain ⟨t, q, rfl, hq, ht, hB, hb⟩ := hrel
        have HB := hid hB
        have Hb2 := hid hb
        clear hB hb
        by_cases hlt : t < L - k
        · obtain ⟨e2, rfl⟩ := Int.eq_ofNat_of_zero_le (show 0 ≤ q by omega)
          obtain ⟨j, hj⟩ : ∃ j, e2 - k = j := ⟨_, rfl⟩
          have heL : e2 < L := by omega
          have hjL : j < L := by omega
          have he3 : L - 1 - t = e2 := by omega
          have hke : (k : Int) ≤ (e2 : Int) := by omega
          have hx : wr.cell? ⟨G, e2, none⟩ = some (.int .i64 ((mulN l k t).getD e2 0)) := by rw [HB.out.cell, Vals_get (by rw [mulN_length, HLl.out]; exact heL)]
          have hy : wr.cell? ⟨G, j, none⟩ = some (.int .i64 ((mulN l k t).getD j 0)) := by rw [HB.out.cell, Vals_get (by rw [mulN_length, HLl.out]; exact hjL)]
          have hfz := HB.out.frozen e2
          have HSt2 := hid (fun x y z => mulN_step (x := x) (y := y) (z := z) (k := k) HLl.out he3 hj)
          obtain ⟨x, hxe⟩ : ∃ x, (mulN l k t).getD e2 0 = x := ⟨_, rfl⟩
          obtain ⟨y, hye⟩ : ∃ y, (mulN l k t).getD j 0 = y := ⟨_, rfl⟩
          rw [hxe] at hx
          rw [hye] at hy
          have HS2 := hid (fun z => HSt2.out x y z hxe hye)
          have hjw : IntKind.i64.wrap ((e2 : Int) - (k : Int)) = (j : Int) := by rw [IntWalk.i64_in _ (by omega)]; omega
          have hew : IntKind.i64.wrap ((e2 : Int) - 1) = (e2 : Int) - 1 := IntWalk.i64_in _ (by omega)
          have HQ : Hid ((e2 : Int) - 1 + 1 + ((t + 1 : Nat) : Int) = L) := hid (by omega)
          have ht2 : t + 1 ≤ L - k := by omega
          clear hxe hye hj he3 hq HSt2
          obtain ⟨z, hz⟩ : ∃ z, IntKind.i64.wrap (x - y) = z := ⟨_, rfl⟩
          have HS3 := hid (HS2.out z hz)
          go_wp2
          go_region
          clear hjw hz
          go_wp2
          clear hew
          go_roundw
          case rel => exact ⟨t + 1, (e2 : Int) - 1, by go_num, HQ.out, ht2, (by rw [HS3.out, ← Vals_set]; exact HB.out.set_ e2 (.int .i64 z)), below_drewN (Hb2.out.setCell (p := ⟨G, e2, none⟩) (Nat.le_refl _) _) 1⟩
          case measure => simp [intOf]; try omega
        · have hlt2 : ¬ (k : Int) ≤ q := by omega
          have HE : Hid (mulN l k t = mulL l k) := hid (by unfold mulL; rw [HLl.out, show t = L - k by omega])
          clear hq ht hlt
          go_wp2
          go_roundw
          case rel => exact ⟨e + 1, hen1, by go_num, by rw [HSt.out, ← HE.out]; exact HB.out, Hb2.out⟩
          case measure => simp [intOf]; omega
    · have HEe : Hid (e = up.length) := hid (by omega)
      rw [HEe.out] at HK
      clear he
      obtain ⟨W2, rfl⟩ : ∃ x, x = wr := ⟨wr, rfl⟩
      go_wp2
      go_loopw [46] (fun i wr => ∃ e : Nat, e ≤ lo.length ∧ i = .int .i64 (e : Int) ∧ Blk wr G 3 (Vals (gzD (gzU up L up.length) lo e)) ∧ Below G W0 wr) (fun i _ => lo.length - (intOf i).toNat)
      case atStart => exact ⟨0, Nat.zero_le _, rfl, HK.out, Hb.out⟩
      case round =>
        obtain ⟨e, he, rfl, hk, hb⟩ := hrel
        have HK4 := hid hk
        have Hb4 := hid hb
        clear hk hb
        by_cases hen2 : e < lo.length
        · obtain ⟨b1, o1, rfl, hbl1, hc1⟩ := HA2.out (by intro h; have := congrArg List.length h; rw [intsN_length, List.length_nil] at this; omega)
          have hcell := ((HCw.out _ Hb4.out).cell (p := ⟨b1, o1 + e, none⟩) (by rw [← HG.out]; exact hbl1)).trans (cell_nat (fun j hj => hc1 j (by rw [intsN_length] at hj; exact hj)) hen2)
          have hkb := HLo.out e hen2
          have HSt := hid (HDs.out e)
          have HLl := hid (HDl.out e)
          obtain ⟨k, hkk⟩ : ∃ k, lo.getD e 0 = k := ⟨_, rfl⟩
          obtain ⟨l, hll⟩ : ∃ l, gzD (gzU up L up.length) lo e = l := ⟨_, rfl⟩
          rw [hkk] at hcell hkb HSt
          rw [hll] at HSt HLl HK4
          have hen1 : e + 1 ≤ lo.length := hen2
          clear hkk hll hc1
          obtain ⟨W4, rfl⟩ : ∃ x, x = wr := ⟨wr, rfl⟩
          go_wp2
          clear hcell
          go_loopw [13] (fun i wr => ∃ (t e : Nat), i = .int .i64 (e : Int) ∧ k + t = e ∧ t ≤ L - k ∧ Blk wr G 3 (Vals (divN l k t)) ∧ Below G W0 wr) (fun i _ => L - (intOf i).toNat)
          case atStart => exact ⟨0, k, rfl, Nat.add_zero k, Nat.zero_le _, HK4.out, Hb4.out⟩
          case round =>
            obtain ⟨t, e2, rfl, he4, ht, hB, hb⟩ := hrel
            have HB := hid hB
            have Hb2 := hid hb
            clear hB hb
            have hDe : (D : Int) = (L : Int) - 1 := HDL.out
            by_cases hlt : t < L - k
            · have heL : e2 < L := by omega
              have hjL : t < L := by omega
              have hx : wr.cell? ⟨G, e2, none⟩ = some (.int .i64 ((divN l k t).getD e2 0)) := by rw [HB.out.cell, Vals_get (by rw [divN_length, HLl.out]; exact heL)]
              have hy : wr.cell? ⟨G, t, none⟩ = some (.int .i64 ((divN l k t).getD t 0)) := by rw [HB.out.cell, Vals_get (by rw [divN_length, HLl.out]; exact hjL)]
              have hfz := HB.out.frozen e2
              have HSt2 := hid (fun x y z => divN_step (l := l) (x := x) (y := y) (z := z) he4)
              obtain ⟨x, hxe⟩ : ∃ x, (divN l k t).getD e2 0 = x := ⟨_, rfl⟩
              obtain ⟨y, hye⟩ : ∃ y, (divN l k t).getD t 0 = y := ⟨_, rfl⟩
              rw [hxe] at hx
              rw [hye] at hy
              have HS2 := hid (fun z => HSt2.out x y z hxe hye)
              have hjw : IntKind.i64.wrap ((e2 : Int) - (k : Int)) = (t : Int) := by rw [IntWalk.i64_in _ (by omega)]; omega
              have HQ : Hid (k + (t + 1) = e2 + 1) := hid (by omega)
              have ht2 : t + 1 ≤ L - k := by omega
              have heI : (e2 : Int) ≤ (D : Int) := by omega
              have heL2 : (e2 : Int) < (L : Int) := by omega
              have htL2 : (t : Int) < (L : Int) := by omega
              have hM : Hid (L - (e2 + 1) < L - e2) := hid (by omega)
              clear hxe hye he4 HSt2 hDe
              obtain ⟨z, hz⟩ : ∃ z, IntKind.i64.wrap (x + y) = z := ⟨_, rfl⟩
              have HS3 := hid (HS2.out z hz)
              go_wp2
              go_region
              clear hjw hz
              go_wp2
              go_roundw
              case rel => exact ⟨t + 1, e2 + 1, by go_num, HQ.out, ht2, (by rw [HS3.out, ← Vals_set]; exact HB.out.set_ e2 (.int .i64 z)), below_drewN (Hb2.out.setCell (p := ⟨G, e2, none⟩) (Nat.le_refl _) _) 1⟩
              case measure => simp [intOf]; first | exact hM.out | (have h := hM.out; omega)
            · have hlt2 : ¬ (e2 : Int) ≤ (D : Int) := by omega
              have HE : Hid (divN l k t = divL l k) := hid (by unfold divL; rw [HLl.out, show t = L - k by omega])
              clear he4 ht hlt hDe
              go_wp2
              go_roundw
              case rel => exact ⟨e + 1, hen1, by go_num, by rw [HSt.out, ← HE.out]; exact HB.out, Hb2.out⟩
              case measure => simp [intOf]; omega
        · have HEe : Hid (e = lo.length) := hid (by omega)
          rw [HEe.out, HEnd.out] at HK4
          have HOw := hid (HK4.out.own (xs := gzS up lo L) (B := G) (Nat.le_refl _) (by rw [HSl.out]; omega))
          rw [HSl.out] at HOw
          clear he
          go_wp2
          go_ret
          exact ⟨_, rfl, (by rw [HG.out]; exact HOw.out), (by rw [HG.out]; exact HCw.out _ Hb4.out)⟩
theorem svRange_any (f N m : Nat) (w : World) (hm : f + m = N + 1) (ht : N ≤ 1000) :
    Calls Try.prog 30 #[.int .i64 f, .int .i64 N] w fun (r : Ending) w' => ∃ q, r = Ending.returned q ∧ OwnI 3 w' w.heap.size q (intsN (rgN f m)) ∧ Below w.heap.size w w' := by
  go_enter Try.func30, Try.ntmps30
  go_wp2
  go_loopw [5, 6] (fun q i wr => ∃ k x : Nat, k ≤ m ∧ f + k = x ∧ i = .int .i64 (x : Int) ∧ OwnI 3 wr w.heap.size q (intsN (rgN f k)) ∧ Below w.heap.size w wr) (fun _ i _ => N + 1 - (intOf i).toNat)
  case atStart => exact ⟨0, f, Nat.zero_le _, rfl, rfl, OwnI.nil _ _ _, Below.refl _ _⟩
  case round =>
    obtain ⟨k, x, hk, hx, rfl, ho, hb⟩ := hrel
    obtain ⟨qA, qn, qc, rfl⟩ := ho.shape3
    have HO := hid ho
    have HB := hid hb
    clear ho hb
    by_cases hlt : k < m
    · have hxt : (x : Int) ≤ (N : Int) := by omega
      have hlen : (intsN (rgN f k)).length < 1048576 := by rw [intsN_length, rgN_length]; omega
      have hz2 : w.heap.size ≤ wr.heap.size := HB.out.size
      have HS : Hid (intsN (rgN f (k + 1)) = intsN (rgN f k) ++ [(x : Int)]) := hid (by rw [rgN_succ, intsN_snoc, hx])
      have HX : Hid (f + (k + 1) = x + 1) := hid (by omega)
      have hM : Hid (N + 1 - (x + 1) < N + 1 - x) := hid (by omega)
      have hk1 : k + 1 ≤ m := hlt
      go_wp2_with (at_builtin; refine wpList_append_int rfl _ _ 22 3 rfl Try.underlying22 Try.info3 w.heap.size _ (intsN (rgN f k)) (x : Int) rfl HO.out rfl rfl hlen hz2 ?_; intro v5 w5 ho5 hb5; rw [← HS.out] at ho5; obtain ⟨sA, sn, sc, rfl⟩ := ho5.shape3; have HO5 := hid ho5; have HB5 := hid hb5; clear ho5 hb5)
      go_roundw
      case rel => exact ⟨k + 1, x + 1, hk1, HX.out, by go_num, HO5.out, HB.out.trans HB5.out⟩
      case measure => simp [intOf]; first | exact hM.out | (have h := hM.out; omega)
    · have hE : Hid (k = m) := hid (by omega)
      have hxt : ¬ (x : Int) ≤ (N : Int) := by omega
      rw [hE.out] at HO
      clear hk hlt hx
      go_wp2
      go_ret
      exact ⟨_, rfl, HO.out, HB.out⟩
end Go.Proofs.Ytnlehkjfidpdlaa
