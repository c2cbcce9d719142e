/- BoxBySum of the model. -/
import Derived.Test.YteaeeinfjhhhoaaBoxM
namespace Go.Proofs.Yteaeeinfjhhhoaa
open Go.RowKit Go.WideShapes Go.ChangeShapes
set_option linter.unusedVariables false

set_option maxRecDepth 100000 in
set_option maxHeartbeats 3200000 in
theorem specBoxBySum_any (a b m : Int) (w : World) (wa : (Lit.int .i64 a).wf = true) (wb : (Lit.int .i64 b).wf = true) (wm : (Lit.int .i64 m).wf = true) :
    Calls Try.prog 30 #[.int .i64 a, .int .i64 b, .int .i64 m] w fun (r : Ending) w' => ∃ u, r = Ending.returned (.tuple #[u, .bool (boxB a b m)]) ∧ OwnI 3 w' w.heap.size u (ansBS a b m) ∧ (ansBS a b m).length ≤ 1048576 ∧ Below w.heap.size w w' := by
  have HSd := hid (laBox_any a b m w)
  have HL := hid (ansBS_length a b m)
  clear wa wb wm
  cases hs : boxB a b m
  · have HN := hid (ansBS_no hs)
    rw [hs] at HSd
    clear hs
    go_enter Try.func30, Try.ntmps30
    go_wp2_with (go_at_call 45; refine HSd.out.mono ?_; rintro e w' ⟨rfl, rfl⟩)
    go_ret2
    exact ⟨_, rfl, by rw [HN.out]; exact OwnI.nil _ _ _, HL.out, Below.refl _ _⟩
  obtain ⟨hsd, hbd⟩ := boxB_all hs
  obtain ⟨x, y, rfl, rfl, h1, h2, h3, h4, h5⟩ := sides_nat hsd
  obtain ⟨m0, m1⟩ := bdB_all hbd
  obtain ⟨M, rfl⟩ := Int.eq_ofNat_of_zero_le m0
  have HAns := hid (ansBS_yes hs)
  rw [hs] at HSd
  have hM : M ≤ 12 := by omega
  have HLv := hid (fun e => lvN_le y e h3)
  have HLa := hid (fun r c (hc : c < y) => lvN_at (y := y) (r := r) hc)
  have hlen := box_len h5 hM
  have HRc := hid (fun r c (hr : r < x) (hc : c < y) => (show y * r + c < x * y by
    have h1 := Nat.mul_le_mul_right y (show r + 1 ≤ x by omega)
    rw [Nat.add_mul, Nat.one_mul] at h1
    have h2 := Nat.mul_comm y r
    omega))
  have HEnd : Hid (∀ r, y * r + y = y * (r + 1)) := hid fun r => by rw [Nat.mul_add, Nat.mul_one]
  have HXY : Hid (y * x = x * y) := hid (Nat.mul_comm _ _)
  have hxy : (x : Int) * (y : Int) = ((x * y : Nat) : Int) := by rw [Int.natCast_mul]
  obtain ⟨n, hn⟩ : ∃ n, x * y = n := ⟨_, rfl⟩
  rw [hn] at HAns h5 hlen HRc HXY hxy
  obtain ⟨L0, hL0⟩ : ∃ L0, n * M = L0 := ⟨_, rfl⟩
  have hmul : (n : Int) * (M : Int) = (L0 : Int) := by rw [← Int.natCast_mul, hL0]
  rw [hL0] at HAns hlen
  obtain ⟨L, hL⟩ : ∃ L, L0 + 1 = L := ⟨_, rfl⟩
  rw [hL] at HAns
  have eL : (L0 : Int) + 1 = (L : Int) := by omega
  have hL1 : 1 ≤ L := by omega
  have hL2 : L ≤ 121 := by omega
  have hmk := run_make_row' (P := Try.prog) 22 3 (.int .i64 0) 8 Try.underlying22 Try.info3 rfl .i64 .i64 L (by omega) (by omega)
  have hwL : IntKind.i64.wrap (L0 : Int) = (L0 : Int) := IntWalk.i64_in _ (by omega)
  have hwn : IntKind.i64.wrap (n : Int) = (n : Int) := IntWalk.i64_in _ (by omega)
  have hwL1 : IntKind.i64.wrap (L : Int) = (L : Int) := IntWalk.i64_in _ (by omega)
  have hLp : (0 : Int) < (L : Int) := by omega
  have hcm : (madeCells #[Value.int IntKind.i64 0] L)[0]? = some (Value.int IntKind.i64 0) := made0 (by omega)
  clear hs hn hsd hbd m0 m1 hL0 hL
  go_enter Try.func30, Try.ntmps30
  go_wp2_with (go_at_call 45; refine HSd.out.mono ?_; rintro e w' ⟨rfl, rfl⟩)
  clear hmk hmul eL hwL hwn hwL1 hcm hxy
  rw [Vals_made, Vals_set, show (List.replicate L (0 : Int)).set 0 1 = bsN y M L 0 from rfl]
  have HK0 := hid (Blk.newAt w 3 (Vals (bsN y M L 0)) w.heap.size rfl)
  have HB0 := hid (below_alloc (Below.refl _ w) (.cells (Vals (bsN y M L 0)) 3))
  obtain ⟨W0, hW0⟩ : ∃ W0, w.alloc (.cells (Vals (bsN y M L 0)) 3) = W0 := ⟨_, rfl⟩
  obtain ⟨G, hG⟩ : ∃ G, w.heap.size = G := ⟨_, rfl⟩
  rw [hW0] at HK0 HB0 ⊢
  rw [hG] at HK0 ⊢
  have HG := hid hG
  clear hW0 hG
  go_loopw [9] (fun i wr => ∃ r : Nat, r ≤ x ∧ i = .int .i64 ((r : Int) + 1) ∧ Blk wr G 3 (Vals (bsN y M L (y * r))) ∧ Below G W0 wr) (fun i _ => x + 1 - (intOf i).toNat)
  case atStart => exact ⟨0, Nat.zero_le _, rfl, by rw [Nat.mul_zero]; exact HK0.out, Below.refl _ _⟩
  case round =>
    obtain ⟨r, hr, rfl, hk, hb⟩ := hrel
    have HK := hid hk
    have Hb := hid hb
    clear hk hb
    by_cases hrl : r < x
    · have hri : (r : Int) + 1 ≤ (x : Int) := by omega
      obtain ⟨W1, rfl⟩ : ∃ x, x = wr := ⟨wr, rfl⟩
      go_wp2
      clear hri
      go_loopw [10] (fun i wr => ∃ c : Nat, c ≤ y ∧ i = .int .i64 ((c : Int) + 1) ∧ Blk wr G 3 (Vals (bsN y M L (y * r + c))) ∧ Below G W0 wr) (fun i _ => y + 1 - (intOf i).toNat)
      case atStart => exact ⟨0, Nat.zero_le _, rfl, HK.out, Hb.out⟩
      case round =>
        obtain ⟨c, hc, rfl, hk, hb⟩ := hrel
        have HKc := hid hk
        have Hbc := hid hb
        clear hk hb
        by_cases hcl : c < y
        · have hci : (c : Int) + 1 ≤ (y : Int) := by omega
          have hen := HRc.out r c hrl hcl
          have hlv := HLa.out r c hcl
          have HSt : Hid (bsN y M L (y * r + c + 1) = divL (mulL (bsN y M L (y * r + c)) (lvN y (y * r + c) + M)) (lvN y (y * r + c))) := hid rfl
          have HE1 : Hid (y * r + (c + 1) = y * r + c + 1) := hid rfl
          obtain ⟨e, he⟩ : ∃ e, y * r + c = e := ⟨_, rfl⟩
          rw [he] at hen hlv HSt HE1 HKc
          have hlv2 := HLv.out e
          obtain ⟨p, hp⟩ : ∃ p, lvN y e = p := ⟨_, rfl⟩
          rw [hp] at hlv HSt hlv2
          obtain ⟨k, hkk⟩ : ∃ k, p + M = k := ⟨_, rfl⟩
          rw [hkk] at HSt
          have HLl := hid (bsN_length y M L e)
          obtain ⟨l, hll⟩ : ∃ l, bsN y M L e = l := ⟨_, rfl⟩
          rw [hll] at HSt HKc HLl
          have ek : (r : Int) + 1 + ((c : Int) + 1) + (M : Int) - 1 = (k : Int) := by omega
          have ep : (r : Int) + 1 + ((c : Int) + 1) - 1 = (p : Int) := by omega
          have hk1 : k ≤ 1000 := by omega
          have hp1 : p ≤ 1000 := by omega
          have hsub : IntKind.i64.wrap ((L : Int) - 1) = (L : Int) - 1 := IntWalk.i64_in _ (by omega)
          clear he hp hkk hll hlv hlv2 hen
          obtain ⟨W2, rfl⟩ : ∃ x, x = wr := ⟨wr, rfl⟩
          go_wp2
          clear hsub ek ep hci
          go_loopw [13] (fun i wr => ∃ (t : Nat) (q : Int), i = .int .i64 q ∧ q + 1 + t = L ∧ t ≤ L - k ∧ Blk wr G 3 (Vals (mulN l k t)) ∧ Below G W0 wr) (fun i _ => (intOf i + 1).toNat)
          case atStart => exact ⟨0, (L : Int) - 1, rfl, by omega, Nat.zero_le _, HKc.out, Hbc.out⟩
          case round =>
            obtain ⟨t, q, rfl, hq, ht, hB, hb⟩ := hrel
            have HB := hid hB
            have Hb := hid hb
            clear hB hb
            by_cases hlt : t < L - k
            · obtain ⟨e, rfl⟩ := Int.eq_ofNat_of_zero_le (show 0 ≤ q by omega)
              obtain ⟨j, hj⟩ : ∃ j, e - k = j := ⟨_, rfl⟩
              have heL : e < L := by omega
              have hjL : j < L := by omega
              have he : L - 1 - t = e := by omega
              have hke : (k : Int) ≤ (e : Int) := by omega
              have hx : wr.cell? ⟨G, e, none⟩ = some (.int .i64 ((mulN l k t).getD e 0)) := by rw [HB.out.cell, Vals_get (by rw [mulN_length, HLl.out]; exact heL)]
              have hy : wr.cell? ⟨G, j, none⟩ = some (.int .i64 ((mulN l k t).getD j 0)) := by rw [HB.out.cell, Vals_get (by rw [mulN_length, HLl.out]; exact hjL)]
              have hfz := HB.out.frozen e
              have HSt := hid (fun x y z => mulN_step (x := x) (y := y) (z := z) (k := k) HLl.out he hj)
              obtain ⟨x, hxe⟩ : ∃ x, (mulN l k t).getD e 0 = x := ⟨_, rfl⟩
              obtain ⟨y, hye⟩ : ∃ y, (mulN l k t).getD j 0 = y := ⟨_, rfl⟩
              rw [hxe] at hx
              rw [hye] at hy
              have HS2 := hid (fun z => HSt.out x y z hxe hye)
              have hjw : IntKind.i64.wrap ((e : Int) - (k : Int)) = (j : Int) := by rw [IntWalk.i64_in _ (by omega)]; omega
              have hew : IntKind.i64.wrap ((e : Int) - 1) = (e : Int) - 1 := IntWalk.i64_in _ (by omega)
              have HQ : Hid ((e : Int) - 1 + 1 + ((t + 1 : Nat) : Int) = L) := hid (by omega)
              have ht2 : t + 1 ≤ L - k := by omega
              clear hxe hye hj he hq HSt
              obtain ⟨z, hz⟩ : ∃ z, IntKind.i64.wrap (x - y) = z := ⟨_, rfl⟩
              have HS3 := hid (HS2.out z hz)
              go_wp2
              go_region
              clear hjw hz
              go_wp2
              clear hew
              go_roundw
              case rel => exact ⟨t + 1, (e : Int) - 1, by go_num, HQ.out, ht2, (by rw [HS3.out, ← Vals_set]; exact HB.out.set_ e (.int .i64 z)), below_drewN (Hb.out.setCell (p := ⟨G, e, none⟩) (Nat.le_refl _) _) 1⟩
              case measure => simp [intOf]; try omega
            · have hlt2 : ¬ (k : Int) ≤ q := by omega
              have HE : Hid (mulN l k t = mulL l k) := hid (by unfold mulL; rw [HLl.out, show t = L - k by omega])
              have HM1 : Hid (Blk wr G 3 (Vals (mulL l k))) := hid (by rw [← HE.out]; exact HB.out)
              have HLm : Hid ((mulL l k).length = L) := hid (by rw [mulL_length]; exact HLl.out)
              obtain ⟨l2, hl2⟩ : ∃ l2, mulL l k = l2 := ⟨_, rfl⟩
              rw [hl2] at HM1 HLm HSt
              clear hq ht hlt hl2
              obtain ⟨W3, rfl⟩ : ∃ x, x = wr := ⟨wr, rfl⟩
              go_wp2
              go_loopw [14] (fun i wr => ∃ (t e : Nat), i = .int .i64 e ∧ p + t = e ∧ t ≤ L - p ∧ Blk wr G 3 (Vals (divN l2 p t)) ∧ Below G W0 wr) (fun i _ => L - (intOf i).toNat)
              case atStart => exact ⟨0, p, rfl, Nat.add_zero p, Nat.zero_le _, HM1.out, Hb.out⟩
              case round =>
                obtain ⟨t, e, rfl, he, ht, hB, hb⟩ := hrel
                have HB := hid hB
                have Hb := hid hb
                clear hB hb
                by_cases hlt : t < L - p
                · have heL : e < L := by omega
                  have hjL : t < L := by omega
                  have hx : wr.cell? ⟨G, e, none⟩ = some (.int .i64 ((divN l2 p t).getD e 0)) := by rw [HB.out.cell, Vals_get (by rw [divN_length, HLm.out]; exact heL)]
                  have hy : wr.cell? ⟨G, t, none⟩ = some (.int .i64 ((divN l2 p t).getD t 0)) := by rw [HB.out.cell, Vals_get (by rw [divN_length, HLm.out]; exact hjL)]
                  have hfz := HB.out.frozen e
                  have HSt := hid (fun x y z => divN_step (l := l2) (x := x) (y := y) (z := z) he)
                  obtain ⟨x, hxe⟩ : ∃ x, (divN l2 p t).getD e 0 = x := ⟨_, rfl⟩
                  obtain ⟨y, hye⟩ : ∃ y, (divN l2 p t).getD t 0 = y := ⟨_, rfl⟩
                  rw [hxe] at hx
                  rw [hye] at hy
                  have HS2 := hid (fun z => HSt.out x y z hxe hye)
                  have hjw : IntKind.i64.wrap ((e : Int) - (p : Int)) = (t : Int) := by rw [IntWalk.i64_in _ (by omega)]; omega
                  have HQ : Hid (p + (t + 1) = e + 1) := hid (by omega)
                  have ht2 : t + 1 ≤ L - p := by omega
                  have heI : (e : Int) < (L : Int) := by omega
                  clear hxe hye he HSt
                  obtain ⟨z, hz⟩ : ∃ z, IntKind.i64.wrap (x + y) = z := ⟨_, rfl⟩
                  have HS3 := hid (HS2.out z hz)
                  go_wp2
                  go_region
                  clear hjw hz
                  go_wp2
                  go_roundw
                  case rel => exact ⟨t + 1, e + 1, by go_num, HQ.out, ht2, (by rw [HS3.out, ← Vals_set]; exact HB.out.set_ e (.int .i64 z)), below_drewN (Hb.out.setCell (p := ⟨G, e, none⟩) (Nat.le_refl _) _) 1⟩
                  case measure => simp [intOf]; try omega
                · have hlt2 : ¬ (e : Int) < (L : Int) := by omega
                  have HE : Hid (divN l2 p t = divL l2 p) := hid (by unfold divL; rw [HLm.out, show t = L - p by omega])
                  clear he ht hlt
                  go_wp2
                  go_roundw
                  case rel => exact ⟨c + 1, by omega, by go_num, (by rw [HE1.out, HSt.out, ← HE.out]; exact HB.out), Hb.out⟩
                  case measure => simp [intOf]; omega
        · have Hc := hid (show c = y by omega)
          have hci : ¬ (c : Int) + 1 ≤ (y : Int) := by omega
          clear hcl
          go_wp2
          go_roundw
          case rel => exact ⟨r + 1, by omega, by go_num, (by have h := HKc.out; rw [Hc.out, HEnd.out] at h; exact h), Hbc.out⟩
          case measure => simp [intOf]; omega
    · have Hr := hid (show r = x by omega)
      have hri : ¬ (r : Int) + 1 ≤ (x : Int) := by omega
      have HK2 : Hid (Blk wr G 3 (Vals (bsN y M L n))) := hid (by have h := HK.out; rw [Hr.out, HXY.out] at h; exact h)
      have HOw := hid (HK2.out.own (xs := bsN y M L n) (B := w.heap.size) (by rw [HG.out]; exact Nat.le_refl _) (by rw [bsN_length]; omega))
      rw [bsN_length] at HOw
      clear hrl
      go_wp2
      go_ret2
      exact ⟨_, rfl, (by rw [HAns.out]; exact HOw.out), HL.out, HB0.out.trans (Hb.out.mono (by rw [HG.out]; exact Nat.le_refl _))⟩
end Go.Proofs.Yteaeeinfjhhhoaa
