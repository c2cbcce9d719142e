/- The program's words, descents and major numbers of tableaux. -/
import Derived.Test.YtbbkoagjplapkaaTabJ
import Derived.Deep.RegionHeld3
namespace Go.Proofs.Ytbbkoagjplapkaa
open Go.RowKit Go.WideShapes Go.ChangeShapes
set_option linter.unusedVariables false

theorem mkL_setN (n : Nat) (g : Nat → Nat) (k : Nat) (hk : k < n) : (mkL n (fun i => if i < k then g i else 0)).set k (g k : Int) = mkL n (fun i => if i < k + 1 then g i else 0) := by
  rw [mkL_set _ hk]
  refine mkL_congr fun i _ => ?_
  by_cases h : i = k
  · subst h; rw [if_pos rfl, if_pos (by omega)]
  · rw [if_neg h]
    by_cases h2 : i < k
    · rw [if_pos h2, if_pos (by omega)]
    · rw [if_neg h2, if_neg (by omega)]
theorem rowOf_TB (w0 : World) (t : Nat) (x : Value) (yA : Option Addr) (yn yc : Nat) (ls : List (List Int)) (k : Nat) (w : World) (hx : GridR w0 x ls.length (wid ls) (cel ls)) (hy : Ints w0 (.slice yA yn yc) (linT ls)) (ht : tabB ls = true) (hk : k < ls.length * wid ls) (hT : TB 47 w0 t x (.slice yA yn yc) w) :
    Calls Try.prog 73 #[.agg #[x, .slice yA yn yc], .int .i64 (k : Int)] w fun r w' => r = .returned (.int .i64 (rowK ls k : Nat)) ∧ TB 47 w0 t x (.slice yA yn yc) w' :=
  (rowOf_any x yA yn yc ls k w (hx.below hT.below) (hy.below hT.below) ht hk).mono fun _ _ ⟨h1, h2⟩ => ⟨h1, hT.to h2⟩
set_option maxHeartbeats 1600000 in
theorem implLatticeWord_any (v : Value) (ls : List (List Int)) (w : World) (hv : IntsSS w v ls) (hs : SSmall ls) :
    Calls Try.prog 45 #[v] w fun (r : Ending) w' => ∃ u, r = Ending.returned (.tuple #[u, .bool (tabB ls)]) ∧ OwnI 3 w' w.heap.size u (ansLW ls) ∧ (ansLW ls).length ≤ 1048576 ∧ Below w.heap.size w w' := by
  have HP := hid (tableauIn_any v ls w hv hs)
  have HV := hid hv
  have HL := hid (ansLW_length ls)
  clear hv hs
  go_enter Try.func45, Try.ntmps45
  go_wp2_with fail
  refine HP.out.mono ?_
  rintro e w1 ⟨xA, xn, xc, y, rfl, hx, ho, hb⟩
  obtain ⟨yA, yn, yc, rfl⟩ := ho.shape3
  have HB := hid (below_alloc hb (.cells #[.slice xA xn xc, .slice yA yn yc] 47))
  have HO := hid ho
  cases hq : tabB ls
  · have HQ := hid hq
    clear hb hx ho hq
    go_wp2
    go_ret2
    exact ⟨_, ret_vbT HQ.out.symm, by rw [ansLW_no HQ.out]; exact OwnI.nil _ _ _, HL.out, HB.out⟩
  · have HQ := hid hq
    have hL := (tabB_all hq).1
    have a1 := hL.a1
    have hn10 := hL.n
    have HX := hid (hx hq)
    have hG : GridR w1 (.slice xA xn xc) ls.length (wid ls) (cel ls) := by rw [hx hq]; exact GridR.of (HV.out.below hb) hL
    rw [ansLT_yes hq] at HO
    have HBlk := hid (Blk.new w1 47 #[.slice xA xn xc, .slice yA yn yc])
    have HG := hid (hG.alloc (.cells #[.slice xA xn xc, .slice yA yn yc] 47))
    have HI := hid (HO.out.ints.alloc (.cells #[.slice xA xn xc, .slice yA yn yc] 47))
    have HWd : Hid (wrdL ls = mkL (ls.length * wid ls) (rowK ls)) := hid rfl
    have HRL := hid (fun k hk => rowK_lt hq (k := k) hk)
    have ha2 := hL.a2
    have z0 := HBlk.out.cell 0
    clear hb hx ho hq hL hG
    obtain ⟨n, hn⟩ : ∃ n, ls.length * wid ls = n := ⟨_, rfl⟩
    rw [hn] at hn10 HWd HRL
    have HN := hid hn
    have HSz := hid (fun (W : World) (h : GridR W (.slice xA xn xc) ls.length (wid ls) (cel ls)) => size_any _ ls.length (wid ls) n (cel ls) W h a1 hn hn10)
    have hmk := run_make_row' (P := Try.prog) 27 3 (.int .i64 0) 8 Try.underlying27 Try.info3 rfl .i64 .i64 n (by omega) (by omega)
    clear hn
    go_wp2_with fail
    obtain ⟨W2, hW2⟩ : ∃ W2 : World, W2 = w1.alloc (.cells #[.slice xA xn xc, .slice yA yn yc] 47) := ⟨_, rfl⟩
    rw [← hW2] at HB HG HI HBlk ⊢
    have hzW : w1.heap.size < W2.heap.size := by subst hW2; simp
    clear hW2 z0
    refine (HSz.out _ HG.out).mono ?_
    rintro e w2 ⟨rfl, rfl⟩
    go_wp2
    clear hmk
    rw [Vals_made]
    go_loopw [21] (fun i wr => ∃ k : Nat, k ≤ n ∧ i = .int .i64 k ∧ Blk wr W2.heap.size 3 (Vals (mkL n (fun i => if i < k then rowK ls i else 0))) ∧ TB 47 W2 w1.heap.size (.slice xA xn xc) (.slice yA yn yc) wr) (fun i _ => n - (intOf i).toNat)
    case atStart => exact ⟨0, Nat.zero_le _, rfl, (by rw [mkL_congr (h := fun _ => 0) (fun i _ => if_neg (Nat.not_lt_zero i)), mkL_zero]; exact Blk.new W2 _ _), ⟨HBlk.out.alloc _, below_alloc (Below.refl _ _) _⟩⟩
    case round =>
      obtain ⟨k, hk, rfl, hB, hT⟩ := hrel
      have HBk := hid hB
      have HT := hid hT
      clear hB hT
      by_cases hlt : k < n
      · have t0 := HT.out.blk.cell 0
        have t1 := HT.out.blk.cell 1
        go_wp2_with fail
        clear t0 t1
        refine (rowOf_any _ yA yn yc ls k _ (HG.out.below HT.out.below) (HI.out.below HT.out.below) HQ.out (by rw [HN.out]; exact hlt)).mono ?_
        rintro e w3 ⟨rfl, hb3⟩
        have HT3 := hid (HT.out.to hb3)
        have HB3 := hid (HBk.out.below hb3 HBk.out.lt)
        have hc3 : w3.cell? ⟨W2.heap.size, k, none⟩ = some (.int .i64 ((mkL n (fun i => if i < k then rowK ls i else 0)).getD k 0)) := by
          rw [HB3.out.cell, Vals_get (by rw [mkL_length]; exact hlt)]
        rw [mkL_getD hlt] at hc3
        have hft := HB3.out.frozen k
        have HSet := hid (mkL_setN n (rowK ls) k hlt)
        obtain ⟨q, hq⟩ : ∃ q, rowK ls k = q := ⟨_, rfl⟩
        rw [hq] at HSet
        rw [hq]
        clear hb3 hq
        go_wp2
        go_roundw
        case rel => exact ⟨k + 1, by omega, by go_num, (by rw [← HSet.out, ← Vals_set]; exact HB3.out.set_ k _), ⟨HT3.out.blk.far (p := ⟨W2.heap.size, k, none⟩) (by show w1.heap.size ≠ W2.heap.size; omega) _, HT3.out.below.setCell (p := ⟨W2.heap.size, k, none⟩) (Nat.le_refl _) _⟩⟩
        case measure => simp [intOf]; omega
      · have Hk := hid (show k = n by omega)
        have hlt' : ¬ (k : Int) < (n : Int) := by omega
        have HBn : Hid (Blk wr W2.heap.size 3 (Vals (wrdL ls))) := hid (by
          have h := HBk.out
          rw [Hk.out, mkL_congr (h := rowK ls) (fun i hi => if_pos hi), ← HWd.out] at h
          exact h)
        have hwl : (wrdL ls).length = n := by rw [HWd.out, mkL_length]
        have HOw : Hid (OwnI 3 wr w.heap.size (.slice (some ⟨W2.heap.size, 0, none⟩) n n) (wrdL ls)) := hid (by
          have h := HBn.out.own (B := w.heap.size) HB.out.size (by rw [hwl]; omega)
          rw [hwl] at h; exact h)
        have HT2 := HT
        clear hlt hwl HBk HBn
        go_wp2
        go_ret2
        exact ⟨_, ret_vbT HQ.out.symm, by rw [ansLW_yes HQ.out]; exact HOw.out, HL.out, below_to HB.out HT2.out.below⟩
set_option maxHeartbeats 3200000 in
theorem implDescentsOf_any (v : Value) (ls : List (List Int)) (w : World) (hv : IntsSS w v ls) (hs : SSmall ls) :
    Calls Try.prog 39 #[v] w fun (r : Ending) w' => ∃ u, r = Ending.returned (.tuple #[u, .bool (tabB ls)]) ∧ OwnI 3 w' w.heap.size u (ansDE ls) ∧ (ansDE ls).length ≤ 1048576 ∧ Below w.heap.size w w' := by
  have HP := hid (tableauIn_any v ls w hv hs)
  have HV := hid hv
  have HL : Hid ((ansDE ls).length ≤ 1048576) := hid (by have := ansDE_length ls; omega)
  clear hv hs
  go_enter Try.func39, Try.ntmps39
  go_wp2_with fail
  refine HP.out.mono ?_
  rintro e w1 ⟨xA, xn, xc, y, rfl, hx, ho, hb⟩
  obtain ⟨yA, yn, yc, rfl⟩ := ho.shape3
  have HB := hid (below_alloc hb (.cells #[.slice xA xn xc, .slice yA yn yc] 47))
  have HO := hid ho
  cases hq : tabB ls
  · have HQ := hid hq
    clear hb hx ho hq
    go_wp2
    go_ret2
    exact ⟨_, ret_vbT HQ.out.symm, by rw [ansDE_no HQ.out]; exact OwnI.nil _ _ _, HL.out, HB.out⟩
  · have HQ := hid hq
    have hL := (tabB_all hq).1
    have a1 := hL.a1
    have ha2 := hL.a2
    have hn10 := hL.n
    have hn1 : 1 ≤ ls.length * wid ls := Nat.mul_pos hL.a1 hL.b1
    have hG : GridR w1 (.slice xA xn xc) ls.length (wid ls) (cel ls) := by rw [hx hq]; exact GridR.of (HV.out.below hb) hL
    rw [ansLT_yes hq] at HO
    have HBlk := hid (Blk.new w1 47 #[.slice xA xn xc, .slice yA yn yc])
    have HG := hid (hG.alloc (.cells #[.slice xA xn xc, .slice yA yn yc] 47))
    have HI := hid (HO.out.ints.alloc (.cells #[.slice xA xn xc, .slice yA yn yc] 47))
    have HDs : Hid (desL ls = desN (rowK ls) (ls.length * wid ls)) := hid rfl
    have HRL := hid (fun k hk => rowK_lt hq (k := k) hk)
    clear hb hx ho hq hL hG
    obtain ⟨n, hn⟩ : ∃ n, ls.length * wid ls = n := ⟨_, rfl⟩
    rw [hn] at hn10 hn1 HDs HRL
    have HN := hid hn
    have HSz := hid (fun (W : World) (h : GridR W (.slice xA xn xc) ls.length (wid ls) (cel ls)) => size_any _ ls.length (wid ls) n (cel ls) W h a1 hn hn10)
    clear hn
    obtain ⟨W2, hW2⟩ : ∃ W2 : World, W2 = w1.alloc (.cells #[.slice xA xn xc, .slice yA yn yc] 47) := ⟨_, rfl⟩
    have hzW : w1.heap.size < W2.heap.size := by subst hW2; simp
    go_wp2
    rw [← hW2] at HB HG HI HBlk ⊢
    clear hW2
    go_loopw [6, 7] (fun out i wr => ∃ k : Nat, 1 ≤ k ∧ k ≤ n ∧ i = .int .i64 k ∧ OwnI 3 wr W2.heap.size out (desN (rowK ls) k) ∧ TB 47 W2 w1.heap.size (.slice xA xn xc) (.slice yA yn yc) wr) (fun _ i _ => n - (intOf i).toNat)
    case atStart => exact ⟨1, Nat.le_refl _, hn1, rfl, by rw [desN_one]; exact OwnI.nil _ _ _, ⟨HBlk.out, Below.refl _ _⟩⟩
    case round =>
      obtain ⟨k, hk1, hk, rfl, ho, hT⟩ := hrel
      have HOu := hid ho
      have HT := hid hT
      obtain ⟨oA, oc, rfl, -⟩ := ho.shape
      have hbz := hT.below.size
      have hdl := desN_length (rowK ls) k
      obtain ⟨D, hD⟩ : ∃ D, desN (rowK ls) k = D := ⟨_, rfl⟩
      rw [hD] at HOu hdl ⊢
      have HD := hid hD
      clear ho hT hD
      have t0 := HT.out.blk.cell 0
      go_wp2_with fail
      clear t0
      refine (HSz.out _ (HG.out.below HT.out.below)).mono ?_
      rintro e w2 ⟨rfl, rfl⟩
      by_cases hlt : k < n
      · obtain ⟨p, hp⟩ : ∃ p, k - 1 = p := ⟨_, rfl⟩
        have hpi : (k : Int) - 1 = (p : Int) := by omega
        have hpn : p < n := by omega
        have HY := hid (fun h => desN_yes (g := rowK ls) hk1 h)
        have HN2 := hid (fun h => desN_no (g := rowK ls) (k := k) h)
        have hr1 := HRL.out k hlt
        have hr2 := HRL.out p hpn
        rw [hp] at HY HN2
        have HGr := hid (HG.out.below HT.out.below)
        have HIr := hid (HI.out.below HT.out.below)
        have HR1 := hid (fun W hW => rowOf_TB wr w1.heap.size _ yA yn yc ls k W HGr.out HIr.out HQ.out (by rw [HN.out]; exact hlt) hW)
        have HR2 := hid (fun W hW => rowOf_TB wr w1.heap.size _ yA yn yc ls p W HGr.out HIr.out HQ.out (by rw [HN.out]; exact hpn) hW)
        have HSW : Hid (TB 47 wr w1.heap.size (.slice xA xn xc) (.slice yA yn yc) wr) := hid ⟨HT.out.blk, Below.refl _ _⟩
        obtain ⟨x, hx⟩ : ∃ x, rowK ls k = x := ⟨_, rfl⟩
        obtain ⟨y, hy⟩ : ∃ y, rowK ls p = y := ⟨_, rfl⟩
        rw [hx] at hr1 HY HN2 HR1
        rw [hy] at hr2 HY HN2 HR2
        have wk : IntKind.i64.wrap (p : Int) = (p : Int) := IntWalk.i64_in _ (by omega)
        have wk2 : IntKind.i64.wrap ((k : Int) - 1) = (p : Int) := by rw [hpi]; exact wk
        have t0 := HT.out.blk.cell 0
        have t1 := HT.out.blk.cell 1
        clear hp hx hy
        by_cases hgt : y < x
        · have HE := hid (HY.out hgt)
          have hgt' : decide ((y : Int) < (x : Int)) = true := by simp; omega
          go_wp2
          go_region_held3 (fun W => W.cell? ⟨w1.heap.size, 0, none⟩ = some (.slice xA xn xc) ∧ W.cell? ⟨w1.heap.size, 1, none⟩ = some (.slice yA yn yc) ∧ Hid (TB 47 wr w1.heap.size (.slice xA xn xc) (.slice yA yn yc) W)) (first | exact ⟨HSW.out.drew.blk.cell 0, HSW.out.drew.blk.cell 1, hid HSW.out.drew⟩ | exact ⟨HS2.out.blk.cell 0, HS2.out.blk.cell 1, HS2⟩) (first | (go_at_call_of 73 (p : Int); refine (HR2.out _ (Hid.out (by first | assumption | exact hid HSW.out.drew))).mono ?_; rintro e' w4 ⟨rfl, hs4⟩; have HS2 := hid hs4; clear hs4) | (go_at_call_of 73 (k : Int); refine (HR1.out _ (Hid.out (by first | assumption | exact hid HSW.out.drew))).mono ?_; rintro e' w4 ⟨rfl, hs4⟩; have HS2 := hid hs4; clear hs4))
          have HO4 := hid (HOu.out.below HS2.out.below)
          have Hb4 := hid (below_to HT.out.below HS2.out.below)
          have hz4 := HS2.out.below.size
          go_wp2_with (at_builtin; refine wpList_append_int rfl _ _ 27 3 rfl Try.underlying27 Try.info3 W2.heap.size _ D (k : Int) rfl HO4.out rfl rfl (by omega) (by omega) ?_; intro v3 w5 ho5 hb5)
          go_roundw
          case rel => exact ⟨k + 1, by omega, by omega, by go_num, (by rw [HE.out, HD.out]; exact ho5), ⟨HS2.out.blk.below hb5 hzW, Hb4.out.trans hb5⟩⟩
          case measure => simp [intOf]; omega
        · have HE := hid (HN2.out hgt)
          have hgt' : decide ((y : Int) < (x : Int)) = false := by simp; omega
          go_wp2
          go_region_held3 (fun W => W.cell? ⟨w1.heap.size, 0, none⟩ = some (.slice xA xn xc) ∧ W.cell? ⟨w1.heap.size, 1, none⟩ = some (.slice yA yn yc) ∧ Hid (TB 47 wr w1.heap.size (.slice xA xn xc) (.slice yA yn yc) W)) (first | exact ⟨HSW.out.drew.blk.cell 0, HSW.out.drew.blk.cell 1, hid HSW.out.drew⟩ | exact ⟨HS2.out.blk.cell 0, HS2.out.blk.cell 1, HS2⟩) (first | (go_at_call_of 73 (p : Int); refine (HR2.out _ (Hid.out (by first | assumption | exact hid HSW.out.drew))).mono ?_; rintro e' w4 ⟨rfl, hs4⟩; have HS2 := hid hs4; clear hs4) | (go_at_call_of 73 (k : Int); refine (HR1.out _ (Hid.out (by first | assumption | exact hid HSW.out.drew))).mono ?_; rintro e' w4 ⟨rfl, hs4⟩; have HS2 := hid hs4; clear hs4))
          have HO4 := hid (HOu.out.below HS2.out.below)
          have Hb4 := hid (below_to HT.out.below HS2.out.below)
          go_wp2
          go_roundw
          case rel => exact ⟨k + 1, by omega, by omega, by go_num, (by rw [HE.out, HD.out]; exact HO4.out), ⟨HS2.out.blk, Hb4.out⟩⟩
          case measure => simp [intOf]; omega
      · have Hk := hid (show k = n by omega)
        have hlt' : ¬ (k : Int) < (n : Int) := by omega
        clear hlt
        go_wp2
        go_ret2
        exact ⟨_, ret_vbT HQ.out.symm, by rw [ansDE_yes HQ.out, HDs.out, ← Hk.out, HD.out]; exact HOu.out.mono HB.out.size, HL.out, below_to HB.out HT.out.below⟩
set_option maxHeartbeats 800000 in
theorem implMajorOf_any (v : Value) (ls : List (List Int)) (w : World) (hv : IntsSS w v ls) (hs : SSmall ls) :
    Calls Try.prog 41 #[v] w fun r w' => r = .returned (.tuple #[.int .i64 (ansMA ls), .bool (tabB ls)]) ∧ Below w.heap.size w w' := by
  have HP := hid (implDescentsOf_any v ls w hv hs)
  have HA : Hid (ansMA ls = sumK (ansDE ls) (ansDE ls).length) := hid rfl
  have hdl := ansDE_length ls
  have HLe := hid (fun k hk => sumK_le (l := ansDE ls) (fun j hj => ansDE_at ls hj) k hk)
  have HAt := hid (fun j hj => ansDE_at ls (j := j) hj)
  clear hv hs
  go_enter Try.func41, Try.ntmps41
  go_wp2_with fail
  refine HP.out.mono ?_
  rintro e w1 ⟨u, rfl, ho, -, hb⟩
  obtain ⟨L, hL⟩ : ∃ L, ansDE ls = L := ⟨_, rfl⟩
  rw [hL] at ho HA hdl HLe HAt
  obtain ⟨uA, uc, rfl, hA⟩ := ho.ints
  have HI := hid hA
  have HB := hid hb
  clear ho hb hA hL
  go_wp2
  go_loopw [6, 16] (fun q i wr => ∃ k : Nat, k ≤ L.length ∧ i = .int .i64 k ∧ q = .int .i64 (sumK L k) ∧ Below w1.heap.size w1 wr) (fun _ i _ => L.length - (intOf i).toNat)
  case atStart => exact ⟨0, Nat.zero_le _, rfl, rfl, Below.refl _ _⟩
  case round =>
    obtain ⟨k, hk, rfl, rfl, hb⟩ := hrel
    have Hb := hid hb
    clear hb
    by_cases hlt : k < L.length
    · obtain ⟨g, o, rfl, hgl, hcells⟩ := HI.out (by intro h; simp [h] at hlt)
      have hc := (Hb.out.cell (p := ⟨g, o + k, none⟩) hgl).trans (hcells k hlt)
      have h1 := HLe.out k (by omega)
      have h2 := HAt.out k hlt
      have HS : Hid (sumK L (k + 1) = sumK L k + L.getD k 0) := hid rfl
      obtain ⟨x, hx⟩ : ∃ x, L.getD k 0 = x := ⟨_, rfl⟩
      obtain ⟨y, hy⟩ : ∃ y, sumK L k = y := ⟨_, rfl⟩
      rw [hx] at hc h2 HS
      rw [hy] at h1 HS
      rw [hy]
      clear hcells hx hy
      go_wp2
      go_roundw
      case rel => exact ⟨k + 1, by omega, by go_num, by rw [HS.out], Hb.out⟩
      case measure => simp [intOf]; omega
    · have Hk := hid (show k = L.length by omega)
      have hlt' : ¬ (k : Int) < (L.length : Int) := by omega
      clear hlt
      go_wp2
      go_ret2
      exact ⟨ret_ibT (by rw [HA.out, Hk.out]) rfl, below_to HB.out Hb.out⟩
end Go.Proofs.Ytbbkoagjplapkaa
