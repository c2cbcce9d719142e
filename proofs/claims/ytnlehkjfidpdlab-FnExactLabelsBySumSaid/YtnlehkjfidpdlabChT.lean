/- Chains of ideals, counted by the model. -/
import Derived.Test.YtnlehkjfidpdlabChS
import Derived.Deep.RegionWith
namespace Go.Proofs.Ytnlehkjfidpdlab
open Go.RowKit Go.WideShapes Go.ChangeShapes
set_option linter.unusedVariables false

theorem made0S {L : Nat} (h : 0 < L) : (madeCells #[Value.int IntKind.i64 0] L)[0]? = some (Value.int IntKind.i64 0) := by
  have e : (List.replicate L (0 : Int)).getD 0 0 = 0 := by
    unfold List.getD; rw [List.getElem?_replicate]; split <;> rfl
  rw [Vals_made, Vals_get (by rw [List.length_replicate]; exact h), e]
theorem start_cnt (xs : List Int) (b : Bool) {N : Nat} (hN : 0 < N) : (List.replicate N (0 : Int)).set 0 1 = mkL N (cnt xs b 0) := by
  rw [mkL_upd (g := fun _ => 0) (h := cnt xs b 0) 1 hN (fun i _ => by unfold cnt chN; rfl), mkL_zero]; rfl
theorem start_acc (xs : List Int) (b : Bool) (W : Nat → Nat) (N : Nat) : List.replicate N (0 : Int) = mkL N (acc xs b W 0) := (mkL_zero N).symm
set_option maxRecDepth 100000 in
set_option maxHeartbeats 3200000 in
theorem laChains_any (v : Value) (xs : List Int) (S : Nat) (b : Bool) (w : World) (hv : Ints w v xs) (hg : good xs = true) (hS : S ≤ 13) :
    Calls Try.prog 45 #[.agg #[v], .int .i64 S, .bool b] w fun r w' => r = .returned (.int .i64 (cnt xs b S (2 ^ xs.length - 1) : Nat)) ∧ Below w.heap.size w w' := by
  have HG := hid hg
  have HV0 := hid hv
  have hl10 := (good_length hg).2
  have HIds := hid (fun W hW => poIdeals_any v xs W hW hg)
  have hp2 := two_pow_le xs.length hl10
  have HLast := hid (idA_last hg)
  have hn1 := idN_pos xs
  have hn2 := idN_le hg
  have HAt := hid (fun j (hj : j < (idN xs).length) => idA_mem hj)
  have HGet := hid (fun j (hj : j < (idN xs).length) => idN_getD hj)
  have HLen := hid (idN_len xs)
  have HSm := hid (fun k t (hk : k ≤ 13) (ht : t < 2 ^ xs.length) => cnt_small hg (b := b) hk ht)
  have HMZ := hid (fun W i => mid_zero xs b W i (2 ^ xs.length))
  have HMF := hid (fun W i => mid_full xs b W i)
  have HMN := hid (fun W i j (hj : j < (idN xs).length) h => mid_no (b := b) (W := W) (i := i) hj h)
  have HMY := hid (fun W i j x (hj : j < (idN xs).length) h => mid_yes (b := b) (W := W) (i := i) (x := x) hj h)
  have HMA := hid (fun W i j (hj : j < (idN xs).length) => mid_at (b := b) (W := W) (i := i) hj)
  have HAL := hid (fun k i t hi => acc_le (xs := xs) (b := b) (k := k) (i := i) (t := t) hi)
  have HAF := hid (fun k => show mkL (2 ^ xs.length) (acc xs b (cnt xs b k) (idN xs).length) = mkL (2 ^ xs.length) (cnt xs b (k + 1)) from mkL_congr fun t _ => acc_full xs b k t)
  obtain ⟨N, hN⟩ : ∃ N, 2 ^ xs.length = N := ⟨_, rfl⟩
  have HNe := hid hN
  have wp : wrap64 ((2 : Int) ^ xs.length) = (N : Int) := by rw [wrap_pow xs.length hl10, hN]
  rw [hN] at HAt HSm HMZ HMF HMN HMY hp2 HAF HIds HGet HLen HLast
  obtain ⟨n, hnn⟩ : ∃ n, (idN xs).length = n := ⟨_, rfl⟩
  rw [hnn] at hn1 hn2 HAt HGet HLen HMF HMN HMY HMA HAL HAF HLast
  have hN1 : 1 ≤ N := hp2.1
  have hN2 : N ≤ 1024 := hp2.2
  have hmk := run_make_row' (P := Try.prog) 25 3 (.int .i64 0) 8 Try.underlying25 Try.info3 rfl .i64 .i64 N (by omega) (by omega)
  have Hmk := hid hmk
  have hcm : (madeCells #[Value.int IntKind.i64 0] N)[0]? = some (Value.int IntKind.i64 0) := made0S hN1
  have HSc := hid (start_cnt xs b hN1)
  have HSa := hid (fun W => start_acc xs b W N)
  obtain ⟨A, c, rfl, -⟩ := hv
  rw [hN]
  clear hg hp2 hN hnn hmk
  go_enter Try.func45, Try.ntmps45
  have HB := hid (below_alloc (Below.refl _ w) (.cells #[(.slice A xs.length c)] 35))
  have A0 := hid (At.newAt w (.slice A xs.length c) 35 w.heap.size (by simp))
  go_wp2_with fail
  refine (HIds.out _ (HV0.out.below HB.out)).mono ?_
  rintro e w' ⟨u, rfl, ho, hb⟩
  replace HB := hid (below_to HB.out hb)
  replace A0 := hid (A0.out.below hb)
  clear hb
  obtain ⟨A2, c2, rfl, hA2⟩ := ho.ints
  rw [HLen.out]
  obtain ⟨g2, o2, rfl, hbl2, hc2⟩ := hA2 (by intro h; have := congrArg List.length h; rw [HLen.out] at this; simp at this; omega)
  have HCI := hid (fun j (hj : j < n) => show w'.cell? ⟨g2, o2 + j, none⟩ = some (.int .i64 ((idA xs j : Nat) : Int)) by rw [hc2 j (by rw [HLen.out]; exact hj), HGet.out j hj])
  have hbx := A0.out.1
  have hmk := Hmk.out
  have hNp : (0 : Int) < (N : Int) := by omega
  clear ho hA2 hc2
  go_wp2
  clear hmk hbx hcm wp
  rw [Vals_made, Vals_set, HSc.out]
  have HK0 := hid (Blk.newAt w' 3 (Vals (mkL N (cnt xs b 0))) w'.heap.size rfl)
  have HB0 := hid (below_alloc HB.out (.cells (Vals (mkL N (cnt xs b 0))) 3))
  have HA0 := hid (A0.out.alloc (.cells (Vals (mkL N (cnt xs b 0))) 3))
  have HW0 := hid (below_alloc (Below.refl _ w') (.cells (Vals (mkL N (cnt xs b 0))) 3))
  have hwz : w.heap.size ≤ w'.heap.size := HB.out.size
  go_loopw [1, 8] (fun p q wr => ∃ k r g : Nat, k + r = S ∧ p = .int .i64 (r : Int) ∧ q = .slice (some ⟨g, 0, none⟩) N N ∧ Blk wr g 3 (Vals (mkL N (cnt xs b k))) ∧ w.heap.size ≤ g ∧ Below w'.heap.size w' wr) (fun p _ _ => (intOf p).toNat)
  case atStart => exact ⟨0, S, w'.heap.size, Nat.zero_add S, rfl, rfl, HK0.out, hwz, HW0.out⟩
  case round =>
    obtain ⟨k, r, g, hkr, rfl, rfl, hk, hwg, hb⟩ := hrel
    have HK := hid hk
    have HB1 := hid hb
    have HA1 := hid (A0.out.below hb)
    have hgl := hk.lt
    have hgz := hb.size
    clear hk hb
    by_cases hr0 : 0 < r
    · have hrp : (0 : Int) < (r : Int) := by omega
      have hmk := Hmk.out
      have hk13 : k + 1 ≤ 13 := by omega
      have HKR : Hid (k + 1 + (r - 1) = S) := hid (by omega)
      go_wp2
      clear hmk
      rw [Vals_made, HSa.out (cnt xs b k)]
      obtain ⟨W1, hW1⟩ : ∃ x, x = wr := ⟨wr, rfl⟩
      have HK1 := hid (Blk.newAt wr 3 (Vals (mkL N (acc xs b (cnt xs b k) 0))) wr.heap.size rfl)
      have HW1 := hid (below_alloc (Below.refl _ wr) (.cells (Vals (mkL N (acc xs b (cnt xs b k) 0))) 3))
      rw [← hW1] at HK HB1 HA1 HK1 HW1 hgl hgz ⊢
      clear hW1
      obtain ⟨G, hG⟩ : ∃ G, W1.heap.size = G := ⟨_, rfl⟩
      have HGe := hid hG
      rw [hG] at HK1 HW1 hgl hgz ⊢
      have HCW := hid (fun j (hj : j < n) W (hW : Below G W1 W) => show W.cell? ⟨g2, o2 + j, none⟩ = some (.int .i64 ((idA xs j : Nat) : Int)) from
        (hW.cell (p := ⟨g2, o2 + j, none⟩) (by show g2 < G; omega)).trans ((HB1.out.cell (p := ⟨g2, o2 + j, none⟩) hbl2).trans (HCI.out j hj)))
      have HKW := hid (fun W (hW : Below G W1 W) => HK.out.below hW hgl)
      have HBW := hid (fun W (hW : Below G W1 W) => below_to HB.out (below_to HB1.out (by rw [HGe.out]; exact hW)))
      clear hG
      go_loopw [32] (fun i wr => ∃ t : Nat, t ≤ n ∧ i = .int .i64 t ∧ Blk wr G 3 (Vals (mkL N (acc xs b (cnt xs b k) t))) ∧ Below G W1 wr) (fun i _ => n - (intOf i).toNat)
      case atStart => exact ⟨0, Nat.zero_le _, rfl, HK1.out, HW1.out⟩
      case round =>
        obtain ⟨i, hi, rfl, hk2, hb2⟩ := hrel
        have HK2 := hid hk2
        have HB2 := hid hb2
        clear hk2 hb2
        by_cases hin : i < n
        · have hcs := HCW.out i hin wr HB2.out
          obtain ⟨s, hs⟩ : ∃ s, idA xs i = s := ⟨_, rfl⟩
          have HSi := hid hs
          have hsN := HAt.out i hin
          rw [hs] at hcs hsN
          have hsN1 := hsN.1
          have HIdS := hid hsN.2
          have hxb := HSm.out k s (by omega) hsN1
          obtain ⟨x, hx⟩ : ∃ x, cnt xs b k s = x := ⟨_, rfl⟩
          have HXe := hid hx
          rw [hx] at hxb
          have HWs := hid (fun W (hW : Below G W1 W) => show W.cell? ⟨g, s, none⟩ = some (.int .i64 (x : Int)) by
            rw [(HKW.out W hW).cell, Vals_get (by rw [mkL_length]; exact hsN1), mkL_getD hsN1, HXe.out])
          clear hs hsN hx
          obtain ⟨W2, hW2⟩ : ∃ x, x = wr := ⟨wr, rfl⟩
          rw [← hW2] at HK2 HB2 hcs ⊢
          clear hW2
          go_wp2
          clear hcs
          go_loopw [38] (fun j wr => ∃ t : Nat, t ≤ n ∧ j = .int .i64 t ∧ Blk wr G 3 (Vals (mkL N (mid xs b (cnt xs b k) i t))) ∧ Below G W1 wr) (fun i _ => n - (intOf i).toNat)
          case atStart => exact ⟨0, Nat.zero_le _, rfl, by rw [HMZ.out]; exact HK2.out, HB2.out⟩
          case round =>
            obtain ⟨j, hj, rfl, hk3, hb3⟩ := hrel
            have HK3 := hid hk3
            have HB3 := hid hb3
            clear hk3 hb3
            by_cases hjn : j < n
            · have hct := HCW.out j hjn wr HB3.out
              obtain ⟨t, ht⟩ : ∃ t, idA xs j = t := ⟨_, rfl⟩
              have HTj := hid ht
              have htN := HAt.out j hjn
              rw [ht] at hct htN
              have htN1 := htN.1
              have HIdT := hid htN.2
              have hws := HWs.out wr HB3.out
              have hand := i64_andNot_nat s t (by omega) (by omega)
              have hand2 := i64_andNot_nat t s (by omega) (by omega)
              have hs64 : (s : Int) < (N : Int) := by omega
              have ht64 : (t : Int) < (N : Int) := by omega
              have HPA : Hid (onId xs (stpB xs b) (idA xs i) (idA xs j) = stpB xs b s t) := hid (by unfold onId; rw [HSi.out, HTj.out, HIdS.out, HIdT.out]; rfl)
              clear ht htN
              have HSkip := hid (fun h => HMN.out (cnt xs b k) i j hjn h)
              rw [HPA.out, HSi.out, HXe.out] at HSkip
              by_cases hx0 : x = 0
              · have hxp : ¬ (0 : Int) < (x : Int) := by omega
                have HE := hid (HSkip.out (by rw [hx0]; split <;> rfl))
                go_wp2
                clear hand hand2
                go_wp2
                go_roundw
                case rel => exact ⟨j + 1, by omega, by go_num, (by rw [HE.out]; exact HK3.out), HB3.out⟩
                case measure => simp [intOf]; omega
              have hxp : (0 : Int) < (x : Int) := by omega
              cases hpt : (sub s t == 0)
              · have HE := hid (HSkip.out (by
                  have e : stpB xs b s t = false := by
                    unfold stpB wk stk; rw [hpt]; cases b <;> rfl
                  rw [e]; rfl))
                have hpt' : (((sub s t : Nat) : Int) == 0) = false := by rw [nat_beq0, hpt]
                clear hpt
                go_wp2
                clear hand hand2 hpt'
                go_wp2
                go_roundw
                case rel => exact ⟨j + 1, by omega, by go_num, (by rw [HE.out]; exact HK3.out), HB3.out⟩
                case measure => simp [intOf]; omega
              have hpt' : (((sub s t : Nat) : Int) == 0) = true := by rw [nat_beq0, hpt]
              have HPt := hid hpt
              clear hpt
              have hcg : wr.cell? ⟨G, t, none⟩ = some (.int .i64 ((acc xs b (cnt xs b k) i t : Nat) : Int)) := by
                rw [HK3.out.cell, Vals_get (by rw [mkL_length]; exact htN1), mkL_getD htN1]
                have := HMA.out (cnt xs b k) i j hjn
                rw [HTj.out] at this
                rw [this]
              have hfz := HK3.out.frozen t
              have hal := HAL.out k (i + 1) t (by omega)
              have hsm := HSm.out (k + 1) t hk13 htN1
              have HUpd := hid (fun (h : stpB xs b s t = true) => HMY.out (cnt xs b k) i j x hjn (by rw [HPA.out, HSi.out, HXe.out, if_pos h]))
              have HAdd := hid (fun (h : stpB xs b s t = true) => show acc xs b (cnt xs b k) i t + x ≤ cnt xs b (k + 1) t by
                have e := acc_succ xs b (cnt xs b k) i t
                have e2 : onId xs (stpB xs b) (idA xs i) t = stpB xs b s t := by rw [← HTj.out]; rw [HPA.out, HTj.out]
                rw [e2, HSi.out, HXe.out, if_pos h] at e
                rw [← e]; exact hal)
              rw [HTj.out] at HUpd
              obtain ⟨a, ha⟩ : ∃ a, acc xs b (cnt xs b k) i t = a := ⟨_, rfl⟩
              rw [ha] at hcg HUpd HAdd
              clear ha hal
              have HSl := hid (laFree_any (.slice A xs.length c) xs (sub t s) wr (HV0.out.below (HBW.out wr HB3.out)) HG.out (Nat.lt_of_le_of_lt (sub_le t s) (by omega)))
              have hbx : wr.cell? ⟨w.heap.size, 0, none⟩ = some (.agg #[.slice A xs.length c]) ∨ wr.cell? ⟨w.heap.size, 0, none⟩ = some (.slice A xs.length c) := .inr ((HA1.out.below (by rw [HGe.out]; exact HB3.out)).1)
              replace hbx := hbx.resolve_left (by intro h; rw [(HA1.out.below (by rw [HGe.out]; exact HB3.out)).1] at h; cases h)
              cases b
              · have hst : stpB xs false s t = true := HPt.out
                have hle := HAdd.out hst
                have HE := hid (HUpd.out hst)
                have hsum : IntKind.i64.wrap ((a : Int) + (x : Int)) = ((a + x : Nat) : Int) := by rw [IntWalk.i64_in _ (by omega)]; omega
                clear hst hle hsm
                go_wp2
                clear hand hand2 hpt'
                go_wp2
                go_region
                clear hsum
                go_wp2
                go_roundw
                case rel => exact ⟨j + 1, by omega, by go_num, (by rw [HE.out, ← Vals_set]; exact HK3.out.set_ t (.int .i64 ((a + x : Nat) : Int))), below_drewN (HB3.out.setCell (p := ⟨G, t, none⟩) (Nat.le_refl _) _) 1⟩
                case measure => simp [intOf]; omega
              · cases hfr : holdsAntichain xs (sub t s)
                · rw [hfr] at HSl
                  have HE := hid (HSkip.out (by
                    have e : stpB xs true s t = false := by unfold stpB stk; rw [if_pos rfl, hfr, Bool.and_false]
                    rw [e]; rfl))
                  clear hfr
                  go_wp2_with fail
                  with_reducible refine HSl.out.mono ?_
                  rintro e w5 ⟨rfl, hb5⟩
                  have HB5 := hid (HB3.out.trans (hb5.mono (Nat.le_of_lt HK3.out.lt)))
                  have HK5 := hid (HK3.out.below hb5 HK3.out.lt)
                  clear hb5 hand hand2 hpt' hcg hfz hws hct hbx
                  go_wp2
                  go_roundw
                  case rel => exact ⟨j + 1, by omega, by go_num, (by rw [HE.out]; exact HK5.out), HB5.out⟩
                  case measure => simp [intOf]; omega
                · rw [hfr] at HSl
                  have hst : stpB xs true s t = true := by unfold stpB stk; rw [if_pos rfl, hfr, HPt.out]; rfl
                  have hle := HAdd.out hst
                  have HE := hid (HUpd.out hst)
                  have hsum : IntKind.i64.wrap ((a : Int) + (x : Int)) = ((a + x : Nat) : Int) := by rw [IntWalk.i64_in _ (by omega)]; omega
                  clear hst hle hsm hfr
                  go_wp2_with fail
                  with_reducible refine HSl.out.mono ?_
                  rintro e w5 ⟨rfl, hb5⟩
                  have HB5 := hid (HB3.out.trans (hb5.mono (Nat.le_of_lt HK3.out.lt)))
                  have HK5 := hid (HK3.out.below hb5 HK3.out.lt)
                  have hcg5 := (hb5.cell (p := ⟨G, t, none⟩) HK3.out.lt).trans hcg
                  have hfz5 := HK5.out.frozen t
                  have hws5 := HWs.out w5 HB5.out
                  clear hb5 hand hand2 hpt' hcg hfz hws hct hbx
                  go_wp2
                  go_region
                  clear hsum
                  go_wp2
                  go_roundw
                  case rel => exact ⟨j + 1, by omega, by go_num, (by rw [HE.out, ← Vals_set]; exact HK5.out.set_ t (.int .i64 ((a + x : Nat) : Int))), below_drewN (HB5.out.setCell (p := ⟨G, t, none⟩) (Nat.le_refl _) _) 1⟩
                  case measure => simp [intOf]; omega
            · have hjn' : j = n := by omega
              subst hjn'
              go_wp2
              go_roundw
              case rel => exact ⟨i + 1, by omega, by go_num, (by have h := HK3.out; rw [HMF.out] at h; exact h), HB3.out⟩
              case measure => simp [intOf]; omega
        · have hin' : i = n := by omega
          subst hin'
          have hrw : IntKind.i64.wrap ((r : Int) - 1) = ((r - 1 : Nat) : Int) := by rw [IntWalk.i64_in _ (by omega)]; omega
          go_wp2
          go_roundw
          case rel => exact ⟨k + 1, r - 1, G, HKR.out, by first | rfl | (rw [hrw]) | (congr 1; omega), rfl, (by have h := HK2.out; rw [HAF.out] at h; exact h), by omega, HB1.out.trans (HB2.out.mono hgz)⟩
          case measure => simp [intOf]; omega
    · have hr00 : r = 0 := by omega
      subst hr00
      have HKS : Hid (k = S) := hid (by omega)
      have hcl : wr.cell? ⟨g, N - 1, none⟩ = some (.int .i64 ((cnt xs b S (N - 1) : Nat) : Int)) := by
        rw [HK.out.cell, Vals_get (by rw [mkL_length]; omega), mkL_getD (by omega), HKS.out]
      have hNw : IntKind.i64.wrap ((N : Int) - 1) = ((N - 1 : Nat) : Int) := by rw [IntWalk.i64_in _ (by omega)]; omega
      obtain ⟨M, hM⟩ : ∃ M, N - 1 = M := ⟨_, rfl⟩
      rw [hM] at hcl hNw
      have HMe := hid hM
      have hMN : M < N := by omega
      clear hkr hM
      go_wp2
      go_ret
      exact ⟨ret_int (by rw [HMe.out]), below_to HB.out HB1.out⟩
end Go.Proofs.Ytnlehkjfidpdlab
