/- FromLayers of the model. -/
import Derived.Test.YtgepbekdgocnpabArF
import Derived.Test.YtgepbekdgocnpabArT
import Derived.Test.YtgepbekdgocnpabSpec2
namespace Go.Proofs.Ytgepbekdgocnpab
open Go.RowKit Go.WideShapes Go.ChangeShapes
set_option linter.unusedVariables false

def flH (L : List Int) (k t e : Nat) : Nat := if e < k then cntF (fun j => bitI (L.getD j 0) e) L.length else if e = k then cntF (fun j => bitI (L.getD j 0) k) t else 0
def flG (L : List Int) (k e : Nat) : Nat := if e < k then cntF (fun j => bitI (L.getD j 0) e) L.length else 0
set_option maxHeartbeats 3200000 in
theorem specFromLayers_any (v : Value) (xs : List Int) (u : Value) (L : List Int) (w : World) (hv : Ints w v xs) (hl : xs.length ≤ 1048576) (hu : Ints w u L) (hm : L.length ≤ 1048576) :
    Calls Try.prog 24 #[.agg #[v], u] w fun (r : Ending) w' => ∃ q, r = Ending.returned (.tuple #[q, .bool (okFL xs L)]) ∧ OwnI 3 w' w.heap.size q (ansFL xs L) ∧ (ansFL xs L).length ≤ 1048576 ∧ Below w.heap.size w w' := by
  have HV := hid hv
  have HU := hid hu
  have HL := hid (ansFL_len xs L)
  obtain ⟨A, c, rfl, -⟩ := hv
  obtain ⟨B, d, rfl, hB⟩ := hu
  have HBc := hid hB
  clear hB
  cases hg : good xs
  · have HG := hid hg
    have HO := hid (okFL_no0 (xs := xs) (L := L) (by simp [okL0, hg]))
    have HN := hid (ansFL_no HO.out)
    clear hg
    go_enter Try.func24, Try.ntmps24
    have HB := hid (below_alloc (Below.refl _ w) (.cells #[(.slice A xs.length c)] 28))
    have A0 := hid (At.newAt w (.slice A xs.length c) 28 w.heap.size (by simp))
    go_wp2_with fail
    refine (poGood_any _ xs _ (HV.out.below HB.out) hl).mono ?_
    rw [HG.out]
    rintro e w' ⟨rfl, hb⟩
    replace HB := hid (below_to HB.out hb)
    replace A0 := hid (A0.out.below hb)
    clear hb
    have ebox0 := A0.out.1
    go_wp2
    go_ret2
    exact ⟨_, ret_vbA HO.out.symm, by rw [HN.out]; exact OwnI.nil _ _ _, HL.out, HB.out⟩
  by_cases h20 : 20 < L.length
  · have HG := hid hg
    have HO := hid (okFL_no0 (xs := xs) (L := L) (by simp [okL0]; omega))
    have HN := hid (ansFL_no HO.out)
    clear hg
    go_enter Try.func24, Try.ntmps24
    have HB := hid (below_alloc (Below.refl _ w) (.cells #[(.slice A xs.length c)] 28))
    have A0 := hid (At.newAt w (.slice A xs.length c) 28 w.heap.size (by simp))
    go_wp2_with fail
    refine (poGood_any _ xs _ (HV.out.below HB.out) hl).mono ?_
    rw [HG.out]
    rintro e w' ⟨rfl, hb⟩
    replace HB := hid (below_to HB.out hb)
    replace A0 := hid (A0.out.below hb)
    clear hb
    have ebox0 := A0.out.1
    go_wp2
    go_ret2
    exact ⟨_, ret_vbA HO.out.symm, by rw [HN.out]; exact OwnI.nil _ _ _, HL.out, HB.out⟩
  · have HG := hid hg
    have H0 : Hid (okL0 xs L = true) := hid (by simp [okL0, hg]; omega)
    have hl10 := (good_length hg).2
    have hn1 := (good_length hg).1
    have HPs := hid (fun W s hW => poSet_any (.slice A xs.length c) xs s W hW hl10)
    have HPi := hid (fun W (s : Nat) hW hs => poIdeal_any (.slice A xs.length c) xs s W hW hl10 hs (good_small hg s))
    have HLen := hid (show L.length = L.length from rfl)
    obtain ⟨n, hn⟩ : ∃ n, xs.length = n := ⟨_, rfl⟩
    have HNn := hid hn
    obtain ⟨m, hmm⟩ : ∃ m, L.length = m := ⟨_, rfl⟩
    have HMm := hid hmm
    have HNoAt := hid (fun j (hj : j < m) h => okFL_no (xs := xs) (L := L) (j := j) (by omega) h)
    rw [hn] at HV hl10 hn1 HPs HPi hl ⊢
    rw [hmm] at HU HBc h20 hm ⊢
    have hmk := run_make_row' (P := Try.prog) 22 3 (.int .i64 0) 8 Try.underlying22 Try.info3 rfl .i64 .i64 n (by omega) (by omega)
    have Hmk := hid hmk
    clear hg hmk hn hmm HLen
    go_enter Try.func24, Try.ntmps24
    have HB := hid (below_alloc (Below.refl _ w) (.cells #[(.slice A n c)] 28))
    have A0 := hid (At.newAt w (.slice A n c) 28 w.heap.size (by simp))
    go_wp2_with fail
    refine (poGood_any _ xs _ (HV.out.below HB.out) (by rw [HNn.out]; exact hl)).mono ?_
    rw [HG.out]
    rintro e w' ⟨rfl, hb⟩
    replace HB := hid (below_to HB.out hb)
    replace A0 := hid (A0.out.below hb)
    clear hb
    have ebox0 := A0.out.1
    go_wp2
    clear ebox0
    go_loopw [22] (fun i wr => ∃ k : Nat, k ≤ m ∧ i = .int .i64 k ∧ Hid (∀ j, j < k → lyOk xs L j = true) ∧ At wr w.heap.size (.slice A n c) ∧ Below w.heap.size w wr) (fun i _ => m - (intOf i).toNat)
    case atStart => exact ⟨0, Nat.zero_le _, rfl, hid (fun j hj => absurd hj (Nat.not_lt_zero _)), A0.out, HB.out⟩
    case round =>
      obtain ⟨k, hk, rfl, HJ, ha, hb⟩ := hrel
      have HA1 := hid ha
      have HB1 := hid hb
      have hbox := ha.1
      clear ha
      by_cases hlt : k < m
      · obtain ⟨lb, lo, rfl, hlb, hlc⟩ := HBc.out (by intro h; have := HMm.out; rw [h] at this; simp at this; omega)
        have HLc := hid hlc
        have hcell := (hb.cell (p := ⟨lb, lo + k, none⟩) hlb).trans (hlc k hlt)
        have HIff := hid (lyOk_iff (xs := xs) (L := L) (j := k))
        obtain ⟨s, hs⟩ : ∃ s, L.getD k 0 = s := ⟨_, rfl⟩
        rw [hs] at hcell HIff
        rw [HNn.out] at HIff
        have HS := hid hs
        clear hb hs hlc
        go_wp2_with fail
        refine (HPs.out wr s (HV.out.below HB1.out)).mono ?_
        rintro e1 w1 ⟨rfl, hb1⟩
        have HA2 := hid (HA1.out.below hb1)
        have HB2 := hid (below_to HB1.out hb1)
        have hbox2 := HA2.out.1
        clear hb1 hbox hcell
        cases hps : (decide (0 ≤ s) && decide (s ≤ ((2 ^ n - 1 : Nat) : Int)))
        · have HO := hid (HNoAt.out k hlt (Bool.eq_false_iff.2 fun h => by
            have := (HIff.out.1 h).1
            simp only [this.1, this.2, decide_true, Bool.and_self] at hps
            cases hps))
          have HN := hid (ansFL_no HO.out)
          clear hps
          go_wp2
          go_ret2
          exact ⟨_, ret_vbA HO.out.symm, by rw [HN.out]; exact OwnI.nil _ _ _, HL.out, HB2.out⟩
        · have hps2 : 0 ≤ s ∧ s ≤ ((2 ^ n - 1 : Nat) : Int) := by simpa using hps
          obtain ⟨z, rfl⟩ := Int.eq_ofNat_of_zero_le hps2.1
          rw [Int.toNat_natCast] at HIff
          have hz : z < 1024 := by
            have h1 : 2 ^ n ≤ 2 ^ 10 := Nat.pow_le_pow_right (by omega) hl10
            have h2 : 0 < 2 ^ n := Nat.two_pow_pos n
            have := hps2.2
            omega
          have HPz := hid hps2
          clear hps
          go_wp2_with fail
          refine (HPi.out w1 z (HV.out.below HB2.out) hz).mono ?_
          rintro e2 w2 ⟨rfl, hb2⟩
          have HA3 := hid (HA2.out.below hb2)
          have HB3 := hid (below_to HB2.out hb2)
          have hbox3 := HA3.out.1
          have hcp := HB3.out.cell (p := ⟨lb, lo + (k - 1), none⟩) hlb
          clear hb2 hbox2
          cases hpi : holdsIdeal xs z
          · have HO := hid (HNoAt.out k hlt (Bool.eq_false_iff.2 fun h => by
              have := (HIff.out.1 h).2.1
              rw [hpi] at this; cases this))
            have HN := hid (ansFL_no HO.out)
            clear hpi hcp
            go_wp2
            go_ret2
            exact ⟨_, ret_vbA HO.out.symm, by rw [HN.out]; exact OwnI.nil _ _ _, HL.out, HB3.out⟩
          · have HPi2 := hid hpi
            clear hpi
            by_cases hk0 : k = 0
            · subst hk0
              have HOk := hid (HIff.out.2 ⟨HPz.out, HPi2.out, .inl rfl⟩)
              clear hcp
              go_wp2
              go_roundw
              case rel => exact ⟨1, by omega, by first | rfl | go_num, hid (fun j hj => by rw [Nat.lt_one_iff.1 hj]; exact HOk.out), HA3.out, HB3.out⟩
              case measure => simp [intOf]; omega
            · have hprev := HJ.out (k - 1) (by omega)
              obtain ⟨⟨p1, p2⟩, -, -⟩ := lyOk_iff.1 hprev
              have hcell2 := hcp.trans (HLc.out (k - 1) (by omega))
              obtain ⟨p, hp⟩ : ∃ p, L.getD (k - 1) 0 = p := ⟨_, rfl⟩
              rw [hp] at p1 p2 hcell2 HIff
              obtain ⟨y, rfl⟩ := Int.eq_ofNat_of_zero_le p1
              rw [Int.toNat_natCast] at HIff
              rw [HNn.out] at p2
              have hy : y < 1024 := by
                have h1 : 2 ^ n ≤ 2 ^ 10 := Nat.pow_le_pow_right (by omega) hl10
                have h2 : 0 < 2 ^ n := Nat.two_pow_pos n
                omega
              have hkw : IntKind.i64.wrap ((k : Int) - 1) = ((k - 1 : Nat) : Int) := by rw [IntWalk.i64_in _ (by omega)]; omega
              have han := i64_andNot_nat y z (by omega) (by omega)
              have hk1 : k - 1 < m := by omega
              have hkp : 0 < (k : Int) := by omega
              clear hcp hprev hp p1 p2
              obtain ⟨k', hk'⟩ : ∃ k', k - 1 = k' := ⟨_, rfl⟩
              have HK' := hid hk'
              rw [hk'] at hcell2 hkw hk1
              clear hk'
              by_cases hsub : sub y z = 0
              · have HOk := hid (HIff.out.2 ⟨HPz.out, HPi2.out, .inr hsub⟩)
                rw [hsub] at han
                clear hsub
                go_wp2
                clear hcell2 hkw han
                go_roundw
                case rel => exact ⟨k + 1, by omega, by go_num, hid (fun j hj => by
                  by_cases e : j = k
                  · subst e; exact HOk.out
                  · exact HJ.out j (by omega)), HA3.out, HB3.out⟩
                case measure => simp [intOf]; omega
              · have hne : ((sub y z : Nat) : Int) ≠ 0 := by omega
                have hne2 : (((sub y z : Nat) : Int) != 0) = true := by rw [bne_iff_ne]; exact hne
                have HO := hid (HNoAt.out k hlt (Bool.eq_false_iff.2 fun h => by
                  rcases (HIff.out.1 h).2.2 with h | h
                  · exact hk0 h
                  · exact hsub h))
                have HN := hid (ansFL_no HO.out)
                obtain ⟨q, hq⟩ : ∃ q, sub y z = q := ⟨_, rfl⟩
                rw [hq] at han hne hne2
                clear hq hsub
                go_wp2
                go_ret2
                exact ⟨_, ret_vbA HO.out.symm, by rw [HN.out]; exact OwnI.nil _ _ _, HL.out, HB3.out⟩
      · obtain rfl : k = m := by omega
        have HO := hid (okFL_yes H0.out (by rw [HMm.out]; exact HJ.out))
        have HN := hid (ansFL_yes HO.out)
        rw [HNn.out] at HN
        have HZs := hid (fun j (hj : j < k) => (lyOk_iff.1 (HJ.out j hj)).1)
        rw [HNn.out] at HZs
        have hmk := Hmk.out
        clear hb
        go_wp2
        clear hmk hbox
        rw [Vals_made]
        obtain ⟨g, hgz⟩ : ∃ g, wr.heap.size = g := ⟨_, rfl⟩
        have hwg : w.heap.size ≤ g := by have := HB1.out.size; omega
        have HStart : Hid (Blk (wr.alloc (.cells (Vals (List.replicate n 0)) 3)) g 3 (Vals (mkL n (flG L 0)))) := hid (by
          rw [show mkL n (flG L 0) = List.replicate n 0 from (mkL_congr (fun i hi => by simp [flG])).trans (mkL_zero n)]
          exact Blk.newAt _ _ _ _ hgz.symm)
        have HB0 := hid (below_alloc HB1.out (.cells (Vals (List.replicate n 0)) 3))
        rw [hgz]
        clear hgz
        go_loopw [58] (fun i wr => ∃ t : Nat, t ≤ n ∧ i = .int .i64 t ∧ Blk wr g 3 (Vals (mkL n (flG L t))) ∧ Below w.heap.size w wr) (fun i _ => n - (intOf i).toNat)
        case atStart => exact ⟨0, Nat.zero_le _, rfl, HStart.out, HB0.out⟩
        case round =>
          clear HStart HB0
          obtain ⟨t, ht, rfl, hk2, hb2⟩ := hrel
          have HK1 := hid hk2
          have HB2 := hid hb2
          clear hk2 hb2
          by_cases htl : t < n
          · have ht64 : t < 64 := by omega
            obtain ⟨W1, rfl⟩ : ∃ x, x = wr := ⟨wr, rfl⟩
            go_wp2
            go_loopw [63] (fun i wi => ∃ j : Nat, j ≤ k ∧ i = .int .i64 j ∧ Blk wi g 3 (Vals (mkL n (flH L t j))) ∧ Below w.heap.size w wi) (fun i _ => k - (intOf i).toNat)
            case atStart => exact ⟨0, Nat.zero_le _, rfl, (by rw [mkL_congr (h := flG L t) (fun i _ => by unfold flH flG; split; rfl; split <;> rfl)]; exact HK1.out), HB2.out⟩
            case round =>
              obtain ⟨j, hj, rfl, hk3, hb3⟩ := hrel
              have HK2 := hid hk3
              have HB3 := hid hb3
              clear hk3
              by_cases hjk : j < k
              · obtain ⟨lb, lo, rfl, hlb, hlc⟩ := HBc.out (by intro h; have := HMm.out; rw [h] at this; simp at this; omega)
                have hcell := (hb3.cell (p := ⟨lb, lo + j, none⟩) hlb).trans (hlc j hjk)
                have hzr := HZs.out j hjk
                have HStp := hid (show cntF (fun j => bitI (L.getD j 0) t) (j + 1) = if bitI (L.getD j 0) t then cntF (fun j => bitI (L.getD j 0) t) j else cntF (fun j => bitI (L.getD j 0) t) j + 1 from rfl)
                have HLe := hid (cntF_le (fun j => bitI (L.getD j 0) t) j)
                obtain ⟨s, hs⟩ : ∃ s, L.getD j 0 = s := ⟨_, rfl⟩
                rw [hs] at hcell hzr HStp
                obtain ⟨z, rfl⟩ := Int.eq_ofNat_of_zero_le hzr.1
                rw [bitI_nat] at HStp
                have hcc : wr.cell? ⟨g, t, none⟩ = some (.int .i64 (cntF (fun j => bitI (L.getD j 0) t) j : Nat)) := by
                  rw [HK2.out.cell, Vals_get (by rw [mkL_length]; exact htl), mkL_getD htl]
                  simp [flH]
                have hfz := HK2.out.frozen t
                obtain ⟨q, hq⟩ : ∃ q, cntF (fun j => bitI (L.getD j 0) t) j = q := ⟨_, rfl⟩
                have HQ := hid hq
                rw [hq] at hcc HStp HLe
                have hq20 : q ≤ 20 := by have := HLe.out; omega
                clear hb3 hlc hs hq
                cases hbit : z.testBit t
                · have Hb := hid hbit
                  have HS2 : Hid (cntF (fun j => bitI (L.getD j 0) t) (j + 1) = q + 1) := hid (by rw [HStp.out, hbit]; rfl)
                  clear hbit
                  go_wp2_with (go_at_call 38; refine (poIn_any z t ht64 _).mono ?_; rw [Hb.out]; rintro e' w' ⟨rfl, rfl⟩)
                  clear hcc hfz hcell
                  go_roundw
                  case rel => exact ⟨j + 1, by omega, by go_num, (by
                    rw [mkL_upd (g := flH L t j) (h := flH L t (j + 1)) (q + 1) htl (fun i hi => by
                      by_cases e : i = t
                      · subst e
                        rw [if_pos rfl]
                        unfold flH
                        rw [if_neg (Nat.lt_irrefl _), if_pos rfl, HS2.out]
                      · rw [if_neg e]
                        unfold flH
                        rw [if_neg e, if_neg e]), ← Vals_set]
                    have h := HK2.out.set_ t (.int .i64 ((q + 1 : Nat) : Int))
                    exact h), HB3.out.setCell (p := ⟨g, t, none⟩) hwg _⟩
                  case measure => simp [intOf]; omega
                · have Hb := hid hbit
                  have HS2 : Hid (cntF (fun j => bitI (L.getD j 0) t) (j + 1) = q) := hid (by rw [HStp.out, hbit]; rfl)
                  clear hbit hcc hfz
                  go_wp2_with (go_at_call 38; refine (poIn_any z t ht64 _).mono ?_; rw [Hb.out]; rintro e' w' ⟨rfl, rfl⟩)
                  clear hcell
                  go_roundw
                  case rel => exact ⟨j + 1, by omega, by go_num, (by
                    rw [mkL_congr (g := flH L t (j + 1)) (h := flH L t j) (fun i hi => by
                      unfold flH
                      rw [HS2.out, HQ.out])]
                    exact HK2.out), HB3.out⟩
                  case measure => simp [intOf]; omega
              · obtain rfl : j = k := by omega
                clear hb3
                go_wp2
                go_roundw
                case rel => exact ⟨t + 1, by omega, by go_num, (by
                  rw [mkL_congr (g := flG L (t + 1)) (h := flH L t j) (fun i hi => by
                    unfold flG flH
                    by_cases e : i < t
                    · rw [if_pos (by omega), if_pos e]
                    · by_cases e2 : i = t
                      · subst e2; rw [if_pos (by omega), if_neg e, if_pos rfl, HMm.out]
                      · rw [if_neg (by omega), if_neg e, if_neg e2])]
                  exact HK2.out), HB3.out⟩
                case measure => simp [intOf]; omega
          · obtain rfl : t = n := by omega
            have HOw := hid (HK1.out.own (xs := mkL t (flG L t)) (B := w.heap.size) hwg (by rw [mkL_length]; omega))
            have HE := hid (show mkL t (flG L t) = flX t L from mkL_congr fun i hi => by unfold flG; rw [if_pos hi])
            go_wp2
            go_ret2
            exact ⟨_, ret_vbA HO.out.symm, (by have h := HOw.out; rw [HE.out] at h; rw [HN.out]; rw [flX_len] at h; exact h), HL.out, HB2.out⟩
end Go.Proofs.Ytgepbekdgocnpab
