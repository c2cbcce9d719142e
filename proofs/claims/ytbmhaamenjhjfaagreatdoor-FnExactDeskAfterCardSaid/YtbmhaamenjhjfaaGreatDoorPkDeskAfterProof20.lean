/- Texts RvV, Row3, LawD, one behind the other. -/
import Derived.Test.YtbmhaamenjhjfaaGreatDoorPkDeskAfterProof01
import Derived.Test.YtbmhaamenjhjfaaGreatDoorPkDeskAfterProof07
import Derived.Test.YtbmhaamenjhjfaaGreatDoorPkDeskAfterProof10
import Derived.Test.YtbmhaamenjhjfaaGreatDoorPkDeskAfterProof11
import Derived.Test.YtbmhaamenjhjfaaGreatDoorPkDeskAfterProof12
import Derived.Test.YtbmhaamenjhjfaaGreatDoorPkDeskAfterProof13
/- Ranks, one rank, gyration in the model. -/
namespace Go.Proofs.YtbmhaamenjhjfaaGreatDoor
open Go.RowKit Go.WideShapes Go.ChangeShapes
set_option linter.unusedVariables false
set_option maxHeartbeats 3200000 in
theorem rvGyrate_any (v : Value) (xs : List Int) (s : Nat) (bk : Bool) (w : World) (hv : Ints w v xs) (hg : good xs = true) (hs : s < 2 ^ xs.length) :
    Calls Tryz.prog 143 #[.agg #[v], .int .i64 s, .bool bk] w fun r w' => r = .returned (.int .i64 ((if bk then gyB xs s else gyF xs s : Nat))) ∧ Below w.heap.size w w' := by
  have HV := hid hv
  have HG := hid hg
  have HZ := hid hs
  obtain ⟨h, hh, h9⟩ := rkN_some hg
  have HH := hid hh
  have HRl : Hid ((rankL xs).length = h + 1) := hid (by rw [rankL_length, hh])
  have HRg : Hid (∀ i, i < h + 1 → (rankL xs).getD i 0 = ((rkE (heightsL xs) xs.length i : Nat) : Int)) := hid fun i hi => rankL_get (by omega)
  have h10 := (good_length hg).2
  have HE10 : Hid (∀ i, rkE (heightsL xs) xs.length i < 1024) := hid fun i => lt1024 (rkE_lt _ (Nat.le_refl _) i) h10
  have HK10 : Hid (∀ p k, evK xs p k < 1024) := hid fun p k => lt1024 (evK_lt xs p k) h10
  have HT : Hid (∀ t p, t < 2 ^ xs.length → togW xs t (elL xs.length (evN xs p)) < 2 ^ xs.length) := hid fun t p ht => togW_lt ht (ev_in p)
  clear hv hg hs
  go_enter Tryz.func143, Tryz.ntmps143
  have HB := hid (below_alloc (Below.refl _ w) (.cells #[v] 28))
  have A0 := hid (At.newAt w v 28 w.heap.size (by simp))
  go_wp2_with fail
  refine (rvRanks_any _ xs _ (HV.out.below HB.out) HG.out).mono ?_
  rintro e w' ⟨q, rfl, ho, hb⟩
  replace HB := hid (below_to HB.out hb)
  replace A0 := hid (A0.out.below hb)
  clear hb
  have HI := hid ho.ints
  have HEv : Hid (∀ p, evK xs p (h + 1) = evN xs p) := hid fun p => by rw [evN, HH.out]
  obtain ⟨ls, hls⟩ : ∃ ls, rankL xs = ls := ⟨_, rfl⟩
  rw [hls] at HI HRl HRg
  obtain ⟨A, c, rfl, hA⟩ := HI.out
  have HA := hid hA
  rw [HRl.out]
  clear ho HI hA hls hh
  go_wp2
  go_loop [7, 8, 14] (fun e d i => ∃ k : Nat, k ≤ h + 1 ∧ i = .int .i64 k ∧ e = .int .i64 (evK xs 0 k : Nat) ∧ d = .int .i64 (evK xs 1 k : Nat)) (fun _ _ i => h + 1 - (intOf i).toNat)
  case atStart => exact ⟨0, Nat.zero_le _, rfl, rfl, rfl⟩
  case round =>
    obtain ⟨k, hk, rfl, rfl, rfl⟩ := hrel
    by_cases hlt : k < h + 1
    · obtain ⟨b, o, rfl, hbl, hc⟩ := HA.out (by intro hn; have := HRl.out; rw [hn] at this; simp at this)
      have hcell : w'.cell? ⟨b, o + k, none⟩ = some (.int .i64 (rkE (heightsL xs) xs.length k : Nat)) := by rw [hc k (by rw [HRl.out]; exact hlt), HRg.out k hlt]
      have e1 := HE10.out k
      have e2 := HK10.out 0 k
      have e3 := HK10.out 1 k
      have HY0 := hid (fun (q : k % 2 = 0) => evK_yes (xs := xs) q)
      have HY1 := hid (fun (q : k % 2 = 1) => evK_yes (xs := xs) q)
      have HN0 := hid (fun (q : ¬ k % 2 = 0) => evK_no (xs := xs) q)
      have HN1 := hid (fun (q : ¬ k % 2 = 1) => evK_no (xs := xs) q)
      obtain ⟨R, hR⟩ : ∃ R, rkE (heightsL xs) xs.length k = R := ⟨_, rfl⟩
      obtain ⟨E, hE⟩ : ∃ E, evK xs 0 k = E := ⟨_, rfl⟩
      obtain ⟨D, hD⟩ : ∃ D, evK xs 1 k = D := ⟨_, rfl⟩
      rw [hR] at hcell e1 HY0 HY1
      rw [hE] at e2 HY0 HN0 ⊢
      rw [hD] at e3 HY1 HN1 ⊢
      have ho1 := i64_or_nat E R (by omega) (by omega)
      have ho2 := i64_or_nat D R (by omega) (by omega)
      clear hc hR hE hD
      by_cases hp : k % 2 = 0
      · have hq : ((k : Int) % 2 == 0) = true := by rw [show (k : Int) % 2 = 0 by omega]; rfl
        have HP := hid hp
        clear hp
        go_wp2
        go_round
        case rel => exact ⟨k + 1, by omega, by go_num, by rw [HY0.out HP.out], by rw [HN1.out (by rw [HP.out]; decide)]⟩
        case measure => simp [intOf] <;> omega
      · have hq : ((k : Int) % 2 == 0) = false := by rw [beq_eq_false_iff_ne]; omega
        have HP : Hid (k % 2 = 1) := hid (by omega)
        clear hp
        go_wp2
        go_round
        case rel => exact ⟨k + 1, by omega, by go_num, by rw [HN0.out (by rw [HP.out]; decide)], by rw [HY1.out HP.out]⟩
        case measure => simp [intOf] <;> omega
    · obtain rfl : k = h + 1 := by omega
      rw [HEv.out 0, HEv.out 1]
      have e2 : evN xs 0 < 1024 := by rw [← HEv.out]; exact HK10.out 0 _
      have e3 : evN xs 1 < 1024 := by rw [← HEv.out]; exact HK10.out 1 _
      have hz0 := HZ.out
      have HFd : Hid (gyF xs s = togW xs (togW xs s (elL xs.length (evN xs 0))) (elL xs.length (evN xs 1))) := hid rfl
      have HBd : Hid (gyB xs s = togW xs (togW xs s (elL xs.length (evN xs 1))) (elL xs.length (evN xs 0))) := hid rfl
      have hz1 := HT.out s 0 hz0
      have hz2 := HT.out s 1 hz0
      have HV1 := hid (HV.out.below HB.out)
      have HS := hid (show SR w' w.heap.size v w' from ⟨A0.out, Below.refl _ _⟩)
      have hbx := A0.out.1
      cases bk
      · go_wp2_with fail
        go_region_held3 (fun W => W.cell? ⟨w.heap.size, 0, none⟩ = some v ∧ Hid (SR w' w.heap.size v W)) (first | exact ⟨HS2.out.at_.1, HS2⟩ | exact ⟨HS.out.drew.at_.1, hid HS.out.drew⟩) (first | (go_at_call 188; refine (rvAt_SR v xs w' w.heap.size _ _ _ HV1.out HG.out (Hid.out (by first | assumption | exact hid HS.out.drew)) (by assumption) (by assumption)).mono ?_; rintro e' w4 ⟨rfl, hs4⟩; have HS2 := hid hs4; clear hs4))
        have HB3 := hid (below_to HB.out HS2.out.below)
        clear hbx
        go_wp2
        go_ret
        exact ⟨ret_int (by rw [← HFd.out]), HB3.out⟩
      · go_wp2_with fail
        go_region_held3 (fun W => W.cell? ⟨w.heap.size, 0, none⟩ = some v ∧ Hid (SR w' w.heap.size v W)) (first | exact ⟨HS2.out.at_.1, HS2⟩ | exact ⟨HS.out.drew.at_.1, hid HS.out.drew⟩) (first | (go_at_call 188; refine (rvAt_SR v xs w' w.heap.size _ _ _ HV1.out HG.out (Hid.out (by first | assumption | exact hid HS.out.drew)) (by assumption) (by assumption)).mono ?_; rintro e' w4 ⟨rfl, hs4⟩; have HS2 := hid hs4; clear hs4))
        have HB3 := hid (below_to HB.out HS2.out.below)
        clear hbx
        go_wp2
        go_ret
        exact ⟨ret_int (by rw [← HBd.out]), HB3.out⟩
theorem specGyrateIdeal_any (v : Value) (xs : List Int) (s : Int) (w : World) (hv : Ints w v xs) (hl : xs.length ≤ 1048576) (wf : (Lit.int .i64 s).wf = true) :
    Calls Tryz.prog 84 #[.agg #[v], .int .i64 s] w fun r w' => r = .returned (.tuple #[.int .i64 (ansSW wGyr xs s), .bool (okRI xs s)]) ∧ Below w.heap.size w w' := by
  have HV := hid hv
  clear hv wf
  go_enter Tryz.func84, Tryz.ntmps84
  have HB := hid (below_alloc (Below.refl _ w) (.cells #[v] 28))
  have A0 := hid (At.newAt w v 28 w.heap.size (by simp))
  go_wp2_with fail
  refine (rvIn_any _ xs s _ (HV.out.below HB.out) hl).mono ?_
  rintro e w' ⟨rfl, hb⟩
  replace HB := hid (below_to HB.out hb)
  replace A0 := hid (A0.out.below hb)
  clear hb
  cases hq : okRI xs s
  · have HO := hid hq
    clear hq
    have ebox0 := A0.out.1
    go_wp2
    go_ret2
    exact ⟨ret_ib (ansSW_no HO.out).symm HO.out.symm, HB.out⟩
  · have HO := hid hq
    obtain ⟨z, rfl, hg, hr, hz, hi⟩ := okRI_all hq
    obtain ⟨h, hh, h9⟩ := rkN_some hg
    have HAn : Hid (ansSW wGyr xs z = ((gyF xs z : Nat) : Int)) := hid ((ansSW_yes (f := wGyr) hq hh).trans (by rw [gyF_word hg hr hh hi]))
    have HG := hid hg
    have HZ := hid hz
    clear hq hg hr hz hi hh
    have ebox0 := A0.out.1
    go_wp2_with fail
    clear ebox0
    refine (rvGyrate_any _ xs z false _ (HV.out.below HB.out) HG.out HZ.out).mono ?_
    rintro e w' ⟨rfl, hb⟩
    replace HB := hid (below_to HB.out hb)
    replace A0 := hid (A0.out.below hb)
    clear hb
    have ebox0 := A0.out.1
    go_wp2
    go_ret2
    exact ⟨ret_ib HAn.out.symm HO.out.symm, HB.out⟩
end Go.Proofs.YtbmhaamenjhjfaaGreatDoor

/- RowmotionTimes of the model; RowByToggles. -/
namespace Go.Proofs.YtbmhaamenjhjfaaGreatDoor
open Go.RowKit Go.WideShapes Go.ChangeShapes
set_option linter.unusedVariables false
set_option maxHeartbeats 1600000 in
theorem specRowmotionTimes_any (v : Value) (xs : List Int) (s k : Int) (w : World) (hv : Ints w v xs) (hl : xs.length ≤ 1048576) (wf : (Lit.int .i64 s).wf = true) (wfk : (Lit.int .i64 k).wf = true) :
    Calls Tryz.prog 82 #[.agg #[v], .int .i64 s, .int .i64 k] w fun r w' => r = .returned (.tuple #[.int .i64 (ansRT xs s k), .bool (okRT xs s k)]) ∧ Below w.heap.size w w' := by
  have HV := hid hv
  clear hv wf wfk
  go_enter Tryz.func82, Tryz.ntmps82
  have HB := hid (below_alloc (Below.refl _ w) (.cells #[v] 28))
  have A0 := hid (At.newAt w v 28 w.heap.size (by simp))
  go_wp2_with fail
  refine (tgIn_any _ xs s _ (HV.out.below HB.out) hl).mono ?_
  rintro e w' ⟨rfl, hb⟩
  replace HB := hid (below_to HB.out hb)
  replace A0 := hid (A0.out.below hb)
  clear hb
  cases hq : okIdeal xs s
  · have HO := hid (okRT_no1 (k := k) hq)
    clear hq
    have ebox0 := A0.out.1
    go_wp2
    go_ret2
    exact ⟨ret_ib (ansRT_no HO.out).symm HO.out.symm, HB.out⟩
  · have HQ := hid hq
    clear hq
    obtain ⟨z, rfl, h3, h4, h5⟩ := okIdeal_all HQ.out
    have HG := hid h3
    have HN := hid h4
    clear h3 h4 h5
    have ebox0 := A0.out.1
    cases hk : okK k
    · have HO := hid (okRT_no2 (xs := xs) (s := z) hk)
      have HK : Hid ((decide (-1000 ≤ k) && decide (k ≤ 1000)) = false) := hid hk
      clear hk
      go_wp2_with (go_at_call 129; refine (l1In_any _ _ _ _).mono ?_; rw [HK.out]; rintro e w' ⟨rfl, rfl⟩)
      go_ret2
      exact ⟨ret_ib (ansRT_no HO.out).symm HO.out.symm, HB.out⟩
    · have HO := hid (okRT_yes HQ.out hk)
      have HK : Hid ((decide (-1000 ≤ k) && decide (k ≤ 1000)) = true) := hid hk
      have hkk := okK_of hk
      clear hk
      go_wp2_with (go_at_call 129; refine (l1In_any _ _ _ _).mono ?_; rw [HK.out]; rintro e w' ⟨rfl, rfl⟩)
      clear ebox0
      by_cases h0 : 0 ≤ k
      · obtain ⟨n, rfl⟩ := Int.eq_ofNat_of_zero_le h0
        have HAns := hid (ansRT_pos HO.out)
        have HL := hid (fun k => iter_lt (f := rowmo xs) (m := 2 ^ xs.length) (fun s _ => rowmo_lt HG.out s) HN.out k)
        have hn : n ≤ 1000 := by omega
        clear hkk h0
        go_loopw [1, 2] (fun q i wr => ∃ j t : Nat, j ≤ n ∧ i = .int .i64 ((n - j : Nat) : Int) ∧ q = .int .i64 t ∧ Hid (iter (rowmo xs) j z = t) ∧ Below w.heap.size w wr ∧ At wr w.heap.size v) (fun _ i _ => (intOf i).toNat)
        case atStart => exact ⟨0, z, Nat.zero_le _, rfl, rfl, hid rfl, HB.out, A0.out⟩
        case round =>
          obtain ⟨j, t, hj, rfl, rfl, HT, hb, ha⟩ := hrel
          have hbox := ha.1
          have HB1 := hid hb
          have HA1 := hid ha
          clear hb ha
          obtain ⟨m, hm⟩ : ∃ m, n - j = m := ⟨_, rfl⟩
          rw [hm]
          by_cases hlt : 0 < m
          · have ht : t < 2 ^ xs.length := by rw [← HT.out]; exact HL.out j
            have HT2 := hid ht
            have hj2 : j + 1 ≤ n := by omega
            have HM : Hid (n - (j + 1) = m - 1) := hid (by omega)
            have hm1 : m ≤ 1000 := by omega
            clear ht hm
            go_wp2_with fail
            clear hbox
            refine (tgRow_any _ xs t _ (HV.out.below HB1.out) HG.out HT2.out).mono ?_
            rintro e' w' ⟨rfl, hb⟩
            have HB2 := hid (below_to HB1.out hb)
            have HA2 := hid (HA1.out.below hb)
            clear hb
            go_wp2
            go_roundw
            case rel => exact ⟨j + 1, _, by omega, (by rw [HM.out]; congr 1; omega), rfl, hid (by rw [iter, HT.out]), HB2.out, HA2.out⟩
            case measure => simp [intOf]; omega
          · obtain rfl : m = 0 := by omega
            have hjn : j = n := by omega
            subst hjn
            clear hm hlt
            go_wp2
            go_loopw [1, 2] (fun q i wr => i = .int .i64 0 ∧ q = .int .i64 t ∧ Below w.heap.size w wr) (fun _ _ _ => 0)
            case atStart => exact ⟨rfl, rfl, HB1.out⟩
            case round =>
              obtain ⟨rfl, rfl, hb⟩ := hrel
              have HB3 := hid hb
              clear hb
              go_wp2
              go_ret2
              exact ⟨ret_ib (by rw [HAns.out, ← HT.out]) HO.out.symm, HB3.out⟩
      · obtain ⟨n, hn⟩ := Int.eq_ofNat_of_zero_le (show 0 ≤ -k by omega)
        have HAns := hid (ansRT_neg HO.out (by omega) hn)
        have HL := hid (fun k => iter_lt (f := rowba xs) (m := 2 ^ xs.length) (fun s _ => rowba_lt xs s) HN.out k)
        have hneg : k = -(n : Int) := by omega
        have hn2 : n ≤ 1000 := by omega
        clear hn
        subst hneg
        clear hkk
        go_loopw [1, 2] (fun q i wr => i = .int .i64 (-(n : Int)) ∧ q = .int .i64 z ∧ Below w.heap.size w wr ∧ At wr w.heap.size v) (fun _ _ _ => 0)
        case atStart => exact ⟨rfl, rfl, HB.out, A0.out⟩
        case round =>
          obtain ⟨rfl, rfl, hb, ha⟩ := hrel
          have HB1 := hid hb
          have HA1 := hid ha
          clear hb ha
          have h0' : ¬ (0 : Int) < -(n : Int) := by omega
          go_wp2
          go_loopw [1, 2] (fun q i wr => ∃ (j t : Nat) (x : Int), j ≤ n ∧ i = .int .i64 x ∧ x + n = j ∧ q = .int .i64 t ∧ Hid (iter (rowba xs) j z = t) ∧ Below w.heap.size w wr ∧ At wr w.heap.size v) (fun _ i _ => (-(intOf i)).toNat)
          case atStart => exact ⟨0, z, _, Nat.zero_le _, rfl, by omega, rfl, hid rfl, HB1.out, HA1.out⟩
          case round =>
            obtain ⟨j, t, x, hj, rfl, hx, rfl, HT, hb, ha⟩ := hrel
            have hbox := ha.1
            have HB1 := hid hb
            have HA1 := hid ha
            have HX := hid hx
            clear hb ha
            by_cases hlt : x < 0
            · have ht : t < 2 ^ xs.length := by rw [← HT.out]; exact HL.out j
              have HT2 := hid ht
              have hxl : -1000 ≤ x := by omega
              clear ht hx
              go_wp2_with fail
              clear hbox
              refine (tgBack_any _ xs t _ (HV.out.below HB1.out) HG.out HT2.out).mono ?_
              rintro e' w' ⟨rfl, hb⟩
              have HB2 := hid (below_to HB1.out hb)
              have HA2 := hid (HA1.out.below hb)
              clear hb
              go_wp2
              go_roundw
              case rel => exact ⟨j + 1, _, x + 1, by have := HX.out; omega, rfl, by have := HX.out; omega, rfl, hid (by rw [iter, HT.out]), HB2.out, HA2.out⟩
              case measure => simp [intOf]; omega
            · have hjn : j = n := by omega
              subst hjn
              clear hx
              go_wp2
              go_ret2
              exact ⟨ret_ib (by rw [HAns.out, ← HT.out]) HO.out.symm, HB1.out⟩
end Go.Proofs.YtbmhaamenjhjfaaGreatDoor

/- The law's helpers for desks: sizes, copies, comparisons, marks. -/
namespace Go.Proofs.YtbmhaamenjhjfaaGreatDoor
open Go.RowKit Go.WideShapes Go.ChangeShapes
set_option linter.unusedVariables false
def At2 (w : World) (b : Nat) (v u : Value) : Prop := w.cell? ⟨b, 0, none⟩ = some v ∧ w.cell? ⟨b, 1, none⟩ = some u ∧ b < w.heap.size
theorem At2.below {w w' : World} {b : Nat} {v u : Value} (h : At2 w b v u) (hb : Below w.heap.size w w') : At2 w' b v u :=
  ⟨(hb.cell (p := ⟨b, 0, none⟩) h.2.2).trans h.1, (hb.cell (p := ⟨b, 1, none⟩) h.2.2).trans h.2.1, Nat.lt_of_lt_of_le h.2.2 hb.size⟩
theorem At2.alloc {w : World} {b : Nat} {v u : Value} (h : At2 w b v u) (o : Obj) : At2 (w.alloc o) b v u := h.below ((Below.refl _ _).alloc (Nat.le_refl _) o)
theorem At2.drew {w : World} {b : Nat} {v u : Value} (h : At2 w b v u) : At2 w.drew b v u := h.below (Go.Joins.below_draws _ _ 1)
theorem At2.new (w : World) (v u : Value) (t : TypeId) : At2 (w.alloc (.cells #[v, u] t)) w.heap.size v u := ⟨(Blk.new w t #[v, u]).cell 0, (Blk.new w t #[v, u]).cell 1, by simp⟩
theorem At2.newAt (w : World) (v u : Value) (t : TypeId) (b : Nat) (hb : b = w.heap.size) : At2 (w.alloc (.cells #[v, u] t)) b v u := by subst hb; exact At2.new w v u t
theorem At2.grown {w w' : World} {b : Nat} {v u : Value} {row : Option Nat} (h : At2 w b v u) (hg : w.grownBy w' row) (hne : row ≠ some b) : At2 w' b v u :=
  ⟨hg.cell (a := ⟨b, 0, none⟩) h.1 (fun e => hne e.symm), hg.cell (a := ⟨b, 1, none⟩) h.2.1 (fun e => hne e.symm), Nat.lt_of_lt_of_le h.2.2 hg.size⟩
theorem eqDesk_any (v u : Value) (xs : List Int) (s : Int) (w : World) (hv : Ints w v xs) (hu : Ints w u xs) (hl : xs.length ≤ 1048576) :
    Calls Tryz.prog 11 #[.agg #[v, .int .i64 s], .agg #[u, .int .i64 s]] w fun r w' => r = .returned (.bool true) ∧ Below w.heap.size w w' := by
  have HV := hid hv
  have HU := hid hu
  obtain ⟨A, c, rfl, -⟩ := hv
  obtain ⟨C, c2, rfl, -⟩ := hu
  go_enter Tryz.func11, Tryz.ntmps11
  go_wp2_with fail
  refine (eqPoset_any _ _ xs _ ((HV.out.alloc _).alloc _) ((HU.out.alloc _).alloc _) hl).mono ?_
  rintro e w1 ⟨rfl, hb⟩
  have a1 : w1.cell? ⟨w.heap.size, 1, none⟩ = some (.int .i64 s) := (((Blk.new w 30 #[.slice A xs.length c, .int .i64 s]).alloc (.cells #[.slice C xs.length c2, .int .i64 s] 30)).below hb (by simp; omega)).cell 1
  have b1 : w1.cell? ⟨w.heap.size + 1, 1, none⟩ = some (.int .i64 s) := ((Blk.newAt (w.alloc (.cells #[.slice A xs.length c, .int .i64 s] 30)) 30 #[.slice C xs.length c2, .int .i64 s] (w.heap.size + 1) (by simp)).below hb (by simp)).cell 1
  have HB := hid (below_to (below_alloc (below_alloc (Below.refl _ w) _) _) hb)
  clear hb
  go_wp2
  go_ret
  exact ⟨rfl, HB.out⟩
theorem markDesk_any (v : Value) (xs : List Int) (s k : Int) (B : Nat) (w : World) (hv : OwnI 3 w B v xs) (hl : xs.length ≤ 1048576) (h0 : 0 ≤ k) (h1 : k ≤ 1000000000000) :
    Calls Tryz.prog 12 #[.agg #[v, .int .i64 s], .int .i64 k] w fun r w' => r = .returned (.int .i64 (k + xs.length)) ∧ OwnI 3 w' B v (marks xs.length k) ∧ w.grownBy w' v.ownBlock := by
  have HO := hid hv
  obtain ⟨A, c, rfl, -⟩ := hv.ints
  clear hv
  go_enter Tryz.func12, Tryz.ntmps12
  go_wp2_with (go_at_call 38; refine (markPoset_any _ xs k B _ (HO.out.alloc _) hl h0 h1).mono ?_; rintro e w1 ⟨rfl, ho, hg⟩)
  go_ret
  exact ⟨rfl, ho, grown_trans (grown_of_below ((Below.refl _ _).alloc (Nat.le_refl _) _) _) hg⟩
theorem heldDesk_any (v : Value) (n : Nat) (s k : Int) (w : World) (hv : Ints w v (marks n k)) (hl : n ≤ 1048576) (h0 : 0 ≤ k) (h1 : k ≤ 1000000000000) :
    Calls Tryz.prog 13 #[.agg #[v, .int .i64 s], .int .i64 k] w fun r w' => r = .returned (.int .i64 (k + n)) ∧ Below w.heap.size w w' := by
  have HV := hid hv
  obtain ⟨A, c, rfl, -⟩ := hv
  have hn : ¬ k + (n : Int) < 0 := by omega
  obtain ⟨d, hd⟩ : ∃ d, k + (n : Int) = d := ⟨_, rfl⟩
  rw [hd] at hn
  have HD := hid hd
  clear hd
  go_enter Tryz.func13, Tryz.ntmps13
  go_wp2_with (go_at_call 39; refine (heldPoset_any _ n k _ (HV.out.alloc _) hl h0 h1).mono ?_; rw [HD.out]; rintro e w1 ⟨rfl, hb1⟩)
  go_ret
  exact ⟨by rw [HD.out]; rfl, below_to (below_alloc (Below.refl _ w) _) hb1⟩
end Go.Proofs.YtbmhaamenjhjfaaGreatDoor
