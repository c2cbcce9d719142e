/- The program's linear extension with a rank, and the rank of one. -/
import Derived.Test.YtbbkoagjplapkaaEndI
namespace Go.Proofs.Ytbbkoagjplapkaa
open Go.RowKit Go.WideShapes Go.ChangeShapes
set_option linter.unusedVariables false

def rowW (xs : List Int) (r i j : Nat) : Nat := if j < i then unE xs r j else 0
theorem rowW_zero (xs : List Int) (r : Nat) : mkL xs.length (rowW xs r 0) = List.replicate xs.length 0 := by
  rw [← mkL_zero]; exact mkL_congr fun j _ => by simp [rowW]
theorem rowW_succ (xs : List Int) (r i : Nat) (hi : i < xs.length) : mkL xs.length (rowW xs r (i + 1)) = (mkL xs.length (rowW xs r i)).set i ((unE xs r i : Nat) : Int) :=
  mkL_upd _ hi fun j _ => by
    unfold rowW
    by_cases h : j = i
    · subst h; simp
    · rw [if_neg h]; by_cases h2 : j < i
      · rw [if_pos h2, if_pos (by omega)]
      · rw [if_neg h2, if_neg (by omega)]
theorem rowW_full (xs : List Int) (r : Nat) : mkL xs.length (rowW xs r xs.length) = unrL xs r := mkL_congr fun j hj => by simp [rowW, hj]
theorem unrL_length (xs : List Int) (r : Nat) : (unrL xs r).length = xs.length := mkL_length _ _
theorem sumN_succ (f : Nat → Nat) (k : Nat) : sumN f (k + 1) = sumN f k + f k := rfl
set_option maxHeartbeats 3200000 in
theorem linearWith_any (g : Nat) (v : Value) (xs : List Int) (r : Nat) (w : World) (hv : Ints w v xs) (hT : Blk w g 85 (Vals (mkL 1024 (endG xs 0)))) (hg : good xs = true) (hr : r < ends xs 0) :
    Calls Try.prog 96 #[.pointer (some ⟨g, 0, none⟩), .agg #[v], .int .i64 r] w fun (res : Ending) w' => ∃ u, res = Ending.returned u ∧ OwnI 3 w' w.heap.size u (unrL xs r) ∧ Below w.heap.size w w' := by
  have HV := hid hv
  have HT := hid hT
  have HG := hid hg
  have HR := hid hr
  have hl1 := (good_length hg).1
  have hl10 := (good_length hg).2
  have hE := ends_le hl10 0
  have hr2 : r < 10000000000 := by omega
  obtain ⟨A, c, rfl, -⟩ := hv
  obtain ⟨n, hn⟩ : ∃ n, xs.length = n := ⟨_, rfl⟩
  have hn10 : n ≤ 10 := by omega
  have HNl := hid hn
  have HV2 : Hid (Ints w (.slice A n c) xs) := hid (by rw [← hn]; exact HV.out)
  have hmk := run_make_row' (P := Try.prog) 27 3 (.int .i64 0) 8 Try.underlying27 Try.info3 rfl .i64 .i64 n (by omega) (by omega)
  rw [hn]
  clear hT hg hr hE hn
  go_enter Try.func96, Try.ntmps96
  go_wp2
  clear hmk
  rw [Vals_made]
  go_loopw [2, 8, 17] (fun q s i wr => ∃ k : Nat, k ≤ n ∧ i = .int .i64 k ∧ s = .int .i64 ((unS xs r k).1 : Nat) ∧ q = .int .i64 ((unS xs r k).2 : Nat) ∧ Blk wr (w.heap.size + 1) 3 (Vals (mkL n (rowW xs r k))) ∧ At wr w.heap.size (.slice A n c) ∧ Below w.heap.size w wr) (fun _ _ i _ => n - (intOf i).toNat)
  case atStart => exact ⟨0, Nat.zero_le _, rfl, rfl, rfl, (by have h := rowW_zero xs r; rw [HNl.out] at h; rw [h]; exact Blk.newAt _ _ _ _ (by simp)), (At.new _ _ _).alloc _, below_alloc (below_alloc (Below.refl _ w) _) _⟩
  case round =>
    obtain ⟨k, hk, rfl, rfl, rfl, hB, ha, hb⟩ := hrel
    have HB1 := hid hB
    have HA1 := hid ha
    have Hb1 := hid hb
    clear hB ha hb
    by_cases hlt : k < n
    · have hU := unS_ok HR.out k (by have := HNl.out; omega)
      have HU := hid hU
      have hP := hU.pick (by have := HNl.out; omega)
      have hS := hU.set
      have hq2 : (unS xs r k).2 < 10000000000 := by have h1 := hU.rank; have h2 := ends_le (xs := xs) (by have := HNl.out; omega) (unS xs r k).1; omega
      have HSuc := hid (unS_succ xs r k)
      have HRow := hid (rowW_succ xs r k (by have := HNl.out; omega))
      have HPk : Hid (unE xs r k = pick (nterm xs (unS xs r k).1) (unS xs r k).2 xs.length) := hid rfl
      obtain ⟨s, hs⟩ : ∃ s, (unS xs r k).1 = s := ⟨_, rfl⟩
      obtain ⟨q, hq⟩ : ∃ q, (unS xs r k).2 = q := ⟨_, rfl⟩
      rw [hs, hq] at hP HPk
      rw [hs] at hS
      rw [hq] at hq2
      rw [hs, hq] at HSuc
      rw [hs, hq]
      obtain ⟨p, hp⟩ : ∃ p, pick (nterm xs s) q xs.length = p := ⟨_, rfl⟩
      rw [hp] at hP HPk
      rw [HPk.out] at HSuc HRow
      obtain ⟨hp1, hp2, hp3⟩ := hP
      have hs10 : s < 1024 := lt1024 hS (by have := HNl.out; omega)
      have HS := hid hS
      have hp10 : p < 10 := by have := HNl.out; omega
      have Hp1 := hid hp1
      have Hp2 := hid hp2
      have Hp3 := hid hp3
      have HNT := hid (fun e => nterm_le (xs := xs) (by have := HNl.out; omega) s e)
      have hpn : p < n := by have := HNl.out; omega
      clear hs hq hp hp1 hp2 hp3 hS hU HU HPk
      have hbx := HA1.out.1
      go_wp2
      clear hbx
      go_loopw [2, 10] (fun q' e wi => ∃ j m : Nat, j ≤ p ∧ e = .int .i64 j ∧ q' = .int .i64 m ∧ Hid (m + sumN (nterm xs s) j = q) ∧ m ≤ q ∧ Blk wi (w.heap.size + 1) 3 (Vals (mkL n (rowW xs r k))) ∧ At wi w.heap.size (.slice A n c) ∧ Below w.heap.size w wi) (fun _ e _ => p - (intOf e).toNat)
      case atStart => exact ⟨0, q, Nat.zero_le _, rfl, rfl, hid (by simp [sumN]), Nat.le_refl _, HB1.out, HA1.out, Hb1.out⟩
      case round =>
        obtain ⟨j, m, hj, rfl, rfl, HM, hm, hB, ha, hb⟩ := hrel
        obtain ⟨wi, rfl⟩ : ∃ x, x = wr := ⟨wr, rfl⟩
        have HB2 := hid hB
        have HA2 := hid ha
        have Hb2 := hid hb
        clear hB ha hb
        have HNX := hid (fun W (hW : Below wi.heap.size wi W) => nextWith_any g (endG xs 0) (.slice A n c) xs s j W ((HV2.out.below Hb2.out).below hW) ((HT.out.below Hb2.out HT.out.lt).below hW (Nat.lt_of_lt_of_le HT.out.lt Hb2.out.size)) HG.out HS.out (by have := HNl.out; omega))
        rw [nx_endG HS.out (by have := HNl.out; omega)] at HNX
        have hx := HNT.out j
        have HSs := hid (sumN_succ (nterm xs s) j)
        obtain ⟨x, hxe⟩ : ∃ x, nterm xs s j = x := ⟨_, rfl⟩
        rw [hxe] at HNX hx HSs
        clear hxe
        have hbx := HA2.out.1
        by_cases hjp : j = p
        · subst hjp
          have hmx : m < x := by have h1 := HM.out; have h2 := Hp3.out; rw [HSs.out] at h2; omega
          have hd1 : decide ((x : Int) ≤ (m : Int)) = false := by simp; omega
          have HM2 := hid (show m = q - sumN (nterm xs s) j by have := HM.out; omega)
          go_wp2_with fail
          clear hbx
          refine (HNX.out _ (Below.refl _ wi)).mono ?_
          rintro e' w3 ⟨rfl, hb3⟩
          have H3 := hid hb3
          have HB3 := hid (HB2.out.below H3.out HB2.out.lt)
          have HA3 := hid (HA2.out.below H3.out)
          have Hb3 := hid (below_to Hb2.out H3.out)
          have hci : w3.cell? ⟨w.heap.size + 1, k, none⟩ = some (.int .i64 (rowW xs r k k : Nat)) := by
            rw [HB3.out.cell, Vals_get (by rw [mkL_length]; exact hlt), mkL_getD hlt]
          have hfi := HB3.out.frozen k
          have wp1 := wrap_pow' j (by omega)
          have hor := or_pow s j hs10 (by omega)
          clear hb3
          go_wp2
          go_roundw
          case rel => exact ⟨k + 1, by omega, by go_num, by rw [HSuc.out], by rw [HSuc.out, HM2.out], (by have h := HRow.out; rw [HNl.out] at h; rw [h, ← Vals_set]; exact HB3.out.set_ k _), HA3.out.far (by show w.heap.size ≠ w.heap.size + 1; omega) _, Hb3.out.setCell (p := ⟨w.heap.size + 1, k, none⟩) (by show w.heap.size ≤ w.heap.size + 1; omega) _⟩
          case measure => simp [intOf]; omega
        · have hmx : x ≤ m := by
            have h1 := HM.out; have h2 := Hp2.out
            have h3 := sumN_mono (nterm xs s) (show j + 1 ≤ p by omega)
            rw [HSs.out] at h3; omega
          have hd1 : decide ((x : Int) ≤ (m : Int)) = true := by simp; omega
          have hsub : (m : Int) - (x : Int) = ((m - x : Nat) : Int) := by omega
          obtain ⟨d, hd⟩ : ∃ d, m - x = d := ⟨_, rfl⟩
          have HD := hid hd
          rw [hd] at hsub
          have hdq : d ≤ q := by omega
          have hwd : IntKind.i64.wrap (d : Int) = (d : Int) := IntWalk.i64_in _ (by omega)
          clear hd
          go_wp2_with fail
          clear hbx
          refine (HNX.out _ (Below.refl _ wi)).mono ?_
          rintro e' w3 ⟨rfl, hb3⟩
          have HB3 := hid (HB2.out.below hb3 HB2.out.lt)
          have HA3 := hid (HA2.out.below hb3)
          have Hb3 := hid (below_to Hb2.out hb3)
          have H3 := hid hb3
          have hbx := HA3.out.1
          clear hb3
          go_wp2_with fail
          clear hbx
          refine (HNX.out _ H3.out).mono ?_
          rintro e' w4 ⟨rfl, hb4⟩
          have HB4 := hid (HB3.out.below hb4 HB3.out.lt)
          have HA4 := hid (HA3.out.below hb4)
          have Hb4 := hid (below_to Hb3.out hb4)
          clear hb4
          go_wp2
          go_roundw
          case rel => exact ⟨j + 1, d, by omega, by go_num, by first | rfl | go_num, hid (by rw [HSs.out]; have h1 := HM.out; have h2 := HD.out; omega), hdq, HB4.out, HA4.out, Hb4.out⟩
          case measure => simp [intOf]; omega
    · obtain rfl : k = n := by omega
      have HO : Hid (OwnI 3 wr w.heap.size (.slice (some ⟨w.heap.size + 1, 0, none⟩) k k) (unrL xs r)) := hid (by
        have h := rowW_full xs r
        rw [HNl.out] at h
        have h2 := HB1.out
        rw [h] at h2
        have h3 := Blk.own (xs := unrL xs r) (B := w.heap.size) h2 (by omega) (by rw [unrL_length, HNl.out]; omega)
        rw [unrL_length, HNl.out] at h3
        exact h3)
      go_wp2
      go_ret
      exact ⟨_, rfl, HO.out, Hb1.out⟩
def cntL (xs : List Int) : Nat := ends xs 0
theorem cntL_le {xs : List Int} (hl : xs.length ≤ 10) : cntL xs ≤ 10000000000 := ends_le hl 0
theorem cell_zero {w : World} {g N : Nat} {t : TypeId} {xs : List Int} (h : Blk w g t (Vals (mkL N (endG xs 0)))) (hN : 0 < N) : w.cell? ⟨g, 0, none⟩ = some (.int .i64 (cntL xs : Nat)) := by
  rw [h.cell, Vals_get (by rw [mkL_length]; exact hN), mkL_getD hN, endG_at (Nat.two_pow_pos _)]; rfl
end Go.Proofs.Ytbbkoagjplapkaa
