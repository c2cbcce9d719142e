/- allLabels. -/
import Derived.Test.YteaeeinfjhhhoabLbX
import Derived.Test.YteaeeinfjhhhoabJoinI
import Derived.Test.YteaeeinfjhhhoabAddRow
namespace Go.Proofs.Yteaeeinfjhhhoab
open Go.RowKit Go.WideShapes Go.ChangeShapes
set_option linter.unusedVariables false

/-- how many rounds are left -/
def msA (q b : Value) : Nat := match q, b with | .slice _ l _, .bool true => 1001 - l + 1 | _, _ => 0
theorem ret_vbY {u : Value} {a b : Bool} (h : a = b) : Ending.returned (.tuple #[u, .bool a]) = .returned (.tuple #[u, .bool b]) := by rw [h]
set_option maxRecDepth 100000 in
set_option maxHeartbeats 3200000 in
theorem allLabels_any (v : Value) (xs : List Int) (m : Nat) (w : World) (hv : Ints w v xs) (hg : good xs = true) (hm : m ≤ 12) :
    Calls Try.prog 59 #[.agg #[v], .int .i64 m] w fun (e : Ending) w' => ∃ q, e = Ending.returned (.tuple #[q, .bool (decide ((allF xs m).length ≤ 1000))]) ∧ OwnSS 3 22 w' w.heap.size w'.heap.size q (if (allF xs m).length ≤ 1000 then allF xs m else []) ∧ Below w.heap.size w w' := by
  have HV := hid hv
  have HG := hid hg
  have hx10 := (good_length hg).2
  obtain ⟨hN0, hA0, hAn, hAm⟩ := allF_run xs m
  have HA0 := hid hA0
  have HAn := hid hAn
  have HAm := hid hAm
  have HRow := hid (fun i hi => allF_row (xs := xs) (m := m) (i := i) hi)
  obtain ⟨A, hA⟩ : ∃ A, allF xs m = A := ⟨_, rfl⟩
  rw [hA] at HA0 HAn HAm HRow hN0 ⊢
  obtain ⟨N, hN⟩ : ∃ N, A.length = N := ⟨_, rfl⟩
  have HNe := hid hN
  rw [hN] at HAn HAm HRow hN0 ⊢
  obtain ⟨n, hn⟩ : ∃ n, xs.length = n := ⟨_, rfl⟩
  have HNx := hid hn
  obtain ⟨B, c, rfl, -⟩ := hv
  rw [hn] at HV hx10 HA0 HRow ⊢
  have hmk := run_make_row' (P := Try.prog) 22 3 (.int .i64 0) 8 Try.underlying22 Try.info3 rfl .i64 .i64 n (by omega) (by omega)
  obtain ⟨D, hD⟩ : ∃ D, decide (N ≤ 1000) = D := ⟨_, rfl⟩
  obtain ⟨R, hR⟩ : ∃ R, (if N ≤ 1000 then A else []) = R := ⟨_, rfl⟩
  have HDe := hid hD
  have HRe := hid hR
  rw [hD, hR]
  clear hg hA hN hA0 hAn hAm hn hD hR
  go_enter Try.func59, Try.ntmps59
  go_wp2
  clear hmk
  rw [Vals_made]
  have HB := hid (below_alloc (Below.refl _ w) (.cells #[.slice B n c] 28))
  have A0 : Hid (At (w.alloc (.cells #[.slice B n c] 28)) w.heap.size (.slice B n c)) := hid ⟨(Blk.new _ _ _).cell 0, by simp⟩
  obtain ⟨W0, hW0⟩ : ∃ W0, w.alloc (.cells #[.slice B n c] 28) = W0 := ⟨_, rfl⟩
  have hF : W0.heap.size = w.heap.size + 1 := by rw [← hW0]; simp
  rw [hW0] at HB A0 ⊢
  clear hW0
  obtain ⟨F, hFe⟩ : ∃ F, w.heap.size + 1 = F := ⟨_, rfl⟩
  have HFe := hid hFe
  rw [hFe] at hF ⊢
  have hwF : w.heap.size < F := by omega
  have HK0 : Hid (Blk (W0.alloc (.cells (Vals (List.replicate n 0)) 3)) F 3 (Vals (A.getD 0 []))) := hid (by rw [HA0.out]; exact Blk.newAt _ _ _ _ hF.symm)
  have HB0 := hid (below_alloc HB.out (.cells (Vals (List.replicate n 0)) 3))
  have HX0 := hid (A0.out.alloc (.cells (Vals (List.replicate n 0)) 3))
  have hz0 : (W0.alloc (.cells (Vals (List.replicate n 0)) 3)).heap.size = F + 1 := by simp [hF]
  obtain ⟨W1, hW1⟩ : ∃ W1, W0.alloc (.cells (Vals (List.replicate n 0)) 3) = W1 := ⟨_, rfl⟩
  rw [hW1] at HK0 HB0 HX0 hz0 ⊢
  clear hW1 hF hFe HB A0
  go_loopw [6, 8] (fun q b wr => ∃ t : Nat, t ≤ 1000 ∧ ((b = .bool true ∧ t < N ∧ Blk wr F 3 (Vals (A.getD t []))) ∨ (b = .bool false ∧ t = N)) ∧ OwnSS 3 22 wr (F + 1) wr.heap.size q (A.take t) ∧ At wr w.heap.size (.slice B n c) ∧ Below w.heap.size w wr ∧ F + 1 ≤ wr.heap.size) (fun q b _ => msA q b)
  case atStart => exact ⟨0, by omega, .inl ⟨rfl, hN0, HK0.out⟩, OwnSS.nil _ _ _ _ _, HX0.out, HB0.out, by omega⟩
  case round =>
    obtain ⟨t, ht, hst, ho, ha, hb, hFw⟩ := hrel
    have HO := hid ho
    have HX := hid ha
    have HB := hid hb
    obtain ⟨oA, oc, rfl, -⟩ := ho.rows
    clear ho ha hb
    rcases hst with ⟨rfl, htN, hk⟩ | ⟨rfl, rfl⟩
    · have HK := hid hk
      have hlt : (A.take t).length = t := by rw [List.length_take, HNe.out]; omega
      rw [hlt] at HO ⊢
      clear hk
      by_cases h1000 : t = 1000
      · subst h1000
        have hdec : D = false := by rw [← HDe.out, decide_eq_false_iff_not]; omega
        have hif : R = [] := by rw [← HRe.out]; exact if_neg (by omega)
        have HD := hid hdec
        have HI := hid hif
        clear hdec hif
        go_wp2
        go_ret2
        exact ⟨_, ret_vbY HD.out.symm, by rw [HI.out]; exact OwnSS.nil _ _ _ _ _, HB.out⟩
      · obtain ⟨hr1, hr2⟩ := HRow.out t htN
        obtain ⟨f, hf⟩ : ∃ f, A.getD t [] = f := ⟨_, rfl⟩
        have HFe2 := hid hf
        rw [hf] at hr1 hr2 HK
        have HR := hid hr2
        have Hn1 := hid hr1
        have hne1000 : ((t : Int) == 1000) = false := by rw [beq_eq_false_iff_ne]; omega
        have HTk : Hid (A.take t ++ [f] = A.take (t + 1)) := hid (by
          rw [← hf, List.take_add_one]; congr 1
          have : t < A.length := by rw [HNe.out]; omega
          simp [List.getD, this])
        have HI : Hid (Ints wr (.slice (some ⟨F, 0, none⟩) n n) f) := hid (by
          have h := Blk.ints (c := n) (show Blk wr F 3 (f.map (Value.int .i64)).toArray from HK.out)
          rw [hr1] at h; exact h)
        clear hf hr1 hr2
        go_wp2_with fail
        refine (cloneI_any _ f _ HI.out (by rw [Hn1.out]; omega)).mono ?_
        rintro e w2 ⟨u, rfl, ho2, hb2⟩
        obtain ⟨uA, uc, rfl, -⟩ := ho2.ints
        have HO2 := hid ho2
        have HB2 := hid hb2
        have hz2 := hb2.size
        clear ho2 hb2
        have HOs2 := hid (HO.out.below HB2.out)
        have HO2m := hid (HO2.out.mono hFw)
        have HOB := hid (fun b hb => (HO2.out.blockLt b hb).1)
        have HK2 := hid (HK.out.below HB2.out HK.out.lt)
        have HX2 := hid (HX.out.below HB2.out)
        have hFz2 : F + 1 ≤ w2.heap.size := Nat.le_trans hFw hz2
        have HBw2 := hid (below_to HB.out HB2.out)
        have hlt1 : (A.take (t + 1)).length = t + 1 := by rw [List.length_take, HNe.out]; omega
        go_wp2_with (at_builtin; refine wpList_append_row rfl _ _ 58 22 3 rfl Try.underlying58 Try.info22 (by decide) (F + 1) wr.heap.size _ _ (A.take t) f rfl HOs2.out HO2m.out HOB.out rfl rfl (by rw [hlt]; omega) (by omega) (by omega) ?_; intro u5 w5 ho5 hb5; rw [HTk.out] at ho5; have HO5 := hid ho5; have HK5 := hid (HK2.out.below hb5 (Nat.lt_succ_self _)); have HX5 : Hid (At w5 w.heap.size (.slice B n c)) := hid ⟨(hb5.cell (p := ⟨w.heap.size, 0, none⟩) (by show w.heap.size < F + 1; omega)).trans HX2.out.1, Nat.lt_of_lt_of_le HX2.out.2 hb5.size⟩; have HB5 := hid (HBw2.out.trans (hb5.mono (by omega))); have hFz5 := Nat.le_trans hFz2 hb5.size; obtain ⟨rA, rc, rfl, -⟩ := ho5.rows; rw [hlt1] at HO5 ⊢; have hbx5 := HX5.out.1; clear ho5 hb5)
        have HCall := hid (nextLabels_any (.slice B n c) xs f m F n n w w5 HV.out HB5.out (by omega) HK5.out HG.out HNx.out Hn1.out (by rw [Hn1.out]; exact HR.out) hm)
        clear hlt1 hlt
        refine HCall.out.mono ?_
        rintro e w6 ⟨⟨rfl, hall⟩ | ⟨h, rfl, hnx, hk6⟩, ht6⟩
        · have hN1 : t + 1 = N := by
            by_cases q : t + 1 < N
            · have := (HAn.out t q).notM
              rw [HFe2.out] at this
              exact absurd hall this
            · omega
          have HO6 := hid (HO5.out.turned ht6 (.inr (Nat.le_refl _)))
          have HX6 := hid (HX5.out.turned ht6 (.inl hwF))
          have HB6 := hid (below_turned HB5.out ht6 (by omega))
          have hz6 := ht6.size
          have HN1 := hid hN1
          clear ht6 hall hbx5 hN1
          go_wp2
          go_roundw
          case rel => exact ⟨t + 1, by omega, .inr ⟨rfl, HN1.out⟩, HO6.out.monoE hz6, HX6.out, HB6.out, by omega⟩
          case measure => simp [msA]
        · have hN1 : t + 1 < N := by
            by_cases q : t + 1 < N
            · exact q
            · have := HAm.out
              rw [show N - 1 = t by omega, HFe2.out] at this
              exact absurd this hnx.notM
          have HE := hid (hnx.fn (by have := HAn.out t hN1; rw [HFe2.out] at this; exact this))
          rw [HE.out] at hk6
          have HK6 := hid hk6
          have HO6 := hid (HO5.out.turned ht6 (.inr (Nat.le_refl _)))
          have HX6 := hid (HX5.out.turned ht6 (.inl hwF))
          have HB6 := hid (below_turned HB5.out ht6 (by omega))
          have hz6 := ht6.size
          clear ht6 hnx hk6 hbx5
          go_wp2
          go_roundw
          case rel => exact ⟨t + 1, by omega, .inl ⟨rfl, hN1, HK6.out⟩, HO6.out.monoE hz6, HX6.out, HB6.out, by omega⟩
          case measure => simp [msA]; omega
    · have hdec : D = true := by rw [← HDe.out]; exact decide_eq_true ht
      have hif : R = A := by rw [← HRe.out]; exact if_pos ht
      have htk : A.take t = A := List.take_of_length_le (by rw [HNe.out]; omega)
      rw [htk] at HO ⊢
      have HD := hid hdec
      have HI := hid hif
      clear hdec hif htk
      go_wp2
      go_ret2
      exact ⟨_, ret_vbY HD.out.symm, by rw [HI.out]; exact HO.out.monoBR (by omega), HB.out⟩
end Go.Proofs.Yteaeeinfjhhhoab
