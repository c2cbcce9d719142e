/- Tables of major numbers: the model's table. -/
import Derived.Test.YtbbkoagjplapkaaMtT
namespace Go.Proofs.Ytbbkoagjplapkaa
open Go.RowKit Go.WideShapes Go.ChangeShapes
set_option linter.unusedVariables false

set_option maxRecDepth 100000 in
set_option maxHeartbeats 3200000 in
theorem specMajorTable_any (a b : Int) (w : World) (wa : (Lit.int .i64 a).wf = true) (wb : (Lit.int .i64 b).wf = true):
    Calls Try.prog 42 #[.int .i64 a, .int .i64 b] w fun (r : Ending) w' => ∃ u, r = Ending.returned (.tuple #[u, .bool (sides a b)]) ∧ OwnI 3 w' w.heap.size u (ansMT a b) ∧ (ansMT a b).length ≤ 1048576 ∧ Below w.heap.size w w' := by
  have HL := hid (ansMT_length a b)
  have HSd := hid (fun W => shSides_any a b W)
  cases hs : sides a b
  · have HN := hid (ansMT_no hs)
    rw [hs] at HSd
    clear hs wa wb
    go_enter Try.func42, Try.ntmps42
    go_wp2_with fail
    refine (HSd.out _).mono ?_
    rintro e w1 ⟨rfl, rfl⟩
    go_wp2
    go_ret2
    exact ⟨_, rfl, by rw [HN.out]; exact OwnI.nil _ _ _, HL.out, Below.refl _ _⟩
  · obtain ⟨x, y, rfl, rfl, h1, h2, h3, h4, h5⟩ := sides_nat hs
    have HAl := hid (fun W => shAll_any x y W h1 h2 h3 h4 h5)
    have hcnt := rect_cnt h1 h2 h3 h4 h5
    have HAns : Hid (ansMT x y = tblS (majK y (whereL (rectF y) (x * y)) x) (ends (whereL (rectF y) (x * y)) 0)) := hid (ansMT_yes hs)
    have HTab : Hid (∀ k, k < ends (whereL (rectF y) (x * y)) 0 → tabB (gridL x y (tofF y (unrL (whereL (rectF y) (x * y)) k))) = true) := hid (fun k hk => tof_tab hs (by rw [rectL_yes hs]; exact unr_orderT hk))
    rw [hs] at HSd
    obtain ⟨xs, hxs⟩ : ∃ xs, whereL (rectF y) (x * y) = xs := ⟨_, rfl⟩
    rw [hxs] at hcnt HAns HTab HAl
    obtain ⟨m, hm⟩ : ∃ m, ends xs 0 = m := ⟨_, rfl⟩
    rw [hm] at hcnt HAns HTab HAl
    have HTb := hid (fun k => tblS_ok (f := majK y xs x) k (fun j _ => majK_le _ _ _ _))
    have HMj := hid (fun k => majK_eq y xs x k)
    have HMl := hid (fun k => majK_le y xs x k)
    obtain ⟨f, hf⟩ : ∃ f, majK y xs x = f := ⟨_, rfl⟩
    have hmjf : ∀ k, ((f k : Nat) : Int) = ansMA (gridL x y (tofF y (unrL xs k))) := fun k => by rw [← hf]; exact HMj.out k
    have HMF := hid hmjf
    rw [hf] at HAns HTb HMl
    clear hs h1 h2 h3 h4 h5 hxs hm hf hmjf wa wb
    go_enter Try.func42, Try.ntmps42
    go_wp2_with fail
    refine (HSd.out _).mono ?_
    rintro e w1 ⟨rfl, rfl⟩
    go_wp2_with fail
    refine (HAl.out _).mono ?_
    rintro e w2 ⟨q, rfl, ho, hb2⟩
    obtain ⟨qA, qc, rfl⟩ := ho.shape
    have HQ := hid ho
    have HB2 := hid hb2
    clear ho hb2
    go_wp2
    go_loopw [6, 18] (fun t i wr => ∃ k : Nat, k ≤ m ∧ i = .int .i64 k ∧ OwnI 3 wr w2.heap.size t (tblS f k) ∧ Below w2.heap.size w2 wr) (fun _ i _ => m - (intOf i).toNat)
    case atStart => exact ⟨0, Nat.zero_le _, rfl, OwnI.nil _ _ _, Below.refl _ _⟩
    case round =>
      obtain ⟨k, hk, rfl, ho, hb⟩ := hrel
      have HT := hid ho
      have Hb := hid hb
      obtain ⟨tA, tc, rfl, -⟩ := ho.shape
      clear ho hb
      by_cases hlt : k < m
      · obtain ⟨bq, uq, rfl, hbq, hcq, hoq⟩ := HQ.out.cell hlt
        have hcell := (Hb.out.cell (p := ⟨bq, k, none⟩) hbq).trans hcq
        have HU := hid (hoq.ints.below Hb.out)
        have HTa := hid (HTab.out k hlt)
        obtain ⟨uA, un, uc, rfl⟩ := hoq.shape3
        have HSuc := hid (tblS_succ f k)
        have hfk := HMl.out k
        have HFk := hid (HMF.out k)
        have htl := (HTb.out k).1
        have HTk := hid (HTb.out k).2
        obtain ⟨T, hT⟩ : ∃ T, tblS f k = T := ⟨_, rfl⟩
        rw [hT] at HT HSuc htl HTk
        rw [hT]
        obtain ⟨mj, hmj⟩ : ∃ mj, f k = mj := ⟨_, rfl⟩
        rw [hmj] at hfk HFk HSuc
        clear hcq hoq hT hmj
        go_wp2_with fail
        clear hcell
        refine (shMajor_any _ _ _ HU.out HTa.out).mono ?_
        rintro e w4 ⟨rfl, hb4⟩
        rw [← HFk.out]
        have HB4 := hid (below_to Hb.out hb4)
        have HT4 := hid (HT.out.below hb4)
        have hz4 := HB4.out.size
        clear hb4
        go_wp2
        go_loopw [6] (fun t wi => ∃ j : Nat, j ≤ max T.length (mj + 1) ∧ T.length ≤ j ∧ OwnI 3 wi w2.heap.size t (padL T j) ∧ Below w2.heap.size w2 wi) (fun t _ => 200 - (match t with | .slice _ n _ => n | _ => 0))
        case atStart => exact ⟨T.length, by omega, Nat.le_refl _, by rw [padL_id (Nat.le_refl _)]; exact HT4.out, HB4.out⟩
        case round =>
          obtain ⟨j, hj, hj2, ho, hb⟩ := hrel
          obtain ⟨wi, rfl⟩ : ∃ x, x = wr := ⟨wr, rfl⟩
          have HTj := hid ho
          have Hbj := hid hb
          obtain ⟨jA, jc, rfl, -⟩ := ho.shape
          have hpl : (padL T j).length = j := by rw [padL_length]; omega
          rw [hpl] at HTj ⊢
          have HPl := hid hpl
          have hzj := hb.size
          clear ho hb hpl
          by_cases hjm : j ≤ mj
          · have HGr := hid (padL_grow (t := T) hj2)
            have hji : (j : Int) ≤ (mj : Int) := by omega
            go_wp2_with (at_builtin; refine wpList_append_int rfl _ _ 27 3 rfl Try.underlying27 Try.info3 w2.heap.size _ (padL T j) 0 rfl HTj.out rfl rfl (by rw [HPl.out]; omega) hzj ?_; intro v5 w5 ho5 hb5)
            have HO5 : Hid (OwnI 3 w5 w2.heap.size v5 (padL T (j + 1))) := hid (by rw [← HGr.out]; exact ho5)
            have HB5 := hid (Hbj.out.trans hb5)
            obtain ⟨vA, vc, rfl, -⟩ := ho5.shape
            have hvl : (padL T j ++ [0]).length = j + 1 := by rw [List.length_append, HPl.out]; rfl
            rw [hvl] at HO5 ⊢
            clear ho5 hb5 hvl
            go_roundw
            case rel => exact ⟨j + 1, by omega, by omega, HO5.out, HB5.out⟩
            case measure => simp; omega
          · have hji : ¬ (j : Int) ≤ (mj : Int) := by omega
            have hjd : decide ((j : Int) ≤ (mj : Int)) = false := by simp; omega
            have HEq : Hid (padL T j = padL T (mj + 1)) := hid (by
              rcases Nat.le_total T.length (mj + 1) with h | h
              · rw [show j = mj + 1 by omega]
              · rw [show j = T.length by omega, padL_id (Nat.le_refl _), padL_id h])
            obtain ⟨g, rfl, -, hBg, hgl, hcl, hfz, hst⟩ := HTj.out.cellF (j := mj) (by rw [HPl.out]; omega)
            have hrg : 0 ≤ (padL T j).getD mj 0 ∧ (padL T j).getD mj 0 ≤ k := by
              unfold padL
              rw [List.getD_eq_getElem?_getD, List.getElem?_append]
              split
              · rw [← List.getD_eq_getElem?_getD]; exact HTk.out mj
              · rw [List.getElem?_replicate]; split <;> simp
            have HSt := hid (hst ((padL T j).getD mj 0 + 1))
            have HFin : Hid (tblS f (k + 1) = (padL T j).set mj ((padL T j).getD mj 0 + 1)) := hid (by rw [HSuc.out, bumpL, HEq.out])
            obtain ⟨z, hz⟩ : ∃ z, (padL T j).getD mj 0 = z := ⟨_, rfl⟩
            rw [hz] at hcl hrg HSt HFin
            have HFl : Hid ((tblS f (k + 1)).length = j) := hid (by rw [HFin.out, List.length_set, HPl.out])
            have hmji : (mj : Int) < (j : Int) := by omega
            clear hst hz
            go_wp2
            go_roundw
            case rel => exact ⟨k + 1, by omega, by go_num, by rw [HFin.out]; exact HSt.out, Hbj.out.setCell (p := ⟨g, mj, none⟩) hBg _⟩
            case measure => simp [intOf]; omega
      · have Hk := hid (show k = m by omega)
        have hlt' : ¬ (k : Int) < (m : Int) := by omega
        clear hlt
        go_wp2
        go_ret2
        exact ⟨_, rfl, by rw [HAns.out, ← Hk.out]; exact HT.out.mono HB2.out.size, HL.out, below_to HB2.out Hb.out⟩
end Go.Proofs.Ytbbkoagjplapkaa
