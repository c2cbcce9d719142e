/- All labels, as the model lists them: the walk. -/
import Derived.Test.YtnlehkjfidpdlabLbA
namespace Go.Proofs.Ytnlehkjfidpdlab
open Go.RowKit Go.WideShapes Go.ChangeShapes
set_option linter.unusedVariables false

theorem l1MostB_any (a b : Int) (w : World) : Calls Try.prog 77 #[.int .i64 a, .int .i64 b] w fun r w' => r = .returned (.int .i64 (max a b)) ∧ w = w' := by
  by_cases h : b < a
  · have H := hid (Int.max_eq_left (Int.le_of_lt h))
    go_enter Try.func77, Try.ntmps77
    go_wp2
    go_ret
    exact ⟨ret_int H.out.symm, rfl⟩
  · have H := hid (Int.max_eq_right (by omega : a ≤ b))
    go_enter Try.func77, Try.ntmps77
    go_wp2
    go_ret
    exact ⟨ret_int H.out.symm, rfl⟩
set_option maxRecDepth 100000 in
set_option maxHeartbeats 6400000 in
theorem laAll_any (r : Nat) : ∀ (v u : Value) (xs f : List Int) (m M : Nat) (w : World) (hv : Ints w v xs) (hu : Ints w u f) (hg : good xs = true) (hf : f.length + r = xs.length) (hr : ∀ j, j < f.length → 0 ≤ f.getD j 0 ∧ f.getD j 0 ≤ m) (hm : m ≤ 12) (hM : 1 ≤ M) (hM2 : M ≤ 100000),
    Calls Try.prog 46 #[.agg #[v], u, .int .i64 m, .int .i64 M] w fun (e : Ending) w' => ∃ q, e = Ending.returned q ∧ OwnSS 3 25 w' w.heap.size w'.heap.size q ((lbF xs m r f).take M) ∧ Below w.heap.size w w' := by
  induction r with
  | zero =>
    intro v u xs f m M w hv hu hg hf hr hm hM hM2
    have HU := hid hu
    have hl10 := (good_length hg).2
    obtain ⟨A, c, rfl, -⟩ := hv
    obtain ⟨B, d, rfl, -⟩ := hu
    have hfx : f.length = xs.length := by omega
    have HTk : Hid ((lbF xs m 0 f).take M = [f]) := hid (by rw [lbF]; exact List.take_of_length_le (by simpa using hM))
    obtain ⟨n, hn⟩ : ∃ n, xs.length = n := ⟨_, rfl⟩
    rw [hn] at hfx hl10 ⊢
    rw [hfx] at HU ⊢
    have hfl : f.length ≤ 1048576 := by omega
    clear hg hf hr hn hfx
    go_enter Try.func46, Try.ntmps46
    go_wp2_with fail
    refine (l1OwnB_any _ f _ (HU.out.alloc _) hfl).mono ?_
    rintro e w1 ⟨q, rfl, ho, hb⟩
    have HO := hid ho
    have HB := hid (below_to (below_alloc (Below.refl _ w) _) hb)
    have hz := HB.out.size
    obtain ⟨qA, qn, qc, rfl⟩ := ho.shape3
    clear ho hb
    go_wp2
    go_ret
    refine ⟨_, rfl, ?_, below_alloc HB.out _⟩
    rw [HTk.out]
    have h1 := OwnSS.single (ts := 25) (HO.out.mono (B' := w.heap.size) (by simp)) hz
    have e : (w1.alloc (.cells #[.slice qA qn qc] 25)).heap.size = w1.heap.size + 1 := by simp
    rw [e]
    exact h1
  | succ r ih =>
    intro v u xs f m M w hv hu hg hf hr hm hM hM2
    have HV0 := hid hv
    have HU0 := hid hu
    have HG := hid hg
    have HR := hid hr
    have HIH := hid ih
    have HFr := hid hf
    have hl10 := (good_length hg).2
    obtain ⟨A, c, rfl, hA⟩ := hv
    obtain ⟨B, d, rfl, hB⟩ := hu
    have hfx : f.length < xs.length := by omega
    obtain ⟨xb, xo, rfl, hxl, hxc⟩ := hA (by intro h; rw [h] at hfx; simp at hfx)
    have hcell := hxc f.length hfx
    have hok := okAt_small (good_at hg hfx) (by omega)
    obtain ⟨z0, hz0⟩ : ∃ z, xs.getD f.length 0 = z := ⟨_, rfl⟩
    rw [hz0] at hcell hok
    obtain ⟨z, rfl⟩ := Int.eq_ofNat_of_zero_le hok.1
    have HZ := hid hz0
    have HBc := hid hB
    have HSt := hid (fun k => leN_step xs f f.length k)
    have HLst := hid (lstN_int (xs := xs) (f := f))
    have HLr := hid (fun k (hk : k ≤ f.length) => leN_rng (xs := xs) (e := f.length) (g := 0) (k := k) (fun j hj => ⟨(hr j (Nat.lt_of_lt_of_le hj hk)).1, Int.le_trans (hr j (Nat.lt_of_lt_of_le hj hk)).2 (by omega)⟩) (by omega) (by omega))
    have HStop := hid (fun t ht h => preF_stop (xs := xs) (m := m) (r := r) (f := f) (t := t) (M := M) ht h)
    have HGo := hid (fun t h => preF_go (xs := xs) (m := m) (r := r) (f := f) (t := t) (M := M) h)
    obtain ⟨n, hn⟩ : ∃ n, xs.length = n := ⟨_, rfl⟩
    obtain ⟨i, hi⟩ : ∃ i, f.length = i := ⟨_, rfl⟩
    have HIe := hid hi
    have HNe := hid hn
    rw [hn] at HV0 hl10 hfx
    rw [hi] at HU0 hfx hcell HZ HSt HLst HLr HBc
    have hne : ((i : Int) == (n : Int)) = false := by rw [beq_eq_false_iff_ne]; omega
    rw [hn, hi]
    clear hg hf hr ih hA hB hxc hz0 hn hi
    go_enter Try.func46, Try.ntmps46
    go_wp2
    go_loop [10, 11] (fun q i' => ∃ (k : Nat) (t : Int), k ≤ i ∧ i' = .int .i64 k ∧ q = .int .i64 t ∧ Hid (leN xs f i 0 k = t)) (fun _ i' => i - (intOf i').toNat)
    case atStart => exact ⟨0, 0, Nat.zero_le _, rfl, rfl, hid rfl⟩
    case round =>
      obtain ⟨k, t, hk, rfl, rfl, HT⟩ := hrel
      by_cases hlt : k < i
      · obtain ⟨b, o, rfl, hbl, hc⟩ := HBc.out (by intro h; have := HIe.out; rw [h] at this; simp at this; omega)
        have hcf := hc k hlt
        obtain ⟨y, hy⟩ : ∃ y, f.getD k 0 = y := ⟨_, rfl⟩
        rw [hy] at hcf
        have HS := HSt.out k
        rw [HZ.out, Int.toNat_natCast, HT.out, hy] at HS
        cases hbit : z.testBit k
        · rw [hbit] at HS
          have HS2 : Hid (leN xs f i 0 (k + 1) = t) := hid HS
          have Hbit := hid hbit
          clear hbit HS hc hy
          go_wp2_with (go_at_call 75; refine (poIn_any z k (by omega) _).mono ?_; rw [Hbit.out]; rintro e w' ⟨rfl, rfl⟩)
          go_round
          case rel => exact ⟨k + 1, t, by omega, by go_num, rfl, HS2⟩
          case measure => simp [intOf]; omega
        · rw [hbit] at HS
          have HS2 : Hid (leN xs f i 0 (k + 1) = max t y) := hid HS
          have Hbit := hid hbit
          clear hbit HS hc hy
          go_wp2_with (go_at_call 75; refine (poIn_any z k (by omega) _).mono ?_; rw [Hbit.out]; rintro e w' ⟨rfl, rfl⟩)
          go_wp2_with (go_at_call 77; refine (l1MostB_any t y _).mono ?_; rintro e w' ⟨rfl, rfl⟩)
          go_round
          case rel => exact ⟨k + 1, _, by omega, by go_num, rfl, HS2⟩
          case measure => simp [intOf]; omega
      · have hki : k = i := by omega
        have HLe : Hid (t = ((lstN xs f : Nat) : Int)) := hid (by rw [HLst.out]; have := HT.out; rw [hki] at this; exact this.symm)
        have hlr := HLr.out k (by omega)
        rw [HT.out] at hlr
        rw [HLe.out] at hlr ⊢
        obtain ⟨L, hL⟩ : ∃ L, lstN xs f = L := ⟨_, rfl⟩
        rw [hL] at hlr HStop HGo ⊢
        clear hlt hL hcell hne
        go_wp2
        go_loopw [12, 13] (fun q x wr => ∃ t : Nat, L + t ≤ max L (m + 1) ∧ x = .int .i64 ((L + t : Nat) : Int) ∧ OwnSS 3 25 wr (w.heap.size + 1) wr.heap.size q ((preF xs m r f t).take M) ∧ Below (w.heap.size + 1) (w.alloc (.cells #[.slice (some ⟨xb, xo, none⟩) n c] 35)) wr) (fun _ x _ => m + 1 - (intOf x).toNat)
        case atStart => exact ⟨0, Nat.le_max_left _ _, rfl, (by
          have e : (preF xs m r f 0).take M = [] := by simp [preF]
          rw [e]; exact OwnSS.nil _ _ _ _ _), Below.refl _ _⟩
        case round =>
          obtain ⟨t, ht, rfl, ho, hb⟩ := hrel
          have HO := hid ho
          have HB := hid hb
          have hbx : wr.cell? ⟨w.heap.size, 0, none⟩ = some (.slice (some ⟨xb, xo, none⟩) n c) := box_cell hb 0
          have hz1 : w.heap.size + 1 ≤ wr.heap.size := by have := hb.size; simp at this; omega
          obtain ⟨oA, oc, rfl, -⟩ := ho.rows
          have hlenM : ((preF xs m r f t).take M).length ≤ M := List.length_take_le _ _
          obtain ⟨P, hP⟩ : ∃ P, (preF xs m r f t).take M = P := ⟨_, rfl⟩
          have HPe := hid hP
          have HGo2 := hid (HGo.out t)
          rw [hP] at HO HGo2 hlenM ⊢
          clear ho hb hP
          by_cases hxm : L + t ≤ m
          · by_cases hlM : P.length < M
            · have hxI : ((L + t : Nat) : Int) ≤ (m : Int) := by omega
              have hlI : (P.length : Int) < (M : Int) := by omega
              have HGo3 := hid (HGo2.out hlM)
              obtain ⟨x, hx⟩ : ∃ x, L + t = x := ⟨_, rfl⟩
              have HXe := hid hx
              rw [hx] at HGo3 hxI hxm ⊢
              obtain ⟨p, hp⟩ : ∃ p, P.length = p := ⟨_, rfl⟩
              have HPl := hid hp
              rw [hp] at HGo3 hlI hlM ⊢
              have HOp : Hid (OwnSS 3 25 wr (w.heap.size + 1) wr.heap.size (.slice oA p oc) P) := hid (by have h := HO.out; rw [hp] at h; exact h)
              have hMp : IntKind.i64.wrap ((M : Int) - (p : Int)) = ((M - p : Nat) : Int) := by rw [IntWalk.i64_in _ (by omega)]; omega
              clear hx hp ht
              have HUw := hid (HU0.out.below (below_box HB.out))
              have HVw := hid (HV0.out.below (below_box HB.out))
              have hx12 : x ≤ 12 := by omega
              have hfl : f.length ≤ 1048576 := by rw [HIe.out]; omega
              have HFl := hid hfl
              have HLt : Hid (f.length < 1048576) := hid (by rw [HIe.out]; omega)
              have HF1 : Hid ((f ++ [(x : Int)]).length + r = xs.length) := hid (by rw [List.length_append, List.length_singleton]; have := HFr.out; omega)
              have HRx : Hid (∀ j, j < (f ++ [(x : Int)]).length → 0 ≤ (f ++ [(x : Int)]).getD j 0 ∧ (f ++ [(x : Int)]).getD j 0 ≤ m) := hid (fun j hj => by
                rw [List.length_append, List.length_singleton] at hj
                by_cases e : j = f.length
                · subst e; rw [getD_snoc_eq]; omega
                · rw [getD_snoc_lt (by omega)]; exact HR.out j (by omega))
              have HNs : Hid (1 ≤ ((lbF xs m r (f ++ [(x : Int)])).take (M - p)).length) := hid (by
                have := lbF_some (xs := xs) (m := m) r (f ++ [(x : Int)]) (by have := HF1.out; omega) (fun j hj => (HRx.out j hj).2)
                rw [List.length_take]; omega)
              have HTl : Hid (((lbF xs m r (f ++ [(x : Int)])).take (M - p)).length ≤ M - p) := hid (List.length_take_le _ _)
              obtain ⟨q1, hq1⟩ : ∃ q1, M - p = q1 := ⟨_, rfl⟩
              have HQ1 : Hid (1 ≤ q1 ∧ q1 ≤ 100000 ∧ p + q1 = M) := hid (by omega)
              rw [hq1] at HNs HTl hMp HGo3
              obtain ⟨ms, hms⟩ : ∃ ms, (lbF xs m r (f ++ [(x : Int)])).take q1 = ms := ⟨_, rfl⟩
              have HMs := hid hms
              rw [hms] at HNs HTl HGo3
              have HW0 : Hid (Below wr.heap.size wr wr.drew) := hid (below_drewN (Below.refl _ _) 1)
              have HBw : Hid (∀ W, Below wr.heap.size wr W → W.cell? ⟨w.heap.size, 0, none⟩ = some (.slice (some ⟨xb, xo, none⟩) n c)) := hid (fun W hW => (hW.cell (p := ⟨w.heap.size, 0, none⟩) (by show w.heap.size < wr.heap.size; omega)).trans hbx)
              have HW1 : Hid (Below wr.heap.size wr (wr.alloc (.cells #[.int .i64 ((x : Nat) : Int)] 3)).drew) := hid (below_drewN (below_alloc (Below.refl _ wr) _) 1)
              have HX1 : Hid (Blk (wr.alloc (.cells #[.int .i64 ((x : Nat) : Int)] 3)).drew wr.heap.size 3 #[.int .i64 ((x : Nat) : Int)]) := hid (Blk.new wr 3 #[.int .i64 ((x : Nat) : Int)])
              have HZ1 : Hid (wr.heap.size ≤ (wr.alloc (.cells #[.int .i64 ((x : Nat) : Int)] 3)).drew.heap.size) := hid (by show wr.heap.size ≤ (wr.alloc _).heap.size; simp)
              have hbx0 := HBw.out _ HW0.out
              have hbx2 := HBw.out _ HW1.out
              have hbx5 := HBw.out _ (below_alloc (Below.refl _ wr) (.cells #[.int .i64 ((x : Nat) : Int)] 3))
              have hwlt : w.heap.size < wr.heap.size := by omega
              have hbx1 := HBw.out _ (HW0.out.alloc (Nat.le_refl _) (.cells #[.int .i64 ((x : Nat) : Int)] 3))
              clear hms hq1 hfl
              go_wp2_with fail
              go_region_law (first
                | ((with_reducible show if Region.wanted { dst := _, op := Op.call { callee := Callee.value _, args := _, argTypes := _ }, type := _, pos := _, after := _, guard := _ } _ = true then _ else _); go_simp; (first
                    | (go_at_call 68; refine (l1OwnB_any _ f _ (HUw.out.below (by first | exact HW0.out | exact HW0.out.alloc (Nat.le_refl _) _ | exact HW1.out)) HFl.out).mono ?_; rintro e w3 ⟨q, rfl, ho3, hb3⟩; obtain ⟨qA, qc, rfl, -⟩ := ho3.ints; have HO3 : Hid (OwnI 3 w3 wr.heap.size (.slice qA f.length qc) f) := hid (ho3.mono (by first | exact Nat.le_refl _ | exact HZ1.out)); have HB3 : Hid (Below wr.heap.size wr w3) := hid (by first | exact below_to HW0.out hb3 | exact below_to (HW0.out.alloc (Nat.le_refl _) _) hb3 | exact below_to HW1.out hb3); (try have HX3 : Hid (Blk w3 wr.heap.size 3 #[.int .i64 ((x : Nat) : Int)]) := hid (HX1.out.below hb3 (by show wr.heap.size < (wr.alloc _).heap.size; simp))); have hbx3 := HBw.out _ HB3.out; have hbx6 := HBw.out _ (HB3.out.alloc HB3.out.size (.cells #[.int .i64 ((x : Nat) : Int)] 3)); have hwl3 : w.heap.size < w3.heap.size := Nat.lt_of_lt_of_le hwlt HB3.out.size; clear ho3)
                    | (go_at_call 46; refine (HIH.out _ _ xs (f ++ [(x : Int)]) m q1 _ (HVw.out.below HB4.out) HO4.out.ints HG.out HF1.out HRx.out hm HQ1.out.1 HQ1.out.2.1).mono ?_; rw [HMs.out]; rintro e w5 ⟨q5, rfl, ho5, hb5⟩; have HO5 := hid ho5; have HB5 := hid (below_to HB4.out hb5); clear ho5)))
                | (refine step_append_intS rfl _ _ 25 3 rfl Try.underlying25 Try.info3 wr.heap.size _ f ((x : Nat) : Int) rfl (by first | exact HO3.out.alloc _ | exact HO3.out) _ rfl (by first | exact Blk.new _ _ _ | exact HX3.out) HLt.out (by have := HB3.out.size; first | omega | (simp; done) | (simp; omega)) ?_; intro g' cap w4 h1 h2 h3 h4; have HO4 := hid h1; have HB4 : Hid (Below wr.heap.size wr w4) := hid ((by first | exact HB3.out | exact HB3.out.alloc HB3.out.size _ : Below wr.heap.size wr _).grown h2 (by have := HB3.out.size; first | omega | (simp; done) | (simp; omega)) (fun k hk => (HO3.out.blockLt k hk).1)); have hbx4 := HBw.out _ HB4.out; clear h1 h2 h3 h4)
                | (refine step_append_rowsN rfl _ _ 51 25 3 rfl Try.underlying51 Try.info25 (by decide) (w.heap.size + 1) wr.heap.size _ _ _ _ P ms rfl (HOp.out.below HB5.out) rfl HO5.out HNs.out HB4.out.size (by have := HB4.out.size; omega) (by have := HTl.out; have := HPl.out; have := HQ1.out; omega) (by have := HB5.out.size; omega) HB5.out.size (Nat.le_refl _) ?_; intro v6 w6 h1 h2; have HO6 := hid h1; have HB6 := hid h2; clear h1 h2))
              all_goals obtain ⟨rA, rc, rfl, -⟩ := HO6.out.rows
              all_goals go_wp2
              all_goals go_roundw
              all_goals first
                | exact ⟨t + 1, by have := HXe.out; omega, by have := HXe.out; go_num, by rw [← HGo3.out, ← List.length_append]; exact HO6.out, (HB.out.trans (HB5.out.mono hz1)).trans HB6.out⟩
                | (simp [intOf]; omega)
            · have hlI : ¬ (P.length : Int) < (M : Int) := by omega
              have HE := hid (HStop.out t (by omega) (.inr (by rw [HPe.out]; omega)))
              rw [HPe.out] at HE
              go_wp2
              go_ret
              exact ⟨_, rfl, by rw [← HE.out]; exact HO.out.monoBR (Nat.le_succ _), below_box HB.out⟩
          · have hxI : ¬ ((L + t : Nat) : Int) ≤ (m : Int) := by omega
            have HE := hid (HStop.out (min t (m + 1 - L)) (Nat.min_le_right _ _) (.inl (by
              by_cases e : m + 1 ≤ L
              · have : t = 0 := by omega
                omega
              · omega)))
            have HTm : Hid (min t (m + 1 - L) = t) := hid (by
              by_cases e : m + 1 ≤ L
              · have : t = 0 := by omega
                omega
              · omega)
            rw [HTm.out, HPe.out] at HE
            go_wp2
            go_ret
            exact ⟨_, rfl, by rw [← HE.out]; exact HO.out.monoBR (Nat.le_succ _), below_box HB.out⟩
end Go.Proofs.Ytnlehkjfidpdlab
