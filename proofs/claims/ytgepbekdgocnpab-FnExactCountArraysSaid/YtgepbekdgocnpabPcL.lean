/- All arrays, as the model lists them. -/
import Derived.Test.YtgepbekdgocnpabLbA
import Derived.Test.YtgepbekdgocnpabArS
namespace Go.Proofs.Ytgepbekdgocnpab
open Go.RowKit Go.WideShapes Go.ChangeShapes
set_option linter.unusedVariables false

theorem lbF_len (xs : List Int) (m r : Nat) (f : List Int) : (lbF xs m r f).length ≤ (m + 1) ^ r := by
  induction r generalizing f with
  | zero => rw [lbF]; simp
  | succ r ih =>
    rw [lbF, List.length_flatMap]
    have key : ∀ l : List Nat, (l.map fun x => (lbF xs m r (f ++ [((lstN xs f + x : Nat) : Int)])).length).sum ≤ l.length * (m + 1) ^ r := by
      intro l
      induction l with
      | nil => simp
      | cons a l ihl =>
        rw [List.map_cons, List.sum_cons, List.length_cons, Nat.add_mul, Nat.one_mul]
        have := ih (f ++ [((lstN xs f + a : Nat) : Int)])
        omega
    have h := key (List.range (m + 1 - lstN xs f))
    rw [List.length_range] at h
    refine Nat.le_trans h ?_
    rw [Nat.pow_succ, Nat.mul_comm]
    exact Nat.mul_le_mul_left _ (by omega)
theorem lbF_small {xs : List Int} {m r : Nat} (f : List Int) (hm : m ≤ 4) (hr : r ≤ 6) : (lbF xs m r f).length ≤ 15625 := by
  have h1 := lbF_len xs m r f
  have h2 : (m + 1) ^ r ≤ 5 ^ r := Nat.pow_le_pow_left (by omega) r
  have h3 : 5 ^ r ≤ 5 ^ 6 := Nat.pow_le_pow_right (by omega) hr
  have h4 : (5 : Nat) ^ 6 = 15625 := by decide
  omega
theorem preF_small {xs : List Int} {m r : Nat} {f : List Int} {t : Nat} (ht : t ≤ m + 1 - lstN xs f) (hm : m ≤ 4) (hr : r + 1 ≤ 6) : (preF xs m r f t).length ≤ 15625 := by
  obtain ⟨l, hl⟩ := preF_le xs m r f ht
  have h := lbF_small (xs := xs) (m := m) (r := r + 1) f hm hr
  rw [preF_full, hl, List.length_append] at h
  omega
set_option maxRecDepth 100000 in
set_option maxHeartbeats 6400000 in
theorem pcAll_any (r : Nat) : ∀ (v u : Value) (xs f : List Int) (m : Nat) (w : World) (hv : Ints w v xs) (hu : Ints w u f) (hg : good xs = true) (hf : f.length + r = xs.length) (hr : ∀ j, j < f.length → 0 ≤ f.getD j 0 ∧ f.getD j 0 ≤ m) (hm : m ≤ 4) (h6 : xs.length ≤ 6),
    Calls Try.prog 56 #[.agg #[v], u, .int .i64 m] w fun (e : Ending) w' => ∃ q, e = Ending.returned q ∧ OwnSS 3 22 w' w.heap.size w'.heap.size q (lbF xs m r f) ∧ Below w.heap.size w w' := by
  induction r with
  | zero =>
    intro v u xs f m w hv hu hg hf hr hm h6
    have HU := hid hu
    have hl10 := (good_length hg).2
    obtain ⟨A, c, rfl, -⟩ := hv
    obtain ⟨B, d, rfl, -⟩ := hu
    have hfx : f.length = xs.length := by omega
    have HTk : Hid (lbF xs m 0 f = [f]) := hid (by rw [lbF])
    obtain ⟨n, hn⟩ : ∃ n, xs.length = n := ⟨_, rfl⟩
    rw [hn] at hfx hl10 ⊢
    rw [hfx] at HU ⊢
    have hfl : f.length ≤ 1048576 := by omega
    clear hg hf hr hn hfx
    go_enter Try.func56, Try.ntmps56
    go_wp2_with fail
    refine (l1OwnA_any _ f _ (HU.out.alloc _) hfl).mono ?_
    rintro e w1 ⟨q, rfl, ho, hb⟩
    have HO := hid ho
    have HB := hid (below_to (below_alloc (Below.refl _ w) _) hb)
    have hz := HB.out.size
    obtain ⟨qA, qn, qc, rfl⟩ := ho.shape3
    clear ho hb
    go_wp2
    go_ret
    refine ⟨_, rfl, ?_, below_alloc HB.out _⟩
    rw [HTk.out]
    have h1 := OwnSS.single (ts := 22) (HO.out.mono (B' := w.heap.size) (by simp)) hz
    have e : (w1.alloc (.cells #[.slice qA qn qc] 22)).heap.size = w1.heap.size + 1 := by simp
    rw [e]
    exact h1
  | succ r ih =>
    intro v u xs f m w hv hu hg hf hr hm h6
    have HV0 := hid hv
    have HU0 := hid hu
    have HG := hid hg
    have HR := hid hr
    have HIH := hid ih
    have H6 := hid h6
    have HFr := hid hf
    have hl10 := (good_length hg).2
    obtain ⟨A, c, rfl, hA⟩ := hv
    obtain ⟨B, d, rfl, hB⟩ := hu
    have hfx : f.length < xs.length := by omega
    obtain ⟨xb, xo, rfl, hxl, hxc⟩ := hA (by intro h; rw [h] at hfx; simp at hfx)
    have hcell := hxc f.length hfx
    have hok := okAt_small (good_at hg hfx) (by omega)
    obtain ⟨z0, hz0⟩ : ∃ z, xs.getD f.length 0 = z := ⟨_, rfl⟩
    rw [hz0] at hcell hok
    obtain ⟨z, rfl⟩ := Int.eq_ofNat_of_zero_le hok.1
    have HZ := hid hz0
    have HBc := hid hB
    have HSt := hid (fun k => leN_step xs f f.length k)
    have HLst := hid (lstN_int (xs := xs) (f := f))
    have HLr := hid (fun k (hk : k ≤ f.length) => leN_rng (xs := xs) (e := f.length) (g := 0) (k := k) (fun j hj => ⟨(hr j (Nat.lt_of_lt_of_le hj hk)).1, Int.le_trans (hr j (Nat.lt_of_lt_of_le hj hk)).2 (by omega)⟩) (by omega) (by omega))
    have HStop := hid (preF_full xs m r f)
    have HGo := hid (fun t => preF_succ xs m r f t)
    have HSm := hid (fun t (ht : t ≤ m + 1 - lstN xs f) => preF_small (xs := xs) (m := m) (r := r) (f := f) ht hm (by omega))
    have HSl := hid (fun g => lbF_small (xs := xs) (m := m) (r := r) g hm (by omega))
    obtain ⟨n, hn⟩ : ∃ n, xs.length = n := ⟨_, rfl⟩
    obtain ⟨i, hi⟩ : ∃ i, f.length = i := ⟨_, rfl⟩
    have HIe := hid hi
    have HNe := hid hn
    rw [hn] at HV0 hl10 hfx
    rw [hi] at HU0 hfx hcell HZ HSt HLst HLr HBc
    have hne : ((i : Int) == (n : Int)) = false := by rw [beq_eq_false_iff_ne]; omega
    rw [hn, hi]
    clear hg hf hr ih hA hB hxc hz0 hn hi
    go_enter Try.func56, Try.ntmps56
    go_wp2
    go_loop [8, 25] (fun q i' => ∃ (k : Nat) (t : Int), k ≤ i ∧ i' = .int .i64 k ∧ q = .int .i64 t ∧ Hid (leN xs f i 0 k = t)) (fun _ i' => i - (intOf i').toNat)
    case atStart => exact ⟨0, 0, Nat.zero_le _, rfl, rfl, hid rfl⟩
    case round =>
      obtain ⟨k, t, hk, rfl, rfl, HT⟩ := hrel
      by_cases hlt : k < i
      · obtain ⟨b, o, rfl, hbl, hc⟩ := HBc.out (by intro h; have := HIe.out; rw [h] at this; simp at this; omega)
        have hcf := hc k hlt
        obtain ⟨y, hy⟩ : ∃ y, f.getD k 0 = y := ⟨_, rfl⟩
        rw [hy] at hcf
        have HS := HSt.out k
        rw [HZ.out, Int.toNat_natCast, HT.out, hy] at HS
        cases hbit : z.testBit k
        · rw [hbit] at HS
          have HS2 : Hid (leN xs f i 0 (k + 1) = t) := hid HS
          have Hbit := hid hbit
          clear hbit HS hc hy
          go_wp2_with (go_at_call 38; refine (poIn_any z k (by omega) _).mono ?_; rw [Hbit.out]; rintro e w' ⟨rfl, rfl⟩)
          go_round
          case rel => exact ⟨k + 1, t, by omega, by go_num, rfl, HS2⟩
          case measure => simp [intOf]; omega
        · rw [hbit] at HS
          have HS2 : Hid (leN xs f i 0 (k + 1) = max t y) := hid HS
          have Hbit := hid hbit
          clear hbit HS hc hy
          go_wp2_with (go_at_call 38; refine (poIn_any z k (by omega) _).mono ?_; rw [Hbit.out]; rintro e w' ⟨rfl, rfl⟩)
          go_wp2_with (go_at_call 70; refine (l1Most_any t y _).mono ?_; rintro e w' ⟨rfl, rfl⟩)
          go_round
          case rel => exact ⟨k + 1, _, by omega, by go_num, rfl, HS2⟩
          case measure => simp [intOf]; omega
      · have hki : k = i := by omega
        have HLe : Hid (t = ((lstN xs f : Nat) : Int)) := hid (by rw [HLst.out]; have := HT.out; rw [hki] at this; exact this.symm)
        have hlr := HLr.out k (by omega)
        rw [HT.out] at hlr
        rw [HLe.out] at hlr ⊢
        obtain ⟨L, hL⟩ : ∃ L, lstN xs f = L := ⟨_, rfl⟩
        rw [hL] at hlr HStop HGo HSm ⊢
        clear hlt hL hcell hne
        go_wp2
        go_loopw [11, 12] (fun q x wr => ∃ t : Nat, L + t ≤ max L (m + 1) ∧ x = .int .i64 ((L + t : Nat) : Int) ∧ OwnSS 3 22 wr (w.heap.size + 1) wr.heap.size q (preF xs m r f t) ∧ Below (w.heap.size + 1) (w.alloc (.cells #[.slice (some ⟨xb, xo, none⟩) n c] 28)) wr) (fun _ x _ => m + 1 - (intOf x).toNat)
        case atStart => exact ⟨0, Nat.le_max_left _ _, rfl, (by
          have e : preF xs m r f 0 = [] := by simp [preF]
          rw [e]; exact OwnSS.nil _ _ _ _ _), Below.refl _ _⟩
        case round =>
          obtain ⟨t, ht, rfl, ho, hb⟩ := hrel
          have HO := hid ho
          have HB := hid hb
          have hbx : wr.cell? ⟨w.heap.size, 0, none⟩ = some (.slice (some ⟨xb, xo, none⟩) n c) := box_cell hb 0
          have hz1 : w.heap.size + 1 ≤ wr.heap.size := by have := hb.size; simp at this; omega
          obtain ⟨oA, oc, rfl, -⟩ := ho.rows
          have HTm : Hid (t ≤ m + 1 - L) := hid (by
            by_cases e : m + 1 ≤ L
            · have : t = 0 := by omega
              omega
            · omega)
          have hlenM := HSm.out t HTm.out
          obtain ⟨P, hP⟩ : ∃ P, preF xs m r f t = P := ⟨_, rfl⟩
          have HPe := hid hP
          have HGo2 := hid (HGo.out t)
          rw [hP] at HO HGo2 hlenM ⊢
          clear ho hb hP
          by_cases hxm : L + t ≤ m
          · have hxI : ((L + t : Nat) : Int) ≤ (m : Int) := by omega
            have HGo3 := hid HGo2.out
            obtain ⟨x, hx⟩ : ∃ x, L + t = x := ⟨_, rfl⟩
            have HXe := hid hx
            rw [hx] at HGo3 hxI hxm ⊢
            obtain ⟨p, hp⟩ : ∃ p, P.length = p := ⟨_, rfl⟩
            have HPl := hid hp
            rw [hp] at hlenM ⊢
            have HOp : Hid (OwnSS 3 22 wr (w.heap.size + 1) wr.heap.size (.slice oA p oc) P) := hid (by have h := HO.out; rw [hp] at h; exact h)
            clear hx hp ht
            have HUw := hid (HU0.out.below (below_box HB.out))
            have HVw := hid (HV0.out.below (below_box HB.out))
            have hx12 : x ≤ 12 := by omega
            have hfl : f.length ≤ 1048576 := by rw [HIe.out]; omega
            have HFl := hid hfl
            have HLt : Hid (f.length < 1048576) := hid (by rw [HIe.out]; omega)
            have HF1 : Hid ((f ++ [(x : Int)]).length + r = xs.length) := hid (by rw [List.length_append, List.length_singleton]; have := HFr.out; omega)
            have HRx : Hid (∀ j, j < (f ++ [(x : Int)]).length → 0 ≤ (f ++ [(x : Int)]).getD j 0 ∧ (f ++ [(x : Int)]).getD j 0 ≤ m) := hid (fun j hj => by
              rw [List.length_append, List.length_singleton] at hj
              by_cases e : j = f.length
              · subst e; rw [getD_snoc_eq]; omega
              · rw [getD_snoc_lt (by omega)]; exact HR.out j (by omega))
            have HNs : Hid (1 ≤ (lbF xs m r (f ++ [(x : Int)])).length) := hid (lbF_some (xs := xs) (m := m) r (f ++ [(x : Int)]) (by have := HF1.out; omega) (fun j hj => (HRx.out j hj).2))
            have HTl := hid (HSl.out (f ++ [(x : Int)]))
            obtain ⟨ms, hms⟩ : ∃ ms, lbF xs m r (f ++ [(x : Int)]) = ms := ⟨_, rfl⟩
            have HMs := hid hms
            rw [hms] at HNs HTl HGo3
            have HW0 : Hid (Below wr.heap.size wr wr.drew) := hid (below_drewN (Below.refl _ _) 1)
            have HBw : Hid (∀ W, Below wr.heap.size wr W → W.cell? ⟨w.heap.size, 0, none⟩ = some (.slice (some ⟨xb, xo, none⟩) n c)) := hid (fun W hW => (hW.cell (p := ⟨w.heap.size, 0, none⟩) (by show w.heap.size < wr.heap.size; omega)).trans hbx)
            have HW1 : Hid (Below wr.heap.size wr (wr.alloc (.cells #[.int .i64 ((x : Nat) : Int)] 3)).drew) := hid (below_drewN (below_alloc (Below.refl _ wr) _) 1)
            have HX1 : Hid (Blk (wr.alloc (.cells #[.int .i64 ((x : Nat) : Int)] 3)).drew wr.heap.size 3 #[.int .i64 ((x : Nat) : Int)]) := hid (Blk.new wr 3 #[.int .i64 ((x : Nat) : Int)])
            have HZ1 : Hid (wr.heap.size ≤ (wr.alloc (.cells #[.int .i64 ((x : Nat) : Int)] 3)).drew.heap.size) := hid (by show wr.heap.size ≤ (wr.alloc _).heap.size; simp)
            have hbx0 := HBw.out _ HW0.out
            have hbx2 := HBw.out _ HW1.out
            have hbx5 := HBw.out _ (below_alloc (Below.refl _ wr) (.cells #[.int .i64 ((x : Nat) : Int)] 3))
            have hwlt : w.heap.size < wr.heap.size := by omega
            have hbx1 := HBw.out _ (HW0.out.alloc (Nat.le_refl _) (.cells #[.int .i64 ((x : Nat) : Int)] 3))
            clear hms hfl
            go_wp2_with fail
            go_region_law (first
              | ((with_reducible show if Region.wanted { dst := _, op := Op.call { callee := Callee.value _, args := _, argTypes := _ }, type := _, pos := _, after := _, guard := _ } _ = true then _ else _); go_simp; (first
                  | (go_at_call 69; refine (l1OwnA_any _ f _ (HUw.out.below (by first | exact HW0.out | exact HW0.out.alloc (Nat.le_refl _) _ | exact HW1.out)) HFl.out).mono ?_; rintro e w3 ⟨q, rfl, ho3, hb3⟩; obtain ⟨qA, qc, rfl, -⟩ := ho3.ints; have HO3 : Hid (OwnI 3 w3 wr.heap.size (.slice qA f.length qc) f) := hid (ho3.mono (by first | exact Nat.le_refl _ | exact HZ1.out)); have HB3 : Hid (Below wr.heap.size wr w3) := hid (by first | exact below_to HW0.out hb3 | exact below_to (HW0.out.alloc (Nat.le_refl _) _) hb3 | exact below_to HW1.out hb3); (try have HX3 : Hid (Blk w3 wr.heap.size 3 #[.int .i64 ((x : Nat) : Int)]) := hid (HX1.out.below hb3 (by show wr.heap.size < (wr.alloc _).heap.size; simp))); have hbx3 := HBw.out _ HB3.out; have hbx6 := HBw.out _ (HB3.out.alloc HB3.out.size (.cells #[.int .i64 ((x : Nat) : Int)] 3)); have hwl3 : w.heap.size < w3.heap.size := Nat.lt_of_lt_of_le hwlt HB3.out.size; clear ho3)
                  | (go_at_call 56; refine (HIH.out _ _ xs (f ++ [(x : Int)]) m _ (HVw.out.below HB4.out) HO4.out.ints HG.out HF1.out HRx.out hm H6.out).mono ?_; rw [HMs.out]; rintro e w5 ⟨q5, rfl, ho5, hb5⟩; have HO5 := hid ho5; have HB5 := hid (below_to HB4.out hb5); clear ho5)))
              | (refine step_append_intS rfl _ _ 22 3 rfl Try.underlying22 Try.info3 wr.heap.size _ f ((x : Nat) : Int) rfl (by first | exact HO3.out.alloc _ | exact HO3.out) _ rfl (by first | exact Blk.new _ _ _ | exact HX3.out) HLt.out (by have := HB3.out.size; first | omega | (simp; done) | (simp; omega)) ?_; intro g' cap w4 h1 h2 h3 h4; have HO4 := hid h1; have HB4 : Hid (Below wr.heap.size wr w4) := hid ((by first | exact HB3.out | exact HB3.out.alloc HB3.out.size _ : Below wr.heap.size wr _).grown h2 (by have := HB3.out.size; first | omega | (simp; done) | (simp; omega)) (fun k hk => (HO3.out.blockLt k hk).1)); have hbx4 := HBw.out _ HB4.out; clear h1 h2 h3 h4)
              | (refine step_append_rowsN rfl _ _ 42 22 3 rfl Try.underlying42 Try.info22 (by decide) (w.heap.size + 1) wr.heap.size _ _ _ _ P ms rfl (HOp.out.below HB5.out) rfl HO5.out HNs.out HB4.out.size (by have := HB4.out.size; omega) (by have := HTl.out; have := HPl.out; omega) (by have := HB5.out.size; omega) HB5.out.size (Nat.le_refl _) ?_; intro v6 w6 h1 h2; have HO6 := hid h1; have HB6 := hid h2; clear h1 h2))
            all_goals obtain ⟨rA, rc, rfl, -⟩ := HO6.out.rows
            all_goals go_wp2
            all_goals go_roundw
            all_goals first
              | exact ⟨t + 1, by have := HXe.out; omega, by have := HXe.out; go_num, by rw [HGo3.out, ← List.length_append]; exact HO6.out, (HB.out.trans (HB5.out.mono hz1)).trans HB6.out⟩
              | (simp [intOf]; omega)
          · have hxI : ¬ ((L + t : Nat) : Int) ≤ (m : Int) := by omega
            have hTe : t = m + 1 - L := by
              have := HTm.out
              omega
            have HE : Hid (P = lbF xs m (r + 1) f) := hid (by rw [HStop.out, ← hTe, HPe.out])
            clear hTe
            go_wp2
            go_ret
            exact ⟨_, rfl, by rw [← HE.out]; exact HO.out.monoBR (Nat.le_succ _), below_box HB.out⟩
end Go.Proofs.Ytgepbekdgocnpab
