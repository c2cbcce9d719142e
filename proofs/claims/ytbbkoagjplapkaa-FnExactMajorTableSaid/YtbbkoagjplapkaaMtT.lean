/- Tables of major numbers: the model's walk. -/
import Derived.Test.YtbbkoagjplapkaaMtS
namespace Go.Proofs.Ytbbkoagjplapkaa
open Go.RowKit Go.WideShapes Go.ChangeShapes
set_option linter.unusedVariables false

theorem undSS : Try.prog.underlying 65 = some (.slice 22) := by kernel_rfl
theorem infoSS : (Try.prog.info? 22).map (fun i => (i.zero, i.size, i.bytes)) = some (some (.slice none 0 0), 1, 24) := by kernel_rfl
theorem cell_zeroT {w : World} {g N : Nat} {t : TypeId} {xs : List Int} (h : Blk w g t (Vals (mkL N (endG xs 0)))) (hN : 0 < N) : w.cell? ⟨g, 0, none⟩ = some (.int .i64 (ends xs 0 : Nat)) := by
  rw [h.cell, Vals_get (by rw [mkL_length]; exact hN), mkL_getD hN, endG_at (Nat.two_pow_pos _)]
set_option maxRecDepth 100000 in
set_option maxHeartbeats 3200000 in
theorem shAll_any (x y : Nat) (w : World) (h1 : 1 ≤ x) (h2 : x ≤ 10) (h3 : 1 ≤ y) (h4 : y ≤ 10) (h5 : x * y ≤ 10) :
    Calls Try.prog 75 #[.int .i64 (x : Int), .int .i64 (y : Int)] w fun (r : Ending) w' => ∃ q, r = Ending.returned q ∧ OwnT 3 27 22 w.heap.size w' q (fun k => gridL x y (tofF y (unrL (whereL (rectF y) (x * y)) k))) (ends (whereL (rectF y) (x * y)) 0) ∧ Below w.heap.size w w' := by
  have HR := hid (poRectangle_any x y (w.alloc (.cells #[.slice none 0 0] 52)) h1 h2 h3 h4 h5)
  have hgood := rectGood h1 h2 h3 h4 h5
  have hcnt := rect_cnt h1 h2 h3 h4 h5
  have HRows := hid (fun ws u W hu hX => shRows_any x y u ws W hu h1 h2 h3 h4 h5 hX)
  have hlr := rect_len x y
  obtain ⟨xs, hxs⟩ : ∃ xs, whereL (rectF y) (x * y) = xs := ⟨_, rfl⟩
  have HR' := hid (fun W => poRectangle_any x y W h1 h2 h3 h4 h5)
  rw [hxs] at hgood hcnt hlr HRows HR'
  rw [hxs]
  have HG := hid hgood
  have hl10 := (good_length hgood).2
  have hN2 := two_pow_le xs.length hl10
  obtain ⟨N, hN⟩ : ∃ N, 2 ^ xs.length = N := ⟨_, rfl⟩
  rw [hN] at hN2
  have HNe := hid hN
  obtain ⟨m, hm⟩ : ∃ m, ends xs 0 = m := ⟨_, rfl⟩
  have HM := hid hm
  rw [hm] at hcnt
  rw [hm]
  have HXl : Hid (xs.length ≤ 10) := hid hl10
  clear hgood hlr hxs HR hN hm hl10
  go_enter Try.func75, Try.ntmps75
  go_wp2_with fail
  refine (HR'.out _).mono ?_
  rintro e w1 ⟨p, rfl, hp, hb1⟩
  obtain ⟨pA, pc, rfl, -⟩ := hp.shape
  obtain ⟨pn, hpn⟩ : ∃ x, xs.length = x := ⟨_, rfl⟩
  rw [hpn] at hp ⊢
  have HB := hid (below_alloc hb1 (.cells #[.slice pA pn pc] 52))
  have HP := hid (hp.ints.alloc (.cells #[.slice pA pn pc] 52))
  have A5 := hid (At.new w1 (.slice pA pn pc) 52)
  have t0 := A5.out.1
  obtain ⟨W1, hW1⟩ : ∃ W1 : World, W1 = w1.alloc (.cells #[.slice pA pn pc] 52) := ⟨_, rfl⟩
  rw [← hW1] at HB HP A5
  clear hp hb1 hpn
  go_wp2_with fail
  rw [← hW1]
  clear hW1 t0
  refine (liCounts_any _ xs N W1 HP.out HG.out HNe.out).mono ?_
  rintro e w2 ⟨g, rfl, hT, hg, hb2⟩
  have hc := cell_zeroT hT (by omega)
  rw [HM.out] at hc
  have HT := hid hT
  have HC := hid hc
  have HB2 := hid (below_to HB.out hb2)
  have H12 := hid hb2
  have hgb : g < w2.heap.size := hT.lt
  clear hT hb2 hc
  have hNi : (0 : Int) < (N : Int) := by omega
  go_wp2
  go_loopw [7, 8] (fun out i wr => ∃ k : Nat, k ≤ m ∧ i = .int .i64 k ∧ OwnT 3 27 22 w2.heap.size wr out (fun k => gridL x y (tofF y (unrL xs k))) k ∧ Below w2.heap.size w2 wr) (fun _ i _ => m - (intOf i).toNat)
  case atStart => exact ⟨0, Nat.zero_le _, rfl, OwnT.nil _ _ _ _ _ _, Below.refl _ _⟩
  case round =>
    obtain ⟨k, hk, rfl, ho, hb⟩ := hrel
    have HO := hid ho
    have Hb := hid hb
    obtain ⟨oA, oc, rfl⟩ := ho.shape
    have hcx := (hb.cell (p := ⟨g, 0, none⟩) hgb).trans HC.out
    have hbx := ((A5.out.below H12.out).below hb).1
    have hz := hb.size
    have hzw := HB2.out.size
    clear ho hb
    by_cases hlt : k < m
    · go_wp2_with fail
      clear hbx hcx
      refine (liWith_any g N _ xs k _ ((HP.out.below H12.out).below Hb.out) (HT.out.below Hb.out hgb) HNe.out HG.out (by rw [HM.out]; exact hlt)).mono ?_
      rintro e w3 ⟨u, rfl, ho3, hb3⟩
      have HX : Hid (LinX xs (unrL xs k)) := hid (orderB_LinX (unr_orderT (by rw [HM.out]; exact hlt)))
      have HU := hid ho3.ints
      have HO3 := hid (HO.out.below hb3)
      have Hb3 := hid (below_to Hb.out hb3)
      have hz3 := hb3.size
      clear ho3 hb3
      go_wp2_with fail
      refine (HRows.out (unrL xs k) u _ HU.out HX.out).mono ?_
      rintro e w4 ⟨q, rfl, ho4, hb4⟩
      have HQ4 := hid (ho4.monoG (show w2.heap.size ≤ w3.heap.size by omega))
      have HO4 := hid (HO3.out.below hb4)
      have Hb4 := hid (below_to Hb3.out hb4)
      have hz4 := hb4.size
      obtain ⟨qA, qn, qc, rfl⟩ := ho4.shape3
      clear ho4 hb4
      go_wp2_with (at_builtin; refine wpList_append_t rfl _ _ 65 22 27 3 rfl undSS infoSS (by decide) (by decide) w2.heap.size _ _ (fun k => gridL x y (tofF y (unrL xs k))) k rfl HO4.out HQ4.out rfl rfl (by omega) (by omega) ?_; intro v5 w5 ho5 hb5)
      obtain ⟨vA, vc, rfl⟩ := ho5.shape
      have HO5 := hid ho5
      have HB5 := hid hb5
      have hb5w := HB5.out
      clear ho5 hb5
      go_roundw
      case rel => exact ⟨k + 1, by omega, by go_num, HO5.out, Hb4.out.trans HB5.out⟩
      case measure => simp [intOf]; omega
    · have Hk := hid (show k = m by omega)
      have hlt' : ¬ (k : Int) < (m : Int) := by omega
      clear hlt hbx
      go_wp2
      go_ret
      exact ⟨_, rfl, by have h := HO.out; rw [Hk.out] at h; rw [Hk.out]; exact h.monoB HB2.out.size, below_to HB2.out Hb.out⟩
end Go.Proofs.Ytbbkoagjplapkaa
