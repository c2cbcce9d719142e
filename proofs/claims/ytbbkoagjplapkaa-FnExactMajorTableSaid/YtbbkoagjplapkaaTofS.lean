/- Tableaux of linear extensions: the model. -/
import Derived.Test.YtbbkoagjplapkaaTof
import Derived.Test.YtbbkoagjplapkaaLiIs
import Derived.Test.YtbbkoagjplapkaaAddRow
namespace Go.Proofs.Ytbbkoagjplapkaa
open Go.RowKit Go.WideShapes Go.ChangeShapes
set_option linter.unusedVariables false

/-- the numbers behind the first k places -/
def filG (b : Nat) (ws : List Int) : Nat → Nat → Nat → Int
  | 0 => fun _ _ => 0
  | k + 1 => updF (filG b ws k) (wN ws k / b) (wN ws k % b) (k : Int)
theorem filG_at {x y : Nat} {ws : List Int} (h : LinX (whereL (rectF y) (x * y)) ws) {r c : Nat} (hr : r < x) (hc : c < y) {j : Nat} (hj : j < x * y) (hj2 : wN ws j = y * r + c) (k : Nat) (hk : k ≤ x * y) : filG y ws k r c = if j < k then (j : Int) else 0 := by
  induction k with
  | zero => rw [if_neg (by omega)]; rfl
  | succ k ih =>
    unfold filG updF
    by_cases e : r = wN ws k / y ∧ c = wN ws k % y
    · rw [if_pos e]
      have h1 : y * r + c = wN ws k := by rw [e.1, e.2]; exact Nat.div_add_mod _ _
      have : j = k := by
        rcases Nat.lt_trichotomy j k with h2 | h2 | h2
        · exact absurd (by rw [hj2, h1]) (h.ne h2 (by rw [rect_len]; omega))
        · exact h2
        · exact absurd (by rw [hj2, h1]) (h.ne h2 (by rw [rect_len]; omega))
      subst this
      rw [if_pos (by omega)]
    · rw [if_neg e, ih (by omega)]
      have : j ≠ k := by
        rintro rfl
        apply e
        rw [hj2, Nat.mul_add_div (by omega), Nat.div_eq_of_lt hc, Nat.add_zero, Nat.mul_add_mod, Nat.mod_eq_of_lt hc]
        exact ⟨rfl, rfl⟩
      by_cases h2 : j < k
      · rw [if_pos h2, if_pos (by omega)]
      · rw [if_neg h2, if_neg (by omega)]
theorem filG_full {x y : Nat} {ws : List Int} (h : LinX (whereL (rectF y) (x * y)) ws) : gridL x y (filG y ws (x * y)) = gridL x y (tofF y ws) := by
  refine gridL_congr fun r c hr hc => ?_
  obtain ⟨j, hj, hj2⟩ := h.surj (e := y * r + c) (by rw [rect_len]; exact cell_lt hr hc)
  have h1 := h.idx hj
  rw [rect_len] at hj
  rw [filG_at h hr hc hj hj2 _ (Nat.le_refl _), if_pos hj]
  unfold tofF
  rw [← hj2, h1]
set_option maxRecDepth 100000 in
set_option maxHeartbeats 3200000 in
theorem shRows_any (x y : Nat) (u : Value) (ws : List Int) (w : World) (hu : Ints w u ws) (h1 : 1 ≤ x) (h2 : x ≤ 10) (h3 : 1 ≤ y) (h4 : y ≤ 10) (h5 : x * y ≤ 10) (hX : LinX (whereL (rectF y) (x * y)) ws) :
    Calls Try.prog 54 #[.int .i64 (x : Int), .int .i64 (y : Int), u] w fun (r : Ending) w' => ∃ q, r = Ending.returned q ∧ OwnSS 3 27 w' w.heap.size w'.heap.size q (gridL x y (tofF y ws)) ∧ Below w.heap.size w w' := by
  have hlen := hX.len
  rw [rect_len] at hlen
  have HFull := hid (filG_full hX)
  have HRng := hid (fun k (hk : k < x * y) => hX.rng k (by rw [rect_len]; exact hk))
  rw [rect_len] at HRng
  obtain ⟨uA, uc, rfl, hA⟩ := hu
  have HA := hid hA
  have HLen : Hid (ws = [] → False) := hid (fun h : ws = [] => by rw [h] at hlen; simp at hlen; have := Nat.mul_pos h1 h3; omega)
  have hmk := run_make_row' (P := Try.prog) 27 3 (.int .i64 0) 8 Try.underlying27 Try.info3 rfl .i64 .i64 y (by omega) (by omega)
  have HMk := hid hmk
  obtain ⟨n, hn⟩ : ∃ n, x * y = n := ⟨_, rfl⟩
  rw [hn] at HFull HRng hlen h5
  rw [hlen] at HA ⊢
  have HN := hid hn
  clear hA hX hlen hmk hn
  go_enter Try.func54, Try.ntmps54
  go_wp2
  go_loopw [7, 8] (fun out i wr => ∃ r : Nat, r ≤ x ∧ i = .int .i64 r ∧ OwnSS 3 27 wr w.heap.size wr.heap.size out (rowsF r fun _ => rowL y fun _ => 0) ∧ Below w.heap.size w wr) (fun _ i _ => x - (intOf i).toNat)
  case atStart => exact ⟨0, Nat.zero_le _, rfl, OwnSS.nil _ _ _ _ _, Below.refl _ _⟩
  case round =>
    obtain ⟨r, hr, rfl, ho, hb⟩ := hrel
    have HO := hid ho
    have Hb := hid hb
    obtain ⟨oA, oc, rfl, -⟩ := ho.rows
    rw [rowsF_length] at HO ⊢
    have hz := hb.size
    clear ho hb
    by_cases hlt : r < x
    · have hmk := HMk.out
      have HRS := hid (rowsF_succ r (fun _ => rowL y fun _ => 0))
      have HNw : Hid (OwnI 3 (wr.alloc (.cells (madeCells #[.int .i64 0] y) 3)) w.heap.size (.slice (some ⟨wr.heap.size, 0, none⟩) y y) (rowL y fun _ => 0)) := hid (by
        have h := (Blk.new wr 3 (Vals (rowL y fun _ => 0))).own (B := w.heap.size) hz (by rw [rowL_length]; omega)
        rw [rowL_length] at h
        rw [Vals_made, ← rowL_zero]; exact h)
      have HO2 := hid (HO.out.below (below_alloc (Below.refl _ wr) (.cells (madeCells #[.int .i64 0] y) 3)))
      have HOb := hid (fun k (hk : (Value.slice (some ⟨wr.heap.size, 0, none⟩) y y).ownBlock = some k) => (show wr.heap.size ≤ k by simp only [Value.ownBlock, Option.some.injEq] at hk; omega))
      have hz3 : w.heap.size ≤ (wr.alloc (.cells (madeCells #[.int .i64 0] y) 3)).heap.size := by simp; omega
      have HSx : Hid (Value.slice (some ⟨wr.heap.size + 1, 0, none⟩) 1 1 = .slice (some ⟨(wr.alloc (.cells (madeCells #[.int .i64 0] y) 3)).heap.size, 0, none⟩) 1 1) := hid (by simp)
      have hz4 : wr.heap.size ≤ (wr.alloc (.cells (madeCells #[.int .i64 0] y) 3)).heap.size := by simp
      go_wp2_with (at_builtin; refine wpList_append_row rfl _ _ 22 27 3 rfl Try.underlying22 Try.info27 (by decide) w.heap.size wr.heap.size _ _ (rowsF r fun _ => rowL y fun _ => 0) (rowL y fun _ => 0) rfl HO2.out HNw.out HOb.out rfl HSx.out (by rw [rowsF_length]; omega) hz3 hz4 ?_; intro u5 w5 ho5 hb5)
      go_roundw
      case rel => exact ⟨r + 1, by omega, by go_num, by rw [HRS.out]; exact ho5, (Hb.out.alloc hz _).trans hb5⟩
      case measure => simp [intOf]; omega
    · have Hr := hid (show r = x by omega)
      have hlt' : ¬ (r : Int) < (x : Int) := by omega
      have HO3 : Hid (OwnSS 3 27 wr w.heap.size wr.heap.size (.slice oA x oc) (gridL x y (filG y ws 0))) := hid (by have h := HO.out; rw [Hr.out] at h; exact h)
      rw [Hr.out]
      obtain ⟨W1, rfl⟩ : ∃ W, W = wr := ⟨wr, rfl⟩
      clear hlt HO
      go_wp2
      go_loopw [23] (fun i wi => ∃ k : Nat, k ≤ n ∧ i = .int .i64 k ∧ OwnSS 3 27 wi w.heap.size W1.heap.size (.slice oA x oc) (gridL x y (filG y ws k)) ∧ Below w.heap.size w wi ∧ W1.heap.size ≤ wi.heap.size) (fun i _ => n - (intOf i).toNat)
      case atStart => exact ⟨0, Nat.zero_le _, rfl, HO3.out, Hb.out, Nat.le_refl _⟩
      case round =>
        obtain ⟨k, hk, rfl, ho, hb, hz1⟩ := hrel
        have HOk := hid ho
        have Hbk := hid hb
        clear ho hb
        by_cases hkn : k < n
        · obtain ⟨b, o, rfl, hbl, hc⟩ := HA.out (fun h => HLen.out h)
          have hcell := (Hbk.out.cell (p := ⟨b, o + k, none⟩) hbl).trans (hc k hkn)
          have hrg := HRng.out k hkn
          rw [hrg.1] at hcell
          have HF : Hid (filG y ws (k + 1) = updF (filG y ws k) (wN ws k / y) (wN ws k % y) (k : Int)) := hid rfl
          obtain ⟨e, he⟩ : ∃ e, wN ws k = e := ⟨_, rfl⟩
          rw [he] at hcell hrg HF
          have hen := hrg.2
          have hqx : e / y < x := by rw [Nat.div_lt_iff_lt_mul (by omega), HN.out]; exact hen
          have hmy : e % y < y := Nat.mod_lt _ (by omega)
          have e1 : (e : Int) / (y : Int) = ((e / y : Nat) : Int) := by simp
          have e2 : (e : Int) % (y : Int) = ((e % y : Nat) : Int) := by simp
          obtain ⟨q, hq⟩ : ∃ q, e / y = q := ⟨_, rfl⟩
          obtain ⟨m, hm⟩ : ∃ m, e % y = m := ⟨_, rfl⟩
          rw [hq] at hqx e1 HF
          rw [hm] at hmy e2 HF
          have f1 : (e : Int).tdiv (y : Int) = (q : Int) := by rw [Int.tdiv_eq_ediv_of_nonneg (by omega)]; exact e1
          have f2 : (e : Int).tmod (y : Int) = (m : Int) := by rw [Int.tmod_eq_emod_of_nonneg (by omega)]; exact e2
          have hb0 : ((y : Int) == 0) = false := by rw [beq_eq_false_iff_ne]; omega
          have hb3 : ¬ ((y : Int) = 0) := by omega
          have hb4 : ¬ (y = 0) := by omega
          have w1 : IntKind.i64.wrap (q : Int) = (q : Int) := IntWalk.i64_in _ (by omega)
          have w2 : IntKind.i64.wrap (m : Int) = (m : Int) := IntWalk.i64_in _ (by omega)
          have hqi : (q : Int) < (x : Int) := by omega
          have hmi : (m : Int) < (y : Int) := by omega
          have hgl := gridL_length x y (filG y ws k)
          have hgr : ((gridL x y (filG y ws k)).getD q []).length = y := by rw [gridL_getD hqx, rowL_length]
          obtain ⟨o', cv', g, cg, hsh, hcr, -, -, hBg, hgl2, -, hcells, hfz, -⟩ := HOk.out.cells (by decide) (r := q) (by omega) (by omega)
          injection hsh with hsh hsh2 hsh3
          subst hsh
          have HSt := hid (HOk.out.store (by decide) (r := q) (by omega) (by omega) hcr m (k : Int) (by omega))
          rw [gridL_getD hqx, gridL_set _ hqx hmy] at HSt
          rw [hgr] at hcr hcells
          have t1 := hcells m hmy
          have t2 := hfz m
          obtain ⟨z, hz3⟩ : ∃ z, ((gridL x y (filG y ws k)).getD q []).getD m 0 = z := ⟨_, rfl⟩
          rw [hz3] at t1
          clear hc he hq hm hcells hfz hz3 hsh2 hsh3 hgl hgr hrg
          go_wp2
          go_region
          go_wp2
          go_roundw
          case rel => exact ⟨k + 1, by omega, by go_num, by rw [HF.out]; exact HSt.out.drew, (Hbk.out.setCell (p := ⟨g, m, none⟩) hBg _).drew, by simpa [World.setCell] using hz1⟩
          case measure => simp [intOf]; omega
        · have Hk := hid (show k = n by omega)
          have hkn' : ¬ (k : Int) < (n : Int) := by omega
          clear hkn
          go_wp2
          go_ret
          exact ⟨_, rfl, by rw [← HFull.out, ← Hk.out]; exact HOk.out.mono hz1, Hbk.out⟩
set_option maxHeartbeats 800000 in
theorem specTableauOf_any (a b : Int) (u : Value) (ws : List Int) (w : World) (wa : (Lit.int .i64 a).wf = true) (wb : (Lit.int .i64 b).wf = true) (hu : Ints w u ws) (hm : ws.length ≤ 1048576) :
    Calls Try.prog 20 #[.int .i64 a, .int .i64 b, u] w fun (r : Ending) w' => ∃ q, r = Ending.returned (.tuple #[q, .bool (okTO a b ws)]) ∧ OwnSS 3 27 w' w.heap.size w'.heap.size q (ansTO a b ws) ∧ SSmall (ansTO a b ws) ∧ Below w.heap.size w w' := by
  have HU := hid hu
  have HL := hid (ansTO_small a b ws)
  have HS := hid (shSides_any a b w)
  clear wa wb hu
  cases hs : sides a b
  · have HO := hid (okTO_no1 (ws := ws) hs)
    rw [hs] at HS
    clear hs
    go_enter Try.func20, Try.ntmps20
    go_wp2_with (go_at_call 51; refine HS.out.mono ?_; rintro e w' ⟨rfl, rfl⟩)
    go_ret2
    exact ⟨_, ret_vbT HO.out.symm, by rw [ansTO_no HO.out]; exact OwnSS.nil _ _ _ _ _, HL.out, Below.refl _ _⟩
  · obtain ⟨x, y, rfl, rfl, h1, h2, h3, h4, h5⟩ := sides_nat hs
    have HSd := hid hs
    have HRe := hid (rectL_yes hs)
    have HGood : Hid (good (whereL (rectF y) (x * y)) = true) := hid (rectGood h1 h2 h3 h4 h5)
    have H5 := hid h5
    rw [hs] at HS
    clear hs h5
    go_enter Try.func20, Try.ntmps20
    go_wp2_with fail
    refine HS.out.mono ?_
    rintro e w' ⟨rfl, rfl⟩
    go_wp2_with fail
    refine (poRectangle_any x y _ h1 h2 h3 h4 H5.out).mono ?_
    rintro e w1 ⟨p, rfl, hp, hb⟩
    have HP := hid hp.ints
    have HB := hid hb
    clear hp hb
    go_wp2_with fail
    refine (liIs_any _ _ (whereL (rectF y) (x * y)) ws _ HP.out (HU.out.below HB.out) HGood.out hm).mono ?_
    rintro e w2 ⟨rfl, hb⟩
    have HB2 := hid (below_to HB.out hb)
    clear hb
    cases hq : orderB (whereL (rectF y) (x * y)) ws
    · have HO := hid (okTO_no2 (a := x) (b := y) (ws := ws) (by rw [HRe.out]; exact hq))
      clear hq
      go_wp2
      go_ret2
      exact ⟨_, ret_vbT HO.out.symm, by rw [ansTO_no HO.out]; exact OwnSS.nil _ _ _ _ _, HL.out, HB2.out⟩
    · have HO := hid (okTO_yes (ws := ws) HSd.out (by rw [HRe.out]; exact hq))
      have HX := hid (orderB_LinX hq)
      clear hq
      go_wp2_with fail
      refine (shRows_any x y _ ws _ (HU.out.below HB2.out) h1 h2 h3 h4 H5.out HX.out).mono ?_
      rintro e w3 ⟨q, rfl, ho, hb⟩
      obtain ⟨qA, qn, qc, rfl⟩ := ho.shape3
      have HOw := hid (ho.monoG HB2.out.size)
      have HB3 := hid (below_to HB2.out hb)
      clear ho hb
      go_wp2
      go_ret2
      exact ⟨_, ret_vbT HO.out.symm, by rw [ansTO_yes HO.out]; exact HOw.out, HL.out, HB3.out⟩
end Go.Proofs.Ytbbkoagjplapkaa
