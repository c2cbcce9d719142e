/- PromoteIdeal, PromoteTimes. -/
import Derived.Test.YtbjidoihnbjjdabProm
namespace Go.Proofs.Ytbjidoihnbjjdab
open Go.RowKit Go.WideShapes Go.ChangeShapes
set_option linter.unusedVariables false

def okPI (a b s : Int) : Bool := sides a b && okIdeal (rectL a b) s
def okPT (a b s k : Int) : Bool := okPI a b s && (decide (0 ≤ k) && decide (k ≤ 1000))
def promF (a b : Int) (s : Nat) : Nat := togW (rectL a b) s (promW a.toNat b.toNat)
def ansPI (a b s : Int) : Int := if okPI a b s then (promF a b s.toNat : Int) else 0
def ansPT (a b s k : Int) : Int := if okPT a b s k then (iter (promF a b) k.toNat s.toNat : Int) else 0
theorem okPI_no1 {a b s : Int} (h : sides a b = false) : okPI a b s = false := by simp [okPI, h]
theorem okPI_no2 {a b s : Int} (h : okIdeal (rectL a b) s = false) : okPI a b s = false := by simp [okPI, h]
theorem okPI_yes {a b s : Int} (h : sides a b = true) (k : okIdeal (rectL a b) s = true) : okPI a b s = true := by simp [okPI, h, k]
theorem okPT_no1 {a b s k : Int} (h : okPI a b s = false) : okPT a b s k = false := by simp [okPT, h]
theorem okPT_no2 {a b s k : Int} (h : (decide (0 ≤ k) && decide (k ≤ 1000)) = false) : okPT a b s k = false := by simp only [okPT, h, Bool.and_false]
theorem okPT_yes {a b s k : Int} (h : okPI a b s = true) (g : (decide (0 ≤ k) && decide (k ≤ 1000)) = true) : okPT a b s k = true := by simp only [okPT, h, g]; rfl
theorem ansPI_no {a b s : Int} (h : okPI a b s = false) : ansPI a b s = 0 := by simp [ansPI, h]
theorem ansPI_yes {a b s : Int} (h : okPI a b s = true) : ansPI a b s = (promF a b s.toNat : Int) := by simp [ansPI, h]
theorem ansPT_no {a b s k : Int} (h : okPT a b s k = false) : ansPT a b s k = 0 := by simp [ansPT, h]
theorem ansPT_yes {a b s k : Int} (h : okPT a b s k = true) : ansPT a b s k = (iter (promF a b) k.toNat s.toNat : Int) := by simp [ansPT, h]
theorem okPT_one (a b s : Int) : okPT a b s 1 = okPI a b s := by simp [okPT]
theorem ansPT_one (a b s : Int) : ansPT a b s 1 = ansPI a b s := by unfold ansPT ansPI; rw [okPT_one]; rfl
/-- all that is known of a rectangle and an ideal of it -/
theorem okPI_all {a b s : Int} (h : okPI a b s = true) : ∃ x y z : Nat, a = x ∧ b = y ∧ s = z ∧ 1 ≤ x ∧ x ≤ 10 ∧ 1 ≤ y ∧ y ≤ 10 ∧ x * y ≤ 10 ∧ rectL a b = whereL (rectF y) (x * y) ∧ z < 2 ^ (x * y) ∧ good (rectL a b) = true ∧ (rectL a b).length = x * y := by
  simp only [okPI, Bool.and_eq_true] at h
  obtain ⟨x, y, rfl, rfl, h1, h2, h3, h4, h5⟩ := sides_nat h.1
  obtain ⟨z, rfl, hg, hz, -⟩ := okIdeal_all h.2
  have hr := rectL_yes h.1
  have hlen : (rectL (x : Int) (y : Int)).length = x * y := by rw [hr, whereL, mkL_length]
  rw [hlen] at hz
  exact ⟨x, y, z, rfl, rfl, rfl, h1, h2, h3, h4, h5, hr, hz, hg, hlen⟩
theorem tgRectangle_any (a b s : Int) (w : World) (wa : (Lit.int .i64 a).wf = true) (wb : (Lit.int .i64 b).wf = true) :
    Calls Try.prog 74 #[.int .i64 a, .int .i64 b, .int .i64 s] w fun r w' => r = .returned (.bool (okPI a b s)) ∧ Below w.heap.size w w' := by
  cases hs : sides a b
  · have HO := hid (okPI_no1 (s := s) hs)
    have HP := hid (poSides_any a b w wa wb)
    rw [hs] at HP
    clear hs wa wb
    go_enter Try.func74, Try.ntmps74
    go_wp2_with fail
    refine HP.out.mono ?_
    rintro e w' ⟨rfl, rfl⟩
    go_wp2
    go_ret
    exact ⟨ret_bool HO.out.symm, Below.refl _ _⟩
  · obtain ⟨x, y, rfl, rfl, h1, h2, h3, h4, h5⟩ := sides_nat hs
    have HL := hid (rectL_length (x : Int) (y : Int))
    have HP := hid (poSides_any (x : Int) (y : Int) w wa wb)
    have HR := hid (poRectangle_any x y w h1 h2 h3 h4 h5)
    have HE := hid (rectL_yes hs)
    rw [hs] at HP
    rw [← HE.out] at HR
    have HOk : Hid (okPI (x : Int) (y : Int) s = okIdeal (rectL (x : Int) (y : Int)) s) := hid (by simp [okPI, hs])
    obtain ⟨xs, hx⟩ : ∃ xs, rectL (x : Int) (y : Int) = xs := ⟨_, rfl⟩
    rw [hx] at HL HR HOk
    clear hs wa wb hx HE
    go_enter Try.func74, Try.ntmps74
    go_wp2_with fail
    refine HP.out.mono ?_
    rintro e w' ⟨rfl, rfl⟩
    go_wp2_with fail
    refine HR.out.mono ?_
    rintro e w1 ⟨u, rfl, ho, hb⟩
    have HB := hid hb
    have HI := hid ho.ints
    clear hb ho
    go_wp2_with fail
    refine (tgIn_any _ xs s _ HI.out HL.out).mono ?_
    rintro e w2 ⟨rfl, hb⟩
    have HB2 := hid (below_to HB.out hb)
    clear hb
    go_wp2
    go_ret
    exact ⟨ret_bool HOk.out.symm, HB2.out⟩
theorem specPromoteIdeal_any (a b s : Int) (w : World) (wa : (Lit.int .i64 a).wf = true) (wb : (Lit.int .i64 b).wf = true) (ws : (Lit.int .i64 s).wf = true) :
    Calls Try.prog 37 #[.int .i64 a, .int .i64 b, .int .i64 s] w fun r w' => r = .returned (.tuple #[.int .i64 (ansPI a b s), .bool (okPI a b s)]) ∧ Below w.heap.size w w' := by
  have HT := hid (tgRectangle_any a b s w wa wb)
  clear wa wb ws
  go_enter Try.func37, Try.ntmps37
  go_wp2_with fail
  refine HT.out.mono ?_
  rintro e w1 ⟨rfl, hb⟩
  have HB := hid hb
  clear hb
  cases hq : okPI a b s
  · have HQ := hid hq
    clear hq
    go_wp2
    go_ret2
    exact ⟨ret_ib (ansPI_no HQ.out).symm HQ.out.symm, HB.out⟩
  · have HQ := hid hq
    have HA := hid (ansPI_yes hq)
    obtain ⟨x, y, z, rfl, rfl, rfl, h1, h2, h3, h4, h5, hr, hz, hg, hl⟩ := okPI_all hq
    have HP := hid (tgPromote_any x y z w1 h1 h2 h3 h4 h5 hz)
    rw [← hr] at HP
    clear hq hr hz hg hl h5
    go_wp2_with fail
    refine HP.out.mono ?_
    rintro e w2 ⟨rfl, hb⟩
    have HB2 := hid (below_to HB.out hb)
    clear hb
    go_wp2
    go_ret2
    exact ⟨ret_ib HA.out.symm HQ.out.symm, HB2.out⟩
set_option maxHeartbeats 800000 in
theorem specPromoteTimes_any (a b s k : Int) (w : World) (wa : (Lit.int .i64 a).wf = true) (wb : (Lit.int .i64 b).wf = true) (ws : (Lit.int .i64 s).wf = true) (wk : (Lit.int .i64 k).wf = true) :
    Calls Try.prog 39 #[.int .i64 a, .int .i64 b, .int .i64 s, .int .i64 k] w fun r w' => r = .returned (.tuple #[.int .i64 (ansPT a b s k), .bool (okPT a b s k)]) ∧ Below w.heap.size w w' := by
  have HT := hid (tgRectangle_any a b s w wa wb)
  clear wa wb ws wk
  go_enter Try.func39, Try.ntmps39
  go_wp2_with fail
  refine HT.out.mono ?_
  rintro e w1 ⟨rfl, hb⟩
  have HB := hid hb
  clear hb
  cases hq : okPI a b s
  · have HQ := hid (okPT_no1 (k := k) hq)
    clear hq
    go_wp2
    go_ret2
    exact ⟨ret_ib (ansPT_no HQ.out).symm HQ.out.symm, HB.out⟩
  · cases hk : (decide (0 ≤ k) && decide (k ≤ 1000))
    · have HO := hid (okPT_no2 (a := a) (b := b) (s := s) hk)
      have HK := hid hk
      clear hk hq
      go_wp2_with (go_at_call 44; refine (l1In_any _ _ _ _).mono ?_; rw [HK.out]; rintro e w' ⟨rfl, rfl⟩)
      go_ret2
      exact ⟨ret_ib (ansPT_no HO.out).symm HO.out.symm, HB.out⟩
    · have HO := hid (okPT_yes hq hk)
      have HK := hid hk
      have HA := hid (ansPT_yes HO.out)
      have hk2 : 0 ≤ k ∧ k ≤ 1000 := by simpa using hk
      obtain ⟨n, rfl⟩ := Int.eq_ofNat_of_zero_le hk2.1
      have hn : n ≤ 1000 := by omega
      obtain ⟨x, y, z, rfl, rfl, rfl, h1, h2, h3, h4, h5, hr, hz, hg, hl⟩ := okPI_all hq
      have HF : Hid (∀ t, t < 2 ^ (x * y) → promF (x : Int) (y : Int) t < 2 ^ (x * y)) := hid (fun t ht => by
        unfold promF
        rw [← hl] at ht ⊢
        exact togW_lt ht (by rw [hl]; exact (promW_in h2 h4).ok))
      have HP := hid (fun t W ht => tgPromote_any x y t W h1 h2 h3 h4 h5 ht)
      rw [← hr] at HP
      have HZ := hid hz
      clear hq hk hk2 hr hg hl hz h5
      go_wp2_with (go_at_call 44; refine (l1In_any _ _ _ _).mono ?_; rw [HK.out]; rintro e w' ⟨rfl, rfl⟩)
      go_loopw [2, 3] (fun q i wr => ∃ j t m : Nat, j ≤ n ∧ i = .int .i64 m ∧ m + j = n ∧ q = .int .i64 t ∧ Hid (iter (promF (x : Int) (y : Int)) j z = t) ∧ Below w.heap.size w wr) (fun _ i _ => (intOf i).toNat)
      case atStart => exact ⟨0, z, n, Nat.zero_le _, rfl, by omega, rfl, hid rfl, HB.out⟩
      case round =>
        obtain ⟨j, t, m, hj, rfl, hm, rfl, HT2, hb⟩ := hrel
        have HM := hid hm
        have HB1 := hid hb
        clear hb
        by_cases hlt : 0 < m
        · have HTl : Hid (t < 2 ^ (x * y)) := hid (by rw [← HT2.out]; exact iter_lt HF.out HZ.out j)
          have hm1 : m ≤ 1000 := by omega
          have hm2 : ((m : Int) - 1) = ((m - 1 : Nat) : Int) := by omega
          have HM1 := hid hm2
          clear hm hm2
          go_wp2_with fail
          refine (HP.out t _ HTl.out).mono ?_
          rintro e' w2 ⟨rfl, hb⟩
          have HB2 := hid (below_to HB1.out hb)
          clear hb
          go_wp2
          go_roundw
          case rel => exact ⟨j + 1, _, m - 1, by have := HM.out; omega, by rw [HM1.out], by have := HM.out; omega, rfl, hid (by rw [iter, HT2.out]; rfl), HB2.out⟩
          case measure => simp [intOf]; omega
        · have hjn : j = n := by omega
          clear hm
          go_wp2
          go_ret2
          exact ⟨ret_ib (by rw [HA.out, ← HT2.out, hjn]; rfl) HO.out.symm, HB1.out⟩
set_option maxHeartbeats 1600000 in
theorem implPromoteTimes_any (a b s k : Int) (w : World) (wa : (Lit.int .i64 a).wf = true) (wb : (Lit.int .i64 b).wf = true) (ws : (Lit.int .i64 s).wf = true) (wk : (Lit.int .i64 k).wf = true) :
    Calls Try.prog 40 #[.int .i64 a, .int .i64 b, .int .i64 s, .int .i64 k] w fun r w' => r = .returned (.tuple #[.int .i64 (ansPT a b s k), .bool (okPT a b s k)]) ∧ Below w.heap.size w w' := by
  have HT := hid (implRectangle_any a b w wa wb)
  clear wa wb ws wk
  go_enter Try.func40, Try.ntmps40
  go_wp2_with fail
  refine HT.out.mono ?_
  rintro e w1 ⟨u, rfl, ho, hl, hb⟩
  obtain ⟨uA, un, uc, rfl⟩ := ho.shape3
  have HB := hid (below_alloc hb (.cells #[.slice uA un uc] 28))
  have HV := hid (ho.ints.alloc (.cells #[.slice uA un uc] 28))
  have HAt := hid (At.new w1 (.slice uA un uc) 28)
  have hbx := HAt.out.1
  clear ho hb
  cases hs : sides a b
  · have HO := hid (okPT_no1 (k := k) (okPI_no1 (s := s) hs))
    clear hs
    go_wp2
    go_ret2
    exact ⟨ret_ib (ansPT_no HO.out).symm HO.out.symm, HB.out⟩
  · have HS := hid hs
    clear hs
    go_wp2_with fail
    refine (hasIdeal_any _ (rectL a b) s _ HV.out hl).mono ?_
    rintro e w2 ⟨rfl, hb⟩
    have HB2 := hid (below_to HB.out hb)
    have HV2 := hid (HV.out.below hb)
    have HA2 := hid (HAt.out.below hb)
    clear hb hbx
    cases hi : okIdeal (rectL a b) s
    · have HO := hid (okPT_no1 (k := k) (okPI_no2 (a := a) (b := b) hi))
      clear hi
      go_wp2
      go_ret2
      exact ⟨ret_ib (ansPT_no HO.out).symm HO.out.symm, HB2.out⟩
    · have HI := hid (okPI_yes HS.out hi)
      clear hi
      by_cases h0 : k < 0
      · have HO := hid (okPT_no2 (a := a) (b := b) (s := s) (k := k) (by rw [Bool.eq_false_iff]; simp only [ne_eq, Bool.and_eq_true, decide_eq_true_eq]; omega))
        go_wp2
        go_ret2
        exact ⟨ret_ib (ansPT_no HO.out).symm HO.out.symm, HB2.out⟩
      · by_cases h1000 : 1000 < k
        · have HO := hid (okPT_no2 (a := a) (b := b) (s := s) (k := k) (by rw [Bool.eq_false_iff]; simp only [ne_eq, Bool.and_eq_true, decide_eq_true_eq]; omega))
          go_wp2
          go_ret2
          exact ⟨ret_ib (ansPT_no HO.out).symm HO.out.symm, HB2.out⟩
        · have HO := hid (okPT_yes HI.out (show (decide (0 ≤ k) && decide (k ≤ 1000)) = true by simp only [Bool.and_eq_true, decide_eq_true_eq]; omega))
          have HA := hid (ansPT_yes HO.out)
          obtain ⟨n, rfl⟩ := Int.eq_ofNat_of_zero_le (show 0 ≤ k by omega)
          have hn : n ≤ 1000 := by omega
          obtain ⟨x, y, z, rfl, rfl, rfl, h1, h2, h3, h4, h5, hr, hz, hg, hlx⟩ := okPI_all HI.out
          have HG := hid hg
          have HZ : Hid (z < 2 ^ (rectL (x : Int) (y : Int)).length) := hid (by rw [hlx]; exact hz)
          have HW : Hid (inW (rectL (x : Int) (y : Int)).length (promW x y) = true) := hid (by rw [hlx]; exact (promW_in h2 h4).ok)
          have hwl := (promW_in h2 h4).len
          have hwl2 : (promW x y).length ≤ 1048576 := by omega
          have hbx2 := HA2.out.1
          clear hr hz hg hlx hwl
          go_wp2_with fail
          go_region_with (first | (go_at_call 77; refine (promotionOf_any x y _ h1 h2 h3 h4 h5).mono ?_; rintro e w3 ⟨u3, rfl, ho3, hb3⟩; have H3 := hid (below_to HB2.out.drew hb3); have HV3 := hid (HV2.out.drew.below hb3); have HU3 := hid ho3.ints; have hbx3 := (HA2.out.drew.below hb3).1; clear hb3 ho3) | (go_at_call 47; refine (repeatedWord_any _ _ _ (promW x y) z n _ HV3.out HG.out HZ.out hn HU3.out HW.out hwl2).mono ?_; rintro e w4 ⟨rfl, hb4⟩; have H4 := hid (below_to H3.out hb4); clear hb4))
          all_goals go_wp2
          all_goals go_ret2
          all_goals exact ⟨ret_ib (by rw [HA.out]; rfl) HO.out.symm, H4.out⟩
theorem implPromoteIdeal_any (a b s : Int) (w : World) (wa : (Lit.int .i64 a).wf = true) (wb : (Lit.int .i64 b).wf = true) (ws : (Lit.int .i64 s).wf = true) :
    Calls Try.prog 38 #[.int .i64 a, .int .i64 b, .int .i64 s] w fun r w' => r = .returned (.tuple #[.int .i64 (ansPI a b s), .bool (okPI a b s)]) ∧ Below w.heap.size w w' := by
  have HT := hid (implPromoteTimes_any a b s 1 w wa wb ws (by decide))
  rw [okPT_one, ansPT_one] at HT
  clear wa wb ws
  go_enter Try.func38, Try.ntmps38
  go_wp2_with fail
  refine HT.out.mono ?_
  rintro e w1 ⟨rfl, hb⟩
  have HB := hid hb
  clear hb
  go_wp2
  go_ret2
  exact ⟨rfl, HB.out⟩
end Go.Proofs.Ytbjidoihnbjjdab
