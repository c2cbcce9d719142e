/- Two lists alike: the model's l1Same, slices.Equal; DualLinear of both sides. -/
import Derived.Test.YtiodligebnnodabEndS
import Derived.BigQuiet
namespace Go.Proofs.Ytiodligebnnodab
open Go.RowKit Go.WideShapes Go.ChangeShapes
set_option linter.unusedVariables false

def sameL (xs ys : List Int) : Bool := decide (xs = ys)
theorem sameL_len {xs ys : List Int} (h : xs.length ≠ ys.length) : sameL xs ys = false := by
  unfold sameL; rw [decide_eq_false_iff_not]; rintro rfl; exact h rfl
theorem sameL_at {xs ys : List Int} {j : Nat} (h : xs.getD j 0 ≠ ys.getD j 0) : sameL xs ys = false := by
  unfold sameL; rw [decide_eq_false_iff_not]; rintro rfl; exact h rfl
theorem sameL_all {xs ys : List Int} (hl : xs.length = ys.length) (h : ∀ j, j < xs.length → xs.getD j 0 = ys.getD j 0) : sameL xs ys = true := by
  unfold sameL; rw [decide_eq_true_iff]
  refine List.ext_getElem hl fun j h1 h2 => ?_
  have := h j h1
  simpa [List.getD, h1, h2] using this
theorem l1SameL_any (v u : Value) (xs ys : List Int) (w : World) (hv : Ints w v xs) (hu : Ints w u ys) (hl : xs.length ≤ 1048576) :
    Calls Try.prog 27 #[v, u] w fun r w' => r = .returned (.bool (sameL xs ys)) ∧ Below w.heap.size w w' := by
  have HV := hid hv
  have HU := hid hu
  obtain ⟨A, c, rfl, hA⟩ := hv
  obtain ⟨A2, c2, rfl, hA2⟩ := hu
  have HA := hid hA
  have HA2 := hid hA2
  clear hA hA2
  by_cases hlen : xs.length = ys.length
  · have HLe := hid hlen
    obtain ⟨n, hn⟩ : ∃ n, xs.length = n := ⟨_, rfl⟩
    have hn2 : ys.length = n := by omega
    have HN1 := hid hn
    have HN2 := hid hn2
    rw [hn, hn2]
    rw [hn] at hl
    clear hlen hn hn2
    go_enter Try.func27, Try.ntmps27
    go_wp2
    go_loopw [13] (fun i wr => ∃ k : Nat, k ≤ n ∧ i = .int .i64 k ∧ Hid (∀ j, j < k → xs.getD j 0 = ys.getD j 0) ∧ Below w.heap.size w wr) (fun i _ => n - (intOf i).toNat)
    case atStart => exact ⟨0, Nat.zero_le _, rfl, hid (fun j hj => absurd hj (Nat.not_lt_zero _)), Below.refl _ _⟩
    case round =>
      obtain ⟨k, hk, rfl, HJ, hb⟩ := hrel
      have HB := hid hb
      clear hb
      by_cases hlt : k < n
      · obtain ⟨b, o, rfl, hbl, hc⟩ := HA.out (by intro h; have := HN1.out; simp [h] at this; omega)
        obtain ⟨b2, o2, rfl, hbl2, hc2⟩ := HA2.out (by intro h; have := HN2.out; simp [h] at this; omega)
        have hc1' := (HB.out.cell (p := ⟨b, o + k, none⟩) hbl).trans (hc k (by have := HN1.out; omega))
        have hc2' := (HB.out.cell (p := ⟨b2, o2 + k, none⟩) hbl2).trans (hc2 k (by have := HN2.out; omega))
        obtain ⟨x, hx⟩ : ∃ x, xs.getD k 0 = x := ⟨_, rfl⟩
        obtain ⟨y, hy⟩ : ∃ y, ys.getD k 0 = y := ⟨_, rfl⟩
        rw [hx] at hc1'
        rw [hy] at hc2'
        have HX := hid hx
        have HY := hid hy
        clear hc hc2 hx hy
        by_cases hxy : x = y
        · subst hxy
          have hne : (x != x) = false := by simp
          have HJ2 : Hid (∀ j, j < k + 1 → xs.getD j 0 = ys.getD j 0) := hid (fun j hj => by
            by_cases e : j = k
            · subst e; rw [HX.out, HY.out]
            · exact HJ.out j (by omega))
          go_wp2_with fail
          go_quiet (fail)
          go_wp2
          go_roundw
          case rel => exact ⟨k + 1, by omega, by go_num, HJ2, below_drewN HB.out _⟩
          case measure => simp [intOf]; omega
        · have hne : (x != y) = true := by rw [bne_iff_ne]; exact hxy
          have HF := hid (sameL_at (xs := xs) (ys := ys) (j := k) (by rw [HX.out, HY.out]; exact hxy))
          clear hxy
          go_wp2_with fail
          go_quiet (fail)
          go_wp2
          go_ret
          exact ⟨ret_bool HF.out.symm, below_drewN HB.out _⟩
      · obtain rfl : k = n := by omega
        have HT := hid (sameL_all HLe.out (fun j hj => HJ.out j (by have := HN1.out; omega)))
        go_wp2
        go_ret
        exact ⟨ret_bool HT.out.symm, HB.out⟩
  · have HF := hid (sameL_len hlen)
    have hne : ((xs.length : Int) != (ys.length : Int)) = true := by rw [bne_iff_ne]; omega
    clear hlen
    go_enter Try.func27, Try.ntmps27
    go_wp2
    go_ret
    exact ⟨ret_bool HF.out.symm, Below.refl _ _⟩
theorem equalL_any (v u : Value) (xs ys : List Int) (w : World) (hv : Ints w v xs) (hu : Ints w u ys) (hl : xs.length ≤ 1048576) :
    Calls Try.prog 52 #[v, u] w fun r w' => r = .returned (.bool (sameL xs ys)) ∧ Below w.heap.size w w' := by
  have HV := hid hv
  have HU := hid hu
  obtain ⟨A, c, rfl, hA⟩ := hv
  obtain ⟨A2, c2, rfl, hA2⟩ := hu
  have HA := hid hA
  have HA2 := hid hA2
  clear hA hA2
  by_cases hlen : xs.length = ys.length
  · have HLe := hid hlen
    obtain ⟨n, hn⟩ : ∃ n, xs.length = n := ⟨_, rfl⟩
    have hn2 : ys.length = n := by omega
    have HN1 := hid hn
    have HN2 := hid hn2
    rw [hn, hn2]
    rw [hn] at hl
    clear hlen hn hn2
    go_enter Try.func52, Try.ntmps52
    go_wp2
    go_loopw [13] (fun i wr => ∃ k : Nat, k ≤ n ∧ i = .int .i64 k ∧ Hid (∀ j, j < k → xs.getD j 0 = ys.getD j 0) ∧ Below w.heap.size w wr) (fun i _ => n - (intOf i).toNat)
    case atStart => exact ⟨0, Nat.zero_le _, rfl, hid (fun j hj => absurd hj (Nat.not_lt_zero _)), Below.refl _ _⟩
    case round =>
      obtain ⟨k, hk, rfl, HJ, hb⟩ := hrel
      have HB := hid hb
      clear hb
      by_cases hlt : k < n
      · obtain ⟨b, o, rfl, hbl, hc⟩ := HA.out (by intro h; have := HN1.out; simp [h] at this; omega)
        obtain ⟨b2, o2, rfl, hbl2, hc2⟩ := HA2.out (by intro h; have := HN2.out; simp [h] at this; omega)
        have hc1' := (HB.out.cell (p := ⟨b, o + k, none⟩) hbl).trans (hc k (by have := HN1.out; omega))
        have hc2' := (HB.out.cell (p := ⟨b2, o2 + k, none⟩) hbl2).trans (hc2 k (by have := HN2.out; omega))
        obtain ⟨x, hx⟩ : ∃ x, xs.getD k 0 = x := ⟨_, rfl⟩
        obtain ⟨y, hy⟩ : ∃ y, ys.getD k 0 = y := ⟨_, rfl⟩
        rw [hx] at hc1'
        rw [hy] at hc2'
        have HX := hid hx
        have HY := hid hy
        clear hc hc2 hx hy
        by_cases hxy : x = y
        · subst hxy
          have hne : (x != x) = false := by simp
          have HJ2 : Hid (∀ j, j < k + 1 → xs.getD j 0 = ys.getD j 0) := hid (fun j hj => by
            by_cases e : j = k
            · subst e; rw [HX.out, HY.out]
            · exact HJ.out j (by omega))
          go_wp2_with fail
          go_quiet (fail)
          go_wp2
          go_roundw
          case rel => exact ⟨k + 1, by omega, by go_num, HJ2, below_drewN HB.out _⟩
          case measure => simp [intOf]; omega
        · have hne : (x != y) = true := by rw [bne_iff_ne]; exact hxy
          have HF := hid (sameL_at (xs := xs) (ys := ys) (j := k) (by rw [HX.out, HY.out]; exact hxy))
          clear hxy
          go_wp2_with fail
          go_quiet (fail)
          go_wp2
          go_ret
          exact ⟨ret_bool HF.out.symm, below_drewN HB.out _⟩
      · obtain rfl : k = n := by omega
        have HT := hid (sameL_all HLe.out (fun j hj => HJ.out j (by have := HN1.out; omega)))
        go_wp2
        go_ret
        exact ⟨ret_bool HT.out.symm, HB.out⟩
  · have HF := hid (sameL_len hlen)
    have hne : ((xs.length : Int) != (ys.length : Int)) = true := by rw [bne_iff_ne]; omega
    clear hlen
    go_enter Try.func52, Try.ntmps52
    go_wp2
    go_ret
    exact ⟨ret_bool HF.out.symm, Below.refl _ _⟩

/-! ### the linear extension of the dual -/
def duaF (ws : List Int) (j : Nat) : Nat := ws.length - 1 - (ws.getD (ws.length - 1 - j) 0).toNat
def duaL (ws : List Int) : List Int := mkL ws.length (duaF ws)
def ansDL (xs ws : List Int) : List Int := if okLin xs ws then duaL ws else []
theorem ansDL_no {xs ws : List Int} (h : okLin xs ws = false) : ansDL xs ws = [] := by simp [ansDL, h]
theorem ansDL_yes {xs ws : List Int} (h : okLin xs ws = true) : ansDL xs ws = duaL ws := by simp [ansDL, h]
theorem ansDL_length (xs ws : List Int) : (ansDL xs ws).length ≤ 1048576 := by
  cases h : okLin xs ws
  · rw [ansDL_no h]; simp
  · rw [ansDL_yes h, duaL, mkL_length, (okLin_Lw h).len]
    have := (good_length (okLin_all h).1).2
    omega
def duaR (ws : List Int) (i j : Nat) : Nat := if ws.length - i ≤ j then duaF ws j else 0
theorem duaR_succ (ws : List Int) (i : Nat) (hi : i < ws.length) : mkL ws.length (duaR ws (i + 1)) = (mkL ws.length (duaR ws i)).set (ws.length - 1 - i) ((ws.length - 1 - (ws.getD i 0).toNat : Nat) : Int) :=
  mkL_upd _ (by omega) fun j hj => by
    unfold duaR
    by_cases h : j = ws.length - 1 - i
    · subst h
      rw [if_pos (by omega), if_pos rfl]
      unfold duaF
      rw [show ws.length - 1 - (ws.length - 1 - i) = i by omega]
    · rw [if_neg h]
      by_cases h2 : ws.length - i ≤ j
      · rw [if_pos h2, if_pos (by omega)]
      · rw [if_neg h2, if_neg (by omega)]
theorem specDualLinear_any (v : Value) (xs : List Int) (u : Value) (ws : List Int) (w : World) (hv : Ints w v xs) (hl : xs.length ≤ 1048576) (hu : Ints w u ws) (hm : ws.length ≤ 1048576) :
    Calls Try.prog 12 #[.agg #[v], u] w fun (r : Ending) w' => ∃ q, r = Ending.returned (.tuple #[q, .bool (okLin xs ws)]) ∧ OwnI 3 w' w.heap.size q (ansDL xs ws) ∧ (ansDL xs ws).length ≤ 1048576 ∧ Below w.heap.size w w' := by
  have HV := hid hv
  have HU := hid hu
  have HL := hid (ansDL_length xs ws)
  obtain ⟨A, c, rfl, hA⟩ := hu
  have HA := hid hA
  clear hv hA
  go_enter Try.func12, Try.ntmps12
  have HB := hid (below_alloc (Below.refl _ w) (.cells #[v] 28))
  have A0 := hid (At.newAt w v 28 w.heap.size (by simp))
  go_wp2_with fail
  refine (liGiven_any _ _ xs ws _ (HV.out.below HB.out) hl (HU.out.below HB.out) hm).mono ?_
  rintro e w' ⟨rfl, hb⟩
  replace HB := hid (below_to HB.out hb)
  replace A0 := hid (A0.out.below hb)
  clear hb
  cases hq : okLin xs ws
  · have HO := hid hq
    clear hq
    have ebox0 := A0.out.1
    go_wp2
    go_ret2
    exact ⟨_, ret_vbL HO.out.symm, by rw [ansDL_no HO.out]; exact OwnI.nil _ _ _, HL.out, HB.out⟩
  · have HO := hid hq
    have HLw := hid (okLin_Lw hq)
    have HG := hid (okLin_all hq).1
    have HY := hid (ansDL_yes hq)
    have hw10 : ws.length ≤ 10 := by have h1 := HLw.out.len; have h2 := (good_length HG.out).2; omega
    have HZ := hid HB.out.size
    clear hq
    have ebox0 := A0.out.1
    go_wp2
    go_loopw [6, 7] (fun q i wr => ∃ k : Nat, k ≤ ws.length ∧ i = .int .i64 ((ws.length : Int) - 1 - (k : Int)) ∧ OwnI 3 wr w.heap.size q (mkL k (duaF ws)) ∧ Below w.heap.size w wr) (fun _ i _ => (intOf i + 1).toNat)
    case atStart => exact ⟨0, Nat.zero_le _, by simp, OwnI.nil _ _ _, HB.out⟩
    case round =>
      obtain ⟨k, hk, rfl, ho, hb⟩ := hrel
      have HO1 := hid ho
      have HB1 := hid hb
      obtain ⟨qA, qc, rfl, -⟩ := ho.shape
      have hwz := hb.size
      clear ho hb
      by_cases hlt : k < ws.length
      · obtain ⟨b2, o2, rfl, hbl2, hc2⟩ := HA.out (by intro h; simp [h] at hlt)
        obtain ⟨p, hp⟩ : ∃ p, ws.length - 1 - k = p := ⟨_, rfl⟩
        have hp2 : (ws.length : Int) - 1 - (k : Int) = (p : Int) := by omega
        have hpl : p < ws.length := by omega
        have hcell := (HB1.out.cell (p := ⟨b2, o2 + p, none⟩) hbl2).trans (hc2 p hpl)
        have hin := HLw.out.at (j := p) (by have := HLw.out.len; omega)
        have HF : Hid (duaF ws k = ws.length - 1 - (ws.getD p 0).toNat) := hid (by unfold duaF; rw [hp])
        obtain ⟨e, he⟩ := Int.eq_ofNat_of_zero_le hin.1
        rw [he] at hcell hin HF
        rw [Int.toNat_natCast] at HF
        have hen : e < ws.length := by have := HLw.out.len; omega
        have HS := hid (mkL_succ k (duaF ws))
        obtain ⟨y, hy⟩ : ∃ y, ws.length - 1 - e = y := ⟨_, rfl⟩
        have hyI : (ws.length : Int) - 1 - (e : Int) = (y : Int) := by omega
        rw [hy] at HF
        have HP2 := hid hp2
        rw [hp2]
        have hy10 : y < 10 := by omega
        have hp10 : p < 10 := by omega
        clear hc2 hp hp2 he hin hy hen
        go_wp2_with (at_builtin; refine wpList_append_int rfl _ _ 22 3 rfl Try.underlying22 Try.info3 w.heap.size _ (mkL k (duaF ws)) (y : Int) rfl HO1.out rfl rfl (by rw [mkL_length]; omega) hwz ?_; rintro u3 w3 ho3 hb3)
        go_roundw
        case rel => exact ⟨k + 1, by omega, (by have := HP2.out; first | (congr 1; omega) | (simp; omega)), (by rw [HS.out, HF.out]; exact ho3), HB1.out.trans hb3⟩
        case measure => first | (simp [intOf]; done) | (simp [intOf]; have := HP2.out; omega)
      · obtain rfl : k = ws.length := by omega
        have e2 : (ws.length : Int) - 1 - (ws.length : Int) = -1 := by omega
        rw [e2]
        clear e2
        go_wp2
        go_ret2
        exact ⟨_, ret_vbL HO.out.symm, by rw [HY.out]; exact HO1.out, HL.out, HB1.out⟩
theorem implDualLinear_any (v : Value) (xs : List Int) (u : Value) (ws : List Int) (w : World) (hv : Ints w v xs) (hl : xs.length ≤ 1048576) (hu : Ints w u ws) (hm : ws.length ≤ 1048576) :
    Calls Try.prog 14 #[.agg #[v], u] w fun (r : Ending) w' => ∃ q, r = Ending.returned (.tuple #[q, .bool (okLin xs ws)]) ∧ OwnI 3 w' w.heap.size q (ansDL xs ws) ∧ (ansDL xs ws).length ≤ 1048576 ∧ Below w.heap.size w w' := by
  have HV := hid hv
  have HU := hid hu
  have HL := hid (ansDL_length xs ws)
  obtain ⟨A, c, rfl, hA⟩ := hu
  have HA := hid hA
  clear hv hA
  go_enter Try.func14, Try.ntmps14
  have HB := hid (below_alloc (Below.refl _ w) (.cells #[v] 28))
  have A0 := hid (At.newAt w v 28 w.heap.size (by simp))
  go_wp2_with fail
  refine (hasLinear_any _ _ xs ws _ (HV.out.below HB.out) hl (HU.out.below HB.out) hm).mono ?_
  rintro e w' ⟨rfl, hb⟩
  replace HB := hid (below_to HB.out hb)
  replace A0 := hid (A0.out.below hb)
  clear hb
  cases hq : okLin xs ws
  · have HO := hid hq
    clear hq
    have ebox0 := A0.out.1
    go_wp2
    go_ret2
    exact ⟨_, ret_vbL HO.out.symm, by rw [ansDL_no HO.out]; exact OwnI.nil _ _ _, HL.out, HB.out⟩
  · have HO := hid hq
    have HLw := hid (okLin_Lw hq)
    have HG := hid (okLin_all hq).1
    have HY := hid (ansDL_yes hq)
    have hw10 : ws.length ≤ 10 := by have h1 := HLw.out.len; have h2 := (good_length HG.out).2; omega
    have hw1 : 1 ≤ ws.length := by have h1 := HLw.out.len; have h2 := (good_length HG.out).1; omega
    have HZ := hid HB.out.size
    have hmk := run_make_row' (P := Try.prog) 22 3 (.int .i64 0) 8 Try.underlying22 Try.info3 rfl .i64 .i64 ws.length (by omega) (by omega)
    clear hq
    have ebox0 := A0.out.1
    go_wp2
    clear hmk
    rw [Vals_made]
    obtain ⟨g, hg⟩ : ∃ g, w'.heap.size = g := ⟨_, rfl⟩
    have HWG : Hid (w.heap.size ≤ g) := hid (by have := HZ.out; omega)
    have HS0 : Hid (Blk (w'.alloc (.cells (Vals (List.replicate ws.length 0)) 3)) g 3 (Vals (mkL ws.length (duaR ws 0)))) := hid (by
      have e : mkL ws.length (duaR ws 0) = List.replicate ws.length 0 := by
        rw [← mkL_zero]; exact mkL_congr fun j hj => by unfold duaR; rw [if_neg (by omega)]
      rw [e]; exact Blk.newAt _ _ _ _ hg.symm)
    rw [hg]
    clear hg
    go_loopw [22] (fun i wr => ∃ k : Nat, k ≤ ws.length ∧ i = .int .i64 k ∧ Blk wr g 3 (Vals (mkL ws.length (duaR ws k))) ∧ Below w.heap.size w wr) (fun i _ => ws.length - (intOf i).toNat)
    case atStart => exact ⟨0, Nat.zero_le _, rfl, HS0.out, below_alloc HB.out _⟩
    case round =>
      obtain ⟨k, hk, rfl, hB, hb⟩ := hrel
      have HB1 := hid hB
      have Hb1 := hid hb
      clear hB hb
      by_cases hlt : k < ws.length
      · obtain ⟨b2, o2, rfl, hbl2, hc2⟩ := HA.out (by intro h; simp [h] at hlt)
        have hcell := (Hb1.out.cell (p := ⟨b2, o2 + k, none⟩) hbl2).trans (hc2 k hlt)
        have hin := HLw.out.at (j := k) (by have := HLw.out.len; omega)
        have HR := hid (duaR_succ ws k hlt)
        obtain ⟨e, he⟩ := Int.eq_ofNat_of_zero_le hin.1
        rw [he] at hcell hin HR
        rw [Int.toNat_natCast] at HR
        have hen : e < ws.length := by have := HLw.out.len; omega
        obtain ⟨p, hp⟩ : ∃ p, ws.length - 1 - k = p := ⟨_, rfl⟩
        have hp2 : (ws.length : Int) - 1 - (k : Int) = (p : Int) := by omega
        have hpl : p < ws.length := by omega
        obtain ⟨y, hy⟩ : ∃ y, ws.length - 1 - e = y := ⟨_, rfl⟩
        have hyI : (ws.length : Int) - 1 - (e : Int) = (y : Int) := by omega
        rw [hp, hy] at HR
        have hcp : wr.cell? ⟨g, p, none⟩ = some (.int .i64 (duaR ws k p : Nat)) := by
          rw [HB1.out.cell, Vals_get (by rw [mkL_length]; exact hpl), mkL_getD hpl]
        have hfp := HB1.out.frozen p
        have hy10 : y < 10 := by omega
        have hp10 : p < 10 := by omega
        clear hc2 hp he hin hy hen
        go_wp2
        go_roundw
        case rel => exact ⟨k + 1, by omega, by go_num, (by rw [HR.out, ← Vals_set]; exact HB1.out.set_ p _), Hb1.out.setCell (p := ⟨g, p, none⟩) HWG.out _⟩
        case measure => simp [intOf]; omega
      · obtain rfl : k = ws.length := by omega
        have HOw : Hid (OwnI 3 wr w.heap.size (.slice (some ⟨g, 0, none⟩) ws.length ws.length) (duaL ws)) := hid (by
          have e : mkL ws.length (duaR ws ws.length) = duaL ws := mkL_congr fun j hj => by unfold duaR; rw [if_pos (by omega)]
          have h2 := HB1.out
          rw [e] at h2
          have h3 := Blk.own (xs := duaL ws) (B := w.heap.size) h2 HWG.out (by rw [duaL, mkL_length]; omega)
          rw [duaL, mkL_length] at h3
          exact h3)
        go_wp2
        go_ret2
        exact ⟨_, ret_vbL HO.out.symm, by rw [HY.out]; exact HOw.out, HL.out, Hb1.out⟩
end Go.Proofs.Ytiodligebnnodab
