/- Texts LinS, Sam, Same, Dual, one behind the other. -/
import Derived.BigQuiet
import Derived.Test.YtpdoheagfjeefaaPkEvacuationProof01
import Derived.Test.YtpdoheagfjeefaaPkEvacuationProof02
import Derived.Test.YtpdoheagfjeefaaPkEvacuationProof05
import Derived.Test.YtpdoheagfjeefaaPkEvacuationProof09
import Derived.Test.YtpdoheagfjeefaaPkEvacuationProof10
import Derived.Test.YtpdoheagfjeefaaPkEvacuationProof13
/- Linear extensions in the model: is a list one, toggles, promotion, evacuation. -/
namespace Go.Proofs.Ytpdoheagfjeefaa
open Go.RowKit Go.WideShapes Go.ChangeShapes
set_option linter.unusedVariables false

theorem implIsLinear_any (v : Value) (xs : List Int) (u : Value) (ys : List Int) (w : World) (hv : Ints w v xs) (hl : xs.length ≤ 1048576) (hu : Ints w u ys) (hm : ys.length ≤ 1048576) :
    Calls Try.prog 84 #[.agg #[v], u] w fun r w' => r = .returned (.tuple #[.bool (okOrder xs ys), .bool (good xs)]) ∧ Below w.heap.size w w' := by
  have HV := hid hv
  have HU := hid hu
  clear hv hu
  go_enter Try.func84, Try.ntmps84
  have HB := hid (below_alloc (Below.refl _ w) (.cells #[v] 26))
  have A0 := hid (At.newAt w v 26 w.heap.size (by simp))
  go_wp2_with fail
  refine (implIsOrder_any _ xs _ ys _ (HV.out.below HB.out) hl (HU.out.below HB.out) hm).mono ?_
  rintro e w' ⟨rfl, hb⟩
  replace HB := hid (below_to HB.out hb)
  replace A0 := hid (A0.out.below hb)
  clear hb
  have ebox0 := A0.out.1
  go_wp2
  go_ret2
  exact ⟨rfl, HB.out⟩
/-- given: a poset and a linear extension of it -/
theorem liGiven_any (v u : Value) (xs ys : List Int) (w : World) (hv : Ints w v xs) (hl : xs.length ≤ 1048576) (hu : Ints w u ys) (hm : ys.length ≤ 1048576) :
    Calls Try.prog 79 #[.agg #[v], u] w fun r w' => r = .returned (.bool (okLin xs ys)) ∧ Below w.heap.size w w' := by
  have HV := hid hv
  have HU := hid hu
  clear hv hu
  go_enter Try.func79, Try.ntmps79
  have HB := hid (below_alloc (Below.refl _ w) (.cells #[v] 26))
  have A0 := hid (At.newAt w v 26 w.heap.size (by simp))
  go_wp2_with fail
  refine (poGood_any _ xs _ (HV.out.below HB.out) hl).mono ?_
  rintro e w' ⟨rfl, hb⟩
  replace HB := hid (below_to HB.out hb)
  replace A0 := hid (A0.out.below hb)
  clear hb
  cases hq : good xs
  · have HO : Hid (okLin xs ys = false) := hid (okOrder_no (ys := ys) hq)
    clear hq
    have ebox0 := A0.out.1
    go_wp2
    go_ret
    exact ⟨ret_bool HO.out.symm, HB.out⟩
  · have HQ := hid hq
    have HO : Hid (okLin xs ys = orderB xs ys) := hid (okOrder_yes (ys := ys) hq)
    clear hq
    have ebox0 := A0.out.1
    go_wp2_with fail
    clear ebox0
    refine (liIs_any _ _ xs ys _ (HV.out.below HB.out) (HU.out.below HB.out) HQ.out hm).mono ?_
    rintro e w' ⟨rfl, hb⟩
    replace HB := hid (below_to HB.out hb)
    replace A0 := hid (A0.out.below hb)
    clear hb
    have ebox0 := A0.out.1
    go_wp2
    go_ret
    exact ⟨ret_bool HO.out.symm, HB.out⟩
theorem hasLinear_any (v u : Value) (xs ys : List Int) (w : World) (hv : Ints w v xs) (hl : xs.length ≤ 1048576) (hu : Ints w u ys) (hm : ys.length ≤ 1048576) :
    Calls Try.prog 76 #[.agg #[v], u] w fun r w' => r = .returned (.bool (okLin xs ys)) ∧ Below w.heap.size w w' := by
  have HV := hid hv
  have HU := hid hu
  clear hv hu
  go_enter Try.func76, Try.ntmps76
  have HB := hid (below_alloc (Below.refl _ w) (.cells #[v] 26))
  have A0 := hid (At.newAt w v 26 w.heap.size (by simp))
  go_wp2_with fail
  refine (implIsPoset_any _ xs _ (HV.out.below HB.out) hl).mono ?_
  rintro e w' ⟨rfl, hb⟩
  replace HB := hid (below_to HB.out hb)
  replace A0 := hid (A0.out.below hb)
  clear hb
  cases hq : good xs
  · have HO : Hid (okLin xs ys = false) := hid (okOrder_no (ys := ys) hq)
    clear hq
    have ebox0 := A0.out.1
    go_wp2
    go_ret
    exact ⟨ret_bool HO.out.symm, HB.out⟩
  · have HQ := hid hq
    have HO : Hid (okLin xs ys = orderB xs ys) := hid (okOrder_yes (ys := ys) hq)
    clear hq
    have ebox0 := A0.out.1
    go_wp2_with fail
    clear ebox0
    refine (hasOrder_any _ _ xs ys _ (HV.out.below HB.out) (HU.out.below HB.out) HQ.out hm).mono ?_
    rintro e w' ⟨rfl, hb⟩
    replace HB := hid (below_to HB.out hb)
    replace A0 := hid (A0.out.below hb)
    clear hb
    have ebox0 := A0.out.1
    go_wp2
    go_ret
    exact ⟨ret_bool HO.out.symm, HB.out⟩
end Go.Proofs.Ytpdoheagfjeefaa

/- Two lists alike: the model's l1Same, slices.Equal. -/
namespace Go.Proofs.Ytpdoheagfjeefaa
open Go.RowKit Go.WideShapes Go.ChangeShapes
set_option linter.unusedVariables false

def sameL (xs ys : List Int) : Bool := decide (xs = ys)
theorem sameL_len {xs ys : List Int} (h : xs.length ≠ ys.length) : sameL xs ys = false := by
  unfold sameL; rw [decide_eq_false_iff_not]; rintro rfl; exact h rfl
theorem sameL_at {xs ys : List Int} {j : Nat} (h : xs.getD j 0 ≠ ys.getD j 0) : sameL xs ys = false := by
  unfold sameL; rw [decide_eq_false_iff_not]; rintro rfl; exact h rfl
theorem sameL_all {xs ys : List Int} (hl : xs.length = ys.length) (h : ∀ j, j < xs.length → xs.getD j 0 = ys.getD j 0) : sameL xs ys = true := by
  unfold sameL; rw [decide_eq_true_iff]
  refine List.ext_getElem hl fun j h1 h2 => ?_
  have := h j h1
  simpa [List.getD, h1, h2] using this
theorem l1SameL_any (v u : Value) (xs ys : List Int) (w : World) (hv : Ints w v xs) (hu : Ints w u ys) (hl : xs.length ≤ 1048576) :
    Calls Try.prog 88 #[v, u] w fun r w' => r = .returned (.bool (sameL xs ys)) ∧ Below w.heap.size w w' := by
  have HV := hid hv
  have HU := hid hu
  obtain ⟨A, c, rfl, hA⟩ := hv
  obtain ⟨A2, c2, rfl, hA2⟩ := hu
  have HA := hid hA
  have HA2 := hid hA2
  clear hA hA2
  by_cases hlen : xs.length = ys.length
  · have HLe := hid hlen
    obtain ⟨n, hn⟩ : ∃ n, xs.length = n := ⟨_, rfl⟩
    have hn2 : ys.length = n := by omega
    have HN1 := hid hn
    have HN2 := hid hn2
    rw [hn, hn2]
    rw [hn] at hl
    clear hlen hn hn2
    go_enter Try.func88, Try.ntmps88
    go_wp2
    go_loopw [13] (fun i wr => ∃ k : Nat, k ≤ n ∧ i = .int .i64 k ∧ Hid (∀ j, j < k → xs.getD j 0 = ys.getD j 0) ∧ Below w.heap.size w wr) (fun i _ => n - (intOf i).toNat)
    case atStart => exact ⟨0, Nat.zero_le _, rfl, hid (fun j hj => absurd hj (Nat.not_lt_zero _)), Below.refl _ _⟩
    case round =>
      obtain ⟨k, hk, rfl, HJ, hb⟩ := hrel
      have HB := hid hb
      clear hb
      by_cases hlt : k < n
      · obtain ⟨b, o, rfl, hbl, hc⟩ := HA.out (by intro h; have := HN1.out; simp [h] at this; omega)
        obtain ⟨b2, o2, rfl, hbl2, hc2⟩ := HA2.out (by intro h; have := HN2.out; simp [h] at this; omega)
        have hc1' := (HB.out.cell (p := ⟨b, o + k, none⟩) hbl).trans (hc k (by have := HN1.out; omega))
        have hc2' := (HB.out.cell (p := ⟨b2, o2 + k, none⟩) hbl2).trans (hc2 k (by have := HN2.out; omega))
        obtain ⟨x, hx⟩ : ∃ x, xs.getD k 0 = x := ⟨_, rfl⟩
        obtain ⟨y, hy⟩ : ∃ y, ys.getD k 0 = y := ⟨_, rfl⟩
        rw [hx] at hc1'
        rw [hy] at hc2'
        have HX := hid hx
        have HY := hid hy
        clear hc hc2 hx hy
        by_cases hxy : x = y
        · subst hxy
          have hne : (x != x) = false := by simp
          have HJ2 : Hid (∀ j, j < k + 1 → xs.getD j 0 = ys.getD j 0) := hid (fun j hj => by
            by_cases e : j = k
            · subst e; rw [HX.out, HY.out]
            · exact HJ.out j (by omega))
          go_wp2_with fail
          go_quiet (fail)
          go_wp2
          go_roundw
          case rel => exact ⟨k + 1, by omega, by go_num, HJ2, below_drewN HB.out _⟩
          case measure => simp [intOf]; omega
        · have hne : (x != y) = true := by rw [bne_iff_ne]; exact hxy
          have HF := hid (sameL_at (xs := xs) (ys := ys) (j := k) (by rw [HX.out, HY.out]; exact hxy))
          clear hxy
          go_wp2_with fail
          go_quiet (fail)
          go_wp2
          go_ret
          exact ⟨ret_bool HF.out.symm, below_drewN HB.out _⟩
      · obtain rfl : k = n := by omega
        have HT := hid (sameL_all HLe.out (fun j hj => HJ.out j (by have := HN1.out; omega)))
        go_wp2
        go_ret
        exact ⟨ret_bool HT.out.symm, HB.out⟩
  · have HF := hid (sameL_len hlen)
    have hne : ((xs.length : Int) != (ys.length : Int)) = true := by rw [bne_iff_ne]; omega
    clear hlen
    go_enter Try.func88, Try.ntmps88
    go_wp2
    go_ret
    exact ⟨ret_bool HF.out.symm, Below.refl _ _⟩
theorem equalL_any (v u : Value) (xs ys : List Int) (w : World) (hv : Ints w v xs) (hu : Ints w u ys) (hl : xs.length ≤ 1048576) :
    Calls Try.prog 125 #[v, u] w fun r w' => r = .returned (.bool (sameL xs ys)) ∧ Below w.heap.size w w' := by
  have HV := hid hv
  have HU := hid hu
  obtain ⟨A, c, rfl, hA⟩ := hv
  obtain ⟨A2, c2, rfl, hA2⟩ := hu
  have HA := hid hA
  have HA2 := hid hA2
  clear hA hA2
  by_cases hlen : xs.length = ys.length
  · have HLe := hid hlen
    obtain ⟨n, hn⟩ : ∃ n, xs.length = n := ⟨_, rfl⟩
    have hn2 : ys.length = n := by omega
    have HN1 := hid hn
    have HN2 := hid hn2
    rw [hn, hn2]
    rw [hn] at hl
    clear hlen hn hn2
    go_enter Try.func125, Try.ntmps125
    go_wp2
    go_loopw [13] (fun i wr => ∃ k : Nat, k ≤ n ∧ i = .int .i64 k ∧ Hid (∀ j, j < k → xs.getD j 0 = ys.getD j 0) ∧ Below w.heap.size w wr) (fun i _ => n - (intOf i).toNat)
    case atStart => exact ⟨0, Nat.zero_le _, rfl, hid (fun j hj => absurd hj (Nat.not_lt_zero _)), Below.refl _ _⟩
    case round =>
      obtain ⟨k, hk, rfl, HJ, hb⟩ := hrel
      have HB := hid hb
      clear hb
      by_cases hlt : k < n
      · obtain ⟨b, o, rfl, hbl, hc⟩ := HA.out (by intro h; have := HN1.out; simp [h] at this; omega)
        obtain ⟨b2, o2, rfl, hbl2, hc2⟩ := HA2.out (by intro h; have := HN2.out; simp [h] at this; omega)
        have hc1' := (HB.out.cell (p := ⟨b, o + k, none⟩) hbl).trans (hc k (by have := HN1.out; omega))
        have hc2' := (HB.out.cell (p := ⟨b2, o2 + k, none⟩) hbl2).trans (hc2 k (by have := HN2.out; omega))
        obtain ⟨x, hx⟩ : ∃ x, xs.getD k 0 = x := ⟨_, rfl⟩
        obtain ⟨y, hy⟩ : ∃ y, ys.getD k 0 = y := ⟨_, rfl⟩
        rw [hx] at hc1'
        rw [hy] at hc2'
        have HX := hid hx
        have HY := hid hy
        clear hc hc2 hx hy
        by_cases hxy : x = y
        · subst hxy
          have hne : (x != x) = false := by simp
          have HJ2 : Hid (∀ j, j < k + 1 → xs.getD j 0 = ys.getD j 0) := hid (fun j hj => by
            by_cases e : j = k
            · subst e; rw [HX.out, HY.out]
            · exact HJ.out j (by omega))
          go_wp2_with fail
          go_quiet (fail)
          go_wp2
          go_roundw
          case rel => exact ⟨k + 1, by omega, by go_num, HJ2, below_drewN HB.out _⟩
          case measure => simp [intOf]; omega
        · have hne : (x != y) = true := by rw [bne_iff_ne]; exact hxy
          have HF := hid (sameL_at (xs := xs) (ys := ys) (j := k) (by rw [HX.out, HY.out]; exact hxy))
          clear hxy
          go_wp2_with fail
          go_quiet (fail)
          go_wp2
          go_ret
          exact ⟨ret_bool HF.out.symm, below_drewN HB.out _⟩
      · obtain rfl : k = n := by omega
        have HT := hid (sameL_all HLe.out (fun j hj => HJ.out j (by have := HN1.out; omega)))
        go_wp2
        go_ret
        exact ⟨ret_bool HT.out.symm, HB.out⟩
  · have HF := hid (sameL_len hlen)
    have hne : ((xs.length : Int) != (ys.length : Int)) = true := by rw [bne_iff_ne]; omega
    clear hlen
    go_enter Try.func125, Try.ntmps125
    go_wp2
    go_ret
    exact ⟨ret_bool HF.out.symm, Below.refl _ _⟩

end Go.Proofs.Ytpdoheagfjeefaa

/- Two lists alike: the model's l1Same, slices.Equal; DualLinear of both sides. -/
namespace Go.Proofs.Ytpdoheagfjeefaa
open Go.RowKit Go.WideShapes Go.ChangeShapes
set_option linter.unusedVariables false

/-! ### the linear extension of the dual -/
def duaF (ws : List Int) (j : Nat) : Nat := ws.length - 1 - (ws.getD (ws.length - 1 - j) 0).toNat
def duaL (ws : List Int) : List Int := mkL ws.length (duaF ws)
def ansDL (xs ws : List Int) : List Int := if okLin xs ws then duaL ws else []
theorem ansDL_no {xs ws : List Int} (h : okLin xs ws = false) : ansDL xs ws = [] := by simp [ansDL, h]
theorem ansDL_yes {xs ws : List Int} (h : okLin xs ws = true) : ansDL xs ws = duaL ws := by simp [ansDL, h]
theorem ansDL_length (xs ws : List Int) : (ansDL xs ws).length ≤ 1048576 := by
  cases h : okLin xs ws
  · rw [ansDL_no h]; simp
  · rw [ansDL_yes h, duaL, mkL_length, (okLin_Lw h).len]
    have := (good_length (okLin_all h).1).2
    omega
def duaR (ws : List Int) (i j : Nat) : Nat := if ws.length - i ≤ j then duaF ws j else 0
theorem duaR_succ (ws : List Int) (i : Nat) (hi : i < ws.length) : mkL ws.length (duaR ws (i + 1)) = (mkL ws.length (duaR ws i)).set (ws.length - 1 - i) ((ws.length - 1 - (ws.getD i 0).toNat : Nat) : Int) :=
  mkL_upd _ (by omega) fun j hj => by
    unfold duaR
    by_cases h : j = ws.length - 1 - i
    · subst h
      rw [if_pos (by omega), if_pos rfl]
      unfold duaF
      rw [show ws.length - 1 - (ws.length - 1 - i) = i by omega]
    · rw [if_neg h]
      by_cases h2 : ws.length - i ≤ j
      · rw [if_pos h2, if_pos (by omega)]
      · rw [if_neg h2, if_neg (by omega)]
theorem specDualLinear_any (v : Value) (xs : List Int) (u : Value) (ws : List Int) (w : World) (hv : Ints w v xs) (hl : xs.length ≤ 1048576) (hu : Ints w u ws) (hm : ws.length ≤ 1048576) :
    Calls Try.prog 15 #[.agg #[v], u] w fun (r : Ending) w' => ∃ q, r = Ending.returned (.tuple #[q, .bool (okLin xs ws)]) ∧ OwnI 3 w' w.heap.size q (ansDL xs ws) ∧ (ansDL xs ws).length ≤ 1048576 ∧ Below w.heap.size w w' := by
  have HV := hid hv
  have HU := hid hu
  have HL := hid (ansDL_length xs ws)
  obtain ⟨A, c, rfl, hA⟩ := hu
  have HA := hid hA
  clear hv hA
  go_enter Try.func15, Try.ntmps15
  have HB := hid (below_alloc (Below.refl _ w) (.cells #[v] 26))
  have A0 := hid (At.newAt w v 26 w.heap.size (by simp))
  go_wp2_with fail
  refine (liGiven_any _ _ xs ws _ (HV.out.below HB.out) hl (HU.out.below HB.out) hm).mono ?_
  rintro e w' ⟨rfl, hb⟩
  replace HB := hid (below_to HB.out hb)
  replace A0 := hid (A0.out.below hb)
  clear hb
  cases hq : okLin xs ws
  · have HO := hid hq
    clear hq
    have ebox0 := A0.out.1
    go_wp2
    go_ret2
    exact ⟨_, ret_vbL HO.out.symm, by rw [ansDL_no HO.out]; exact OwnI.nil _ _ _, HL.out, HB.out⟩
  · have HO := hid hq
    have HLw := hid (okLin_Lw hq)
    have HG := hid (okLin_all hq).1
    have HY := hid (ansDL_yes hq)
    have hw10 : ws.length ≤ 10 := by have h1 := HLw.out.len; have h2 := (good_length HG.out).2; omega
    have HZ := hid HB.out.size
    clear hq
    have ebox0 := A0.out.1
    go_wp2
    go_loopw [6, 7] (fun q i wr => ∃ k : Nat, k ≤ ws.length ∧ i = .int .i64 ((ws.length : Int) - 1 - (k : Int)) ∧ OwnI 3 wr w.heap.size q (mkL k (duaF ws)) ∧ Below w.heap.size w wr) (fun _ i _ => (intOf i + 1).toNat)
    case atStart => exact ⟨0, Nat.zero_le _, by simp, OwnI.nil _ _ _, HB.out⟩
    case round =>
      obtain ⟨k, hk, rfl, ho, hb⟩ := hrel
      have HO1 := hid ho
      have HB1 := hid hb
      obtain ⟨qA, qc, rfl, -⟩ := ho.shape
      have hwz := hb.size
      clear ho hb
      by_cases hlt : k < ws.length
      · obtain ⟨b2, o2, rfl, hbl2, hc2⟩ := HA.out (by intro h; simp [h] at hlt)
        obtain ⟨p, hp⟩ : ∃ p, ws.length - 1 - k = p := ⟨_, rfl⟩
        have hp2 : (ws.length : Int) - 1 - (k : Int) = (p : Int) := by omega
        have hpl : p < ws.length := by omega
        have hcell := (HB1.out.cell (p := ⟨b2, o2 + p, none⟩) hbl2).trans (hc2 p hpl)
        have hin := HLw.out.at (j := p) (by have := HLw.out.len; omega)
        have HF : Hid (duaF ws k = ws.length - 1 - (ws.getD p 0).toNat) := hid (by unfold duaF; rw [hp])
        obtain ⟨e, he⟩ := Int.eq_ofNat_of_zero_le hin.1
        rw [he] at hcell hin HF
        rw [Int.toNat_natCast] at HF
        have hen : e < ws.length := by have := HLw.out.len; omega
        have HS := hid (mkL_succ k (duaF ws))
        obtain ⟨y, hy⟩ : ∃ y, ws.length - 1 - e = y := ⟨_, rfl⟩
        have hyI : (ws.length : Int) - 1 - (e : Int) = (y : Int) := by omega
        rw [hy] at HF
        have HP2 := hid hp2
        rw [hp2]
        have hy10 : y < 10 := by omega
        have hp10 : p < 10 := by omega
        clear hc2 hp hp2 he hin hy hen
        go_wp2_with (at_builtin; refine wpList_append_int rfl _ _ 24 3 rfl Try.underlying24 Try.info3 w.heap.size _ (mkL k (duaF ws)) (y : Int) rfl HO1.out rfl rfl (by rw [mkL_length]; omega) hwz ?_; rintro u3 w3 ho3 hb3)
        go_roundw
        case rel => exact ⟨k + 1, by omega, (by have := HP2.out; first | (congr 1; omega) | (simp; omega)), (by rw [HS.out, HF.out]; exact ho3), HB1.out.trans hb3⟩
        case measure => first | (simp [intOf]; done) | (simp [intOf]; have := HP2.out; omega)
      · obtain rfl : k = ws.length := by omega
        have e2 : (ws.length : Int) - 1 - (ws.length : Int) = -1 := by omega
        rw [e2]
        clear e2
        go_wp2
        go_ret2
        exact ⟨_, ret_vbL HO.out.symm, by rw [HY.out]; exact HO1.out, HL.out, HB1.out⟩
theorem implDualLinear_any (v : Value) (xs : List Int) (u : Value) (ws : List Int) (w : World) (hv : Ints w v xs) (hl : xs.length ≤ 1048576) (hu : Ints w u ws) (hm : ws.length ≤ 1048576) :
    Calls Try.prog 14 #[.agg #[v], u] w fun (r : Ending) w' => ∃ q, r = Ending.returned (.tuple #[q, .bool (okLin xs ws)]) ∧ OwnI 3 w' w.heap.size q (ansDL xs ws) ∧ (ansDL xs ws).length ≤ 1048576 ∧ Below w.heap.size w w' := by
  have HV := hid hv
  have HU := hid hu
  have HL := hid (ansDL_length xs ws)
  obtain ⟨A, c, rfl, hA⟩ := hu
  have HA := hid hA
  clear hv hA
  go_enter Try.func14, Try.ntmps14
  have HB := hid (below_alloc (Below.refl _ w) (.cells #[v] 26))
  have A0 := hid (At.newAt w v 26 w.heap.size (by simp))
  go_wp2_with fail
  refine (hasLinear_any _ _ xs ws _ (HV.out.below HB.out) hl (HU.out.below HB.out) hm).mono ?_
  rintro e w' ⟨rfl, hb⟩
  replace HB := hid (below_to HB.out hb)
  replace A0 := hid (A0.out.below hb)
  clear hb
  cases hq : okLin xs ws
  · have HO := hid hq
    clear hq
    have ebox0 := A0.out.1
    go_wp2
    go_ret2
    exact ⟨_, ret_vbL HO.out.symm, by rw [ansDL_no HO.out]; exact OwnI.nil _ _ _, HL.out, HB.out⟩
  · have HO := hid hq
    have HLw := hid (okLin_Lw hq)
    have HG := hid (okLin_all hq).1
    have HY := hid (ansDL_yes hq)
    have hw10 : ws.length ≤ 10 := by have h1 := HLw.out.len; have h2 := (good_length HG.out).2; omega
    have hw1 : 1 ≤ ws.length := by have h1 := HLw.out.len; have h2 := (good_length HG.out).1; omega
    have HZ := hid HB.out.size
    have hmk := run_make_row' (P := Try.prog) 24 3 (.int .i64 0) 8 Try.underlying24 Try.info3 rfl .i64 .i64 ws.length (by omega) (by omega)
    clear hq
    have ebox0 := A0.out.1
    go_wp2
    clear hmk
    rw [Vals_made]
    obtain ⟨g, hg⟩ : ∃ g, w'.heap.size = g := ⟨_, rfl⟩
    have HWG : Hid (w.heap.size ≤ g) := hid (by have := HZ.out; omega)
    have HS0 : Hid (Blk (w'.alloc (.cells (Vals (List.replicate ws.length 0)) 3)) g 3 (Vals (mkL ws.length (duaR ws 0)))) := hid (by
      have e : mkL ws.length (duaR ws 0) = List.replicate ws.length 0 := by
        rw [← mkL_zero]; exact mkL_congr fun j hj => by unfold duaR; rw [if_neg (by omega)]
      rw [e]; exact Blk.newAt _ _ _ _ hg.symm)
    rw [hg]
    clear hg
    go_loopw [22] (fun i wr => ∃ k : Nat, k ≤ ws.length ∧ i = .int .i64 k ∧ Blk wr g 3 (Vals (mkL ws.length (duaR ws k))) ∧ Below w.heap.size w wr) (fun i _ => ws.length - (intOf i).toNat)
    case atStart => exact ⟨0, Nat.zero_le _, rfl, HS0.out, below_alloc HB.out _⟩
    case round =>
      obtain ⟨k, hk, rfl, hB, hb⟩ := hrel
      have HB1 := hid hB
      have Hb1 := hid hb
      clear hB hb
      by_cases hlt : k < ws.length
      · obtain ⟨b2, o2, rfl, hbl2, hc2⟩ := HA.out (by intro h; simp [h] at hlt)
        have hcell := (Hb1.out.cell (p := ⟨b2, o2 + k, none⟩) hbl2).trans (hc2 k hlt)
        have hin := HLw.out.at (j := k) (by have := HLw.out.len; omega)
        have HR := hid (duaR_succ ws k hlt)
        obtain ⟨e, he⟩ := Int.eq_ofNat_of_zero_le hin.1
        rw [he] at hcell hin HR
        rw [Int.toNat_natCast] at HR
        have hen : e < ws.length := by have := HLw.out.len; omega
        obtain ⟨p, hp⟩ : ∃ p, ws.length - 1 - k = p := ⟨_, rfl⟩
        have hp2 : (ws.length : Int) - 1 - (k : Int) = (p : Int) := by omega
        have hpl : p < ws.length := by omega
        obtain ⟨y, hy⟩ : ∃ y, ws.length - 1 - e = y := ⟨_, rfl⟩
        have hyI : (ws.length : Int) - 1 - (e : Int) = (y : Int) := by omega
        rw [hp, hy] at HR
        have hcp : wr.cell? ⟨g, p, none⟩ = some (.int .i64 (duaR ws k p : Nat)) := by
          rw [HB1.out.cell, Vals_get (by rw [mkL_length]; exact hpl), mkL_getD hpl]
        have hfp := HB1.out.frozen p
        have hy10 : y < 10 := by omega
        have hp10 : p < 10 := by omega
        clear hc2 hp he hin hy hen
        go_wp2
        go_roundw
        case rel => exact ⟨k + 1, by omega, by go_num, (by rw [HR.out, ← Vals_set]; exact HB1.out.set_ p _), Hb1.out.setCell (p := ⟨g, p, none⟩) HWG.out _⟩
        case measure => simp [intOf]; omega
      · obtain rfl : k = ws.length := by omega
        have HOw : Hid (OwnI 3 wr w.heap.size (.slice (some ⟨g, 0, none⟩) ws.length ws.length) (duaL ws)) := hid (by
          have e : mkL ws.length (duaR ws ws.length) = duaL ws := mkL_congr fun j hj => by unfold duaR; rw [if_pos (by omega)]
          have h2 := HB1.out
          rw [e] at h2
          have h3 := Blk.own (xs := duaL ws) (B := w.heap.size) h2 HWG.out (by rw [duaL, mkL_length]; omega)
          rw [duaL, mkL_length] at h3
          exact h3)
        go_wp2
        go_ret2
        exact ⟨_, ret_vbL HO.out.symm, by rw [HY.out]; exact HOw.out, HL.out, Hb1.out⟩
end Go.Proofs.Ytpdoheagfjeefaa

/- DualOf. -/
namespace Go.Proofs.Ytpdoheagfjeefaa
open Go.RowKit Go.WideShapes Go.ChangeShapes
set_option linter.unusedVariables false

def dualF (xs : List Int) (j i : Nat) : Bool := (xs.getD (xs.length - 1 - j) 0).toNat.testBit (xs.length - 1 - i)
def dstep (xs : List Int) (n i : Nat) (g : Nat → Nat) (j : Nat) (r : Nat) : Nat := if (xs.getD i 0).toNat.testBit j then (if r = n - 1 - j then g (n - 1 - j) ||| 2 ^ (n - 1 - i) else g r) else g r
def din (xs : List Int) (n i : Nat) (g : Nat → Nat) : Nat → Nat → Nat
  | 0 => g
  | j + 1 => dstep xs n i (din xs n i g j) j
def dout (xs : List Int) (n : Nat) : Nat → Nat → Nat
  | 0 => fun _ => 0
  | i + 1 => din xs n i (dout xs n i) i
theorem din_lt {xs : List Int} {n i : Nat} {g : Nat → Nat} (hn : n ≤ 10) (hg : ∀ r, g r < 1024) (t : Nat) : ∀ r, din xs n i g t r < 1024 := by
  induction t with
  | zero => exact hg
  | succ t ih =>
    intro r
    unfold din dstep
    split
    · split
      · exact Nat.or_lt_two_pow (n := 10) (ih _) (Nat.pow_lt_pow_right (by decide) (by omega))
      · exact ih r
    · exact ih r
theorem dout_lt {xs : List Int} {n : Nat} (hn : n ≤ 10) (k : Nat) : ∀ r, dout xs n k r < 1024 := by
  induction k with
  | zero => intro r; simp [dout]
  | succ k ih => exact din_lt hn ih k
theorem din_testBit {xs : List Int} {n i : Nat} {g : Nat → Nat} (t : Nat) (ht : t ≤ n) (r s : Nat) (hr : r < n) :
    (din xs n i g t r).testBit s = true ↔ (g r).testBit s = true ∨ (n - 1 - r < t ∧ (xs.getD i 0).toNat.testBit (n - 1 - r) = true ∧ s = n - 1 - i) := by
  induction t with
  | zero => simp [din]
  | succ t ih =>
    have ih := ih (by omega)
    unfold din dstep
    by_cases hb : (xs.getD i 0).toNat.testBit t = true
    · rw [if_pos hb]
      by_cases e : r = n - 1 - t
      · rw [if_pos e, ← e, Nat.testBit_or, Bool.or_eq_true, ih]
        have e2 : n - 1 - r = t := by omega
        rw [e2]
        constructor
        · rintro ((h | h) | h)
          · exact .inl h
          · exact .inr ⟨by omega, h.2.1, h.2.2⟩
          · rw [Nat.testBit_two_pow] at h
            exact .inr ⟨by omega, hb, by simpa using (of_decide_eq_true h).symm⟩
        · rintro (h | ⟨-, -, h⟩)
          · exact .inl (.inl h)
          · exact .inr (by rw [h]; exact Nat.testBit_two_pow_self)
      · rw [if_neg e, ih]
        constructor
        · rintro (h | ⟨h1, h2⟩)
          · exact .inl h
          · exact .inr ⟨by omega, h2⟩
        · rintro (h | ⟨h1, h2⟩)
          · exact .inl h
          · exact .inr ⟨by omega, h2⟩
    · rw [if_neg hb, ih]
      constructor
      · rintro (h | ⟨h1, h2⟩)
        · exact .inl h
        · exact .inr ⟨by omega, h2⟩
      · rintro (h | ⟨h1, h2, h3⟩)
        · exact .inl h
        · by_cases e : n - 1 - r = t
          · rw [e] at h2; exact absurd h2 hb
          · exact .inr ⟨by omega, h2, h3⟩
theorem dout_testBit {xs : List Int} {n : Nat} (k : Nat) (hk : k ≤ n) (r s : Nat) (hr : r < n) :
    (dout xs n k r).testBit s = true ↔ ∃ i, i < k ∧ n - 1 - r < i ∧ (xs.getD i 0).toNat.testBit (n - 1 - r) = true ∧ s = n - 1 - i := by
  induction k with
  | zero => simp [dout]
  | succ k ih =>
    unfold dout
    rw [din_testBit k (by omega) r s hr, ih (by omega)]
    constructor
    · rintro (⟨i, h1, h2⟩ | h)
      · exact ⟨i, by omega, h2⟩
      · exact ⟨k, by omega, h⟩
    · rintro ⟨i, h1, h2⟩
      by_cases e : i = k
      · subst e; exact .inr h2
      · exact .inl ⟨i, by omega, h2⟩
theorem dout_full (xs : List Int) : mkL xs.length (dout xs xs.length xs.length) = whereL (dualF xs) xs.length := by
  unfold whereL
  refine mkL_congr fun r hr => Nat.eq_of_testBit_eq fun s => ?_
  rw [Bool.eq_iff_iff, dout_testBit _ (Nat.le_refl _) r s hr, rowN_testBit, Bool.and_eq_true, decide_eq_true_eq]
  unfold dualF
  constructor
  · rintro ⟨i, h1, h2, h3, rfl⟩
    refine ⟨by omega, ?_⟩
    rw [show xs.length - 1 - (xs.length - 1 - i) = i by omega]
    exact h3
  · rintro ⟨h1, h2⟩
    exact ⟨xs.length - 1 - s, by omega, by omega, h2, by omega⟩

def dualL (xs : List Int) : List Int := if good xs then whereL (dualF xs) xs.length else []
theorem dualL_yes {xs : List Int} (h : good xs = true) : dualL xs = whereL (dualF xs) xs.length := if_pos h
theorem dualL_no {xs : List Int} (h : good xs = false) : dualL xs = [] := by simp [dualL, h]
theorem dualL_length (xs : List Int) : (dualL xs).length ≤ 1048576 := by
  unfold dualL
  split
  · rename_i h
    unfold whereL
    rw [mkL_length]
    have := (good_length h).2
    omega
  · simp

theorem dualClosure_any (v : Value) (xs : List Int) (a1 a2 j i : Nat) (w : World) (hv : Ints w v xs) (hg : good xs = true) (h1 : At w a1 v) (h2 : At w a2 (.int .i64 ((xs.length - 1 : Nat) : Int))) (hj : j < i) (hi : i < xs.length) :
    Calls Try.prog 93 #[.int .i64 j, .int .i64 i, .pointer (some ⟨a1, 0, none⟩), .pointer (some ⟨a2, 0, none⟩)] w fun r w' => r = .returned (.bool (dualF xs j i)) ∧ Below w.heap.size w w' := by
  have hl10 := (good_length hg).2
  have hok := okAt_small (good_at hg (show xs.length - 1 - j < xs.length by omega)) (by omega)
  obtain ⟨A, c, rfl, hA⟩ := hv
  obtain ⟨b, o, rfl, hbl, hc⟩ := hA (by intro h; simp [h] at hi)
  have hcell := hc (xs.length - 1 - j) (by omega)
  obtain ⟨x, hx⟩ : ∃ x, xs.getD (xs.length - 1 - j) 0 = x := ⟨_, rfl⟩
  rw [hx] at hcell hok
  obtain ⟨z, rfl⟩ := Int.eq_ofNat_of_zero_le hok.1
  obtain ⟨R, hR⟩ : ∃ R, dualF xs j i = R := ⟨_, rfl⟩
  have HR : Hid (z.testBit (xs.length - 1 - i) = R) := by unfold dualF at hR; rw [hx, Int.toNat_natCast] at hR; exact hR
  rw [hR]
  obtain ⟨h1, -⟩ := h1
  obtain ⟨h2, -⟩ := h2
  obtain ⟨p, hp⟩ : ∃ p, xs.length - 1 - j = p := ⟨_, rfl⟩
  obtain ⟨q, hq⟩ : ∃ q, xs.length - 1 - i = q := ⟨_, rfl⟩
  rw [hp] at hcell
  rw [hq] at HR
  have e1 : IntKind.i64.wrap (((xs.length - 1 : Nat) : Int) - (j : Int)) = (p : Int) := by rw [IntWalk.i64_in _ (by omega)]; omega
  have e2 : IntKind.i64.wrap (((xs.length - 1 : Nat) : Int) - (i : Int)) = (q : Int) := by rw [IntWalk.i64_in _ (by omega)]; omega
  have hp3 : (p : Int) < xs.length := by omega
  have hp4 : p < xs.length := by omega
  have hq3 : q < 64 := by omega
  have hz3 : z < 1024 := by omega
  clear hc hA hx hR hp hq hg hok hj hi
  go_enter Try.func93, Try.ntmps93
  go_wp2
  go_quiet ((go_at_call 94; exact Calls.quiet_of_same ((hasElement_any z q (by omega) hq3 _).mono fun _ _ ⟨a, b⟩ => ⟨a, b.symm⟩)))
  go_wp2
  go_ret
  exact ⟨ret_bool HR.out, below_drewN (Below.refl _ _) _⟩

/-- what holds in poDual's loops: the new row, the variable that holds it, the result's cell -/
structure DualW (ti tp : TypeId) (n : Nat) (w : World) (g : Nat → Nat) (wr : World) : Prop where
  row : Blk wr (w.heap.size + 1 + 1) ti (Vals (mkL n g))
  out : Blk wr (w.heap.size + 1 + 1 + 1) tp #[.slice (some ⟨w.heap.size + 1 + 1, 0, none⟩) n n]
  res : Blk wr (w.heap.size + 1) tp #[.slice none 0 0]
  below : Below w.heap.size w wr
theorem DualW.start (ti tp : TypeId) (n : Nat) (w : World) (u : Value) (g : Nat → Nat) :
    DualW ti tp n w g ((((w.alloc (.cells #[u] tp)).alloc (.cells #[.slice none 0 0] tp)).alloc (.cells (Vals (mkL n g)) ti)).alloc (.cells #[.slice (some ⟨w.heap.size + 1 + 1, 0, none⟩) n n] tp)) :=
  ⟨(Blk.newAt _ _ _ _ (by simp)).alloc _, Blk.newAt _ _ _ _ (by simp), ((Blk.newAt _ _ _ _ (by simp)).alloc _).alloc _, (((((Below.refl _ _).alloc (Nat.le_refl _) _).alloc (by simp) _).alloc (by simp; omega) _).alloc (by simp; omega) _)⟩
theorem DualW.step {ti tp : TypeId} {n : Nat} {w wr : World} {g g' : Nat → Nat} {q : Nat} {y : Int} (h : DualW ti tp n w g wr) (e : mkL n g' = (mkL n g).set q y) :
    DualW ti tp n w g' ((wr.setCell ⟨w.heap.size + 1 + 1, q, none⟩ (.int .i64 y)).drew) := by
  refine ⟨?_, ?_, ?_, ?_⟩
  · rw [e, ← Vals_set]; exact h.row.set_ q _
  · exact h.out.far (p := ⟨w.heap.size + 1 + 1, q, none⟩) (by show w.heap.size + 1 + 1 + 1 ≠ w.heap.size + 1 + 1; omega) _
  · exact h.res.far (p := ⟨w.heap.size + 1 + 1, q, none⟩) (by show w.heap.size + 1 ≠ w.heap.size + 1 + 1; omega) _
  · exact (h.below.setCell (p := ⟨w.heap.size + 1 + 1, q, none⟩) (by show w.heap.size ≤ w.heap.size + 1 + 1; omega) _).drew
theorem twoBoxes {w w1 : World} {t t' : TypeId} {a b : Array Value} (hb : Below ((w.alloc (.cells a t)).alloc (.cells b t')).heap.size ((w.alloc (.cells a t)).alloc (.cells b t')) w1) :
    Blk w1 w.heap.size t a ∧ Blk w1 (w.heap.size + 1) t' b ∧ w.heap.size + 2 ≤ w1.heap.size ∧ Below w.heap.size w w1 := by
  refine ⟨?_, ?_, ?_, ?_⟩
  · exact ((Blk.new w t a).alloc _).below hb (by simp; omega)
  · exact (Blk.newAt _ t' b (w.heap.size + 1) (by simp)).below hb (by simp)
  · have := hb.size; simp at this; omega
  · exact below_to (below_alloc (below_alloc (Below.refl _ _) _) _) hb
theorem implDualOf_any (v : Value) (xs : List Int) (w : World) (hv : Ints w v xs) (hl : xs.length ≤ 1048576) :
    Calls Try.prog 23 #[.agg #[v]] w fun (r : Ending) w' => ∃ u, r = Ending.returned (.tuple #[.agg #[u], .bool (good xs)]) ∧ OwnI 3 w' w.heap.size u (dualL xs) ∧ (dualL xs).length ≤ 1048576 ∧ Below w.heap.size w w' := by
  have HV := hid hv
  have HL := hid (dualL_length xs)
  obtain ⟨A, c, rfl, -⟩ := hv
  cases hg : good xs
  · have HG := hid hg
    have HN := hid (dualL_no hg)
    clear hg
    go_enter Try.func23, Try.ntmps23
    go_wp2_with fail
    refine (implIsPoset_any _ xs _ ((HV.out.alloc _).alloc _) hl).mono ?_
    rw [HG.out]
    rintro e w1 ⟨rfl, hb1⟩
    obtain ⟨hp, hr, hz, hB⟩ := twoBoxes hb1
    have t1 := hr.cell 0
    have t2 := hr.frozen 0
    have HB := hid hB
    clear hb1 hp hr hB
    go_wp2
    refine bodyPost_ret (v := .tuple #[.agg #[.slice none 0 0], .bool false]) (by simp [results, Try.results23, go_sem, t1]) rfl ⟨_, rfl, by rw [HN.out]; exact OwnI.nil _ _ _, HL.out, ?_⟩
    exact HB.out.setCell (p := ⟨w.heap.size + 1, 0, none⟩) (by show w.heap.size ≤ w.heap.size + 1; omega) _
  · have HG := hid hg
    have hl10 := (good_length hg).2
    have hn1 := (good_length hg).1
    have HY := hid (dualL_yes hg)
    clear hg
    go_enter Try.func23, Try.ntmps23
    go_wp2_with fail
    refine (implIsPoset_any _ xs _ ((HV.out.alloc _).alloc _) hl).mono ?_
    rw [HG.out]
    rintro e w1 ⟨rfl, hb1⟩
    obtain ⟨hp, hr, hz, hB⟩ := twoBoxes hb1
    have t0 := hp.cell 0
    have hz0 : w.heap.size < w1.heap.size := by omega
    have HP := hid hp
    have HR := hid hr
    have HB := hid hB
    have HV1 := hid (HV.out.below hB)
    clear hb1 hp hr hB
    go_wp2_with fail
    obtain ⟨W, hW⟩ : ∃ W : World, W = w1.alloc (.cells #[.int .i64 ((xs.length : Int) - 1)] 3) := ⟨_, rfl⟩
    have HA2 : Hid (At W w1.heap.size (.int .i64 ((xs.length - 1 : Nat) : Int))) := hid (by
      subst hW
      have e : ((xs.length : Int) - 1) = ((xs.length - 1 : Nat) : Int) := by omega
      rw [e]; exact At.new _ _ _)
    have HA1 : Hid (At W w.heap.size (.slice A xs.length c)) := hid (by subst hW; exact At.alloc ⟨HP.out.cell 0, HP.out.lt⟩ _)
    have HV2 : Hid (Ints W (.slice A xs.length c) xs) := hid (by subst hW; exact HV1.out.alloc _)
    have HR2 : Hid (Blk W (w.heap.size + 1) 26 #[.slice none 0 0]) := hid (by subst hW; exact HR.out.alloc _)
    have HB2 : Hid (Below w.heap.size w W) := hid (by subst hW; exact below_alloc HB.out _)
    have hzW : w.heap.size + 2 < W.heap.size := by subst hW; simp; omega
    rw [← hW]
    clear hW t0
    refine (posetWhereDual_any xs.length _ _ (dualF xs) W hl10 (fun j i W' hj hi hb => dualClosure_any _ xs w.heap.size w1.heap.size j i W' (HV2.out.below hb) HG.out (HA1.out.below hb) (HA2.out.below hb) hj hi)).mono ?_
    rintro e w2 ⟨u, rfl, ho, hb2⟩
    have hr := HR2.out.below hb2 (by omega)
    have t1 := hr.cell 0
    have t2 := hr.frozen 0
    obtain ⟨uA, un, uc, rfl⟩ := ho.shape3
    have HO := hid ho
    have HB3 := hid (below_to HB2.out hb2)
    clear hr ho hb2
    go_wp2
    refine bodyPost_ret (v := .tuple #[.agg #[.slice uA un uc], .bool true]) (by simp [results, Try.results23, go_sem, t1]) rfl ⟨_, rfl, ?_, HL.out, ?_⟩
    · rw [HY.out]
      refine (HO.out.grown (grown_setCell (World.grownBy.refl _ _) 0 _) ?_).mono (by omega)
      exact HO.out.apart (.inl (by omega))
    · exact HB3.out.setCell (p := ⟨w.heap.size + 1, 0, none⟩) (by show w.heap.size ≤ w.heap.size + 1; omega) _
end Go.Proofs.Ytpdoheagfjeefaa
