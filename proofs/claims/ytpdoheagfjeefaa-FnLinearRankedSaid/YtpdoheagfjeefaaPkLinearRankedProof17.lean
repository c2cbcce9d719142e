/- Texts Same, Dual, Tr, DuaM, one behind the other. -/
import Derived.BigQuiet
import Derived.Test.YtpdoheagfjeefaaPkLinearRankedProof02
import Derived.Test.YtpdoheagfjeefaaPkLinearRankedProof08
import Derived.Test.YtpdoheagfjeefaaPkLinearRankedProof10
import Derived.Test.YtpdoheagfjeefaaPkLinearRankedProof11
import Derived.Test.YtpdoheagfjeefaaPkLinearRankedProof13
import Derived.Test.YtpdoheagfjeefaaPkLinearRankedProof14
/- Two lists alike: the model's l1Same, slices.Equal; DualLinear of both sides. -/
namespace Go.Proofs.Ytpdoheagfjeefaa
open Go.RowKit Go.WideShapes Go.ChangeShapes
set_option linter.unusedVariables false

/-! ### the linear extension of the dual -/
def duaF (ws : List Int) (j : Nat) : Nat := ws.length - 1 - (ws.getD (ws.length - 1 - j) 0).toNat
def duaL (ws : List Int) : List Int := mkL ws.length (duaF ws)
def ansDL (xs ws : List Int) : List Int := if okLin xs ws then duaL ws else []
theorem ansDL_no {xs ws : List Int} (h : okLin xs ws = false) : ansDL xs ws = [] := by simp [ansDL, h]
theorem ansDL_yes {xs ws : List Int} (h : okLin xs ws = true) : ansDL xs ws = duaL ws := by simp [ansDL, h]
theorem ansDL_length (xs ws : List Int) : (ansDL xs ws).length ≤ 1048576 := by
  cases h : okLin xs ws
  · rw [ansDL_no h]; simp
  · rw [ansDL_yes h, duaL, mkL_length, (okLin_Lw h).len]
    have := (good_length (okLin_all h).1).2
    omega
def duaR (ws : List Int) (i j : Nat) : Nat := if ws.length - i ≤ j then duaF ws j else 0
theorem duaR_succ (ws : List Int) (i : Nat) (hi : i < ws.length) : mkL ws.length (duaR ws (i + 1)) = (mkL ws.length (duaR ws i)).set (ws.length - 1 - i) ((ws.length - 1 - (ws.getD i 0).toNat : Nat) : Int) :=
  mkL_upd _ (by omega) fun j hj => by
    unfold duaR
    by_cases h : j = ws.length - 1 - i
    · subst h
      rw [if_pos (by omega), if_pos rfl]
      unfold duaF
      rw [show ws.length - 1 - (ws.length - 1 - i) = i by omega]
    · rw [if_neg h]
      by_cases h2 : ws.length - i ≤ j
      · rw [if_pos h2, if_pos (by omega)]
      · rw [if_neg h2, if_neg (by omega)]
theorem specDualLinear_any (v : Value) (xs : List Int) (u : Value) (ws : List Int) (w : World) (hv : Ints w v xs) (hl : xs.length ≤ 1048576) (hu : Ints w u ws) (hm : ws.length ≤ 1048576) :
    Calls Try.prog 15 #[.agg #[v], u] w fun (r : Ending) w' => ∃ q, r = Ending.returned (.tuple #[q, .bool (okLin xs ws)]) ∧ OwnI 3 w' w.heap.size q (ansDL xs ws) ∧ (ansDL xs ws).length ≤ 1048576 ∧ Below w.heap.size w w' := by
  have HV := hid hv
  have HU := hid hu
  have HL := hid (ansDL_length xs ws)
  obtain ⟨A, c, rfl, hA⟩ := hu
  have HA := hid hA
  clear hv hA
  go_enter Try.func15, Try.ntmps15
  have HB := hid (below_alloc (Below.refl _ w) (.cells #[v] 26))
  have A0 := hid (At.newAt w v 26 w.heap.size (by simp))
  go_wp2_with fail
  refine (liGiven_any _ _ xs ws _ (HV.out.below HB.out) hl (HU.out.below HB.out) hm).mono ?_
  rintro e w' ⟨rfl, hb⟩
  replace HB := hid (below_to HB.out hb)
  replace A0 := hid (A0.out.below hb)
  clear hb
  cases hq : okLin xs ws
  · have HO := hid hq
    clear hq
    have ebox0 := A0.out.1
    go_wp2
    go_ret2
    exact ⟨_, ret_vbL HO.out.symm, by rw [ansDL_no HO.out]; exact OwnI.nil _ _ _, HL.out, HB.out⟩
  · have HO := hid hq
    have HLw := hid (okLin_Lw hq)
    have HG := hid (okLin_all hq).1
    have HY := hid (ansDL_yes hq)
    have hw10 : ws.length ≤ 10 := by have h1 := HLw.out.len; have h2 := (good_length HG.out).2; omega
    have HZ := hid HB.out.size
    clear hq
    have ebox0 := A0.out.1
    go_wp2
    go_loopw [6, 7] (fun q i wr => ∃ k : Nat, k ≤ ws.length ∧ i = .int .i64 ((ws.length : Int) - 1 - (k : Int)) ∧ OwnI 3 wr w.heap.size q (mkL k (duaF ws)) ∧ Below w.heap.size w wr) (fun _ i _ => (intOf i + 1).toNat)
    case atStart => exact ⟨0, Nat.zero_le _, by simp, OwnI.nil _ _ _, HB.out⟩
    case round =>
      obtain ⟨k, hk, rfl, ho, hb⟩ := hrel
      have HO1 := hid ho
      have HB1 := hid hb
      obtain ⟨qA, qc, rfl, -⟩ := ho.shape
      have hwz := hb.size
      clear ho hb
      by_cases hlt : k < ws.length
      · obtain ⟨b2, o2, rfl, hbl2, hc2⟩ := HA.out (by intro h; simp [h] at hlt)
        obtain ⟨p, hp⟩ : ∃ p, ws.length - 1 - k = p := ⟨_, rfl⟩
        have hp2 : (ws.length : Int) - 1 - (k : Int) = (p : Int) := by omega
        have hpl : p < ws.length := by omega
        have hcell := (HB1.out.cell (p := ⟨b2, o2 + p, none⟩) hbl2).trans (hc2 p hpl)
        have hin := HLw.out.at (j := p) (by have := HLw.out.len; omega)
        have HF : Hid (duaF ws k = ws.length - 1 - (ws.getD p 0).toNat) := hid (by unfold duaF; rw [hp])
        obtain ⟨e, he⟩ := Int.eq_ofNat_of_zero_le hin.1
        rw [he] at hcell hin HF
        rw [Int.toNat_natCast] at HF
        have hen : e < ws.length := by have := HLw.out.len; omega
        have HS := hid (mkL_succ k (duaF ws))
        obtain ⟨y, hy⟩ : ∃ y, ws.length - 1 - e = y := ⟨_, rfl⟩
        have hyI : (ws.length : Int) - 1 - (e : Int) = (y : Int) := by omega
        rw [hy] at HF
        have HP2 := hid hp2
        rw [hp2]
        have hy10 : y < 10 := by omega
        have hp10 : p < 10 := by omega
        clear hc2 hp hp2 he hin hy hen
        go_wp2_with (at_builtin; refine wpList_append_int rfl _ _ 24 3 rfl Try.underlying24 Try.info3 w.heap.size _ (mkL k (duaF ws)) (y : Int) rfl HO1.out rfl rfl (by rw [mkL_length]; omega) hwz ?_; rintro u3 w3 ho3 hb3)
        go_roundw
        case rel => exact ⟨k + 1, by omega, (by have := HP2.out; first | (congr 1; omega) | (simp; omega)), (by rw [HS.out, HF.out]; exact ho3), HB1.out.trans hb3⟩
        case measure => first | (simp [intOf]; done) | (simp [intOf]; have := HP2.out; omega)
      · obtain rfl : k = ws.length := by omega
        have e2 : (ws.length : Int) - 1 - (ws.length : Int) = -1 := by omega
        rw [e2]
        clear e2
        go_wp2
        go_ret2
        exact ⟨_, ret_vbL HO.out.symm, by rw [HY.out]; exact HO1.out, HL.out, HB1.out⟩
theorem implDualLinear_any (v : Value) (xs : List Int) (u : Value) (ws : List Int) (w : World) (hv : Ints w v xs) (hl : xs.length ≤ 1048576) (hu : Ints w u ws) (hm : ws.length ≤ 1048576) :
    Calls Try.prog 14 #[.agg #[v], u] w fun (r : Ending) w' => ∃ q, r = Ending.returned (.tuple #[q, .bool (okLin xs ws)]) ∧ OwnI 3 w' w.heap.size q (ansDL xs ws) ∧ (ansDL xs ws).length ≤ 1048576 ∧ Below w.heap.size w w' := by
  have HV := hid hv
  have HU := hid hu
  have HL := hid (ansDL_length xs ws)
  obtain ⟨A, c, rfl, hA⟩ := hu
  have HA := hid hA
  clear hv hA
  go_enter Try.func14, Try.ntmps14
  have HB := hid (below_alloc (Below.refl _ w) (.cells #[v] 26))
  have A0 := hid (At.newAt w v 26 w.heap.size (by simp))
  go_wp2_with fail
  refine (hasLinear_any _ _ xs ws _ (HV.out.below HB.out) hl (HU.out.below HB.out) hm).mono ?_
  rintro e w' ⟨rfl, hb⟩
  replace HB := hid (below_to HB.out hb)
  replace A0 := hid (A0.out.below hb)
  clear hb
  cases hq : okLin xs ws
  · have HO := hid hq
    clear hq
    have ebox0 := A0.out.1
    go_wp2
    go_ret2
    exact ⟨_, ret_vbL HO.out.symm, by rw [ansDL_no HO.out]; exact OwnI.nil _ _ _, HL.out, HB.out⟩
  · have HO := hid hq
    have HLw := hid (okLin_Lw hq)
    have HG := hid (okLin_all hq).1
    have HY := hid (ansDL_yes hq)
    have hw10 : ws.length ≤ 10 := by have h1 := HLw.out.len; have h2 := (good_length HG.out).2; omega
    have hw1 : 1 ≤ ws.length := by have h1 := HLw.out.len; have h2 := (good_length HG.out).1; omega
    have HZ := hid HB.out.size
    have hmk := run_make_row' (P := Try.prog) 24 3 (.int .i64 0) 8 Try.underlying24 Try.info3 rfl .i64 .i64 ws.length (by omega) (by omega)
    clear hq
    have ebox0 := A0.out.1
    go_wp2
    clear hmk
    rw [Vals_made]
    obtain ⟨g, hg⟩ : ∃ g, w'.heap.size = g := ⟨_, rfl⟩
    have HWG : Hid (w.heap.size ≤ g) := hid (by have := HZ.out; omega)
    have HS0 : Hid (Blk (w'.alloc (.cells (Vals (List.replicate ws.length 0)) 3)) g 3 (Vals (mkL ws.length (duaR ws 0)))) := hid (by
      have e : mkL ws.length (duaR ws 0) = List.replicate ws.length 0 := by
        rw [← mkL_zero]; exact mkL_congr fun j hj => by unfold duaR; rw [if_neg (by omega)]
      rw [e]; exact Blk.newAt _ _ _ _ hg.symm)
    rw [hg]
    clear hg
    go_loopw [22] (fun i wr => ∃ k : Nat, k ≤ ws.length ∧ i = .int .i64 k ∧ Blk wr g 3 (Vals (mkL ws.length (duaR ws k))) ∧ Below w.heap.size w wr) (fun i _ => ws.length - (intOf i).toNat)
    case atStart => exact ⟨0, Nat.zero_le _, rfl, HS0.out, below_alloc HB.out _⟩
    case round =>
      obtain ⟨k, hk, rfl, hB, hb⟩ := hrel
      have HB1 := hid hB
      have Hb1 := hid hb
      clear hB hb
      by_cases hlt : k < ws.length
      · obtain ⟨b2, o2, rfl, hbl2, hc2⟩ := HA.out (by intro h; simp [h] at hlt)
        have hcell := (Hb1.out.cell (p := ⟨b2, o2 + k, none⟩) hbl2).trans (hc2 k hlt)
        have hin := HLw.out.at (j := k) (by have := HLw.out.len; omega)
        have HR := hid (duaR_succ ws k hlt)
        obtain ⟨e, he⟩ := Int.eq_ofNat_of_zero_le hin.1
        rw [he] at hcell hin HR
        rw [Int.toNat_natCast] at HR
        have hen : e < ws.length := by have := HLw.out.len; omega
        obtain ⟨p, hp⟩ : ∃ p, ws.length - 1 - k = p := ⟨_, rfl⟩
        have hp2 : (ws.length : Int) - 1 - (k : Int) = (p : Int) := by omega
        have hpl : p < ws.length := by omega
        obtain ⟨y, hy⟩ : ∃ y, ws.length - 1 - e = y := ⟨_, rfl⟩
        have hyI : (ws.length : Int) - 1 - (e : Int) = (y : Int) := by omega
        rw [hp, hy] at HR
        have hcp : wr.cell? ⟨g, p, none⟩ = some (.int .i64 (duaR ws k p : Nat)) := by
          rw [HB1.out.cell, Vals_get (by rw [mkL_length]; exact hpl), mkL_getD hpl]
        have hfp := HB1.out.frozen p
        have hy10 : y < 10 := by omega
        have hp10 : p < 10 := by omega
        clear hc2 hp he hin hy hen
        go_wp2
        go_roundw
        case rel => exact ⟨k + 1, by omega, by go_num, (by rw [HR.out, ← Vals_set]; exact HB1.out.set_ p _), Hb1.out.setCell (p := ⟨g, p, none⟩) HWG.out _⟩
        case measure => simp [intOf]; omega
      · obtain rfl : k = ws.length := by omega
        have HOw : Hid (OwnI 3 wr w.heap.size (.slice (some ⟨g, 0, none⟩) ws.length ws.length) (duaL ws)) := hid (by
          have e : mkL ws.length (duaR ws ws.length) = duaL ws := mkL_congr fun j hj => by unfold duaR; rw [if_pos (by omega)]
          have h2 := HB1.out
          rw [e] at h2
          have h3 := Blk.own (xs := duaL ws) (B := w.heap.size) h2 HWG.out (by rw [duaL, mkL_length]; omega)
          rw [duaL, mkL_length] at h3
          exact h3)
        go_wp2
        go_ret2
        exact ⟨_, ret_vbL HO.out.symm, by rw [HY.out]; exact HOw.out, HL.out, Hb1.out⟩
end Go.Proofs.Ytpdoheagfjeefaa

/- DualOf. -/
namespace Go.Proofs.Ytpdoheagfjeefaa
open Go.RowKit Go.WideShapes Go.ChangeShapes
set_option linter.unusedVariables false

def dualF (xs : List Int) (j i : Nat) : Bool := (xs.getD (xs.length - 1 - j) 0).toNat.testBit (xs.length - 1 - i)
def dstep (xs : List Int) (n i : Nat) (g : Nat → Nat) (j : Nat) (r : Nat) : Nat := if (xs.getD i 0).toNat.testBit j then (if r = n - 1 - j then g (n - 1 - j) ||| 2 ^ (n - 1 - i) else g r) else g r
def din (xs : List Int) (n i : Nat) (g : Nat → Nat) : Nat → Nat → Nat
  | 0 => g
  | j + 1 => dstep xs n i (din xs n i g j) j
def dout (xs : List Int) (n : Nat) : Nat → Nat → Nat
  | 0 => fun _ => 0
  | i + 1 => din xs n i (dout xs n i) i
theorem din_lt {xs : List Int} {n i : Nat} {g : Nat → Nat} (hn : n ≤ 10) (hg : ∀ r, g r < 1024) (t : Nat) : ∀ r, din xs n i g t r < 1024 := by
  induction t with
  | zero => exact hg
  | succ t ih =>
    intro r
    unfold din dstep
    split
    · split
      · exact Nat.or_lt_two_pow (n := 10) (ih _) (Nat.pow_lt_pow_right (by decide) (by omega))
      · exact ih r
    · exact ih r
theorem dout_lt {xs : List Int} {n : Nat} (hn : n ≤ 10) (k : Nat) : ∀ r, dout xs n k r < 1024 := by
  induction k with
  | zero => intro r; simp [dout]
  | succ k ih => exact din_lt hn ih k
theorem din_testBit {xs : List Int} {n i : Nat} {g : Nat → Nat} (t : Nat) (ht : t ≤ n) (r s : Nat) (hr : r < n) :
    (din xs n i g t r).testBit s = true ↔ (g r).testBit s = true ∨ (n - 1 - r < t ∧ (xs.getD i 0).toNat.testBit (n - 1 - r) = true ∧ s = n - 1 - i) := by
  induction t with
  | zero => simp [din]
  | succ t ih =>
    have ih := ih (by omega)
    unfold din dstep
    by_cases hb : (xs.getD i 0).toNat.testBit t = true
    · rw [if_pos hb]
      by_cases e : r = n - 1 - t
      · rw [if_pos e, ← e, Nat.testBit_or, Bool.or_eq_true, ih]
        have e2 : n - 1 - r = t := by omega
        rw [e2]
        constructor
        · rintro ((h | h) | h)
          · exact .inl h
          · exact .inr ⟨by omega, h.2.1, h.2.2⟩
          · rw [Nat.testBit_two_pow] at h
            exact .inr ⟨by omega, hb, by simpa using (of_decide_eq_true h).symm⟩
        · rintro (h | ⟨-, -, h⟩)
          · exact .inl (.inl h)
          · exact .inr (by rw [h]; exact Nat.testBit_two_pow_self)
      · rw [if_neg e, ih]
        constructor
        · rintro (h | ⟨h1, h2⟩)
          · exact .inl h
          · exact .inr ⟨by omega, h2⟩
        · rintro (h | ⟨h1, h2⟩)
          · exact .inl h
          · exact .inr ⟨by omega, h2⟩
    · rw [if_neg hb, ih]
      constructor
      · rintro (h | ⟨h1, h2⟩)
        · exact .inl h
        · exact .inr ⟨by omega, h2⟩
      · rintro (h | ⟨h1, h2, h3⟩)
        · exact .inl h
        · by_cases e : n - 1 - r = t
          · rw [e] at h2; exact absurd h2 hb
          · exact .inr ⟨by omega, h2, h3⟩
theorem dout_testBit {xs : List Int} {n : Nat} (k : Nat) (hk : k ≤ n) (r s : Nat) (hr : r < n) :
    (dout xs n k r).testBit s = true ↔ ∃ i, i < k ∧ n - 1 - r < i ∧ (xs.getD i 0).toNat.testBit (n - 1 - r) = true ∧ s = n - 1 - i := by
  induction k with
  | zero => simp [dout]
  | succ k ih =>
    unfold dout
    rw [din_testBit k (by omega) r s hr, ih (by omega)]
    constructor
    · rintro (⟨i, h1, h2⟩ | h)
      · exact ⟨i, by omega, h2⟩
      · exact ⟨k, by omega, h⟩
    · rintro ⟨i, h1, h2⟩
      by_cases e : i = k
      · subst e; exact .inr h2
      · exact .inl ⟨i, by omega, h2⟩
theorem dout_full (xs : List Int) : mkL xs.length (dout xs xs.length xs.length) = whereL (dualF xs) xs.length := by
  unfold whereL
  refine mkL_congr fun r hr => Nat.eq_of_testBit_eq fun s => ?_
  rw [Bool.eq_iff_iff, dout_testBit _ (Nat.le_refl _) r s hr, rowN_testBit, Bool.and_eq_true, decide_eq_true_eq]
  unfold dualF
  constructor
  · rintro ⟨i, h1, h2, h3, rfl⟩
    refine ⟨by omega, ?_⟩
    rw [show xs.length - 1 - (xs.length - 1 - i) = i by omega]
    exact h3
  · rintro ⟨h1, h2⟩
    exact ⟨xs.length - 1 - s, by omega, by omega, h2, by omega⟩

def dualL (xs : List Int) : List Int := if good xs then whereL (dualF xs) xs.length else []
theorem dualL_yes {xs : List Int} (h : good xs = true) : dualL xs = whereL (dualF xs) xs.length := if_pos h
theorem dualL_no {xs : List Int} (h : good xs = false) : dualL xs = [] := by simp [dualL, h]
theorem dualL_length (xs : List Int) : (dualL xs).length ≤ 1048576 := by
  unfold dualL
  split
  · rename_i h
    unfold whereL
    rw [mkL_length]
    have := (good_length h).2
    omega
  · simp

theorem dualClosure_any (v : Value) (xs : List Int) (a1 a2 j i : Nat) (w : World) (hv : Ints w v xs) (hg : good xs = true) (h1 : At w a1 v) (h2 : At w a2 (.int .i64 ((xs.length - 1 : Nat) : Int))) (hj : j < i) (hi : i < xs.length) :
    Calls Try.prog 93 #[.int .i64 j, .int .i64 i, .pointer (some ⟨a1, 0, none⟩), .pointer (some ⟨a2, 0, none⟩)] w fun r w' => r = .returned (.bool (dualF xs j i)) ∧ Below w.heap.size w w' := by
  have hl10 := (good_length hg).2
  have hok := okAt_small (good_at hg (show xs.length - 1 - j < xs.length by omega)) (by omega)
  obtain ⟨A, c, rfl, hA⟩ := hv
  obtain ⟨b, o, rfl, hbl, hc⟩ := hA (by intro h; simp [h] at hi)
  have hcell := hc (xs.length - 1 - j) (by omega)
  obtain ⟨x, hx⟩ : ∃ x, xs.getD (xs.length - 1 - j) 0 = x := ⟨_, rfl⟩
  rw [hx] at hcell hok
  obtain ⟨z, rfl⟩ := Int.eq_ofNat_of_zero_le hok.1
  obtain ⟨R, hR⟩ : ∃ R, dualF xs j i = R := ⟨_, rfl⟩
  have HR : Hid (z.testBit (xs.length - 1 - i) = R) := by unfold dualF at hR; rw [hx, Int.toNat_natCast] at hR; exact hR
  rw [hR]
  obtain ⟨h1, -⟩ := h1
  obtain ⟨h2, -⟩ := h2
  obtain ⟨p, hp⟩ : ∃ p, xs.length - 1 - j = p := ⟨_, rfl⟩
  obtain ⟨q, hq⟩ : ∃ q, xs.length - 1 - i = q := ⟨_, rfl⟩
  rw [hp] at hcell
  rw [hq] at HR
  have e1 : IntKind.i64.wrap (((xs.length - 1 : Nat) : Int) - (j : Int)) = (p : Int) := by rw [IntWalk.i64_in _ (by omega)]; omega
  have e2 : IntKind.i64.wrap (((xs.length - 1 : Nat) : Int) - (i : Int)) = (q : Int) := by rw [IntWalk.i64_in _ (by omega)]; omega
  have hp3 : (p : Int) < xs.length := by omega
  have hp4 : p < xs.length := by omega
  have hq3 : q < 64 := by omega
  have hz3 : z < 1024 := by omega
  clear hc hA hx hR hp hq hg hok hj hi
  go_enter Try.func93, Try.ntmps93
  go_wp2
  go_quiet ((go_at_call 94; exact Calls.quiet_of_same ((hasElement_any z q (by omega) hq3 _).mono fun _ _ ⟨a, b⟩ => ⟨a, b.symm⟩)))
  go_wp2
  go_ret
  exact ⟨ret_bool HR.out, below_drewN (Below.refl _ _) _⟩

/-- what holds in poDual's loops: the new row, the variable that holds it, the result's cell -/
structure DualW (ti tp : TypeId) (n : Nat) (w : World) (g : Nat → Nat) (wr : World) : Prop where
  row : Blk wr (w.heap.size + 1 + 1) ti (Vals (mkL n g))
  out : Blk wr (w.heap.size + 1 + 1 + 1) tp #[.slice (some ⟨w.heap.size + 1 + 1, 0, none⟩) n n]
  res : Blk wr (w.heap.size + 1) tp #[.slice none 0 0]
  below : Below w.heap.size w wr
theorem DualW.start (ti tp : TypeId) (n : Nat) (w : World) (u : Value) (g : Nat → Nat) :
    DualW ti tp n w g ((((w.alloc (.cells #[u] tp)).alloc (.cells #[.slice none 0 0] tp)).alloc (.cells (Vals (mkL n g)) ti)).alloc (.cells #[.slice (some ⟨w.heap.size + 1 + 1, 0, none⟩) n n] tp)) :=
  ⟨(Blk.newAt _ _ _ _ (by simp)).alloc _, Blk.newAt _ _ _ _ (by simp), ((Blk.newAt _ _ _ _ (by simp)).alloc _).alloc _, (((((Below.refl _ _).alloc (Nat.le_refl _) _).alloc (by simp) _).alloc (by simp; omega) _).alloc (by simp; omega) _)⟩
theorem DualW.step {ti tp : TypeId} {n : Nat} {w wr : World} {g g' : Nat → Nat} {q : Nat} {y : Int} (h : DualW ti tp n w g wr) (e : mkL n g' = (mkL n g).set q y) :
    DualW ti tp n w g' ((wr.setCell ⟨w.heap.size + 1 + 1, q, none⟩ (.int .i64 y)).drew) := by
  refine ⟨?_, ?_, ?_, ?_⟩
  · rw [e, ← Vals_set]; exact h.row.set_ q _
  · exact h.out.far (p := ⟨w.heap.size + 1 + 1, q, none⟩) (by show w.heap.size + 1 + 1 + 1 ≠ w.heap.size + 1 + 1; omega) _
  · exact h.res.far (p := ⟨w.heap.size + 1 + 1, q, none⟩) (by show w.heap.size + 1 ≠ w.heap.size + 1 + 1; omega) _
  · exact (h.below.setCell (p := ⟨w.heap.size + 1 + 1, q, none⟩) (by show w.heap.size ≤ w.heap.size + 1 + 1; omega) _).drew
theorem twoBoxes {w w1 : World} {t t' : TypeId} {a b : Array Value} (hb : Below ((w.alloc (.cells a t)).alloc (.cells b t')).heap.size ((w.alloc (.cells a t)).alloc (.cells b t')) w1) :
    Blk w1 w.heap.size t a ∧ Blk w1 (w.heap.size + 1) t' b ∧ w.heap.size + 2 ≤ w1.heap.size ∧ Below w.heap.size w w1 := by
  refine ⟨?_, ?_, ?_, ?_⟩
  · exact ((Blk.new w t a).alloc _).below hb (by simp; omega)
  · exact (Blk.newAt _ t' b (w.heap.size + 1) (by simp)).below hb (by simp)
  · have := hb.size; simp at this; omega
  · exact below_to (below_alloc (below_alloc (Below.refl _ _) _) _) hb
theorem implDualOf_any (v : Value) (xs : List Int) (w : World) (hv : Ints w v xs) (hl : xs.length ≤ 1048576) :
    Calls Try.prog 23 #[.agg #[v]] w fun (r : Ending) w' => ∃ u, r = Ending.returned (.tuple #[.agg #[u], .bool (good xs)]) ∧ OwnI 3 w' w.heap.size u (dualL xs) ∧ (dualL xs).length ≤ 1048576 ∧ Below w.heap.size w w' := by
  have HV := hid hv
  have HL := hid (dualL_length xs)
  obtain ⟨A, c, rfl, -⟩ := hv
  cases hg : good xs
  · have HG := hid hg
    have HN := hid (dualL_no hg)
    clear hg
    go_enter Try.func23, Try.ntmps23
    go_wp2_with fail
    refine (implIsPoset_any _ xs _ ((HV.out.alloc _).alloc _) hl).mono ?_
    rw [HG.out]
    rintro e w1 ⟨rfl, hb1⟩
    obtain ⟨hp, hr, hz, hB⟩ := twoBoxes hb1
    have t1 := hr.cell 0
    have t2 := hr.frozen 0
    have HB := hid hB
    clear hb1 hp hr hB
    go_wp2
    refine bodyPost_ret (v := .tuple #[.agg #[.slice none 0 0], .bool false]) (by simp [results, Try.results23, go_sem, t1]) rfl ⟨_, rfl, by rw [HN.out]; exact OwnI.nil _ _ _, HL.out, ?_⟩
    exact HB.out.setCell (p := ⟨w.heap.size + 1, 0, none⟩) (by show w.heap.size ≤ w.heap.size + 1; omega) _
  · have HG := hid hg
    have hl10 := (good_length hg).2
    have hn1 := (good_length hg).1
    have HY := hid (dualL_yes hg)
    clear hg
    go_enter Try.func23, Try.ntmps23
    go_wp2_with fail
    refine (implIsPoset_any _ xs _ ((HV.out.alloc _).alloc _) hl).mono ?_
    rw [HG.out]
    rintro e w1 ⟨rfl, hb1⟩
    obtain ⟨hp, hr, hz, hB⟩ := twoBoxes hb1
    have t0 := hp.cell 0
    have hz0 : w.heap.size < w1.heap.size := by omega
    have HP := hid hp
    have HR := hid hr
    have HB := hid hB
    have HV1 := hid (HV.out.below hB)
    clear hb1 hp hr hB
    go_wp2_with fail
    obtain ⟨W, hW⟩ : ∃ W : World, W = w1.alloc (.cells #[.int .i64 ((xs.length : Int) - 1)] 3) := ⟨_, rfl⟩
    have HA2 : Hid (At W w1.heap.size (.int .i64 ((xs.length - 1 : Nat) : Int))) := hid (by
      subst hW
      have e : ((xs.length : Int) - 1) = ((xs.length - 1 : Nat) : Int) := by omega
      rw [e]; exact At.new _ _ _)
    have HA1 : Hid (At W w.heap.size (.slice A xs.length c)) := hid (by subst hW; exact At.alloc ⟨HP.out.cell 0, HP.out.lt⟩ _)
    have HV2 : Hid (Ints W (.slice A xs.length c) xs) := hid (by subst hW; exact HV1.out.alloc _)
    have HR2 : Hid (Blk W (w.heap.size + 1) 26 #[.slice none 0 0]) := hid (by subst hW; exact HR.out.alloc _)
    have HB2 : Hid (Below w.heap.size w W) := hid (by subst hW; exact below_alloc HB.out _)
    have hzW : w.heap.size + 2 < W.heap.size := by subst hW; simp; omega
    rw [← hW]
    clear hW t0
    refine (posetWhereDual_any xs.length _ _ (dualF xs) W hl10 (fun j i W' hj hi hb => dualClosure_any _ xs w.heap.size w1.heap.size j i W' (HV2.out.below hb) HG.out (HA1.out.below hb) (HA2.out.below hb) hj hi)).mono ?_
    rintro e w2 ⟨u, rfl, ho, hb2⟩
    have hr := HR2.out.below hb2 (by omega)
    have t1 := hr.cell 0
    have t2 := hr.frozen 0
    obtain ⟨uA, un, uc, rfl⟩ := ho.shape3
    have HO := hid ho
    have HB3 := hid (below_to HB2.out hb2)
    clear hr ho hb2
    go_wp2
    refine bodyPost_ret (v := .tuple #[.agg #[.slice uA un uc], .bool true]) (by simp [results, Try.results23, go_sem, t1]) rfl ⟨_, rfl, ?_, HL.out, ?_⟩
    · rw [HY.out]
      refine (HO.out.grown (grown_setCell (World.grownBy.refl _ _) 0 _) ?_).mono (by omega)
      exact HO.out.apart (.inl (by omega))
    · exact HB3.out.setCell (p := ⟨w.heap.size + 1, 0, none⟩) (by show w.heap.size ≤ w.heap.size + 1; omega) _
end Go.Proofs.Ytpdoheagfjeefaa

/- Rowmotion by toggles from above, in any order; antichains carried. No program is named here. · Rowmotion undone; orders there are; complements as differences. No program is named here. -/
namespace Go.Proofs.Ytpdoheagfjeefaa
set_option linter.unusedVariables false

theorem rowmo_bit (xs : List Int) (s e : Nat) : (rowmo xs s).testBit e = true ↔ ∃ f, f < xs.length ∧ rowP xs s f = true ∧ (f = e ∨ (row xs f).testBit e = true) := by
  rw [rowmo, orN_testBit]
  constructor
  · rintro ⟨f, hf, hp, hb⟩
    rw [rowG, Nat.testBit_or, Bool.or_eq_true, Nat.testBit_two_pow] at hb
    exact ⟨f, hf, hp, hb.imp (fun h => by simpa using h) id⟩
  · rintro ⟨f, hf, hp, hb⟩
    refine ⟨f, hf, hp, ?_⟩
    rw [rowG, Nat.testBit_or, Bool.or_eq_true, Nat.testBit_two_pow]
    exact hb.imp (fun h => by simpa using h) id
theorem tog_step {xs : List Int} (hg : good xs = true) {s t e : Nat} (ht : holdsIdeal xs t = true) (he : e < xs.length)
    (hlow : ∀ j, (row xs e).testBit j = true → t.testBit j = s.testBit j)
    (hup : ∀ f, f < xs.length → (row xs f).testBit e = true → t.testBit f = (rowmo xs s).testBit f)
    (hte : t.testBit e = s.testBit e) (i : Nat) : (tog xs t e).testBit i = if i = e then (rowmo xs s).testBit e else t.testBit i := by
  have hx : ∀ i, (t ^^^ 2 ^ e).testBit i = if i = e then !t.testBit e else t.testBit i := xor_bit t e
  cases hse : s.testBit e
  · rw [hse] at hte
    cases hp : rowP xs s e
    · have hR : (rowmo xs s).testBit e = false := by
        rw [Bool.eq_false_iff]
        intro h
        obtain ⟨f, hf, hpf, h1 | h1⟩ := (rowmo_bit xs s e).1 h
        · subst h1; rw [hp] at hpf; cases hpf
        · have := (rowP_iff.1 hpf).2 e h1; rw [hse] at this; cases this
      have hn : holdsIdeal xs (t ^^^ 2 ^ e) = false := by
        rw [Bool.eq_false_iff]
        intro h
        have h2 := holdsIdeal_row.1 h e he (by rw [hx, if_pos rfl, hte]; rfl)
        have h4 : rowP xs s e = true := rowP_iff.2 ⟨hse, fun j hj => by
          have h3 := h2 j hj
          have hlt := row_less hg he hj
          rw [hx, if_neg (by omega)] at h3
          rw [← hlow j hj]; exact h3⟩
        rw [hp] at h4; cases h4
      rw [tog_no hn]
      by_cases h : i = e
      · subst h; rw [if_pos rfl, hte, hR]
      · rw [if_neg h]
    · have hR : (rowmo xs s).testBit e = true := (rowmo_bit xs s e).2 ⟨e, he, hp, .inl rfl⟩
      have hy : holdsIdeal xs (t ^^^ 2 ^ e) = true := by
        refine holdsIdeal_row.2 fun f hf hb j hj => ?_
        rw [hx] at hb ⊢
        by_cases hje : j = e
        · rw [if_pos hje, hte]; rfl
        · rw [if_neg hje]
          by_cases hfe : f = e
          · subst hfe; rw [hlow j hj]; exact (rowP_iff.1 hp).2 j hj
          · rw [if_neg hfe] at hb
            exact holdsIdeal_row.1 ht f hf hb j hj
      rw [tog_yes hy, hx]
      by_cases h : i = e
      · rw [if_pos h, if_pos h, hte, hR]; rfl
      · rw [if_neg h, if_neg h]
  · rw [hse] at hte
    by_cases hc : ∃ f, f < xs.length ∧ (row xs f).testBit e = true ∧ (rowmo xs s).testBit f = true
    · obtain ⟨f, hf, hfe, hRf⟩ := hc
      have hR : (rowmo xs s).testBit e = true := holdsIdeal_row.1 (rowmo_ideal hg s) f hf hRf e hfe
      have hn : holdsIdeal xs (t ^^^ 2 ^ e) = false := by
        rw [Bool.eq_false_iff]
        intro h
        have hlt := row_less hg hf hfe
        have h2 := holdsIdeal_row.1 h f hf (by rw [hx, if_neg (by omega), hup f hf hfe]; exact hRf) e hfe
        rw [hx, if_pos rfl, hte] at h2
        cases h2
      rw [tog_no hn]
      by_cases h : i = e
      · subst h; rw [if_pos rfl, hte, hR]
      · rw [if_neg h]
    · have hR : (rowmo xs s).testBit e = false := by
        rw [Bool.eq_false_iff]
        intro h
        obtain ⟨f, hf, hpf, h1 | h1⟩ := (rowmo_bit xs s e).1 h
        · subst h1; rw [(rowP_iff.1 hpf).1] at hse; cases hse
        · exact hc ⟨f, hf, h1, (rowmo_bit xs s f).2 ⟨f, hf, hpf, .inl rfl⟩⟩
      have hy : holdsIdeal xs (t ^^^ 2 ^ e) = true := by
        refine holdsIdeal_row.2 fun f hf hb j hj => ?_
        rw [hx] at hb ⊢
        by_cases hfe : f = e
        · rw [if_pos hfe, hte] at hb; cases hb
        · rw [if_neg hfe] at hb
          by_cases hje : j = e
          · subst hje
            exact absurd ⟨f, hf, hj, by rw [← hup f hf hj]; exact hb⟩ hc
          · rw [if_neg hje]
            exact holdsIdeal_row.1 ht f hf hb j hj
      rw [tog_yes hy, hx]
      by_cases h : i = e
      · rw [if_pos h, if_pos h, hte, hR]; rfl
      · rw [if_neg h, if_neg h]
def revT (xs ys : List Int) (s k : Nat) : Nat := togW xs s (ys.drop k).reverse
theorem revT_step {xs ys : List Int} {s k : Nat} (hk : k < ys.length) : revT xs ys s k = tog xs (revT xs ys s (k + 1)) (wN ys k) := by
  unfold revT
  rw [List.drop_eq_getElem_cons hk, List.reverse_cons, togW, List.foldl_append]
  simp only [List.foldl_cons, List.foldl_nil, togW, wN]
  rw [show ys.getD k 0 = ys[k] from by simp [List.getD, hk]]
theorem revT_bits {xs ys : List Int} (hg : good xs = true) {s : Nat} (hs : s < 2 ^ xs.length) (hi : holdsIdeal xs s = true) (h : LinX xs ys) : ∀ d k, d + k = xs.length → holdsIdeal xs (revT xs ys s k) = true ∧ ∀ e, e < xs.length → (revT xs ys s k).testBit e = if (stL ys k).testBit e = true then s.testBit e else (rowmo xs s).testBit e := by
  intro d
  induction d with
  | zero =>
    intro k hk
    obtain rfl : k = xs.length := by omega
    have e0 : revT xs ys s xs.length = s := by
      unfold revT
      rw [← h.len, List.drop_length]; rfl
    rw [e0]
    refine ⟨hi, fun e he => ?_⟩
    rw [h.full, Nat.testBit_two_pow_sub_one]
    simp [he]
  | succ d ih =>
    intro k hk
    obtain ⟨h1, h2⟩ := ih (k + 1) (by omega)
    have hkl : k < xs.length := by omega
    obtain ⟨hr1, hr2⟩ := h.rng k hkl
    have hst : ∀ i, (stL ys (k + 1)).testBit i = true ↔ (stL ys k).testBit i = true ∨ i = wN ys k := by
      intro i
      rw [stL, Nat.testBit_or, Bool.or_eq_true, Nat.testBit_two_pow]
      constructor
      · exact fun hh => hh.imp id fun h3 => by simp at h3; exact h3.symm
      · exact fun hh => hh.imp id fun h3 => by simp [h3]
    have hnk : (stL ys k).testBit (wN ys k) = false := by
      rw [Bool.eq_false_iff]
      intro hb
      obtain ⟨j, hj, e⟩ := (stL_bit ys k _).1 hb
      exact h.ne hj hkl e
    rw [revT_step (by rw [h.len]; exact hkl)]
    refine ⟨tog_ideal h1, fun e he => ?_⟩
    rw [tog_step hg h1 hr2 (s := s) ?_ ?_ ?_ e]
    · by_cases hee : e = wN ys k
      · rw [if_pos hee, hee, hnk]; simp
      · rw [if_neg hee, h2 e he]
        by_cases hb : (stL ys k).testBit e = true
        · rw [if_pos ((hst e).2 (Or.inl hb)), if_pos hb]
        · rw [if_neg (fun hh => ((hst e).1 hh).elim hb hee), if_neg hb]
    · intro j hj
      obtain ⟨i, hik, hie⟩ := h.before hkl hj
      have hjl : j < xs.length := by have := row_less hg hr2 hj; omega
      rw [h2 j hjl, if_pos ((hst j).2 (Or.inl ((stL_bit ys k j).2 ⟨i, hik, hie⟩)))]
    · intro f hf hfe
      rw [h2 f hf, if_neg ?_]
      intro hb
      rcases (hst f).1 hb with hb | hb
      · obtain ⟨j, hj, e1⟩ := (stL_bit ys k f).1 hb
        obtain ⟨i, hij, hie⟩ := h.before (k := j) (j := wN ys k) (by omega) (by rw [e1]; exact hfe)
        exact h.ne (show i < k by omega) hkl hie
      · have := row_less hg hf hfe; omega
    · rw [h2 _ hr2, if_pos ((hst _).2 (Or.inr rfl))]
theorem togW_order {xs ys : List Int} (hg : good xs = true) {s : Nat} (hs : s < 2 ^ xs.length) (hi : holdsIdeal xs s = true) (h : orderB xs ys = true) : togW xs s ys.reverse = rowmo xs s := by
  have hb := (revT_bits hg hs hi (orderB_LinX h) xs.length 0 (by omega)).2
  have e0 : revT xs ys s 0 = togW xs s ys.reverse := rfl
  rw [e0] at hb
  apply Nat.eq_of_testBit_eq
  intro i
  by_cases hil : i < xs.length
  · rw [hb i hil]; simp [stL]
  · have hz : ∀ z, z < 2 ^ xs.length → z.testBit i = false := fun z hz => by
      rw [Bool.eq_false_iff]; intro hb2; exact hil (testBit_lt hz hb2)
    rw [hz _ (rowmo_lt hg s), hz _ (togW_lt hs ?_)]
    have := (orderB_word h).2
    unfold inW at this ⊢
    rw [List.all_eq_true] at this ⊢
    exact fun y hy => this y (List.mem_reverse.1 hy)
/-- what the next ideal's greatest elements are -/
theorem top_rowmo {xs : List Int} (hg : good xs = true) (s : Nat) : top xs (rowmo xs s) = bottom xs (compl xs.length s) := by
  rw [← rowmo_spec hg s, top_down_eq hg (bottom_anti xs _)]
/-- rowmotion of antichains is that of their ideals -/
theorem acRow_top {xs : List Int} (hg : good xs = true) {s : Nat} (hs : s < 2 ^ xs.length) (hi : holdsIdeal xs s = true) : top xs (rowmo xs (down xs (top xs s))) = top xs (rowmo xs s) := by
  rw [down_top hg hs hi]
end Go.Proofs.Ytpdoheagfjeefaa
namespace Go.Proofs.Ytpdoheagfjeefaa
set_option linter.unusedVariables false

theorem rowmo_topB {xs : List Int} (hg : good xs = true) {s : Nat} (hs : holdsIdeal xs s = true) {e : Nat} (he : e < xs.length) : rowP xs s e = (top xs (rowmo xs s)).testBit e := by
  rw [Bool.eq_iff_iff, rowmo_top hg hs he, top_bit]
  refine and_congr_right fun h => ⟨fun hh => ?_, fun hh i hi hr => ?_⟩
  · rintro ⟨i, hi, h1, h2⟩
    rw [hh i hi h1] at h2; cases h2
  · rw [Bool.eq_false_iff]
    intro h2
    exact hh ⟨i, hi, hr, h2⟩
theorem rowba_bit (xs : List Int) (s e : Nat) : (rowba xs s).testBit e = true ↔ e < xs.length ∧ backP xs (top xs s) e = true := by
  rw [rowba, orN_testBit]
  constructor
  · rintro ⟨f, hf, hp, hb⟩
    rw [Nat.testBit_two_pow] at hb
    obtain rfl : f = e := by simpa using hb
    exact ⟨hf, hp⟩
  · rintro ⟨he, hp⟩
    exact ⟨e, he, hp, by rw [Nat.testBit_two_pow]; simp⟩
theorem backP_iff {xs : List Int} {t e : Nat} : backP xs t e = true ↔ t.testBit e = false ∧ ∀ j, (row xs e).testBit j = true → t.testBit j = false := by
  simp only [backP, Bool.and_eq_true, Bool.not_eq_true', beq_iff_eq]
  refine and_congr_right fun _ => ⟨fun h j hj => and_zero_bit h hj, fun h => ?_⟩
  apply Nat.eq_of_testBit_eq
  intro j
  rw [Nat.testBit_and, Nat.zero_testBit]
  cases hj : (row xs e).testBit j
  · rfl
  · rw [h j hj]; rfl
theorem rowba_rowmo {xs : List Int} (hg : good xs = true) {s : Nat} (hs : s < 2 ^ xs.length) (hi : holdsIdeal xs s = true) : rowba xs (rowmo xs s) = s := by
  apply Nat.eq_of_testBit_eq
  intro e
  by_cases he : e < xs.length
  · have hrow : ∀ j, (row xs e).testBit j = true → j < xs.length := fun j hj => by have := row_less hg he hj; omega
    have hkey := out_iff hg hi (e + 1) e (by omega) he
    have hb : (rowba xs (rowmo xs s)).testBit e = true ↔ ¬ (rowP xs s e = true ∨ ∃ j, (row xs e).testBit j = true ∧ rowP xs s j = true) := by
      rw [rowba_bit, backP_iff]
      constructor
      · rintro ⟨-, h1, h2⟩ (h3 | ⟨j, hj, h3⟩)
        · rw [rowmo_topB hg hi he, h1] at h3; cases h3
        · rw [rowmo_topB hg hi (hrow j hj), h2 j hj] at h3; cases h3
      · intro h
        refine ⟨he, ?_, fun j hj => ?_⟩
        · rw [← rowmo_topB hg hi he, Bool.eq_false_iff]; exact fun h3 => h (Or.inl h3)
        · rw [← rowmo_topB hg hi (hrow j hj), Bool.eq_false_iff]; exact fun h3 => h (Or.inr ⟨j, hj, h3⟩)
    rw [← hkey] at hb
    rw [Bool.eq_iff_iff, hb]
    simp
  · have hz : ∀ z, z < 2 ^ xs.length → z.testBit e = false := fun z hz => by
      rw [Bool.eq_false_iff]; intro hb2; exact he (testBit_lt hz hb2)
    rw [hz _ (rowba_lt xs _), hz _ hs]
theorem rowmo_rowba {xs : List Int} (hg : good xs = true) {s : Nat} (hs : s < 2 ^ xs.length) (hi : holdsIdeal xs s = true) : rowmo xs (rowba xs s) = s := by
  have hm := rowMov hg
  have hD := idB_iff.2 ⟨hs, hi⟩
  obtain ⟨h1, h2, -, -⟩ := hm.perS hD
  obtain ⟨p, hp⟩ : ∃ p, per (rowmo xs) (2 ^ xs.length) s = p + 1 := ⟨per (rowmo xs) (2 ^ xs.length) s - 1, by omega⟩
  rw [hp] at h1
  have h3 : rowmo xs (iter (rowmo xs) p s) = s := h1
  have h4 := idB_iff.1 (hm.it hD p)
  have h5 := rowba_rowmo hg h4.1 h4.2
  rw [h3] at h5
  rw [h5, h3]
theorem iter_comm2 (f : Nat → Nat) (k s : Nat) : iter f k (f s) = f (iter f k s) := by
  induction k with
  | zero => rfl
  | succ k ih => exact congrArg f ih
theorem iter_back {f b : Nat → Nat} {D : Nat → Bool} (hf : ∀ s, D s = true → D (f s) = true) (hb : ∀ s, D s = true → b (f s) = s) {s : Nat} (hs : D s = true) (k : Nat) : D (iter f k s) = true ∧ iter b k (iter f k s) = s := by
  induction k with
  | zero => exact ⟨hs, rfl⟩
  | succ k ih =>
    refine ⟨hf _ ih.1, ?_⟩
    show b (iter b k (f (iter f k s))) = s
    rw [← iter_comm2 b k, hb _ ih.1, ih.2]
/-- rowmotion n times, and back -/
theorem rowmo_back {xs : List Int} (hg : good xs = true) {s : Nat} (hs : s < 2 ^ xs.length) (hi : holdsIdeal xs s = true) (k : Nat) :
    (iter (rowmo xs) k s < 2 ^ xs.length ∧ holdsIdeal xs (iter (rowmo xs) k s) = true ∧ iter (rowba xs) k (iter (rowmo xs) k s) = s) ∧
    (iter (rowba xs) k s < 2 ^ xs.length ∧ holdsIdeal xs (iter (rowba xs) k s) = true ∧ iter (rowmo xs) k (iter (rowba xs) k s) = s) := by
  have h1 := iter_back (f := rowmo xs) (b := rowba xs) (D := idB xs) (fun s h => idB_iff.2 ⟨rowmo_lt hg s, rowmo_ideal hg s⟩) (fun s h => rowba_rowmo hg (idB_iff.1 h).1 (idB_iff.1 h).2) (idB_iff.2 ⟨hs, hi⟩) k
  have h2 := iter_back (f := rowba xs) (b := rowmo xs) (D := idB xs) (fun s h => idB_iff.2 ⟨rowba_lt xs s, rowba_ideal hg s⟩) (fun s h => rowmo_rowba hg (idB_iff.1 h).1 (idB_iff.1 h).2) (idB_iff.2 ⟨hs, hi⟩) k
  exact ⟨⟨(idB_iff.1 h1.1).1, (idB_iff.1 h1.1).2, h1.2⟩, ⟨(idB_iff.1 h2.1).1, (idB_iff.1 h2.1).2, h2.2⟩⟩
/-- a complement as a difference -/
theorem compl_sub {n s : Nat} (hs : s < 2 ^ n) : compl n s = 2 ^ n - 1 - s := by
  apply Nat.eq_of_testBit_eq
  intro i
  rw [compl_testBit, show 2 ^ n - 1 - s = 2 ^ n - (s + 1) from by omega, Nat.testBit_two_pow_sub_succ hs]
/-- each ideal has an order -/
theorem ways_some {xs : List Int} (hg : good xs = true) : ∀ (m t : Nat), t ≤ m → t < 2 ^ xs.length → holdsIdeal xs t = true → 1 ≤ ways xs t := by
  intro m
  induction m with
  | zero =>
    intro t ht _ _
    obtain rfl : t = 0 := by omega
    rw [ways_zero]; exact Nat.le_refl _
  | succ m ih =>
    intro t ht hl hi
    by_cases h0 : t = 0
    · subst h0; rw [ways_zero]; exact Nat.le_refl _
    · obtain ⟨e, he⟩ := some_bit (top_some hg hl h0)
      have hbt := ((top_bit xs t e).1 he).1
      have hel := testBit_lt hl hbt
      obtain ⟨h1, h2⟩ := top_down hg hi hel he
      have hlt := xor_lt_self hbt
      have h3 := ih (t ^^^ 2 ^ e) (by omega) (by omega) h1
      rw [ways_pos h0]
      have hp : predP xs t e = true := by
        rw [predP, hbt, Bool.true_and, beq_iff_eq, sub_eq_zero]
        intro j hj
        have hne := row_less hg hel hj
        rw [xor_bit, if_neg (by omega)]
        exact holdsIdeal_row.1 hi e hel hbt j hj
      have hw : wterm xs t e = ways xs (t ^^^ 2 ^ e) := by rw [wterm, if_pos hp]
      have hmono : ∀ k, e < k → wterm xs t e ≤ sumN (wterm xs t) k := by
        intro k hk
        induction k with
        | zero => omega
        | succ k ihk =>
          rw [sumN]
          by_cases hek : e = k
          · subst hek; omega
          · have := ihk (by omega); omega
      have := hmono xs.length hel
      omega
theorem orders_some {xs : List Int} (hg : good xs = true) : 1 ≤ ordersN xs := by
  have hp := Nat.two_pow_pos xs.length
  exact ways_some hg _ _ (Nat.le_refl _) (by omega) (full_ideal hg)
end Go.Proofs.Ytpdoheagfjeefaa

/- The dual of a poset is a poset; its rows. No program is named here. -/
namespace Go.Proofs.Ytpdoheagfjeefaa
open Go.RowKit Go.WideShapes Go.ChangeShapes
set_option linter.unusedVariables false

theorem orN_congrD {p q : Nat → Bool} {g h : Nat → Nat} {k : Nat} (e : ∀ i, i < k → p i = q i ∧ g i = h i) : orN p g k = orN q h k := orN_congr e
theorem dualD_length {xs : List Int} (hg : good xs = true) : (dualL xs).length = xs.length := by rw [dualL_yes hg, whereL, mkL_length]
theorem dualD_row {xs : List Int} (hg : good xs = true) {i j : Nat} (hi : i < xs.length) : (row (dualL xs) i).testBit j = true ↔ j < i ∧ (row xs (xs.length - 1 - j)).testBit (xs.length - 1 - i) = true := by
  have e : (dualL xs).getD i 0 = ((rowN (fun j => dualF xs j i) i : Nat) : Int) := by rw [dualL_yes hg, whereL, mkL_getD hi]
  unfold row
  rw [e, Int.toNat_natCast, rowN_testBit]
  simp [dualF]
theorem dualD_get {xs : List Int} (hg : good xs = true) {i : Nat} (hi : i < xs.length) : (dualL xs).getD i 0 = ((row (dualL xs) i : Nat) : Int) ∧ row (dualL xs) i < 2 ^ i := by
  have e : (dualL xs).getD i 0 = ((rowN (fun j => dualF xs j i) i : Nat) : Int) := by rw [dualL_yes hg, whereL, mkL_getD hi]
  unfold row
  rw [e, Int.toNat_natCast]
  exact ⟨rfl, rowN_lt _ _⟩
theorem dualD_good {xs : List Int} (hg : good xs = true) : good (dualL xs) = true := by
  have hl := dualD_length hg
  have hb := good_length hg
  refine good_of (by omega) (by omega) fun i hi => ?_
  rw [hl] at hi
  obtain ⟨h1, h2⟩ := dualD_get hg hi
  unfold okAt
  rw [h1, Int.toNat_natCast]
  have hid : holdsIdeal (dualL xs) (row (dualL xs) i) = true := by
    rw [holdsIdeal_row]
    intro e he hbe j hj
    rw [hl] at he
    obtain ⟨a1, a2⟩ := (dualD_row hg hi).1 hbe
    obtain ⟨b1, b2⟩ := (dualD_row hg he).1 hj
    refine (dualD_row hg hi).2 ⟨by omega, ?_⟩
    exact row_closed hg (show xs.length - 1 - j < xs.length by omega) b2 a2
  rw [hid]
  have : 0 ≤ ((row (dualL xs) i : Nat) : Int) := by omega
  have h3 : ((row (dualL xs) i : Nat) : Int) ≤ ((2 ^ i - 1 : Nat) : Int) := by omega
  simp [this, h3]
end Go.Proofs.Ytpdoheagfjeefaa
