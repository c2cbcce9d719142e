/- CountReturned and SelfEvacuated of both sides. -/
import Derived.Test.YtnlehkjfidpdlabAllL
namespace Go.Proofs.Ytnlehkjfidpdlab
open Go.RowKit Go.WideShapes Go.ChangeShapes
set_option linter.unusedVariables false

/-- how many of the first k lists f leaves as they are -/
def leftN (f g : Nat → List Int) : Nat → Nat
  | 0 => 0
  | k + 1 => leftN f g k + (if sameL (f k) (g k) = true then 1 else 0)
theorem leftN_le (f g : Nat → List Int) (k : Nat) : leftN f g k ≤ k := by
  induction k with
  | zero => exact Nat.le_refl _
  | succ k ih => unfold leftN; split <;> omega
theorem leftN_yes {f g : Nat → List Int} {k : Nat} (h : sameL (f k) (g k) = true) : leftN f g (k + 1) = leftN f g k + 1 := by simp [leftN, h]
theorem leftN_no {f g : Nat → List Int} {k : Nat} (h : sameL (f k) (g k) = false) : leftN f g (k + 1) = leftN f g k := by simp [leftN, h]
/-- how many a closure leaves as they are -/
theorem countLeft_any (v : Value) (xs : List Int) (g : Nat → List Int) (m : Nat) (fn : Nat) (caps : Array Value) (S : Nat → Prop) (f : List Int → List Int) (w : World) (hv : IntsSS w v (rowsN g m)) (hw : ∀ k, k < m → Lw xs.length (g k)) (hf : ∀ ws, Lw xs.length ws → Lw xs.length (f ws)) (hl : xs.length ≤ 10) (hm : m ≤ 500) (hS : SwapG fn caps xs S w f) :
    Calls Try.prog 66 #[v, .func (.func fn) #[] caps] w fun r w' => r = .returned (.int .i64 (leftN (fun k => f (g k)) g m : Nat)) ∧ Below w.heap.size w w' := by
  have HV := hid hv
  have HW := hid hw
  have HF := hid hf
  have HS := hid hS
  have hlen : (rowsN g m).length = m := rowsN_length g m
  obtain ⟨A, c, rfl, -⟩ := hv
  rw [hlen] at HV ⊢
  clear hw hf hS hlen
  go_enter Try.func66, Try.ntmps66
  go_wp2
  go_loopw [5, 10] (fun q i wr => ∃ k : Nat, k ≤ m ∧ i = .int .i64 k ∧ q = .int .i64 (leftN (fun k => f (g k)) g k : Nat) ∧ Below w.heap.size w wr) (fun _ i _ => m - (intOf i).toNat)
  case atStart => exact ⟨0, Nat.zero_le _, rfl, rfl, Below.refl _ _⟩
  case round =>
    obtain ⟨k, hk, rfl, rfl, hb⟩ := hrel
    have HB := hid hb
    clear hb
    by_cases hlt : k < m
    · obtain ⟨b, o, c', u, hsh, hbl, hc, hi⟩ := rows_cell HV.out (by rw [rowsN_length]; exact hlt)
      rw [rowsN_getD g hlt] at hi
      injection hsh with hsA hsB hsC
      subst hsA
      subst hsC
      clear hsB
      have hcell := (HB.out.cell (p := ⟨b, o + k, none⟩) hbl).trans hc
      have HI := hid (hi.below HB.out)
      have hle := leftN_le (fun k => f (g k)) g k
      have HLy := hid (fun h => leftN_yes (f := fun k => f (g k)) (g := g) (k := k) h)
      have HLn := hid (fun h => leftN_no (f := fun k => f (g k)) (g := g) (k := k) h)
      obtain ⟨q, hq⟩ : ∃ q, leftN (fun k => f (g k)) g k = q := ⟨_, rfl⟩
      rw [hq] at hle HLy HLn ⊢
      have HLw := hid (HW.out k hlt)
      have hlf : (f (g k)).length ≤ 1048576 := by rw [(HF.out _ HLw.out).len]; omega
      obtain ⟨uA, un, uc, rfl⟩ : ∃ uA un uc, u = .slice uA un uc := by obtain ⟨A, c, e, -⟩ := hi; exact ⟨_, _, _, e⟩
      clear hc hi hq
      go_wp2_with fail
      clear hcell
      refine (swapped_any _ xs (g k) fn caps _ _ _ HI.out HLw.out hl (HS.out.below HB.out)).mono ?_
      rintro e w2 ⟨u2, rfl, ho, hb2⟩
      have HI2 := hid ho.ints
      have HI1 := hid (HI.out.below hb2)
      have HB2 := hid (below_to HB.out hb2)
      clear ho hb2
      go_wp2_with fail
      refine (equalL_any _ _ (f (g k)) (g k) _ HI2.out HI1.out hlf).mono ?_
      rintro e w3 ⟨rfl, hb3⟩
      have HB3 := hid (below_to HB2.out hb3)
      clear hb3
      cases hs : sameL (f (g k)) (g k)
      · have HE := hid (HLn.out hs)
        clear hs
        go_wp2
        go_roundw
        case rel => exact ⟨k + 1, by omega, by go_num, by rw [HE.out], HB3.out⟩
        case measure => simp [intOf]; omega
      · have HE := hid (HLy.out hs)
        clear hs
        go_wp2
        go_roundw
        case rel => exact ⟨k + 1, by omega, by go_num, by rw [HE.out]; go_num, HB3.out⟩
        case measure => simp [intOf]; omega
    · obtain rfl : k = m := by omega
      go_wp2
      go_ret
      exact ⟨rfl, HB.out⟩

def okCR (xs : List Int) (t : Int) : Bool := okAL xs && (decide (0 ≤ t) && decide (t ≤ 100))
def ansCR (xs : List Int) (t : Int) : Int := if okCR xs t then (leftN (fun k => proL xs t (unrL xs k)) (unrL xs) (cntL xs) : Int) else 0
theorem okCR_no1 {xs : List Int} {t : Int} (h : okAL xs = false) : okCR xs t = false := by simp [okCR, h]
theorem okCR_no2 {xs : List Int} {t : Int} (h : (decide (0 ≤ t) && decide (t ≤ 100)) = false) : okCR xs t = false := by simp only [okCR, h]; simp
theorem okCR_yes {xs : List Int} {t : Int} (h : okAL xs = true) (k : (decide (0 ≤ t) && decide (t ≤ 100)) = true) : okCR xs t = true := by simp only [okCR, h, k]; rfl
theorem ansCR_no {xs : List Int} {t : Int} (h : okCR xs t = false) : ansCR xs t = 0 := by simp [ansCR, h]
theorem ansCR_yes {xs : List Int} {t : Int} (h : okCR xs t = true) : ansCR xs t = (leftN (fun k => proL xs t (unrL xs k)) (unrL xs) (cntL xs) : Int) := by simp [ansCR, h]
theorem okAL_good {xs : List Int} (h : good xs = false) : okAL xs = false := okAL_no1 h
set_option maxHeartbeats 1600000 in
theorem implCountReturned_any (v : Value) (xs : List Int) (t : Int) (w : World) (hv : Ints w v xs) (hl : xs.length ≤ 1048576) (wf : (Lit.int .i64 t).wf = true) :
    Calls Try.prog 34 #[.agg #[v], .int .i64 t] w fun r w' => r = .returned (.tuple #[.int .i64 (ansCR xs t), .bool (okCR xs t)]) ∧ Below w.heap.size w w' := by
  have HV := hid hv
  clear hv wf
  go_enter Try.func34, Try.ntmps34
  have HB := hid (below_alloc (Below.refl _ w) (.cells #[v] 35))
  have A0 := hid (At.newAt w v 35 w.heap.size (by simp))
  go_wp2_with fail
  refine (implAllLinear_any _ xs _ (HV.out.below HB.out) hl).mono ?_
  rintro e w' ⟨q, rfl, ho, -, hb⟩
  replace HB := hid (below_to HB.out hb)
  replace A0 := hid (A0.out.below hb)
  clear hb
  cases hq : okAL xs
  · have HO := hid (okCR_no1 (t := t) hq)
    clear hq ho
    have ebox0 := A0.out.1
    go_wp2
    go_ret2
    exact ⟨ret_ib (ansCR_no HO.out).symm HO.out.symm, HB.out⟩
  · have HQ := hid hq
    have HG := hid (okAL_all hq).1
    have HC := hid (okAL_all hq).2
    rw [ansAL_yes hq] at ho
    have HI := hid ho.ints
    clear hq ho
    by_cases h0 : t < 0
    · have HO := hid (okCR_no2 (xs := xs) (t := t) (by rw [Bool.eq_false_iff]; simp; omega))
      have ebox0 := A0.out.1
      go_wp2
      go_ret2
      exact ⟨ret_ib (ansCR_no HO.out).symm HO.out.symm, HB.out⟩
    · by_cases h2 : 100 < t
      · have HO := hid (okCR_no2 (xs := xs) (t := t) (by rw [Bool.eq_false_iff]; simp; omega))
        have ebox0 := A0.out.1
        go_wp2
        go_ret2
        exact ⟨ret_ib (ansCR_no HO.out).symm HO.out.symm, HB.out⟩
      · have HO := hid (okCR_yes HQ.out (t := t) (by simp; omega))
        have HY := hid (ansCR_yes HO.out)
        have hl1 := (good_length HG.out).1
        have hl10 := (good_length HG.out).2
        have ebox0 := A0.out.1
        go_wp2_with fail
        clear ebox0
        refine (promotions_any v xs t _ (HV.out.below HB.out) HG.out (by omega) (by omega)).mono ?_
        clear h0 h2
        rintro e w2 ⟨fn, caps, rfl, hS, hb2⟩
        have HS := hid hS
        have HI2 := hid (HI.out.below hb2)
        have HB2 := hid (below_to HB.out hb2)
        clear hS hb2
        go_wp2_with fail
        refine (countLeft_any _ xs (unrL xs) (cntL xs) fn caps _ _ _ HI2.out (fun k hk => unrL_Lw hk) (fun ws hw => hw.pro hl1 t) hl10 HC.out HS.out).mono ?_
        rintro e w3 ⟨rfl, hb3⟩
        have HB3 := hid (below_to HB2.out hb3)
        clear hb3
        go_wp2
        go_ret2
        exact ⟨ret_ib (by rw [HY.out]) HO.out.symm, HB3.out⟩
set_option maxHeartbeats 1600000 in
theorem specCountReturned_any (v : Value) (xs : List Int) (t : Int) (w : World) (hv : Ints w v xs) (hl : xs.length ≤ 1048576) (wf : (Lit.int .i64 t).wf = true) :
    Calls Try.prog 33 #[.agg #[v], .int .i64 t] w fun r w' => r = .returned (.tuple #[.int .i64 (ansCR xs t), .bool (okCR xs t)]) ∧ Below w.heap.size w w' := by
  have HV := hid hv
  clear hv wf
  go_enter Try.func33, Try.ntmps33
  have HB := hid (below_alloc (Below.refl _ w) (.cells #[v] 35))
  have A0 := hid (At.newAt w v 35 w.heap.size (by simp))
  go_wp2_with fail
  refine (poGood_any _ xs _ (HV.out.below HB.out) hl).mono ?_
  rintro e w' ⟨rfl, hb⟩
  replace HB := hid (below_to HB.out hb)
  replace A0 := hid (A0.out.below hb)
  clear hb
  cases hq : good xs
  · have HO := hid (okCR_no1 (t := t) (okAL_no1 hq))
    clear hq
    have ebox0 := A0.out.1
    go_wp2
    go_ret2
    exact ⟨ret_ib (ansCR_no HO.out).symm HO.out.symm, HB.out⟩
  · have HG := hid hq
    clear hq
    have ebox0 := A0.out.1
    go_wp2_with fail
    clear ebox0
    refine (l1In_any t 0 100 _).mono ?_
    rintro e w2 ⟨rfl, rfl⟩
    cases hk : (decide (0 ≤ t) && decide (t ≤ 100))
    · have HO := hid (okCR_no2 (xs := xs) hk)
      clear hk
      go_wp2
      go_ret2
      exact ⟨ret_ib (ansCR_no HO.out).symm HO.out.symm, HB.out⟩
    · have HK := hid hk
      have hk2 : 0 ≤ t ∧ t ≤ 100 := by simpa using hk
      have HK2 := hid hk2
      clear hk hk2
      have ebox0 := A0.out.1
      go_wp2_with fail
      clear ebox0
      refine (liAll_any _ xs _ (HV.out.below HB.out) HG.out).mono ?_
      rintro e w' ⟨q, rfl, ho, -, hb⟩
      replace HB := hid (below_to HB.out hb)
      replace A0 := hid (A0.out.below hb)
      clear hb
      cases hq : okAL xs
      · have HO := hid (okCR_no1 (t := t) hq)
        clear hq ho
        have ebox0 := A0.out.1
        go_wp2
        go_ret2
        exact ⟨ret_ib (ansCR_no HO.out).symm HO.out.symm, HB.out⟩
      · have HO := hid (okCR_yes hq HK.out)
        have HY := hid (ansCR_yes HO.out)
        have hC := (okAL_all hq).2
        rw [ansAL_yes hq] at ho
        have HI := hid ho.ints
        obtain ⟨oA, oc, rfl, -⟩ := ho.rows
        have hlen : (allLn xs).length = cntL xs := rowsN_length _ _
        rw [hlen] at HI ⊢
        have hl1 := (good_length HG.out).1
        have hl10 := (good_length HG.out).2
        obtain ⟨m, hm⟩ : ∃ m, cntL xs = m := ⟨_, rfl⟩
        rw [hm] at HI HY hC ⊢
        have HM := hid hm
        clear hq ho hlen hm
        have ebox0 := A0.out.1
        go_wp2
        go_loopw [8, 28] (fun q i wr => ∃ k : Nat, k ≤ m ∧ i = .int .i64 k ∧ q = .int .i64 (leftN (fun k => proL xs t (unrL xs k)) (unrL xs) k : Nat) ∧ Below w'.heap.size w' wr) (fun _ i _ => m - (intOf i).toNat)
        case atStart => exact ⟨0, Nat.zero_le _, rfl, rfl, Below.refl _ _⟩
        case round =>
          obtain ⟨k, hk, rfl, rfl, hb⟩ := hrel
          have Hb := hid hb
          have hbx := (A0.out.below hb).1
          clear hb
          by_cases hlt : k < m
          · obtain ⟨b, o, c', u, hsh, hbl, hc, hi⟩ := rows_cell HI.out (k := k) (by unfold allLn; rw [rowsN_length, HM.out]; exact hlt)
            unfold allLn at hi
            rw [rowsN_getD _ (by rw [HM.out]; exact hlt)] at hi
            injection hsh with hsA hsB hsC
            subst hsA
            subst hsC
            clear hsB
            have hcell := (Hb.out.cell (p := ⟨b, o + k, none⟩) hbl).trans hc
            have HIk := hid (hi.below Hb.out)
            have hle := leftN_le (fun k => proL xs t (unrL xs k)) (unrL xs) k
            have HLy := hid (fun h => leftN_yes (f := fun k => proL xs t (unrL xs k)) (g := unrL xs) (k := k) h)
            have HLn := hid (fun h => leftN_no (f := fun k => proL xs t (unrL xs k)) (g := unrL xs) (k := k) h)
            obtain ⟨q, hq⟩ : ∃ q, leftN (fun k => proL xs t (unrL xs k)) (unrL xs) k = q := ⟨_, rfl⟩
            rw [hq] at hle HLy HLn ⊢
            have HLw := hid (unrL_Lw (xs := xs) (r := k) (by rw [HM.out]; exact hlt))
            have hlf : (proL xs t (unrL xs k)).length ≤ 1048576 := by rw [(HLw.out.pro hl1 t).len]; omega
            obtain ⟨uA, un, uc, rfl⟩ : ∃ uA un uc, u = .slice uA un uc := by obtain ⟨A, c, e, -⟩ := hi; exact ⟨_, _, _, e⟩
            have HIsh := hid (show ∃ c, (Value.slice uA un uc) = .slice uA un c from ⟨_, rfl⟩)
            clear hc hi hq
            go_wp2_with fail
            clear hcell hbx
            refine (liPromote_any _ _ xs (unrL xs k) t _ ((HV.out.below HB.out).below Hb.out) HIk.out HG.out HLw.out (by have := HK2.out; omega) HK2.out.2).mono ?_
            rintro e w2 ⟨u2, rfl, ho, hb2⟩
            have HI2 := hid ho.ints
            have HI1 := hid (HIk.out.below hb2)
            have HB2 := hid (below_to Hb.out hb2)
            clear ho hb2
            go_wp2_with fail
            refine (l1SameL_any _ _ (proL xs t (unrL xs k)) (unrL xs k) _ HI2.out HI1.out hlf).mono ?_
            rintro e w3 ⟨rfl, hb3⟩
            have HB3 := hid (below_to HB2.out hb3)
            clear hb3
            cases hs : sameL (proL xs t (unrL xs k)) (unrL xs k)
            · have HE := hid (HLn.out hs)
              clear hs
              go_wp2
              go_roundw
              case rel => exact ⟨k + 1, by omega, by go_num, by rw [HE.out], HB3.out⟩
              case measure => simp [intOf]; omega
            · have HE := hid (HLy.out hs)
              clear hs
              go_wp2
              go_roundw
              case rel => exact ⟨k + 1, by omega, by go_num, by rw [HE.out]; go_num, HB3.out⟩
              case measure => simp [intOf]; omega
          · obtain rfl : k = m := by omega
            clear hbx
            go_wp2
            go_ret2
            exact ⟨ret_ib (by rw [HY.out]) HO.out.symm, below_to HB.out Hb.out⟩

def ansSE (xs : List Int) : Int := if okAL xs then (leftN (fun k => evaL xs (unrL xs k)) (unrL xs) (cntL xs) : Int) else 0
theorem ansSE_no {xs : List Int} (h : okAL xs = false) : ansSE xs = 0 := by simp [ansSE, h]
theorem ansSE_yes {xs : List Int} (h : okAL xs = true) : ansSE xs = (leftN (fun k => evaL xs (unrL xs k)) (unrL xs) (cntL xs) : Int) := by simp [ansSE, h]
end Go.Proofs.Ytnlehkjfidpdlab
