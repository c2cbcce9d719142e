/- Texts Ret, EvP, EvF, PrOrd, one behind the other. -/
import Derived.Test.YtpdoheagfjeefaaPkLinearRankedProof15
import Derived.Test.YtpdoheagfjeefaaPkLinearRankedProof17
import Derived.Test.YtpdoheagfjeefaaPkLinearRankedProof18
import Derived.Test.YtpdoheagfjeefaaPkLinearRankedProof20
import Derived.Test.YtpdoheagfjeefaaPkLinearRankedProof21
import Derived.Test.YtpdoheagfjeefaaPkLinearRankedProof24
/- CountReturned and SelfEvacuated of both sides. -/
namespace Go.Proofs.Ytpdoheagfjeefaa
open Go.RowKit Go.WideShapes Go.ChangeShapes
set_option linter.unusedVariables false

/-- how many of the first k lists f leaves as they are -/
def leftN (f g : Nat → List Int) : Nat → Nat
  | 0 => 0
  | k + 1 => leftN f g k + (if sameL (f k) (g k) = true then 1 else 0)
theorem leftN_le (f g : Nat → List Int) (k : Nat) : leftN f g k ≤ k := by
  induction k with
  | zero => exact Nat.le_refl _
  | succ k ih => unfold leftN; split <;> omega
theorem leftN_yes {f g : Nat → List Int} {k : Nat} (h : sameL (f k) (g k) = true) : leftN f g (k + 1) = leftN f g k + 1 := by simp [leftN, h]
theorem leftN_no {f g : Nat → List Int} {k : Nat} (h : sameL (f k) (g k) = false) : leftN f g (k + 1) = leftN f g k := by simp [leftN, h]
/-- how many a closure leaves as they are -/
theorem countLeft_any (v : Value) (xs : List Int) (g : Nat → List Int) (m : Nat) (fn : Nat) (caps : Array Value) (S : Nat → Prop) (f : List Int → List Int) (w : World) (hv : IntsSS w v (rowsN g m)) (hw : ∀ k, k < m → Lw xs.length (g k)) (hf : ∀ ws, Lw xs.length ws → Lw xs.length (f ws)) (hl : xs.length ≤ 10) (hm : m ≤ 500) (hS : SwapG fn caps xs S w f) :
    Calls Try.prog 85 #[v, .func (.func fn) #[] caps] w fun r w' => r = .returned (.int .i64 (leftN (fun k => f (g k)) g m : Nat)) ∧ Below w.heap.size w w' := by
  have HV := hid hv
  have HW := hid hw
  have HF := hid hf
  have HS := hid hS
  have hlen : (rowsN g m).length = m := rowsN_length g m
  obtain ⟨A, c, rfl, -⟩ := hv
  rw [hlen] at HV ⊢
  clear hw hf hS hlen
  go_enter Try.func85, Try.ntmps85
  go_wp2
  go_loopw [5, 10] (fun q i wr => ∃ k : Nat, k ≤ m ∧ i = .int .i64 k ∧ q = .int .i64 (leftN (fun k => f (g k)) g k : Nat) ∧ Below w.heap.size w wr) (fun _ i _ => m - (intOf i).toNat)
  case atStart => exact ⟨0, Nat.zero_le _, rfl, rfl, Below.refl _ _⟩
  case round =>
    obtain ⟨k, hk, rfl, rfl, hb⟩ := hrel
    have HB := hid hb
    clear hb
    by_cases hlt : k < m
    · obtain ⟨b, o, c', u, hsh, hbl, hc, hi⟩ := rows_cell HV.out (by rw [rowsN_length]; exact hlt)
      rw [rowsN_getD g hlt] at hi
      injection hsh with hsA hsB hsC
      subst hsA
      subst hsC
      clear hsB
      have hcell := (HB.out.cell (p := ⟨b, o + k, none⟩) hbl).trans hc
      have HI := hid (hi.below HB.out)
      have hle := leftN_le (fun k => f (g k)) g k
      have HLy := hid (fun h => leftN_yes (f := fun k => f (g k)) (g := g) (k := k) h)
      have HLn := hid (fun h => leftN_no (f := fun k => f (g k)) (g := g) (k := k) h)
      obtain ⟨q, hq⟩ : ∃ q, leftN (fun k => f (g k)) g k = q := ⟨_, rfl⟩
      rw [hq] at hle HLy HLn ⊢
      have HLw := hid (HW.out k hlt)
      have hlf : (f (g k)).length ≤ 1048576 := by rw [(HF.out _ HLw.out).len]; omega
      obtain ⟨uA, un, uc, rfl⟩ : ∃ uA un uc, u = .slice uA un uc := by obtain ⟨A, c, e, -⟩ := hi; exact ⟨_, _, _, e⟩
      clear hc hi hq
      go_wp2_with fail
      clear hcell
      refine (swapped_any _ xs (g k) fn caps _ _ _ HI.out HLw.out hl (HS.out.below HB.out)).mono ?_
      rintro e w2 ⟨u2, rfl, ho, hb2⟩
      have HI2 := hid ho.ints
      have HI1 := hid (HI.out.below hb2)
      have HB2 := hid (below_to HB.out hb2)
      clear ho hb2
      go_wp2_with fail
      refine (equalL_any _ _ (f (g k)) (g k) _ HI2.out HI1.out hlf).mono ?_
      rintro e w3 ⟨rfl, hb3⟩
      have HB3 := hid (below_to HB2.out hb3)
      clear hb3
      cases hs : sameL (f (g k)) (g k)
      · have HE := hid (HLn.out hs)
        clear hs
        go_wp2
        go_roundw
        case rel => exact ⟨k + 1, by omega, by go_num, by rw [HE.out], HB3.out⟩
        case measure => simp [intOf]; omega
      · have HE := hid (HLy.out hs)
        clear hs
        go_wp2
        go_roundw
        case rel => exact ⟨k + 1, by omega, by go_num, by rw [HE.out]; go_num, HB3.out⟩
        case measure => simp [intOf]; omega
    · obtain rfl : k = m := by omega
      go_wp2
      go_ret
      exact ⟨rfl, HB.out⟩

def okCR (xs : List Int) (t : Int) : Bool := okAL xs && (decide (0 ≤ t) && decide (t ≤ 100))
def ansCR (xs : List Int) (t : Int) : Int := if okCR xs t then (leftN (fun k => proL xs t (unrL xs k)) (unrL xs) (cntL xs) : Int) else 0
theorem okCR_no1 {xs : List Int} {t : Int} (h : okAL xs = false) : okCR xs t = false := by simp [okCR, h]
theorem okCR_no2 {xs : List Int} {t : Int} (h : (decide (0 ≤ t) && decide (t ≤ 100)) = false) : okCR xs t = false := by simp only [okCR, h]; simp
theorem okCR_yes {xs : List Int} {t : Int} (h : okAL xs = true) (k : (decide (0 ≤ t) && decide (t ≤ 100)) = true) : okCR xs t = true := by simp only [okCR, h, k]; rfl
theorem ansCR_no {xs : List Int} {t : Int} (h : okCR xs t = false) : ansCR xs t = 0 := by simp [ansCR, h]
theorem ansCR_yes {xs : List Int} {t : Int} (h : okCR xs t = true) : ansCR xs t = (leftN (fun k => proL xs t (unrL xs k)) (unrL xs) (cntL xs) : Int) := by simp [ansCR, h]
theorem okAL_good {xs : List Int} (h : good xs = false) : okAL xs = false := okAL_no1 h
set_option maxHeartbeats 1600000 in
theorem implCountReturned_any (v : Value) (xs : List Int) (t : Int) (w : World) (hv : Ints w v xs) (hl : xs.length ≤ 1048576) (wf : (Lit.int .i64 t).wf = true) :
    Calls Try.prog 62 #[.agg #[v], .int .i64 t] w fun r w' => r = .returned (.tuple #[.int .i64 (ansCR xs t), .bool (okCR xs t)]) ∧ Below w.heap.size w w' := by
  have HV := hid hv
  clear hv wf
  go_enter Try.func62, Try.ntmps62
  have HB := hid (below_alloc (Below.refl _ w) (.cells #[v] 26))
  have A0 := hid (At.newAt w v 26 w.heap.size (by simp))
  go_wp2_with fail
  refine (implAllLinear_any _ xs _ (HV.out.below HB.out) hl).mono ?_
  rintro e w' ⟨q, rfl, ho, -, hb⟩
  replace HB := hid (below_to HB.out hb)
  replace A0 := hid (A0.out.below hb)
  clear hb
  cases hq : okAL xs
  · have HO := hid (okCR_no1 (t := t) hq)
    clear hq ho
    have ebox0 := A0.out.1
    go_wp2
    go_ret2
    exact ⟨ret_ib (ansCR_no HO.out).symm HO.out.symm, HB.out⟩
  · have HQ := hid hq
    have HG := hid (okAL_all hq).1
    have HC := hid (okAL_all hq).2
    rw [ansAL_yes hq] at ho
    have HI := hid ho.ints
    clear hq ho
    by_cases h0 : t < 0
    · have HO := hid (okCR_no2 (xs := xs) (t := t) (by rw [Bool.eq_false_iff]; simp; omega))
      have ebox0 := A0.out.1
      go_wp2
      go_ret2
      exact ⟨ret_ib (ansCR_no HO.out).symm HO.out.symm, HB.out⟩
    · by_cases h2 : 100 < t
      · have HO := hid (okCR_no2 (xs := xs) (t := t) (by rw [Bool.eq_false_iff]; simp; omega))
        have ebox0 := A0.out.1
        go_wp2
        go_ret2
        exact ⟨ret_ib (ansCR_no HO.out).symm HO.out.symm, HB.out⟩
      · have HO := hid (okCR_yes HQ.out (t := t) (by simp; omega))
        have HY := hid (ansCR_yes HO.out)
        have hl1 := (good_length HG.out).1
        have hl10 := (good_length HG.out).2
        have ebox0 := A0.out.1
        go_wp2_with fail
        clear ebox0
        refine (promotions_any v xs t _ (HV.out.below HB.out) HG.out (by omega) (by omega)).mono ?_
        clear h0 h2
        rintro e w2 ⟨fn, caps, rfl, hS, hb2⟩
        have HS := hid hS
        have HI2 := hid (HI.out.below hb2)
        have HB2 := hid (below_to HB.out hb2)
        clear hS hb2
        go_wp2_with fail
        refine (countLeft_any _ xs (unrL xs) (cntL xs) fn caps _ _ _ HI2.out (fun k hk => unrL_Lw hk) (fun ws hw => hw.pro hl1 t) hl10 HC.out HS.out).mono ?_
        rintro e w3 ⟨rfl, hb3⟩
        have HB3 := hid (below_to HB2.out hb3)
        clear hb3
        go_wp2
        go_ret2
        exact ⟨ret_ib (by rw [HY.out]) HO.out.symm, HB3.out⟩
set_option maxHeartbeats 1600000 in
theorem specCountReturned_any (v : Value) (xs : List Int) (t : Int) (w : World) (hv : Ints w v xs) (hl : xs.length ≤ 1048576) (wf : (Lit.int .i64 t).wf = true) :
    Calls Try.prog 63 #[.agg #[v], .int .i64 t] w fun r w' => r = .returned (.tuple #[.int .i64 (ansCR xs t), .bool (okCR xs t)]) ∧ Below w.heap.size w w' := by
  have HV := hid hv
  clear hv wf
  go_enter Try.func63, Try.ntmps63
  have HB := hid (below_alloc (Below.refl _ w) (.cells #[v] 26))
  have A0 := hid (At.newAt w v 26 w.heap.size (by simp))
  go_wp2_with fail
  refine (poGood_any _ xs _ (HV.out.below HB.out) hl).mono ?_
  rintro e w' ⟨rfl, hb⟩
  replace HB := hid (below_to HB.out hb)
  replace A0 := hid (A0.out.below hb)
  clear hb
  cases hq : good xs
  · have HO := hid (okCR_no1 (t := t) (okAL_no1 hq))
    clear hq
    have ebox0 := A0.out.1
    go_wp2
    go_ret2
    exact ⟨ret_ib (ansCR_no HO.out).symm HO.out.symm, HB.out⟩
  · have HG := hid hq
    clear hq
    have ebox0 := A0.out.1
    go_wp2_with fail
    clear ebox0
    refine (l1In_any t 0 100 _).mono ?_
    rintro e w2 ⟨rfl, rfl⟩
    cases hk : (decide (0 ≤ t) && decide (t ≤ 100))
    · have HO := hid (okCR_no2 (xs := xs) hk)
      clear hk
      go_wp2
      go_ret2
      exact ⟨ret_ib (ansCR_no HO.out).symm HO.out.symm, HB.out⟩
    · have HK := hid hk
      have hk2 : 0 ≤ t ∧ t ≤ 100 := by simpa using hk
      have HK2 := hid hk2
      clear hk hk2
      have ebox0 := A0.out.1
      go_wp2_with fail
      clear ebox0
      refine (liAll_any _ xs _ (HV.out.below HB.out) HG.out).mono ?_
      rintro e w' ⟨q, rfl, ho, -, hb⟩
      replace HB := hid (below_to HB.out hb)
      replace A0 := hid (A0.out.below hb)
      clear hb
      cases hq : okAL xs
      · have HO := hid (okCR_no1 (t := t) hq)
        clear hq ho
        have ebox0 := A0.out.1
        go_wp2
        go_ret2
        exact ⟨ret_ib (ansCR_no HO.out).symm HO.out.symm, HB.out⟩
      · have HO := hid (okCR_yes hq HK.out)
        have HY := hid (ansCR_yes HO.out)
        have hC := (okAL_all hq).2
        rw [ansAL_yes hq] at ho
        have HI := hid ho.ints
        obtain ⟨oA, oc, rfl, -⟩ := ho.rows
        have hlen : (allLn xs).length = cntL xs := rowsN_length _ _
        rw [hlen] at HI ⊢
        have hl1 := (good_length HG.out).1
        have hl10 := (good_length HG.out).2
        obtain ⟨m, hm⟩ : ∃ m, cntL xs = m := ⟨_, rfl⟩
        rw [hm] at HI HY hC ⊢
        have HM := hid hm
        clear hq ho hlen hm
        have ebox0 := A0.out.1
        go_wp2
        go_loopw [8, 28] (fun q i wr => ∃ k : Nat, k ≤ m ∧ i = .int .i64 k ∧ q = .int .i64 (leftN (fun k => proL xs t (unrL xs k)) (unrL xs) k : Nat) ∧ Below w'.heap.size w' wr) (fun _ i _ => m - (intOf i).toNat)
        case atStart => exact ⟨0, Nat.zero_le _, rfl, rfl, Below.refl _ _⟩
        case round =>
          obtain ⟨k, hk, rfl, rfl, hb⟩ := hrel
          have Hb := hid hb
          have hbx := (A0.out.below hb).1
          clear hb
          by_cases hlt : k < m
          · obtain ⟨b, o, c', u, hsh, hbl, hc, hi⟩ := rows_cell HI.out (k := k) (by unfold allLn; rw [rowsN_length, HM.out]; exact hlt)
            unfold allLn at hi
            rw [rowsN_getD _ (by rw [HM.out]; exact hlt)] at hi
            injection hsh with hsA hsB hsC
            subst hsA
            subst hsC
            clear hsB
            have hcell := (Hb.out.cell (p := ⟨b, o + k, none⟩) hbl).trans hc
            have HIk := hid (hi.below Hb.out)
            have hle := leftN_le (fun k => proL xs t (unrL xs k)) (unrL xs) k
            have HLy := hid (fun h => leftN_yes (f := fun k => proL xs t (unrL xs k)) (g := unrL xs) (k := k) h)
            have HLn := hid (fun h => leftN_no (f := fun k => proL xs t (unrL xs k)) (g := unrL xs) (k := k) h)
            obtain ⟨q, hq⟩ : ∃ q, leftN (fun k => proL xs t (unrL xs k)) (unrL xs) k = q := ⟨_, rfl⟩
            rw [hq] at hle HLy HLn ⊢
            have HLw := hid (unrL_Lw (xs := xs) (r := k) (by rw [HM.out]; exact hlt))
            have hlf : (proL xs t (unrL xs k)).length ≤ 1048576 := by rw [(HLw.out.pro hl1 t).len]; omega
            obtain ⟨uA, un, uc, rfl⟩ : ∃ uA un uc, u = .slice uA un uc := by obtain ⟨A, c, e, -⟩ := hi; exact ⟨_, _, _, e⟩
            have HIsh := hid (show ∃ c, (Value.slice uA un uc) = .slice uA un c from ⟨_, rfl⟩)
            clear hc hi hq
            go_wp2_with fail
            clear hcell hbx
            refine (liPromote_any _ _ xs (unrL xs k) t _ ((HV.out.below HB.out).below Hb.out) HIk.out HG.out HLw.out (by have := HK2.out; omega) HK2.out.2).mono ?_
            rintro e w2 ⟨u2, rfl, ho, hb2⟩
            have HI2 := hid ho.ints
            have HI1 := hid (HIk.out.below hb2)
            have HB2 := hid (below_to Hb.out hb2)
            clear ho hb2
            go_wp2_with fail
            refine (l1SameL_any _ _ (proL xs t (unrL xs k)) (unrL xs k) _ HI2.out HI1.out hlf).mono ?_
            rintro e w3 ⟨rfl, hb3⟩
            have HB3 := hid (below_to HB2.out hb3)
            clear hb3
            cases hs : sameL (proL xs t (unrL xs k)) (unrL xs k)
            · have HE := hid (HLn.out hs)
              clear hs
              go_wp2
              go_roundw
              case rel => exact ⟨k + 1, by omega, by go_num, by rw [HE.out], HB3.out⟩
              case measure => simp [intOf]; omega
            · have HE := hid (HLy.out hs)
              clear hs
              go_wp2
              go_roundw
              case rel => exact ⟨k + 1, by omega, by go_num, by rw [HE.out]; go_num, HB3.out⟩
              case measure => simp [intOf]; omega
          · obtain rfl : k = m := by omega
            clear hbx
            go_wp2
            go_ret2
            exact ⟨ret_ib (by rw [HY.out]) HO.out.symm, below_to HB.out Hb.out⟩

def ansSE (xs : List Int) : Int := if okAL xs then (leftN (fun k => evaL xs (unrL xs k)) (unrL xs) (cntL xs) : Int) else 0
theorem ansSE_no {xs : List Int} (h : okAL xs = false) : ansSE xs = 0 := by simp [ansSE, h]
theorem ansSE_yes {xs : List Int} (h : okAL xs = true) : ansSE xs = (leftN (fun k => evaL xs (unrL xs k)) (unrL xs) (cntL xs) : Int) := by simp [ansSE, h]
set_option maxHeartbeats 1600000 in
theorem implSelfEvacuated_any (v : Value) (xs : List Int) (w : World) (hv : Ints w v xs) (hl : xs.length ≤ 1048576) :
    Calls Try.prog 19 #[.agg #[v]] w fun r w' => r = .returned (.tuple #[.int .i64 (ansSE xs), .bool (okAL xs)]) ∧ Below w.heap.size w w' := by
  have HV := hid hv
  clear hv
  go_enter Try.func19, Try.ntmps19
  have HB := hid (below_alloc (Below.refl _ w) (.cells #[v] 26))
  have A0 := hid (At.newAt w v 26 w.heap.size (by simp))
  go_wp2_with fail
  refine (implAllLinear_any _ xs _ (HV.out.below HB.out) hl).mono ?_
  rintro e w' ⟨q, rfl, ho, -, hb⟩
  replace HB := hid (below_to HB.out hb)
  replace A0 := hid (A0.out.below hb)
  clear hb
  cases hq : okAL xs
  · have HO := hid hq
    clear hq ho
    have ebox0 := A0.out.1
    go_wp2
    go_ret2
    exact ⟨ret_ib (ansSE_no HO.out).symm HO.out.symm, HB.out⟩
  · have HQ := hid hq
    have HG := hid (okAL_all hq).1
    have HC := hid (okAL_all hq).2
    rw [ansAL_yes hq] at ho
    have HI := hid ho.ints
    have HY := hid (ansSE_yes hq)
    clear hq ho
    have hl1 := (good_length HG.out).1
    have hl10 := (good_length HG.out).2
    have ebox0 := A0.out.1
    go_wp2_with fail
    clear ebox0
    refine (evacuation_any v xs _ (HV.out.below HB.out) HG.out).mono ?_
    rintro e w2 ⟨fn, caps, rfl, hS, hb2⟩
    have HS := hid hS
    have HI2 := hid (HI.out.below hb2)
    have HB2 := hid (below_to HB.out hb2)
    clear hS hb2
    go_wp2_with fail
    refine (countLeft_any _ xs (unrL xs) (cntL xs) fn caps _ _ _ HI2.out (fun k hk => unrL_Lw hk) (fun ws hw => hw.eva hl1) hl10 HC.out HS.out).mono ?_
    rintro e w3 ⟨rfl, hb3⟩
    have HB3 := hid (below_to HB2.out hb3)
    clear hb3
    go_wp2
    go_ret2
    exact ⟨ret_ib (by rw [HY.out]) HQ.out.symm, HB3.out⟩
set_option maxHeartbeats 1600000 in
theorem specSelfEvacuated_any (v : Value) (xs : List Int) (w : World) (hv : Ints w v xs) (hl : xs.length ≤ 1048576) :
    Calls Try.prog 20 #[.agg #[v]] w fun r w' => r = .returned (.tuple #[.int .i64 (ansSE xs), .bool (okAL xs)]) ∧ Below w.heap.size w w' := by
  have HV := hid hv
  clear hv
  go_enter Try.func20, Try.ntmps20
  have HB := hid (below_alloc (Below.refl _ w) (.cells #[v] 26))
  have A0 := hid (At.newAt w v 26 w.heap.size (by simp))
  go_wp2_with fail
  refine (poGood_any _ xs _ (HV.out.below HB.out) hl).mono ?_
  rintro e w' ⟨rfl, hb⟩
  replace HB := hid (below_to HB.out hb)
  replace A0 := hid (A0.out.below hb)
  clear hb
  cases hq : good xs
  · have HO := hid (okAL_no1 hq)
    clear hq
    have ebox0 := A0.out.1
    go_wp2
    go_ret2
    exact ⟨ret_ib (ansSE_no HO.out).symm (by first | rfl | exact HO.out.symm), HB.out⟩
  · have HG := hid hq
    clear hq
    have ebox0 := A0.out.1
    go_wp2_with fail
    clear ebox0
    refine (liAll_any _ xs _ (HV.out.below HB.out) HG.out).mono ?_
    rintro e w' ⟨q, rfl, ho, -, hb⟩
    replace HB := hid (below_to HB.out hb)
    replace A0 := hid (A0.out.below hb)
    clear hb
    cases hq : okAL xs
    · have HO := hid hq
      clear hq ho
      have ebox0 := A0.out.1
      go_wp2
      go_ret2
      exact ⟨ret_ib (ansSE_no HO.out).symm (by first | rfl | exact HO.out.symm), HB.out⟩
    · have HO := hid hq
      have HY := hid (ansSE_yes hq)
      have hC := (okAL_all hq).2
      rw [ansAL_yes hq] at ho
      have HI := hid ho.ints
      obtain ⟨oA, oc, rfl, -⟩ := ho.rows
      have hlen : (allLn xs).length = cntL xs := rowsN_length _ _
      rw [hlen] at HI ⊢
      have hl1 := (good_length HG.out).1
      have hl10 := (good_length HG.out).2
      obtain ⟨m, hm⟩ : ∃ m, cntL xs = m := ⟨_, rfl⟩
      rw [hm] at HI HY hC ⊢
      have HM := hid hm
      clear hq ho hlen hm
      have ebox0 := A0.out.1
      go_wp2
      go_loopw [6, 21] (fun q i wr => ∃ k : Nat, k ≤ m ∧ i = .int .i64 k ∧ q = .int .i64 (leftN (fun k => evaL xs (unrL xs k)) (unrL xs) k : Nat) ∧ Below w'.heap.size w' wr) (fun _ i _ => m - (intOf i).toNat)
      case atStart => exact ⟨0, Nat.zero_le _, rfl, rfl, Below.refl _ _⟩
      case round =>
        obtain ⟨k, hk, rfl, rfl, hb⟩ := hrel
        have Hb := hid hb
        have hbx := (A0.out.below hb).1
        clear hb
        by_cases hlt : k < m
        · obtain ⟨b, o, c', u, hsh, hbl, hc, hi⟩ := rows_cell HI.out (k := k) (by unfold allLn; rw [rowsN_length, HM.out]; exact hlt)
          unfold allLn at hi
          rw [rowsN_getD _ (by rw [HM.out]; exact hlt)] at hi
          injection hsh with hsA hsB hsC
          subst hsA
          subst hsC
          clear hsB
          have hcell := (Hb.out.cell (p := ⟨b, o + k, none⟩) hbl).trans hc
          have HIk := hid (hi.below Hb.out)
          have hle := leftN_le (fun k => evaL xs (unrL xs k)) (unrL xs) k
          have HLy := hid (fun h => leftN_yes (f := fun k => evaL xs (unrL xs k)) (g := unrL xs) (k := k) h)
          have HLn := hid (fun h => leftN_no (f := fun k => evaL xs (unrL xs k)) (g := unrL xs) (k := k) h)
          obtain ⟨q, hq⟩ : ∃ q, leftN (fun k => evaL xs (unrL xs k)) (unrL xs) k = q := ⟨_, rfl⟩
          rw [hq] at hle HLy HLn ⊢
          have HLw := hid (unrL_Lw (xs := xs) (r := k) (by rw [HM.out]; exact hlt))
          have hlf : (evaL xs (unrL xs k)).length ≤ 1048576 := by rw [(HLw.out.eva hl1).len]; omega
          obtain ⟨uA, un, uc, rfl⟩ : ∃ uA un uc, u = .slice uA un uc := by obtain ⟨A, c, e, -⟩ := hi; exact ⟨_, _, _, e⟩
          have HIsh := hid (show ∃ c, (Value.slice uA un uc) = .slice uA un c from ⟨_, rfl⟩)
          clear hc hi hq
          go_wp2_with fail
          clear hcell hbx
          refine (liEvacuate_any _ _ xs (unrL xs k) _ ((HV.out.below HB.out).below Hb.out) HIk.out HG.out HLw.out).mono ?_
          rintro e w2 ⟨u2, rfl, ho, hb2⟩
          have HI2 := hid ho.ints
          have HI1 := hid (HIk.out.below hb2)
          have HB2 := hid (below_to Hb.out hb2)
          clear ho hb2
          go_wp2_with fail
          refine (l1SameL_any _ _ (evaL xs (unrL xs k)) (unrL xs k) _ HI2.out HI1.out hlf).mono ?_
          rintro e w3 ⟨rfl, hb3⟩
          have HB3 := hid (below_to HB2.out hb3)
          clear hb3
          cases hs : sameL (evaL xs (unrL xs k)) (unrL xs k)
          · have HE := hid (HLn.out hs)
            clear hs
            go_wp2
            go_roundw
            case rel => exact ⟨k + 1, by omega, by go_num, by rw [HE.out], HB3.out⟩
            case measure => simp [intOf]; omega
          · have HE := hid (HLy.out hs)
            clear hs
            go_wp2
            go_roundw
            case rel => exact ⟨k + 1, by omega, by go_num, by rw [HE.out]; go_num, HB3.out⟩
            case measure => simp [intOf]; omega
        · obtain rfl : k = m := by omega
          clear hbx
          go_wp2
          go_ret2
          exact ⟨ret_ib (by rw [HY.out]) (by first | rfl | exact HO.out.symm), below_to HB.out Hb.out⟩

end Go.Proofs.Ytpdoheagfjeefaa

/- As many linear extensions as evacuation leaves alone, and pairs. No program is named here. -/
namespace Go.Proofs.Ytpdoheagfjeefaa
open Go.RowKit Go.WideShapes Go.ChangeShapes
set_option linter.unusedVariables false

def fixN (e : Nat → Nat) : Nat → Nat
  | 0 => 0
  | k + 1 => fixN e k + if e k = k then 1 else 0
theorem fix_split (e : Nat → Nat) (k : Nat) : k = fixN e k + ((List.range k).filter fun i => decide (i < e i)).length + ((List.range k).filter fun i => decide (e i < i)).length := by
  induction k with
  | zero => rfl
  | succ k ih =>
    rw [fixN, List.range_succ, List.filter_append, List.filter_append, List.length_append, List.length_append]
    rcases (by omega : e k = k ∨ k < e k ∨ e k < k) with h | h | h
    · have h1 : (List.filter (fun i => decide (i < e i)) [k]).length = 0 := by simp [show ¬ k < e k from by omega]
      have h2 : (List.filter (fun i => decide (e i < i)) [k]).length = 0 := by simp [show ¬ e k < k from by omega]
      rw [if_pos h, h1, h2]; omega
    · have h1 : (List.filter (fun i => decide (i < e i)) [k]).length = 1 := by simp [h]
      have h2 : (List.filter (fun i => decide (e i < i)) [k]).length = 0 := by simp [show ¬ e k < k from by omega]
      rw [if_neg (by omega), h1, h2]; omega
    · have h1 : (List.filter (fun i => decide (i < e i)) [k]).length = 0 := by simp [show ¬ k < e k from by omega]
      have h2 : (List.filter (fun i => decide (e i < i)) [k]).length = 1 := by simp [h]
      rw [if_neg (by omega), h1, h2]; omega
theorem permMem {l l' : List Nat} (h1 : l.Nodup) (h2 : l'.Nodup) (h : ∀ a, a ∈ l ↔ a ∈ l') : l.Perm l' :=
  List.perm_iff_count.2 fun a => by
    rw [h1.count, h2.count]
    by_cases ha : a ∈ l
    · rw [if_pos ha, if_pos ((h a).1 ha)]
    · rw [if_neg ha, if_neg (fun hb => ha ((h a).2 hb))]
theorem inv_parity {e : Nat → Nat} {N : Nat} (h1 : ∀ i, i < N → e i < N) (h2 : ∀ i, i < N → e (e i) = i) : ∃ m, N = fixN e N + 2 * m := by
  have hA : ((List.range N).filter fun i => decide (i < e i)).Nodup := List.Pairwise.filter _ List.nodup_range
  have hB : ((List.range N).filter fun i => decide (e i < i)).Nodup := List.Pairwise.filter _ List.nodup_range
  have hM : (((List.range N).filter fun i => decide (i < e i)).map e).Nodup := by
    refine List.Pairwise.map e (R := fun a b => a < N ∧ b < N ∧ a ≠ b) ?_ ?_
    · rintro a b ⟨ha, hb, hne⟩ he
      exact hne (by rw [← h2 a ha, he, h2 b hb])
    · refine hA.imp_of_mem ?_
      intro a b ha hb hne
      rw [List.mem_filter, List.mem_range] at ha hb
      exact ⟨ha.1, hb.1, hne⟩
  have hp : (((List.range N).filter fun i => decide (i < e i)).map e).Perm ((List.range N).filter fun i => decide (e i < i)) := by
    refine permMem hM hB fun a => ?_
    rw [List.mem_map, List.mem_filter, List.mem_range, decide_eq_true_iff]
    constructor
    · rintro ⟨b, hb, rfl⟩
      rw [List.mem_filter, List.mem_range, decide_eq_true_iff] at hb
      exact ⟨h1 b hb.1, by rw [h2 b hb.1]; exact hb.2⟩
    · rintro ⟨ha, hl⟩
      refine ⟨e a, ?_, h2 a ha⟩
      rw [List.mem_filter, List.mem_range, decide_eq_true_iff, h2 a ha]
      exact ⟨h1 a ha, hl⟩
  have hl := hp.length_eq
  rw [List.length_map] at hl
  have hs := fix_split e N
  exact ⟨((List.range N).filter fun i => decide (e i < i)).length, by omega⟩
def evaR (xs : List Int) (r : Nat) : Nat := rankN xs (evaL xs (unrL xs r))
theorem left_fix (xs : List Int) (k : Nat) (hk : k ≤ cntL xs) : leftN (fun k => evaL xs (unrL xs k)) (unrL xs) k = fixN (evaR xs) k := by
  induction k with
  | zero => rfl
  | succ k ih =>
    have hl := unr_lin (xs := xs) (r := k) (by exact hk)
    have hiff : (sameL (evaL xs (unrL xs k)) (unrL xs k) = true) ↔ evaR xs k = k := by
      unfold sameL
      rw [decide_eq_true_iff]
      constructor
      · intro h; unfold evaR; rw [h]; exact rank_unr hk
      · intro h
        have := hl.evaL.unr
        unfold evaR at h
        rw [h] at this
        exact this.symm
    rw [fixN, leftN, ih (by omega)]
    by_cases h : evaR xs k = k
    · rw [if_pos h, if_pos (hiff.2 h)]
    · rw [if_neg h, if_neg (fun x => h (hiff.1 x))]
theorem self_parity (xs : List Int) : ∃ m, cntL xs = leftN (fun k => evaL xs (unrL xs k)) (unrL xs) (cntL xs) + 2 * m := by
  rw [left_fix xs _ (Nat.le_refl _)]
  refine inv_parity (fun i hi => (unr_lin hi).evaL.rank_lt) fun i hi => ?_
  have h := unr_lin hi
  unfold evaR
  rw [h.evaL.unr, eva_eva h]
  exact rank_unr hi
end Go.Proofs.Ytpdoheagfjeefaa

/- What the law on evacuation asks of one linear extension, in lists of its own. No program is named here. -/
namespace Go.Proofs.Ytpdoheagfjeefaa
open Go.RowKit Go.WideShapes Go.ChangeShapes
set_option linter.unusedVariables false

theorem okLin_of {xs ws : List Int} (hg : good xs = true) (h : LinX xs ws) : okLin xs ws = true := (okOrder_yes hg).trans h.order
theorem okPL_of {xs ws : List Int} {t : Int} (h : okLin xs ws = true) (h1 : -100 ≤ t) (h2 : t ≤ 100) : okPL xs ws t = true := okPL_yes h (by rw [decide_eq_true h1, decide_eq_true h2]; rfl)
theorem evaFacts {xs ws : List Int} (h : okLin xs ws = true) : ∃ (E C D U V N O : List Int) (n : Nat),
    good xs = true ∧ ws.length = n ∧ 1 ≤ n ∧ n ≤ 10 ∧ ansEL xs ws = E ∧ ansCL xs ws = C ∧ ansDL xs ws = D ∧
    okLin xs E = true ∧ ansEL xs E = ws ∧ okLin xs C = true ∧ ansCL xs C = ws ∧
    okPL xs E 1 = true ∧ ansPL xs E 1 = U ∧ okLin xs U = true ∧ ansEL xs U = V ∧ okPL xs ws (-1) = true ∧ ansPL xs ws (-1) = V ∧
    ansCL xs E = N ∧ okPL xs ws (n : Int) = true ∧ ansPL xs ws (n : Int) = N ∧
    okLin (dualL xs) D = true ∧ ansEL (dualL xs) D = O ∧ ansDL xs C = O ∧
    E.length = n ∧ C.length = n ∧ D.length = n ∧ U.length = n ∧ V.length = n ∧ N.length = n ∧ O.length = n ∧ (dualL xs).length = n := by
  have hg := (okLin_all h).1
  have hX := okLin_X h
  have h1 := (good_length hg).1
  have h10 := (good_length hg).2
  have hE := hX.evaL
  have hC := hX.coeL
  have hU : LinX xs (pro1 xs (evaL xs ws)) := hE.pro h1
  have hV := hU.evaL
  have hN := hE.coeL
  have hD := dua_lin hg hX
  have hO := hD.evaL
  have hl := dualD_length hg
  have hn := hX.len
  have oE := okLin_of hg hE
  have oC := okLin_of hg hC
  have oU := okLin_of hg hU
  have oD := okLin_of (dualD_good hg) hD
  have pE : okPL xs (evaL xs ws) 1 = true := okPL_of oE (by omega) (by omega)
  have pM : okPL xs ws (-1) = true := okPL_of h (by omega) (by omega)
  have pN : okPL xs ws (ws.length : Int) = true := okPL_of h (by omega) (by omega)
  refine ⟨evaL xs ws, coeL xs ws, duaL ws, pro1 xs (evaL xs ws), evaL xs (pro1 xs (evaL xs ws)), coeL xs (evaL xs ws), evaL (dualL xs) (duaL ws), ws.length,
    hg, rfl, by omega, by omega, ansEL_yes h, ansCL_yes h, ?_, oE, ?_, oC, ?_, pE, ?_, oU, ansEL_yes oU, pM, ?_, ansCL_yes oE, pN, ?_, oD, ansEL_yes oD, ?_, ?_, ?_, ?_, ?_, ?_, ?_, ?_, ?_⟩
  · exact ansDL_yes h
  · rw [ansEL_yes oE, eva_eva hX]
  · rw [ansCL_yes oC, coe_coe hX]
  · rw [ansPL_yes pE, proL_one]
  · rw [ansPL_yes pM, proL_neg (by omega), eva_turn hX h1]; rfl
  · rw [ansPL_yes pN, proL_nat, coe_eva hX h1, hn]
  · rw [ansDL_yes oC, eva_dua hg hX]
  · rw [hE.len, hn]
  · rw [hC.len, hn]
  · rw [hD.len, hl, hn]
  · rw [hU.len, hn]
  · rw [hV.len, hn]
  · rw [hN.len, hn]
  · rw [hO.len, hl, hn]
  · rw [hl, hn]
/-- those that evacuation leaves alone, and all: even apart -/
theorem selfFacts {xs : List Int} (h : okAL xs = true) : ∃ a m : Nat, good xs = true ∧ ansSE xs = (a : Int) ∧ ansN xs cntL = ((a + 2 * m : Nat) : Int) ∧ a + 2 * m ≤ 500 := by
  obtain ⟨hg, h5⟩ := okAL_all h
  obtain ⟨m, hm⟩ := self_parity xs
  refine ⟨_, m, hg, ansSE_yes h, ?_, ?_⟩
  · rw [ansN_yes hg, ← hm]
  · rw [← hm]; exact h5
end Go.Proofs.Ytpdoheagfjeefaa

/- PromotionOrder of both sides. -/
namespace Go.Proofs.Ytpdoheagfjeefaa
open Go.RowKit Go.WideShapes Go.ChangeShapes
set_option linter.unusedVariables false

def okPR (xs : List Int) : Bool := okAL xs && decide (LC (perR xs) (ends xs 0) ≤ 1000000)
def ansPR (xs : List Int) : Int := if okPR xs then (LC (perR xs) (ends xs 0) : Int) else 0
theorem okPR_no1 {xs : List Int} (h : okAL xs = false) : okPR xs = false := by simp [okPR, h]
theorem okPR_no2 {xs : List Int} (h : ¬ LC (perR xs) (ends xs 0) ≤ 1000000) : okPR xs = false := by simp only [okPR, decide_eq_false h]; simp
theorem okPR_yes {xs : List Int} (h : okAL xs = true) (k : LC (perR xs) (ends xs 0) ≤ 1000000) : okPR xs = true := by simp only [okPR, h, decide_eq_true k]; rfl
theorem ansPR_no {xs : List Int} (h : okPR xs = false) : ansPR xs = 0 := by simp [ansPR, h]
theorem ansPR_yes {xs : List Int} (h : okPR xs = true) : ansPR xs = (LC (perR xs) (ends xs 0) : Int) := by simp [ansPR, h]
theorem step_facts {p : Nat → Nat} {k m : Nat} (hp : ∀ j, j < k → 1 ≤ p j) (hx : 1 ≤ p k) (hx2 : p k ≤ 500) (h : bl 1000000 p k = some m) :
    1 ≤ m ∧ m ≤ 1000000 ∧ 1 ≤ Nat.gcd m (p k) ∧ Nat.gcd m (p k) ≤ 500 ∧ m / Nat.gcd m (p k) ≤ 1000000 ∧ m / Nat.gcd m (p k) * p k ≤ 500000000 := by
  obtain ⟨h1, h2⟩ := bl_range (by decide) hp h
  have h3 := Nat.gcd_le_right m (show 0 < p k by omega)
  have h4 : 0 < Nat.gcd m (p k) := Nat.gcd_pos_of_pos_left _ (by omega)
  have h6 := Nat.div_le_self m (Nat.gcd m (p k))
  have h7 : m / Nat.gcd m (p k) * p k ≤ 1000000 * 500 := Nat.mul_le_mul (by omega) (by omega)
  exact ⟨h1, h2, h4, by omega, by omega, by omega⟩
set_option maxHeartbeats 3200000 in
theorem specPromotionOrder_any (v : Value) (xs : List Int) (w : World) (hv : Ints w v xs) (hl : xs.length ≤ 1048576) :
    Calls Try.prog 60 #[.agg #[v]] w fun r w' => r = .returned (.tuple #[.int .i64 (ansPR xs), .bool (okPR xs)]) ∧ Below w.heap.size w w' := by
  have HV := hid hv
  clear hv
  go_enter Try.func60, Try.ntmps60
  have HB := hid (below_alloc (Below.refl _ w) (.cells #[v] 26))
  have A0 := hid (At.newAt w v 26 w.heap.size (by simp))
  go_wp2_with fail
  refine (poGood_any _ xs _ (HV.out.below HB.out) hl).mono ?_
  rintro e w' ⟨rfl, hb⟩
  replace HB := hid (below_to HB.out hb)
  replace A0 := hid (A0.out.below hb)
  clear hb
  cases hq : good xs
  · have HO := hid (okPR_no1 (okAL_no1 hq))
    clear hq
    have ebox0 := A0.out.1
    go_wp2
    go_ret2
    exact ⟨ret_ib (ansPR_no HO.out).symm HO.out.symm, HB.out⟩
  · have HG := hid hq
    clear hq
    have ebox0 := A0.out.1
    go_wp2_with fail
    clear ebox0
    refine (liAll_any _ xs _ (HV.out.below HB.out) HG.out).mono ?_
    rintro e w' ⟨q, rfl, ho, -, hb⟩
    replace HB := hid (below_to HB.out hb)
    replace A0 := hid (A0.out.below hb)
    clear hb
    cases hq : okAL xs
    · have HO := hid (okPR_no1 hq)
      clear hq ho
      have ebox0 := A0.out.1
      go_wp2
      go_ret2
      exact ⟨ret_ib (ansPR_no HO.out).symm HO.out.symm, HB.out⟩
    · have HQ := hid hq
      have hC := (okAL_all hq).2
      rw [ansAL_yes hq] at ho
      have HI := hid ho.ints
      obtain ⟨oA, oc, rfl, -⟩ := ho.rows
      have hlen : (allLn xs).length = cntL xs := rowsN_length _ _
      rw [hlen] at HI ⊢
      have hl1 := (good_length HG.out).1
      have hl10 := (good_length HG.out).2
      obtain ⟨m, hm⟩ : ∃ m, cntL xs = m := ⟨_, rfl⟩
      rw [hm] at HI hC ⊢
      have HM := hid hm
      have HPR := hid (fun r (hr : r < m) => perR_range (xs := xs) hl1 (r := r) (by show r < cntL xs; rw [hm]; exact hr))
      have hme : ends xs 0 = m := hm
      rw [hme] at HPR
      have HME := hid hme
      clear hq ho hlen hm hme
      have ebox0 := A0.out.1
      go_wp2
      go_loopw [6, 23] (fun q i wr => ∃ k o : Nat, k ≤ m ∧ i = .int .i64 k ∧ q = .int .i64 o ∧ Hid (bl 1000000 (perR xs) k = some o) ∧ Below w'.heap.size w' wr) (fun _ i _ => m - (intOf i).toNat)
      case atStart => exact ⟨0, 1, Nat.zero_le _, rfl, rfl, hid rfl, Below.refl _ _⟩
      case round =>
        obtain ⟨k, o, hk, rfl, rfl, HBl, hb⟩ := hrel
        have Hb := hid hb
        have hbx := (A0.out.below hb).1
        clear hb
        by_cases hlt : k < m
        · obtain ⟨b, o', c', u, hsh, hbl, hc, hi⟩ := rows_cell HI.out (k := k) (by unfold allLn; rw [rowsN_length, HM.out]; exact hlt)
          unfold allLn at hi
          rw [rowsN_getD _ (by rw [HM.out]; exact hlt)] at hi
          injection hsh with hsA hsB hsC
          subst hsA
          subst hsC
          clear hsB
          have hcell := (Hb.out.cell (p := ⟨b, o' + k, none⟩) hbl).trans hc
          have HIk := hid (hi.below Hb.out)
          have HIk0 := hid hi
          have hkx : k < ends xs 0 := by rw [HME.out]; exact hlt
          have HLw := hid (unrL_Lw (xs := xs) (r := k) hkx)
          obtain ⟨hp1, hp2⟩ := HPR.out k hlt
          obtain ⟨f1, f2, f3, f4, f5, f6⟩ := step_facts (p := perR xs) (k := k) (fun j hj => (HPR.out j (by omega)).1) hp1 (by omega) HBl.out
          have HStep := hid (bl_step HBl.out)
          have HNe := hid (fun j (h1 : 1 ≤ j) (h2 : j < perR xs k) => sameL_not (it_ne hl1 hkx h1 h2))
          have HEq := hid (sameL_yes (it_per hl1 hkx))
          obtain ⟨P, hP⟩ : ∃ P, perR xs k = P := ⟨_, rfl⟩
          rw [hP] at hp1 hp2 f3 f4 f5 f6 HStep HNe HEq
          obtain ⟨uA, un, uc, rfl⟩ : ∃ uA un uc, u = .slice uA un uc := by obtain ⟨A, c, e, -⟩ := hi; exact ⟨_, _, _, e⟩
          have HF := hid (show 1 ≤ o ∧ o ≤ 1000000 ∧ 1 ≤ Nat.gcd o P ∧ Nat.gcd o P ≤ 500 ∧ o / Nat.gcd o P ≤ 1000000 ∧ o / Nat.gcd o P * P ≤ 500000000 from ⟨f1, f2, f3, f4, f5, f6⟩)
          have hP500 : P ≤ 500 := by omega
          have hit1 : proL xs 1 (unrL xs k) = itP xs (unrL xs k) 1 := proL_one xs _
          have HIt1 := hid hit1
          clear hc hi hP f1 f2 f3 f4 f5 f6 hkx hit1 hp2
          go_wp2_with fail
          clear hcell hbx
          refine (liPromote_any _ _ xs (unrL xs k) 1 _ ((HV.out.below HB.out).below Hb.out) HIk.out HG.out HLw.out (by omega) (by omega)).mono ?_
          rintro e w2 ⟨u2, rfl, ho2, hb2⟩
          rw [HIt1.out] at ho2
          have HI2 := hid ho2.ints
          obtain ⟨u2A, u2n, u2c, rfl⟩ := ho2.shape3
          have Hb2 := hid (below_to Hb.out hb2)
          clear ho2 hb2
          go_wp2
          go_loopw [9, 10] (fun cN nw wi => ∃ j : Nat, 1 ≤ j ∧ j ≤ P ∧ cN = .int .i64 j ∧ Ints wi nw (itP xs (unrL xs k) j) ∧ Below w'.heap.size w' wi) (fun cN _ _ => P - (intOf cN).toNat)
          case atStart => exact ⟨1, Nat.le_refl _, hp1, rfl, HI2.out, Hb2.out⟩
          case round =>
            obtain ⟨j, hj1, hj, rfl, hi, hb⟩ := hrel
            obtain ⟨wi, rfl⟩ : ∃ x, x = wr := ⟨wr, rfl⟩
            have HIj := hid hi
            have Hb3 := hid hb
            have HLj := hid (itP_Lw hl1 HLw.out j)
            have hlj : (itP xs (unrL xs k) j).length ≤ 1048576 := by rw [HLj.out.len]; omega
            obtain ⟨nA, nn, nc, rfl⟩ : ∃ uA un uc, _ = Value.slice uA un uc := by obtain ⟨A, c, e, -⟩ := hi; exact ⟨_, _, _, e⟩
            have HIk3 := hid (HIk0.out.below hb)
            clear hi hb
            go_wp2_with fail
            refine (l1SameL_any _ _ (itP xs (unrL xs k) j) (unrL xs k) _ HIj.out HIk3.out hlj).mono ?_
            rintro e w4 ⟨rfl, hb4⟩
            have HIj4 := hid (HIj.out.below hb4)
            have Hb4 := hid (below_to Hb3.out hb4)
            clear hb4
            by_cases hjP : j = P
            · subst hjP
              rw [show sameL (itP xs (unrL xs k) j) (unrL xs k) = true from HEq.out]
              have HGc := hid (fun W => liGcd_any o j W (by have := HF.out; omega) (by omega))
              obtain ⟨F1, F2, F3, F4, F5, F6⟩ := HF.out
              obtain ⟨g, hg⟩ : ∃ g, Nat.gcd o j = g := ⟨_, rfl⟩
              rw [hg] at HGc F3 F4 F5 F6 HStep
              obtain ⟨qq, hqq⟩ : ∃ qq, o / g = qq := ⟨_, rfl⟩
              have HDiv := hid (tdiv_nat o g)
              have HDiv2 : Hid (((o : Int) / (g : Int)) = ((o / g : Nat) : Int)) := hid (by simp)
              rw [hqq] at HDiv HDiv2 F5 F6 HStep
              clear hqq hg
              obtain ⟨y, hy⟩ : ∃ y, qq * j = y := ⟨_, rfl⟩
              rw [hy] at F6 HStep
              have HMul : Hid (((qq : Int) * (j : Int)) = (y : Int)) := hid (by rw [← hy]; simp)
              clear hy
              have hg0 : ¬ (g : Int) = 0 := by omega
              have hg1 : ((g : Int) == 0) = false := by rw [beq_eq_false_iff_ne]; omega
              have hg2 : (0 : Int) < g := by omega
              have HWy : Hid (wrap64 (y : Int) = (y : Int)) := hid (by unfold wrap64; omega)
              have HWq : Hid (wrap64 (qq : Int) = (qq : Int)) := hid (by unfold wrap64; omega)
              clear F1 F2 F3 F4
              have HVal : Hid (wrap64 (wrap64 ((o : Int) / (g : Int)) * (j : Int)) = (y : Int)) := hid (by rw [HDiv2.out, HWq.out, HMul.out, HWy.out])
              have hk1 : k + 1 ≤ m := by omega
              clear hg1 hg2 F5 F6
              go_wp2_with fail
              refine (HGc.out _).mono ?_
              rintro e' w5 ⟨rfl, hb5⟩
              have Hb5 := hid (below_to Hb4.out hb5)
              clear hb5
              go_wp2
              · rename_i hcmp
                rw [HVal.out] at hcmp
                have HN := hid (HStep.out.trans (if_pos (show 1000000 < y by omega)))
                have HO : Hid (okPR xs = false) := hid (okPR_no2 (fun hle => by
                  have h1 := bl_none HN.out m hk1
                  rw [bl_eq (by decide) m (fun i hi => (HPR.out i hi).1), ← HME.out, if_pos hle] at h1
                  cases h1))
                go_ret2
                exact ⟨ret_ib (ansPR_no HO.out).symm HO.out.symm, below_to HB.out Hb5.out⟩
              · rename_i hcmp
                rw [HVal.out] at hcmp
                have HN := hid (HStep.out.trans (if_neg (show ¬ 1000000 < y by omega)))
                rw [HVal.out]
                exact ⟨⟨k + 1, y, hk1, by go_num, rfl, HN.out, Hb5.out⟩, by simp [intOf]; omega⟩
            · rw [show sameL (itP xs (unrL xs k) j) (unrL xs k) = false from HNe.out j hj1 (by omega)]
              have hbx4 := (A0.out.below Hb4.out).1
              have hitj : proL xs 1 (itP xs (unrL xs k) j) = itP xs (unrL xs k) (j + 1) := proL_one xs _
              have HItj := hid hitj
              clear hitj
              go_wp2_with fail
              clear hbx4
              refine (liPromote_any _ _ xs (itP xs (unrL xs k) j) 1 _ ((HV.out.below HB.out).below Hb4.out) HIj4.out HG.out HLj.out (by omega) (by omega)).mono ?_
              rintro e w5 ⟨u5, rfl, ho5, hb5⟩
              rw [HItj.out] at ho5
              have HI5 := hid ho5.ints
              obtain ⟨u5A, u5n, u5c, rfl⟩ := ho5.shape3
              have Hb5 := hid (below_to Hb4.out hb5)
              clear ho5 hb5
              go_wp2
              go_roundw
              case rel => exact ⟨j + 1, by omega, by omega, by go_num, HI5.out, Hb5.out⟩
              case measure => simp [intOf]; omega
        · obtain rfl : k = m := by omega
          have hbe := HBl.out
          rw [bl_eq (by decide) k (fun i hi => (HPR.out i hi).1)] at hbe
          have hle : LC (perR xs) k ≤ 1000000 ∧ o = LC (perR xs) k := by
            split at hbe
            · rename_i h; simp only [Option.some.injEq] at hbe; exact ⟨h, hbe.symm⟩
            · cases hbe
          have HO := hid (okPR_yes HQ.out (by rw [HME.out]; exact hle.1))
          have HY : Hid (ansPR xs = (o : Int)) := hid (by rw [ansPR_yes HO.out, HME.out, hle.2])
          clear hbe hle hbx
          go_wp2
          go_ret2
          exact ⟨ret_ib (by rw [HY.out]) HO.out.symm, below_to HB.out Hb.out⟩
set_option maxHeartbeats 1600000 in
theorem implPromotionOrder_any (v : Value) (xs : List Int) (w : World) (hv : Ints w v xs) (hl : xs.length ≤ 1048576) :
    Calls Try.prog 59 #[.agg #[v]] w fun r w' => r = .returned (.tuple #[.int .i64 (ansPR xs), .bool (okPR xs)]) ∧ Below w.heap.size w w' := by
  have HV := hid hv
  clear hv
  go_enter Try.func59, Try.ntmps59
  have HB := hid (below_alloc (Below.refl _ w) (.cells #[v] 26))
  have A0 := hid (At.newAt w v 26 w.heap.size (by simp))
  go_wp2_with fail
  refine (implAllLinear_any _ xs _ (HV.out.below HB.out) hl).mono ?_
  rintro e w' ⟨q, rfl, ho, -, hb⟩
  replace HB := hid (below_to HB.out hb)
  replace A0 := hid (A0.out.below hb)
  clear hb
  cases hq : okAL xs
  · have HO := hid (okPR_no1 hq)
    clear hq ho
    have ebox0 := A0.out.1
    go_wp2
    go_ret2
    exact ⟨ret_ib (ansPR_no HO.out).symm HO.out.symm, HB.out⟩
  · have HQ := hid hq
    have HG := hid (okAL_all hq).1
    have HC : Hid (ends xs 0 ≤ 500) := hid (okAL_all hq).2
    rw [ansAL_yes hq] at ho
    have HI := hid ho.ints
    clear hq ho
    have hl1 := (good_length HG.out).1
    have hl10 := (good_length HG.out).2
    have ebox0 := A0.out.1
    go_wp2_with fail
    clear ebox0
    refine (promotionLengths_any _ _ xs _ (HV.out.below HB.out) HG.out HC.out HI.out).mono ?_
    rintro e w' ⟨u, rfl, ho, hb⟩
    replace HB := hid (below_to HB.out hb)
    replace A0 := hid (A0.out.below hb)
    clear hb
    have HI2 := hid ho.ints
    have HLn := hid (show (lensP xs).length ≤ 1048576 by have h1 := lens_length xs; have h2 := HC.out; omega)
    have HRg := hid (fun y hy => (by have h1 := lens_range hl1 y hy; have h2 := HC.out; omega : 1 ≤ y ∧ y ≤ 1024) : ∀ y ∈ lensP xs, 1 ≤ y ∧ y ≤ 1024)
    have HAll := hid (lens_all (xs := xs) hl1)
    clear ho
    obtain ⟨L, hL⟩ : ∃ L, LC (perR xs) (ends xs 0) = L := ⟨_, rfl⟩
    have HLe := hid hL
    rw [hL] at HAll
    clear hL
    go_wp2_with fail
    refine (commonMultiple_any _ (lensP xs) _ HI2.out HLn.out HRg.out).mono ?_
    by_cases h15 : L ≤ 1000000000000000
    · rw [HAll.out, if_pos h15]
      rintro e w3 ⟨rfl, hb3⟩
      have HB3 := hid (below_to HB.out hb3)
      have hlv : lcmV (some L) = (L : Int) := rfl
      rw [hlv]
      clear hb3 hlv
      by_cases h6 : (1000000 : Int) < (L : Int)
      · have HO := hid (okPR_no2 (xs := xs) (by rw [HLe.out]; omega))
        go_wp2
        go_ret2
        exact ⟨ret_ib (ansPR_no HO.out).symm HO.out.symm, HB3.out⟩
      · have HO := hid (okPR_yes HQ.out (by rw [HLe.out]; omega))
        have HY : Hid (ansPR xs = (L : Int)) := hid (by rw [ansPR_yes HO.out, HLe.out])
        go_wp2
        go_ret2
        exact ⟨ret_ib (by rw [HY.out]) HO.out.symm, HB3.out⟩
    · rw [HAll.out, if_neg h15]
      have HO := hid (okPR_no2 (xs := xs) (by rw [HLe.out]; omega))
      rintro e w3 ⟨rfl, hb3⟩
      have HB3 := hid (below_to HB.out hb3)
      have hlv : lcmV (none : Option Nat) = 0 := rfl
      rw [hlv]
      clear hb3 hlv
      go_wp2
      go_ret2
      exact ⟨ret_ib (ansPR_no HO.out).symm HO.out.symm, HB3.out⟩
end Go.Proofs.Ytpdoheagfjeefaa
