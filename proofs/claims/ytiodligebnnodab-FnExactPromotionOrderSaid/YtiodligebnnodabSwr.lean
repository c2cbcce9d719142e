/- Toggles in turn: promotions, evacuation, coevacuation as closures; a list behind a closure. -/
import Derived.Test.YtiodligebnnodabRep
import Derived.Lib.SliceRun
namespace Go.Proofs.Ytiodligebnnodab
open Go.RowKit Go.WideShapes Go.ChangeShapes
set_option linter.unusedVariables false

theorem cloneL_any (v : Value) (xs : List Int) (w : World) (hv : Ints w v xs) (hl : xs.length ≤ 1048576) :
    Calls Try.prog 64 #[v] w fun (r : Ending) w' => ∃ u, r = Ending.returned u ∧ OwnI 3 w' w.heap.size u xs ∧ Below w.heap.size w w' := by
  have HV := hid hv
  obtain ⟨A, c, rfl, hA⟩ := hv
  have HA := hid hA
  clear hA
  have qT : ∀ (w : World) (a : Option Addr) (n c n' c' : Nat), (binOp .eql 22 (.slice a n c) (.slice none n' c')).run Try.prog w = .ok (.bool a.isNone) w := fun w a n c n' c' => Lib.run_eql_slice_nil w _ _ a n c n' c' Try.underlying22
  rcases A with _ | ⟨b, o, pt⟩
  · by_cases hx : xs = []
    · subst hx
      go_enter Try.func64, Try.ntmps64
      go_wp2
      go_ret
      exact ⟨_, rfl, OwnI.nil _ _ _, Below.refl _ _⟩
    · obtain ⟨b, o, h, -⟩ := HA.out hx
      cases h
  · skip
    go_enter Try.func64, Try.ntmps64
    go_wp2_with (at_builtin; refine wpList_append_ints rfl _ _ 22 3 rfl Try.underlying22 Try.info3 w.heap.size _ [] rfl (OwnI.empty 3 w) _ xs rfl (HV.out.alloc _) (by simpa using hl) (by simp) ?_; rintro u w1 ho hb)
    go_ret
    exact ⟨_, rfl, by simpa using ho, (below_alloc (Below.refl _ w) _).trans hb⟩
set_option maxHeartbeats 1600000 in
theorem swapsDown_any (v : Value) (xs : List Int) (f t : Nat) (w : World) (hv : Ints w v xs) (hg : good xs = true) (ht : xs.length = t + 1) (hf : f ≤ t) :
    Calls Try.prog 56 #[.agg #[v], .int .i64 f] w fun (r : Ending) w' => ∃ fn caps, r = Ending.returned (.func (.func fn) #[] caps) ∧ SwapG fn caps xs (FP w.heap.size v w') w' (downL xs t (t - f)) ∧ Below w.heap.size w w' := by
  have HV := hid hv
  have HG := hid hg
  have hl10 := (good_length hg).2
  have HVB := hid (ints_block hv hg)
  have HT := hid ht
  have ht9 : t ≤ 9 := by omega
  have e1 : (xs.length : Int) - 2 = (t : Int) - 1 := by omega
  obtain ⟨A, c, rfl, -⟩ := hv
  clear hg ht
  go_enter Try.func56, Try.ntmps56
  have HB := hid (below_alloc (Below.refl _ w) (.cells #[(.slice A xs.length c)] 28))
  have A0 := hid (At.newAt w (.slice A xs.length c) 28 w.heap.size (by simp))
  go_wp2
  clear e1
  go_loopw [5, 6] (fun u i wr => ∃ k : Nat, k ≤ t - f ∧ i = .int .i64 ((t : Int) - 1 - (k : Int)) ∧ OwnG 53 xs (.slice A xs.length c) (w.heap.size + 1) wr u (fun i a => togL xs a (t - 1 - i)) k ∧ Below w.heap.size w wr ∧ At wr w.heap.size (.slice A xs.length c)) (fun _ i _ => (intOf i + 1 - (f : Int)).toNat)
  case atStart => exact ⟨0, Nat.zero_le _, by simp, OwnG.nil _ _ _ _ _ _, HB.out, A0.out⟩
  case round =>
    obtain ⟨k, hk, rfl, ho, hb, ha⟩ := hrel
    have HO := hid ho
    have HB1 := hid hb
    have HA1 := hid ha
    obtain ⟨uA, uc, rfl⟩ := ho.shape
    have hbx := ha.1
    have hz : w.heap.size + 1 ≤ wr.heap.size := ha.2
    clear ho hb ha
    by_cases hlt : k < t - f
    · obtain ⟨p, hp⟩ : ∃ p, t - 1 - k = p := ⟨_, rfl⟩
      have hp2 : (t : Int) - 1 - (k : Int) = (p : Int) := by omega
      have HP := hid hp
      have HP2 := hid hp2
      have hp3 : f ≤ p := by omega
      have hp4 : p < 10 := by omega
      have hp5 : p + 1 < xs.length := by have := HT.out; omega
      rw [hp2]
      clear hp hp2
      go_wp2_with fail
      clear hbx
      refine (swapAt_any (.slice A xs.length c) xs p _ (HV.out.below HB1.out) HG.out hp5).mono ?_
      rintro e w2 ⟨fn, caps, rfl, hS, hb2⟩
      have HS : Hid (SwapG fn caps xs (FP wr.heap.size (.slice A xs.length c) w2) w2 ((fun i a => togL xs a (t - 1 - i)) k)) := hid (by show SwapG fn caps xs _ w2 (fun a => togL xs a (t - 1 - k)); rw [HP.out]; exact hS)
      have HO2 := hid (HO.out.below hb2)
      have HB2 := hid (below_to HB1.out hb2)
      have HA2 := hid (HA1.out.below hb2)
      have hz2 : w.heap.size + 1 ≤ w2.heap.size := HA2.out.2
      have HFP : Hid (∀ k', FP wr.heap.size (.slice A xs.length c) w2 k' → (w.heap.size + 1 ≤ k' ∨ (Value.slice A xs.length c).ownBlock = some k') ∧ (Value.slice uA k uc).ownBlock ≠ some k') := hid (by
        obtain ⟨us, h1, h2, h3⟩ := HO.out
        rintro k' (h | h)
        · refine ⟨.inl (by omega), fun e => ?_⟩
          have := h2.lt k' e
          omega
        · refine ⟨.inr h, fun e => ?_⟩
          have := h2.lt k' e
          have := HVB.out k' h
          omega)
      clear hS hb2
      go_wp2_with (at_builtin; refine wpList_append_sw rfl _ _ 67 53 rfl Try.underlying67 infoSwap xs (.slice A xs.length c) (w.heap.size + 1) _ (fun i a => togL xs a (t - 1 - i)) k fn caps _ rfl HO2.out HS.out HFP.out rfl rfl (by omega) hz2 ?_; rintro u3 w3 ho3 hb3)
      go_roundw
      case rel => exact ⟨k + 1, by omega, (by have := HP2.out; first | (congr 1; omega) | (simp; omega)), ho3, HB2.out.trans (hb3.mono (by omega)), HA2.out.keep hb3 (by omega)⟩
      case measure => first | (simp [intOf]; done) | (simp [intOf]; have := HP2.out; omega)
    · obtain rfl : k = t - f := by omega
      have e2 : (t : Int) - 1 - ((t - f : Nat) : Int) = (f : Int) - 1 := by omega
      rw [e2]
      have hvB : ∀ k', (Value.slice A xs.length c).ownBlock = some k' → k' < wr.heap.size := fun k' h => by have := HVB.out k' h; have := HB1.out.size; omega
      have HL := hid (HO.out.lst hvB)
      have HvB := hid hvB
      clear hbx hvB e2
      go_wp2_with fail
      refine (inTurn_any _ (.slice A xs.length c) xs (w.heap.size + 1) _ (t - f) _ HL.out hz HvB.out (by omega) (fun j hj a ha => ha.tog (by have := HT.out; omega))).mono ?_
      rintro e w2 ⟨fn, caps, rfl, hS, hb2⟩
      have HS := hid (hS.base (Nat.le_succ w.heap.size) (fun k' h => Nat.lt_of_lt_of_le (HvB.out k' h) hb2.size))
      have HB2 := hid (below_to HB1.out hb2)
      clear hS hb2
      go_wp2
      go_ret
      exact ⟨fn, caps, rfl, HS.out, HB2.out⟩
theorem swapsUp_at (v : Value) (xs : List Int) (K : Nat) (z : Int) (hz : z = (K : Int) - 1) (w : World) (hv : Ints w v xs) (hg : good xs = true) (hK : K + 1 ≤ xs.length) :
    Calls Try.prog 57 #[.agg #[v], .int .i64 z] w fun (r : Ending) w' => ∃ fn caps, r = Ending.returned (.func (.func fn) #[] caps) ∧ SwapG fn caps xs (FP w.heap.size v w') w' (upL xs K) ∧ Below w.heap.size w w' := by
  subst hz; exact swapsUp_any v xs K w hv hg hK
set_option maxHeartbeats 1600000 in
theorem evacuation_any (v : Value) (xs : List Int) (w : World) (hv : Ints w v xs) (hg : good xs = true) :
    Calls Try.prog 38 #[.agg #[v]] w fun (r : Ending) w' => ∃ fn caps, r = Ending.returned (.func (.func fn) #[] caps) ∧ SwapG fn caps xs (FP w.heap.size v w') w' (evaL xs) ∧ Below w.heap.size w w' := by
  have HV := hid hv
  have HG := hid hg
  have hl1 := (good_length hg).1
  have hl10 := (good_length hg).2
  have HVB := hid (ints_block hv hg)
  obtain ⟨t, ht⟩ : ∃ t, xs.length = t + 1 := ⟨xs.length - 1, by omega⟩
  have HT := hid ht
  have HE : Hid (evaL xs = turnN (fun k => upL xs (t - k)) t) := hid (by funext ws; unfold evaL; rw [show xs.length - 1 = t by omega])
  have ht9 : t ≤ 9 := by omega
  have e1 : (xs.length : Int) - 2 = (t : Int) - 1 := by omega
  obtain ⟨A, c, rfl, -⟩ := hv
  clear hg ht
  go_enter Try.func38, Try.ntmps38
  have HB := hid (below_alloc (Below.refl _ w) (.cells #[(.slice A xs.length c)] 28))
  have A0 := hid (At.newAt w (.slice A xs.length c) 28 w.heap.size (by simp))
  go_wp2
  clear e1
  go_loopw [3, 4] (fun u i wr => ∃ k : Nat, k ≤ t ∧ i = .int .i64 ((t : Int) - 1 - (k : Int)) ∧ OwnG 53 xs (.slice A xs.length c) (w.heap.size + 1) wr u (fun k => upL xs (t - k)) k ∧ Below w.heap.size w wr ∧ At wr w.heap.size (.slice A xs.length c)) (fun _ i _ => (intOf i + 1).toNat)
  case atStart => exact ⟨0, Nat.zero_le _, by simp, OwnG.nil _ _ _ _ _ _, HB.out, A0.out⟩
  case round =>
    obtain ⟨k, hk, rfl, ho, hb, ha⟩ := hrel
    have HO := hid ho
    have HB1 := hid hb
    have HA1 := hid ha
    obtain ⟨uA, uc, rfl⟩ := ho.shape
    have hbx := ha.1
    have hz : w.heap.size + 1 ≤ wr.heap.size := ha.2
    clear ho hb ha
    by_cases hlt : k < t
    · obtain ⟨p, hp⟩ : ∃ p, t - 1 - k = p := ⟨_, rfl⟩
      have hp2 : (t : Int) - 1 - (k : Int) = (p : Int) := by omega
      have HP2 := hid hp2
      have HPk := hid (show p + 1 = t - k by omega)
      have hp4 : p < 10 := by omega
      have hp5 : p + 1 + 1 ≤ xs.length := by have := HT.out; omega
      rw [hp2]
      clear hp hp2
      go_wp2_with fail
      clear hbx
      refine (swapsUp_at (.slice A xs.length c) xs (p + 1) (p : Int) (by omega) _ (HV.out.below HB1.out) HG.out hp5).mono ?_
      rintro e w2 ⟨fn, caps, rfl, hS, hb2⟩
      have HS : Hid (SwapG fn caps xs (FP wr.heap.size (.slice A xs.length c) w2) w2 ((fun k => upL xs (t - k)) k)) := hid (by show SwapG fn caps xs _ w2 (upL xs (t - k)); rw [← HPk.out]; exact hS)
      have HO2 := hid (HO.out.below hb2)
      have HB2 := hid (below_to HB1.out hb2)
      have HA2 := hid (HA1.out.below hb2)
      have hz2 : w.heap.size + 1 ≤ w2.heap.size := HA2.out.2
      have HFP : Hid (∀ k', FP wr.heap.size (.slice A xs.length c) w2 k' → (w.heap.size + 1 ≤ k' ∨ (Value.slice A xs.length c).ownBlock = some k') ∧ (Value.slice uA k uc).ownBlock ≠ some k') := hid (by
        obtain ⟨us, h1, h2, h3⟩ := HO.out
        rintro k' (h | h)
        · refine ⟨.inl (by omega), fun e => ?_⟩
          have := h2.lt k' e
          omega
        · refine ⟨.inr h, fun e => ?_⟩
          have := h2.lt k' e
          have := HVB.out k' h
          omega)
      clear hS hb2
      go_wp2_with (at_builtin; refine wpList_append_sw rfl _ _ 67 53 rfl Try.underlying67 infoSwap xs (.slice A xs.length c) (w.heap.size + 1) _ (fun k => upL xs (t - k)) k fn caps _ rfl HO2.out HS.out HFP.out rfl rfl (by omega) hz2 ?_; rintro u3 w3 ho3 hb3)
      go_roundw
      case rel => exact ⟨k + 1, by omega, (by have := HP2.out; first | (congr 1; omega) | (simp; omega)), ho3, HB2.out.trans (hb3.mono (by omega)), HA2.out.keep hb3 (by omega)⟩
      case measure => first | (simp [intOf]; done) | (simp [intOf]; have := HP2.out; omega)
    · obtain rfl : k = t := by omega
      have e2 : (k : Int) - 1 - (k : Int) = -1 := by omega
      rw [e2]
      have hvB : ∀ k', (Value.slice A xs.length c).ownBlock = some k' → k' < wr.heap.size := fun k' h => by have := HVB.out k' h; have := HB1.out.size; omega
      have HL := hid (HO.out.lst hvB)
      have HvB := hid hvB
      clear hbx hvB e2
      go_wp2_with fail
      refine (inTurn_any _ (.slice A xs.length c) xs (w.heap.size + 1) _ k _ HL.out hz HvB.out (by omega) (fun j hj a ha => ha.up (by have := HT.out; omega))).mono ?_
      rintro e w2 ⟨fn, caps, rfl, hS, hb2⟩
      have HS := hid (hS.base (Nat.le_succ w.heap.size) (fun k' h => Nat.lt_of_lt_of_le (HvB.out k' h) hb2.size))
      have HB2 := hid (below_to HB1.out hb2)
      clear hS hb2
      go_wp2
      go_ret
      exact ⟨fn, caps, rfl, by rw [HE.out]; exact HS.out, HB2.out⟩
theorem FP.up {B B' : Nat} {v : Value} {w w' : World} (hB : B' ≤ B) (hs : w.heap.size ≤ w'.heap.size) (k : Nat) (h : FP B v w k) : FP B' v w' k := by
  rcases h with h | h
  · exact .inl ⟨by omega, by omega⟩
  · exact .inr h
set_option maxHeartbeats 1600000 in
theorem promotions_any (v : Value) (xs : List Int) (T : Int) (w : World) (hv : Ints w v xs) (hg : good xs = true) (h1 : -100 ≤ T) (h2 : T ≤ 100) :
    Calls Try.prog 36 #[.agg #[v], .int .i64 T] w fun (r : Ending) w' => ∃ fn caps, r = Ending.returned (.func (.func fn) #[] caps) ∧ SwapG fn caps xs (FP w.heap.size v w') w' (proL xs T) ∧ Below w.heap.size w w' := by
  have HV := hid hv
  have HG := hid hg
  have hl1 := (good_length hg).1
  have hl10 := (good_length hg).2
  have HVB := hid (ints_block hv hg)
  obtain ⟨t, ht⟩ : ∃ t, xs.length = t + 1 := ⟨xs.length - 1, by omega⟩
  have HT := hid ht
  have HTl := hid (show xs.length - 1 = t by omega)
  have ht9 : t ≤ 9 := by omega
  by_cases hneg : T < 0
  · obtain ⟨N, hN⟩ : ∃ N : Nat, -T = (N : Int) := ⟨(-T).toNat, by omega⟩
    have hN1 : N ≤ 1000 := by omega
    have HE : Hid (proL xs T = turnN (fun _ => orp1 xs) N) := hid (by funext ws; rw [proL_neg hneg, hN, Int.toNat_natCast])
    have HD : Hid (orp1 xs = downL xs t (t - 0)) := hid (by funext ws; unfold orp1; rw [HTl.out]; rfl)
    obtain ⟨A, c, rfl, -⟩ := hv
    clear hg ht
    have hTN : T = -(N : Int) := by omega
    subst hTN
    have e3 : IntKind.i64.wrap (N : Int) = (N : Int) := IntWalk.i64_in _ (by omega)
    have e4 : IntKind.i64.wrap (-(-(N : Int))) = (N : Int) := by rw [Int.neg_neg]; exact e3
    go_enter Try.func36, Try.ntmps36
    have HB := hid (below_alloc (Below.refl _ w) (.cells #[(.slice A xs.length c)] 28))
    have A0 := hid (At.newAt w (.slice A xs.length c) 28 w.heap.size (by simp))
    have ebox0 := A0.out.1
    go_wp2_with fail
    clear ebox0
    refine (swapsDown_any (.slice A xs.length c) xs 0 t _ (HV.out.below HB.out) HG.out HT.out (Nat.zero_le _)).mono ?_
    rintro e w2 ⟨fn, caps, rfl, hS, hb2⟩
    have HS := hid hS
    have HB2 := hid (below_to HB.out hb2)
    have HA : Hid (At (w2.alloc (.cells #[FV fn caps] 53)) w2.heap.size (FV fn caps)) := hid (At.new _ _ _)
    have HS2 := hid (HS.out.below (below_alloc (Below.refl _ w2) (.cells #[FV fn caps] 53)))
    have HB3 := hid (below_alloc HB2.out (.cells #[FV fn caps] 53))
    clear hS hb2
    go_wp2_with fail
    refine (repeat_any w2.heap.size N fn caps _ HA.out hN1).mono ?_
    rintro e w3 ⟨g, rfl, hg1, hg2, hcs, hb3⟩
    have HB4 := hid (below_to HB3.out hb3)
    have hz0 : w.heap.size ≤ w3.heap.size := HB4.out.size
    have hvB : ∀ k', (Value.slice A xs.length c).ownBlock = some k' → k' < w3.heap.size := fun k' h => by have := HVB.out k' h; omega
    have HvB := hid hvB
    have hwg : w.heap.size ≤ g := Nat.le_trans HB3.out.size hg1
    have HL : Hid (LstG xs (FP w.heap.size (.slice A xs.length c) w3) w3 (.slice (some ⟨g, 0, none⟩) N N) (fun _ => orp1 xs) N) := hid ⟨_, _, rfl, fun j hj => ⟨g, 0, fn, caps, rfl, .inl ⟨hwg, hg2⟩, (by rw [Nat.zero_add]; exact hcs j hj), by
      have := (HS2.out.below hb3).mono (S' := FP w.heap.size (.slice A xs.length c) w3) (FP.up (by have := HB.out.size; omega) (by have := hb3.size; simp at this; omega)) (FP.lt hvB)
      rw [HD.out]; exact this⟩⟩
    clear hcs hb3 hvB
    go_wp2_with fail
    refine (inTurn_any _ (.slice A xs.length c) xs w.heap.size _ N _ HL.out hz0 HvB.out hN1 (fun j hj a ha => ha.orp1 hl1)).mono ?_
    rintro e w4 ⟨fn4, caps4, rfl, hS4, hb4⟩
    have HS4 := hid hS4
    have HB5 := hid (below_to HB4.out hb4)
    clear hS4 hb4
    go_wp2
    go_ret
    exact ⟨fn4, caps4, rfl, by rw [HE.out]; exact HS4.out, HB5.out⟩
  · obtain ⟨N, hN⟩ : ∃ N : Nat, T = (N : Int) := ⟨T.toNat, by omega⟩
    subst hN
    have hN1 : N ≤ 1000 := by omega
    have HE : Hid (proL xs (N : Int) = turnN (fun _ => pro1 xs) N) := hid (by funext ws; rw [proL_nat])
    have HD : Hid (pro1 xs = upL xs t) := hid (by funext ws; unfold pro1; rw [HTl.out])
    have e1 : (xs.length : Int) - 2 = (t : Int) - 1 := by omega
    obtain ⟨A, c, rfl, -⟩ := hv
    clear hg ht hneg
    go_enter Try.func36, Try.ntmps36
    have HB := hid (below_alloc (Below.refl _ w) (.cells #[(.slice A xs.length c)] 28))
    have A0 := hid (At.newAt w (.slice A xs.length c) 28 w.heap.size (by simp))
    have ebox0 := A0.out.1
    go_wp2_with fail
    clear ebox0 e1
    refine (swapsUp_any (.slice A xs.length c) xs t _ (HV.out.below HB.out) HG.out (by have := HT.out; omega)).mono ?_
    rintro e w2 ⟨fn, caps, rfl, hS, hb2⟩
    have HS := hid hS
    have HB2 := hid (below_to HB.out hb2)
    have HA : Hid (At (w2.alloc (.cells #[FV fn caps] 53)) w2.heap.size (FV fn caps)) := hid (At.new _ _ _)
    have HS2 := hid (HS.out.below (below_alloc (Below.refl _ w2) (.cells #[FV fn caps] 53)))
    have HB3 := hid (below_alloc HB2.out (.cells #[FV fn caps] 53))
    clear hS hb2
    go_wp2_with fail
    refine (repeat_any w2.heap.size N fn caps _ HA.out hN1).mono ?_
    rintro e w3 ⟨g, rfl, hg1, hg2, hcs, hb3⟩
    have HB4 := hid (below_to HB3.out hb3)
    have hz0 : w.heap.size ≤ w3.heap.size := HB4.out.size
    have hvB : ∀ k', (Value.slice A xs.length c).ownBlock = some k' → k' < w3.heap.size := fun k' h => by have := HVB.out k' h; omega
    have HvB := hid hvB
    have hwg : w.heap.size ≤ g := Nat.le_trans HB3.out.size hg1
    have HL : Hid (LstG xs (FP w.heap.size (.slice A xs.length c) w3) w3 (.slice (some ⟨g, 0, none⟩) N N) (fun _ => pro1 xs) N) := hid ⟨_, _, rfl, fun j hj => ⟨g, 0, fn, caps, rfl, .inl ⟨hwg, hg2⟩, (by rw [Nat.zero_add]; exact hcs j hj), by
      have := (HS2.out.below hb3).mono (S' := FP w.heap.size (.slice A xs.length c) w3) (FP.up (by have := HB.out.size; omega) (by have := hb3.size; simp at this; omega)) (FP.lt hvB)
      rw [HD.out]; exact this⟩⟩
    clear hcs hb3 hvB
    go_wp2_with fail
    refine (inTurn_any _ (.slice A xs.length c) xs w.heap.size _ N _ HL.out hz0 HvB.out hN1 (fun j hj a ha => ha.pro1 hl1)).mono ?_
    rintro e w4 ⟨fn4, caps4, rfl, hS4, hb4⟩
    have HS4 := hid hS4
    have HB5 := hid (below_to HB4.out hb4)
    clear hS4 hb4
    go_wp2
    go_ret
    exact ⟨fn4, caps4, rfl, by rw [HE.out]; exact HS4.out, HB5.out⟩
/-- what a closure makes of a list, which stays as it is -/
theorem swapped_any (q : Value) (xs ws : List Int) (fn : Nat) (caps : Array Value) (S : Nat → Prop) (f : List Int → List Int) (w : World) (hq : Ints w q ws) (hw : Lw xs.length ws) (hl : xs.length ≤ 10) (hS : SwapG fn caps xs S w f) :
    Calls Try.prog 53 #[q, .func (.func fn) #[] caps] w fun (r : Ending) w' => ∃ u, r = Ending.returned u ∧ OwnI 3 w' w.heap.size u (f ws) ∧ Below w.heap.size w w' := by
  have HQ := hid hq
  have HW := hid hw
  have HS := hid hS
  have hwl : ws.length ≤ 1048576 := by rw [hw.len]; omega
  clear hq hw hS
  go_enter Try.func53, Try.ntmps53
  go_wp2_with fail
  refine (cloneL_any _ ws _ HQ.out hwl).mono ?_
  rintro e w1 ⟨u, rfl, ho, hb⟩
  obtain ⟨uA, un, uc, rfl⟩ := ho.shape3
  have HO := hid ho
  have HB := hid hb
  have HUB := hid ho.blockLt
  have HR := hid ((HS.out.below hb).run w1 _ ws (fun _ _ => rfl) (ho.mono (Nat.zero_le _)) (fun k hk hs => by have := HS.out.lt k hs; have := ho.blockLt k hk; omega) HW.out)
  have eg := HS.out.ent
  clear ho hb
  go_wp2_with (go_at_fn fn; refine HR.out.mono ?_; rintro e w2 ⟨rfl, ho2, hg2⟩)
  have HO2 := hid (ho2.up (B' := w.heap.size) (fun k hk => (HUB.out k hk).1))
  have HB2 := hid (below_grown HB.out hg2 (fun k hk => (HUB.out k hk).1))
  clear ho2 hg2
  go_wp2
  go_ret
  exact ⟨_, rfl, HO2.out, HB2.out⟩
end Go.Proofs.Ytiodligebnnodab
