/- ElementSum, MeanOfIdeals: contracts. -/
import Derived.Test.YtkcjppbplllaiaaOrbT
import Derived.Test.YtkcjppbplllaiaaCycD
import Derived.Test.YtkcjppbplllaiaaIdeals
namespace Go.Proofs.Ytkcjppbplllaiaa
open Go.RowKit Go.WideShapes Go.ChangeShapes
set_option linter.unusedVariables false

def okES (xs : List Int) (s e : Int) : Bool := okIdeal xs s && (decide (0 ≤ e) && decide (e < xs.length))
def ansES (xs : List Int) (s e : Int) : Int := if okES xs s e then (sumL (bitN e.toNat) (orbXs xs s.toNat) : Nat) else 0
theorem okES_no1 {xs : List Int} {s e : Int} (h : okIdeal xs s = false) : okES xs s e = false := by simp [okES, h]
theorem okES_no2 {xs : List Int} {s e : Int} (h : (decide (0 ≤ e) && decide (e < (xs.length : Int))) = false) : okES xs s e = false := by unfold okES; rw [h, Bool.and_false]
theorem okES_yes {xs : List Int} {s e : Int} (h : okIdeal xs s = true) (k : (decide (0 ≤ e) && decide (e < (xs.length : Int))) = true) : okES xs s e = true := by unfold okES; rw [h, k]; rfl
theorem ansES_no {xs : List Int} {s e : Int} (h : okES xs s e = false) : ansES xs s e = 0 := by simp [ansES, h]
theorem ansES_yes {xs : List Int} {z n : Nat} (h : okES xs z n = true) : ansES xs z n = ((sumTo (bitN n) (orbXs xs z) (orbXs xs z).length : Nat) : Int) := by unfold ansES; rw [if_pos h]; rfl
theorem bitN_bit (e s : Nat) : bitN e s = if s.testBit e then 1 else 0 := by
  unfold bitN
  rw [Nat.testBit_eq_decide_div_mod_eq]
  by_cases h : s / 2 ^ e % 2 = 1
  · simp [h]
  · simp [h]; omega
set_option maxHeartbeats 800000 in
theorem specElementSum_any (v : Value) (xs : List Int) (s e : Int) (w : World) (hv : Ints w v xs) (hl : xs.length ≤ 1048576) (wf : (Lit.int .i64 s).wf = true) (wfe : (Lit.int .i64 e).wf = true) :
    Calls Try.prog 39 #[.agg #[v], .int .i64 s, .int .i64 e] w fun r w' => r = .returned (.tuple #[.int .i64 (ansES xs s e), .bool (okES xs s e)]) ∧ Below w.heap.size w w' := by
  have HV := hid hv
  clear hv wf wfe
  go_enter Try.func39, Try.ntmps39
  have HB := hid (below_alloc (Below.refl _ w) (.cells #[v] 28))
  have A0 := hid (At.newAt w v 28 w.heap.size (by simp))
  go_wp2_with fail
  refine (tgIn_any _ xs s _ (HV.out.below HB.out) hl).mono ?_
  rintro e w' ⟨rfl, hb⟩
  replace HB := hid (below_to HB.out hb)
  replace A0 := hid (A0.out.below hb)
  clear hb
  cases hq : okIdeal xs s
  · have HO := hid (okES_no1 (e := e) hq)
    clear hq
    have ebox0 := A0.out.1
    go_wp2
    go_ret2
    exact ⟨ret_ib (ansES_no HO.out).symm HO.out.symm, HB.out⟩
  · have HQ := hid hq
    clear hq
    have ebox0 := A0.out.1
    go_wp2_with fail
    clear ebox0
    refine (tgElement_any _ xs e _ (HV.out.below HB.out) hl).mono ?_
    rintro e w' ⟨rfl, hb⟩
    replace HB := hid (below_to HB.out hb)
    replace A0 := hid (A0.out.below hb)
    clear hb
    cases hk : (decide (0 ≤ e) && decide (e < (xs.length : Int)))
    · have HO := hid (okES_no2 (s := s) hk)
      clear hk
      have ebox0 := A0.out.1
      go_wp2
      go_ret2
      exact ⟨ret_ib (ansES_no HO.out).symm HO.out.symm, HB.out⟩
    · have HO := hid (okES_yes HQ.out hk)
      have hk2 : 0 ≤ e ∧ e < xs.length := by simpa using hk
      clear hk
      obtain ⟨z, rfl, h1, h2⟩ := okIdeal_idB HQ.out
      obtain ⟨n, rfl⟩ := Int.eq_ofNat_of_zero_le hk2.1
      have hn10 : n < 10 := by have := (good_length h1).2; omega
      have HG := hid h1
      have HI := hid h2
      have HAt := hid (orbXs_at h1 h2)
      have HLn := hid (orbXs_length h1 h2).2
      clear h1 h2 hk2
      have ebox0 := A0.out.1
      go_wp2_with fail
      clear ebox0
      refine (obOrbit_any _ xs z _ (HV.out.below HB.out) HG.out HI.out).mono ?_
      rintro e w' ⟨q, rfl, ho, hb⟩
      replace HB := hid (below_to HB.out hb)
      replace A0 := hid (A0.out.below hb)
      clear hb
      have hoi := ho.ints
      have HAns := hid (ansES_yes HO.out)
      obtain ⟨ls, hls⟩ : ∃ ls, orbXs xs z = ls := ⟨_, rfl⟩
      have hoi2 : Ints w' q (orbXs xs z) := hoi
      rw [hls] at hoi2 HAt HLn HAns
      obtain ⟨A, c, rfl, hA⟩ := hoi2
      have HA := hid hA
      have hl3 := HLn.out
      clear ho hoi hA hls
      go_wp2
      go_loop [8, 25] (fun q i => ∃ k t : Nat, k ≤ ls.length ∧ i = .int .i64 k ∧ q = .int .i64 t ∧ Hid (sumTo (bitN n) ls k = t) ∧ t ≤ k) (fun _ i => ls.length - (intOf i).toNat)
      case atStart => exact ⟨0, 0, Nat.zero_le _, rfl, rfl, hid rfl, Nat.le_refl _⟩
      case round =>
        obtain ⟨k, t, hk, rfl, rfl, HT, ht⟩ := hrel
        by_cases hlt : k < ls.length
        · obtain ⟨b, o, rfl, hbl, hc⟩ := HA.out (by intro h; simp [h] at hlt)
          have hcell := hc k hlt
          obtain ⟨s, hs, hD⟩ := HAt.out k hlt
          rw [hs] at hcell
          have HSt := hid (sumTo_succ (g := bitN n) hs)
          clear hc hs
          cases hbit : s.testBit n
          · have HBit := hid hbit
            have HN : Hid (bitN n s = 0) := hid (by rw [bitN_bit, hbit]; rfl)
            clear hbit
            go_wp2_with (go_at_call 73; refine (poIn_any s n (by omega) _).mono ?_; rw [HBit.out]; rintro e' w2 ⟨rfl, rfl⟩)
            go_round
            case rel => exact ⟨k + 1, t, by omega, by go_num, rfl, hid (by rw [HSt.out, HT.out, HN.out]; rfl), by omega⟩
            case measure => simp [intOf]; omega
          · have HBit := hid hbit
            have HN : Hid (bitN n s = 1) := hid (by rw [bitN_bit, hbit]; rfl)
            clear hbit
            go_wp2_with (go_at_call 73; refine (poIn_any s n (by omega) _).mono ?_; rw [HBit.out]; rintro e' w2 ⟨rfl, rfl⟩)
            go_round
            case rel => exact ⟨k + 1, t + 1, by omega, by go_num, by go_num, hid (by rw [HSt.out, HT.out, HN.out]), by omega⟩
            case measure => simp [intOf]; omega
        · obtain rfl : k = ls.length := by omega
          go_wp2
          go_ret2
          exact ⟨ret_ib (by rw [HAns.out, HT.out]) HO.out.symm, HB.out⟩
theorem countWith_any (u : Value) (ls : List Int) (n : Nat) (w : World) (hu : Ints w u ls) (hl : ls.length ≤ 1024) (hn : n < 10) (hp : ∀ j, j < ls.length → ∃ s : Nat, ls.getD j 0 = (s : Int) ∧ s < 1024) :
    Calls Try.prog 75 #[u, .int .i64 n] w fun r w' => r = .returned (.int .i64 (sumTo (bitN n) ls ls.length : Nat)) ∧ Below w.heap.size w w' := by
  have HU := hid hu
  have HP := hid hp
  clear hu hp
  go_enter Try.func75, Try.ntmps75
  have HB := hid (below_alloc (Below.refl _ w) (.cells #[(.int .i64 n)] 3))
  have A0 := hid (At.newAt w (.int .i64 n) 3 w.heap.size (by simp))
  go_wp2_with fail
  refine (sumOverWith_any u ls ⟨w.heap.size, 0, none⟩ (bitN n) (· < 1024) _ (HU.out.below HB.out) hl HP.out (bitN_le n) (fun s W hD hb => countWith1_any n s w.heap.size W (A0.out.below hb) hD hn)).mono ?_
  rintro e w' ⟨rfl, hb⟩
  replace HB := hid (below_to HB.out hb)
  replace A0 := hid (A0.out.below hb)
  clear hb
  have ebox0 := A0.out.1
  go_wp2
  go_ret
  exact ⟨rfl, HB.out⟩
set_option maxHeartbeats 800000 in
theorem implElementSum_any (v : Value) (xs : List Int) (s e : Int) (w : World) (hv : Ints w v xs) (hl : xs.length ≤ 1048576) (wf : (Lit.int .i64 s).wf = true) (wfe : (Lit.int .i64 e).wf = true) :
    Calls Try.prog 40 #[.agg #[v], .int .i64 s, .int .i64 e] w fun r w' => r = .returned (.tuple #[.int .i64 (ansES xs s e), .bool (okES xs s e)]) ∧ Below w.heap.size w w' := by
  have HV := hid hv
  have WF := hid wf
  clear hv wf wfe
  go_enter Try.func40, Try.ntmps40
  have HB := hid (below_alloc (Below.refl _ w) (.cells #[v] 28))
  have A0 := hid (At.newAt w v 28 w.heap.size (by simp))
  go_wp2_with fail
  refine (implOrbitOf_any _ xs s _ (HV.out.below HB.out) hl WF.out).mono ?_
  rintro e w' ⟨q, rfl, ho, hlen, hb⟩
  replace HB := hid (below_to HB.out hb)
  replace A0 := hid (A0.out.below hb)
  clear hb
  have HO1 := hid ho.ints
  clear ho hlen
  cases hq : okIdeal xs s
  · have HO := hid (okES_no1 (e := e) hq)
    clear hq
    have ebox0 := A0.out.1
    go_wp2
    go_ret2
    exact ⟨ret_ib (ansES_no HO.out).symm HO.out.symm, HB.out⟩
  · have HQ := hid hq
    clear hq
    have ebox0 := A0.out.1
    go_wp2_with fail
    clear ebox0
    refine (hasIndex_any _ xs e _ (HV.out.below HB.out) hl).mono ?_
    rintro e w' ⟨rfl, hb⟩
    replace HB := hid (below_to HB.out hb)
    replace A0 := hid (A0.out.below hb)
    replace HO1 := hid (HO1.out.below hb)
    clear hb
    cases hk : (decide (0 ≤ e) && decide (e < (xs.length : Int)))
    · have HO := hid (okES_no2 (s := s) hk)
      clear hk
      have ebox0 := A0.out.1
      go_wp2
      go_ret2
      exact ⟨ret_ib (ansES_no HO.out).symm HO.out.symm, HB.out⟩
    · have HO := hid (okES_yes HQ.out hk)
      have hk2 : 0 ≤ e ∧ e < xs.length := by simpa using hk
      clear hk
      obtain ⟨z, rfl, h1, h2⟩ := okIdeal_idB HQ.out
      obtain ⟨n, rfl⟩ := Int.eq_ofNat_of_zero_le hk2.1
      have hn10 : n < 10 := by have := (good_length h1).2; omega
      have HAt := hid (orbXs_at h1 h2)
      have HLn := hid (orbXs_length h1 h2).2
      have HO2 : Hid (Ints w' q (orbXs xs z)) := hid (by have := HO1.out; rw [ansOO_yes HQ.out] at this; exact this)
      have HAns := hid (ansES_yes HO.out)
      clear h1 h2 hk2
      have ebox0 := A0.out.1
      go_wp2_with fail
      clear ebox0
      refine (countWith_any q (orbXs xs z) n _ HO2.out HLn.out hn10 HAt.out).mono ?_
      rintro e w' ⟨rfl, hb⟩
      replace HB := hid (below_to HB.out hb)
      replace A0 := hid (A0.out.below hb)
      replace HO1 := hid (HO1.out.below hb)
      clear hb
      have ebox0 := A0.out.1
      go_wp2
      go_ret2
      exact ⟨ret_ib HAns.out.symm HO.out.symm, HB.out⟩
end Go.Proofs.Ytkcjppbplllaiaa
