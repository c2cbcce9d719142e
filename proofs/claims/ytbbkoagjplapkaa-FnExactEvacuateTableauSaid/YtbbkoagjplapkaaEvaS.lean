/- Tableaux evacuated in the model. -/
import Derived.Test.YtbbkoagjplapkaaClo
import Derived.Test.YtbbkoagjplapkaaTabL
import Derived.Test.YtbbkoagjplapkaaAddRow
namespace Go.Proofs.Ytbbkoagjplapkaa
open Go.RowKit Go.WideShapes Go.ChangeShapes
set_option linter.unusedVariables false

set_option maxRecDepth 100000 in
set_option maxHeartbeats 3200000 in
theorem shHalf_any (v : Value) (ls : List (List Int)) (w : World) (hv : IntsSS w v ls) (ht : tabB ls = true) :
    Calls Try.prog 69 #[v] w fun (r : Ending) w' => ∃ q, r = Ending.returned q ∧ OwnSS 3 27 w' w.heap.size w'.heap.size q (evaT ls) ∧ Below w.heap.size w w' := by
  have hL := (tabB_all ht).1
  have HG := hid (GridR.of hv hL)
  have HRng := hid (fun r c hr hc => cel_rng ht (r := r) (c := c) hr hc)
  have HT : Hid (evaT ls = rowsF ls.length fun r => rowL (wid ls) fun c => ((ls.length * wid ls : Nat) : Int) - 1 - cel ls (ls.length - 1 - r) (wid ls - 1 - c)) := hid rfl
  have a1 := hL.a1
  have a2 := hL.a2
  have b1 := hL.b1
  have b2 := hL.b2
  have hn10 := hL.n
  obtain ⟨F, hF⟩ : ∃ F, cel ls = F := ⟨_, rfl⟩
  obtain ⟨b, hb⟩ : ∃ b, wid ls = b := ⟨_, rfl⟩
  obtain ⟨a, ha⟩ : ∃ a, ls.length = a := ⟨_, rfl⟩
  rw [hF, hb, ha] at HG HT HRng
  rw [hb] at b1 b2 hn10
  rw [ha] at a1 a2 hn10
  obtain ⟨n, hn⟩ : ∃ n, a * b = n := ⟨_, rfl⟩
  rw [hn] at HT HRng hn10
  have HE1 : Hid ((a : Int) * (b : Int) = (n : Int)) := hid (by rw [← Int.natCast_mul, hn])
  obtain ⟨ab, ao, cv, rfl, hab, hrows⟩ := HG.out
  have HR := hid hrows
  obtain ⟨g0, o0, c0, hc0, -, -⟩ := hrows 0 (by omega)
  rw [Nat.add_zero] at hc0
  have hai : (0 : Int) < (a : Int) := by omega
  clear hL hF hb ha hn hrows hv ht
  go_enter Try.func69, Try.ntmps69
  go_wp2
  go_quiet (fail)
  go_wp2
  clear hc0 hai
  obtain ⟨W0, hW0⟩ : ∃ W0 : World, W0 = w.drewN nq := ⟨_, rfl⟩
  rw [← hW0]
  have HB0 : Hid (Below w.heap.size w W0) := hid (by rw [hW0]; exact below_drewN (Below.refl _ _) _)
  clear hW0
  go_loopw [5, 6] (fun out i wr => ∃ s : Nat, s ≤ a ∧ i = .int .i64 ((s : Int) - 1) ∧ OwnSS 3 27 wr w.heap.size wr.heap.size out (rowsF (a - s) fun r => rowL b fun c => (n : Int) - 1 - F (a - 1 - r) (b - 1 - c)) ∧ Below w.heap.size w wr) (fun _ i _ => (intOf i + 1).toNat)
  case atStart => exact ⟨a, Nat.le_refl _, rfl, by rw [Nat.sub_self]; exact OwnSS.nil _ _ _ _ _, HB0.out⟩
  case round =>
    obtain ⟨s, hs, rfl, ho, hb⟩ := hrel
    have HO := hid ho
    have Hb := hid hb
    obtain ⟨oA, oc, rfl, -⟩ := ho.rows
    rw [rowsF_length] at HO ⊢
    have hz := hb.size
    clear ho hb
    obtain ⟨W1, rfl⟩ : ∃ x, x = wr := ⟨wr, rfl⟩
    by_cases h0 : s = 0
    · subst h0
      have hz0 : ((0 : Nat) : Int) - 1 = -1 := rfl
      rw [hz0]
      rw [Nat.sub_zero] at HO ⊢
      go_wp2
      go_ret
      exact ⟨_, rfl, by rw [HT.out]; exact HO.out, Hb.out⟩
    · obtain ⟨r, rfl⟩ : ∃ r, s = r + 1 := ⟨s - 1, by omega⟩
      have hr1 : ((r + 1 : Nat) : Int) - 1 = (r : Int) := by omega
      rw [hr1]
      obtain ⟨k, hk⟩ : ∃ k, a - (r + 1) = k := ⟨_, rfl⟩
      have hk2 : a - r = k + 1 := by omega
      have hk3 : a - 1 - k = r := by omega
      rw [hk] at HO ⊢
      have HK2 := hid hk2
      have HK3 := hid hk3
      have HRS := hid (rowsF_succ k (fun r => rowL b fun c => (n : Int) - 1 - F (a - 1 - r) (b - 1 - c)))
      rw [hk3] at HRS
      have hra : r < a := by omega
      have hka : k < a := by omega
      have hr0 : (0 : Int) ≤ (r : Int) := by omega
      clear hr1 hk hk2 hk3 h0 hs
      go_wp2
      go_loopw [7, 8] (fun row i wi => ∃ t : Nat, t ≤ b ∧ i = .int .i64 ((t : Int) - 1) ∧ OwnI 3 wi W1.heap.size row (rowL (b - t) fun c => (n : Int) - 1 - F r (b - 1 - c)) ∧ Below W1.heap.size W1 wi) (fun _ i _ => (intOf i + 1).toNat)
      case atStart => exact ⟨b, Nat.le_refl _, rfl, by rw [Nat.sub_self]; exact OwnI.nil _ _ _, Below.refl _ _⟩
      case round =>
        obtain ⟨t, ht, rfl, ho, hb⟩ := hrel
        have HOr := hid ho
        have Hb2 := hid hb
        obtain ⟨qA, qc, rfl, -⟩ := ho.shape
        rw [rowL_length] at HOr ⊢
        have hz2 := hb.size
        clear ho hb
        by_cases h0 : t = 0
        · subst h0
          have hz0 : ((0 : Nat) : Int) - 1 = -1 := rfl
          rw [hz0]
          rw [Nat.sub_zero] at HOr ⊢
          have HO2 := hid (HO.out.below Hb2.out)
          have HOr2 : Hid (OwnI 3 wr w.heap.size (.slice qA b qc) (rowL b fun c => (n : Int) - 1 - F r (b - 1 - c))) := hid (HOr.out.mono hz)
          have HOb := hid (fun k (hk : (Value.slice qA b qc).ownBlock = some k) => (HOr.out.blockLt k hk).1)
          go_wp2_with (at_builtin; refine wpList_append_row rfl _ _ 22 27 3 rfl Try.underlying22 Try.info27 (by decide) w.heap.size W1.heap.size _ _ (rowsF k fun r => rowL b fun c => (n : Int) - 1 - F (a - 1 - r) (b - 1 - c)) (rowL b fun c => (n : Int) - 1 - F r (b - 1 - c)) rfl HO2.out HOr2.out HOb.out rfl rfl (by rw [rowsF_length]; omega) (by omega) hz2 ?_; intro u5 w5 ho5 hb5)
          go_roundw
          case rel => exact ⟨r, by omega, by go_num, by rw [HK2.out, HRS.out]; exact ho5, (below_to Hb.out Hb2.out).trans hb5⟩
          case measure => simp [intOf]
        · obtain ⟨c, rfl⟩ : ∃ c, t = c + 1 := ⟨t - 1, by omega⟩
          have hc1 : ((c + 1 : Nat) : Int) - 1 = (c : Int) := by omega
          rw [hc1]
          obtain ⟨j, hj⟩ : ∃ j, b - (c + 1) = j := ⟨_, rfl⟩
          have hj2 : b - c = j + 1 := by omega
          have hj3 : b - 1 - j = c := by omega
          rw [hj] at HOr ⊢
          have HJ2 := hid hj2
          have HRL := hid (rowL_succ j (fun c => (n : Int) - 1 - F r (b - 1 - c)))
          rw [hj3] at HRL
          have hcb : c < b := by omega
          have hjb : j < b := by omega
          have hcz : (0 : Int) ≤ (c : Int) := by omega
          obtain ⟨g, o, c', hc2, hgl, hc3⟩ := HR.out r hra
          have HB3 := hid (below_to Hb.out Hb2.out)
          have t1 := (HB3.out.cell (p := ⟨ab, ao + r, none⟩) hab).trans hc2
          have t2 := (HB3.out.cell (p := ⟨g, o + c, none⟩) hgl).trans (hc3 c hcb)
          have hf := HRng.out r c hra hcb
          have e1 := HE1.out
          obtain ⟨x, hx⟩ : ∃ x, F r c = x := ⟨_, rfl⟩
          rw [hx] at t2 HRL hf
          have HNZ : Hid (wrap64 ((n : Int) - 1 - x) = (n : Int) - 1 - x ∧ wrap64 ((n : Int) - 1) = (n : Int) - 1 ∧ wrap64 (n : Int) = (n : Int)) := hid (by unfold wrap64; omega)
          clear hc2 hc3 hx hc1 hj hj2 hj3 h0 ht
          go_wp2_with (at_builtin; refine wpList_append_int rfl _ _ 27 3 rfl Try.underlying27 Try.info3 W1.heap.size _ (rowL j fun c => (n : Int) - 1 - F r (b - 1 - c)) ((n : Int) - 1 - x) rfl HOr.out rfl rfl (by rw [rowL_length]; omega) hz2 ?_; intro v3 w3 ho3 hb3)
          go_roundw
          case rel => exact ⟨c, by omega, by go_num, by rw [HJ2.out, HRL.out]; exact ho3, Hb2.out.trans hb3⟩
          case measure => simp [intOf]
theorem specEvacuateTableau_any (v : Value) (ls : List (List Int)) (w : World) (hv : IntsSS w v ls) (hs : SSmall ls) :
    Calls Try.prog 34 #[v] w fun (r : Ending) w' => ∃ q, r = Ending.returned (.tuple #[q, .bool (tabB ls)]) ∧ OwnSS 3 27 w' w.heap.size w'.heap.size q (ansEV ls) ∧ SSmall (ansEV ls) ∧ Below w.heap.size w w' := by
  have HP := hid (shGood_any v ls w hv hs)
  have HV := hid hv
  have HL := hid (ansEV_small ls)
  clear hv hs
  go_enter Try.func34, Try.ntmps34
  go_wp2_with fail
  refine HP.out.mono ?_
  rintro e w' ⟨rfl, rfl⟩
  cases hq : tabB ls
  · have HQ := hid hq
    clear hq
    go_wp2
    go_ret2
    exact ⟨_, ret_vbT HQ.out.symm, by rw [ansEV_no HQ.out]; exact OwnSS.nil _ _ _ _ _, HL.out, Below.refl _ _⟩
  · have HQ := hid hq
    clear hq
    go_wp2_with fail
    refine (shHalf_any v ls _ HV.out HQ.out).mono ?_
    rintro e w' ⟨q, rfl, ho, hb⟩
    obtain ⟨qA, qn, qc, rfl⟩ := ho.shape3
    have HO := hid ho
    have HB := hid hb
    clear ho hb
    go_wp2
    go_ret2
    exact ⟨_, ret_vbT HQ.out.symm, by rw [ansEV_yes HQ.out]; exact HO.out, HL.out, HB.out⟩
end Go.Proofs.Ytbbkoagjplapkaa
