/- Tableaux turned and evacuated in the model. -/
import Derived.Test.YtbbkoagjplapkaaClo
import Derived.Test.YtbbkoagjplapkaaTabL
import Derived.Test.YtbbkoagjplapkaaAddRow
namespace Go.Proofs.Ytbbkoagjplapkaa
open Go.RowKit Go.WideShapes Go.ChangeShapes
set_option linter.unusedVariables false

set_option maxRecDepth 100000 in
set_option maxHeartbeats 3200000 in
theorem specTurnTableau_any (v : Value) (ls : List (List Int)) (w : World) (hv : IntsSS w v ls) (hs : SSmall ls) :
    Calls Try.prog 36 #[v] w fun (r : Ending) w' => ∃ q, r = Ending.returned (.tuple #[q, .bool (tabB ls)]) ∧ OwnSS 3 27 w' w.heap.size w'.heap.size q (ansTU ls) ∧ SSmall (ansTU ls) ∧ Below w.heap.size w w' := by
  have HP := hid (shGood_any v ls w hv hs)
  have HV := hid hv
  have HL := hid (ansTU_small ls)
  clear hv hs
  go_enter Try.func36, Try.ntmps36
  go_wp2_with fail
  refine HP.out.mono ?_
  rintro e w' ⟨rfl, rfl⟩
  cases hq : tabB ls
  · have HQ := hid hq
    clear hq
    go_wp2
    go_ret2
    exact ⟨_, ret_vbT HQ.out.symm, by rw [ansTU_no HQ.out]; exact OwnSS.nil _ _ _ _ _, HL.out, Below.refl _ _⟩
  · have HQ := hid hq
    have hL := (tabB_all hq).1
    have HG := hid (GridR.of HV.out hL)
    have HT : Hid (turnL ls = rowsF (wid ls) fun c => rowL ls.length fun r => cel ls r c) := hid rfl
    have a1 := hL.a1
    have a2 := hL.a2
    have b1 := hL.b1
    have b2 := hL.b2
    obtain ⟨F, hF⟩ : ∃ F, cel ls = F := ⟨_, rfl⟩
    obtain ⟨b, hb⟩ : ∃ b, wid ls = b := ⟨_, rfl⟩
    obtain ⟨a, ha⟩ : ∃ a, ls.length = a := ⟨_, rfl⟩
    rw [hF, hb, ha] at HG HT
    rw [hb] at b1 b2
    rw [ha] at a1 a2
    obtain ⟨ab, ao, cv, rfl, hab, hrows⟩ := HG.out
    have HR := hid hrows
    obtain ⟨g0, o0, c0, hc0, -, -⟩ := hrows 0 (by omega)
    rw [Nat.add_zero] at hc0
    have hai : (0 : Int) < (a : Int) := by omega
    clear hq hL hF hb ha hrows
    go_wp2
    clear hc0 hai
    go_loopw [4, 15] (fun out i wr => ∃ c : Nat, c ≤ b ∧ i = .int .i64 c ∧ OwnSS 3 27 wr w.heap.size wr.heap.size out (rowsF c fun c => rowL a fun r => F r c) ∧ Below w.heap.size w wr) (fun _ i _ => b - (intOf i).toNat)
    case atStart => exact ⟨0, Nat.zero_le _, rfl, OwnSS.nil _ _ _ _ _, Below.refl _ _⟩
    case round =>
      obtain ⟨c, hc, rfl, ho, hb⟩ := hrel
      have HO := hid ho
      have Hb := hid hb
      obtain ⟨oA, oc, rfl, -⟩ := ho.rows
      rw [rowsF_length] at HO ⊢
      have hz := hb.size
      clear ho hb
      obtain ⟨W1, rfl⟩ : ∃ x, x = wr := ⟨wr, rfl⟩
      have HRS := hid (rowsF_succ c (fun c => rowL a fun r => F r c))
      by_cases hlt : c < b
      · go_wp2
        go_loopw [6, 20] (fun row i wi => ∃ r : Nat, r ≤ a ∧ i = .int .i64 r ∧ OwnI 3 wi W1.heap.size row (rowL r fun r => F r c) ∧ Below W1.heap.size W1 wi) (fun _ i _ => a - (intOf i).toNat)
        case atStart => exact ⟨0, Nat.zero_le _, rfl, OwnI.nil _ _ _, Below.refl _ _⟩
        case round =>
          obtain ⟨r, hr, rfl, ho, hb⟩ := hrel
          have HOr := hid ho
          have Hb2 := hid hb
          obtain ⟨qA, qc, rfl, -⟩ := ho.shape
          rw [rowL_length] at HOr ⊢
          have hz2 := hb.size
          clear ho hb
          by_cases hlr : r < a
          · obtain ⟨g, o, c', hc1, hgl, hc2⟩ := HR.out r hlr
            have HB3 := hid (below_to Hb.out Hb2.out)
            have t1 := (HB3.out.cell (p := ⟨ab, ao + r, none⟩) hab).trans hc1
            have t2 := (HB3.out.cell (p := ⟨g, o + c, none⟩) hgl).trans (hc2 c hlt)
            have HRL := hid (rowL_succ r (fun r => F r c))
            obtain ⟨x, hx⟩ : ∃ x, F r c = x := ⟨_, rfl⟩
            rw [hx] at t2 HRL
            clear hc1 hc2 hx
            go_wp2_with (at_builtin; refine wpList_append_int rfl _ _ 27 3 rfl Try.underlying27 Try.info3 W1.heap.size _ (rowL r fun r => F r c) x rfl HOr.out rfl rfl (by rw [rowL_length]; omega) hz2 ?_; intro v3 w3 ho3 hb3)
            go_roundw
            case rel => exact ⟨r + 1, by omega, by go_num, by rw [HRL.out]; exact ho3, Hb2.out.trans hb3⟩
            case measure => simp [intOf]; omega
          · have Hr := hid (show r = a by omega)
            have hlr' : ¬ (r : Int) < (a : Int) := by omega
            have HO2 := hid (HO.out.below Hb2.out)
            have HOr2 : Hid (OwnI 3 wr w.heap.size (.slice qA r qc) (rowL a fun r => F r c)) := hid (by have h := HOr.out; rw [Hr.out] at h ⊢; exact h.mono hz)
            have HOb := hid (fun k (hk : (Value.slice qA r qc).ownBlock = some k) => (HOr.out.blockLt k hk).1)
            clear hlr
            go_wp2_with (at_builtin; refine wpList_append_row rfl _ _ 22 27 3 rfl Try.underlying22 Try.info27 (by decide) w.heap.size W1.heap.size _ _ (rowsF c fun c => rowL a fun r => F r c) (rowL a fun r => F r c) rfl HO2.out HOr2.out HOb.out rfl rfl (by rw [rowsF_length]; omega) (by omega) hz2 ?_; intro u5 w5 ho5 hb5)
            go_roundw
            case rel => exact ⟨c + 1, by omega, by go_num, by rw [HRS.out]; exact ho5, (below_to Hb.out Hb2.out).trans hb5⟩
            case measure => simp [intOf]; omega
      · have Hc := hid (show c = b by omega)
        have hlt' : ¬ (c : Int) < (b : Int) := by omega
        clear hlt
        go_wp2
        go_ret2
        exact ⟨_, ret_vbT HQ.out.symm, by rw [ansTU_yes HQ.out, HT.out, ← Hc.out]; exact HO.out, HL.out, Hb.out⟩
end Go.Proofs.Ytbbkoagjplapkaa
