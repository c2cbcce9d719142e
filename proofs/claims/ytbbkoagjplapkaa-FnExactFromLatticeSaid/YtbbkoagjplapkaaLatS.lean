/- Lattice words read by the model. -/
import Derived.Test.YtbbkoagjplapkaaLatI
import Derived.Test.YtbbkoagjplapkaaTabL
namespace Go.Proofs.Ytbbkoagjplapkaa
open Go.RowKit Go.WideShapes Go.ChangeShapes
set_option linter.unusedVariables false

set_option maxRecDepth 100000 in
set_option maxHeartbeats 3200000 in
theorem specFromLattice_any (u : Value) (ws : List Int) (w : World) (hu : Ints w u ws) (hm : ws.length ≤ 1048576) :
    Calls Try.prog 46 #[u] w fun (r : Ending) w' => ∃ q, r = Ending.returned (.tuple #[q, .bool (okFL ws)]) ∧ OwnSS 3 27 w' w.heap.size w'.heap.size q (ansFL ws) ∧ SSmall (ansFL ws) ∧ Below w.heap.size w w' := by
  have HL := hid (ansFL_small ws)
  have HU := hid hu
  obtain ⟨uA, uc, rfl, hA⟩ := hu
  have HA := hid hA
  clear hA
  cases hs : (decide (1 ≤ (ws.length : Int)) && decide ((ws.length : Int) ≤ 10))
  · have HO := hid (okFL_no1 hs)
    have HS := hid hs
    clear hs
    go_enter Try.func46, Try.ntmps46
    go_wp2_with (go_at_call 61; refine (l1In_any _ _ _ _).mono ?_; rw [HS.out]; rintro e w' ⟨rfl, rfl⟩)
    go_ret2
    exact ⟨_, ret_vbT HO.out.symm, by rw [ansFL_no HO.out]; exact OwnSS.nil _ _ _ _ _, HL.out, Below.refl _ _⟩
  · have HS := hid hs
    have hs2 : 1 ≤ ws.length ∧ ws.length ≤ 10 := by simp only [Bool.and_eq_true, decide_eq_true_eq] at hs; omega
    obtain ⟨hs3, hs4⟩ := hs2
    have HAl := hid (l1All_same _ ws ws.length w HU.out hm hm)
    have HNo := hid (fun h => okFL_no2 (ws := ws) h)
    have HNo3 := hid (fun h => okFL_no3 (ws := ws) h)
    have HYes := hid (fun h k => okFL_yes (ws := ws) hs h k)
    have HMl := hid (fun (h : inW ws.length ws = true) k (hk : k ≤ ws.length) => mstW_lt (ws := ws) (n := ws.length) (k := k) hs3 (fun i hi => (inW_at h (by omega)).2))
    have HLt : Hid (latL ws = rowsF ((mstW ws ws.length).toNat + 1) (rowW ws ws.length)) := hid rfl
    have HIn := hid (fun (h : inW ws.length ws = true) j hj => inW_at h (j := j) hj)
    have HGe := hid (fun i hi => mstW_ge (ws := ws) (k := ws.length) (i := i) hi)
    obtain ⟨n, hn⟩ : ∃ n, ws.length = n := ⟨_, rfl⟩
    rw [hn] at HA HS HAl HNo HYes HMl HLt HIn HGe hs3 hs4 HU hm ⊢
    have HN := hid hn
    clear hs hn
    cases hq : inW n ws
    · have HO := hid (HNo.out hq)
      rw [hq] at HAl
      clear hq
      go_enter Try.func46, Try.ntmps46
      go_wp2_with fail
      refine (l1In_any _ _ _ _).mono ?_
      rw [HS.out]
      rintro e w' ⟨rfl, rfl⟩
      go_wp2_with fail
      refine HAl.out.mono ?_
      rintro e w' ⟨rfl, rfl⟩
      go_wp2
      go_ret2
      exact ⟨_, ret_vbT HO.out.symm, by rw [ansFL_no HO.out]; exact OwnSS.nil _ _ _ _ _, HL.out, Below.refl _ _⟩
    · have HQ := hid hq
      rw [hq] at HAl
      clear hq
      go_enter Try.func46, Try.ntmps46
      go_wp2_with fail
      refine (l1In_any _ _ _ _).mono ?_
      rw [HS.out]
      rintro e w' ⟨rfl, rfl⟩
      go_wp2_with fail
      refine HAl.out.mono ?_
      rintro e w' ⟨rfl, rfl⟩
      go_wp2
      go_loop [4, 24] (fun q i => ∃ k : Nat, k ≤ n ∧ i = .int .i64 k ∧ q = .int .i64 (mstW ws k)) (fun _ i => n - (intOf i).toNat)
      case atStart => exact ⟨0, Nat.zero_le _, rfl, rfl⟩
      case round =>
        obtain ⟨k, hk, rfl, rfl⟩ := hrel
        by_cases hlt : k < n
        · obtain ⟨b, o, rfl, hbl, hc⟩ := HA.out (by intro h; have := HN.out; rw [h] at this; simp at this; omega)
          have hcell := hc k hlt
          have HM : Hid (mstW ws (k + 1) = max (mstW ws k) (ws.getD k 0)) := hid rfl
          obtain ⟨x, hx⟩ : ∃ x, ws.getD k 0 = x := ⟨_, rfl⟩
          obtain ⟨y, hy⟩ : ∃ y, mstW ws k = y := ⟨_, rfl⟩
          rw [hx] at hcell HM
          rw [hy] at HM
          rw [hy]
          clear hc hx hy
          go_wp2_with fail
          clear hcell
          refine (l1Most_any y x _).mono ?_
          rintro e w' ⟨rfl, rfl⟩
          rw [← HM.out]
          go_wp2
          go_round
          case rel => exact ⟨k + 1, by omega, by go_num, rfl⟩
          case measure => simp [intOf]; omega
        · have Hk := hid (show k = n by omega)
          have hlt' : ¬ (k : Int) < (n : Int) := by omega
          have hml := HMl.out HQ.out n (Nat.le_refl _)
          have hmn := mstW_nonneg ws n
          have HGe2 := hid (fun i (hi : i < n) => HGe.out i hi)
          rw [Hk.out]
          obtain ⟨m, hmm⟩ := Int.eq_ofNat_of_zero_le hmn
          rw [hmm] at hml HLt HGe2 ⊢
          rw [Int.toNat_natCast] at HLt
          obtain ⟨M, hM⟩ : ∃ M, m + 1 = M := ⟨_, rfl⟩
          have hMi : (m : Int) + 1 = (M : Int) := by omega
          rw [hM] at HLt
          have hM10 : M ≤ 10 := by omega
          have HMm := hid hM
          have hmk := run_make_row' (P := Try.prog) 22 27 (.slice none 0 0) 24 Try.underlying22 Try.info27 rfl .i64 .i64 M (by omega) (by omega)
          have HMd := hid (OwnSS.made (P := Try.prog) 3 27 w (rowsF M (fun _ => [])) (by rw [rowsF_length]; omega))
          rw [rowsF_length] at HMd
          clear hlt hmn hmm hM
          go_wp2
          clear hmk hMi
          go_loopw [37] (fun i wr => ∃ k : Nat, k ≤ n ∧ i = .int .i64 k ∧ OwnSS 3 27 wr w.heap.size wr.heap.size (.slice (some ⟨w.heap.size, 0, none⟩) M M) (rowsF M (rowW ws k)) ∧ Below w.heap.size w wr ∧ w.heap.size < wr.heap.size) (fun i _ => n - (intOf i).toNat)
          case atStart => exact ⟨0, Nat.zero_le _, rfl, (by
            have h := HMd.out
            have e : fillSS (rowsF M (fun _ => [])) 0 = rowsF M (rowW ws 0) := by
              unfold fillSS
              rw [rowsF_length]
              exact rowsF_congr fun i _ => by rw [if_neg (Nat.not_lt_zero i)]; rfl
            rw [e] at h
            exact h.mono (by simp)), below_alloc (Below.refl _ _) _, by simp⟩
          case round =>
            obtain ⟨k, hk, rfl, ho, hb, hz⟩ := hrel
            have HO := hid ho
            have Hb := hid hb
            clear ho hb
            by_cases hlt : k < n
            · obtain ⟨b, o, rfl, hbl, hc⟩ := HA.out (by intro h; have := HN.out; rw [h] at this; simp at this; omega)
              have hcell := (Hb.out.cell (p := ⟨b, o + k, none⟩) hbl).trans (hc k hlt)
              have hge := HGe2.out k hlt
              have hin := HIn.out HQ.out k hlt
              have HStp := hid (fun (L r : Nat) hr h => rowW_step (ws := ws) (L := L) (k := k) (r := r) hr h)
              obtain ⟨x, hx⟩ : ∃ x, ws.getD k 0 = x := ⟨_, rfl⟩
              rw [hx] at hcell HStp hge hin
              obtain ⟨r, rfl⟩ := Int.eq_ofNat_of_zero_le hin.1
              have hrM : r < M := by have := HMm.out; omega
              have hri : (r : Int) < (M : Int) := by omega
              have HSt := hid (HStp.out M r hrM rfl)
              obtain ⟨q5, cv5, uA5, un5, uc5, hsh, hc5⟩ := HO.out.header hrM
              injection hsh with hsh hsh2 hsh3
              injection hsh with hsh
              injection hsh with hsh hsh4 hsh5
              subst hsh
              have HC5 := hid hc5
              clear hc hx hsh2 hsh3 hge hin
              go_wp2_with (at_builtin; refine wpList_append_at rfl _ _ 27 27 3 rfl Try.underlying27 Try.info3 (by decide) w.heap.size wr.heap.size w.heap.size _ M r _ (k : Int) _ HO.out (by rw [rowsF_length]; omega) HC5.out rfl rfl rfl (by rw [rowsF_getD (by omega)]; have := rowW_length ws k r; omega) (by omega) (by omega) ?_; intro g cap w6 hc6 hf6 hb6 hBq ho6)
              rw [HSt.out] at ho6
              have HO6 := hid ho6
              have HB6 := hid ((Hb.out.trans hb6).setCell (p := ⟨w.heap.size, r, none⟩) (Nat.le_refl _))
              have hz6 := hb6.size
              clear ho6 hb6
              go_wp2
              go_roundw
              case rel => exact ⟨k + 1, by omega, by go_num, HO6.out.mono (by simp [World.setCell]), HB6.out _, by simp [World.setCell]; omega⟩
              case measure => simp [intOf]; omega
            · have Hk := hid (show k = n by omega)
              have hlt' : ¬ (k : Int) < (n : Int) := by omega
              have HSm : Hid (SSmall (latL ws)) := hid (by rw [HLt.out]; exact rowsF_small (by omega) (fun r _ => by have := rowW_length ws n r; omega))
              have HOl : Hid (OwnSS 3 27 wr w.heap.size wr.heap.size (.slice (some ⟨w.heap.size, 0, none⟩) M M) (latL ws)) := hid (by have h := HO.out; rw [Hk.out, ← HLt.out] at h; exact h)
              have HGd := hid (shGood_any _ (latL ws) wr HOl.out.ints HSm.out)
              clear hlt HO
              cases hq : tabB (latL ws)
              · have HNO := hid (HNo3.out hq)
                rw [hq] at HGd
                clear hq
                go_wp2_with fail
                refine HGd.out.mono ?_
                rintro e w2 ⟨rfl, rfl⟩
                go_wp2
                go_ret2
                exact ⟨_, ret_vbT HNO.out.symm, by rw [ansFL_no HNO.out]; exact OwnSS.nil _ _ _ _ _, HL.out, Hb.out⟩
              · have HYO := hid (HYes.out HQ.out hq)
                rw [hq] at HGd
                clear hq
                go_wp2_with fail
                refine HGd.out.mono ?_
                rintro e w2 ⟨rfl, rfl⟩
                go_wp2
                go_ret2
                exact ⟨_, ret_vbT HYO.out.symm, by rw [ansFL_yes HYO.out]; exact HOl.out, HL.out, Hb.out⟩
end Go.Proofs.Ytbbkoagjplapkaa
