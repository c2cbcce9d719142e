/- Ranks in the program: ranks, and the elements of words of ranks. -/
import Derived.Test.YtkalpichninncabRvS
import Derived.Test.YtkalpichninncabRvW
import Derived.Test.YtkalpichninncabRev
namespace Go.Proofs.Ytkalpichninncab
open Go.RowKit Go.WideShapes Go.ChangeShapes
set_option linter.unusedVariables false

theorem sliceMax_any (u : Value) (ls : List Int) (w : World) (hu : Ints w u ls) (h0 : 1 ≤ ls.length) (h10 : ls.length ≤ 10) (hn : ∀ e, ls.getD e 0 = ((ls.getD e 0).toNat : Int) ∧ (ls.getD e 0).toNat ≤ e) :
    Calls Try.prog 60 #[u] w fun r w' => ∃ h : Nat, r = .returned (.int .i64 h) ∧ h + 1 = rkM ls ls.length ∧ h ≤ 9 ∧ w = w' := by
  have HN := hid hn
  have HML := hid (fun k => rkM_le (fun e => (hn e).2) k)
  obtain ⟨A, c, rfl, hA⟩ := hu
  obtain ⟨b, o, rfl, hbl, hc⟩ := hA (by intro h; simp [h] at h0)
  have HC := hid hc
  have hc0 : w.cell? ⟨b, o, none⟩ = some (.int .i64 (ls.getD 0 0)) := by have := hc 0 (by omega); simpa using this
  obtain ⟨hn0, hn1⟩ := hn 0
  obtain ⟨x, hx⟩ : ∃ x, (ls.getD 0 0).toNat = x := ⟨_, rfl⟩
  rw [hx] at hn0 hn1
  rw [hn0] at hc0
  have HX := hid hx
  clear hn hA hc hn0 hx
  go_enter Try.func60, Try.ntmps60
  go_wp2
  go_loop [3, 4] (fun q i => ∃ k m : Nat, 1 ≤ k ∧ k ≤ ls.length ∧ i = .int .i64 k ∧ q = .int .i64 m ∧ Hid (m + 1 = rkM ls k)) (fun _ i => ls.length - (intOf i).toNat)
  case atStart => exact ⟨1, x, Nat.le_refl _, h0, rfl, rfl, hid (by show x + 1 = max (rkM ls 0) ((ls.getD 0 0).toNat + 1); rw [HX.out]; show _ = max 0 (x + 1); omega)⟩
  case round =>
    obtain ⟨k, m, hk1, hk, rfl, rfl, HM⟩ := hrel
    by_cases hlt : k < ls.length
    · have hcell := HC.out k hlt
      obtain ⟨hn1, hn2⟩ := HN.out k
      have HMd : Hid (rkM ls (k + 1) = max (rkM ls k) ((ls.getD k 0).toNat + 1)) := hid rfl
      obtain ⟨y, hy⟩ : ∃ y, (ls.getD k 0).toNat = y := ⟨_, rfl⟩
      rw [hy] at hn1 hn2 HMd
      rw [hn1] at hcell
      clear hy hn1
      by_cases hmy : (m : Int) < (y : Int)
      · have HNx : Hid (y + 1 = rkM ls (k + 1)) := hid (by rw [HMd.out, ← HM.out]; omega)
        go_wp2
        go_round
        case rel => exact ⟨k + 1, y, by omega, by omega, by go_num, by simp [hmy], HNx⟩
        case measure => simp [intOf]; omega
      · have HNx : Hid (m + 1 = rkM ls (k + 1)) := hid (by rw [HMd.out, ← HM.out]; omega)
        go_wp2
        go_round
        case rel => exact ⟨k + 1, m, by omega, by omega, by go_num, by simp [hmy], HNx⟩
        case measure => simp [intOf]; omega
    · obtain rfl : k = ls.length := by omega
      have hb := HML.out ls.length
      have he := HM.out
      have h9 : m ≤ 9 := by omega
      clear hb he
      go_wp2
      go_ret
      exact ⟨m, rfl, HM.out, h9, rfl⟩
def ansRO (xs : List Int) : List Int := if okRk xs then rankL xs else []
theorem ansRO_no {xs : List Int} (h : okRk xs = false) : ansRO xs = [] := by simp [ansRO, h]
theorem ansRO_yes {xs : List Int} (h : okRk xs = true) : ansRO xs = rankL xs := by simp [ansRO, h]
theorem ansRO_length (xs : List Int) : (ansRO xs).length ≤ 10 := by
  cases h : okRk xs
  · rw [ansRO_no h]; simp
  · have h1 := rkN_bounds (okRk_good h).1
    have h2 := good_length (okRk_good h).1
    rw [ansRO_yes h, rankL_length]; omega
theorem ret_vbR {u : Value} {a b : Bool} (h : a = b) : Ending.returned (.tuple #[u, .bool a]) = .returned (.tuple #[u, .bool b]) := by rw [h]
set_option maxHeartbeats 1600000 in
theorem implRanksOf_any (v : Value) (xs : List Int) (w : World) (hv : Ints w v xs) (hl : xs.length ≤ 1048576) :
    Calls Try.prog 32 #[.agg #[v]] w fun (r : Ending) w' => ∃ q, r = Ending.returned (.tuple #[q, .bool (okRk xs)]) ∧ OwnI 3 w' w.heap.size q (ansRO xs) ∧ (ansRO xs).length ≤ 1048576 ∧ Below w.heap.size w w' := by
  have HV := hid hv
  have HL : Hid ((ansRO xs).length ≤ 1048576) := hid (by have := ansRO_length xs; omega)
  clear hv
  go_enter Try.func32, Try.ntmps32
  have HB := hid (below_alloc (Below.refl _ w) (.cells #[v] 28))
  have A0 := hid (At.newAt w v 28 w.heap.size (by simp))
  go_wp2_with fail
  refine (implIsRanked_any _ xs _ (HV.out.below HB.out) hl).mono ?_
  rintro e w' ⟨rfl, hb⟩
  replace HB := hid (below_to HB.out hb)
  replace A0 := hid (A0.out.below hb)
  clear hb
  have HAn : Hid (ansIR xs = okRk xs) := hid rfl
  rw [HAn.out]
  cases hq : okRk xs
  · have HQ := hid hq
    clear hq
    have ebox0 := A0.out.1
    go_wp2
    go_ret2
    exact ⟨_, ret_vbR HQ.out.symm, by rw [ansRO_no HQ.out]; exact OwnI.nil _ _ _, HL.out, HB.out⟩
  · have HQ := hid hq
    have HG := hid (okRk_good hq).1
    have hln := good_length HG.out
    clear hq
    have ebox0 := A0.out.1
    go_wp2_with fail
    clear ebox0
    refine (implHeightsOf_any _ xs _ (HV.out.below HB.out) hl).mono ?_
    rintro e w' ⟨u, rfl, ho, hlh, hb⟩
    replace HB := hid (below_to HB.out hb)
    replace A0 := hid (A0.out.below hb)
    clear hb
    have hz := HB.out.size
    have HI := hid ho.ints
    have hlen := heights_len HG.out
    have HN := hid (heights_nat HG.out)
    have HEnd : Hid (rankL xs = rkS (heightsL xs) xs.length (rkM (heightsL xs) xs.length)) := hid rfl
    obtain ⟨ls, hls⟩ : ∃ ls, heightsL xs = ls := ⟨_, rfl⟩
    rw [hls] at HI HN HEnd hlen
    obtain ⟨A, c, rfl, hA⟩ := HI.out
    have HA := hid hA
    rw [← hlen] at HEnd hln
    clear ho hA hls hlen hlh
    rw [HG.out]
    go_wp2_with fail
    refine (sliceMax_any _ ls _ HI.out hln.1 hln.2 HN.out).mono ?_
    rintro e w2 ⟨h, rfl, hM, h9, rfl⟩
    have HM := hid hM
    have hmk := run_make_row' (P := Try.prog) 22 3 (.int .i64 0) 8 Try.underlying22 Try.info3 rfl .i64 .i64 (h + 1) (by omega) (by omega)
    rw [Int.natCast_add] at hmk
    simp only [Int.cast_ofNat_Int] at hmk
    clear hM HI
    go_wp2
    clear hmk
    rw [Vals_made]
    go_loopw [29] (fun i wr => ∃ k : Nat, k ≤ ls.length ∧ i = .int .i64 k ∧ Blk wr w'.heap.size 3 (Vals (rkS ls k (h + 1))) ∧ Below w'.heap.size w' wr) (fun i _ => ls.length - (intOf i).toNat)
    case atStart => exact ⟨0, Nat.zero_le _, rfl, by rw [rkS_zero]; exact Blk.new _ _ _, (Below.refl _ _).alloc (Nat.le_refl _) _⟩
    case round =>
      obtain ⟨k, hk, rfl, hB, hb⟩ := hrel
      have HBk := hid hB
      have HBb := hid hb
      by_cases hlt : k < ls.length
      · obtain ⟨b, o, rfl, hbl, hc⟩ := HA.out (by intro h; simp [h] at hlt)
        have hcell : wr.cell? ⟨b, o + k, none⟩ = some (.int .i64 (ls.getD k 0)) := (hb.cell (p := ⟨b, o + k, none⟩) hbl).trans (hc k hlt)
        obtain ⟨hn1, hn2⟩ := HN.out k
        have hMl := rkM_lt ls hlt
        obtain ⟨x, hx⟩ : ∃ x, (ls.getD k 0).toNat = x := ⟨_, rfl⟩
        rw [hx] at hn1 hn2 hMl
        rw [hn1] at hcell
        rw [← HM.out] at hMl
        have HSet := hid (rkS_set ls (k := k) (m := h + 1) (i := x) hx hMl)
        have t1 : wr.cell? ⟨w'.heap.size, x, none⟩ = some (.int .i64 (rkE ls k x : Nat)) := by rw [HBk.out.cell, Vals_get (by rw [rkS_length]; exact hMl), rkS_get ls k hMl]
        have t2 := HBk.out.frozen x
        have hE := rkE_lt ls (Nat.le_refl k) x
        have hp9 := pow_lt10 k (by omega)
        obtain ⟨E, hEq⟩ : ∃ E, rkE ls k x = E := ⟨_, rfl⟩
        rw [hEq] at t1 hE HSet
        have wp := wrap_pow' k (by omega)
        have hor := or_pow E k (by omega) (by omega)
        have hhm : (x : Int) < (h : Int) + 1 := by omega
        clear hEq hE hp9 hc hx hn1 hB hb hMl
        go_wp2
        go_region
        go_wp2
        go_roundw
        case rel => exact ⟨k + 1, by omega, by go_num, (by rw [← HSet.out, ← Vals_set]; exact HBk.out.set_ x _), (HBb.out.setCell (p := ⟨w'.heap.size, x, none⟩) (Nat.le_refl _) _).drew⟩
        case measure => simp [intOf]; omega
      · obtain rfl : k = ls.length := by omega
        have HOw := hid (HBk.out.own (xs := rkS ls ls.length (h + 1)) (B := w.heap.size) hz (by rw [rkS_length]; omega))
        rw [rkS_length] at HOw
        clear hB hb
        go_wp2
        go_ret2
        exact ⟨_, ret_vbR HQ.out.symm, (by rw [ansRO_yes HQ.out, HEnd.out, ← HM.out]; exact HOw.out), HL.out, below_to HB.out HBb.out⟩
set_option maxHeartbeats 1600000 in
theorem togglesAt_any (v u : Value) (rs ws : List Int) (w : World) (hv : Ints w v rs) (hu : Ints w u ws) (hw : inW rs.length ws = true) (hm : ws.length ≤ 100) (hr10 : rs.length ≤ 10) (hr : ∀ i, i < rs.length → ∃ r : Nat, rs.getD i 0 = (r : Int) ∧ r < 1024) :
    Calls Try.prog 39 #[v, u] w fun (r : Ending) w' => ∃ q, r = Ending.returned q ∧ OwnI 3 w' w.heap.size q (rkW rs ws) ∧ Below w.heap.size w w' := by
  have HW := hid hw
  have HR := hid hr
  have HRl := hid (fun k => rkW_length rs (ws.take k))
  obtain ⟨A, c, rfl, hA⟩ := hv
  obtain ⟨A2, c2, rfl, hA2⟩ := hu
  have HA := hid hA
  have HA2 := hid hA2
  clear hw hr hA hA2
  go_enter Try.func39, Try.ntmps39
  go_wp2
  go_loopw [5, 11] (fun q i wr => ∃ k : Nat, k ≤ ws.length ∧ i = .int .i64 k ∧ OwnI 3 wr w.heap.size q (rkW rs (ws.take k)) ∧ Below w.heap.size w wr) (fun _ i _ => ws.length - (intOf i).toNat)
  case atStart => exact ⟨0, Nat.zero_le _, rfl, OwnI.nil _ _ _, Below.refl _ _⟩
  case round =>
    obtain ⟨k, hk, rfl, ho, hb⟩ := hrel
    have HO := hid ho
    have HB1 := hid hb
    by_cases hlt : k < ws.length
    · obtain ⟨b, o, rfl, hbl, hc⟩ := HA2.out (by intro h; simp [h] at hlt)
      have hcell : wr.cell? ⟨b, o + k, none⟩ = some (.int .i64 (ws.getD k 0)) := (hb.cell (p := ⟨b, o + k, none⟩) hbl).trans (hc k hlt)
      have hin := inW_at HW.out hlt
      have HTk := hid (rkW_take rs ws hlt)
      have hlk := HRl.out k
      rw [List.length_take] at hlk
      obtain ⟨x, hx⟩ : ∃ x, ws.getD k 0 = x := ⟨_, rfl⟩
      rw [hx] at hcell hin HTk
      obtain ⟨i, rfl⟩ := Int.eq_ofNat_of_zero_le hin.1
      have hi1 : i < rs.length := by omega
      obtain ⟨r, hr1, hr2⟩ := HR.out i hi1
      rw [Int.toNat_natCast, hr1, Int.toNat_natCast] at HTk
      obtain ⟨b2, o2, rfl, hbl2, hc2⟩ := HA.out (by intro h; simp [h] at hi1)
      have hcr : w.cell? ⟨b2, o2 + i, none⟩ = some (.int .i64 r) := by rw [hc2 i hi1, hr1]
      have HCr := hid hcr
      have hix : (i : Int) < rs.length := by omega
      obtain ⟨P, hP⟩ : ∃ P, rkW rs (ws.take k) = P := ⟨_, rfl⟩
      rw [hP] at HO HTk hlk
      have hP2 : P.length ≤ 1000 := by omega
      clear hc hc2 hx ho hb hin hr1 hP hcr hlk
      go_wp2
      go_loopw [5, 15] (fun q j wi => ∃ t : Nat, t ≤ 10 ∧ j = .int .i64 t ∧ OwnI 3 wi w.heap.size q (P ++ elL t r) ∧ Below w.heap.size w wi) (fun _ j _ => 10 - (intOf j).toNat)
      case atStart => exact ⟨0, Nat.zero_le _, rfl, (by rw [elL_zero, List.append_nil]; exact HO.out), HB1.out⟩
      case round =>
        obtain ⟨t, ht, rfl, ho, hb⟩ := hrel
        have HO2 := hid ho
        have HB2 := hid hb
        have hz2 := hb.size
        have hcr : wr.cell? ⟨b2, o2 + i, none⟩ = some (.int .i64 r) := (hb.cell (p := ⟨b2, o2 + i, none⟩) hbl2).trans HCr.out
        clear ho hb
        by_cases ht10 : t < 10
        · cases hbit : r.testBit t
          · have HBit := hid hbit
            clear hbit
            go_wp2_with (go_at_call 50; refine (hasElement_any r t (by omega) (by omega) _).mono ?_; rw [HBit.out]; rintro e w' ⟨rfl, rfl⟩)
            go_roundw
            case rel => exact ⟨t + 1, by omega, by go_num, (by rw [elL_no HBit.out]; exact HO2.out), HB2.out⟩
            case measure => simp [intOf]; omega
          · have HBit := hid hbit
            have hl48 : (P ++ elL t r).length < 1048576 := by rw [List.length_append]; have := elL_length t r; omega
            clear hbit
            go_wp2_with (first
              | (go_at_call 50; refine (hasElement_any r t (by omega) (by omega) _).mono ?_; rw [HBit.out]; rintro e w' ⟨rfl, rfl⟩)
              | (at_builtin; refine wpList_append_int rfl _ _ 50 3 rfl Try.underlying50 Try.info3 w.heap.size _ _ t rfl HO2.out rfl rfl hl48 hz2 ?_; rintro q2 w6 ho6 hb6))
            go_roundw
            case rel => exact ⟨t + 1, by omega, by go_num, (by rw [elL_yes HBit.out, ← List.append_assoc]; exact ho6), HB2.out.trans hb6⟩
            case measure => simp [intOf]; omega
        · obtain rfl : t = 10 := by omega
          go_wp2
          go_roundw
          case rel => exact ⟨k + 1, by omega, by go_num, (by rw [HTk.out]; exact HO2.out), HB2.out⟩
          case measure => simp [intOf]; omega
    · obtain rfl : k = ws.length := by omega
      clear ho hb
      rw [List.take_length] at HO
      go_wp2
      go_ret
      exact ⟨_, rfl, HO.out, HB1.out⟩
end Go.Proofs.Ytkalpichninncab
