/- Lattice words read by the program. -/
import Derived.Test.YtbbkoagjplapkaaLat
import Derived.Test.YtbbkoagjplapkaaGrw
import Derived.Test.YtbbkoagjplapkaaGrd
namespace Go.Proofs.Ytbbkoagjplapkaa
open Go.RowKit Go.WideShapes Go.ChangeShapes
set_option linter.unusedVariables false

theorem rowsF_small {a : Nat} {f : Nat → List Int} (ha : a ≤ 11) (h : ∀ r, r < a → (f r).length ≤ 10) : SSmall (rowsF a f) := by
  have hr : ∀ j, j < (rowsF a f).length → ((rowsF a f).getD j []).length ≤ 10 := fun j hj => by
    rw [rowsF_length] at hj
    rw [rowsF_getD hj]; exact h j hj
  have ho : ∀ k, k ≤ (rowsF a f).length → offL (rowsF a f) k ≤ 10 * k := by
    intro k
    induction k with
    | zero => intro _; simp [offL]
    | succ k ih =>
      intro hk
      have h1 := ih (by omega)
      have h2 := hr k (by omega)
      unfold offL
      omega
  have hl := rowsF_length a f
  refine ⟨by omega, fun j hj => by have := hr j hj; omega, ?_⟩
  have := ho _ (Nat.le_refl _)
  omega
theorem latL_small (ws : List Int) (h : ws.length ≤ 10) (hm : mstW ws ws.length < 11) : SSmall (latL ws) :=
  rowsF_small (by have := mstW_nonneg ws ws.length; omega) (fun r _ => by have := rowW_length ws ws.length r; omega)
theorem ansFL_small (ws : List Int) : SSmall (ansFL ws) := by
  cases h : okFL ws
  · rw [ansFL_no h]; exact ⟨by simp, by simp, by simp [offL]⟩
  · rw [ansFL_yes h]
    simp only [okFL, Bool.and_eq_true, decide_eq_true_eq] at h
    refine latL_small ws (by omega) ?_
    have := mstW_lt (ws := ws) (n := ws.length) (k := ws.length) (by omega) (fun i hi => (inW_at h.2.1 hi).2)
    omega
/-- the rows behind one number more -/
theorem rowW_step {ws : List Int} {L k r : Nat} (hr : r < L) (h : ws.getD k 0 = (r : Int)) : (rowsF L (rowW ws k)).set r ((rowsF L (rowW ws k)).getD r [] ++ [(k : Int)]) = rowsF L (rowW ws (k + 1)) := by
  rw [rowsF_getD hr, rowsF_set _ hr]
  refine rowsF_congr fun i _ => ?_
  by_cases e : i = r
  · subst e; rw [if_pos rfl, rowW_yes h]
  · rw [if_neg e, rowW_no (by rw [h]; omega)]
theorem rowW_new {ws : List Int} {k : Nat} (h : inOrd ws k) : rowW ws k (lenW ws k) = [] := by
  rcases hq : rowW ws k (lenW ws k) with _ | ⟨x, l⟩
  · rfl
  · exfalso
    obtain ⟨i, h1, h2, h3⟩ := rowW_mem.1 (show x ∈ rowW ws k (lenW ws k) by rw [hq]; simp)
    have := inOrd_lt h h1
    omega
theorem OwnSS.header {ti ts : TypeId} {w : World} {B E L : Nat} {v : Value} {f : Nat → List Int} (h : OwnSS ti ts w B E v (rowsF L f)) {r : Nat} (hr : r < L) : ∃ q cv uA un uc, v = .slice (some ⟨q, 0, none⟩) L cv ∧ w.cell? ⟨q, r, none⟩ = some (.slice uA un uc) := by
  obtain ⟨A, c, rfl, hrow⟩ := h.rows
  rw [rowsF_length] at hrow ⊢
  obtain ⟨q, u, rfl, -, hc, hi, -⟩ := hrow r hr
  obtain ⟨uA, un, uc, rfl⟩ := hi.shape3
  exact ⟨q, c, uA, un, uc, rfl, hc⟩
set_option maxRecDepth 100000 in
set_option maxHeartbeats 3200000 in
theorem implFromLattice_any (u : Value) (ws : List Int) (w : World) (hu : Ints w u ws) (hm : ws.length ≤ 1048576) :
    Calls Try.prog 47 #[u] w fun (r : Ending) w' => ∃ q, r = Ending.returned (.tuple #[q, .bool (okFL ws)]) ∧ OwnSS 3 27 w' w.heap.size w'.heap.size q (ansFL ws) ∧ SSmall (ansFL ws) ∧ Below w.heap.size w w' := by
  have HL := hid (ansFL_small ws)
  obtain ⟨uA, uc, rfl, hA⟩ := hu
  have HA := hid hA
  have HSz := hid (fun W => isSize_any (ws.length : Int) W)
  clear hA
  cases hs : (decide (1 ≤ (ws.length : Int)) && decide ((ws.length : Int) ≤ 10))
  · have HO := hid (okFL_no1 hs)
    rw [hs] at HSz
    clear hs
    go_enter Try.func47, Try.ntmps47
    go_wp2_with (go_at_call 80; refine (HSz.out _).mono ?_; rintro e w' ⟨rfl, rfl⟩)
    go_ret2
    exact ⟨_, ret_vbT HO.out.symm, by rw [ansFL_no HO.out]; exact OwnSS.nil _ _ _ _ _, HL.out, Below.refl _ _⟩
  · have HS := hid hs
    have hs2 : 1 ≤ ws.length ∧ ws.length ≤ 10 := by simp only [Bool.and_eq_true, decide_eq_true_eq] at hs; omega
    obtain ⟨hs3, hs4⟩ := hs2
    have HFull := hid (fun h => lat_full (ws := ws) hs3 h)
    have HY := hid (fun h k => okFL_yes (ws := ws) hs h k)
    have HErl := hid (fun k (hk : k < ws.length) h he => okFL_no3 (lat_early (ws := ws) hk h he))
    have HNeg : Hid (∀ k, k < ws.length → ws.getD k 0 < 0 → okFL ws = false) := hid (fun k hk h => okFL_no2 (not_inW hk (by omega)))
    rw [hs] at HSz
    obtain ⟨n, hn⟩ : ∃ n, ws.length = n := ⟨_, rfl⟩
    rw [hn] at HA HFull HY HErl HNeg hs3 hs4 HSz hm ⊢
    have HN := hid hn
    clear hs hn
    go_enter Try.func47, Try.ntmps47
    go_wp2_with (go_at_call 80; refine (HSz.out _).mono ?_; rintro e w' ⟨rfl, rfl⟩)
    go_loopw [4, 13] (fun out i wr => ∃ k : Nat, k ≤ n ∧ i = .int .i64 k ∧ OwnSS 3 27 wr w.heap.size wr.heap.size out (rowsF (lenW ws k) (rowW ws k)) ∧ Below w.heap.size w wr ∧ Hid (inOrd ws k)) (fun _ i _ => n - (intOf i).toNat)
    case atStart => exact ⟨0, Nat.zero_le _, rfl, OwnSS.nil _ _ _ _ _, Below.refl _ _, hid (fun i hi => absurd hi (Nat.not_lt_zero _))⟩
    case round =>
      obtain ⟨k, hk, rfl, ho, hb, HIn⟩ := hrel
      have HO := hid ho
      have Hb := hid hb
      obtain ⟨oA, oc, rfl, -⟩ := ho.rows
      rw [rowsF_length] at HO ⊢
      have hz := hb.size
      have hll := lenW_le ws k
      clear ho hb
      by_cases hlt : k < n
      · obtain ⟨b, o, rfl, hbl, hc⟩ := HA.out (by intro h; have := HN.out; rw [h] at this; simp at this; omega)
        have hcell := (Hb.out.cell (p := ⟨b, o + k, none⟩) hbl).trans (hc k hlt)
        have HErk := hid (fun h => HErl.out k hlt HIn.out h)
        have HNgk := hid (fun h => HNeg.out k hlt h)
        have HLen : Hid (lenW ws (k + 1) = if ws.getD k 0 = (lenW ws k : Int) then lenW ws k + 1 else lenW ws k) := hid rfl
        have HStp := hid (fun (L r : Nat) hr h => rowW_step (ws := ws) (L := L) (k := k) (r := r) hr h)
        have HNew := hid (rowW_new HIn.out)
        have HInN : Hid (0 ≤ ws.getD k 0 → ws.getD k 0 ≤ (lenW ws k : Int) → inOrd ws (k + 1)) := hid (fun h1 h2 i hi => by
          by_cases e : i = k
          · subst e; exact ⟨h1, h2⟩
          · exact HIn.out i (by omega))
        have HRS := hid (rowsF_succ (lenW ws k) (rowW ws k))
        obtain ⟨x, hx⟩ : ∃ x, ws.getD k 0 = x := ⟨_, rfl⟩
        obtain ⟨L, hL⟩ : ∃ L, lenW ws k = L := ⟨_, rfl⟩
        rw [hx] at hcell HErk HNgk HLen HStp HInN
        rw [hL] at HO HErk HLen HNew HInN HRS hll
        rw [hL]
        clear hc hx hL
        by_cases hx0 : x < 0
        · have HNO := hid (HNgk.out hx0)
          have hd : decide (x < 0) = true := by simpa using hx0
          go_wp2
          go_ret2
          exact ⟨_, ret_vbT HNO.out.symm, by rw [ansFL_no HNO.out]; exact OwnSS.nil _ _ _ _ _, HL.out, Hb.out⟩
        · have hd : decide (x < 0) = false := by simpa using hx0
          by_cases hxL : (L : Int) < x
          · have HNO := hid (HErk.out hxL)
            have hd2 : decide ((L : Int) < x) = true := by simpa using hxL
            go_wp2
            go_ret2
            exact ⟨_, ret_vbT HNO.out.symm, by rw [ansFL_no HNO.out]; exact OwnSS.nil _ _ _ _ _, HL.out, Hb.out⟩
          · have hd2 : decide ((L : Int) < x) = false := by simpa using hxL
            have HIn2 := hid (HInN.out (by omega) (by omega))
            obtain ⟨r, rfl⟩ := Int.eq_ofNat_of_zero_le (show 0 ≤ x by omega)
            by_cases hrL : r = L
            · subst hrL
              have heq : ((r : Int) == (r : Int)) = true := by simp
              have HLn2 := hid (HLen.out.trans (if_pos rfl))
              have HSt := hid (HStp.out (r + 1) r (by omega) rfl)
              have HOn := hid (OwnI.nil 3 wr w.heap.size)
              go_wp2_with (first | (at_builtin; refine wpList_append_row rfl _ _ 22 27 3 rfl Try.underlying22 Try.info27 (by decide) w.heap.size wr.heap.size _ _ (rowsF r (rowW ws k)) [] rfl HO.out HOn.out (fun k' hk' => by cases hk') rfl rfl (by rw [rowsF_length]; omega) (by omega) (by omega) ?_; intro v5 w5 ho5 hb5; have HO5 : Hid (OwnSS 3 27 w5 w.heap.size w5.heap.size v5 (rowsF (r + 1) (rowW ws k))) := hid (by rw [HRS.out, HNew.out]; exact ho5); have hz5 := hb5.size; obtain ⟨q5, cv5, uA5, un5, uc5, rfl, hc5⟩ := HO5.out.header (show r < r + 1 by omega); have HC5 := hid hc5; have HB5 := hid (Hb.out.trans hb5); clear ho5 hb5) | (at_builtin; refine wpList_append_at rfl _ _ 27 27 3 rfl Try.underlying27 Try.info3 (by decide) w.heap.size w5.heap.size q5 _ cv5 r _ (k : Int) _ HO5.out (by rw [rowsF_length]; omega) HC5.out rfl rfl rfl (by rw [rowsF_getD (by omega)]; have := rowW_length ws k r; omega) (by omega) (by omega) ?_; intro g cap w6 hc6 hf6 hb6 hBq ho6))
              rw [HSt.out] at ho6
              have HO6 := hid ho6
              have HB6 := hid (((HB5.out).trans hb6).setCell (p := ⟨q5, r, none⟩) hBq)
              clear ho6 hb6
              go_wp2
              go_roundw
              case rel => exact ⟨k + 1, by omega, by go_num, by rw [HLn2.out]; exact HO6.out.mono (by simp [World.setCell]), HB6.out _, HIn2⟩
              case measure => simp [intOf]; omega
            · have heq : ((r : Int) == (L : Int)) = false := by rw [beq_eq_false_iff_ne]; omega
              have hrLi : ¬ (r : Int) = (L : Int) := by omega
              have HLn2 := hid (HLen.out.trans (if_neg hrLi))
              have hrL2 : r < L := by omega
              have hri : (r : Int) < (L : Int) := by omega
              have HSt := hid (HStp.out L r hrL2 rfl)
              obtain ⟨q5, cv5, uA5, un5, uc5, hsh, hc5⟩ := HO.out.header hrL2
              injection hsh with hsh hsh2 hsh3
              subst hsh
              subst hsh3
              have HC5 := hid hc5
              clear hsh2
              go_wp2_with (at_builtin; refine wpList_append_at rfl _ _ 27 27 3 rfl Try.underlying27 Try.info3 (by decide) w.heap.size wr.heap.size q5 _ oc r _ (k : Int) _ HO.out (by rw [rowsF_length]; omega) HC5.out rfl rfl rfl (by rw [rowsF_getD (by omega)]; have := rowW_length ws k r; omega) (by omega) (by omega) ?_; intro g cap w6 hc6 hf6 hb6 hBq ho6)
              rw [HSt.out] at ho6
              have HO6 := hid ho6
              have HB6 := hid (((Hb.out).trans hb6).setCell (p := ⟨q5, r, none⟩) hBq)
              clear ho6 hb6
              go_wp2
              go_roundw
              case rel => exact ⟨k + 1, by omega, by go_num, by rw [HLn2.out]; exact HO6.out.mono (by simp [World.setCell]), HB6.out _, HIn2⟩
              case measure => simp [intOf]; omega
      · have Hk := hid (show k = n by omega)
        have hlt' : ¬ (k : Int) < (n : Int) := by omega
        obtain ⟨hf1, hf2⟩ := HFull.out (by rw [← Hk.out]; exact HIn.out)
        have HLat : Hid (latL ws = rowsF (lenW ws k) (rowW ws k)) := hid (by rw [Hk.out]; exact hf1)
        have HInW := hid hf2
        have HSm : Hid (SSmall (latL ws)) := hid (by rw [HLat.out]; exact rowsF_small (by omega) (fun r _ => by have := rowW_length ws k r; omega))
        rw [← HLat.out] at HO
        obtain ⟨L, hL⟩ : ∃ L, lenW ws k = L := ⟨_, rfl⟩
        rw [hL] at HO ⊢
        clear hlt hf1 hf2 hL
        go_wp2_with fail
        refine (implIsTableau_any _ (latL ws) _ HO.out.ints HSm.out).mono ?_
        rintro e w2 ⟨rfl, hb2⟩
        have HO2 := hid (HO.out.below hb2)
        have hz2 := hb2.size
        have Hb2 := hid (below_to Hb.out hb2)
        clear hb2
        cases hq : tabB (latL ws)
        · have HNO := hid (okFL_no3 hq)
          clear hq
          go_wp2
          go_ret2
          exact ⟨_, ret_vbT HNO.out.symm, by rw [ansFL_no HNO.out]; exact OwnSS.nil _ _ _ _ _, HL.out, Hb2.out⟩
        · have HYO := hid (HY.out HInW.out hq)
          clear hq
          go_wp2
          go_ret2
          exact ⟨_, ret_vbT HYO.out.symm, by rw [ansFL_yes HYO.out]; exact HO2.out.mono hz2, HL.out, Hb2.out⟩
end Go.Proofs.Ytbbkoagjplapkaa
