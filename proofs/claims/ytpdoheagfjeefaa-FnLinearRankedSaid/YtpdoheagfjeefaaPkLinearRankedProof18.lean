/- Texts EvL, Has, one behind the other. -/
import Derived.Deep.AppendLies
import Derived.Test.YtpdoheagfjeefaaPkLinearRankedProof08
import Derived.Test.YtpdoheagfjeefaaPkLinearRankedProof12
import Derived.Test.YtpdoheagfjeefaaPkLinearRankedProof13
import Derived.Test.YtpdoheagfjeefaaPkLinearRankedProof16
import Derived.Test.YtpdoheagfjeefaaPkLinearRankedProof17
/- Evacuation of linear extensions: the facts that the law on it asks for. No program is named here. -/
namespace Go.Proofs.Ytpdoheagfjeefaa
open Go.RowKit Go.WideShapes Go.ChangeShapes
set_option linter.unusedVariables false

theorem getD_ext {a b : List Int} (hl : a.length = b.length) (h : ∀ j, j < a.length → a.getD j 0 = b.getD j 0) : a = b := by
  refine List.ext_getElem hl fun j h1 h2 => ?_
  have := h j h1
  simpa [List.getD, h1, h2] using this
theorem swapL_comm {ws : List Int} {i j : Nat} (h : i + 2 ≤ j) (hj : j + 1 < ws.length) : swapL (swapL ws j) i = swapL (swapL ws i) j := by
  refine getD_ext (by simp [swapL_length]) fun k hk => ?_
  have l1 := swapL_length ws i
  have l2 := swapL_length ws j
  rw [swapL_getD _ i k (by omega), swapL_getD _ j k (by omega), swapL_getD _ j (i + 1) (by omega), swapL_getD _ j i (by omega), swapL_getD _ j k (by omega), swapL_getD _ i (j + 1) (by omega), swapL_getD _ i j (by omega), swapL_getD _ i k (by omega)]
  repeat' split
  all_goals first | rfl | omega
theorem togL_comm {xs ws : List Int} {i j : Nat} (h : i + 2 ≤ j) (hj : j + 1 < ws.length) : togL xs (togL xs ws j) i = togL xs (togL xs ws i) j := by
  have l1 := swapL_length ws i
  have l2 := swapL_length ws j
  have a1 : (swapL ws j).getD (i + 1) 0 = ws.getD (i + 1) 0 := by rw [swapL_getD _ j _ (by omega), if_neg (by omega), if_neg (by omega)]
  have a2 : (swapL ws j).getD i 0 = ws.getD i 0 := by rw [swapL_getD _ j _ (by omega), if_neg (by omega), if_neg (by omega)]
  have b1 : (swapL ws i).getD (j + 1) 0 = ws.getD (j + 1) 0 := by rw [swapL_getD _ i _ (by omega), if_neg (by omega), if_neg (by omega)]
  have b2 : (swapL ws i).getD j 0 = ws.getD j 0 := by rw [swapL_getD _ i _ (by omega), if_neg (by omega), if_neg (by omega)]
  cases hi : (row xs (ws.getD (i + 1) 0).toNat).testBit (ws.getD i 0).toNat <;> cases hk : (row xs (ws.getD (j + 1) 0).toNat).testBit (ws.getD j 0).toNat
  · rw [togL_no hi, togL_no hk, togL_no (by rw [a1, a2]; exact hi), togL_no (by rw [b1, b2]; exact hk), swapL_comm h hj]
  · rw [togL_no hi, togL_yes hk, togL_no hi, togL_yes (by rw [b1, b2]; exact hk)]
  · rw [togL_yes hi, togL_no hk, togL_yes (by rw [a1, a2]; exact hi)]
  · rw [togL_yes hi, togL_yes hk, togL_yes hi]
theorem linIvs (xs : List Int) : Ivs (fun i ws => togL xs ws i) (LinX xs) (xs.length - 1) where
  ins i s hi hs := hs.tog (by omega)
  inv i s hi hs := hs.tog_tog (by omega)
  com i j s hi hj hij hs := togL_comm hij (by rw [hs.len]; omega)
theorem upL_act (xs : List Int) (ws : List Int) (k : Nat) : upL xs k ws = actT (fun i a => togL xs a i) (upW k) ws := by
  induction k with
  | zero => rfl
  | succ k ih => rw [upL_succ, upW_succ, actT_append, ← ih]; rfl
theorem downL_act (xs : List Int) (ws : List Int) (t k : Nat) : downL xs t k ws = actT (fun i a => togL xs a (t - 1 - i)) (upW k) ws := by
  induction k with
  | zero => rfl
  | succ k ih => rw [downL_succ, upW_succ, actT_append, ← ih]; rfl
theorem ga_turn (T : Nat → List Int → List Int) (n : Nat) (ws : List Int) : ∀ m, m ≤ n → actT T (gaW m) (turnN (fun k => actT T (upW (n - k))) (n - m) ws) = turnN (fun k => actT T (upW (n - k))) n ws := by
  intro m
  induction m with
  | zero => intro _; rfl
  | succ m ih =>
    intro hm
    have e : n - m = (n - (m + 1)) + 1 := by omega
    have ih := ih (by omega)
    rw [e] at ih
    rw [← ih]
    show actT T (upW (m + 1) ++ gaW m) _ = actT T (gaW m) (actT T (upW (n - (n - (m + 1)))) _)
    rw [actT_append, show n - (n - (m + 1)) = m + 1 by omega]
theorem evaL_act (xs ws : List Int) : evaL xs ws = actT (fun i a => togL xs a i) (gaW (xs.length - 1)) ws := by
  have h := ga_turn (fun i a => togL xs a i) (xs.length - 1) ws (xs.length - 1) (Nat.le_refl _)
  rw [show xs.length - 1 - (xs.length - 1) = 0 by omega] at h
  refine Eq.trans ?_ h.symm
  unfold evaL
  exact turnN_congr (fun k _ => by funext a; exact upL_act xs a _) ws
theorem coeL_flip (xs ws : List Int) : coeL xs ws = actT (fun i a => togL xs a (xs.length - 1 - 1 - i)) (gaW (xs.length - 1)) ws := by
  have h := ga_turn (fun i a => togL xs a (xs.length - 1 - 1 - i)) (xs.length - 1) ws (xs.length - 1) (Nat.le_refl _)
  rw [show xs.length - 1 - (xs.length - 1) = 0 by omega] at h
  refine Eq.trans ?_ h.symm
  unfold coeL
  exact turnN_congr (fun k _ => by funext a; exact downL_act xs a _ _) ws
theorem coeL_act (xs ws : List Int) (h : 1 ≤ xs.length - 1) : coeL xs ws = actT (fun i a => togL xs a i) (duW (xs.length - 1)) ws := by
  rw [coeL_flip]
  have := actT_flip (fun i a => togL xs a i) (xs.length - 1) (gaW (xs.length - 1)) ws
  rw [duW_flip h] at this
  exact this
theorem powT_turn (xs ws : List Int) (k : Nat) : powT (fun i a => togL xs a i) (upW (xs.length - 1)) k ws = turnN (fun _ => pro1 xs) k ws := by
  induction k with
  | zero => rfl
  | succ k ih => rw [powT_last, ih, turnN, pro1, upL_act]
theorem LinX.evaL {xs ws : List Int} (h : LinX xs ws) : LinX xs (evaL xs ws) := by
  rw [evaL_act]; exact (linIvs xs).act (gaW_lt _) ws h
theorem LinX.coeL {xs ws : List Int} (h : LinX xs ws) : LinX xs (coeL xs ws) := by
  rw [coeL_flip]; exact (linIvs xs).flip.act (gaW_lt _) ws h
theorem eva_eva {xs ws : List Int} (h : LinX xs ws) : evaL xs (evaL xs ws) = ws := by
  rw [evaL_act, evaL_act]; exact (linIvs xs).gaTwice _ (Nat.le_refl _) ws h
theorem coe_coe {xs ws : List Int} (h : LinX xs ws) : coeL xs (coeL xs ws) = ws := by
  rw [coeL_flip, coeL_flip]; exact (linIvs xs).flip.gaTwice _ (Nat.le_refl _) ws h
theorem orp_pro' {xs ws : List Int} (h : LinX xs ws) (h1 : 1 ≤ xs.length) : orp1 xs (pro1 xs ws) = ws := h.orp_pro h1
/-- evacuation, one promotion and evacuation again are one promotion back -/
theorem eva_turn {xs ws : List Int} (h : LinX xs ws) (h1 : 1 ≤ xs.length) : evaL xs (pro1 xs (evaL xs ws)) = orp1 xs ws := by
  rcases Nat.eq_zero_or_pos (xs.length - 1) with h0 | h0
  · have e1 : ∀ a, evaL xs a = a := fun a => by rw [evaL_act, h0]; rfl
    have e2 : ∀ a, pro1 xs a = a := fun a => by unfold pro1; rw [h0]; rfl
    have e3 : ∀ a, orp1 xs a = a := fun a => by unfold orp1; rw [h0]; rfl
    rw [e1, e1, e2, e3]
  · obtain ⟨m, hm⟩ : ∃ m, xs.length - 1 = m + 1 := ⟨xs.length - 2, by omega⟩
    have hs := h.evaL
    have hg := (linIvs xs).gaTurn (k := m) (by omega) hs
    have e1 : ∀ a, actT (fun i a => togL xs a i) (gaW (m + 1)) a = evaL xs a := fun a => by rw [evaL_act, hm]
    have e2 : ∀ a, actT (fun i a => togL xs a i) (upW (m + 1)) a = pro1 xs a := fun a => by unfold pro1; rw [upL_act, hm]
    rw [e2, e1, e2, e1, eva_eva h] at hg
    have h4 : LinX xs (evaL xs (pro1 xs (evaL xs ws))) := (hs.pro h1).evaL
    rw [← orp_pro' h4 h1, hg]
/-- both, one after the other -/
theorem coe_eva {xs ws : List Int} (h : LinX xs ws) (h1 : 1 ≤ xs.length) : coeL xs (evaL xs ws) = turnN (fun _ => pro1 xs) xs.length ws := by
  rcases Nat.eq_zero_or_pos (xs.length - 1) with h0 | h0
  · have e1 : evaL xs ws = ws := by rw [evaL_act, h0]; rfl
    have e4 : coeL xs ws = ws := by rw [coeL_flip, h0]; rfl
    have e2 : ∀ a, pro1 xs a = a := fun a => by unfold pro1; rw [h0]; rfl
    rw [e1, e4, show xs.length = 1 by omega]
    exact (e2 ws).symm
  · rw [coeL_act _ _ h0, evaL_act, (linIvs xs).gaDu h0 h, powT_turn, show xs.length - 1 + 1 = xs.length by omega]
/-! ### the dual -/
theorem dua_wN {ws : List Int} (j : Nat) (hj : j < ws.length) : wN (duaL ws) j = ws.length - 1 - wN ws (ws.length - 1 - j) := by
  unfold wN duaL
  rw [mkL_getD hj, Int.toNat_natCast]; rfl
theorem dua_length (ws : List Int) : (duaL ws).length = ws.length := mkL_length _ _
theorem dua_get {ws : List Int} (j : Nat) (hj : j < ws.length) : (duaL ws).getD j 0 = (wN (duaL ws) j : Int) := by
  unfold wN duaL
  rw [mkL_getD hj, Int.toNat_natCast]
theorem dua_lin {xs ws : List Int} (hg : good xs = true) (h : LinX xs ws) : LinX (dualL xs) (duaL ws) := by
  have hl := dualD_length hg
  have hw := h.len
  have hb : ∀ k, k < xs.length → wN (duaL ws) k = xs.length - 1 - wN ws (xs.length - 1 - k) := fun k hk => by rw [dua_wN k (by omega), hw]
  have hst : ∀ k, k ≤ xs.length → ∀ e, e < xs.length → ((stL (duaL ws) k).testBit (xs.length - 1 - e) = true ↔ ∃ i, xs.length - k ≤ i ∧ i < xs.length ∧ wN ws i = e) := by
    intro k hk e he
    rw [stL_bit]
    constructor
    · rintro ⟨j, hj, e2⟩
      have hr := (h.rng (xs.length - 1 - j) (by omega)).2
      rw [hb j (by omega)] at e2
      exact ⟨xs.length - 1 - j, by omega, by omega, by omega⟩
    · rintro ⟨i, h1, h2, h3⟩
      refine ⟨xs.length - 1 - i, by omega, ?_⟩
      rw [hb _ (by omega), show xs.length - 1 - (xs.length - 1 - i) = i by omega, h3]
  refine ⟨by rw [dua_length, hl, hw], fun k hk => ?_, fun k hk => ?_⟩
  · rw [hl] at hk ⊢
    refine ⟨dua_get k (by omega), ?_⟩
    rw [hb k hk]; omega
  · rw [hl] at hk
    have hr := (h.rng (xs.length - 1 - k) (by omega)).2
    rw [hb k hk]
    simp only [stepP, Bool.and_eq_true, Bool.not_eq_true', beq_iff_eq]
    refine ⟨?_, (sub_eq_zero _ _).2 fun j hj => ?_⟩
    · rw [Bool.eq_false_iff]
      intro h5
      obtain ⟨i, h6, h7, h8⟩ := (hst k (by omega) _ hr).1 h5
      exact h.ne (show xs.length - 1 - k < i by omega) h7 h8.symm
    · obtain ⟨h5, h6⟩ := (dualD_row hg (by omega)).1 hj
      rw [show xs.length - 1 - (xs.length - 1 - wN ws (xs.length - 1 - k)) = wN ws (xs.length - 1 - k) by omega] at h6
      have hjl : xs.length - 1 - j < xs.length := by omega
      have e3 : j = xs.length - 1 - (xs.length - 1 - j) := by omega
      rw [e3]
      refine (hst k (by omega) _ hjl).2 ?_
      obtain ⟨i, hi, hie⟩ := h.surj hjl
      refine ⟨i, ?_, hi, hie⟩
      rcases Nat.lt_or_ge i (xs.length - k) with h9 | h9
      · exfalso
        rw [← hie] at h6
        obtain ⟨q, hq, hqe⟩ := h.before hi h6
        rcases (by omega : q < xs.length - 1 - k ∨ q = xs.length - 1 - k ∨ xs.length - 1 - k < q) with h10 | h10 | h10
        · exact h.ne h10 (by omega) hqe
        · omega
        · omega
      · exact h9
theorem dua_tog {xs ws : List Int} (hg : good xs = true) (h : LinX xs ws) {i : Nat} (hi : i + 1 < xs.length) : togL (dualL xs) (duaL ws) i = duaL (togL xs ws (xs.length - 1 - 1 - i)) := by
  have hl := dualD_length hg
  have hw := h.len
  obtain ⟨m, hm⟩ : ∃ m, xs.length - 1 - 1 - i = m := ⟨_, rfl⟩
  rw [hm]
  have hb : ∀ k, k < xs.length → wN (duaL ws) k = xs.length - 1 - wN ws (xs.length - 1 - k) := fun k hk => by rw [dua_wN k (by omega), hw]
  have e0 : wN (duaL ws) i = xs.length - 1 - wN ws (m + 1) := by rw [hb i (by omega), show xs.length - 1 - i = m + 1 by omega]
  have e1 : wN (duaL ws) (i + 1) = xs.length - 1 - wN ws m := by rw [hb (i + 1) hi, show xs.length - 1 - (i + 1) = m by omega]
  have ra := (h.rng m (by omega)).2
  have rb := (h.rng (m + 1) (by omega)).2
  have hc : (row (dualL xs) (wN (duaL ws) (i + 1))).testBit (wN (duaL ws) i) = (row xs (wN ws (m + 1))).testBit (wN ws m) := by
    rw [Bool.eq_iff_iff, e0, e1, dualD_row hg (by omega), show xs.length - 1 - (xs.length - 1 - wN ws (m + 1)) = wN ws (m + 1) by omega, show xs.length - 1 - (xs.length - 1 - wN ws m) = wN ws m by omega]
    constructor
    · exact fun h => h.2
    · intro h2
      have := row_less hg rb h2
      exact ⟨by omega, h2⟩
  have hm1 : m + 1 < ws.length := by omega
  rw [togL_wN, togL_wN, hc]
  cases hq : (row xs (wN ws (m + 1))).testBit (wN ws m)
  · rw [if_neg (by decide), if_neg (by decide)]
    have hi2 : i + 1 < (duaL ws).length := by rw [dua_length]; omega
    have hs : (swapL ws m).length = xs.length := by rw [swapL_length, hw]
    refine getD_ext (by rw [swapL_length, dua_length, dua_length, swapL_length]) fun j hj => ?_
    rw [swapL_length, dua_length, hw] at hj
    rw [swapL_getD _ i j hi2, dua_get (ws := swapL ws m) j (by omega), dua_wN (ws := swapL ws m) j (by omega), hs, swap_wN hm1]
    rcases (by omega : j = i ∨ j = i + 1 ∨ (j ≠ i ∧ j ≠ i + 1)) with h1 | h1 | ⟨h1, h2⟩
    · rw [if_pos h1, if_neg (by omega), if_pos (by omega), dua_get (i + 1) (by omega), e1]
    · rw [if_neg (by omega), if_pos h1, if_pos (by omega), dua_get i (by omega), e0]
    · rw [if_neg h1, if_neg h2, if_neg (by omega), if_neg (by omega), dua_get j (by omega), hb j hj]
  · rw [if_pos rfl, if_pos rfl]
theorem dua_act {xs : List Int} (hg : good xs = true) : ∀ (w : List Nat), Lt (xs.length - 1) w → ∀ ws, LinX xs ws → actT (fun i a => togL (dualL xs) a i) w (duaL ws) = duaL (actT (fun i a => togL xs a (xs.length - 1 - 1 - i)) w ws)
  | [], _, ws, _ => rfl
  | i :: w, hw, ws, h => by
    have hi := hw i (by simp)
    rw [actT_cons, actT_cons]
    show actT _ w (togL (dualL xs) (duaL ws) i) = _
    rw [dua_tog hg h (by omega)]
    exact dua_act hg w (fun j hj => hw j (List.mem_cons_of_mem _ hj)) _ (h.tog (by omega))
/-- evacuation of the dual is the dual's coevacuation -/
theorem eva_dua {xs ws : List Int} (hg : good xs = true) (h : LinX xs ws) : evaL (dualL xs) (duaL ws) = duaL (coeL xs ws) := by
  rw [evaL_act, dualD_length hg, dua_act hg _ (gaW_lt _) ws h, ← coeL_flip]
end Go.Proofs.Ytpdoheagfjeefaa

/- Is a number in a list (the model's l1Has); an append that leaves another list of the call's own. -/
namespace Go.Proofs.Ytpdoheagfjeefaa
open Go.RowKit Go.WideShapes Go.ChangeShapes
set_option linter.unusedVariables false

def hasL (xs : List Int) (n : Int) : Bool := decide (n ∈ xs)
theorem l1HasL_any (v : Value) (xs : List Int) (n : Int) (w : World) (hv : Ints w v xs) (hl : xs.length ≤ 1048576) :
    Calls Try.prog 123 #[v, .int .i64 n] w fun r w' => r = .returned (.bool (hasL xs n)) ∧ w = w' := by
  obtain ⟨A, c, rfl, hA⟩ := hv
  have HA := hid hA
  clear hA
  go_enter Try.func123, Try.ntmps123
  go_wp2
  go_loopw [9] (fun i wr => ∃ k : Nat, k ≤ xs.length ∧ i = .int .i64 k ∧ Hid (∀ j, j < k → xs.getD j 0 ≠ n) ∧ wr = w) (fun i _ => xs.length - (intOf i).toNat)
  case atStart => exact ⟨0, Nat.zero_le _, rfl, hid (fun j hj => absurd hj (Nat.not_lt_zero _)), rfl⟩
  case round =>
    obtain ⟨k, hk, rfl, HJ, rfl⟩ := hrel
    by_cases hlt : k < xs.length
    · obtain ⟨b, o, rfl, hbl, hc⟩ := HA.out (by intro h; simp [h] at hlt)
      have hcell := hc k hlt
      obtain ⟨x, hx⟩ : ∃ x, xs.getD k 0 = x := ⟨_, rfl⟩
      rw [hx] at hcell
      have HX := hid hx
      clear hc hx
      by_cases hxn : x = n
      · subst hxn
        have HT : Hid (hasL xs x = true) := hid (by
          unfold hasL; rw [decide_eq_true_iff, ← HX.out]
          rw [List.getD_eq_getElem?_getD, List.getElem?_eq_getElem hlt]
          exact List.getElem_mem hlt)
        have hbe : (x == x) = true := by simp
        go_wp2
        go_ret
        exact ⟨ret_bool HT.out.symm, rfl⟩
      · have hbe : (x == n) = false := by rw [beq_eq_false_iff_ne]; exact hxn
        have HJ2 : Hid (∀ j, j < k + 1 → xs.getD j 0 ≠ n) := hid (fun j hj => by
          by_cases e : j = k
          · subst e; rw [HX.out]; exact hxn
          · exact HJ.out j (by omega))
        clear hxn
        go_wp2
        go_roundw
        case rel => exact ⟨k + 1, by omega, by go_num, HJ2, by first | trivial | rfl⟩
        case measure => simp [intOf]; omega
    · obtain rfl : k = xs.length := by omega
      have HT : Hid (hasL xs n = false) := hid (by
        unfold hasL; rw [decide_eq_false_iff_not]
        intro hm
        obtain ⟨j, hj, e⟩ := List.mem_iff_getElem.1 hm
        refine HJ.out j hj ?_
        simp [List.getD, hj, e])
      go_wp2
      go_ret
      exact ⟨ret_bool HT.out.symm, rfl⟩
theorem hasL_snoc (l : List Int) (y n : Int) : hasL (l ++ [y]) n = (hasL l n || n == y) := by
  unfold hasL
  rw [Bool.eq_iff_iff]
  simp
theorem Ints.takeK {w : World} {A : Option Addr} {n c : Nat} {l : List Int} (h : Ints w (.slice A n c) l) {k : Nat} (hk : k ≤ l.length) (c' : Nat) : Ints w (.slice A k c') (l.take k) := by
  obtain ⟨A', c1, e, hA⟩ := h
  injection e with e1 e2 e3
  subst e1
  refine ⟨A, c', by rw [List.length_take, Nat.min_eq_left hk], fun hne => ?_⟩
  obtain ⟨b, o, rfl, hb, hc⟩ := hA (by rintro rfl; simp at hne)
  refine ⟨b, o, rfl, hb, fun j hj => ?_⟩
  rw [List.length_take] at hj
  rw [hc j (by omega)]
  simp [List.getD, show j < k by omega]
theorem Ints.dropK {w : World} {b o n c : Nat} {l : List Int} (h : Ints w (.slice (some ⟨b, o, none⟩) n c) l) {k : Nat} (hk : k ≤ l.length) (m c' : Nat) (hm : m = l.length - k) : Ints w (.slice (some ⟨b, o + k, none⟩) m c') (l.drop k) := by
  obtain ⟨A', c1, e, hA⟩ := h
  injection e with e1 e2 e3
  subst e1
  refine ⟨some ⟨b, o + k, none⟩, c', by rw [List.length_drop, hm], fun hne => ?_⟩
  obtain ⟨b', o', e, hb, hc⟩ := hA (by rintro rfl; simp at hne)
  injection e with e
  injection e with e4 e5
  subst e4; subst e5
  refine ⟨b, o + k, rfl, hb, fun j hj => ?_⟩
  rw [List.length_drop] at hj
  rw [Nat.add_assoc, hc (k + j) (by omega)]
  simp [List.getD]
theorem OwnI.capH {e : TypeId} {w : World} {B : Nat} {A : Option Addr} {n c : Nat} {xs : List Int} (h : OwnI e w B (.slice A n c) xs) : xs.length ≤ c := by
  rcases h.2 with ⟨h1, h2⟩ | ⟨g, cap, cur, h1, _, _, h2, _⟩
  · simp at h2; simp [h2]
  · injection h1 with _ _ h3; omega
theorem OwnI.nilOr {e : TypeId} {w : World} {B : Nat} {A : Option Addr} {n c : Nat} {xs : List Int} (h : OwnI e w B (.slice A n c) xs) : (A = none ∧ c = 0 ∧ xs = []) ∨ ∃ g, A = some ⟨g, 0, none⟩ ∧ B ≤ g ∧ g < w.heap.size ∧ ∀ j, j < xs.length → w.cell? ⟨g, j, none⟩ = some (.int .i64 (xs.getD j 0)) := by
  have h' : w.ownsRow B e 1 (.slice A n c) xs.length (xs.map (Value.int .i64)) := h
  rcases h.2 with ⟨h1, h2⟩ | ⟨g, cap, cur, h1, hB, hh, _⟩
  · injection h1 with e1 e2 e3
    exact .inl ⟨e1, e3, by simpa using h2⟩
  · injection h1 with e1 e2 e3
    subst e1; subst e2; subst e3
    refine .inr ⟨g, rfl, hB, (Array.getElem?_eq_some_iff.1 hh).1, fun j hj => ?_⟩
    rw [h'.cellAt j (by omega)]
    simp [List.getD, hj]
theorem Ints.dropK0 {w : World} {b n c : Nat} {l : List Int} (h : Ints w (.slice (some ⟨b, 0, none⟩) n c) l) {k : Nat} (hk : k ≤ l.length) (m c' : Nat) (hm : m = l.length - k) : Ints w (.slice (some ⟨b, k, none⟩) m c') (l.drop k) := by
  have := h.dropK hk m c' hm
  rwa [Nat.zero_add] at this
theorem Ints.noneL (w : World) (A : Option Addr) (n c : Nat) (h : n = 0) : Ints w (.slice A n c) [] := by subst h; exact ⟨A, c, rfl, fun h => absurd rfl h⟩
theorem Ints.none_ (w : World) (A : Option Addr) (c : Nat) : Ints w (.slice A 0 c) [] := ⟨A, c, rfl, fun h => absurd rfl h⟩
/-- 'out = append(out, y)', beside another list of the call's own -/
theorem wpList_append_int2 {P : Program} {w W : World} {ops : Array Oper} {rest : List Oper} {o : Oper} {a : Act} {Q : Exit → Act → World → Prop} (hgd : o.guard = none) (s x : Operand) (t e : TypeId)
    (ho : o.op = .call { callee := .builtin .append, args := #[s, x], argTypes := #[t, t] }) (ht : P.underlying t = some (.slice e)) (hinfo : (P.info? e).map (fun i => (i.zero, i.size, i.bytes)) = some (some (.int .i64 0), 1, 8))
    (B : Nat) (v : Value) (xs : List Int) (y : Int) (hs : a.eval s = v) (hown : OwnI e w B v xs) (hW : W = w.alloc (.cells #[.int .i64 y] e)) (hx : a.eval x = .slice (some ⟨w.heap.size, 0, none⟩) 1 1) (hlen : xs.length < 1048576) (hB : B ≤ w.heap.size)
    (h : ∀ v' w', OwnI e w' B v' (xs ++ [y]) → Below B w w' → (∀ z zs, OwnI e w B z zs → (z.ownBlock = none ∨ z.ownBlock ≠ v.ownBlock) → OwnI e w' B z zs ∧ (z.ownBlock = none ∨ z.ownBlock ≠ v'.ownBlock)) → wpList P ops Q rest (a.put o.dst v') w') : wpList P ops Q (o :: rest) a W := by
  subst hW
  obtain ⟨i0, hi, hz0, hz1, hz2⟩ := info_parts hinfo
  refine wpList_append_lies _ hgd s x t ho B e i0 (.int .i64 0) 1 8 ht hi hz0 hz1 hz2 rfl (by decide) v xs.length (xs.map (Value.int .i64)) hs (World.ownsRow.alloc hown _) ⟨w.heap.size, 0, none⟩ 1 1 [.int .i64 y] hx rfl ?_ ?_ (by decide) ?_ ?_ ?_ _ rfl ?_
  · intro j u hj
    match j, hj with
    | 0, hj =>
      simp only [List.getElem?_cons_zero, Option.some.injEq] at hj
      subst hj
      exact (Blk.new w e #[.int .i64 y]).cell 0
    | j + 1, hj => simp at hj
  · intro u hu
    simp only [List.mem_singleton] at hu
    subst hu; rfl
  · unfold maxLen; omega
  · omega
  · simp; omega
  · intro g cap w' h6 h7 h8 h9
    have hb : Below B w (w.alloc (.cells #[.int .i64 y] e)) := (Below.refl _ _).alloc hB _
    have hB2 : Below B w w' := hb.grown h7 (by simp; omega) fun k hk => (World.ownsRow.lt hown k hk).1
    refine h _ w' (by unfold OwnI; simpa using h6) hB2 fun z zs hz hzv => ⟨(World.ownsRow.alloc hz _).kept h7 hzv, ?_⟩
    rcases hzv with hzn | hzn
    · exact .inl hzn
    · rcases hq : z.ownBlock with _ | q
      · exact .inl rfl
      · refine .inr fun e2 => ?_
        have hql := (World.ownsRow.lt hz q hq).2
        simp only [Value.ownBlock, Option.some.injEq] at e2
        subst e2
        rcases h8 with h8 | h8
        · exact hzn (by rw [hq, h8])
        · simp at h8; omega
end Go.Proofs.Ytpdoheagfjeefaa
