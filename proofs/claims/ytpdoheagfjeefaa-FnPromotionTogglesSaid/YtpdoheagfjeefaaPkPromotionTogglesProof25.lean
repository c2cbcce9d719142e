/- Texts TpM, Swi, one behind the other. -/
import Derived.Test.YtpdoheagfjeefaaPkPromotionTogglesProof17
import Derived.Test.YtpdoheagfjeefaaPkPromotionTogglesProof19
import Derived.Test.YtpdoheagfjeefaaPkPromotionTogglesProof21
import Derived.Test.YtpdoheagfjeefaaPkPromotionTogglesProof22
import Derived.Test.YtpdoheagfjeefaaPkPromotionTogglesProof24
/- Promotion slides along a chain: what the law on it asks. No program is named here. -/
namespace Go.Proofs.Ytpdoheagfjeefaa
open Go.RowKit Go.WideShapes Go.ChangeShapes
set_option linter.unusedVariables false

/-- between two elements there is one that covers the lower -/
theorem less_cover {xs : List Int} (hg : good xs = true) {a : Nat} : ∀ b, b < xs.length → (row xs b).testBit a = true → ∃ z, coverB xs a z = true ∧ (z = b ∨ (row xs b).testBit z = true) := by
  intro b
  induction b using Nat.strongRecOn with
  | _ b ih =>
    intro hb h
    cases hc : coverB xs a b
    · have h2 : ∃ m, a < m ∧ m < b ∧ bitAt xs b m = true ∧ bitAt xs m a = true := by
        unfold coverB at hc
        rw [show bitAt xs b a = true from h, Bool.true_and, Bool.not_eq_false', List.any_eq_true] at hc
        obtain ⟨m, hm, h3⟩ := hc
        simp only [Bool.and_eq_true, decide_eq_true_eq] at h3
        exact ⟨m, h3.1, List.mem_range.1 hm, h3.2.1, h3.2.2⟩
      obtain ⟨m, h3, h4, h5, h6⟩ := h2
      obtain ⟨z, h7, h8⟩ := ih m h4 (by omega) h6
      refine ⟨z, h7, .inr ?_⟩
      rcases h8 with rfl | h8
      · exact h5
      · exact row_closed hg hb h5 h8
    · exact ⟨b, hc, .inl rfl⟩
def ckN (xs ws : List Int) (k : Nat) : Nat := (slS xs ws k).2
/-- where the chain's last element stands -/
theorem ck_place {xs ws : List Int} (k : Nat) : ∃ p, p ≤ k ∧ ckN xs ws k = wN ws p ∧ ∀ i, p < i → i ≤ k → coverB xs (ckN xs ws k) (wN ws i) = false := by
  induction k with
  | zero => exact ⟨0, Nat.le_refl _, rfl, fun i h1 h2 => by omega⟩
  | succ k ih =>
    unfold ckN at ih ⊢
    cases h : coverB xs (slS xs ws k).2 (wN ws (k + 1))
    · rw [slS_no h]
      obtain ⟨p, h1, h2, h3⟩ := ih
      refine ⟨p, by omega, h2, fun i h4 h5 => ?_⟩
      rcases Nat.lt_or_ge i (k + 1) with h6 | h6
      · exact h3 i h4 (by omega)
      · rw [show i = k + 1 by omega]; exact h
    · rw [slS_yes h]
      exact ⟨k + 1, Nat.le_refl _, rfl, fun i h1 h2 => by omega⟩
theorem ck_less {xs ws : List Int} (hg : good xs = true) (h : LinX xs ws) {k : Nat} (hk : k + 1 < xs.length) : (row xs (wN ws (k + 1))).testBit (ckN xs ws k) = coverB xs (ckN xs ws k) (wN ws (k + 1)) := by
  rw [Bool.eq_iff_iff]
  constructor
  · intro hb
    obtain ⟨z, h1, h2⟩ := less_cover hg _ (h.rng (k + 1) hk).2 hb
    rcases h2 with rfl | h2
    · exact h1
    · exfalso
      obtain ⟨i, hi, rfl⟩ := h.before hk h2
      obtain ⟨p, h3, h4, h5⟩ := ck_place (xs := xs) (ws := ws) k
      rw [h4] at h1
      have h6 := h.later (show p < xs.length by omega) (show i < xs.length by omega) h1
      have h7 := h5 i h6 (by omega)
      rw [h4, h1] at h7
      cases h7
  · exact coverB_row
/-- the list behind k toggles -/
theorem up_wN {xs ws : List Int} (hg : good xs = true) (h : LinX xs ws) : ∀ k, k + 1 ≤ xs.length → ∀ j, j < xs.length →
    wN (upL xs k ws) j = if j < k then (if coverB xs (ckN xs ws j) (wN ws (j + 1)) = true then ckN xs ws j else wN ws (j + 1)) else if j = k then ckN xs ws k else wN ws j := by
  intro k
  induction k with
  | zero =>
    intro _ j hj
    rw [if_neg (by omega)]
    split
    · next e => subst e; rfl
    · rfl
  | succ k ih =>
    intro hk j hj
    have ih := ih (by omega)
    have hX := h.up k (by omega)
    have e0 : wN (upL xs k ws) k = ckN xs ws k := by rw [ih k (by omega), if_neg (by omega), if_pos rfl]
    have e1 : wN (upL xs k ws) (k + 1) = wN ws (k + 1) := by rw [ih (k + 1) (by omega), if_neg (by omega), if_neg (by omega)]
    rw [upL_succ, togL_wN, e0, e1, ck_less hg h (by omega)]
    cases hc : coverB xs (ckN xs ws k) (wN ws (k + 1))
    · have ec : ckN xs ws (k + 1) = ckN xs ws k := by unfold ckN; unfold ckN at hc; rw [slS_no hc]
      rw [if_neg (by decide), swap_wN (by rw [hX.len]; omega)]
      rcases (by omega : j < k ∨ j = k ∨ j = k + 1 ∨ k + 1 < j) with h1 | h1 | h1 | h1
      · rw [if_neg (by omega), if_neg (by omega), if_pos (by omega), ih j hj, if_pos h1]
      · subst h1
        rw [if_pos rfl, if_pos (by omega), hc, e1, if_neg (by decide)]
      · subst h1
        rw [if_neg (by omega), if_pos rfl, if_neg (by omega), if_pos rfl, e0, ec]
      · rw [if_neg (by omega), if_neg (by omega), if_neg (by omega), if_neg (by omega), ih j hj, if_neg (by omega), if_neg (by omega)]
    · have ec : ckN xs ws (k + 1) = wN ws (k + 1) := by unfold ckN; unfold ckN at hc; rw [slS_yes hc]
      rw [if_pos rfl]
      rcases (by omega : j < k ∨ j = k ∨ j = k + 1 ∨ k + 1 < j) with h1 | h1 | h1 | h1
      · rw [if_pos (by omega), ih j hj, if_pos h1]
      · subst h1
        rw [if_pos (by omega), hc, if_pos rfl, e0]
      · subst h1
        rw [if_neg (by omega), if_pos rfl, e1, ec]
      · rw [if_neg (by omega), if_neg (by omega), ih j hj, if_neg (by omega), if_neg (by omega)]
theorem pro_wN {xs ws : List Int} (hg : good xs = true) (h : LinX xs ws) {j : Nat} (hj : j < xs.length) :
    wN (pro1 xs ws) j = if j + 1 < xs.length then (if coverB xs (ckN xs ws j) (wN ws (j + 1)) = true then ckN xs ws j else wN ws (j + 1)) else ckN xs ws (xs.length - 1) := by
  unfold pro1
  rw [up_wN hg h _ (by omega) j hj]
  by_cases h1 : j + 1 < xs.length
  · rw [if_pos (by omega), if_pos h1]
  · rw [if_neg (by omega), if_pos (by omega), if_neg h1]
/-- the chain's elements: each but the first was taken where it covers the one before it -/
theorem ch_step (xs ws : List Int) (k : Nat) : ∀ t, t + 1 < (slS xs ws k).1.length → ∃ i, i + 1 ≤ k ∧ (slS xs ws k).1.getD (t + 1) 0 = (wN ws (i + 1) : Int) ∧ (slS xs ws k).1.getD t 0 = (ckN xs ws i : Int) ∧ coverB xs (ckN xs ws i) (wN ws (i + 1)) = true := by
  induction k with
  | zero => intro t ht; simp [slS] at ht
  | succ k ih =>
    intro t ht
    cases h : coverB xs (slS xs ws k).2 (wN ws (k + 1))
    · rw [slS_no h] at ht ⊢
      obtain ⟨i, h1, h2⟩ := ih t ht
      exact ⟨i, by omega, h2⟩
    · rw [slS_yes h] at ht ⊢
      simp only [List.length_append, List.length_singleton] at ht
      rcases Nat.lt_or_ge (t + 1) (slS xs ws k).1.length with h1 | h1
      · obtain ⟨i, h2, h3, h4, h5⟩ := ih t h1
        refine ⟨i, by omega, ?_, ?_, h5⟩
        · simp only [List.getD_eq_getElem?_getD] at h3 ⊢
          rw [List.getElem?_append_left h1]; exact h3
        · simp only [List.getD_eq_getElem?_getD] at h4 ⊢
          rw [List.getElem?_append_left (by omega)]; exact h4
      · have hl := slS_last xs ws k
        have e : t = (slS xs ws k).1.length - 1 := by omega
        refine ⟨k, Nat.le_refl _, ?_, ?_, h⟩
        · simp only [List.getD_eq_getElem?_getD]
          rw [List.getElem?_append_right h1]
          simp [show t + 1 - (slS xs ws k).1.length = 0 by omega]
        · rw [← e] at hl
          simp only [List.getD_eq_getElem?_getD] at hl ⊢
          rw [List.getElem?_append_left (by omega)]
          exact hl.2.2
theorem ch_mem (xs ws : List Int) (k : Nat) : (wN ws 0 : Int) ∈ (slS xs ws k).1 ∧ ∀ i, i + 1 ≤ k → coverB xs (ckN xs ws i) (wN ws (i + 1)) = true → (wN ws (i + 1) : Int) ∈ (slS xs ws k).1 := by
  induction k with
  | zero => exact ⟨by simp [slS], fun i hi => by omega⟩
  | succ k ih =>
    cases h : coverB xs (slS xs ws k).2 (wN ws (k + 1))
    · rw [slS_no h]
      refine ⟨ih.1, fun i hi hc => ?_⟩
      rcases Nat.lt_or_ge i k with h1 | h1
      · exact ih.2 i (by omega) hc
      · obtain rfl : i = k := by omega
        unfold ckN at hc
        rw [h] at hc; cases hc
    · rw [slS_yes h]
      refine ⟨List.mem_append.2 (.inl ih.1), fun i hi hc => ?_⟩
      rcases Nat.lt_or_ge i k with h1 | h1
      · exact List.mem_append.2 (.inl (ih.2 i (by omega) hc))
      · obtain rfl : i = k := by omega
        exact List.mem_append.2 (.inr (by simp))
/-- an element's place -/
def plR (ws : List Int) (x : Nat) : Nat → Nat
  | 0 => 0
  | k + 1 => if wN ws k = x then k else plR ws x k
def plN (ws : List Int) (x : Nat) : Nat := plR ws x ws.length
theorem plR_at {xs ws : List Int} (h : LinX xs ws) {j : Nat} (hj : j < xs.length) : ∀ m, j < m → m ≤ xs.length → plR ws (wN ws j) m = j := by
  intro m
  induction m with
  | zero => intro h1; omega
  | succ m ih =>
    intro h1 h2
    rw [plR]
    by_cases e : wN ws m = wN ws j
    · rw [if_pos e]; exact h.inj (by omega) hj e
    · rw [if_neg e]
      have : m ≠ j := fun k => e (by rw [k])
      exact ih (by omega) (by omega)
theorem pl_at {xs ws : List Int} (h : LinX xs ws) {j : Nat} (hj : j < xs.length) : plN ws (wN ws j) = j := plR_at h hj _ (by rw [h.len]; exact hj) (by rw [h.len]; exact Nat.le_refl _)
theorem pl_wN {xs ws : List Int} (h : LinX xs ws) {x : Nat} (hx : x < xs.length) : plN ws x < xs.length ∧ wN ws (plN ws x) = x := by
  obtain ⟨j, hj, rfl⟩ := h.surj hx
  rw [pl_at h hj]
  exact ⟨hj, rfl⟩
/-- where an element of the chain goes -/
theorem at_chain {xs ws : List Int} (hg : good xs = true) (h : LinX xs ws) {t : Nat} (ht : t < (sliL xs ws).length) : ∃ x : Nat, (sliL xs ws).getD t 0 = (x : Int) ∧ x < xs.length ∧
    (t + 1 < (sliL xs ws).length → ∃ y a : Nat, (sliL xs ws).getD (t + 1) 0 = (y : Int) ∧ y < xs.length ∧ plN ws y = a + 1 ∧ a + 1 < xs.length ∧ wN (pro1 xs ws) a = x) ∧
    (¬ t + 1 < (sliL xs ws).length → wN (pro1 xs ws) (xs.length - 1) = x) := by
  have h1 := (good_length hg).1
  by_cases hn : t + 1 < (sliL xs ws).length
  · obtain ⟨i, e1, e2, e3, e4⟩ := ch_step xs ws (xs.length - 1) t hn
    refine ⟨ckN xs ws i, e3, h.slS_lt i (by omega), fun _ => ⟨wN ws (i + 1), i, e2, (h.rng (i + 1) (by omega)).2, pl_at h (by omega), by omega, ?_⟩, fun k => absurd hn k⟩
    rw [pro_wN hg h (by omega), if_pos (by omega), if_pos e4]
  · have hl := slS_last xs ws (xs.length - 1)
    have e : t = (sliL xs ws).length - 1 := by omega
    refine ⟨ckN xs ws (xs.length - 1), by rw [e]; exact hl.2.2, h.slS_lt _ (by omega), fun k => absurd k hn, fun _ => ?_⟩
    rw [pro_wN hg h (by omega), if_neg (by omega)]
theorem at_other {xs ws : List Int} (hg : good xs = true) (h : LinX xs ws) {x : Nat} (hx : x < xs.length) (hm : (x : Int) ∉ sliL xs ws) : ∃ a, plN ws x = a + 1 ∧ a + 1 < xs.length ∧ wN (pro1 xs ws) a = x := by
  obtain ⟨h1, h2⟩ := pl_wN h hx
  obtain ⟨m1, m2⟩ := ch_mem xs ws (xs.length - 1)
  rcases Nat.eq_zero_or_pos (plN ws x) with h0 | h0
  · rw [h0] at h2
    exact absurd (by rw [← h2]; exact m1) hm
  · obtain ⟨a, ha⟩ : ∃ a, plN ws x = a + 1 := ⟨plN ws x - 1, by omega⟩
    rw [ha] at h1 h2
    refine ⟨a, ha, h1, ?_⟩
    rw [pro_wN hg h (by omega), if_pos h1, if_neg ?_, h2]
    intro hc
    exact hm (by rw [← h2]; exact m2 a (by omega) hc)
/-- the slid list behind x elements -/
def slF (ws : List Int) (x j : Nat) : Nat := if wN ws j < x then wN ws j else 0
theorem slF_step {xs ps : List Int} (h : LinX xs ps) {x a : Nat} (ha : a < xs.length) (e : wN ps a = x) : ∀ j, j < xs.length → slF ps (x + 1) j = if j = a then x else slF ps x j := by
  intro j hj
  unfold slF
  by_cases hja : j = a
  · subst hja; rw [if_pos (by omega), if_pos rfl, e]
  · rw [if_neg hja]
    have hne : wN ps j ≠ x := fun e2 => hja (h.inj hj ha (e2.trans e.symm))
    by_cases h1 : wN ps j < x
    · rw [if_pos (by omega), if_pos h1]
    · rw [if_neg (by omega), if_neg h1]
theorem slF_full {xs ps : List Int} (h : LinX xs ps) : mkL xs.length (slF ps xs.length) = ps := by
  refine getD_ext (by rw [mkL_length, h.len]) fun j hj => ?_
  rw [mkL_length] at hj
  rw [mkL_getD hj, (h.rng j hj).1]
  unfold slF
  rw [if_pos (h.rng j hj).2]
/-- the places behind k entries -/
def plF (ws : List Int) (k x : Nat) : Nat := if plN ws x < k then plN ws x else 0
theorem plF_step {xs ws : List Int} (h : LinX xs ws) {k : Nat} (hk : k < xs.length) : ∀ x, x < xs.length → plF ws (k + 1) x = if x = wN ws k then k else plF ws k x := by
  intro x hx
  unfold plF
  by_cases hxk : x = wN ws k
  · rw [hxk, if_pos rfl, pl_at h hk, if_pos (Nat.lt_succ_self k)]
  · rw [if_neg hxk]
    have hne : plN ws x ≠ k := fun e => hxk (by rw [← e, (pl_wN h hx).2])
    by_cases h1 : plN ws x < k
    · rw [if_pos (by omega), if_pos h1]
    · rw [if_neg (by omega), if_neg h1]
theorem plF_full {xs ws : List Int} (h : LinX xs ws) : mkL xs.length (plF ws xs.length) = mkL xs.length (plN ws) :=
  mkL_congr fun x hx => by unfold plF; rw [if_pos (pl_wN h hx).1]
/-- where x goes, as far as t elements of the chain tell -/
def AtX (ch P : List Int) (n pl x t : Nat) (a : Int) : Prop := (∃ j : Nat, a = (j : Int) ∧ j < n ∧ wN P j = x) ∨ (a = (pl : Int) - 1 ∧ ∀ s, s < t → ch.getD s 0 ≠ (x : Int))
theorem AtX.start (ch P : List Int) (n pl x : Nat) : AtX ch P n pl x 0 ((pl : Int) - 1) := .inr ⟨rfl, fun s hs => by omega⟩
theorem AtX.miss {ch P : List Int} {n pl x t : Nat} {a : Int} (h : AtX ch P n pl x t a) (hn : ch.getD t 0 ≠ (x : Int)) : AtX ch P n pl x (t + 1) a := by
  rcases h with h | ⟨h1, h2⟩
  · exact .inl h
  · refine .inr ⟨h1, fun s hs => ?_⟩
    rcases Nat.lt_or_ge s t with h3 | h3
    · exact h2 s h3
    · rw [show s = t by omega]; exact hn
theorem AtX.hit {ch P : List Int} {n pl x t j : Nat} (h1 : j < n) (h2 : wN P j = x) : AtX ch P n pl x t (j : Int) := .inl ⟨j, rfl, h1, h2⟩
theorem AtX.fin {xs ws : List Int} (hg : good xs = true) (h : LinX xs ws) {x t : Nat} {a : Int} (hx : x < xs.length) (ht : t = (sliL xs ws).length) (h0 : AtX (sliL xs ws) (pro1 xs ws) xs.length (plN ws x) x t a) : ∃ j : Nat, a = (j : Int) ∧ j < xs.length ∧ wN (pro1 xs ws) j = x := by
  rcases h0 with h0 | ⟨h1, h2⟩
  · exact h0
  · have hm : (x : Int) ∉ sliL xs ws := fun hm => by
      obtain ⟨s, hs, e⟩ := List.mem_iff_getElem.1 hm
      exact h2 s (by omega) (by simp [List.getD, hs, e])
    obtain ⟨j, e1, e2, e3⟩ := at_other hg h hx hm
    exact ⟨j, by omega, by omega, e3⟩
/-- one toggle, and a toggle back -/
theorem togFacts {xs ws : List Int} {i : Int} (h : okTL xs ws i = true) : ∃ D : List Int, ∃ n : Nat, okLin xs ws = true ∧ ws.length = n ∧ n ≤ 10 ∧ ansTL xs ws i = D ∧ okTL xs D i = true ∧ ansTL xs D i = ws ∧ okLin xs D = true ∧ D.length = n := by
  have h' := h
  simp only [okTL, Bool.and_eq_true, decide_eq_true_eq] at h'
  obtain ⟨hl, h1, h2⟩ := h'
  have hg := (okLin_all hl).1
  have hX := okLin_X hl
  have hn := hX.len
  obtain ⟨k, rfl⟩ := Int.eq_ofNat_of_zero_le h1
  have hk : k + 1 < xs.length := by omega
  have hD := hX.tog hk
  have oD := okLin_of hg hD
  have o2 : okTL xs (togL xs ws k) (k : Int) = true := okTL_yes oD (by rw [decide_eq_true (by omega), decide_eq_true (by rw [hD.len]; omega)]; rfl)
  refine ⟨togL xs ws k, ws.length, hl, rfl, by have := (good_length hg).2; omega, ?_, o2, ?_, oD, by rw [hD.len, hn]⟩
  · rw [ansTL_yes h]
  · rw [ansTL_yes o2]; exact hX.tog_tog hk
theorem LinX.orp {xs ws : List Int} (h : LinX xs ws) (hp : 1 ≤ xs.length) : LinX xs (orp1 xs ws) := by
  have := (h.evaL.pro hp).evaL
  rw [eva_turn h hp] at this
  exact this
theorem pro_turn {xs : List Int} (hp : 1 ≤ xs.length) : ∀ (k : Nat) {a : List Int}, LinX xs a → LinX xs (turnN (fun _ => pro1 xs) k a)
  | 0, _, ha => ha
  | k + 1, _, ha => (pro_turn hp k ha).pro hp
theorem orp_turn {xs : List Int} (hp : 1 ≤ xs.length) : ∀ (k : Nat) {a : List Int}, LinX xs a → LinX xs (turnN (fun _ => orp1 xs) k a)
  | 0, _, ha => ha
  | k + 1, _, ha => (orp_turn hp k ha).orp hp
theorem pro_orp {xs a : List Int} (ha : LinX xs a) (hp : 1 ≤ xs.length) : pro1 xs (orp1 xs a) = a := by
  have h1 := orp_pro' (ws := evaL xs a) ha.evaL hp
  rw [← eva_turn (ha.evaL.pro hp) hp] at h1
  have h2 := congrArg (evaL xs) h1
  rw [eva_eva (((ha.evaL.pro hp).evaL).pro hp), eva_eva ha, eva_turn ha hp] at h2
  exact h2
/-- promotions, and as many back -/
theorem promFacts {xs ws : List Int} {t : Int} (h : okPL xs ws t = true) : ∃ D : List Int, ∃ n : Nat, okLin xs ws = true ∧ ws.length = n ∧ n ≤ 10 ∧ (-100 ≤ t ∧ t ≤ 100) ∧ ansPL xs ws t = D ∧ okPL xs D (-t) = true ∧ ansPL xs D (-t) = ws ∧ okLin xs D = true ∧ D.length = n := by
  have h' := h
  simp only [okPL, Bool.and_eq_true, decide_eq_true_eq] at h'
  obtain ⟨hl, h1, h2⟩ := h'
  have hg := (okLin_all hl).1
  have hX := okLin_X hl
  have hp := (good_length hg).1
  have hU : ∀ (k : Nat) (a : List Int), LinX xs a → LinX xs (turnN (fun _ => pro1 xs) k a) := fun k a ha => pro_turn hp k ha
  have hO : ∀ (k : Nat) (a : List Int), LinX xs a → LinX xs (turnN (fun _ => orp1 xs) k a) := fun k a ha => orp_turn hp k ha
  have hpo : ∀ a, LinX xs a → pro1 xs (orp1 xs a) = a := fun a ha => pro_orp ha hp
  have hstep : ∀ (f : List Int → List Int) (k : Nat) (a : List Int), turnN (fun _ => f) (k + 1) a = turnN (fun _ => f) k (f a) := by
    intro f k
    induction k with
    | zero => exact fun a => rfl
    | succ k ih => intro a; rw [turnN, ih a]; rfl
  have hUO : ∀ (k : Nat) (a : List Int), LinX xs a → turnN (fun _ => orp1 xs) k (turnN (fun _ => pro1 xs) k a) = a := by
    intro k
    induction k with
    | zero => exact fun a ha => rfl
    | succ k ih => intro a ha; rw [hstep (orp1 xs), turnN, orp_pro' (hU k a ha) hp, ih a ha]
  have hOU : ∀ (k : Nat) (a : List Int), LinX xs a → turnN (fun _ => pro1 xs) k (turnN (fun _ => orp1 xs) k a) = a := by
    intro k
    induction k with
    | zero => exact fun a ha => rfl
    | succ k ih => intro a ha; rw [hstep (pro1 xs), turnN, hpo _ (hO k a ha), ih a ha]
  have hn := hX.len
  have hD : LinX xs (proL xs t ws) := by
    unfold proL; split
    · exact hO _ _ hX
    · exact hU _ _ hX
  have hB : proL xs (-t) (proL xs t ws) = ws := by
    rcases (by omega : t < 0 ∨ t = 0 ∨ 0 < t) with h0 | h0 | h0
    · obtain ⟨k, hk⟩ : ∃ k : Nat, -t = (k : Int) := ⟨(-t).toNat, by omega⟩
      rw [proL_neg h0, hk, proL_nat, show (k : Int).toNat = k from rfl]; exact hOU k ws hX
    · subst h0; rfl
    · obtain ⟨k, hk⟩ : ∃ k : Nat, t = (k : Int) := ⟨t.toNat, by omega⟩
      rw [hk, proL_nat, proL_neg (by omega), show (-(-(k : Int))).toNat = k by omega]; exact hUO k ws hX
  have oD := okLin_of hg hD
  have o2 : okPL xs (proL xs t ws) (-t) = true := okPL_of oD (by omega) (by omega)
  refine ⟨proL xs t ws, ws.length, hl, rfl, by have := (good_length hg).2; omega, ⟨h1, h2⟩, ansPL_yes h, o2, ?_, oD, by rw [hD.len, hn]⟩
  rw [ansPL_yes o2, hB]
/-- what the slide asks -/
theorem slideFacts {xs ws : List Int} (h : okLin xs ws = true) : ∃ P : List Int, ∃ n : Nat, good xs = true ∧ LinX xs ws ∧ LinX xs P ∧ xs.length = n ∧ ws.length = n ∧ 1 ≤ n ∧ n ≤ 10 ∧ okPL xs ws 1 = true ∧ ansPL xs ws 1 = P ∧ P.length = n ∧ pro1 xs ws = P ∧ upL xs (n - 1) ws = P ∧
    (∀ k, k + 1 < n → okTL xs (upL xs k ws) (k : Int) = true ∧ ansTL xs (upL xs k ws) (k : Int) = upL xs (k + 1) ws ∧ (upL xs k ws).length = n) := by
  have hg := (okLin_all h).1
  have hX := okLin_X h
  have h1 := (good_length hg).1
  have o1 : okPL xs ws 1 = true := okPL_of h (by omega) (by omega)
  refine ⟨pro1 xs ws, xs.length, hg, hX, hX.pro h1, rfl, hX.len, h1, (good_length hg).2, o1, by rw [ansPL_yes o1, proL_one], (hX.pro h1).len, rfl, rfl, fun k hk => ?_⟩
  have hK := hX.up k (by omega)
  have o2 : okTL xs (upL xs k ws) (k : Int) = true := okTL_yes (okLin_of hg hK) (by rw [decide_eq_true (by omega), decide_eq_true (by rw [hK.len]; omega)]; rfl)
  exact ⟨o2, by rw [ansTL_yes o2]; rfl, hK.len⟩
end Go.Proofs.Ytpdoheagfjeefaa

/- ToggleLinear, PromoteLinear, EvacuateLinear, CoevacuateLinear of the program. -/
namespace Go.Proofs.Ytpdoheagfjeefaa
open Go.RowKit Go.WideShapes Go.ChangeShapes
set_option linter.unusedVariables false

theorem implToggleLinear_any (v : Value) (xs : List Int) (u : Value) (ws : List Int) (i : Int) (w : World) (hv : Ints w v xs) (hl : xs.length ≤ 1048576) (hu : Ints w u ws) (hm : ws.length ≤ 1048576) (wf : (Lit.int .i64 i).wf = true) :
    Calls Try.prog 47 #[.agg #[v], u, .int .i64 i] w fun (r : Ending) w' => ∃ q, r = Ending.returned (.tuple #[q, .bool (okTL xs ws i)]) ∧ OwnI 3 w' w.heap.size q (ansTL xs ws i) ∧ (ansTL xs ws i).length ≤ 1048576 ∧ Below w.heap.size w w' := by
  have HV := hid hv
  have HU := hid hu
  have HL := hid (ansTL_length xs ws i)
  obtain ⟨A, c, rfl, -⟩ := hu
  clear hv wf
  go_enter Try.func47, Try.ntmps47
  have HB := hid (below_alloc (Below.refl _ w) (.cells #[v] 26))
  have A0 := hid (At.newAt w v 26 w.heap.size (by simp))
  go_wp2_with fail
  refine (hasLinear_any _ _ xs ws _ (HV.out.below HB.out) hl (HU.out.below HB.out) hm).mono ?_
  rintro e w' ⟨rfl, hb⟩
  replace HB := hid (below_to HB.out hb)
  replace A0 := hid (A0.out.below hb)
  clear hb
  cases hq : okLin xs ws
  · have HO := hid (okTL_no1 (i := i) hq)
    clear hq
    have ebox0 := A0.out.1
    go_wp2
    go_ret2
    exact ⟨_, ret_vbL HO.out.symm, by rw [ansTL_no HO.out]; exact OwnI.nil _ _ _, HL.out, HB.out⟩
  · have HQ := hid hq
    have HLw := hid (okLin_Lw hq)
    have HG := hid (okLin_all hq).1
    clear hq
    have e2 : IntKind.i64.wrap ((ws.length : Int) - 2) = (ws.length : Int) - 2 := IntWalk.i64_in _ (by omega)
    by_cases h0 : i < 0
    · have HO := hid (okTL_no2 (xs := xs) (ws := ws) (i := i) (by rw [Bool.eq_false_iff]; simp; omega))
      have ebox0 := A0.out.1
      go_wp2
      go_ret2
      exact ⟨_, ret_vbL HO.out.symm, by rw [ansTL_no HO.out]; exact OwnI.nil _ _ _, HL.out, HB.out⟩
    · by_cases h2 : (ws.length : Int) - 2 < i
      · have HO := hid (okTL_no2 (xs := xs) (ws := ws) (i := i) (by rw [Bool.eq_false_iff]; simp; omega))
        have ebox0 := A0.out.1
        go_wp2
        go_ret2
        exact ⟨_, ret_vbL HO.out.symm, by rw [ansTL_no HO.out]; exact OwnI.nil _ _ _, HL.out, HB.out⟩
      · have HO := hid (okTL_yes HQ.out (i := i) (by simp; omega))
        have hz := HB.out.size
        obtain ⟨z, rfl⟩ := Int.eq_ofNat_of_zero_le (show 0 ≤ i by omega)
        have hz2 : z + 1 < xs.length := by have := HLw.out.len; omega
        have HY := hid (ansTL_yes HO.out)
        have ebox0 := A0.out.1
        go_wp2_with fail
        clear ebox0 e2 h0 h2
        refine (swapAt_any v xs z _ (HV.out.below HB.out) HG.out hz2).mono ?_
        rintro e w2 ⟨fn, caps, rfl, hS, hb2⟩
        have HS := hid hS
        have HU2 := hid ((HU.out.below HB.out).below hb2)
        have HB2 := hid (below_to HB.out hb2)
        have hz3 := HB2.out.size
        have hl10 := (good_length HG.out).2
        clear hS hb2
        go_wp2_with fail
        refine (swapped_any _ xs ws fn caps _ _ _ HU2.out HLw.out hl10 HS.out).mono ?_
        rintro e w3 ⟨q, rfl, ho, hb3⟩
        have HO3 := hid (ho.mono hz3)
        have HB3 := hid (below_to HB2.out hb3)
        clear ho hb3
        go_wp2
        go_ret2
        exact ⟨_, ret_vbL HO.out.symm, by rw [HY.out]; exact HO3.out, HL.out, HB3.out⟩
theorem implPromoteLinear_any (v : Value) (xs : List Int) (u : Value) (ws : List Int) (t : Int) (w : World) (hv : Ints w v xs) (hl : xs.length ≤ 1048576) (hu : Ints w u ws) (hm : ws.length ≤ 1048576) (wf : (Lit.int .i64 t).wf = true) :
    Calls Try.prog 22 #[.agg #[v], u, .int .i64 t] w fun (r : Ending) w' => ∃ q, r = Ending.returned (.tuple #[q, .bool (okPL xs ws t)]) ∧ OwnI 3 w' w.heap.size q (ansPL xs ws t) ∧ (ansPL xs ws t).length ≤ 1048576 ∧ Below w.heap.size w w' := by
  have HV := hid hv
  have HU := hid hu
  have HL := hid (ansPL_length xs ws t)
  obtain ⟨A, c, rfl, -⟩ := hu
  clear hv wf
  go_enter Try.func22, Try.ntmps22
  have HB := hid (below_alloc (Below.refl _ w) (.cells #[v] 26))
  have A0 := hid (At.newAt w v 26 w.heap.size (by simp))
  go_wp2_with fail
  refine (hasLinear_any _ _ xs ws _ (HV.out.below HB.out) hl (HU.out.below HB.out) hm).mono ?_
  rintro e w' ⟨rfl, hb⟩
  replace HB := hid (below_to HB.out hb)
  replace A0 := hid (A0.out.below hb)
  clear hb
  cases hq : okLin xs ws
  · have HO := hid (okPL_no1 (t := t) hq)
    clear hq
    have ebox0 := A0.out.1
    go_wp2
    go_ret2
    exact ⟨_, ret_vbL HO.out.symm, by rw [ansPL_no HO.out]; exact OwnI.nil _ _ _, HL.out, HB.out⟩
  · have HQ := hid hq
    have HLw := hid (okLin_Lw hq)
    have HG := hid (okLin_all hq).1
    clear hq
    by_cases h0 : t < -100
    · have HO := hid (okPL_no2 (xs := xs) (ws := ws) (t := t) (by rw [Bool.eq_false_iff]; simp; omega))
      have ebox0 := A0.out.1
      go_wp2
      go_ret2
      exact ⟨_, ret_vbL HO.out.symm, by rw [ansPL_no HO.out]; exact OwnI.nil _ _ _, HL.out, HB.out⟩
    · by_cases h2 : 100 < t
      · have HO := hid (okPL_no2 (xs := xs) (ws := ws) (t := t) (by rw [Bool.eq_false_iff]; simp; omega))
        have ebox0 := A0.out.1
        go_wp2
        go_ret2
        exact ⟨_, ret_vbL HO.out.symm, by rw [ansPL_no HO.out]; exact OwnI.nil _ _ _, HL.out, HB.out⟩
      · have HO := hid (okPL_yes HQ.out (t := t) (by simp; omega))
        have hz := HB.out.size
        have HY := hid (ansPL_yes HO.out)
        have ht1 : -100 ≤ t := by omega
        have ht2 : t ≤ 100 := by omega
        have ebox0 := A0.out.1
        go_wp2_with fail
        clear ebox0 h0 h2
        refine (promotions_any v xs t _ (HV.out.below HB.out) HG.out ht1 ht2).mono ?_
        rintro e w2 ⟨fn, caps, rfl, hS, hb2⟩
        have HS := hid hS
        have HU2 := hid ((HU.out.below HB.out).below hb2)
        have HB2 := hid (below_to HB.out hb2)
        have hz3 := HB2.out.size
        have hl10 := (good_length HG.out).2
        clear hS hb2
        go_wp2_with fail
        refine (swapped_any _ xs ws fn caps _ _ _ HU2.out HLw.out hl10 HS.out).mono ?_
        rintro e w3 ⟨q, rfl, ho, hb3⟩
        have HO3 := hid (ho.mono hz3)
        have HB3 := hid (below_to HB2.out hb3)
        clear ho hb3
        go_wp2
        go_ret2
        exact ⟨_, ret_vbL HO.out.symm, by rw [HY.out]; exact HO3.out, HL.out, HB3.out⟩
theorem implEvacuateLinear_any (v : Value) (xs : List Int) (u : Value) (ws : List Int) (w : World) (hv : Ints w v xs) (hl : xs.length ≤ 1048576) (hu : Ints w u ws) (hm : ws.length ≤ 1048576) :
    Calls Try.prog 10 #[.agg #[v], u] w fun (r : Ending) w' => ∃ q, r = Ending.returned (.tuple #[q, .bool (okLin xs ws)]) ∧ OwnI 3 w' w.heap.size q (ansEL xs ws) ∧ (ansEL xs ws).length ≤ 1048576 ∧ Below w.heap.size w w' := by
  have HV := hid hv
  have HU := hid hu
  have HL := hid (ansEL_length xs ws)
  obtain ⟨A, c, rfl, -⟩ := hu
  clear hv
  go_enter Try.func10, Try.ntmps10
  have HB := hid (below_alloc (Below.refl _ w) (.cells #[v] 26))
  have A0 := hid (At.newAt w v 26 w.heap.size (by simp))
  go_wp2_with fail
  refine (hasLinear_any _ _ xs ws _ (HV.out.below HB.out) hl (HU.out.below HB.out) hm).mono ?_
  rintro e w' ⟨rfl, hb⟩
  replace HB := hid (below_to HB.out hb)
  replace A0 := hid (A0.out.below hb)
  clear hb
  cases hq : okLin xs ws
  · have HO := hid hq
    clear hq
    have ebox0 := A0.out.1
    go_wp2
    go_ret2
    exact ⟨_, ret_vbL HO.out.symm, by rw [ansEL_no HO.out]; exact OwnI.nil _ _ _, HL.out, HB.out⟩
  · have HO := hid hq
    have HLw := hid (okLin_Lw hq)
    have HG := hid (okLin_all hq).1
    have HY := hid (ansEL_yes hq)
    clear hq
    have ebox0 := A0.out.1
    go_wp2_with fail
    clear ebox0
    refine (evacuation_any v xs _ (HV.out.below HB.out) HG.out).mono ?_
    rintro e w2 ⟨fn, caps, rfl, hS, hb2⟩
    have HS := hid hS
    have HU2 := hid ((HU.out.below HB.out).below hb2)
    have HB2 := hid (below_to HB.out hb2)
    have hz3 := HB2.out.size
    have hl10 := (good_length HG.out).2
    clear hS hb2
    go_wp2_with fail
    refine (swapped_any _ xs ws fn caps _ _ _ HU2.out HLw.out hl10 HS.out).mono ?_
    rintro e w3 ⟨q, rfl, ho, hb3⟩
    have HO3 := hid (ho.mono hz3)
    have HB3 := hid (below_to HB2.out hb3)
    clear ho hb3
    go_wp2
    go_ret2
    exact ⟨_, ret_vbL HO.out.symm, by rw [HY.out]; exact HO3.out, HL.out, HB3.out⟩
theorem implCoevacuateLinear_any (v : Value) (xs : List Int) (u : Value) (ws : List Int) (w : World) (hv : Ints w v xs) (hl : xs.length ≤ 1048576) (hu : Ints w u ws) (hm : ws.length ≤ 1048576) :
    Calls Try.prog 12 #[.agg #[v], u] w fun (r : Ending) w' => ∃ q, r = Ending.returned (.tuple #[q, .bool (okLin xs ws)]) ∧ OwnI 3 w' w.heap.size q (ansCL xs ws) ∧ (ansCL xs ws).length ≤ 1048576 ∧ Below w.heap.size w w' := by
  have HV := hid hv
  have HU := hid hu
  have HL := hid (ansCL_length xs ws)
  obtain ⟨A, c, rfl, -⟩ := hu
  clear hv
  go_enter Try.func12, Try.ntmps12
  have HB := hid (below_alloc (Below.refl _ w) (.cells #[v] 26))
  have A0 := hid (At.newAt w v 26 w.heap.size (by simp))
  go_wp2_with fail
  refine (hasLinear_any _ _ xs ws _ (HV.out.below HB.out) hl (HU.out.below HB.out) hm).mono ?_
  rintro e w' ⟨rfl, hb⟩
  replace HB := hid (below_to HB.out hb)
  replace A0 := hid (A0.out.below hb)
  clear hb
  cases hq : okLin xs ws
  · have HO := hid hq
    clear hq
    have ebox0 := A0.out.1
    go_wp2
    go_ret2
    exact ⟨_, ret_vbL HO.out.symm, by rw [ansCL_no HO.out]; exact OwnI.nil _ _ _, HL.out, HB.out⟩
  · have HO := hid hq
    have HLw := hid (okLin_Lw hq)
    have HG := hid (okLin_all hq).1
    have HY := hid (ansCL_yes hq)
    clear hq
    have ebox0 := A0.out.1
    go_wp2_with fail
    clear ebox0
    refine (coevacuation_any v xs _ (HV.out.below HB.out) HG.out).mono ?_
    rintro e w2 ⟨fn, caps, rfl, hS, hb2⟩
    have HS := hid hS
    have HU2 := hid ((HU.out.below HB.out).below hb2)
    have HB2 := hid (below_to HB.out hb2)
    have hz3 := HB2.out.size
    have hl10 := (good_length HG.out).2
    clear hS hb2
    go_wp2_with fail
    refine (swapped_any _ xs ws fn caps _ _ _ HU2.out HLw.out hl10 HS.out).mono ?_
    rintro e w3 ⟨q, rfl, ho, hb3⟩
    have HO3 := hid (ho.mono hz3)
    have HB3 := hid (below_to HB2.out hb3)
    clear ho hb3
    go_wp2
    go_ret2
    exact ⟨_, ret_vbL HO.out.symm, by rw [HY.out]; exact HO3.out, HL.out, HB3.out⟩
end Go.Proofs.Ytpdoheagfjeefaa
