/- Texts Tr, RvS, Tg3, RvT, one behind the other. -/
import Derived.RegionTactic
import Derived.Deep.AppendLies
import Derived.Deep.RegionHeld3
import Derived.Test.YtdemikjaghegnaaGreatPkRowvacuationProof05
import Derived.Test.YtdemikjaghegnaaGreatPkRowvacuationProof10
import Derived.Test.YtdemikjaghegnaaGreatPkRowvacuationProof11
import Derived.Test.YtdemikjaghegnaaGreatPkRowvacuationProof12
import Derived.Test.YtdemikjaghegnaaGreatPkRowvacuationProof14
/- Rowmotion by toggles from above, in any order; antichains carried. No program is named here. · Rowmotion undone; orders there are; complements as differences. No program is named here. -/
namespace Go.Proofs.YtdemikjaghegnaaGreat
set_option linter.unusedVariables false

theorem rowmo_bit (xs : List Int) (s e : Nat) : (rowmo xs s).testBit e = true ↔ ∃ f, f < xs.length ∧ rowP xs s f = true ∧ (f = e ∨ (row xs f).testBit e = true) := by
  rw [rowmo, orN_testBit]
  constructor
  · rintro ⟨f, hf, hp, hb⟩
    rw [rowG, Nat.testBit_or, Bool.or_eq_true, Nat.testBit_two_pow] at hb
    exact ⟨f, hf, hp, hb.imp (fun h => by simpa using h) id⟩
  · rintro ⟨f, hf, hp, hb⟩
    refine ⟨f, hf, hp, ?_⟩
    rw [rowG, Nat.testBit_or, Bool.or_eq_true, Nat.testBit_two_pow]
    exact hb.imp (fun h => by simpa using h) id
theorem tog_step {xs : List Int} (hg : good xs = true) {s t e : Nat} (ht : holdsIdeal xs t = true) (he : e < xs.length)
    (hlow : ∀ j, (row xs e).testBit j = true → t.testBit j = s.testBit j)
    (hup : ∀ f, f < xs.length → (row xs f).testBit e = true → t.testBit f = (rowmo xs s).testBit f)
    (hte : t.testBit e = s.testBit e) (i : Nat) : (tog xs t e).testBit i = if i = e then (rowmo xs s).testBit e else t.testBit i := by
  have hx : ∀ i, (t ^^^ 2 ^ e).testBit i = if i = e then !t.testBit e else t.testBit i := xor_bit t e
  cases hse : s.testBit e
  · rw [hse] at hte
    cases hp : rowP xs s e
    · have hR : (rowmo xs s).testBit e = false := by
        rw [Bool.eq_false_iff]
        intro h
        obtain ⟨f, hf, hpf, h1 | h1⟩ := (rowmo_bit xs s e).1 h
        · subst h1; rw [hp] at hpf; cases hpf
        · have := (rowP_iff.1 hpf).2 e h1; rw [hse] at this; cases this
      have hn : holdsIdeal xs (t ^^^ 2 ^ e) = false := by
        rw [Bool.eq_false_iff]
        intro h
        have h2 := holdsIdeal_row.1 h e he (by rw [hx, if_pos rfl, hte]; rfl)
        have h4 : rowP xs s e = true := rowP_iff.2 ⟨hse, fun j hj => by
          have h3 := h2 j hj
          have hlt := row_less hg he hj
          rw [hx, if_neg (by omega)] at h3
          rw [← hlow j hj]; exact h3⟩
        rw [hp] at h4; cases h4
      rw [tog_no hn]
      by_cases h : i = e
      · subst h; rw [if_pos rfl, hte, hR]
      · rw [if_neg h]
    · have hR : (rowmo xs s).testBit e = true := (rowmo_bit xs s e).2 ⟨e, he, hp, .inl rfl⟩
      have hy : holdsIdeal xs (t ^^^ 2 ^ e) = true := by
        refine holdsIdeal_row.2 fun f hf hb j hj => ?_
        rw [hx] at hb ⊢
        by_cases hje : j = e
        · rw [if_pos hje, hte]; rfl
        · rw [if_neg hje]
          by_cases hfe : f = e
          · subst hfe; rw [hlow j hj]; exact (rowP_iff.1 hp).2 j hj
          · rw [if_neg hfe] at hb
            exact holdsIdeal_row.1 ht f hf hb j hj
      rw [tog_yes hy, hx]
      by_cases h : i = e
      · rw [if_pos h, if_pos h, hte, hR]; rfl
      · rw [if_neg h, if_neg h]
  · rw [hse] at hte
    by_cases hc : ∃ f, f < xs.length ∧ (row xs f).testBit e = true ∧ (rowmo xs s).testBit f = true
    · obtain ⟨f, hf, hfe, hRf⟩ := hc
      have hR : (rowmo xs s).testBit e = true := holdsIdeal_row.1 (rowmo_ideal hg s) f hf hRf e hfe
      have hn : holdsIdeal xs (t ^^^ 2 ^ e) = false := by
        rw [Bool.eq_false_iff]
        intro h
        have hlt := row_less hg hf hfe
        have h2 := holdsIdeal_row.1 h f hf (by rw [hx, if_neg (by omega), hup f hf hfe]; exact hRf) e hfe
        rw [hx, if_pos rfl, hte] at h2
        cases h2
      rw [tog_no hn]
      by_cases h : i = e
      · subst h; rw [if_pos rfl, hte, hR]
      · rw [if_neg h]
    · have hR : (rowmo xs s).testBit e = false := by
        rw [Bool.eq_false_iff]
        intro h
        obtain ⟨f, hf, hpf, h1 | h1⟩ := (rowmo_bit xs s e).1 h
        · subst h1; rw [(rowP_iff.1 hpf).1] at hse; cases hse
        · exact hc ⟨f, hf, h1, (rowmo_bit xs s f).2 ⟨f, hf, hpf, .inl rfl⟩⟩
      have hy : holdsIdeal xs (t ^^^ 2 ^ e) = true := by
        refine holdsIdeal_row.2 fun f hf hb j hj => ?_
        rw [hx] at hb ⊢
        by_cases hfe : f = e
        · rw [if_pos hfe, hte] at hb; cases hb
        · rw [if_neg hfe] at hb
          by_cases hje : j = e
          · subst hje
            exact absurd ⟨f, hf, hj, by rw [← hup f hf hj]; exact hb⟩ hc
          · rw [if_neg hje]
            exact holdsIdeal_row.1 ht f hf hb j hj
      rw [tog_yes hy, hx]
      by_cases h : i = e
      · rw [if_pos h, if_pos h, hte, hR]; rfl
      · rw [if_neg h, if_neg h]
def revT (xs ys : List Int) (s k : Nat) : Nat := togW xs s (ys.drop k).reverse
theorem revT_step {xs ys : List Int} {s k : Nat} (hk : k < ys.length) : revT xs ys s k = tog xs (revT xs ys s (k + 1)) (wN ys k) := by
  unfold revT
  rw [List.drop_eq_getElem_cons hk, List.reverse_cons, togW, List.foldl_append]
  simp only [List.foldl_cons, List.foldl_nil, togW, wN]
  rw [show ys.getD k 0 = ys[k] from by simp [List.getD, hk]]
theorem revT_bits {xs ys : List Int} (hg : good xs = true) {s : Nat} (hs : s < 2 ^ xs.length) (hi : holdsIdeal xs s = true) (h : LinX xs ys) : ∀ d k, d + k = xs.length → holdsIdeal xs (revT xs ys s k) = true ∧ ∀ e, e < xs.length → (revT xs ys s k).testBit e = if (stL ys k).testBit e = true then s.testBit e else (rowmo xs s).testBit e := by
  intro d
  induction d with
  | zero =>
    intro k hk
    obtain rfl : k = xs.length := by omega
    have e0 : revT xs ys s xs.length = s := by
      unfold revT
      rw [← h.len, List.drop_length]; rfl
    rw [e0]
    refine ⟨hi, fun e he => ?_⟩
    rw [h.full, Nat.testBit_two_pow_sub_one]
    simp [he]
  | succ d ih =>
    intro k hk
    obtain ⟨h1, h2⟩ := ih (k + 1) (by omega)
    have hkl : k < xs.length := by omega
    obtain ⟨hr1, hr2⟩ := h.rng k hkl
    have hst : ∀ i, (stL ys (k + 1)).testBit i = true ↔ (stL ys k).testBit i = true ∨ i = wN ys k := by
      intro i
      rw [stL, Nat.testBit_or, Bool.or_eq_true, Nat.testBit_two_pow]
      constructor
      · exact fun hh => hh.imp id fun h3 => by simp at h3; exact h3.symm
      · exact fun hh => hh.imp id fun h3 => by simp [h3]
    have hnk : (stL ys k).testBit (wN ys k) = false := by
      rw [Bool.eq_false_iff]
      intro hb
      obtain ⟨j, hj, e⟩ := (stL_bit ys k _).1 hb
      exact h.ne hj hkl e
    rw [revT_step (by rw [h.len]; exact hkl)]
    refine ⟨tog_ideal h1, fun e he => ?_⟩
    rw [tog_step hg h1 hr2 (s := s) ?_ ?_ ?_ e]
    · by_cases hee : e = wN ys k
      · rw [if_pos hee, hee, hnk]; simp
      · rw [if_neg hee, h2 e he]
        by_cases hb : (stL ys k).testBit e = true
        · rw [if_pos ((hst e).2 (Or.inl hb)), if_pos hb]
        · rw [if_neg (fun hh => ((hst e).1 hh).elim hb hee), if_neg hb]
    · intro j hj
      obtain ⟨i, hik, hie⟩ := h.before hkl hj
      have hjl : j < xs.length := by have := row_less hg hr2 hj; omega
      rw [h2 j hjl, if_pos ((hst j).2 (Or.inl ((stL_bit ys k j).2 ⟨i, hik, hie⟩)))]
    · intro f hf hfe
      rw [h2 f hf, if_neg ?_]
      intro hb
      rcases (hst f).1 hb with hb | hb
      · obtain ⟨j, hj, e1⟩ := (stL_bit ys k f).1 hb
        obtain ⟨i, hij, hie⟩ := h.before (k := j) (j := wN ys k) (by omega) (by rw [e1]; exact hfe)
        exact h.ne (show i < k by omega) hkl hie
      · have := row_less hg hf hfe; omega
    · rw [h2 _ hr2, if_pos ((hst _).2 (Or.inr rfl))]
theorem togW_order {xs ys : List Int} (hg : good xs = true) {s : Nat} (hs : s < 2 ^ xs.length) (hi : holdsIdeal xs s = true) (h : orderB xs ys = true) : togW xs s ys.reverse = rowmo xs s := by
  have hb := (revT_bits hg hs hi (orderB_LinX h) xs.length 0 (by omega)).2
  have e0 : revT xs ys s 0 = togW xs s ys.reverse := rfl
  rw [e0] at hb
  apply Nat.eq_of_testBit_eq
  intro i
  by_cases hil : i < xs.length
  · rw [hb i hil]; simp [stL]
  · have hz : ∀ z, z < 2 ^ xs.length → z.testBit i = false := fun z hz => by
      rw [Bool.eq_false_iff]; intro hb2; exact hil (testBit_lt hz hb2)
    rw [hz _ (rowmo_lt hg s), hz _ (togW_lt hs ?_)]
    have := (orderB_word h).2
    unfold inW at this ⊢
    rw [List.all_eq_true] at this ⊢
    exact fun y hy => this y (List.mem_reverse.1 hy)
/-- what the next ideal's greatest elements are -/
theorem top_rowmo {xs : List Int} (hg : good xs = true) (s : Nat) : top xs (rowmo xs s) = bottom xs (compl xs.length s) := by
  rw [← rowmo_spec hg s, top_down_eq hg (bottom_anti xs _)]
/-- rowmotion of antichains is that of their ideals -/
theorem acRow_top {xs : List Int} (hg : good xs = true) {s : Nat} (hs : s < 2 ^ xs.length) (hi : holdsIdeal xs s = true) : top xs (rowmo xs (down xs (top xs s))) = top xs (rowmo xs s) := by
  rw [down_top hg hs hi]
end Go.Proofs.YtdemikjaghegnaaGreat
namespace Go.Proofs.YtdemikjaghegnaaGreat
set_option linter.unusedVariables false

theorem rowmo_topB {xs : List Int} (hg : good xs = true) {s : Nat} (hs : holdsIdeal xs s = true) {e : Nat} (he : e < xs.length) : rowP xs s e = (top xs (rowmo xs s)).testBit e := by
  rw [Bool.eq_iff_iff, rowmo_top hg hs he, top_bit]
  refine and_congr_right fun h => ⟨fun hh => ?_, fun hh i hi hr => ?_⟩
  · rintro ⟨i, hi, h1, h2⟩
    rw [hh i hi h1] at h2; cases h2
  · rw [Bool.eq_false_iff]
    intro h2
    exact hh ⟨i, hi, hr, h2⟩
theorem rowba_bit (xs : List Int) (s e : Nat) : (rowba xs s).testBit e = true ↔ e < xs.length ∧ backP xs (top xs s) e = true := by
  rw [rowba, orN_testBit]
  constructor
  · rintro ⟨f, hf, hp, hb⟩
    rw [Nat.testBit_two_pow] at hb
    obtain rfl : f = e := by simpa using hb
    exact ⟨hf, hp⟩
  · rintro ⟨he, hp⟩
    exact ⟨e, he, hp, by rw [Nat.testBit_two_pow]; simp⟩
theorem backP_iff {xs : List Int} {t e : Nat} : backP xs t e = true ↔ t.testBit e = false ∧ ∀ j, (row xs e).testBit j = true → t.testBit j = false := by
  simp only [backP, Bool.and_eq_true, Bool.not_eq_true', beq_iff_eq]
  refine and_congr_right fun _ => ⟨fun h j hj => and_zero_bit h hj, fun h => ?_⟩
  apply Nat.eq_of_testBit_eq
  intro j
  rw [Nat.testBit_and, Nat.zero_testBit]
  cases hj : (row xs e).testBit j
  · rfl
  · rw [h j hj]; rfl
theorem rowba_rowmo {xs : List Int} (hg : good xs = true) {s : Nat} (hs : s < 2 ^ xs.length) (hi : holdsIdeal xs s = true) : rowba xs (rowmo xs s) = s := by
  apply Nat.eq_of_testBit_eq
  intro e
  by_cases he : e < xs.length
  · have hrow : ∀ j, (row xs e).testBit j = true → j < xs.length := fun j hj => by have := row_less hg he hj; omega
    have hkey := out_iff hg hi (e + 1) e (by omega) he
    have hb : (rowba xs (rowmo xs s)).testBit e = true ↔ ¬ (rowP xs s e = true ∨ ∃ j, (row xs e).testBit j = true ∧ rowP xs s j = true) := by
      rw [rowba_bit, backP_iff]
      constructor
      · rintro ⟨-, h1, h2⟩ (h3 | ⟨j, hj, h3⟩)
        · rw [rowmo_topB hg hi he, h1] at h3; cases h3
        · rw [rowmo_topB hg hi (hrow j hj), h2 j hj] at h3; cases h3
      · intro h
        refine ⟨he, ?_, fun j hj => ?_⟩
        · rw [← rowmo_topB hg hi he, Bool.eq_false_iff]; exact fun h3 => h (Or.inl h3)
        · rw [← rowmo_topB hg hi (hrow j hj), Bool.eq_false_iff]; exact fun h3 => h (Or.inr ⟨j, hj, h3⟩)
    rw [← hkey] at hb
    rw [Bool.eq_iff_iff, hb]
    simp
  · have hz : ∀ z, z < 2 ^ xs.length → z.testBit e = false := fun z hz => by
      rw [Bool.eq_false_iff]; intro hb2; exact he (testBit_lt hz hb2)
    rw [hz _ (rowba_lt xs _), hz _ hs]
theorem rowmo_rowba {xs : List Int} (hg : good xs = true) {s : Nat} (hs : s < 2 ^ xs.length) (hi : holdsIdeal xs s = true) : rowmo xs (rowba xs s) = s := by
  have hm := rowMov hg
  have hD := idB_iff.2 ⟨hs, hi⟩
  obtain ⟨h1, h2, -, -⟩ := hm.perS hD
  obtain ⟨p, hp⟩ : ∃ p, per (rowmo xs) (2 ^ xs.length) s = p + 1 := ⟨per (rowmo xs) (2 ^ xs.length) s - 1, by omega⟩
  rw [hp] at h1
  have h3 : rowmo xs (iter (rowmo xs) p s) = s := h1
  have h4 := idB_iff.1 (hm.it hD p)
  have h5 := rowba_rowmo hg h4.1 h4.2
  rw [h3] at h5
  rw [h5, h3]
theorem iter_comm2 (f : Nat → Nat) (k s : Nat) : iter f k (f s) = f (iter f k s) := by
  induction k with
  | zero => rfl
  | succ k ih => exact congrArg f ih
theorem iter_back {f b : Nat → Nat} {D : Nat → Bool} (hf : ∀ s, D s = true → D (f s) = true) (hb : ∀ s, D s = true → b (f s) = s) {s : Nat} (hs : D s = true) (k : Nat) : D (iter f k s) = true ∧ iter b k (iter f k s) = s := by
  induction k with
  | zero => exact ⟨hs, rfl⟩
  | succ k ih =>
    refine ⟨hf _ ih.1, ?_⟩
    show b (iter b k (f (iter f k s))) = s
    rw [← iter_comm2 b k, hb _ ih.1, ih.2]
/-- rowmotion n times, and back -/
theorem rowmo_back {xs : List Int} (hg : good xs = true) {s : Nat} (hs : s < 2 ^ xs.length) (hi : holdsIdeal xs s = true) (k : Nat) :
    (iter (rowmo xs) k s < 2 ^ xs.length ∧ holdsIdeal xs (iter (rowmo xs) k s) = true ∧ iter (rowba xs) k (iter (rowmo xs) k s) = s) ∧
    (iter (rowba xs) k s < 2 ^ xs.length ∧ holdsIdeal xs (iter (rowba xs) k s) = true ∧ iter (rowmo xs) k (iter (rowba xs) k s) = s) := by
  have h1 := iter_back (f := rowmo xs) (b := rowba xs) (D := idB xs) (fun s h => idB_iff.2 ⟨rowmo_lt hg s, rowmo_ideal hg s⟩) (fun s h => rowba_rowmo hg (idB_iff.1 h).1 (idB_iff.1 h).2) (idB_iff.2 ⟨hs, hi⟩) k
  have h2 := iter_back (f := rowba xs) (b := rowmo xs) (D := idB xs) (fun s h => idB_iff.2 ⟨rowba_lt xs s, rowba_ideal hg s⟩) (fun s h => rowmo_rowba hg (idB_iff.1 h).1 (idB_iff.1 h).2) (idB_iff.2 ⟨hs, hi⟩) k
  exact ⟨⟨(idB_iff.1 h1.1).1, (idB_iff.1 h1.1).2, h1.2⟩, ⟨(idB_iff.1 h2.1).1, (idB_iff.1 h2.1).2, h2.2⟩⟩
/-- a complement as a difference -/
theorem compl_sub {n s : Nat} (hs : s < 2 ^ n) : compl n s = 2 ^ n - 1 - s := by
  apply Nat.eq_of_testBit_eq
  intro i
  rw [compl_testBit, show 2 ^ n - 1 - s = 2 ^ n - (s + 1) from by omega, Nat.testBit_two_pow_sub_succ hs]
/-- each ideal has an order -/
theorem ways_some {xs : List Int} (hg : good xs = true) : ∀ (m t : Nat), t ≤ m → t < 2 ^ xs.length → holdsIdeal xs t = true → 1 ≤ ways xs t := by
  intro m
  induction m with
  | zero =>
    intro t ht _ _
    obtain rfl : t = 0 := by omega
    rw [ways_zero]; exact Nat.le_refl _
  | succ m ih =>
    intro t ht hl hi
    by_cases h0 : t = 0
    · subst h0; rw [ways_zero]; exact Nat.le_refl _
    · obtain ⟨e, he⟩ := some_bit (top_some hg hl h0)
      have hbt := ((top_bit xs t e).1 he).1
      have hel := testBit_lt hl hbt
      obtain ⟨h1, h2⟩ := top_down hg hi hel he
      have hlt := xor_lt_self hbt
      have h3 := ih (t ^^^ 2 ^ e) (by omega) (by omega) h1
      rw [ways_pos h0]
      have hp : predP xs t e = true := by
        rw [predP, hbt, Bool.true_and, beq_iff_eq, sub_eq_zero]
        intro j hj
        have hne := row_less hg hel hj
        rw [xor_bit, if_neg (by omega)]
        exact holdsIdeal_row.1 hi e hel hbt j hj
      have hw : wterm xs t e = ways xs (t ^^^ 2 ^ e) := by rw [wterm, if_pos hp]
      have hmono : ∀ k, e < k → wterm xs t e ≤ sumN (wterm xs t) k := by
        intro k hk
        induction k with
        | zero => omega
        | succ k ihk =>
          rw [sumN]
          by_cases hek : e = k
          · subst hek; omega
          · have := ihk (by omega); omega
      have := hmono xs.length hel
      omega
theorem orders_some {xs : List Int} (hg : good xs = true) : 1 ≤ ordersN xs := by
  have hp := Nat.two_pow_pos xs.length
  exact ways_some hg _ _ (Nat.le_refl _) (by omega) (full_ideal hg)
end Go.Proofs.YtdemikjaghegnaaGreat

/- Ranks in the model: ranks, toggles of ranks, words of ranks. -/
namespace Go.Proofs.YtdemikjaghegnaaGreat
open Go.RowKit Go.WideShapes Go.ChangeShapes
set_option linter.unusedVariables false

theorem OwnI.storedR {e : TypeId} {w : World} {B g n c : Nat} {xs : List Int} (h : OwnI e w B (.slice (some ⟨g, 0, none⟩) n c) xs) (j : Nat) (y : Int) : OwnI e (w.setCell ⟨g, j, none⟩ (.int .i64 y)) B (.slice (some ⟨g, 0, none⟩) n c) (xs.set j y) := by
  obtain ⟨A, c', e', -⟩ := h.shape
  injection e' with e1 e2 e3
  subst e2
  have h' : w.ownsRow B e 1 (.slice (some ⟨g, 0, none⟩) xs.length c) xs.length (xs.map (Value.int .i64)) := h
  have := (h'.stored j (.int .i64 y)).1
  unfold OwnI
  rw [List.length_set, List.map_set]
  exact this
theorem OwnI.cellR {e : TypeId} {w : World} {B g n c : Nat} {xs : List Int} (h : OwnI e w B (.slice (some ⟨g, 0, none⟩) n c) xs) {j : Nat} (hj : j < xs.length) : w.cell? ⟨g, j, none⟩ = some (.int .i64 (xs.getD j 0)) ∧ w.frozen? ⟨g, j, none⟩ = false := by
  obtain ⟨A, c', e', -⟩ := h.shape
  injection e' with e1 e2 e3
  subst e2
  have h' : w.ownsRow B e 1 (.slice (some ⟨g, 0, none⟩) xs.length c) xs.length (xs.map (Value.int .i64)) := h
  refine ⟨?_, h'.frozenAt j⟩
  rw [h'.cellAt j (by omega)]
  simp [List.getD, hj]
theorem OwnI.blockR {e : TypeId} {w : World} {B : Nat} {v : Value} {xs : List Int} (h : OwnI e w B v xs) (hx : 0 < xs.length) : ∃ g c, v = .slice (some ⟨g, 0, none⟩) xs.length c ∧ B ≤ g ∧ g < w.heap.size := by
  obtain ⟨g, c, e1, h1, h2⟩ := World.ownsRow.form h hx
  exact ⟨g, c, e1, h1, h2⟩
def lenQ : Value → Nat
  | .slice _ n _ => n
  | _ => 0
theorem lenQ_own {e : TypeId} {w : World} {B : Nat} {v : Value} {xs : List Int} (h : OwnI e w B v xs) : lenQ v = xs.length := by
  obtain ⟨_, _, rfl, -⟩ := h.shape; rfl
set_option maxHeartbeats 1600000 in
theorem rvRanks_any (v : Value) (xs : List Int) (w : World) (hv : Ints w v xs) (hg : good xs = true) :
    Calls Tryz.prog 53 #[.agg #[v]] w fun (r : Ending) w' => ∃ u, r = Ending.returned u ∧ OwnI 3 w' w.heap.size u (rankL xs) ∧ Below w.heap.size w w' := by
  have HV := hid hv
  have HG := hid hg
  have hl10 := (good_length hg).2
  have HN := hid (heights_nat hg)
  have HML := hid (fun k => rkM_le (fun e => (heights_nat hg e).2) k)
  clear hv hg
  go_enter Tryz.func53, Tryz.ntmps53
  have HB := hid (below_alloc (Below.refl _ w) (.cells #[v] 26))
  have A0 := hid (At.newAt w v 26 w.heap.size (by simp))
  go_wp2_with fail
  refine (poHeights_any _ xs _ (HV.out.below HB.out) HG.out).mono ?_
  rintro e w' ⟨u, rfl, ho, hb⟩
  replace HB := hid (below_to HB.out hb)
  replace A0 := hid (A0.out.below hb)
  clear hb
  have hz := HB.out.size
  have HI := hid ho.ints
  have hlen := heights_len HG.out
  have HEnd : Hid (rankL xs = rkQ (heightsL xs) xs.length (rkM (heightsL xs) xs.length)) := hid rfl
  obtain ⟨ls, hls⟩ : ∃ ls, heightsL xs = ls := ⟨_, rfl⟩
  rw [hls] at HI HN HML HEnd hlen
  obtain ⟨A, c, rfl, hA⟩ := HI.out
  have HA := hid hA
  rw [← hlen] at HEnd hl10
  clear ho HI hA hls hlen
  go_wp2
  go_loopw [4, 11] (fun q i wr => ∃ k : Nat, k ≤ ls.length ∧ i = .int .i64 k ∧ OwnI 3 wr w'.heap.size q (rkQ ls k (rkM ls k)) ∧ Below w'.heap.size w' wr) (fun _ i _ => ls.length - (intOf i).toNat)
  case atStart => exact ⟨0, Nat.zero_le _, rfl, OwnI.nil _ _ _, Below.refl _ _⟩
  case round =>
    obtain ⟨k, hk, rfl, ho, hb⟩ := hrel
    have HO := hid ho
    have HB1 := hid hb
    by_cases hlt : k < ls.length
    · obtain ⟨b, o, rfl, hbl, hc⟩ := HA.out (by intro h; simp [h] at hlt)
      have hcell : wr.cell? ⟨b, o + k, none⟩ = some (.int .i64 (ls.getD k 0)) := (hb.cell (p := ⟨b, o + k, none⟩) hbl).trans (hc k hlt)
      obtain ⟨hn1, hn2⟩ := HN.out k
      have hMk := HML.out k
      have HMd : Hid (rkM ls (k + 1) = max (rkM ls k) ((ls.getD k 0).toNat + 1)) := hid rfl
      obtain ⟨h, hh⟩ : ∃ h, (ls.getD k 0).toNat = h := ⟨_, rfl⟩
      rw [hh] at hn1 hn2 HMd
      rw [hn1] at hcell
      have HH := hid hh
      clear hc ho hb hn1 hh
      go_wp2
      go_loopw [4] (fun q wi => ∃ m : Nat, rkM ls k ≤ m ∧ m ≤ max (rkM ls k) (h + 1) ∧ OwnI 3 wi w'.heap.size q (rkQ ls k m) ∧ Below w'.heap.size w' wi) (fun q _ => h + 1 - lenQ q)
      case atStart => exact ⟨rkM ls k, Nat.le_refl _, Nat.le_max_left _ _, HO.out, HB1.out⟩
      case round =>
        obtain ⟨m, hm1, hm2, ho, hb⟩ := hrel
        have HO2 := hid ho
        have HB2 := hid hb
        have hz2 := hb.size
        obtain ⟨qA, qc, rfl, -⟩ := ho.shape
        rw [rkQ_length] at HO2 ⊢
        clear ho hb
        by_cases hmh : m ≤ h
        · have hl48 : (rkQ ls k m).length < 1048576 := by rw [rkQ_length]; omega
          go_wp2_with (at_builtin; refine wpList_append_int rfl _ _ 24 3 rfl Tryz.underlying24 Tryz.info3 w'.heap.size _ _ 0 rfl HO2.out rfl rfl hl48 hz2 ?_; rintro q2 w6 ho6 hb6)
          have HGw := hid (rkQ_grow ls (k := k) (m := m) hm1)
          have hq2 := lenQ_own ho6
          rw [List.length_append, rkQ_length] at hq2
          go_roundw
          case rel => exact ⟨m + 1, by omega, by omega, (by rw [← HGw.out]; exact ho6), HB2.out.trans hb6⟩
          case measure => rw [hq2]; simp [lenQ]; omega
        · have hMe : m = rkM ls (k + 1) := by rw [HMd.out]; omega
          obtain ⟨g, c2, hsh, hg1, hg2⟩ := HO2.out.blockR (by rw [rkQ_length]; omega)
          rw [rkQ_length] at hsh
          cases hsh
          obtain ⟨t1, t2⟩ := HO2.out.cellR (j := h) (by rw [rkQ_length]; omega)
          rw [rkQ_get ls k (show h < m by omega)] at t1
          have hE := rkE_lt ls (Nat.le_refl k) h
          have HSet := hid (rkQ_set ls (k := k) (m := m) (i := h) HH.out (by omega))
          have hp9 := pow_lt10 k (by omega)
          obtain ⟨E, hEq⟩ : ∃ E, rkE ls k h = E := ⟨_, rfl⟩
          rw [hEq] at t1 hE HSet
          have wp := wrap_pow' k (by omega)
          have hor := or_pow E k (by omega) (by omega)
          have hhm : (h : Int) < m := by omega
          have hm10 : m ≤ 10 := by omega
          clear hEq hE hp9 hm1 hm2
          go_wp2
          go_region
          go_wp2
          go_roundw
          case rel => exact ⟨k + 1, by omega, by go_num, (by rw [← hMe, ← HSet.out]; exact (HO2.out.storedR h _).drew), (HB2.out.setCell (p := ⟨g, h, none⟩) hg1 _).drew⟩
          case measure => simp [intOf]; omega
    · obtain rfl : k = ls.length := by omega
      clear ho hb
      go_wp2
      go_ret
      exact ⟨_, rfl, (by rw [HEnd.out]; exact HO.out.mono hz), below_to HB.out HB1.out⟩
/-- is it a ranked poset, and one with the ideal? -/
def okRk (xs : List Int) : Bool := good xs && rankedB xs
def okRI (xs : List Int) (s : Int) : Bool := okRk xs && okIdeal xs s
theorem okRk_no {xs : List Int} (h : good xs = false) : okRk xs = false := by simp [okRk, h]
theorem okRk_yes {xs : List Int} (h : good xs = true) : okRk xs = rankedB xs := by simp [okRk, h]
theorem okRk_good {xs : List Int} (h : okRk xs = true) : good xs = true ∧ rankedB xs = true := by simpa [okRk] using h
theorem okRI_no {xs : List Int} {s : Int} (h : okRk xs = false) : okRI xs s = false := by simp [okRI, h]
theorem okRI_yes {xs : List Int} {s : Int} (h : okRk xs = true) : okRI xs s = okIdeal xs s := by simp [okRI, h]
theorem okRI_all {xs : List Int} {s : Int} (h : okRI xs s = true) : ∃ z : Nat, s = (z : Int) ∧ good xs = true ∧ rankedB xs = true ∧ z < 2 ^ xs.length ∧ holdsIdeal xs z = true := by
  have h1 : okRk xs = true ∧ okIdeal xs s = true := by simpa [okRI] using h
  obtain ⟨z, h2, h3, h4, h5⟩ := okIdeal_all h1.2
  exact ⟨z, h2, h3, (okRk_good h1.1).2, h4, h5⟩
theorem rvGood_any (v : Value) (xs : List Int) (w : World) (hv : Ints w v xs) (hl : xs.length ≤ 1048576) :
    Calls Tryz.prog 69 #[.agg #[v]] w fun r w' => r = .returned (.bool (okRk xs)) ∧ Below w.heap.size w w' := by
  have HV := hid hv
  clear hv
  go_enter Tryz.func69, Tryz.ntmps69
  have HB := hid (below_alloc (Below.refl _ w) (.cells #[v] 26))
  have A0 := hid (At.newAt w v 26 w.heap.size (by simp))
  go_wp2_with fail
  refine (poGood_any _ xs _ (HV.out.below HB.out) hl).mono ?_
  rintro e w' ⟨rfl, hb⟩
  replace HB := hid (below_to HB.out hb)
  replace A0 := hid (A0.out.below hb)
  clear hb
  cases hq : good xs
  · have HQ := hid hq
    clear hq
    have ebox0 := A0.out.1
    go_wp2
    go_ret
    exact ⟨ret_bool (okRk_no HQ.out).symm, HB.out⟩
  · have HQ := hid hq
    clear hq
    have ebox0 := A0.out.1
    go_wp2_with fail
    clear ebox0
    refine (poRanked_any _ xs _ (HV.out.below HB.out) HQ.out).mono ?_
    rintro e w' ⟨rfl, hb⟩
    replace HB := hid (below_to HB.out hb)
    replace A0 := hid (A0.out.below hb)
    clear hb
    cases hr : rankedB xs
    · have HR := hid hr
      clear hr
      have ebox0 := A0.out.1
      go_wp2
      go_ret
      exact ⟨ret_bool (by rw [okRk_yes HQ.out, HR.out]), HB.out⟩
    · have HR := hid hr
      clear hr
      have ebox0 := A0.out.1
      go_wp2
      go_ret
      exact ⟨ret_bool (by rw [okRk_yes HQ.out, HR.out]), HB.out⟩
theorem rvIn_any (v : Value) (xs : List Int) (s : Int) (w : World) (hv : Ints w v xs) (hl : xs.length ≤ 1048576) :
    Calls Tryz.prog 52 #[.agg #[v], .int .i64 s] w fun r w' => r = .returned (.bool (okRI xs s)) ∧ Below w.heap.size w w' := by
  have HV := hid hv
  clear hv
  go_enter Tryz.func52, Tryz.ntmps52
  have HB := hid (below_alloc (Below.refl _ w) (.cells #[v] 26))
  have A0 := hid (At.newAt w v 26 w.heap.size (by simp))
  go_wp2_with fail
  refine (rvGood_any _ xs _ (HV.out.below HB.out) hl).mono ?_
  rintro e w' ⟨rfl, hb⟩
  replace HB := hid (below_to HB.out hb)
  replace A0 := hid (A0.out.below hb)
  clear hb
  cases hq : okRk xs
  · have HQ := hid hq
    clear hq
    have ebox0 := A0.out.1
    go_wp2
    go_ret
    exact ⟨ret_bool (okRI_no HQ.out).symm, HB.out⟩
  · have HQ := hid hq
    have HG := hid (okRk_good hq).1
    clear hq
    have ebox0 := A0.out.1
    go_wp2_with fail
    clear ebox0
    refine (poSet_ok _ xs s _ (HV.out.below HB.out) HG.out).mono ?_
    rintro e w' ⟨rfl, hb⟩
    replace HB := hid (below_to HB.out hb)
    replace A0 := hid (A0.out.below hb)
    clear hb
    cases hs : okSet xs s
    · have HS := hid hs
      clear hs
      have ebox0 := A0.out.1
      go_wp2
      go_ret
      exact ⟨ret_bool (by rw [okRI_yes HQ.out, okIdeal_no HS.out]), HB.out⟩
    · have HS := hid hs
      obtain ⟨z, rfl⟩ := Int.eq_ofNat_of_zero_le (okSet_lt hs).1
      have hz := (okSet_lt hs).2
      have HI := hid (okIdeal_nat hs)
      clear hs
      have ebox0 := A0.out.1
      go_wp2_with fail
      clear ebox0
      refine (poIdeal_any _ xs z _ (HV.out.below HB.out) (good_length HG.out).2 (by omega) (good_small HG.out z)).mono ?_
      rintro e w' ⟨rfl, hb⟩
      replace HB := hid (below_to HB.out hb)
      replace A0 := hid (A0.out.below hb)
      clear hb
      cases hi : holdsIdeal xs z
      · have HJ := hid hi
        clear hi
        have ebox0 := A0.out.1
        go_wp2
        go_ret
        exact ⟨ret_bool (by rw [okRI_yes HQ.out, HI.out, HJ.out]), HB.out⟩
      · have HJ := hid hi
        clear hi
        have ebox0 := A0.out.1
        go_wp2
        go_ret
        exact ⟨ret_bool (by rw [okRI_yes HQ.out, HI.out, HJ.out]), HB.out⟩
theorem rvAt_any (v : Value) (xs : List Int) (s r : Nat) (w : World) (hv : Ints w v xs) (hg : good xs = true) (hs : s < 2 ^ xs.length) (hr : r < 1024) :
    Calls Tryz.prog 104 #[.agg #[v], .int .i64 s, .int .i64 r] w fun q w' => q = .returned (.int .i64 (togW xs s (elL xs.length r) : Nat)) ∧ Below w.heap.size w w' := by
  have HV := hid hv
  have HG := hid hg
  have HN := hid hs
  have hl10 := (good_length hg).2
  have HIn : Hid (∀ k, k ≤ xs.length → inW xs.length (elL k r) = true) := hid (fun k hk => List.all_eq_true.2 fun y hy => by
    obtain ⟨e, he, rfl⟩ := List.mem_map.1 hy
    have := (elN_mem.1 he).1
    simp; omega)
  obtain ⟨A, c, rfl, -⟩ := hv
  clear hg hs
  go_enter Tryz.func104, Tryz.ntmps104
  have HB := hid (below_alloc (Below.refl _ w) (.cells #[(.slice A xs.length c)] 26))
  have A0 := hid (At.newAt w (.slice A xs.length c) 26 w.heap.size (by simp))
  go_wp2
  go_loopw [1, 11] (fun q i wr => ∃ k t : Nat, k ≤ xs.length ∧ i = .int .i64 k ∧ q = .int .i64 (t : Nat) ∧ Hid (togW xs s (elL k r) = t) ∧ Below w.heap.size w wr ∧ At wr w.heap.size (.slice A xs.length c)) (fun _ i _ => xs.length - (intOf i).toNat)
  case atStart => exact ⟨0, s, Nat.zero_le _, rfl, rfl, hid rfl, HB.out, A0.out⟩
  case round =>
    obtain ⟨k, t, hk, rfl, rfl, HT, hb, ha⟩ := hrel
    have HB1 := hid hb
    have HA1 := hid ha
    by_cases hlt : k < xs.length
    · cases hbit : r.testBit k
      · have HBit := hid hbit
        clear hbit hb ha
        go_wp2_with (go_at_call 127; refine (poIn_any r k (by omega) _).mono ?_; rw [HBit.out]; rintro e w' ⟨rfl, rfl⟩)
        go_roundw
        case rel => exact ⟨k + 1, t, by omega, by go_num, rfl, hid (by rw [elL_no HBit.out]; exact HT.out), HB1.out, HA1.out⟩
        case measure => simp [intOf]; omega
      · have HBit := hid hbit
        have hl2 : togW xs s (elL k r) < 2 ^ xs.length := togW_lt HN.out (HIn.out k hk)
        have HL := hid (show t < 2 ^ xs.length by rw [← HT.out]; exact hl2)
        have hbox := ha.1
        clear hbit hb ha hl2
        go_wp2_with (go_at_call 127; refine (poIn_any r k (by omega) _).mono ?_; rw [HBit.out]; rintro e w' ⟨rfl, rfl⟩)
        clear hbox
        refine (tgAt_any _ xs t k _ (HV.out.below HB1.out) HG.out HL.out hlt).mono ?_
        rintro e' w' ⟨rfl, hb⟩
        have HB2 := hid (below_to HB1.out hb)
        have HA2 := hid (HA1.out.below hb)
        clear hb
        go_wp2
        go_roundw
        case rel => exact ⟨k + 1, _, by omega, by go_num, rfl, hid (by rw [elL_yes HBit.out, togW_app, HT.out]; rfl), HB2.out, HA2.out⟩
        case measure => simp [intOf]; omega
    · obtain rfl : k = xs.length := by omega
      clear hb ha
      go_wp2
      go_ret
      exact ⟨ret_int (by rw [← HT.out]), HB1.out⟩
end Go.Proofs.YtdemikjaghegnaaGreat

/- ToggleAt, CanToggle. -/
namespace Go.Proofs.YtdemikjaghegnaaGreat
open Go.RowKit Go.WideShapes Go.ChangeShapes
set_option linter.unusedVariables false

theorem okWord_one (xs : List Int) (e : Int) : okWord xs [e] = (decide (0 ≤ e) && decide (e < xs.length)) := by
  simp [okWord, inW]
theorem togW_one (xs : List Int) (s : Nat) (e : Nat) : togW xs s [(e : Int)] = tog xs s e := by simp [togW]
/-! ### CanToggle -/
def ansCT (xs : List Int) (s : Int) : Int := if okIdeal xs s then (canT xs s.toNat xs.length : Int) else 0
theorem ansCT_no {xs : List Int} {s : Int} (h : okIdeal xs s = false) : ansCT xs s = 0 := by simp [ansCT, h]
theorem ansCT_yes {xs : List Int} {z : Nat} (h : okIdeal xs z = true) : ansCT xs z = (canT xs z xs.length : Int) := by simp [ansCT, h]
end Go.Proofs.YtdemikjaghegnaaGreat

/- Words of ranks in the model. -/
namespace Go.Proofs.YtdemikjaghegnaaGreat
open Go.RowKit Go.WideShapes Go.ChangeShapes
set_option linter.unusedVariables false

theorem rank_facts {xs : List Int} (hg : good xs = true) {i : Nat} (hi : i < rkN xs) : ∃ r : Nat, (rankL xs).getD i 0 = (r : Int) ∧ r < 2 ^ xs.length ∧ r < 1024 ∧ elL 10 ((rankL xs).getD i 0).toNat = elL xs.length r := by
  have h1 := rkE_lt (heightsL xs) (Nat.le_refl xs.length) i
  refine ⟨_, rankL_get hi, h1, lt1024 h1 (good_length hg).2, ?_⟩
  rw [rankL_get hi, Int.toNat_natCast]
  exact elL_ten h1 (good_length hg).2
structure SR (w : World) (b : Nat) (v : Value) (W : World) : Prop where
  at_ : At W b v
  below : Below w.heap.size w W
theorem SR.drew {w : World} {b : Nat} {v : Value} {W : World} (h : SR w b v W) : SR w b v W.drew := ⟨h.at_.drew, h.below.drew⟩
theorem SR.to {w : World} {b : Nat} {v : Value} {W W' : World} (h : SR w b v W) (hb : Below W.heap.size W W') : SR w b v W' := ⟨h.at_.below hb, below_to h.below hb⟩
theorem rvAt_SR (v : Value) (xs : List Int) (w0 : World) (b s r : Nat) (W : World) (hv : Ints w0 v xs) (hg : good xs = true) (hS : SR w0 b v W) (hs : s < 2 ^ xs.length) (hr : r < 1024) :
    Calls Tryz.prog 104 #[.agg #[v], .int .i64 s, .int .i64 r] W fun q w' => q = .returned (.int .i64 (togW xs s (elL xs.length r) : Nat)) ∧ SR w0 b v w' :=
  (rvAt_any v xs s r W (hv.below hS.below) hg hs hr).mono fun _ _ ⟨h1, h2⟩ => ⟨h1, hS.to h2⟩
set_option maxHeartbeats 1600000 in
theorem rvWord_any (v u : Value) (xs ws : List Int) (s : Nat) (w : World) (hv : Ints w v xs) (hu : Ints w u ws) (hg : good xs = true) (hs : s < 2 ^ xs.length) (hw : inW (rkN xs) ws = true) (hm : ws.length ≤ 1048576) :
    Calls Tryz.prog 54 #[.agg #[v], .int .i64 s, u] w fun q w' => q = .returned (.int .i64 (togW xs s (rkW (rankL xs) ws) : Nat)) ∧ Below w.heap.size w w' := by
  have HV := hid hv
  have HU := hid hu
  have HG := hid hg
  have HN := hid hs
  have HW := hid hw
  have hr10 : rkN xs ≤ 10 := by have := rkN_bounds hg; have := good_length hg; omega
  have HLt := hid (fun k => togW_lt (xs := xs) hs (inW_rkW hg (inW_take k hw)))
  have HF := hid (fun i (hi : i < rkN xs) => rank_facts hg hi)
  obtain ⟨uA, uc, rfl, -⟩ := hu
  clear hv hg hs hw
  go_enter Tryz.func54, Tryz.ntmps54
  have HB := hid (below_alloc (Below.refl _ w) (.cells #[v] 26))
  have A0 := hid (At.newAt w v 26 w.heap.size (by simp))
  go_wp2_with fail
  refine (rvRanks_any _ xs _ (HV.out.below HB.out) HG.out).mono ?_
  rintro e w' ⟨q, rfl, ho, hb⟩
  replace HB := hid (below_to HB.out hb)
  replace A0 := hid (A0.out.below hb)
  clear hb
  have HI := hid ho.ints
  obtain ⟨qA, qc, rfl, hqA⟩ := HI.out
  rw [rankL_length] at hqA ⊢
  have HQ := hid hqA
  have HV1 := hid (HV.out.below HB.out)
  have HU1 := hid (HU.out.below HB.out)
  obtain ⟨_, _, he, hUA⟩ := HU1.out
  cases he
  have HUA := hid hUA
  have HS0 := hid (show SR w' w.heap.size v w' from ⟨A0.out, Below.refl _ _⟩)
  have hz := HB.out.size
  clear ho HI hqA hUA
  go_wp2
  go_loopw [1, 14] (fun q i wr => ∃ k t : Nat, k ≤ ws.length ∧ i = .int .i64 k ∧ q = .int .i64 t ∧ Hid (togW xs s (rkW (rankL xs) (ws.take k)) = t) ∧ SR w' w.heap.size v wr) (fun _ i _ => ws.length - (intOf i).toNat)
  case atStart => exact ⟨0, s, Nat.zero_le _, rfl, rfl, hid rfl, HS0.out⟩
  case round =>
    obtain ⟨k, t, hk, rfl, rfl, HT, hS⟩ := hrel
    have HS := hid hS
    by_cases hlt : k < ws.length
    · obtain ⟨b, o, rfl, hbl, hc⟩ := HUA.out (by intro h; simp [h] at hlt)
      have hcell : wr.cell? ⟨b, o + k, none⟩ = some (.int .i64 (ws.getD k 0)) := (hS.below.cell (p := ⟨b, o + k, none⟩) hbl).trans (hc k hlt)
      have hin := inW_at HW.out hlt
      have HTk := hid (rkW_take (rankL xs) ws hlt)
      obtain ⟨x, hx⟩ : ∃ x, ws.getD k 0 = x := ⟨_, rfl⟩
      rw [hx] at hcell hin HTk
      obtain ⟨i, rfl⟩ := Int.eq_ofNat_of_zero_le hin.1
      have hi1 : i < rkN xs := by omega
      obtain ⟨r, hr1, hr2, hr3, hr4⟩ := HF.out i hi1
      rw [Int.toNat_natCast, hr4] at HTk
      have hne : rankL xs ≠ [] := by intro h; have := rankL_length xs; rw [h] at this; simp at this; omega
      obtain ⟨b2, o2, rfl, hbl2, hc2⟩ := HQ.out hne
      have HC2 : Hid (∀ W : World, SR w' w.heap.size v W → W.cell? ⟨b2, o2 + i, none⟩ = some (.int .i64 r)) := hid (fun W h => by rw [(h.below.cell (p := ⟨b2, o2 + i, none⟩) hbl2).trans (hc2 i hi1), hr1])
      have hcr := HC2.out _ hS
      have HL := hid (show t < 2 ^ xs.length by rw [← HT.out]; exact HLt.out k)
      have hbox := hS.at_.1
      have hix : (i : Int) < rkN xs := by omega
      clear hc hc2 hx hS hin hr1 hr2 hr4 hne hbl hbl2
      go_wp2_with fail
      go_region_held3 (fun W => W.cell? ⟨w.heap.size, 0, none⟩ = some v ∧ W.cell? ⟨b2, o2 + i, none⟩ = some (.int .i64 r) ∧ Hid (SR w' w.heap.size v W)) (first | exact ⟨HS.out.drew.at_.1, hcr, hid HS.out.drew⟩ | exact ⟨HS2.out.at_.1, HC2.out _ HS2.out, HS2⟩) (first | (go_at_call 104; refine (rvAt_SR v xs w' w.heap.size _ _ _ HV1.out HG.out (Hid.out (by first | assumption | exact hid HS.out.drew)) HL.out hr3).mono ?_; rintro e' w4 ⟨rfl, hs4⟩; have HS2 := hid hs4; clear hs4))
      go_wp2
      go_roundw
      case rel => exact ⟨k + 1, _, by omega, by go_num, rfl, hid (by rw [HTk.out, togW_app, HT.out]), HS2.out⟩
      case measure => simp [intOf]; omega
    · obtain rfl : k = ws.length := by omega
      clear hS
      go_wp2
      go_ret
      exact ⟨ret_int (by rw [← HT.out, List.take_length]), below_to HB.out HS.out.below⟩
/-! ### ToggleRank, ToggleRanks -/
def okTR (xs ws : List Int) (s : Int) : Bool := okRI xs s && (decide (ws.length ≤ 40) && inW (rkN xs) ws)
def ansTR (xs ws : List Int) (s : Int) : Int := if okTR xs ws s then (togW xs s.toNat (rkW (rankL xs) ws) : Int) else 0
theorem okTR_no1 {xs ws : List Int} {s : Int} (h : okRI xs s = false) : okTR xs ws s = false := by simp [okTR, h]
theorem okTR_no2 {xs ws : List Int} {s : Int} (h : ¬ ws.length ≤ 40) : okTR xs ws s = false := by simp [okTR, h]
theorem okTR_no3 {xs ws : List Int} {s : Int} (h : inW (rkN xs) ws = false) : okTR xs ws s = false := by simp [okTR, h]
theorem okTR_yes {xs ws : List Int} {s : Int} (h : okRI xs s = true) (h2 : ws.length ≤ 40) (h3 : inW (rkN xs) ws = true) : okTR xs ws s = true := by simp [okTR, h, h2, h3]
theorem ansTR_no {xs ws : List Int} {s : Int} (h : okTR xs ws s = false) : ansTR xs ws s = 0 := by simp [ansTR, h]
theorem ansTR_yes {xs ws : List Int} {z : Nat} (h : okTR xs ws z = true) : ansTR xs ws z = (togW xs z (rkW (rankL xs) ws) : Int) := by simp [ansTR, h]
theorem specToggleRanks_any (v : Value) (xs : List Int) (s : Int) (u : Value) (ws : List Int) (w : World) (hv : Ints w v xs) (hl : xs.length ≤ 1048576) (wf : (Lit.int .i64 s).wf = true) (hu : Ints w u ws) (hm : ws.length ≤ 1048576) :
    Calls Tryz.prog 17 #[.agg #[v], .int .i64 s, u] w fun r w' => r = .returned (.tuple #[.int .i64 (ansTR xs ws s), .bool (okTR xs ws s)]) ∧ Below w.heap.size w w' := by
  have HV := hid hv
  have HU := hid hu
  obtain ⟨uA, uc, rfl, -⟩ := hu
  clear hv wf
  go_enter Tryz.func17, Tryz.ntmps17
  have HB := hid (below_alloc (Below.refl _ w) (.cells #[v] 26))
  have A0 := hid (At.newAt w v 26 w.heap.size (by simp))
  go_wp2_with fail
  refine (rvIn_any _ xs s _ (HV.out.below HB.out) hl).mono ?_
  rintro e w' ⟨rfl, hb⟩
  replace HB := hid (below_to HB.out hb)
  replace A0 := hid (A0.out.below hb)
  clear hb
  cases hq : okRI xs s
  · have HO := hid (okTR_no1 (ws := ws) hq)
    clear hq
    have ebox0 := A0.out.1
    go_wp2
    go_ret2
    exact ⟨ret_ib (ansTR_no HO.out).symm HO.out.symm, HB.out⟩
  · have HQ := hid hq
    obtain ⟨z, rfl, hg, hr, hz, hi⟩ := okRI_all hq
    have HG := hid hg
    have HZ := hid hz
    have hn10 := rkN_bounds hg
    have hg10 := (good_length hg).2
    clear hq hg hr hz hi
    by_cases h40 : ws.length ≤ 40
    · skip
      have ebox0 := A0.out.1
      go_wp2_with fail
      clear ebox0
      refine (rvRanks_any _ xs _ (HV.out.below HB.out) HG.out).mono ?_
      rintro e w' ⟨q, rfl, ho, hb⟩
      replace HB := hid (below_to HB.out hb)
      replace A0 := hid (A0.out.below hb)
      clear hb
      obtain ⟨qA, qc, rfl, -⟩ := ho.shape
      rw [rankL_length]
      clear ho
      have ebox0 := A0.out.1
      go_wp2_with fail
      clear ebox0
      refine (l1All_any _ ws (rkN xs) _ (HU.out.below HB.out) hm (by omega)).mono ?_
      rintro e w' ⟨rfl, hb⟩
      replace HB := hid (below_to HB.out hb)
      replace A0 := hid (A0.out.below hb)
      clear hb
      cases hw : inW (rkN xs) ws
      · have HO := hid (okTR_no3 (s := (z : Int)) hw)
        clear hw
        have ebox0 := A0.out.1
        go_wp2
        go_ret2
        exact ⟨ret_ib (ansTR_no HO.out).symm HO.out.symm, HB.out⟩
      · have HO := hid (okTR_yes HQ.out h40 hw)
        have HW := hid hw
        clear hw
        have ebox0 := A0.out.1
        go_wp2_with fail
        clear ebox0
        refine (rvWord_any _ _ xs ws z _ (HV.out.below HB.out) (HU.out.below HB.out) HG.out HZ.out HW.out hm).mono ?_
        rintro e w' ⟨rfl, hb⟩
        replace HB := hid (below_to HB.out hb)
        replace A0 := hid (A0.out.below hb)
        clear hb
        have ebox0 := A0.out.1
        go_wp2
        go_ret2
        exact ⟨ret_ib (ansTR_yes HO.out).symm HO.out.symm, HB.out⟩
    · have HO := hid (okTR_no2 (xs := xs) (s := (z : Int)) h40)
      have ebox0 := A0.out.1
      go_wp2
      go_ret2
      exact ⟨ret_ib (ansTR_no HO.out).symm HO.out.symm, HB.out⟩
end Go.Proofs.YtdemikjaghegnaaGreat
