/- Texts Tr, DuaM, EvL, AddRow, RowsN, one behind the other. -/
import Derived.Test.YtpdoheagfjeefaaPkEvacuationProof01
import Derived.Test.YtpdoheagfjeefaaPkEvacuationProof02
import Derived.Test.YtpdoheagfjeefaaPkEvacuationProof08
import Derived.Test.YtpdoheagfjeefaaPkEvacuationProof11
import Derived.Test.YtpdoheagfjeefaaPkEvacuationProof12
import Derived.Test.YtpdoheagfjeefaaPkEvacuationProof13
import Derived.Test.YtpdoheagfjeefaaPkEvacuationProof14
/- Rowmotion by toggles from above, in any order; antichains carried. No program is named here. · Rowmotion undone; orders there are; complements as differences. No program is named here. -/
namespace Go.Proofs.Ytpdoheagfjeefaa
set_option linter.unusedVariables false

theorem rowmo_bit (xs : List Int) (s e : Nat) : (rowmo xs s).testBit e = true ↔ ∃ f, f < xs.length ∧ rowP xs s f = true ∧ (f = e ∨ (row xs f).testBit e = true) := by
  rw [rowmo, orN_testBit]
  constructor
  · rintro ⟨f, hf, hp, hb⟩
    rw [rowG, Nat.testBit_or, Bool.or_eq_true, Nat.testBit_two_pow] at hb
    exact ⟨f, hf, hp, hb.imp (fun h => by simpa using h) id⟩
  · rintro ⟨f, hf, hp, hb⟩
    refine ⟨f, hf, hp, ?_⟩
    rw [rowG, Nat.testBit_or, Bool.or_eq_true, Nat.testBit_two_pow]
    exact hb.imp (fun h => by simpa using h) id
theorem tog_step {xs : List Int} (hg : good xs = true) {s t e : Nat} (ht : holdsIdeal xs t = true) (he : e < xs.length)
    (hlow : ∀ j, (row xs e).testBit j = true → t.testBit j = s.testBit j)
    (hup : ∀ f, f < xs.length → (row xs f).testBit e = true → t.testBit f = (rowmo xs s).testBit f)
    (hte : t.testBit e = s.testBit e) (i : Nat) : (tog xs t e).testBit i = if i = e then (rowmo xs s).testBit e else t.testBit i := by
  have hx : ∀ i, (t ^^^ 2 ^ e).testBit i = if i = e then !t.testBit e else t.testBit i := xor_bit t e
  cases hse : s.testBit e
  · rw [hse] at hte
    cases hp : rowP xs s e
    · have hR : (rowmo xs s).testBit e = false := by
        rw [Bool.eq_false_iff]
        intro h
        obtain ⟨f, hf, hpf, h1 | h1⟩ := (rowmo_bit xs s e).1 h
        · subst h1; rw [hp] at hpf; cases hpf
        · have := (rowP_iff.1 hpf).2 e h1; rw [hse] at this; cases this
      have hn : holdsIdeal xs (t ^^^ 2 ^ e) = false := by
        rw [Bool.eq_false_iff]
        intro h
        have h2 := holdsIdeal_row.1 h e he (by rw [hx, if_pos rfl, hte]; rfl)
        have h4 : rowP xs s e = true := rowP_iff.2 ⟨hse, fun j hj => by
          have h3 := h2 j hj
          have hlt := row_less hg he hj
          rw [hx, if_neg (by omega)] at h3
          rw [← hlow j hj]; exact h3⟩
        rw [hp] at h4; cases h4
      rw [tog_no hn]
      by_cases h : i = e
      · subst h; rw [if_pos rfl, hte, hR]
      · rw [if_neg h]
    · have hR : (rowmo xs s).testBit e = true := (rowmo_bit xs s e).2 ⟨e, he, hp, .inl rfl⟩
      have hy : holdsIdeal xs (t ^^^ 2 ^ e) = true := by
        refine holdsIdeal_row.2 fun f hf hb j hj => ?_
        rw [hx] at hb ⊢
        by_cases hje : j = e
        · rw [if_pos hje, hte]; rfl
        · rw [if_neg hje]
          by_cases hfe : f = e
          · subst hfe; rw [hlow j hj]; exact (rowP_iff.1 hp).2 j hj
          · rw [if_neg hfe] at hb
            exact holdsIdeal_row.1 ht f hf hb j hj
      rw [tog_yes hy, hx]
      by_cases h : i = e
      · rw [if_pos h, if_pos h, hte, hR]; rfl
      · rw [if_neg h, if_neg h]
  · rw [hse] at hte
    by_cases hc : ∃ f, f < xs.length ∧ (row xs f).testBit e = true ∧ (rowmo xs s).testBit f = true
    · obtain ⟨f, hf, hfe, hRf⟩ := hc
      have hR : (rowmo xs s).testBit e = true := holdsIdeal_row.1 (rowmo_ideal hg s) f hf hRf e hfe
      have hn : holdsIdeal xs (t ^^^ 2 ^ e) = false := by
        rw [Bool.eq_false_iff]
        intro h
        have hlt := row_less hg hf hfe
        have h2 := holdsIdeal_row.1 h f hf (by rw [hx, if_neg (by omega), hup f hf hfe]; exact hRf) e hfe
        rw [hx, if_pos rfl, hte] at h2
        cases h2
      rw [tog_no hn]
      by_cases h : i = e
      · subst h; rw [if_pos rfl, hte, hR]
      · rw [if_neg h]
    · have hR : (rowmo xs s).testBit e = false := by
        rw [Bool.eq_false_iff]
        intro h
        obtain ⟨f, hf, hpf, h1 | h1⟩ := (rowmo_bit xs s e).1 h
        · subst h1; rw [(rowP_iff.1 hpf).1] at hse; cases hse
        · exact hc ⟨f, hf, h1, (rowmo_bit xs s f).2 ⟨f, hf, hpf, .inl rfl⟩⟩
      have hy : holdsIdeal xs (t ^^^ 2 ^ e) = true := by
        refine holdsIdeal_row.2 fun f hf hb j hj => ?_
        rw [hx] at hb ⊢
        by_cases hfe : f = e
        · rw [if_pos hfe, hte] at hb; cases hb
        · rw [if_neg hfe] at hb
          by_cases hje : j = e
          · subst hje
            exact absurd ⟨f, hf, hj, by rw [← hup f hf hj]; exact hb⟩ hc
          · rw [if_neg hje]
            exact holdsIdeal_row.1 ht f hf hb j hj
      rw [tog_yes hy, hx]
      by_cases h : i = e
      · rw [if_pos h, if_pos h, hte, hR]; rfl
      · rw [if_neg h, if_neg h]
def revT (xs ys : List Int) (s k : Nat) : Nat := togW xs s (ys.drop k).reverse
theorem revT_step {xs ys : List Int} {s k : Nat} (hk : k < ys.length) : revT xs ys s k = tog xs (revT xs ys s (k + 1)) (wN ys k) := by
  unfold revT
  rw [List.drop_eq_getElem_cons hk, List.reverse_cons, togW, List.foldl_append]
  simp only [List.foldl_cons, List.foldl_nil, togW, wN]
  rw [show ys.getD k 0 = ys[k] from by simp [List.getD, hk]]
theorem revT_bits {xs ys : List Int} (hg : good xs = true) {s : Nat} (hs : s < 2 ^ xs.length) (hi : holdsIdeal xs s = true) (h : LinX xs ys) : ∀ d k, d + k = xs.length → holdsIdeal xs (revT xs ys s k) = true ∧ ∀ e, e < xs.length → (revT xs ys s k).testBit e = if (stL ys k).testBit e = true then s.testBit e else (rowmo xs s).testBit e := by
  intro d
  induction d with
  | zero =>
    intro k hk
    obtain rfl : k = xs.length := by omega
    have e0 : revT xs ys s xs.length = s := by
      unfold revT
      rw [← h.len, List.drop_length]; rfl
    rw [e0]
    refine ⟨hi, fun e he => ?_⟩
    rw [h.full, Nat.testBit_two_pow_sub_one]
    simp [he]
  | succ d ih =>
    intro k hk
    obtain ⟨h1, h2⟩ := ih (k + 1) (by omega)
    have hkl : k < xs.length := by omega
    obtain ⟨hr1, hr2⟩ := h.rng k hkl
    have hst : ∀ i, (stL ys (k + 1)).testBit i = true ↔ (stL ys k).testBit i = true ∨ i = wN ys k := by
      intro i
      rw [stL, Nat.testBit_or, Bool.or_eq_true, Nat.testBit_two_pow]
      constructor
      · exact fun hh => hh.imp id fun h3 => by simp at h3; exact h3.symm
      · exact fun hh => hh.imp id fun h3 => by simp [h3]
    have hnk : (stL ys k).testBit (wN ys k) = false := by
      rw [Bool.eq_false_iff]
      intro hb
      obtain ⟨j, hj, e⟩ := (stL_bit ys k _).1 hb
      exact h.ne hj hkl e
    rw [revT_step (by rw [h.len]; exact hkl)]
    refine ⟨tog_ideal h1, fun e he => ?_⟩
    rw [tog_step hg h1 hr2 (s := s) ?_ ?_ ?_ e]
    · by_cases hee : e = wN ys k
      · rw [if_pos hee, hee, hnk]; simp
      · rw [if_neg hee, h2 e he]
        by_cases hb : (stL ys k).testBit e = true
        · rw [if_pos ((hst e).2 (Or.inl hb)), if_pos hb]
        · rw [if_neg (fun hh => ((hst e).1 hh).elim hb hee), if_neg hb]
    · intro j hj
      obtain ⟨i, hik, hie⟩ := h.before hkl hj
      have hjl : j < xs.length := by have := row_less hg hr2 hj; omega
      rw [h2 j hjl, if_pos ((hst j).2 (Or.inl ((stL_bit ys k j).2 ⟨i, hik, hie⟩)))]
    · intro f hf hfe
      rw [h2 f hf, if_neg ?_]
      intro hb
      rcases (hst f).1 hb with hb | hb
      · obtain ⟨j, hj, e1⟩ := (stL_bit ys k f).1 hb
        obtain ⟨i, hij, hie⟩ := h.before (k := j) (j := wN ys k) (by omega) (by rw [e1]; exact hfe)
        exact h.ne (show i < k by omega) hkl hie
      · have := row_less hg hf hfe; omega
    · rw [h2 _ hr2, if_pos ((hst _).2 (Or.inr rfl))]
theorem togW_order {xs ys : List Int} (hg : good xs = true) {s : Nat} (hs : s < 2 ^ xs.length) (hi : holdsIdeal xs s = true) (h : orderB xs ys = true) : togW xs s ys.reverse = rowmo xs s := by
  have hb := (revT_bits hg hs hi (orderB_LinX h) xs.length 0 (by omega)).2
  have e0 : revT xs ys s 0 = togW xs s ys.reverse := rfl
  rw [e0] at hb
  apply Nat.eq_of_testBit_eq
  intro i
  by_cases hil : i < xs.length
  · rw [hb i hil]; simp [stL]
  · have hz : ∀ z, z < 2 ^ xs.length → z.testBit i = false := fun z hz => by
      rw [Bool.eq_false_iff]; intro hb2; exact hil (testBit_lt hz hb2)
    rw [hz _ (rowmo_lt hg s), hz _ (togW_lt hs ?_)]
    have := (orderB_word h).2
    unfold inW at this ⊢
    rw [List.all_eq_true] at this ⊢
    exact fun y hy => this y (List.mem_reverse.1 hy)
/-- what the next ideal's greatest elements are -/
theorem top_rowmo {xs : List Int} (hg : good xs = true) (s : Nat) : top xs (rowmo xs s) = bottom xs (compl xs.length s) := by
  rw [← rowmo_spec hg s, top_down_eq hg (bottom_anti xs _)]
/-- rowmotion of antichains is that of their ideals -/
theorem acRow_top {xs : List Int} (hg : good xs = true) {s : Nat} (hs : s < 2 ^ xs.length) (hi : holdsIdeal xs s = true) : top xs (rowmo xs (down xs (top xs s))) = top xs (rowmo xs s) := by
  rw [down_top hg hs hi]
end Go.Proofs.Ytpdoheagfjeefaa
namespace Go.Proofs.Ytpdoheagfjeefaa
set_option linter.unusedVariables false

theorem rowmo_topB {xs : List Int} (hg : good xs = true) {s : Nat} (hs : holdsIdeal xs s = true) {e : Nat} (he : e < xs.length) : rowP xs s e = (top xs (rowmo xs s)).testBit e := by
  rw [Bool.eq_iff_iff, rowmo_top hg hs he, top_bit]
  refine and_congr_right fun h => ⟨fun hh => ?_, fun hh i hi hr => ?_⟩
  · rintro ⟨i, hi, h1, h2⟩
    rw [hh i hi h1] at h2; cases h2
  · rw [Bool.eq_false_iff]
    intro h2
    exact hh ⟨i, hi, hr, h2⟩
theorem rowba_bit (xs : List Int) (s e : Nat) : (rowba xs s).testBit e = true ↔ e < xs.length ∧ backP xs (top xs s) e = true := by
  rw [rowba, orN_testBit]
  constructor
  · rintro ⟨f, hf, hp, hb⟩
    rw [Nat.testBit_two_pow] at hb
    obtain rfl : f = e := by simpa using hb
    exact ⟨hf, hp⟩
  · rintro ⟨he, hp⟩
    exact ⟨e, he, hp, by rw [Nat.testBit_two_pow]; simp⟩
theorem backP_iff {xs : List Int} {t e : Nat} : backP xs t e = true ↔ t.testBit e = false ∧ ∀ j, (row xs e).testBit j = true → t.testBit j = false := by
  simp only [backP, Bool.and_eq_true, Bool.not_eq_true', beq_iff_eq]
  refine and_congr_right fun _ => ⟨fun h j hj => and_zero_bit h hj, fun h => ?_⟩
  apply Nat.eq_of_testBit_eq
  intro j
  rw [Nat.testBit_and, Nat.zero_testBit]
  cases hj : (row xs e).testBit j
  · rfl
  · rw [h j hj]; rfl
theorem rowba_rowmo {xs : List Int} (hg : good xs = true) {s : Nat} (hs : s < 2 ^ xs.length) (hi : holdsIdeal xs s = true) : rowba xs (rowmo xs s) = s := by
  apply Nat.eq_of_testBit_eq
  intro e
  by_cases he : e < xs.length
  · have hrow : ∀ j, (row xs e).testBit j = true → j < xs.length := fun j hj => by have := row_less hg he hj; omega
    have hkey := out_iff hg hi (e + 1) e (by omega) he
    have hb : (rowba xs (rowmo xs s)).testBit e = true ↔ ¬ (rowP xs s e = true ∨ ∃ j, (row xs e).testBit j = true ∧ rowP xs s j = true) := by
      rw [rowba_bit, backP_iff]
      constructor
      · rintro ⟨-, h1, h2⟩ (h3 | ⟨j, hj, h3⟩)
        · rw [rowmo_topB hg hi he, h1] at h3; cases h3
        · rw [rowmo_topB hg hi (hrow j hj), h2 j hj] at h3; cases h3
      · intro h
        refine ⟨he, ?_, fun j hj => ?_⟩
        · rw [← rowmo_topB hg hi he, Bool.eq_false_iff]; exact fun h3 => h (Or.inl h3)
        · rw [← rowmo_topB hg hi (hrow j hj), Bool.eq_false_iff]; exact fun h3 => h (Or.inr ⟨j, hj, h3⟩)
    rw [← hkey] at hb
    rw [Bool.eq_iff_iff, hb]
    simp
  · have hz : ∀ z, z < 2 ^ xs.length → z.testBit e = false := fun z hz => by
      rw [Bool.eq_false_iff]; intro hb2; exact he (testBit_lt hz hb2)
    rw [hz _ (rowba_lt xs _), hz _ hs]
theorem rowmo_rowba {xs : List Int} (hg : good xs = true) {s : Nat} (hs : s < 2 ^ xs.length) (hi : holdsIdeal xs s = true) : rowmo xs (rowba xs s) = s := by
  have hm := rowMov hg
  have hD := idB_iff.2 ⟨hs, hi⟩
  obtain ⟨h1, h2, -, -⟩ := hm.perS hD
  obtain ⟨p, hp⟩ : ∃ p, per (rowmo xs) (2 ^ xs.length) s = p + 1 := ⟨per (rowmo xs) (2 ^ xs.length) s - 1, by omega⟩
  rw [hp] at h1
  have h3 : rowmo xs (iter (rowmo xs) p s) = s := h1
  have h4 := idB_iff.1 (hm.it hD p)
  have h5 := rowba_rowmo hg h4.1 h4.2
  rw [h3] at h5
  rw [h5, h3]
theorem iter_comm2 (f : Nat → Nat) (k s : Nat) : iter f k (f s) = f (iter f k s) := by
  induction k with
  | zero => rfl
  | succ k ih => exact congrArg f ih
theorem iter_back {f b : Nat → Nat} {D : Nat → Bool} (hf : ∀ s, D s = true → D (f s) = true) (hb : ∀ s, D s = true → b (f s) = s) {s : Nat} (hs : D s = true) (k : Nat) : D (iter f k s) = true ∧ iter b k (iter f k s) = s := by
  induction k with
  | zero => exact ⟨hs, rfl⟩
  | succ k ih =>
    refine ⟨hf _ ih.1, ?_⟩
    show b (iter b k (f (iter f k s))) = s
    rw [← iter_comm2 b k, hb _ ih.1, ih.2]
/-- rowmotion n times, and back -/
theorem rowmo_back {xs : List Int} (hg : good xs = true) {s : Nat} (hs : s < 2 ^ xs.length) (hi : holdsIdeal xs s = true) (k : Nat) :
    (iter (rowmo xs) k s < 2 ^ xs.length ∧ holdsIdeal xs (iter (rowmo xs) k s) = true ∧ iter (rowba xs) k (iter (rowmo xs) k s) = s) ∧
    (iter (rowba xs) k s < 2 ^ xs.length ∧ holdsIdeal xs (iter (rowba xs) k s) = true ∧ iter (rowmo xs) k (iter (rowba xs) k s) = s) := by
  have h1 := iter_back (f := rowmo xs) (b := rowba xs) (D := idB xs) (fun s h => idB_iff.2 ⟨rowmo_lt hg s, rowmo_ideal hg s⟩) (fun s h => rowba_rowmo hg (idB_iff.1 h).1 (idB_iff.1 h).2) (idB_iff.2 ⟨hs, hi⟩) k
  have h2 := iter_back (f := rowba xs) (b := rowmo xs) (D := idB xs) (fun s h => idB_iff.2 ⟨rowba_lt xs s, rowba_ideal hg s⟩) (fun s h => rowmo_rowba hg (idB_iff.1 h).1 (idB_iff.1 h).2) (idB_iff.2 ⟨hs, hi⟩) k
  exact ⟨⟨(idB_iff.1 h1.1).1, (idB_iff.1 h1.1).2, h1.2⟩, ⟨(idB_iff.1 h2.1).1, (idB_iff.1 h2.1).2, h2.2⟩⟩
/-- a complement as a difference -/
theorem compl_sub {n s : Nat} (hs : s < 2 ^ n) : compl n s = 2 ^ n - 1 - s := by
  apply Nat.eq_of_testBit_eq
  intro i
  rw [compl_testBit, show 2 ^ n - 1 - s = 2 ^ n - (s + 1) from by omega, Nat.testBit_two_pow_sub_succ hs]
/-- each ideal has an order -/
theorem ways_some {xs : List Int} (hg : good xs = true) : ∀ (m t : Nat), t ≤ m → t < 2 ^ xs.length → holdsIdeal xs t = true → 1 ≤ ways xs t := by
  intro m
  induction m with
  | zero =>
    intro t ht _ _
    obtain rfl : t = 0 := by omega
    rw [ways_zero]; exact Nat.le_refl _
  | succ m ih =>
    intro t ht hl hi
    by_cases h0 : t = 0
    · subst h0; rw [ways_zero]; exact Nat.le_refl _
    · obtain ⟨e, he⟩ := some_bit (top_some hg hl h0)
      have hbt := ((top_bit xs t e).1 he).1
      have hel := testBit_lt hl hbt
      obtain ⟨h1, h2⟩ := top_down hg hi hel he
      have hlt := xor_lt_self hbt
      have h3 := ih (t ^^^ 2 ^ e) (by omega) (by omega) h1
      rw [ways_pos h0]
      have hp : predP xs t e = true := by
        rw [predP, hbt, Bool.true_and, beq_iff_eq, sub_eq_zero]
        intro j hj
        have hne := row_less hg hel hj
        rw [xor_bit, if_neg (by omega)]
        exact holdsIdeal_row.1 hi e hel hbt j hj
      have hw : wterm xs t e = ways xs (t ^^^ 2 ^ e) := by rw [wterm, if_pos hp]
      have hmono : ∀ k, e < k → wterm xs t e ≤ sumN (wterm xs t) k := by
        intro k hk
        induction k with
        | zero => omega
        | succ k ihk =>
          rw [sumN]
          by_cases hek : e = k
          · subst hek; omega
          · have := ihk (by omega); omega
      have := hmono xs.length hel
      omega
theorem orders_some {xs : List Int} (hg : good xs = true) : 1 ≤ ordersN xs := by
  have hp := Nat.two_pow_pos xs.length
  exact ways_some hg _ _ (Nat.le_refl _) (by omega) (full_ideal hg)
end Go.Proofs.Ytpdoheagfjeefaa

/- The dual of a poset is a poset; its rows. No program is named here. -/
namespace Go.Proofs.Ytpdoheagfjeefaa
open Go.RowKit Go.WideShapes Go.ChangeShapes
set_option linter.unusedVariables false

theorem orN_congrD {p q : Nat → Bool} {g h : Nat → Nat} {k : Nat} (e : ∀ i, i < k → p i = q i ∧ g i = h i) : orN p g k = orN q h k := orN_congr e
theorem dualD_length {xs : List Int} (hg : good xs = true) : (dualL xs).length = xs.length := by rw [dualL_yes hg, whereL, mkL_length]
theorem dualD_row {xs : List Int} (hg : good xs = true) {i j : Nat} (hi : i < xs.length) : (row (dualL xs) i).testBit j = true ↔ j < i ∧ (row xs (xs.length - 1 - j)).testBit (xs.length - 1 - i) = true := by
  have e : (dualL xs).getD i 0 = ((rowN (fun j => dualF xs j i) i : Nat) : Int) := by rw [dualL_yes hg, whereL, mkL_getD hi]
  unfold row
  rw [e, Int.toNat_natCast, rowN_testBit]
  simp [dualF]
theorem dualD_get {xs : List Int} (hg : good xs = true) {i : Nat} (hi : i < xs.length) : (dualL xs).getD i 0 = ((row (dualL xs) i : Nat) : Int) ∧ row (dualL xs) i < 2 ^ i := by
  have e : (dualL xs).getD i 0 = ((rowN (fun j => dualF xs j i) i : Nat) : Int) := by rw [dualL_yes hg, whereL, mkL_getD hi]
  unfold row
  rw [e, Int.toNat_natCast]
  exact ⟨rfl, rowN_lt _ _⟩
theorem dualD_good {xs : List Int} (hg : good xs = true) : good (dualL xs) = true := by
  have hl := dualD_length hg
  have hb := good_length hg
  refine good_of (by omega) (by omega) fun i hi => ?_
  rw [hl] at hi
  obtain ⟨h1, h2⟩ := dualD_get hg hi
  unfold okAt
  rw [h1, Int.toNat_natCast]
  have hid : holdsIdeal (dualL xs) (row (dualL xs) i) = true := by
    rw [holdsIdeal_row]
    intro e he hbe j hj
    rw [hl] at he
    obtain ⟨a1, a2⟩ := (dualD_row hg hi).1 hbe
    obtain ⟨b1, b2⟩ := (dualD_row hg he).1 hj
    refine (dualD_row hg hi).2 ⟨by omega, ?_⟩
    exact row_closed hg (show xs.length - 1 - j < xs.length by omega) b2 a2
  rw [hid]
  have : 0 ≤ ((row (dualL xs) i : Nat) : Int) := by omega
  have h3 : ((row (dualL xs) i : Nat) : Int) ≤ ((2 ^ i - 1 : Nat) : Int) := by omega
  simp [this, h3]
end Go.Proofs.Ytpdoheagfjeefaa

/- Evacuation of linear extensions: the facts that the law on it asks for. No program is named here. -/
namespace Go.Proofs.Ytpdoheagfjeefaa
open Go.RowKit Go.WideShapes Go.ChangeShapes
set_option linter.unusedVariables false

theorem getD_ext {a b : List Int} (hl : a.length = b.length) (h : ∀ j, j < a.length → a.getD j 0 = b.getD j 0) : a = b := by
  refine List.ext_getElem hl fun j h1 h2 => ?_
  have := h j h1
  simpa [List.getD, h1, h2] using this
theorem swapL_comm {ws : List Int} {i j : Nat} (h : i + 2 ≤ j) (hj : j + 1 < ws.length) : swapL (swapL ws j) i = swapL (swapL ws i) j := by
  refine getD_ext (by simp [swapL_length]) fun k hk => ?_
  have l1 := swapL_length ws i
  have l2 := swapL_length ws j
  rw [swapL_getD _ i k (by omega), swapL_getD _ j k (by omega), swapL_getD _ j (i + 1) (by omega), swapL_getD _ j i (by omega), swapL_getD _ j k (by omega), swapL_getD _ i (j + 1) (by omega), swapL_getD _ i j (by omega), swapL_getD _ i k (by omega)]
  repeat' split
  all_goals first | rfl | omega
theorem togL_comm {xs ws : List Int} {i j : Nat} (h : i + 2 ≤ j) (hj : j + 1 < ws.length) : togL xs (togL xs ws j) i = togL xs (togL xs ws i) j := by
  have l1 := swapL_length ws i
  have l2 := swapL_length ws j
  have a1 : (swapL ws j).getD (i + 1) 0 = ws.getD (i + 1) 0 := by rw [swapL_getD _ j _ (by omega), if_neg (by omega), if_neg (by omega)]
  have a2 : (swapL ws j).getD i 0 = ws.getD i 0 := by rw [swapL_getD _ j _ (by omega), if_neg (by omega), if_neg (by omega)]
  have b1 : (swapL ws i).getD (j + 1) 0 = ws.getD (j + 1) 0 := by rw [swapL_getD _ i _ (by omega), if_neg (by omega), if_neg (by omega)]
  have b2 : (swapL ws i).getD j 0 = ws.getD j 0 := by rw [swapL_getD _ i _ (by omega), if_neg (by omega), if_neg (by omega)]
  cases hi : (row xs (ws.getD (i + 1) 0).toNat).testBit (ws.getD i 0).toNat <;> cases hk : (row xs (ws.getD (j + 1) 0).toNat).testBit (ws.getD j 0).toNat
  · rw [togL_no hi, togL_no hk, togL_no (by rw [a1, a2]; exact hi), togL_no (by rw [b1, b2]; exact hk), swapL_comm h hj]
  · rw [togL_no hi, togL_yes hk, togL_no hi, togL_yes (by rw [b1, b2]; exact hk)]
  · rw [togL_yes hi, togL_no hk, togL_yes (by rw [a1, a2]; exact hi)]
  · rw [togL_yes hi, togL_yes hk, togL_yes hi]
theorem linIvs (xs : List Int) : Ivs (fun i ws => togL xs ws i) (LinX xs) (xs.length - 1) where
  ins i s hi hs := hs.tog (by omega)
  inv i s hi hs := hs.tog_tog (by omega)
  com i j s hi hj hij hs := togL_comm hij (by rw [hs.len]; omega)
theorem upL_act (xs : List Int) (ws : List Int) (k : Nat) : upL xs k ws = actT (fun i a => togL xs a i) (upW k) ws := by
  induction k with
  | zero => rfl
  | succ k ih => rw [upL_succ, upW_succ, actT_append, ← ih]; rfl
theorem downL_act (xs : List Int) (ws : List Int) (t k : Nat) : downL xs t k ws = actT (fun i a => togL xs a (t - 1 - i)) (upW k) ws := by
  induction k with
  | zero => rfl
  | succ k ih => rw [downL_succ, upW_succ, actT_append, ← ih]; rfl
theorem ga_turn (T : Nat → List Int → List Int) (n : Nat) (ws : List Int) : ∀ m, m ≤ n → actT T (gaW m) (turnN (fun k => actT T (upW (n - k))) (n - m) ws) = turnN (fun k => actT T (upW (n - k))) n ws := by
  intro m
  induction m with
  | zero => intro _; rfl
  | succ m ih =>
    intro hm
    have e : n - m = (n - (m + 1)) + 1 := by omega
    have ih := ih (by omega)
    rw [e] at ih
    rw [← ih]
    show actT T (upW (m + 1) ++ gaW m) _ = actT T (gaW m) (actT T (upW (n - (n - (m + 1)))) _)
    rw [actT_append, show n - (n - (m + 1)) = m + 1 by omega]
theorem evaL_act (xs ws : List Int) : evaL xs ws = actT (fun i a => togL xs a i) (gaW (xs.length - 1)) ws := by
  have h := ga_turn (fun i a => togL xs a i) (xs.length - 1) ws (xs.length - 1) (Nat.le_refl _)
  rw [show xs.length - 1 - (xs.length - 1) = 0 by omega] at h
  refine Eq.trans ?_ h.symm
  unfold evaL
  exact turnN_congr (fun k _ => by funext a; exact upL_act xs a _) ws
theorem coeL_flip (xs ws : List Int) : coeL xs ws = actT (fun i a => togL xs a (xs.length - 1 - 1 - i)) (gaW (xs.length - 1)) ws := by
  have h := ga_turn (fun i a => togL xs a (xs.length - 1 - 1 - i)) (xs.length - 1) ws (xs.length - 1) (Nat.le_refl _)
  rw [show xs.length - 1 - (xs.length - 1) = 0 by omega] at h
  refine Eq.trans ?_ h.symm
  unfold coeL
  exact turnN_congr (fun k _ => by funext a; exact downL_act xs a _ _) ws
theorem coeL_act (xs ws : List Int) (h : 1 ≤ xs.length - 1) : coeL xs ws = actT (fun i a => togL xs a i) (duW (xs.length - 1)) ws := by
  rw [coeL_flip]
  have := actT_flip (fun i a => togL xs a i) (xs.length - 1) (gaW (xs.length - 1)) ws
  rw [duW_flip h] at this
  exact this
theorem powT_turn (xs ws : List Int) (k : Nat) : powT (fun i a => togL xs a i) (upW (xs.length - 1)) k ws = turnN (fun _ => pro1 xs) k ws := by
  induction k with
  | zero => rfl
  | succ k ih => rw [powT_last, ih, turnN, pro1, upL_act]
theorem LinX.evaL {xs ws : List Int} (h : LinX xs ws) : LinX xs (evaL xs ws) := by
  rw [evaL_act]; exact (linIvs xs).act (gaW_lt _) ws h
theorem LinX.coeL {xs ws : List Int} (h : LinX xs ws) : LinX xs (coeL xs ws) := by
  rw [coeL_flip]; exact (linIvs xs).flip.act (gaW_lt _) ws h
theorem eva_eva {xs ws : List Int} (h : LinX xs ws) : evaL xs (evaL xs ws) = ws := by
  rw [evaL_act, evaL_act]; exact (linIvs xs).gaTwice _ (Nat.le_refl _) ws h
theorem coe_coe {xs ws : List Int} (h : LinX xs ws) : coeL xs (coeL xs ws) = ws := by
  rw [coeL_flip, coeL_flip]; exact (linIvs xs).flip.gaTwice _ (Nat.le_refl _) ws h
theorem orp_pro' {xs ws : List Int} (h : LinX xs ws) (h1 : 1 ≤ xs.length) : orp1 xs (pro1 xs ws) = ws := h.orp_pro h1
/-- evacuation, one promotion and evacuation again are one promotion back -/
theorem eva_turn {xs ws : List Int} (h : LinX xs ws) (h1 : 1 ≤ xs.length) : evaL xs (pro1 xs (evaL xs ws)) = orp1 xs ws := by
  rcases Nat.eq_zero_or_pos (xs.length - 1) with h0 | h0
  · have e1 : ∀ a, evaL xs a = a := fun a => by rw [evaL_act, h0]; rfl
    have e2 : ∀ a, pro1 xs a = a := fun a => by unfold pro1; rw [h0]; rfl
    have e3 : ∀ a, orp1 xs a = a := fun a => by unfold orp1; rw [h0]; rfl
    rw [e1, e1, e2, e3]
  · obtain ⟨m, hm⟩ : ∃ m, xs.length - 1 = m + 1 := ⟨xs.length - 2, by omega⟩
    have hs := h.evaL
    have hg := (linIvs xs).gaTurn (k := m) (by omega) hs
    have e1 : ∀ a, actT (fun i a => togL xs a i) (gaW (m + 1)) a = evaL xs a := fun a => by rw [evaL_act, hm]
    have e2 : ∀ a, actT (fun i a => togL xs a i) (upW (m + 1)) a = pro1 xs a := fun a => by unfold pro1; rw [upL_act, hm]
    rw [e2, e1, e2, e1, eva_eva h] at hg
    have h4 : LinX xs (evaL xs (pro1 xs (evaL xs ws))) := (hs.pro h1).evaL
    rw [← orp_pro' h4 h1, hg]
/-- both, one after the other -/
theorem coe_eva {xs ws : List Int} (h : LinX xs ws) (h1 : 1 ≤ xs.length) : coeL xs (evaL xs ws) = turnN (fun _ => pro1 xs) xs.length ws := by
  rcases Nat.eq_zero_or_pos (xs.length - 1) with h0 | h0
  · have e1 : evaL xs ws = ws := by rw [evaL_act, h0]; rfl
    have e4 : coeL xs ws = ws := by rw [coeL_flip, h0]; rfl
    have e2 : ∀ a, pro1 xs a = a := fun a => by unfold pro1; rw [h0]; rfl
    rw [e1, e4, show xs.length = 1 by omega]
    exact (e2 ws).symm
  · rw [coeL_act _ _ h0, evaL_act, (linIvs xs).gaDu h0 h, powT_turn, show xs.length - 1 + 1 = xs.length by omega]
/-! ### the dual -/
theorem dua_wN {ws : List Int} (j : Nat) (hj : j < ws.length) : wN (duaL ws) j = ws.length - 1 - wN ws (ws.length - 1 - j) := by
  unfold wN duaL
  rw [mkL_getD hj, Int.toNat_natCast]; rfl
theorem dua_length (ws : List Int) : (duaL ws).length = ws.length := mkL_length _ _
theorem dua_get {ws : List Int} (j : Nat) (hj : j < ws.length) : (duaL ws).getD j 0 = (wN (duaL ws) j : Int) := by
  unfold wN duaL
  rw [mkL_getD hj, Int.toNat_natCast]
theorem dua_lin {xs ws : List Int} (hg : good xs = true) (h : LinX xs ws) : LinX (dualL xs) (duaL ws) := by
  have hl := dualD_length hg
  have hw := h.len
  have hb : ∀ k, k < xs.length → wN (duaL ws) k = xs.length - 1 - wN ws (xs.length - 1 - k) := fun k hk => by rw [dua_wN k (by omega), hw]
  have hst : ∀ k, k ≤ xs.length → ∀ e, e < xs.length → ((stL (duaL ws) k).testBit (xs.length - 1 - e) = true ↔ ∃ i, xs.length - k ≤ i ∧ i < xs.length ∧ wN ws i = e) := by
    intro k hk e he
    rw [stL_bit]
    constructor
    · rintro ⟨j, hj, e2⟩
      have hr := (h.rng (xs.length - 1 - j) (by omega)).2
      rw [hb j (by omega)] at e2
      exact ⟨xs.length - 1 - j, by omega, by omega, by omega⟩
    · rintro ⟨i, h1, h2, h3⟩
      refine ⟨xs.length - 1 - i, by omega, ?_⟩
      rw [hb _ (by omega), show xs.length - 1 - (xs.length - 1 - i) = i by omega, h3]
  refine ⟨by rw [dua_length, hl, hw], fun k hk => ?_, fun k hk => ?_⟩
  · rw [hl] at hk ⊢
    refine ⟨dua_get k (by omega), ?_⟩
    rw [hb k hk]; omega
  · rw [hl] at hk
    have hr := (h.rng (xs.length - 1 - k) (by omega)).2
    rw [hb k hk]
    simp only [stepP, Bool.and_eq_true, Bool.not_eq_true', beq_iff_eq]
    refine ⟨?_, (sub_eq_zero _ _).2 fun j hj => ?_⟩
    · rw [Bool.eq_false_iff]
      intro h5
      obtain ⟨i, h6, h7, h8⟩ := (hst k (by omega) _ hr).1 h5
      exact h.ne (show xs.length - 1 - k < i by omega) h7 h8.symm
    · obtain ⟨h5, h6⟩ := (dualD_row hg (by omega)).1 hj
      rw [show xs.length - 1 - (xs.length - 1 - wN ws (xs.length - 1 - k)) = wN ws (xs.length - 1 - k) by omega] at h6
      have hjl : xs.length - 1 - j < xs.length := by omega
      have e3 : j = xs.length - 1 - (xs.length - 1 - j) := by omega
      rw [e3]
      refine (hst k (by omega) _ hjl).2 ?_
      obtain ⟨i, hi, hie⟩ := h.surj hjl
      refine ⟨i, ?_, hi, hie⟩
      rcases Nat.lt_or_ge i (xs.length - k) with h9 | h9
      · exfalso
        rw [← hie] at h6
        obtain ⟨q, hq, hqe⟩ := h.before hi h6
        rcases (by omega : q < xs.length - 1 - k ∨ q = xs.length - 1 - k ∨ xs.length - 1 - k < q) with h10 | h10 | h10
        · exact h.ne h10 (by omega) hqe
        · omega
        · omega
      · exact h9
theorem dua_tog {xs ws : List Int} (hg : good xs = true) (h : LinX xs ws) {i : Nat} (hi : i + 1 < xs.length) : togL (dualL xs) (duaL ws) i = duaL (togL xs ws (xs.length - 1 - 1 - i)) := by
  have hl := dualD_length hg
  have hw := h.len
  obtain ⟨m, hm⟩ : ∃ m, xs.length - 1 - 1 - i = m := ⟨_, rfl⟩
  rw [hm]
  have hb : ∀ k, k < xs.length → wN (duaL ws) k = xs.length - 1 - wN ws (xs.length - 1 - k) := fun k hk => by rw [dua_wN k (by omega), hw]
  have e0 : wN (duaL ws) i = xs.length - 1 - wN ws (m + 1) := by rw [hb i (by omega), show xs.length - 1 - i = m + 1 by omega]
  have e1 : wN (duaL ws) (i + 1) = xs.length - 1 - wN ws m := by rw [hb (i + 1) hi, show xs.length - 1 - (i + 1) = m by omega]
  have ra := (h.rng m (by omega)).2
  have rb := (h.rng (m + 1) (by omega)).2
  have hc : (row (dualL xs) (wN (duaL ws) (i + 1))).testBit (wN (duaL ws) i) = (row xs (wN ws (m + 1))).testBit (wN ws m) := by
    rw [Bool.eq_iff_iff, e0, e1, dualD_row hg (by omega), show xs.length - 1 - (xs.length - 1 - wN ws (m + 1)) = wN ws (m + 1) by omega, show xs.length - 1 - (xs.length - 1 - wN ws m) = wN ws m by omega]
    constructor
    · exact fun h => h.2
    · intro h2
      have := row_less hg rb h2
      exact ⟨by omega, h2⟩
  have hm1 : m + 1 < ws.length := by omega
  rw [togL_wN, togL_wN, hc]
  cases hq : (row xs (wN ws (m + 1))).testBit (wN ws m)
  · rw [if_neg (by decide), if_neg (by decide)]
    have hi2 : i + 1 < (duaL ws).length := by rw [dua_length]; omega
    have hs : (swapL ws m).length = xs.length := by rw [swapL_length, hw]
    refine getD_ext (by rw [swapL_length, dua_length, dua_length, swapL_length]) fun j hj => ?_
    rw [swapL_length, dua_length, hw] at hj
    rw [swapL_getD _ i j hi2, dua_get (ws := swapL ws m) j (by omega), dua_wN (ws := swapL ws m) j (by omega), hs, swap_wN hm1]
    rcases (by omega : j = i ∨ j = i + 1 ∨ (j ≠ i ∧ j ≠ i + 1)) with h1 | h1 | ⟨h1, h2⟩
    · rw [if_pos h1, if_neg (by omega), if_pos (by omega), dua_get (i + 1) (by omega), e1]
    · rw [if_neg (by omega), if_pos h1, if_pos (by omega), dua_get i (by omega), e0]
    · rw [if_neg h1, if_neg h2, if_neg (by omega), if_neg (by omega), dua_get j (by omega), hb j hj]
  · rw [if_pos rfl, if_pos rfl]
theorem dua_act {xs : List Int} (hg : good xs = true) : ∀ (w : List Nat), Lt (xs.length - 1) w → ∀ ws, LinX xs ws → actT (fun i a => togL (dualL xs) a i) w (duaL ws) = duaL (actT (fun i a => togL xs a (xs.length - 1 - 1 - i)) w ws)
  | [], _, ws, _ => rfl
  | i :: w, hw, ws, h => by
    have hi := hw i (by simp)
    rw [actT_cons, actT_cons]
    show actT _ w (togL (dualL xs) (duaL ws) i) = _
    rw [dua_tog hg h (by omega)]
    exact dua_act hg w (fun j hj => hw j (List.mem_cons_of_mem _ hj)) _ (h.tog (by omega))
/-- evacuation of the dual is the dual's coevacuation -/
theorem eva_dua {xs ws : List Int} (hg : good xs = true) (h : LinX xs ws) : evaL (dualL xs) (duaL ws) = duaL (coeL xs ws) := by
  rw [evaL_act, dualD_length hg, dua_act hg _ (gaW_lt _) ws h, ← coeL_flip]
end Go.Proofs.Ytpdoheagfjeefaa

/- A row of the call's own, appended to a slice of rows of the call's own. -/
namespace Go.Proofs.Ytpdoheagfjeefaa
open Go.RowKit Go.WideShapes Go.ChangeShapes
set_option linter.unusedVariables false

theorem own_apart {ti ts : TypeId} {w : World} {B B' n : Nat} {v u : Value} {l : List Int} {us : List Value} (hne : ti ≠ ts) (h : OwnI ti w B u l) (h2 : w.ownsRow B' ts 1 v n us) : u.ownBlock = none ∨ u.ownBlock ≠ v.ownBlock := by
  rcases hu : u.ownBlock with _ | k
  · exact .inl rfl
  · refine .inr fun e => ?_
    rcases h2.2 with ⟨rfl, _⟩ | ⟨b, cap, cur, rfl, _, hh, _⟩
    · simp [Value.ownBlock] at e
    · simp only [Value.ownBlock, Option.some.injEq] at e
      subst e
      rcases h.2 with ⟨rfl, _⟩ | ⟨g, cap', cur', rfl, _, hh', _⟩
      · simp [Value.ownBlock] at hu
      · simp only [Value.ownBlock, Option.some.injEq] at hu
        subst hu
        rw [hh] at hh'
        injection hh' with hh'
        injection hh' with _ hh'
        exact hne hh'.symm
/-- 'rows = append(rows, row)', all of the call's own, the row newer than what the slice has -/
theorem wpList_append_row {P : Program} {w W : World} {ops : Array Oper} {rest : List Oper} {o : Oper} {ac : Act} {Q : Exit → Act → World → Prop} (hgd : o.guard = none) (s x : Operand) (t ts ti : TypeId)
    (ho : o.op = .call { callee := .builtin .append, args := #[s, x], argTypes := #[t, t] }) (ht : P.underlying t = some (.slice ts)) (hinfo : (P.info? ts).map (fun i => (i.zero, i.size, i.bytes)) = some (some (.slice none 0 0), 1, 24))
    (hne : ti ≠ ts) (B E : Nat) (v u : Value) (ls : List (List Int)) (l : List Int) (hs : ac.eval s = v) (hown : OwnSS ti ts w B E v ls) (hu : OwnI ti w B u l) (huE : ∀ k, u.ownBlock = some k → E ≤ k)
    (hW : W = w.alloc (.cells #[u] ts)) (hx : ac.eval x = .slice (some ⟨w.heap.size, 0, none⟩) 1 1) (hlen : ls.length < 1048576) (hB : B ≤ w.heap.size) (hE : E ≤ w.heap.size)
    (h : ∀ v' w', OwnSS ti ts w' B w'.heap.size v' (ls ++ [l]) → Below B w w' → wpList P ops Q rest (ac.put o.dst v') w') : wpList P ops Q (o :: rest) ac W := by
  subst hW
  obtain ⟨i0, hi, hz0, hz1, hz2⟩ := info_parts hinfo
  obtain ⟨us, h1, h2, h3, h4, h5⟩ := hown
  obtain ⟨uA, un, uc, hush⟩ := hu.shape3
  have hulen : (un, uc, uA) = (un, uc, uA) := rfl
  refine wpList_append_own _ hgd s x t ho B ts i0 (.slice none 0 0) 1 24 ht hi hz0 hz1 hz2 rfl (by decide) v ls.length us hs (h2.alloc _) ⟨w.heap.size, 0, none⟩ 1 1 [u] hx rfl ?_ ?_ ?_ ?_ ?_ ?_
  · intro j y hj
    match j, hj with
    | 0, hj =>
      simp only [List.getElem?_cons_zero, Option.some.injEq] at hj
      subst hj
      exact (Blk.new w ts #[u]).cell 0
    | j + 1, hj => simp at hj
  · intro y hy
    simp only [List.mem_singleton] at hy
    subst hy; subst hush; rfl
  · unfold maxLen; omega
  · omega
  · simp; omega
  · intro v' w' h6 h7 _
    have hb : Below B w (w.alloc (.cells #[u] ts)) := (Below.refl _ _).alloc hB _
    have hB2 : Below B w w' := hb.grown h7 (by simp; omega) fun k hk => (h2.lt k hk).1
    have hsz : w.heap.size ≤ w'.heap.size := hB2.size
    refine h v' w' ⟨us ++ [u], by simp [h1], by simpa using h6, fun k hk => ?_, ?_, ?_⟩ hB2
    · exact (World.ownsRow.lt h6 k hk).2
    · intro j y m hy hm
      rw [List.getElem?_append] at hy hm
      by_cases hj : j < ls.length
      · rw [if_pos (by omega)] at hy
        rw [if_pos hj] at hm
        obtain ⟨a, b⟩ := h4 j y m hy hm
        exact ⟨(a.alloc _).grown h7 (own_apart hne a h2), fun k hk => by have := b k hk; omega⟩
      · rw [if_neg (by omega)] at hy
        rw [if_neg hj] at hm
        rcases Nat.eq_zero_or_pos (j - ls.length) with h0 | h0
        · rw [h0] at hm
          rw [h1, h0] at hy
          simp only [List.getElem?_cons_zero, Option.some.injEq] at hy hm
          subst hy; subst hm
          exact ⟨(hu.alloc _).grown h7 (own_apart hne hu h2), fun k hk => by have := (hu.blockLt k hk).2; omega⟩
        · rw [List.getElem?_eq_none (by simp; omega)] at hm; cases hm
    · have old : ∀ i y, i < us.length → us[i]? = some y → (y.ownBlock = none ∨ y.ownBlock ≠ u.ownBlock) := by
        intro i y hi hy
        have hl : ls[i]? = some ls[i] := List.getElem?_eq_getElem (by omega)
        obtain ⟨_, b⟩ := h4 i y _ hy hl
        rcases hq : y.ownBlock with _ | k
        · exact .inl rfl
        · refine .inr fun e => ?_
          have c1 := b k hq
          have c2 := huE k e.symm
          omega
      intro i j y y' hij hy hy'
      rw [List.getElem?_append] at hy hy'
      by_cases hi : i < us.length
      · rw [if_pos hi] at hy
        by_cases hj : j < us.length
        · rw [if_pos hj] at hy'
          exact h5 i j y y' hij hy hy'
        · rw [if_neg hj] at hy'
          rcases Nat.eq_zero_or_pos (j - us.length) with h0 | h0
          · rw [h0] at hy'
            simp only [List.getElem?_cons_zero, Option.some.injEq] at hy'
            subst hy'
            exact old i y hi hy
          · rw [List.getElem?_eq_none (by simp; omega)] at hy'; cases hy'
      · rw [if_neg hi] at hy
        rcases Nat.eq_zero_or_pos (i - us.length) with h0 | h0
        · rw [h0] at hy
          simp only [List.getElem?_cons_zero, Option.some.injEq] at hy
          subst hy
          by_cases hj : j < us.length
          · rw [if_pos hj] at hy'
            rcases old j y' hj hy' with h8 | h8
            · rcases hq : u.ownBlock with _ | k
              · exact .inl rfl
              · rw [h8]; exact .inr (by simp)
            · exact .inr (fun e => h8 e.symm)
          · rw [if_neg hj] at hy'
            rcases Nat.eq_zero_or_pos (j - us.length) with h0' | h0'
            · omega
            · rw [List.getElem?_eq_none (by simp; omega)] at hy'; cases hy'
        · rw [List.getElem?_eq_none (by simp; omega)] at hy; cases hy
end Go.Proofs.Ytpdoheagfjeefaa

/- Rows of lists told by a function. -/
namespace Go.Proofs.Ytpdoheagfjeefaa
open Go.RowKit Go.WideShapes Go.ChangeShapes
set_option linter.unusedVariables false

theorem OwnSS.monoBR {ti ts : TypeId} {w : World} {B B' E : Nat} {v : Value} {ls : List (List Int)} (h : OwnSS ti ts w B E v ls) (hB : B' ≤ B) : OwnSS ti ts w B' E v ls := by
  obtain ⟨us, h1, h2, h3, h4, h5⟩ := h
  refine ⟨us, h1, ?_, h3, fun j u l hu hl => ⟨(h4 j u l hu hl).1.mono hB, (h4 j u l hu hl).2⟩, h5⟩
  obtain ⟨a1, a2⟩ := h2
  refine ⟨a1, ?_⟩
  rcases a2 with a2 | ⟨g, cap, cur, hv, hg, r⟩
  · exact .inl a2
  · exact .inr ⟨g, cap, cur, hv, by omega, r⟩
theorem OwnSS.single {ti ts : TypeId} {w : World} {B : Nat} {u : Value} {l : List Int} (h : OwnI ti w B u l) (hB : B ≤ w.heap.size) : OwnSS ti ts (w.alloc (.cells #[u] ts)) B (w.heap.size + 1) (.slice (some ⟨w.heap.size, 0, none⟩) 1 1) [l] := by
  refine ⟨[u], rfl, ⟨rfl, .inr ⟨w.heap.size, 1, #[u], rfl, hB, heap_alloc_new w _, Nat.le_refl _, by unfold maxLen; omega, rfl, rfl⟩⟩, fun k hk => ?_, fun j y m hy hm => ?_, fun i j y y' hij hy hy' => ?_⟩
  · simp only [Value.ownBlock, Option.some.injEq] at hk; omega
  · match j, hy, hm with
    | 0, hy, hm =>
      simp only [List.getElem?_cons_zero, Option.some.injEq] at hy hm
      subst hy; subst hm
      exact ⟨h.alloc _, fun k hk => by have := (h.blockLt k hk).2; omega⟩
    | j + 1, hy, hm => simp at hy
  · match i, j, hij, hy, hy' with
    | 0, 0, hij, _, _ => exact absurd rfl hij
    | 0, j + 1, _, _, hy' => simp at hy'
    | i + 1, j, _, hy, _ => simp at hy
theorem OwnSS.monoE {ti ts : TypeId} {w : World} {B E E' : Nat} {v : Value} {ls : List (List Int)} (h : OwnSS ti ts w B E v ls) (hE : E ≤ E') : OwnSS ti ts w B E' v ls := by
  obtain ⟨us, h1, h2, h3, h4, h5⟩ := h
  exact ⟨us, h1, h2, fun k hk => Nat.lt_of_lt_of_le (h3 k hk) hE, fun j u l hu hl => ⟨(h4 j u l hu hl).1, fun k hk => Nat.lt_of_lt_of_le ((h4 j u l hu hl).2 k hk) hE⟩, h5⟩
def rowsN (f : Nat → List Int) (m : Nat) : List (List Int) := (List.range m).map f
theorem rowsN_succ (f : Nat → List Int) (m : Nat) : rowsN f (m + 1) = rowsN f m ++ [f m] := by
  unfold rowsN; rw [List.range_succ, List.map_append]; rfl
theorem rowsN_length (f : Nat → List Int) (m : Nat) : (rowsN f m).length = m := by simp [rowsN]
theorem rowsN_getD (f : Nat → List Int) {m j : Nat} (h : j < m) : (rowsN f m).getD j [] = f j := by simp [rowsN, List.getD, h]
theorem offL_leR {ls : List (List Int)} {m : Nat} (h : ∀ j, j < ls.length → (ls.getD j []).length ≤ m) (k : Nat) (hk : k ≤ ls.length) : offL ls k ≤ m * k := by
  induction k with
  | zero => simp [offL]
  | succ k ih =>
    have h1 := ih (by omega)
    have h2 := h k (by omega)
    unfold offL
    rw [Nat.mul_succ]; omega
theorem rowsN_small (f : Nat → List Int) {m : Nat} (hm : m ≤ 500) (h : ∀ j, j < m → (f j).length ≤ 10) : SSmall (rowsN f m) := by
  have h2 : ∀ j, j < (rowsN f m).length → ((rowsN f m).getD j []).length ≤ 1024 := by
    intro j hj
    rw [rowsN_length] at hj
    rw [rowsN_getD f hj]
    have := h j hj
    omega
  have hl := rowsN_length f m
  refine ⟨by omega, fun j hj => by have := h2 j hj; omega, ?_⟩
  have h3 := offL_leR h2 _ (Nat.le_refl _)
  have h4 : 1024 * (rowsN f m).length ≤ 1024 * 500 := Nat.mul_le_mul_left _ (by omega)
  omega
theorem rows_cell {w : World} {v : Value} {ls : List (List Int)} (h : IntsSS w v ls) {k : Nat} (hk : k < ls.length) : ∃ b o c u, v = .slice (some ⟨b, o, none⟩) ls.length c ∧ b < w.heap.size ∧ w.cell? ⟨b, o + k, none⟩ = some u ∧ Ints w u (ls.getD k []) := by
  obtain ⟨A, c, rfl, h⟩ := h
  obtain ⟨b, o, u, rfl, h1, h2, h3⟩ := h k hk
  exact ⟨b, o, c, u, rfl, h1, h2, h3⟩
end Go.Proofs.Ytpdoheagfjeefaa
