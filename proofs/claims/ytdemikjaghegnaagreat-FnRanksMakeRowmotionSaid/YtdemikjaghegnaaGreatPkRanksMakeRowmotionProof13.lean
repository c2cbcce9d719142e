/- Texts RvG, RkA, FixO, RkC, one behind the other. -/
import Derived.Test.YtdemikjaghegnaaGreatPkRanksMakeRowmotionProof10
import Derived.Test.YtdemikjaghegnaaGreatPkRanksMakeRowmotionProof12
/- Gyration: the mathematics. -/
namespace Go.Proofs.YtdemikjaghegnaaGreat
open Go.RowKit Go.WideShapes Go.ChangeShapes
set_option linter.unusedVariables false

/-- all elements of the first k ranks that are even (p = 0) or odd (p = 1) -/
def evK (xs : List Int) (p k : Nat) : Nat := orN (fun i => i % 2 == p) (fun i => rkE (heightsL xs) xs.length i) k
def evN (xs : List Int) (p : Nat) : Nat := evK xs p (rkN xs)
theorem evK_lt (xs : List Int) (p k : Nat) : evK xs p k < 2 ^ xs.length := orN_lt fun i _ _ => rkE_lt _ (Nat.le_refl _) i
theorem evK_yes {xs : List Int} {p k : Nat} (h : k % 2 = p) : evK xs p (k + 1) = evK xs p k ||| rkE (heightsL xs) xs.length k := orN_yes (p := fun i => i % 2 == p) (by simpa using h)
theorem evK_no {xs : List Int} {p k : Nat} (h : ¬ k % 2 = p) : evK xs p (k + 1) = evK xs p k := orN_no (p := fun i => i % 2 == p) (by simpa using h)
theorem evN_mem {xs : List Int} {p : Nat} (e : Int) : e ∈ elL xs.length (evN xs p) ↔ ∃ f : Nat, e = f ∧ f < xs.length ∧ ((heightsL xs).getD f 0).toNat % 2 = p := by
  unfold elL
  rw [List.mem_map]
  constructor
  · rintro ⟨f, hf, rfl⟩
    rw [elN_mem] at hf
    unfold evN evK at hf
    rw [orN_testBit] at hf
    obtain ⟨h1, i, h2, h3, h4⟩ := hf
    rw [rkE_bit] at h4
    exact ⟨f, rfl, h1, by rw [h4.2]; simpa using h3⟩
  · rintro ⟨f, rfl, h1, h2⟩
    refine ⟨f, ?_, rfl⟩
    rw [elN_mem]
    unfold evN evK
    rw [orN_testBit]
    exact ⟨h1, _, rkM_lt _ h1, by simpa using h2, by rw [rkE_bit]; exact ⟨h1, rfl⟩⟩
theorem rkW_mem {xs : List Int} {ws : List Int} (hw : inW (rkN xs) ws = true) (e : Int) : e ∈ rkW (rankL xs) ws ↔ ∃ f : Nat, e = f ∧ f < xs.length ∧ f < 10 ∧ (((heightsL xs).getD f 0).toNat : Int) ∈ ws := by
  rw [rkW, List.mem_flatMap]
  constructor
  · rintro ⟨i, hi, he⟩
    have hi2 := List.all_eq_true.1 hw i hi
    simp only [Bool.and_eq_true, decide_eq_true_eq] at hi2
    obtain ⟨f, h1, h2, h3, h4⟩ := (rank_mem (show i.toNat < rkN xs by omega) e).1 he
    exact ⟨f, h1, h2, h3, by rw [h4, Int.toNat_of_nonneg hi2.1]; exact hi⟩
  · rintro ⟨f, h1, h2, h3, h4⟩
    exact ⟨_, h4, by rw [Int.toNat_natCast]; exact (rank_mem (rkM_lt _ h2) e).2 ⟨f, h1, h2, h3, rfl⟩⟩
theorem elL_nodup (n r : Nat) : (elL n r).Nodup := by
  unfold elL
  refine List.Pairwise.map _ (fun a b h hab => h (Int.ofNat.inj hab)) (elN_nodup n r)
theorem rkW_nodup {xs : List Int} : ∀ ws : List Int, inW (rkN xs) ws = true → ws.Nodup → (rkW (rankL xs) ws).Nodup
  | [], _, _ => List.nodup_nil
  | a :: t, hw, hn => by
    have h1 : inW (rkN xs) t = true := List.all_eq_true.2 fun y hy => List.all_eq_true.1 hw y (List.mem_cons_of_mem _ hy)
    have h2 := List.all_eq_true.1 hw a (by simp)
    simp only [Bool.and_eq_true, decide_eq_true_eq] at h2
    rw [List.nodup_cons] at hn
    show (elL 10 _ ++ rkW (rankL xs) t).Nodup
    rw [List.nodup_append]
    refine ⟨elL_nodup _ _, rkW_nodup t h1 hn.2, fun x hx y hy hxy => ?_⟩
    subst hxy
    obtain ⟨f, e1, _, _, e4⟩ := (rank_mem (show a.toNat < rkN xs by omega) x).1 hx
    obtain ⟨g, d1, _, _, d4⟩ := (rkW_mem h1 x).1 hy
    have : f = g := by omega
    subst this
    rw [e4, Int.toNat_of_nonneg h2.1] at d4
    exact hn.1 d4
theorem rs2_mem {a b : Nat} (y : Int) : y ∈ rs2 a b ↔ ∃ i : Nat, y = i ∧ a ≤ i ∧ i ≤ b ∧ i % 2 = a % 2 := by
  unfold rs2
  rw [List.mem_map]
  constructor
  · rintro ⟨j, hj, rfl⟩
    rw [List.mem_range] at hj
    exact ⟨a + 2 * j, rfl, by omega, by omega, by omega⟩
  · rintro ⟨i, rfl, h1, h2, h3⟩
    exact ⟨(i - a) / 2, List.mem_range.2 (by omega), by congr 1; omega⟩
theorem rs2_nodup (a b : Nat) : (rs2 a b).Nodup := by
  unfold rs2
  refine List.Pairwise.map _ (fun x y h hab => h (by omega)) List.nodup_range
theorem height_lt {xs : List Int} {f : Nat} (h : f < xs.length) : ((heightsL xs).getD f 0).toNat < rkN xs := rkM_lt _ h
theorem gyr_perm {xs : List Int} (hg : good xs = true) {p h : Nat} (hp : p ≤ 1) (hh : rkN xs = h + 1) : (elL xs.length (evN xs p)).Perm (rkW (rankL xs) (rs2 p h)) := by
  have hl := (good_length hg).2
  refine (List.perm_ext_iff_of_nodup (elL_nodup _ _) (rkW_nodup _ (inW_rs2 (by omega)) (rs2_nodup _ _))).2 fun e => ?_
  rw [evN_mem, rkW_mem (inW_rs2 (by omega))]
  constructor
  · rintro ⟨f, h1, h2, h3⟩
    have := height_lt h2
    exact ⟨f, h1, h2, by omega, (rs2_mem _).2 ⟨_, rfl, by omega, by omega, by omega⟩⟩
  · rintro ⟨f, h1, h2, _, h3⟩
    obtain ⟨i, e1, e2, e3, e4⟩ := (rs2_mem _).1 h3
    exact ⟨f, h1, h2, by omega⟩
theorem ev_in {xs : List Int} (p : Nat) : inW xs.length (elL xs.length (evN xs p)) = true := List.all_eq_true.2 fun y hy => by
  obtain ⟨f, rfl, h, _⟩ := (evN_mem y).1 hy
  simp; omega
theorem ev_apart {xs : List Int} (hg : good xs = true) (hr : rankedB xs = true) (p : Nat) : ∀ d ∈ elL xs.length (evN xs p), ∀ e ∈ elL xs.length (evN xs p), Apart xs d.toNat e.toNat := by
  intro d hd e he
  obtain ⟨f, rfl, h1, h2⟩ := (evN_mem d).1 hd
  obtain ⟨g, rfl, h3, h4⟩ := (evN_mem e).1 he
  rw [Int.toNat_natCast, Int.toNat_natCast]
  exact apart_rank hg hr h1 h3 (by omega)
/-- gyration, and back -/
def gyF (xs : List Int) (s : Nat) : Nat := togW xs (togW xs s (elL xs.length (evN xs 0))) (elL xs.length (evN xs 1))
def gyB (xs : List Int) (s : Nat) : Nat := togW xs (togW xs s (elL xs.length (evN xs 1))) (elL xs.length (evN xs 0))
theorem gyF_word {xs : List Int} (hg : good xs = true) (hr : rankedB xs = true) {h : Nat} (hh : rkN xs = h + 1) {s : Nat} (hs : holdsIdeal xs s = true) :
    gyF xs s = togW xs s (rkW (rankL xs) (wGyr h)) := by
  unfold gyF
  rw [wGyr_eq, rkW_append, togW_app, togW_perm hg (gyr_perm hg (p := 0) (by omega) hh) (ev_in 0) (ev_apart hg hr 0) s hs,
    togW_perm hg (gyr_perm hg (p := 1) (by omega) hh) (ev_in 1) (ev_apart hg hr 1) _ (togW_ideal hs)]
theorem gyB_word {xs : List Int} (hg : good xs = true) (hr : rankedB xs = true) {h : Nat} (hh : rkN xs = h + 1) {s : Nat} (hs : holdsIdeal xs s = true) :
    gyB xs s = togW xs s (rkW (rankL xs) (wGyr h)).reverse := by
  unfold gyB
  rw [wGyr_eq, rkW_append, List.reverse_append, togW_app,
    togW_perm hg ((gyr_perm hg (p := 1) (by omega) hh).trans (List.reverse_perm _).symm) (ev_in 1) (ev_apart hg hr 1) s hs,
    togW_perm hg ((gyr_perm hg (p := 0) (by omega) hh).trans (List.reverse_perm _).symm) (ev_in 0) (ev_apart hg hr 0) _ (togW_ideal hs)]
end Go.Proofs.YtdemikjaghegnaaGreat

/- Rowmotion by ranks is rowmotion; heights rise. -/
namespace Go.Proofs.YtdemikjaghegnaaGreat
open Go.RowKit Go.WideShapes Go.ChangeShapes
set_option linter.unusedVariables false

theorem rowmo_bitR (xs : List Int) (s e : Nat) : (rowmo xs s).testBit e = true ↔ ∃ f, f < xs.length ∧ rowP xs s f = true ∧ (f = e ∨ (row xs f).testBit e = true) := by
  rw [rowmo, orN_testBit]
  constructor
  · rintro ⟨f, hf, hp, hb⟩
    rw [rowG, Nat.testBit_or, Bool.or_eq_true, Nat.testBit_two_pow] at hb
    exact ⟨f, hf, hp, hb.imp (fun h => by simpa using h) id⟩
  · rintro ⟨f, hf, hp, hb⟩
    refine ⟨f, hf, hp, ?_⟩
    rw [rowG, Nat.testBit_or, Bool.or_eq_true, Nat.testBit_two_pow]
    exact hb.imp (fun h => by simpa using h) id
theorem tog_stepR {xs : List Int} (hg : good xs = true) {s t e : Nat} (ht : holdsIdeal xs t = true) (he : e < xs.length)
    (hlow : ∀ j, (row xs e).testBit j = true → t.testBit j = s.testBit j)
    (hup : ∀ f, f < xs.length → (row xs f).testBit e = true → t.testBit f = (rowmo xs s).testBit f)
    (hte : t.testBit e = s.testBit e) (i : Nat) : (tog xs t e).testBit i = if i = e then (rowmo xs s).testBit e else t.testBit i := by
  have hx : ∀ i, (t ^^^ 2 ^ e).testBit i = if i = e then !t.testBit e else t.testBit i := xor_bit t e
  cases hse : s.testBit e
  · rw [hse] at hte
    cases hp : rowP xs s e
    · have hR : (rowmo xs s).testBit e = false := by
        rw [Bool.eq_false_iff]
        intro h
        obtain ⟨f, hf, hpf, h1 | h1⟩ := (rowmo_bitR xs s e).1 h
        · subst h1; rw [hp] at hpf; cases hpf
        · have := (rowP_iff.1 hpf).2 e h1; rw [hse] at this; cases this
      have hn : holdsIdeal xs (t ^^^ 2 ^ e) = false := by
        rw [Bool.eq_false_iff]
        intro h
        have h2 := holdsIdeal_row.1 h e he (by rw [hx, if_pos rfl, hte]; rfl)
        have h4 : rowP xs s e = true := rowP_iff.2 ⟨hse, fun j hj => by
          have h3 := h2 j hj
          have hlt := row_less hg he hj
          rw [hx, if_neg (by omega)] at h3
          rw [← hlow j hj]; exact h3⟩
        rw [hp] at h4; cases h4
      rw [tog_no hn]
      by_cases h : i = e
      · subst h; rw [if_pos rfl, hte, hR]
      · rw [if_neg h]
    · have hR : (rowmo xs s).testBit e = true := (rowmo_bitR xs s e).2 ⟨e, he, hp, .inl rfl⟩
      have hy : holdsIdeal xs (t ^^^ 2 ^ e) = true := by
        refine holdsIdeal_row.2 fun f hf hb j hj => ?_
        rw [hx] at hb ⊢
        by_cases hje : j = e
        · rw [if_pos hje, hte]; rfl
        · rw [if_neg hje]
          by_cases hfe : f = e
          · subst hfe; rw [hlow j hj]; exact (rowP_iff.1 hp).2 j hj
          · rw [if_neg hfe] at hb
            exact holdsIdeal_row.1 ht f hf hb j hj
      rw [tog_yes hy, hx]
      by_cases h : i = e
      · rw [if_pos h, if_pos h, hte, hR]; rfl
      · rw [if_neg h, if_neg h]
  · rw [hse] at hte
    by_cases hc : ∃ f, f < xs.length ∧ (row xs f).testBit e = true ∧ (rowmo xs s).testBit f = true
    · obtain ⟨f, hf, hfe, hRf⟩ := hc
      have hR : (rowmo xs s).testBit e = true := holdsIdeal_row.1 (rowmo_ideal hg s) f hf hRf e hfe
      have hn : holdsIdeal xs (t ^^^ 2 ^ e) = false := by
        rw [Bool.eq_false_iff]
        intro h
        have hlt := row_less hg hf hfe
        have h2 := holdsIdeal_row.1 h f hf (by rw [hx, if_neg (by omega), hup f hf hfe]; exact hRf) e hfe
        rw [hx, if_pos rfl, hte] at h2
        cases h2
      rw [tog_no hn]
      by_cases h : i = e
      · subst h; rw [if_pos rfl, hte, hR]
      · rw [if_neg h]
    · have hR : (rowmo xs s).testBit e = false := by
        rw [Bool.eq_false_iff]
        intro h
        obtain ⟨f, hf, hpf, h1 | h1⟩ := (rowmo_bitR xs s e).1 h
        · subst h1; rw [(rowP_iff.1 hpf).1] at hse; cases hse
        · exact hc ⟨f, hf, h1, (rowmo_bitR xs s f).2 ⟨f, hf, hpf, .inl rfl⟩⟩
      have hy : holdsIdeal xs (t ^^^ 2 ^ e) = true := by
        refine holdsIdeal_row.2 fun f hf hb j hj => ?_
        rw [hx] at hb ⊢
        by_cases hfe : f = e
        · rw [if_pos hfe, hte] at hb; cases hb
        · rw [if_neg hfe] at hb
          by_cases hje : j = e
          · subst hje
            exact absurd ⟨f, hf, hj, by rw [← hup f hf hj]; exact hb⟩ hc
          · rw [if_neg hje]
            exact holdsIdeal_row.1 ht f hf hb j hj
      rw [tog_yes hy, hx]
      by_cases h : i = e
      · rw [if_pos h, if_pos h, hte, hR]; rfl
      · rw [if_neg h, if_neg h]
/-! ### heights rise -/
theorem hin_far (xs : List Int) (i : Nat) (out : List Int) (hi : i < out.length) (e : Nat) (he : e ≠ i) : ∀ j, (hin xs i out j).getD e 0 = out.getD e 0 ∧ (hin xs i out j).length = out.length
  | 0 => ⟨rfl, rfl⟩
  | j + 1 => by
    obtain ⟨h1, h2⟩ := hin_far xs i out hi e he j
    unfold hin hstep
    split
    · rw [getD_set _ _ _ _ (by rw [h2]; exact hi), if_neg (by omega), List.length_set]; exact ⟨h1, h2⟩
    · exact ⟨h1, h2⟩
theorem hin_ge (xs : List Int) (i : Nat) (out : List Int) (hi : i < out.length) {j : Nat} : ∀ k, j < k → k ≤ i → (xs.getD i 0).toNat.testBit j = true → out.getD j 0 + 1 ≤ (hin xs i out k).getD i 0
  | 0, h, _, _ => by omega
  | k + 1, h, hk, hb => by
    have h2 := (hin_far xs i out hi j (by omega) k)
    have hl : (hin xs i out k).length = out.length := h2.2
    by_cases hjk : j = k
    · subst hjk
      unfold hin hstep
      rw [if_pos hb, getD_set _ _ _ _ (by rw [hl]; exact hi), if_pos rfl, h2.1]
      omega
    · have ih := hin_ge xs i out hi k (by omega) (by omega) hb
      unfold hin hstep
      split
      · rw [getD_set _ _ _ _ (by rw [hl]; exact hi), if_pos rfl]; omega
      · exact ih
theorem hout_far (xs : List Int) (n e : Nat) : ∀ d i, e < i → i + d ≤ n → (hout xs n (i + d)).getD e 0 = (hout xs n i).getD e 0
  | 0, i, _, _ => rfl
  | d + 1, i, he, hn => by
    show (hin xs (i + d) (hout xs n (i + d)) (i + d)).getD e 0 = _
    rw [(hin_far xs (i + d) _ (by rw [(HB_out xs n (i + d) (by omega)).1]; omega) e (by omega) (i + d)).1]
    exact hout_far xs n e d i he (by omega)
theorem height_rise {xs : List Int} (hg : good xs = true) {e j : Nat} (he : e < xs.length) (hj : (row xs e).testBit j = true) : ((heightsL xs).getD j 0).toNat < ((heightsL xs).getD e 0).toNat := by
  have hje := row_less hg he hj
  have h1 : (heightsL xs).getD e 0 = (hout xs xs.length (e + 1)).getD e 0 := by
    rw [heightsL_yes hg]
    have := hout_far xs xs.length e (xs.length - (e + 1)) (e + 1) (by omega) (by omega)
    rwa [show e + 1 + (xs.length - (e + 1)) = xs.length by omega] at this
  have h2 : (heightsL xs).getD j 0 = (hout xs xs.length e).getD j 0 := by
    rw [heightsL_yes hg]
    have := hout_far xs xs.length j (xs.length - e) e hje (by omega)
    rwa [show e + (xs.length - e) = xs.length by omega] at this
  have h3 := hin_ge xs e (hout xs xs.length e) (by rw [(HB_out xs xs.length e (by omega)).1]; exact he) (j := j) e hje (Nat.le_refl _) hj
  have h4 : (hout xs xs.length (e + 1)).getD e 0 = (hin xs e (hout xs xs.length e) e).getD e 0 := rfl
  have h5 := heights_bound hg j
  omega
/-! ### rowmotion by ranks -/
/-- what t is, where the elements of which A tells have got rowmotion's bits and the others have s's -/
def Half (xs : List Int) (s : Nat) (A : Nat → Prop) (t : Nat) : Prop :=
  holdsIdeal xs t = true ∧ ∀ e, e < xs.length → (A e → t.testBit e = (rowmo xs s).testBit e) ∧ (¬ A e → t.testBit e = s.testBit e)
theorem half_step {xs : List Int} (hg : good xs = true) {s t a i : Nat} {A : Nat → Prop} (h : Half xs s A t) (ha : a < xs.length) (hi : ((heightsL xs).getD a 0).toNat = i) (hA1 : ∀ e, e < xs.length → i < ((heightsL xs).getD e 0).toNat → A e)
    (hA2 : ∀ e, e < xs.length → ((heightsL xs).getD e 0).toNat < i → ¬ A e) (hna : ¬ A a) : Half xs s (fun e => A e ∨ e = a) (tog xs t a) := by
  have hst := tog_stepR hg h.1 ha (s := s)
    (fun j hj => by
      have hjl := row_less hg ha hj
      have hr := height_rise hg ha hj
      exact (h.2 j (by omega)).2 (hA2 j (by omega) (by omega)))
    (fun f hf hfa => by
      have hr := height_rise hg hf hfa
      exact (h.2 f hf).1 (hA1 f hf (by omega)))
    ((h.2 a ha).2 hna)
  refine ⟨tog_ideal h.1, fun e he => ⟨fun hh => ?_, fun hh => ?_⟩⟩
  · rw [hst e]
    by_cases hea : e = a
    · rw [if_pos hea, hea]
    · rw [if_neg hea]
      exact (h.2 e he).1 (hh.elim id fun h' => absurd h' hea)
  · rw [hst e, if_neg fun h' => hh (Or.inr h')]
    exact (h.2 e he).2 fun h' => hh (Or.inl h')
theorem half_block {xs : List Int} (hg : good xs = true) {s i : Nat} : ∀ (es : List Nat) (A : Nat → Prop) (t : Nat), Half xs s A t → (∀ e ∈ es, e < xs.length ∧ ((heightsL xs).getD e 0).toNat = i) → es.Nodup →
    (∀ e, e < xs.length → i < ((heightsL xs).getD e 0).toNat → A e) → (∀ e, e < xs.length → ((heightsL xs).getD e 0).toNat < i → ¬ A e) → (∀ e ∈ es, ¬ A e) → Half xs s (fun e => A e ∨ e ∈ es) (togW xs t (es.map fun e : Nat => (e : Int)))
  | [], A, t, h, _, _, _, _, _ => by
    have : (fun e => A e ∨ e ∈ ([] : List Nat)) = A := by funext e; simp
    rw [this]; exact h
  | a :: es, A, t, h, hes, hn, hA1, hA2, hA3 => by
    obtain ⟨ha1, ha2⟩ := hes a (by simp)
    rw [List.nodup_cons] at hn
    have h1 := half_step hg h ha1 ha2 hA1 hA2 (hA3 a (by simp))
    have h2 := half_block hg es (fun e => A e ∨ e = a) (tog xs t a) h1 (fun e he => hes e (List.mem_cons_of_mem _ he)) hn.2
      (fun e he hi => Or.inl (hA1 e he hi)) (fun e he hi hh => hh.elim (hA2 e he hi) fun h' => by subst h'; omega)
      (fun e he hh => hh.elim (hA3 e (List.mem_cons_of_mem _ he)) fun h' => hn.1 (h' ▸ he))
    have : (fun e => A e ∨ e ∈ a :: es) = (fun e => (A e ∨ e = a) ∨ e ∈ es) := by
      funext e
      simp only [List.mem_cons, or_assoc]
    rw [this]
    exact h2
theorem rank_row {xs : List Int} (hg : good xs = true) {h : Nat} (hh : rkN xs = h + 1) {s : Nat} (hs : s < 2 ^ xs.length) (hi : holdsIdeal xs s = true) : togW xs s (rkW (rankL xs) (wRow h)) = rowmo xs s := by
  have hl := (good_length hg).2
  have main : ∀ d, d ≤ h + 1 → Half xs s (fun e => h + 1 ≤ ((heightsL xs).getD e 0).toNat + d) (togW xs s (rkW (rankL xs) (mapT (fun j => ((h - j : Nat) : Int)) d))) := by
    intro d
    induction d with
    | zero =>
      intro _
      refine ⟨hi, fun e he => ⟨fun hh2 => ?_, fun _ => rfl⟩⟩
      have := height_lt he; omega
    | succ d ih =>
      intro hd
      have ih := ih (by omega)
      rw [mapT_succ, rkW_append, togW_app, rkW_one, Int.toNat_natCast]
      have hr : h - d < rkN xs := by omega
      obtain ⟨r, e1, e2, e3, e4⟩ : ∃ r : Nat, (rankL xs).getD (h - d) 0 = (r : Int) ∧ r < 2 ^ xs.length ∧ True ∧ elL 10 ((rankL xs).getD (h - d) 0).toNat = elL xs.length r := by
        have h1 := rkE_lt (heightsL xs) (Nat.le_refl xs.length) (h - d)
        refine ⟨_, rankL_get hr, h1, trivial, ?_⟩
        rw [rankL_get hr, Int.toNat_natCast]
        exact elL_ten h1 hl
      have hm : ∀ e ∈ elN xs.length r, e < xs.length ∧ ((heightsL xs).getD e 0).toNat = h - d := by
        intro e he
        have he2 : (e : Int) ∈ elL 10 ((rankL xs).getD (h - d) 0).toNat := by rw [e4]; exact List.mem_map.2 ⟨e, he, rfl⟩
        obtain ⟨f, g1, g2, _, g4⟩ := (rank_mem hr (e : Int)).1 he2
        have : f = e := by omega
        subst this; exact ⟨g2, g4⟩
      rw [e4]
      have h2 := half_block hg (elN xs.length r) _ _ ih hm (elN_nodup _ _) (fun e he hi2 => by omega) (fun e he hi2 => by omega) (fun e he => by have := (hm e he).2; omega)
      refine ⟨h2.1, fun e he => ⟨fun hA => (h2.2 e he).1 ?_, fun hA => (h2.2 e he).2 ?_⟩⟩
      · by_cases h3 : h + 1 ≤ ((heightsL xs).getD e 0).toNat + d
        · exact Or.inl h3
        · refine Or.inr ?_
          have he2 : (e : Int) ∈ elL 10 ((rankL xs).getD (h - d) 0).toNat := (rank_mem hr (e : Int)).2 ⟨e, rfl, he, by omega, by omega⟩
          rw [e4] at he2
          obtain ⟨f, g1, g2⟩ := List.mem_map.1 he2
          have : f = e := by omega
          subst this; exact g1
      · rintro (h3 | h3)
        · omega
        · have := (hm e h3).2; omega
  have hf := main (h + 1) (Nat.le_refl _)
  have hw : mapT (fun j => ((h - j : Nat) : Int)) (h + 1) = wRow h := by rw [wRow_eq]; rfl
  rw [hw] at hf
  apply Nat.eq_of_testBit_eq
  intro i
  by_cases hil : i < xs.length
  · exact (hf.2 i hil).1 (by omega)
  · have h1 : togW xs s (rkW (rankL xs) (wRow h)) < 2 ^ xs.length := togW_lt hs (inW_rkW hg (inW_wRow (by omega)))
    have h2 := rowmo_lt hg s
    rw [Bool.eq_iff_iff]
    constructor <;> intro hb
    · exact absurd (testBit_lt h1 hb) hil
    · exact absurd (testBit_lt h2 hb) hil
end Go.Proofs.YtdemikjaghegnaaGreat

/- The orbits of a motion make up all. No program is named here. -/
namespace Go.Proofs.YtdemikjaghegnaaGreat
set_option linter.unusedVariables false

theorem per_orbC {f : Nat → Nat} {D : Nat → Bool} {N : Nat} (h : Mov f D N) {s t : Nat} (hs : D s = true) (ht : t ∈ orbN f N s) : per f N t = per f N s := by
  have hd := mem_orbN_D h hs ht
  have key : ∀ a b, D a = true → b ∈ orbN f N a → per f N b ≤ per f N a := by
    intro a b ha hb
    have hbd := mem_orbN_D h ha hb
    obtain ⟨k, rfl⟩ := (mem_orbN h ha b).1 hb
    obtain ⟨h1, h2, -, -⟩ := h.perS ha
    obtain ⟨-, -, -, h4⟩ := h.perS hbd
    rcases Nat.lt_or_ge (per f N a) (per f N (iter f k a)) with hlt | hge
    · exfalso
      refine h4 _ h2 hlt ?_
      rw [← iter_add, Nat.add_comm, iter_add, h1]
    · exact hge
  exact Nat.le_antisymm (key s t hs ht) (key t s hd (mem_orbN_symm h hs ht))
theorem fix_iff {f : Nat → Nat} {D : Nat → Bool} {N : Nat} (h : Mov f D N) {s : Nat} (hs : D s = true) (d : Nat) : iter f d s = s ↔ d % per f N s = 0 := by
  obtain ⟨h1, h2, h3, h4⟩ := h.perS hs
  have hlt := Nat.mod_lt d (show 0 < per f N s by omega)
  constructor
  · intro e
    rw [h.md hs d] at e
    rcases Nat.eq_zero_or_pos (d % per f N s) with h0 | h0
    · exact h0
    · exact absurd e (h4 _ h0 hlt)
  · intro e
    rw [h.md hs d, e]; rfl
theorem orbN_nodup {f : Nat → Nat} {D : Nat → Bool} {N : Nat} (h : Mov f D N) {s : Nat} (hs : D s = true) : (orbN f N s).Nodup :=
  nodup_map_range _ fun i j h1 h2 => h.orb_ne hs h1 h2
def flatO (f : Nat → Nat) (N : Nat) (st : List Nat) : List Nat := st.flatMap (orbN f N)
theorem flatO_mem (f : Nat → Nat) (N : Nat) (st : List Nat) (t : Nat) : t ∈ flatO f N st ↔ seenB f N st t = true := by
  unfold flatO seenB
  rw [List.mem_flatMap, List.any_eq_true]
  constructor
  · rintro ⟨s, h1, h2⟩; exact ⟨s, h1, List.contains_iff_mem.2 h2⟩
  · rintro ⟨s, h1, h2⟩; exact ⟨s, h1, List.contains_iff_mem.1 h2⟩
theorem flatO_nodup {f : Nat → Nat} {D : Nat → Bool} {N : Nat} (h : Mov f D N) {ids : List Int} (hD : ∀ j, j < ids.length → D (ids.getD j 0).toNat = true) (k : Nat) (hk : k ≤ ids.length) : (flatO f N (startsN f N ids k)).Nodup := by
  induction k with
  | zero => simp [flatO, startsN]
  | succ k ih =>
    have hDk := hD k (by omega)
    cases hq : seenB f N (startsN f N ids k) (ids.getD k 0).toNat
    · rw [startsN_no hq]
      unfold flatO
      rw [List.flatMap_append, List.nodup_append]
      refine ⟨ih (by omega), by simpa using orbN_nodup h hDk, fun a ha b hb e => ?_⟩
      subst e
      have h1 := (flatO_mem f N _ a).1 ha
      have h2 : a ∈ orbN f N (ids.getD k 0).toNat := by simpa using hb
      rw [seenB_orb h (fun s hs => startsN_D hD (show k ≤ ids.length by omega) hs) hDk hq h2] at h1
      cases h1
    · rw [startsN_yes hq]; exact ih (by omega)
theorem flatO_all {f : Nat → Nat} {D : Nat → Bool} {N : Nat} (h : Mov f D N) {ids : List Int} (hD : ∀ j, j < ids.length → D (ids.getD j 0).toNat = true) (hall : ∀ t, D t = true → ∃ j, j < ids.length ∧ (ids.getD j 0).toNat = t) (t : Nat) : t ∈ flatO f N (starts f N ids) ↔ D t = true := by
  rw [flatO_mem]
  constructor
  · intro hs
    unfold seenB at hs
    rw [List.any_eq_true] at hs
    obtain ⟨s, h1, h2⟩ := hs
    exact mem_orbN_D h (startsN_D hD (Nat.le_refl _) h1) (List.contains_iff_mem.1 h2)
  · intro ht
    obtain ⟨j, hj, rfl⟩ := hall t ht
    exact startsN_seen h hD (Nat.le_refl _) hj
theorem flatO_perm {f : Nat → Nat} {D : Nat → Bool} {N : Nat} (h : Mov f D N) {ids : List Int} (hD : ∀ j, j < ids.length → D (ids.getD j 0).toNat = true) (hall : ∀ t, D t = true → ∃ j, j < ids.length ∧ (ids.getD j 0).toNat = t) {L : List Nat} (hn : L.Nodup) (hL : ∀ t, t ∈ L ↔ D t = true) : L.Perm (flatO f N (starts f N ids)) := by
  refine (List.perm_ext_iff_of_nodup hn (flatO_nodup h hD _ (Nat.le_refl _))).2 fun t => ?_
  rw [hL, ← flatO_all h hD hall]; rfl
end Go.Proofs.YtdemikjaghegnaaGreat

/- Motions that are alike have orbits of the same lengths; gyration is like rowmotion. -/
namespace Go.Proofs.YtdemikjaghegnaaGreat
open Go.RowKit Go.WideShapes Go.ChangeShapes
set_option linter.unusedVariables false

/-! ### words of ranks as motions -/
theorem apart_far {xs : List Int} (hg : good xs = true) (hr : rankedB xs = true) {d e : Nat} (hd : d < xs.length) (he : e < xs.length)
    (h1 : ((heightsL xs).getD d 0).toNat ≠ ((heightsL xs).getD e 0).toNat + 1) (h2 : ((heightsL xs).getD e 0).toNat ≠ ((heightsL xs).getD d 0).toNat + 1) : Apart xs d e := by
  refine covered_no hg hd he ?_
  rw [Bool.eq_false_iff]
  intro hc
  unfold covered at hc
  obtain ⟨h3, h4⟩ := top_row.1 hc
  by_cases hde : d ≤ e
  · rw [Nat.max_eq_right hde, Nat.min_eq_left hde] at h3 h4
    exact h2 (cover_rank hg hr he h3 h4)
  · rw [Nat.max_eq_left (by omega), Nat.min_eq_right (by omega)] at h3 h4
    exact h1 (cover_rank hg hr hd h3 h4)
/-- the ideal behind a word of ranks -/
def wK (xs ws : List Int) (s : Nat) : Nat := togW xs s (rkW (rankL xs) ws)
theorem wK_append (xs a b : List Int) (s : Nat) : wK xs (a ++ b) s = wK xs b (wK xs a s) := by unfold wK; rw [rkW_append, togW_app]
theorem wK_ideal {xs ws : List Int} {s : Nat} (h : holdsIdeal xs s = true) : holdsIdeal xs (wK xs ws s) = true := togW_ideal h
theorem inW_app {n : Nat} {a b : List Int} (ha : inW n a = true) (hb : inW n b = true) : inW n (a ++ b) = true := by
  unfold inW at *; rw [List.all_append, ha, hb]; rfl
/-- two words whose ranks are apart change places -/
theorem wK_swap {xs : List Int} (hg : good xs = true) (hr : rankedB xs = true) {a b : List Int} (ha : inW (rkN xs) a = true) (hb : inW (rkN xs) b = true)
    (hab : ∀ x ∈ a, ∀ y ∈ b, x ≠ y + 1 ∧ y ≠ x + 1) {s : Nat} (hs : holdsIdeal xs s = true) : wK xs (a ++ b) s = wK xs (b ++ a) s := by
  -- one rank against a word, by the toggles' commuting one by one
  have key : ∀ (A B : List Int), inW xs.length A = true → inW xs.length B = true → (∀ d ∈ A, ∀ e ∈ B, Apart xs d.toNat e.toNat) → ∀ s, holdsIdeal xs s = true → togW xs s (A ++ B) = togW xs s (B ++ A) := by
    intro A
    induction A with
    | nil => intro B _ _ _ s _; simp
    | cons x A ih =>
      intro B hA hB hAB s hs
      have hx := List.all_eq_true.1 hA x (by simp)
      simp only [Bool.and_eq_true, decide_eq_true_eq] at hx
      have hA2 : inW xs.length A = true := List.all_eq_true.2 fun y hy => List.all_eq_true.1 hA y (List.mem_cons_of_mem _ hy)
      have one : ∀ (B : List Int), inW xs.length B = true → (∀ e ∈ B, Apart xs x.toNat e.toNat) → ∀ s, holdsIdeal xs s = true → togW xs (tog xs s x.toNat) B = tog xs (togW xs s B) x.toNat := by
        intro B
        induction B with
        | nil => intro _ _ s _; rfl
        | cons y B ihB =>
          intro hB hxB s hs
          have hy := List.all_eq_true.1 hB y (by simp)
          simp only [Bool.and_eq_true, decide_eq_true_eq] at hy
          have hB2 : inW xs.length B = true := List.all_eq_true.2 fun z hz => List.all_eq_true.1 hB z (List.mem_cons_of_mem _ hz)
          show togW xs (tog xs (tog xs s x.toNat) y.toNat) B = tog xs (togW xs (tog xs s y.toNat) B) x.toNat
          rw [tog_swap hg hs (d := x.toNat) (e := y.toNat) (by omega) (by omega) (hxB y (by simp))]
          exact ihB hB2 (fun e he => hxB e (List.mem_cons_of_mem _ he)) _ (tog_ideal hs)
      show togW xs (tog xs s x.toNat) (A ++ B) = _
      rw [ih B hA2 hB (fun d hd e he => hAB d (List.mem_cons_of_mem _ hd) e he) _ (tog_ideal hs), togW_app, one B hB (hAB x (by simp)) s hs, togW_app]
      rfl
  unfold wK
  rw [rkW_append, rkW_append]
  refine key _ _ (inW_rkW hg ha) (inW_rkW hg hb) (fun d hd e he => ?_) s hs
  obtain ⟨f, rfl, h1, _, h3⟩ := (rkW_mem ha d).1 hd
  obtain ⟨g, rfl, h4, _, h6⟩ := (rkW_mem hb e).1 he
  have := hab _ h3 _ h6
  rw [Int.toNat_natCast, Int.toNat_natCast]
  exact apart_far hg hr h1 h4 (by omega) (by omega)
/-- alike: a word leads one over into the other -/
def Cj (xs : List Int) (f g : Nat → Nat) : Prop := ∃ ys, inW xs.length ys = true ∧ ∀ s, holdsIdeal xs s = true → togW xs (f s) ys = g (togW xs s ys)
theorem Cj.refl (xs : List Int) (f : Nat → Nat) : Cj xs f f := ⟨[], rfl, fun _ _ => rfl⟩
theorem Cj.trans {xs : List Int} {f g k : Nat → Nat} (h1 : Cj xs f g) (h2 : Cj xs g k) : Cj xs f k := by
  obtain ⟨a, ha, h1⟩ := h1
  obtain ⟨b, hb, h2⟩ := h2
  exact ⟨a ++ b, inW_app ha hb, fun s hs => by rw [togW_app, h1 s hs, h2 _ (togW_ideal hs), togW_app]⟩
theorem Cj.of {xs : List Int} {f g f' g' : Nat → Nat} (h : Cj xs f g) (hf : ∀ s, holdsIdeal xs s = true → f' s = f s) (hg : ∀ s, holdsIdeal xs s = true → g' s = g s) : Cj xs f' g' := by
  obtain ⟨a, ha, h⟩ := h
  exact ⟨a, ha, fun s hs => by rw [hf s hs, h s hs, hg _ (togW_ideal hs)]⟩
theorem Cj.rot {xs : List Int} (hg : good xs = true) {a b : List Int} (ha : inW (rkN xs) a = true) : Cj xs (wK xs (a ++ b)) (wK xs (b ++ a)) :=
  ⟨rkW (rankL xs) a, inW_rkW hg ha, fun s hs => by
    show wK xs a (wK xs (a ++ b) s) = wK xs (b ++ a) (wK xs a s)
    rw [wK_append, wK_append]⟩
theorem fsL_up (h : Nat) : fsL (h + 1) 0 = ((h + 1 : Nat) : Int) :: fsL h 0 := by
  rw [← rnL_rev, ← rnL_rev]
  unfold rnL
  rw [show h + 1 + 1 - 0 = (h + 1 - 0) + 1 by omega, List.range_succ]
  simp
theorem rs2_up {a h : Nat} (ha : a ≤ 1) (hp : (h + 1) % 2 = a) : rs2 a (h + 1) = rs2 a h ++ [((h + 1 : Nat) : Int)] := by
  unfold rs2
  have e : (h + 1 + 2 - a) / 2 = (h + 2 - a) / 2 + 1 := by omega
  rw [e, List.range_succ, List.map_append, List.map_singleton]
  congr 3
  omega
theorem rs2_same {a h : Nat} (ha : a ≤ 1) (hp : (h + 1) % 2 ≠ a) : rs2 a (h + 1) = rs2 a h := by
  unfold rs2
  rw [show (h + 1 + 2 - a) / 2 = (h + 2 - a) / 2 by omega]
theorem inW_one {n i : Nat} (h : i < n) : inW n [(i : Int)] = true := by simp [inW]; omega
/-- behind ranks above h + 1, gyration of the ranks up to h is like rowmotion of them -/
theorem gyr_like {xs : List Int} (hg : good xs = true) (hr : rankedB xs = true) : ∀ (h : Nat), h < rkN xs → ∀ X : List Int, inW (rkN xs) X = true → (∀ x ∈ X, (h : Int) + 1 ≤ x) →
    Cj xs (wK xs (X ++ (rs2 0 h ++ rs2 1 h))) (wK xs (X ++ fsL h 0))
  | 0, hh, X, hX, hx => by
    have e1 : rs2 0 0 ++ rs2 1 0 = fsL 0 0 := rfl
    rw [e1]; exact Cj.refl _ _
  | h + 1, hh, X, hX, hx => by
    have hX2 : inW (rkN xs) (X ++ [((h + 1 : Nat) : Int)]) = true := inW_app hX (inW_one hh)
    have hx2 : ∀ x ∈ X ++ [((h + 1 : Nat) : Int)], (h : Int) + 1 ≤ x := by
      intro x hm
      rw [List.mem_append, List.mem_singleton] at hm
      rcases hm with hm | hm
      · have := hx x hm; omega
      · subst hm; omega
    have ih := gyr_like hg hr h (by omega) (X ++ [((h + 1 : Nat) : Int)]) hX2 hx2
    have e0 : X ++ [((h + 1 : Nat) : Int)] ++ fsL h 0 = X ++ fsL (h + 1) 0 := by rw [fsL_up]; simp
    rw [e0] at ih
    by_cases hp : (h + 1) % 2 = 0
    · rw [rs2_up (a := 0) (by omega) hp, rs2_same (a := 1) (by omega) (by omega)]
      refine ih.of (fun s hs => ?_) (fun _ _ => rfl)
      have e1 : X ++ (rs2 0 h ++ [((h + 1 : Nat) : Int)] ++ rs2 1 h) = X ++ ((rs2 0 h ++ [((h + 1 : Nat) : Int)]) ++ rs2 1 h) := by simp
      rw [e1, wK_append, wK_append]
      rw [wK_swap hg hr (inW_rs2 (by omega)) (inW_one hh) (fun x hxm y hy => ?_) (wK_ideal hs)]
      · rw [← wK_append, ← wK_append]
        congr 1
        simp
      · obtain ⟨i, rfl, h1, h2, h3⟩ := (rs2_mem x).1 hxm
        rw [List.mem_singleton] at hy
        subst hy
        omega
    · rw [rs2_same (a := 0) (by omega) hp, rs2_up (a := 1) (by omega) (by omega)]
      have hG : inW (rkN xs) (rs2 0 h ++ rs2 1 h) = true := inW_app (inW_rs2 (by omega)) (inW_rs2 (by omega))
      have hrot : Cj xs (wK xs ((rs2 0 h ++ rs2 1 h) ++ (X ++ [((h + 1 : Nat) : Int)]))) (wK xs ((X ++ [((h + 1 : Nat) : Int)]) ++ (rs2 0 h ++ rs2 1 h))) := Cj.rot hg hG
      refine (hrot.trans ih).of (fun s hs => ?_) (fun _ _ => rfl)
      have e1 : X ++ (rs2 0 h ++ (rs2 1 h ++ [((h + 1 : Nat) : Int)])) = (X ++ (rs2 0 h ++ rs2 1 h)) ++ [((h + 1 : Nat) : Int)] := by simp
      rw [e1, wK_append, wK_swap hg hr hX hG (fun x hxm y hy => ?_) hs, ← wK_append]
      · rw [show rs2 0 h ++ rs2 1 h ++ X ++ [((h + 1 : Nat) : Int)] = rs2 0 h ++ rs2 1 h ++ (X ++ [((h + 1 : Nat) : Int)]) by simp]
      · have h4 := hx x hxm
        rw [List.mem_append] at hy
        rcases hy with hy | hy
        · obtain ⟨i, rfl, h1, h2, h3⟩ := (rs2_mem y).1 hy; omega
        · obtain ⟨i, rfl, h1, h2, h3⟩ := (rs2_mem y).1 hy; omega
theorem gyr_row {xs : List Int} (hg : good xs = true) (hr : rankedB xs = true) : Cj xs (wK xs (wGyr (rkN xs - 1))) (wK xs (wRow (rkN xs - 1))) := by
  have h1 := rkN_bounds hg
  have := gyr_like hg hr (rkN xs - 1) (by omega) [] rfl (fun x hx => by cases hx)
  rw [wGyr_eq, wRow_eq]
  simpa using this
/-! ### orbits of alike motions -/
theorem count_flat {f : Nat → Nat} {D : Nat → Bool} {N : Nat} (h : Mov f D N) (n : Nat) : ∀ st : List Nat, (∀ s ∈ st, D s = true) → (flatO f N st).countP (fun t => per f N t == n) = n * (st.map (per f N)).count n
  | [], _ => by simp [flatO]
  | s :: st, hD => by
    have ih := count_flat h n st fun t ht => hD t (List.mem_cons_of_mem _ ht)
    have hs := hD s (by simp)
    have e : flatO f N (s :: st) = orbN f N s ++ flatO f N st := by simp [flatO]
    rw [e, List.countP_append, ih, List.map_cons, List.count_cons]
    have h1 : (orbN f N s).countP (fun t => per f N t == n) = if per f N s == n then n else 0 := by
      by_cases hp : per f N s = n
      · rw [if_pos (by simpa using hp), List.countP_eq_length.2 (fun t ht => by rw [per_orbC h hs ht]; simpa using hp), orbN_length, hp]
      · rw [if_neg (by simpa using hp), List.countP_eq_zero.2 (fun t ht => by rw [per_orbC h hs ht]; simpa using hp)]
    rw [h1, Nat.mul_add]
    by_cases hp : (per f N s == n) = true
    · rw [if_pos hp, if_pos hp]; omega
    · rw [if_neg hp, if_neg hp]; omega
theorem alike_lens {f g p : Nat → Nat} {D : Nat → Bool} {N : Nat} (hf : Mov f D N) (hg : Mov g D N) (hp : Mov p D N) (hc : ∀ s, D s = true → p (f s) = g (p s)) {ids : List Int}
    (hD : ∀ j, j < ids.length → D (ids.getD j 0).toNat = true) (hall : ∀ t, D t = true → ∃ j, j < ids.length ∧ (ids.getD j 0).toNat = t) :
    ((starts f N ids).map (per f N)).Perm ((starts g N ids).map (per g N)) := by
  have hit : ∀ k s, D s = true → p (iter f k s) = iter g k (p s) := by
    intro k s hs
    induction k with
    | zero => rfl
    | succ k ih => simp only [iter]; rw [hc _ (hf.it hs k), ih]
  have hper : ∀ s, D s = true → per g N (p s) = per f N s := by
    intro s hs
    have h1 : ∀ d, d % per g N (p s) = 0 ↔ d % per f N s = 0 := by
      intro d
      rw [← fix_iff hg (hp.ins s hs) d, ← fix_iff hf hs d, ← hit d s hs]
      exact ⟨fun e => hp.inj _ _ (hf.it hs d) hs e, fun e => by rw [e]⟩
    have h2 := (h1 (per f N s)).2 (Nat.mod_self _)
    have h3 := (h1 (per g N (p s))).1 (Nat.mod_self _)
    exact Nat.dvd_antisymm (Nat.dvd_of_mod_eq_zero h2) (Nat.dvd_of_mod_eq_zero h3)
  have hsD : ∀ (m : Nat → Nat), ∀ s ∈ starts m N ids, D s = true := fun m s hs => startsN_D hD (Nat.le_refl _) hs
  have hLn : ((List.range N).filter D).Nodup := List.Nodup.sublist List.filter_sublist List.nodup_range
  have hLm : ∀ t, t ∈ (List.range N).filter D ↔ D t = true := fun t => by
    rw [List.mem_filter, List.mem_range]
    exact ⟨fun h => h.2, fun h => ⟨hf.lt t h, h⟩⟩
  have hpm : (((List.range N).filter D).map p).Perm ((List.range N).filter D) := by
    have hn2 : (((List.range N).filter D).map p).Nodup := by
      rw [List.nodup_iff_pairwise_ne, List.pairwise_map]
      exact List.Pairwise.imp_of_mem (fun {a b} ha hb hab e => hab (hp.inj a b ((hLm a).1 ha) ((hLm b).1 hb) e)) (List.nodup_iff_pairwise_ne.1 hLn)
    have hsub : ((List.range N).filter D).map p ⊆ (List.range N).filter D := fun t ht => by
      obtain ⟨s, hs, rfl⟩ := List.mem_map.1 ht
      exact (hLm _).2 (hp.ins s ((hLm s).1 hs))
    refine (List.perm_ext_iff_of_nodup hn2 hLn).2 fun t => ⟨fun ht => hsub ht, fun ht => ?_⟩
    have hDt := (hLm t).1 ht
    obtain ⟨n, h1, _, h3⟩ := hp.some_back hDt
    obtain ⟨m, rfl⟩ : ∃ m, n = m + 1 := ⟨n - 1, by omega⟩
    exact List.mem_map.2 ⟨iter p m t, (hLm _).2 (hp.it hDt m), h3⟩
  rw [List.perm_iff_count]
  intro n
  have c1 := count_flat hf n (starts f N ids) (hsD f)
  have c2 := count_flat hg n (starts g N ids) (hsD g)
  rw [← (flatO_perm hf hD hall hLn hLm).countP_eq] at c1
  rw [← (flatO_perm hg hD hall hLn hLm).countP_eq] at c2
  have c3 : ((List.range N).filter D).countP (fun t => per g N t == n) = ((List.range N).filter D).countP (fun t => per f N t == n) := by
    rw [← hpm.countP_eq, List.countP_map]
    apply List.countP_congr
    intro t ht
    simp only [Function.comp]
    rw [hper t ((hLm t).1 ht)]
  rcases Nat.eq_zero_or_pos n with h0 | h0
  · subst h0
    have hz : ∀ (m : Nat → Nat), Mov m D N → ((starts m N ids).map (per m N)).count 0 = 0 := by
      intro m hm
      rw [List.count_eq_zero]
      intro hmem
      obtain ⟨s, hs, e⟩ := List.mem_map.1 hmem
      have := (hm.perS (hsD m s hs)).2.1
      omega
    rw [hz f hf, hz g hg]
  · have : n * ((starts f N ids).map (per f N)).count n = n * ((starts g N ids).map (per g N)).count n := by rw [← c1, ← c2, c3]
    exact Nat.eq_of_mul_eq_mul_left h0 this
end Go.Proofs.YtdemikjaghegnaaGreat
