/- Texts Spec2, Tog, Mot, one behind the other. -/
import Derived.Test.YtpdoheagfjeefaaPkLinearRankedProof01
import Derived.Test.YtpdoheagfjeefaaPkLinearRankedProof02
/- Ideals, tops and bottoms of sets: the model's functions, and what both ask of a set. -/
namespace Go.Proofs.Ytpdoheagfjeefaa
open Go.RowKit Go.WideShapes Go.ChangeShapes

theorem sub_sub_or (s a z : Nat) : sub (sub s a) z = sub s (a ||| z) := by
  apply Nat.eq_of_testBit_eq
  intro i
  simp only [sub_testBit, Nat.testBit_or]
  cases s.testBit i <;> cases a.testBit i <;> cases z.testBit i <;> rfl
theorem sub_zero_ (s : Nat) : sub s 0 = s := by simp [sub]
theorem bottomN_lt (xs : List Int) (s : Nat) (k : Nat) (hk : k ≤ 10) : bottomN xs s k < 1024 := by
  induction k with
  | zero => simp [bottomN]
  | succ k ih =>
    have h1 := ih (by omega)
    unfold bottomN
    split
    · exact Nat.or_lt_two_pow (n := 10) h1 (Nat.pow_lt_pow_right (by decide) (by omega))
    · exact h1

theorem poDown_any (v : Value) (xs : List Int) (s : Nat) (w : World) (hv : Ints w v xs) (hl : xs.length ≤ 10) (hs : s < 1024) (hsm : Small xs s) :
    Calls Try.prog 150 #[.agg #[v], .int .i64 s] w fun r w' => r = .returned (.int .i64 (down xs s : Nat)) ∧ Below w.heap.size w w' := by
  obtain ⟨A, c, rfl, hA⟩ := hv
  have HA := hid hA
  have Hlt := hid (fun k hk => underN_lt xs s hsm k hk)
  have Hs := hid hsm
  clear hA hsm
  go_enter Try.func150, Try.ntmps150
  go_wp2
  go_loop [5, 12] (fun f i => ∃ k : Nat, k ≤ xs.length ∧ i = .int .i64 k ∧ f = .int .i64 (s ||| underN xs s k : Nat)) (fun _ i => xs.length - (intOf i).toNat)
  case atStart => exact ⟨0, Nat.zero_le _, rfl, by simp [underN]⟩
  case round =>
    obtain ⟨k, hk, rfl, rfl⟩ := hrel
    by_cases hlt : k < xs.length
    · obtain ⟨b, o, rfl, hb, hc⟩ := HA.out (by intro h; simp [h] at hlt)
      have hcell := hc k hlt
      clear hc
      obtain ⟨x, hx⟩ : ∃ x, xs.getD k 0 = x := ⟨_, rfl⟩
      rw [hx] at hcell
      cases hbit : s.testBit k
      · have Hbit := hid hbit
        clear hbit hx
        go_wp2_with (go_at_call 135; refine (poIn_any s k (by omega) _).mono ?_; rw [Hbit.out]; rintro e w' ⟨rfl, rfl⟩)
        go_round
        case rel => exact ⟨k + 1, by omega, by go_num, by rw [underN, if_neg (by rw [Hbit.out]; decide)]⟩
        case measure => simp [intOf]; omega
      · have h2 := Hs.out k hlt hbit
        have h3 := Hlt.out k hk
        rw [hx] at h2
        obtain ⟨z, rfl⟩ := Int.eq_ofNat_of_zero_le h2.1
        have h4 : s ||| underN xs s k < 1024 := Nat.or_lt_two_pow (n := 10) hs h3
        have hor := i64_or_nat (s ||| underN xs s k) z (by omega) (by omega)
        have Hz := hid hx
        have Hbit := hid hbit
        clear hx hbit h2 h3 h4
        go_wp2_with (go_at_call 135; refine (poIn_any s k (by omega) _).mono ?_; rw [Hbit.out]; rintro e w' ⟨rfl, rfl⟩)
        go_round
        case rel => exact ⟨k + 1, by omega, by go_num, by rw [underN, if_pos Hbit.out, Hz.out, Int.toNat_natCast, Nat.or_assoc]⟩
        case measure => simp [intOf]; omega
    · obtain rfl : k = xs.length := by omega
      go_wp2
      go_ret
      exact ⟨rfl, (Below.refl _ _).alloc (Nat.le_refl _) _⟩
theorem poTop_any (v : Value) (xs : List Int) (s : Nat) (w : World) (hv : Ints w v xs) (hl : xs.length ≤ 10) (hs : s < 1024) (hsm : Small xs s) :
    Calls Try.prog 151 #[.agg #[v], .int .i64 s] w fun r w' => r = .returned (.int .i64 (top xs s : Nat)) ∧ Below w.heap.size w w' := by
  obtain ⟨A, c, rfl, hA⟩ := hv
  have HA := hid hA
  have Hs := hid hsm
  clear hA hsm
  go_enter Try.func151, Try.ntmps151
  go_wp2
  go_loop [5, 12] (fun f i => ∃ k : Nat, k ≤ xs.length ∧ i = .int .i64 k ∧ f = .int .i64 (sub s (underN xs s k) : Nat)) (fun _ i => xs.length - (intOf i).toNat)
  case atStart => exact ⟨0, Nat.zero_le _, rfl, by simp [underN, sub_zero_]⟩
  case round =>
    obtain ⟨k, hk, rfl, rfl⟩ := hrel
    by_cases hlt : k < xs.length
    · obtain ⟨b, o, rfl, hb, hc⟩ := HA.out (by intro h; simp [h] at hlt)
      have hcell := hc k hlt
      clear hc
      obtain ⟨x, hx⟩ : ∃ x, xs.getD k 0 = x := ⟨_, rfl⟩
      rw [hx] at hcell
      cases hbit : s.testBit k
      · have Hbit := hid hbit
        clear hbit hx
        go_wp2_with (go_at_call 135; refine (poIn_any s k (by omega) _).mono ?_; rw [Hbit.out]; rintro e w' ⟨rfl, rfl⟩)
        go_round
        case rel => exact ⟨k + 1, by omega, by go_num, by rw [underN, if_neg (by rw [Hbit.out]; decide)]⟩
        case measure => simp [intOf]; omega
      · have h2 := Hs.out k hlt hbit
        rw [hx] at h2
        obtain ⟨z, rfl⟩ := Int.eq_ofNat_of_zero_le h2.1
        have h4 : sub s (underN xs s k) < 1024 := Nat.lt_of_le_of_lt (sub_le _ _) hs
        have hor := i64_andNot_nat (sub s (underN xs s k)) z (by omega) (by omega)
        have Hz := hid hx
        have Hbit := hid hbit
        clear hx hbit h2 h4
        go_wp2_with (go_at_call 135; refine (poIn_any s k (by omega) _).mono ?_; rw [Hbit.out]; rintro e w' ⟨rfl, rfl⟩)
        go_round
        case rel => exact ⟨k + 1, by omega, by go_num, by rw [underN, if_pos Hbit.out, Hz.out, Int.toNat_natCast, sub_sub_or]⟩
        case measure => simp [intOf]; omega
    · obtain rfl : k = xs.length := by omega
      go_wp2
      go_ret
      exact ⟨rfl, (Below.refl _ _).alloc (Nat.le_refl _) _⟩
theorem poIdeal_any (v : Value) (xs : List Int) (s : Nat) (w : World) (hv : Ints w v xs) (hl : xs.length ≤ 10) (hs : s < 1024) (hsm : Small xs s) :
    Calls Try.prog 157 #[.agg #[v], .int .i64 s] w fun r w' => r = .returned (.bool (holdsIdeal xs s)) ∧ Below w.heap.size w w' := by
  obtain ⟨A, c, rfl, hA⟩ := hv
  have HA := hid hA
  have Hs := hid hsm
  clear hA hsm
  go_enter Try.func157, Try.ntmps157
  go_wp2
  go_loop [10] (fun i => ∃ k : Nat, k ≤ xs.length ∧ i = .int .i64 k ∧ Hid (∀ e, e < k → s.testBit e = true → sub (xs.getD e 0).toNat s = 0)) (fun i => xs.length - (intOf i).toNat)
  case atStart => exact ⟨0, Nat.zero_le _, rfl, hid (fun j hj => absurd hj (Nat.not_lt_zero _))⟩
  case round =>
    obtain ⟨k, hk, rfl, Hk⟩ := hrel
    by_cases hlt : k < xs.length
    · obtain ⟨b, o, rfl, hb, hc⟩ := HA.out (by intro h; simp [h] at hlt)
      have hcell := hc k hlt
      clear hc
      obtain ⟨x, hx⟩ : ∃ x, xs.getD k 0 = x := ⟨_, rfl⟩
      rw [hx] at hcell
      cases hbit : s.testBit k
      · have Hbit := hid hbit
        clear hbit hx
        go_wp2_with (go_at_call 135; refine (poIn_any s k (by omega) _).mono ?_; rw [Hbit.out]; rintro e w' ⟨rfl, rfl⟩)
        go_round
        case rel => exact ⟨k + 1, by omega, by go_num, hid (fun e he hb => by
          by_cases h : e = k
          · subst h; rw [Hbit.out] at hb; cases hb
          · exact Hk.out e (by omega) hb)⟩
        case measure => simp [intOf]; omega
      · have h2 := Hs.out k hlt hbit
        rw [hx] at h2
        obtain ⟨z, rfl⟩ := Int.eq_ofNat_of_zero_le h2.1
        have hor := i64_andNot_nat z s (by omega) (by omega)
        have Hz := hid hx
        have Hbit := hid hbit
        clear hx hbit h2
        by_cases h0 : sub z s = 0
        · have hs' : (((sub z s : Nat) : Int) != 0) = false := by rw [h0]; rfl
          have H0 := hid h0
          clear h0
          go_wp2_with (go_at_call 135; refine (poIn_any s k (by omega) _).mono ?_; rw [Hbit.out]; rintro e w' ⟨rfl, rfl⟩)
          go_round
          case rel => exact ⟨k + 1, by omega, by go_num, hid (fun e he hb => by
            by_cases h : e = k
            · subst h; rw [Hz.out]; exact H0.out
            · exact Hk.out e (by omega) hb)⟩
          case measure => simp [intOf]; omega
        · have hs' : (((sub z s : Nat) : Int) != 0) = true := by rw [bne_iff_ne]; omega
          have Hg : Hid (holdsIdeal xs s = false) := hid (by
            cases hh : holdsIdeal xs s
            · rfl
            · exact absurd ((holdsIdeal_iff xs s).1 hh k hlt Hbit.out) (by rw [Hz.out]; exact h0))
          clear h0
          go_wp2_with (go_at_call 135; refine (poIn_any s k (by omega) _).mono ?_; rw [Hbit.out]; rintro e w' ⟨rfl, rfl⟩)
          go_ret
          exact ⟨ret_bool Hg.out.symm, (Below.refl _ _).alloc (Nat.le_refl _) _⟩
    · obtain rfl : k = xs.length := by omega
      have Hg := hid ((holdsIdeal_iff xs s).2 Hk.out)
      go_wp2
      go_ret
      exact ⟨ret_bool Hg.out.symm, (Below.refl _ _).alloc (Nat.le_refl _) _⟩
theorem poSet_any (v : Value) (xs : List Int) (s : Int) (w : World) (hv : Ints w v xs) (hl : xs.length ≤ 10) :
    Calls Try.prog 149 #[.agg #[v], .int .i64 s] w fun r w' => r = .returned (.bool (decide (0 ≤ s) && decide (s ≤ (2 ^ xs.length - 1 : Nat)))) ∧ Below w.heap.size w w' := by
  obtain ⟨A, c, rfl, hA⟩ := hv
  clear hA
  have Wm := hid (wrap_mask xs.length hl)
  obtain ⟨R, hR⟩ : ∃ R, (decide (0 ≤ s) && decide (s ≤ ((2 ^ xs.length - 1 : Nat) : Int))) = R := ⟨_, rfl⟩
  rw [hR]
  have HR := hid hR
  clear hR
  go_enter Try.func149, Try.ntmps149
  go_wp2_with (go_at_call 119; rw [Wm.out]; refine (l1In_any _ _ _ _).mono ?_; rw [HR.out]; rintro e w' ⟨rfl, rfl⟩)
  go_ret
  exact ⟨rfl, (Below.refl _ _).alloc (Nat.le_refl _) _⟩
theorem hasSet_any (v : Value) (xs : List Int) (s : Int) (w : World) (hv : Ints w v xs) (hl : xs.length ≤ 1048576) :
    Calls Try.prog 153 #[.agg #[v], .int .i64 s] w fun r w' => r = .returned (.bool (okSet xs s)) ∧ Below w.heap.size w w' := by
  have HV := hid hv
  obtain ⟨A, c, rfl, hA⟩ := hv
  clear hA
  cases hg : good xs
  · have H1 : Hid (okSet xs s = false) := hid (by simp [okSet, hg])
    have Hg := hid hg
    clear hg
    go_enter Try.func153, Try.ntmps153
    go_wp2_with (go_at_call 89; refine (implIsPoset_any _ xs _ (HV.out.alloc _) hl).mono ?_; rw [Hg.out]; rintro e w1 ⟨rfl, hb1⟩)
    go_ret
    exact ⟨ret_bool H1.out.symm, ((Below.refl _ _).alloc (Nat.le_refl _) _).trans (hb1.mono (by simp))⟩
  · have hl10 := (good_length hg).2
    by_cases h0 : 0 ≤ s
    · have H1 : Hid (okSet xs s = decide (s ≤ (2 ^ xs.length - 1 : Nat))) := hid (by simp only [okSet, hg, decide_eq_true h0, Bool.true_and])
      have Hg := hid hg
      clear hg
      go_enter Try.func153, Try.ntmps153
      go_wp2_with fail
      refine (implIsPoset_any _ xs _ (HV.out.alloc _) hl).mono ?_
      rw [Hg.out]
      rintro e w1 ⟨rfl, hb1⟩
      obtain ⟨hc, hf⟩ := bcell hb1
      have HB := hid hb1
      clear hb1
      go_wp2_with (go_at_call 144; refine (wholeSet_any xs.length hl10 _).mono ?_; rintro e w' ⟨rfl, rfl⟩)
      go_ret
      exact ⟨ret_bool H1.out.symm, ((Below.refl _ _).alloc (Nat.le_refl _) _).trans (HB.out.mono (by simp))⟩
    · have H1 : Hid (okSet xs s = false) := hid (by simp only [okSet, hg, decide_eq_false h0, Bool.false_and, Bool.and_false])
      have Hg := hid hg
      clear hg
      go_enter Try.func153, Try.ntmps153
      go_wp2_with (go_at_call 89; refine (implIsPoset_any _ xs _ (HV.out.alloc _) hl).mono ?_; rw [Hg.out]; rintro e w1 ⟨rfl, hb1⟩)
      go_ret
      exact ⟨ret_bool H1.out.symm, ((Below.refl _ _).alloc (Nat.le_refl _) _).trans (hb1.mono (by simp))⟩
end Go.Proofs.Ytpdoheagfjeefaa

/- Toggles, rowmotion and words as plain functions on sets as numbers. No program is named here. -/
namespace Go.Proofs.Ytpdoheagfjeefaa
theorem i64_xor_nat (a b : Nat) (ha : a < 9223372036854775808) (hb : b < 9223372036854775808) : bits .xor .i64 (a : Int) (b : Int) = ((a ^^^ b : Nat) : Int) := by
  have hx : a ^^^ b < 2 ^ 63 := Nat.xor_lt_two_pow (by omega) (by omega)
  show IntKind.i64.wrap ((BitVec.ofInt 64 (a : Int) ^^^ BitVec.ofInt 64 (b : Int)).toNat : Int) = _
  rw [BitVec.toNat_xor, ofInt_i64 a ha, ofInt_i64 b hb, IntKind.wrap_i64]
  omega
theorem xor_pow (a k : Nat) (ha : a < 1024) (h : k ≤ 10) : bits .xor .i64 (a : Int) ((2 : Int) ^ k) = ((a ^^^ 2 ^ k : Nat) : Int) := by
  have hp := two_pow_le k h
  have e : (2 : Int) ^ k = ((2 ^ k : Nat) : Int) := by simp
  rw [e]
  exact i64_xor_nat a (2 ^ k) (by omega) (Nat.lt_of_le_of_lt hp.2 (by decide))

/-- the numbers g e, put together, of the first k that p tells -/
def orN (p : Nat → Bool) (g : Nat → Nat) : Nat → Nat
  | 0 => 0
  | k + 1 => if p k then orN p g k ||| g k else orN p g k
theorem orN_yes {p : Nat → Bool} {g : Nat → Nat} {k : Nat} (h : p k = true) : orN p g (k + 1) = orN p g k ||| g k := if_pos h
theorem orN_no {p : Nat → Bool} {g : Nat → Nat} {k : Nat} (h : p k = false) : orN p g (k + 1) = orN p g k := by simp [orN, h]
theorem orN_testBit (p : Nat → Bool) (g : Nat → Nat) (k j : Nat) : (orN p g k).testBit j = true ↔ ∃ e, e < k ∧ p e = true ∧ (g e).testBit j = true := by
  induction k with
  | zero => simp [orN]
  | succ k ih =>
    cases h : p k
    · rw [orN_no h, ih]
      constructor
      · rintro ⟨e, h1, h2, h3⟩; exact ⟨e, by omega, h2, h3⟩
      · rintro ⟨e, h1, h2, h3⟩
        by_cases he : e = k
        · subst he; rw [h] at h2; cases h2
        · exact ⟨e, by omega, h2, h3⟩
    · rw [orN_yes h, Nat.testBit_or, Bool.or_eq_true, ih]
      constructor
      · rintro (⟨e, h1, h2, h3⟩ | h3)
        · exact ⟨e, by omega, h2, h3⟩
        · exact ⟨k, by omega, h, h3⟩
      · rintro ⟨e, h1, h2, h3⟩
        by_cases he : e = k
        · subst he; exact .inr h3
        · exact .inl ⟨e, by omega, h2, h3⟩
theorem orN_lt {p : Nat → Bool} {g : Nat → Nat} {k m : Nat} (h : ∀ e, e < k → p e = true → g e < 2 ^ m) : orN p g k < 2 ^ m := by
  induction k with
  | zero => exact Nat.two_pow_pos m
  | succ k ih =>
    have h1 := ih (fun e he hp => h e (by omega) hp)
    cases hk : p k
    · rw [orN_no hk]; exact h1
    · rw [orN_yes hk]; exact Nat.or_lt_two_pow h1 (h k (by omega) hk)
theorem orN_congr {p q : Nat → Bool} {g h : Nat → Nat} {k : Nat} (e : ∀ i, i < k → p i = q i ∧ g i = h i) : orN p g k = orN q h k := by
  induction k with
  | zero => rfl
  | succ k ih =>
    have h1 := ih (fun i hi => e i (by omega))
    obtain ⟨h2, h3⟩ := e k (by omega)
    unfold orN
    rw [h1, h2, h3]

/-- row e as a number -/
def row (xs : List Int) (e : Nat) : Nat := (xs.getD e 0).toNat
theorem row_lt {xs : List Int} (h : good xs = true) {e : Nat} (he : e < xs.length) : xs.getD e 0 = (row xs e : Int) ∧ row xs e < 2 ^ e := by
  have h1 := okAt_range (good_at h he)
  have h2 : 1 ≤ 2 ^ e := Nat.one_le_two_pow
  unfold row
  omega
theorem row_lt_len {xs : List Int} (h : good xs = true) {e : Nat} (he : e < xs.length) : row xs e < 2 ^ xs.length :=
  Nat.lt_of_lt_of_le (row_lt h he).2 (Nat.pow_le_pow_right (by decide) (by omega))
theorem row_lt10 {xs : List Int} (h : good xs = true) {e : Nat} (he : e < xs.length) : row xs e < 1024 := by
  have := row_lt_len h he
  have := two_pow_le _ (good_length h).2
  omega
theorem pow_lt10' {e n : Nat} (he : e < n) (hn : n ≤ 10) : 2 ^ e < 1024 := by
  have h1 := Nat.pow_lt_pow_right (a := 2) (by decide) he
  have h2 := two_pow_le n hn
  omega
theorem pow_lt_len {e n : Nat} (he : e < n) : 2 ^ e < 2 ^ n := Nat.pow_lt_pow_right (by decide) he
theorem lt1024 {s n : Nat} (h : s < 2 ^ n) (hn : n ≤ 10) : s < 1024 := by
  have h2 := two_pow_le n hn
  omega

/-! ### toggles -/
def tog (xs : List Int) (s e : Nat) : Nat := if holdsIdeal xs (s ^^^ 2 ^ e) then s ^^^ 2 ^ e else s
def togW (xs : List Int) (s : Nat) (ys : List Int) : Nat := ys.foldl (fun s y => tog xs s y.toNat) s
theorem tog_yes {xs : List Int} {s e : Nat} (h : holdsIdeal xs (s ^^^ 2 ^ e) = true) : tog xs s e = s ^^^ 2 ^ e := if_pos h
theorem tog_no {xs : List Int} {s e : Nat} (h : holdsIdeal xs (s ^^^ 2 ^ e) = false) : tog xs s e = s := by simp [tog, h]
theorem xor_lt_len {s e n : Nat} (hs : s < 2 ^ n) (he : e < n) : s ^^^ 2 ^ e < 2 ^ n := Nat.xor_lt_two_pow hs (pow_lt_len he)
theorem tog_lt {xs : List Int} {s e n : Nat} (hs : s < 2 ^ n) (he : e < n) : tog xs s e < 2 ^ n := by
  unfold tog
  split
  · exact xor_lt_len hs he
  · exact hs
theorem tog_ideal {xs : List Int} {s e : Nat} (hs : holdsIdeal xs s = true) : holdsIdeal xs (tog xs s e) = true := by
  unfold tog
  split
  · assumption
  · exact hs
/-- all elements of a word are there -/
def inW (n : Nat) (ys : List Int) : Bool := ys.all fun y => decide (0 ≤ y) && decide (y < n)
def okWord (xs ys : List Int) : Bool := decide (ys.length ≤ 100) && inW xs.length ys
theorem inW_at {n : Nat} {ys : List Int} (h : inW n ys = true) {j : Nat} (hj : j < ys.length) : 0 ≤ ys.getD j 0 ∧ ys.getD j 0 < n := by
  have h1 := List.all_eq_true.1 h ys[j] (List.getElem_mem hj)
  have e : ys.getD j 0 = ys[j] := by simp [List.getD, hj]
  rw [e]
  simpa using h1
theorem inW_of {n : Nat} {ys : List Int} (h : ∀ j, j < ys.length → 0 ≤ ys.getD j 0 ∧ ys.getD j 0 < n) : inW n ys = true := by
  refine List.all_eq_true.2 fun y hy => ?_
  obtain ⟨j, hj, rfl⟩ := List.mem_iff_getElem.1 hy
  have := h j hj
  have e : ys.getD j 0 = ys[j] := by simp [List.getD, hj]
  rw [e] at this
  simpa using this
theorem not_inW {n : Nat} {ys : List Int} {j : Nat} (hj : j < ys.length) (h : ¬ (0 ≤ ys.getD j 0 ∧ ys.getD j 0 < n)) : inW n ys = false := by
  cases hc : inW n ys
  · rfl
  · exact absurd (inW_at hc hj) h
theorem okWord_in {xs ys : List Int} (h : okWord xs ys = true) : ys.length ≤ 100 ∧ inW xs.length ys = true := by
  simpa [okWord] using h
theorem togW_take (xs : List Int) (s : Nat) (ys : List Int) (k : Nat) (hk : k < ys.length) : togW xs s (ys.take (k + 1)) = tog xs (togW xs s (ys.take k)) (ys.getD k 0).toNat := by
  have e : ys.take (k + 1) = ys.take k ++ [ys.getD k 0] := by
    rw [List.take_succ_eq_append_getElem hk]; simp [List.getD, hk]
  rw [e]
  simp [togW]
theorem togW_lt {xs : List Int} {s n : Nat} {ys : List Int} (hs : s < 2 ^ n) (hy : inW n ys = true) : togW xs s ys < 2 ^ n := by
  induction ys generalizing s with
  | nil => exact hs
  | cons y ys ih =>
    simp only [inW, List.all_cons, Bool.and_eq_true, decide_eq_true_eq] at hy
    exact ih (tog_lt hs (by omega)) hy.2
theorem inW_take {n : Nat} {ys : List Int} (k : Nat) (h : inW n ys = true) : inW n (ys.take k) = true :=
  List.all_eq_true.2 fun y hy => List.all_eq_true.1 h y (List.mem_of_mem_take hy)
theorem togW_ideal {xs : List Int} {s : Nat} {ys : List Int} (hs : holdsIdeal xs s = true) : holdsIdeal xs (togW xs s ys) = true := by
  induction ys generalizing s with
  | nil => exact hs
  | cons y ys ih => exact ih (tog_ideal hs)

/-- is s an ideal? -/
def okIdeal (xs : List Int) (s : Int) : Bool := okSet xs s && holdsIdeal xs s.toNat
theorem okIdeal_set {xs : List Int} {s : Int} (h : okIdeal xs s = true) : okSet xs s = true ∧ holdsIdeal xs s.toNat = true := by
  simpa [okIdeal] using h
theorem okIdeal_all {xs : List Int} {s : Int} (h : okIdeal xs s = true) : ∃ z : Nat, s = (z : Int) ∧ good xs = true ∧ z < 2 ^ xs.length ∧ holdsIdeal xs z = true := by
  obtain ⟨h1, h2⟩ := okIdeal_set h
  obtain ⟨h3, h4, h5⟩ := okSet_good h1
  obtain ⟨z, rfl⟩ := Int.eq_ofNat_of_zero_le h4
  have h6 : 1 ≤ 2 ^ xs.length := Nat.one_le_two_pow
  exact ⟨z, rfl, h3, by omega, h2⟩
theorem okSet_nat {xs : List Int} {z : Nat} (h : good xs = true) (hz : z < 2 ^ xs.length) : okSet xs (z : Int) = true := by
  have h6 : 1 ≤ 2 ^ xs.length := Nat.one_le_two_pow
  simp only [okSet, h, Bool.true_and, Bool.and_eq_true, decide_eq_true_eq]
  omega

/-! ### what can be toggled -/
def canP (xs : List Int) (s e : Nat) : Bool := tog xs s e != s
def canT (xs : List Int) (s : Nat) (k : Nat) : Nat := orN (canP xs s) (fun e => 2 ^ e) k
theorem xor_self_left (s t : Nat) : s ^^^ (s ^^^ t) = t := by rw [← Nat.xor_assoc, Nat.xor_self, Nat.zero_xor]
theorem tog_xor (xs : List Int) (s e : Nat) : s ^^^ tog xs s e = if (tog xs s e != s) = true then 2 ^ e else 0 := by
  cases h : holdsIdeal xs (s ^^^ 2 ^ e)
  · rw [tog_no h]; simp
  · rw [tog_yes h, xor_self_left, if_pos]
    rw [bne_iff_ne]
    intro h2
    have := xor_self_left s (2 ^ e)
    rw [h2, Nat.xor_self] at this
    have : 1 ≤ 2 ^ e := Nat.one_le_two_pow
    omega
theorem canT_step (xs : List Int) (s k : Nat) : canT xs s (k + 1) = canT xs s k ||| (s ^^^ tog xs s k) := by
  rw [tog_xor]
  unfold canT
  cases h : canP xs s k
  · have h' : (tog xs s k != s) = false := h
    rw [orN_no h, h']; simp
  · have h' : (tog xs s k != s) = true := h
    rw [orN_yes h, h']; simp
theorem canT_lt {xs : List Int} {s k : Nat} (hk : k ≤ 10) : canT xs s k < 1024 :=
  orN_lt (m := 10) fun e he _ => Nat.pow_lt_pow_right (by decide) (by omega)

/-! ### rowmotion -/
def rowP (xs : List Int) (s e : Nat) : Bool := !s.testBit e && (sub (row xs e) s == 0)
def rowG (xs : List Int) (e : Nat) : Nat := 2 ^ e ||| row xs e
def rowmo (xs : List Int) (s : Nat) : Nat := orN (rowP xs s) (rowG xs) xs.length
def backP (xs : List Int) (t e : Nat) : Bool := !t.testBit e && (row xs e &&& t == 0)
def rowba (xs : List Int) (s : Nat) : Nat := orN (backP xs (top xs s)) (fun e => 2 ^ e) xs.length
theorem rowG_lt {xs : List Int} (h : good xs = true) {e : Nat} (he : e < xs.length) : rowG xs e < 2 ^ xs.length :=
  Nat.or_lt_two_pow (pow_lt_len he) (row_lt_len h he)
theorem rowmoN_lt {xs : List Int} (h : good xs = true) (s : Nat) {k : Nat} (hk : k ≤ xs.length) : orN (rowP xs s) (rowG xs) k < 2 ^ xs.length :=
  orN_lt fun _ he _ => rowG_lt h (by omega)
theorem rowmo_lt {xs : List Int} (h : good xs = true) (s : Nat) : rowmo xs s < 2 ^ xs.length := rowmoN_lt h s (Nat.le_refl _)
theorem rowbaN_lt (xs : List Int) (t : Nat) {k : Nat} (hk : k ≤ xs.length) : orN (backP xs t) (fun e => 2 ^ e) k < 2 ^ xs.length :=
  orN_lt fun _ he _ => pow_lt_len (by omega)
theorem rowba_lt (xs : List Int) (s : Nat) : rowba xs s < 2 ^ xs.length := rowbaN_lt xs _ (Nat.le_refl _)
theorem holdsIdeal_row {xs : List Int} {s : Nat} : holdsIdeal xs s = true ↔ ∀ e, e < xs.length → s.testBit e = true → ∀ j, (row xs e).testBit j = true → s.testBit j = true := by
  rw [holdsIdeal_iff]
  constructor
  · intro h e he hb; exact (sub_eq_zero _ _).1 (h e he hb)
  · intro h e he hb; exact (sub_eq_zero _ _).2 (h e he hb)
theorem row_closed {xs : List Int} (h : good xs = true) {e j i : Nat} (he : e < xs.length) (hj : (row xs e).testBit j = true) (hi : (row xs j).testBit i = true) : (row xs e).testBit i = true := by
  have h1 := good_at h he
  simp only [okAt, Bool.and_eq_true] at h1
  have hje : j < e := testBit_lt (row_lt h he).2 hj
  exact holdsIdeal_row.1 h1.2 j (by omega) hj i hi
theorem orN_down {xs : List Int} (h : good xs = true) {p : Nat → Bool} (hp : ∀ e, e < xs.length → p e = true → ∀ j, (row xs e).testBit j = true → p j = true) :
    holdsIdeal xs (orN p (fun e => 2 ^ e) xs.length) = true := by
  rw [holdsIdeal_row]
  intro e he hb j hj
  rw [orN_testBit] at hb ⊢
  obtain ⟨e', h1, h2, h3⟩ := hb
  rw [Nat.testBit_two_pow] at h3
  have : e' = e := by simpa using h3
  subst this
  have hje : j < e' := testBit_lt (row_lt h he).2 hj
  exact ⟨j, by omega, hp e' he h2 j hj, Nat.testBit_two_pow_self⟩
theorem rowmo_ideal {xs : List Int} (h : good xs = true) (s : Nat) : holdsIdeal xs (rowmo xs s) = true := by
  rw [holdsIdeal_row]
  intro e he hb j hj
  unfold rowmo at hb ⊢
  rw [orN_testBit] at hb ⊢
  obtain ⟨e', h1, h2, h3⟩ := hb
  refine ⟨e', h1, h2, ?_⟩
  unfold rowG at h3 ⊢
  rw [Nat.testBit_or, Bool.or_eq_true] at h3 ⊢
  rcases h3 with h3 | h3
  · rw [Nat.testBit_two_pow] at h3
    have : e' = e := by simpa using h3
    subst this
    exact .inr hj
  · exact .inr (row_closed h h1 h3 hj)
theorem rowba_ideal {xs : List Int} (h : good xs = true) (s : Nat) : holdsIdeal xs (rowba xs s) = true := by
  refine orN_down h fun e he hp j hj => ?_
  simp only [backP, Bool.and_eq_true, Bool.not_eq_true', beq_iff_eq] at hp ⊢
  have hz : ∀ i, (row xs e).testBit i = true → (top xs s).testBit i = false := by
    intro i hi
    have := congrArg (fun n => Nat.testBit n i) hp.2
    simp only [Nat.testBit_and, hi, Bool.true_and, Nat.zero_testBit] at this
    exact this
  refine ⟨hz j hj, ?_⟩
  apply Nat.eq_of_testBit_eq
  intro i
  rw [Nat.testBit_and, Nat.zero_testBit]
  cases hi : (row xs j).testBit i
  · rfl
  · rw [hz i (row_closed h he hj hi)]; rfl
/-- the complement of s among n elements -/
def compl (n s : Nat) : Nat := sub (2 ^ n - 1) s
theorem compl_testBit (n s i : Nat) : (compl n s).testBit i = (decide (i < n) && !s.testBit i) := by
  unfold compl; rw [sub_testBit, Nat.testBit_two_pow_sub_one]
theorem compl_lt (n s : Nat) : compl n s < 2 ^ n := by
  have := sub_le (2 ^ n - 1) s
  have h : 1 ≤ 2 ^ n := Nat.one_le_two_pow
  unfold compl; omega
theorem bottomN_testBit (xs : List Int) (s k j : Nat) : (bottomN xs s k).testBit j = true ↔ j < k ∧ s.testBit j = true ∧ row xs j &&& s = 0 := by
  induction k with
  | zero => simp [bottomN]
  | succ k ih =>
    unfold bottomN
    split
    · rename_i h
      simp only [Bool.and_eq_true, beq_iff_eq] at h
      rw [Nat.testBit_or, Bool.or_eq_true, ih, Nat.testBit_two_pow]
      constructor
      · rintro (⟨h1, h2, h3⟩ | h3)
        · exact ⟨by omega, h2, h3⟩
        · have : k = j := by simpa using h3
          subst this
          exact ⟨by omega, h.1, h.2⟩
      · rintro ⟨h1, h2, h3⟩
        by_cases he : k = j
        · subst he; simp
        · exact .inl ⟨by omega, h2, h3⟩
    · rename_i h
      simp only [Bool.and_eq_true, beq_iff_eq] at h
      rw [ih]
      constructor
      · rintro ⟨h1, h2, h3⟩; exact ⟨by omega, h2, h3⟩
      · rintro ⟨h1, h2, h3⟩
        by_cases he : k = j
        · subst he; exact absurd ⟨h2, h3⟩ h
        · exact ⟨by omega, h2, h3⟩
theorem and_compl_zero {n a s : Nat} (ha : a < 2 ^ n) : a &&& compl n s = 0 ↔ sub a s = 0 := by
  rw [sub_eq_zero]
  constructor
  · intro h i hi
    have := congrArg (fun m => Nat.testBit m i) h
    simp only [Nat.testBit_and, hi, Bool.true_and, Nat.zero_testBit, compl_testBit] at this
    have hlt := testBit_lt ha hi
    simpa [hlt] using this
  · intro h
    apply Nat.eq_of_testBit_eq
    intro i
    rw [Nat.testBit_and, compl_testBit, Nat.zero_testBit]
    cases hi : a.testBit i
    · rfl
    · simp [h i hi]
theorem down_testBit (xs : List Int) (s j : Nat) : (down xs s).testBit j = true ↔ s.testBit j = true ∨ ∃ e, e < xs.length ∧ s.testBit e = true ∧ (row xs e).testBit j = true := by
  unfold down under
  rw [Nat.testBit_or, Bool.or_eq_true, underN_testBit]; rfl
theorem rowmo_spec {xs : List Int} (h : good xs = true) (s : Nat) : down xs (bottom xs (compl xs.length s)) = rowmo xs s := by
  apply Nat.eq_of_testBit_eq
  intro j
  rw [Bool.eq_iff_iff, down_testBit]
  unfold bottom rowmo
  rw [orN_testBit]
  have key : ∀ e, (bottomN xs (compl xs.length s) xs.length).testBit e = true ↔ e < xs.length ∧ rowP xs s e = true := by
    intro e
    rw [bottomN_testBit]
    simp only [rowP, Bool.and_eq_true, Bool.not_eq_true', beq_iff_eq, compl_testBit, decide_eq_true_eq]
    constructor
    · rintro ⟨h1, ⟨_, h2⟩, h3⟩
      exact ⟨h1, h2, (and_compl_zero (row_lt_len h h1)).1 h3⟩
    · rintro ⟨h1, h2, h3⟩
      exact ⟨h1, ⟨h1, h2⟩, (and_compl_zero (row_lt_len h h1)).2 h3⟩
  constructor
  · rintro (h1 | ⟨e, h1, h2, h3⟩)
    · obtain ⟨h2, h3⟩ := (key j).1 h1
      exact ⟨j, h2, h3, by unfold rowG; rw [Nat.testBit_or, Nat.testBit_two_pow_self]; rfl⟩
    · obtain ⟨h4, h5⟩ := (key e).1 h2
      exact ⟨e, h4, h5, by unfold rowG; rw [Nat.testBit_or, h3]; simp⟩
  · rintro ⟨e, h1, h2, h3⟩
    unfold rowG at h3
    rw [Nat.testBit_or, Bool.or_eq_true, Nat.testBit_two_pow] at h3
    rcases h3 with h3 | h3
    · have : e = j := by simpa using h3
      subst this
      exact .inl ((key e).2 ⟨h1, h2⟩)
    · exact .inr ⟨e, h1, (key e).2 ⟨h1, h2⟩, h3⟩
/-! ### motions, many times -/
def iter (f : Nat → Nat) : Nat → Nat → Nat
  | 0, s => s
  | k + 1, s => f (iter f k s)
theorem iter_lt {f : Nat → Nat} {m : Nat} (hf : ∀ s, s < m → f s < m) {s : Nat} (hs : s < m) (k : Nat) : iter f k s < m := by
  induction k with
  | zero => exact hs
  | succ k ih => exact hf _ ih
end Go.Proofs.Ytpdoheagfjeefaa

/- Toggles of the model and of the program: ideals, words, one toggle. -/
namespace Go.Proofs.Ytpdoheagfjeefaa
open Go.RowKit Go.WideShapes Go.ChangeShapes
set_option linter.unusedVariables false

theorem okIdeal_no {xs : List Int} {s : Int} (h : okSet xs s = false) : okIdeal xs s = false := by simp [okIdeal, h]
theorem okSet_no {xs : List Int} {s : Int} (h : good xs = false) : okSet xs s = false := by simp [okSet, h]
theorem okIdeal_nat {xs : List Int} {z : Nat} (h : okSet xs (z : Int) = true) : okIdeal xs (z : Int) = holdsIdeal xs z := by simp [okIdeal, h]
theorem poSet_ok (v : Value) (xs : List Int) (s : Int) (w : World) (hv : Ints w v xs) (hg : good xs = true) :
    Calls Try.prog 149 #[.agg #[v], .int .i64 s] w fun r w' => r = .returned (.bool (okSet xs s)) ∧ Below w.heap.size w w' :=
  (poSet_any v xs s w hv (good_length hg).2).mono fun e w' ⟨h1, h2⟩ => ⟨by rw [h1]; exact ret_bool (by simp [okSet, hg]), h2⟩
theorem tgIn_any (v : Value) (xs : List Int) (s : Int) (w : World) (hv : Ints w v xs) (hl : xs.length ≤ 1048576) :
    Calls Try.prog 100 #[.agg #[v], .int .i64 s] w fun r w' => r = .returned (.bool (okIdeal xs s)) ∧ Below w.heap.size w w' := by
  have HV := hid hv
  clear hv
  cases hg : good xs
  · have HG := hid hg
    have HO := hid (okIdeal_no (s := s) (okSet_no hg))
    clear hg
    go_enter Try.func100, Try.ntmps100
    have HB := hid (below_alloc (Below.refl _ w) (.cells #[v] 26))
    have A0 := hid (At.newAt w v 26 w.heap.size (by simp))
    go_wp2_with fail
    refine (poGood_any _ xs _ (HV.out.below HB.out) hl).mono ?_
    rw [HG.out]
    rintro e w' ⟨rfl, hb⟩
    replace HB := hid (below_to HB.out hb)
    replace A0 := hid (A0.out.below hb)
    clear hb
    have ebox0 := A0.out.1
    go_wp2
    go_ret
    exact ⟨ret_bool HO.out.symm, HB.out⟩
  · cases hs : okSet xs s
    · have HG := hid hg
      have HO := hid (okIdeal_no hs)
      have HS := hid hs
      clear hg hs
      go_enter Try.func100, Try.ntmps100
      have HB := hid (below_alloc (Below.refl _ w) (.cells #[v] 26))
      have A0 := hid (At.newAt w v 26 w.heap.size (by simp))
      go_wp2_with fail
      refine (poGood_any _ xs _ (HV.out.below HB.out) hl).mono ?_
      rw [HG.out]
      rintro e w' ⟨rfl, hb⟩
      replace HB := hid (below_to HB.out hb)
      replace A0 := hid (A0.out.below hb)
      clear hb
      have ebox0 := A0.out.1
      go_wp2_with fail
      clear ebox0
      refine (poSet_ok _ xs s _ (HV.out.below HB.out) HG.out).mono ?_
      rw [HS.out]
      rintro e w' ⟨rfl, hb⟩
      replace HB := hid (below_to HB.out hb)
      replace A0 := hid (A0.out.below hb)
      clear hb
      have ebox0 := A0.out.1
      go_wp2
      go_ret
      exact ⟨ret_bool HO.out.symm, HB.out⟩
    · obtain ⟨h1, h2⟩ := okSet_lt hs
      obtain ⟨z, rfl⟩ := Int.eq_ofNat_of_zero_le h1
      have HG := hid hg
      have HO := hid (okIdeal_nat hs)
      have HS := hid hs
      have HM := hid (good_small hg z)
      have hl10 := (good_length hg).2
      clear hg hs
      go_enter Try.func100, Try.ntmps100
      have HB := hid (below_alloc (Below.refl _ w) (.cells #[v] 26))
      have A0 := hid (At.newAt w v 26 w.heap.size (by simp))
      go_wp2_with fail
      refine (poGood_any _ xs _ (HV.out.below HB.out) hl).mono ?_
      rw [HG.out]
      rintro e w' ⟨rfl, hb⟩
      replace HB := hid (below_to HB.out hb)
      replace A0 := hid (A0.out.below hb)
      clear hb
      have ebox0 := A0.out.1
      go_wp2_with fail
      clear ebox0
      refine (poSet_ok _ xs z _ (HV.out.below HB.out) HG.out).mono ?_
      rw [HS.out]
      rintro e w' ⟨rfl, hb⟩
      replace HB := hid (below_to HB.out hb)
      replace A0 := hid (A0.out.below hb)
      clear hb
      have ebox0 := A0.out.1
      go_wp2_with fail
      clear ebox0
      refine (poIdeal_any _ xs z _ (HV.out.below HB.out) hl10 (by omega) HM.out).mono ?_
      rintro e w' ⟨rfl, hb⟩
      replace HB := hid (below_to HB.out hb)
      replace A0 := hid (A0.out.below hb)
      clear hb
      have ebox0 := A0.out.1
      go_wp2
      go_ret
      exact ⟨ret_bool HO.out.symm, HB.out⟩
theorem hasIdeal_any (v : Value) (xs : List Int) (s : Int) (w : World) (hv : Ints w v xs) (hl : xs.length ≤ 1048576) :
    Calls Try.prog 97 #[.agg #[v], .int .i64 s] w fun r w' => r = .returned (.bool (okIdeal xs s)) ∧ Below w.heap.size w w' := by
  have HV := hid hv
  clear hv
  cases hs : okSet xs s
  · have HO := hid (okIdeal_no hs)
    have HS := hid hs
    clear hs
    go_enter Try.func97, Try.ntmps97
    have HB := hid (below_alloc (Below.refl _ w) (.cells #[v] 26))
    have A0 := hid (At.newAt w v 26 w.heap.size (by simp))
    go_wp2_with fail
    refine (hasSet_any _ xs s _ (HV.out.below HB.out) hl).mono ?_
    rw [HS.out]
    rintro e w' ⟨rfl, hb⟩
    replace HB := hid (below_to HB.out hb)
    replace A0 := hid (A0.out.below hb)
    clear hb
    have ebox0 := A0.out.1
    go_wp2
    go_ret
    exact ⟨ret_bool HO.out.symm, HB.out⟩
  · obtain ⟨h1, h2⟩ := okSet_lt hs
    obtain ⟨hg, -⟩ := okSet_good hs
    obtain ⟨z, rfl⟩ := Int.eq_ofNat_of_zero_le h1
    have HO := hid (okIdeal_nat hs)
    have HS := hid hs
    have HM := hid (good_small hg z)
    have hl10 := (good_length hg).2
    clear hg hs
    go_enter Try.func97, Try.ntmps97
    have HB := hid (below_alloc (Below.refl _ w) (.cells #[v] 26))
    have A0 := hid (At.newAt w v 26 w.heap.size (by simp))
    go_wp2_with fail
    refine (hasSet_any _ xs z _ (HV.out.below HB.out) hl).mono ?_
    rw [HS.out]
    rintro e w' ⟨rfl, hb⟩
    replace HB := hid (below_to HB.out hb)
    replace A0 := hid (A0.out.below hb)
    clear hb
    have ebox0 := A0.out.1
    go_wp2_with fail
    clear ebox0
    refine (holdsIdeal_any _ xs z _ (HV.out.below HB.out) hl10 (by omega) HM.out).mono ?_
    rintro e w' ⟨rfl, hb⟩
    replace HB := hid (below_to HB.out hb)
    replace A0 := hid (A0.out.below hb)
    clear hb
    have ebox0 := A0.out.1
    go_wp2
    go_ret
    exact ⟨ret_bool HO.out.symm, HB.out⟩
theorem tgElement_any (v : Value) (xs : List Int) (s : Int) (w : World) (hv : Ints w v xs) (hl : xs.length ≤ 1048576) :
    Calls Try.prog 109 #[.agg #[v], .int .i64 s] w fun r w' => r = .returned (.bool (decide (0 ≤ s) && decide (s < xs.length))) ∧ Below w.heap.size w w' := by
  obtain ⟨A, c, rfl, hA⟩ := hv
  clear hA
  have HE : Hid ((decide (0 ≤ s) && decide (s ≤ (xs.length : Int) - 1)) = (decide (0 ≤ s) && decide (s < xs.length))) := hid (by
    rw [show decide (s ≤ (xs.length : Int) - 1) = decide (s < xs.length) from decide_eq_decide.2 (by omega)])
  go_enter Try.func109, Try.ntmps109
  go_wp2_with (go_at_call 119; refine (l1In_any _ _ _ _).mono ?_; rw [HE.out]; rintro e w' ⟨rfl, rfl⟩)
  go_ret
  exact ⟨rfl, (Below.refl _ _).alloc (Nat.le_refl _) _⟩
theorem hasIndex_any (v : Value) (xs : List Int) (s : Int) (w : World) (hv : Ints w v xs) (hl : xs.length ≤ 1048576) :
    Calls Try.prog 156 #[.agg #[v], .int .i64 s] w fun r w' => r = .returned (.bool (decide (0 ≤ s) && decide (s < xs.length))) ∧ Below w.heap.size w w' := by
  obtain ⟨A, c, rfl, hA⟩ := hv
  clear hA
  go_enter Try.func156, Try.ntmps156
  go_wp2
  all_goals go_ret
  all_goals exact ⟨ret_bool (by simp <;> omega), (Below.refl _ _).alloc (Nat.le_refl _) _⟩
theorem tgAt_any (v : Value) (xs : List Int) (s e : Nat) (w : World) (hv : Ints w v xs) (hg : good xs = true) (hs : s < 2 ^ xs.length) (he : e < xs.length) :
    Calls Try.prog 111 #[.agg #[v], .int .i64 s, .int .i64 e] w fun r w' => r = .returned (.int .i64 (tog xs s e : Nat)) ∧ Below w.heap.size w w' := by
  have HV := hid hv
  have HS := hid (good_small hg (s ^^^ 2 ^ e))
  have hl10 := (good_length hg).2
  have hx := lt1024 (xor_lt_len hs he) hl10
  have hs10 := lt1024 hs hl10
  have wp := wrap_pow' e (by omega)
  have hxor := xor_pow s e hs10 (by omega)
  clear hv hg hs
  obtain ⟨x, hxe⟩ : ∃ x, s ^^^ 2 ^ e = x := ⟨_, rfl⟩
  rw [hxe] at HS hx hxor
  cases hI : holdsIdeal xs x
  · have HT := hid (show tog xs s e = s from tog_no (by rw [hxe]; exact hI))
    have HI := hid hI
    clear hI hxe
    go_enter Try.func111, Try.ntmps111
    have HB := hid (below_alloc (Below.refl _ w) (.cells #[v] 26))
    have A0 := hid (At.newAt w v 26 w.heap.size (by simp))
    go_wp2_with fail
    refine (poIdeal_any _ xs x _ (HV.out.below HB.out) hl10 hx HS.out).mono ?_
    rw [HI.out]
    rintro e w' ⟨rfl, hb⟩
    replace HB := hid (below_to HB.out hb)
    replace A0 := hid (A0.out.below hb)
    clear hb
    have ebox0 := A0.out.1
    go_wp2
    go_ret
    exact ⟨ret_int (by rw [HT.out]), HB.out⟩
  · have HT := hid (show tog xs s e = x from by rw [tog_yes (by rw [hxe]; exact hI), hxe])
    have HI := hid hI
    clear hI hxe
    go_enter Try.func111, Try.ntmps111
    have HB := hid (below_alloc (Below.refl _ w) (.cells #[v] 26))
    have A0 := hid (At.newAt w v 26 w.heap.size (by simp))
    go_wp2_with fail
    refine (poIdeal_any _ xs x _ (HV.out.below HB.out) hl10 hx HS.out).mono ?_
    rw [HI.out]
    rintro e w' ⟨rfl, hb⟩
    replace HB := hid (below_to HB.out hb)
    replace A0 := hid (A0.out.below hb)
    clear hb
    have ebox0 := A0.out.1
    go_wp2
    go_ret
    exact ⟨ret_int (by rw [HT.out]), HB.out⟩
end Go.Proofs.Ytpdoheagfjeefaa
