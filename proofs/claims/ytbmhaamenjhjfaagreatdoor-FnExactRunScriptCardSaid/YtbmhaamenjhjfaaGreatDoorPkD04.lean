/- NumD TextB From Nest2 -/
import Derived.Lib.AtoiTie
import Derived.Lib.ItoaMem
import Derived.Deep.Matrix
import Derived.Test.YtbmhaamenjhjfaaGreatDoorPkD03
namespace Go.Proofs.YtbmhaamenjhjfaaGreatDoor
open Go.RowKit Go.WideShapes Go.ChangeShapes
set_option linter.unusedVariables false
def decD (n : Nat) : List UInt8 := Lib.decDigits n
theorem decD_lo {n : Nat} (h : n < 10) : decD n = [UInt8.ofNat (48 + n)] := Lib.decDigits_one h
theorem decD_hi {n : Nat} (h : ¬ n < 10) : decD n = decD (n / 10) ++ [UInt8.ofNat (48 + n % 10)] := by unfold decD; rw [Lib.decDigits, dif_neg h]
theorem digCh {d : Nat} (h : d < 10) : (UInt8.ofNat (48 + d)).toNat = 48 + d := by
  show (48 + d) % 256 = 48 + d
  omega
theorem isDigCh {d : Nat} (h : d < 10) : isDig (UInt8.ofNat (48 + d)) = true := by
  unfold isDig
  rw [digCh h]
  simp; omega
theorem decD_dig (n : Nat) : (decD n).all isDig = true := by
  induction n using Nat.strongRecOn with
  | _ n ih =>
    by_cases h : n < 10
    · rw [decD_lo h, List.all_cons, List.all_nil, Bool.and_true]; exact isDigCh h
    · rw [decD_hi h, List.all_append, ih (n / 10) (by omega), Bool.true_and, List.all_cons, List.all_nil, Bool.and_true]
      exact isDigCh (show n % 10 < 10 by omega)
theorem decD_ne (n : Nat) : 1 ≤ (decD n).length := by
  by_cases h : n < 10
  · rw [decD_lo h]; simp
  · rw [decD_hi h]; simp
theorem decD_len {k n : Nat} (h : n < 10 ^ k) (hk : 1 ≤ k) : (decD n).length ≤ k := by
  induction k generalizing n with
  | zero => omega
  | succ k ih =>
    by_cases hn : n < 10
    · rw [decD_lo hn]; simp
    · rw [decD_hi hn, List.length_append]
      rw [Nat.pow_succ] at h
      have hk1 : 1 ≤ k := by
        rcases Nat.eq_zero_or_pos k with rfl | hp
        · simp at h; omega
        · exact hp
      have := ih (n := n / 10) (by omega) hk1
      simp; omega
theorem decD_head {n : Nat} (h : 0 < n) : ((decD n).getD 0 0).toNat ≠ 48 := by
  induction n using Nat.strongRecOn with
  | _ n ih =>
    by_cases hn : n < 10
    · rw [decD_lo hn]
      show (UInt8.ofNat (48 + n)).toNat ≠ 48
      rw [digCh hn]; omega
    · rw [decD_hi hn]
      have h1 := decD_ne (n / 10)
      have h2 := ih (n / 10) (by omega) (by omega)
      have e : (decD (n / 10) ++ [UInt8.ofNat (48 + n % 10)]).getD 0 0 = (decD (n / 10)).getD 0 0 := by
        simp only [List.getD]
        rw [List.getElem?_append_left (by omega)]
      rw [e]; exact h2
theorem digN_app (l : List UInt8) (r : List UInt8) (k : Nat) (hk : k ≤ l.length) : digN (l ++ r) k = digN l k := by
  induction k with
  | zero => rfl
  | succ k ih =>
    have e : (l ++ r).getD k 0 = l.getD k 0 := by
      simp only [List.getD]
      rw [List.getElem?_append_left (by omega)]
    rw [digN, digN, ih (by omega), e]
theorem digN_snoc (l : List UInt8) (c : UInt8) : digN (l ++ [c]) (l ++ [c]).length = 10 * digN l l.length + (c.toNat - 48) := by
  have e : (l ++ [c]).getD l.length 0 = c := by simp [List.getD]
  rw [List.length_append, List.length_singleton, digN, digN_app l [c] l.length (Nat.le_refl _), e]
theorem digN_dec (n : Nat) : digN (decD n) (decD n).length = n := by
  induction n using Nat.strongRecOn with
  | _ n ih =>
    by_cases h : n < 10
    · rw [decD_lo h]
      show digN ([] ++ [UInt8.ofNat (48 + n)]) ([] ++ [UInt8.ofNat (48 + n)]).length = n
      rw [digN_snoc, digCh h]
      simp [digN]
    · rw [decD_hi h, digN_snoc, ih (n / 10) (by omega), digCh (by omega)]
      omega
theorem snoc_cases {α : Type} (l : List α) (h : l ≠ []) : ∃ r c, l = r ++ [c] := ⟨l.dropLast, l.getLast h, (List.dropLast_concat_getLast h).symm⟩
theorem dec_digN : ∀ (k : Nat) (l : List UInt8), l.length = k → 1 ≤ k → l.all isDig = true → ((l.getD 0 0).toNat = 48 → k ≤ 1) → decD (digN l k) = l ∧ ((l.getD 0 0).toNat ≠ 48 → 0 < digN l k) := by
  intro k
  induction k with
  | zero => intro l _ h; omega
  | succ k ih =>
    intro l hl _ ha h0
    obtain ⟨r, c, rfl⟩ := snoc_cases l (by intro e; rw [e] at hl; simp at hl)
    have hr : r.length = k := by simpa using hl
    rw [List.all_append] at ha
    simp only [List.all_cons, List.all_nil, Bool.and_true, Bool.and_eq_true] at ha
    obtain ⟨ha1, ha2⟩ := ha
    have hc : 48 ≤ c.toNat ∧ c.toNat ≤ 57 := by simpa [isDig] using ha2
    have hce : UInt8.ofNat (48 + (c.toNat - 48)) = c := by
      rw [show 48 + (c.toNat - 48) = c.toNat by omega]; simp
    have hd := digN_snoc r c
    rw [hl] at hd
    rcases Nat.eq_zero_or_pos k with rfl | hk
    · obtain rfl : r = [] := List.length_eq_zero_iff.1 hr
      have hd0 : digN ([] ++ [c]) (0 + 1) = c.toNat - 48 := by rw [hd]; simp [digN]
      refine ⟨?_, ?_⟩
      · rw [hd0, decD_lo (by omega), hce]; rfl
      · intro h; rw [hd0]
        have : (([] ++ [c] : List UInt8).getD 0 0).toNat = c.toNat := rfl
        omega
    · have e0 : (r ++ [c]).getD 0 0 = r.getD 0 0 := by
        simp only [List.getD]
        rw [List.getElem?_append_left (by omega)]
      rw [e0] at h0 ⊢
      have hn0 : (r.getD 0 0).toNat ≠ 48 := fun h => by have := h0 h; omega
      obtain ⟨i1, i2⟩ := ih r hr hk ha1 (fun h => absurd h hn0)
      have i3 := i2 hn0
      rw [hr] at hd
      refine ⟨?_, fun _ => by rw [hd]; omega⟩
      rw [hd, decD_hi (by omega), show (10 * digN r k + (c.toNat - 48)) / 10 = digN r k by omega, show (10 * digN r k + (c.toNat - 48)) % 10 = c.toNat - 48 by omega, i1, hce]
theorem readOk_iff {l : List UInt8} : readOk l = true ↔ (1 ≤ l.length ∧ l.length ≤ 6) ∧ ¬ ((l.getD 0 0).toNat = 48 ∧ 1 < l.length) ∧ l.all isDig = true := by
  unfold readOk
  rw [Bool.and_eq_true, Bool.and_eq_true, Bool.and_eq_true, decide_eq_true_iff, decide_eq_true_iff, Bool.not_eq_true', Bool.and_eq_false_iff, decide_eq_false_iff_not, decide_eq_false_iff_not]
  constructor
  · rintro ⟨h1, h2, h3⟩; exact ⟨h1, fun ⟨a, b⟩ => by rcases h2 with h | h <;> contradiction, h3⟩
  · rintro ⟨h1, h2, h3⟩
    refine ⟨h1, ?_, h3⟩
    by_cases a : (l.getD 0 0).toNat = 48
    · exact .inr fun b => h2 ⟨a, b⟩
    · exact .inl a
theorem readOk_dec {l : List UInt8} (h : readOk l = true) : decD (digN l l.length) = l ∧ digN l l.length ≤ 999999 := by
  obtain ⟨⟨h1, h2⟩, h3, h4⟩ := readOk_iff.1 h
  refine ⟨(dec_digN _ l rfl h1 h4 (fun h => by
    by_cases hl : 1 < l.length
    · exact absurd ⟨h, hl⟩ h3
    · omega)).1, ?_⟩
  have hj : ∀ j, j < l.length → isDig (l.getD j 0) = true := by
    intro j hj
    have : l.getD j 0 = l[j] := by simp [List.getD, hj]
    rw [this]
    exact List.all_eq_true.1 h4 _ (List.getElem_mem hj)
  have := digN_lt l.length hj
  have hp : 10 ^ l.length ≤ 10 ^ 6 := Nat.pow_le_pow_right (by decide) h2
  have e6 : (10 : Nat) ^ 6 = 1000000 := by decide
  omega
theorem dec_readOk {n : Nat} (h : n ≤ 999999) : readOk (decD n) = true := by
  refine readOk_iff.2 ⟨⟨decD_ne n, decD_len (k := 6) (by omega) (by decide)⟩, ?_, decD_dig n⟩
  rintro ⟨a, b⟩
  rcases Nat.eq_zero_or_pos n with rfl | hn
  · rw [decD_lo (by decide)] at b; simp at b
  · exact decD_head hn a
theorem readL_dec {n : Nat} (h : n ≤ 999999) : readL (decD n) = (n : Int) := by rw [readL_yes (dec_readOk h), digN_dec]
theorem readL_iff {l : List UInt8} {n : Nat} : (readL l = (n : Int)) ↔ (n ≤ 999999 ∧ l = decD n) := by
  constructor
  · intro h
    cases hr : readOk l
    · rw [readL_no hr] at h; omega
    · rw [readL_yes hr] at h
      obtain ⟨h1, h2⟩ := readOk_dec hr
      have e : digN l l.length = n := by omega
      rw [e] at h1 h2
      exact ⟨h2, h1.symm⟩
  · rintro ⟨h, rfl⟩; exact readL_dec h
theorem decFrom_digN (l r : List UInt8) (h : l.all isDig = true) : Lib.decFrom 0 (l ++ r) = Lib.decFrom (digN l l.length) r := by
  induction hk : l.length generalizing l r with
  | zero =>
    obtain rfl : l = [] := List.length_eq_zero_iff.1 hk
    rfl
  | succ k ih =>
    obtain ⟨s, c, rfl⟩ := snoc_cases l (by intro e; rw [e] at hk; simp at hk)
    have hs : s.length = k := by simpa using hk
    rw [List.all_append] at h
    simp only [List.all_cons, List.all_nil, Bool.and_true, Bool.and_eq_true] at h
    have hc : 48 ≤ c.toNat ∧ c.toNat ≤ 57 := by simpa [isDig] using h.2
    have hd := digN_snoc s c
    rw [hk, hs] at hd
    rw [hd, List.append_assoc, ih s ([c] ++ r) h.1 hs]
    show Lib.decFrom _ (c :: r) = _
    rw [Lib.decFrom, Lib.digitVal, if_pos hc]
    simp only []
    rw [Nat.mul_comm]
theorem atoi_dig {l : List UInt8} (h1 : 1 ≤ l.length) (h2 : l.length ≤ 18) (h : l.all isDig = true) : Lib.atoiAll l = .ok (digN l l.length : Int) := by
  rw [Lib.atoiAll_short l h2]
  cases l with
  | nil => simp at h1
  | cons c r =>
    have hc : 48 ≤ c.toNat ∧ c.toNat ≤ 57 := by
      have := List.all_eq_true.1 h c (by simp)
      simpa [isDig] using this
    have e1 : (c == 45) = false := by
      rw [beq_eq_false_iff_ne]; rintro rfl; revert hc; decide
    have e2 : (c == 43) = false := by
      rw [beq_eq_false_iff_ne]; rintro rfl; revert hc; decide
    have hd := decFrom_digN (c :: r) [] h
    rw [List.append_nil] at hd
    show Lib.NumEnd.ofOption (Lib.atoi (c :: r)) = _
    unfold Lib.atoi
    simp only [e1, e2, Bool.false_eq_true, if_false]
    unfold Lib.decNat
    rw [List.isEmpty_cons]
    simp only [Bool.false_eq_true, if_false]
    rw [hd]
    rfl
theorem atoi_decD {n : Nat} (h : n ≤ 999999) : Lib.atoiAll (decD n) = .ok (n : Int) := by
  rw [atoi_dig (decD_ne n) (Nat.le_trans (decD_len (k := 6) (by omega) (by decide)) (by decide)) (decD_dig n), digN_dec]
theorem number_iff {l : List UInt8} {n : Int} (ha : Lib.atoiAll l = .ok n) (h0 : 0 ≤ n) (h1 : n ≤ 999999) : (decD n.toNat = l) ↔ readL l = n := by
  obtain ⟨m, rfl⟩ := Int.eq_ofNat_of_zero_le h0
  rw [Int.toNat_natCast]
  have := readL_iff (l := l) (n := m)
  constructor
  · intro h; exact this.2 ⟨by omega, h.symm⟩
  · intro h; exact (this.1 h).2.symm
theorem readL_atoi {l : List UInt8} (h : 0 ≤ readL l) : Lib.atoiAll l = .ok (readL l) ∧ readL l ≤ 999999 := by
  obtain ⟨m, hm⟩ := Int.eq_ofNat_of_zero_le h
  have hm' : readL l = (m : Int) := hm
  obtain ⟨h1, rfl⟩ := readL_iff.1 hm'
  rw [hm']
  exact ⟨atoi_decD h1, by omega⟩
theorem numL_dec {n : Nat} (h : n ≤ 10) : numL n = decD n := by
  rcases (by omega : n < 10 ∨ n = 10) with hn | rfl
  · rw [decD_lo hn]; exact if_pos hn
  · rw [decD_hi (by decide), decD_lo (by decide)]; rfl
end Go.Proofs.YtbmhaamenjhjfaaGreatDoor
namespace Go.Proofs.YtbmhaamenjhjfaaGreatDoor
open Go.RowKit Go.WideShapes Go.ChangeShapes
set_option linter.unusedVariables false
theorem covIn_mem {xs : List Int} {j : Nat} (i : Nat) {p : Nat × Nat} (h : p ∈ covIn xs j i) : p.1 = j ∧ p.2 < i := by
  induction i with
  | zero => simp [covIn] at h
  | succ i ih =>
    unfold covIn at h
    split at h
    · rw [List.mem_append] at h
      rcases h with h | h
      · have := ih h; omega
      · simp at h; subst h; simp
    · have := ih h; omega
theorem covPS_mem {xs : List Int} {n : Nat} (j : Nat) {p : Nat × Nat} (h : p ∈ covPS xs n j) : p.1 < j ∧ p.2 < n := by
  induction j with
  | zero => simp [covPS] at h
  | succ j ih =>
    unfold covPS at h
    rw [List.mem_append] at h
    rcases h with h | h
    · have := ih h; omega
    · have := covIn_mem n h; omega
theorem covPS_at {xs : List Int} {n k : Nat} (h : k < (covPS xs n n).length) : ((covPS xs n n).getD k (0, 0)).1 < n ∧ ((covPS xs n n).getD k (0, 0)).2 < n := by
  have : (covPS xs n n).getD k (0, 0) = (covPS xs n n)[k] := by simp [List.getD, h]
  rw [this]
  exact covPS_mem n (List.getElem_mem h)
theorem sB_toList (l : List UInt8) : (sB l).toList = l := by rw [Lib.toList_data]; show l.toArray.toList = l; simp
def pairT (p : Nat × Nat) : List UInt8 := (numL p.1 ++ [60]) ++ numL p.2
theorem pairT_length (p : Nat × Nat) : (pairT p).length ≤ 5 := by
  have h1 := numL_length p.1
  have h2 := numL_length p.2
  unfold pairT
  simp only [List.length_append, List.length_singleton]
  omega
theorem pairT_ne (p : Nat × Nat) : 1 ≤ (pairT p).length := by
  unfold pairT
  simp only [List.length_append, List.length_singleton]
  omega
def lsT (ps : List (Nat × Nat)) : Nat → List UInt8
  | 0 => []
  | k + 1 => (if 0 < k then lsT ps k ++ [44] else lsT ps k) ++ pairT (ps.getD k (0, 0))
theorem lsT_length (ps : List (Nat × Nat)) (k : Nat) : (lsT ps k).length ≤ 6 * k := by
  induction k with
  | zero => simp [lsT]
  | succ k ih =>
    have := pairT_length (ps.getD k (0, 0))
    unfold lsT
    split <;> simp only [List.length_append, List.length_singleton] <;> omega
theorem lsT_ne (ps : List (Nat × Nat)) (k : Nat) (h : 1 ≤ k) : 1 ≤ (lsT ps k).length := by
  obtain ⟨j, rfl⟩ : ∃ j, k = j + 1 := ⟨k - 1, by omega⟩
  have := pairT_ne (ps.getD j (0, 0))
  unfold lsT
  rw [List.length_append]
  omega
def textL (n : Nat) (ps : List (Nat × Nat)) : List UInt8 := (numL n ++ [58]) ++ (if ps.length = 0 then [45] else lsT ps ps.length)
theorem run_sBc (l : List UInt8) (c : UInt8) (h : l.length ≤ 900000) (w : World) : (Op.stringOp .add (sB l) { data := #[c] }).run Tryz.prog w = .ok (.string (sB (l ++ [c]))) w := run_sB1 l c h w
set_option maxRecDepth 100000 in
set_option maxHeartbeats 3200000 in
theorem poText_any (v : Value) (xs : List Int) (w : World) (hv : Ints w v xs) (hg : good xs = true) :
    Calls Tryz.prog 77 #[.agg #[v]] w fun r w' => r = .returned (.string (sB (textL xs.length (covPS xs xs.length xs.length)))) ∧ Below w.heap.size w w' := by
  have hl10 := (good_length hg).2
  have HV := hid hv
  have HG := hid hg
  have HE : Hid (Value.string { data := #[] } = Value.string (sB [])) := hid rfl
  obtain ⟨A, c, rfl, -⟩ := hv
  have HM := hid (fun k (h : k < (covPS xs xs.length xs.length).length) => covPS_at h)
  have hc1 := covPS_length xs xs.length xs.length
  obtain ⟨ps, hps⟩ : ∃ ps, covPS xs xs.length xs.length = ps := ⟨_, rfl⟩
  have hc2 : ps.length ≤ 100 := by
    have h3 : xs.length * xs.length ≤ 10 * 10 := Nat.mul_le_mul hl10 hl10
    rw [← hps]; omega
  have HPP := hid (fun W (hV : Ints W (.slice A xs.length c) xs) => poPairs_any (.slice A xs.length c) xs W hV hg)
  rw [hps] at HM HPP ⊢
  obtain ⟨n, hn⟩ : ∃ n, xs.length = n := ⟨_, rfl⟩
  rw [hn] at hl10 HV HM HPP ⊢
  clear hg hn hc1 hps
  go_enter Tryz.func77, Tryz.ntmps77
  go_wp2_with fail
  refine (HPP.out _ (HV.out.alloc _)).mono ?_
  rintro e w1 ⟨u, rfl, hP, hb⟩
  obtain ⟨pA, pc, rfl, hcs⟩ := hP.shape
  have HC := hid hcs
  have HB1 := hid (below_to (below_alloc (Below.refl _ w) _) hb)
  have HA1 := hid ((At.new w (.slice A n c) 28).below hb)
  clear hP hb hcs
  go_wp2
  go_loopw [3, 9] (fun s i wr => ∃ (k : Nat) (l : List UInt8), k ≤ ps.length ∧ s = .string (sB l) ∧ i = .int .i64 k ∧ Hid (lsT ps k = l) ∧ Below w1.heap.size w1 wr) (fun _ i _ => ps.length - (intOf i).toNat)
  case atStart => exact ⟨0, [], Nat.zero_le _, HE.out, rfl, hid rfl, Below.refl _ _⟩
  case round =>
    obtain ⟨k, l, hk, rfl, rfl, HL, hb⟩ := hrel
    have HB := hid hb
    have hll : l.length ≤ 600 := by
      have := lsT_length ps k
      rw [HL.out] at this; omega
    by_cases hkl : k < ps.length
    · obtain ⟨b, g, rfl, hb1, hb2, hc3, hc4, hc5⟩ := HC.out k hkl
      obtain ⟨m1, m2⟩ := HM.out k hkl
      have HS : Hid (lsT ps (k + 1) = (if 0 < k then l ++ [44] else l) ++ pairT (ps.getD k (0, 0))) := hid (by rw [lsT, HL.out])
      obtain ⟨p, hp⟩ : ∃ p, ps.getD k (0, 0) = p := ⟨_, rfl⟩
      rw [hp] at hc4 hc5 m1 m2 HS
      obtain ⟨x, hx⟩ : ∃ x, p.1 = x := ⟨_, rfl⟩
      obtain ⟨y, hy⟩ : ∃ y, p.2 = y := ⟨_, rfl⟩
      have HPT : Hid (pairT p = (numL x ++ [60]) ++ numL y) := hid (by rw [pairT, hx, hy])
      rw [hx] at hc4 m1; rw [hy] at hc5 m2
      have hct := (hb.cell (p := ⟨b, k, none⟩) hb1).trans hc3
      have hcx := (hb.cell (p := ⟨g, 0, none⟩) hb2).trans hc4
      have hcy := (hb.cell (p := ⟨g, 1, none⟩) hb2).trans hc5
      have HCx := hid hcx
      have HCy := hid hcy
      have hgw : g < wr.heap.size := Nat.lt_of_lt_of_le hb2 hb.size
      have hn1 := numL_length x
      have hn2 := numL_length y
      obtain ⟨X1, hX1⟩ : ∃ X1, numL x ++ [60] = X1 := ⟨_, rfl⟩
      obtain ⟨X2, hX2⟩ : ∃ X2, X1 ++ numL y = X2 := ⟨_, rfl⟩
      have hX1l : X1.length ≤ 3 := by rw [← hX1]; simp; omega
      have hX2l : X2.length ≤ 5 := by rw [← hX2]; simp; omega
      have Hadd1 := hid (fun W => run_sBc (numL x) 60 (by omega) W)
      have Hadd2 := hid (fun W => run_sB X1 (numL y) (by omega) W)
      rw [hX1] at Hadd1 HPT
      rw [hX2] at Hadd2 HPT
      have hx10 : x ≤ 10 := by omega
      have hy10 : y ≤ 10 := by omega
      clear hb hc3 hc4 hc5 hp hx hy hX1 hX2
      by_cases h0 : 0 < k
      · have h0' : (0 : Int) < (k : Int) := by omega
        obtain ⟨L1, hL1⟩ : ∃ L1, l ++ [44] = L1 := ⟨_, rfl⟩
        have hL1l : L1.length ≤ 601 := by rw [← hL1]; simp; omega
        obtain ⟨L4, hL4⟩ : ∃ L4, L1 ++ X2 = L4 := ⟨_, rfl⟩
        have hadd0 := fun W => run_sBc l 44 (by omega) W
        have Hadd3 := hid (fun W => run_sB L1 X2 (by omega) W)
        rw [hL4] at Hadd3
        rw [hL1] at hadd0
        have HS2 : Hid (lsT ps (k + 1) = L4) := hid (by rw [HS.out, HPT.out, if_pos h0, hL1, hL4])
        clear hL1 hL4
        go_wp2_with fail
        clear hct hadd0
        have hadd1 := Hadd1.out
        have hadd2 := Hadd2.out
        have hadd3 := Hadd3.out
        go_region_with (first | (go_at_call 85; (with_reducible refine (l1Num_any x _ hx10).mono ?_); rintro e w3 ⟨rfl, hb3⟩; (first | (have H3 := hid (below_to H3.out hb3)) | (have H3 := hid (below_to (Below.refl wr.heap.size wr).drew hb3))); have hcx3 := (H3.out.cell (p := ⟨g, 0, none⟩) hgw).trans HCx.out; have hcy3 := (H3.out.cell (p := ⟨g, 1, none⟩) hgw).trans HCy.out; clear hb3) | (go_at_call 85; (with_reducible refine (l1Num_any y _ hy10).mono ?_); rintro e w3 ⟨rfl, hb3⟩; (first | (have H3 := hid (below_to H3.out hb3)) | (have H3 := hid (below_to (Below.refl wr.heap.size wr).drew hb3))); have hcx3 := (H3.out.cell (p := ⟨g, 0, none⟩) hgw).trans HCx.out; have hcy3 := (H3.out.cell (p := ⟨g, 1, none⟩) hgw).trans HCy.out; clear hb3))
        all_goals clear hcx3 hcy3 hadd1 hadd2 hadd3
        all_goals go_wp2
        all_goals go_roundw
        all_goals first
          | exact ⟨k + 1, L4, by omega, rfl, by go_num, HS2.out, below_to HB.out H3.out⟩
          | (simp [intOf]; omega)
      · have h0' : ¬ (0 : Int) < (k : Int) := by omega
        obtain ⟨L4, hL4⟩ : ∃ L4, l ++ X2 = L4 := ⟨_, rfl⟩
        have Hadd3 := hid (fun W => run_sB l X2 (by omega) W)
        rw [hL4] at Hadd3
        have HS2 : Hid (lsT ps (k + 1) = L4) := hid (by rw [HS.out, HPT.out, if_neg h0, hL4])
        clear hL4
        go_wp2_with fail
        clear hct
        have hadd1 := Hadd1.out
        have hadd2 := Hadd2.out
        have hadd3 := Hadd3.out
        go_region_with (first | (go_at_call 85; (with_reducible refine (l1Num_any x _ hx10).mono ?_); rintro e w3 ⟨rfl, hb3⟩; (first | (have H3 := hid (below_to H3.out hb3)) | (have H3 := hid (below_to (Below.refl wr.heap.size wr).drew hb3))); have hcx3 := (H3.out.cell (p := ⟨g, 0, none⟩) hgw).trans HCx.out; have hcy3 := (H3.out.cell (p := ⟨g, 1, none⟩) hgw).trans HCy.out; clear hb3) | (go_at_call 85; (with_reducible refine (l1Num_any y _ hy10).mono ?_); rintro e w3 ⟨rfl, hb3⟩; (first | (have H3 := hid (below_to H3.out hb3)) | (have H3 := hid (below_to (Below.refl wr.heap.size wr).drew hb3))); have hcx3 := (H3.out.cell (p := ⟨g, 0, none⟩) hgw).trans HCx.out; have hcy3 := (H3.out.cell (p := ⟨g, 1, none⟩) hgw).trans HCy.out; clear hb3))
        all_goals clear hcx3 hcy3 hadd1 hadd2 hadd3
        all_goals go_wp2
        all_goals go_roundw
        all_goals first
          | exact ⟨k + 1, L4, by omega, rfl, by go_num, HS2.out, below_to HB.out H3.out⟩
          | (simp [intOf]; omega)
    · obtain rfl : k = ps.length := by omega
      have HB2 := hid (below_to HB1.out hb)
      have hbx := ((HA1.out.below hb)).1
      have hn10 : n ≤ 10 := hl10
      have hnn := numL_length n
      clear hb
      by_cases h0 : ps.length = 0
      · have hl0 : l = [] := by rw [← HL.out, h0]; rfl
        have HT : Hid (textL n ps = (numL n ++ [58]) ++ [45]) := hid (by rw [textL, if_pos h0])
        have he : (sB l).toList.isEmpty = true := by rw [sB_toList]; rw [hl0]; rfl
        obtain ⟨T1, hT1⟩ : ∃ T1, numL n ++ [58] = T1 := ⟨_, rfl⟩
        have hT1l : T1.length ≤ 3 := by rw [← hT1]; simp; omega
        obtain ⟨T2, hT2⟩ : ∃ T2, T1 ++ [45] = T2 := ⟨_, rfl⟩
        have Ha1 := hid (fun W => run_sBc (numL n) 58 (by omega) W)
        have Ha2 := hid (fun W => run_sB T1 [45] (by simp; omega) W)
        rw [hT1] at Ha1 HT
        rw [hT2] at Ha2 HT
        clear hT1 hT2 hl0
        go_wp2_with fail
        refine (l1Num_any n _ hn10).mono ?_
        rintro e w3 ⟨rfl, hb3⟩
        have HB3 := hid (below_to HB2.out hb3)
        have ha1 := Ha1.out
        have ha2 : ∀ W, (Op.stringOp .add (sB T1) { data := #[45] }).run Tryz.prog W = .ok (.string (sB T2)) W := Ha2.out
        clear hb3 he
        go_wp2
        go_ret
        exact ⟨ret_s (by rw [HT.out]), HB3.out⟩
      · have hne : 1 ≤ l.length := by rw [← HL.out]; exact lsT_ne ps _ (by omega)
        have HT : Hid (textL n ps = (numL n ++ [58]) ++ l) := hid (by rw [textL, if_neg h0, HL.out])
        have he : (sB l).toList.isEmpty = false := by rw [sB_toList]; cases l with | nil => simp at hne | cons => rfl
        obtain ⟨T1, hT1⟩ : ∃ T1, numL n ++ [58] = T1 := ⟨_, rfl⟩
        have hT1l : T1.length ≤ 3 := by rw [← hT1]; simp; omega
        obtain ⟨T2, hT2⟩ : ∃ T2, T1 ++ l = T2 := ⟨_, rfl⟩
        have Ha1 := hid (fun W => run_sBc (numL n) 58 (by omega) W)
        have Ha2 := hid (fun W => run_sB T1 l (by omega) W)
        rw [hT1] at Ha1 HT
        rw [hT2] at Ha2 HT
        clear hT1 hT2
        go_wp2_with fail
        refine (l1Num_any n _ hn10).mono ?_
        rintro e w3 ⟨rfl, hb3⟩
        have HB3 := hid (below_to HB2.out hb3)
        have ha1 := Ha1.out
        have ha2 : ∀ W, (Op.stringOp .add (sB T1) (sB l)).run Tryz.prog W = .ok (.string (sB T2)) W := Ha2.out
        clear hb3 he
        go_wp2
        go_ret
        exact ⟨ret_s (by rw [HT.out]), HB3.out⟩
end Go.Proofs.YtbmhaamenjhjfaaGreatDoor
namespace Go.Proofs.YtbmhaamenjhjfaaGreatDoor
open Go.RowKit Go.WideShapes Go.ChangeShapes
set_option linter.unusedVariables false
def fstep (g : Nat → Nat) (i : Nat) (p : Nat × Nat) (r : Nat) : Nat := if p.2 = i then (if r = i then g i ||| (2 ^ p.1 ||| g p.1) else g r) else g r
def fin_ (ps : List (Nat × Nat)) (i : Nat) (g : Nat → Nat) : Nat → Nat → Nat
  | 0 => g
  | k + 1 => fstep (fin_ ps i g k) i (ps.getD k (0, 0))
def fout (ps : List (Nat × Nat)) : Nat → Nat → Nat
  | 0 => fun _ => 0
  | i + 1 => fin_ ps i (fout ps i) ps.length
theorem fin_lt {ps : List (Nat × Nat)} {i : Nat} {g : Nat → Nat} (hp : ∀ k, k < ps.length → (ps.getD k (0, 0)).1 < 10) (hg : ∀ r, g r < 1024) (k : Nat) (hk : k ≤ ps.length) : ∀ r, fin_ ps i g k r < 1024 := by
  induction k with
  | zero => exact hg
  | succ k ih =>
    have ih := ih (by omega)
    intro r
    unfold fin_ fstep
    split
    · split
      · exact Nat.or_lt_two_pow (n := 10) (ih _) (Nat.or_lt_two_pow (n := 10) (Nat.pow_lt_pow_right (by decide) (hp k (by omega))) (ih _))
      · exact ih r
    · exact ih r
theorem fout_lt {ps : List (Nat × Nat)} (hp : ∀ k, k < ps.length → (ps.getD k (0, 0)).1 < 10) (i : Nat) : ∀ r, fout ps i r < 1024 := by
  induction i with
  | zero => intro r; simp [fout]
  | succ i ih => exact fin_lt hp ih ps.length (Nat.le_refl _)
def fromL (n : Nat) (ps : List (Nat × Nat)) : List Int := mkL n (fout ps n)
def PairsOk (n : Nat) (ps : List (Nat × Nat)) : Prop := ∀ k, k < ps.length → (ps.getD k (0, 0)).1 < n ∧ (ps.getD k (0, 0)).2 < n
structure FromW (ti tp : TypeId) (n : Nat) (w : World) (g : Nat → Nat) (wr : World) : Prop where
  row : Blk wr (w.heap.size + 1) ti (Vals (mkL n g))
  out : Blk wr (w.heap.size + 1 + 1) tp #[.slice (some ⟨w.heap.size + 1, 0, none⟩) n n]
  res : Blk wr w.heap.size tp #[.slice none 0 0]
  below : Below w.heap.size w wr
theorem FromW.start (ti tp : TypeId) (n : Nat) (w : World) (g : Nat → Nat) :
    FromW ti tp n w g (((w.alloc (.cells #[.slice none 0 0] tp)).alloc (.cells (Vals (mkL n g)) ti)).alloc (.cells #[.slice (some ⟨w.heap.size + 1, 0, none⟩) n n] tp)) :=
  ⟨(Blk.newAt _ _ _ _ (by simp)).alloc _, Blk.newAt _ _ _ _ (by simp), ((Blk.new _ _ _).alloc _).alloc _, ((((Below.refl _ _).alloc (Nat.le_refl _) _).alloc (by simp) _).alloc (by simp; omega) _)⟩
theorem FromW.step {ti tp : TypeId} {n : Nat} {w wr : World} {g g' : Nat → Nat} {q : Nat} {y : Int} (h : FromW ti tp n w g wr) (e : mkL n g' = (mkL n g).set q y) :
    FromW ti tp n w g' ((wr.setCell ⟨w.heap.size + 1, q, none⟩ (.int .i64 y)).drew) := by
  refine ⟨?_, ?_, ?_, ?_⟩
  · rw [e, ← Vals_set]; exact h.row.set_ q _
  · exact h.out.far (p := ⟨w.heap.size + 1, q, none⟩) (by show w.heap.size + 1 + 1 ≠ w.heap.size + 1; omega) _
  · exact h.res.far (p := ⟨w.heap.size + 1, q, none⟩) (by show w.heap.size ≠ w.heap.size + 1; omega) _
  · exact (h.below.setCell (p := ⟨w.heap.size + 1, q, none⟩) (by show w.heap.size ≤ w.heap.size + 1; omega) _).drew
def PairsR (w : World) (v : Value) (ps : List (Nat × Nat)) : Prop :=
  ∃ A c, v = .slice A ps.length c ∧ ∀ j, j < ps.length → ∃ b o g p m, A = some ⟨b, o, none⟩ ∧ b < w.heap.size ∧ g < w.heap.size ∧ w.cell? ⟨b, o + j, none⟩ = some (.slice (some ⟨g, p, none⟩) 2 m) ∧ w.cell? ⟨g, p, none⟩ = some (.int .i64 ((ps.getD j (0, 0)).1 : Int)) ∧ w.cell? ⟨g, p + 1, none⟩ = some (.int .i64 ((ps.getD j (0, 0)).2 : Int))
theorem Pairs.read {ti ts : TypeId} {w : World} {B : Nat} {v : Value} {ps : List (Nat × Nat)} (h : Pairs ti ts w B v ps) : PairsR w v ps := by
  obtain ⟨A, c, rfl, hA⟩ := h.shape
  refine ⟨A, c, rfl, fun j hj => ?_⟩
  obtain ⟨b, g, rfl, hb, hg, h0, h1, h2⟩ := hA j hj
  exact ⟨b, 0, g, 0, 2, rfl, hb, hg, by rw [Nat.zero_add]; exact h0, h1, by rw [Nat.zero_add]; exact h2⟩
theorem poFromR_any (v : Value) (ps : List (Nat × Nat)) (n : Nat) (w : World) (hv : PairsR w v ps) (hn : n ≤ 10) (hok : PairsOk n ps) (hl : ps.length ≤ 1048576) :
    Calls Tryz.prog 133 #[.int .i64 n, v] w fun (r : Ending) w' => ∃ u, r = Ending.returned (.agg #[u]) ∧ OwnI 3 w' w.heap.size u (fromL n ps) ∧ Below w.heap.size w w' := by
  obtain ⟨A, c, rfl, hA⟩ := hv
  have HA := hid hA
  have HK := hid hok
  clear hA hok
  have hmk := run_make_row' (P := Tryz.prog) 22 3 (.int .i64 0) 8 Tryz.underlying22 Tryz.info3 rfl .i64 .i64 n (by omega) (by omega)
  go_enter Tryz.func133, Tryz.ntmps133
  go_wp2
  clear hmk
  rw [Vals_made]
  go_loopw [6] (fun i wr => ∃ k : Nat, k ≤ n ∧ i = .int .i64 k ∧ FromW 3 28 n w (fout ps k) wr) (fun i _ => n - (intOf i).toNat)
  case atStart => exact ⟨0, Nat.zero_le _, rfl, by rw [← mkL_zero]; exact FromW.start _ _ _ _ _⟩
  case round =>
    obtain ⟨k, hk, rfl, hD⟩ := hrel
    have HD := hid hD
    clear hD
    by_cases hlt : k < n
    · go_wp2
      go_loopw [19] (fun j wi => ∃ t : Nat, t ≤ ps.length ∧ j = .int .i64 t ∧ FromW 3 28 n w (fin_ ps k (fout ps k) t) wi) (fun j _ => ps.length - (intOf j).toNat)
      case atStart => exact ⟨0, Nat.zero_le _, rfl, HD.out⟩
      case round =>
        obtain ⟨t, ht, rfl, hT⟩ := hrel
        have HT := hid hT
        clear hT
        by_cases htk : t < ps.length
        · obtain ⟨b, o, g, pp, m, rfl, hb, hg, hc0, hc1, hc2⟩ := HA.out t htk
          obtain ⟨p1, p2⟩ := HK.out t htk
          obtain ⟨a, ha⟩ : ∃ a, (ps.getD t (0, 0)).1 = a := ⟨_, rfl⟩
          obtain ⟨y, hy⟩ : ∃ y, (ps.getD t (0, 0)).2 = y := ⟨_, rfl⟩
          rw [ha] at hc1 p1
          rw [hy] at hc2 p2
          have t1 : wr.cell? ⟨b, o + t, none⟩ = some (.slice (some ⟨g, pp, none⟩) 2 m) := by rw [HT.out.below.cell (p := ⟨b, o + t, none⟩) hb]; exact hc0
          have t2 : wr.cell? ⟨g, pp, none⟩ = some (.int .i64 (a : Int)) := by rw [HT.out.below.cell (p := ⟨g, pp, none⟩) hg]; exact hc1
          have t3 : wr.cell? ⟨g, pp + 1, none⟩ = some (.int .i64 (y : Int)) := by rw [HT.out.below.cell (p := ⟨g, pp + 1, none⟩) hg]; exact hc2
          have hlp : ∀ k, k < ps.length → (ps.getD k (0, 0)).1 < 10 := fun k hk => by have := (HK.out k hk).1; omega
          have hlt2 := fin_lt (i := k) hlp (fout_lt hlp k) t (by omega)
          have Ha := hid ha
          have Hy := hid hy
          have Hlt2 := hid hlt2
          clear hc0 hc1 hc2 ha hy hlp hlt2
          by_cases hyk : y = k
          · subst hyk
            have hp := Hlt2.out y
            have hq := Hlt2.out a
            obtain ⟨p, hpp⟩ : ∃ p, fin_ ps y (fout ps y) t y = p := ⟨_, rfl⟩
            obtain ⟨q, hqq⟩ : ∃ q, fin_ ps y (fout ps y) t a = q := ⟨_, rfl⟩
            rw [hpp] at hp
            rw [hqq] at hq
            have t0 := HT.out.out.cell 0
            have t4 : wr.cell? ⟨w.heap.size + 1, y, none⟩ = some (.int .i64 p) := by rw [HT.out.row.cell, Vals_get (by rw [mkL_length]; exact hlt), mkL_getD hlt, hpp]
            have t5 : wr.cell? ⟨w.heap.size + 1, a, none⟩ = some (.int .i64 q) := by rw [HT.out.row.cell, Vals_get (by rw [mkL_length]; exact p1), mkL_getD p1, hqq]
            have t6 := HT.out.row.frozen y
            have wp := wrap_pow' a (by omega)
            have o1 := pow_or q a hq (by omega)
            have o3 : 2 ^ a ||| q < 1024 := Nat.or_lt_two_pow (n := 10) (Nat.pow_lt_pow_right (by decide) (by omega)) hq
            have o2 := i64_or_nat p (2 ^ a ||| q) (by omega) (Nat.lt_trans o3 (by decide))
            have h1 : (y : Int) < n := by omega
            have h2 : (a : Int) < n := by omega
            have Hp := hid hpp
            have Hq := hid hqq
            clear hpp hqq hp hq o3
            obtain ⟨z, hz⟩ : ∃ z, 2 ^ a ||| q = z := ⟨_, rfl⟩
            rw [hz] at o1 o2
            have Hz := hid hz
            clear hz
            go_wp2
            go_region
            go_wp2
            go_roundw
            case rel => exact ⟨t + 1, by omega, by go_num, (by
              have e : mkL n (fin_ ps y (fout ps y) (t + 1)) = (mkL n (fin_ ps y (fout ps y) t)).set y ((p ||| z : Nat) : Int) := by
                rw [mkL_set _ hlt]
                refine mkL_congr fun r _ => ?_
                rw [fin_, fstep, Hy.out, if_pos rfl, Ha.out, Hp.out, Hq.out, Hz.out]
              exact HT.out.step e)⟩
            case measure => simp [intOf]; omega
          · have hyz : ((y : Int) == (k : Int)) = false := by rw [beq_eq_false_iff_ne]; omega
            have Hyk := hid hyk
            clear hyk
            go_wp2
            go_roundw
            case rel => exact ⟨t + 1, by omega, by go_num, (by
              have e : fin_ ps k (fout ps k) (t + 1) = fin_ ps k (fout ps k) t := by
                funext r
                rw [fin_, fstep, Hy.out, if_neg Hyk.out]
              rw [e]; exact HT.out)⟩
            case measure => simp [intOf]; omega
        · obtain rfl : t = ps.length := by omega
          go_wp2
          go_roundw
          case rel => exact ⟨k + 1, by omega, by go_num, HT.out⟩
          case measure => simp [intOf]; omega
    · obtain rfl : k = n := by omega
      have t0 := HD.out.out.cell 0
      have t1 := HD.out.res.cell 0
      have t2 := HD.out.res.frozen 0
      go_wp2
      refine bodyPost_ret (v := .agg #[.slice (some ⟨w.heap.size + 1, 0, none⟩) k k]) (by simp [results, Tryz.results133, go_sem, t1]) rfl ⟨_, rfl, ?_, ?_⟩
      · have h := HD.out.row
        have hlen : (fromL k ps).length = k := mkL_length _ _
        have h2 : OwnI 3 wr w.heap.size (.slice (some ⟨w.heap.size + 1, 0, none⟩) (fromL k ps).length (fromL k ps).length) (fromL k ps) := Blk.own h (by omega) (by omega)
        rw [hlen] at h2
        exact h2.grown (grown_setCell (World.grownBy.refl _ _) 0 _) (.inr (by simp [Value.ownBlock]))
      · exact HD.out.below.setCell (p := ⟨w.heap.size, 0, none⟩) (Nat.le_refl _) _
theorem poFrom_any (v : Value) (ps : List (Nat × Nat)) (n B : Nat) (w : World) (hv : Pairs 3 22 w B v ps) (hn : n ≤ 10) (hok : PairsOk n ps) (hl : ps.length ≤ 1048576) :
    Calls Tryz.prog 133 #[.int .i64 n, v] w fun (r : Ending) w' => ∃ u, r = Ending.returned (.agg #[u]) ∧ OwnI 3 w' w.heap.size u (fromL n ps) ∧ Below w.heap.size w w' :=
  poFromR_any v ps n w hv.read hn hok hl
end Go.Proofs.YtbmhaamenjhjfaaGreatDoor
namespace Go.Proofs.YtbmhaamenjhjfaaGreatDoor
open Go.RowKit Go.WideShapes Go.ChangeShapes
set_option linter.unusedVariables false
def fillSS (ls : List (List Int)) (k : Nat) : List (List Int) := (List.range ls.length).map fun j => if j < k then ls.getD j [] else []
theorem fillSS_length (ls : List (List Int)) (k : Nat) : (fillSS ls k).length = ls.length := by simp [fillSS]
theorem OwnSS.put {ti ts : TypeId} {w : World} {B E E' : Nat} {A : Option Addr} {n c : Nat} {ls : List (List Int)} (h : OwnSS ti ts w B E (.slice A n c) ls) (hne : ti ≠ ts) (hE : E ≤ E') {j : Nat} (hj : j < ls.length) {u : Value} {l : List Int}
    (hu : OwnI ti w B u l) (hfr : ∀ k, u.ownBlock = some k → E ≤ k ∧ k < E') :
    ∃ b, A = some ⟨b, 0, none⟩ ∧ b < E ∧ w.frozen? ⟨b, j, none⟩ = false ∧ (∃ x, w.cell? ⟨b, j, none⟩ = some x) ∧ OwnSS ti ts (w.setCell ⟨b, j, none⟩ u) B E' (.slice A n c) (ls.set j l) := by
  obtain ⟨us, h1, h2, h3, h4, h5⟩ := h
  have h2' := h2
  rcases h2.2 with ⟨e, hn⟩ | ⟨b, cap, cur, e, hB, hh, r1, r2, r3, r4⟩
  · omega
  · injection e with e1 e2 e3
    subst e1; subst e2; subst e3
    have hbE : b < E := h3 b rfl
    have hrow : ∀ (u' : Value) (l' : List Int), OwnI ti w B u' l' → some b ≠ u'.ownBlock := by
      intro u' l' hi e
      rcases hi.2 with ⟨e', _⟩ | ⟨g, cap', cur', e', _, hh', _⟩
      · rw [e'] at e; simp [Value.ownBlock] at e
      · rw [e'] at e
        simp only [Value.ownBlock, Option.some.injEq] at e
        subst e
        rw [hh] at hh'
        injection hh' with hh'
        injection hh' with _ hh'
        exact hne hh'.symm
    refine ⟨b, rfl, hbE, h2.frozenAt j, ?_, us.set j u, by simp [h1], ?_, fun k hk => Nat.lt_of_lt_of_le (h3 k hk) hE, ?_, ?_⟩
    · have := h2.cellAt j (by omega)
      exact ⟨us[j]'(by omega), by rw [this]; exact List.getElem?_eq_getElem (by omega)⟩
    · rw [List.length_set]
      exact (h2'.stored j u).1
    · intro i u' l' hu' hl'
      have hset : ∀ (x : Value) (m : List Int), OwnI ti w B x m → OwnI ti (w.setCell ⟨b, j, none⟩ u) B x m := fun x m hx =>
        hx.grown (grown_setCell (g := b) (World.grownBy.refl w (some b)) j u) (.inr (fun e => hrow x m hx e.symm))
      by_cases e : j = i
      · subst e
        rw [List.getElem?_set_self (by omega)] at hu' hl'
        injection hu' with hu'
        injection hl' with hl'
        subst hu'; subst hl'
        exact ⟨hset _ _ hu, fun k hk => (hfr k hk).2⟩
      · rw [List.getElem?_set_ne e] at hu' hl'
        obtain ⟨hi, hk⟩ := h4 i u' l' hu' hl'
        exact ⟨hset _ _ hi, fun k hk' => Nat.lt_of_lt_of_le (hk k hk') hE⟩
    · intro i i' u1 u2 hii hu1 hu2
      by_cases e : j = i
      · subst e
        rw [List.getElem?_set_self (by omega)] at hu1
        rw [List.getElem?_set_ne hii] at hu2
        injection hu1 with hu1
        subst hu1
        have hl2 : i' < us.length := (List.getElem?_eq_some_iff.1 hu2).1
        obtain ⟨-, hk2⟩ := h4 i' u2 ls[i'] hu2 (List.getElem?_eq_getElem (by omega))
        rcases hq : u.ownBlock with _ | k
        · exact .inl rfl
        · refine .inr fun e => ?_
          have a := hfr k hq
          have b := hk2 k e.symm
          omega
      · rw [List.getElem?_set_ne e] at hu1
        by_cases e' : j = i'
        · subst e'
          rw [List.getElem?_set_self (by omega)] at hu2
          injection hu2 with hu2
          subst hu2
          have hl1 : i < us.length := (List.getElem?_eq_some_iff.1 hu1).1
          obtain ⟨-, hk1⟩ := h4 i u1 ls[i] hu1 (List.getElem?_eq_getElem (by omega))
          rcases hq : u1.ownBlock with _ | k
          · exact .inl rfl
          · refine .inr fun e => ?_
            have a := hfr k e.symm
            have b := hk1 k hq
            omega
        · rw [List.getElem?_set_ne e'] at hu2
          exact h5 i i' u1 u2 hii hu1 hu2
theorem OwnSS.made {P : Program} (ti ts : TypeId) (w : World) (ls : List (List Int)) (hl : ls.length ≤ 1048576) :
    OwnSS ti ts (w.alloc (.cells (madeCells #[.slice none 0 0] ls.length) ts)) w.heap.size (w.heap.size + 1) (.slice (some ⟨w.heap.size, 0, none⟩) ls.length ls.length) (fillSS ls 0) := by
  have hm := toList_madeCells_one (.slice none 0 0) ls.length
  have hsz : (madeCells #[.slice none 0 0] ls.length).size = ls.length := by
    have := congrArg List.length hm
    simpa using this
  refine ⟨List.replicate ls.length (.slice none 0 0), by simp [fillSS_length], ?_, ?_, ?_, ?_⟩
  · rw [fillSS_length]
    refine ⟨by simp, .inr ⟨w.heap.size, ls.length, _, rfl, Nat.le_refl _, heap_alloc_new w _, Nat.le_refl _, by unfold maxLen; omega, by rw [hsz, Nat.mul_one], ?_⟩⟩
    rw [hm, Nat.mul_one]
    exact List.take_of_length_le (by simp)
  · intro k hk
    simp [Value.ownBlock] at hk
    omega
  · intro j u l hu hl'
    obtain ⟨hj, rfl⟩ := List.getElem?_eq_some_iff.1 hu
    obtain ⟨hj', rfl⟩ := List.getElem?_eq_some_iff.1 hl'
    simp only [fillSS, List.getElem_map, List.getElem_replicate, Nat.not_lt_zero, if_false]
    exact ⟨OwnI.nil _ _ _, fun k hk => by simp [Value.ownBlock] at hk⟩
  · intro i j u u' hij hu hu'
    obtain ⟨hj, rfl⟩ := List.getElem?_eq_some_iff.1 hu
    left
    simp [Value.ownBlock]
theorem OwnSS.mono {ti ts : TypeId} {w : World} {B E E' : Nat} {v : Value} {ls : List (List Int)} (h : OwnSS ti ts w B E v ls) (hE : E ≤ E') : OwnSS ti ts w B E' v ls := by
  obtain ⟨us, h1, h2, h3, h4, h5⟩ := h
  exact ⟨us, h1, h2, fun k hk => Nat.lt_of_lt_of_le (h3 k hk) hE, fun j u l hu hl => ⟨(h4 j u l hu hl).1, fun k hk => Nat.lt_of_lt_of_le ((h4 j u l hu hl).2 k hk) hE⟩, h5⟩
end Go.Proofs.YtbmhaamenjhjfaaGreatDoor
