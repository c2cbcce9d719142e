/- FromWord: contracts. -/
import Derived.Test.YtkcjppbplllaiabWithin
import Derived.Test.YtkcjppbplllaiabShelfC
namespace Go.Proofs.Ytkcjppbplllaiab
open Go.RowKit Go.WideShapes Go.ChangeShapes
set_option linter.unusedVariables false

def nC (c : UInt8) (l : List UInt8) (k : Nat) : Nat := (l.take k).count c
theorem nC_succ (c : UInt8) (l : List UInt8) {k : Nat} (hk : k < l.length) : nC c l (k + 1) = nC c l k + if l[k] = c then 1 else 0 := by
  unfold nC
  rw [List.take_succ_eq_append_getElem hk, List.count_append, List.count_singleton]
  by_cases h : l[k] = c <;> simp [h]
theorem nC_le (c : UInt8) (l : List UInt8) (k : Nat) : nC c l k ≤ l.count c := (List.take_sublist k l).count_le c
theorem nC_full (c : UInt8) (l : List UInt8) : nC c l l.length = l.count c := by unfold nC; rw [List.take_length]
theorem nC_zero (c : UInt8) (l : List UInt8) : nC c l 0 = 0 := by simp [nC]
theorem count_two (l : List UInt8) : l.count 82 + l.count 85 ≤ l.length ∧ (l.count 82 + l.count 85 = l.length → ∀ c ∈ l, c = 82 ∨ c = 85) := by
  induction l with
  | nil => simp
  | cons c l ih =>
    obtain ⟨h1, h2⟩ := ih
    by_cases e1 : c = 82
    · subst e1
      simp only [List.count_cons_self, List.length_cons]
      rw [List.count_cons_of_ne (by decide)]
      exact ⟨by omega, fun h d hd => by
        rcases List.mem_cons.1 hd with rfl | hd
        · exact .inl rfl
        · exact h2 (by omega) d hd⟩
    · by_cases e2 : c = 85
      · subst e2
        simp only [List.count_cons_self, List.length_cons]
        rw [List.count_cons_of_ne (by decide)]
        exact ⟨by omega, fun h d hd => by
          rcases List.mem_cons.1 hd with rfl | hd
          · exact .inr rfl
          · exact h2 (by omega) d hd⟩
      · rw [List.count_cons_of_ne e1, List.count_cons_of_ne e2, List.length_cons]
        exact ⟨by omega, fun h => by omega⟩
def fwN (l : List UInt8) (x y : Nat) : Nat → Nat
  | 0 => 0
  | k + 1 => if l.getD k 0 = 85 then fwN l x y k ||| (2 ^ nC 82 l k - 1) * 2 ^ (y * (x - 1 - nC 85 l k)) else fwN l x y k
/-- the k-th letter may stand there -/
def fwOk (l : List UInt8) (x y k : Nat) : Prop := (l.getD k 0 = 82 ∧ nC 82 l k < y) ∨ (l.getD k 0 = 85 ∧ nC 85 l k < x)
theorem fwN_lt {l : List UInt8} {x y : Nat} (k : Nat) (hx : ∀ j, j < k → nC 82 l j ≤ y) (h : ∀ j, j < k → fwOk l x y j) : fwN l x y k < 2 ^ (x * y) := by
  induction k with
  | zero => exact Nat.two_pow_pos _
  | succ k ih =>
    have h1 := ih (fun j hj => hx j (by omega)) (fun j hj => h j (by omega))
    unfold fwN
    split
    · rename_i h85
      rcases h k (by omega) with h2 | h2
      · rw [h85] at h2; exact absurd h2.1 (by decide)
      · refine Nat.or_lt_two_pow h1 ?_
        have h3 := hx k (by omega)
        have h4 : 2 ^ nC 82 l k ≤ 2 ^ y := Nat.pow_le_pow_right (by decide) h3
        have h5 : 0 < 2 ^ nC 82 l k := Nat.two_pow_pos _
        have h6 : (2 ^ nC 82 l k - 1) * 2 ^ (y * (x - 1 - nC 85 l k)) < 2 ^ y * 2 ^ (y * (x - 1 - nC 85 l k)) := Nat.mul_lt_mul_of_pos_right (by omega) (Nat.two_pow_pos _)
        rw [← Nat.pow_add] at h6
        refine Nat.lt_of_lt_of_le h6 (Nat.pow_le_pow_right (by decide) ?_)
        have h7 : y * (x - 1 - nC 85 l k + 1) ≤ y * x := Nat.mul_le_mul_left y (by have := h2.2; omega)
        rw [Nat.mul_add, Nat.mul_one, Nat.mul_comm y x] at h7
        omega
    · exact h1
/-- what is put in is a small number -/
theorem fw_term {l : List UInt8} {x y k : Nat} (h9 : x * y ≤ 9) (h3 : nC 82 l k ≤ y) (h2 : nC 85 l k < x) : (2 ^ nC 82 l k - 1) * 2 ^ (y * (x - 1 - nC 85 l k)) < 512 ∧ y * (x - 1 - nC 85 l k) ≤ 9 := by
  have h4 : 2 ^ nC 82 l k ≤ 2 ^ y := Nat.pow_le_pow_right (by decide) h3
  have h5 : 0 < 2 ^ nC 82 l k := Nat.two_pow_pos _
  have h6 : (2 ^ nC 82 l k - 1) * 2 ^ (y * (x - 1 - nC 85 l k)) < 2 ^ y * 2 ^ (y * (x - 1 - nC 85 l k)) := Nat.mul_lt_mul_of_pos_right (by omega) (Nat.two_pow_pos _)
  rw [← Nat.pow_add] at h6
  have h7 : y * (x - 1 - nC 85 l k + 1) ≤ y * x := Nat.mul_le_mul_left y (by omega)
  rw [Nat.mul_add, Nat.mul_one, Nat.mul_comm y x] at h7
  have h8 : 2 ^ (y + y * (x - 1 - nC 85 l k)) ≤ 2 ^ 9 := Nat.pow_le_pow_right (by decide) (by omega)
  exact ⟨by omega, by omega⟩
def okFW (a b : Int) (l : List UInt8) : Bool := sides9 a b && (decide ((l.length : Int) = a + b) && (decide ((l.count 85 : Int) = a) && decide ((l.count 82 : Int) = b)))
def ansFW (a b : Int) (l : List UInt8) : Int := if okFW a b l then (fwN l a.toNat b.toNat l.length : Nat) else 0
theorem okFW_no1 {a b : Int} {l : List UInt8} (h : sides9 a b = false) : okFW a b l = false := by simp [okFW, h]
theorem okFW_no2 {a b : Int} {l : List UInt8} (h : ¬ (l.length : Int) = a + b) : okFW a b l = false := by simp [okFW, h]
theorem okFW_no3 {a b : Int} {l : List UInt8} (h : ¬ (l.count 85 : Int) = a) : okFW a b l = false := by simp [okFW, h]
theorem okFW_no4 {a b : Int} {l : List UInt8} (h : ¬ (l.count 82 : Int) = b) : okFW a b l = false := by simp [okFW, h]
theorem okFW_yes {x y : Nat} {l : List UInt8} (h : sides9 x y = true) (h2 : l.length = x + y) (h3 : l.count 85 = x) (h4 : l.count 82 = y) : okFW x y l = true := by
  simp [okFW, h, h2, h3, h4]
theorem ansFW_no {a b : Int} {l : List UInt8} (h : okFW a b l = false) : ansFW a b l = 0 := by simp [ansFW, h]
theorem ansFW_yes {x y : Nat} {l : List UInt8} (h : okFW x y l = true) : ansFW x y l = ((fwN l x y l.length : Nat) : Int) := by simp [ansFW, h]
theorem okFW_parts {x y : Nat} {l : List UInt8} (h : okFW x y l = true) : l.length = x + y ∧ l.count 85 = x ∧ l.count 82 = y := by
  simp only [okFW, Bool.and_eq_true, decide_eq_true_eq] at h
  omega
theorem fwOk_all {x y : Nat} {l : List UInt8} (h2 : l.length = x + y) (h3 : l.count 85 = x) (h4 : l.count 82 = y) {k : Nat} (hk : k < l.length) : fwOk l x y k := by
  have h := (count_two l).2 (by omega) l[k] (List.getElem_mem hk)
  have e : l.getD k 0 = l[k] := by simp [List.getD, hk]
  unfold fwOk
  rw [e]
  rcases h with h | h
  · left
    refine ⟨h, ?_⟩
    have h5 := nC_succ 82 l hk
    rw [if_pos h] at h5
    have h6 := nC_le 82 l (k + 1)
    omega
  · right
    refine ⟨h, ?_⟩
    have h5 := nC_succ 85 l hk
    rw [if_pos h] at h5
    have h6 := nC_le 85 l (k + 1)
    omega
theorem okFW_not {x y : Nat} {l : List UInt8} {k : Nat} (hk : k < l.length) (h : ¬ fwOk l x y k) : okFW x y l = false := by
  cases hc : okFW x y l
  · rfl
  · obtain ⟨h2, h3, h4⟩ := okFW_parts hc
    exact absurd (fwOk_all h2 h3 h4 hk) h
theorem nC_sum {x y : Nat} {l : List UInt8} (k : Nat) (hk : k ≤ l.length) (h : ∀ j, j < k → fwOk l x y j) : nC 82 l k + nC 85 l k = k ∧ nC 82 l k ≤ y ∧ nC 85 l k ≤ x := by
  induction k with
  | zero => simp [nC_zero]
  | succ k ih =>
    obtain ⟨h1, h2, h3⟩ := ih (by omega) (fun j hj => h j (by omega))
    have hk' : k < l.length := by omega
    have e : l.getD k 0 = l[k] := by simp [List.getD, hk']
    rw [nC_succ 82 l hk', nC_succ 85 l hk']
    have h4 := h k (by omega)
    unfold fwOk at h4
    rw [e] at h4
    rcases h4 with ⟨h4, h5⟩ | ⟨h4, h5⟩
    · rw [if_pos h4, if_neg (by rw [h4]; decide)]; omega
    · rw [if_neg (by rw [h4]; decide), if_pos h4]; omega
theorem u8_int (c : UInt8) (n : Nat) (hn : n < 256) : ((c.toNat : Int) = (n : Int)) ↔ c = UInt8.ofNat n := by
  constructor
  · intro h
    apply UInt8.toNat_inj.1
    rw [UInt8.toNat_ofNat_of_lt' hn]; omega
  · rintro rfl
    rw [UInt8.toNat_ofNat_of_lt' hn]
set_option maxHeartbeats 3200000 in
theorem specFromWord_any (a b : Int) (s : ByteArray) (w : World) (wa : (Lit.int .i64 a).wf = true) (wb : (Lit.int .i64 b).wf = true) (hs : s.size ≤ 1048576) :
    Calls Try.prog 20 #[.int .i64 a, .int .i64 b, .string s] w fun r w' => r = .returned (.tuple #[.int .i64 (ansFW a b s.data.toList), .bool (okFW a b s.data.toList)]) ∧ Below w.heap.size w w' := by
  have HT := hid (obSides_any a b w wa wb)
  clear wa wb
  have hsl : s.data.toList.length = s.size := rfl
  have HSL := hid hsl
  clear hsl
  cases h9 : sides9 a b
  · have HO := hid (okFW_no1 (l := s.data.toList) h9)
    have HN := hid (ansFW_no HO.out)
    rw [h9] at HT
    clear h9
    go_enter Try.func20, Try.ntmps20
    go_wp2_with (go_at_call 39; refine HT.out.mono ?_; rintro e w' ⟨rfl, rfl⟩)
    go_ret2
    exact ⟨ret_ib HN.out.symm HO.out.symm, Below.refl _ _⟩
  · have H9 := hid h9
    rw [h9] at HT
    obtain ⟨x, y, rfl, rfl, h1, h2, h3, h4, h5, -⟩ := sides9_all h9
    clear h9
    by_cases hlen : s.size = x + y
    · have hlI : (s.size : Int) = (x : Int) + (y : Int) := by omega
      have HlI := hid hlI
      have hlI2 : ¬ (s.size : Int) ≠ (x : Int) + (y : Int) := by omega
      have hxy9 := h5
      clear h5
      obtain ⟨l, hl⟩ : ∃ l, s.data.toList = l := ⟨_, rfl⟩
      have HLen : Hid (l.length = x + y) := hid (by rw [← hl]; exact hlen)
      have HGet : Hid (∀ (k : Nat) (h : k < s.size), l.getD k 0 = s[k]) := hid (fun k h => by
        rw [← hl]
        have h' : k < s.data.toList.length := h
        simp only [List.getD, List.getElem?_eq_getElem h', Option.getD_some]
        rfl)
      rw [hl]
      clear hl HSL
      go_enter Try.func20, Try.ntmps20
      go_wp2_with (go_at_call 39; refine HT.out.mono ?_; rintro e w' ⟨rfl, rfl⟩)
      clear hlI hlI2
      go_loop [8, 9, 10, 11] (fun sv at_ r i => ∃ (k v p u : Nat) (ri : Int), k ≤ s.size ∧ i = .int .i64 k ∧ sv = .int .i64 v ∧ at_ = .int .i64 p ∧ r = .int .i64 ri ∧ Hid (ri = (x : Int) - 1 - u) ∧ Hid (fwN l x y k = v) ∧ Hid (nC 82 l k = p) ∧ Hid (nC 85 l k = u) ∧ Hid (∀ j, j < k → fwOk l x y j)) (fun _ _ _ i => s.size - (intOf i).toNat)
      case atStart => exact ⟨0, 0, 0, 0, _, Nat.zero_le _, rfl, rfl, rfl, rfl, hid (by simp), hid rfl, hid (nC_zero _ _), hid (nC_zero _ _), hid (fun j hj => absurd hj (Nat.not_lt_zero _))⟩
      case round =>
        obtain ⟨k, v, p, u, ri, hk, rfl, rfl, rfl, rfl, HR, HV, HP, HU, HOk⟩ := hrel
        by_cases hlt : k < s.size
        · obtain ⟨g1, g2, g3⟩ := nC_sum k (by rw [HLen.out]; omega) HOk.out
          rw [HP.out] at g1 g2
          rw [HU.out] at g1 g3
          have hkl : k < l.length := by rw [HLen.out]; omega
          have hge := HGet.out k hlt
          have hgl : l[k] = s[k] := by rw [← hge]; simp [List.getD, hkl]
          have hP1 := nC_succ 82 l hkl
          have hU1 := nC_succ 85 l hkl
          rw [hgl, HP.out] at hP1
          rw [hgl, HU.out] at hU1
          by_cases c82 : (s[k].toNat : Int) = 82
          · have hc : s[k] = 82 := (u8_int _ 82 (by decide)).1 c82
            have t1 : ((s[k].toNat : Int) == 82) = true := by simp [c82]
            have t2 : ((s[k].toNat : Int) == 85) = false := by rw [c82]; rfl
            rw [hc] at hge hP1 hU1
            rw [if_pos rfl] at hP1
            rw [if_neg (by decide)] at hU1
            by_cases hpy : p < y
            · have HOk1 : Hid (∀ j, j < k + 1 → fwOk l x y j) := hid (fun j hj => by
                by_cases h : j = k
                · subst h; exact .inl ⟨hge, by rw [HP.out]; exact hpy⟩
                · exact HOk.out j (by omega))
              have HV1 : Hid (fwN l x y (k + 1) = v) := hid (by unfold fwN; rw [hge, if_neg (by decide)]; exact HV.out)
              have HP1 := hid hP1
              have HU1 := hid hU1
              have hpyI : (p : Int) < (y : Int) := by omega
              clear hc hge hgl hP1 hU1 c82
              go_wp2
              clear t1 t2
              go_round
              case rel => exact ⟨k + 1, v, p + 1, u, ri, by omega, by go_num, rfl, by go_num, rfl, HR, HV1, HP1, hid (by rw [HU1.out]; omega), HOk1⟩
              case measure => simp [intOf]; omega
            · have HO := hid (okFW_not (x := x) (y := y) hkl (fun h => by
                unfold fwOk at h
                rw [hge, HP.out] at h
                rcases h with h | h
                · exact hpy h.2
                · exact absurd h.1 (by decide)))
              have HN := hid (ansFW_no HO.out)
              have hpyI : ¬ (p : Int) < (y : Int) := by omega
              clear hc hge hgl hP1 hU1 c82
              go_wp2
              go_ret2
              exact ⟨ret_ib HN.out.symm HO.out.symm, Below.refl _ _⟩
          · have hn82 : s[k] ≠ 82 := fun h => c82 ((u8_int _ 82 (by decide)).2 h)
            have t1 : ((s[k].toNat : Int) == 82) = false := by simpa using c82
            by_cases c85 : (s[k].toNat : Int) = 85
            · have hc : s[k] = 85 := (u8_int _ 85 (by decide)).1 c85
              have t2 : ((s[k].toNat : Int) == 85) = true := by simp [c85]
              rw [hc] at hge hP1 hU1
              rw [if_neg (by decide)] at hP1
              rw [if_pos rfl] at hU1
              by_cases hux : u < x
              · have HOk1 : Hid (∀ j, j < k + 1 → fwOk l x y j) := hid (fun j hj => by
                  by_cases h : j = k
                  · subst h; exact .inr ⟨hge, by rw [HU.out]; exact hux⟩
                  · exact HOk.out j (by omega))
                have hv9 : v < 2 ^ (x * y) := by rw [← HV.out]; exact fwN_lt k (fun j hj => (nC_sum j (by omega) (fun i hi => HOk.out i (by omega))).2.1) HOk.out
                have hv512 : v < 1024 := by
                  have : 2 ^ (x * y) ≤ 2 ^ 9 := Nat.pow_le_pow_right (by decide) hxy9
                  omega
                have hft := fw_term (l := l) (k := k) hxy9 (by rw [HP.out]; exact g2) (by rw [HU.out]; exact hux)
                rw [HP.out, HU.out] at hft
                obtain ⟨ro, hro⟩ : ∃ ro, x - 1 - u = ro := ⟨_, rfl⟩
                have hri : ri = (ro : Int) := by rw [HR.out]; omega
                obtain ⟨m, hm⟩ : ∃ m, y * ro = m := ⟨_, rfl⟩
                obtain ⟨q, hq⟩ : ∃ q, 2 ^ p - 1 = q := ⟨_, rfl⟩
                have hp10 : p ≤ 10 := by omega
                have wp := wrap_mask p hp10
                rw [hro, hm, hq] at hft
                rw [hq] at wp
                obtain ⟨t, ht⟩ : ∃ t, q * 2 ^ m = t := ⟨_, rfl⟩
                have hmI : ((y : Int) * (ro : Int)) = (m : Int) := by rw [← hm]; simp
                have htI : ((q : Int) * 2 ^ m) = (t : Int) := by rw [← ht]; simp
                rw [ht] at hft
                have ht512 := hft.1
                have hm9 : m ≤ 9 := hft.2
                have hro10 : ro ≤ 10 := by omega
                have hor := i64_or_nat v t (Nat.lt_trans hv512 (by decide)) (Nat.lt_trans ht512 (by decide))
                have HR1 : Hid ((ro : Int) - 1 = (x : Int) - 1 - ((u + 1 : Nat) : Int)) := hid (by omega)
                clear hv9 hft
                have hw1 : IntKind.i64.wrap (t : Int) = (t : Int) := IntWalk.i64_in _ (by omega)
                have hw2 : wrap64 (t : Int) = (t : Int) := by unfold wrap64; omega
                have HV1 : Hid (fwN l x y (k + 1) = v ||| t) := hid (by unfold fwN; rw [hge, if_pos rfl, HV.out, HP.out, HU.out, hro, hm, hq, ht])
                have HP1 := hid hP1
                have HU1 := hid hU1
                subst hri
                clear hc hge hgl hP1 hU1 c82 c85 hro hm hq ht
                go_wp2
                clear t1 t2 wp hmI htI hw1 hw2 hor
                go_round
                case rel => exact ⟨k + 1, v ||| t, p, u + 1, (ro : Int) - 1, by omega, by go_num, rfl, rfl, rfl, HR1, HV1, hid (by rw [HP1.out]; omega), HU1, HOk1⟩
                case measure => simp [intOf]; omega
              · have HO := hid (okFW_not (x := x) (y := y) hkl (fun h => by
                  unfold fwOk at h
                  rw [hge, HU.out] at h
                  rcases h with h | h
                  · exact absurd h.1 (by decide)
                  · exact hux h.2))
                have HN := hid (ansFW_no HO.out)
                have hri : ¬ 0 ≤ ri := by have := HR.out; omega
                clear hc hge hgl hP1 hU1 c82 c85
                go_wp2
                go_ret2
                exact ⟨ret_ib HN.out.symm HO.out.symm, Below.refl _ _⟩
            · have hn85 : s[k] ≠ 85 := fun h => c85 ((u8_int _ 85 (by decide)).2 h)
              have t2 : ((s[k].toNat : Int) == 85) = false := by simpa using c85
              have HO := hid (okFW_not (x := x) (y := y) hkl (fun h => by
                unfold fwOk at h
                rw [hge] at h
                rcases h with h | h
                · exact hn82 h.1
                · exact hn85 h.1))
              have HN := hid (ansFW_no HO.out)
              clear hge hgl hP1 hU1 c82 c85 hn82 hn85
              go_wp2
              go_ret2
              exact ⟨ret_ib HN.out.symm HO.out.symm, Below.refl _ _⟩
        · obtain rfl : k = s.size := by omega
          have hkl : l.length = s.size := by rw [HLen.out]; omega
          obtain ⟨g1, g2, g3⟩ := nC_sum s.size (by omega) HOk.out
          rw [HP.out] at g1 g2
          rw [HU.out] at g1 g3
          have e82 : l.count 82 = y := by rw [← nC_full, hkl, HP.out]; omega
          have e85 : l.count 85 = x := by rw [← nC_full, hkl, HU.out]; omega
          have HO := hid (okFW_yes H9.out HLen.out e85 e82)
          have HA : Hid (ansFW x y l = (v : Int)) := hid (by rw [ansFW_yes HO.out, hkl, HV.out])
          clear e82 e85 hkl
          go_wp2
          go_ret2
          exact ⟨ret_ib HA.out.symm HO.out.symm, Below.refl _ _⟩
    · have HO := hid (okFW_no2 (a := x) (b := y) (l := s.data.toList) (by rw [HSL.out]; omega))
      have HN := hid (ansFW_no HO.out)
      have hlI : ¬ (s.size : Int) = (x : Int) + (y : Int) := by omega
      clear h5
      go_enter Try.func20, Try.ntmps20
      go_wp2_with (go_at_call 39; refine HT.out.mono ?_; rintro e w' ⟨rfl, rfl⟩)
      go_ret2
      exact ⟨ret_ib HN.out.symm HO.out.symm, Below.refl _ _⟩
set_option maxHeartbeats 3200000 in
theorem implFromWord_any (a b : Int) (s : ByteArray) (w : World) (wa : (Lit.int .i64 a).wf = true) (wb : (Lit.int .i64 b).wf = true) (hs : s.size ≤ 1048576) :
    Calls Try.prog 21 #[.int .i64 a, .int .i64 b, .string s] w fun r w' => r = .returned (.tuple #[.int .i64 (ansFW a b s.data.toList), .bool (okFW a b s.data.toList)]) ∧ Below w.heap.size w w' := by
  have HT := hid (rectangleWithin_any a b w wa wb)
  have hsl : s.data.toList.length = s.size := rfl
  have HGet0 : Hid (∀ (k : Nat) (h : k < s.size), s.data.toList.getD k 0 = s[k]) := hid (fun k h => by
    have h' : k < s.data.toList.length := h
    simp only [List.getD, List.getElem?_eq_getElem h', Option.getD_some]
    rfl)
  have HC0 := hid (fun c W => Try.strings_Count_one s c W)
  obtain ⟨l, hl⟩ : ∃ l, s.data.toList = l := ⟨_, rfl⟩
  rw [hl] at hsl HGet0 HC0 ⊢
  have HC : Hid (∀ c W, Calls Try.prog 55 #[.string s, .string ⟨#[c]⟩] W fun e w' => e = .returned (.int .i64 ((l.count c : Nat) : Int)) ∧ W = w') := hid (fun c W => (HC0.out c W).mono fun _ _ ⟨h1, h2⟩ => ⟨h1, h2.symm⟩)
  have HSL := hid hsl
  clear wa wb hl HC0 hsl
  go_enter Try.func21, Try.ntmps21
  go_wp2_with fail
  refine HT.out.mono ?_
  rintro e w1 ⟨u, rfl, ho, hl9, hb⟩
  obtain ⟨uA, un, uc, rfl⟩ := ho.shape3
  have HB := hid (below_alloc hb (.cells #[.slice uA un uc] 38))
  clear ho hb
  cases h9 : sides9 a b
  · have HO := hid (okFW_no1 (l := l) h9)
    have HN := hid (ansFW_no HO.out)
    clear h9
    go_wp2
    go_ret2
    exact ⟨ret_ib HN.out.symm HO.out.symm, HB.out⟩
  · have H9 := hid h9
    obtain ⟨x, y, rfl, rfl, h1, h2, h3, h4, h5, -⟩ := sides9_all h9
    have hxy9 := h5
    clear h9 h5
    by_cases hlen : s.size = x + y
    · have HLen : Hid (l.length = x + y) := hid (by rw [HSL.out]; exact hlen)
      by_cases hU : l.count 85 = x
      · by_cases hR : l.count 82 = y
        · have HAll := hid (fun k (hk : k < l.length) => fwOk_all HLen.out hU hR hk)
          have HO := hid (okFW_yes H9.out HLen.out hU hR)
          have HA := hid (ansFW_yes HO.out)
          have HCU := hid (fun W => HC.out 85 W)
          have HCR := hid (fun W => HC.out 82 W)
          rw [hU] at HCU
          rw [hR] at HCR
          have hlI : (s.size : Int) = (x : Int) + (y : Int) := by omega
          clear hU hR HC
          go_wp2_with (go_at_call 55; first | ((with_reducible refine (HCU.out _).mono ?_); rintro e w' ⟨rfl, rfl⟩) | ((with_reducible refine (HCR.out _).mono ?_); rintro e w' ⟨rfl, rfl⟩))
          clear hlI
          go_loop [10, 11, 12, 45] (fun sv r at_ i => ∃ (k v p u : Nat) (ri : Int), k ≤ s.size ∧ i = .int .i64 k ∧ sv = .int .i64 v ∧ at_ = .int .i64 p ∧ r = .int .i64 ri ∧ Hid (ri = (x : Int) - u) ∧ Hid (fwN l x y k = v) ∧ Hid (nC 82 l k = p) ∧ Hid (nC 85 l k = u)) (fun _ _ _ i => s.size - (intOf i).toNat)
          case atStart => exact ⟨0, 0, 0, 0, _, Nat.zero_le _, rfl, rfl, rfl, rfl, hid (by simp), hid rfl, hid (nC_zero _ _), hid (nC_zero _ _)⟩
          case round =>
            obtain ⟨k, v, p, u, ri, hk, rfl, rfl, rfl, rfl, HR, HV, HP, HU⟩ := hrel
            by_cases hlt : k < s.size
            · have hkl : k < l.length := by rw [HLen.out]; omega
              obtain ⟨g1, g2, g3⟩ := nC_sum (x := x) (y := y) k (by omega) (fun j hj => HAll.out j (by omega))
              rw [HP.out] at g1 g2
              rw [HU.out] at g1 g3
              have hge := HGet0.out k hlt
              have hgl : l[k] = s[k] := by rw [← hge]; simp [List.getD, hkl]
              have hP1 := nC_succ 82 l hkl
              have hU1 := nC_succ 85 l hkl
              rw [hgl, HP.out] at hP1
              rw [hgl, HU.out] at hU1
              have hok := HAll.out k hkl
              unfold fwOk at hok
              rw [hge, HP.out, HU.out] at hok
              rcases hok with ⟨hc, hpy⟩ | ⟨hc, hux⟩
              · have c82 : (s[k].toNat : Int) = 82 := (u8_int _ 82 (by decide)).2 hc
                have t1 : ((s[k].toNat : Int) == 82) = true := by simp [c82]
                rw [hc] at hge hP1 hU1
                rw [if_pos rfl] at hP1
                rw [if_neg (by decide)] at hU1
                have HV1 : Hid (fwN l x y (k + 1) = v) := hid (by unfold fwN; rw [hge, if_neg (by decide)]; exact HV.out)
                have HP1 := hid hP1
                have HU1 := hid hU1
                clear hc hge hgl hP1 hU1 c82
                go_wp2
                clear t1
                go_round
                case rel => exact ⟨k + 1, v, p + 1, u, ri, by omega, by go_num, rfl, by go_num, rfl, HR, HV1, HP1, hid (by rw [HU1.out]; omega)⟩
                case measure => simp [intOf]; omega
              · have c85 : (s[k].toNat : Int) = 85 := (u8_int _ 85 (by decide)).2 hc
                have t1 : ((s[k].toNat : Int) == 82) = false := by rw [c85]; rfl
                rw [hc] at hge hP1 hU1
                rw [if_neg (by decide)] at hP1
                rw [if_pos rfl] at hU1
                have hv9 : v < 2 ^ (x * y) := by rw [← HV.out]; exact fwN_lt k (fun j hj => (nC_sum j (by omega) (fun i hi => HAll.out i (by omega))).2.1) (fun j hj => HAll.out j (by omega))
                have hv512 : v < 1024 := by
                  have : 2 ^ (x * y) ≤ 2 ^ 9 := Nat.pow_le_pow_right (by decide) hxy9
                  omega
                have hft := fw_term (l := l) (k := k) hxy9 (by rw [HP.out]; exact g2) (by rw [HU.out]; exact hux)
                rw [HP.out, HU.out] at hft
                obtain ⟨ro, hro⟩ : ∃ ro, x - 1 - u = ro := ⟨_, rfl⟩
                have hri : ri = ((ro + 1 : Nat) : Int) := by rw [HR.out]; omega
                obtain ⟨m, hm⟩ : ∃ m, y * ro = m := ⟨_, rfl⟩
                obtain ⟨q, hq⟩ : ∃ q, 2 ^ p - 1 = q := ⟨_, rfl⟩
                have hp10 : p ≤ 10 := by omega
                have HWh := hid (wholeSet_any p hp10)
                rw [hro, hm, hq] at hft
                rw [hq] at HWh
                obtain ⟨t, ht⟩ : ∃ t, q * 2 ^ m = t := ⟨_, rfl⟩
                have hmI : ((y : Int) * (ro : Int)) = (m : Int) := by rw [← hm]; simp
                have htI : ((q : Int) * 2 ^ m) = (t : Int) := by rw [← ht]; simp
                rw [ht] at hft
                have ht512 := hft.1
                have hm9 : m ≤ 9 := hft.2
                have hro10 : ro ≤ 10 := by omega
                have hor := i64_or_nat v t (Nat.lt_trans hv512 (by decide)) (Nat.lt_trans ht512 (by decide))
                have HR1 : Hid ((ro : Int) = (x : Int) - ((u + 1 : Nat) : Int)) := hid (by omega)
                have hrs : ((ro + 1 : Nat) : Int) - 1 = (ro : Int) := by omega
                clear hv9 hft
                have hw1 : IntKind.i64.wrap (t : Int) = (t : Int) := IntWalk.i64_in _ (by omega)
                have hw2 : wrap64 (t : Int) = (t : Int) := by unfold wrap64; omega
                have HV1 : Hid (fwN l x y (k + 1) = v ||| t) := hid (by unfold fwN; rw [hge, if_pos rfl, HV.out, HP.out, HU.out, hro, hm, hq, ht])
                have HP1 := hid hP1
                have HU1 := hid hU1
                subst hri
                clear hc hge hgl hP1 hU1 c85 hro hm hq ht
                go_wp2_with (go_at_call 53; refine (HWh.out _).mono ?_; rintro e w' ⟨rfl, rfl⟩)
                clear t1 hmI htI hw1 hw2 hor hrs
                go_round
                case rel => exact ⟨k + 1, v ||| t, p, u + 1, (ro : Int), by omega, by go_num, rfl, rfl, by go_num, HR1, HV1, hid (by rw [HP1.out]; omega), HU1⟩
                case measure => simp [intOf]; omega
            · obtain rfl : k = s.size := by omega
              have hkl : l.length = s.size := by rw [HLen.out]; omega
              have HA2 : Hid (ansFW x y l = (v : Int)) := hid (by rw [HA.out, hkl, HV.out])
              clear hkl
              go_wp2
              go_ret2
              exact ⟨ret_ib HA2.out.symm HO.out.symm, HB.out⟩
        · have HO := hid (okFW_no4 (a := x) (b := y) (l := l) (by omega))
          have HN := hid (ansFW_no HO.out)
          have HCU := hid (fun W => HC.out 85 W)
          have HCR := hid (fun W => HC.out 82 W)
          rw [hU] at HCU
          obtain ⟨c, hc⟩ : ∃ c, l.count 82 = c := ⟨_, rfl⟩
          rw [hc] at HCR hR
          have hlI : (s.size : Int) = (x : Int) + (y : Int) := by omega
          have hRI : ¬ (c : Int) = (y : Int) := by omega
          clear hU HC hc
          go_wp2_with (go_at_call 55; first | ((with_reducible refine (HCU.out _).mono ?_); rintro e w' ⟨rfl, rfl⟩) | ((with_reducible refine (HCR.out _).mono ?_); rintro e w' ⟨rfl, rfl⟩))
          go_ret2
          exact ⟨ret_ib HN.out.symm HO.out.symm, HB.out⟩
      · have HO := hid (okFW_no3 (a := x) (b := y) (l := l) (by omega))
        have HN := hid (ansFW_no HO.out)
        have HCU := hid (fun W => HC.out 85 W)
        obtain ⟨c, hc⟩ : ∃ c, l.count 85 = c := ⟨_, rfl⟩
        rw [hc] at HCU hU
        have hlI : (s.size : Int) = (x : Int) + (y : Int) := by omega
        have hUI : ¬ (c : Int) = (x : Int) := by omega
        clear HC hc
        go_wp2_with (go_at_call 55; refine (HCU.out _).mono ?_; rintro e w' ⟨rfl, rfl⟩)
        go_ret2
        exact ⟨ret_ib HN.out.symm HO.out.symm, HB.out⟩
    · have HO := hid (okFW_no2 (a := x) (b := y) (l := l) (by rw [HSL.out]; omega))
      have HN := hid (ansFW_no HO.out)
      have hlI : ¬ (s.size : Int) = (x : Int) + (y : Int) := by omega
      go_wp2
      go_ret2
      exact ⟨ret_ib HN.out.symm HO.out.symm, HB.out⟩
end Go.Proofs.Ytkcjppbplllaiab
