/- Orders: IsOrder. -/
import Derived.Test.YtclhebpkpmholaaTg2
namespace Go.Proofs.Ytclhebpkpmholaa
open Go.RowKit Go.WideShapes Go.ChangeShapes
set_option linter.unusedVariables false

def ordP (xs : List Int) (m : Nat) (y : Int) : Bool := (decide (0 ≤ y) && decide (y < xs.length)) && (!m.testBit y.toNat && (sub (row xs y.toNat) m == 0))
def ordSt (xs ys : List Int) : Nat → Option Nat
  | 0 => some 0
  | k + 1 => (ordSt xs ys k).bind fun m => if ordP xs m (ys.getD k 0) then some (m ||| 2 ^ (ys.getD k 0).toNat) else none
def orderB (xs ys : List Int) : Bool := decide (ys.length = xs.length) && (ordSt xs ys ys.length).isSome
theorem ordSt_yes {xs ys : List Int} {k m : Nat} (h : ordSt xs ys k = some m) (hp : ordP xs m (ys.getD k 0) = true) : ordSt xs ys (k + 1) = some (m ||| 2 ^ (ys.getD k 0).toNat) := by
  simp only [ordSt, h, Option.bind_some, hp, if_true]
theorem ordSt_no {xs ys : List Int} {k m : Nat} (h : ordSt xs ys k = some m) (hp : ordP xs m (ys.getD k 0) = false) : ∀ j, k < j → ordSt xs ys j = none := by
  intro j hj
  induction j with
  | zero => omega
  | succ j ih =>
    by_cases e : k = j
    · subst e; simp only [ordSt, h, Option.bind_some, hp]; rfl
    · simp only [ordSt, ih (by omega)]; rfl
theorem ordSt_lt {xs ys : List Int} (k : Nat) : ∀ m, ordSt xs ys k = some m → m < 2 ^ xs.length ∧ ∀ j, j < k → 0 ≤ ys.getD j 0 ∧ ys.getD j 0 < xs.length := by
  induction k with
  | zero => intro m h; simp only [ordSt, Option.some.injEq] at h; subst h; exact ⟨Nat.two_pow_pos _, fun j hj => by omega⟩
  | succ k ih =>
    intro m h
    cases hq : ordSt xs ys k with
    | none => simp only [ordSt, hq] at h; cases h
    | some q =>
      obtain ⟨h1, h2⟩ := ih q hq
      cases hp : ordP xs q (ys.getD k 0)
      · rw [ordSt_no hq hp (k + 1) (by omega)] at h; cases h
      · rw [ordSt_yes hq hp] at h
        simp only [Option.some.injEq] at h
        subst h
        simp only [ordP, Bool.and_eq_true, decide_eq_true_eq] at hp
        refine ⟨Nat.or_lt_two_pow h1 (pow_lt_len (by omega)), fun j hj => ?_⟩
        by_cases e : j = k
        · subst e; exact hp.1
        · exact h2 j (by omega)
theorem orderB_len {xs ys : List Int} (h : ¬ ys.length = xs.length) : orderB xs ys = false := by simp [orderB, h]
theorem orderB_no {xs ys : List Int} {k m : Nat} (h : ordSt xs ys k = some m) (hk : k < ys.length) (hp : ordP xs m (ys.getD k 0) = false) : orderB xs ys = false := by
  simp [orderB, ordSt_no h hp ys.length hk]
theorem orderB_yes {xs ys : List Int} {m : Nat} (hl : ys.length = xs.length) (h : ordSt xs ys ys.length = some m) : orderB xs ys = true := by
  rw [orderB, h, hl]; simp
theorem orderB_in {xs ys : List Int} (h : inW xs.length ys = false) : orderB xs ys = false := by
  cases hc : orderB xs ys
  · rfl
  · simp only [orderB, Bool.and_eq_true, decide_eq_true_eq] at hc
    obtain ⟨m, hm⟩ := Option.isSome_iff_exists.1 hc.2
    rw [inW_of (ordSt_lt _ m hm).2] at h; cases h
theorem orderB_word {xs ys : List Int} (h : orderB xs ys = true) : ys.length = xs.length ∧ inW xs.length ys = true := by
  simp only [orderB, Bool.and_eq_true, decide_eq_true_eq] at h
  obtain ⟨m, hm⟩ := Option.isSome_iff_exists.1 h.2
  exact ⟨h.1, inW_of (ordSt_lt _ m hm).2⟩
theorem ordP_range {xs : List Int} {m : Nat} {y : Int} (h : (decide (0 ≤ y) && decide (y < xs.length)) = false) : ordP xs m y = false := by simp only [ordP, h]; rfl
theorem ordP_bit {xs : List Int} {m e : Nat} (h : m.testBit e = true) : ordP xs m (e : Int) = false := by simp [ordP, h]
theorem ordP_row {xs : List Int} {m e z : Nat} (hz : row xs e = z) (h : sub z m ≠ 0) : ordP xs m (e : Int) = false := by
  simp [ordP, hz, h]
theorem ordP_yes {xs : List Int} {m e z : Nat} (he : e < xs.length) (hb : m.testBit e = false) (hz : row xs e = z) (h : sub z m = 0) : ordP xs m (e : Int) = true := by
  simp [ordP, hz, h, hb]; omega

theorem tgOrder_any (v u : Value) (xs ys : List Int) (w : World) (hv : Ints w v xs) (hu : Ints w u ys) (hg : good xs = true) (hm : ys.length ≤ 1048576) :
    Calls Try.prog 125 #[.agg #[v], u] w fun r w' => r = .returned (.bool (orderB xs ys)) ∧ Below w.heap.size w w' := by
  have HU := hid hu
  have HG := hid hg
  have hl10 := (good_length hg).2
  obtain ⟨A, c, rfl, hA⟩ := hv
  have HA := hid hA
  obtain ⟨A2, c2, rfl, hA2⟩ := hu
  have HA2 := hid hA2
  clear hA hA2 hg
  by_cases hlen : ys.length = xs.length
  · have HL := hid hlen
    have hne : ((ys.length : Int) != (xs.length : Int)) = false := by rw [bne_eq_false_iff_eq, hlen]
    clear hlen
    go_enter Try.func125, Try.ntmps125
    have HB := hid (below_alloc (Below.refl _ w) (.cells #[(.slice A xs.length c)] 26))
    have A0 := hid (At.newAt w (.slice A xs.length c) 26 w.heap.size (by simp))
    go_wp2_with fail
    refine (l1All_any _ ys xs.length _ (HU.out.below HB.out) hm (by omega)).mono ?_
    rintro e w' ⟨rfl, hb⟩
    replace HB := hid (below_to HB.out hb)
    replace A0 := hid (A0.out.below hb)
    clear hb
    cases hq : inW xs.length ys
    · have HO := hid (orderB_in hq)
      clear hq
      have ebox0 := A0.out.1
      go_wp2
      go_ret
      exact ⟨ret_bool HO.out.symm, HB.out⟩
    · have HQ := hid hq
      clear hq hne
      have ebox0 := A0.out.1
      go_wp2
      go_loop [5, 25] (fun q i => ∃ k m : Nat, k ≤ ys.length ∧ i = .int .i64 k ∧ q = .int .i64 m ∧ Hid (ordSt xs ys k = some m)) (fun _ i => ys.length - (intOf i).toNat)
      case atStart => exact ⟨0, 0, Nat.zero_le _, rfl, rfl, hid rfl⟩
      case round =>
        obtain ⟨k, m, hk, rfl, rfl, HS⟩ := hrel
        by_cases hlt : k < ys.length
        · obtain ⟨b2, o2, rfl, hbl2, hc2⟩ := HA2.out (by intro h; simp [h] at hlt)
          have hc2' : w'.cell? ⟨b2, o2 + k, none⟩ = some (.int .i64 (ys.getD k 0)) := (HB.out.cell (p := ⟨b2, o2 + k, none⟩) hbl2).trans (hc2 k hlt)
          have hin := inW_at HQ.out hlt
          have hm2 := (ordSt_lt k m HS.out).1
          obtain ⟨y, hy⟩ : ∃ y, ys.getD k 0 = y := ⟨_, rfl⟩
          rw [hy] at hc2' hin
          obtain ⟨e, rfl⟩ := Int.eq_ofNat_of_zero_le hin.1
          have he : e < xs.length := by omega
          have HY := hid hy
          have hm10 := lt1024 hm2 hl10
          clear hc2 hy hm2
          cases hbit : m.testBit e
          · have HBit := hid hbit
            obtain ⟨b, o, rfl, hbl, hc⟩ := HA.out (by intro h; simp [h] at he)
            have hc' : w'.cell? ⟨b, o + e, none⟩ = some (.int .i64 (xs.getD e 0)) := (HB.out.cell (p := ⟨b, o + e, none⟩) hbl).trans (hc e he)
            have hr := row_lt HG.out he
            have hr10 := row_lt10 HG.out he
            obtain ⟨z, hz⟩ : ∃ z, row xs e = z := ⟨_, rfl⟩
            rw [hz] at hr hr10
            rw [hr.1] at hc'
            have HZ := hid hz
            have han := i64_andNot_nat z m (by omega) (by omega)
            have wp := wrap_pow' e (by omega)
            have hor := or_pow m e hm10 (by omega)
            have hbox := A0.out.1
            clear hc hz hr hbit
            by_cases h0 : sub z m = 0
            · have hs' : (((sub z m : Nat) : Int) != 0) = false := by rw [h0]; rfl
              have HP := hid (ordSt_yes HS.out (by rw [HY.out]; exact ordP_yes he HBit.out HZ.out h0))
              clear h0
              go_wp2_with (go_at_call 142; refine (poIn_any m e (by omega) _).mono ?_; rw [HBit.out]; rintro e' w2 ⟨rfl, rfl⟩)
              go_round
              case rel => exact ⟨k + 1, _, by omega, by go_num, rfl, hid (by rw [HP.out, HY.out]; rfl)⟩
              case measure => simp [intOf]; omega
            · have hs' : (((sub z m : Nat) : Int) != 0) = true := by rw [bne_iff_ne]; omega
              have HP := hid (orderB_no HS.out hlt (by rw [HY.out]; exact ordP_row HZ.out h0))
              clear h0
              go_wp2_with (go_at_call 142; refine (poIn_any m e (by omega) _).mono ?_; rw [HBit.out]; rintro e' w2 ⟨rfl, rfl⟩)
              go_ret
              exact ⟨ret_bool HP.out.symm, HB.out⟩
          · have HBit := hid hbit
            have HP := hid (orderB_no HS.out hlt (by rw [HY.out]; exact ordP_bit hbit))
            clear hbit
            go_wp2_with (go_at_call 142; refine (poIn_any m e (by omega) _).mono ?_; rw [HBit.out]; rintro e' w2 ⟨rfl, rfl⟩)
            go_ret
            exact ⟨ret_bool HP.out.symm, HB.out⟩
        · obtain rfl : k = ys.length := by omega
          have HP := hid (orderB_yes HL.out HS.out)
          go_wp2
          go_ret
          exact ⟨ret_bool HP.out.symm, HB.out⟩
  · have HO := hid (orderB_len hlen)
    have hne : ((ys.length : Int) != (xs.length : Int)) = true := by rw [bne_iff_ne]; omega
    clear hlen
    go_enter Try.func125, Try.ntmps125
    have HB := hid (below_alloc (Below.refl _ w) (.cells #[(.slice A xs.length c)] 26))
    have A0 := hid (At.newAt w (.slice A xs.length c) 26 w.heap.size (by simp))
    go_wp2
    go_ret
    exact ⟨ret_bool HO.out.symm, HB.out⟩
theorem hasOrder_any (v u : Value) (xs ys : List Int) (w : World) (hv : Ints w v xs) (hu : Ints w u ys) (hg : good xs = true) (hm : ys.length ≤ 1048576) :
    Calls Try.prog 123 #[.agg #[v], u] w fun r w' => r = .returned (.bool (orderB xs ys)) ∧ Below w.heap.size w w' := by
  have HV := hid hv
  have HG := hid hg
  have hl10 := (good_length hg).2
  obtain ⟨A, c, rfl, hA⟩ := hv
  have HA := hid hA
  obtain ⟨A2, c2, rfl, hA2⟩ := hu
  have HA2 := hid hA2
  clear hA hA2 hg
  by_cases hlen : ys.length = xs.length
  · have HL := hid hlen
    have hne : ((ys.length : Int) != (xs.length : Int)) = false := by rw [bne_eq_false_iff_eq, hlen]
    clear hlen
    go_enter Try.func123, Try.ntmps123
    have HB := hid (below_alloc (Below.refl _ w) (.cells #[(.slice A xs.length c)] 26))
    have A0 := hid (At.newAt w (.slice A xs.length c) 26 w.heap.size (by simp))
    go_wp2
    clear hne
    go_loopw [5, 16] (fun q i wr => ∃ k m : Nat, k ≤ ys.length ∧ i = .int .i64 k ∧ q = .int .i64 m ∧ Hid (ordSt xs ys k = some m) ∧ Below w.heap.size w wr ∧ At wr w.heap.size (.slice A xs.length c)) (fun _ i _ => ys.length - (intOf i).toNat)
    case atStart => exact ⟨0, 0, Nat.zero_le _, rfl, rfl, hid rfl, HB.out, A0.out⟩
    case round =>
      obtain ⟨k, m, hk, rfl, rfl, HS, hb, ha⟩ := hrel
      have hbox := ha.1
      by_cases hlt : k < ys.length
      · obtain ⟨b2, o2, rfl, hbl2, hc2⟩ := HA2.out (by intro h; simp [h] at hlt)
        have hc2' : wr.cell? ⟨b2, o2 + k, none⟩ = some (.int .i64 (ys.getD k 0)) := (hb.cell (p := ⟨b2, o2 + k, none⟩) hbl2).trans (hc2 k hlt)
        have hm2 := (ordSt_lt k m HS.out).1
        obtain ⟨y, hy⟩ : ∃ y, ys.getD k 0 = y := ⟨_, rfl⟩
        rw [hy] at hc2'
        have HY := hid hy
        have hm10 := lt1024 hm2 hl10
        have HB1 := hid hb
        have HA1 := hid ha
        clear hc2 hy hm2 hb ha
        go_wp2_with fail
        clear hbox hc2'
        refine (hasIndex_any _ xs y _ (HV.out.below HB1.out) (by omega)).mono ?_
        rintro e' w2 ⟨rfl, hb⟩
        have HB2 := hid (below_to HB1.out hb)
        have HA3 := hid (HA1.out.below hb)
        have hbox := HA3.out.1
        clear hb
        cases hq : (decide (0 ≤ y) && decide (y < (xs.length : Int)))
        · have HP := hid (orderB_no HS.out hlt (by rw [HY.out]; exact ordP_range hq))
          clear hq
          go_wp2
          go_ret
          exact ⟨ret_bool HP.out.symm, HB2.out⟩
        · have hq2 : 0 ≤ y ∧ y < xs.length := by simpa using hq
          clear hq
          obtain ⟨e, rfl⟩ := Int.eq_ofNat_of_zero_le hq2.1
          have he : e < xs.length := by omega
          cases hbit : m.testBit e
          · have HBit := hid hbit
            obtain ⟨b, o, rfl, hbl, hc⟩ := HA.out (by intro h; simp [h] at he)
            have hc' : w2.cell? ⟨b, o + e, none⟩ = some (.int .i64 (xs.getD e 0)) := (HB2.out.cell (p := ⟨b, o + e, none⟩) hbl).trans (hc e he)
            have hr := row_lt HG.out he
            have hr10 := row_lt10 HG.out he
            obtain ⟨z, hz⟩ : ∃ z, row xs e = z := ⟨_, rfl⟩
            rw [hz] at hr hr10
            rw [hr.1] at hc'
            have HZ := hid hz
            have han := i64_andNot_nat z m (by omega) (by omega)
            have wp := wrap_pow' e (by omega)
            have hor := or_pow m e hm10 (by omega)
            clear hc hz hr hbit
            by_cases h0 : sub z m = 0
            · have hs' : (((sub z m : Nat) : Int) != 0) = false := by rw [h0]; rfl
              have HP := hid (ordSt_yes HS.out (by rw [HY.out]; exact ordP_yes he HBit.out HZ.out h0))
              clear h0
              go_wp2_with (go_at_call 101; refine (hasElement_any m e (by omega) (by omega) _).mono ?_; rw [HBit.out]; rintro e' w3 ⟨rfl, rfl⟩)
              go_roundw
              case rel => exact ⟨k + 1, _, by omega, by go_num, rfl, hid (by rw [HP.out, HY.out]; rfl), HB2.out, HA3.out⟩
              case measure => simp [intOf]; omega
            · have hs' : (((sub z m : Nat) : Int) != 0) = true := by rw [bne_iff_ne]; omega
              have HP := hid (orderB_no HS.out hlt (by rw [HY.out]; exact ordP_row HZ.out h0))
              clear h0
              go_wp2_with (go_at_call 101; refine (hasElement_any m e (by omega) (by omega) _).mono ?_; rw [HBit.out]; rintro e' w3 ⟨rfl, rfl⟩)
              go_ret
              exact ⟨ret_bool HP.out.symm, HB2.out⟩
          · have HBit := hid hbit
            have HP := hid (orderB_no HS.out hlt (by rw [HY.out]; exact ordP_bit hbit))
            clear hbit
            go_wp2_with (go_at_call 101; refine (hasElement_any m e (by omega) (by omega) _).mono ?_; rw [HBit.out]; rintro e' w3 ⟨rfl, rfl⟩)
            go_ret
            exact ⟨ret_bool HP.out.symm, HB2.out⟩
      · obtain rfl : k = ys.length := by omega
        have HP := hid (orderB_yes HL.out HS.out)
        have HB1 := hid hb
        clear hb ha
        go_wp2
        go_ret
        exact ⟨ret_bool HP.out.symm, HB1.out⟩
  · have HO := hid (orderB_len hlen)
    have hne : ((ys.length : Int) != (xs.length : Int)) = true := by rw [bne_iff_ne]; omega
    clear hlen
    go_enter Try.func123, Try.ntmps123
    have HB := hid (below_alloc (Below.refl _ w) (.cells #[(.slice A xs.length c)] 26))
    have A0 := hid (At.newAt w (.slice A xs.length c) 26 w.heap.size (by simp))
    go_wp2
    go_ret
    exact ⟨ret_bool HO.out.symm, HB.out⟩
def okOrder (xs ys : List Int) : Bool := good xs && orderB xs ys
theorem okOrder_no {xs ys : List Int} (h : good xs = false) : okOrder xs ys = false := by simp [okOrder, h]
theorem okOrder_yes {xs ys : List Int} (h : good xs = true) : okOrder xs ys = orderB xs ys := by simp [okOrder, h]
theorem specIsOrder_any (v : Value) (xs : List Int) (u : Value) (ys : List Int) (w : World) (hv : Ints w v xs) (hl : xs.length ≤ 1048576) (hu : Ints w u ys) (hm : ys.length ≤ 1048576) :
    Calls Try.prog 65 #[.agg #[v], u] w fun r w' => r = .returned (.tuple #[.bool (okOrder xs ys), .bool (good xs)]) ∧ Below w.heap.size w w' := by
  have HV := hid hv
  have HU := hid hu
  clear hv hu
  go_enter Try.func65, Try.ntmps65
  have HB := hid (below_alloc (Below.refl _ w) (.cells #[v] 26))
  have A0 := hid (At.newAt w v 26 w.heap.size (by simp))
  go_wp2_with fail
  refine (poGood_any _ xs _ (HV.out.below HB.out) hl).mono ?_
  rintro e w' ⟨rfl, hb⟩
  replace HB := hid (below_to HB.out hb)
  replace A0 := hid (A0.out.below hb)
  clear hb
  cases hq : good xs
  · have HO := hid (okOrder_no (ys := ys) hq)
    have HQ := hid hq
    clear hq
    have ebox0 := A0.out.1
    go_wp2
    go_ret2
    exact ⟨ret_bb HO.out.symm HQ.out.symm, HB.out⟩
  · have HQ := hid hq
    have HO := hid (okOrder_yes (ys := ys) hq)
    clear hq
    have ebox0 := A0.out.1
    go_wp2_with fail
    clear ebox0
    refine (tgOrder_any _ _ xs ys _ (HV.out.below HB.out) (HU.out.below HB.out) HQ.out hm).mono ?_
    rintro e w' ⟨rfl, hb⟩
    replace HB := hid (below_to HB.out hb)
    replace A0 := hid (A0.out.below hb)
    clear hb
    have ebox0 := A0.out.1
    go_wp2
    go_ret2
    exact ⟨ret_bb HO.out.symm HQ.out.symm, HB.out⟩
theorem implIsOrder_any (v : Value) (xs : List Int) (u : Value) (ys : List Int) (w : World) (hv : Ints w v xs) (hl : xs.length ≤ 1048576) (hu : Ints w u ys) (hm : ys.length ≤ 1048576) :
    Calls Try.prog 64 #[.agg #[v], u] w fun r w' => r = .returned (.tuple #[.bool (okOrder xs ys), .bool (good xs)]) ∧ Below w.heap.size w w' := by
  have HV := hid hv
  have HU := hid hu
  clear hv hu
  go_enter Try.func64, Try.ntmps64
  have HB := hid (below_alloc (Below.refl _ w) (.cells #[v] 26))
  have A0 := hid (At.newAt w v 26 w.heap.size (by simp))
  go_wp2_with fail
  refine (implIsPoset_any _ xs _ (HV.out.below HB.out) hl).mono ?_
  rintro e w' ⟨rfl, hb⟩
  replace HB := hid (below_to HB.out hb)
  replace A0 := hid (A0.out.below hb)
  clear hb
  cases hq : good xs
  · have HO := hid (okOrder_no (ys := ys) hq)
    have HQ := hid hq
    clear hq
    have ebox0 := A0.out.1
    go_wp2
    go_ret2
    exact ⟨ret_bb HO.out.symm HQ.out.symm, HB.out⟩
  · have HQ := hid hq
    have HO := hid (okOrder_yes (ys := ys) hq)
    clear hq
    have ebox0 := A0.out.1
    go_wp2_with fail
    clear ebox0
    refine (hasOrder_any _ _ xs ys _ (HV.out.below HB.out) (HU.out.below HB.out) HQ.out hm).mono ?_
    rintro e w' ⟨rfl, hb⟩
    replace HB := hid (below_to HB.out hb)
    replace A0 := hid (A0.out.below hb)
    clear hb
    have ebox0 := A0.out.1
    go_wp2
    go_ret2
    exact ⟨ret_bb HO.out.symm HQ.out.symm, HB.out⟩
end Go.Proofs.Ytclhebpkpmholaa
