/- Texts Order, Lin, End, LiIs, one behind the other. -/
import Derived.Test.YtpdoheagfjeefaaPkLinearRankedProof02
import Derived.Test.YtpdoheagfjeefaaPkLinearRankedProof05
import Derived.Test.YtpdoheagfjeefaaPkLinearRankedProof07
/- Orders: IsOrder. -/
namespace Go.Proofs.Ytpdoheagfjeefaa
open Go.RowKit Go.WideShapes Go.ChangeShapes
set_option linter.unusedVariables false

def ordP (xs : List Int) (m : Nat) (y : Int) : Bool := (decide (0 ≤ y) && decide (y < xs.length)) && (!m.testBit y.toNat && (sub (row xs y.toNat) m == 0))
def ordSt (xs ys : List Int) : Nat → Option Nat
  | 0 => some 0
  | k + 1 => (ordSt xs ys k).bind fun m => if ordP xs m (ys.getD k 0) then some (m ||| 2 ^ (ys.getD k 0).toNat) else none
def orderB (xs ys : List Int) : Bool := decide (ys.length = xs.length) && (ordSt xs ys ys.length).isSome
theorem ordSt_yes {xs ys : List Int} {k m : Nat} (h : ordSt xs ys k = some m) (hp : ordP xs m (ys.getD k 0) = true) : ordSt xs ys (k + 1) = some (m ||| 2 ^ (ys.getD k 0).toNat) := by
  simp only [ordSt, h, Option.bind_some, hp, if_true]
theorem ordSt_no {xs ys : List Int} {k m : Nat} (h : ordSt xs ys k = some m) (hp : ordP xs m (ys.getD k 0) = false) : ∀ j, k < j → ordSt xs ys j = none := by
  intro j hj
  induction j with
  | zero => omega
  | succ j ih =>
    by_cases e : k = j
    · subst e; simp only [ordSt, h, Option.bind_some, hp]; rfl
    · simp only [ordSt, ih (by omega)]; rfl
theorem ordSt_lt {xs ys : List Int} (k : Nat) : ∀ m, ordSt xs ys k = some m → m < 2 ^ xs.length ∧ ∀ j, j < k → 0 ≤ ys.getD j 0 ∧ ys.getD j 0 < xs.length := by
  induction k with
  | zero => intro m h; simp only [ordSt, Option.some.injEq] at h; subst h; exact ⟨Nat.two_pow_pos _, fun j hj => by omega⟩
  | succ k ih =>
    intro m h
    cases hq : ordSt xs ys k with
    | none => simp only [ordSt, hq] at h; cases h
    | some q =>
      obtain ⟨h1, h2⟩ := ih q hq
      cases hp : ordP xs q (ys.getD k 0)
      · rw [ordSt_no hq hp (k + 1) (by omega)] at h; cases h
      · rw [ordSt_yes hq hp] at h
        simp only [Option.some.injEq] at h
        subst h
        simp only [ordP, Bool.and_eq_true, decide_eq_true_eq] at hp
        refine ⟨Nat.or_lt_two_pow h1 (pow_lt_len (by omega)), fun j hj => ?_⟩
        by_cases e : j = k
        · subst e; exact hp.1
        · exact h2 j (by omega)
theorem orderB_len {xs ys : List Int} (h : ¬ ys.length = xs.length) : orderB xs ys = false := by simp [orderB, h]
theorem orderB_no {xs ys : List Int} {k m : Nat} (h : ordSt xs ys k = some m) (hk : k < ys.length) (hp : ordP xs m (ys.getD k 0) = false) : orderB xs ys = false := by
  simp [orderB, ordSt_no h hp ys.length hk]
theorem orderB_yes {xs ys : List Int} {m : Nat} (hl : ys.length = xs.length) (h : ordSt xs ys ys.length = some m) : orderB xs ys = true := by
  rw [orderB, h, hl]; simp
theorem orderB_in {xs ys : List Int} (h : inW xs.length ys = false) : orderB xs ys = false := by
  cases hc : orderB xs ys
  · rfl
  · simp only [orderB, Bool.and_eq_true, decide_eq_true_eq] at hc
    obtain ⟨m, hm⟩ := Option.isSome_iff_exists.1 hc.2
    rw [inW_of (ordSt_lt _ m hm).2] at h; cases h
theorem orderB_word {xs ys : List Int} (h : orderB xs ys = true) : ys.length = xs.length ∧ inW xs.length ys = true := by
  simp only [orderB, Bool.and_eq_true, decide_eq_true_eq] at h
  obtain ⟨m, hm⟩ := Option.isSome_iff_exists.1 h.2
  exact ⟨h.1, inW_of (ordSt_lt _ m hm).2⟩
theorem ordP_range {xs : List Int} {m : Nat} {y : Int} (h : (decide (0 ≤ y) && decide (y < xs.length)) = false) : ordP xs m y = false := by simp only [ordP, h]; rfl
theorem ordP_bit {xs : List Int} {m e : Nat} (h : m.testBit e = true) : ordP xs m (e : Int) = false := by simp [ordP, h]
theorem ordP_row {xs : List Int} {m e z : Nat} (hz : row xs e = z) (h : sub z m ≠ 0) : ordP xs m (e : Int) = false := by
  simp [ordP, hz, h]
theorem ordP_yes {xs : List Int} {m e z : Nat} (he : e < xs.length) (hb : m.testBit e = false) (hz : row xs e = z) (h : sub z m = 0) : ordP xs m (e : Int) = true := by
  simp [ordP, hz, h, hb]; omega

theorem hasOrder_any (v u : Value) (xs ys : List Int) (w : World) (hv : Ints w v xs) (hu : Ints w u ys) (hg : good xs = true) (hm : ys.length ≤ 1048576) :
    Calls Try.prog 136 #[.agg #[v], u] w fun r w' => r = .returned (.bool (orderB xs ys)) ∧ Below w.heap.size w w' := by
  have HV := hid hv
  have HG := hid hg
  have hl10 := (good_length hg).2
  obtain ⟨A, c, rfl, hA⟩ := hv
  have HA := hid hA
  obtain ⟨A2, c2, rfl, hA2⟩ := hu
  have HA2 := hid hA2
  clear hA hA2 hg
  by_cases hlen : ys.length = xs.length
  · have HL := hid hlen
    have hne : ((ys.length : Int) != (xs.length : Int)) = false := by rw [bne_eq_false_iff_eq, hlen]
    clear hlen
    go_enter Try.func136, Try.ntmps136
    have HB := hid (below_alloc (Below.refl _ w) (.cells #[(.slice A xs.length c)] 26))
    have A0 := hid (At.newAt w (.slice A xs.length c) 26 w.heap.size (by simp))
    go_wp2
    clear hne
    go_loopw [5, 16] (fun q i wr => ∃ k m : Nat, k ≤ ys.length ∧ i = .int .i64 k ∧ q = .int .i64 m ∧ Hid (ordSt xs ys k = some m) ∧ Below w.heap.size w wr ∧ At wr w.heap.size (.slice A xs.length c)) (fun _ i _ => ys.length - (intOf i).toNat)
    case atStart => exact ⟨0, 0, Nat.zero_le _, rfl, rfl, hid rfl, HB.out, A0.out⟩
    case round =>
      obtain ⟨k, m, hk, rfl, rfl, HS, hb, ha⟩ := hrel
      have hbox := ha.1
      by_cases hlt : k < ys.length
      · obtain ⟨b2, o2, rfl, hbl2, hc2⟩ := HA2.out (by intro h; simp [h] at hlt)
        have hc2' : wr.cell? ⟨b2, o2 + k, none⟩ = some (.int .i64 (ys.getD k 0)) := (hb.cell (p := ⟨b2, o2 + k, none⟩) hbl2).trans (hc2 k hlt)
        have hm2 := (ordSt_lt k m HS.out).1
        obtain ⟨y, hy⟩ : ∃ y, ys.getD k 0 = y := ⟨_, rfl⟩
        rw [hy] at hc2'
        have HY := hid hy
        have hm10 := lt1024 hm2 hl10
        have HB1 := hid hb
        have HA1 := hid ha
        clear hc2 hy hm2 hb ha
        go_wp2_with fail
        clear hbox hc2'
        refine (hasIndex_any _ xs y _ (HV.out.below HB1.out) (by omega)).mono ?_
        rintro e' w2 ⟨rfl, hb⟩
        have HB2 := hid (below_to HB1.out hb)
        have HA3 := hid (HA1.out.below hb)
        have hbox := HA3.out.1
        clear hb
        cases hq : (decide (0 ≤ y) && decide (y < (xs.length : Int)))
        · have HP := hid (orderB_no HS.out hlt (by rw [HY.out]; exact ordP_range hq))
          clear hq
          go_wp2
          go_ret
          exact ⟨ret_bool HP.out.symm, HB2.out⟩
        · have hq2 : 0 ≤ y ∧ y < xs.length := by simpa using hq
          clear hq
          obtain ⟨e, rfl⟩ := Int.eq_ofNat_of_zero_le hq2.1
          have he : e < xs.length := by omega
          cases hbit : m.testBit e
          · have HBit := hid hbit
            obtain ⟨b, o, rfl, hbl, hc⟩ := HA.out (by intro h; simp [h] at he)
            have hc' : w2.cell? ⟨b, o + e, none⟩ = some (.int .i64 (xs.getD e 0)) := (HB2.out.cell (p := ⟨b, o + e, none⟩) hbl).trans (hc e he)
            have hr := row_lt HG.out he
            have hr10 := row_lt10 HG.out he
            obtain ⟨z, hz⟩ : ∃ z, row xs e = z := ⟨_, rfl⟩
            rw [hz] at hr hr10
            rw [hr.1] at hc'
            have HZ := hid hz
            have han := i64_andNot_nat z m (by omega) (by omega)
            have wp := wrap_pow' e (by omega)
            have hor := or_pow m e hm10 (by omega)
            clear hc hz hr hbit
            by_cases h0 : sub z m = 0
            · have hs' : (((sub z m : Nat) : Int) != 0) = false := by rw [h0]; rfl
              have HP := hid (ordSt_yes HS.out (by rw [HY.out]; exact ordP_yes he HBit.out HZ.out h0))
              clear h0
              go_wp2_with (go_at_call 94; refine (hasElement_any m e (by omega) (by omega) _).mono ?_; rw [HBit.out]; rintro e' w3 ⟨rfl, rfl⟩)
              go_roundw
              case rel => exact ⟨k + 1, _, by omega, by go_num, rfl, hid (by rw [HP.out, HY.out]; rfl), HB2.out, HA3.out⟩
              case measure => simp [intOf]; omega
            · have hs' : (((sub z m : Nat) : Int) != 0) = true := by rw [bne_iff_ne]; omega
              have HP := hid (orderB_no HS.out hlt (by rw [HY.out]; exact ordP_row HZ.out h0))
              clear h0
              go_wp2_with (go_at_call 94; refine (hasElement_any m e (by omega) (by omega) _).mono ?_; rw [HBit.out]; rintro e' w3 ⟨rfl, rfl⟩)
              go_ret
              exact ⟨ret_bool HP.out.symm, HB2.out⟩
          · have HBit := hid hbit
            have HP := hid (orderB_no HS.out hlt (by rw [HY.out]; exact ordP_bit hbit))
            clear hbit
            go_wp2_with (go_at_call 94; refine (hasElement_any m e (by omega) (by omega) _).mono ?_; rw [HBit.out]; rintro e' w3 ⟨rfl, rfl⟩)
            go_ret
            exact ⟨ret_bool HP.out.symm, HB2.out⟩
      · obtain rfl : k = ys.length := by omega
        have HP := hid (orderB_yes HL.out HS.out)
        have HB1 := hid hb
        clear hb ha
        go_wp2
        go_ret
        exact ⟨ret_bool HP.out.symm, HB1.out⟩
  · have HO := hid (orderB_len hlen)
    have hne : ((ys.length : Int) != (xs.length : Int)) = true := by rw [bne_iff_ne]; omega
    clear hlen
    go_enter Try.func136, Try.ntmps136
    have HB := hid (below_alloc (Below.refl _ w) (.cells #[(.slice A xs.length c)] 26))
    have A0 := hid (At.newAt w (.slice A xs.length c) 26 w.heap.size (by simp))
    go_wp2
    go_ret
    exact ⟨ret_bool HO.out.symm, HB.out⟩
def okOrder (xs ys : List Int) : Bool := good xs && orderB xs ys
theorem okOrder_no {xs ys : List Int} (h : good xs = false) : okOrder xs ys = false := by simp [okOrder, h]
theorem okOrder_yes {xs ys : List Int} (h : good xs = true) : okOrder xs ys = orderB xs ys := by simp [okOrder, h]
theorem implIsOrder_any (v : Value) (xs : List Int) (u : Value) (ys : List Int) (w : World) (hv : Ints w v xs) (hl : xs.length ≤ 1048576) (hu : Ints w u ys) (hm : ys.length ≤ 1048576) :
    Calls Try.prog 142 #[.agg #[v], u] w fun r w' => r = .returned (.tuple #[.bool (okOrder xs ys), .bool (good xs)]) ∧ Below w.heap.size w w' := by
  have HV := hid hv
  have HU := hid hu
  clear hv hu
  go_enter Try.func142, Try.ntmps142
  have HB := hid (below_alloc (Below.refl _ w) (.cells #[v] 26))
  have A0 := hid (At.newAt w v 26 w.heap.size (by simp))
  go_wp2_with fail
  refine (implIsPoset_any _ xs _ (HV.out.below HB.out) hl).mono ?_
  rintro e w' ⟨rfl, hb⟩
  replace HB := hid (below_to HB.out hb)
  replace A0 := hid (A0.out.below hb)
  clear hb
  cases hq : good xs
  · have HO := hid (okOrder_no (ys := ys) hq)
    have HQ := hid hq
    clear hq
    have ebox0 := A0.out.1
    go_wp2
    go_ret2
    exact ⟨ret_bb HO.out.symm HQ.out.symm, HB.out⟩
  · have HQ := hid hq
    have HO := hid (okOrder_yes (ys := ys) hq)
    clear hq
    have ebox0 := A0.out.1
    go_wp2_with fail
    clear ebox0
    refine (hasOrder_any _ _ xs ys _ (HV.out.below HB.out) (HU.out.below HB.out) HQ.out hm).mono ?_
    rintro e w' ⟨rfl, hb⟩
    replace HB := hid (below_to HB.out hb)
    replace A0 := hid (A0.out.below hb)
    clear hb
    have ebox0 := A0.out.1
    go_wp2
    go_ret2
    exact ⟨ret_bb HO.out.symm HQ.out.symm, HB.out⟩
end Go.Proofs.Ytpdoheagfjeefaa

/- Lists with one toggle after the other: toggles at places, promotion, evacuation, as maps of lists. No program is named here. -/
namespace Go.Proofs.Ytpdoheagfjeefaa
set_option linter.unusedVariables false

def swapL (ws : List Int) (i : Nat) : List Int := (ws.set i (ws.getD (i + 1) 0)).set (i + 1) (ws.getD i 0)
def togL (xs ws : List Int) (i : Nat) : List Int := if (row xs (ws.getD (i + 1) 0).toNat).testBit (ws.getD i 0).toNat = true then ws else swapL ws i
theorem getD_set_ (ws : List Int) (i j : Nat) (x : Int) : (ws.set i x).getD j 0 = if i = j ∧ i < ws.length then x else ws.getD j 0 := by
  rw [List.getD_eq_getElem?_getD, List.getElem?_set, List.getD_eq_getElem?_getD]
  by_cases h : i = j
  · subst h
    by_cases h2 : i < ws.length
    · simp [h2]
    · simp [h2]
  · simp [h]
/-- a list of n numbers from 0 to n - 1 -/
structure Lw (n : Nat) (ws : List Int) : Prop where
  len : ws.length = n
  ins : inW n ws = true
theorem Lw.at {n : Nat} {ws : List Int} (h : Lw n ws) {j : Nat} (hj : j < n) : 0 ≤ ws.getD j 0 ∧ ws.getD j 0 < n := inW_at h.ins (by rw [h.len]; exact hj)
theorem swapL_length (ws : List Int) (i : Nat) : (swapL ws i).length = ws.length := by simp [swapL]
theorem swapL_getD (ws : List Int) (i j : Nat) (hi : i + 1 < ws.length) : (swapL ws i).getD j 0 = if j = i then ws.getD (i + 1) 0 else if j = i + 1 then ws.getD i 0 else ws.getD j 0 := by
  unfold swapL
  rw [getD_set_, getD_set_, List.length_set]
  by_cases h1 : j = i
  · subst h1
    rw [if_neg (by omega), if_pos ⟨rfl, by omega⟩, if_pos rfl]
  · rw [if_neg h1]
    by_cases h2 : j = i + 1
    · subst h2; rw [if_pos ⟨rfl, by omega⟩, if_pos rfl]
    · rw [if_neg (by omega), if_neg (by omega), if_neg h2]
theorem Lw.swap {n : Nat} {ws : List Int} (h : Lw n ws) {i : Nat} (hi : i + 1 < n) : Lw n (swapL ws i) := by
  refine ⟨by rw [swapL_length]; exact h.len, inW_of fun j hj => ?_⟩
  rw [swapL_length, h.len] at hj
  rw [swapL_getD ws i j (by rw [h.len]; exact hi)]
  split
  · exact h.at hi
  · split
    · exact h.at (by omega)
    · exact h.at hj
theorem Lw.tog {n : Nat} {xs ws : List Int} (h : Lw n ws) {i : Nat} (hi : i + 1 < n) : Lw n (togL xs ws i) := by
  unfold togL
  split
  · exact h
  · exact h.swap hi
theorem togL_yes {xs ws : List Int} {i : Nat} (h : (row xs (ws.getD (i + 1) 0).toNat).testBit (ws.getD i 0).toNat = true) : togL xs ws i = ws := if_pos h
theorem togL_no {xs ws : List Int} {i : Nat} (h : (row xs (ws.getD (i + 1) 0).toNat).testBit (ws.getD i 0).toNat = false) : togL xs ws i = swapL ws i := by unfold togL; rw [if_neg (by rw [h]; decide)]
theorem togL_length (xs ws : List Int) (i : Nat) : (togL xs ws i).length = ws.length := by
  unfold togL; split
  · rfl
  · exact swapL_length ws i

def turnN (F : Nat → List Int → List Int) : Nat → List Int → List Int
  | 0, ws => ws
  | k + 1, ws => F k (turnN F k ws)
theorem turnN_congr {F G : Nat → List Int → List Int} {m : Nat} (h : ∀ k, k < m → F k = G k) (ws : List Int) : turnN F m ws = turnN G m ws := by
  induction m with
  | zero => rfl
  | succ m ih => simp only [turnN]; rw [ih (fun k hk => h k (by omega)), h m (by omega)]
theorem Lw.turn {n : Nat} {F : Nat → List Int → List Int} {m : Nat} (hF : ∀ k, k < m → ∀ ws, Lw n ws → Lw n (F k ws)) {ws : List Int} (h : Lw n ws) : Lw n (turnN F m ws) := by
  induction m with
  | zero => exact h
  | succ m ih => exact hF m (by omega) _ (ih fun k hk => hF k (by omega))
/-- toggles at 0, 1, .., k - 1 -/
def upL (xs : List Int) (k : Nat) (ws : List Int) : List Int := turnN (fun i a => togL xs a i) k ws
/-- toggles at t - 1, t - 2, .., t - k -/
def downL (xs : List Int) (t k : Nat) (ws : List Int) : List Int := turnN (fun i a => togL xs a (t - 1 - i)) k ws
theorem upL_succ (xs : List Int) (k : Nat) (ws : List Int) : upL xs (k + 1) ws = togL xs (upL xs k ws) k := rfl
theorem downL_succ (xs : List Int) (t k : Nat) (ws : List Int) : downL xs t (k + 1) ws = togL xs (downL xs t k ws) (t - 1 - k) := rfl
theorem Lw.up {n : Nat} {xs : List Int} {k : Nat} (hk : k + 1 ≤ n) {ws : List Int} (h : Lw n ws) : Lw n (upL xs k ws) := h.turn fun i hi a ha => ha.tog (by omega)
theorem Lw.down {n : Nat} {xs : List Int} {t k : Nat} (ht : t + 1 ≤ n) (hk : k ≤ t) {ws : List Int} (h : Lw n ws) : Lw n (downL xs t k ws) := h.turn fun i hi a ha => ha.tog (by omega)
/-- one promotion, and one backwards -/
def pro1 (xs ws : List Int) : List Int := upL xs (xs.length - 1) ws
def orp1 (xs ws : List Int) : List Int := downL xs (xs.length - 1) (xs.length - 1) ws
def proL (xs : List Int) (t : Int) (ws : List Int) : List Int := if t < 0 then turnN (fun _ => orp1 xs) (-t).toNat ws else turnN (fun _ => pro1 xs) t.toNat ws
theorem proL_neg {xs : List Int} {t : Int} (h : t < 0) (ws : List Int) : proL xs t ws = turnN (fun _ => orp1 xs) (-t).toNat ws := if_pos h
theorem proL_nat (xs : List Int) (t : Nat) (ws : List Int) : proL xs t ws = turnN (fun _ => pro1 xs) t ws := by unfold proL; rw [if_neg (by omega)]; rfl
theorem proL_one (xs ws : List Int) : proL xs 1 ws = pro1 xs ws := proL_nat xs 1 ws
def evaL (xs ws : List Int) : List Int := turnN (fun k => upL xs (xs.length - 1 - k)) (xs.length - 1) ws
def coeL (xs ws : List Int) : List Int := turnN (fun k => downL xs (xs.length - 1) (xs.length - 1 - k)) (xs.length - 1) ws
theorem Lw.pro1 {xs : List Int} (h1 : 1 ≤ xs.length) {ws : List Int} (h : Lw xs.length ws) : Lw xs.length (pro1 xs ws) := h.up (by omega)
theorem Lw.orp1 {xs : List Int} (h1 : 1 ≤ xs.length) {ws : List Int} (h : Lw xs.length ws) : Lw xs.length (orp1 xs ws) := h.down (by omega) (Nat.le_refl _)
theorem Lw.pro {xs : List Int} (h1 : 1 ≤ xs.length) {ws : List Int} (t : Int) (h : Lw xs.length ws) : Lw xs.length (proL xs t ws) := by
  unfold proL
  split
  · exact h.turn fun _ _ a ha => ha.orp1 h1
  · exact h.turn fun _ _ a ha => ha.pro1 h1
theorem Lw.eva {xs : List Int} (h1 : 1 ≤ xs.length) {ws : List Int} (h : Lw xs.length ws) : Lw xs.length (evaL xs ws) := h.turn fun k hk a ha => ha.up (by omega)
theorem Lw.coe {xs : List Int} (h1 : 1 ≤ xs.length) {ws : List Int} (h : Lw xs.length ws) : Lw xs.length (coeL xs ws) := h.turn fun k hk a ha => ha.down (by omega) (by omega)
theorem orderB_Lw {xs ys : List Int} (h : orderB xs ys = true) : Lw xs.length ys := ⟨(orderB_word h).1, (orderB_word h).2⟩

/-- a list that is one of a poset's linear extensions -/
def okLin (xs ws : List Int) : Bool := okOrder xs ws
theorem okLin_all {xs ws : List Int} (h : okLin xs ws = true) : good xs = true ∧ orderB xs ws = true := by
  simpa [okLin, okOrder] using h
theorem okLin_Lw {xs ws : List Int} (h : okLin xs ws = true) : Lw xs.length ws := orderB_Lw (okLin_all h).2
end Go.Proofs.Ytpdoheagfjeefaa

/- Counts of what can follow a set in a linear extension; ranks. No program is named here. -/
namespace Go.Proofs.Ytpdoheagfjeefaa
set_option linter.unusedVariables false

theorem or_gt {s e : Nat} (h : s.testBit e = false) : s < s ||| 2 ^ e := by
  have h1 : s ≤ s ||| 2 ^ e := Nat.left_le_or
  rcases Nat.lt_or_ge s (s ||| 2 ^ e) with h2 | h2
  · exact h2
  · have h3 : s ||| 2 ^ e = s := by omega
    have h4 : (s ||| 2 ^ e).testBit e = true := by rw [Nat.testBit_or, Nat.testBit_two_pow_self]; simp
    rw [h3, h] at h4; cases h4
theorem stepP_bit {xs : List Int} {s e : Nat} (h : stepP xs s e = true) : s.testBit e = false := by
  simp only [stepP, Bool.and_eq_true, Bool.not_eq_true'] at h; exact h.1
/-- in how many ways the elements outside of s can follow -/
def ends (xs : List Int) (s : Nat) : Nat :=
  if 2 ^ xs.length - 1 ≤ s then 1 else sumN (fun e => if h : stepP xs s e = true then ends xs (s ||| 2 ^ e) else 0) xs.length
termination_by 2 ^ xs.length - s
decreasing_by have := or_gt (stepP_bit h); omega
def nterm (xs : List Int) (s e : Nat) : Nat := if stepP xs s e = true then ends xs (s ||| 2 ^ e) else 0
theorem ends_top {xs : List Int} {s : Nat} (h : 2 ^ xs.length - 1 ≤ s) : ends xs s = 1 := by rw [ends, if_pos h]
theorem ends_low {xs : List Int} {s : Nat} (h : s < 2 ^ xs.length - 1) : ends xs s = sumN (nterm xs s) xs.length := by
  rw [ends, if_neg (by omega)]; rfl
theorem nterm_no {xs : List Int} {s e : Nat} (h : stepP xs s e = false) : nterm xs s e = 0 := by simp [nterm, h]
theorem nterm_yes {xs : List Int} {s e : Nat} (h : stepP xs s e = true) : nterm xs s e = ends xs (s ||| 2 ^ e) := by simp [nterm, h]
theorem cntB_or {s e n : Nat} (he : e < n) (h : s.testBit e = false) : cntB (s ||| 2 ^ e) n = cntB s n + 1 := by
  have h1 : (s ||| 2 ^ e).testBit e = true := by rw [Nat.testBit_or, Nat.testBit_two_pow_self]; simp
  have h2 := cntB_xor he h1
  have h3 : (s ||| 2 ^ e) ^^^ 2 ^ e = s := by
    rw [or_eq_xor h, Nat.xor_assoc, Nat.xor_self, Nat.xor_zero]
  rw [h3] at h2
  omega
theorem sumN_mono (f : Nat → Nat) {i j : Nat} (h : i ≤ j) : sumN f i ≤ sumN f j := by
  induction j with
  | zero => have : i = 0 := by omega
            subst this; exact Nat.le_refl _
  | succ j ih =>
    by_cases e : i = j + 1
    · subst e; exact Nat.le_refl _
    · simp only [sumN]; have := ih (by omega); omega
theorem ends_pow {xs : List Int} (hl : xs.length ≤ 10) (d : Nat) : ∀ s, 2 ^ xs.length - s ≤ d → ends xs s ≤ 10 ^ (xs.length - cntB s xs.length) := by
  induction d with
  | zero =>
    intro s hd
    rw [ends_top (by omega)]
    exact Nat.one_le_pow _ _ (by decide)
  | succ d ih =>
    intro s hd
    by_cases h : 2 ^ xs.length - 1 ≤ s
    · rw [ends_top h]; exact Nat.one_le_pow _ _ (by decide)
    · rw [ends_low (by omega)]
      by_cases hc : ∃ e, e < xs.length ∧ stepP xs s e = true
      · obtain ⟨e0, he0, hs0⟩ := hc
        have hlt : cntB s xs.length < xs.length := by
          have h1 := cntB_or he0 (stepP_bit hs0)
          have h2 := cntB_le (s ||| 2 ^ e0) xs.length
          omega
        refine Nat.le_trans (sumN_const (c := 10 ^ (xs.length - cntB s xs.length - 1)) ?_) ?_
        · intro e he
          cases hs : stepP xs s e
          · rw [nterm_no hs]; exact Nat.zero_le _
          · rw [nterm_yes hs]
            have h1 := ih (s ||| 2 ^ e) (by have := or_gt (stepP_bit hs); omega)
            rw [cntB_or he (stepP_bit hs)] at h1
            have h2 : xs.length - (cntB s xs.length + 1) = xs.length - cntB s xs.length - 1 := by omega
            rw [h2] at h1
            exact h1
        · have h4 : 10 ^ (xs.length - cntB s xs.length) = 10 ^ (xs.length - cntB s xs.length - 1) * 10 := by rw [← Nat.pow_succ]; congr 1; omega
          rw [h4, Nat.mul_comm]
          exact Nat.mul_le_mul_left _ hl
      · rw [sumN_zero]
        · exact Nat.zero_le _
        · intro e he
          refine nterm_no ?_
          cases hs : stepP xs s e
          · rfl
          · exact absurd ⟨e, he, hs⟩ hc
theorem ends_le {xs : List Int} (hl : xs.length ≤ 10) (s : Nat) : ends xs s ≤ 10000000000 := by
  have h1 := ends_pow hl _ s (Nat.le_refl _)
  have h2 : 10 ^ (xs.length - cntB s xs.length) ≤ 10 ^ 10 := Nat.pow_le_pow_right (by decide) (by omega)
  omega
theorem nterm_le {xs : List Int} (hl : xs.length ≤ 10) (s e : Nat) : nterm xs s e ≤ 10000000000 := by
  unfold nterm; split
  · exact ends_le hl _
  · omega
theorem sumN_nterm_le {xs : List Int} (hl : xs.length ≤ 10) (s : Nat) {k : Nat} (hk : k ≤ xs.length) : sumN (nterm xs s) k ≤ 100000000000 := by
  have h := sumN_const (f := nterm xs s) (k := k) (c := 10000000000) fun e _ => nterm_le hl s e
  have : k * 10000000000 ≤ 10 * 10000000000 := Nat.mul_le_mul_right _ (by omega)
  omega

/-! ### the table while it is filled from above -/
def endG (xs : List Int) (S t : Nat) : Nat := if t < 2 ^ xs.length ∧ S ≤ t then ends xs t else 0
def endP (xs : List Int) (s k t : Nat) : Nat := if t < 2 ^ xs.length ∧ s < t then ends xs t else if t = s then sumN (nterm xs s) k else 0
theorem endP_zero (xs : List Int) (s t : Nat) : endP xs s 0 t = endG xs (s + 1) t := by
  unfold endP endG
  by_cases h : t < 2 ^ xs.length ∧ s < t
  · rw [if_pos h, if_pos (show t < 2 ^ xs.length ∧ s + 1 ≤ t from ⟨h.1, h.2⟩)]
  · rw [if_neg h, if_neg (show ¬(t < 2 ^ xs.length ∧ s + 1 ≤ t) from fun k => h ⟨k.1, k.2⟩)]
    split <;> rfl
theorem endP_full {xs : List Int} {s : Nat} (hs : s < 2 ^ xs.length - 1) (t : Nat) : endP xs s xs.length t = endG xs s t := by
  unfold endP endG
  by_cases h : t < 2 ^ xs.length ∧ s < t
  · rw [if_pos h, if_pos (show t < 2 ^ xs.length ∧ s ≤ t from ⟨h.1, by omega⟩)]
  · rw [if_neg h]
    by_cases e : t = s
    · subst e; rw [if_pos rfl, if_pos (show t < 2 ^ xs.length ∧ t ≤ t from ⟨by omega, Nat.le_refl _⟩), ends_low hs]
    · rw [if_neg e, if_neg (show ¬(t < 2 ^ xs.length ∧ s ≤ t) from fun k => h ⟨k.1, by omega⟩)]
theorem endG_top {xs : List Int} (t : Nat) : endG xs (2 ^ xs.length - 1) t = if t = 2 ^ xs.length - 1 then 1 else 0 := by
  have h1 : 1 ≤ 2 ^ xs.length := Nat.one_le_two_pow
  unfold endG
  by_cases e : t = 2 ^ xs.length - 1
  · rw [if_pos (show t < 2 ^ xs.length ∧ 2 ^ xs.length - 1 ≤ t by omega), if_pos e, ends_top (by omega)]
  · rw [if_neg (show ¬(t < 2 ^ xs.length ∧ 2 ^ xs.length - 1 ≤ t) by omega), if_neg e]
theorem endP_self (xs : List Int) (s k : Nat) : endP xs s k s = sumN (nterm xs s) k := by
  unfold endP; rw [if_neg (by omega), if_pos rfl]
theorem endP_succ (xs : List Int) (s k t : Nat) : endP xs s (k + 1) t = if t = s then endP xs s k s + nterm xs s k else endP xs s k t := by
  by_cases e : t = s
  · subst e; rw [if_pos rfl, endP_self, endP_self]; rfl
  · rw [if_neg e]; unfold endP; rw [if_neg e, if_neg e]
theorem endP_above {xs : List Int} {s k t : Nat} (h1 : t < 2 ^ xs.length) (h2 : s < t) : endP xs s k t = ends xs t := by
  unfold endP; rw [if_pos ⟨h1, h2⟩]
theorem endG_at {xs : List Int} {t : Nat} (h1 : t < 2 ^ xs.length) : endG xs 0 t = ends xs t := by
  unfold endG; rw [if_pos ⟨h1, Nat.zero_le _⟩]

/-! ### the element that a rank picks -/
def pick (f : Nat → Nat) (r : Nat) : Nat → Nat
  | 0 => 0
  | k + 1 => if sumN f k ≤ r then k else pick f r k
theorem pick_eq {f : Nat → Nat} {r e : Nat} (h1 : sumN f e ≤ r) (h2 : r < sumN f (e + 1)) (n : Nat) (he : e < n) : pick f r n = e := by
  induction n with
  | zero => omega
  | succ n ih =>
    unfold pick
    by_cases h : e = n
    · subst h; rw [if_pos h1]
    · rw [if_neg (by have := sumN_mono f (show e + 1 ≤ n by omega); omega)]
      exact ih (by omega)
theorem pick_spec {f : Nat → Nat} {r : Nat} (n : Nat) (h : r < sumN f n) : pick f r n < n ∧ sumN f (pick f r n) ≤ r ∧ r < sumN f (pick f r n + 1) := by
  induction n with
  | zero => simp [sumN] at h
  | succ n ih =>
    unfold pick
    by_cases h1 : sumN f n ≤ r
    · rw [if_pos h1]; exact ⟨by omega, h1, h⟩
    · rw [if_neg h1]
      obtain ⟨a, b, c⟩ := ih (by omega)
      exact ⟨by omega, b, c⟩
/-- the set and what is left of the rank, behind i elements -/
def unS (xs : List Int) (r : Nat) : Nat → Nat × Nat
  | 0 => (0, r)
  | i + 1 =>
    ((unS xs r i).1 ||| 2 ^ pick (nterm xs (unS xs r i).1) (unS xs r i).2 xs.length,
     (unS xs r i).2 - sumN (nterm xs (unS xs r i).1) (pick (nterm xs (unS xs r i).1) (unS xs r i).2 xs.length))
def unE (xs : List Int) (r i : Nat) : Nat := pick (nterm xs (unS xs r i).1) (unS xs r i).2 xs.length
theorem unS_succ (xs : List Int) (r i : Nat) : unS xs r (i + 1) = ((unS xs r i).1 ||| 2 ^ unE xs r i, (unS xs r i).2 - sumN (nterm xs (unS xs r i).1) (unE xs r i)) := rfl
def unrL (xs : List Int) (r : Nat) : List Int := mkL xs.length (unE xs r)
theorem cntB_full {s n : Nat} (h : 2 ^ n - 1 = s) : cntB s n = n := by
  subst h
  unfold cntB
  have : ∀ k, k ≤ n → sumN (fun e => if (2 ^ n - 1).testBit e = true then 1 else 0) k = k := by
    intro k hk
    induction k with
    | zero => rfl
    | succ k ih =>
      simp only [sumN]
      rw [ih (by omega)]
      have : (2 ^ n - 1).testBit k = true := by rw [Nat.testBit_two_pow_sub_one]; simp; omega
      rw [this]; simp
  exact this n (Nat.le_refl _)
/-- what is known of the state behind i elements -/
structure UnOk (xs : List Int) (s q i : Nat) : Prop where
  set : s < 2 ^ xs.length
  cnt : cntB s xs.length = i
  rank : q < ends xs s
theorem UnOk.low {xs : List Int} {s q i : Nat} (h : UnOk xs s q i) (hi : i < xs.length) : s < 2 ^ xs.length - 1 := by
  rcases Nat.lt_or_ge s (2 ^ xs.length - 1) with h1 | h1
  · exact h1
  · have := cntB_full (show 2 ^ xs.length - 1 = s by have := h.set; omega)
    have := h.cnt
    omega
theorem UnOk.step {xs : List Int} {s q i e : Nat} (h : UnOk xs s q i) (hi : i < xs.length) (he : e < xs.length) (h1 : sumN (nterm xs s) e ≤ q) (h2 : q < sumN (nterm xs s) (e + 1)) :
    stepP xs s e = true ∧ UnOk xs (s ||| 2 ^ e) (q - sumN (nterm xs s) e) (i + 1) := by
  simp only [sumN] at h2
  have hp : stepP xs s e = true := by
    cases hs : stepP xs s e
    · rw [nterm_no hs] at h2; omega
    · rfl
  rw [nterm_yes hp] at h2
  exact ⟨hp, Nat.or_lt_two_pow h.set (pow_lt_len he), by rw [cntB_or he (stepP_bit hp), h.cnt], by omega⟩
theorem UnOk.pick {xs : List Int} {s q i : Nat} (h : UnOk xs s q i) (hi : i < xs.length) : pick (nterm xs s) q xs.length < xs.length ∧ sumN (nterm xs s) (pick (nterm xs s) q xs.length) ≤ q ∧ q < sumN (nterm xs s) (pick (nterm xs s) q xs.length + 1) := by
  refine pick_spec _ ?_
  rw [← ends_low (h.low hi)]
  exact h.rank
theorem cntB_zero (n : Nat) : cntB 0 n = 0 := sumN_zero fun e _ => by simp
theorem unS_ok {xs : List Int} {r : Nat} (hr : r < ends xs 0) (i : Nat) (hi : i ≤ xs.length) : UnOk xs (unS xs r i).1 (unS xs r i).2 i := by
  induction i with
  | zero => exact ⟨Nat.two_pow_pos _, cntB_zero _, hr⟩
  | succ i ih =>
    have h := ih (by omega)
    obtain ⟨a, b, c⟩ := h.pick (by omega)
    rw [unS_succ]
    exact (h.step (by omega) a b c).2
theorem unE_lt {xs : List Int} {r : Nat} (hr : r < ends xs 0) {i : Nat} (hi : i < xs.length) : unE xs r i < xs.length := ((unS_ok hr i (by omega)).pick hi).1

/-! ### the rank of a list -/
def rkS (xs ws : List Int) : Nat → Nat × Nat
  | 0 => (0, 0)
  | i + 1 => ((rkS xs ws i).1 + sumN (nterm xs (rkS xs ws i).2) (ws.getD i 0).toNat, (rkS xs ws i).2 ||| 2 ^ (ws.getD i 0).toNat)
def rankN (xs ws : List Int) : Nat := (rkS xs ws ws.length).1
theorem rkS_le {xs ws : List Int} (hl : xs.length ≤ 10) (h : Lw xs.length ws) (i : Nat) (hi : i ≤ ws.length) : (rkS xs ws i).1 ≤ 100000000000 * i ∧ (rkS xs ws i).2 < 2 ^ xs.length := by
  induction i with
  | zero => exact ⟨Nat.zero_le _, Nat.two_pow_pos _⟩
  | succ i ih =>
    obtain ⟨h1, h2⟩ := ih (by omega)
    have h3 := h.at (j := i) (by rw [← h.len]; omega)
    have h4 : (ws.getD i 0).toNat < xs.length := by omega
    have h5 := sumN_nterm_le hl (rkS xs ws i).2 (Nat.le_of_lt h4)
    simp only [rkS]
    exact ⟨by omega, Nat.or_lt_two_pow h2 (pow_lt_len h4)⟩
end Go.Proofs.Ytpdoheagfjeefaa

/- Is a list a linear extension, in the model. -/
namespace Go.Proofs.Ytpdoheagfjeefaa
open Go.RowKit Go.WideShapes Go.ChangeShapes
set_option linter.unusedVariables false

theorem ret_vbL {u : Value} {a b : Bool} (h : a = b) : Ending.returned (.tuple #[u, .bool a]) = .returned (.tuple #[u, .bool b]) := by rw [h]
theorem l1OwnL_any (v : Value) (xs : List Int) (w : World) (hv : Ints w v xs) (hl : xs.length ≤ 1048576) :
    Calls Try.prog 82 #[v] w fun (r : Ending) w' => ∃ u, r = Ending.returned u ∧ OwnI 3 w' w.heap.size u xs ∧ Below w.heap.size w w' := by
  have HV := hid hv
  clear hv
  go_enter Try.func82, Try.ntmps82
  go_wp2_with (at_builtin; refine wpList_append_ints rfl _ _ 24 3 rfl Try.underlying24 Try.info3 w.heap.size _ [] rfl (OwnI.empty 3 w) _ xs rfl (HV.out.alloc _) (by simpa using hl) (by simp) ?_; rintro u w1 ho hb)
  go_ret
  exact ⟨_, rfl, by simpa using ho, (below_alloc (Below.refl _ w) _).trans hb⟩
theorem l1All_Q (v : Value) (ys : List Int) (n : Nat) (w : World) (hv : Ints w v ys) (hl : ys.length ≤ 1048576) (hn : n ≤ 1048576) :
    Calls Try.prog 158 #[v, .int .i64 0, .int .i64 ((n : Int) - 1)] w fun r w' => r = .returned (.bool (inW n ys)) ∧ Below w.heap.size w w' := l1All_any v ys n w hv hl hn
theorem liIs_any (v u : Value) (xs ys : List Int) (w : World) (hv : Ints w v xs) (hu : Ints w u ys) (hg : good xs = true) (hm : ys.length ≤ 1048576) :
    Calls Try.prog 134 #[.agg #[v], u] w fun r w' => r = .returned (.bool (orderB xs ys)) ∧ Below w.heap.size w w' := by
  have HU := hid hu
  have HG := hid hg
  have hl10 := (good_length hg).2
  obtain ⟨A, c, rfl, hA⟩ := hv
  have HA := hid hA
  obtain ⟨A2, c2, rfl, hA2⟩ := hu
  have HA2 := hid hA2
  clear hA hA2 hg
  by_cases hlen : ys.length = xs.length
  · have HL := hid hlen
    have hne : ((ys.length : Int) != (xs.length : Int)) = false := by rw [bne_eq_false_iff_eq, hlen]
    have HLe := hid (show ((ys.length : Int) - 1) = ((xs.length : Int) - 1) by rw [hlen])
    clear hlen
    go_enter Try.func134, Try.ntmps134
    have HB := hid (below_alloc (Below.refl _ w) (.cells #[(.slice A xs.length c)] 26))
    have A0 := hid (At.newAt w (.slice A xs.length c) 26 w.heap.size (by simp))
    have ebox0 := A0.out.1
    go_wp2_with fail
    clear ebox0
    rw [HLe.out]
    refine (l1All_any _ ys xs.length _ (HU.out.below HB.out) hm (by omega)).mono ?_
    rintro e w' ⟨rfl, hb⟩
    replace HB := hid (below_to HB.out hb)
    replace A0 := hid (A0.out.below hb)
    clear hb
    cases hq : inW xs.length ys
    · have HO := hid (orderB_in hq)
      clear hq
      go_wp2
      go_ret
      exact ⟨ret_bool HO.out.symm, HB.out⟩
    · have HQ := hid hq
      clear hq hne
      have ebox0 := A0.out.1
      go_wp2
      go_loop [5, 24] (fun q i => ∃ k m : Nat, k ≤ ys.length ∧ i = .int .i64 k ∧ q = .int .i64 m ∧ Hid (ordSt xs ys k = some m)) (fun _ i => ys.length - (intOf i).toNat)
      case atStart => exact ⟨0, 0, Nat.zero_le _, rfl, rfl, hid rfl⟩
      case round =>
        obtain ⟨k, m, hk, rfl, rfl, HS⟩ := hrel
        by_cases hlt : k < ys.length
        · obtain ⟨b2, o2, rfl, hbl2, hc2⟩ := HA2.out (by intro h; simp [h] at hlt)
          have hc2' : w'.cell? ⟨b2, o2 + k, none⟩ = some (.int .i64 (ys.getD k 0)) := (HB.out.cell (p := ⟨b2, o2 + k, none⟩) hbl2).trans (hc2 k hlt)
          have hin := inW_at HQ.out hlt
          have hm2 := (ordSt_lt k m HS.out).1
          obtain ⟨y, hy⟩ : ∃ y, ys.getD k 0 = y := ⟨_, rfl⟩
          rw [hy] at hc2' hin
          obtain ⟨e, rfl⟩ := Int.eq_ofNat_of_zero_le hin.1
          have he : e < xs.length := by omega
          have HY := hid hy
          have hm10 := lt1024 hm2 hl10
          clear hc2 hy hm2
          cases hbit : m.testBit e
          · have HBit := hid hbit
            obtain ⟨b, o, rfl, hbl, hc⟩ := HA.out (by intro h; simp [h] at he)
            have hc' : w'.cell? ⟨b, o + e, none⟩ = some (.int .i64 (xs.getD e 0)) := (HB.out.cell (p := ⟨b, o + e, none⟩) hbl).trans (hc e he)
            have hr := row_lt HG.out he
            have hr10 := row_lt10 HG.out he
            obtain ⟨z, hz⟩ : ∃ z, row xs e = z := ⟨_, rfl⟩
            rw [hz] at hr hr10
            rw [hr.1] at hc'
            have HZ := hid hz
            have han := i64_andNot_nat z m (by omega) (by omega)
            have wp := wrap_pow' e (by omega)
            have hor := or_pow m e hm10 (by omega)
            clear hc hz hr hbit
            by_cases h0 : sub z m = 0
            · have hs' : (((sub z m : Nat) : Int) != 0) = false := by rw [h0]; rfl
              have HP := hid (ordSt_yes HS.out (by rw [HY.out]; exact ordP_yes he HBit.out HZ.out h0))
              clear h0
              go_wp2_with (go_at_call 135; refine (poIn_any m e (by omega) _).mono ?_; rw [HBit.out]; rintro e' w2 ⟨rfl, rfl⟩)
              go_round
              case rel => exact ⟨k + 1, _, by omega, by go_num, rfl, hid (by rw [HP.out, HY.out]; rfl)⟩
              case measure => simp [intOf]; omega
            · have hs' : (((sub z m : Nat) : Int) != 0) = true := by rw [bne_iff_ne]; omega
              have HP := hid (orderB_no HS.out hlt (by rw [HY.out]; exact ordP_row HZ.out h0))
              clear h0
              go_wp2_with (go_at_call 135; refine (poIn_any m e (by omega) _).mono ?_; rw [HBit.out]; rintro e' w2 ⟨rfl, rfl⟩)
              go_ret
              exact ⟨ret_bool HP.out.symm, HB.out⟩
          · have HBit := hid hbit
            have HP := hid (orderB_no HS.out hlt (by rw [HY.out]; exact ordP_bit hbit))
            clear hbit
            go_wp2_with (go_at_call 135; refine (poIn_any m e (by omega) _).mono ?_; rw [HBit.out]; rintro e' w2 ⟨rfl, rfl⟩)
            go_ret
            exact ⟨ret_bool HP.out.symm, HB.out⟩
        · obtain rfl : k = ys.length := by omega
          have HP := hid (orderB_yes HL.out HS.out)
          go_wp2
          go_ret
          exact ⟨ret_bool HP.out.symm, HB.out⟩
  · have HO := hid (orderB_len hlen)
    have hne : ((ys.length : Int) != (xs.length : Int)) = true := by rw [bne_iff_ne]; omega
    clear hlen
    go_enter Try.func134, Try.ntmps134
    have HB := hid (below_alloc (Below.refl _ w) (.cells #[(.slice A xs.length c)] 26))
    have A0 := hid (At.newAt w (.slice A xs.length c) 26 w.heap.size (by simp))
    go_wp2
    go_ret
    exact ⟨ret_bool HO.out.symm, HB.out⟩
end Go.Proofs.Ytpdoheagfjeefaa
