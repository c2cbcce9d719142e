/- Tableaux of linear extensions: the place of an element, and the program's side. -/
import Derived.Test.YtbbkoagjplapkaaGrdOf
namespace Go.Proofs.Ytbbkoagjplapkaa
open Go.RowKit Go.WideShapes Go.ChangeShapes
set_option linter.unusedVariables false

/-- the first place below k at which x stands, or -1 -/
def idxG (ws : List Int) (x : Int) : Nat → Int
  | 0 => -1
  | k + 1 => if idxG ws x k = -1 then (if ws.getD k 0 = x then (k : Int) else -1) else idxG ws x k
theorem idxG_none {ws : List Int} {x : Int} {k : Nat} (h : ∀ j, j < k → ws.getD j 0 ≠ x) : idxG ws x k = -1 := by
  induction k with
  | zero => rfl
  | succ k ih => unfold idxG; rw [ih (fun j hj => h j (by omega)), if_pos rfl, if_neg (h k (by omega))]
theorem idxG_at {ws : List Int} {x : Int} {k : Nat} (h : ∀ j, j < k → ws.getD j 0 ≠ x) (hk : ws.getD k 0 = x) {m : Nat} (hm : k < m) : idxG ws x m = k := by
  induction m with
  | zero => omega
  | succ m ih =>
    unfold idxG
    by_cases e : k = m
    · subst e; rw [idxG_none h, if_pos rfl, if_pos hk]
    · rw [ih (by omega), if_neg (by omega)]
theorem LinX.idx {xs ws : List Int} (h : LinX xs ws) {j : Nat} (hj : j < xs.length) : idxG ws (wN ws j : Nat) ws.length = j := by
  have h1 := h.rng j hj
  refine idxG_at (fun i hi => ?_) h1.1 (by rw [h.len]; exact hj)
  have h2 := h.rng i (by omega)
  have h3 := h.ne hi hj
  omega
/-- the numbers of a linear extension's tableau -/
def tofF (b : Nat) (ws : List Int) (r c : Nat) : Int := idxG ws ((b * r + c : Nat) : Int) ws.length
def okTO (a b : Int) (ws : List Int) : Bool := sides a b && orderB (rectL a b) ws
def ansTO (a b : Int) (ws : List Int) : List (List Int) := if okTO a b ws then gridL a.toNat b.toNat (tofF b.toNat ws) else []
theorem okTO_no1 {a b : Int} {ws : List Int} (h : sides a b = false) : okTO a b ws = false := by simp [okTO, h]
theorem okTO_no2 {a b : Int} {ws : List Int} (h : orderB (rectL a b) ws = false) : okTO a b ws = false := by simp [okTO, h]
theorem okTO_yes {a b : Int} {ws : List Int} (h : sides a b = true) (k : orderB (rectL a b) ws = true) : okTO a b ws = true := by simp [okTO, h, k]
theorem ansTO_no {a b : Int} {ws : List Int} (h : okTO a b ws = false) : ansTO a b ws = [] := by simp [ansTO, h]
theorem ansTO_yes {x y : Nat} {ws : List Int} (h : okTO x y ws = true) : ansTO x y ws = gridL x y (tofF y ws) := by simp [ansTO, h]
theorem ansTO_small (a b : Int) (ws : List Int) : SSmall (ansTO a b ws) := by
  cases h : okTO a b ws
  · rw [ansTO_no h]; exact ⟨by simp, by simp, by simp [offL]⟩
  · have h1 : sides a b = true := by simp only [okTO, Bool.and_eq_true] at h; exact h.1
    obtain ⟨x, y, rfl, rfl, h2, h3, h4, h5, h6⟩ := sides_nat h1
    rw [ansTO_yes h]
    exact gridL_small _ h3 h5
/-- the cells by number -/
theorem tof_cel {x y : Nat} {ws : List Int} {e : Nat} (he : e < x * y) (hy : 0 < y) : celF (gridL x y (tofF y ws)) y e = idxG ws (e : Int) ws.length := by
  have hr : e / y < x := by rw [Nat.div_lt_iff_lt_mul hy]; exact he
  have hc : e % y < y := Nat.mod_lt _ hy
  unfold celF
  rw [gridL_cel hr hc]
  unfold tofF
  rw [Nat.div_add_mod]
theorem tof_X {x y : Nat} {ws : List Int} (hy : 0 < y) (h : LinX (whereL (rectF y) (x * y)) ws) : TabX x y (fun e => idxG ws (e : Int) ws.length) := by
  have hlen := h.len
  rw [rect_len] at hlen
  have hat : ∀ e, e < x * y → ∃ j, j < x * y ∧ wN ws j = e ∧ idxG ws (e : Int) ws.length = j := fun e he => by
    obtain ⟨j, hj, hj2⟩ := h.surj (e := e) (by rw [rect_len]; exact he)
    rw [rect_len] at hj
    refine ⟨j, hj, hj2, ?_⟩
    have := h.idx (j := j) (by rw [rect_len]; exact hj)
    rw [hj2] at this; exact this
  have hmono : ∀ j e, e < x * y → j < e → rectF y j e = true → idxG ws (j : Int) ws.length < idxG ws (e : Int) ws.length := by
    intro j e he hj hr
    obtain ⟨p, hp, hp2, hp3⟩ := hat e he
    obtain ⟨q, hq, hq2, hq3⟩ := hat j (by omega)
    obtain ⟨i, hi, hi2⟩ := h.before (k := p) (j := j) (by rw [rect_len]; exact hp) (by rw [hp2, rect_bit he, hr]; simp [hj])
    have : i = q := by
      rcases Nat.lt_trichotomy i q with h1 | h1 | h1
      · exact absurd (by rw [hi2, hq2]) (h.ne h1 (by rw [rect_len]; exact hq))
      · exact h1
      · exact absurd (by rw [hi2, hq2]) (h.ne h1 (by rw [rect_len]; omega))
    omega
  refine tabX_of hy (fun e he => ?_) (fun e he => ?_) (fun e he h1 => ?_) (fun e he h1 => ?_)
  · obtain ⟨p, hp, -, hp3⟩ := hat e he
    show 0 ≤ idxG ws (e : Int) ws.length ∧ idxG ws (e : Int) ws.length < (x * y : Nat)
    rw [hp3]; omega
  · cases hs : (seeN (fun e => idxG ws (e : Int) ws.length) e).testBit (idxG ws (e : Int) ws.length).toNat
    · rfl
    · obtain ⟨j, hj, hj2⟩ := (seeN_bit _ e _).1 hs
      obtain ⟨p, hp, hp2, hp3⟩ := hat e he
      obtain ⟨q, hq, hq2, hq3⟩ := hat j (by omega)
      rw [hp3] at hj2
      have hj3 : (idxG ws (j : Int) ws.length).toNat = ((p : Nat) : Int).toNat := hj2
      rw [hq3] at hj3
      have : p = q := by omega
      subst this
      omega
  · have hp : 0 < e := by
      rcases Nat.eq_zero_or_pos e with h00 | h00
      · subst h00; simp at h1
      · exact h00
    exact hmono (e - 1) e he (by omega) (rectF_left hy h1)
  · exact hmono (e - y) e he (by omega) (rectF_up hy h1)
theorem tabX_congr {a b : Nat} {f g : Nat → Int} (h : TabX a b f) (e : ∀ i, i < a * b → f i = g i) : TabX a b g := by
  have hp : ∀ k, k ≤ a * b → plc f (a * b) k = plc g (a * b) k := by
    intro k
    induction k with
    | zero => intro _; rfl
    | succ k ih => intro hk; unfold plc; rw [ih (by omega), e k (by omega)]
  refine ⟨fun i hi => by rw [← e i hi]; exact h.rng i hi, ?_⟩
  rw [← hp _ (Nat.le_refl _)]; exact h.lin
theorem tof_tab {x y : Nat} {ws : List Int} (hs : sides x y = true) (h : orderB (rectL x y) ws = true) : tabB (gridL x y (tofF y ws)) = true := by
  obtain ⟨x', y', e1, e2, h1, h2, h3, h4, h5⟩ := sides_nat hs
  obtain rfl : x = x' := by omega
  obtain rfl : y = y' := by omega
  rw [rectL_yes hs] at h
  have hl := gridL_length x y (tofF y ws)
  have hw := gridL_wid (b := y) (F := tofF y ws) (show 0 < x by omega)
  have hsh : shapeB (gridL x y (tofF y ws)) = true := shapeB_yes (by rw [hl, hw]; exact hs) (fun r hr => by rw [hl] at hr; rw [hw, gridL_getD hr, rowL_length])
  rw [tabB_yes hsh, hl, hw]
  exact (tabX_congr (tof_X (by omega) (orderB_LinX h)) (fun e he => (tof_cel he (by omega)).symm)).yes

/-! ### the program's side -/
theorem indexI_any (u : Value) (ws : List Int) (x : Int) (w : World) (hu : Ints w u ws) (hm : ws.length ≤ 1048576) :
    Calls Try.prog 59 #[u, .int .i64 x] w fun r w' => r = .returned (.int .i64 (idxG ws x ws.length)) ∧ w = w' := by
  obtain ⟨A, c, rfl, hA⟩ := hu
  have HA := hid hA
  clear hA
  go_enter Try.func59, Try.ntmps59
  go_wp2
  go_loop [8] (fun i => ∃ k : Nat, k ≤ ws.length ∧ i = .int .i64 k ∧ Hid (∀ j, j < k → ws.getD j 0 ≠ x)) (fun i => ws.length - (intOf i).toNat)
  case atStart => exact ⟨0, Nat.zero_le _, rfl, hid (fun j hj => absurd hj (Nat.not_lt_zero _))⟩
  case round =>
    obtain ⟨k, hk, rfl, Hk⟩ := hrel
    by_cases hlt : k < ws.length
    · obtain ⟨b, o, rfl, hbl, hc⟩ := HA.out (by intro h; simp [h] at hlt)
      have hcell := hc k hlt
      have HAt := hid (fun h => idxG_at (x := x) Hk.out h hlt)
      have HNx : Hid (ws.getD k 0 ≠ x → ∀ j, j < k + 1 → ws.getD j 0 ≠ x) := hid (fun h j hj => by
        by_cases e : j = k
        · subst e; exact h
        · exact Hk.out j (by omega))
      obtain ⟨y, hy⟩ : ∃ y, ws.getD k 0 = y := ⟨_, rfl⟩
      rw [hy] at hcell HAt HNx
      clear hc hy
      by_cases e : y = x
      · subst e
        have HE := hid (HAt.out rfl)
        have heq : (y == y) = true := by simp
        clear HAt HNx
        go_wp2
        go_ret
        exact ⟨ret_int HE.out.symm, rfl⟩
      · have HE := hid (HNx.out e)
        have heq : (x == y) = false := by rw [beq_eq_false_iff_ne]; exact fun h => e h.symm
        have hne : ¬ x = y := fun h => e h.symm
        go_wp2
        go_round
        case rel => exact ⟨k + 1, by omega, by go_num, HE⟩
        case measure => simp [intOf]; omega
    · have Hk2 := hid (show k = ws.length by omega)
      have hlt' : ¬ (k : Int) < (ws.length : Int) := by omega
      have HN := hid (idxG_none Hk.out)
      rw [Hk2.out] at HN
      clear hlt
      go_wp2
      go_ret
      exact ⟨ret_int HN.out.symm, rfl⟩
theorem tofClo (p1 p2 : Nat) (u : Value) (ws : List Int) (a b : Nat) (W : World) (h1 : At W p1 u) (h2 : At W p2 (.int .i64 (b : Int))) (hu : Ints W u ws) (hm : ws.length ≤ 1048576) (ha : a ≤ 10) (hb' : b ≤ 10) :
    FunG 58 #[.pointer (some ⟨p1, 0, none⟩), .pointer (some ⟨p2, 0, none⟩)] a b (tofF b ws) W := by
  refine ⟨fun w r c hb hr hc => ?_⟩
  show Calls Try.prog 58 #[.int .i64 (r : Int), .int .i64 (c : Int), .pointer (some ⟨p1, 0, none⟩), .pointer (some ⟨p2, 0, none⟩)] w fun res w' => res = .returned (.int .i64 (tofF b ws r c)) ∧ Below w.heap.size w w'
  have t1 := (h1.below hb).1
  have t2 := (h2.below hb).1
  have hb10 : b * r ≤ 10 * 10 := Nat.mul_le_mul hb' (by omega)
  have HT : Hid (tofF b ws r c = idxG ws ((b * r + c : Nat) : Int) ws.length) := hid rfl
  obtain ⟨q, hq⟩ : ∃ q, b * r = q := ⟨_, rfl⟩
  have e1 : (b : Int) * (r : Int) = (q : Int) := by rw [← Int.natCast_mul, hq]
  rw [hq] at hb10 HT
  obtain ⟨e, he⟩ : ∃ e, q + c = e := ⟨_, rfl⟩
  have e2 : (q : Int) + (c : Int) = (e : Int) := by omega
  rw [he] at HT
  have HI := hid (indexI_any u ws (e : Int) w (hu.below hb) hm)
  obtain ⟨uA, uc, rfl, -⟩ := hu
  clear h1 h2 hb hq he
  go_enter Try.func58, Try.ntmps58
  go_wp2_with (go_at_call 59; refine HI.out.mono ?_; rintro e' w' ⟨rfl, rfl⟩)
  go_ret
  exact ⟨ret_int HT.out.symm, Below.refl _ _⟩
end Go.Proofs.Ytbbkoagjplapkaa
