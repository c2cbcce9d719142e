/- Labels of a poset: what they are, in the program and in the model. -/
import Derived.Test.YtgepbekdgocnpabTg
import Derived.Test.YtgepbekdgocnpabHeights
namespace Go.Proofs.Ytgepbekdgocnpab
open Go.RowKit Go.WideShapes Go.ChangeShapes
set_option linter.unusedVariables false

/-- the least label of e by the first k elements -/
def leN (xs f : List Int) (e : Nat) (g : Int) : Nat → Int
  | 0 => 0
  | k + 1 => if (xs.getD e 0).toNat.testBit k then max (leN xs f e g k) (f.getD k 0 + g) else leN xs f e g k
theorem leN_le {xs f : List Int} {e : Nat} {g : Int} {k : Nat} {x : Int} : leN xs f e g k ≤ x ↔ 0 ≤ x ∧ ∀ j, j < k → (xs.getD e 0).toNat.testBit j = true → f.getD j 0 + g ≤ x := by
  induction k with
  | zero => simp [leN]
  | succ k ih =>
    rw [leN]
    by_cases hb : (xs.getD e 0).toNat.testBit k = true
    · rw [if_pos hb, Int.max_le, ih]
      constructor
      · rintro ⟨⟨h1, h2⟩, h3⟩
        refine ⟨h1, fun j hj hbj => ?_⟩
        by_cases e : j = k
        · subst e; exact h3
        · exact h2 j (by omega) hbj
      · rintro ⟨h1, h2⟩
        exact ⟨⟨h1, fun j hj => h2 j (by omega)⟩, h2 k (by omega) hb⟩
    · rw [if_neg hb, ih]
      constructor
      · rintro ⟨h1, h2⟩
        refine ⟨h1, fun j hj hbj => ?_⟩
        by_cases e : j = k
        · subst e; exact absurd hbj hb
        · exact h2 j (by omega) hbj
      · rintro ⟨h1, h2⟩
        exact ⟨h1, fun j hj => h2 j (by omega)⟩
theorem leN_zero_le (xs f : List Int) (e : Nat) (g : Int) (k : Nat) : 0 ≤ leN xs f e g k := (leN_le.1 (Int.le_refl _)).1
theorem leN_rng {xs f : List Int} {e : Nat} {g : Int} {k : Nat} (hr : ∀ j, j < k → 0 ≤ f.getD j 0 ∧ f.getD j 0 ≤ 12) (g0 : 0 ≤ g) (g1 : g ≤ 1) : 0 ≤ leN xs f e g k ∧ leN xs f e g k ≤ 13 :=
  ⟨leN_zero_le _ _ _ _ _, leN_le.2 ⟨by omega, fun j hj _ => by have := hr j hj; omega⟩⟩
def labAt (xs f : List Int) (m g : Int) (e : Nat) : Bool := decide (f.getD e 0 ≤ m) && decide (leN xs f e g e ≤ f.getD e 0)
/-- are the numbers labels up to m, each by g greater than those of the elements that are less? -/
def labB (xs f : List Int) (m g : Int) : Bool := decide (f.length = xs.length) && (List.range f.length).all (labAt xs f m g)
theorem labAt_iff {xs f : List Int} {m g : Int} {e : Nat} : labAt xs f m g e = true ↔ f.getD e 0 ≤ m ∧ leN xs f e g e ≤ f.getD e 0 := by simp [labAt]
theorem labAt_rng {xs f : List Int} {m g : Int} {e : Nat} (h : labAt xs f m g e = true) (m1 : m ≤ 12) : 0 ≤ f.getD e 0 ∧ f.getD e 0 ≤ 12 := by
  obtain ⟨h1, h2⟩ := labAt_iff.1 h
  have := leN_zero_le xs f e g e
  omega
theorem labB_len {xs f : List Int} {m g : Int} (h : f.length ≠ xs.length) : labB xs f m g = false := by simp [labB, h]
theorem labB_no {xs f : List Int} {m g : Int} {e : Nat} (he : e < f.length) (h : labAt xs f m g e = false) : labB xs f m g = false := by
  cases hc : labB xs f m g
  · rfl
  · simp only [labB, Bool.and_eq_true] at hc
    have := List.all_eq_true.1 hc.2 e (List.mem_range.2 he)
    rw [h] at this; cases this
theorem labB_yes {xs f : List Int} {m g : Int} (hl : f.length = xs.length) (h : ∀ e, e < f.length → labAt xs f m g e = true) : labB xs f m g = true := by
  simp only [labB, Bool.and_eq_true, decide_eq_true_eq]
  exact ⟨hl, List.all_eq_true.2 fun e he => h e (List.mem_range.1 he)⟩
theorem labB_all {xs f : List Int} {m g : Int} (h : labB xs f m g = true) : f.length = xs.length ∧ ∀ e, e < f.length → labAt xs f m g e = true := by
  simp only [labB, Bool.and_eq_true, decide_eq_true_eq] at h
  exact ⟨h.1, fun e he => List.all_eq_true.1 h.2 e (List.mem_range.2 he)⟩
/-- is m a bound of labels? -/
def bdB (m : Int) : Bool := decide (0 ≤ m) && decide (m ≤ 12)
theorem bdB_all {m : Int} (h : bdB m = true) : 0 ≤ m ∧ m ≤ 12 := by simpa [bdB] using h
def okBd (xs : List Int) (m : Int) : Bool := good xs && bdB m
theorem okBd_no1 {xs : List Int} {m : Int} (h : good xs = false) : okBd xs m = false := by simp [okBd, h]
theorem okBd_no2 {xs : List Int} {m : Int} (h : bdB m = false) : okBd xs m = false := by simp [okBd, h]
theorem okBd_yes {xs : List Int} {m : Int} (h : good xs = true) (k : bdB m = true) : okBd xs m = true := by simp [okBd, h, k]
theorem okBd_all {xs : List Int} {m : Int} (h : okBd xs m = true) : good xs = true ∧ 0 ≤ m ∧ m ≤ 12 := by
  simp only [okBd, Bool.and_eq_true] at h
  exact ⟨h.1, bdB_all h.2⟩
/-- is f a list of labels for m? -/
def okLab (xs f : List Int) (m g : Int) : Bool := okBd xs m && labB xs f m g
theorem okLab_no1 {xs f : List Int} {m g : Int} (h : okBd xs m = false) : okLab xs f m g = false := by simp [okLab, h]
theorem okLab_yes {xs f : List Int} {m g : Int} (h : okBd xs m = true) : okLab xs f m g = labB xs f m g := by simp [okLab, h]
theorem okLab_all {xs f : List Int} {m g : Int} (h : okLab xs f m g = true) : good xs = true ∧ 0 ≤ m ∧ m ≤ 12 ∧ f.length = xs.length ∧ ∀ e, e < f.length → labAt xs f m g e = true := by
  simp only [okLab, Bool.and_eq_true] at h
  have h1 := okBd_all h.1
  have h2 := labB_all h.2
  exact ⟨h1.1, h1.2.1, h1.2.2, h2.1, h2.2⟩

theorem leastLabel_any (v u : Value) (xs f : List Int) (e : Nat) (g : Int) (w : World) (hv : Ints w v xs) (hu : Ints w u f) (hg : good xs = true) (he : e < xs.length) (hf : e ≤ f.length) (hr : ∀ j, j < e → 0 ≤ f.getD j 0 ∧ f.getD j 0 ≤ 12) (g0 : 0 ≤ g) (g1 : g ≤ 1) :
    Calls Try.prog 71 #[.agg #[v], u, .int .i64 e, .int .i64 g] w fun r w' => r = .returned (.int .i64 (leN xs f e g e)) ∧ Below w.heap.size w w' := by
  obtain ⟨A, c, rfl, hA⟩ := hv
  obtain ⟨B, d, rfl, hB⟩ := hu
  obtain ⟨b, o, rfl, hbl, hc⟩ := hA (by intro h; rw [h] at he; simp at he)
  have hcell := hc e he
  have hok := okAt_small (good_at hg he) (by have := (good_length hg).2; omega)
  have hl10 := (good_length hg).2
  obtain ⟨z0, hz0⟩ : ∃ z, xs.getD e 0 = z := ⟨_, rfl⟩
  rw [hz0] at hcell hok
  obtain ⟨z, rfl⟩ := Int.eq_ofNat_of_zero_le hok.1
  have HZ := hid hz0
  have HB := hid hB
  have HR := hid hr
  clear hA hB hc hg hz0 hr
  go_enter Try.func71, Try.ntmps71
  go_wp2
  go_loop [9, 12] (fun q i => ∃ (k : Nat) (t : Int), k ≤ e ∧ i = .int .i64 k ∧ q = .int .i64 t ∧ Hid (leN xs f e g k = t)) (fun _ i => e - (intOf i).toNat)
  case atStart => exact ⟨0, 0, Nat.zero_le _, rfl, rfl, hid rfl⟩
  case round =>
    obtain ⟨k, t, hk, rfl, rfl, HT⟩ := hrel
    by_cases hlt : k < e
    · obtain ⟨b2, o2, rfl, hbl2, hc2⟩ := HB.out (by intro h; simp [h] at hf; omega)
      have hcell2 := hc2 k (by omega)
      have hx := HR.out k hlt
      obtain ⟨x, hxe⟩ : ∃ x, f.getD k 0 = x := ⟨_, rfl⟩
      rw [hxe] at hcell2 hx
      have ht : 0 ≤ t ∧ t ≤ 13 := by rw [← HT.out]; exact leN_rng (fun j hj => HR.out j (by omega)) g0 g1
      clear hc2
      cases hbit : z.testBit k
      · have HS : Hid (leN xs f e g (k + 1) = t) := hid (by rw [leN, HZ.out, Int.toNat_natCast, hbit, if_neg (by simp)]; exact HT.out)
        have Hbit := hid hbit
        clear hbit hxe
        go_wp2_with (go_at_call 41; refine (hasElement_any z k (by omega) (by omega) _).mono ?_; rw [Hbit.out]; rintro e w' ⟨rfl, rfl⟩)
        go_round
        case rel => exact ⟨k + 1, t, by omega, by go_num, rfl, HS⟩
        case measure => simp [intOf]; omega
      · have HS : Hid (leN xs f e g (k + 1) = max t (x + g)) := hid (by rw [leN, HZ.out, Int.toNat_natCast, hbit, if_pos rfl, HT.out, hxe])
        have Hbit := hid hbit
        have hw : IntKind.i64.wrap (x + g) = x + g := IntWalk.i64_in _ (by omega)
        clear hbit hxe
        go_wp2_with (go_at_call 41; refine (hasElement_any z k (by omega) (by omega) _).mono ?_; rw [Hbit.out]; rintro e w' ⟨rfl, rfl⟩)
        go_round
        case rel => exact ⟨k + 1, _, by omega, by go_num, rfl, hid (by rw [HS.out]; first | rfl | (rw [max_if]) | (simp only [max_if]) | (have := max_if t (x + g); omega))⟩
        case measure => simp [intOf]; omega
    · obtain rfl : k = e := by omega
      go_wp2
      go_ret
      exact ⟨ret_int HT.out.symm, (Below.refl _ _).alloc (Nat.le_refl _) _⟩
set_option maxHeartbeats 400000 in
theorem holdsLabels_any (v u : Value) (xs f : List Int) (m g : Int) (w : World) (hv : Ints w v xs) (hu : Ints w u f) (hg : good xs = true) (hl : f.length ≤ 1048576) (m0 : 0 ≤ m) (m1 : m ≤ 12) (g0 : 0 ≤ g) (g1 : g ≤ 1) :
    Calls Try.prog 78 #[.agg #[v], u, .int .i64 m, .int .i64 g] w fun r w' => r = .returned (.bool (labB xs f m g)) ∧ Below w.heap.size w w' := by
  have HV := hid hv
  have HU := hid hu
  have HG := hid hg
  obtain ⟨A, c, rfl, hA⟩ := hv
  obtain ⟨B, d, rfl, hB⟩ := hu
  have HC := hid hB
  clear hA hB hg
  by_cases hn : f.length = xs.length
  · have hne : ((f.length : Int) != (xs.length : Int)) = false := by rw [bne_eq_false_iff_eq, hn]
    have HN := hid hn
    clear hn
    go_enter Try.func78, Try.ntmps78
    go_wp2
    go_loopw [19] (fun i wr => ∃ k : Nat, k ≤ f.length ∧ i = .int .i64 k ∧ Hid (∀ j, j < k → labAt xs f m g j = true) ∧ Below (w.heap.size + 1) (w.alloc (.cells #[.slice A xs.length c] 28)) wr) (fun i _ => f.length - (intOf i).toNat)
    case atStart => exact ⟨0, Nat.zero_le _, rfl, hid (fun j hj => absurd hj (Nat.not_lt_zero _)), Below.refl _ _⟩
    case round =>
      obtain ⟨k, hk, rfl, Hk, hb⟩ := hrel
      by_cases hlt : k < f.length
      · obtain ⟨b, o, rfl, hbl, hc⟩ := HC.out (by intro h; simp [h] at hlt)
        have hcell : wr.cell? ⟨b, o + k, none⟩ = some (.int .i64 (f.getD k 0)) := ((below_box hb).cell (p := ⟨b, o + k, none⟩) hbl).trans (hc k hlt)
        have hbox := box_cell hb 0
        have HB := hid hb
        have HP := hid (labAt_iff (xs := xs) (f := f) (m := m) (g := g) (e := k))
        obtain ⟨x, hx⟩ : ∃ x, f.getD k 0 = x := ⟨_, rfl⟩
        have HX := hid hx
        rw [hx] at hcell HP
        clear hc hb hx
        by_cases hxm : x ≤ m
        · by_cases hle : leN xs f k g k ≤ x
          · have HA := hid (HP.out.2 ⟨hxm, hle⟩)
            obtain ⟨q, hq⟩ : ∃ q, leN xs f k g k = q := ⟨_, rfl⟩
            have HLe := hid (leastLabel_any _ _ xs f k g wr (Ints.box HV.out HB.out) (Ints.box HU.out HB.out) HG.out (by have := HN.out; omega) (by omega) (fun j hj => labAt_rng (Hk.out j hj) m1) g0 g1)
            rw [hq] at HLe hle
            clear hq
            go_wp2_with fail
            with_reducible refine HLe.out.mono ?_
            rintro e w2 ⟨rfl, hb2⟩
            have HB2 := hid (HB.out.trans (hb2.mono (by have := HB.out.size; simp at this; omega)))
            clear hb2 hbox hcell
            go_wp2
            go_roundw
            case rel => exact ⟨k + 1, by omega, by go_num, hid (fun j hj => by
              by_cases h : j = k
              · subst h; exact HA.out
              · exact Hk.out j (by omega)), HB2.out⟩
            case measure => simp [intOf]; omega
          · have HA := hid (labB_no hlt (Bool.eq_false_iff.2 fun h => hle (HP.out.1 h).2))
            obtain ⟨q, hq⟩ : ∃ q, leN xs f k g k = q := ⟨_, rfl⟩
            have HLe := hid (leastLabel_any _ _ xs f k g wr (Ints.box HV.out HB.out) (Ints.box HU.out HB.out) HG.out (by have := HN.out; omega) (by omega) (fun j hj => labAt_rng (Hk.out j hj) m1) g0 g1)
            rw [hq] at HLe hle
            clear hq
            go_wp2_with fail
            with_reducible refine HLe.out.mono ?_
            rintro e w2 ⟨rfl, hb2⟩
            have HB2 := hid (HB.out.trans (hb2.mono (by have := HB.out.size; simp at this; omega)))
            clear hb2 hbox hcell
            go_wp2
            go_ret
            exact ⟨ret_bool HA.out.symm, below_box HB2.out⟩
        · have HA := hid (labB_no hlt (Bool.eq_false_iff.2 fun h => hxm (HP.out.1 h).1))
          go_wp2
          go_ret
          exact ⟨ret_bool HA.out.symm, below_box HB.out⟩
      · obtain rfl : k = f.length := by omega
        have HA := hid (labB_yes HN.out Hk.out)
        go_wp2
        go_ret
        exact ⟨ret_bool HA.out.symm, below_box hb⟩
  · have HA := hid (labB_len (m := m) (g := g) hn)
    have hne : ((f.length : Int) != (xs.length : Int)) = true := by rw [bne_iff_ne]; omega
    go_enter Try.func78, Try.ntmps78
    go_wp2
    go_ret
    exact ⟨ret_bool HA.out.symm, below_alloc (Below.refl _ w) _⟩
end Go.Proofs.Ytgepbekdgocnpab
