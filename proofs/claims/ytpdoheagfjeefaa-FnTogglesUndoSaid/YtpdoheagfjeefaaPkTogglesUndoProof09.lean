/- Texts Covers, DrX, Rank, one behind the other. -/
import Derived.Test.YtpdoheagfjeefaaPkTogglesUndoProof01
import Derived.Test.YtpdoheagfjeefaaPkTogglesUndoProof02
import Derived.Test.YtpdoheagfjeefaaPkTogglesUndoProof05
import Derived.Test.YtpdoheagfjeefaaPkTogglesUndoProof08
/- CoversOf. -/
namespace Go.Proofs.Ytpdoheagfjeefaa
open Go.RowKit Go.WideShapes Go.ChangeShapes
set_option linter.unusedVariables false

theorem Pairs.mono {ti ts : TypeId} {w : World} {B B' : Nat} {v : Value} {ps : List (Nat × Nat)} (h : Pairs ti ts w B v ps) (hB : B' ≤ B) : Pairs ti ts w B' v ps := by
  obtain ⟨us, h1, h2, h3, h4⟩ := h
  refine ⟨us, h1, ⟨h2.1, ?_⟩, fun j u p hu hp => ?_, h4⟩
  · rcases h2.2 with h2 | ⟨g, cap, cur, hv, hg, r⟩
    · exact .inl h2
    · exact .inr ⟨g, cap, cur, hv, by omega, r⟩
  · obtain ⟨g, e, hg, hb⟩ := h3 j u p hu hp
    exact ⟨g, e, by omega, hb⟩
theorem Pairs.ss {ti ts : TypeId} {w : World} {B : Nat} {v : Value} {ps : List (Nat × Nat)} (h : Pairs ti ts w B v ps) : OwnSS ti ts w B w.heap.size v (ps.map fun p => [(p.1 : Int), (p.2 : Int)]) := by
  obtain ⟨us, h1, h2, h3, h4⟩ := h
  refine ⟨us, by simp [h1], by simpa using h2, fun k hk => (h2.lt k hk).2, ?_, ?_⟩
  · intro j u l hu hl
    rw [List.getElem?_map] at hl
    rcases hp : ps[j]? with _ | p
    · rw [hp] at hl; cases hl
    · rw [hp] at hl
      simp only [Option.map_some, Option.some.injEq] at hl
      subst hl
      obtain ⟨g, rfl, hB, hg⟩ := h3 j u p hu hp
      refine ⟨?_, fun k hk => ?_⟩
      · exact Blk.own (xs := [(p.1 : Int), (p.2 : Int)]) hg hB (by simp)
      · simp only [Value.ownBlock, Option.some.injEq] at hk
        subst hk; exact hg.lt
  · intro i j u u' hij hu hu'
    refine .inr fun e => hij ?_
    have hi : i < ps.length := by
      rcases Nat.lt_or_ge i us.length with h | h
      · omega
      · rw [List.getElem?_eq_none h] at hu; cases hu
    have hj : j < ps.length := by
      rcases Nat.lt_or_ge j us.length with h | h
      · omega
      · rw [List.getElem?_eq_none h] at hu'; cases hu'
    obtain ⟨g, rfl, _, _⟩ := h3 i u _ hu (List.getElem?_eq_getElem hi)
    obtain ⟨g', rfl, _, _⟩ := h3 j u' _ hu' (List.getElem?_eq_getElem hj)
    simp only [Value.ownBlock, Option.some.injEq] at e
    subst e
    exact h4 i j _ hu hu'

def bitAt (xs : List Int) (i j : Nat) : Bool := (xs.getD i 0).toNat.testBit j
def coverB (xs : List Int) (j i : Nat) : Bool := bitAt xs i j && !((List.range i).any fun k => decide (j < k) && (bitAt xs i k && bitAt xs k j))
theorem coverB_true {xs : List Int} {j i : Nat} (h1 : bitAt xs i j = true) (h2 : ∀ k, j < k → k < i → (bitAt xs i k && bitAt xs k j) = false) : coverB xs j i = true := by
  unfold coverB
  rw [h1, Bool.true_and, Bool.not_eq_true', List.any_eq_false]
  intro k hk
  rw [List.mem_range] at hk
  by_cases hjk : j < k
  · rw [h2 k hjk hk]; simp
  · simp [hjk]
theorem coverB_false {xs : List Int} {j i k : Nat} (h1 : j < k) (h2 : k < i) (h3 : (bitAt xs i k && bitAt xs k j) = true) : coverB xs j i = false := by
  unfold coverB
  have : ((List.range i).any fun k => decide (j < k) && (bitAt xs i k && bitAt xs k j)) = true := List.any_eq_true.2 ⟨k, List.mem_range.2 h2, by rw [h3]; simp [h1]⟩
  rw [this]; simp
theorem good_bit {xs : List Int} (hg : good xs = true) {i j : Nat} (hi : i < xs.length) (h : bitAt xs i j = true) : j < i := by
  have h1 := okAt_range (good_at hg hi)
  refine testBit_lt (n := i) ?_ h
  have := Nat.one_le_two_pow (n := i)
  omega
theorem coverB_lt {xs : List Int} (hg : good xs = true) {i j : Nat} (hi : i < xs.length) (h : i ≤ j) : coverB xs j i = false := by
  unfold coverB
  cases hb : bitAt xs i j
  · rfl
  · have := good_bit hg hi hb
    omega
/-- the top of what is below i: what i covers -/
theorem cover_top {xs : List Int} (hg : good xs = true) {i j : Nat} (hi : i < xs.length) : (top xs (xs.getD i 0).toNat).testBit j = coverB xs j i := by
  unfold top
  rw [sub_testBit, Bool.eq_iff_iff]
  simp only [Bool.and_eq_true, Bool.not_eq_true']
  constructor
  · rintro ⟨h1, h2⟩
    refine coverB_true h1 fun k hjk hki => ?_
    cases hc : (bitAt xs i k && bitAt xs k j)
    · rfl
    · simp only [Bool.and_eq_true] at hc
      have : (under xs (xs.getD i 0).toNat).testBit j = true := (underN_testBit _ _ _ _).2 ⟨k, by omega, hc.1, hc.2⟩
      rw [this] at h2; cases h2
  · intro h
    have h1 : bitAt xs i j = true := by
      unfold coverB at h
      simp only [Bool.and_eq_true] at h
      exact h.1
    refine ⟨h1, ?_⟩
    cases hu : (under xs (xs.getD i 0).toNat).testBit j
    · rfl
    · obtain ⟨k, hk, ha, hb⟩ := (underN_testBit _ _ _ _).1 hu
      have h3 := good_bit hg hi ha
      have h4 := good_bit hg hk hb
      rw [coverB_false h4 h3 (by simp only [Bool.and_eq_true]; exact ⟨ha, hb⟩)] at h
      cases h
def covIn (xs : List Int) (j : Nat) : Nat → List (Nat × Nat)
  | 0 => []
  | i + 1 => if coverB xs j i then covIn xs j i ++ [(j, i)] else covIn xs j i
def covPS (xs : List Int) (n : Nat) : Nat → List (Nat × Nat)
  | 0 => []
  | j + 1 => covPS xs n j ++ covIn xs j n
theorem covIn_length (xs : List Int) (j i : Nat) : (covIn xs j i).length ≤ i := by
  induction i with
  | zero => simp [covIn]
  | succ i ih =>
    unfold covIn
    split
    · rw [List.length_append, List.length_singleton]; omega
    · omega
theorem covPS_length (xs : List Int) (n j : Nat) : (covPS xs n j).length ≤ n * j := by
  induction j with
  | zero => simp [covPS]
  | succ j ih =>
    unfold covPS
    have := covIn_length xs j n
    rw [List.length_append, Nat.mul_succ]
    omega
theorem covIn_start {xs : List Int} (hg : good xs = true) {j : Nat} (i : Nat) (hi : i ≤ j + 1) (hj : i ≤ xs.length) : covIn xs j i = [] := by
  induction i with
  | zero => rfl
  | succ i ih =>
    unfold covIn
    rw [coverB_lt hg (by omega) (by omega)]
    exact ih (by omega) (by omega)
def coversP (xs : List Int) : List (Nat × Nat) := if good xs then covPS xs xs.length xs.length else []
def coversL (xs : List Int) : List (List Int) := (coversP xs).map fun p => [(p.1 : Int), (p.2 : Int)]
theorem coversP_length (xs : List Int) : (coversP xs).length ≤ 100 := by
  unfold coversP
  split
  · rename_i h
    have h1 := covPS_length xs xs.length xs.length
    have h2 := (good_length h).2
    have h3 : xs.length * xs.length ≤ 10 * 10 := Nat.mul_le_mul h2 h2
    omega
  · simp
theorem pairs_getD (ps : List (Nat × Nat)) (j : Nat) : ((ps.map fun p => [(p.1 : Int), (p.2 : Int)]).getD j []).length ≤ 2 := by
  simp only [List.getD, List.getElem?_map]
  cases ps[j]? <;> simp
theorem pairs_off (ps : List (Nat × Nat)) (j : Nat) : offL (ps.map fun p => [(p.1 : Int), (p.2 : Int)]) j ≤ 2 * j := by
  induction j with
  | zero => simp [offL]
  | succ j ih =>
    have := pairs_getD ps j
    have h2 : offL (ps.map fun p => [(p.1 : Int), (p.2 : Int)]) (j + 1) = offL (ps.map fun p => [(p.1 : Int), (p.2 : Int)]) j + ((ps.map fun p => [(p.1 : Int), (p.2 : Int)]).getD j []).length := rfl
    omega
theorem coversL_small (xs : List Int) : SSmall (coversL xs) := by
  have h1 := coversP_length xs
  have h0 : (coversL xs).length = (coversP xs).length := by simp [coversL]
  refine ⟨by omega, fun j _ => ?_, ?_⟩
  · have := pairs_getD (coversP xs) j
    show ((coversL xs).getD j []).length ≤ _
    unfold coversL
    omega
  · have := pairs_off (coversP xs) (coversL xs).length
    unfold coversL at this ⊢
    unfold coversL at h0
    omega

theorem poCovers_any (v : Value) (xs : List Int) (j i : Nat) (w : World) (hv : Ints w v xs) (hg : good xs = true) (hj : j < xs.length) (hi : i < xs.length) :
    Calls Try.prog 160 #[.agg #[v], .int .i64 j, .int .i64 i] w fun r w' => r = .returned (.bool (coverB xs j i)) ∧ Below w.heap.size w w' := by
  have hl10 := (good_length hg).2
  obtain ⟨A, c, rfl, hA⟩ := hv
  obtain ⟨b, o, rfl, hbl, hc⟩ := hA (by intro h; simp [h] at hi)
  have hci := hc i hi
  have hok := okAt_small (good_at hg hi) (by omega)
  obtain ⟨x, hx⟩ : ∃ x, xs.getD i 0 = x := ⟨_, rfl⟩
  rw [hx] at hci hok
  obtain ⟨z, rfl⟩ := Int.eq_ofNat_of_zero_le hok.1
  have HG := hid hg
  have HC := hid hc
  have hb0 : bitAt xs i j = z.testBit j := by unfold bitAt; rw [hx, Int.toNat_natCast]
  have hbk : ∀ k, bitAt xs i k = z.testBit k := fun k => by unfold bitAt; rw [hx, Int.toNat_natCast]
  have HBK := hid hbk
  have hz10 : z < 1024 := by omega
  have hiz : (i : Int) < xs.length := by omega
  cases hbit : z.testBit j
  · have H : Hid (coverB xs j i = false) := hid (by unfold coverB; rw [hb0, hbit]; rfl)
    have Hbit := hid hbit
    clear hA hc hx hg hb0 hbk hbit hok
    go_enter Try.func160, Try.ntmps160
    go_wp2_with (go_at_call 135; refine (poIn_any z j (by omega) _).mono ?_; rw [Hbit.out]; rintro e w' ⟨rfl, rfl⟩)
    go_ret
    exact ⟨ret_bool H.out.symm, (Below.refl _ _).alloc (Nat.le_refl _) _⟩
  · have hji : j < i := good_bit hg hi (by rw [hb0]; exact hbit)
    have Hb0 := hid (hb0.trans hbit)
    have Hbit := hid hbit
    clear hA hc hx hg hb0 hbk hbit hok
    go_enter Try.func160, Try.ntmps160
    go_wp2_with (go_at_call 135; refine (poIn_any z j (by omega) _).mono ?_; rw [Hbit.out]; rintro e w' ⟨rfl, rfl⟩)
    go_loop [7] (fun q => ∃ k : Nat, j + 1 ≤ k ∧ k ≤ i ∧ q = .int .i64 k ∧ Hid (∀ e, j < e → e < k → (bitAt xs i e && bitAt xs e j) = false)) (fun q => i - (intOf q).toNat)
    case atStart => exact ⟨j + 1, Nat.le_refl _, by omega, by go_num, hid (fun e h1 h2 => by omega)⟩
    case round =>
      obtain ⟨k, hjk, hki, rfl, Hk⟩ := hrel
      by_cases hlt : k < i
      · have hlt' : (k : Int) < i := by omega
        have hkn : (k : Int) < xs.length := by omega
        cases hbk : z.testBit k
        · have Hbk := hid hbk
          clear hbk
          go_wp2_with (go_at_call 135; refine (poIn_any z k (by omega) _).mono ?_; rw [Hbk.out]; rintro e w' ⟨rfl, rfl⟩)
          go_round
          case rel => exact ⟨k + 1, by omega, by omega, by go_num, hid (fun e h1 h2 => by
            by_cases h : e = k
            · subst h; rw [HBK.out, Hbk.out]; rfl
            · exact Hk.out e h1 (by omega))⟩
          case measure => simp [intOf]; omega
        · have hck := HC.out k (by omega)
          have hok := okAt_small (good_at HG.out (show k < xs.length by omega)) (by omega)
          obtain ⟨y, hy⟩ : ∃ y, xs.getD k 0 = y := ⟨_, rfl⟩
          rw [hy] at hck hok
          obtain ⟨t, rfl⟩ := Int.eq_ofNat_of_zero_le hok.1
          have Hbk := hid hbk
          have Hkj : Hid (bitAt xs k j = t.testBit j) := hid (by unfold bitAt; rw [hy, Int.toNat_natCast])
          have tok1 : True := trivial
          clear hbk hy hok
          cases hbt : t.testBit j
          · have Hbt := hid hbt
            clear hbt
            go_wp2_with fail
            refine (poIn_any z k (by omega) _).mono ?_
            rw [Hbk.out]
            rintro e w' ⟨rfl, rfl⟩
            go_wp2_with fail
            refine (poIn_any t j (by omega) _).mono ?_
            rw [Hbt.out]
            rintro e w' ⟨rfl, rfl⟩
            go_wp2
            go_round
            case rel => exact ⟨k + 1, by omega, by omega, by go_num, hid (fun e h1 h2 => by
              by_cases h : e = k
              · subst h; rw [Hkj.out, Hbt.out, Bool.and_false]
              · exact Hk.out e h1 (by omega))⟩
            case measure => simp [intOf]; omega
          · have Hbt := hid hbt
            have H : Hid (coverB xs j i = false) := hid (coverB_false (k := k) (by omega) hlt (by rw [HBK.out, Hbk.out, Hkj.out, hbt]; rfl))
            clear hbt
            go_wp2_with fail
            refine (poIn_any z k (by omega) _).mono ?_
            rw [Hbk.out]
            rintro e w' ⟨rfl, rfl⟩
            go_wp2_with fail
            refine (poIn_any t j (by omega) _).mono ?_
            rw [Hbt.out]
            rintro e w' ⟨rfl, rfl⟩
            go_wp2
            go_ret
            exact ⟨ret_bool H.out.symm, (Below.refl _ _).alloc (Nat.le_refl _) _⟩
      · obtain rfl : k = i := by omega
        have H := hid (coverB_true Hb0.out Hk.out)
        go_wp2
        go_ret
        exact ⟨ret_bool H.out.symm, (Below.refl _ _).alloc (Nat.le_refl _) _⟩

theorem poPairs_any (v : Value) (xs : List Int) (w : World) (hv : Ints w v xs) (hg : good xs = true) :
    Calls Try.prog 106 #[.agg #[v]] w fun (r : Ending) w' => ∃ u, r = Ending.returned u ∧ Pairs 3 24 w' (w.heap.size + 1) u (covPS xs xs.length xs.length) ∧ Below w.heap.size w w' := by
  have hl10 := (good_length hg).2
  have HV := hid hv
  have HG := hid hg
  obtain ⟨A, c, rfl, -⟩ := hv
  obtain ⟨n, hn⟩ : ∃ n, xs.length = n := ⟨_, rfl⟩
  have Hn := hid hn
  rw [hn] at hl10 HV ⊢
  clear hg hn
  go_enter Try.func106, Try.ntmps106
  go_wp2
  go_loopw [3, 9] (fun q jj wr => ∃ j : Nat, j ≤ n ∧ jj = .int .i64 j ∧ Pairs 3 24 wr (w.heap.size + 1) q (covPS xs n j) ∧ Below (w.heap.size + 1) (w.alloc (.cells #[.slice A n c] 26)) wr) (fun _ jj _ => n - (intOf jj).toNat)
  case atStart => exact ⟨0, Nat.zero_le _, rfl, Pairs.nil _ _ _ _, Below.refl _ _⟩
  case round =>
    obtain ⟨j, hj, rfl, hP, hb⟩ := hrel
    have hbox := box_cell hb 0
    have hbz : w.heap.size < wr.heap.size := by have := hb.size; simp at this; omega
    have HPo := hid hP
    have HBo := hid hb
    clear hP hb
    by_cases hjn : j < n
    · have hl1 := covPS_length xs n j
      have hl3 : n * j ≤ 100 := by
        have : n * j ≤ 10 * 10 := Nat.mul_le_mul hl10 (by omega)
        omega
      go_wp2
      clear hbox hbz
      go_loopw [3, 15] (fun q ii wi => ∃ i : Nat, i ≤ n ∧ ii = .int .i64 i ∧ Pairs 3 24 wi (w.heap.size + 1) q (covPS xs n j ++ covIn xs j i) ∧ Below (w.heap.size + 1) (w.alloc (.cells #[.slice A n c] 26)) wi) (fun _ ii _ => n - (intOf ii).toNat)
      case atStart => exact ⟨0, Nat.zero_le _, rfl, by simpa [covIn] using HPo.out, HBo.out⟩
      case round =>
        obtain ⟨i, hi, rfl, hP, hb⟩ := hrel
        have hbox := box_cell hb 0
        have hbz : w.heap.size < wr.heap.size := by have := hb.size; simp at this; omega
        have hl2 := covIn_length xs j i
        obtain ⟨L, hL⟩ : ∃ L, covPS xs n j ++ covIn xs j i = L := ⟨_, rfl⟩
        have hll : L.length ≤ 200 := by rw [← hL, List.length_append]; omega
        rw [hL] at hP
        have HP := hid hP
        have HB := hid hb
        have HLL := hid hL
        clear hP hb hL hl2
        by_cases hin : i < n
        · have HIN : Hid (Ints wr (.slice A n c) xs) := hid (Ints.box HV.out HB.out)
          cases hcv : coverB xs j i
          · have Hcv := hid hcv
            clear hcv
            go_wp2_with (go_at_call 160; refine (poCovers_any _ xs j i _ HIN.out HG.out (by rw [Hn.out]; exact hjn) (by rw [Hn.out]; exact hin)).mono ?_; rw [Hcv.out]; rintro e w2 ⟨rfl, hb2⟩)
            go_roundw
            case rel => exact ⟨i + 1, by omega, by go_num, by (rw [covIn, if_neg (by rw [Hcv.out]; decide), HLL.out]; exact HP.out.below hb2), HB.out.trans (hb2.mono (by omega))⟩
            case measure => simp [intOf]; omega
          · have Hcv := hid hcv
            clear hcv
            go_wp2_with fail
            refine (poCovers_any _ xs j i _ HIN.out HG.out (by rw [Hn.out]; exact hjn) (by rw [Hn.out]; exact hin)).mono ?_
            rw [Hcv.out]
            rintro e w2 ⟨rfl, hb2⟩
            have HP1 := hid (HP.out.below hb2)
            have HB1 := hid (HB.out.trans (hb2.mono (by omega)))
            have hz1 : w.heap.size + 1 ≤ w2.heap.size := by have := hb2.size; omega
            clear hb2 hbox
            go_wp2_with (at_builtin; refine wpList_append_pair rfl _ _ 49 24 3 rfl Try.underlying49 Try.info24 (by decide) (w.heap.size + 1) _ _ j i rfl HP1.out rfl rfl (by omega) (by omega) ?_; intro q2 w3 hp2 hb3)
            go_roundw
            case rel => exact ⟨i + 1, by omega, by go_num, by (rw [covIn, if_pos Hcv.out, ← List.append_assoc, HLL.out]; exact hp2), HB1.out.trans hb3⟩
            case measure => simp [intOf]; omega
        · obtain rfl : i = n := by omega
          go_wp2
          go_roundw
          case rel => exact ⟨j + 1, by omega, by go_num, by (rw [covPS, HLL.out]; exact HP.out), HB.out⟩
          case measure => simp [intOf]; omega
    · obtain rfl : j = n := by omega
      go_wp2
      go_ret
      exact ⟨_, rfl, HPo.out, below_box HBo.out⟩

theorem covers_post {u : Value} {xs : List Int} {w' : World} {B : Nat} {ps : List (Nat × Nat)} (h : Pairs 3 24 w' B u ps) (e : coversP xs = ps) : OwnSS 3 24 w' B w'.heap.size u (coversL xs) := by
  unfold coversL; rw [e]; exact h.ss
theorem coversP_yes {xs : List Int} (h : good xs = true) : coversP xs = covPS xs xs.length xs.length := if_pos h
theorem coversP_no {xs : List Int} (h : good xs = false) : coversP xs = [] := by simp [coversP, h]

set_option maxHeartbeats 4000000 in
theorem implCoversP_any (v : Value) (xs : List Int) (w : World) (hv : Ints w v xs) (hl : xs.length ≤ 1048576) :
    Calls Try.prog 33 #[.agg #[v]] w fun (r : Ending) w' => ∃ u, r = Ending.returned (.tuple #[u, .bool (good xs)]) ∧ Pairs 3 24 w' (w.heap.size + 1) u (coversP xs) ∧ Below w.heap.size w w' := by
  have HV := hid hv
  cases hg : good xs
  · have HG := hid hg
    have HN := hid (coversP_no hg)
    clear hv hg
    go_enter Try.func33, Try.ntmps33
    go_wp2_with (go_at_call 89; refine (implIsPoset_any _ xs _ (HV.out.alloc _) hl).mono ?_; rw [HG.out]; rintro e w1 ⟨rfl, hb1⟩)
    go_ret2
    exact ⟨_, rfl, by rw [HN.out]; exact Pairs.nil _ _ _ _, ((Below.refl _ _).alloc (Nat.le_refl _) _).trans (hb1.mono (by simp))⟩
  · have hl10 := (good_length hg).2
    have HG := hid hg
    have HY := hid (coversP_yes hg)
    have HSM := hid (good_small hg)
    have HCT : Hid (∀ i j, i < xs.length → (top xs (xs.getD i 0).toNat).testBit j = coverB xs j i) := hid (fun i j hi => cover_top hg hi)
    have HST : Hid (∀ j, j < xs.length → covIn xs j (j + 1) = []) := hid (fun j hj => covIn_start hg (j + 1) (Nat.le_refl _) hj)
    have HOK : Hid (∀ i, i < xs.length → 0 ≤ xs.getD i 0 ∧ xs.getD i 0 < 512) := hid (fun i hi => okAt_small (good_at hg hi) (by omega))
    obtain ⟨A, c, rfl, hA⟩ := hv
    have HA := hid hA
    obtain ⟨n, hn⟩ : ∃ n, xs.length = n := ⟨_, rfl⟩
    have Hn := hid hn
    rw [hn] at hl10 HV HA HY HCT HST HOK ⊢
    clear hg hn hA
    go_enter Try.func33, Try.ntmps33
    go_wp2_with fail
    refine (implIsPoset_any _ xs _ (HV.out.alloc _) hl).mono ?_
    rw [HG.out]
    rintro e w1 ⟨rfl, hb1⟩
    have hbox := ((At.new w (.slice A n c) 26).below hb1).1
    have hbx2 := ((At.new w (.slice A n c) 26).below hb1).2
    have HB1 := hid (hb1.mono (show w.heap.size + 1 ≤ _ by simp))
    clear hb1
    go_wp2
    clear hbox hbx2
    go_loopw [4, 13] (fun q jj wr => ∃ j : Nat, j ≤ n ∧ jj = .int .i64 j ∧ Pairs 3 24 wr (w.heap.size + 1) q (covPS xs n j) ∧ Below (w.heap.size + 1) (w.alloc (.cells #[.slice A n c] 26)) wr) (fun _ jj _ => n - (intOf jj).toNat)
    case atStart => exact ⟨0, Nat.zero_le _, rfl, Pairs.nil _ _ _ _, HB1.out⟩
    case round =>
      obtain ⟨j, hj, rfl, hP, hb⟩ := hrel
      have HPo := hid hP
      have HBo := hid hb
      clear hP hb
      by_cases hjn : j < n
      · have hl1 := covPS_length xs n j
        have hl3 : n * j ≤ 100 := by
          have : n * j ≤ 10 * 10 := Nat.mul_le_mul hl10 (by omega)
          omega
        go_wp2
        go_loopw [4, 6] (fun q ii wi => ∃ i : Nat, j + 1 ≤ i ∧ i ≤ n ∧ ii = .int .i64 i ∧ Pairs 3 24 wi (w.heap.size + 1) q (covPS xs n j ++ covIn xs j i) ∧ Below (w.heap.size + 1) (w.alloc (.cells #[.slice A n c] 26)) wi) (fun _ ii _ => n - (intOf ii).toNat)
        case atStart => exact ⟨j + 1, Nat.le_refl _, by omega, by go_num, by (rw [HST.out j hjn, List.append_nil]; exact HPo.out), HBo.out⟩
        case round =>
          obtain ⟨i, hji, hi, rfl, hP, hb⟩ := hrel
          have hbox := box_cell hb 0
          have hbz : w.heap.size < wr.heap.size := by have := hb.size; simp at this; omega
          have hl2 := covIn_length xs j i
          obtain ⟨L, hL⟩ : ∃ L, covPS xs n j ++ covIn xs j i = L := ⟨_, rfl⟩
          have hll : L.length ≤ 200 := by rw [← hL, List.length_append]; omega
          rw [hL] at hP
          have HP := hid hP
          have HB := hid hb
          have HLL := hid hL
          clear hP hL hl2
          by_cases hin : i < n
          · obtain ⟨b, o, rfl, hbl, hc⟩ := HA.out (by intro h; have := Hn.out; rw [h] at this; simp at this; omega)
            have hcell : wr.cell? ⟨b, o + i, none⟩ = some (.int .i64 (xs.getD i 0)) := by
              rw [(below_box hb).cell (p := ⟨b, o + i, none⟩) hbl]; exact hc i hin
            have hok := HOK.out i hin
            have hct := HCT.out i j hin
            obtain ⟨x, hx⟩ : ∃ x, xs.getD i 0 = x := ⟨_, rfl⟩
            rw [hx] at hcell hok hct
            obtain ⟨z, rfl⟩ := Int.eq_ofNat_of_zero_le hok.1
            rw [Int.toNat_natCast] at hct
            have HIN : Hid (Ints wr (.slice (some ⟨b, o, none⟩) n c) xs) := hid (Ints.box HV.out HB.out)
            obtain ⟨t, ht⟩ : ∃ t, top xs z = t := ⟨_, rfl⟩
            have ht10 : t < 1024 := by rw [← ht]; exact Nat.lt_of_le_of_lt (sub_le _ _) (by omega)
            have HT : Hid (t.testBit j = coverB xs j i) := hid (by rw [← ht]; exact hct)
            have HTT := hid ht
            have hz3 : z < 1024 := by omega
            have hin' : (i : Int) < n := by omega
            clear hb hc hx hct ht
            cases hcv : coverB xs j i
            · have Hcv := hid (HT.out.trans hcv)
              have Hc2 := hid hcv
              clear hcv
              go_wp2
              go_region_with (first | (go_at_call 108; refine (top_any _ xs z _ HIN.out.drew (by rw [Hn.out]; exact hl10) hz3 (HSM.out z)).mono ?_; rw [HTT.out]; rintro e w2 ⟨rfl, hb2⟩; have HP2 := hid ((HP.out.below (Go.Joins.below_draws _ _ 1)).below hb2); have HB2 := hid (HB.out.drew.trans (hb2.mono (by simp; omega))); clear hb2) | (go_at_call 94; refine (hasElement_any t j (by omega) (by omega) _).mono ?_; rw [Hcv.out]; rintro e w' ⟨rfl, rfl⟩))
              all_goals (go_wp2; go_roundw)
              all_goals first
                | exact ⟨i + 1, by omega, by omega, by go_num, by (rw [covIn, if_neg (by rw [Hc2.out]; decide), HLL.out]; exact HP2.out), HB2.out⟩
                | (simp [intOf]; omega)
            · have Hcv := hid (HT.out.trans hcv)
              have Hc2 := hid hcv
              clear hcv
              go_wp2
              go_region_with (first | (go_at_call 108; refine (top_any _ xs z _ HIN.out.drew (by rw [Hn.out]; exact hl10) hz3 (HSM.out z)).mono ?_; rw [HTT.out]; rintro e w2 ⟨rfl, hb2⟩; have HP1 := hid ((HP.out.below (Go.Joins.below_draws _ _ 1)).below hb2); have HB1' := hid (HB.out.drew.trans (hb2.mono (by simp; omega))); have hz1 : w.heap.size + 1 ≤ w2.heap.size := Nat.le_trans (Nat.succ_le_of_lt hbz) hb2.size; clear hb2) | (go_at_call 94; refine (hasElement_any t j (by omega) (by omega) _).mono ?_; rw [Hcv.out]; rintro e w' ⟨rfl, rfl⟩))
              all_goals (go_wp2_with (at_builtin; refine wpList_append_pair rfl _ _ 49 24 3 rfl Try.underlying49 Try.info24 (by decide) (w.heap.size + 1) _ _ j i rfl HP1.out rfl rfl (by omega) (by omega) ?_; intro q2 w3 hp2 hb3))
              all_goals go_roundw
              all_goals first
                | exact ⟨i + 1, by omega, by omega, by go_num, by (rw [covIn, if_pos Hc2.out, ← List.append_assoc, HLL.out]; exact hp2), HB1'.out.trans hb3⟩
                | (simp [intOf]; omega)
          · obtain rfl : i = n := by omega
            clear hb
            go_wp2
            go_roundw
            case rel => exact ⟨j + 1, by omega, by go_num, by (rw [covPS, HLL.out]; exact HP.out), HB.out⟩
            case measure => simp [intOf]; omega
      · obtain rfl : j = n := by omega
        go_wp2
        go_ret2
        exact ⟨_, rfl, by rw [HY.out]; exact HPo.out, below_box HBo.out⟩
theorem implCoversOf_any (v : Value) (xs : List Int) (w : World) (hv : Ints w v xs) (hl : xs.length ≤ 1048576) :
    Calls Try.prog 33 #[.agg #[v]] w fun (r : Ending) w' => ∃ u, r = Ending.returned (.tuple #[u, .bool (good xs)]) ∧ OwnSS 3 24 w' w.heap.size w'.heap.size u (coversL xs) ∧ SSmall (coversL xs) ∧ Below w.heap.size w w' :=
  (implCoversP_any v xs w hv hl).mono fun _ _ ⟨u, he, hp, hb⟩ => ⟨u, he, covers_post (hp.mono (by omega)) rfl, coversL_small xs, hb⟩
end Go.Proofs.Ytpdoheagfjeefaa

/- Draws of the model: words of toggles, and elements. (by gendrx.py) -/
namespace Go.Proofs.Ytpdoheagfjeefaa
open Go.RowKit Go.WideShapes Go.ChangeShapes
set_option linter.unusedVariables false

set_option maxHeartbeats 1600000 in
theorem drawToggleWord_any (v : Value) (bs : List Int) (w : World) (hb : BytesB w w.heap.size v bs) (hl : bs.length ≤ 1048576) :
    Calls Try.prog 24 #[v] w fun (r : Ending) w' => ∃ u xs s q ys, r = .returned (.tuple #[.agg #[u], .int .i64 s, q]) ∧ (Lit.int .i64 s).wf = true ∧ OwnI 3 w' w.heap.size u xs ∧ xs.length ≤ 21 ∧ OwnI 3 w' w.heap.size q ys ∧ ys.length ≤ 120 ∧ Below w.heap.size w w' := by
  have HBy := hid hb
  obtain ⟨vA, vc, rfl, -⟩ := hb
  have HA0 := hid (Blk.new w 26 #[.slice none 0 0])
  have HB0 := hid (below_alloc (Below.refl _ w) (.cells #[.slice none 0 0] 26))
  go_enter Try.func24, Try.ntmps24
  go_wp2_with fail
  have HC := hid (Cur.new (w.alloc (.cells #[.slice none 0 0] 26)) _ bs (w.heap.size + 1) (by simp) ((HBy.out.below HB0.out).up (by simp)) hl)
  have HB1 := hid (below_alloc HB0.out (.cells #[.slice vA bs.length vc, .int .i64 0, .int .u64 0] 79))
  have HA1 := hid (HA0.out.alloc (.cells #[.slice vA bs.length vc, .int .i64 0, .int .u64 0] 79))
  refine (ideal_any (w.heap.size + 1) 0 10 _ HC.out (by decide) (by decide) (by decide)).mono ?_
  rintro e w2 ⟨u, xs, s, rfl, hwf, ho, hl2, hd⟩
  have HW := hid hwf
  clear hwf
  have HB2 := hid (hd.belowAll HB1.out (by omega))
  have HA2 := hid (HA1.out.turned hd.turned (Or.inl (by omega)))
  have HO := hid (ho.mono (show w.heap.size + 2 ≤ _ by simp))
  have HC2 := hid hd.cur
  have hz2 : w.heap.size + 2 ≤ w2.heap.size := by have := hd.turned.size; simpa using this
  obtain ⟨uA, uc, rfl, -⟩ := HO.out.shape
  clear ho hd HA0 HA1 HB0 HB1 HC
  obtain ⟨B5, hB5⟩ : ∃ B5, w2.heap.size = B5 := ⟨_, rfl⟩
  have hbox := (Blk.new w2 26 #[.slice uA xs.length uc]).cell 0
  have HI3 : Hid (DI 3 26 w 240 B5 (.slice uA xs.length uc) xs (w2.alloc (.cells #[.slice uA xs.length uc] 26))) :=
    hid ⟨below_alloc HB2.out _, (HC2.out.le (by omega)).below (below_alloc (Below.refl _ _) _), HA2.out.alloc _, by rw [← hB5]; exact Blk.new w2 _ _, HO.out.alloc _⟩
  have hB6 : w.heap.size + 2 ≤ B5 := by omega
  have hzw : w.heap.size + 2 ≤ (w2.alloc (.cells #[.slice uA xs.length uc] 26)).heap.size := by simp; omega
  clear HB2 HC2 HA2 HO hz2
  go_wp2
  obtain ⟨W, hW⟩ : ∃ W, w2.alloc (.cells #[.slice uA xs.length uc] 26) = W := ⟨_, rfl⟩
  rw [hW] at HI3 hzw ⊢
  clear hW hbox hB5
  have HIa := hid (HI3.out.below (below_drewN (Below.refl _ _) 1))
  have t3 := HI3.out.2.2.2.1.cell 0
  have a3 := HI3.out.2.2.1.cell 0
  have f3 := HI3.out.2.2.1.frozen 0
  go_region_with (go_at_call 96; refine (word2_any (w.heap.size + 1) 240 _ xs _ HIa.out.2.1 (by decide) HIa.out.2.2.2.2.ints (by omega)).mono ?_; rintro e w8 ⟨q, ys, rfl, hoq, hly, hd8⟩; have HI8 := hid (HIa.out.drawn hd8.cur hd8.turned hB6); have HQ8 := hid (hoq.mono (show w.heap.size + 1 ≤ _ by simp at hzw ⊢; omega)); clear hd8 hoq; have t8 := HI8.out.2.2.2.1.cell 0; have a8 := HI8.out.2.2.1.cell 0; have f8 := HI8.out.2.2.1.frozen 0)
  all_goals
    have H9 := hid ((DZ.of HI8.out).box hB6 (.slice uA xs.length uc))
    have a9 := H9.out.2.1.cell 0
    go_wp2
  all_goals
    refine bodyPost_ret (v := .tuple #[.agg #[.slice uA xs.length uc], .int .i64 s, q]) (by simp [results, Try.results24, go_sem, a9]) rfl ⟨_, xs, _, _, ys, rfl, HW.out, H9.out.2.2.2.mono (show w.heap.size ≤ _ by omega), hl2, HQ8.out.box (Nat.le_refl _) _, hly, H9.out.1⟩
set_option maxHeartbeats 1600000 in
theorem drawToggleCycles_any (v : Value) (bs : List Int) (w : World) (hb : BytesB w w.heap.size v bs) (hl : bs.length ≤ 1048576) :
    Calls Try.prog 38 #[v] w fun (r : Ending) w' => ∃ u xs q ys, r = .returned (.tuple #[.agg #[u], q]) ∧ OwnI 3 w' w.heap.size u xs ∧ xs.length ≤ 21 ∧ OwnI 3 w' w.heap.size q ys ∧ ys.length ≤ 120 ∧ Below w.heap.size w w' := by
  have HBy := hid hb
  obtain ⟨vA, vc, rfl, -⟩ := hb
  have HA0 := hid (Blk.new w 26 #[.slice none 0 0])
  have HB0 := hid (below_alloc (Below.refl _ w) (.cells #[.slice none 0 0] 26))
  go_enter Try.func38, Try.ntmps38
  go_wp2_with fail
  have HC := hid (Cur.new (w.alloc (.cells #[.slice none 0 0] 26)) _ bs (w.heap.size + 1) (by simp) ((HBy.out.below HB0.out).up (by simp)) hl)
  have HB1 := hid (below_alloc HB0.out (.cells #[.slice vA bs.length vc, .int .i64 0, .int .u64 0] 79))
  have HA1 := hid (HA0.out.alloc (.cells #[.slice vA bs.length vc, .int .i64 0, .int .u64 0] 79))
  refine (poset_any (w.heap.size + 1) 0 6 _ HC.out (by decide) (by decide) (by decide)).mono ?_
  rintro e w2 ⟨u, xs, rfl, ho, hl2, hd⟩
  have HB2 := hid (hd.belowAll HB1.out (by omega))
  have HA2 := hid (HA1.out.turned hd.turned (Or.inl (by omega)))
  have HO := hid (ho.mono (show w.heap.size + 2 ≤ _ by simp))
  have HC2 := hid hd.cur
  have hz2 : w.heap.size + 2 ≤ w2.heap.size := by have := hd.turned.size; simpa using this
  obtain ⟨uA, uc, rfl, -⟩ := HO.out.shape
  clear ho hd HA0 HA1 HB0 HB1 HC
  obtain ⟨B5, hB5⟩ : ∃ B5, w2.heap.size = B5 := ⟨_, rfl⟩
  have hbox := (Blk.new w2 26 #[.slice uA xs.length uc]).cell 0
  have HI3 : Hid (DI 3 26 w 240 B5 (.slice uA xs.length uc) xs (w2.alloc (.cells #[.slice uA xs.length uc] 26))) :=
    hid ⟨below_alloc HB2.out _, (HC2.out.le (by omega)).below (below_alloc (Below.refl _ _) _), HA2.out.alloc _, by rw [← hB5]; exact Blk.new w2 _ _, HO.out.alloc _⟩
  have hB6 : w.heap.size + 2 ≤ B5 := by omega
  have hzw : w.heap.size + 2 ≤ (w2.alloc (.cells #[.slice uA xs.length uc] 26)).heap.size := by simp; omega
  clear HB2 HC2 HA2 HO hz2
  go_wp2
  obtain ⟨W, hW⟩ : ∃ W, w2.alloc (.cells #[.slice uA xs.length uc] 26) = W := ⟨_, rfl⟩
  rw [hW] at HI3 hzw ⊢
  clear hW hbox hB5
  have HIa := hid (HI3.out.below (below_drewN (Below.refl _ _) 1))
  have t3 := HI3.out.2.2.2.1.cell 0
  have a3 := HI3.out.2.2.1.cell 0
  have f3 := HI3.out.2.2.1.frozen 0
  go_region_with (go_at_call 96; refine (word2_any (w.heap.size + 1) 240 _ xs _ HIa.out.2.1 (by decide) HIa.out.2.2.2.2.ints (by omega)).mono ?_; rintro e w8 ⟨q, ys, rfl, hoq, hly, hd8⟩; have HI8 := hid (HIa.out.drawn hd8.cur hd8.turned hB6); have HQ8 := hid (hoq.mono (show w.heap.size + 1 ≤ _ by simp at hzw ⊢; omega)); clear hd8 hoq; have t8 := HI8.out.2.2.2.1.cell 0; have a8 := HI8.out.2.2.1.cell 0; have f8 := HI8.out.2.2.1.frozen 0)
  all_goals
    have H9 := hid ((DZ.of HI8.out).box hB6 (.slice uA xs.length uc))
    have a9 := H9.out.2.1.cell 0
    go_wp2
  all_goals
    refine bodyPost_ret (v := .tuple #[.agg #[.slice uA xs.length uc], q]) (by simp [results, Try.results38, go_sem, a9]) rfl ⟨_, xs, _, ys, rfl, H9.out.2.2.2.mono (show w.heap.size ≤ _ by omega), hl2, HQ8.out.box (Nat.le_refl _) _, hly, H9.out.1⟩
set_option maxHeartbeats 1600000 in
theorem drawToggleAt_any (v : Value) (bs : List Int) (w : World) (hb : BytesB w w.heap.size v bs) (hl : bs.length ≤ 1048576) :
    Calls Try.prog 34 #[v] w fun (r : Ending) w' => ∃ u xs s k, r = .returned (.tuple #[.agg #[u], .int .i64 s, .int .i64 k]) ∧ (Lit.int .i64 s).wf = true ∧ OwnI 3 w' w.heap.size u xs ∧ xs.length ≤ 21 ∧ -100 ≤ k ∧ k ≤ 100 ∧ Below w.heap.size w w' := by
  have HBy := hid hb
  obtain ⟨vA, vc, rfl, -⟩ := hb
  have HA0 := hid (Blk.new w 26 #[.slice none 0 0])
  have HB0 := hid (below_alloc (Below.refl _ w) (.cells #[.slice none 0 0] 26))
  go_enter Try.func34, Try.ntmps34
  go_wp2_with fail
  have HC := hid (Cur.new (w.alloc (.cells #[.slice none 0 0] 26)) _ bs (w.heap.size + 1) (by simp) ((HBy.out.below HB0.out).up (by simp)) hl)
  have HB1 := hid (below_alloc HB0.out (.cells #[.slice vA bs.length vc, .int .i64 0, .int .u64 0] 79))
  have HA1 := hid (HA0.out.alloc (.cells #[.slice vA bs.length vc, .int .i64 0, .int .u64 0] 79))
  refine (ideal_any (w.heap.size + 1) 0 10 _ HC.out (by decide) (by decide) (by decide)).mono ?_
  rintro e w2 ⟨u, xs, s, rfl, hwf, ho, hl2, hd⟩
  have HW := hid hwf
  clear hwf
  have HB2 := hid (hd.belowAll HB1.out (by omega))
  have HA2 := hid (HA1.out.turned hd.turned (Or.inl (by omega)))
  have HO := hid (ho.mono (show w.heap.size + 2 ≤ _ by simp))
  have HC2 := hid hd.cur
  have hz2 : w.heap.size + 2 ≤ w2.heap.size := by have := hd.turned.size; simpa using this
  obtain ⟨uA, uc, rfl, -⟩ := HO.out.shape
  clear ho hd HA0 HA1 HB0 HB1 HC
  obtain ⟨B5, hB5⟩ : ∃ B5, w2.heap.size = B5 := ⟨_, rfl⟩
  have hbox := (Blk.new w2 26 #[.slice uA xs.length uc]).cell 0
  have HI3 : Hid (DI 3 26 w 240 B5 (.slice uA xs.length uc) xs (w2.alloc (.cells #[.slice uA xs.length uc] 26))) :=
    hid ⟨below_alloc HB2.out _, (HC2.out.le (by omega)).below (below_alloc (Below.refl _ _) _), HA2.out.alloc _, by rw [← hB5]; exact Blk.new w2 _ _, HO.out.alloc _⟩
  have hB6 : w.heap.size + 2 ≤ B5 := by omega
  have hzw : w.heap.size + 2 ≤ (w2.alloc (.cells #[.slice uA xs.length uc] 26)).heap.size := by simp; omega
  clear HB2 HC2 HA2 HO hz2
  go_wp2
  obtain ⟨W, hW⟩ : ∃ W, w2.alloc (.cells #[.slice uA xs.length uc] 26) = W := ⟨_, rfl⟩
  rw [hW] at HI3 hzw ⊢
  clear hW hbox hB5
  have HIa := hid (HI3.out.below (below_drewN (Below.refl _ _) 1))
  have t3 := HI3.out.2.2.2.1.cell 0
  have a3 := HI3.out.2.2.1.cell 0
  have f3 := HI3.out.2.2.1.frozen 0
  have hwl : IntKind.i64.wrap ((xs.length : Int) + 2) = (xs.length : Int) + 2 := by rw [IntKind.wrap_i64]; omega
  go_region_with (first | (go_at_call 107; refine (pick_any (w.heap.size + 1) 242 _ _ HI8.out.2.1 (by decide)).mono ?_; rintro e w9 ⟨m2, hm2, rfl, hc9, ht9⟩; have HI9 := hid (HI8.out.drawn hc9 ht9 hB6); clear hc9 ht9; have hM2 : m2 ≤ 1 := (by omega); clear hm2; have hwm : IntKind.i64.wrap ((m : Int) - (m2 : Int)) = (m : Int) - (m2 : Int) := (by rw [IntKind.wrap_i64]; omega); have t9 := HI9.out.2.2.2.1.cell 0; have a9 := HI9.out.2.2.1.cell 0; have f9 := HI9.out.2.2.1.frozen 0) | (go_at_call 107; refine (pick_any (w.heap.size + 1) 240 _ _ HIa.out.2.1 (by decide)).mono ?_; rintro e w8 ⟨m, hm, rfl, hc8, ht8⟩; have HI8 := hid (HIa.out.drawn hc8 ht8 hB6); clear hc8 ht8; have hM : m ≤ 50 := (by omega); clear hm; have t8 := HI8.out.2.2.2.1.cell 0; have a8 := HI8.out.2.2.1.cell 0; have f8 := HI8.out.2.2.1.frozen 0))
  all_goals
    have H9 := hid ((DZ.of HI9.out).box hB6 (.slice uA xs.length uc))
    have a9 := H9.out.2.1.cell 0
    go_wp2
  all_goals
    refine bodyPost_ret (v := .tuple #[.agg #[.slice uA xs.length uc], .int .i64 s, .int .i64 ((m : Int) - (m2 : Int))]) (by simp [results, Try.results34, go_sem, a9]) rfl ⟨_, xs, _, (m : Int) - (m2 : Int), rfl, HW.out, H9.out.2.2.2.mono (show w.heap.size ≤ _ by omega), hl2, by omega, by omega, H9.out.1⟩
end Go.Proofs.Ytpdoheagfjeefaa

/- IsRanked. -/
namespace Go.Proofs.Ytpdoheagfjeefaa
open Go.RowKit Go.WideShapes Go.ChangeShapes
set_option linter.unusedVariables false

def rankP (hs : List Int) (p : Nat × Nat) : Bool := hs.getD p.2 0 == hs.getD p.1 0 + 1
def rankedN (hs : List Int) (ps : List (Nat × Nat)) (k : Nat) : Bool := (ps.take k).all (rankP hs)
def rankedB (xs : List Int) : Bool := rankedN (heightsL xs) (coversP xs) (coversP xs).length
def ansIR (xs : List Int) : Bool := good xs && rankedB xs
theorem ansIR_no {xs : List Int} (h : good xs = false) : ansIR xs = false := by simp [ansIR, h]
theorem ansIR_yes {xs : List Int} (h : good xs = true) : ansIR xs = rankedB xs := by simp [ansIR, h]
theorem rankedN_step {hs : List Int} {ps : List (Nat × Nat)} {k : Nat} (hk : k < ps.length) : rankedN hs ps (k + 1) = (rankedN hs ps k && rankP hs (ps.getD k (0, 0))) := by
  have e : ps.take (k + 1) = ps.take k ++ [ps.getD k (0, 0)] := by
    rw [List.take_succ_eq_append_getElem hk]; simp [List.getD, hk]
  unfold rankedN
  rw [e, List.all_append]
  simp
theorem rankedN_no {hs : List Int} {ps : List (Nat × Nat)} {k : Nat} (hk : k < ps.length) (h : rankP hs (ps.getD k (0, 0)) = false) : rankedN hs ps ps.length = false := by
  rw [Bool.eq_false_iff]
  intro hc
  unfold rankedN at hc
  rw [List.take_length] at hc
  have := List.all_eq_true.1 hc (ps.getD k (0, 0)) (by simp [List.getD, hk])
  rw [h] at this; cases this
theorem covIn_bound {xs : List Int} {j : Nat} (i : Nat) : ∀ p ∈ covIn xs j i, p.1 = j ∧ p.2 < i := by
  induction i with
  | zero => simp [covIn]
  | succ i ih =>
    intro p hp
    unfold covIn at hp
    split at hp
    · rw [List.mem_append, List.mem_singleton] at hp
      rcases hp with hp | hp
      · have := ih p hp; omega
      · subst hp; exact ⟨rfl, Nat.lt_succ_self _⟩
    · have := ih p hp; omega
theorem covPS_bound {xs : List Int} {n : Nat} (j : Nat) : ∀ p ∈ covPS xs n j, p.1 < j ∧ p.2 < n := by
  induction j with
  | zero => simp [covPS]
  | succ j ih =>
    intro p hp
    unfold covPS at hp
    rw [List.mem_append] at hp
    rcases hp with hp | hp
    · have := ih p hp; omega
    · have := covIn_bound n p hp; omega
theorem coversP_bound {xs : List Int} {k : Nat} (hg : good xs = true) (hk : k < (coversP xs).length) : ((coversP xs).getD k (0, 0)).1 < xs.length ∧ ((coversP xs).getD k (0, 0)).2 < xs.length := by
  have h : (coversP xs).getD k (0, 0) ∈ coversP xs := by simp [List.getD, hk]
  rw [coversP_yes hg] at h ⊢
  exact covPS_bound _ _ h
theorem heights_bound {xs : List Int} (hg : good xs = true) (e : Nat) : 0 ≤ (heightsL xs).getD e 0 ∧ (heightsL xs).getD e 0 ≤ e := by
  rw [heightsL_yes hg]
  exact (HB_out xs xs.length xs.length (Nat.le_refl _)).2 e
theorem heights_len {xs : List Int} (hg : good xs = true) : (heightsL xs).length = xs.length := by
  rw [heightsL_yes hg]
  exact (HB_out xs xs.length xs.length (Nat.le_refl _)).1
end Go.Proofs.Ytpdoheagfjeefaa
