/- Texts Covers, Slide, one behind the other. -/
import Derived.Deep.RegionHeld3
import Derived.Deep.RegionWith
import Derived.Test.YtpdoheagfjeefaaPkLinearRankedProof01
import Derived.Test.YtpdoheagfjeefaaPkLinearRankedProof02
import Derived.Test.YtpdoheagfjeefaaPkLinearRankedProof10
import Derived.Test.YtpdoheagfjeefaaPkLinearRankedProof12
import Derived.Test.YtpdoheagfjeefaaPkLinearRankedProof18
/- CoversOf. -/
namespace Go.Proofs.Ytpdoheagfjeefaa
open Go.RowKit Go.WideShapes Go.ChangeShapes
set_option linter.unusedVariables false

theorem Pairs.mono {ti ts : TypeId} {w : World} {B B' : Nat} {v : Value} {ps : List (Nat × Nat)} (h : Pairs ti ts w B v ps) (hB : B' ≤ B) : Pairs ti ts w B' v ps := by
  obtain ⟨us, h1, h2, h3, h4⟩ := h
  refine ⟨us, h1, ⟨h2.1, ?_⟩, fun j u p hu hp => ?_, h4⟩
  · rcases h2.2 with h2 | ⟨g, cap, cur, hv, hg, r⟩
    · exact .inl h2
    · exact .inr ⟨g, cap, cur, hv, by omega, r⟩
  · obtain ⟨g, e, hg, hb⟩ := h3 j u p hu hp
    exact ⟨g, e, by omega, hb⟩
theorem Pairs.ss {ti ts : TypeId} {w : World} {B : Nat} {v : Value} {ps : List (Nat × Nat)} (h : Pairs ti ts w B v ps) : OwnSS ti ts w B w.heap.size v (ps.map fun p => [(p.1 : Int), (p.2 : Int)]) := by
  obtain ⟨us, h1, h2, h3, h4⟩ := h
  refine ⟨us, by simp [h1], by simpa using h2, fun k hk => (h2.lt k hk).2, ?_, ?_⟩
  · intro j u l hu hl
    rw [List.getElem?_map] at hl
    rcases hp : ps[j]? with _ | p
    · rw [hp] at hl; cases hl
    · rw [hp] at hl
      simp only [Option.map_some, Option.some.injEq] at hl
      subst hl
      obtain ⟨g, rfl, hB, hg⟩ := h3 j u p hu hp
      refine ⟨?_, fun k hk => ?_⟩
      · exact Blk.own (xs := [(p.1 : Int), (p.2 : Int)]) hg hB (by simp)
      · simp only [Value.ownBlock, Option.some.injEq] at hk
        subst hk; exact hg.lt
  · intro i j u u' hij hu hu'
    refine .inr fun e => hij ?_
    have hi : i < ps.length := by
      rcases Nat.lt_or_ge i us.length with h | h
      · omega
      · rw [List.getElem?_eq_none h] at hu; cases hu
    have hj : j < ps.length := by
      rcases Nat.lt_or_ge j us.length with h | h
      · omega
      · rw [List.getElem?_eq_none h] at hu'; cases hu'
    obtain ⟨g, rfl, _, _⟩ := h3 i u _ hu (List.getElem?_eq_getElem hi)
    obtain ⟨g', rfl, _, _⟩ := h3 j u' _ hu' (List.getElem?_eq_getElem hj)
    simp only [Value.ownBlock, Option.some.injEq] at e
    subst e
    exact h4 i j _ hu hu'

def bitAt (xs : List Int) (i j : Nat) : Bool := (xs.getD i 0).toNat.testBit j
def coverB (xs : List Int) (j i : Nat) : Bool := bitAt xs i j && !((List.range i).any fun k => decide (j < k) && (bitAt xs i k && bitAt xs k j))
theorem coverB_true {xs : List Int} {j i : Nat} (h1 : bitAt xs i j = true) (h2 : ∀ k, j < k → k < i → (bitAt xs i k && bitAt xs k j) = false) : coverB xs j i = true := by
  unfold coverB
  rw [h1, Bool.true_and, Bool.not_eq_true', List.any_eq_false]
  intro k hk
  rw [List.mem_range] at hk
  by_cases hjk : j < k
  · rw [h2 k hjk hk]; simp
  · simp [hjk]
theorem coverB_false {xs : List Int} {j i k : Nat} (h1 : j < k) (h2 : k < i) (h3 : (bitAt xs i k && bitAt xs k j) = true) : coverB xs j i = false := by
  unfold coverB
  have : ((List.range i).any fun k => decide (j < k) && (bitAt xs i k && bitAt xs k j)) = true := List.any_eq_true.2 ⟨k, List.mem_range.2 h2, by rw [h3]; simp [h1]⟩
  rw [this]; simp
theorem good_bit {xs : List Int} (hg : good xs = true) {i j : Nat} (hi : i < xs.length) (h : bitAt xs i j = true) : j < i := by
  have h1 := okAt_range (good_at hg hi)
  refine testBit_lt (n := i) ?_ h
  have := Nat.one_le_two_pow (n := i)
  omega
theorem coverB_lt {xs : List Int} (hg : good xs = true) {i j : Nat} (hi : i < xs.length) (h : i ≤ j) : coverB xs j i = false := by
  unfold coverB
  cases hb : bitAt xs i j
  · rfl
  · have := good_bit hg hi hb
    omega
/-- the top of what is below i: what i covers -/
theorem cover_top {xs : List Int} (hg : good xs = true) {i j : Nat} (hi : i < xs.length) : (top xs (xs.getD i 0).toNat).testBit j = coverB xs j i := by
  unfold top
  rw [sub_testBit, Bool.eq_iff_iff]
  simp only [Bool.and_eq_true, Bool.not_eq_true']
  constructor
  · rintro ⟨h1, h2⟩
    refine coverB_true h1 fun k hjk hki => ?_
    cases hc : (bitAt xs i k && bitAt xs k j)
    · rfl
    · simp only [Bool.and_eq_true] at hc
      have : (under xs (xs.getD i 0).toNat).testBit j = true := (underN_testBit _ _ _ _).2 ⟨k, by omega, hc.1, hc.2⟩
      rw [this] at h2; cases h2
  · intro h
    have h1 : bitAt xs i j = true := by
      unfold coverB at h
      simp only [Bool.and_eq_true] at h
      exact h.1
    refine ⟨h1, ?_⟩
    cases hu : (under xs (xs.getD i 0).toNat).testBit j
    · rfl
    · obtain ⟨k, hk, ha, hb⟩ := (underN_testBit _ _ _ _).1 hu
      have h3 := good_bit hg hi ha
      have h4 := good_bit hg hk hb
      rw [coverB_false h4 h3 (by simp only [Bool.and_eq_true]; exact ⟨ha, hb⟩)] at h
      cases h
def covIn (xs : List Int) (j : Nat) : Nat → List (Nat × Nat)
  | 0 => []
  | i + 1 => if coverB xs j i then covIn xs j i ++ [(j, i)] else covIn xs j i
def covPS (xs : List Int) (n : Nat) : Nat → List (Nat × Nat)
  | 0 => []
  | j + 1 => covPS xs n j ++ covIn xs j n
theorem covIn_length (xs : List Int) (j i : Nat) : (covIn xs j i).length ≤ i := by
  induction i with
  | zero => simp [covIn]
  | succ i ih =>
    unfold covIn
    split
    · rw [List.length_append, List.length_singleton]; omega
    · omega
theorem covPS_length (xs : List Int) (n j : Nat) : (covPS xs n j).length ≤ n * j := by
  induction j with
  | zero => simp [covPS]
  | succ j ih =>
    unfold covPS
    have := covIn_length xs j n
    rw [List.length_append, Nat.mul_succ]
    omega
theorem covIn_start {xs : List Int} (hg : good xs = true) {j : Nat} (i : Nat) (hi : i ≤ j + 1) (hj : i ≤ xs.length) : covIn xs j i = [] := by
  induction i with
  | zero => rfl
  | succ i ih =>
    unfold covIn
    rw [coverB_lt hg (by omega) (by omega)]
    exact ih (by omega) (by omega)
def coversP (xs : List Int) : List (Nat × Nat) := if good xs then covPS xs xs.length xs.length else []
def coversL (xs : List Int) : List (List Int) := (coversP xs).map fun p => [(p.1 : Int), (p.2 : Int)]
theorem coversP_length (xs : List Int) : (coversP xs).length ≤ 100 := by
  unfold coversP
  split
  · rename_i h
    have h1 := covPS_length xs xs.length xs.length
    have h2 := (good_length h).2
    have h3 : xs.length * xs.length ≤ 10 * 10 := Nat.mul_le_mul h2 h2
    omega
  · simp
theorem pairs_getD (ps : List (Nat × Nat)) (j : Nat) : ((ps.map fun p => [(p.1 : Int), (p.2 : Int)]).getD j []).length ≤ 2 := by
  simp only [List.getD, List.getElem?_map]
  cases ps[j]? <;> simp
theorem pairs_off (ps : List (Nat × Nat)) (j : Nat) : offL (ps.map fun p => [(p.1 : Int), (p.2 : Int)]) j ≤ 2 * j := by
  induction j with
  | zero => simp [offL]
  | succ j ih =>
    have := pairs_getD ps j
    have h2 : offL (ps.map fun p => [(p.1 : Int), (p.2 : Int)]) (j + 1) = offL (ps.map fun p => [(p.1 : Int), (p.2 : Int)]) j + ((ps.map fun p => [(p.1 : Int), (p.2 : Int)]).getD j []).length := rfl
    omega
theorem coversL_small (xs : List Int) : SSmall (coversL xs) := by
  have h1 := coversP_length xs
  have h0 : (coversL xs).length = (coversP xs).length := by simp [coversL]
  refine ⟨by omega, fun j _ => ?_, ?_⟩
  · have := pairs_getD (coversP xs) j
    show ((coversL xs).getD j []).length ≤ _
    unfold coversL
    omega
  · have := pairs_off (coversP xs) (coversL xs).length
    unfold coversL at this ⊢
    unfold coversL at h0
    omega

theorem poCovers_any (v : Value) (xs : List Int) (j i : Nat) (w : World) (hv : Ints w v xs) (hg : good xs = true) (hj : j < xs.length) (hi : i < xs.length) :
    Calls Try.prog 160 #[.agg #[v], .int .i64 j, .int .i64 i] w fun r w' => r = .returned (.bool (coverB xs j i)) ∧ Below w.heap.size w w' := by
  have hl10 := (good_length hg).2
  obtain ⟨A, c, rfl, hA⟩ := hv
  obtain ⟨b, o, rfl, hbl, hc⟩ := hA (by intro h; simp [h] at hi)
  have hci := hc i hi
  have hok := okAt_small (good_at hg hi) (by omega)
  obtain ⟨x, hx⟩ : ∃ x, xs.getD i 0 = x := ⟨_, rfl⟩
  rw [hx] at hci hok
  obtain ⟨z, rfl⟩ := Int.eq_ofNat_of_zero_le hok.1
  have HG := hid hg
  have HC := hid hc
  have hb0 : bitAt xs i j = z.testBit j := by unfold bitAt; rw [hx, Int.toNat_natCast]
  have hbk : ∀ k, bitAt xs i k = z.testBit k := fun k => by unfold bitAt; rw [hx, Int.toNat_natCast]
  have HBK := hid hbk
  have hz10 : z < 1024 := by omega
  have hiz : (i : Int) < xs.length := by omega
  cases hbit : z.testBit j
  · have H : Hid (coverB xs j i = false) := hid (by unfold coverB; rw [hb0, hbit]; rfl)
    have Hbit := hid hbit
    clear hA hc hx hg hb0 hbk hbit hok
    go_enter Try.func160, Try.ntmps160
    go_wp2_with (go_at_call 135; refine (poIn_any z j (by omega) _).mono ?_; rw [Hbit.out]; rintro e w' ⟨rfl, rfl⟩)
    go_ret
    exact ⟨ret_bool H.out.symm, (Below.refl _ _).alloc (Nat.le_refl _) _⟩
  · have hji : j < i := good_bit hg hi (by rw [hb0]; exact hbit)
    have Hb0 := hid (hb0.trans hbit)
    have Hbit := hid hbit
    clear hA hc hx hg hb0 hbk hbit hok
    go_enter Try.func160, Try.ntmps160
    go_wp2_with (go_at_call 135; refine (poIn_any z j (by omega) _).mono ?_; rw [Hbit.out]; rintro e w' ⟨rfl, rfl⟩)
    go_loop [7] (fun q => ∃ k : Nat, j + 1 ≤ k ∧ k ≤ i ∧ q = .int .i64 k ∧ Hid (∀ e, j < e → e < k → (bitAt xs i e && bitAt xs e j) = false)) (fun q => i - (intOf q).toNat)
    case atStart => exact ⟨j + 1, Nat.le_refl _, by omega, by go_num, hid (fun e h1 h2 => by omega)⟩
    case round =>
      obtain ⟨k, hjk, hki, rfl, Hk⟩ := hrel
      by_cases hlt : k < i
      · have hlt' : (k : Int) < i := by omega
        have hkn : (k : Int) < xs.length := by omega
        cases hbk : z.testBit k
        · have Hbk := hid hbk
          clear hbk
          go_wp2_with (go_at_call 135; refine (poIn_any z k (by omega) _).mono ?_; rw [Hbk.out]; rintro e w' ⟨rfl, rfl⟩)
          go_round
          case rel => exact ⟨k + 1, by omega, by omega, by go_num, hid (fun e h1 h2 => by
            by_cases h : e = k
            · subst h; rw [HBK.out, Hbk.out]; rfl
            · exact Hk.out e h1 (by omega))⟩
          case measure => simp [intOf]; omega
        · have hck := HC.out k (by omega)
          have hok := okAt_small (good_at HG.out (show k < xs.length by omega)) (by omega)
          obtain ⟨y, hy⟩ : ∃ y, xs.getD k 0 = y := ⟨_, rfl⟩
          rw [hy] at hck hok
          obtain ⟨t, rfl⟩ := Int.eq_ofNat_of_zero_le hok.1
          have Hbk := hid hbk
          have Hkj : Hid (bitAt xs k j = t.testBit j) := hid (by unfold bitAt; rw [hy, Int.toNat_natCast])
          have tok1 : True := trivial
          clear hbk hy hok
          cases hbt : t.testBit j
          · have Hbt := hid hbt
            clear hbt
            go_wp2_with fail
            refine (poIn_any z k (by omega) _).mono ?_
            rw [Hbk.out]
            rintro e w' ⟨rfl, rfl⟩
            go_wp2_with fail
            refine (poIn_any t j (by omega) _).mono ?_
            rw [Hbt.out]
            rintro e w' ⟨rfl, rfl⟩
            go_wp2
            go_round
            case rel => exact ⟨k + 1, by omega, by omega, by go_num, hid (fun e h1 h2 => by
              by_cases h : e = k
              · subst h; rw [Hkj.out, Hbt.out, Bool.and_false]
              · exact Hk.out e h1 (by omega))⟩
            case measure => simp [intOf]; omega
          · have Hbt := hid hbt
            have H : Hid (coverB xs j i = false) := hid (coverB_false (k := k) (by omega) hlt (by rw [HBK.out, Hbk.out, Hkj.out, hbt]; rfl))
            clear hbt
            go_wp2_with fail
            refine (poIn_any z k (by omega) _).mono ?_
            rw [Hbk.out]
            rintro e w' ⟨rfl, rfl⟩
            go_wp2_with fail
            refine (poIn_any t j (by omega) _).mono ?_
            rw [Hbt.out]
            rintro e w' ⟨rfl, rfl⟩
            go_wp2
            go_ret
            exact ⟨ret_bool H.out.symm, (Below.refl _ _).alloc (Nat.le_refl _) _⟩
      · obtain rfl : k = i := by omega
        have H := hid (coverB_true Hb0.out Hk.out)
        go_wp2
        go_ret
        exact ⟨ret_bool H.out.symm, (Below.refl _ _).alloc (Nat.le_refl _) _⟩

theorem poPairs_any (v : Value) (xs : List Int) (w : World) (hv : Ints w v xs) (hg : good xs = true) :
    Calls Try.prog 106 #[.agg #[v]] w fun (r : Ending) w' => ∃ u, r = Ending.returned u ∧ Pairs 3 24 w' (w.heap.size + 1) u (covPS xs xs.length xs.length) ∧ Below w.heap.size w w' := by
  have hl10 := (good_length hg).2
  have HV := hid hv
  have HG := hid hg
  obtain ⟨A, c, rfl, -⟩ := hv
  obtain ⟨n, hn⟩ : ∃ n, xs.length = n := ⟨_, rfl⟩
  have Hn := hid hn
  rw [hn] at hl10 HV ⊢
  clear hg hn
  go_enter Try.func106, Try.ntmps106
  go_wp2
  go_loopw [3, 9] (fun q jj wr => ∃ j : Nat, j ≤ n ∧ jj = .int .i64 j ∧ Pairs 3 24 wr (w.heap.size + 1) q (covPS xs n j) ∧ Below (w.heap.size + 1) (w.alloc (.cells #[.slice A n c] 26)) wr) (fun _ jj _ => n - (intOf jj).toNat)
  case atStart => exact ⟨0, Nat.zero_le _, rfl, Pairs.nil _ _ _ _, Below.refl _ _⟩
  case round =>
    obtain ⟨j, hj, rfl, hP, hb⟩ := hrel
    have hbox := box_cell hb 0
    have hbz : w.heap.size < wr.heap.size := by have := hb.size; simp at this; omega
    have HPo := hid hP
    have HBo := hid hb
    clear hP hb
    by_cases hjn : j < n
    · have hl1 := covPS_length xs n j
      have hl3 : n * j ≤ 100 := by
        have : n * j ≤ 10 * 10 := Nat.mul_le_mul hl10 (by omega)
        omega
      go_wp2
      clear hbox hbz
      go_loopw [3, 15] (fun q ii wi => ∃ i : Nat, i ≤ n ∧ ii = .int .i64 i ∧ Pairs 3 24 wi (w.heap.size + 1) q (covPS xs n j ++ covIn xs j i) ∧ Below (w.heap.size + 1) (w.alloc (.cells #[.slice A n c] 26)) wi) (fun _ ii _ => n - (intOf ii).toNat)
      case atStart => exact ⟨0, Nat.zero_le _, rfl, by simpa [covIn] using HPo.out, HBo.out⟩
      case round =>
        obtain ⟨i, hi, rfl, hP, hb⟩ := hrel
        have hbox := box_cell hb 0
        have hbz : w.heap.size < wr.heap.size := by have := hb.size; simp at this; omega
        have hl2 := covIn_length xs j i
        obtain ⟨L, hL⟩ : ∃ L, covPS xs n j ++ covIn xs j i = L := ⟨_, rfl⟩
        have hll : L.length ≤ 200 := by rw [← hL, List.length_append]; omega
        rw [hL] at hP
        have HP := hid hP
        have HB := hid hb
        have HLL := hid hL
        clear hP hb hL hl2
        by_cases hin : i < n
        · have HIN : Hid (Ints wr (.slice A n c) xs) := hid (Ints.box HV.out HB.out)
          cases hcv : coverB xs j i
          · have Hcv := hid hcv
            clear hcv
            go_wp2_with (go_at_call 160; refine (poCovers_any _ xs j i _ HIN.out HG.out (by rw [Hn.out]; exact hjn) (by rw [Hn.out]; exact hin)).mono ?_; rw [Hcv.out]; rintro e w2 ⟨rfl, hb2⟩)
            go_roundw
            case rel => exact ⟨i + 1, by omega, by go_num, by (rw [covIn, if_neg (by rw [Hcv.out]; decide), HLL.out]; exact HP.out.below hb2), HB.out.trans (hb2.mono (by omega))⟩
            case measure => simp [intOf]; omega
          · have Hcv := hid hcv
            clear hcv
            go_wp2_with fail
            refine (poCovers_any _ xs j i _ HIN.out HG.out (by rw [Hn.out]; exact hjn) (by rw [Hn.out]; exact hin)).mono ?_
            rw [Hcv.out]
            rintro e w2 ⟨rfl, hb2⟩
            have HP1 := hid (HP.out.below hb2)
            have HB1 := hid (HB.out.trans (hb2.mono (by omega)))
            have hz1 : w.heap.size + 1 ≤ w2.heap.size := by have := hb2.size; omega
            clear hb2 hbox
            go_wp2_with (at_builtin; refine wpList_append_pair rfl _ _ 49 24 3 rfl Try.underlying49 Try.info24 (by decide) (w.heap.size + 1) _ _ j i rfl HP1.out rfl rfl (by omega) (by omega) ?_; intro q2 w3 hp2 hb3)
            go_roundw
            case rel => exact ⟨i + 1, by omega, by go_num, by (rw [covIn, if_pos Hcv.out, ← List.append_assoc, HLL.out]; exact hp2), HB1.out.trans hb3⟩
            case measure => simp [intOf]; omega
        · obtain rfl : i = n := by omega
          go_wp2
          go_roundw
          case rel => exact ⟨j + 1, by omega, by go_num, by (rw [covPS, HLL.out]; exact HP.out), HB.out⟩
          case measure => simp [intOf]; omega
    · obtain rfl : j = n := by omega
      go_wp2
      go_ret
      exact ⟨_, rfl, HPo.out, below_box HBo.out⟩

theorem covers_post {u : Value} {xs : List Int} {w' : World} {B : Nat} {ps : List (Nat × Nat)} (h : Pairs 3 24 w' B u ps) (e : coversP xs = ps) : OwnSS 3 24 w' B w'.heap.size u (coversL xs) := by
  unfold coversL; rw [e]; exact h.ss
theorem coversP_yes {xs : List Int} (h : good xs = true) : coversP xs = covPS xs xs.length xs.length := if_pos h
theorem coversP_no {xs : List Int} (h : good xs = false) : coversP xs = [] := by simp [coversP, h]

set_option maxHeartbeats 4000000 in
theorem implCoversP_any (v : Value) (xs : List Int) (w : World) (hv : Ints w v xs) (hl : xs.length ≤ 1048576) :
    Calls Try.prog 33 #[.agg #[v]] w fun (r : Ending) w' => ∃ u, r = Ending.returned (.tuple #[u, .bool (good xs)]) ∧ Pairs 3 24 w' (w.heap.size + 1) u (coversP xs) ∧ Below w.heap.size w w' := by
  have HV := hid hv
  cases hg : good xs
  · have HG := hid hg
    have HN := hid (coversP_no hg)
    clear hv hg
    go_enter Try.func33, Try.ntmps33
    go_wp2_with (go_at_call 89; refine (implIsPoset_any _ xs _ (HV.out.alloc _) hl).mono ?_; rw [HG.out]; rintro e w1 ⟨rfl, hb1⟩)
    go_ret2
    exact ⟨_, rfl, by rw [HN.out]; exact Pairs.nil _ _ _ _, ((Below.refl _ _).alloc (Nat.le_refl _) _).trans (hb1.mono (by simp))⟩
  · have hl10 := (good_length hg).2
    have HG := hid hg
    have HY := hid (coversP_yes hg)
    have HSM := hid (good_small hg)
    have HCT : Hid (∀ i j, i < xs.length → (top xs (xs.getD i 0).toNat).testBit j = coverB xs j i) := hid (fun i j hi => cover_top hg hi)
    have HST : Hid (∀ j, j < xs.length → covIn xs j (j + 1) = []) := hid (fun j hj => covIn_start hg (j + 1) (Nat.le_refl _) hj)
    have HOK : Hid (∀ i, i < xs.length → 0 ≤ xs.getD i 0 ∧ xs.getD i 0 < 512) := hid (fun i hi => okAt_small (good_at hg hi) (by omega))
    obtain ⟨A, c, rfl, hA⟩ := hv
    have HA := hid hA
    obtain ⟨n, hn⟩ : ∃ n, xs.length = n := ⟨_, rfl⟩
    have Hn := hid hn
    rw [hn] at hl10 HV HA HY HCT HST HOK ⊢
    clear hg hn hA
    go_enter Try.func33, Try.ntmps33
    go_wp2_with fail
    refine (implIsPoset_any _ xs _ (HV.out.alloc _) hl).mono ?_
    rw [HG.out]
    rintro e w1 ⟨rfl, hb1⟩
    have hbox := ((At.new w (.slice A n c) 26).below hb1).1
    have hbx2 := ((At.new w (.slice A n c) 26).below hb1).2
    have HB1 := hid (hb1.mono (show w.heap.size + 1 ≤ _ by simp))
    clear hb1
    go_wp2
    clear hbox hbx2
    go_loopw [4, 13] (fun q jj wr => ∃ j : Nat, j ≤ n ∧ jj = .int .i64 j ∧ Pairs 3 24 wr (w.heap.size + 1) q (covPS xs n j) ∧ Below (w.heap.size + 1) (w.alloc (.cells #[.slice A n c] 26)) wr) (fun _ jj _ => n - (intOf jj).toNat)
    case atStart => exact ⟨0, Nat.zero_le _, rfl, Pairs.nil _ _ _ _, HB1.out⟩
    case round =>
      obtain ⟨j, hj, rfl, hP, hb⟩ := hrel
      have HPo := hid hP
      have HBo := hid hb
      clear hP hb
      by_cases hjn : j < n
      · have hl1 := covPS_length xs n j
        have hl3 : n * j ≤ 100 := by
          have : n * j ≤ 10 * 10 := Nat.mul_le_mul hl10 (by omega)
          omega
        go_wp2
        go_loopw [4, 6] (fun q ii wi => ∃ i : Nat, j + 1 ≤ i ∧ i ≤ n ∧ ii = .int .i64 i ∧ Pairs 3 24 wi (w.heap.size + 1) q (covPS xs n j ++ covIn xs j i) ∧ Below (w.heap.size + 1) (w.alloc (.cells #[.slice A n c] 26)) wi) (fun _ ii _ => n - (intOf ii).toNat)
        case atStart => exact ⟨j + 1, Nat.le_refl _, by omega, by go_num, by (rw [HST.out j hjn, List.append_nil]; exact HPo.out), HBo.out⟩
        case round =>
          obtain ⟨i, hji, hi, rfl, hP, hb⟩ := hrel
          have hbox := box_cell hb 0
          have hbz : w.heap.size < wr.heap.size := by have := hb.size; simp at this; omega
          have hl2 := covIn_length xs j i
          obtain ⟨L, hL⟩ : ∃ L, covPS xs n j ++ covIn xs j i = L := ⟨_, rfl⟩
          have hll : L.length ≤ 200 := by rw [← hL, List.length_append]; omega
          rw [hL] at hP
          have HP := hid hP
          have HB := hid hb
          have HLL := hid hL
          clear hP hL hl2
          by_cases hin : i < n
          · obtain ⟨b, o, rfl, hbl, hc⟩ := HA.out (by intro h; have := Hn.out; rw [h] at this; simp at this; omega)
            have hcell : wr.cell? ⟨b, o + i, none⟩ = some (.int .i64 (xs.getD i 0)) := by
              rw [(below_box hb).cell (p := ⟨b, o + i, none⟩) hbl]; exact hc i hin
            have hok := HOK.out i hin
            have hct := HCT.out i j hin
            obtain ⟨x, hx⟩ : ∃ x, xs.getD i 0 = x := ⟨_, rfl⟩
            rw [hx] at hcell hok hct
            obtain ⟨z, rfl⟩ := Int.eq_ofNat_of_zero_le hok.1
            rw [Int.toNat_natCast] at hct
            have HIN : Hid (Ints wr (.slice (some ⟨b, o, none⟩) n c) xs) := hid (Ints.box HV.out HB.out)
            obtain ⟨t, ht⟩ : ∃ t, top xs z = t := ⟨_, rfl⟩
            have ht10 : t < 1024 := by rw [← ht]; exact Nat.lt_of_le_of_lt (sub_le _ _) (by omega)
            have HT : Hid (t.testBit j = coverB xs j i) := hid (by rw [← ht]; exact hct)
            have HTT := hid ht
            have hz3 : z < 1024 := by omega
            have hin' : (i : Int) < n := by omega
            clear hb hc hx hct ht
            cases hcv : coverB xs j i
            · have Hcv := hid (HT.out.trans hcv)
              have Hc2 := hid hcv
              clear hcv
              go_wp2
              go_region_with (first | (go_at_call 108; refine (top_any _ xs z _ HIN.out.drew (by rw [Hn.out]; exact hl10) hz3 (HSM.out z)).mono ?_; rw [HTT.out]; rintro e w2 ⟨rfl, hb2⟩; have HP2 := hid ((HP.out.below (Go.Joins.below_draws _ _ 1)).below hb2); have HB2 := hid (HB.out.drew.trans (hb2.mono (by simp; omega))); clear hb2) | (go_at_call 94; refine (hasElement_any t j (by omega) (by omega) _).mono ?_; rw [Hcv.out]; rintro e w' ⟨rfl, rfl⟩))
              all_goals (go_wp2; go_roundw)
              all_goals first
                | exact ⟨i + 1, by omega, by omega, by go_num, by (rw [covIn, if_neg (by rw [Hc2.out]; decide), HLL.out]; exact HP2.out), HB2.out⟩
                | (simp [intOf]; omega)
            · have Hcv := hid (HT.out.trans hcv)
              have Hc2 := hid hcv
              clear hcv
              go_wp2
              go_region_with (first | (go_at_call 108; refine (top_any _ xs z _ HIN.out.drew (by rw [Hn.out]; exact hl10) hz3 (HSM.out z)).mono ?_; rw [HTT.out]; rintro e w2 ⟨rfl, hb2⟩; have HP1 := hid ((HP.out.below (Go.Joins.below_draws _ _ 1)).below hb2); have HB1' := hid (HB.out.drew.trans (hb2.mono (by simp; omega))); have hz1 : w.heap.size + 1 ≤ w2.heap.size := Nat.le_trans (Nat.succ_le_of_lt hbz) hb2.size; clear hb2) | (go_at_call 94; refine (hasElement_any t j (by omega) (by omega) _).mono ?_; rw [Hcv.out]; rintro e w' ⟨rfl, rfl⟩))
              all_goals (go_wp2_with (at_builtin; refine wpList_append_pair rfl _ _ 49 24 3 rfl Try.underlying49 Try.info24 (by decide) (w.heap.size + 1) _ _ j i rfl HP1.out rfl rfl (by omega) (by omega) ?_; intro q2 w3 hp2 hb3))
              all_goals go_roundw
              all_goals first
                | exact ⟨i + 1, by omega, by omega, by go_num, by (rw [covIn, if_pos Hc2.out, ← List.append_assoc, HLL.out]; exact hp2), HB1'.out.trans hb3⟩
                | (simp [intOf]; omega)
          · obtain rfl : i = n := by omega
            clear hb
            go_wp2
            go_roundw
            case rel => exact ⟨j + 1, by omega, by go_num, by (rw [covPS, HLL.out]; exact HP.out), HB.out⟩
            case measure => simp [intOf]; omega
      · obtain rfl : j = n := by omega
        go_wp2
        go_ret2
        exact ⟨_, rfl, by rw [HY.out]; exact HPo.out, below_box HBo.out⟩
theorem implCoversOf_any (v : Value) (xs : List Int) (w : World) (hv : Ints w v xs) (hl : xs.length ≤ 1048576) :
    Calls Try.prog 33 #[.agg #[v]] w fun (r : Ending) w' => ∃ u, r = Ending.returned (.tuple #[u, .bool (good xs)]) ∧ OwnSS 3 24 w' w.heap.size w'.heap.size u (coversL xs) ∧ SSmall (coversL xs) ∧ Below w.heap.size w w' :=
  (implCoversP_any v xs w hv hl).mono fun _ _ ⟨u, he, hp, hb⟩ => ⟨u, he, covers_post (hp.mono (by omega)) rfl, coversL_small xs, hb⟩
end Go.Proofs.Ytpdoheagfjeefaa

/- SlideOf of both sides. -/
namespace Go.Proofs.Ytpdoheagfjeefaa
open Go.RowKit Go.WideShapes Go.ChangeShapes
set_option linter.unusedVariables false

/-- the chain behind k places, and its last element -/
def slS (xs ws : List Int) : Nat → List Int × Nat
  | 0 => ([(wN ws 0 : Int)], wN ws 0)
  | k + 1 => if coverB xs (slS xs ws k).2 (wN ws (k + 1)) = true then ((slS xs ws k).1 ++ [(wN ws (k + 1) : Int)], wN ws (k + 1)) else slS xs ws k
theorem slS_yes {xs ws : List Int} {k : Nat} (h : coverB xs (slS xs ws k).2 (wN ws (k + 1)) = true) : slS xs ws (k + 1) = ((slS xs ws k).1 ++ [(wN ws (k + 1) : Int)], wN ws (k + 1)) := if_pos h
theorem slS_no {xs ws : List Int} {k : Nat} (h : coverB xs (slS xs ws k).2 (wN ws (k + 1)) = false) : slS xs ws (k + 1) = slS xs ws k := if_neg (by rw [h]; decide)
theorem slS_last (xs ws : List Int) (k : Nat) : 1 ≤ (slS xs ws k).1.length ∧ (slS xs ws k).1.length ≤ k + 1 ∧ (slS xs ws k).1.getD ((slS xs ws k).1.length - 1) 0 = ((slS xs ws k).2 : Int) := by
  induction k with
  | zero => simp [slS]
  | succ k ih =>
    cases h : coverB xs (slS xs ws k).2 (wN ws (k + 1))
    · rw [slS_no h]; omega
    · rw [slS_yes h]
      refine ⟨by simp, by simp; omega, ?_⟩
      simp [List.getD]
theorem slS_stay {xs ws : List Int} {k : Nat} (m : Nat) (hm : k ≤ m) (h : ∀ i, k < i → i ≤ m → coverB xs (slS xs ws k).2 (wN ws i) = false) : slS xs ws m = slS xs ws k := by
  induction m with
  | zero => have : k = 0 := by omega
            subst this; rfl
  | succ m ih =>
    by_cases e : k = m + 1
    · subst e; rfl
    · have h1 := ih (by omega) (fun i a b => h i a (by omega))
      rw [slS_no (by rw [h1]; exact h (m + 1) (by omega) (Nat.le_refl _)), h1]
def sliL (xs ws : List Int) : List Int := (slS xs ws (xs.length - 1)).1
theorem coverB_row {xs : List Int} {j i : Nat} (h : coverB xs j i = true) : (row xs i).testBit j = true := by
  unfold coverB at h
  rw [Bool.and_eq_true] at h
  exact h.1
theorem LinX.inj {xs ws : List Int} (h : LinX xs ws) {j k : Nat} (hj : j < xs.length) (hk : k < xs.length) (e : wN ws j = wN ws k) : j = k := by
  rcases Nat.lt_trichotomy j k with h1 | h1 | h1
  · exact absurd e (h.ne h1 hk)
  · exact h1
  · exact absurd e.symm (h.ne h1 hj)
theorem LinX.later {xs ws : List Int} (h : LinX xs ws) {k i : Nat} (hk : k < xs.length) (hi : i < xs.length) (hc : coverB xs (wN ws k) (wN ws i) = true) : k < i := by
  obtain ⟨j, h1, h2⟩ := h.before hi (coverB_row hc)
  have := h.inj (show j < xs.length by omega) hk h2
  omega
/-- the first place that covers the last element -/
theorem LinX.slide {xs ws : List Int} (h : LinX xs ws) {k t : Nat} (hk : k < xs.length) (ht : t < xs.length) (hl : (slS xs ws k).2 = wN ws k) (h1 : ∀ j, j < t → coverB xs (wN ws k) (wN ws j) = false) (h2 : coverB xs (wN ws k) (wN ws t) = true) :
    k < t ∧ slS xs ws t = ((slS xs ws k).1 ++ [(wN ws t : Int)], wN ws t) := by
  have hkt := h.later hk ht h2
  refine ⟨hkt, ?_⟩
  obtain ⟨m, rfl⟩ : ∃ m, t = m + 1 := ⟨t - 1, by omega⟩
  have h3 := slS_stay (xs := xs) (ws := ws) (k := k) m (by omega) (fun i a b => by rw [hl]; exact h1 i (by omega))
  rw [slS_yes (by rw [h3, hl]; exact h2), h3]
theorem LinX.slide_end {xs ws : List Int} (h : LinX xs ws) {k : Nat} (hk : k < xs.length) (hl : (slS xs ws k).2 = wN ws k) (h1 : ∀ e, e < xs.length → coverB xs (wN ws k) e = false) : sliL xs ws = (slS xs ws k).1 := by
  unfold sliL
  rw [slS_stay (xs := xs) (ws := ws) (k := k) (xs.length - 1) (by omega) (fun i a b => by rw [hl]; exact h1 _ (h.rng i (by omega)).2)]
theorem LinX.slide_has {xs ws : List Int} (h : LinX xs ws) {k : Nat} (hall : ∀ j, j < xs.length → coverB xs (wN ws k) (wN ws j) = false) {e : Nat} (he : e < xs.length) : coverB xs (wN ws k) e = false := by
  obtain ⟨j, h1, rfl⟩ := h.surj he
  exact hall j h1
def abvK (xs : List Int) (j k : Nat) : List Int := ((List.range k).filter (coverB xs j)).map fun (e : Nat) => (e : Int)
theorem abvK_succ (xs : List Int) (j k : Nat) : abvK xs j (k + 1) = if coverB xs j k = true then abvK xs j k ++ [(k : Int)] else abvK xs j k := by
  unfold abvK
  rw [List.range_succ, List.filter_append, List.map_append]
  cases h : coverB xs j k <;> simp [h]
theorem abvK_length (xs : List Int) (j k : Nat) : (abvK xs j k).length ≤ k := by
  unfold abvK
  rw [List.length_map]
  exact Nat.le_trans (List.length_filter_le _ _) (by simp)
theorem abvK_mem (xs : List Int) (j k e : Nat) (he : e < k) : ((e : Int) ∈ abvK xs j k) ↔ coverB xs j e = true := by
  unfold abvK
  rw [List.mem_map]
  constructor
  · rintro ⟨a, h1, h2⟩
    have : a = e := by omega
    subst this
    exact (List.mem_filter.1 h1).2
  · intro h
    exact ⟨e, List.mem_filter.2 ⟨List.mem_range.2 he, h⟩, rfl⟩
theorem abvK_nil {xs : List Int} {j k : Nat} (h : (abvK xs j k).length = 0) (e : Nat) (he : e < k) : coverB xs j e = false := by
  cases hc : coverB xs j e
  · rfl
  · have := (abvK_mem xs j k e he).2 hc
    rw [List.length_eq_zero_iff] at h
    rw [h] at this; cases this
theorem liCovers_any (v : Value) (xs : List Int) (j : Nat) (w : World) (hv : Ints w v xs) (hg : good xs = true) (hj : j < xs.length) :
    Calls Try.prog 122 #[.agg #[v], .int .i64 j] w fun (r : Ending) w' => ∃ u, r = Ending.returned u ∧ OwnI 3 w' w.heap.size u (abvK xs j xs.length) ∧ Below w.heap.size w w' := by
  have HV := hid hv
  have HG := hid hg
  have hl10 := (good_length hg).2
  obtain ⟨A, c, rfl, -⟩ := hv
  clear hg
  go_enter Try.func122, Try.ntmps122
  have HB := hid (below_alloc (Below.refl _ w) (.cells #[(.slice A xs.length c)] 26))
  have A0 := hid (At.newAt w (.slice A xs.length c) 26 w.heap.size (by simp))
  go_wp2
  go_loopw [5, 10] (fun q i wr => ∃ k : Nat, k ≤ xs.length ∧ i = .int .i64 k ∧ OwnI 3 wr (w.heap.size + 1) q (abvK xs j k) ∧ At wr w.heap.size (.slice A xs.length c) ∧ Below w.heap.size w wr) (fun _ i _ => xs.length - (intOf i).toNat)
  case atStart => exact ⟨0, Nat.zero_le _, rfl, OwnI.nil _ _ _, A0.out, HB.out⟩
  case round =>
    obtain ⟨k, hk, rfl, ho, ha, hb⟩ := hrel
    have HO := hid ho
    have HA1 := hid ha
    have Hb := hid hb
    obtain ⟨qA, qn, qc, rfl⟩ := ho.shape3
    have hbx := ha.1
    clear ho ha hb
    by_cases hlt : k < xs.length
    · have hal := abvK_length xs j k
      have HS := hid (abvK_succ xs j k)
      go_wp2_with fail
      clear hbx
      refine (poCovers_any _ xs j k _ (HV.out.below Hb.out) HG.out hj hlt).mono ?_
      rintro e w2 ⟨rfl, hb2⟩
      have HO2 := hid (HO.out.below hb2)
      have HA2 := hid (HA1.out.below hb2)
      have Hb2 := hid (below_to Hb.out hb2)
      have hz2 : w.heap.size + 1 ≤ w2.heap.size := HA2.out.2
      clear hb2
      cases hc : coverB xs j k
      · have HE : Hid (abvK xs j (k + 1) = abvK xs j k) := hid (by rw [HS.out, hc]; rfl)
        clear hc
        go_wp2
        go_roundw
        case rel => exact ⟨k + 1, by omega, by go_num, by rw [HE.out]; exact HO2.out, HA2.out, Hb2.out⟩
        case measure => simp [intOf]; omega
      · have HE : Hid (abvK xs j (k + 1) = abvK xs j k ++ [(k : Int)]) := hid (by rw [HS.out, hc]; rfl)
        clear hc
        go_wp2_with (at_builtin; refine wpList_append_int rfl _ _ 24 3 rfl Try.underlying24 Try.info3 (w.heap.size + 1) _ (abvK xs j k) (k : Int) rfl HO2.out rfl rfl (by omega) hz2 ?_; rintro u3 w3 ho3 hb3)
        go_roundw
        case rel => exact ⟨k + 1, by omega, by go_num, by rw [HE.out]; exact ho3, ⟨(hb3.cell (p := ⟨w.heap.size, 0, none⟩) (by show w.heap.size < w.heap.size + 1; omega)).trans HA2.out.1, Nat.lt_of_lt_of_le HA2.out.2 hb3.size⟩, Hb2.out.trans (hb3.mono (by omega))⟩
        case measure => simp [intOf]; omega
    · obtain rfl : k = xs.length := by omega
      clear hbx
      go_wp2
      go_ret
      exact ⟨_, rfl, HO.out.mono (by omega), Hb.out⟩
end Go.Proofs.Ytpdoheagfjeefaa
