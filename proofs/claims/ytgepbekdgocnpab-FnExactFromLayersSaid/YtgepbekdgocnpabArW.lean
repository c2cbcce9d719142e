/- Arrays in the model: IdealOfArray, LayersOf, ArrayOfIdeal, MirrorArray. -/
import Derived.Test.YtgepbekdgocnpabArT
import Derived.Test.YtgepbekdgocnpabArU
import Derived.Test.YtgepbekdgocnpabArF
namespace Go.Proofs.Ytgepbekdgocnpab
open Go.RowKit Go.WideShapes Go.ChangeShapes
set_option linter.unusedVariables false

theorem layN_step {f : List Int} {j : Int} {k : Nat} : layN f j (k + 1) = if f.getD k 0 ≤ j then layN f j k ||| 2 ^ k else layN f j k := by
  unfold layN
  rw [rowN]
  by_cases h : f.getD k 0 ≤ j <;> simp [h]
theorem pcUpTo_any (u : Value) (f : List Int) (j : Int) (w : World) (hu : Ints w u f) (h10 : f.length ≤ 10) :
    Calls Try.prog 43 #[u, .int .i64 j] w fun r w' => r = .returned (.int .i64 (layN f j f.length : Nat)) ∧ w = w' := by
  obtain ⟨B, d, rfl, hB⟩ := hu
  have HBc := hid hB
  obtain ⟨n, hn⟩ : ∃ n, f.length = n := ⟨_, rfl⟩
  have HN := hid hn
  rw [hn] at HBc h10 ⊢
  clear hB hn
  go_enter Try.func43, Try.ntmps43
  go_wp2
  go_loop [5, 10] (fun q i => ∃ (k t : Nat), k ≤ n ∧ i = .int .i64 k ∧ q = .int .i64 t ∧ Hid (layN f j k = t)) (fun _ i => n - (intOf i).toNat)
  case atStart => exact ⟨0, 0, Nat.zero_le _, rfl, rfl, hid rfl⟩
  case round =>
    obtain ⟨k, t, hk, rfl, rfl, HT⟩ := hrel
    by_cases hlt : k < n
    · obtain ⟨fb, fo, rfl, hfb, hfc⟩ := HBc.out (by intro h; have := HN.out; rw [h] at this; simp at this; omega)
      have hcell := hfc k hlt
      have HSt := layN_step (f := f) (j := j) (k := k)
      obtain ⟨x, hx⟩ : ∃ x, f.getD k 0 = x := ⟨_, rfl⟩
      rw [hx] at hcell HSt
      rw [HT.out] at HSt
      have htl : t < 1024 := by
        have h1 := layN_lt f j k
        rw [HT.out] at h1
        have : 2 ^ k ≤ 2 ^ 10 := Nat.pow_le_pow_right (by omega) (by omega)
        omega
      clear hfc hx
      by_cases hle : x ≤ j
      · rw [if_pos hle] at HSt
        have HS := hid HSt
        have wp := wrap_pow' k (by omega)
        have hor := or_pow t k htl (by omega)
        clear HSt htl
        go_wp2
        go_round
        case rel => exact ⟨k + 1, _, by omega, by go_num, rfl, HS⟩
        case measure => simp [intOf]; omega
      · rw [if_neg hle] at HSt
        have HS := hid HSt
        clear HSt htl
        go_wp2
        go_round
        case rel => exact ⟨k + 1, t, by omega, by go_num, rfl, HS⟩
        case measure => simp [intOf]; omega
    · obtain rfl : k = n := by omega
      go_wp2
      go_ret
      exact ⟨ret_int (by rw [HT.out]), rfl⟩
def ansIA (xs f : List Int) (b : Int) : Int := if okAr xs f b then ((layN f 0 xs.length : Nat) : Int) else 0
theorem ansIA_no {xs f : List Int} {b : Int} (h : okAr xs f b = false) : ansIA xs f b = 0 := by simp [ansIA, h]
theorem ansIA_yes {xs f : List Int} {b : Int} (h : okAr xs f b = true) : ansIA xs f b = ((layN f 0 xs.length : Nat) : Int) := by simp [ansIA, h]
theorem specIdealOfArray_any (v : Value) (xs : List Int) (u : Value) (f : List Int) (b : Int) (w : World) (hv : Ints w v xs) (hl : xs.length ≤ 1048576) (hu : Ints w u f) (hm : f.length ≤ 1048576) (wf : (Lit.int .i64 b).wf = true) :
    Calls Try.prog 19 #[.agg #[v], u, .int .i64 b] w fun r w' => r = .returned (.tuple #[.int .i64 (ansIA xs f b), .bool (okAr xs f b)]) ∧ Below w.heap.size w w' := by
  have HV := hid hv
  have HU := hid hu
  clear hv hu wf
  go_enter Try.func19, Try.ntmps19
  have HB := hid (below_alloc (Below.refl _ w) (.cells #[v] 28))
  have A0 := hid (At.newAt w v 28 w.heap.size (by simp))
  go_wp2_with fail
  refine (pcIs_any _ _ xs f b _ (HV.out.below HB.out) (HU.out.below HB.out) hl hm).mono ?_
  rintro e w' ⟨rfl, hb⟩
  replace HB := hid (below_to HB.out hb)
  replace A0 := hid (A0.out.below hb)
  clear hb
  cases hq : okAr xs f b
  · have HN := hid (ansIA_no hq)
    have HQ := hid hq
    clear hq
    have ebox0 := A0.out.1
    go_wp2
    go_ret2
    exact ⟨ret_ib HN.out.symm HQ.out.symm, HB.out⟩
  · have HN := hid (ansIA_yes hq)
    have HQ := hid hq
    obtain ⟨hg, b0, b1, hr⟩ := okAr_all hq
    have hl10 := (good_length hg).2
    have hfl := hr.len
    have HUp := hid (fun W hU => pcUpTo_any u f 0 W hU (by omega))
    rw [hfl] at HUp
    clear hq hg hr hfl
    go_wp2_with (go_at_call 43; refine (HUp.out _ (HU.out.below HB.out)).mono ?_; rintro e w2 ⟨rfl, rfl⟩)
    go_ret2
    exact ⟨ret_ib HN.out.symm HQ.out.symm, HB.out⟩
def ansLO (xs f : List Int) (b : Int) : List Int := if okAr xs f b then layL f xs.length b.toNat else []
theorem ansLO_no {xs f : List Int} {b : Int} (h : okAr xs f b = false) : ansLO xs f b = [] := by simp [ansLO, h]
theorem ansLO_yes {xs f : List Int} {b : Nat} (h : okAr xs f b = true) : ansLO xs f b = layL f xs.length b := by unfold ansLO; rw [if_pos h, Int.toNat_natCast]
theorem ansLO_len (xs f : List Int) (b : Int) : (ansLO xs f b).length ≤ 1048576 := by
  cases h : okAr xs f b
  · rw [ansLO_no h]; simp
  · obtain ⟨-, b0, b1, -⟩ := okAr_all h
    obtain ⟨m, rfl⟩ := Int.eq_ofNat_of_zero_le b0
    rw [ansLO_yes h]
    unfold layL; rw [mkL_length]; omega
theorem mkL_succB (k : Nat) (g : Nat → Nat) : mkL (k + 1) g = mkL k g ++ [((g k : Nat) : Int)] := by simp [mkL, List.range_succ]
set_option maxHeartbeats 800000 in
theorem specLayersOf_any (v : Value) (xs : List Int) (u : Value) (f : List Int) (b : Int) (w : World) (hv : Ints w v xs) (hl : xs.length ≤ 1048576) (hu : Ints w u f) (hm : f.length ≤ 1048576) (wf : (Lit.int .i64 b).wf = true) :
    Calls Try.prog 22 #[.agg #[v], u, .int .i64 b] w fun (r : Ending) w' => ∃ q, r = Ending.returned (.tuple #[q, .bool (okAr xs f b)]) ∧ OwnI 3 w' w.heap.size q (ansLO xs f b) ∧ (ansLO xs f b).length ≤ 1048576 ∧ Below w.heap.size w w' := by
  have HV := hid hv
  have HU := hid hu
  have HL := hid (ansLO_len xs f b)
  clear hv hu wf
  go_enter Try.func22, Try.ntmps22
  have HB := hid (below_alloc (Below.refl _ w) (.cells #[v] 28))
  have A0 := hid (At.newAt w v 28 w.heap.size (by simp))
  go_wp2_with fail
  refine (pcIs_any _ _ xs f b _ (HV.out.below HB.out) (HU.out.below HB.out) hl hm).mono ?_
  rintro e w' ⟨rfl, hb⟩
  replace HB := hid (below_to HB.out hb)
  replace A0 := hid (A0.out.below hb)
  clear hb
  cases hq : okAr xs f b
  · have HN := hid (ansLO_no hq)
    have HQ := hid hq
    clear hq
    have ebox0 := A0.out.1
    go_wp2
    go_ret2
    exact ⟨_, ret_vbA HQ.out.symm, by rw [HN.out]; exact OwnI.nil _ _ _, HL.out, HB.out⟩
  · obtain ⟨hg, b0, b1, hr⟩ := okAr_all hq
    obtain ⟨m, rfl⟩ := Int.eq_ofNat_of_zero_le b0
    have HN := hid (ansLO_yes hq)
    have HQ := hid hq
    have hl10 := (good_length hg).2
    have hfl := hr.len
    have HUp := hid (fun W hU j => pcUpTo_any u f j W hU (by omega))
    rw [hfl] at HUp
    clear hq hg hr hfl
    go_wp2
    go_loopw [8, 9] (fun q i wr => ∃ k : Nat, k ≤ m ∧ i = .int .i64 k ∧ OwnI 3 wr w.heap.size q (layL f xs.length k) ∧ Below w.heap.size w wr) (fun _ i _ => m - (intOf i).toNat)
    case atStart => exact ⟨0, Nat.zero_le _, rfl, OwnI.nil _ _ _, HB.out⟩
    case round =>
      obtain ⟨k, hk, rfl, ho, hb⟩ := hrel
      have HO1 := hid ho
      have HB1 := hid hb
      clear ho hb
      by_cases hlt : k < m
      · have hki : (k : Int) < m := by omega
        have HCl := hid (HUp.out wr (HU.out.below HB1.out) k)
        have HS : Hid (layL f xs.length (k + 1) = layL f xs.length k ++ [((layN f k xs.length : Nat) : Int)]) := hid (mkL_succB k _)
        have hlen : (layL f xs.length k).length < 1048576 := by unfold layL; rw [mkL_length]; omega
        obtain ⟨y, hy⟩ : ∃ y, layN f k xs.length = y := ⟨_, rfl⟩
        rw [hy] at HCl HS
        have hz1 := HB1.out.size
        clear hy
        go_wp2_with (first
          | (go_at_call 43; refine HCl.out.mono ?_; rintro e w2 ⟨rfl, rfl⟩)
          | (at_builtin; refine wpList_append_int rfl _ _ 22 3 rfl Try.underlying22 Try.info3 w.heap.size _ _ (y : Int) rfl HO1.out rfl rfl hlen hz1 ?_; rintro q2 w3 ho2 hb3))
        refine ⟨⟨k + 1, by omega, by go_num, by rw [HS.out]; exact ho2, HB1.out.trans hb3⟩, by simp [intOf]; omega⟩
      · obtain rfl : k = m := by omega
        have hki : ¬ (k : Int) < k := by omega
        go_wp2
        go_ret2
        exact ⟨_, ret_vbA HQ.out.symm, by rw [HN.out]; exact HO1.out, HL.out, HB1.out⟩
def okAI (xs : List Int) (s b : Int) : Bool := okIdeal xs s && hiB b
def aiG (s b : Nat) (e : Nat) : Nat := if s.testBit e then 0 else b
def ansAI (xs : List Int) (s b : Int) : List Int := if okAI xs s b then mkL xs.length (aiG s.toNat b.toNat) else []
theorem okAI_no1 {xs : List Int} {s b : Int} (h : okIdeal xs s = false) : okAI xs s b = false := by simp [okAI, h]
theorem okAI_no2 {xs : List Int} {s b : Int} (h : hiB b = false) : okAI xs s b = false := by simp [okAI, h]
theorem okAI_yes {xs : List Int} {s b : Int} (h : okIdeal xs s = true) (k : hiB b = true) : okAI xs s b = true := by simp [okAI, h, k]
theorem ansAI_no {xs : List Int} {s b : Int} (h : okAI xs s b = false) : ansAI xs s b = [] := by simp [ansAI, h]
theorem ansAI_yes {xs : List Int} {s b : Nat} (h : okAI xs s b = true) : ansAI xs s b = mkL xs.length (aiG s b) := by unfold ansAI; rw [if_pos h, Int.toNat_natCast, Int.toNat_natCast]
theorem ansAI_len (xs : List Int) (s b : Int) : (ansAI xs s b).length ≤ 1048576 := by
  cases h : okAI xs s b
  · rw [ansAI_no h]; simp
  · unfold ansAI
    rw [if_pos h, mkL_length]
    simp only [okAI, Bool.and_eq_true] at h
    obtain ⟨z, rfl, h3, -⟩ := okIdeal_all h.1
    have := (good_length h3).2
    omega
set_option maxHeartbeats 800000 in
theorem specArrayOfIdeal_any (v : Value) (xs : List Int) (s b : Int) (w : World) (hv : Ints w v xs) (hl : xs.length ≤ 1048576) (wf : (Lit.int .i64 s).wf = true) (wfb : (Lit.int .i64 b).wf = true) :
    Calls Try.prog 11 #[.agg #[v], .int .i64 s, .int .i64 b] w fun (r : Ending) w' => ∃ q, r = Ending.returned (.tuple #[q, .bool (okAI xs s b)]) ∧ OwnI 3 w' w.heap.size q (ansAI xs s b) ∧ (ansAI xs s b).length ≤ 1048576 ∧ Below w.heap.size w w' := by
  have HV := hid hv
  have HL := hid (ansAI_len xs s b)
  obtain ⟨A, c, rfl, -⟩ := hv
  clear wf wfb
  obtain ⟨n, hn⟩ : ∃ n, xs.length = n := ⟨_, rfl⟩
  have HNn := hid hn
  rw [hn] at HV hl ⊢
  go_enter Try.func11, Try.ntmps11
  have HB := hid (below_alloc (Below.refl _ w) (.cells #[(.slice A n c)] 28))
  have A0 := hid (At.newAt w (.slice A n c) 28 w.heap.size (by simp))
  go_wp2_with fail
  refine (tgIn_any _ xs s _ (HV.out.below HB.out) (by rw [HNn.out]; exact hl)).mono ?_
  rintro e w' ⟨rfl, hb⟩
  replace HB := hid (below_to HB.out hb)
  replace A0 := hid (A0.out.below hb)
  clear hb
  clear hn
  cases hq : okIdeal xs s
  · have HO := hid (okAI_no1 (b := b) hq)
    have HN := hid (ansAI_no HO.out)
    clear hq
    have ebox0 := A0.out.1
    go_wp2
    go_ret2
    exact ⟨_, ret_vbA HO.out.symm, by rw [HN.out]; exact OwnI.nil _ _ _, HL.out, HB.out⟩
  cases hbb : hiB b
  · have HO := hid (okAI_no2 (xs := xs) (s := s) hbb)
    have HN := hid (ansAI_no HO.out)
    have HD := hid hbb
    clear hq hbb
    have ebox0 := A0.out.1
    go_wp2_with (go_at_call 37; refine (pcBound_any b _).mono ?_; rw [HD.out]; rintro e w' ⟨rfl, rfl⟩)
    go_ret2
    exact ⟨_, ret_vbA HO.out.symm, by rw [HN.out]; exact OwnI.nil _ _ _, HL.out, HB.out⟩
  · have HO := hid (okAI_yes hq hbb)
    have HD := hid hbb
    obtain ⟨b0, b1⟩ := hiB_all hbb
    obtain ⟨m, rfl⟩ := Int.eq_ofNat_of_zero_le b0
    obtain ⟨z, rfl, h3, h4, -⟩ := okIdeal_all hq
    have HN := hid (ansAI_yes HO.out)
    rw [HNn.out] at HN h4
    have hl10 := (good_length h3).2
    rw [HNn.out] at hl10
    have ebox0 := A0.out.1
    clear hq hbb h3
    go_wp2_with (go_at_call 37; refine (pcBound_any (m : Int) _).mono ?_; rw [HD.out]; rintro e w' ⟨rfl, rfl⟩)
    clear ebox0
    go_loopw [8, 23] (fun q i wr => ∃ k : Nat, k ≤ n ∧ i = .int .i64 k ∧ OwnI 3 wr w.heap.size q (mkL k (aiG z m)) ∧ Below w.heap.size w wr) (fun _ i _ => n - (intOf i).toNat)
    case atStart => exact ⟨0, Nat.zero_le _, rfl, OwnI.nil _ _ _, HB.out⟩
    case round =>
      obtain ⟨k, hk, rfl, ho, hb⟩ := hrel
      have HO1 := hid ho
      have HB1 := hid hb
      clear ho hb
      by_cases hlt : k < n
      · have HS := hid (mkL_succB k (aiG z m))
        have hlen : (mkL k (aiG z m)).length < 1048576 := by rw [mkL_length]; omega
        have HG := hid (show aiG z m k = if z.testBit k then 0 else m from rfl)
        obtain ⟨y, hy⟩ : ∃ y, aiG z m k = y := ⟨_, rfl⟩
        rw [hy] at HS HG
        have hz1 := HB1.out.size
        clear hy
        cases hbit : z.testBit k
        · have Hb := hid hbit
          have HY := HG.out
          rw [hbit] at HY
          simp only [Bool.false_eq_true, if_false] at HY
          subst HY
          clear hbit
          go_wp2_with (first
            | (go_at_call 38; refine (poIn_any z k (by omega) _).mono ?_; rw [Hb.out]; rintro e w2 ⟨rfl, rfl⟩)
            | (at_builtin; refine wpList_append_int rfl _ _ 22 3 rfl Try.underlying22 Try.info3 w.heap.size _ _ (y : Int) rfl HO1.out rfl rfl hlen hz1 ?_; rintro q2 w3 ho2 hb3))
          refine ⟨⟨k + 1, by omega, by go_num, by rw [HS.out]; exact ho2, HB1.out.trans hb3⟩, by simp [intOf]; omega⟩
        · have Hb := hid hbit
          have HY := HG.out
          rw [hbit] at HY
          simp only [if_true] at HY
          subst HY
          clear hbit
          go_wp2_with (first
            | (go_at_call 38; refine (poIn_any z k (by omega) _).mono ?_; rw [Hb.out]; rintro e w2 ⟨rfl, rfl⟩)
            | (at_builtin; refine wpList_append_int rfl _ _ 22 3 rfl Try.underlying22 Try.info3 w.heap.size _ _ ((0 : Nat) : Int) rfl HO1.out rfl rfl hlen hz1 ?_; rintro q2 w3 ho2 hb3))
          refine ⟨⟨k + 1, by omega, by go_num, by rw [HS.out]; exact ho2, HB1.out.trans hb3⟩, by simp [intOf]; omega⟩
      · obtain rfl : k = n := by omega
        go_wp2
        go_ret2
        exact ⟨_, ret_vbA HO.out.symm, by rw [HN.out]; exact HO1.out, HL.out, HB1.out⟩
def mirG (f : List Int) (m : Nat) (i : Nat) : Nat := m - (f.getD (f.length - 1 - i) 0).toNat
def ansMI (xs f : List Int) (b : Int) : List Int := if okAr xs f b then mkL xs.length (mirG f b.toNat) else []
theorem ansMI_no {xs f : List Int} {b : Int} (h : okAr xs f b = false) : ansMI xs f b = [] := by simp [ansMI, h]
theorem ansMI_yes {xs f : List Int} {b : Nat} (h : okAr xs f b = true) : ansMI xs f b = mkL xs.length (mirG f b) := by unfold ansMI; rw [if_pos h, Int.toNat_natCast]
theorem ansMI_len (xs f : List Int) (b : Int) : (ansMI xs f b).length ≤ 1048576 := by
  cases h : okAr xs f b
  · rw [ansMI_no h]; simp
  · unfold ansMI
    rw [if_pos h, mkL_length]
    have := (good_length (okAr_all h).1).2
    omega
set_option maxHeartbeats 800000 in
theorem specMirrorArray_any (v : Value) (xs : List Int) (u : Value) (f : List Int) (b : Int) (w : World) (hv : Ints w v xs) (hl : xs.length ≤ 1048576) (hu : Ints w u f) (hm : f.length ≤ 1048576) (wf : (Lit.int .i64 b).wf = true) :
    Calls Try.prog 26 #[.agg #[v], u, .int .i64 b] w fun (r : Ending) w' => ∃ q, r = Ending.returned (.tuple #[q, .bool (okAr xs f b)]) ∧ OwnI 3 w' w.heap.size q (ansMI xs f b) ∧ (ansMI xs f b).length ≤ 1048576 ∧ Below w.heap.size w w' := by
  have HV := hid hv
  have HU := hid hu
  have HL := hid (ansMI_len xs f b)
  obtain ⟨B, d, rfl, hB⟩ := hu
  have HBc := hid hB
  obtain ⟨n, hn⟩ : ∃ n, f.length = n := ⟨_, rfl⟩
  have HNn := hid hn
  rw [hn] at HU HBc ⊢
  clear hv wf hB
  go_enter Try.func26, Try.ntmps26
  have HB := hid (below_alloc (Below.refl _ w) (.cells #[v] 28))
  have A0 := hid (At.newAt w v 28 w.heap.size (by simp))
  go_wp2_with fail
  refine (pcIs_any _ _ xs f b _ (HV.out.below HB.out) (HU.out.below HB.out) hl hm).mono ?_
  rintro e w' ⟨rfl, hb⟩
  replace HB := hid (below_to HB.out hb)
  replace A0 := hid (A0.out.below hb)
  clear hb
  clear hn
  cases hq : okAr xs f b
  · have HN := hid (ansMI_no hq)
    have HQ := hid hq
    clear hq
    have ebox0 := A0.out.1
    go_wp2
    go_ret2
    exact ⟨_, ret_vbA HQ.out.symm, by rw [HN.out]; exact OwnI.nil _ _ _, HL.out, HB.out⟩
  · obtain ⟨hg, b0, b1, hr⟩ := okAr_all hq
    obtain ⟨m, rfl⟩ := Int.eq_ofNat_of_zero_le b0
    have HN := hid (ansMI_yes hq)
    have HQ := hid hq
    have hl10 := (good_length hg).2
    have hx1 := (good_length hg).1
    have hfl := hr.len
    have HXn : Hid (xs.length = n) := hid (by rw [← HNn.out]; exact hfl.symm)
    rw [HXn.out] at HN
    have hn10 : n ≤ 10 := by rw [← HXn.out]; exact hl10
    have hn1 : 1 ≤ n := by rw [← HXn.out]; exact hx1
    have HRn := hid (fun j (hj : j < n) => hr.rng j (by rw [HXn.out]; exact hj))
    obtain ⟨fb, fo, rfl, hfb, hfc⟩ := HBc.out (by intro h; have := HNn.out; rw [h] at this; simp at this; omega)
    have HFc := hid hfc
    have hsub : IntKind.i64.wrap ((n : Int) - 1) = (n : Int) - 1 := IntWalk.i64_in _ (by omega)
    clear hq hg hr hfl hfc
    go_wp2
    clear hsub
    go_loopw [8, 9] (fun q i wr => ∃ (k : Nat) (r : Int), r + 1 + k = n ∧ k ≤ n ∧ i = .int .i64 r ∧ OwnI 3 wr w.heap.size q (mkL k (mirG f m)) ∧ Below w.heap.size w wr) (fun _ i _ => (intOf i + 1).toNat)
    case atStart => exact ⟨0, (n : Int) - 1, by omega, Nat.zero_le _, rfl, OwnI.nil _ _ _, HB.out⟩
    case round =>
      obtain ⟨k, r, hr, hk, rfl, ho, hb⟩ := hrel
      have HO1 := hid ho
      have HB1 := hid hb
      clear ho hb
      by_cases hlt : k < n
      · obtain ⟨e, rfl⟩ := Int.eq_ofNat_of_zero_le (show 0 ≤ r by omega)
        have hen : e < n := by omega
        have hcell := (HB1.out.cell (p := ⟨fb, fo + e, none⟩) hfb).trans (HFc.out e hen)
        have hxr := HRn.out e hen
        have HG : Hid (mirG f m k = m - (f.getD e 0).toNat) := hid (by unfold mirG; rw [HNn.out, show n - 1 - k = e by omega])
        obtain ⟨x, hx⟩ : ∃ x, f.getD e 0 = x := ⟨_, rfl⟩
        rw [hx] at hcell hxr HG
        obtain ⟨x, rfl⟩ := Int.eq_ofNat_of_zero_le hxr.1
        rw [Int.toNat_natCast] at HG
        have HS := hid (mkL_succB k (mirG f m))
        have hlen : (mkL k (mirG f m)).length < 1048576 := by rw [mkL_length]; omega
        have hsx : IntKind.i64.wrap ((m : Int) - (x : Int)) = ((m - x : Nat) : Int) := by rw [IntWalk.i64_in _ (by omega)]; omega
        rw [HG.out] at HS
        obtain ⟨y, hy⟩ : ∃ y, m - x = y := ⟨_, rfl⟩
        rw [hy] at HS hsx
        have hz1 := HB1.out.size
        have HR : Hid ((e : Int) - 1 + 1 + ((k + 1 : Nat) : Int) = n) := hid (by omega)
        clear hy hx hr HG
        go_wp2_with (at_builtin; refine wpList_append_int rfl _ _ 22 3 rfl Try.underlying22 Try.info3 w.heap.size _ _ (y : Int) rfl HO1.out rfl rfl hlen hz1 ?_; rintro q2 w3 ho2 hb3)
        clear hsx
        go_roundw
        case rel => exact ⟨k + 1, (e : Int) - 1, HR.out, by omega, by go_num, by rw [HS.out]; exact ho2, HB1.out.trans hb3⟩
        case measure => simp [intOf]; try omega
      · obtain rfl : k = n := by omega
        have hr1 : r = -1 := by omega
        subst hr1
        clear hr
        go_wp2
        go_ret2
        exact ⟨_, ret_vbA HQ.out.symm, by rw [HN.out]; exact HO1.out, HL.out, HB1.out⟩
end Go.Proofs.Ytgepbekdgocnpab
