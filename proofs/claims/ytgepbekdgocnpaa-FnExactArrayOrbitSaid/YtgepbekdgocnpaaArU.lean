/- Arrays in the model: rowmotion, RangeAt, ToggleNumber, ToggleNumbers, RowArray, RowArrayBack, RowArrayTimes. -/
import Derived.Test.YtgepbekdgocnpaaArT
namespace Go.Proofs.Ytgepbekdgocnpaa
open Go.RowKit Go.WideShapes Go.ChangeShapes
set_option linter.unusedVariables false

theorem wdK_len (xs : List Int) (b : Int) (f wd : List Int) (t : Nat) : (wdK xs b f wd t).length = f.length := by
  induction t with
  | zero => rfl
  | succ t ih => rw [wdK, pT_len, ih]
theorem tmK_len (xs : List Int) (b : Int) (wd f : List Int) (k : Nat) : (tmK xs b wd f k).length = f.length := by
  induction k with
  | zero => rfl
  | succ k ih => rw [tmK, wdK_len, ih]
theorem ansTN_len (xs f : List Int) (b : Int) (wd : List Int) : (ansTN xs f b wd).length ≤ 1048576 := by
  cases h : okTN xs f b wd
  · rw [ansTN_no h]; simp
  · rw [ansTN_yes h, wdK_len]
    simp only [okTN, Bool.and_eq_true] at h
    have h1 := okAr_all h.1
    have := (good_length h1.1).2
    have := h1.2.2.2.len
    omega
theorem ansRA_len (xs f : List Int) (b k : Int) : (ansRA xs f b k).length ≤ 1048576 := by
  cases h : okRA xs f b k
  · rw [ansRA_no h]; simp
  · rw [ansRA_yes h, tmK_len]
    simp only [okRA, Bool.and_eq_true] at h
    have h1 := okAr_all h.1
    have := (good_length h1.1).2
    have := h1.2.2.2.len
    omega
set_option maxHeartbeats 800000 in
theorem pcRow_any (v u : Value) (xs f : List Int) (b : Int) (w : World) (hv : Ints w v xs) (hu : Ints w u f) (hg : good xs = true) (hr : Rise xs f b) (b0 : 0 ≤ b) (b1 : b ≤ 20) :
    Calls Try.prog 57 #[.agg #[v], u, .int .i64 b] w fun (r : Ending) w' => ∃ q, r = Ending.returned q ∧ OwnI 3 w' w.heap.size q (wdK xs b f (dnW xs.length) xs.length) ∧ Below w.heap.size w w' := by
  have HV := hid hv
  have HU := hid hu
  have hl10 := (good_length hg).2
  have hfl := hr.len
  have HRk := hid (fun t (ht : t ≤ xs.length) => wdK_rise (wd := dnW xs.length) hg hr (t := t) (fun j hj => dnW_rng (show j < xs.length by omega)))
  have hfm : f.length ≤ 1048576 := by omega
  have HOw := hid (fun W hW => l1OwnA_any u f W hW hfm)
  have HPt := hid (fun W q g e hW hq hr' he => pcAt_any v q xs g b e W hW hq hg hr' b0 b1 he)
  obtain ⟨A, c, rfl, -⟩ := hv
  obtain ⟨n, hn⟩ : ∃ n, xs.length = n := ⟨_, rfl⟩
  rw [hn] at HV HRk HPt hl10 ⊢
  have hsub : IntKind.i64.wrap ((n : Int) - 1) = (n : Int) - 1 := IntWalk.i64_in _ (by omega)
  clear hu hg hr hfl hn hfm
  go_enter Try.func57, Try.ntmps57
  have HB := hid (below_alloc (Below.refl _ w) (.cells #[(.slice A n c)] 28))
  have A0 := hid (At.newAt w (.slice A n c) 28 w.heap.size (by simp))
  have ebox0 := A0.out.1
  go_wp2_with fail
  clear ebox0
  refine (HOw.out _ (HU.out.below HB.out)).mono ?_
  rintro e' w2 ⟨q, rfl, ho, hb⟩
  have HO := hid (ho.mono HB.out.size)
  have HA := hid (A0.out.below hb)
  have hbox := HA.out.1
  replace HB := hid (below_to HB.out hb)
  clear hb ho A0
  go_wp2
  clear hbox
  go_loopw [7, 8] (fun q i wr => ∃ (t : Nat) (r : Int), r + 1 + t = n ∧ t ≤ n ∧ i = .int .i64 r ∧ OwnI 3 wr w.heap.size q (wdK xs b f (dnW n) t) ∧ At wr w.heap.size (.slice A n c) ∧ Below w.heap.size w wr) (fun _ i _ => (intOf i + 1).toNat)
  case atStart => exact ⟨0, (n : Int) - 1, by omega, Nat.zero_le _, rfl, HO.out, HA.out, HB.out⟩
  case round =>
    obtain ⟨t, r, hr, ht, rfl, ho, ha, hb⟩ := hrel
    have HO1 := hid ho
    have HA1 := hid ha
    have HB1 := hid hb
    have hbox := ha.1
    clear ho ha hb
    by_cases hlt : t < n
    · obtain ⟨e, rfl⟩ := Int.eq_ofNat_of_zero_le (show 0 ≤ r by omega)
      have hen : e < n := by omega
      have HS : Hid (wdK xs b f (dnW n) (t + 1) = pT xs b (wdK xs b f (dnW n) t) e) := hid (by
        rw [wdK, dnW_at hlt, Int.toNat_natCast]; congr 1; omega)
      have HRr : Hid ((e : Int) - 1 + 1 + ((t + 1 : Nat) : Int) = n) := hid (by omega)
      clear hr
      go_wp2_with fail
      clear hbox
      refine (HPt.out wr _ _ e (HV.out.below HB1.out) HO1.out.ints (HRk.out t (by omega)) hen).mono ?_
      rintro e' w3 ⟨q2, rfl, ho2, hb2⟩
      have HO2 := hid (ho2.mono HB1.out.size)
      have HA2 := hid (HA1.out.below hb2)
      have HB2 := hid (below_to HB1.out hb2)
      clear ho2 hb2
      go_wp2
      go_roundw
      case rel => exact ⟨t + 1, (e : Int) - 1, HRr.out, by omega, by go_num, by rw [HS.out]; exact HO2.out, HA2.out, HB2.out⟩
      case measure => simp [intOf]; try omega
    · obtain rfl : t = n := by omega
      have hr1 : r = -1 := by omega
      subst hr1
      clear hr
      go_wp2
      go_ret
      exact ⟨_, rfl, HO1.out, HB1.out⟩
set_option maxHeartbeats 800000 in
theorem pcBack_any (v u : Value) (xs f : List Int) (b : Int) (w : World) (hv : Ints w v xs) (hu : Ints w u f) (hg : good xs = true) (hr : Rise xs f b) (b0 : 0 ≤ b) (b1 : b ≤ 20) :
    Calls Try.prog 58 #[.agg #[v], u, .int .i64 b] w fun (r : Ending) w' => ∃ q, r = Ending.returned q ∧ OwnI 3 w' w.heap.size q (wdK xs b f (upW xs.length) xs.length) ∧ Below w.heap.size w w' := by
  have HV := hid hv
  have HU := hid hu
  have hl10 := (good_length hg).2
  have hfl := hr.len
  have HRk := hid (fun t (ht : t ≤ xs.length) => wdK_rise (wd := upW xs.length) hg hr (t := t) (fun j hj => upW_rng (show j < xs.length by omega)))
  have hfm : f.length ≤ 1048576 := by omega
  have HOw := hid (fun W hW => l1OwnA_any u f W hW hfm)
  have HPt := hid (fun W q g e hW hq hr' he => pcAt_any v q xs g b e W hW hq hg hr' b0 b1 he)
  obtain ⟨A, c, rfl, -⟩ := hv
  obtain ⟨n, hn⟩ : ∃ n, xs.length = n := ⟨_, rfl⟩
  rw [hn] at HV HRk HPt hl10 ⊢
  clear hu hg hr hfl hn hfm
  go_enter Try.func58, Try.ntmps58
  have HB := hid (below_alloc (Below.refl _ w) (.cells #[(.slice A n c)] 28))
  have A0 := hid (At.newAt w (.slice A n c) 28 w.heap.size (by simp))
  have ebox0 := A0.out.1
  go_wp2_with fail
  clear ebox0
  refine (HOw.out _ (HU.out.below HB.out)).mono ?_
  rintro e' w2 ⟨q, rfl, ho, hb⟩
  have HO := hid (ho.mono HB.out.size)
  have HA := hid (A0.out.below hb)
  have hbox := HA.out.1
  replace HB := hid (below_to HB.out hb)
  clear hb ho A0
  go_wp2
  clear hbox
  go_loopw [7, 14] (fun q i wr => ∃ t : Nat, t ≤ n ∧ i = .int .i64 t ∧ OwnI 3 wr w.heap.size q (wdK xs b f (upW n) t) ∧ At wr w.heap.size (.slice A n c) ∧ Below w.heap.size w wr) (fun _ i _ => n - (intOf i).toNat)
  case atStart => exact ⟨0, Nat.zero_le _, rfl, HO.out, HA.out, HB.out⟩
  case round =>
    obtain ⟨t, ht, rfl, ho, ha, hb⟩ := hrel
    have HO1 := hid ho
    have HA1 := hid ha
    have HB1 := hid hb
    have hbox := ha.1
    clear ho ha hb
    by_cases hlt : t < n
    · have hen : t < n := hlt
      obtain ⟨e, he⟩ : ∃ e, e = t := ⟨_, rfl⟩
      have HS : Hid (wdK xs b f (upW n) (t + 1) = pT xs b (wdK xs b f (upW n) t) t) := hid (by
        rw [wdK, upW_at hlt, Int.toNat_natCast])
      clear he
      go_wp2_with fail
      clear hbox
      refine (HPt.out wr _ _ t (HV.out.below HB1.out) HO1.out.ints (HRk.out t (by omega)) hen).mono ?_
      rintro e' w3 ⟨q2, rfl, ho2, hb2⟩
      have HO2 := hid (ho2.mono HB1.out.size)
      have HA2 := hid (HA1.out.below hb2)
      have HB2 := hid (below_to HB1.out hb2)
      clear ho2 hb2
      go_wp2
      go_roundw
      case rel => exact ⟨t + 1, by omega, by go_num, by rw [HS.out]; exact HO2.out, HA2.out, HB2.out⟩
      case measure => simp [intOf]; try omega
    · obtain rfl : t = n := by omega
      go_wp2
      go_ret
      exact ⟨_, rfl, HO1.out, HB1.out⟩
end Go.Proofs.Ytgepbekdgocnpaa
