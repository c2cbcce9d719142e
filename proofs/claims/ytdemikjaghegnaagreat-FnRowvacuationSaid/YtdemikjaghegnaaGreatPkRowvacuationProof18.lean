/- Texts RvD, RkD, RvF, one behind the other. -/
import Derived.Test.YtdemikjaghegnaaGreatPkRowvacuationProof07
import Derived.Test.YtdemikjaghegnaaGreatPkRowvacuationProof12
import Derived.Test.YtdemikjaghegnaaGreatPkRowvacuationProof14
import Derived.Test.YtdemikjaghegnaaGreatPkRowvacuationProof15
import Derived.Test.YtdemikjaghegnaaGreatPkRowvacuationProof16
import Derived.Test.YtdemikjaghegnaaGreatPkRowvacuationProof17
/- Dual ideals, and the word of rowvacuation: the model's and the program's contracts. -/
namespace Go.Proofs.YtdemikjaghegnaaGreat
open Go.RowKit Go.WideShapes Go.ChangeShapes
set_option linter.unusedVariables false

/-- the dual ideal, of the first k elements -/
def duK (n s k : Nat) : Nat := orN (fun i => !s.testBit i) (fun i => 2 ^ (n - 1 - i)) k
def duN (n s : Nat) : Nat := duK n s n
theorem duK_lt {n s k : Nat} (hk : k ≤ n) : duK n s k < 2 ^ n := orN_lt fun i hi _ => pow_lt_len (by omega)
theorem duK_in {n s k : Nat} (h : s.testBit k = true) : duK n s (k + 1) = duK n s k := orN_no (p := fun i => !s.testBit i) (by simp [h])
theorem duK_out {n s k : Nat} (h : s.testBit k = false) : duK n s (k + 1) = duK n s k ||| 2 ^ (n - 1 - k) := orN_yes (p := fun i => !s.testBit i) (by simp [h])
def ansDU (xs : List Int) (s : Int) (f : Nat → Nat) : Int := if okIdeal xs s then (duN xs.length (f s.toNat) : Int) else 0
theorem ansDU_no {xs : List Int} {s : Int} {f : Nat → Nat} (h : okIdeal xs s = false) : ansDU xs s f = 0 := by simp [ansDU, h]
theorem ansDU_yes {xs : List Int} {z : Nat} {f : Nat → Nat} (h : okIdeal xs z = true) : ansDU xs z f = (duN xs.length (f z) : Int) := by simp [ansDU, h]
set_option maxHeartbeats 800000 in
theorem rvDual_any (v : Value) (xs : List Int) (s : Nat) (w : World) (hv : Ints w v xs) (hl10 : xs.length ≤ 10) (hs : s < 1024) :
    Calls Tryz.prog 89 #[.agg #[v], .int .i64 s] w fun r w' => r = .returned (.int .i64 (duN xs.length s : Nat)) ∧ Below w.heap.size w w' := by
  have HEnd : Hid (duN xs.length s = duK xs.length s xs.length) := hid rfl
  have HLt := hid (fun k (hk : k ≤ xs.length) => lt1024 (duK_lt (n := xs.length) (s := s) hk) hl10)
  have H0 : Hid (duK xs.length s 0 = 0) := hid rfl
  obtain ⟨A, c, rfl, -⟩ := hv
  obtain ⟨n, hn⟩ : ∃ n, xs.length = n := ⟨_, rfl⟩
  rw [hn] at HEnd HLt H0 hl10 ⊢
  clear hn
  go_enter Tryz.func89, Tryz.ntmps89
  have HB := hid (below_alloc (Below.refl _ w) (.cells #[(.slice A n c)] 26))
  have A0 := hid (At.newAt w (.slice A n c) 26 w.heap.size (by simp))
  go_wp2
  go_loop [6, 14] (fun q i => ∃ k t : Nat, k ≤ n ∧ i = .int .i64 k ∧ q = .int .i64 t ∧ Hid (duK n s k = t)) (fun _ i => n - (intOf i).toNat)
  case atStart => exact ⟨0, 0, Nat.zero_le _, rfl, rfl, hid H0.out⟩
  case round =>
    obtain ⟨k, t, hk, rfl, rfl, HT⟩ := hrel
    by_cases hlt : k < n
    · cases hbit : s.testBit k
      · have HBit := hid hbit
        have ht : t < 1024 := by rw [← HT.out]; exact HLt.out k hk
        obtain ⟨m, hm⟩ : ∃ m, n - 1 - k = m := ⟨_, rfl⟩
        have hmi : (n : Int) - 1 - k = (m : Int) := by omega
        have wp := wrap_pow' m (by omega)
        have hor := or_pow t m ht (by omega)
        have HN : Hid (duK n s (k + 1) = t ||| 2 ^ m) := hid (by rw [duK_out hbit, HT.out, hm])
        clear hbit ht hm
        go_wp2_with (go_at_call 127; refine (poIn_any s k (by omega) _).mono ?_; rw [HBit.out]; rintro e w' ⟨rfl, rfl⟩)
        go_round
        case rel => exact ⟨k + 1, _, by omega, by go_num, rfl, hid (by rw [HN.out])⟩
        case measure => simp [intOf]; omega
      · have HBit := hid hbit
        clear hbit
        go_wp2_with (go_at_call 127; refine (poIn_any s k (by omega) _).mono ?_; rw [HBit.out]; rintro e w' ⟨rfl, rfl⟩)
        go_round
        case rel => exact ⟨k + 1, t, by omega, by go_num, rfl, hid (by rw [duK_in HBit.out, HT.out])⟩
        case measure => simp [intOf]; omega
    · obtain rfl : k = n := by omega
      go_wp2
      go_ret
      exact ⟨ret_int (by rw [HEnd.out, HT.out]), HB.out⟩
theorem specDualIdeal_any (v : Value) (xs : List Int) (s : Int) (w : World) (hv : Ints w v xs) (hl : xs.length ≤ 1048576) (wf : (Lit.int .i64 s).wf = true) :
    Calls Tryz.prog 44 #[.agg #[v], .int .i64 s] w fun r w' => r = .returned (.tuple #[.int .i64 (ansDU xs s id), .bool (okIdeal xs s)]) ∧ Below w.heap.size w w' := by
  have HV := hid hv
  clear hv wf
  go_enter Tryz.func44, Tryz.ntmps44
  have HB := hid (below_alloc (Below.refl _ w) (.cells #[v] 26))
  have A0 := hid (At.newAt w v 26 w.heap.size (by simp))
  go_wp2_with fail
  refine (tgIn_any _ xs s _ (HV.out.below HB.out) hl).mono ?_
  rintro e w' ⟨rfl, hb⟩
  replace HB := hid (below_to HB.out hb)
  replace A0 := hid (A0.out.below hb)
  clear hb
  cases hq : okIdeal xs s
  · have HO := hid hq
    clear hq
    have ebox0 := A0.out.1
    go_wp2
    go_ret2
    exact ⟨ret_ib (ansDU_no HO.out).symm HO.out.symm, HB.out⟩
  · have HO := hid hq
    obtain ⟨z, rfl, hg, hz, hi⟩ := okIdeal_all hq
    have hl10 := (good_length hg).2
    have hz10 := lt1024 hz hl10
    clear hq hg hz hi
    have ebox0 := A0.out.1
    go_wp2_with fail
    clear ebox0
    refine (rvDual_any _ xs z _ (HV.out.below HB.out) hl10 hz10).mono ?_
    rintro e w' ⟨rfl, hb⟩
    replace HB := hid (below_to HB.out hb)
    replace A0 := hid (A0.out.below hb)
    clear hb
    have ebox0 := A0.out.1
    go_wp2
    go_ret2
    exact ⟨ret_ib (ansDU_yes (f := id) HO.out).symm HO.out.symm, HB.out⟩
set_option maxHeartbeats 1600000 in
theorem implDualIdeal_any (v : Value) (xs : List Int) (s : Int) (w : World) (hv : Ints w v xs) (hl : xs.length ≤ 1048576) (wf : (Lit.int .i64 s).wf = true) :
    Calls Tryz.prog 43 #[.agg #[v], .int .i64 s] w fun r w' => r = .returned (.tuple #[.int .i64 (ansDU xs s id), .bool (okIdeal xs s)]) ∧ Below w.heap.size w w' := by
  have HV := hid hv
  clear hv wf
  go_enter Tryz.func43, Tryz.ntmps43
  have HB := hid (below_alloc (Below.refl _ w) (.cells #[v] 26))
  have A0 := hid (At.newAt w v 26 w.heap.size (by simp))
  go_wp2_with fail
  refine (hasIdeal_any _ xs s _ (HV.out.below HB.out) hl).mono ?_
  rintro e w' ⟨rfl, hb⟩
  replace HB := hid (below_to HB.out hb)
  replace A0 := hid (A0.out.below hb)
  clear hb
  cases hq : okIdeal xs s
  · have HO := hid hq
    clear hq
    have ebox0 := A0.out.1
    go_wp2
    go_ret2
    exact ⟨ret_ib (ansDU_no HO.out).symm HO.out.symm, HB.out⟩
  · have HO := hid hq
    obtain ⟨z, rfl, hg, hz, hi⟩ := okIdeal_all hq
    have hl10 := (good_length hg).2
    have hz10 := lt1024 hz hl10
    have HAn := hid (ansDU_yes (f := id) hq)
    have HEnd : Hid (duN xs.length (id z) = duK xs.length z xs.length) := hid rfl
    have HLt := hid (fun k (hk : k ≤ xs.length) => lt1024 (duK_lt (n := xs.length) (s := z) hk) hl10)
    have H0 : Hid (duK xs.length z 0 = 0) := hid rfl
    obtain ⟨A, c, rfl, -⟩ := HV.out
    have hbx := A0.out.1
    obtain ⟨n, hn⟩ : ∃ n, xs.length = n := ⟨_, rfl⟩
    rw [hn] at HEnd HLt H0 hl10 HAn hbx
    clear hq hg hz hi hn
    go_wp2
    go_loop [6, 15] (fun q i => ∃ k t : Nat, k ≤ n ∧ i = .int .i64 k ∧ q = .int .i64 t ∧ Hid (duK n z k = t)) (fun _ i => n - (intOf i).toNat)
    case atStart => exact ⟨0, 0, Nat.zero_le _, rfl, rfl, hid H0.out⟩
    case round =>
      obtain ⟨k, t, hk, rfl, rfl, HT⟩ := hrel
      by_cases hlt : k < n
      · cases hbit : z.testBit k
        · have HBit := hid hbit
          have ht : t < 1024 := by rw [← HT.out]; exact HLt.out k hk
          obtain ⟨m, hm⟩ : ∃ m, n - 1 - k = m := ⟨_, rfl⟩
          have hmi : (n : Int) - 1 - k = (m : Int) := by omega
          have wp := wrap_pow' m (by omega)
          have hor := or_pow t m ht (by omega)
          have HN : Hid (duK n z (k + 1) = t ||| 2 ^ m) := hid (by rw [duK_out hbit, HT.out, hm])
          clear hbit ht hm
          go_wp2_with (go_at_call 58; refine (hasElement_any z k (by omega) (by omega) _).mono ?_; rw [HBit.out]; rintro e w' ⟨rfl, rfl⟩)
          go_round
          case rel => exact ⟨k + 1, _, by omega, by go_num, rfl, hid (by rw [HN.out])⟩
          case measure => simp [intOf]; omega
        · have HBit := hid hbit
          clear hbit
          go_wp2_with (go_at_call 58; refine (hasElement_any z k (by omega) (by omega) _).mono ?_; rw [HBit.out]; rintro e w' ⟨rfl, rfl⟩)
          go_round
          case rel => exact ⟨k + 1, t, by omega, by go_num, rfl, hid (by rw [duK_in HBit.out, HT.out])⟩
          case measure => simp [intOf]; omega
      · obtain rfl : k = n := by omega
        clear hbx
        go_wp2
        go_ret2
        exact ⟨ret_ib (by rw [HAn.out, HEnd.out, HT.out]) HO.out.symm, HB.out⟩
theorem duN_lt {n s : Nat} : duN n s < 2 ^ n := duK_lt (Nat.le_refl _)
theorem back_SR (v : Value) (xs : List Int) (w0 : World) (b s : Nat) (W : World) (hv : Ints w0 v xs) (hg : good xs = true) (hs : s < 2 ^ xs.length) (hS : SR w0 b v W) :
    Calls Tryz.prog 91 #[.agg #[v], .int .i64 s] W fun r w' => r = .returned (.int .i64 (rowba xs s : Nat)) ∧ SR w0 b v w' :=
  (tgBack_any v xs s W (hv.below hS.below) hg hs).mono fun _ _ ⟨h1, h2⟩ => ⟨h1, hS.to h2⟩
theorem dual_SR (v : Value) (xs : List Int) (w0 : World) (b s : Nat) (W : World) (hv : Ints w0 v xs) (hl10 : xs.length ≤ 10) (hs : s < 1024) (hS : SR w0 b v W) :
    Calls Tryz.prog 89 #[.agg #[v], .int .i64 s] W fun r w' => r = .returned (.int .i64 (duN xs.length s : Nat)) ∧ SR w0 b v w' :=
  (rvDual_any v xs s W (hv.below hS.below) hl10 hs).mono fun _ _ ⟨h1, h2⟩ => ⟨h1, hS.to h2⟩
set_option maxHeartbeats 800000 in
theorem specRowOnDual_any (v : Value) (xs : List Int) (s : Int) (w : World) (hv : Ints w v xs) (hl : xs.length ≤ 1048576) (wf : (Lit.int .i64 s).wf = true) :
    Calls Tryz.prog 46 #[.agg #[v], .int .i64 s] w fun r w' => r = .returned (.tuple #[.int .i64 (ansDU xs s (rowba xs)), .bool (okIdeal xs s)]) ∧ Below w.heap.size w w' := by
  have HV := hid hv
  clear hv wf
  go_enter Tryz.func46, Tryz.ntmps46
  have HB := hid (below_alloc (Below.refl _ w) (.cells #[v] 26))
  have A0 := hid (At.newAt w v 26 w.heap.size (by simp))
  go_wp2_with fail
  refine (tgIn_any _ xs s _ (HV.out.below HB.out) hl).mono ?_
  rintro e w' ⟨rfl, hb⟩
  replace HB := hid (below_to HB.out hb)
  replace A0 := hid (A0.out.below hb)
  clear hb
  cases hq : okIdeal xs s
  · have HO := hid hq
    clear hq
    have ebox0 := A0.out.1
    go_wp2
    go_ret2
    exact ⟨ret_ib (ansDU_no HO.out).symm HO.out.symm, HB.out⟩
  · have HO := hid hq
    obtain ⟨z, rfl, hg, hz, hi⟩ := okIdeal_all hq
    have hl10 := (good_length hg).2
    have HG := hid hg
    have HZ := hid hz
    have HAn := hid (ansDU_yes (f := rowba xs) hq)
    have hb10 := lt1024 (rowba_lt xs z) hl10
    have HV1 := hid (HV.out.below HB.out)
    have HS := hid (show SR w' w.heap.size v w' from ⟨A0.out, Below.refl _ _⟩)
    have hbx := A0.out.1
    clear hq hg hz hi
    go_wp2_with fail
    go_region_held3 (fun W => W.cell? ⟨w.heap.size, 0, none⟩ = some v ∧ Hid (SR w' w.heap.size v W)) (first | exact ⟨HS3.out.at_.1, HS3⟩ | exact ⟨HS2.out.at_.1, HS2⟩ | exact ⟨HS.out.drew.at_.1, hid HS.out.drew⟩) (first | (go_at_call 91; refine (back_SR v xs w' w.heap.size z _ HV1.out HG.out HZ.out (Hid.out (by first | assumption | exact hid HS.out.drew))).mono ?_; rintro e' w4 ⟨rfl, hs4⟩; have HS2 := hid hs4; clear hs4) | (go_at_call 89; refine (dual_SR v xs w' w.heap.size _ _ HV1.out hl10 hb10 HS2.out).mono ?_; rintro e' w5 ⟨rfl, hs5⟩; have HS3 := hid hs5; clear hs5))
    have HB3 := hid (below_to HB.out HS3.out.below)
    clear hbx
    go_wp2
    go_ret2
    exact ⟨ret_ib HAn.out.symm HO.out.symm, HB3.out⟩
theorem wf_d64 (n : Int) (h1 : -9223372036854775808 ≤ n) (h2 : n ≤ 9223372036854775807) : (Lit.int .i64 n).wf = true := by
  show (decide (IntKind.i64.min ≤ n) && decide (n ≤ IntKind.i64.max)) = true
  rw [show IntKind.i64.min = -9223372036854775808 from by decide, show IntKind.i64.max = 9223372036854775807 from by decide]
  simp [h1, h2]
theorem dual_back {xs : List Int} {s : Int} (h : okIdeal xs s = true) : ansDU xs (ansRow xs s rowba) id = ansDU xs s (rowba xs) ∧ okIdeal xs (ansRow xs s rowba) = true := by
  obtain ⟨z, rfl, hg, hz, hi⟩ := okIdeal_all h
  have h2 : okIdeal xs ((rowba xs z : Nat) : Int) = true := by
    rw [okIdeal, okSet_nat hg (rowba_lt xs z), Int.toNat_natCast, rowba_ideal hg z]; rfl
  rw [ansRow_yes h]
  exact ⟨by rw [ansDU_yes h2, ansDU_yes h]; rfl, h2⟩
theorem implRowOnDual_any (v : Value) (xs : List Int) (s : Int) (w : World) (hv : Ints w v xs) (hl : xs.length ≤ 1048576) (wf : (Lit.int .i64 s).wf = true) :
    Calls Tryz.prog 45 #[.agg #[v], .int .i64 s] w fun r w' => r = .returned (.tuple #[.int .i64 (ansDU xs s (rowba xs)), .bool (okIdeal xs s)]) ∧ Below w.heap.size w w' := by
  have HV := hid hv
  have WF := hid wf
  clear hv wf
  go_enter Tryz.func45, Tryz.ntmps45
  have HB := hid (below_alloc (Below.refl _ w) (.cells #[v] 26))
  have A0 := hid (At.newAt w v 26 w.heap.size (by simp))
  go_wp2_with fail
  refine (implRowmotionBack_any _ xs s _ (HV.out.below HB.out) hl WF.out).mono ?_
  rintro e w' ⟨rfl, hb⟩
  replace HB := hid (below_to HB.out hb)
  replace A0 := hid (A0.out.below hb)
  clear hb
  cases hq : okIdeal xs s
  · have HO := hid hq
    clear hq
    have ebox0 := A0.out.1
    go_wp2
    go_ret2
    exact ⟨ret_ib (ansDU_no HO.out).symm HO.out.symm, HB.out⟩
  · have HO := hid hq
    obtain ⟨h1, h2⟩ := dual_back hq
    obtain ⟨z, e1, hg, hz, hi⟩ := okIdeal_all h2
    have hz10 := lt1024 hz (good_length hg).2
    rw [e1] at h1 h2 ⊢
    have H1 := hid h1
    have H2 := hid h2
    have WZ : Hid ((Lit.int .i64 (z : Int)).wf = true) := hid (wf_d64 _ (by omega) (by omega))
    clear hq h1 h2 e1 hg hz hi
    have ebox0 := A0.out.1
    go_wp2_with fail
    clear ebox0
    refine (implDualIdeal_any _ xs z _ (HV.out.below HB.out) hl WZ.out).mono ?_
    rintro e w' ⟨rfl, hb⟩
    replace HB := hid (below_to HB.out hb)
    replace A0 := hid (A0.out.below hb)
    clear hb
    have ebox0 := A0.out.1
    go_wp2
    go_ret2
    exact ⟨ret_ib H1.out (H2.out.trans HO.out.symm), HB.out⟩
/-! ### RowvacuationWord -/
def okRW (xs : List Int) : Bool := okRk xs && decide ((wVac (rkN xs - 1)).length ≤ 40)
def ansRW (xs : List Int) : List Int := if okRW xs then wVac (rkN xs - 1) else []
theorem okRW_no1 {xs : List Int} (h : okRk xs = false) : okRW xs = false := by simp [okRW, h]
theorem okRW_no2 {xs : List Int} {h : Nat} (hh : rkN xs = h + 1) (hl : ¬ (wVac h).length ≤ 40) : okRW xs = false := by
  unfold okRW; rw [hh, Nat.add_sub_cancel, decide_eq_false hl, Bool.and_false]
theorem okRW_yes {xs : List Int} {h : Nat} (hk : okRk xs = true) (hh : rkN xs = h + 1) (hl : (wVac h).length ≤ 40) : okRW xs = true := by
  unfold okRW; rw [hk, hh, Nat.add_sub_cancel, decide_eq_true hl]; rfl
theorem ansRW_no {xs : List Int} (h : okRW xs = false) : ansRW xs = [] := by simp [ansRW, h]
theorem ansRW_yes {xs : List Int} {h : Nat} (hk : okRW xs = true) (hh : rkN xs = h + 1) : ansRW xs = wVac h := by unfold ansRW; rw [if_pos hk, hh]; rfl
theorem ansRW_length (xs : List Int) : (ansRW xs).length ≤ 1048576 := by
  cases h : okRW xs
  · rw [ansRW_no h]; simp
  · unfold ansRW
    rw [if_pos h]
    simp only [okRW, Bool.and_eq_true, decide_eq_true_eq] at h
    omega
theorem ret_vbW {u : Value} {a b : Bool} (h : a = b) : Ending.returned (.tuple #[u, .bool a]) = .returned (.tuple #[u, .bool b]) := by rw [h]
theorem specRowvacuationWord_any (v : Value) (xs : List Int) (w : World) (hv : Ints w v xs) (hl : xs.length ≤ 1048576) :
    Calls Tryz.prog 38 #[.agg #[v]] w fun (r : Ending) w' => ∃ q, r = Ending.returned (.tuple #[q, .bool (okRW xs)]) ∧ OwnI 3 w' w.heap.size q (ansRW xs) ∧ (ansRW xs).length ≤ 1048576 ∧ Below w.heap.size w w' := by
  have HV := hid hv
  have HL := hid (ansRW_length xs)
  clear hv
  go_enter Tryz.func38, Tryz.ntmps38
  have HB := hid (below_alloc (Below.refl _ w) (.cells #[v] 26))
  have A0 := hid (At.newAt w v 26 w.heap.size (by simp))
  go_wp2_with fail
  refine (rvGood_any _ xs _ (HV.out.below HB.out) hl).mono ?_
  rintro e w' ⟨rfl, hb⟩
  replace HB := hid (below_to HB.out hb)
  replace A0 := hid (A0.out.below hb)
  clear hb
  cases hq : okRk xs
  · have HO := hid (okRW_no1 hq)
    clear hq
    have ebox0 := A0.out.1
    go_wp2
    go_ret2
    exact ⟨_, ret_vbW HO.out.symm, by rw [ansRW_no HO.out]; exact OwnI.nil _ _ _, HL.out, HB.out⟩
  · have HQ := hid hq
    have HG := hid (okRk_good hq).1
    obtain ⟨h, hh, h9⟩ := rkN_some HG.out
    have HH := hid hh
    have hz := HB.out.size
    clear hq hh
    have ebox0 := A0.out.1
    go_wp2_with fail
    clear ebox0
    refine (rvVacuate_any _ xs h _ (HV.out.below HB.out) HG.out HH.out h9).mono ?_
    rintro e w' ⟨q, rfl, ho, hb⟩
    replace HB := hid (below_to HB.out hb)
    replace A0 := hid (A0.out.below hb)
    clear hb
    have HO := hid ho
    obtain ⟨n, hn⟩ : ∃ n, (wVac h).length = n := ⟨_, rfl⟩
    obtain ⟨qA, qc, rfl, -⟩ := ho.shape
    have HN := hid hn
    rw [hn] at HO ⊢
    clear ho hn
    by_cases h40 : n ≤ 40
    · have HK := hid (okRW_yes HQ.out HH.out (by rw [HN.out]; exact h40))
      have ebox0 := A0.out.1
      go_wp2
      go_ret2
      exact ⟨_, ret_vbW HK.out.symm, by rw [ansRW_yes HK.out HH.out]; exact HO.out.mono hz, HL.out, HB.out⟩
    · have HK := hid (okRW_no2 HH.out (by rw [HN.out]; exact h40))
      have ebox0 := A0.out.1
      go_wp2
      go_ret2
      exact ⟨_, ret_vbW HK.out.symm, by rw [ansRW_no HK.out]; exact OwnI.nil _ _ _, HL.out, HB.out⟩
theorem implRowvacuationWord_any (v : Value) (xs : List Int) (w : World) (hv : Ints w v xs) (hl : xs.length ≤ 1048576) :
    Calls Tryz.prog 37 #[.agg #[v]] w fun (r : Ending) w' => ∃ q, r = Ending.returned (.tuple #[q, .bool (okRW xs)]) ∧ OwnI 3 w' w.heap.size q (ansRW xs) ∧ (ansRW xs).length ≤ 1048576 ∧ Below w.heap.size w w' := by
  have HV := hid hv
  have HL := hid (ansRW_length xs)
  clear hv
  go_enter Tryz.func37, Tryz.ntmps37
  have HB := hid (below_alloc (Below.refl _ w) (.cells #[v] 26))
  have A0 := hid (At.newAt w v 26 w.heap.size (by simp))
  go_wp2_with fail
  refine (implRanksOf_any _ xs _ (HV.out.below HB.out) hl).mono ?_
  rintro e w' ⟨q, rfl, ho, -, hb⟩
  replace HB := hid (below_to HB.out hb)
  replace A0 := hid (A0.out.below hb)
  clear hb
  cases hk : okRk xs
  · have HO := hid (okRW_no1 hk)
    clear hk
    obtain ⟨qA, qn, qc, rfl⟩ := ho.shape3
    clear ho
    have ebox0 := A0.out.1
    go_wp2
    go_ret2
    exact ⟨_, ret_vbW HO.out.symm, by rw [ansRW_no HO.out]; exact OwnI.nil _ _ _, HL.out, HB.out⟩
  · have HQ := hid hk
    rw [ansRO_yes hk] at ho
    obtain ⟨h, hh, h9⟩ := rkN_some (okRk_good hk).1
    obtain ⟨qA, qc, rfl, -⟩ := ho.shape
    rw [rankL_length, hh]
    have HH := hid hh
    have hz := HB.out.size
    clear hk ho hh
    have ebox0 := A0.out.1
    go_wp2_with fail
    clear ebox0
    refine (swVac_any h _ h9).mono ?_
    rintro e w' ⟨a, rfl, ha, hb⟩
    replace HB := hid (below_to HB.out hb)
    replace A0 := hid (A0.out.below hb)
    clear hb
    have hz2 := HB.out.size
    have HA := hid ha
    clear ha
    have ebox0 := A0.out.1
    go_wp2_with fail
    clear ebox0
    refine (wordVac_any a h _ HA.out h9).mono ?_
    rintro e w' ⟨u, rfl, ho, hb⟩
    replace HB := hid (below_to HB.out hb)
    replace A0 := hid (A0.out.below hb)
    replace HA := hid (HA.out.below hb)
    clear hb
    have HO := hid ho
    obtain ⟨n, hn⟩ : ∃ n, (wVac h).length = n := ⟨_, rfl⟩
    obtain ⟨uA, uc, rfl, -⟩ := ho.shape
    have HN := hid hn
    rw [hn] at HO ⊢
    clear ho hn
    by_cases h40 : n ≤ 40
    · have HK := hid (okRW_yes HQ.out HH.out (by rw [HN.out]; exact h40))
      have ebox0 := A0.out.1
      go_wp2
      go_ret2
      exact ⟨_, ret_vbW HK.out.symm, by rw [ansRW_yes HK.out HH.out]; exact HO.out.mono hz2, HL.out, HB.out⟩
    · have HK := hid (okRW_no2 HH.out (by rw [HN.out]; exact h40))
      have ebox0 := A0.out.1
      go_wp2
      go_ret2
      exact ⟨_, ret_vbW HK.out.symm, by rw [ansRW_no HK.out]; exact OwnI.nil _ _ _, HL.out, HB.out⟩
end Go.Proofs.YtdemikjaghegnaaGreat

/- Dual ideals: they are ideals of the dual, undo themselves, and rowmotion goes back on them. -/
namespace Go.Proofs.YtdemikjaghegnaaGreat
open Go.RowKit Go.WideShapes Go.ChangeShapes
set_option linter.unusedVariables false

theorem orN_congrD {p q : Nat → Bool} {g h : Nat → Nat} {k : Nat} (e : ∀ i, i < k → p i = q i ∧ g i = h i) : orN p g k = orN q h k := orN_congr e
theorem dualD_length {xs : List Int} (hg : good xs = true) : (dualL xs).length = xs.length := by rw [dualL_yes hg, whereL, mkL_length]
theorem dualD_row {xs : List Int} (hg : good xs = true) {i j : Nat} (hi : i < xs.length) : (row (dualL xs) i).testBit j = true ↔ j < i ∧ (row xs (xs.length - 1 - j)).testBit (xs.length - 1 - i) = true := by
  have e : (dualL xs).getD i 0 = ((rowN (fun j => dualF xs j i) i : Nat) : Int) := by rw [dualL_yes hg, whereL, mkL_getD hi]
  unfold row
  rw [e, Int.toNat_natCast, rowN_testBit]
  simp [dualF]
theorem dualD_get {xs : List Int} (hg : good xs = true) {i : Nat} (hi : i < xs.length) : (dualL xs).getD i 0 = ((row (dualL xs) i : Nat) : Int) ∧ row (dualL xs) i < 2 ^ i := by
  have e : (dualL xs).getD i 0 = ((rowN (fun j => dualF xs j i) i : Nat) : Int) := by rw [dualL_yes hg, whereL, mkL_getD hi]
  unfold row
  rw [e, Int.toNat_natCast]
  exact ⟨rfl, rowN_lt _ _⟩
theorem dualD_good {xs : List Int} (hg : good xs = true) : good (dualL xs) = true := by
  have hl := dualD_length hg
  have hb := good_length hg
  refine good_of (by omega) (by omega) fun i hi => ?_
  rw [hl] at hi
  obtain ⟨h1, h2⟩ := dualD_get hg hi
  unfold okAt
  rw [h1, Int.toNat_natCast]
  have hid : holdsIdeal (dualL xs) (row (dualL xs) i) = true := by
    rw [holdsIdeal_row]
    intro e he hbe j hj
    rw [hl] at he
    obtain ⟨a1, a2⟩ := (dualD_row hg hi).1 hbe
    obtain ⟨b1, b2⟩ := (dualD_row hg he).1 hj
    refine (dualD_row hg hi).2 ⟨by omega, ?_⟩
    exact row_closed hg (show xs.length - 1 - j < xs.length by omega) b2 a2
  rw [hid]
  have : 0 ≤ ((row (dualL xs) i : Nat) : Int) := by omega
  have h3 : ((row (dualL xs) i : Nat) : Int) ≤ ((2 ^ i - 1 : Nat) : Int) := by omega
  simp [this, h3]
/-- the dual ideal's elements -/
theorem duN_bit {n s e : Nat} : (duN n s).testBit e = true ↔ e < n ∧ s.testBit (n - 1 - e) = false := by
  unfold duN duK
  rw [orN_testBit]
  constructor
  · rintro ⟨i, hi, hp, hb⟩
    rw [Nat.testBit_two_pow] at hb
    have hie : n - 1 - i = e := by simpa using hb
    refine ⟨by omega, ?_⟩
    rw [show n - 1 - e = i by omega]
    simpa using hp
  · rintro ⟨h1, h2⟩
    exact ⟨n - 1 - e, by omega, by simp [h2], by rw [Nat.testBit_two_pow]; simp; omega⟩
theorem duN_lt' (n s : Nat) : duN n s < 2 ^ n := by
  unfold duN duK
  exact orN_lt fun i hi _ => pow_lt_len (by omega)
theorem duN_twice {n s : Nat} (hs : s < 2 ^ n) : duN n (duN n s) = s := by
  apply Nat.eq_of_testBit_eq
  intro e
  rw [Bool.eq_iff_iff, duN_bit]
  constructor
  · rintro ⟨h1, h2⟩
    rw [Bool.eq_false_iff] at h2
    cases hb : s.testBit e
    · exact absurd (duN_bit.2 ⟨by omega, by rw [show n - 1 - (n - 1 - e) = e by omega]; exact hb⟩) h2
    · rfl
  · intro hb
    have he := testBit_lt hs hb
    refine ⟨he, ?_⟩
    rw [Bool.eq_false_iff]
    intro hc
    have := (duN_bit.1 hc).2
    rw [show n - 1 - (n - 1 - e) = e by omega, hb] at this
    cases this
theorem duN_ideal {xs : List Int} (hg : good xs = true) {s : Nat} (hi : holdsIdeal xs s = true) : holdsIdeal (dualL xs) (duN xs.length s) = true := by
  rw [holdsIdeal_row]
  intro e he hb j hj
  rw [dualD_length hg] at he
  obtain ⟨h1, h2⟩ := (dualD_row hg he).1 hj
  obtain ⟨-, h3⟩ := duN_bit.1 hb
  refine duN_bit.2 ⟨by omega, ?_⟩
  rw [Bool.eq_false_iff]
  intro hc
  have := holdsIdeal_row.1 hi (xs.length - 1 - j) (by omega) hc _ h2
  rw [h3] at this; cases this
theorem duN_ok {xs : List Int} (hg : good xs = true) {s : Nat} (hi : holdsIdeal xs s = true) : okIdeal (dualL xs) ((duN xs.length s : Nat) : Int) = true := by
  rw [okIdeal, okSet_nat (dualD_good hg) (by rw [dualD_length hg]; exact duN_lt' _ _), Int.toNat_natCast, duN_ideal hg hi]; rfl
theorem duN_rowP {xs : List Int} (hg : good xs = true) {t f : Nat} (hf : f < xs.length) : rowP (dualL xs) (duN xs.length t) f = (top xs t).testBit (xs.length - 1 - f) := by
  rw [Bool.eq_iff_iff, rowP_iff]
  unfold top
  rw [sub_testBit, Bool.and_eq_true, Bool.not_eq_true']
  constructor
  · rintro ⟨h1, h2⟩
    have hin : t.testBit (xs.length - 1 - f) = true := by
      cases hb : t.testBit (xs.length - 1 - f)
      · rw [duN_bit.2 ⟨hf, hb⟩] at h1; cases h1
      · rfl
    refine ⟨hin, ?_⟩
    rw [Bool.eq_false_iff]
    intro hu
    obtain ⟨e, he, hb, hr⟩ := (underN_testBit xs t xs.length _).1 hu
    have hlt : xs.length - 1 - f < e := row_less hg he hr
    have := h2 (xs.length - 1 - e) ((dualD_row hg hf).2 ⟨by omega, by rw [show xs.length - 1 - (xs.length - 1 - e) = e by omega]; exact hr⟩)
    have h3 := (duN_bit.1 this).2
    rw [show xs.length - 1 - (xs.length - 1 - e) = e by omega, hb] at h3
    cases h3
  · rintro ⟨h1, h2⟩
    refine ⟨?_, fun j hj => ?_⟩
    · rw [Bool.eq_false_iff]
      intro hc
      have := (duN_bit.1 hc).2
      rw [h1] at this; cases this
    · obtain ⟨h3, h4⟩ := (dualD_row hg hf).1 hj
      refine duN_bit.2 ⟨by omega, ?_⟩
      rw [Bool.eq_false_iff]
      intro hc
      rw [Bool.eq_false_iff] at h2
      exact h2 ((underN_testBit xs t xs.length _).2 ⟨xs.length - 1 - j, by omega, hc, h4⟩)
theorem duN_rowmo {xs : List Int} (hg : good xs = true) {s : Nat} (hs : s < 2 ^ xs.length) (hi : holdsIdeal xs s = true) : rowmo (dualL xs) (duN xs.length s) = duN xs.length (rowba xs s) := by
  have hb1 := rowba_lt xs s
  have hb2 := rowba_ideal hg s
  have hrb := rowmo_rowba hg hs hi
  have hl := dualD_length hg
  apply Nat.eq_of_testBit_eq
  intro e
  rw [Bool.eq_iff_iff, rowmo_bit, duN_bit, hl]
  constructor
  · rintro ⟨f, hf, hp, he⟩
    rw [duN_rowP hg hf, ← hrb, ← rowmo_topB hg hb2 (by omega)] at hp
    have hel : e < xs.length := by
      rcases he with he | he
      · omega
      · have := ((dualD_row hg hf).1 he).1; omega
    refine ⟨hel, (out_iff hg hb2 xs.length _ (by omega) (by omega)).2 ?_⟩
    rcases he with he | he
    · subst he; exact Or.inl hp
    · exact Or.inr ⟨_, ((dualD_row hg hf).1 he).2, hp⟩
  · rintro ⟨he, hout⟩
    rcases (out_iff hg hb2 xs.length _ (by omega) (by omega)).1 hout with hp | ⟨j, hj, hp⟩
    · refine ⟨e, he, ?_, Or.inl rfl⟩
      rw [duN_rowP hg he, ← hrb, ← rowmo_topB hg hb2 (by omega)]; exact hp
    · have hjl := row_less hg (show xs.length - 1 - e < xs.length by omega) hj
      refine ⟨xs.length - 1 - j, by omega, ?_, Or.inr ((dualD_row hg (by omega)).2 ⟨by omega, by rw [show xs.length - 1 - (xs.length - 1 - j) = j by omega]; exact hj⟩)⟩
      rw [duN_rowP hg (by omega), show xs.length - 1 - (xs.length - 1 - j) = j by omega, ← hrb, ← rowmo_topB hg hb2 (by omega)]; exact hp
end Go.Proofs.YtdemikjaghegnaaGreat

/- Ideals that rowvacuation leaves: the mathematics. -/
namespace Go.Proofs.YtdemikjaghegnaaGreat
open Go.RowKit Go.WideShapes Go.ChangeShapes
set_option linter.unusedVariables false

theorem tog_far (xs : List Int) (s e f : Nat) (h : f ≠ e) : (tog xs s e).testBit f = s.testBit f := by
  unfold tog
  split
  · rw [xor_bit, if_neg h]
  · rfl
theorem togW_far (xs : List Int) (f : Nat) : ∀ (ys : List Int) (s : Nat), (∀ y ∈ ys, y.toNat ≠ f) → (togW xs s ys).testBit f = s.testBit f
  | [], s, _ => rfl
  | y :: t, s, h => by
    show (togW xs (tog xs s y.toNat) t).testBit f = _
    rw [togW_far xs f t _ fun z hz => h z (List.mem_cons_of_mem _ hz)]
    exact tog_far xs s _ f fun e => h y (by simp) e.symm
/-- the ideal behind the first k sweeps of rowvacuation -/
def vcK (xs : List Int) (h s k : Nat) : Nat := togW xs s (rkW (rankL xs) (swL (fVac h) k))
theorem vcK_zero (xs : List Int) (h s : Nat) : vcK xs h s 0 = s := rfl
theorem vcK_succ (xs : List Int) (h s k : Nat) : vcK xs h s (k + 1) = togW xs (vcK xs h s k) (rkW (rankL xs) (fVac h k)) := by
  unfold vcK
  rw [swL_succ, rkW_append, togW_app]
theorem vcK_lt {xs : List Int} (hg : good xs = true) {h s k : Nat} (hh : rkN xs = h + 1) (hs : s < 2 ^ xs.length) : vcK xs h s k < 2 ^ xs.length :=
  togW_lt hs (inW_rkW hg (inW_flat fun k _ => inW_fsL (by omega)))
theorem fsL_mem {a b : Nat} (y : Int) : y ∈ fsL a b ↔ ∃ i : Nat, y = i ∧ b ≤ i ∧ i ≤ a := by
  unfold fsL
  rw [List.mem_map]
  constructor
  · rintro ⟨j, hj, rfl⟩
    rw [List.mem_range] at hj
    exact ⟨a - j, rfl, by omega, by omega⟩
  · rintro ⟨i, rfl, h1, h2⟩
    exact ⟨a - i, List.mem_range.2 (by omega), by congr 1; omega⟩
/-- an element of rank j stays as it is in the sweeps behind the sweep j -/
theorem vcK_stay {xs : List Int} {h s k f : Nat} (hh : rkN xs = h + 1) (hk : ((heightsL xs).getD f 0).toNat < k) : (vcK xs h s (k + 1)).testBit f = (vcK xs h s k).testBit f := by
  rw [vcK_succ]
  refine togW_far xs f _ _ fun y hy e => ?_
  obtain ⟨g, rfl, _, _, h4⟩ := (rkW_mem (inW_fsL (by omega)) y).1 hy
  obtain ⟨i, h5, h6, _⟩ := (fsL_mem _).1 h4
  rw [Int.toNat_natCast] at e
  subst e
  omega
theorem vcK_stays {xs : List Int} {h s f : Nat} (hh : rkN xs = h + 1) : ∀ d k, ((heightsL xs).getD f 0).toNat < k → (vcK xs h s (k + d)).testBit f = (vcK xs h s k).testBit f
  | 0, k, _ => rfl
  | d + 1, k, hk => by rw [← Nat.add_assoc, vcK_stay hh (by omega), vcK_stays hh d k hk]
/-- what is wrong in the rank k behind the sweep k -/
def wrK (xs : List Int) (h s k : Nat) : Nat := (vcK xs h s (k + 1) ^^^ s) &&& rkE (heightsL xs) xs.length k
/-- is the ideal left? (the model's test) -/
def vFix (xs : List Int) (h s : Nat) : Bool := vcK xs h s (h + 1) == s
theorem vFix_yes {xs : List Int} (hg : good xs = true) {h s : Nat} (hh : rkN xs = h + 1) (hs : s < 2 ^ xs.length) (hw : ∀ k, k < h + 1 → wrK xs h s k = 0) : vFix xs h s = true := by
  unfold vFix
  rw [beq_iff_eq]
  apply Nat.eq_of_testBit_eq
  intro f
  by_cases hf : f < xs.length
  · have hr : ((heightsL xs).getD f 0).toNat < h + 1 := by rw [← hh]; exact rkM_lt _ hf
    obtain ⟨i, hi⟩ : ∃ i, ((heightsL xs).getD f 0).toNat = i := ⟨_, rfl⟩
    rw [hi] at hr
    have h1 := vcK_stays (xs := xs) (h := h) (s := s) (f := f) hh (h - i) (i + 1) (by omega)
    rw [show i + 1 + (h - i) = h + 1 by omega] at h1
    rw [h1]
    have h2 := congrArg (fun x => x.testBit f) (hw i hr)
    have h3 : (rkE (heightsL xs) xs.length i).testBit f = true := (rkE_bit _ _ _ _).2 ⟨hf, hi⟩
    simp only [wrK, Nat.testBit_and, Nat.testBit_xor, Nat.zero_testBit, h3, Bool.and_true] at h2
    cases ha : (vcK xs h s (i + 1)).testBit f <;> cases hb : s.testBit f <;> simp [ha, hb] at h2 ⊢
  · have h1 : (vcK xs h s (h + 1)).testBit f = false := by
      rw [Bool.eq_false_iff]; intro hb; exact hf (testBit_lt (vcK_lt hg hh hs) hb)
    have h2 : s.testBit f = false := by
      rw [Bool.eq_false_iff]; intro hb; exact hf (testBit_lt hs hb)
    rw [h1, h2]
theorem vFix_no {xs : List Int} {h s k : Nat} (hh : rkN xs = h + 1) (hk : k < h + 1) (hw : wrK xs h s k ≠ 0) : vFix xs h s = false := by
  rw [Bool.eq_false_iff]
  intro hc
  unfold vFix at hc
  rw [beq_iff_eq] at hc
  apply hw
  apply Nat.eq_of_testBit_eq
  intro f
  rw [Nat.zero_testBit]
  unfold wrK
  rw [Nat.testBit_and, Nat.testBit_xor]
  cases hb : (rkE (heightsL xs) xs.length k).testBit f
  · rw [Bool.and_false]
  · obtain ⟨h1, h2⟩ := (rkE_bit _ _ _ _).1 hb
    have h3 := vcK_stays (xs := xs) (h := h) (s := s) (f := f) hh (h - k) (k + 1) (by omega)
    rw [show k + 1 + (h - k) = h + 1 by omega, hc] at h3
    rw [← h3]
    simp
/-- the ideals that are left, of a list's first ones -/
def fxL (xs : List Int) (h : Nat) (is : List Int) : List Int := is.filter fun s => vFix xs h s.toNat
theorem fxL_yes {xs : List Int} {h : Nat} {is : List Int} {k s : Nat} (hk : k < is.length) (e : is.getD k 0 = (s : Int)) (hf : vFix xs h s = true) : fxL xs h (is.take (k + 1)) = fxL xs h (is.take k) ++ [(s : Int)] := by
  have : is.take (k + 1) = is.take k ++ [(s : Int)] := by rw [List.take_succ_eq_append_getElem hk, ← e]; simp [List.getD, hk]
  unfold fxL
  rw [this, List.filter_append]
  simp [hf]
theorem fxL_no {xs : List Int} {h : Nat} {is : List Int} {k s : Nat} (hk : k < is.length) (e : is.getD k 0 = (s : Int)) (hf : vFix xs h s = false) : fxL xs h (is.take (k + 1)) = fxL xs h (is.take k) := by
  have : is.take (k + 1) = is.take k ++ [(s : Int)] := by rw [List.take_succ_eq_append_getElem hk, ← e]; simp [List.getD, hk]
  unfold fxL
  rw [this, List.filter_append]
  simp [hf]
theorem fxL_length (xs : List Int) (h : Nat) (is : List Int) (k : Nat) : (fxL xs h (is.take k)).length ≤ k := by
  unfold fxL
  exact Nat.le_trans (List.length_filter_le _ _) (by rw [List.length_take]; exact Nat.min_le_left _ _)
end Go.Proofs.YtdemikjaghegnaaGreat
