/- Dual ideals, and the word of rowvacuation: the model's and the program's contracts. -/
import Derived.Test.YtkalpichninncabRvU
import Derived.Test.YtkalpichninncabRvJ
import Derived.Test.YtkalpichninncabRow2
namespace Go.Proofs.Ytkalpichninncab
open Go.RowKit Go.WideShapes Go.ChangeShapes
set_option linter.unusedVariables false

/-- the dual ideal, of the first k elements -/
def duK (n s k : Nat) : Nat := orN (fun i => !s.testBit i) (fun i => 2 ^ (n - 1 - i)) k
def duN (n s : Nat) : Nat := duK n s n
theorem duK_lt {n s k : Nat} (hk : k ≤ n) : duK n s k < 2 ^ n := orN_lt fun i hi _ => pow_lt_len (by omega)
theorem duK_in {n s k : Nat} (h : s.testBit k = true) : duK n s (k + 1) = duK n s k := orN_no (p := fun i => !s.testBit i) (by simp [h])
theorem duK_out {n s k : Nat} (h : s.testBit k = false) : duK n s (k + 1) = duK n s k ||| 2 ^ (n - 1 - k) := orN_yes (p := fun i => !s.testBit i) (by simp [h])
def ansDU (xs : List Int) (s : Int) (f : Nat → Nat) : Int := if okIdeal xs s then (duN xs.length (f s.toNat) : Int) else 0
theorem ansDU_no {xs : List Int} {s : Int} {f : Nat → Nat} (h : okIdeal xs s = false) : ansDU xs s f = 0 := by simp [ansDU, h]
theorem ansDU_yes {xs : List Int} {z : Nat} {f : Nat → Nat} (h : okIdeal xs z = true) : ansDU xs z f = (duN xs.length (f z) : Int) := by simp [ansDU, h]
set_option maxHeartbeats 800000 in
theorem rvDual_any (v : Value) (xs : List Int) (s : Nat) (w : World) (hv : Ints w v xs) (hl10 : xs.length ≤ 10) (hs : s < 1024) :
    Calls Try.prog 48 #[.agg #[v], .int .i64 s] w fun r w' => r = .returned (.int .i64 (duN xs.length s : Nat)) ∧ Below w.heap.size w w' := by
  have HEnd : Hid (duN xs.length s = duK xs.length s xs.length) := hid rfl
  have HLt := hid (fun k (hk : k ≤ xs.length) => lt1024 (duK_lt (n := xs.length) (s := s) hk) hl10)
  have H0 : Hid (duK xs.length s 0 = 0) := hid rfl
  obtain ⟨A, c, rfl, -⟩ := hv
  obtain ⟨n, hn⟩ : ∃ n, xs.length = n := ⟨_, rfl⟩
  rw [hn] at HEnd HLt H0 hl10 ⊢
  clear hn
  go_enter Try.func48, Try.ntmps48
  have HB := hid (below_alloc (Below.refl _ w) (.cells #[(.slice A n c)] 28))
  have A0 := hid (At.newAt w (.slice A n c) 28 w.heap.size (by simp))
  go_wp2
  go_loop [6, 14] (fun q i => ∃ k t : Nat, k ≤ n ∧ i = .int .i64 k ∧ q = .int .i64 t ∧ Hid (duK n s k = t)) (fun _ i => n - (intOf i).toNat)
  case atStart => exact ⟨0, 0, Nat.zero_le _, rfl, rfl, hid H0.out⟩
  case round =>
    obtain ⟨k, t, hk, rfl, rfl, HT⟩ := hrel
    by_cases hlt : k < n
    · cases hbit : s.testBit k
      · have HBit := hid hbit
        have ht : t < 1024 := by rw [← HT.out]; exact HLt.out k hk
        obtain ⟨m, hm⟩ : ∃ m, n - 1 - k = m := ⟨_, rfl⟩
        have hmi : (n : Int) - 1 - k = (m : Int) := by omega
        have wp := wrap_pow' m (by omega)
        have hor := or_pow t m ht (by omega)
        have HN : Hid (duK n s (k + 1) = t ||| 2 ^ m) := hid (by rw [duK_out hbit, HT.out, hm])
        clear hbit ht hm
        go_wp2_with (go_at_call 73; refine (poIn_any s k (by omega) _).mono ?_; rw [HBit.out]; rintro e w' ⟨rfl, rfl⟩)
        go_round
        case rel => exact ⟨k + 1, _, by omega, by go_num, rfl, hid (by rw [HN.out])⟩
        case measure => simp [intOf]; omega
      · have HBit := hid hbit
        clear hbit
        go_wp2_with (go_at_call 73; refine (poIn_any s k (by omega) _).mono ?_; rw [HBit.out]; rintro e w' ⟨rfl, rfl⟩)
        go_round
        case rel => exact ⟨k + 1, t, by omega, by go_num, rfl, hid (by rw [duK_in HBit.out, HT.out])⟩
        case measure => simp [intOf]; omega
    · obtain rfl : k = n := by omega
      go_wp2
      go_ret
      exact ⟨ret_int (by rw [HEnd.out, HT.out]), HB.out⟩
theorem specDualIdeal_any (v : Value) (xs : List Int) (s : Int) (w : World) (hv : Ints w v xs) (hl : xs.length ≤ 1048576) (wf : (Lit.int .i64 s).wf = true) :
    Calls Try.prog 22 #[.agg #[v], .int .i64 s] w fun r w' => r = .returned (.tuple #[.int .i64 (ansDU xs s id), .bool (okIdeal xs s)]) ∧ Below w.heap.size w w' := by
  have HV := hid hv
  clear hv wf
  go_enter Try.func22, Try.ntmps22
  have HB := hid (below_alloc (Below.refl _ w) (.cells #[v] 28))
  have A0 := hid (At.newAt w v 28 w.heap.size (by simp))
  go_wp2_with fail
  refine (tgIn_any _ xs s _ (HV.out.below HB.out) hl).mono ?_
  rintro e w' ⟨rfl, hb⟩
  replace HB := hid (below_to HB.out hb)
  replace A0 := hid (A0.out.below hb)
  clear hb
  cases hq : okIdeal xs s
  · have HO := hid hq
    clear hq
    have ebox0 := A0.out.1
    go_wp2
    go_ret2
    exact ⟨ret_ib (ansDU_no HO.out).symm HO.out.symm, HB.out⟩
  · have HO := hid hq
    obtain ⟨z, rfl, hg, hz, hi⟩ := okIdeal_all hq
    have hl10 := (good_length hg).2
    have hz10 := lt1024 hz hl10
    clear hq hg hz hi
    have ebox0 := A0.out.1
    go_wp2_with fail
    clear ebox0
    refine (rvDual_any _ xs z _ (HV.out.below HB.out) hl10 hz10).mono ?_
    rintro e w' ⟨rfl, hb⟩
    replace HB := hid (below_to HB.out hb)
    replace A0 := hid (A0.out.below hb)
    clear hb
    have ebox0 := A0.out.1
    go_wp2
    go_ret2
    exact ⟨ret_ib (ansDU_yes (f := id) HO.out).symm HO.out.symm, HB.out⟩
set_option maxHeartbeats 1600000 in
theorem implDualIdeal_any (v : Value) (xs : List Int) (s : Int) (w : World) (hv : Ints w v xs) (hl : xs.length ≤ 1048576) (wf : (Lit.int .i64 s).wf = true) :
    Calls Try.prog 23 #[.agg #[v], .int .i64 s] w fun r w' => r = .returned (.tuple #[.int .i64 (ansDU xs s id), .bool (okIdeal xs s)]) ∧ Below w.heap.size w w' := by
  have HV := hid hv
  clear hv wf
  go_enter Try.func23, Try.ntmps23
  have HB := hid (below_alloc (Below.refl _ w) (.cells #[v] 28))
  have A0 := hid (At.newAt w v 28 w.heap.size (by simp))
  go_wp2_with fail
  refine (hasIdeal_any _ xs s _ (HV.out.below HB.out) hl).mono ?_
  rintro e w' ⟨rfl, hb⟩
  replace HB := hid (below_to HB.out hb)
  replace A0 := hid (A0.out.below hb)
  clear hb
  cases hq : okIdeal xs s
  · have HO := hid hq
    clear hq
    have ebox0 := A0.out.1
    go_wp2
    go_ret2
    exact ⟨ret_ib (ansDU_no HO.out).symm HO.out.symm, HB.out⟩
  · have HO := hid hq
    obtain ⟨z, rfl, hg, hz, hi⟩ := okIdeal_all hq
    have hl10 := (good_length hg).2
    have hz10 := lt1024 hz hl10
    have HAn := hid (ansDU_yes (f := id) hq)
    have HEnd : Hid (duN xs.length (id z) = duK xs.length z xs.length) := hid rfl
    have HLt := hid (fun k (hk : k ≤ xs.length) => lt1024 (duK_lt (n := xs.length) (s := z) hk) hl10)
    have H0 : Hid (duK xs.length z 0 = 0) := hid rfl
    obtain ⟨A, c, rfl, -⟩ := HV.out
    have hbx := A0.out.1
    obtain ⟨n, hn⟩ : ∃ n, xs.length = n := ⟨_, rfl⟩
    rw [hn] at HEnd HLt H0 hl10 HAn hbx
    clear hq hg hz hi hn
    go_wp2
    go_loop [6, 15] (fun q i => ∃ k t : Nat, k ≤ n ∧ i = .int .i64 k ∧ q = .int .i64 t ∧ Hid (duK n z k = t)) (fun _ i => n - (intOf i).toNat)
    case atStart => exact ⟨0, 0, Nat.zero_le _, rfl, rfl, hid H0.out⟩
    case round =>
      obtain ⟨k, t, hk, rfl, rfl, HT⟩ := hrel
      by_cases hlt : k < n
      · cases hbit : z.testBit k
        · have HBit := hid hbit
          have ht : t < 1024 := by rw [← HT.out]; exact HLt.out k hk
          obtain ⟨m, hm⟩ : ∃ m, n - 1 - k = m := ⟨_, rfl⟩
          have hmi : (n : Int) - 1 - k = (m : Int) := by omega
          have wp := wrap_pow' m (by omega)
          have hor := or_pow t m ht (by omega)
          have HN : Hid (duK n z (k + 1) = t ||| 2 ^ m) := hid (by rw [duK_out hbit, HT.out, hm])
          clear hbit ht hm
          go_wp2_with (go_at_call 50; refine (hasElement_any z k (by omega) (by omega) _).mono ?_; rw [HBit.out]; rintro e w' ⟨rfl, rfl⟩)
          go_round
          case rel => exact ⟨k + 1, _, by omega, by go_num, rfl, hid (by rw [HN.out])⟩
          case measure => simp [intOf]; omega
        · have HBit := hid hbit
          clear hbit
          go_wp2_with (go_at_call 50; refine (hasElement_any z k (by omega) (by omega) _).mono ?_; rw [HBit.out]; rintro e w' ⟨rfl, rfl⟩)
          go_round
          case rel => exact ⟨k + 1, t, by omega, by go_num, rfl, hid (by rw [duK_in HBit.out, HT.out])⟩
          case measure => simp [intOf]; omega
      · obtain rfl : k = n := by omega
        clear hbx
        go_wp2
        go_ret2
        exact ⟨ret_ib (by rw [HAn.out, HEnd.out, HT.out]) HO.out.symm, HB.out⟩
theorem duN_lt {n s : Nat} : duN n s < 2 ^ n := duK_lt (Nat.le_refl _)
theorem back_SR (v : Value) (xs : List Int) (w0 : World) (b s : Nat) (W : World) (hv : Ints w0 v xs) (hg : good xs = true) (hs : s < 2 ^ xs.length) (hS : SR w0 b v W) :
    Calls Try.prog 51 #[.agg #[v], .int .i64 s] W fun r w' => r = .returned (.int .i64 (rowba xs s : Nat)) ∧ SR w0 b v w' :=
  (tgBack_any v xs s W (hv.below hS.below) hg hs).mono fun _ _ ⟨h1, h2⟩ => ⟨h1, hS.to h2⟩
theorem dual_SR (v : Value) (xs : List Int) (w0 : World) (b s : Nat) (W : World) (hv : Ints w0 v xs) (hl10 : xs.length ≤ 10) (hs : s < 1024) (hS : SR w0 b v W) :
    Calls Try.prog 48 #[.agg #[v], .int .i64 s] W fun r w' => r = .returned (.int .i64 (duN xs.length s : Nat)) ∧ SR w0 b v w' :=
  (rvDual_any v xs s W (hv.below hS.below) hl10 hs).mono fun _ _ ⟨h1, h2⟩ => ⟨h1, hS.to h2⟩
set_option maxHeartbeats 800000 in
theorem specRowOnDual_any (v : Value) (xs : List Int) (s : Int) (w : World) (hv : Ints w v xs) (hl : xs.length ≤ 1048576) (wf : (Lit.int .i64 s).wf = true) :
    Calls Try.prog 24 #[.agg #[v], .int .i64 s] w fun r w' => r = .returned (.tuple #[.int .i64 (ansDU xs s (rowba xs)), .bool (okIdeal xs s)]) ∧ Below w.heap.size w w' := by
  have HV := hid hv
  clear hv wf
  go_enter Try.func24, Try.ntmps24
  have HB := hid (below_alloc (Below.refl _ w) (.cells #[v] 28))
  have A0 := hid (At.newAt w v 28 w.heap.size (by simp))
  go_wp2_with fail
  refine (tgIn_any _ xs s _ (HV.out.below HB.out) hl).mono ?_
  rintro e w' ⟨rfl, hb⟩
  replace HB := hid (below_to HB.out hb)
  replace A0 := hid (A0.out.below hb)
  clear hb
  cases hq : okIdeal xs s
  · have HO := hid hq
    clear hq
    have ebox0 := A0.out.1
    go_wp2
    go_ret2
    exact ⟨ret_ib (ansDU_no HO.out).symm HO.out.symm, HB.out⟩
  · have HO := hid hq
    obtain ⟨z, rfl, hg, hz, hi⟩ := okIdeal_all hq
    have hl10 := (good_length hg).2
    have HG := hid hg
    have HZ := hid hz
    have HAn := hid (ansDU_yes (f := rowba xs) hq)
    have hb10 := lt1024 (rowba_lt xs z) hl10
    have HV1 := hid (HV.out.below HB.out)
    have HS := hid (show SR w' w.heap.size v w' from ⟨A0.out, Below.refl _ _⟩)
    have hbx := A0.out.1
    clear hq hg hz hi
    go_wp2_with fail
    go_region_held3 (fun W => W.cell? ⟨w.heap.size, 0, none⟩ = some v ∧ Hid (SR w' w.heap.size v W)) (first | exact ⟨HS3.out.at_.1, HS3⟩ | exact ⟨HS2.out.at_.1, HS2⟩ | exact ⟨HS.out.drew.at_.1, hid HS.out.drew⟩) (first | (go_at_call 51; refine (back_SR v xs w' w.heap.size z _ HV1.out HG.out HZ.out (Hid.out (by first | assumption | exact hid HS.out.drew))).mono ?_; rintro e' w4 ⟨rfl, hs4⟩; have HS2 := hid hs4; clear hs4) | (go_at_call 48; refine (dual_SR v xs w' w.heap.size _ _ HV1.out hl10 hb10 HS2.out).mono ?_; rintro e' w5 ⟨rfl, hs5⟩; have HS3 := hid hs5; clear hs5))
    have HB3 := hid (below_to HB.out HS3.out.below)
    clear hbx
    go_wp2
    go_ret2
    exact ⟨ret_ib HAn.out.symm HO.out.symm, HB3.out⟩
theorem wf_d64 (n : Int) (h1 : -9223372036854775808 ≤ n) (h2 : n ≤ 9223372036854775807) : (Lit.int .i64 n).wf = true := by
  show (decide (IntKind.i64.min ≤ n) && decide (n ≤ IntKind.i64.max)) = true
  rw [show IntKind.i64.min = -9223372036854775808 from by decide, show IntKind.i64.max = 9223372036854775807 from by decide]
  simp [h1, h2]
theorem dual_back {xs : List Int} {s : Int} (h : okIdeal xs s = true) : ansDU xs (ansRow xs s rowba) id = ansDU xs s (rowba xs) ∧ okIdeal xs (ansRow xs s rowba) = true := by
  obtain ⟨z, rfl, hg, hz, hi⟩ := okIdeal_all h
  have h2 : okIdeal xs ((rowba xs z : Nat) : Int) = true := by
    rw [okIdeal, okSet_nat hg (rowba_lt xs z), Int.toNat_natCast, rowba_ideal hg z]; rfl
  rw [ansRow_yes h]
  exact ⟨by rw [ansDU_yes h2, ansDU_yes h]; rfl, h2⟩
theorem implRowOnDual_any (v : Value) (xs : List Int) (s : Int) (w : World) (hv : Ints w v xs) (hl : xs.length ≤ 1048576) (wf : (Lit.int .i64 s).wf = true) :
    Calls Try.prog 25 #[.agg #[v], .int .i64 s] w fun r w' => r = .returned (.tuple #[.int .i64 (ansDU xs s (rowba xs)), .bool (okIdeal xs s)]) ∧ Below w.heap.size w w' := by
  have HV := hid hv
  have WF := hid wf
  clear hv wf
  go_enter Try.func25, Try.ntmps25
  have HB := hid (below_alloc (Below.refl _ w) (.cells #[v] 28))
  have A0 := hid (At.newAt w v 28 w.heap.size (by simp))
  go_wp2_with fail
  refine (implRowmotionBack_any _ xs s _ (HV.out.below HB.out) hl WF.out).mono ?_
  rintro e w' ⟨rfl, hb⟩
  replace HB := hid (below_to HB.out hb)
  replace A0 := hid (A0.out.below hb)
  clear hb
  cases hq : okIdeal xs s
  · have HO := hid hq
    clear hq
    have ebox0 := A0.out.1
    go_wp2
    go_ret2
    exact ⟨ret_ib (ansDU_no HO.out).symm HO.out.symm, HB.out⟩
  · have HO := hid hq
    obtain ⟨h1, h2⟩ := dual_back hq
    obtain ⟨z, e1, hg, hz, hi⟩ := okIdeal_all h2
    have hz10 := lt1024 hz (good_length hg).2
    rw [e1] at h1 h2 ⊢
    have H1 := hid h1
    have H2 := hid h2
    have WZ : Hid ((Lit.int .i64 (z : Int)).wf = true) := hid (wf_d64 _ (by omega) (by omega))
    clear hq h1 h2 e1 hg hz hi
    have ebox0 := A0.out.1
    go_wp2_with fail
    clear ebox0
    refine (implDualIdeal_any _ xs z _ (HV.out.below HB.out) hl WZ.out).mono ?_
    rintro e w' ⟨rfl, hb⟩
    replace HB := hid (below_to HB.out hb)
    replace A0 := hid (A0.out.below hb)
    clear hb
    have ebox0 := A0.out.1
    go_wp2
    go_ret2
    exact ⟨ret_ib H1.out (H2.out.trans HO.out.symm), HB.out⟩
/-! ### RowvacuationWord -/
def okRW (xs : List Int) : Bool := okRk xs && decide ((wVac (rkN xs - 1)).length ≤ 40)
def ansRW (xs : List Int) : List Int := if okRW xs then wVac (rkN xs - 1) else []
theorem okRW_no1 {xs : List Int} (h : okRk xs = false) : okRW xs = false := by simp [okRW, h]
theorem okRW_no2 {xs : List Int} {h : Nat} (hh : rkN xs = h + 1) (hl : ¬ (wVac h).length ≤ 40) : okRW xs = false := by
  unfold okRW; rw [hh, Nat.add_sub_cancel, decide_eq_false hl, Bool.and_false]
theorem okRW_yes {xs : List Int} {h : Nat} (hk : okRk xs = true) (hh : rkN xs = h + 1) (hl : (wVac h).length ≤ 40) : okRW xs = true := by
  unfold okRW; rw [hk, hh, Nat.add_sub_cancel, decide_eq_true hl]; rfl
theorem ansRW_no {xs : List Int} (h : okRW xs = false) : ansRW xs = [] := by simp [ansRW, h]
theorem ansRW_yes {xs : List Int} {h : Nat} (hk : okRW xs = true) (hh : rkN xs = h + 1) : ansRW xs = wVac h := by unfold ansRW; rw [if_pos hk, hh]; rfl
theorem ansRW_length (xs : List Int) : (ansRW xs).length ≤ 1048576 := by
  cases h : okRW xs
  · rw [ansRW_no h]; simp
  · unfold ansRW
    rw [if_pos h]
    simp only [okRW, Bool.and_eq_true, decide_eq_true_eq] at h
    omega
theorem ret_vbW {u : Value} {a b : Bool} (h : a = b) : Ending.returned (.tuple #[u, .bool a]) = .returned (.tuple #[u, .bool b]) := by rw [h]
theorem specRowvacuationWord_any (v : Value) (xs : List Int) (w : World) (hv : Ints w v xs) (hl : xs.length ≤ 1048576) :
    Calls Try.prog 10 #[.agg #[v]] w fun (r : Ending) w' => ∃ q, r = Ending.returned (.tuple #[q, .bool (okRW xs)]) ∧ OwnI 3 w' w.heap.size q (ansRW xs) ∧ (ansRW xs).length ≤ 1048576 ∧ Below w.heap.size w w' := by
  have HV := hid hv
  have HL := hid (ansRW_length xs)
  clear hv
  go_enter Try.func10, Try.ntmps10
  have HB := hid (below_alloc (Below.refl _ w) (.cells #[v] 28))
  have A0 := hid (At.newAt w v 28 w.heap.size (by simp))
  go_wp2_with fail
  refine (rvGood_any _ xs _ (HV.out.below HB.out) hl).mono ?_
  rintro e w' ⟨rfl, hb⟩
  replace HB := hid (below_to HB.out hb)
  replace A0 := hid (A0.out.below hb)
  clear hb
  cases hq : okRk xs
  · have HO := hid (okRW_no1 hq)
    clear hq
    have ebox0 := A0.out.1
    go_wp2
    go_ret2
    exact ⟨_, ret_vbW HO.out.symm, by rw [ansRW_no HO.out]; exact OwnI.nil _ _ _, HL.out, HB.out⟩
  · have HQ := hid hq
    have HG := hid (okRk_good hq).1
    obtain ⟨h, hh, h9⟩ := rkN_some HG.out
    have HH := hid hh
    have hz := HB.out.size
    clear hq hh
    have ebox0 := A0.out.1
    go_wp2_with fail
    clear ebox0
    refine (rvVacuate_any _ xs h _ (HV.out.below HB.out) HG.out HH.out h9).mono ?_
    rintro e w' ⟨q, rfl, ho, hb⟩
    replace HB := hid (below_to HB.out hb)
    replace A0 := hid (A0.out.below hb)
    clear hb
    have HO := hid ho
    obtain ⟨n, hn⟩ : ∃ n, (wVac h).length = n := ⟨_, rfl⟩
    obtain ⟨qA, qc, rfl, -⟩ := ho.shape
    have HN := hid hn
    rw [hn] at HO ⊢
    clear ho hn
    by_cases h40 : n ≤ 40
    · have HK := hid (okRW_yes HQ.out HH.out (by rw [HN.out]; exact h40))
      have ebox0 := A0.out.1
      go_wp2
      go_ret2
      exact ⟨_, ret_vbW HK.out.symm, by rw [ansRW_yes HK.out HH.out]; exact HO.out.mono hz, HL.out, HB.out⟩
    · have HK := hid (okRW_no2 HH.out (by rw [HN.out]; exact h40))
      have ebox0 := A0.out.1
      go_wp2
      go_ret2
      exact ⟨_, ret_vbW HK.out.symm, by rw [ansRW_no HK.out]; exact OwnI.nil _ _ _, HL.out, HB.out⟩
theorem implRowvacuationWord_any (v : Value) (xs : List Int) (w : World) (hv : Ints w v xs) (hl : xs.length ≤ 1048576) :
    Calls Try.prog 12 #[.agg #[v]] w fun (r : Ending) w' => ∃ q, r = Ending.returned (.tuple #[q, .bool (okRW xs)]) ∧ OwnI 3 w' w.heap.size q (ansRW xs) ∧ (ansRW xs).length ≤ 1048576 ∧ Below w.heap.size w w' := by
  have HV := hid hv
  have HL := hid (ansRW_length xs)
  clear hv
  go_enter Try.func12, Try.ntmps12
  have HB := hid (below_alloc (Below.refl _ w) (.cells #[v] 28))
  have A0 := hid (At.newAt w v 28 w.heap.size (by simp))
  go_wp2_with fail
  refine (implRanksOf_any _ xs _ (HV.out.below HB.out) hl).mono ?_
  rintro e w' ⟨q, rfl, ho, -, hb⟩
  replace HB := hid (below_to HB.out hb)
  replace A0 := hid (A0.out.below hb)
  clear hb
  cases hk : okRk xs
  · have HO := hid (okRW_no1 hk)
    clear hk
    obtain ⟨qA, qn, qc, rfl⟩ := ho.shape3
    clear ho
    have ebox0 := A0.out.1
    go_wp2
    go_ret2
    exact ⟨_, ret_vbW HO.out.symm, by rw [ansRW_no HO.out]; exact OwnI.nil _ _ _, HL.out, HB.out⟩
  · have HQ := hid hk
    rw [ansRO_yes hk] at ho
    obtain ⟨h, hh, h9⟩ := rkN_some (okRk_good hk).1
    obtain ⟨qA, qc, rfl, -⟩ := ho.shape
    rw [rankL_length, hh]
    have HH := hid hh
    have hz := HB.out.size
    clear hk ho hh
    have ebox0 := A0.out.1
    go_wp2_with fail
    clear ebox0
    refine (swVac_any h _ h9).mono ?_
    rintro e w' ⟨a, rfl, ha, hb⟩
    replace HB := hid (below_to HB.out hb)
    replace A0 := hid (A0.out.below hb)
    clear hb
    have hz2 := HB.out.size
    have HA := hid ha
    clear ha
    have ebox0 := A0.out.1
    go_wp2_with fail
    clear ebox0
    refine (wordVac_any a h _ HA.out h9).mono ?_
    rintro e w' ⟨u, rfl, ho, hb⟩
    replace HB := hid (below_to HB.out hb)
    replace A0 := hid (A0.out.below hb)
    replace HA := hid (HA.out.below hb)
    clear hb
    have HO := hid ho
    obtain ⟨n, hn⟩ : ∃ n, (wVac h).length = n := ⟨_, rfl⟩
    obtain ⟨uA, uc, rfl, -⟩ := ho.shape
    have HN := hid hn
    rw [hn] at HO ⊢
    clear ho hn
    by_cases h40 : n ≤ 40
    · have HK := hid (okRW_yes HQ.out HH.out (by rw [HN.out]; exact h40))
      have ebox0 := A0.out.1
      go_wp2
      go_ret2
      exact ⟨_, ret_vbW HK.out.symm, by rw [ansRW_yes HK.out HH.out]; exact HO.out.mono hz2, HL.out, HB.out⟩
    · have HK := hid (okRW_no2 HH.out (by rw [HN.out]; exact h40))
      have ebox0 := A0.out.1
      go_wp2
      go_ret2
      exact ⟨_, ret_vbW HK.out.symm, by rw [ansRW_no HK.out]; exact OwnI.nil _ _ _, HL.out, HB.out⟩
end Go.Proofs.Ytkalpichninncab
