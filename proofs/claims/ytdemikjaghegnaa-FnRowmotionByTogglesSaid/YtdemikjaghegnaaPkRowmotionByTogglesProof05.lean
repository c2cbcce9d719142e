/- Texts Tg, Api, Tg2, one behind the other. -/
import Derived.Test.YtdemikjaghegnaaPkRowmotionByTogglesProof00
import Derived.Test.YtdemikjaghegnaaPkRowmotionByTogglesProof04
/- Words of toggles: the model's and the program's contracts. -/
namespace Go.Proofs.Ytdemikjaghegnaa
open Go.RowKit Go.WideShapes Go.ChangeShapes
set_option linter.unusedVariables false

theorem allIn_of {n : Nat} {ys : List Int} (h : ∀ j, j < ys.length → (decide (0 ≤ ys.getD j 0) && decide (ys.getD j 0 ≤ (n : Int) - 1)) = true) : inW n ys = true :=
  inW_of fun j hj => by
    have := h j hj
    simp only [Bool.and_eq_true, decide_eq_true_eq] at this
    omega
theorem not_inW' {n : Nat} {ys : List Int} {j : Nat} (hj : j < ys.length) (h : (decide (0 ≤ ys.getD j 0) && decide (ys.getD j 0 ≤ (n : Int) - 1)) = false) : inW n ys = false :=
  not_inW hj fun hc => by
    rw [Bool.eq_false_iff] at h
    apply h
    simp only [Bool.and_eq_true, decide_eq_true_eq]
    omega
theorem l1All_same (v : Value) (ys : List Int) (n : Nat) (w : World) (hv : Ints w v ys) (hl : ys.length ≤ 1048576) (hn : n ≤ 1048576) :
    Calls Try.prog 102 #[v, .int .i64 0, .int .i64 ((n : Int) - 1)] w fun r w' => r = .returned (.bool (inW n ys)) ∧ w = w' := by
  obtain ⟨A, c, rfl, hA⟩ := hv
  have HA := hid hA
  clear hA
  go_enter Try.func102, Try.ntmps102
  go_wp2
  go_loop [11] (fun i => ∃ k : Nat, k ≤ ys.length ∧ i = .int .i64 k ∧ Hid (∀ j, j < k → (decide (0 ≤ ys.getD j 0) && decide (ys.getD j 0 ≤ (n : Int) - 1)) = true)) (fun i => ys.length - (intOf i).toNat)
  case atStart => exact ⟨0, Nat.zero_le _, rfl, hid (fun j hj => absurd hj (Nat.not_lt_zero _))⟩
  case round =>
    obtain ⟨k, hk, rfl, Hk⟩ := hrel
    by_cases hlt : k < ys.length
    · obtain ⟨b, o, rfl, hb, hc⟩ := HA.out (by intro h; simp [h] at hlt)
      have hcell := hc k hlt
      clear hc
      obtain ⟨x, hx⟩ : ∃ x, ys.getD k 0 = x := ⟨_, rfl⟩
      rw [hx] at hcell
      have Hx := hid hx
      clear hx
      cases hq : (decide (0 ≤ x) && decide (x ≤ (n : Int) - 1))
      · have HQ := hid hq
        have HN := hid (not_inW' (n := n) hlt (by rw [Hx.out]; exact hq))
        clear hq
        go_wp2_with (go_at_call 69; refine (l1In_any _ _ _ _).mono ?_; rw [HQ.out]; rintro e w' ⟨rfl, rfl⟩)
        go_ret
        exact ⟨ret_bool HN.out.symm, rfl⟩
      · have HQ := hid hq
        clear hq
        go_wp2_with (go_at_call 69; refine (l1In_any _ _ _ _).mono ?_; rw [HQ.out]; rintro e w' ⟨rfl, rfl⟩)
        go_round
        case rel => exact ⟨k + 1, by omega, by go_num, hid (fun j hj => by
          by_cases h : j = k
          · subst h; rw [Hx.out]; exact HQ.out
          · exact Hk.out j (by omega))⟩
        case measure => simp [intOf]; omega
    · obtain rfl : k = ys.length := by omega
      have HN := hid (allIn_of (n := n) Hk.out)
      go_wp2
      go_ret
      exact ⟨ret_bool HN.out.symm, rfl⟩
theorem l1All_any (v : Value) (ys : List Int) (n : Nat) (w : World) (hv : Ints w v ys) (hl : ys.length ≤ 1048576) (hn : n ≤ 1048576) :
    Calls Try.prog 102 #[v, .int .i64 0, .int .i64 ((n : Int) - 1)] w fun r w' => r = .returned (.bool (inW n ys)) ∧ Below w.heap.size w w' :=
  (l1All_same v ys n w hv hl hn).mono fun _ _ ⟨h1, h2⟩ => ⟨h1, h2 ▸ Below.refl _ _⟩
theorem okWord_long {xs ys : List Int} (h : ¬ ys.length ≤ 100) : okWord xs ys = false := by simp [okWord, h]
theorem okWord_short {xs ys : List Int} (h : ys.length ≤ 100) : okWord xs ys = inW xs.length ys := by simp [okWord, h]
theorem tgIsWord_any (v u : Value) (xs ys : List Int) (w : World) (hv : Ints w v xs) (hu : Ints w u ys) (hl : xs.length ≤ 1048576) (hm : ys.length ≤ 1048576) :
    Calls Try.prog 84 #[.agg #[v], u] w fun r w' => r = .returned (.bool (okWord xs ys)) ∧ Below w.heap.size w w' := by
  have HU := hid hu
  obtain ⟨A, c, rfl, hA⟩ := hv
  obtain ⟨A2, c2, rfl, hA2⟩ := hu
  clear hA hA2
  by_cases h100 : ys.length ≤ 100
  · have HO := hid (okWord_short (xs := xs) h100)
    go_enter Try.func84, Try.ntmps84
    have HB := hid (below_alloc (Below.refl _ w) (.cells #[(.slice A xs.length c)] 26))
    have A0 := hid (At.newAt w (.slice A xs.length c) 26 w.heap.size (by simp))
    go_wp2_with fail
    refine (l1All_any _ ys xs.length _ (HU.out.below HB.out) hm hl).mono ?_
    rintro e w' ⟨rfl, hb⟩
    replace HB := hid (below_to HB.out hb)
    replace A0 := hid (A0.out.below hb)
    clear hb
    have ebox0 := A0.out.1
    go_wp2
    go_ret
    exact ⟨ret_bool HO.out.symm, HB.out⟩
  · have HO := hid (okWord_long (xs := xs) h100)
    go_enter Try.func84, Try.ntmps84
    have HB := hid (below_alloc (Below.refl _ w) (.cells #[(.slice A xs.length c)] 26))
    have A0 := hid (At.newAt w (.slice A xs.length c) 26 w.heap.size (by simp))
    go_wp2
    go_ret
    exact ⟨ret_bool HO.out.symm, HB.out⟩
theorem tgWord_any (v u : Value) (xs ys : List Int) (s : Nat) (w : World) (hv : Ints w v xs) (hu : Ints w u ys) (hg : good xs = true) (hs : s < 2 ^ xs.length) (hy : inW xs.length ys = true) (hm : ys.length ≤ 1048576) :
    Calls Try.prog 85 #[.agg #[v], .int .i64 s, u] w fun r w' => r = .returned (.int .i64 (togW xs s ys : Nat)) ∧ Below w.heap.size w w' := by
  have HV := hid hv
  have HG := hid hg
  have HY := hid hy
  have HN := hid hs
  obtain ⟨A, c, rfl, hA⟩ := hu
  have HA := hid hA
  clear hA hv hg hy hs
  go_enter Try.func85, Try.ntmps85
  have HB := hid (below_alloc (Below.refl _ w) (.cells #[v] 26))
  have A0 := hid (At.newAt w v 26 w.heap.size (by simp))
  go_wp2
  go_loopw [1, 11] (fun q i wr => ∃ k t : Nat, k ≤ ys.length ∧ i = .int .i64 k ∧ q = .int .i64 (t : Nat) ∧ Hid (togW xs s (ys.take k) = t) ∧ Below w.heap.size w wr ∧ At wr w.heap.size v) (fun _ i _ => ys.length - (intOf i).toNat)
  case atStart => exact ⟨0, s, Nat.zero_le _, rfl, rfl, hid rfl, HB.out, A0.out⟩
  case round =>
    obtain ⟨k, t, hk, rfl, rfl, HT, hb, ha⟩ := hrel
    by_cases hlt : k < ys.length
    · obtain ⟨b, o, rfl, hbl, hc⟩ := HA.out (by intro h; simp [h] at hlt)
      have hcell : wr.cell? ⟨b, o + k, none⟩ = some (.int .i64 (ys.getD k 0)) := by
        rw [hb.cell (p := ⟨b, o + k, none⟩) hbl]; exact hc k hlt
      have hin := inW_at HY.out hlt
      have HK := hid (togW_take xs s ys k hlt)
      have hl2 : togW xs s (ys.take k) < 2 ^ xs.length := togW_lt HN.out (inW_take k HY.out)
      obtain ⟨x, hx⟩ : ∃ x, ys.getD k 0 = x := ⟨_, rfl⟩
      rw [hx] at hcell hin
      obtain ⟨e, rfl⟩ := Int.eq_ofNat_of_zero_le hin.1
      have HL := hid (show t < 2 ^ xs.length by rw [← HT.out]; exact hl2)
      have HX := hid hx
      have HB1 := hid hb
      have HA1 := hid ha
      have he : e < xs.length := by omega
      have hbox := ha.1
      clear hc hl2 hx hb ha
      go_wp2_with fail
      clear hbox
      refine (tgAt_any _ xs t e _ (HV.out.below HB1.out) HG.out HL.out he).mono ?_
      rintro e' w' ⟨rfl, hb⟩
      have HB2 := hid (below_to HB1.out hb)
      have HA2 := hid (HA1.out.below hb)
      clear hb
      go_wp2
      go_roundw
      case rel => exact ⟨k + 1, _, by omega, by go_num, rfl, hid (by rw [HK.out, HX.out, HT.out]; rfl), HB2.out, HA2.out⟩
      case measure => simp [intOf]; omega
    · obtain rfl : k = ys.length := by omega
      have HB1 := hid hb
      clear hb ha
      go_wp2
      go_ret
      exact ⟨ret_int (by rw [← HT.out, List.take_length]), HB1.out⟩
theorem step_any (v u : Value) (xs ys : List Int) (s : Nat) (w : World) (hv : Ints w v xs) (hu : Ints w u ys) (hg : good xs = true) (hs : s < 2 ^ xs.length) (hy : inW xs.length ys = true) (hm : ys.length ≤ 1048576) :
    Calls Try.prog 83 #[u, .agg #[v], .int .i64 s] w fun r w' => r = .returned (.int .i64 (togW xs s ys : Nat)) ∧ Below w.heap.size w w' := by
  have HV := hid hv
  have hl10 := (good_length hg).2
  have HG := hid (good_small hg)
  have HY := hid hy
  have HN := hid hs
  obtain ⟨A, c, rfl, hA⟩ := hu
  have HA := hid hA
  clear hA hv hg hy hs
  go_enter Try.func83, Try.ntmps83
  have HB := hid (below_alloc (Below.refl _ w) (.cells #[v] 26))
  have A0 := hid (At.newAt w v 26 w.heap.size (by simp))
  go_wp2
  go_loopw [2, 12] (fun q i wr => ∃ k t : Nat, k ≤ ys.length ∧ i = .int .i64 k ∧ q = .int .i64 (t : Nat) ∧ Hid (togW xs s (ys.take k) = t) ∧ Below w.heap.size w wr ∧ At wr w.heap.size v) (fun _ i _ => ys.length - (intOf i).toNat)
  case atStart => exact ⟨0, s, Nat.zero_le _, rfl, rfl, hid rfl, HB.out, A0.out⟩
  case round =>
    obtain ⟨k, t, hk, rfl, rfl, HT, hb, ha⟩ := hrel
    by_cases hlt : k < ys.length
    · obtain ⟨b, o, rfl, hbl, hc⟩ := HA.out (by intro h; simp [h] at hlt)
      have hcell : wr.cell? ⟨b, o + k, none⟩ = some (.int .i64 (ys.getD k 0)) := by
        rw [hb.cell (p := ⟨b, o + k, none⟩) hbl]; exact hc k hlt
      have hin := inW_at HY.out hlt
      have HK := hid (togW_take xs s ys k hlt)
      have hl2 : togW xs s (ys.take k) < 2 ^ xs.length := togW_lt HN.out (inW_take k HY.out)
      obtain ⟨x, hx⟩ : ∃ x, ys.getD k 0 = x := ⟨_, rfl⟩
      rw [hx] at hcell hin
      obtain ⟨e, rfl⟩ := Int.eq_ofNat_of_zero_le hin.1
      have hl3 : t < 2 ^ xs.length := by rw [← HT.out]; exact hl2
      have he : e < xs.length := by omega
      have hz10 := lt1024 (xor_lt_len hl3 he) hl10
      have ht10 := lt1024 hl3 hl10
      have wp := wrap_pow' e (by omega)
      have hxor := xor_pow t e ht10 (by omega)
      obtain ⟨z, hz⟩ : ∃ z, t ^^^ 2 ^ e = z := ⟨_, rfl⟩
      rw [hz] at hz10 hxor
      have HX := hid hx
      have HZ := hid hz
      have HB1 := hid hb
      have HA1 := hid ha
      have hbox := ha.1
      clear hc hl2 hx hb ha hl3 hz
      go_wp2_with fail
      clear hbox hxor wp
      refine (holdsIdeal_any _ xs z _ (HV.out.below HB1.out) hl10 hz10 (HG.out z)).mono ?_
      rintro e' w' ⟨rfl, hb⟩
      have HB2 := hid (below_to HB1.out hb)
      have HA2 := hid (HA1.out.below hb)
      clear hb
      cases hI : holdsIdeal xs z
      · have HI := hid (tog_no (xs := xs) (s := t) (e := e) (by rw [HZ.out]; exact hI))
        clear hI
        go_wp2
        go_roundw
        case rel => exact ⟨k + 1, _, by omega, by go_num, rfl, hid (by rw [HK.out, HX.out, HT.out, Int.toNat_natCast, HI.out]), HB2.out, HA2.out⟩
        case measure => simp [intOf]; omega
      · have HI := hid (tog_yes (xs := xs) (s := t) (e := e) (by rw [HZ.out]; exact hI))
        clear hI
        go_wp2
        go_roundw
        case rel => exact ⟨k + 1, _, by omega, by go_num, rfl, hid (by rw [HK.out, HX.out, HT.out, Int.toNat_natCast, HI.out, HZ.out]), HB2.out, HA2.out⟩
        case measure => simp [intOf]; omega
    · obtain rfl : k = ys.length := by omega
      have HB1 := hid hb
      clear hb ha
      go_wp2
      go_ret
      exact ⟨ret_int (by rw [← HT.out, List.take_length]), HB1.out⟩
end Go.Proofs.Ytdemikjaghegnaa

/- What the exported functions of the model and of the program answer: a poset, and sets in it. -/
namespace Go.Proofs.Ytdemikjaghegnaa
open Go.RowKit Go.WideShapes Go.ChangeShapes
set_option linter.unusedVariables false
/-- the answers, and 0 or false where the arguments are none -/
def ansB (xs : List Int) (s : Int) (f : List Int → Nat → Bool) : Bool := okSet xs s && f xs s.toNat
def ansI (xs : List Int) (s : Int) (f : List Int → Nat → Nat) : Int := if okSet xs s then (f xs s.toNat : Int) else 0
theorem ret_bb {a b c d : Bool} (h : a = c) (k : b = d) : Ending.returned (.tuple #[.bool a, .bool b]) = .returned (.tuple #[.bool c, .bool d]) := by rw [h, k]
theorem ret_ib {a c : Int} {b d : Bool} (h : a = c) (k : b = d) : Ending.returned (.tuple #[.int .i64 a, .bool b]) = .returned (.tuple #[.int .i64 c, .bool d]) := by rw [h, k]
theorem implIsIdeal_any (v : Value) (xs : List Int) (s : Int) (w : World) (hv : Ints w v xs) (hl : xs.length ≤ 1048576) (wf : (Lit.int .i64 s).wf = true) :
    Calls Try.prog 66 #[.agg #[v], .int .i64 s] w fun r w' => r = .returned (.tuple #[.bool (ansB xs s holdsIdeal), .bool (okSet xs s)]) ∧ Below w.heap.size w w' := by
  have HV := hid hv
  clear wf
  cases ho : okSet xs s
  · have HO := hid ho
    clear ho hv
    go_enter Try.func66, Try.ntmps66
    go_wp2_with (go_at_call 60; refine (hasSet_any _ xs s _ (HV.out.alloc _) hl).mono ?_; rw [HO.out]; rintro e w1 ⟨rfl, hb1⟩)
    go_ret2
    exact ⟨ret_bb (by simp [ansB, HO.out]) rfl, ((Below.refl _ _).alloc (Nat.le_refl _) _).trans (hb1.mono (by simp))⟩
  · have hs2 := okSet_lt ho
    have hl10 := (good_length (okSet_good ho).1).2
    have HS := hid (good_small (okSet_good ho).1 s.toNat)
    obtain ⟨z, rfl⟩ := Int.eq_ofNat_of_zero_le hs2.1
    have HO := hid ho
    clear ho hv
    go_enter Try.func66, Try.ntmps66
    go_wp2_with fail
    refine (hasSet_any _ xs z _ (HV.out.alloc _) hl).mono ?_
    rw [HO.out]
    rintro e w1 ⟨rfl, hb1⟩
    have hbox := ((At.new w v 26).below hb1).1
    have HB1 := hid (below_to (below_alloc (Below.refl _ w) _) hb1)
    have HV1 := hid ((HV.out.alloc _).below hb1)
    clear hb1
    go_wp2_with (go_at_call 97; refine (holdsIdeal_any _ xs z _ HV1.out hl10 (by omega) HS.out).mono ?_; rintro e w3 ⟨rfl, hb3⟩)
    go_ret2
    exact ⟨ret_bb (by simp [ansB, HO.out]) rfl, below_to HB1.out hb3⟩

theorem implTopOf_any (v : Value) (xs : List Int) (s : Int) (w : World) (hv : Ints w v xs) (hl : xs.length ≤ 1048576) (wf : (Lit.int .i64 s).wf = true) :
    Calls Try.prog 14 #[.agg #[v], .int .i64 s] w fun r w' => r = .returned (.tuple #[.int .i64 (ansI xs s top), .bool (okSet xs s)]) ∧ Below w.heap.size w w' := by
  have HV := hid hv
  clear wf
  cases ho : okSet xs s
  · have HO := hid ho
    clear ho hv
    go_enter Try.func14, Try.ntmps14
    go_wp2_with (go_at_call 60; refine (hasSet_any _ xs s _ (HV.out.alloc _) hl).mono ?_; rw [HO.out]; rintro e w1 ⟨rfl, hb1⟩)
    go_ret2
    exact ⟨ret_ib (by simp [ansI, HO.out]) rfl, ((Below.refl _ _).alloc (Nat.le_refl _) _).trans (hb1.mono (by simp))⟩
  · have hs2 := okSet_lt ho
    have hl10 := (good_length (okSet_good ho).1).2
    have HS := hid (good_small (okSet_good ho).1 s.toNat)
    obtain ⟨z, rfl⟩ := Int.eq_ofNat_of_zero_le hs2.1
    have HO := hid ho
    clear ho hv
    go_enter Try.func14, Try.ntmps14
    go_wp2_with fail
    refine (hasSet_any _ xs z _ (HV.out.alloc _) hl).mono ?_
    rw [HO.out]
    rintro e w1 ⟨rfl, hb1⟩
    have hbox := ((At.new w v 26).below hb1).1
    have HB1 := hid (below_to (below_alloc (Below.refl _ w) _) hb1)
    have HV1 := hid ((HV.out.alloc _).below hb1)
    clear hb1
    go_wp2_with (go_at_call 61; refine (top_any _ xs z _ HV1.out hl10 (by omega) HS.out).mono ?_; rintro e w3 ⟨rfl, hb3⟩)
    go_ret2
    exact ⟨ret_ib (by simp [ansI, HO.out]) rfl, below_to HB1.out hb3⟩

theorem implBottomOf_any (v : Value) (xs : List Int) (s : Int) (w : World) (hv : Ints w v xs) (hl : xs.length ≤ 1048576) (wf : (Lit.int .i64 s).wf = true) :
    Calls Try.prog 15 #[.agg #[v], .int .i64 s] w fun r w' => r = .returned (.tuple #[.int .i64 (ansI xs s bottom), .bool (okSet xs s)]) ∧ Below w.heap.size w w' := by
  have HV := hid hv
  clear wf
  cases ho : okSet xs s
  · have HO := hid ho
    clear ho hv
    go_enter Try.func15, Try.ntmps15
    go_wp2_with (go_at_call 60; refine (hasSet_any _ xs s _ (HV.out.alloc _) hl).mono ?_; rw [HO.out]; rintro e w1 ⟨rfl, hb1⟩)
    go_ret2
    exact ⟨ret_ib (by simp [ansI, HO.out]) rfl, ((Below.refl _ _).alloc (Nat.le_refl _) _).trans (hb1.mono (by simp))⟩
  · have hs2 := okSet_lt ho
    have hl10 := (good_length (okSet_good ho).1).2
    have HS := hid (good_small (okSet_good ho).1 s.toNat)
    obtain ⟨z, rfl⟩ := Int.eq_ofNat_of_zero_le hs2.1
    have HO := hid ho
    clear ho hv
    go_enter Try.func15, Try.ntmps15
    go_wp2_with fail
    refine (hasSet_any _ xs z _ (HV.out.alloc _) hl).mono ?_
    rw [HO.out]
    rintro e w1 ⟨rfl, hb1⟩
    have hbox := ((At.new w v 26).below hb1).1
    have HB1 := hid (below_to (below_alloc (Below.refl _ w) _) hb1)
    have HV1 := hid ((HV.out.alloc _).below hb1)
    clear hb1
    obtain ⟨A, c, rfl, hA⟩ := HV1.out
    have HA := hid hA
    clear hA
    go_wp2
    clear hbox
    go_loop [6, 16] (fun f i => ∃ k : Nat, k ≤ xs.length ∧ i = .int .i64 k ∧ f = .int .i64 (bottomN xs z k : Nat)) (fun _ i => xs.length - (intOf i).toNat)
    case atStart => exact ⟨0, Nat.zero_le _, rfl, rfl⟩
    case round =>
      obtain ⟨k, hk, rfl, rfl⟩ := hrel
      by_cases hlt : k < xs.length
      · obtain ⟨b, o, rfl, hb, hc⟩ := HA.out (by intro h; simp [h] at hlt)
        have hcell := hc k hlt
        clear hc
        obtain ⟨x, hx⟩ : ∃ x, xs.getD k 0 = x := ⟨_, rfl⟩
        rw [hx] at hcell
        cases hbit : z.testBit k
        · have Hbit := hid hbit
          clear hbit hx
          go_wp2_with (go_at_call 62; refine (hasElement_any z k (by omega) (by omega) _).mono ?_; rw [Hbit.out]; rintro e w' ⟨rfl, rfl⟩)
          go_round
          case rel => exact ⟨k + 1, by omega, by go_num, by rw [bottomN, Hbit.out]; rfl⟩
          case measure => simp [intOf]; omega
        · have h2 := HS.out k hlt hbit
          rw [hx] at h2
          obtain ⟨y, rfl⟩ := Int.eq_ofNat_of_zero_le h2.1
          have han := i64_and_nat y z (by omega) (by omega)
          have Hz := hid hx
          have Hbit := hid hbit
          have h3 := bottomN_lt xs z k (by omega)
          have wp := wrap_pow' k (by omega)
          have hor := or_pow (bottomN xs z k) k h3 (by omega)
          clear hx hbit h2 h3
          by_cases h0 : y &&& z = 0
          · have hs' : (((y &&& z : Nat) : Int) == 0) = true := by rw [h0]; rfl
            have H0 := hid h0
            clear h0
            go_wp2_with (go_at_call 62; refine (hasElement_any z k (by omega) (by omega) _).mono ?_; rw [Hbit.out]; rintro e w' ⟨rfl, rfl⟩)
            go_round
            case rel => exact ⟨k + 1, by omega, by go_num, by rw [bottomN, Hbit.out, Hz.out, Int.toNat_natCast, H0.out]; rfl⟩
            case measure => simp [intOf]; omega
          · have hs' : (((y &&& z : Nat) : Int) == 0) = false := by rw [beq_eq_false_iff_ne]; omega
            have H0 : Hid ((y &&& z == 0) = false) := hid (by rw [beq_eq_false_iff_ne]; exact h0)
            clear h0
            go_wp2_with (go_at_call 62; refine (hasElement_any z k (by omega) (by omega) _).mono ?_; rw [Hbit.out]; rintro e w' ⟨rfl, rfl⟩)
            go_round
            case rel => exact ⟨k + 1, by omega, by go_num, by rw [bottomN, Hbit.out, Hz.out, Int.toNat_natCast, H0.out]; rfl⟩
            case measure => simp [intOf]; omega
      · obtain rfl : k = xs.length := by omega
        go_wp2
        go_ret2
        exact ⟨ret_ib (by simp [ansI, HO.out, bottom]) rfl, HB1.out⟩

theorem top_eq (xs : List Int) (z : Nat) : ((top xs z : Int) == (z : Int)) = holdsAntichain xs z := by
  unfold top holdsAntichain
  rw [Bool.eq_iff_iff, beq_iff_eq, beq_iff_eq]
  constructor
  · intro h
    have h : sub z (under xs z) = z := by omega
    apply Nat.eq_of_testBit_eq
    intro i
    have := congrArg (fun n => Nat.testBit n i) h
    simp only [sub_testBit] at this
    rw [Nat.testBit_and, Nat.zero_testBit]
    revert this
    cases z.testBit i <;> cases (under xs z).testBit i <;> simp
  · intro h
    suffices sub z (under xs z) = z by omega
    apply Nat.eq_of_testBit_eq
    intro i
    have := congrArg (fun n => Nat.testBit n i) h
    simp only [Nat.testBit_and, Nat.zero_testBit] at this
    rw [sub_testBit]
    revert this
    cases z.testBit i <;> cases (under xs z).testBit i <;> simp
end Go.Proofs.Ytdemikjaghegnaa

/- The program's own test of words; the functions that toggle by words. -/
namespace Go.Proofs.Ytdemikjaghegnaa
open Go.RowKit Go.WideShapes Go.ChangeShapes
set_option linter.unusedVariables false

theorem hasWordClosure_any (v : Value) (xs : List Int) (y : Int) (a : Nat) (w : World) (hv : Ints w v xs) (hl : xs.length ≤ 1048576) (h1 : At w a v) :
    Calls Try.prog 111 #[.int .i64 y, .pointer (some ⟨a, 0, none⟩)] w fun r w' => r = .returned (.bool (!(decide (0 ≤ y) && decide (y < xs.length)))) ∧ Below w.heap.size w w' := by
  have HV := hid hv
  have hbox := h1.1
  clear h1 hv
  go_enter Try.func111, Try.ntmps111
  go_wp2_with fail
  clear hbox
  refine (hasIndex_any _ xs y _ HV.out hl).mono ?_
  rintro e w' ⟨rfl, hb⟩
  obtain ⟨q, hq⟩ : ∃ q, (decide (0 ≤ y) && decide (y < (xs.length : Int))) = q := ⟨_, rfl⟩
  rw [hq]
  have HB := hid hb
  have HQ := hid hq
  clear hb hq
  cases q
  · go_wp2
    go_ret
    exact ⟨ret_bool (by rw [HQ.out]; rfl), HB.out⟩
  · go_wp2
    go_ret
    exact ⟨ret_bool (by rw [HQ.out]; rfl), HB.out⟩
theorem indexFunc_any (v u : Value) (xs ys : List Int) (a : Nat) (w : World) (hv : Ints w v xs) (hu : Ints w u ys) (hl : xs.length ≤ 1048576) (hm : ys.length ≤ 1048576) (h1 : At w a v) :
    Calls Try.prog 120 #[u, .func (.func 111) #[] #[.pointer (some ⟨a, 0, none⟩)]] w fun (r : Ending) w' => ∃ i : Int, r = Ending.returned (.int .i64 i) ∧ Hid (decide (0 ≤ i) = !inW xs.length ys) ∧ -1 ≤ i ∧ i ≤ 1048576 ∧ Below w.heap.size w w' := by
  have HV := hid hv
  have H1 := hid h1
  obtain ⟨A, c, rfl, hA⟩ := hu
  have HA := hid hA
  clear hA hv h1
  go_enter Try.func120, Try.ntmps120
  go_wp2
  go_loopw [8] (fun i wr => ∃ k : Nat, k ≤ ys.length ∧ i = .int .i64 k ∧ Hid (∀ j, j < k → (0 ≤ ys.getD j 0 ∧ ys.getD j 0 < xs.length)) ∧ Below w.heap.size w wr) (fun i _ => ys.length - (intOf i).toNat)
  case atStart => exact ⟨0, Nat.zero_le _, rfl, hid (fun j hj => absurd hj (Nat.not_lt_zero _)), Below.refl _ _⟩
  case round =>
    obtain ⟨k, hk, rfl, Hk, hb⟩ := hrel
    by_cases hlt : k < ys.length
    · obtain ⟨b, o, rfl, hbl, hc⟩ := HA.out (by intro h; simp [h] at hlt)
      have hcell : wr.cell? ⟨b, o + k, none⟩ = some (.int .i64 (ys.getD k 0)) := by
        rw [hb.cell (p := ⟨b, o + k, none⟩) hbl]; exact hc k hlt
      obtain ⟨x, hx⟩ : ∃ x, ys.getD k 0 = x := ⟨_, rfl⟩
      rw [hx] at hcell
      have HX := hid hx
      have HB := hid hb
      clear hc hx hb
      go_wp2_with fail
      refine (hasWordClosure_any v xs x a _ (HV.out.below HB.out) hl (H1.out.below HB.out)).mono ?_
      rintro e w' ⟨rfl, hb⟩
      have HB2 := hid (below_to HB.out hb)
      clear hb hcell
      cases hq : (decide (0 ≤ x) && decide (x < (xs.length : Int)))
      · have HN := hid (not_inW hlt (n := xs.length) (by
          rw [HX.out]; intro hc; rw [Bool.eq_false_iff] at hq; apply hq; simp only [Bool.and_eq_true, decide_eq_true_eq]; exact hc))
        clear hq
        go_wp2
        go_ret
        exact ⟨_, rfl, hid (by rw [HN.out]; simp), by omega, by omega, HB2.out⟩
      · have HQ := hid hq
        clear hq
        go_wp2
        go_roundw
        case rel => exact ⟨k + 1, by omega, by go_num, hid (fun j hj => by
          by_cases h : j = k
          · subst h; rw [HX.out]; simpa using HQ.out
          · exact Hk.out j (by omega)), HB2.out⟩
        case measure => simp [intOf]; omega
    · obtain rfl : k = ys.length := by omega
      have HN := hid (inW_of Hk.out)
      have HB := hid hb
      clear hb
      go_wp2
      go_ret
      exact ⟨_, rfl, hid (by rw [HN.out]; rfl), by omega, by omega, HB.out⟩
theorem containsFunc_any (v u : Value) (xs ys : List Int) (a : Nat) (w : World) (hv : Ints w v xs) (hu : Ints w u ys) (hl : xs.length ≤ 1048576) (hm : ys.length ≤ 1048576) (h1 : At w a v) :
    Calls Try.prog 110 #[u, .func (.func 111) #[] #[.pointer (some ⟨a, 0, none⟩)]] w fun r w' => r = .returned (.bool (!inW xs.length ys)) ∧ Below w.heap.size w w' := by
  have HV := hid hv
  have HU := hid hu
  have H1 := hid h1
  clear hv hu h1
  go_enter Try.func110, Try.ntmps110
  go_wp2_with fail
  refine (indexFunc_any v u xs ys a _ HV.out HU.out hl hm H1.out).mono ?_
  rintro e w' ⟨i, rfl, HI, h1, h2, hb⟩
  have HB := hid hb
  clear hb
  go_wp2
  go_ret
  exact ⟨ret_bool (by rw [← HI.out]), HB.out⟩
theorem hasWord_any (v u : Value) (xs ys : List Int) (w : World) (hv : Ints w v xs) (hu : Ints w u ys) (hl : xs.length ≤ 1048576) (hm : ys.length ≤ 1048576) :
    Calls Try.prog 82 #[.agg #[v], u] w fun r w' => r = .returned (.bool (okWord xs ys)) ∧ Below w.heap.size w w' := by
  have HV := hid hv
  have HU := hid hu
  obtain ⟨A2, c2, rfl, hA2⟩ := hu
  clear hA2 hv
  by_cases h100 : ys.length ≤ 100
  · have HO := hid (okWord_short (xs := xs) h100)
    go_enter Try.func82, Try.ntmps82
    have HB := hid (below_alloc (Below.refl _ w) (.cells #[v] 26))
    have A0 := hid (At.newAt w v 26 w.heap.size (by simp))
    go_wp2_with fail
    refine (containsFunc_any v _ xs ys w.heap.size _ (HV.out.below HB.out) (HU.out.below HB.out) hl hm A0.out).mono ?_
    rintro e w' ⟨rfl, hb⟩
    replace HB := hid (below_to HB.out hb)
    replace A0 := hid (A0.out.below hb)
    clear hb
    cases hq : inW xs.length ys
    · have HQ := hid hq
      clear hq
      have ebox0 := A0.out.1
      go_wp2
      go_ret
      exact ⟨ret_bool (by rw [HO.out, HQ.out]), HB.out⟩
    · have HQ := hid hq
      clear hq
      have ebox0 := A0.out.1
      go_wp2
      go_ret
      exact ⟨ret_bool (by rw [HO.out, HQ.out]), HB.out⟩
  · have HO := hid (okWord_long (xs := xs) h100)
    go_enter Try.func82, Try.ntmps82
    have HB := hid (below_alloc (Below.refl _ w) (.cells #[v] 26))
    have A0 := hid (At.newAt w v 26 w.heap.size (by simp))
    go_wp2
    go_ret
    exact ⟨ret_bool HO.out.symm, HB.out⟩

/-! ### ToggleWord, ToggleAt -/
def okTW (xs ys : List Int) (s : Int) : Bool := okIdeal xs s && okWord xs ys
def ansTW (xs ys : List Int) (s : Int) : Int := if okTW xs ys s then (togW xs s.toNat ys : Int) else 0
theorem okTW_no1 {xs ys : List Int} {s : Int} (h : okIdeal xs s = false) : okTW xs ys s = false := by simp [okTW, h]
theorem okTW_no2 {xs ys : List Int} {s : Int} (h : okWord xs ys = false) : okTW xs ys s = false := by simp [okTW, h]
theorem okTW_yes {xs ys : List Int} {s : Int} (h : okIdeal xs s = true) (k : okWord xs ys = true) : okTW xs ys s = true := by simp [okTW, h, k]
theorem ansTW_no {xs ys : List Int} {s : Int} (h : okTW xs ys s = false) : ansTW xs ys s = 0 := by simp [ansTW, h]
theorem ansTW_yes {xs ys : List Int} {z : Nat} (h : okTW xs ys z = true) : ansTW xs ys z = (togW xs z ys : Int) := by simp [ansTW, h]
theorem specToggleWord_any (v : Value) (xs : List Int) (s : Int) (u : Value) (ys : List Int) (w : World) (hv : Ints w v xs) (hl : xs.length ≤ 1048576) (wf : (Lit.int .i64 s).wf = true) (hu : Ints w u ys) (hm : ys.length ≤ 1048576) :
    Calls Try.prog 31 #[.agg #[v], .int .i64 s, u] w fun r w' => r = .returned (.tuple #[.int .i64 (ansTW xs ys s), .bool (okTW xs ys s)]) ∧ Below w.heap.size w w' := by
  have HV := hid hv
  have HU := hid hu
  clear hv hu wf
  go_enter Try.func31, Try.ntmps31
  have HB := hid (below_alloc (Below.refl _ w) (.cells #[v] 26))
  have A0 := hid (At.newAt w v 26 w.heap.size (by simp))
  go_wp2_with fail
  refine (tgIn_any _ xs s _ (HV.out.below HB.out) hl).mono ?_
  rintro e w' ⟨rfl, hb⟩
  replace HB := hid (below_to HB.out hb)
  replace A0 := hid (A0.out.below hb)
  clear hb
  cases hq : okIdeal xs s
  · have HO := hid (okTW_no1 (ys := ys) hq)
    clear hq
    have ebox0 := A0.out.1
    go_wp2
    go_ret2
    exact ⟨ret_ib (ansTW_no HO.out).symm HO.out.symm, HB.out⟩
  · have HQ := hid hq
    clear hq
    have ebox0 := A0.out.1
    go_wp2_with fail
    clear ebox0
    refine (tgIsWord_any _ _ xs ys _ (HV.out.below HB.out) (HU.out.below HB.out) hl hm).mono ?_
    rintro e w' ⟨rfl, hb⟩
    replace HB := hid (below_to HB.out hb)
    replace A0 := hid (A0.out.below hb)
    clear hb
    cases hk : okWord xs ys
    · have HO := hid (okTW_no2 (s := s) hk)
      clear hk
      have ebox0 := A0.out.1
      go_wp2
      go_ret2
      exact ⟨ret_ib (ansTW_no HO.out).symm HO.out.symm, HB.out⟩
    · have HO := hid (okTW_yes HQ.out hk)
      have HK := hid hk
      clear hk
      obtain ⟨z, rfl, h3, h4, h5⟩ := okIdeal_all HQ.out
      have HG := hid h3
      have HN := hid h4
      clear h3 h4 h5
      have ebox0 := A0.out.1
      go_wp2_with fail
      clear ebox0
      refine (tgWord_any _ _ xs ys z _ (HV.out.below HB.out) (HU.out.below HB.out) HG.out HN.out (okWord_in HK.out).2 hm).mono ?_
      rintro e w' ⟨rfl, hb⟩
      replace HB := hid (below_to HB.out hb)
      replace A0 := hid (A0.out.below hb)
      clear hb
      have ebox0 := A0.out.1
      go_wp2
      go_ret2
      exact ⟨ret_ib (ansTW_yes HO.out).symm HO.out.symm, HB.out⟩
theorem implToggleWord_any (v : Value) (xs : List Int) (s : Int) (u : Value) (ys : List Int) (w : World) (hv : Ints w v xs) (hl : xs.length ≤ 1048576) (wf : (Lit.int .i64 s).wf = true) (hu : Ints w u ys) (hm : ys.length ≤ 1048576) :
    Calls Try.prog 30 #[.agg #[v], .int .i64 s, u] w fun r w' => r = .returned (.tuple #[.int .i64 (ansTW xs ys s), .bool (okTW xs ys s)]) ∧ Below w.heap.size w w' := by
  have HV := hid hv
  have HU := hid hu
  clear hv hu wf
  go_enter Try.func30, Try.ntmps30
  have HB := hid (below_alloc (Below.refl _ w) (.cells #[v] 26))
  have A0 := hid (At.newAt w v 26 w.heap.size (by simp))
  go_wp2_with fail
  refine (hasIdeal_any _ xs s _ (HV.out.below HB.out) hl).mono ?_
  rintro e w' ⟨rfl, hb⟩
  replace HB := hid (below_to HB.out hb)
  replace A0 := hid (A0.out.below hb)
  clear hb
  cases hq : okIdeal xs s
  · have HO := hid (okTW_no1 (ys := ys) hq)
    clear hq
    have ebox0 := A0.out.1
    go_wp2
    go_ret2
    exact ⟨ret_ib (ansTW_no HO.out).symm HO.out.symm, HB.out⟩
  · have HQ := hid hq
    clear hq
    have ebox0 := A0.out.1
    go_wp2_with fail
    clear ebox0
    refine (hasWord_any _ _ xs ys _ (HV.out.below HB.out) (HU.out.below HB.out) hl hm).mono ?_
    rintro e w' ⟨rfl, hb⟩
    replace HB := hid (below_to HB.out hb)
    replace A0 := hid (A0.out.below hb)
    clear hb
    cases hk : okWord xs ys
    · have HO := hid (okTW_no2 (s := s) hk)
      clear hk
      have ebox0 := A0.out.1
      go_wp2
      go_ret2
      exact ⟨ret_ib (ansTW_no HO.out).symm HO.out.symm, HB.out⟩
    · have HO := hid (okTW_yes HQ.out hk)
      have HK := hid hk
      clear hk
      obtain ⟨z, rfl, h3, h4, h5⟩ := okIdeal_all HQ.out
      have HG := hid h3
      have HN := hid h4
      clear h3 h4 h5
      have ebox0 := A0.out.1
      go_wp2_with fail
      clear ebox0
      refine (step_any _ _ xs ys z _ (HV.out.below HB.out) (HU.out.below HB.out) HG.out HN.out (okWord_in HK.out).2 hm).mono ?_
      rintro e w' ⟨rfl, hb⟩
      replace HB := hid (below_to HB.out hb)
      replace A0 := hid (A0.out.below hb)
      clear hb
      have ebox0 := A0.out.1
      go_wp2
      go_ret2
      exact ⟨ret_ib (ansTW_yes HO.out).symm HO.out.symm, HB.out⟩
end Go.Proofs.Ytdemikjaghegnaa
