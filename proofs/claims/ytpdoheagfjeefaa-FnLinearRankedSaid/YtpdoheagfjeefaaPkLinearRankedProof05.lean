/- Texts Tg, Api, Tg2, Rev, Join, one behind the other. -/
import Derived.Lib.SliceRun
import Derived.RegionTactic
import Derived.Deep.AppendLies
import Derived.BigRegion
import Derived.Deep.RegionLaw
import Derived.Test.YtpdoheagfjeefaaPkLinearRankedProof00
import Derived.Test.YtpdoheagfjeefaaPkLinearRankedProof02
import Derived.Test.YtpdoheagfjeefaaPkLinearRankedProof04
/- Words of toggles: the model's and the program's contracts. -/
namespace Go.Proofs.Ytpdoheagfjeefaa
open Go.RowKit Go.WideShapes Go.ChangeShapes
set_option linter.unusedVariables false

theorem allIn_of {n : Nat} {ys : List Int} (h : ∀ j, j < ys.length → (decide (0 ≤ ys.getD j 0) && decide (ys.getD j 0 ≤ (n : Int) - 1)) = true) : inW n ys = true :=
  inW_of fun j hj => by
    have := h j hj
    simp only [Bool.and_eq_true, decide_eq_true_eq] at this
    omega
theorem not_inW' {n : Nat} {ys : List Int} {j : Nat} (hj : j < ys.length) (h : (decide (0 ≤ ys.getD j 0) && decide (ys.getD j 0 ≤ (n : Int) - 1)) = false) : inW n ys = false :=
  not_inW hj fun hc => by
    rw [Bool.eq_false_iff] at h
    apply h
    simp only [Bool.and_eq_true, decide_eq_true_eq]
    omega
theorem l1All_same (v : Value) (ys : List Int) (n : Nat) (w : World) (hv : Ints w v ys) (hl : ys.length ≤ 1048576) (hn : n ≤ 1048576) :
    Calls Try.prog 158 #[v, .int .i64 0, .int .i64 ((n : Int) - 1)] w fun r w' => r = .returned (.bool (inW n ys)) ∧ w = w' := by
  obtain ⟨A, c, rfl, hA⟩ := hv
  have HA := hid hA
  clear hA
  go_enter Try.func158, Try.ntmps158
  go_wp2
  go_loop [11] (fun i => ∃ k : Nat, k ≤ ys.length ∧ i = .int .i64 k ∧ Hid (∀ j, j < k → (decide (0 ≤ ys.getD j 0) && decide (ys.getD j 0 ≤ (n : Int) - 1)) = true)) (fun i => ys.length - (intOf i).toNat)
  case atStart => exact ⟨0, Nat.zero_le _, rfl, hid (fun j hj => absurd hj (Nat.not_lt_zero _))⟩
  case round =>
    obtain ⟨k, hk, rfl, Hk⟩ := hrel
    by_cases hlt : k < ys.length
    · obtain ⟨b, o, rfl, hb, hc⟩ := HA.out (by intro h; simp [h] at hlt)
      have hcell := hc k hlt
      clear hc
      obtain ⟨x, hx⟩ : ∃ x, ys.getD k 0 = x := ⟨_, rfl⟩
      rw [hx] at hcell
      have Hx := hid hx
      clear hx
      cases hq : (decide (0 ≤ x) && decide (x ≤ (n : Int) - 1))
      · have HQ := hid hq
        have HN := hid (not_inW' (n := n) hlt (by rw [Hx.out]; exact hq))
        clear hq
        go_wp2_with (go_at_call 119; refine (l1In_any _ _ _ _).mono ?_; rw [HQ.out]; rintro e w' ⟨rfl, rfl⟩)
        go_ret
        exact ⟨ret_bool HN.out.symm, rfl⟩
      · have HQ := hid hq
        clear hq
        go_wp2_with (go_at_call 119; refine (l1In_any _ _ _ _).mono ?_; rw [HQ.out]; rintro e w' ⟨rfl, rfl⟩)
        go_round
        case rel => exact ⟨k + 1, by omega, by go_num, hid (fun j hj => by
          by_cases h : j = k
          · subst h; rw [Hx.out]; exact HQ.out
          · exact Hk.out j (by omega))⟩
        case measure => simp [intOf]; omega
    · obtain rfl : k = ys.length := by omega
      have HN := hid (allIn_of (n := n) Hk.out)
      go_wp2
      go_ret
      exact ⟨ret_bool HN.out.symm, rfl⟩
theorem l1All_any (v : Value) (ys : List Int) (n : Nat) (w : World) (hv : Ints w v ys) (hl : ys.length ≤ 1048576) (hn : n ≤ 1048576) :
    Calls Try.prog 158 #[v, .int .i64 0, .int .i64 ((n : Int) - 1)] w fun r w' => r = .returned (.bool (inW n ys)) ∧ Below w.heap.size w w' :=
  (l1All_same v ys n w hv hl hn).mono fun _ _ ⟨h1, h2⟩ => ⟨h1, h2 ▸ Below.refl _ _⟩
theorem okWord_long {xs ys : List Int} (h : ¬ ys.length ≤ 100) : okWord xs ys = false := by simp [okWord, h]
theorem okWord_short {xs ys : List Int} (h : ys.length ≤ 100) : okWord xs ys = inW xs.length ys := by simp [okWord, h]
theorem tgIsWord_any (v u : Value) (xs ys : List Int) (w : World) (hv : Ints w v xs) (hu : Ints w u ys) (hl : xs.length ≤ 1048576) (hm : ys.length ≤ 1048576) :
    Calls Try.prog 101 #[.agg #[v], u] w fun r w' => r = .returned (.bool (okWord xs ys)) ∧ Below w.heap.size w w' := by
  have HU := hid hu
  obtain ⟨A, c, rfl, hA⟩ := hv
  obtain ⟨A2, c2, rfl, hA2⟩ := hu
  clear hA hA2
  by_cases h100 : ys.length ≤ 100
  · have HO := hid (okWord_short (xs := xs) h100)
    go_enter Try.func101, Try.ntmps101
    have HB := hid (below_alloc (Below.refl _ w) (.cells #[(.slice A xs.length c)] 26))
    have A0 := hid (At.newAt w (.slice A xs.length c) 26 w.heap.size (by simp))
    go_wp2_with fail
    refine (l1All_any _ ys xs.length _ (HU.out.below HB.out) hm hl).mono ?_
    rintro e w' ⟨rfl, hb⟩
    replace HB := hid (below_to HB.out hb)
    replace A0 := hid (A0.out.below hb)
    clear hb
    have ebox0 := A0.out.1
    go_wp2
    go_ret
    exact ⟨ret_bool HO.out.symm, HB.out⟩
  · have HO := hid (okWord_long (xs := xs) h100)
    go_enter Try.func101, Try.ntmps101
    have HB := hid (below_alloc (Below.refl _ w) (.cells #[(.slice A xs.length c)] 26))
    have A0 := hid (At.newAt w (.slice A xs.length c) 26 w.heap.size (by simp))
    go_wp2
    go_ret
    exact ⟨ret_bool HO.out.symm, HB.out⟩
theorem tgWord_any (v u : Value) (xs ys : List Int) (s : Nat) (w : World) (hv : Ints w v xs) (hu : Ints w u ys) (hg : good xs = true) (hs : s < 2 ^ xs.length) (hy : inW xs.length ys = true) (hm : ys.length ≤ 1048576) :
    Calls Try.prog 102 #[.agg #[v], .int .i64 s, u] w fun r w' => r = .returned (.int .i64 (togW xs s ys : Nat)) ∧ Below w.heap.size w w' := by
  have HV := hid hv
  have HG := hid hg
  have HY := hid hy
  have HN := hid hs
  obtain ⟨A, c, rfl, hA⟩ := hu
  have HA := hid hA
  clear hA hv hg hy hs
  go_enter Try.func102, Try.ntmps102
  have HB := hid (below_alloc (Below.refl _ w) (.cells #[v] 26))
  have A0 := hid (At.newAt w v 26 w.heap.size (by simp))
  go_wp2
  go_loopw [1, 11] (fun q i wr => ∃ k t : Nat, k ≤ ys.length ∧ i = .int .i64 k ∧ q = .int .i64 (t : Nat) ∧ Hid (togW xs s (ys.take k) = t) ∧ Below w.heap.size w wr ∧ At wr w.heap.size v) (fun _ i _ => ys.length - (intOf i).toNat)
  case atStart => exact ⟨0, s, Nat.zero_le _, rfl, rfl, hid rfl, HB.out, A0.out⟩
  case round =>
    obtain ⟨k, t, hk, rfl, rfl, HT, hb, ha⟩ := hrel
    by_cases hlt : k < ys.length
    · obtain ⟨b, o, rfl, hbl, hc⟩ := HA.out (by intro h; simp [h] at hlt)
      have hcell : wr.cell? ⟨b, o + k, none⟩ = some (.int .i64 (ys.getD k 0)) := by
        rw [hb.cell (p := ⟨b, o + k, none⟩) hbl]; exact hc k hlt
      have hin := inW_at HY.out hlt
      have HK := hid (togW_take xs s ys k hlt)
      have hl2 : togW xs s (ys.take k) < 2 ^ xs.length := togW_lt HN.out (inW_take k HY.out)
      obtain ⟨x, hx⟩ : ∃ x, ys.getD k 0 = x := ⟨_, rfl⟩
      rw [hx] at hcell hin
      obtain ⟨e, rfl⟩ := Int.eq_ofNat_of_zero_le hin.1
      have HL := hid (show t < 2 ^ xs.length by rw [← HT.out]; exact hl2)
      have HX := hid hx
      have HB1 := hid hb
      have HA1 := hid ha
      have he : e < xs.length := by omega
      have hbox := ha.1
      clear hc hl2 hx hb ha
      go_wp2_with fail
      clear hbox
      refine (tgAt_any _ xs t e _ (HV.out.below HB1.out) HG.out HL.out he).mono ?_
      rintro e' w' ⟨rfl, hb⟩
      have HB2 := hid (below_to HB1.out hb)
      have HA2 := hid (HA1.out.below hb)
      clear hb
      go_wp2
      go_roundw
      case rel => exact ⟨k + 1, _, by omega, by go_num, rfl, hid (by rw [HK.out, HX.out, HT.out]; rfl), HB2.out, HA2.out⟩
      case measure => simp [intOf]; omega
    · obtain rfl : k = ys.length := by omega
      have HB1 := hid hb
      clear hb ha
      go_wp2
      go_ret
      exact ⟨ret_int (by rw [← HT.out, List.take_length]), HB1.out⟩
theorem step_any (v u : Value) (xs ys : List Int) (s : Nat) (w : World) (hv : Ints w v xs) (hu : Ints w u ys) (hg : good xs = true) (hs : s < 2 ^ xs.length) (hy : inW xs.length ys = true) (hm : ys.length ≤ 1048576) :
    Calls Try.prog 99 #[u, .agg #[v], .int .i64 s] w fun r w' => r = .returned (.int .i64 (togW xs s ys : Nat)) ∧ Below w.heap.size w w' := by
  have HV := hid hv
  have hl10 := (good_length hg).2
  have HG := hid (good_small hg)
  have HY := hid hy
  have HN := hid hs
  obtain ⟨A, c, rfl, hA⟩ := hu
  have HA := hid hA
  clear hA hv hg hy hs
  go_enter Try.func99, Try.ntmps99
  have HB := hid (below_alloc (Below.refl _ w) (.cells #[v] 26))
  have A0 := hid (At.newAt w v 26 w.heap.size (by simp))
  go_wp2
  go_loopw [2, 12] (fun q i wr => ∃ k t : Nat, k ≤ ys.length ∧ i = .int .i64 k ∧ q = .int .i64 (t : Nat) ∧ Hid (togW xs s (ys.take k) = t) ∧ Below w.heap.size w wr ∧ At wr w.heap.size v) (fun _ i _ => ys.length - (intOf i).toNat)
  case atStart => exact ⟨0, s, Nat.zero_le _, rfl, rfl, hid rfl, HB.out, A0.out⟩
  case round =>
    obtain ⟨k, t, hk, rfl, rfl, HT, hb, ha⟩ := hrel
    by_cases hlt : k < ys.length
    · obtain ⟨b, o, rfl, hbl, hc⟩ := HA.out (by intro h; simp [h] at hlt)
      have hcell : wr.cell? ⟨b, o + k, none⟩ = some (.int .i64 (ys.getD k 0)) := by
        rw [hb.cell (p := ⟨b, o + k, none⟩) hbl]; exact hc k hlt
      have hin := inW_at HY.out hlt
      have HK := hid (togW_take xs s ys k hlt)
      have hl2 : togW xs s (ys.take k) < 2 ^ xs.length := togW_lt HN.out (inW_take k HY.out)
      obtain ⟨x, hx⟩ : ∃ x, ys.getD k 0 = x := ⟨_, rfl⟩
      rw [hx] at hcell hin
      obtain ⟨e, rfl⟩ := Int.eq_ofNat_of_zero_le hin.1
      have hl3 : t < 2 ^ xs.length := by rw [← HT.out]; exact hl2
      have he : e < xs.length := by omega
      have hz10 := lt1024 (xor_lt_len hl3 he) hl10
      have ht10 := lt1024 hl3 hl10
      have wp := wrap_pow' e (by omega)
      have hxor := xor_pow t e ht10 (by omega)
      obtain ⟨z, hz⟩ : ∃ z, t ^^^ 2 ^ e = z := ⟨_, rfl⟩
      rw [hz] at hz10 hxor
      have HX := hid hx
      have HZ := hid hz
      have HB1 := hid hb
      have HA1 := hid ha
      have hbox := ha.1
      clear hc hl2 hx hb ha hl3 hz
      go_wp2_with fail
      clear hbox hxor wp
      refine (holdsIdeal_any _ xs z _ (HV.out.below HB1.out) hl10 hz10 (HG.out z)).mono ?_
      rintro e' w' ⟨rfl, hb⟩
      have HB2 := hid (below_to HB1.out hb)
      have HA2 := hid (HA1.out.below hb)
      clear hb
      cases hI : holdsIdeal xs z
      · have HI := hid (tog_no (xs := xs) (s := t) (e := e) (by rw [HZ.out]; exact hI))
        clear hI
        go_wp2
        go_roundw
        case rel => exact ⟨k + 1, _, by omega, by go_num, rfl, hid (by rw [HK.out, HX.out, HT.out, Int.toNat_natCast, HI.out]), HB2.out, HA2.out⟩
        case measure => simp [intOf]; omega
      · have HI := hid (tog_yes (xs := xs) (s := t) (e := e) (by rw [HZ.out]; exact hI))
        clear hI
        go_wp2
        go_roundw
        case rel => exact ⟨k + 1, _, by omega, by go_num, rfl, hid (by rw [HK.out, HX.out, HT.out, Int.toNat_natCast, HI.out, HZ.out]), HB2.out, HA2.out⟩
        case measure => simp [intOf]; omega
    · obtain rfl : k = ys.length := by omega
      have HB1 := hid hb
      clear hb ha
      go_wp2
      go_ret
      exact ⟨ret_int (by rw [← HT.out, List.take_length]), HB1.out⟩
end Go.Proofs.Ytpdoheagfjeefaa

/- What the exported functions of the model and of the program answer: a poset, and sets in it. -/
namespace Go.Proofs.Ytpdoheagfjeefaa
open Go.RowKit Go.WideShapes Go.ChangeShapes
set_option linter.unusedVariables false
/-- the answers, and 0 or false where the arguments are none -/
def ansB (xs : List Int) (s : Int) (f : List Int → Nat → Bool) : Bool := okSet xs s && f xs s.toNat
def ansI (xs : List Int) (s : Int) (f : List Int → Nat → Nat) : Int := if okSet xs s then (f xs s.toNat : Int) else 0
theorem ret_bb {a b c d : Bool} (h : a = c) (k : b = d) : Ending.returned (.tuple #[.bool a, .bool b]) = .returned (.tuple #[.bool c, .bool d]) := by rw [h, k]
theorem ret_ib {a c : Int} {b d : Bool} (h : a = c) (k : b = d) : Ending.returned (.tuple #[.int .i64 a, .bool b]) = .returned (.tuple #[.int .i64 c, .bool d]) := by rw [h, k]
theorem implIsIdeal_any (v : Value) (xs : List Int) (s : Int) (w : World) (hv : Ints w v xs) (hl : xs.length ≤ 1048576) (wf : (Lit.int .i64 s).wf = true) :
    Calls Try.prog 103 #[.agg #[v], .int .i64 s] w fun r w' => r = .returned (.tuple #[.bool (ansB xs s holdsIdeal), .bool (okSet xs s)]) ∧ Below w.heap.size w w' := by
  have HV := hid hv
  clear wf
  cases ho : okSet xs s
  · have HO := hid ho
    clear ho hv
    go_enter Try.func103, Try.ntmps103
    go_wp2_with (go_at_call 153; refine (hasSet_any _ xs s _ (HV.out.alloc _) hl).mono ?_; rw [HO.out]; rintro e w1 ⟨rfl, hb1⟩)
    go_ret2
    exact ⟨ret_bb (by simp [ansB, HO.out]) rfl, ((Below.refl _ _).alloc (Nat.le_refl _) _).trans (hb1.mono (by simp))⟩
  · have hs2 := okSet_lt ho
    have hl10 := (good_length (okSet_good ho).1).2
    have HS := hid (good_small (okSet_good ho).1 s.toNat)
    obtain ⟨z, rfl⟩ := Int.eq_ofNat_of_zero_le hs2.1
    have HO := hid ho
    clear ho hv
    go_enter Try.func103, Try.ntmps103
    go_wp2_with fail
    refine (hasSet_any _ xs z _ (HV.out.alloc _) hl).mono ?_
    rw [HO.out]
    rintro e w1 ⟨rfl, hb1⟩
    have hbox := ((At.new w v 26).below hb1).1
    have HB1 := hid (below_to (below_alloc (Below.refl _ w) _) hb1)
    have HV1 := hid ((HV.out.alloc _).below hb1)
    clear hb1
    go_wp2_with (go_at_call 145; refine (holdsIdeal_any _ xs z _ HV1.out hl10 (by omega) HS.out).mono ?_; rintro e w3 ⟨rfl, hb3⟩)
    go_ret2
    exact ⟨ret_bb (by simp [ansB, HO.out]) rfl, below_to HB1.out hb3⟩

theorem top_eq (xs : List Int) (z : Nat) : ((top xs z : Int) == (z : Int)) = holdsAntichain xs z := by
  unfold top holdsAntichain
  rw [Bool.eq_iff_iff, beq_iff_eq, beq_iff_eq]
  constructor
  · intro h
    have h : sub z (under xs z) = z := by omega
    apply Nat.eq_of_testBit_eq
    intro i
    have := congrArg (fun n => Nat.testBit n i) h
    simp only [sub_testBit] at this
    rw [Nat.testBit_and, Nat.zero_testBit]
    revert this
    cases z.testBit i <;> cases (under xs z).testBit i <;> simp
  · intro h
    suffices sub z (under xs z) = z by omega
    apply Nat.eq_of_testBit_eq
    intro i
    have := congrArg (fun n => Nat.testBit n i) h
    simp only [Nat.testBit_and, Nat.zero_testBit] at this
    rw [sub_testBit]
    revert this
    cases z.testBit i <;> cases (under xs z).testBit i <;> simp
end Go.Proofs.Ytpdoheagfjeefaa

/- The program's own test of words; the functions that toggle by words. -/
namespace Go.Proofs.Ytpdoheagfjeefaa
open Go.RowKit Go.WideShapes Go.ChangeShapes
set_option linter.unusedVariables false

theorem hasWordClosure_any (v : Value) (xs : List Int) (y : Int) (a : Nat) (w : World) (hv : Ints w v xs) (hl : xs.length ≤ 1048576) (h1 : At w a v) :
    Calls Try.prog 155 #[.int .i64 y, .pointer (some ⟨a, 0, none⟩)] w fun r w' => r = .returned (.bool (!(decide (0 ≤ y) && decide (y < xs.length)))) ∧ Below w.heap.size w w' := by
  have HV := hid hv
  have hbox := h1.1
  clear h1 hv
  go_enter Try.func155, Try.ntmps155
  go_wp2_with fail
  clear hbox
  refine (hasIndex_any _ xs y _ HV.out hl).mono ?_
  rintro e w' ⟨rfl, hb⟩
  obtain ⟨q, hq⟩ : ∃ q, (decide (0 ≤ y) && decide (y < (xs.length : Int))) = q := ⟨_, rfl⟩
  rw [hq]
  have HB := hid hb
  have HQ := hid hq
  clear hb hq
  cases q
  · go_wp2
    go_ret
    exact ⟨ret_bool (by rw [HQ.out]; rfl), HB.out⟩
  · go_wp2
    go_ret
    exact ⟨ret_bool (by rw [HQ.out]; rfl), HB.out⟩
theorem indexFunc_any (v u : Value) (xs ys : List Int) (a : Nat) (w : World) (hv : Ints w v xs) (hu : Ints w u ys) (hl : xs.length ≤ 1048576) (hm : ys.length ≤ 1048576) (h1 : At w a v) :
    Calls Try.prog 168 #[u, .func (.func 155) #[] #[.pointer (some ⟨a, 0, none⟩)]] w fun (r : Ending) w' => ∃ i : Int, r = Ending.returned (.int .i64 i) ∧ Hid (decide (0 ≤ i) = !inW xs.length ys) ∧ -1 ≤ i ∧ i ≤ 1048576 ∧ Below w.heap.size w w' := by
  have HV := hid hv
  have H1 := hid h1
  obtain ⟨A, c, rfl, hA⟩ := hu
  have HA := hid hA
  clear hA hv h1
  go_enter Try.func168, Try.ntmps168
  go_wp2
  go_loopw [8] (fun i wr => ∃ k : Nat, k ≤ ys.length ∧ i = .int .i64 k ∧ Hid (∀ j, j < k → (0 ≤ ys.getD j 0 ∧ ys.getD j 0 < xs.length)) ∧ Below w.heap.size w wr) (fun i _ => ys.length - (intOf i).toNat)
  case atStart => exact ⟨0, Nat.zero_le _, rfl, hid (fun j hj => absurd hj (Nat.not_lt_zero _)), Below.refl _ _⟩
  case round =>
    obtain ⟨k, hk, rfl, Hk, hb⟩ := hrel
    by_cases hlt : k < ys.length
    · obtain ⟨b, o, rfl, hbl, hc⟩ := HA.out (by intro h; simp [h] at hlt)
      have hcell : wr.cell? ⟨b, o + k, none⟩ = some (.int .i64 (ys.getD k 0)) := by
        rw [hb.cell (p := ⟨b, o + k, none⟩) hbl]; exact hc k hlt
      obtain ⟨x, hx⟩ : ∃ x, ys.getD k 0 = x := ⟨_, rfl⟩
      rw [hx] at hcell
      have HX := hid hx
      have HB := hid hb
      clear hc hx hb
      go_wp2_with fail
      refine (hasWordClosure_any v xs x a _ (HV.out.below HB.out) hl (H1.out.below HB.out)).mono ?_
      rintro e w' ⟨rfl, hb⟩
      have HB2 := hid (below_to HB.out hb)
      clear hb hcell
      cases hq : (decide (0 ≤ x) && decide (x < (xs.length : Int)))
      · have HN := hid (not_inW hlt (n := xs.length) (by
          rw [HX.out]; intro hc; rw [Bool.eq_false_iff] at hq; apply hq; simp only [Bool.and_eq_true, decide_eq_true_eq]; exact hc))
        clear hq
        go_wp2
        go_ret
        exact ⟨_, rfl, hid (by rw [HN.out]; simp), by omega, by omega, HB2.out⟩
      · have HQ := hid hq
        clear hq
        go_wp2
        go_roundw
        case rel => exact ⟨k + 1, by omega, by go_num, hid (fun j hj => by
          by_cases h : j = k
          · subst h; rw [HX.out]; simpa using HQ.out
          · exact Hk.out j (by omega)), HB2.out⟩
        case measure => simp [intOf]; omega
    · obtain rfl : k = ys.length := by omega
      have HN := hid (inW_of Hk.out)
      have HB := hid hb
      clear hb
      go_wp2
      go_ret
      exact ⟨_, rfl, hid (by rw [HN.out]; rfl), by omega, by omega, HB.out⟩
theorem containsFunc_any (v u : Value) (xs ys : List Int) (a : Nat) (w : World) (hv : Ints w v xs) (hu : Ints w u ys) (hl : xs.length ≤ 1048576) (hm : ys.length ≤ 1048576) (h1 : At w a v) :
    Calls Try.prog 154 #[u, .func (.func 155) #[] #[.pointer (some ⟨a, 0, none⟩)]] w fun r w' => r = .returned (.bool (!inW xs.length ys)) ∧ Below w.heap.size w w' := by
  have HV := hid hv
  have HU := hid hu
  have H1 := hid h1
  clear hv hu h1
  go_enter Try.func154, Try.ntmps154
  go_wp2_with fail
  refine (indexFunc_any v u xs ys a _ HV.out HU.out hl hm H1.out).mono ?_
  rintro e w' ⟨i, rfl, HI, h1, h2, hb⟩
  have HB := hid hb
  clear hb
  go_wp2
  go_ret
  exact ⟨ret_bool (by rw [← HI.out]), HB.out⟩
theorem hasWord_any (v u : Value) (xs ys : List Int) (w : World) (hv : Ints w v xs) (hu : Ints w u ys) (hl : xs.length ≤ 1048576) (hm : ys.length ≤ 1048576) :
    Calls Try.prog 98 #[.agg #[v], u] w fun r w' => r = .returned (.bool (okWord xs ys)) ∧ Below w.heap.size w w' := by
  have HV := hid hv
  have HU := hid hu
  obtain ⟨A2, c2, rfl, hA2⟩ := hu
  clear hA2 hv
  by_cases h100 : ys.length ≤ 100
  · have HO := hid (okWord_short (xs := xs) h100)
    go_enter Try.func98, Try.ntmps98
    have HB := hid (below_alloc (Below.refl _ w) (.cells #[v] 26))
    have A0 := hid (At.newAt w v 26 w.heap.size (by simp))
    go_wp2_with fail
    refine (containsFunc_any v _ xs ys w.heap.size _ (HV.out.below HB.out) (HU.out.below HB.out) hl hm A0.out).mono ?_
    rintro e w' ⟨rfl, hb⟩
    replace HB := hid (below_to HB.out hb)
    replace A0 := hid (A0.out.below hb)
    clear hb
    cases hq : inW xs.length ys
    · have HQ := hid hq
      clear hq
      have ebox0 := A0.out.1
      go_wp2
      go_ret
      exact ⟨ret_bool (by rw [HO.out, HQ.out]), HB.out⟩
    · have HQ := hid hq
      clear hq
      have ebox0 := A0.out.1
      go_wp2
      go_ret
      exact ⟨ret_bool (by rw [HO.out, HQ.out]), HB.out⟩
  · have HO := hid (okWord_long (xs := xs) h100)
    go_enter Try.func98, Try.ntmps98
    have HB := hid (below_alloc (Below.refl _ w) (.cells #[v] 26))
    have A0 := hid (At.newAt w v 26 w.heap.size (by simp))
    go_wp2
    go_ret
    exact ⟨ret_bool HO.out.symm, HB.out⟩

/-! ### ToggleWord, ToggleAt -/
def okTW (xs ys : List Int) (s : Int) : Bool := okIdeal xs s && okWord xs ys
def ansTW (xs ys : List Int) (s : Int) : Int := if okTW xs ys s then (togW xs s.toNat ys : Int) else 0
theorem okTW_no1 {xs ys : List Int} {s : Int} (h : okIdeal xs s = false) : okTW xs ys s = false := by simp [okTW, h]
theorem okTW_no2 {xs ys : List Int} {s : Int} (h : okWord xs ys = false) : okTW xs ys s = false := by simp [okTW, h]
theorem okTW_yes {xs ys : List Int} {s : Int} (h : okIdeal xs s = true) (k : okWord xs ys = true) : okTW xs ys s = true := by simp [okTW, h, k]
theorem ansTW_no {xs ys : List Int} {s : Int} (h : okTW xs ys s = false) : ansTW xs ys s = 0 := by simp [ansTW, h]
theorem ansTW_yes {xs ys : List Int} {z : Nat} (h : okTW xs ys z = true) : ansTW xs ys z = (togW xs z ys : Int) := by simp [ansTW, h]
theorem specToggleWord_any (v : Value) (xs : List Int) (s : Int) (u : Value) (ys : List Int) (w : World) (hv : Ints w v xs) (hl : xs.length ≤ 1048576) (wf : (Lit.int .i64 s).wf = true) (hu : Ints w u ys) (hm : ys.length ≤ 1048576) :
    Calls Try.prog 26 #[.agg #[v], .int .i64 s, u] w fun r w' => r = .returned (.tuple #[.int .i64 (ansTW xs ys s), .bool (okTW xs ys s)]) ∧ Below w.heap.size w w' := by
  have HV := hid hv
  have HU := hid hu
  clear hv hu wf
  go_enter Try.func26, Try.ntmps26
  have HB := hid (below_alloc (Below.refl _ w) (.cells #[v] 26))
  have A0 := hid (At.newAt w v 26 w.heap.size (by simp))
  go_wp2_with fail
  refine (tgIn_any _ xs s _ (HV.out.below HB.out) hl).mono ?_
  rintro e w' ⟨rfl, hb⟩
  replace HB := hid (below_to HB.out hb)
  replace A0 := hid (A0.out.below hb)
  clear hb
  cases hq : okIdeal xs s
  · have HO := hid (okTW_no1 (ys := ys) hq)
    clear hq
    have ebox0 := A0.out.1
    go_wp2
    go_ret2
    exact ⟨ret_ib (ansTW_no HO.out).symm HO.out.symm, HB.out⟩
  · have HQ := hid hq
    clear hq
    have ebox0 := A0.out.1
    go_wp2_with fail
    clear ebox0
    refine (tgIsWord_any _ _ xs ys _ (HV.out.below HB.out) (HU.out.below HB.out) hl hm).mono ?_
    rintro e w' ⟨rfl, hb⟩
    replace HB := hid (below_to HB.out hb)
    replace A0 := hid (A0.out.below hb)
    clear hb
    cases hk : okWord xs ys
    · have HO := hid (okTW_no2 (s := s) hk)
      clear hk
      have ebox0 := A0.out.1
      go_wp2
      go_ret2
      exact ⟨ret_ib (ansTW_no HO.out).symm HO.out.symm, HB.out⟩
    · have HO := hid (okTW_yes HQ.out hk)
      have HK := hid hk
      clear hk
      obtain ⟨z, rfl, h3, h4, h5⟩ := okIdeal_all HQ.out
      have HG := hid h3
      have HN := hid h4
      clear h3 h4 h5
      have ebox0 := A0.out.1
      go_wp2_with fail
      clear ebox0
      refine (tgWord_any _ _ xs ys z _ (HV.out.below HB.out) (HU.out.below HB.out) HG.out HN.out (okWord_in HK.out).2 hm).mono ?_
      rintro e w' ⟨rfl, hb⟩
      replace HB := hid (below_to HB.out hb)
      replace A0 := hid (A0.out.below hb)
      clear hb
      have ebox0 := A0.out.1
      go_wp2
      go_ret2
      exact ⟨ret_ib (ansTW_yes HO.out).symm HO.out.symm, HB.out⟩
theorem implToggleWord_any (v : Value) (xs : List Int) (s : Int) (u : Value) (ys : List Int) (w : World) (hv : Ints w v xs) (hl : xs.length ≤ 1048576) (wf : (Lit.int .i64 s).wf = true) (hu : Ints w u ys) (hm : ys.length ≤ 1048576) :
    Calls Try.prog 25 #[.agg #[v], .int .i64 s, u] w fun r w' => r = .returned (.tuple #[.int .i64 (ansTW xs ys s), .bool (okTW xs ys s)]) ∧ Below w.heap.size w w' := by
  have HV := hid hv
  have HU := hid hu
  clear hv hu wf
  go_enter Try.func25, Try.ntmps25
  have HB := hid (below_alloc (Below.refl _ w) (.cells #[v] 26))
  have A0 := hid (At.newAt w v 26 w.heap.size (by simp))
  go_wp2_with fail
  refine (hasIdeal_any _ xs s _ (HV.out.below HB.out) hl).mono ?_
  rintro e w' ⟨rfl, hb⟩
  replace HB := hid (below_to HB.out hb)
  replace A0 := hid (A0.out.below hb)
  clear hb
  cases hq : okIdeal xs s
  · have HO := hid (okTW_no1 (ys := ys) hq)
    clear hq
    have ebox0 := A0.out.1
    go_wp2
    go_ret2
    exact ⟨ret_ib (ansTW_no HO.out).symm HO.out.symm, HB.out⟩
  · have HQ := hid hq
    clear hq
    have ebox0 := A0.out.1
    go_wp2_with fail
    clear ebox0
    refine (hasWord_any _ _ xs ys _ (HV.out.below HB.out) (HU.out.below HB.out) hl hm).mono ?_
    rintro e w' ⟨rfl, hb⟩
    replace HB := hid (below_to HB.out hb)
    replace A0 := hid (A0.out.below hb)
    clear hb
    cases hk : okWord xs ys
    · have HO := hid (okTW_no2 (s := s) hk)
      clear hk
      have ebox0 := A0.out.1
      go_wp2
      go_ret2
      exact ⟨ret_ib (ansTW_no HO.out).symm HO.out.symm, HB.out⟩
    · have HO := hid (okTW_yes HQ.out hk)
      have HK := hid hk
      clear hk
      obtain ⟨z, rfl, h3, h4, h5⟩ := okIdeal_all HQ.out
      have HG := hid h3
      have HN := hid h4
      clear h3 h4 h5
      have ebox0 := A0.out.1
      go_wp2_with fail
      clear ebox0
      refine (step_any _ _ xs ys z _ (HV.out.below HB.out) (HU.out.below HB.out) HG.out HN.out (okWord_in HK.out).2 hm).mono ?_
      rintro e w' ⟨rfl, hb⟩
      replace HB := hid (below_to HB.out hb)
      replace A0 := hid (A0.out.below hb)
      clear hb
      have ebox0 := A0.out.1
      go_wp2
      go_ret2
      exact ⟨ret_ib (ansTW_yes HO.out).symm HO.out.symm, HB.out⟩
end Go.Proofs.Ytpdoheagfjeefaa

/- Rowmotion and its way back: the model's and the program's contracts. · The motion that leads back. · Words backwards: slices.Clone and slices.Reverse at the words of toggles; the motion that leads back. -/
namespace Go.Proofs.Ytpdoheagfjeefaa
open Go.RowKit Go.WideShapes Go.ChangeShapes
set_option linter.unusedVariables false

theorem compl_bits (n s N : Nat) (hn : n ≤ 10) (hs : s < 1024) (hN : 2 ^ n = N) : bits .andNot .i64 ((N : Int) - 1) (s : Int) = ((compl n s : Nat) : Int) := by
  have hp := two_pow_le n hn
  have e : ((N : Int) - 1) = ((N - 1 : Nat) : Int) := by omega
  rw [e, i64_andNot_nat _ _ (by omega) (by omega)]
  unfold compl
  rw [hN]
end Go.Proofs.Ytpdoheagfjeefaa
namespace Go.Proofs.Ytpdoheagfjeefaa
open Go.RowKit Go.WideShapes Go.ChangeShapes
set_option linter.unusedVariables false

theorem ta3 (A : Option Addr) (n c : Nat) (w : World) : (Instr.typeAssert (.iface 82 (.slice A n c)) 114 82 true).run Try.prog w = .ok (.tuple #[.slice A n c, .bool true]) w := by kernel_rfl
end Go.Proofs.Ytpdoheagfjeefaa
namespace Go.Proofs.Ytpdoheagfjeefaa
open Go.RowKit Go.WideShapes Go.ChangeShapes
set_option linter.unusedVariables false

/-! ### the first k pairs exchanged -/
def revK (xs : List Int) (k : Nat) : List Int := (List.range xs.length).map fun t => if t < k ∨ xs.length - 1 - t < k then xs.getD (xs.length - 1 - t) 0 else xs.getD t 0
theorem grown_drew {a w : World} {row : Option Nat} (h : a.grownBy w row) : a.grownBy w.drew row := ⟨h.os, h.tape, h.output, h.size, h.block⟩
theorem revK_length (xs : List Int) (k : Nat) : (revK xs k).length = xs.length := by simp [revK]
theorem revK_at (xs : List Int) (k t : Nat) (ht : t < xs.length) : (revK xs k)[t]? = some (if t < k ∨ xs.length - 1 - t < k then xs.getD (xs.length - 1 - t) 0 else xs.getD t 0) := by
  simp [revK, ht]
theorem getD_eq (xs : List Int) (t : Nat) (ht : t < xs.length) : xs[t]? = some (xs.getD t 0) := by simp [List.getD, ht]
theorem revK_zero (xs : List Int) : revK xs 0 = xs := by
  apply List.ext_getElem?
  intro t
  by_cases ht : t < xs.length
  · rw [revK_at xs 0 t ht, if_neg (by omega), getD_eq xs t ht]
  · rw [List.getElem?_eq_none (by rw [revK_length]; omega), List.getElem?_eq_none (by omega)]
theorem revK_mid (xs : List Int) (k : Nat) (hk : k < xs.length - 1 - k) : (revK xs k).getD k 0 = xs.getD k 0 ∧ (revK xs k).getD (xs.length - 1 - k) 0 = xs.getD (xs.length - 1 - k) 0 := by
  constructor
  · rw [List.getD_eq_getElem?_getD, revK_at xs k k (by omega), if_neg (by omega)]; rfl
  · rw [List.getD_eq_getElem?_getD, revK_at xs k _ (by omega), if_neg (by omega)]; rfl
theorem revK_step (xs : List Int) (k : Nat) (hk : k < xs.length - 1 - k) : ((revK xs k).set k (xs.getD (xs.length - 1 - k) 0)).set (xs.length - 1 - k) (xs.getD k 0) = revK xs (k + 1) := by
  apply List.ext_getElem?
  intro t
  by_cases ht : t < xs.length
  · rw [revK_at xs (k + 1) t ht, List.getElem?_set, List.getElem?_set, List.length_set, revK_length, revK_at xs k t ht]
    by_cases h1 : xs.length - 1 - k = t
    · rw [if_pos h1, if_pos (by omega), if_pos (by omega)]
      have : xs.length - 1 - t = k := by omega
      rw [this]
    · rw [if_neg h1]
      by_cases h2 : k = t
      · subst h2
        rw [if_pos rfl, if_pos (by omega), if_pos (by omega)]
      · rw [if_neg h2]
        by_cases h3 : t < k ∨ xs.length - 1 - t < k
        · rw [if_pos h3, if_pos (by omega)]
        · rw [if_neg h3, if_neg (by omega)]
  · rw [List.getElem?_eq_none (by simp [revK_length]; omega), List.getElem?_eq_none (by rw [revK_length]; omega)]
theorem revK_full (xs : List Int) (k : Nat) (hk : ¬ k < xs.length - 1 - k) : revK xs k = xs.reverse := by
  apply List.ext_getElem?
  intro t
  by_cases ht : t < xs.length
  · rw [revK_at xs k t ht, List.getElem?_reverse ht, getD_eq xs _ (by omega)]
    by_cases h : t < k ∨ xs.length - 1 - t < k
    · rw [if_pos h]
    · rw [if_neg h]
      have : xs.length - 1 - t = t := by omega
      rw [this]
  · rw [List.getElem?_eq_none (by rw [revK_length]; omega), List.getElem?_eq_none (by simp; omega)]
end Go.Proofs.Ytpdoheagfjeefaa

/- Sums and stacks of posets. -/
namespace Go.Proofs.Ytpdoheagfjeefaa
open Go.RowKit Go.WideShapes Go.ChangeShapes
set_option linter.unusedVariables false

/-- 'append(out, y)' onto a slice of the call's own, as one step of a region that draws its order -/
theorem step_append_int {P : Program} {ops : Array Oper} {o : Oper} {a : Act} {w : World} {K : Act → World → Prop} {Q : Exit → Act → World → Prop} {E : Prop} (hgd : o.guard = none) (s x : Operand) (t e : TypeId)
    (ho : o.op = .call { callee := .builtin .append, args := #[s, x], argTypes := #[t, t] }) (ht : P.underlying t = some (.slice e)) (hinfo : (P.info? e).map (fun i => (i.zero, i.size, i.bytes)) = some (some (.int .i64 0), 1, 8))
    (B : Nat) (v : Value) (xs : List Int) (y : Int) (hs : a.eval s = v) (hown : OwnI e w B v xs) (g : Nat) (hx : a.eval x = .slice (some ⟨g, 0, none⟩) 1 1) (hg : Blk w g e #[.int .i64 y]) (hlen : xs.length < 1048576) (hB : B ≤ w.heap.size)
    (h : ∀ g' cap w', OwnI e w' B (.slice (some ⟨g', 0, none⟩) (xs.length + 1) cap) (xs ++ [y]) → w.grownBy w' v.ownBlock → (v.ownBlock = some g' ∨ g' = w.heap.size) → g' < w'.heap.size → K (a.put o.dst (.slice (some ⟨g', 0, none⟩) (xs.length + 1) cap)) w') :
    if Region.wanted o (yielded ops a.tmps) = true then Oper.wp P o a w K Q else E := by
  obtain ⟨i0, hi, hz0, hz1, hz2⟩ := info_parts hinfo
  refine step_append_lies w hgd s x t ho B e i0 (.int .i64 0) 1 8 ht hi hz0 hz1 hz2 rfl (by decide) v xs.length (xs.map (Value.int .i64)) hs hown ⟨g, 0, none⟩ 1 1 [.int .i64 y] hx rfl (World.news_of_block (cs := #[.int .i64 y]) hg) (by intro u hu; simp only [List.mem_singleton] at hu; subst hu; rfl) (by decide) (by unfold maxLen; omega) (by omega) hB _ rfl ?_
  intro g' cap w' h1 h2 h3 h4
  exact h g' cap w' (by unfold OwnI; simpa using h1) h2 h3 h4

/-- y moved up by n places, with all of 'below' -/
def shl (n below : Nat) (y : Int) : Int := ((y.toNat * 2 ^ n ||| below : Nat) : Int)
def joinL (xs ys : List Int) (below : Nat) : List Int := xs ++ ys.map (shl xs.length below)
def fits (xs ys : List Int) : Bool := (good xs && good ys) && decide (xs.length + ys.length ≤ 10)
theorem fits_good {xs ys : List Int} (h : fits xs ys = true) : good xs = true ∧ good ys = true ∧ xs.length + ys.length ≤ 10 := by
  simpa [fits, and_assoc] using h
def sumL (xs ys : List Int) : List Int := if fits xs ys then joinL xs ys 0 else []
def stackL (xs ys : List Int) : List Int := if fits xs ys then joinL xs ys (2 ^ xs.length - 1) else []
theorem joinL_take (xs ys : List Int) (below : Nat) {k : Nat} (hk : k < ys.length) : joinL xs (ys.take (k + 1)) below = joinL xs (ys.take k) below ++ [shl xs.length below (ys.getD k 0)] := by
  have e : ys.take (k + 1) = ys.take k ++ [ys.getD k 0] := by
    rw [List.take_succ_eq_append_getElem hk]; simp [List.getD, hk]
  unfold joinL
  rw [e, List.map_append, List.append_assoc]; rfl
theorem joinL_length (xs ys : List Int) (below : Nat) : (joinL xs ys below).length = xs.length + ys.length := by simp [joinL]
theorem l1Own_any (v : Value) (xs : List Int) (w : World) (hv : Ints w v xs) (hl : xs.length ≤ 1048576) :
    Calls Try.prog 82 #[v] w fun (r : Ending) w' => ∃ u, r = Ending.returned u ∧ OwnI 3 w' w.heap.size u xs ∧ Below w.heap.size w w' := by
  have HV := hid hv
  clear hv
  go_enter Try.func82, Try.ntmps82
  go_wp2_with (at_builtin; refine wpList_append_ints rfl _ _ 24 3 rfl Try.underlying24 Try.info3 w.heap.size _ [] rfl (OwnI.empty 3 w) _ xs rfl (HV.out.alloc _) (by simpa using hl) (by simp) ?_; rintro u w1 ho hb)
  go_ret
  exact ⟨_, rfl, by simpa using ho, (below_alloc (Below.refl _ w) _).trans hb⟩
end Go.Proofs.Ytpdoheagfjeefaa
