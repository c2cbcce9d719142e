/- GaussOf and HookPolynomial: the model. -/
import Derived.Test.YtnlehkjfidpdlaaSvG
import Derived.Test.YtnlehkjfidpdlaaTabS
namespace Go.Proofs.Ytnlehkjfidpdlaa
open Go.RowKit Go.WideShapes Go.ChangeShapes
set_option linter.unusedVariables false

theorem ret_vbG {u : Value} {a b : Bool} (h : a = b) : Ending.returned (.tuple #[u, .bool a]) = .returned (.tuple #[u, .bool b]) := by rw [h]
def gaN (x y : Nat) : List Int := gzS (rgN (y + 1) x) (rgN 1 x) (x * y + 1)
def ansGA (a b : Int) : List Int := if sides a b then gaN a.toNat b.toNat else []
theorem ansGA_no {a b : Int} (h : sides a b = false) : ansGA a b = [] := by simp [ansGA, h]
theorem ansGA_yes {x y : Nat} (h : sides x y = true) : ansGA x y = gaN x y := by simp [ansGA, h]
theorem gaN_length (x y : Nat) : (gaN x y).length = x * y + 1 := gzS_length _ _ _
theorem ansGA_length (a b : Int) : (ansGA a b).length ≤ 1048576 := by
  cases h : sides a b
  · rw [ansGA_no h]; simp
  · obtain ⟨x, y, rfl, rfl, h1, h2, h3, h4, h5⟩ := sides_nat h
    rw [ansGA_yes h, gaN_length]; omega
def hpN (x y : Nat) : List Int := gzS (rgN 1 (x * y)) (hkT x y (x * y)) (hkD x y + 1)
def ansHP (a b : Int) : List Int := if sides a b then hpN a.toNat b.toNat else []
theorem ansHP_no {a b : Int} (h : sides a b = false) : ansHP a b = [] := by simp [ansHP, h]
theorem ansHP_yes {x y : Nat} (h : sides x y = true) : ansHP x y = hpN x y := by simp [ansHP, h]
theorem hpN_length (x y : Nat) : (hpN x y).length = hkD x y + 1 := gzS_length _ _ _
theorem ansHP_length (a b : Int) : (ansHP a b).length ≤ 1048576 := by
  cases h : sides a b
  · rw [ansHP_no h]; simp
  · obtain ⟨x, y, rfl, rfl, h1, h2, h3, h4, h5⟩ := sides_nat h
    have := (hk_all h2 h4 h5).2.2.1
    rw [ansHP_yes h, hpN_length]; omega
set_option maxHeartbeats 800000 in
theorem specGaussOf_any (a b : Int) (w : World) (wa : (Lit.int .i64 a).wf = true) (wb : (Lit.int .i64 b).wf = true) :
    Calls Try.prog 10 #[.int .i64 a, .int .i64 b] w fun (r : Ending) w' => ∃ u, r = Ending.returned (.tuple #[u, .bool (sides a b)]) ∧ OwnI 3 w' w.heap.size u (ansGA a b) ∧ (ansGA a b).length ≤ 1048576 ∧ Below w.heap.size w w' := by
  have HS := hid (fun W => shSides_any a b W)
  have HL := hid (ansGA_length a b)
  clear wa wb
  cases hs : sides a b
  · have HN := hid (ansGA_no hs)
    rw [hs] at HS
    clear hs
    go_enter Try.func10, Try.ntmps10
    go_wp2_with (go_at_call 28; refine (HS.out _).mono ?_; rintro e w' ⟨rfl, rfl⟩)
    go_ret2
    exact ⟨_, rfl, by rw [HN.out]; exact OwnI.nil _ _ _, HL.out, Below.refl _ _⟩
  · obtain ⟨x, y, rfl, rfl, h1, h2, h3, h4, h5⟩ := sides_nat hs
    have HA := hid (ansGA_yes hs)
    have HG : Hid (gaN x y = gzS (rgN (y + 1) x) (rgN 1 x) (x * y + 1)) := hid rfl
    rw [hs] at HS
    have hxy : (x : Int) * (y : Int) = ((x * y : Nat) : Int) := by rw [Int.natCast_mul]
    obtain ⟨n, hn⟩ : ∃ n, x * y = n := ⟨_, rfl⟩
    rw [hn] at hxy h5 HG
    have hw1 : IntKind.i64.wrap ((y : Int) + 1) = ((y + 1 : Nat) : Int) := by rw [IntWalk.i64_in _ (by omega)]; omega
    have hw2 : IntKind.i64.wrap ((x : Int) + (y : Int)) = ((x + y : Nat) : Int) := by rw [IntWalk.i64_in _ (by omega)]; omega
    have hw3 : IntKind.i64.wrap (n : Int) = (n : Int) := IntWalk.i64_in _ (by omega)
    have HR1 := hid (fun W => svRange_any (y + 1) (x + y) x W (by omega) (by omega))
    have HR2 := hid (fun W => svRange_any 1 x x W (by omega) (by omega))
    have HGz := hid (fun v u W hv hu => svGauss_any v u (rgN (y + 1) x) (rgN 1 x) n W hv hu (by omega) (fun k hk => by have := rgN_mem hk; omega) (fun k hk => by have := rgN_mem hk; omega) (by rw [rgN_length]; omega) (by rw [rgN_length]; omega))
    obtain ⟨y1, hy1⟩ : ∃ y1, y + 1 = y1 := ⟨_, rfl⟩
    obtain ⟨z, hz⟩ : ∃ z, x + y = z := ⟨_, rfl⟩
    rw [hy1] at hw1 HR1 HGz HG
    rw [hz] at hw2 HR1
    clear hs hn hy1 hz
    go_enter Try.func10, Try.ntmps10
    go_wp2_with fail
    refine (HS.out _).mono ?_
    rintro e w' ⟨rfl, rfl⟩
    go_wp2_with fail
    refine (HR1.out _).mono ?_
    rintro e w1 ⟨q1, rfl, ho1, hb1⟩
    have HO1 := hid ho1
    obtain ⟨A1, n1, c1, rfl⟩ := ho1.shape3
    have HB1 := hid hb1
    clear ho1 hb1
    go_wp2_with fail
    refine (HR2.out _).mono ?_
    rintro e w2 ⟨q2, rfl, ho2, hb2⟩
    have HO2 := hid ho2
    obtain ⟨A2, n2, c2, rfl⟩ := ho2.shape3
    have HO1b := hid (HO1.out.below hb2)
    have HB2 := hid (below_to HB1.out hb2)
    clear ho2 hb2
    go_wp2_with fail
    clear hw1 hw2 hw3 hxy
    refine (HGz.out _ _ _ HO1b.out.ints HO2.out.ints).mono ?_
    rintro e w3 ⟨q3, rfl, ho3, hb3⟩
    have hz2 := HB2.out.size
    have HO3 := hid (ho3.mono hz2)
    obtain ⟨A3, n3, c3, rfl⟩ := ho3.shape3
    have HB3 := hid (below_to HB2.out hb3)
    clear ho3 hb3
    go_wp2
    go_ret2
    exact ⟨_, rfl, by rw [HA.out, HG.out]; exact HO3.out, HL.out, HB3.out⟩
set_option maxRecDepth 100000 in
set_option maxHeartbeats 1600000 in
theorem specHookPolynomial_any (a b : Int) (w : World) (wa : (Lit.int .i64 a).wf = true) (wb : (Lit.int .i64 b).wf = true) :
    Calls Try.prog 15 #[.int .i64 a, .int .i64 b] w fun (r : Ending) w' => ∃ u, r = Ending.returned (.tuple #[u, .bool (sides a b)]) ∧ OwnI 3 w' w.heap.size u (ansHP a b) ∧ (ansHP a b).length ≤ 1048576 ∧ Below w.heap.size w w' := by
  have HS := hid (fun W => shSides_any a b W)
  have HL := hid (ansHP_length a b)
  clear wa wb
  cases hs : sides a b
  · have HN := hid (ansHP_no hs)
    rw [hs] at HS
    clear hs
    go_enter Try.func15, Try.ntmps15
    go_wp2_with (go_at_call 28; refine (HS.out _).mono ?_; rintro e w' ⟨rfl, rfl⟩)
    go_ret2
    exact ⟨_, rfl, by rw [HN.out]; exact OwnI.nil _ _ _, HL.out, Below.refl _ _⟩
  · obtain ⟨x, y, rfl, rfl, h1, h2, h3, h4, h5⟩ := sides_nat hs
    have HA := hid (ansHP_yes hs)
    have HG : Hid (hpN x y = gzS (rgN 1 (x * y)) (hkT x y (x * y)) (hkD x y + 1)) := hid rfl
    obtain ⟨e1, e2, e3, e4, -⟩ := hk_all h2 h4 h5
    rw [hs] at HS
    have hxy : (x : Int) * (y : Int) = ((x * y : Nat) : Int) := by rw [Int.natCast_mul]
    have HSm := hid (fun m (hm : m < x * y) => show (hkT x y (m + 1)).sum = (hkT x y m).sum + hkN x y m by rw [hkT_succ, List.sum_append]; simp)
    have HTs := hid (fun m => hkT_succ x y m)
    have HTl := hid (fun m => hkT_length x y m)
    have HKm := hid (fun k (hk : k ∈ hkT x y (x * y)) => hkT_mem h2 h4 hk)
    have HKl := hid (fun m (hm : m ≤ x * y) => show (hkT x y m).sum ≤ 20 * m by
      induction m with
      | zero => simp [hkT]
      | succ m ih =>
        have := ih (by omega)
        have h6 := hkN_le (e := m) h2 h4
        rw [hkT_succ, List.sum_append]; simp only [List.sum_cons, List.sum_nil]; omega)
    have HCl := hid (fun r c (hr : r < x) (hc : c < y) => show y * r + c < x * y by
      have h6 := Nat.mul_le_mul_left y (show r + 1 ≤ x by omega)
      rw [Nat.mul_add, Nat.mul_one] at h6
      have h7 := Nat.mul_comm y x
      omega)
    have HHk := hid (fun r c (hr : r < x) (hc : c < y) => show ((hkN x y (y * r + c) : Nat) : Int) = (x : Int) - r + y - c - 1 by
      unfold hkN
      rw [Nat.mul_add_div (by omega), Nat.div_eq_of_lt hc, Nat.mul_add_mod, Nat.mod_eq_of_lt hc]
      omega)
    have HRow : Hid (∀ r, y * r + y = y * (r + 1)) := hid (fun r => by rw [Nat.mul_add, Nat.mul_one])
    have HYx : Hid (y * x = x * y) := hid (Nat.mul_comm _ _)
    obtain ⟨n, hn⟩ : ∃ n, x * y = n := ⟨_, rfl⟩
    rw [hn] at hxy h5 HG e1 e2 e4 HSm HKm HKl HCl HYx
    have hT : n * (n + 1) / 2 ≤ 55 := by
      have : n * (n + 1) ≤ 10 * 11 := Nat.mul_le_mul h5 (by omega)
      omega
    have hmul2 : (n : Int) * ((n + 1 : Nat) : Int) = ((n * (n + 1) : Nat) : Int) := by rw [Int.natCast_mul]
    have hT2 : n * (n + 1) ≤ 110 := Nat.le_trans (Nat.mul_le_mul_left n (show n + 1 ≤ 11 by omega)) (by omega)
    obtain ⟨p, hp⟩ : ∃ p, n * (n + 1) = p := ⟨_, rfl⟩
    rw [hp] at hmul2 e2 hT hT2
    have hq1 : ((p : Int).tdiv 2) = ((p / 2 : Nat) : Int) := tdiv_natC p 2
    have hq2 : ((p : Int) / 2) = ((p / 2 : Nat) : Int) := by simp
    obtain ⟨T, hTe⟩ : ∃ T, p / 2 = T := ⟨_, rfl⟩
    rw [hTe] at hq1 hq2 e2 hT
    have hw1 : IntKind.i64.wrap ((n : Int) + 1) = ((n + 1 : Nat) : Int) := by rw [IntWalk.i64_in _ (by omega)]; omega
    have hw2 : IntKind.i64.wrap (p : Int) = (p : Int) := IntWalk.i64_in _ (by omega)
    have hw3 : IntKind.i64.wrap (n : Int) = (n : Int) := IntWalk.i64_in _ (by omega)
    have hw4 : IntKind.i64.wrap (T : Int) = (T : Int) := IntWalk.i64_in _ (by omega)
    have HR1 := hid (fun W => svRange_any 1 n n W (by omega) (by omega))
    have HGz := hid (fun v u W hv hu => svGauss_any v u (rgN 1 n) (hkT x y n) (hkD x y) W hv hu (by omega) (fun k hk => by have := rgN_mem hk; omega) (fun k hk => by have := HKm.out k hk; omega) (by rw [rgN_length]; omega) (by rw [HTl.out]; omega))
    obtain ⟨D, hD⟩ : ∃ D, hkD x y = D := ⟨_, rfl⟩
    rw [hD] at HGz HG e1 e2 e3
    have HE2 := hid e2
    have Hxy := hid hxy
    have Hw3 := hid hw3
    obtain ⟨n1, hn1⟩ : ∃ n1, n + 1 = n1 := ⟨_, rfl⟩
    rw [hn1] at hw1 hmul2
    clear hs hn hp hTe hD e1 e2 hn1
    go_enter Try.func15, Try.ntmps15
    go_wp2_with fail
    refine (HS.out _).mono ?_
    rintro e w' ⟨rfl, rfl⟩
    go_wp2
    clear hw1 hw2 hw3 hw4 hq1 hq2 hmul2 hxy
    go_loopw [6, 7, 8] (fun q d i wr => ∃ (r m : Nat) (z : Int), r ≤ x ∧ y * r = m ∧ m ≤ n ∧ i = .int .i64 (r : Int) ∧ d = .int .i64 z ∧ z + ((hkT x y m).sum : Nat) = T ∧ OwnI 3 wr w.heap.size q (intsN (hkT x y m)) ∧ Below w.heap.size w wr) (fun _ _ i _ => x - (intOf i).toNat)
    case atStart => exact ⟨0, 0, T, Nat.zero_le _, Nat.mul_zero _, Nat.zero_le _, rfl, rfl, by simp [hkT], OwnI.nil _ _ _, Below.refl _ _⟩
    case round =>
      obtain ⟨r, m, z, hr, hm, hmn, rfl, rfl, hz, ho, hb⟩ := hrel
      obtain ⟨qA, qn, qc, rfl⟩ := ho.shape3
      have HO := hid ho
      have HB := hid hb
      have HM := hid hm
      have HZ := hid hz
      clear ho hb hm hz
      by_cases hrx : r < x
      · have hr1 : r + 1 ≤ x := hrx
        obtain ⟨W2, rfl⟩ : ∃ x, x = wr := ⟨wr, rfl⟩
        go_wp2
        go_loopw [6, 7, 9] (fun q d i wr => ∃ (c m : Nat) (z : Int), c ≤ y ∧ y * r + c = m ∧ m ≤ n ∧ i = .int .i64 (c : Int) ∧ d = .int .i64 z ∧ z + ((hkT x y m).sum : Nat) = T ∧ OwnI 3 wr w.heap.size q (intsN (hkT x y m)) ∧ Below w.heap.size w wr) (fun _ _ i _ => y - (intOf i).toNat)
        case atStart => exact ⟨0, m, z, Nat.zero_le _, HM.out, hmn, rfl, rfl, HZ.out, HO.out, HB.out⟩
        case round =>
          obtain ⟨c, m, z, hc, hm, hmn, rfl, rfl, hz, ho, hb⟩ := hrel
          obtain ⟨qA, qn, qc, rfl⟩ := ho.shape3
          have HO := hid ho
          have HB := hid hb
          clear ho hb
          by_cases hcy : c < y
          · have hml := HCl.out r c hrx hcy
            have hh := HHk.out r c hrx hcy
            rw [hm] at hml hh
            have hs2 := HSm.out m hml
            have hT2 := HTs.out m
            have hkl := HKl.out m hmn
            have hlm := HTl.out m
            obtain ⟨h, hhe⟩ : ∃ h, hkN x y m = h := ⟨_, rfl⟩
            rw [hhe] at hh hs2 hT2
            have hh20 : h ≤ 20 := by omega
            have hw5 : IntKind.i64.wrap ((x : Int) - (r : Int)) = (x : Int) - r := IntWalk.i64_in _ (by omega)
            have hw6 : IntKind.i64.wrap ((x : Int) - (r : Int) + (y : Int)) = (x : Int) - r + y := IntWalk.i64_in _ (by omega)
            have hw7 : IntKind.i64.wrap ((x : Int) - (r : Int) + (y : Int) - (c : Int)) = (x : Int) - r + y - c := IntWalk.i64_in _ (by omega)
            have hw8 : IntKind.i64.wrap ((x : Int) - (r : Int) + (y : Int) - (c : Int) - 1) = (h : Int) := by rw [IntWalk.i64_in _ (by omega)]; omega
            have hw9 : IntKind.i64.wrap (z - (h : Int)) = z - (h : Int) := IntWalk.i64_in _ (by omega)
            have hlen : (intsN (hkT x y m)).length < 1048576 := by rw [intsN_length, hlm]; omega
            have hz2 : w.heap.size ≤ wr.heap.size := HB.out.size
            have HS5 : Hid (intsN (hkT x y (m + 1)) = intsN (hkT x y m) ++ [(h : Int)]) := hid (by rw [hT2, intsN_snoc])
            have HM5 : Hid (y * r + (c + 1) = m + 1) := hid (by omega)
            have HZ5 : Hid (z - (h : Int) + ((hkT x y (m + 1)).sum : Nat) = T) := hid (by rw [hs2]; omega)
            have hm5 : m + 1 ≤ n := hml
            have hc5 : c + 1 ≤ y := hcy
            clear hhe hh hs2 hT2 hkl hlm hz hm
            go_wp2_with (at_builtin; refine wpList_append_int rfl _ _ 22 3 rfl Try.underlying22 Try.info3 w.heap.size _ (intsN (hkT x y m)) (h : Int) rfl HO.out rfl rfl hlen hz2 ?_; intro v5 w5 ho5 hb5; rw [← HS5.out] at ho5; obtain ⟨sA, sn, sc, rfl⟩ := ho5.shape3; have HO5 := hid ho5; have HB5 := hid hb5; clear ho5 hb5)
            clear hw5 hw6 hw7 hw8 hw9
            go_roundw
            case rel => exact ⟨c + 1, m + 1, z - (h : Int), hc5, HM5.out, hm5, by go_num, by first | rfl | go_num, HZ5.out, HO5.out, HB.out.trans HB5.out⟩
            case measure => simp [intOf]; omega
          · have hce : c = y := by omega
            have HM5 : Hid (y * (r + 1) = m) := hid (by rw [← HRow.out, ← hm, hce])
            have HZ2 := hid hz
            clear hce hc hm hz
            go_wp2
            go_roundw
            case rel => exact ⟨r + 1, m, z, hr1, HM5.out, hmn, by go_num, rfl, HZ2.out, HO.out, HB.out⟩
            case measure => simp [intOf]; omega
      · have hre : r = x := by omega
        have hmn2 : m = n := by rw [← HM.out, hre]; exact HYx.out
        have hzD : z = (D : Int) := by
          have h6 := HZ.out
          have h7 := HE2.out
          rw [hmn2] at h6
          omega
        subst hzD
        rw [hmn2] at HO
        have hxy := Hxy.out
        have hw3 := Hw3.out
        clear hre hmn2 hmn hr
        go_wp2_with fail
        clear hxy hw3
        refine (HR1.out _).mono ?_
        rintro e w1 ⟨q1, rfl, ho1, hb1⟩
        have HO1 := hid ho1
        obtain ⟨A1, n1, c1, rfl⟩ := ho1.shape3
        have HB1 := hid (below_to HB.out hb1)
        have HO2 := hid (HO.out.below hb1)
        clear ho1 hb1
        go_wp2_with fail
        refine (HGz.out _ _ _ HO1.out.ints HO2.out.ints).mono ?_
        rintro e w3 ⟨q3, rfl, ho3, hb3⟩
        have hz2 := HB1.out.size
        have HO3 := hid (ho3.mono hz2)
        obtain ⟨A3, n3, c3, rfl⟩ := ho3.shape3
        have HB3 := hid (below_to HB1.out hb3)
        clear ho3 hb3
        go_wp2
        go_ret2
        exact ⟨_, rfl, by rw [HA.out, HG.out]; exact HO3.out, HL.out, HB3.out⟩
end Go.Proofs.Ytnlehkjfidpdlaa
