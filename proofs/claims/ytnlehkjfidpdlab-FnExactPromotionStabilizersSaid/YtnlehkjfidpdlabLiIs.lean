/- Is a list a linear extension, in the model. -/
import Derived.Test.YtnlehkjfidpdlabOrder
namespace Go.Proofs.Ytnlehkjfidpdlab
open Go.RowKit Go.WideShapes Go.ChangeShapes
set_option linter.unusedVariables false

theorem ret_vbL {u : Value} {a b : Bool} (h : a = b) : Ending.returned (.tuple #[u, .bool a]) = .returned (.tuple #[u, .bool b]) := by rw [h]
theorem l1OwnL_any (v : Value) (xs : List Int) (w : World) (hv : Ints w v xs) (hl : xs.length ≤ 1048576) :
    Calls Try.prog 68 #[v] w fun (r : Ending) w' => ∃ u, r = Ending.returned u ∧ OwnI 3 w' w.heap.size u xs ∧ Below w.heap.size w w' := by
  have HV := hid hv
  clear hv
  go_enter Try.func68, Try.ntmps68
  go_wp2_with (at_builtin; refine wpList_append_ints rfl _ _ 25 3 rfl Try.underlying25 Try.info3 w.heap.size _ [] rfl (OwnI.empty 3 w) _ xs rfl (HV.out.alloc _) (by simpa using hl) (by simp) ?_; rintro u w1 ho hb)
  go_ret
  exact ⟨_, rfl, by simpa using ho, (below_alloc (Below.refl _ w) _).trans hb⟩
theorem l1All_Q (v : Value) (ys : List Int) (n : Nat) (w : World) (hv : Ints w v ys) (hl : ys.length ≤ 1048576) (hn : n ≤ 1048576) :
    Calls Try.prog 97 #[v, .int .i64 0, .int .i64 ((n : Int) - 1)] w fun r w' => r = .returned (.bool (inW n ys)) ∧ Below w.heap.size w w' := l1All_any v ys n w hv hl hn
theorem liIs_any (v u : Value) (xs ys : List Int) (w : World) (hv : Ints w v xs) (hu : Ints w u ys) (hg : good xs = true) (hm : ys.length ≤ 1048576) :
    Calls Try.prog 74 #[.agg #[v], u] w fun r w' => r = .returned (.bool (orderB xs ys)) ∧ Below w.heap.size w w' := by
  have HU := hid hu
  have HG := hid hg
  have hl10 := (good_length hg).2
  obtain ⟨A, c, rfl, hA⟩ := hv
  have HA := hid hA
  obtain ⟨A2, c2, rfl, hA2⟩ := hu
  have HA2 := hid hA2
  clear hA hA2 hg
  by_cases hlen : ys.length = xs.length
  · have HL := hid hlen
    have hne : ((ys.length : Int) != (xs.length : Int)) = false := by rw [bne_eq_false_iff_eq, hlen]
    have HLe := hid (show ((ys.length : Int) - 1) = ((xs.length : Int) - 1) by rw [hlen])
    clear hlen
    go_enter Try.func74, Try.ntmps74
    have HB := hid (below_alloc (Below.refl _ w) (.cells #[(.slice A xs.length c)] 35))
    have A0 := hid (At.newAt w (.slice A xs.length c) 35 w.heap.size (by simp))
    have ebox0 := A0.out.1
    go_wp2_with fail
    clear ebox0
    rw [HLe.out]
    refine (l1All_any _ ys xs.length _ (HU.out.below HB.out) hm (by omega)).mono ?_
    rintro e w' ⟨rfl, hb⟩
    replace HB := hid (below_to HB.out hb)
    replace A0 := hid (A0.out.below hb)
    clear hb
    cases hq : inW xs.length ys
    · have HO := hid (orderB_in hq)
      clear hq
      go_wp2
      go_ret
      exact ⟨ret_bool HO.out.symm, HB.out⟩
    · have HQ := hid hq
      clear hq hne
      have ebox0 := A0.out.1
      go_wp2
      go_loop [5, 24] (fun q i => ∃ k m : Nat, k ≤ ys.length ∧ i = .int .i64 k ∧ q = .int .i64 m ∧ Hid (ordSt xs ys k = some m)) (fun _ i => ys.length - (intOf i).toNat)
      case atStart => exact ⟨0, 0, Nat.zero_le _, rfl, rfl, hid rfl⟩
      case round =>
        obtain ⟨k, m, hk, rfl, rfl, HS⟩ := hrel
        by_cases hlt : k < ys.length
        · obtain ⟨b2, o2, rfl, hbl2, hc2⟩ := HA2.out (by intro h; simp [h] at hlt)
          have hc2' : w'.cell? ⟨b2, o2 + k, none⟩ = some (.int .i64 (ys.getD k 0)) := (HB.out.cell (p := ⟨b2, o2 + k, none⟩) hbl2).trans (hc2 k hlt)
          have hin := inW_at HQ.out hlt
          have hm2 := (ordSt_lt k m HS.out).1
          obtain ⟨y, hy⟩ : ∃ y, ys.getD k 0 = y := ⟨_, rfl⟩
          rw [hy] at hc2' hin
          obtain ⟨e, rfl⟩ := Int.eq_ofNat_of_zero_le hin.1
          have he : e < xs.length := by omega
          have HY := hid hy
          have hm10 := lt1024 hm2 hl10
          clear hc2 hy hm2
          cases hbit : m.testBit e
          · have HBit := hid hbit
            obtain ⟨b, o, rfl, hbl, hc⟩ := HA.out (by intro h; simp [h] at he)
            have hc' : w'.cell? ⟨b, o + e, none⟩ = some (.int .i64 (xs.getD e 0)) := (HB.out.cell (p := ⟨b, o + e, none⟩) hbl).trans (hc e he)
            have hr := row_lt HG.out he
            have hr10 := row_lt10 HG.out he
            obtain ⟨z, hz⟩ : ∃ z, row xs e = z := ⟨_, rfl⟩
            rw [hz] at hr hr10
            rw [hr.1] at hc'
            have HZ := hid hz
            have han := i64_andNot_nat z m (by omega) (by omega)
            have wp := wrap_pow' e (by omega)
            have hor := or_pow m e hm10 (by omega)
            clear hc hz hr hbit
            by_cases h0 : sub z m = 0
            · have hs' : (((sub z m : Nat) : Int) != 0) = false := by rw [h0]; rfl
              have HP := hid (ordSt_yes HS.out (by rw [HY.out]; exact ordP_yes he HBit.out HZ.out h0))
              clear h0
              go_wp2_with (go_at_call 75; refine (poIn_any m e (by omega) _).mono ?_; rw [HBit.out]; rintro e' w2 ⟨rfl, rfl⟩)
              go_round
              case rel => exact ⟨k + 1, _, by omega, by go_num, rfl, hid (by rw [HP.out, HY.out]; rfl)⟩
              case measure => simp [intOf]; omega
            · have hs' : (((sub z m : Nat) : Int) != 0) = true := by rw [bne_iff_ne]; omega
              have HP := hid (orderB_no HS.out hlt (by rw [HY.out]; exact ordP_row HZ.out h0))
              clear h0
              go_wp2_with (go_at_call 75; refine (poIn_any m e (by omega) _).mono ?_; rw [HBit.out]; rintro e' w2 ⟨rfl, rfl⟩)
              go_ret
              exact ⟨ret_bool HP.out.symm, HB.out⟩
          · have HBit := hid hbit
            have HP := hid (orderB_no HS.out hlt (by rw [HY.out]; exact ordP_bit hbit))
            clear hbit
            go_wp2_with (go_at_call 75; refine (poIn_any m e (by omega) _).mono ?_; rw [HBit.out]; rintro e' w2 ⟨rfl, rfl⟩)
            go_ret
            exact ⟨ret_bool HP.out.symm, HB.out⟩
        · obtain rfl : k = ys.length := by omega
          have HP := hid (orderB_yes HL.out HS.out)
          go_wp2
          go_ret
          exact ⟨ret_bool HP.out.symm, HB.out⟩
  · have HO := hid (orderB_len hlen)
    have hne : ((ys.length : Int) != (xs.length : Int)) = true := by rw [bne_iff_ne]; omega
    clear hlen
    go_enter Try.func74, Try.ntmps74
    have HB := hid (below_alloc (Below.refl _ w) (.cells #[(.slice A xs.length c)] 35))
    have A0 := hid (At.newAt w (.slice A xs.length c) 35 w.heap.size (by simp))
    go_wp2
    go_ret
    exact ⟨ret_bool HO.out.symm, HB.out⟩
end Go.Proofs.Ytnlehkjfidpdlab
