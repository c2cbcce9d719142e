/- Labels in the model; AreLabels and AreStrict on both sides. -/
import Derived.Test.YteaeeinfjhhhoabLab
import Derived.Test.YteaeeinfjhhhoabApi
namespace Go.Proofs.Yteaeeinfjhhhoab
open Go.RowKit Go.WideShapes Go.ChangeShapes
set_option linter.unusedVariables false

theorem labB_in {xs f : List Int} {m : Nat} {g : Int} (h : inW (m + 1) f = false) : labB xs f m g = false := by
  cases hc : labB xs f m g
  · rfl
  · have h1 := labB_all hc
    have : inW (m + 1) f = true := inW_of fun j hj => by
      obtain ⟨a, b⟩ := labAt_iff.1 (h1.2 j hj)
      have := leN_zero_le xs f j g j
      omega
    rw [h] at this; cases this
theorem labAt_pair {xs f : List Int} {m g : Int} {k j : Nat} (hj : j < k) (hb : (xs.getD k 0).toNat.testBit j = true) (h : f.getD k 0 < f.getD j 0 + g) : labAt xs f m g k = false := by
  cases hc : labAt xs f m g k
  · rfl
  · have := (leN_le.1 (labAt_iff.1 hc).2).2 j hj hb
    omega
set_option maxHeartbeats 400000 in
theorem laAre_any (v u : Value) (xs f : List Int) (m : Nat) (g : Int) (w : World) (hv : Ints w v xs) (hu : Ints w u f) (hg : good xs = true) (hl : f.length ≤ 1048576) (m1 : m ≤ 12) (g0 : 0 ≤ g) (g1 : g ≤ 1) :
    Calls Try.prog 60 #[.agg #[v], u, .int .i64 m, .int .i64 g] w fun r w' => r = .returned (.bool (labB xs f m g)) ∧ Below w.heap.size w w' := by
  have HG := hid hg
  have HU := hid hu
  obtain ⟨A, c, rfl, hA⟩ := hv
  obtain ⟨B, d, rfl, hB⟩ := hu
  have HX := hid hA
  have HF := hid hB
  clear hA hB hg
  by_cases hn : f.length = xs.length
  · have hne : ((f.length : Int) != (xs.length : Int)) = false := by rw [bne_eq_false_iff_eq, hn]
    have HN := hid hn
    have hx10 := (good_length HG.out).2
    have HAll := hid (show ∀ W, Ints W (.slice B f.length d) f → Calls Try.prog 81 #[.slice B f.length d, .int .i64 0, .int .i64 (m : Int)] W fun r w' => r = .returned (.bool (inW (m + 1) f)) ∧ W = w' from fun W hW => by
      have := l1All_same _ f (m + 1) W hW hl (by omega)
      rwa [show (((m + 1 : Nat) : Int) - 1) = (m : Int) by omega] at this)
    clear hn
    cases hI : inW (m + 1) f
    · have HL := hid (labB_in (xs := xs) (g := g) hI)
      have HI := hid hI
      clear hI
      go_enter Try.func60, Try.ntmps60
      go_wp2_with (go_at_call 81; refine (HAll.out _ (HU.out.alloc _)).mono ?_; rw [HI.out]; rintro e w' ⟨rfl, rfl⟩)
      go_ret
      exact ⟨ret_bool HL.out.symm, below_alloc (Below.refl _ w) _⟩
    · have HI := hid hI
      clear hI
      have hfl : f.length ≤ 10 := by have := HN.out; omega
      have HRn := hid (fun j (hj : j < f.length) => inW_at HI.out hj)
      go_enter Try.func60, Try.ntmps60
      go_wp2_with (go_at_call 81; refine (HAll.out _ (HU.out.alloc _)).mono ?_; rw [HI.out]; rintro e w' ⟨rfl, rfl⟩)
      go_loopw [25] (fun i wr => ∃ k : Nat, k ≤ f.length ∧ i = .int .i64 k ∧ Hid (∀ j, j < k → labAt xs f m g j = true) ∧ Below (w.heap.size + 1) (w.alloc (.cells #[.slice A xs.length c] 28)) wr) (fun i _ => f.length - (intOf i).toNat)
      case atStart => exact ⟨0, Nat.zero_le _, rfl, hid (fun j hj => absurd hj (Nat.not_lt_zero _)), Below.refl _ _⟩
      case round =>
        obtain ⟨k, hk, rfl, Hk, hb⟩ := hrel
        have HB0 := hid hb
        clear hb
        by_cases hlt : k < f.length
        · have hkx : k < xs.length := by have := HN.out; omega
          obtain ⟨b, o, rfl, hbl, hc⟩ := HF.out (by intro h; simp [h] at hlt)
          obtain ⟨b2, o2, rfl, hbl2, hc2⟩ := HX.out (by intro h; rw [h] at hkx; simp at hkx)
          have hcell := hc2 k hkx
          have hok := okAt_small (good_at HG.out hkx) (by omega)
          obtain ⟨z0, hz0⟩ : ∃ z, xs.getD k 0 = z := ⟨_, rfl⟩
          rw [hz0] at hcell hok
          obtain ⟨z, rfl⟩ := Int.eq_ofNat_of_zero_le hok.1
          have HZ := hid hz0
          have HC := hid hc
          have hcx := hc k hlt
          obtain ⟨x, hx⟩ : ∃ x, f.getD k 0 = x := ⟨_, rfl⟩
          rw [hx] at hcx
          have hxr := HRn.out k hlt
          rw [hx] at hxr
          have HXk := hid hx
          have HCell := hid hcell
          have HCx := hid hcx
          clear hc hc2 hz0 hx hcell hcx
          obtain ⟨W1, rfl⟩ : ∃ x, x = wr := ⟨wr, rfl⟩
          go_wp2
          go_loopw [10] (fun i wi => ∃ t : Nat, t ≤ k ∧ i = .int .i64 t ∧ Hid (∀ j, j < t → z.testBit j = true → f.getD j 0 + g ≤ x) ∧ Below (w.heap.size + 1) (w.alloc (.cells #[.slice (some ⟨b2, o2, none⟩) xs.length c] 28)) wi) (fun i _ => k - (intOf i).toNat)
          case atStart => exact ⟨0, Nat.zero_le _, rfl, hid (fun j hj => absurd hj (Nat.not_lt_zero _)), HB0.out⟩
          case round =>
            obtain ⟨t, ht, rfl, Ht, hb⟩ := hrel
            have HB1 := hid hb
            have hbox : wr.cell? ⟨w.heap.size, 0, none⟩ = some (.slice (some ⟨b2, o2, none⟩) xs.length c) := box_cell hb 0
            by_cases htk : t < k
            · have hcell := ((below_box hb).cell (p := ⟨b2, o2 + k, none⟩) hbl2).trans HCell.out
              have hcx := ((below_box hb).cell (p := ⟨b, o + k, none⟩) hbl).trans HCx.out
              have hcy := ((below_box hb).cell (p := ⟨b, o + t, none⟩) hbl).trans (HC.out t (by omega))
              have hyr := HRn.out t (by omega)
              have htl : t < f.length := by omega
              obtain ⟨y, hy⟩ : ∃ y, f.getD t 0 = y := ⟨_, rfl⟩
              rw [hy] at hcy hyr
              have HY := hid hy
              have hw : IntKind.i64.wrap (y + g) = y + g := IntWalk.i64_in _ (by omega)
              clear hy hb
              cases hbit : z.testBit t
              · have Hbit := hid hbit
                clear hbit
                go_wp2_with fail
                go_quiet ((go_at_call 75; exact Calls.quiet_of_same ((poIn_any z t (by omega) _).mono fun _ _ ⟨a, b⟩ => ⟨a.trans (by rw [Hbit.out]), b.symm⟩)))
                clear hw
                go_wp2
                go_roundw
                case rel => exact ⟨t + 1, by omega, by go_num, hid (fun j hj hb => by
                  by_cases h : j = t
                  · subst h; rw [Hbit.out] at hb; cases hb
                  · exact Ht.out j (by omega) hb), below_drewN HB1.out _⟩
                case measure => simp [intOf]; omega
              · have Hbit := hid hbit
                clear hbit
                by_cases hle : x < y + g
                · have HL := hid (labB_no (xs := xs) (m := m) (g := g) hlt (labAt_pair htk (by rw [HZ.out, Int.toNat_natCast]; exact Hbit.out) (by rw [HXk.out, HY.out]; exact hle)))
                  go_wp2_with fail
                  go_quiet ((go_at_call 75; exact Calls.quiet_of_same ((poIn_any z t (by omega) _).mono fun _ _ ⟨a, b⟩ => ⟨a.trans (by rw [Hbit.out]), b.symm⟩)))
                  go_wp2
                  go_ret
                  exact ⟨ret_bool HL.out.symm, below_drewN (below_box HB1.out) _⟩
                · go_wp2_with fail
                  go_quiet ((go_at_call 75; exact Calls.quiet_of_same ((poIn_any z t (by omega) _).mono fun _ _ ⟨a, b⟩ => ⟨a.trans (by rw [Hbit.out]), b.symm⟩)))
                  clear hw
                  go_wp2
                  go_roundw
                  case rel => exact ⟨t + 1, by omega, by go_num, hid (fun j hj hb => by
                    by_cases h : j = t
                    · subst h; rw [HY.out]; omega
                    · exact Ht.out j (by omega) hb), below_drewN HB1.out _⟩
                  case measure => simp [intOf]; omega
            · obtain rfl : t = k := by omega
              have HA : Hid (labAt xs f m g t = true) := hid (labAt_iff.2 ⟨by rw [HXk.out]; omega, leN_le.2 ⟨by rw [HXk.out]; omega, fun j hj hb => by
                rw [HZ.out, Int.toNat_natCast] at hb
                rw [HXk.out]
                exact Ht.out j hj hb⟩⟩)
              clear hb
              go_wp2
              go_roundw
              case rel => exact ⟨t + 1, by omega, by go_num, hid (fun j hj => by
                by_cases h : j = t
                · subst h; exact HA.out
                · exact Hk.out j (by omega)), HB1.out⟩
              case measure => simp [intOf]; omega
        · obtain rfl : k = f.length := by omega
          have HA := hid (labB_yes HN.out Hk.out)
          go_wp2
          go_ret
          exact ⟨ret_bool HA.out.symm, below_box HB0.out⟩
  · have HA := hid (labB_len (m := m) (g := g) hn)
    have hne : ((f.length : Int) != (xs.length : Int)) = true := by rw [bne_iff_ne]; omega
    go_enter Try.func60, Try.ntmps60
    go_wp2
    go_ret
    exact ⟨ret_bool HA.out.symm, below_alloc (Below.refl _ w) _⟩

theorem okLab_bd {xs f : List Int} {m g : Int} (h : okBd xs m = false) : okLab xs f m g = false := okLab_no1 h
end Go.Proofs.Yteaeeinfjhhhoab
