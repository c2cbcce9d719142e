/- Arrays in the model: what they are, ranges, one toggle. -/
import Derived.Test.YtgepbekdgocnpabAr
import Derived.Test.YtgepbekdgocnpabLabS
import Derived.Deep.AppendLies
namespace Go.Proofs.Ytgepbekdgocnpab
open Go.RowKit Go.WideShapes Go.ChangeShapes
set_option linter.unusedVariables false

theorem pcBound_any (b : Int) (w : World) : Calls Try.prog 37 #[.int .i64 b] w fun r w' => r = .returned (.bool (hiB b)) ∧ w = w' := by
  go_enter Try.func37, Try.ntmps37
  go_wp2_with (go_at_call 55; refine (l1In_any _ _ _ _).mono ?_; rintro e w' ⟨rfl, rfl⟩)
  go_ret
  exact ⟨rfl, rfl⟩
theorem isHigh_any (m : Int) (w : World) : Calls Try.prog 40 #[.int .i64 m] w fun r w' => r = .returned (.bool (hiB m)) ∧ w = w' := by
  go_enter Try.func40, Try.ntmps40
  go_wp2
  all_goals go_ret
  all_goals exact ⟨ret_bool (by simp [hiB] <;> omega), rfl⟩
theorem l1OwnA_any (v : Value) (xs : List Int) (w : World) (hv : Ints w v xs) (hl : xs.length ≤ 1048576) :
    Calls Try.prog 69 #[v] w fun (r : Ending) w' => ∃ u, r = Ending.returned u ∧ OwnI 3 w' w.heap.size u xs ∧ Below w.heap.size w w' := by
  have HV := hid hv
  clear hv
  go_enter Try.func69, Try.ntmps69
  go_wp2_with (at_builtin; refine wpList_append_ints rfl _ _ 22 3 rfl Try.underlying22 Try.info3 w.heap.size _ [] rfl (OwnI.empty 3 w) _ xs rfl (HV.out.alloc _) (by simpa using hl) (by simp) ?_; rintro u w1 ho hb)
  go_ret
  exact ⟨_, rfl, by simpa using ho, (below_alloc (Below.refl _ w) _).trans hb⟩
theorem OwnI.storedA {e : TypeId} {w : World} {B g n c : Nat} {xs : List Int} (h : OwnI e w B (.slice (some ⟨g, 0, none⟩) n c) xs) (j : Nat) (y : Int) : OwnI e (w.setCell ⟨g, j, none⟩ (.int .i64 y)) B (.slice (some ⟨g, 0, none⟩) n c) (xs.set j y) := by
  obtain ⟨A, c', e', -⟩ := h.shape
  injection e' with e1 e2 e3
  subst e2
  have h' : w.ownsRow B e 1 (.slice (some ⟨g, 0, none⟩) xs.length c) xs.length (xs.map (Value.int .i64)) := h
  have := (h'.stored j (.int .i64 y)).1
  unfold OwnI
  rw [List.length_set, List.map_set]
  exact this
theorem OwnI.cellA {e : TypeId} {w : World} {B g n c : Nat} {xs : List Int} (h : OwnI e w B (.slice (some ⟨g, 0, none⟩) n c) xs) {j : Nat} (hj : j < xs.length) : w.cell? ⟨g, j, none⟩ = some (.int .i64 (xs.getD j 0)) ∧ w.frozen? ⟨g, j, none⟩ = false := by
  obtain ⟨A, c', e', -⟩ := h.shape
  injection e' with e1 e2 e3
  subst e2
  have h' : w.ownsRow B e 1 (.slice (some ⟨g, 0, none⟩) xs.length c) xs.length (xs.map (Value.int .i64)) := h
  refine ⟨?_, h'.frozenAt j⟩
  rw [h'.cellAt j (by omega)]
  simp [List.getD, hj]
theorem OwnI.blockA {e : TypeId} {w : World} {B : Nat} {v : Value} {xs : List Int} (h : OwnI e w B v xs) (hx : 0 < xs.length) : ∃ g c, v = .slice (some ⟨g, 0, none⟩) xs.length c ∧ B ≤ g ∧ g < w.heap.size := by
  obtain ⟨g, c, e1, h1, h2⟩ := World.ownsRow.form h hx
  exact ⟨g, c, e1, h1, h2⟩
theorem lab_in20 {xs f : List Int} {m : Nat} (h : inW (m + 1) f = false) : labB xs f m 0 = false := by
  cases hc : labB xs f m 0
  · rfl
  · have h1 := labB_all hc
    have : inW (m + 1) f = true := inW_of fun j hj => by
      obtain ⟨a, b⟩ := labAt_iff.1 (h1.2 j hj)
      have := leN_zero_le xs f j 0 j
      omega
    rw [h] at this; cases this
theorem lab_pair {xs f : List Int} {m : Int} {k j : Nat} (hj : j < k) (hb : (xs.getD k 0).toNat.testBit j = true) (h : f.getD k 0 < f.getD j 0) : labAt xs f m 0 k = false := by
  cases hc : labAt xs f m 0 k
  · rfl
  · have := (leN_le.1 (labAt_iff.1 hc).2).2 j hj hb
    omega
set_option maxHeartbeats 800000 in
theorem pcRises_any (v u : Value) (xs f : List Int) (m : Nat) (w : World) (hv : Ints w v xs) (hu : Ints w u f) (hg : good xs = true) (hn : f.length = xs.length) (m1 : m ≤ 20) :
    Calls Try.prog 64 #[.agg #[v], u, .int .i64 m] w fun r w' => r = .returned (.bool (labB xs f m 0)) ∧ Below w.heap.size w w' := by
  have HG := hid hg
  have HU := hid hu
  obtain ⟨A, c, rfl, hA⟩ := hv
  obtain ⟨B, d, rfl, hB⟩ := hu
  have HX := hid hA
  have HF := hid hB
  clear hA hB hg
  have HN := hid hn
  have hx10 := (good_length HG.out).2
  have hl : f.length ≤ 1048576 := by omega
  have HAll := hid (show ∀ W, Ints W (.slice B f.length d) f → Calls Try.prog 77 #[.slice B f.length d, .int .i64 0, .int .i64 (m : Int)] W fun r w' => r = .returned (.bool (inW (m + 1) f)) ∧ W = w' from fun W hW => by
    have := l1All_same _ f (m + 1) W hW hl (by omega)
    rwa [show (((m + 1 : Nat) : Int) - 1) = (m : Int) by omega] at this)
  clear hn
  cases hI : inW (m + 1) f
  · have HL := hid (lab_in20 (xs := xs) hI)
    have HI := hid hI
    clear hI
    go_enter Try.func64, Try.ntmps64
    go_wp2_with (go_at_call 77; refine (HAll.out _ (HU.out.alloc _)).mono ?_; rw [HI.out]; rintro e w' ⟨rfl, rfl⟩)
    go_ret
    exact ⟨ret_bool HL.out.symm, below_alloc (Below.refl _ w) _⟩
  · have HI := hid hI
    clear hI
    have HRn := hid (fun j (hj : j < f.length) => inW_at HI.out hj)
    obtain ⟨n, hnn⟩ : ∃ n, xs.length = n := ⟨_, rfl⟩
    have HNn := hid hnn
    rw [hnn] at hx10 ⊢
    clear hnn
    go_enter Try.func64, Try.ntmps64
    go_wp2_with (go_at_call 77; refine (HAll.out _ (HU.out.alloc _)).mono ?_; rw [HI.out]; rintro e w' ⟨rfl, rfl⟩)
    go_loopw [17] (fun i wr => ∃ k : Nat, k ≤ n ∧ i = .int .i64 k ∧ Hid (∀ j, j < k → labAt xs f m 0 j = true) ∧ Below (w.heap.size + 1) (w.alloc (.cells #[.slice A n c] 28)) wr) (fun i _ => n - (intOf i).toNat)
    case atStart => exact ⟨0, Nat.zero_le _, rfl, hid (fun j hj => absurd hj (Nat.not_lt_zero _)), Below.refl _ _⟩
    case round =>
      obtain ⟨k, hk, rfl, Hk, hb⟩ := hrel
      have HB0 := hid hb
      clear hb
      by_cases hlt : k < n
      · have hkx : k < xs.length := by have := HNn.out; omega
        have hkf : k < f.length := by have := HNn.out; have := HN.out; omega
        obtain ⟨b, o, rfl, hbl, hc⟩ := HF.out (by intro h; simp [h] at hkf)
        obtain ⟨b2, o2, rfl, hbl2, hc2⟩ := HX.out (by intro h; rw [h] at hkx; simp at hkx)
        have hcell := hc2 k hkx
        have hok := okAt_small (good_at HG.out hkx) (by omega)
        obtain ⟨z0, hz0⟩ : ∃ z, xs.getD k 0 = z := ⟨_, rfl⟩
        rw [hz0] at hcell hok
        obtain ⟨z, rfl⟩ := Int.eq_ofNat_of_zero_le hok.1
        have HZ := hid hz0
        have HC := hid hc
        have hcx := hc k hkf
        obtain ⟨x, hx⟩ : ∃ x, f.getD k 0 = x := ⟨_, rfl⟩
        rw [hx] at hcx
        have hxr := HRn.out k hkf
        rw [hx] at hxr
        have HXk := hid hx
        have HCell := hid (((below_box HB0.out).cell (p := ⟨b2, o2 + k, none⟩) hbl2).trans hcell)
        have HCx := hid hcx
        have hcellr := HCell.out
        clear hc hc2 hz0 hx hcell hcx
        obtain ⟨W1, rfl⟩ : ∃ x, x = wr := ⟨wr, rfl⟩
        go_wp2
        clear hcellr
        go_loopw [9] (fun i wi => ∃ t : Nat, t ≤ k ∧ i = .int .i64 t ∧ Hid (∀ j, j < t → z.testBit j = true → f.getD j 0 ≤ x) ∧ Below (w.heap.size + 1) (w.alloc (.cells #[.slice (some ⟨b2, o2, none⟩) n c] 28)) wi) (fun i _ => k - (intOf i).toNat)
        case atStart => exact ⟨0, Nat.zero_le _, rfl, hid (fun j hj => absurd hj (Nat.not_lt_zero _)), HB0.out⟩
        case round =>
          obtain ⟨t, ht, rfl, Ht, hb⟩ := hrel
          have HB1 := hid hb
          by_cases htk : t < k
          · have hcx := ((below_box hb).cell (p := ⟨b, o + k, none⟩) hbl).trans HCx.out
            have htl : t < f.length := by omega
            have hcy := ((below_box hb).cell (p := ⟨b, o + t, none⟩) hbl).trans (HC.out t htl)
            obtain ⟨y, hy⟩ : ∃ y, f.getD t 0 = y := ⟨_, rfl⟩
            rw [hy] at hcy
            have HY := hid hy
            have htn : t < n := by omega
            clear hy hb
            cases hbit : z.testBit t
            · have Hbit := hid hbit
              clear hbit
              go_wp2_with fail
              go_quiet ((go_at_call 38; exact Calls.quiet_of_same ((poIn_any z t (by omega) _).mono fun _ _ ⟨a, b⟩ => ⟨a.trans (by rw [Hbit.out]), b.symm⟩)))
              go_wp2
              go_roundw
              case rel => exact ⟨t + 1, by omega, by go_num, hid (fun j hj hb => by
                by_cases h : j = t
                · subst h; rw [Hbit.out] at hb; cases hb
                · exact Ht.out j (by omega) hb), below_drewN HB1.out _⟩
              case measure => simp [intOf]; omega
            · have Hbit := hid hbit
              clear hbit
              by_cases hle : x < y
              · have HL := hid (labB_no (xs := xs) (m := m) (g := 0) hkf (lab_pair htk (by rw [HZ.out, Int.toNat_natCast]; exact Hbit.out) (by rw [HXk.out, HY.out]; exact hle)))
                have hd : decide (x < y) = true := decide_eq_true hle
                go_wp2_with fail
                go_quiet ((go_at_call 38; exact Calls.quiet_of_same ((poIn_any z t (by omega) _).mono fun _ _ ⟨a, b⟩ => ⟨a.trans (by rw [Hbit.out]), b.symm⟩)))
                go_wp2
                go_ret
                exact ⟨ret_bool HL.out.symm, below_drewN (below_box HB1.out) _⟩
              · have hd : decide (x < y) = false := decide_eq_false hle
                go_wp2_with fail
                go_quiet ((go_at_call 38; exact Calls.quiet_of_same ((poIn_any z t (by omega) _).mono fun _ _ ⟨a, b⟩ => ⟨a.trans (by rw [Hbit.out]), b.symm⟩)))
                clear hd
                go_wp2
                go_roundw
                case rel => exact ⟨t + 1, by omega, by go_num, hid (fun j hj hb => by
                  by_cases h : j = t
                  · subst h; rw [HY.out]; omega
                  · exact Ht.out j (by omega) hb), below_drewN HB1.out _⟩
                case measure => simp [intOf]; omega
          · obtain rfl : t = k := by omega
            have HA : Hid (labAt xs f m 0 t = true) := hid (labAt_iff.2 ⟨by rw [HXk.out]; omega, leN_le.2 ⟨by rw [HXk.out]; omega, fun j hj hb => by
              rw [HZ.out, Int.toNat_natCast] at hb
              rw [HXk.out]
              have := Ht.out j hj hb
              omega⟩⟩)
            clear hb
            go_wp2
            go_roundw
            case rel => exact ⟨t + 1, by omega, by go_num, hid (fun j hj => by
              by_cases h : j = t
              · subst h; exact HA.out
              · exact Hk.out j (by omega)), HB1.out⟩
            case measure => simp [intOf]; omega
      · obtain rfl : k = n := by omega
        have HA := hid (labB_yes HN.out (by rw [HN.out, HNn.out]; exact Hk.out))
        go_wp2
        go_ret
        exact ⟨ret_bool HA.out.symm, below_box HB0.out⟩
end Go.Proofs.Ytgepbekdgocnpab
