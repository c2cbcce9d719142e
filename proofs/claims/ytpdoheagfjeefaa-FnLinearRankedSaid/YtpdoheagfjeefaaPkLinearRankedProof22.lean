/- Texts LwP, LwQ, one behind the other. -/
import Derived.Test.YtpdoheagfjeefaaPkLinearRankedProof13
import Derived.Test.YtpdoheagfjeefaaPkLinearRankedProof21
/- The laws' helpers over lists of lists, and oSame in general. -/
namespace Go.Proofs.Ytpdoheagfjeefaa
open Go.RowKit Go.WideShapes Go.ChangeShapes
set_option linter.unusedVariables false

theorem oSameB_any (v u : Value) (xs ys : List Int) (w : World) (hv : Ints w v xs) (hu : Ints w u ys) (hlen : xs.length = ys.length) (hl : xs.length ≤ 1048576) :
    Calls Try.prog 16 #[v, u] w fun r w' => r = .returned (.bool (sameL xs ys)) ∧ Below w.heap.size w w' := by
  have HV := hid hv
  have HU := hid hu
  obtain ⟨A, c, rfl, hA⟩ := hv
  obtain ⟨A2, c2, rfl, hA2⟩ := hu
  have HA := hid hA
  have HA2 := hid hA2
  clear hA hA2
  have HLe := hid hlen
  obtain ⟨n, hn⟩ : ∃ n, xs.length = n := ⟨_, rfl⟩
  have hn2 : ys.length = n := by omega
  have HN1 := hid hn
  have HN2 := hid hn2
  rw [hn, hn2]
  rw [hn] at hl
  clear hlen hn hn2
  go_enter Try.func16, Try.ntmps16
  go_wp2
  go_loopw [13] (fun i wr => ∃ k : Nat, k ≤ n ∧ i = .int .i64 k ∧ Hid (∀ j, j < k → xs.getD j 0 = ys.getD j 0) ∧ Below w.heap.size w wr) (fun i _ => n - (intOf i).toNat)
  case atStart => exact ⟨0, Nat.zero_le _, rfl, hid (fun j hj => absurd hj (Nat.not_lt_zero _)), Below.refl _ _⟩
  case round =>
    obtain ⟨k, hk, rfl, HJ, hb⟩ := hrel
    have HB := hid hb
    clear hb
    by_cases hlt : k < n
    · obtain ⟨b, o, rfl, hbl, hc⟩ := HA.out (by intro h; have := HN1.out; simp [h] at this; omega)
      obtain ⟨b2, o2, rfl, hbl2, hc2⟩ := HA2.out (by intro h; have := HN2.out; simp [h] at this; omega)
      have hc1' := (HB.out.cell (p := ⟨b, o + k, none⟩) hbl).trans (hc k (by have := HN1.out; omega))
      have hc2' := (HB.out.cell (p := ⟨b2, o2 + k, none⟩) hbl2).trans (hc2 k (by have := HN2.out; omega))
      obtain ⟨x, hx⟩ : ∃ x, xs.getD k 0 = x := ⟨_, rfl⟩
      obtain ⟨y, hy⟩ : ∃ y, ys.getD k 0 = y := ⟨_, rfl⟩
      rw [hx] at hc1'
      rw [hy] at hc2'
      have HX := hid hx
      have HY := hid hy
      clear hc hc2 hx hy
      by_cases hxy : x = y
      · subst hxy
        have hne : (x != x) = false := by simp
        have HJ2 : Hid (∀ j, j < k + 1 → xs.getD j 0 = ys.getD j 0) := hid (fun j hj => by
          by_cases e : j = k
          · subst e; rw [HX.out, HY.out]
          · exact HJ.out j (by omega))
        go_wp2
        go_quiet (fail)
        go_wp2
        go_roundw
        case rel => exact ⟨k + 1, by omega, by go_num, HJ2, below_drewN HB.out _⟩
        case measure => simp [intOf]; omega
      · have hne : (x != y) = true := by rw [bne_iff_ne]; exact hxy
        have HF := hid (sameL_at (xs := xs) (ys := ys) (j := k) (by rw [HX.out, HY.out]; exact hxy))
        clear hxy
        go_wp2
        go_quiet (fail)
        go_wp2
        go_ret
        exact ⟨ret_bool HF.out.symm, below_drewN HB.out _⟩
    · obtain rfl : k = n := by omega
      have HT := hid (sameL_all HLe.out (fun j hj => HJ.out j (by have := HN1.out; omega)))
      go_wp2
      go_ret
      exact ⟨ret_bool HT.out.symm, HB.out⟩
theorem oSameRows_any (v u : Value) (rs : List (List Int)) (n : Nat) (w : World) (hv : IntsSS w v rs) (hu : IntsSS w u rs) (hn : rs.length = n) (hs : SSmall rs) :
    Calls Try.prog 57 #[v, u] w fun r w' => r = .returned (.bool true) ∧ Below w.heap.size w w' := by
  have HV := hid hv
  have HU := hid hu
  have HN := hid hn
  have hn2 : n ≤ 1048576 := by have := hs.1; omega
  have HS := hid hs
  obtain ⟨A, c, rfl, -⟩ := hv
  obtain ⟨A2, c2, rfl, -⟩ := hu
  rw [hn] at HV HU ⊢
  clear hn hs
  go_enter Try.func57, Try.ntmps57
  go_wp2
  go_loopw [13] (fun i wr => ∃ k : Nat, k ≤ n ∧ i = .int .i64 k ∧ Below w.heap.size w wr) (fun i _ => n - (intOf i).toNat)
  case atStart => exact ⟨0, Nat.zero_le _, rfl, Below.refl _ _⟩
  case round =>
    obtain ⟨k, hk, rfl, hb⟩ := hrel
    have HB := hid hb
    clear hb
    by_cases hlt : k < n
    · obtain ⟨b, o, c', x, hsh, hbl, hc, hi⟩ := rows_cell HV.out (k := k) (by rw [HN.out]; exact hlt)
      obtain ⟨b2, o2, c2', y, hsh2, hbl2, hc2, hi2⟩ := rows_cell HU.out (k := k) (by rw [HN.out]; exact hlt)
      injection hsh with hsA hsB hsC
      subst hsA
      subst hsC
      injection hsh2 with hsA2 hsB2 hsC2
      subst hsA2
      subst hsC2
      clear hsB hsB2
      have hcell := (HB.out.cell (p := ⟨b, o + k, none⟩) hbl).trans hc
      have hcell2 := (HB.out.cell (p := ⟨b2, o2 + k, none⟩) hbl2).trans hc2
      have HI := hid hi
      have HI2 := hid hi2
      obtain ⟨xA, xn, xc, rfl⟩ : ∃ uA un uc, x = .slice uA un uc := by obtain ⟨A, c, e, -⟩ := hi; exact ⟨_, _, _, e⟩
      obtain ⟨yA, yn, yc, rfl⟩ : ∃ uA un uc, y = .slice uA un uc := by obtain ⟨A, c, e, -⟩ := hi2; exact ⟨_, _, _, e⟩
      have HC1 := hid hc
      have HC2 := hid hc2
      clear hc hc2 hi hi2
      go_wp2
      go_region_held3 (fun W => W.cell? ⟨b, o + k, none⟩ = some (.slice xA xn xc) ∧ W.cell? ⟨b2, o2 + k, none⟩ = some (.slice yA yn yc) ∧ Hid (Below w.heap.size w W)) (first | exact ⟨hcell, hcell2, hid (below_drewN HB.out 1)⟩ | exact ⟨(HB3.out.cell (p := ⟨b, o + k, none⟩) hbl).trans HC1.out, (HB3.out.cell (p := ⟨b2, o2 + k, none⟩) hbl2).trans HC2.out, HB3⟩) (first | (go_at_call 16; refine (oSame_any _ _ (rs.getD k []) _ (HI.out.below (Hid.out (by first | assumption | exact hid (below_drewN HB.out 1)))) (HI2.out.below (Hid.out (by first | assumption | exact hid (below_drewN HB.out 1)))) (HS.out.2.1 k (by rw [HN.out]; exact hlt))).mono ?_; rintro e w3 ⟨rfl, hb3⟩; have HB3 : Hid (Below w.heap.size w w3) := hid (below_to (Hid.out (by first | assumption | exact hid (below_drewN HB.out 1))) hb3); clear hb3))
      all_goals
        go_wp2
        go_roundw
        case rel => exact ⟨k + 1, by omega, by go_num, HB3.out⟩
        case measure => simp [intOf]; omega
    · obtain rfl : k = n := by omega
      go_wp2
      go_ret
      exact ⟨rfl, HB.out⟩
end Go.Proofs.Ytpdoheagfjeefaa

/- The laws' helper oLess. -/
namespace Go.Proofs.Ytpdoheagfjeefaa
open Go.RowKit Go.WideShapes Go.ChangeShapes
set_option linter.unusedVariables false

theorem oLess_any (v u : Value) (xs ys : List Int) (j : Nat) (w : World) (hv : Ints w v xs) (hu : Ints w u ys) (hlen : xs.length = ys.length) (hl : xs.length ≤ 1048576) (hj : j < xs.length) (he : ∀ i, i < j → xs.getD i 0 = ys.getD i 0) (hlt : xs.getD j 0 < ys.getD j 0) :
    Calls Try.prog 71 #[v, u] w fun r w' => r = .returned (.bool true) ∧ Below w.heap.size w w' := by
  have HV := hid hv
  have HU := hid hu
  obtain ⟨A, c, rfl, hA⟩ := hv
  obtain ⟨A2, c2, rfl, hA2⟩ := hu
  have HA := hid hA
  have HA2 := hid hA2
  clear hA hA2
  have HLe := hid hlen
  obtain ⟨n, hn⟩ : ∃ n, xs.length = n := ⟨_, rfl⟩
  have hn2 : ys.length = n := by omega
  have HN1 := hid hn
  have HN2 := hid hn2
  rw [hn, hn2]
  rw [hn] at hl
  have HEq := hid he
  have HLt := hid hlt
  rw [hn] at hj
  clear hlen hn hn2 he hlt
  go_enter Try.func71, Try.ntmps71
  go_wp2
  go_loopw [8] (fun i wr => ∃ k : Nat, k ≤ j ∧ i = .int .i64 k ∧ Below w.heap.size w wr) (fun i _ => n - (intOf i).toNat)
  case atStart => exact ⟨0, Nat.zero_le _, rfl, Below.refl _ _⟩
  case round =>
    obtain ⟨k, hk, rfl, hb⟩ := hrel
    have HB := hid hb
    clear hb
    have hlt : k < n := by omega
    obtain ⟨b, o, rfl, hbl, hc⟩ := HA.out (by intro h; have := HN1.out; simp [h] at this; omega)
    obtain ⟨b2, o2, rfl, hbl2, hc2⟩ := HA2.out (by intro h; have := HN2.out; simp [h] at this; omega)
    have hc1' := (HB.out.cell (p := ⟨b, o + k, none⟩) hbl).trans (hc k (by have := HN1.out; omega))
    have hc2' := (HB.out.cell (p := ⟨b2, o2 + k, none⟩) hbl2).trans (hc2 k (by have := HN2.out; omega))
    by_cases hkj : k < j
    · have hxy := HEq.out k hkj
      obtain ⟨x, hx⟩ : ∃ x, xs.getD k 0 = x := ⟨_, rfl⟩
      rw [hx] at hc1'
      rw [← hxy, hx] at hc2'
      have hne : (x != x) = false := by simp
      clear hc hc2 hx hxy
      go_wp2
      go_quiet (fail)
      go_wp2
      go_roundw
      case rel => exact ⟨k + 1, by omega, by go_num, below_drewN HB.out _⟩
      case measure => simp [intOf]; omega
    · obtain rfl : k = j := by omega
      have hxy := HLt.out
      obtain ⟨x, hx⟩ : ∃ x, xs.getD k 0 = x := ⟨_, rfl⟩
      obtain ⟨y, hy⟩ : ∃ y, ys.getD k 0 = y := ⟨_, rfl⟩
      rw [hx] at hc1' hxy
      rw [hy] at hc2' hxy
      have hne : (x != y) = true := by rw [bne_iff_ne]; omega
      clear hc hc2 hx hy hkj
      go_wp2
      go_quiet (fail)
      go_wp2
      go_quiet (fail)
      go_wp2
      go_ret
      exact ⟨rfl, below_drewN (below_drewN HB.out _) _⟩
end Go.Proofs.Ytpdoheagfjeefaa
