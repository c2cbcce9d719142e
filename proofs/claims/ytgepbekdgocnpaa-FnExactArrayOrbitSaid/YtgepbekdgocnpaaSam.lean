/- Two lists alike: the model's l1Same, slices.Equal. -/
import Derived.Test.YtgepbekdgocnpaaPoset
import Derived.Test.YtgepbekdgocnpaaFrom
import Derived.BigQuiet
namespace Go.Proofs.Ytgepbekdgocnpaa
open Go.RowKit Go.WideShapes Go.ChangeShapes
set_option linter.unusedVariables false

def sameL (xs ys : List Int) : Bool := decide (xs = ys)
theorem sameL_len {xs ys : List Int} (h : xs.length ≠ ys.length) : sameL xs ys = false := by
  unfold sameL; rw [decide_eq_false_iff_not]; rintro rfl; exact h rfl
theorem sameL_at {xs ys : List Int} {j : Nat} (h : xs.getD j 0 ≠ ys.getD j 0) : sameL xs ys = false := by
  unfold sameL; rw [decide_eq_false_iff_not]; rintro rfl; exact h rfl
theorem sameL_all {xs ys : List Int} (hl : xs.length = ys.length) (h : ∀ j, j < xs.length → xs.getD j 0 = ys.getD j 0) : sameL xs ys = true := by
  unfold sameL; rw [decide_eq_true_iff]
  refine List.ext_getElem hl fun j h1 h2 => ?_
  have := h j h1
  simpa [List.getD, h1, h2] using this
theorem l1SameL_any (v u : Value) (xs ys : List Int) (w : World) (hv : Ints w v xs) (hu : Ints w u ys) (hl : xs.length ≤ 1048576) :
    Calls Try.prog 62 #[v, u] w fun r w' => r = .returned (.bool (sameL xs ys)) ∧ Below w.heap.size w w' := by
  have HV := hid hv
  have HU := hid hu
  obtain ⟨A, c, rfl, hA⟩ := hv
  obtain ⟨A2, c2, rfl, hA2⟩ := hu
  have HA := hid hA
  have HA2 := hid hA2
  clear hA hA2
  by_cases hlen : xs.length = ys.length
  · have HLe := hid hlen
    obtain ⟨n, hn⟩ : ∃ n, xs.length = n := ⟨_, rfl⟩
    have hn2 : ys.length = n := by omega
    have HN1 := hid hn
    have HN2 := hid hn2
    rw [hn, hn2]
    rw [hn] at hl
    clear hlen hn hn2
    go_enter Try.func62, Try.ntmps62
    go_wp2
    go_loopw [13] (fun i wr => ∃ k : Nat, k ≤ n ∧ i = .int .i64 k ∧ Hid (∀ j, j < k → xs.getD j 0 = ys.getD j 0) ∧ Below w.heap.size w wr) (fun i _ => n - (intOf i).toNat)
    case atStart => exact ⟨0, Nat.zero_le _, rfl, hid (fun j hj => absurd hj (Nat.not_lt_zero _)), Below.refl _ _⟩
    case round =>
      obtain ⟨k, hk, rfl, HJ, hb⟩ := hrel
      have HB := hid hb
      clear hb
      by_cases hlt : k < n
      · obtain ⟨b, o, rfl, hbl, hc⟩ := HA.out (by intro h; have := HN1.out; simp [h] at this; omega)
        obtain ⟨b2, o2, rfl, hbl2, hc2⟩ := HA2.out (by intro h; have := HN2.out; simp [h] at this; omega)
        have hc1' := (HB.out.cell (p := ⟨b, o + k, none⟩) hbl).trans (hc k (by have := HN1.out; omega))
        have hc2' := (HB.out.cell (p := ⟨b2, o2 + k, none⟩) hbl2).trans (hc2 k (by have := HN2.out; omega))
        obtain ⟨x, hx⟩ : ∃ x, xs.getD k 0 = x := ⟨_, rfl⟩
        obtain ⟨y, hy⟩ : ∃ y, ys.getD k 0 = y := ⟨_, rfl⟩
        rw [hx] at hc1'
        rw [hy] at hc2'
        have HX := hid hx
        have HY := hid hy
        clear hc hc2 hx hy
        by_cases hxy : x = y
        · subst hxy
          have hne : (x != x) = false := by simp
          have HJ2 : Hid (∀ j, j < k + 1 → xs.getD j 0 = ys.getD j 0) := hid (fun j hj => by
            by_cases e : j = k
            · subst e; rw [HX.out, HY.out]
            · exact HJ.out j (by omega))
          go_wp2_with fail
          go_quiet (fail)
          go_wp2
          go_roundw
          case rel => exact ⟨k + 1, by omega, by go_num, HJ2, below_drewN HB.out _⟩
          case measure => simp [intOf]; omega
        · have hne : (x != y) = true := by rw [bne_iff_ne]; exact hxy
          have HF := hid (sameL_at (xs := xs) (ys := ys) (j := k) (by rw [HX.out, HY.out]; exact hxy))
          clear hxy
          go_wp2_with fail
          go_quiet (fail)
          go_wp2
          go_ret
          exact ⟨ret_bool HF.out.symm, below_drewN HB.out _⟩
      · obtain rfl : k = n := by omega
        have HT := hid (sameL_all HLe.out (fun j hj => HJ.out j (by have := HN1.out; omega)))
        go_wp2
        go_ret
        exact ⟨ret_bool HT.out.symm, HB.out⟩
  · have HF := hid (sameL_len hlen)
    have hne : ((xs.length : Int) != (ys.length : Int)) = true := by rw [bne_iff_ne]; omega
    clear hlen
    go_enter Try.func62, Try.ntmps62
    go_wp2
    go_ret
    exact ⟨ret_bool HF.out.symm, Below.refl _ _⟩
end Go.Proofs.Ytgepbekdgocnpaa
