/- IsPoset of the program and of the model. -/
import Derived.Test.YtkalpichninncabFun
namespace Go.Proofs.Ytkalpichninncab
open Go.RowKit Go.WideShapes Go.ChangeShapes

theorem box_cell {w wr : World} {cs : Array Value} {T : TypeId} (h : Below (w.heap.size + 1) (w.alloc (.cells cs T)) wr) (i : Nat) : wr.cell? ⟨w.heap.size, i, none⟩ = cs[i]? := by
  rw [h.cell (p := ⟨w.heap.size, i, none⟩) (Nat.lt_succ_self _), (Blk.new w T cs).cell]
theorem Ints.box {w wr : World} {v : Value} {xs : List Int} {cs : Array Value} {T : TypeId} (hv : Ints w v xs) (h : Below (w.heap.size + 1) (w.alloc (.cells cs T)) wr) : Ints wr v xs :=
  (hv.alloc (.cells cs T)).below (h.mono (by simp))
theorem below_box {w wr : World} {cs : Array Value} {T : TypeId} (h : Below (w.heap.size + 1) (w.alloc (.cells cs T)) wr) : Below w.heap.size w wr :=
  ((Below.refl _ _).alloc (Nat.le_refl _) _).trans (h.mono (by omega))

theorem implIsPoset_any (v : Value) (xs : List Int) (w : World) (hv : Ints w v xs) (hl : xs.length ≤ 1048576) :
    Calls Try.prog 79 #[.agg #[v]] w fun r w' => r = .returned (.bool (good xs)) ∧ Below w.heap.size w w' := by
  have HV := hid hv
  obtain ⟨A, c, rfl, hA⟩ := hv
  have HA := hid hA
  clear hA
  by_cases hn : 1 ≤ xs.length ∧ xs.length ≤ 10
  · have hd : (decide ((1 : Int) ≤ (xs.length : Int)) && decide ((xs.length : Int) ≤ 10)) = true := by simp; omega
    have Hd := hid hd
    clear hd
    obtain ⟨hn1, hn2⟩ := hn
    go_enter Try.func79, Try.ntmps79
    go_wp2_with (go_at_call 99; refine (isSize_any _ _).mono ?_; rw [Hd.out]; rintro e w' ⟨rfl, rfl⟩)
    go_loopw [13] (fun i wr => ∃ k : Nat, k ≤ xs.length ∧ i = .int .i64 k ∧ Hid (∀ j, j < k → okAt xs j = true) ∧ Below (w.heap.size + 1) (w.alloc (.cells #[.slice A xs.length c] 28)) wr) (fun i _ => xs.length - (intOf i).toNat)
    case atStart => exact ⟨0, Nat.zero_le _, rfl, hid (fun j hj => absurd hj (Nat.not_lt_zero _)), Below.refl _ _⟩
    case round =>
      obtain ⟨k, hk, rfl, Hok, hb⟩ := hrel
      by_cases hlt : k < xs.length
      · obtain ⟨b, o, rfl, hbl, hc⟩ := HA.out (by intro h; simp [h] at hlt)
        have hcell : wr.cell? ⟨b, o + k, none⟩ = some (.int .i64 (xs.getD k 0)) := by
          rw [(below_box hb).cell (p := ⟨b, o + k, none⟩) hbl]; exact hc k hlt
        have hbox := box_cell hb 0
        have HB := hid hb
        clear hc hb
        obtain ⟨x, hx⟩ : ∃ x, xs.getD k 0 = x := ⟨_, rfl⟩
        rw [hx] at hcell
        have Hx := hid hx
        clear hx
        by_cases hneg : x < 0
        · have hg : good xs = false := not_good hlt (okAt_not (by rw [Hx.out]; omega))
          have Hg := hid hg
          clear hg
          go_wp2
          go_ret
          exact ⟨ret_bool Hg.out.symm, below_box HB.out⟩
        · obtain ⟨z, hz⟩ := Int.eq_ofNat_of_zero_le (by omega : 0 ≤ x)
          have hp := two_pow_le k (by omega)
          subst hz
          by_cases hbig : z < 2 ^ k
          · have hh : okAt xs k = holdsIdeal xs z := by
              simp only [okAt, Hx.out, Int.toNat_natCast]
              rw [decide_eq_true (by omega : (0 : Int) ≤ (z : Int)), decide_eq_true (by omega : (z : Int) ≤ ((2 ^ k - 1 : Nat) : Int))]
              rfl
            have hsm := small_of hbig (by omega) Hok.out
            have Hsm := hid hsm
            clear hsm hneg
            have hle : ¬ ((2 ^ k - 1 : Nat) : Int) < (z : Int) := by omega
            cases hI : holdsIdeal xs z
            · have hg : good xs = false := not_good hlt (hh.trans hI)
              have Hg := hid hg
              have HI := hid hI
              clear hg hI hh
              go_wp2_with (first | (go_at_call 65; refine (wholeSet_any k (by omega) _).mono ?_; rintro e w' ⟨rfl, rfl⟩) | (go_at_call 38; refine (holdsIdeal_any _ xs z _ (Ints.box HV.out HB.out) (by omega) (by omega) Hsm.out).mono ?_; rw [HI.out]; rintro e w1 ⟨rfl, hb1⟩))
              go_ret
              exact ⟨ret_bool Hg.out.symm, (below_box HB.out).trans (hb1.mono (below_box HB.out).size)⟩
            · have HI := hid hI
              have Hk := hid (hh.trans hI)
              clear hI hh
              go_wp2_with (first | (go_at_call 65; refine (wholeSet_any k (by omega) _).mono ?_; rintro e w' ⟨rfl, rfl⟩) | (go_at_call 38; refine (holdsIdeal_any _ xs z _ (Ints.box HV.out HB.out) (by omega) (by omega) Hsm.out).mono ?_; rw [HI.out]; rintro e w1 ⟨rfl, hb1⟩))
              go_roundw
              case rel => exact ⟨k + 1, by omega, by go_num, hid (fun j hj => by
                by_cases h : j = k
                · subst h; exact Hk.out
                · exact Hok.out j (by omega)), HB.out.trans (hb1.mono (by have := HB.out.size; simp at this; omega))⟩
              case measure => simp [intOf]; omega
          · have hg : good xs = false := not_good hlt (okAt_not (by rw [Hx.out]; omega))
            have Hg := hid hg
            have hle : ((2 ^ k - 1 : Nat) : Int) < (z : Int) := by omega
            clear hg hbig
            go_wp2_with (go_at_call 65; refine (wholeSet_any k (by omega) _).mono ?_; rintro e w' ⟨rfl, rfl⟩)
            go_ret
            exact ⟨ret_bool Hg.out.symm, below_box HB.out⟩
      · obtain rfl : k = xs.length := by omega
        have hg := good_of hn1 hn2 Hok.out
        have HB := hid hb
        clear hb
        go_wp2
        go_ret
        exact ⟨ret_bool hg.symm, below_box HB.out⟩
  · have hd : (decide ((1 : Int) ≤ (xs.length : Int)) && decide ((xs.length : Int) ≤ 10)) = false := by
      rw [Bool.eq_false_iff]; simp; omega
    have Hd := hid hd
    have Hg := hid (not_good_length hn)
    clear hd hn
    go_enter Try.func79, Try.ntmps79
    go_wp2_with (go_at_call 99; refine (isSize_any _ _).mono ?_; rw [Hd.out]; rintro e w' ⟨rfl, rfl⟩)
    go_ret
    exact ⟨ret_bool Hg.out.symm, (Below.refl _ _).alloc (Nat.le_refl _) _⟩
end Go.Proofs.Ytkalpichninncab
