/- Words of toggles: the model's and the program's contracts. -/
import Derived.Test.YtkalpichninncabMot
namespace Go.Proofs.Ytkalpichninncab
open Go.RowKit Go.WideShapes Go.ChangeShapes
set_option linter.unusedVariables false

theorem allIn_of {n : Nat} {ys : List Int} (h : ∀ j, j < ys.length → (decide (0 ≤ ys.getD j 0) && decide (ys.getD j 0 ≤ (n : Int) - 1)) = true) : inW n ys = true :=
  inW_of fun j hj => by
    have := h j hj
    simp only [Bool.and_eq_true, decide_eq_true_eq] at this
    omega
theorem not_inW' {n : Nat} {ys : List Int} {j : Nat} (hj : j < ys.length) (h : (decide (0 ≤ ys.getD j 0) && decide (ys.getD j 0 ≤ (n : Int) - 1)) = false) : inW n ys = false :=
  not_inW hj fun hc => by
    rw [Bool.eq_false_iff] at h
    apply h
    simp only [Bool.and_eq_true, decide_eq_true_eq]
    omega
theorem okWord_long {xs ys : List Int} (h : ¬ ys.length ≤ 100) : okWord xs ys = false := by simp [okWord, h]
theorem okWord_short {xs ys : List Int} (h : ys.length ≤ 100) : okWord xs ys = inW xs.length ys := by simp [okWord, h]
theorem step_any (v u : Value) (xs ys : List Int) (s : Nat) (w : World) (hv : Ints w v xs) (hu : Ints w u ys) (hg : good xs = true) (hs : s < 2 ^ xs.length) (hy : inW xs.length ys = true) (hm : ys.length ≤ 1048576) :
    Calls Try.prog 40 #[u, .agg #[v], .int .i64 s] w fun r w' => r = .returned (.int .i64 (togW xs s ys : Nat)) ∧ Below w.heap.size w w' := by
  have HV := hid hv
  have hl10 := (good_length hg).2
  have HG := hid (good_small hg)
  have HY := hid hy
  have HN := hid hs
  obtain ⟨A, c, rfl, hA⟩ := hu
  have HA := hid hA
  clear hA hv hg hy hs
  go_enter Try.func40, Try.ntmps40
  have HB := hid (below_alloc (Below.refl _ w) (.cells #[v] 28))
  have A0 := hid (At.newAt w v 28 w.heap.size (by simp))
  go_wp2
  go_loopw [2, 12] (fun q i wr => ∃ k t : Nat, k ≤ ys.length ∧ i = .int .i64 k ∧ q = .int .i64 (t : Nat) ∧ Hid (togW xs s (ys.take k) = t) ∧ Below w.heap.size w wr ∧ At wr w.heap.size v) (fun _ i _ => ys.length - (intOf i).toNat)
  case atStart => exact ⟨0, s, Nat.zero_le _, rfl, rfl, hid rfl, HB.out, A0.out⟩
  case round =>
    obtain ⟨k, t, hk, rfl, rfl, HT, hb, ha⟩ := hrel
    by_cases hlt : k < ys.length
    · obtain ⟨b, o, rfl, hbl, hc⟩ := HA.out (by intro h; simp [h] at hlt)
      have hcell : wr.cell? ⟨b, o + k, none⟩ = some (.int .i64 (ys.getD k 0)) := by
        rw [hb.cell (p := ⟨b, o + k, none⟩) hbl]; exact hc k hlt
      have hin := inW_at HY.out hlt
      have HK := hid (togW_take xs s ys k hlt)
      have hl2 : togW xs s (ys.take k) < 2 ^ xs.length := togW_lt HN.out (inW_take k HY.out)
      obtain ⟨x, hx⟩ : ∃ x, ys.getD k 0 = x := ⟨_, rfl⟩
      rw [hx] at hcell hin
      obtain ⟨e, rfl⟩ := Int.eq_ofNat_of_zero_le hin.1
      have hl3 : t < 2 ^ xs.length := by rw [← HT.out]; exact hl2
      have he : e < xs.length := by omega
      have hz10 := lt1024 (xor_lt_len hl3 he) hl10
      have ht10 := lt1024 hl3 hl10
      have wp := wrap_pow' e (by omega)
      have hxor := xor_pow t e ht10 (by omega)
      obtain ⟨z, hz⟩ : ∃ z, t ^^^ 2 ^ e = z := ⟨_, rfl⟩
      rw [hz] at hz10 hxor
      have HX := hid hx
      have HZ := hid hz
      have HB1 := hid hb
      have HA1 := hid ha
      have hbox := ha.1
      clear hc hl2 hx hb ha hl3 hz
      go_wp2_with fail
      clear hbox hxor wp
      refine (holdsIdeal_any _ xs z _ (HV.out.below HB1.out) hl10 hz10 (HG.out z)).mono ?_
      rintro e' w' ⟨rfl, hb⟩
      have HB2 := hid (below_to HB1.out hb)
      have HA2 := hid (HA1.out.below hb)
      clear hb
      cases hI : holdsIdeal xs z
      · have HI := hid (tog_no (xs := xs) (s := t) (e := e) (by rw [HZ.out]; exact hI))
        clear hI
        go_wp2
        go_roundw
        case rel => exact ⟨k + 1, _, by omega, by go_num, rfl, hid (by rw [HK.out, HX.out, HT.out, Int.toNat_natCast, HI.out]), HB2.out, HA2.out⟩
        case measure => simp [intOf]; omega
      · have HI := hid (tog_yes (xs := xs) (s := t) (e := e) (by rw [HZ.out]; exact hI))
        clear hI
        go_wp2
        go_roundw
        case rel => exact ⟨k + 1, _, by omega, by go_num, rfl, hid (by rw [HK.out, HX.out, HT.out, Int.toNat_natCast, HI.out, HZ.out]), HB2.out, HA2.out⟩
        case measure => simp [intOf]; omega
    · obtain rfl : k = ys.length := by omega
      have HB1 := hid hb
      clear hb ha
      go_wp2
      go_ret
      exact ⟨ret_int (by rw [← HT.out, List.take_length]), HB1.out⟩
end Go.Proofs.Ytkalpichninncab
