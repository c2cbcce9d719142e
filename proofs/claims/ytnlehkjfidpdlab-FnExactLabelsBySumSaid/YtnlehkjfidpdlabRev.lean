/- Rowmotion and its way back: the model's and the program's contracts. · The motion that leads back. · Words backwards: slices.Clone and slices.Reverse at the words of toggles; the motion that leads back. -/
import Derived.Test.YtnlehkjfidpdlabTg2
import Derived.Test.YtnlehkjfidpdlabLaw
import Derived.Test.YtnlehkjfidpdlabApi
import Derived.Lib.SliceRun
import Derived.RegionTactic
namespace Go.Proofs.Ytnlehkjfidpdlab
open Go.RowKit Go.WideShapes Go.ChangeShapes
set_option linter.unusedVariables false

theorem rowStep_any (v : Value) (xs : List Int) (s : Nat) (w : World) (hv : Ints w v xs) (hg : good xs = true) (hs : s < 2 ^ xs.length) :
    Calls Try.prog 160 #[.agg #[], .agg #[v], .int .i64 s] w fun r w' => r = .returned (.int .i64 (rowmo xs s : Nat)) ∧ Below w.heap.size w w' := by
  have hl10 := (good_length hg).2
  have hs10 := lt1024 hs hl10
  have HG := hid hg
  obtain ⟨A, c, rfl, hA⟩ := hv
  have HA := hid hA
  clear hA hg hs
  go_enter Try.func160, Try.ntmps160
  go_wp2
  go_loop [7, 13] (fun q i => ∃ k t : Nat, k ≤ xs.length ∧ i = .int .i64 k ∧ q = .int .i64 t ∧ Hid (orN (rowP xs s) (rowG xs) k = t)) (fun _ i => xs.length - (intOf i).toNat)
  case atStart => exact ⟨0, 0, Nat.zero_le _, rfl, rfl, hid rfl⟩
  case round =>
    obtain ⟨k, t, hk, rfl, rfl, HT⟩ := hrel
    by_cases hlt : k < xs.length
    · obtain ⟨b, o, rfl, hb, hc⟩ := HA.out (by intro h; simp [h] at hlt)
      have hcell := hc k hlt
      have hr := row_lt HG.out hlt
      have hr10 := row_lt10 HG.out hlt
      obtain ⟨z, hz⟩ : ∃ z, row xs k = z := ⟨_, rfl⟩
      rw [hz] at hr hr10
      rw [hr.1] at hcell
      have HZ := hid hz
      clear hc hr hz
      cases hbit : s.testBit k
      · have HBit := hid hbit
        have han := i64_andNot_nat z s (by omega) (by omega)
        clear hbit
        by_cases h0 : sub z s = 0
        · have h0' : (((sub z s : Nat) : Int) == 0) = true := by rw [h0]; rfl
          have HP : Hid (rowP xs s k = true) := hid (by simp [rowP, HBit.out, HZ.out, h0])
          have ht10 := lt1024 (Nat.lt_of_le_of_lt (Nat.le_of_eq HT.out.symm) (rowmoN_lt HG.out s hk)) hl10
          have HN : Hid (orN (rowP xs s) (rowG xs) (k + 1) = t ||| (2 ^ k ||| z)) := hid (by rw [orN_yes HP.out, HT.out, rowG, HZ.out])
          have wp := wrap_pow' k (by omega)
          have hp1 := Nat.pow_lt_pow_right (a := 2) (by decide) (show k < 10 by omega)
          have hg10 : 2 ^ k ||| z < 1024 := Nat.or_lt_two_pow (n := 10) hp1 hr10
          have hor := pow_or z k hr10 (by omega)
          have hor2 := i64_or_nat t (2 ^ k ||| z) (by omega) (by omega)
          clear h0 hp1
          go_wp2_with (go_at_call 124; refine (hasElement_any s k (by omega) (by omega) _).mono ?_; rw [HBit.out]; rintro e w' ⟨rfl, rfl⟩)
          go_round
          case rel => exact ⟨k + 1, _, by omega, by go_num, rfl, hid (by rw [HN.out])⟩
          case measure => simp [intOf]; omega
        · have h0' : (((sub z s : Nat) : Int) == 0) = false := by rw [beq_eq_false_iff_ne]; omega
          have HP : Hid (rowP xs s k = false) := hid (by simp [rowP, HBit.out, HZ.out, h0])
          clear h0
          go_wp2_with (go_at_call 124; refine (hasElement_any s k (by omega) (by omega) _).mono ?_; rw [HBit.out]; rintro e w' ⟨rfl, rfl⟩)
          go_round
          case rel => exact ⟨k + 1, t, by omega, by go_num, rfl, hid (by rw [orN_no HP.out, HT.out])⟩
          case measure => simp [intOf]; omega
      · have HBit := hid hbit
        have HP : Hid (rowP xs s k = false) := hid (by simp [rowP, hbit])
        clear hbit
        go_wp2_with (go_at_call 124; refine (hasElement_any s k (by omega) (by omega) _).mono ?_; rw [HBit.out]; rintro e w' ⟨rfl, rfl⟩)
        go_round
        case rel => exact ⟨k + 1, t, by omega, by go_num, rfl, hid (by rw [orN_no HP.out, HT.out])⟩
        case measure => simp [intOf]; omega
    · obtain rfl : k = xs.length := by omega
      go_wp2
      go_ret
      exact ⟨ret_int (by rw [← HT.out]; rfl), ((Below.refl _ _).alloc (Nat.le_refl _) _).alloc (by simp) _⟩
theorem compl_bits (n s N : Nat) (hn : n ≤ 10) (hs : s < 1024) (hN : 2 ^ n = N) : bits .andNot .i64 ((N : Int) - 1) (s : Int) = ((compl n s : Nat) : Int) := by
  have hp := two_pow_le n hn
  have e : ((N : Int) - 1) = ((N - 1 : Nat) : Int) := by omega
  rw [e, i64_andNot_nat _ _ (by omega) (by omega)]
  unfold compl
  rw [hN]
end Go.Proofs.Ytnlehkjfidpdlab
namespace Go.Proofs.Ytnlehkjfidpdlab
open Go.RowKit Go.WideShapes Go.ChangeShapes
set_option linter.unusedVariables false

theorem ta1 (w : World) : (Instr.typeAssert (.iface 89 (.agg #[])) 108 89 true).run Try.prog w = .ok (.tuple #[.agg #[], .bool true]) w := by kernel_rfl
end Go.Proofs.Ytnlehkjfidpdlab
namespace Go.Proofs.Ytnlehkjfidpdlab
open Go.RowKit Go.WideShapes Go.ChangeShapes
set_option linter.unusedVariables false

/-! ### the first k pairs exchanged -/
def revK (xs : List Int) (k : Nat) : List Int := (List.range xs.length).map fun t => if t < k ∨ xs.length - 1 - t < k then xs.getD (xs.length - 1 - t) 0 else xs.getD t 0
theorem grown_drew {a w : World} {row : Option Nat} (h : a.grownBy w row) : a.grownBy w.drew row := ⟨h.os, h.tape, h.output, h.size, h.block⟩
theorem revK_length (xs : List Int) (k : Nat) : (revK xs k).length = xs.length := by simp [revK]
theorem revK_at (xs : List Int) (k t : Nat) (ht : t < xs.length) : (revK xs k)[t]? = some (if t < k ∨ xs.length - 1 - t < k then xs.getD (xs.length - 1 - t) 0 else xs.getD t 0) := by
  simp [revK, ht]
theorem getD_eq (xs : List Int) (t : Nat) (ht : t < xs.length) : xs[t]? = some (xs.getD t 0) := by simp [List.getD, ht]
theorem revK_zero (xs : List Int) : revK xs 0 = xs := by
  apply List.ext_getElem?
  intro t
  by_cases ht : t < xs.length
  · rw [revK_at xs 0 t ht, if_neg (by omega), getD_eq xs t ht]
  · rw [List.getElem?_eq_none (by rw [revK_length]; omega), List.getElem?_eq_none (by omega)]
theorem revK_mid (xs : List Int) (k : Nat) (hk : k < xs.length - 1 - k) : (revK xs k).getD k 0 = xs.getD k 0 ∧ (revK xs k).getD (xs.length - 1 - k) 0 = xs.getD (xs.length - 1 - k) 0 := by
  constructor
  · rw [List.getD_eq_getElem?_getD, revK_at xs k k (by omega), if_neg (by omega)]; rfl
  · rw [List.getD_eq_getElem?_getD, revK_at xs k _ (by omega), if_neg (by omega)]; rfl
theorem revK_step (xs : List Int) (k : Nat) (hk : k < xs.length - 1 - k) : ((revK xs k).set k (xs.getD (xs.length - 1 - k) 0)).set (xs.length - 1 - k) (xs.getD k 0) = revK xs (k + 1) := by
  apply List.ext_getElem?
  intro t
  by_cases ht : t < xs.length
  · rw [revK_at xs (k + 1) t ht, List.getElem?_set, List.getElem?_set, List.length_set, revK_length, revK_at xs k t ht]
    by_cases h1 : xs.length - 1 - k = t
    · rw [if_pos h1, if_pos (by omega), if_pos (by omega)]
      have : xs.length - 1 - t = k := by omega
      rw [this]
    · rw [if_neg h1]
      by_cases h2 : k = t
      · subst h2
        rw [if_pos rfl, if_pos (by omega), if_pos (by omega)]
      · rw [if_neg h2]
        by_cases h3 : t < k ∨ xs.length - 1 - t < k
        · rw [if_pos h3, if_pos (by omega)]
        · rw [if_neg h3, if_neg (by omega)]
  · rw [List.getElem?_eq_none (by simp [revK_length]; omega), List.getElem?_eq_none (by rw [revK_length]; omega)]
theorem revK_full (xs : List Int) (k : Nat) (hk : ¬ k < xs.length - 1 - k) : revK xs k = xs.reverse := by
  apply List.ext_getElem?
  intro t
  by_cases ht : t < xs.length
  · rw [revK_at xs k t ht, List.getElem?_reverse ht, getD_eq xs _ (by omega)]
    by_cases h : t < k ∨ xs.length - 1 - t < k
    · rw [if_pos h]
    · rw [if_neg h]
      have : xs.length - 1 - t = t := by omega
      rw [this]
  · rw [List.getElem?_eq_none (by rw [revK_length]; omega), List.getElem?_eq_none (by simp; omega)]
end Go.Proofs.Ytnlehkjfidpdlab
