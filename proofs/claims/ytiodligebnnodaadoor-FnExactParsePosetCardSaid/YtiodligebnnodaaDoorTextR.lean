/- Reading numbers out of a text: the model's l1Read. -/
import Derived.Test.YtiodligebnnodaaDoorTextA
import Derived.BigQuiet
namespace Go.Proofs.YtiodligebnnodaaDoor
open Go.RowKit Go.WideShapes Go.ChangeShapes
set_option linter.unusedVariables false

def isDig (c : UInt8) : Bool := decide (48 ≤ c.toNat) && decide (c.toNat ≤ 57)
/-- the number that the first k bytes make -/
def digN (l : List UInt8) : Nat → Nat
  | 0 => 0
  | k + 1 => 10 * digN l k + ((l.getD k 0).toNat - 48)
def readOk (l : List UInt8) : Bool := (decide (1 ≤ l.length) && decide (l.length ≤ 6)) && (!(decide ((l.getD 0 0).toNat = 48) && decide (1 < l.length)) && l.all isDig)
def readL (l : List UInt8) : Int := if readOk l then (digN l l.length : Int) else -1
theorem readL_yes {l : List UInt8} (h : readOk l = true) : readL l = (digN l l.length : Int) := if_pos h
theorem readL_no {l : List UInt8} (h : readOk l = false) : readL l = -1 := by unfold readL; rw [h]; rfl
theorem sB_get (l : List UInt8) (i : Nat) (h : i < (sB l).size) : (sB l)[i]'h = l.getD i 0 := by
  have hi : i < l.length := by rw [sB_size] at h; exact h
  show l.toArray[i]'(by simpa using hi) = _
  simp [List.getD, hi]
theorem digN_lt {l : List UInt8} (k : Nat) (h : ∀ j, j < k → isDig (l.getD j 0) = true) : digN l k < 10 ^ k := by
  induction k with
  | zero => simp [digN]
  | succ k ih =>
    have h1 := ih (fun j hj => h j (by omega))
    have h2 := h k (by omega)
    simp only [isDig, Bool.and_eq_true, decide_eq_true_eq] at h2
    rw [digN, Nat.pow_succ]
    omega
set_option maxRecDepth 100000 in
theorem l1Read_any (l : List UInt8) (w : World) (hl : l.length ≤ 1048576) :
    Calls Tryd.prog 19 #[.string (sB l)] w fun r w' => r = .returned (.int .i64 (readL l)) ∧ w = w' := by
  have hsz := sB_size l
  have HG := hid (sB_get l)
  obtain ⟨s, hs⟩ : ∃ s, sB l = s := ⟨_, rfl⟩
  rw [hs] at hsz HG ⊢
  clear hs
  by_cases h1 : 1 ≤ l.length ∧ l.length ≤ 6
  · have hd : (decide ((1 : Int) ≤ (l.length : Int)) && decide ((l.length : Int) ≤ 6)) = true := by simp; omega
    have Hd := hid hd
    have h1b : (decide (1 ≤ l.length) && decide (l.length ≤ 6)) = true := by simp; omega
    have H1b := hid h1b
    clear hd h1b
    obtain ⟨c0, hc0⟩ : ∃ c0, (l.getD 0 0).toNat = c0 := ⟨_, rfl⟩
    have hi0 : ∀ h, ((s[0]'h).toNat : Int) = (c0 : Int) := fun h => by rw [HG.out 0 h, hc0]
    by_cases hA : c0 = 48 ∧ 1 < l.length
    · have HN := hid (readL_no (l := l) (by unfold readOk; rw [hc0, decide_eq_true hA.1, decide_eq_true hA.2]; simp))
      have hlt : (1 : Int) < (l.length : Int) := by omega
      obtain ⟨rfl, -⟩ := hA
      have hz0 : 0 < s.size := by omega
      clear hc0
      go_enter Tryd.func19, Tryd.ntmps19
      go_wp2_with (go_at_call 31; refine (l1In_any _ _ _ _).mono ?_; rw [Hd.out]; rintro e w' ⟨rfl, rfl⟩)
      go_ret
      exact ⟨ret_int HN.out.symm, rfl⟩
    · have hOk1 : Hid (readOk l = l.all isDig) := hid (by
        unfold readOk
        rw [H1b.out, hc0]
        have : (decide (c0 = 48) && decide (1 < l.length)) = false := by
          rw [Bool.eq_false_iff]; intro h; simp at h; exact hA h
        rw [this]; rfl)
      have hz0 : 0 < s.size := by omega
      clear hc0
      by_cases hB : c0 = 48
      · have hlt : ¬ (1 : Int) < (l.length : Int) := by omega
        subst hB
        clear hA
        go_enter Tryd.func19, Tryd.ntmps19
        go_wp2_with (go_at_call 31; refine (l1In_any _ _ _ _).mono ?_; rw [Hd.out]; rintro e w' ⟨rfl, rfl⟩)
        clear hi0
        go_loopw [3, 4] (fun q i wr => ∃ k n : Nat, k ≤ l.length ∧ q = .int .i64 n ∧ i = .int .i64 k ∧ Hid (digN l k = n) ∧ Hid (∀ j, j < k → isDig (l.getD j 0) = true) ∧ wr = w) (fun _ i _ => l.length - (intOf i).toNat)
        case atStart => exact ⟨0, 0, Nat.zero_le _, rfl, rfl, hid rfl, hid (fun j hj => absurd hj (Nat.not_lt_zero _)), rfl⟩
        case round =>
          obtain ⟨k, n, hk, rfl, rfl, HD, HJ, rfl⟩ := hrel
          have hn := digN_lt k HJ.out
          rw [HD.out] at hn
          have hp : 10 ^ k ≤ 10 ^ 6 := Nat.pow_le_pow_right (by decide) (by omega)
          have hn6 : n < 1000000 := by omega
          clear hn hp
          by_cases hkl : k < l.length
          · obtain ⟨c, hc⟩ : ∃ c, (l.getD k 0).toNat = c := ⟨_, rfl⟩
            have hc8 : c < 256 := by rw [← hc]; exact (l.getD k 0).toNat_lt
            have hik : ∀ h, ((s[k]'h).toNat : Int) = (c : Int) := fun h => by rw [HG.out k h, hc]
            have hkz : k < s.size := by omega
            have HDg : Hid (isDig (l.getD k 0) = (decide (48 ≤ c) && decide (c ≤ 57))) := hid (by unfold isDig; rw [hc])
            have HDn : Hid (digN l (k + 1) = 10 * n + (c - 48)) := hid (by rw [digN, HD.out, hc])
            clear hc
            by_cases hd1 : c < 48
            · have HN := hid (readL_no (l := l) (by rw [hOk1.out, List.all_eq_false]; exact ⟨l.getD k 0, by simp [List.getD, hkl], by rw [HDg.out, decide_eq_false (by omega)]; simp⟩))
              have hd1' : (c : Int) < 48 := by omega
              go_wp2
              go_ret
              exact ⟨ret_int HN.out.symm, rfl⟩
            · have hd1' : ¬ (c : Int) < 48 := by omega
              by_cases hd2 : 57 < c
              · have HN := hid (readL_no (l := l) (by rw [hOk1.out, List.all_eq_false]; exact ⟨l.getD k 0, by simp [List.getD, hkl], by rw [HDg.out, decide_eq_false (show ¬ c ≤ 57 by omega)]; simp⟩))
                have hd2' : (57 : Int) < (c : Int) := by omega
                go_wp2
                go_ret
                exact ⟨ret_int HN.out.symm, rfl⟩
              · have hd2' : ¬ (57 : Int) < (c : Int) := by omega
                obtain ⟨d, rfl⟩ : ∃ d, c = d + 48 := ⟨c - 48, by omega⟩
                have HJ2 : Hid (∀ j, j < k + 1 → isDig (l.getD j 0) = true) := hid (fun j hj => by
                  by_cases e : j = k
                  · subst e; rw [HDg.out, decide_eq_true (by omega), decide_eq_true (by omega)]; rfl
                  · exact HJ.out j (by omega))
                have HD2 : Hid (digN l (k + 1) = 10 * n + d) := hid (by rw [HDn.out, Nat.add_sub_cancel])
                go_wp2
                go_roundw
                case rel => exact ⟨k + 1, 10 * n + d, by omega, by first | rfl | (simp; omega), by go_num, HD2, HJ2, by first | trivial | rfl⟩
                case measure => simp [intOf]; omega
          · obtain rfl : k = l.length := by omega
            have HY := hid (readL_yes (l := l) (by
              rw [hOk1.out, List.all_eq_true]
              intro x hx
              obtain ⟨j, hj, rfl⟩ := List.mem_iff_getElem.1 hx
              have := HJ.out j hj
              simpa [List.getD, hj] using this))
            go_wp2
            go_ret
            exact ⟨ret_int (by rw [HY.out, HD.out]), rfl⟩
      · have hne : ((c0 : Int) == 48) = false := by rw [beq_eq_false_iff_ne]; omega
        clear hA
        go_enter Tryd.func19, Tryd.ntmps19
        go_wp2_with (go_at_call 31; refine (l1In_any _ _ _ _).mono ?_; rw [Hd.out]; rintro e w' ⟨rfl, rfl⟩)
        clear hi0 hne
        go_loopw [3, 4] (fun q i wr => ∃ k n : Nat, k ≤ l.length ∧ q = .int .i64 n ∧ i = .int .i64 k ∧ Hid (digN l k = n) ∧ Hid (∀ j, j < k → isDig (l.getD j 0) = true) ∧ wr = w) (fun _ i _ => l.length - (intOf i).toNat)
        case atStart => exact ⟨0, 0, Nat.zero_le _, rfl, rfl, hid rfl, hid (fun j hj => absurd hj (Nat.not_lt_zero _)), rfl⟩
        case round =>
          obtain ⟨k, n, hk, rfl, rfl, HD, HJ, rfl⟩ := hrel
          have hn := digN_lt k HJ.out
          rw [HD.out] at hn
          have hp : 10 ^ k ≤ 10 ^ 6 := Nat.pow_le_pow_right (by decide) (by omega)
          have hn6 : n < 1000000 := by omega
          clear hn hp
          by_cases hkl : k < l.length
          · obtain ⟨c, hc⟩ : ∃ c, (l.getD k 0).toNat = c := ⟨_, rfl⟩
            have hc8 : c < 256 := by rw [← hc]; exact (l.getD k 0).toNat_lt
            have hik : ∀ h, ((s[k]'h).toNat : Int) = (c : Int) := fun h => by rw [HG.out k h, hc]
            have hkz : k < s.size := by omega
            have HDg : Hid (isDig (l.getD k 0) = (decide (48 ≤ c) && decide (c ≤ 57))) := hid (by unfold isDig; rw [hc])
            have HDn : Hid (digN l (k + 1) = 10 * n + (c - 48)) := hid (by rw [digN, HD.out, hc])
            clear hc
            by_cases hd1 : c < 48
            · have HN := hid (readL_no (l := l) (by rw [hOk1.out, List.all_eq_false]; exact ⟨l.getD k 0, by simp [List.getD, hkl], by rw [HDg.out, decide_eq_false (by omega)]; simp⟩))
              have hd1' : (c : Int) < 48 := by omega
              go_wp2
              go_ret
              exact ⟨ret_int HN.out.symm, rfl⟩
            · have hd1' : ¬ (c : Int) < 48 := by omega
              by_cases hd2 : 57 < c
              · have HN := hid (readL_no (l := l) (by rw [hOk1.out, List.all_eq_false]; exact ⟨l.getD k 0, by simp [List.getD, hkl], by rw [HDg.out, decide_eq_false (show ¬ c ≤ 57 by omega)]; simp⟩))
                have hd2' : (57 : Int) < (c : Int) := by omega
                go_wp2
                go_ret
                exact ⟨ret_int HN.out.symm, rfl⟩
              · have hd2' : ¬ (57 : Int) < (c : Int) := by omega
                obtain ⟨d, rfl⟩ : ∃ d, c = d + 48 := ⟨c - 48, by omega⟩
                have HJ2 : Hid (∀ j, j < k + 1 → isDig (l.getD j 0) = true) := hid (fun j hj => by
                  by_cases e : j = k
                  · subst e; rw [HDg.out, decide_eq_true (by omega), decide_eq_true (by omega)]; rfl
                  · exact HJ.out j (by omega))
                have HD2 : Hid (digN l (k + 1) = 10 * n + d) := hid (by rw [HDn.out, Nat.add_sub_cancel])
                go_wp2
                go_roundw
                case rel => exact ⟨k + 1, 10 * n + d, by omega, by first | rfl | (simp; omega), by go_num, HD2, HJ2, by first | trivial | rfl⟩
                case measure => simp [intOf]; omega
          · obtain rfl : k = l.length := by omega
            have HY := hid (readL_yes (l := l) (by
              rw [hOk1.out, List.all_eq_true]
              intro x hx
              obtain ⟨j, hj, rfl⟩ := List.mem_iff_getElem.1 hx
              have := HJ.out j hj
              simpa [List.getD, hj] using this))
            go_wp2
            go_ret
            exact ⟨ret_int (by rw [HY.out, HD.out]), rfl⟩
  · have hd : (decide ((1 : Int) ≤ (l.length : Int)) && decide ((l.length : Int) ≤ 6)) = false := by rw [Bool.eq_false_iff]; simp; omega
    have Hd := hid hd
    have HN := hid (readL_no (l := l) (by unfold readOk; rw [show (decide (1 ≤ l.length) && decide (l.length ≤ 6)) = false by rw [Bool.eq_false_iff]; simp; omega]; rfl))
    clear hd
    go_enter Tryd.func19, Tryd.ntmps19
    go_wp2_with (go_at_call 31; refine (l1In_any _ _ _ _).mono ?_; rw [Hd.out]; rintro e w' ⟨rfl, rfl⟩)
    go_ret
    exact ⟨ret_int HN.out.symm, rfl⟩
end Go.Proofs.YtiodligebnnodaaDoor
