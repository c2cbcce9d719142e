/- Sizes of sets, and sums of what is told of each of a list of sets. -/
import Derived.Test.YtkcjppbplllaiabMot
import Derived.Test.YtkcjppbplllaiabOrb
import Derived.Test.YtkcjppbplllaiabRow
namespace Go.Proofs.Ytkcjppbplllaiab
open Go.RowKit Go.WideShapes Go.ChangeShapes
set_option linter.unusedVariables false

/-- the number of elements of a set -/
def pcF : Nat → Nat → Nat
  | 0, _ => 0
  | c + 1, s => s % 2 + pcF c (s / 2)
def pc (s : Nat) : Nat := pcF 10 s
theorem pcF_le (c s : Nat) : pcF c s ≤ c := by
  induction c generalizing s with
  | zero => exact Nat.le_refl _
  | succ c ih => have := ih (s / 2); unfold pcF; omega
theorem pc_le (s : Nat) : pc s ≤ 10 := pcF_le 10 s
theorem pcF_zero (c : Nat) : pcF c 0 = 0 := by
  induction c with
  | zero => rfl
  | succ c ih => unfold pcF; simp [ih]
theorem top_le (xs : List Int) (s : Nat) : top xs s ≤ s := sub_le _ _
def sumTo (g : Nat → Nat) (ls : List Int) : Nat → Nat
  | 0 => 0
  | k + 1 => sumTo g ls k + g (ls.getD k 0).toNat
theorem sumTo_succ {g : Nat → Nat} {ls : List Int} {k s : Nat} (h : ls.getD k 0 = (s : Int)) : sumTo g ls (k + 1) = sumTo g ls k + g s := by
  simp only [sumTo, h, Int.toNat_natCast]
theorem sumTo_le {g : Nat → Nat} (h : ∀ s, g s ≤ 10) (ls : List Int) (k : Nat) : sumTo g ls k ≤ 10 * k := by
  induction k with
  | zero => exact Nat.le_refl _
  | succ k ih => have := h (ls.getD k 0).toNat; unfold sumTo; omega
def sumL (g : Nat → Nat) (ls : List Int) : Nat := sumTo g ls ls.length
def topPc (xs : List Int) (s : Nat) : Nat := pc (top xs s)
theorem topPc_le (xs : List Int) (s : Nat) : topPc xs s ≤ 10 := pc_le _
def bitN (e s : Nat) : Nat := s / 2 ^ e % 2
theorem bitN_le (e s : Nat) : bitN e s ≤ 10 := by unfold bitN; omega

theorem obSize_any (s : Nat) (w : World) (hs : s < 1024) : Calls Try.prog 81 #[.int .i64 s] w fun r w' => r = .returned (.int .i64 (pc s : Nat)) ∧ w = w' := by
  obtain ⟨P, hP⟩ : ∃ P, pc s = P := ⟨_, rfl⟩
  have HP := hid hP
  rw [hP]
  clear hP
  go_enter Try.func81, Try.ntmps81
  go_wp2
  go_loop [0, 3] (fun q i => ∃ k t n : Nat, k ≤ 10 ∧ t < 2 ^ (10 - k) ∧ t < 1024 ∧ q = .int .i64 t ∧ i = .int .i64 n ∧ n ≤ k ∧ Hid (n + pcF (10 - k) t = P)) (fun q _ => (intOf q).toNat)
  case atStart => exact ⟨0, s, 0, Nat.zero_le _, hs, hs, rfl, rfl, Nat.le_refl _, hid (by rw [Nat.zero_add]; exact HP.out)⟩
  case round =>
    obtain ⟨k, t, n, hk, ht, ht2, rfl, rfl, hn, HC⟩ := hrel
    by_cases h0 : t = 0
    · subst h0
      have HE : Hid (n = P) := hid (by have := HC.out; rw [pcF_zero] at this; omega)
      clear ht
      go_wp2
      go_ret
      exact ⟨ret_int (by rw [HE.out]), rfl⟩
    · have hk9 : k < 10 := by
        rcases Nat.lt_or_ge k 10 with h | h
        · exact h
        · have : k = 10 := by omega
          subst this
          simp at ht; omega
      obtain ⟨m, hm⟩ : ∃ m, 10 - k = m + 1 := ⟨9 - k, by omega⟩
      have hm2 : 10 - (k + 1) = m := by omega
      have HH : Hid (t / 2 < 2 ^ (10 - (k + 1))) := hid (by rw [hm] at ht; rw [hm2]; rw [Nat.pow_succ] at ht; omega)
      have HC2 : Hid (n + t % 2 + pcF (10 - (k + 1)) (t / 2) = P) := hid (by have := HC.out; rw [hm] at this; rw [hm2]; unfold pcF at this; omega)
      have hpos : (0 : Int) < t := by omega
      clear ht hm hm2
      go_wp2
      go_round
      case rel => exact ⟨k + 1, t / 2, n + t % 2, by omega, HH.out, by omega, congrArg (Value.int .i64) (by omega), congrArg (Value.int .i64) (by omega), by omega, HC2⟩
      case measure => simp [intOf]; omega
def onA (x : Int) : Int := IntKind.u64.wrap (bits .and .u64 (x / 2) 6148914691236517205 + bits .and .u64 x 6148914691236517205)
def onB (x : Int) : Int := IntKind.u64.wrap (bits .and .u64 (x / 4) 3689348814741910323 + bits .and .u64 x 3689348814741910323)
def onC (x : Int) : Int := bits .and .u64 (IntKind.u64.wrap (x / 16 + x)) 1085102592571150095
def onD (x : Int) : Int := IntKind.u64.wrap (x + x / 256)
def onE (x : Int) : Int := IntKind.u64.wrap (x + x / 65536)
def onF (x : Int) : Int := IntKind.u64.wrap (x + x / 4294967296)
def onesI (x : Int) : Int := bits .and .i64 (wrap64 (onF (onE (onD (onC (onB (onA x))))))) 127
theorem ones_chk : ((List.range 1024).all fun s => onesI (s : Int) == ((pc s : Nat) : Int)) = true := by decide +kernel
theorem ones_all {s : Nat} (h : s < 1024) : onesI (s : Int) = ((pc s : Nat) : Int) := by
  have := List.all_eq_true.1 ones_chk s (List.mem_range.2 h)
  simpa using this
set_option maxHeartbeats 4000000 in
set_option maxRecDepth 100000 in
theorem onesCount64_raw (s : Nat) (w : World) (hs : s < 1024) : Calls Try.prog 100 #[.int .u64 s] w fun r w' => r = .returned (.int .i64 (onesI s)) ∧ w = w' := by
  go_enter Try.func100, Try.ntmps100
  go_wp2
  go_ret
  exact ⟨ret_int rfl, rfl⟩
theorem onesCount64_any (s : Nat) (w : World) (hs : s < 1024) : Calls Try.prog 100 #[.int .u64 s] w fun r w' => r = .returned (.int .i64 (pc s : Nat)) ∧ w = w' :=
  (onesCount64_raw s w hs).mono fun _ _ ⟨h1, h2⟩ => ⟨by rw [h1, ones_all hs], h2⟩
theorem onesCount_any (s : Nat) (w : World) (hs : s < 1024) : Calls Try.prog 82 #[.int .u64 s] w fun r w' => r = .returned (.int .i64 (pc s : Nat)) ∧ w = w' := by
  go_enter Try.func82, Try.ntmps82
  go_wp2_with (go_at_call 100; refine (onesCount64_any s _ hs).mono ?_; rintro e w' ⟨rfl, rfl⟩)
  go_ret
  exact ⟨rfl, rfl⟩
theorem sizeOf_any (s : Nat) (w : World) (hs : s < 1024) : Calls Try.prog 52 #[.int .i64 s] w fun r w' => r = .returned (.int .i64 (pc s : Nat)) ∧ w = w' := by
  go_enter Try.func52, Try.ntmps52
  go_wp2_with (go_at_call 82; refine (onesCount_any s _ hs).mono ?_; rintro e w' ⟨rfl, rfl⟩)
  go_ret
  exact ⟨rfl, rfl⟩
theorem countWith1_any (e s a : Nat) (w : World) (ha : At w a (.int .i64 e)) (hs : s < 1024) (he : e < 10) :
    Calls Try.prog 80 #[.int .i64 s, .pointer (some ⟨a, 0, none⟩)] w fun r w' => r = .returned (.int .i64 (bitN e s : Nat)) ∧ Below w.heap.size w w' := by
  have hb := ha.1
  have hm := hid (Nat.min_eq_left (Nat.le_of_lt (show e < 64 by omega)))
  have hx : s / 2 ^ e < 9223372036854775808 := Nat.lt_of_le_of_lt (Nat.div_le_self _ _) (by omega)
  have HX := hid (i64_and_nat (s / 2 ^ e) 1 hx (by omega))
  clear ha hx
  go_enter Try.func80, Try.ntmps80
  go_wp2
  go_ret
  refine ⟨ret_int ?_, Below.refl _ _⟩
  have h2 := HX.out
  rw [nat_mask1] at h2
  first | (rw [hm.out, shr_cast]; exact h2) | (simp only [hm.out, shr_cast]; exact h2)

set_option maxHeartbeats 400000 in
theorem sumOverSize_any (u : Value) (ls : List Int) (g : Nat → Nat) (D : Nat → Prop) (w : World) (hu : Ints w u ls) (hl : ls.length ≤ 1024) (hp : ∀ j, j < ls.length → ∃ s : Nat, ls.getD j 0 = (s : Int) ∧ D s) (h10 : ∀ s, g s ≤ 10)
    (hF : ∀ (s : Nat) (W : World), D s → Below w.heap.size w W → Calls Try.prog 52 #[.int .i64 s] W fun r W' => r = .returned (.int .i64 (g s : Nat)) ∧ Below W.heap.size W W') :
    Calls Try.prog 79 #[u, .func (.func 52) #[] #[]] w fun r w' => r = .returned (.int .i64 (sumTo g ls ls.length : Nat)) ∧ Below w.heap.size w w' := by
  have HF := hid hF
  have HP := hid hp
  have H10 := hid h10
  obtain ⟨A, c, rfl, hA⟩ := hu
  have HA := hid hA
  clear hA hF hp h10
  go_enter Try.func79, Try.ntmps79
  go_wp2
  go_loopw [5, 10] (fun q i wr => ∃ k t : Nat, k ≤ ls.length ∧ i = .int .i64 k ∧ q = .int .i64 t ∧ Hid (sumTo g ls k = t) ∧ t ≤ 10 * k ∧ Below w.heap.size w wr) (fun _ i _ => ls.length - (intOf i).toNat)
  case atStart => exact ⟨0, 0, Nat.zero_le _, rfl, rfl, hid rfl, Nat.zero_le _, Below.refl _ _⟩
  case round =>
    obtain ⟨k, t, hk, rfl, rfl, HT, ht, hb⟩ := hrel
    have HB := hid hb
    by_cases hlt : k < ls.length
    · obtain ⟨b, o, rfl, hbl, hc⟩ := HA.out (by intro h; simp [h] at hlt)
      have hcell : wr.cell? ⟨b, o + k, none⟩ = some (.int .i64 (ls.getD k 0)) := (hb.cell (p := ⟨b, o + k, none⟩) hbl).trans (hc k hlt)
      obtain ⟨s, hs, hD⟩ := HP.out k hlt
      have HSt := hid (sumTo_succ (g := g) hs)
      rw [hs] at hcell
      have HC := hid (HF.out s wr hD hb)
      have hg10 := H10.out s
      obtain ⟨y, hy⟩ : ∃ y, g s = y := ⟨_, rfl⟩
      rw [hy] at HC HSt hg10
      clear hc hs hb hy hD
      go_wp2_with fail
      refine HC.out.mono ?_
      rintro e w2 ⟨rfl, hb2⟩
      have HB2 := hid (below_to HB.out hb2)
      clear hb2 hcell
      go_wp2
      go_roundw
      case rel => exact ⟨k + 1, t + y, by omega, by go_num, by go_num, hid (by rw [HSt.out, HT.out]), by omega, HB2.out⟩
      case measure => simp [intOf]; omega
    · obtain rfl : k = ls.length := by omega
      clear hb
      go_wp2
      go_ret
      exact ⟨ret_int (by rw [HT.out]), HB.out⟩

set_option maxHeartbeats 400000 in
theorem sumOverWith_any (u : Value) (ls : List Int) (c1 : Addr) (g : Nat → Nat) (D : Nat → Prop) (w : World) (hu : Ints w u ls) (hl : ls.length ≤ 1024) (hp : ∀ j, j < ls.length → ∃ s : Nat, ls.getD j 0 = (s : Int) ∧ D s) (h10 : ∀ s, g s ≤ 10)
    (hF : ∀ (s : Nat) (W : World), D s → Below w.heap.size w W → Calls Try.prog 80 #[.int .i64 s, .pointer (some c1)] W fun r W' => r = .returned (.int .i64 (g s : Nat)) ∧ Below W.heap.size W W') :
    Calls Try.prog 79 #[u, .func (.func 80) #[] #[.pointer (some c1)]] w fun r w' => r = .returned (.int .i64 (sumTo g ls ls.length : Nat)) ∧ Below w.heap.size w w' := by
  have HF := hid hF
  have HP := hid hp
  have H10 := hid h10
  obtain ⟨A, c, rfl, hA⟩ := hu
  have HA := hid hA
  clear hA hF hp h10
  go_enter Try.func79, Try.ntmps79
  go_wp2
  go_loopw [5, 10] (fun q i wr => ∃ k t : Nat, k ≤ ls.length ∧ i = .int .i64 k ∧ q = .int .i64 t ∧ Hid (sumTo g ls k = t) ∧ t ≤ 10 * k ∧ Below w.heap.size w wr) (fun _ i _ => ls.length - (intOf i).toNat)
  case atStart => exact ⟨0, 0, Nat.zero_le _, rfl, rfl, hid rfl, Nat.zero_le _, Below.refl _ _⟩
  case round =>
    obtain ⟨k, t, hk, rfl, rfl, HT, ht, hb⟩ := hrel
    have HB := hid hb
    by_cases hlt : k < ls.length
    · obtain ⟨b, o, rfl, hbl, hc⟩ := HA.out (by intro h; simp [h] at hlt)
      have hcell : wr.cell? ⟨b, o + k, none⟩ = some (.int .i64 (ls.getD k 0)) := (hb.cell (p := ⟨b, o + k, none⟩) hbl).trans (hc k hlt)
      obtain ⟨s, hs, hD⟩ := HP.out k hlt
      have HSt := hid (sumTo_succ (g := g) hs)
      rw [hs] at hcell
      have HC := hid (HF.out s wr hD hb)
      have hg10 := H10.out s
      obtain ⟨y, hy⟩ : ∃ y, g s = y := ⟨_, rfl⟩
      rw [hy] at HC HSt hg10
      clear hc hs hb hy hD
      go_wp2_with fail
      refine HC.out.mono ?_
      rintro e w2 ⟨rfl, hb2⟩
      have HB2 := hid (below_to HB.out hb2)
      clear hb2 hcell
      go_wp2
      go_roundw
      case rel => exact ⟨k + 1, t + y, by omega, by go_num, by go_num, hid (by rw [HSt.out, HT.out]), by omega, HB2.out⟩
      case measure => simp [intOf]; omega
    · obtain rfl : k = ls.length := by omega
      clear hb
      go_wp2
      go_ret
      exact ⟨ret_int (by rw [HT.out]), HB.out⟩
end Go.Proofs.Ytkcjppbplllaiab
