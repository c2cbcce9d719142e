/- MeanOfIdeals: contracts. -/
import Derived.Test.YtkcjppbplllaiaaOrbE
namespace Go.Proofs.Ytkcjppbplllaiaa
open Go.RowKit Go.WideShapes Go.ChangeShapes
set_option linter.unusedVariables false

theorem ret_iib {a b c d : Int} {x y : Bool} (h : a = c) (k : b = d) (l : x = y) : Ending.returned (.tuple #[.int .i64 a, .int .i64 b, .bool x]) = .returned (.tuple #[.int .i64 c, .int .i64 d, .bool y]) := by rw [h, k, l]
def idsXs (xs : List Int) : List Int := setsL (holdsIdeal xs) (2 ^ xs.length)
theorem idsXs_length {xs : List Int} (hg : good xs = true) : 1 ≤ (idsXs xs).length ∧ (idsXs xs).length ≤ 1024 := by
  have h1 := setsL_length (holdsIdeal xs) (2 ^ xs.length)
  have h2 := (two_pow_le _ (good_length hg).2).2
  refine ⟨?_, by unfold idsXs; omega⟩
  have h0 : holdsIdeal xs 0 = true := by rw [holdsIdeal_row]; intro e he hb; simp at hb
  unfold idsXs setsL
  rw [List.length_map]
  apply List.length_pos_of_mem (a := 0)
  rw [List.mem_filter]
  exact ⟨List.mem_range.2 (Nat.two_pow_pos _), h0⟩
theorem idsXs_at {xs : List Int} (hg : good xs = true) (j : Nat) (hj : j < (idsXs xs).length) : ∃ s : Nat, (idsXs xs).getD j 0 = (s : Int) ∧ s < 1024 := by
  have h2 := (two_pow_le _ (good_length hg).2).2
  have hj' : j < ((List.range (2 ^ xs.length)).filter (holdsIdeal xs)).length := by simpa [idsXs, setsL] using hj
  have hm := List.mem_filter.1 (List.getElem_mem hj')
  refine ⟨((List.range (2 ^ xs.length)).filter (holdsIdeal xs))[j], by simp [idsXs, setsL, List.getD, hj'], ?_⟩
  have := List.mem_range.1 hm.1
  omega
def meanU (xs : List Int) : Nat := sumTo pc (idsXs xs) (idsXs xs).length / Nat.gcd (sumTo pc (idsXs xs) (idsXs xs).length) (idsXs xs).length
def meanD (xs : List Int) : Nat := (idsXs xs).length / Nat.gcd (sumTo pc (idsXs xs) (idsXs xs).length) (idsXs xs).length
def ansMU (xs : List Int) : Int := if good xs then (meanU xs : Nat) else 0
def ansMD (xs : List Int) : Int := if good xs then (meanD xs : Nat) else 0
theorem ansM_no {xs : List Int} (h : good xs = false) : ansMU xs = 0 ∧ ansMD xs = 0 := by simp [ansMU, ansMD, h]
theorem ansM_yes {xs : List Int} (h : good xs = true) : ansMU xs = (meanU xs : Nat) ∧ ansMD xs = (meanD xs : Nat) := by simp [ansMU, ansMD, h]
set_option maxHeartbeats 800000 in
theorem specMeanOfIdeals_any (v : Value) (xs : List Int) (w : World) (hv : Ints w v xs) (hl : xs.length ≤ 1048576) :
    Calls Try.prog 45 #[.agg #[v]] w fun r w' => r = .returned (.tuple #[.int .i64 (ansMU xs), .int .i64 (ansMD xs), .bool (good xs)]) ∧ Below w.heap.size w w' := by
  have HV := hid hv
  clear hv
  go_enter Try.func45, Try.ntmps45
  have HB := hid (below_alloc (Below.refl _ w) (.cells #[v] 28))
  have A0 := hid (At.newAt w v 28 w.heap.size (by simp))
  go_wp2_with fail
  refine (poGood_any _ xs _ (HV.out.below HB.out) hl).mono ?_
  rintro e w' ⟨rfl, hb⟩
  replace HB := hid (below_to HB.out hb)
  replace A0 := hid (A0.out.below hb)
  clear hb
  cases hq : good xs
  · have HO := hid (ansM_no hq)
    have HQ := hid hq
    clear hq
    have ebox0 := A0.out.1
    go_wp2
    go_ret3
    exact ⟨ret_iib HO.out.1.symm HO.out.2.symm HQ.out.symm, HB.out⟩
  · have HG := hid hq
    have HY := hid (ansM_yes hq)
    have HLn := hid (idsXs_length hq)
    have HAt := hid (idsXs_at hq)
    clear hq
    have ebox0 := A0.out.1
    go_wp2_with fail
    clear ebox0
    refine (poIdeals_any _ xs _ (HV.out.below HB.out) HG.out).mono ?_
    rintro e w' ⟨q, rfl, ho, hb⟩
    replace HB := hid (below_to HB.out hb)
    replace A0 := hid (A0.out.below hb)
    clear hb
    have HO1 : Hid (Ints w' q (idsXs xs)) := hid ho.ints
    clear ho
    have HY2 := hid (show ansMU xs = ((sumTo pc (idsXs xs) (idsXs xs).length / Nat.gcd (sumTo pc (idsXs xs) (idsXs xs).length) (idsXs xs).length : Nat) : Int) ∧ ansMD xs = (((idsXs xs).length / Nat.gcd (sumTo pc (idsXs xs) (idsXs xs).length) (idsXs xs).length : Nat) : Int) from HY.out)
    have h10 := sumTo_le pc_le (idsXs xs) (idsXs xs).length
    have hl1 := HLn.out
    have ebox0 := A0.out.1
    go_wp2_with fail
    clear ebox0
    refine (obSumF_any _ q xs (idsXs xs) _ (HV.out.below HB.out) HG.out HO1.out HLn.out.2 HAt.out).mono ?_
    rintro e w' ⟨rfl, hb⟩
    replace HB := hid (below_to HB.out hb)
    replace A0 := hid (A0.out.below hb)
    replace HO1 := hid (HO1.out.below hb)
    clear hb
    obtain ⟨A, c, hsh, -⟩ := HO1.out
    obtain ⟨S, hS⟩ : ∃ S, sumTo pc (idsXs xs) (idsXs xs).length = S := ⟨_, rfl⟩
    rw [hS] at HY2 h10 ⊢
    obtain ⟨L, hL⟩ : ∃ L, (idsXs xs).length = L := ⟨_, rfl⟩
    rw [hL] at HY2 hsh hl1 h10
    subst hsh
    have hg0 : 0 < Nat.gcd S L := Nat.gcd_pos_of_pos_right _ (by omega)
    have HGc := hid (fun W => tgGcd_any L S W (by omega) (by omega))
    obtain ⟨G, hG⟩ : ∃ G, Nat.gcd S L = G := ⟨_, rfl⟩
    rw [hG] at HY2 hg0 HGc
    clear hG hS hL
    go_wp2_with (go_at_call 63; refine (HGc.out _).mono ?_; rintro e w' ⟨rfl, rfl⟩)
    have hd1 := tdiv_nat S G
    have hd2 := tdiv_nat L G
    have hd3 : ((S : Int) / (G : Int)) = ((S / G : Nat) : Int) := by simp
    have hd4 : ((L : Int) / (G : Int)) = ((L / G : Nat) : Int) := by simp
    have hz1 : ¬ (G : Int) = 0 := by omega
    have hz2 : ((G : Int) == 0) = false := by rw [beq_eq_false_iff_ne]; omega
    have hz3 : (0 : Int) < G := by omega
    have hle1 := Nat.div_le_self S G
    have hle2 := Nat.div_le_self L G
    obtain ⟨p1, hp1⟩ : ∃ p, S / G = p := ⟨_, rfl⟩
    obtain ⟨p2, hp2⟩ : ∃ p, L / G = p := ⟨_, rfl⟩
    rw [hp1] at HY2 hd1 hd3 hle1
    rw [hp2] at HY2 hd2 hd4 hle2
    clear hp1 hp2
    go_region
    all_goals go_wp2
    all_goals go_ret3
    all_goals exact ⟨ret_iib HY2.out.1.symm HY2.out.2.symm HG.out.symm, HB.out.drew⟩
set_option maxHeartbeats 800000 in
theorem implMeanOfIdeals_any (v : Value) (xs : List Int) (w : World) (hv : Ints w v xs) (hl : xs.length ≤ 1048576) :
    Calls Try.prog 46 #[.agg #[v]] w fun r w' => r = .returned (.tuple #[.int .i64 (ansMU xs), .int .i64 (ansMD xs), .bool (good xs)]) ∧ Below w.heap.size w w' := by
  have HV := hid hv
  clear hv
  go_enter Try.func46, Try.ntmps46
  have HB := hid (below_alloc (Below.refl _ w) (.cells #[v] 28))
  have A0 := hid (At.newAt w v 28 w.heap.size (by simp))
  go_wp2_with fail
  refine (implIdealsOf_any _ xs _ (HV.out.below HB.out) hl).mono ?_
  rintro e w' ⟨q, rfl, ho, hlen, hb⟩
  replace HB := hid (below_to HB.out hb)
  replace A0 := hid (A0.out.below hb)
  clear hb
  have HO0 := hid ho.ints
  clear ho hlen
  cases hq : good xs
  · have HO := hid (ansM_no hq)
    have HQ := hid hq
    clear hq
    have ebox0 := A0.out.1
    go_wp2
    go_ret3
    exact ⟨ret_iib HO.out.1.symm HO.out.2.symm HQ.out.symm, HB.out⟩
  · have HG := hid hq
    have HY := hid (ansM_yes hq)
    have HLn := hid (idsXs_length hq)
    have HAt := hid (idsXs_at hq)
    have HO1 : Hid (Ints w' q (idsXs xs)) := hid (by have := HO0.out; rw [idealsL_yes hq] at this; exact this)
    clear hq HO0
    have HY2 := hid (show ansMU xs = ((sumTo pc (idsXs xs) (idsXs xs).length / Nat.gcd (sumTo pc (idsXs xs) (idsXs xs).length) (idsXs xs).length : Nat) : Int) ∧ ansMD xs = (((idsXs xs).length / Nat.gcd (sumTo pc (idsXs xs) (idsXs xs).length) (idsXs xs).length : Nat) : Int) from HY.out)
    have h10 := sumTo_le pc_le (idsXs xs) (idsXs xs).length
    have hl1 := HLn.out
    have ebox0 := A0.out.1
    go_wp2_with fail
    clear ebox0
    refine (sumOverSize_any q (idsXs xs) pc (· < 1024) _ HO1.out HLn.out.2 HAt.out pc_le (fun s W hD hb => (sizeOf_any s W hD).mono fun _ _ ⟨h1, h2⟩ => ⟨h1, h2 ▸ Below.refl _ _⟩)).mono ?_
    rintro e w' ⟨rfl, hb⟩
    replace HB := hid (below_to HB.out hb)
    replace A0 := hid (A0.out.below hb)
    replace HO1 := hid (HO1.out.below hb)
    clear hb
    obtain ⟨A, c, hsh, -⟩ := HO1.out
    obtain ⟨S, hS⟩ : ∃ S, sumTo pc (idsXs xs) (idsXs xs).length = S := ⟨_, rfl⟩
    rw [hS] at HY2 h10 ⊢
    obtain ⟨L, hL⟩ : ∃ L, (idsXs xs).length = L := ⟨_, rfl⟩
    rw [hL] at HY2 hsh hl1 h10
    subst hsh
    have hg0 : 0 < Nat.gcd S L := Nat.gcd_pos_of_pos_right _ (by omega)
    have HGc := hid (fun W => commonDivisor_any S L W (by omega) (by omega))
    obtain ⟨G, hG⟩ : ∃ G, Nat.gcd S L = G := ⟨_, rfl⟩
    rw [hG] at HY2 hg0 HGc
    clear hG hS hL
    go_wp2_with fail
    refine (HGc.out _).mono ?_
    rintro e w' ⟨rfl, hb⟩
    replace HB := hid (below_to HB.out hb)
    clear hb
    have hd1 := tdiv_nat S G
    have hd2 := tdiv_nat L G
    have hd3 : ((S : Int) / (G : Int)) = ((S / G : Nat) : Int) := by simp
    have hd4 : ((L : Int) / (G : Int)) = ((L / G : Nat) : Int) := by simp
    have hz1 : ¬ (G : Int) = 0 := by omega
    have hz2 : ((G : Int) == 0) = false := by rw [beq_eq_false_iff_ne]; omega
    have hz3 : (0 : Int) < G := by omega
    have hle1 := Nat.div_le_self S G
    have hle2 := Nat.div_le_self L G
    obtain ⟨p1, hp1⟩ : ∃ p, S / G = p := ⟨_, rfl⟩
    obtain ⟨p2, hp2⟩ : ∃ p, L / G = p := ⟨_, rfl⟩
    rw [hp1] at HY2 hd1 hd3 hle1
    rw [hp2] at HY2 hd2 hd4 hle2
    clear hp1 hp2
    go_wp2_with fail
    go_region
    all_goals go_wp2
    all_goals go_ret3
    all_goals exact ⟨ret_iib HY2.out.1.symm HY2.out.2.symm HG.out.symm, HB.out.drew⟩
end Go.Proofs.Ytkcjppbplllaiaa
