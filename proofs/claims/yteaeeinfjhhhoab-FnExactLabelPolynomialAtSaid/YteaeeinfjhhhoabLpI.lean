/- LabelPolynomialAt of the program. -/
import Derived.Test.YteaeeinfjhhhoabStI
namespace Go.Proofs.Yteaeeinfjhhhoab
open Go.RowKit Go.WideShapes Go.ChangeShapes
set_option linter.unusedVariables false

def psum (ls : List Int) : Nat → Int
  | 0 => 0
  | k + 1 => psum ls k + ls.getD k 0
theorem totalZ_any (v : Value) (ls : List Int) (w : World) (hv : Ints w v ls) (hl : ls.length ≤ 1024) (hs : ∀ k, k ≤ ls.length → -1000000000000000000 ≤ psum ls k ∧ psum ls k ≤ 1000000000000000000) :
    Calls Try.prog 44 #[v] w fun r w' => r = .returned (.int .i64 (psum ls ls.length)) ∧ w = w' := by
  obtain ⟨A, c, rfl, hA⟩ := hv
  have HA := hid hA
  have HS := hid hs
  clear hA hs
  go_enter Try.func44, Try.ntmps44
  go_wp2
  go_loop [3, 8] (fun q i => ∃ (k : Nat) (t : Int), k ≤ ls.length ∧ i = .int .i64 k ∧ q = .int .i64 t ∧ Hid (psum ls k = t)) (fun _ i => ls.length - (intOf i).toNat)
  case atStart => exact ⟨0, 0, Nat.zero_le _, rfl, rfl, hid rfl⟩
  case round =>
    obtain ⟨k, t, hk, rfl, rfl, HT⟩ := hrel
    by_cases hlt : k < ls.length
    · obtain ⟨b, o, rfl, hbl, hc⟩ := HA.out (by intro h; simp [h] at hlt)
      have hcell := hc k hlt
      have h1 : psum ls (k + 1) = t + ls.getD k 0 := by rw [psum, HT.out]
      have h2 := HS.out (k + 1) hlt
      obtain ⟨y, hy⟩ : ∃ y, ls.getD k 0 = y := ⟨_, rfl⟩
      rw [hy] at hcell h1
      rw [h1] at h2
      have HT2 := hid h1
      have hsum : IntKind.i64.wrap (t + y) = t + y := IntWalk.i64_in _ (by omega)
      clear hc hy h1 h2
      go_wp2
      clear hsum
      go_round
      case rel => exact ⟨k + 1, t + y, by omega, by go_num, rfl, HT2⟩
      case measure => simp [intOf]; omega
    · have hkn : k = ls.length := by omega
      have HE : Hid (psum ls ls.length = t) := hid (by rw [← hkn, HT.out])
      go_wp2
      go_ret
      exact ⟨ret_int HE.out.symm, rfl⟩
def tmN (xs : List Int) (x : Int) (i : Nat) : Int := chI x (i + 1) * (stpN xs i : Int)
def tmL (xs : List Int) (x : Int) (n k : Nat) : List Int := (List.range n).map fun i => if i < k then tmN xs x i else 0
theorem tmL_length (xs : List Int) (x : Int) (n k : Nat) : (tmL xs x n k).length = n := by simp [tmL]
theorem tmL_zero (xs : List Int) (x : Int) (n : Nat) : tmL xs x n 0 = List.replicate n 0 := by
  apply List.ext_getElem?
  intro i
  simp only [tmL, List.getElem?_map, Nat.not_lt_zero, if_false]
  by_cases hi : i < n <;> simp [hi]
theorem tmL_getD {xs : List Int} {x : Int} {n k i : Nat} (h : i < n) : (tmL xs x n k).getD i 0 = if i < k then tmN xs x i else 0 := by simp [tmL, List.getD, h]
theorem tmL_set {xs : List Int} {x : Int} {n k : Nat} (h : k < n) : (tmL xs x n k).set k (tmN xs x k) = tmL xs x n (k + 1) := by
  apply List.ext_getElem?
  intro i
  rw [List.getElem?_set, tmL_length]
  simp only [tmL, List.getElem?_map]
  by_cases hi : i < n
  · by_cases e : k = i
    · subst e; simp [h]
    · simp only [e, if_false, List.getElem?_range hi, Option.map_some]
      by_cases h2 : i < k
      · rw [if_pos h2, if_pos (by omega)]
      · rw [if_neg h2, if_neg (by omega)]
  · simp [hi]
    intro e; omega
theorem psum_pol {xs : List Int} {x : Int} {n : Nat} (k : Nat) (hk : k ≤ n) : psum (tmL xs x n n) k = polN xs x k := by
  induction k with
  | zero => rfl
  | succ k ih =>
    rw [psum, polN, ih (by omega), tmL_getD (by omega), if_pos (by omega)]
    unfold tmN
    rw [Int.mul_comm]
theorem falI_succ (x : Int) (k : Nat) : falI x (k + 1) = falI x k * (x - k) := rfl
set_option maxRecDepth 100000 in
set_option maxHeartbeats 3200000 in
theorem implLabelPolynomialAt_any (v : Value) (xs : List Int) (x : Int) (w : World) (hv : Ints w v xs) (hl : xs.length ≤ 1048576) (wf : (Lit.int .i64 x).wf = true) :
    Calls Try.prog 24 #[.agg #[v], .int .i64 x] w fun r w' => r = .returned (.tuple #[.int .i64 (ansLP xs x), .bool (okLP xs x)]) ∧ Below w.heap.size w w' := by
  have HV := hid hv
  have HSt := hid (fun W hW => implStepCounts_any v xs W hW hl)
  clear hv wf
  cases hg : good xs
  · have HO := hid (okLP_no1 (x := x) hg)
    have HN := hid (ansLP_no HO.out)
    rw [hg] at HSt
    clear hg
    go_enter Try.func24, Try.ntmps24
    have HB := hid (below_alloc (Below.refl _ w) (.cells #[v] 28))
    have A0 := hid (At.newAt w v 28 w.heap.size (by simp))
    go_wp2_with fail
    refine (HSt.out _ (HV.out.below HB.out)).mono ?_
    rintro e w' ⟨u, rfl, ho, -, hb⟩
    replace HB := hid (below_to HB.out hb)
    replace A0 := hid (A0.out.below hb)
    clear hb
    obtain ⟨uA, un, uc, rfl⟩ := ho.shape3
    clear ho
    have ebox0 := A0.out.1
    go_wp2
    go_ret2
    exact ⟨ret_ib HN.out.symm HO.out.symm, HB.out⟩
  have HG := hid hg
  rw [hg] at HSt
  by_cases hx' : x < -13
  · have HO := hid (okLP_no2 (xs := xs) (x := x) (by rw [decide_eq_false (show ¬ -13 ≤ x by omega)]; rfl))
    have HN := hid (ansLP_no HO.out)
    clear hg
    go_enter Try.func24, Try.ntmps24
    have HB := hid (below_alloc (Below.refl _ w) (.cells #[v] 28))
    have A0 := hid (At.newAt w v 28 w.heap.size (by simp))
    go_wp2_with fail
    refine (HSt.out _ (HV.out.below HB.out)).mono ?_
    rintro e w' ⟨u, rfl, ho, -, hb⟩
    replace HB := hid (below_to HB.out hb)
    replace A0 := hid (A0.out.below hb)
    clear hb
    obtain ⟨uA, un, uc, rfl⟩ := ho.shape3
    clear ho
    have ebox0 := A0.out.1
    go_wp2
    go_ret2
    exact ⟨ret_ib HN.out.symm HO.out.symm, HB.out⟩
  have hx0 : -13 ≤ x := by omega
  clear hx'
  by_cases hx' : 13 < x
  · have HO := hid (okLP_no2 (xs := xs) (x := x) (by rw [decide_eq_false (show ¬ x ≤ 13 by omega), Bool.and_false]))
    have HN := hid (ansLP_no HO.out)
    have hx2 : ¬ x < -13 := by omega
    clear hg
    go_enter Try.func24, Try.ntmps24
    have HB := hid (below_alloc (Below.refl _ w) (.cells #[v] 28))
    have A0 := hid (At.newAt w v 28 w.heap.size (by simp))
    go_wp2_with fail
    refine (HSt.out _ (HV.out.below HB.out)).mono ?_
    rintro e w' ⟨u, rfl, ho, -, hb⟩
    replace HB := hid (below_to HB.out hb)
    replace A0 := hid (A0.out.below hb)
    clear hb
    obtain ⟨uA, un, uc, rfl⟩ := ho.shape3
    clear ho
    have ebox0 := A0.out.1
    go_wp2
    go_ret2
    exact ⟨ret_ib HN.out.symm HO.out.symm, HB.out⟩
  have hx1 : x ≤ 13 := by omega
  clear hx'
  have hb : (decide (-13 ≤ x) && decide (x ≤ 13)) = true := by rw [decide_eq_true hx0, decide_eq_true hx1]; rfl
  have HO := hid (okLP_yes hg hb)
  have HY := hid (ansLP_yes HO.out)
  have hl10 := (good_length hg).2
  have hYs := ansSC_yes hg
  have HTm := hid (fun k (hk : k < xs.length) => show _ from term_small hg hx0 hx1 hk)
  have HPl := hid (fun k (hk : k ≤ xs.length) => pol_small hg hx0 hx1 k hk)
  have HCA := hid (fun k (hk : k ≤ 11) => ch_all hx0 hx1 hk)
  rw [hYs] at HSt
  obtain ⟨n, hn⟩ : ∃ n, xs.length = n := ⟨_, rfl⟩
  rw [hn] at HSt HTm HPl HY hl10
  have hmk := run_make_row' (P := Try.prog) 22 3 (.int .i64 0) 8 Try.underlying22 Try.info3 rfl .i64 .i64 n (by omega) (by omega)
  have Hmk := hid hmk
  have hx2 : ¬ x < -13 := by omega
  have hx3 : ¬ 13 < x := by omega
  clear hg hb hYs hmk hn
  go_enter Try.func24, Try.ntmps24
  have HB := hid (below_alloc (Below.refl _ w) (.cells #[v] 28))
  have A0 := hid (At.newAt w v 28 w.heap.size (by simp))
  go_wp2_with fail
  refine (HSt.out _ (HV.out.below HB.out)).mono ?_
  rintro e w' ⟨u, rfl, ho, -, hb⟩
  replace HB := hid (below_to HB.out hb)
  replace A0 := hid (A0.out.below hb)
  clear hb
  obtain ⟨uA, uc, rfl, hA⟩ := ho.ints
  rw [mkL_length]
  have HA := hid (fun k (hk : k < n) => show ∃ b o, uA = some ⟨b, o, none⟩ ∧ b < w'.heap.size ∧ w'.cell? ⟨b, o + k, none⟩ = some (.int .i64 (stpN xs k : Nat)) by
    obtain ⟨b, o, e, h1, h2⟩ := hA (by intro h; have := congrArg List.length h; rw [mkL_length, List.length_nil] at this; omega)
    exact ⟨b, o, e, h1, by rw [h2 k (by rw [mkL_length]; exact hk), mkL_getD hk]⟩)
  have hmk := Hmk.out
  clear ho hA
  go_wp2
  clear hmk
  rw [Vals_made]
  obtain ⟨g, hgz⟩ : ∃ g, w'.heap.size = g := ⟨_, rfl⟩
  have hwg : w.heap.size ≤ g := by rw [← hgz]; exact HB.out.size
  have HStart : Hid (Blk (w'.alloc (.cells (Vals (List.replicate n 0)) 3)) g 3 (Vals (tmL xs x n 0))) := hid (by rw [tmL_zero]; exact Blk.newAt _ _ _ _ hgz.symm)
  have HB0 : Hid (Below g w' (w'.alloc (.cells (Vals (List.replicate n 0)) 3))) := hid (by rw [← hgz]; exact below_alloc (Below.refl _ w') _)
  have HGe := hid hgz
  rw [hgz]
  rw [hgz] at HA
  clear hgz
  go_loopw [9, 32] (fun q i wr => ∃ (k : Nat) (t : Int), k ≤ n ∧ i = .int .i64 k ∧ q = .int .i64 t ∧ Hid (falI x k = t) ∧ Blk wr g 3 (Vals (tmL xs x n k)) ∧ Below g w' wr) (fun _ i _ => n - (intOf i).toNat)
  case atStart => exact ⟨0, 1, Nat.zero_le _, rfl, rfl, hid rfl, HStart.out, HB0.out⟩
  case round =>
    obtain ⟨k, t, hk, rfl, rfl, HT, hblk, hb⟩ := hrel
    have HK := hid hblk
    have HB1 := hid hb
    clear hblk hb
    by_cases hlt : k < n
    · obtain ⟨b, o, rfl, hbl, hc⟩ := HA.out k hlt
      have hcell := (HB1.out.cell (p := ⟨b, o + k, none⟩) hbl).trans hc
      have htm := HTm.out k hlt
      have hca := HCA.out (k + 1) (by omega)
      have hfs := falI_succ x k
      rw [HT.out] at hfs
      have hcg : wr.cell? ⟨g, k, none⟩ = some (.int .i64 0) := by
        rw [HK.out.cell, Vals_get (by rw [tmL_length]; exact hlt), tmL_getD hlt, if_neg (Nat.lt_irrefl k)]
      have hfz := HK.out.frozen k
      have HSet := hid (tmL_set (xs := xs) (x := x) hlt)
      have HTn : Hid (tmN xs x k = chI x (k + 1) * (stpN xs k : Int)) := hid rfl
      rw [Int.mul_comm (stpN xs k : Int)] at htm
      have HFc := hid (fun W => factorial_any (k + 1) W (by omega) (by omega))
      obtain ⟨F, hF⟩ : ∃ F, facN (k + 1) = F := ⟨_, rfl⟩
      have hFp : 1 ≤ F := by
        rw [← hF]
        have : ∀ k, k < 12 → 1 ≤ facN k := by decide
        exact this (k + 1) (by omega)
      rw [hF] at HFc hca
      obtain ⟨y, hy⟩ : ∃ y, stpN xs k = y := ⟨_, rfl⟩
      obtain ⟨z, hz⟩ : ∃ z, chI x (k + 1) = z := ⟨_, rfl⟩
      obtain ⟨q, hq⟩ : ∃ q, falI x (k + 1) = q := ⟨_, rfl⟩
      rw [hy] at hcell htm HTn
      rw [hz] at htm hca HTn
      rw [hq] at hca hfs
      have HQ := hid hq
      obtain ⟨p, hp⟩ : ∃ p, z * (y : Int) = p := ⟨_, rfl⟩
      rw [hp] at htm HTn
      rw [HTn.out] at HSet
      obtain ⟨hca1, -, hca3, hca4⟩ := hca
      have hmul : t * (x - (k : Int)) = q := hfs.symm
      have hxk : IntKind.i64.wrap (x - (k : Int)) = x - (k : Int) := IntWalk.i64_in _ (by omega)
      have hwq : IntKind.i64.wrap q = q := IntWalk.i64_in _ (by omega)
      have hwz : IntKind.i64.wrap z = z := IntWalk.i64_in _ (by omega)
      have hwp : IntKind.i64.wrap p = p := IntWalk.i64_in _ (by omega)
      have hk1 : (k : Int) + 1 = ((k + 1 : Nat) : Int) := by omega
      obtain ⟨k1, hk1e⟩ : ∃ k1, k + 1 = k1 := ⟨_, rfl⟩
      have HK1 := hid hk1e
      rw [hk1e] at HFc hk1 HSet HQ
      have hkw : IntKind.i64.wrap (k1 : Int) = (k1 : Int) := IntWalk.i64_in _ (by omega)
      have hF0 : ((F : Int) == 0) = false := by rw [beq_eq_false_iff_ne]; omega
      have hF1 : ¬ (F : Int) = 0 := by omega
      clear hc hfs hF hy hz hq htm hca1 hca3 hk1e
      go_wp2_with fail
      with_reducible refine (HFc.out _).mono ?_
      rintro e w3 ⟨rfl, rfl⟩
      clear hmul hxk hwq hk1 hkw
      go_wp2
      clear hca4 hp hwz hwp hF0 hF1
      go_roundw
      case rel => exact ⟨k1, q, by have := HK1.out; omega, by first | rfl | (have := HK1.out; subst this; go_num), rfl, HQ, (by rw [← HSet.out, ← Vals_set]; exact HK.out.set_ k (.int .i64 p)), HB1.out.setCell (p := ⟨g, k, none⟩) (Nat.le_refl _) _⟩
      case measure => simp [intOf]; omega
    · have hkn : k = n := by omega
      subst hkn
      have HIn : Hid (Ints wr (.slice (some ⟨g, 0, none⟩) k k) (tmL xs x k k)) := hid (by have h := HK.out.ints (c := k); rw [tmL_length] at h; exact h)
      have HTt := hid (totalZ_any (.slice (some ⟨g, 0, none⟩) k k) (tmL xs x k k) wr HIn.out (by rw [tmL_length]; omega) (fun j hj => by
        rw [tmL_length] at hj
        rw [psum_pol j hj]
        have := HPl.out j hj
        omega))
      rw [tmL_length, psum_pol k (Nat.le_refl k)] at HTt
      obtain ⟨r, hr⟩ : ∃ r, polN xs x k = r := ⟨_, rfl⟩
      rw [hr] at HTt HY
      clear hr hlt
      go_wp2_with fail
      with_reducible refine HTt.out.mono ?_
      rintro e w3 ⟨rfl, rfl⟩
      go_wp2
      go_ret2
      exact ⟨ret_ib HY.out.symm HO.out.symm, HB.out.trans (HB1.out.mono hwg)⟩
end Go.Proofs.Yteaeeinfjhhhoab
