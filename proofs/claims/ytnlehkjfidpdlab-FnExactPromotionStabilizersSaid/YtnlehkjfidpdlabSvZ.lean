/- Stabilizers of promotion: the program. -/
import Derived.Test.YtnlehkjfidpdlabPrLn
import Derived.Test.YtnlehkjfidpdlabSortM
import Derived.Test.YtnlehkjfidpdlabEndF
import Derived.Test.YtnlehkjfidpdlabRect
namespace Go.Proofs.Ytnlehkjfidpdlab
open Go.RowKit Go.WideShapes Go.ChangeShapes
set_option linter.unusedVariables false

theorem lensK_oneZ {xs : List Int} (k : Nat) (h : 1 ≤ k) (hk : k ≤ ends xs 0) : lensK xs k ≠ [] := by
  induction k with
  | zero => omega
  | succ k ih =>
    cases hs : seenP xs k k
    · rw [(seenP_no (by omega) hs).2]; simp
    · rw [(seenP_yes (by omega) hs).2]
      rcases Nat.eq_zero_or_pos k with h0 | h0
      · subst h0; simp [seenP, seenB, startsN] at hs
      · exact ih h0 (by omega)
theorem lensP_neZ {xs : List Int} (h : 1 ≤ ends xs 0) : lensP xs ≠ [] := by rw [← lensK_full]; exact lensK_oneZ _ h (Nat.le_refl _)
theorem ret_vbZ {u : Value} {a b : Bool} (h : a = b) : Ending.returned (.tuple #[u, .bool a]) = .returned (.tuple #[u, .bool b]) := by rw [h]
def spL (k : Nat) (ls : List Int) : List Int := ls.map fun x => ((k / x.toNat : Nat) : Int)
theorem spL_length (k : Nat) (ls : List Int) : (spL k ls).length = ls.length := by simp [spL]
theorem spL_snoc (k : Nat) (ls : List Int) (x : Nat) : spL k (ls ++ [(x : Int)]) = spL k ls ++ [((k / x : Nat) : Int)] := by simp [spL]
theorem take_snocZ {ls : List Int} {j : Nat} (hj : j < ls.length) : ls.take (j + 1) = ls.take j ++ [ls.getD j 0] := by
  rw [List.take_add_one]; congr 1; rw [List.getD_eq_getElem?_getD, List.getElem?_eq_getElem hj]; rfl
theorem rect_lenZ (x y : Nat) : (whereL (rectF y) (x * y)).length = x * y := by unfold whereL; rw [mkL_length]
def rndChk (a b : Nat) : Bool := decide (endF (whereL (rectF b) (a * b)) (a * b) 0 ≤ 500) && decide (1 ≤ endF (whereL (rectF b) (a * b)) (a * b) 0)
theorem rnd_chk : ((List.range 11).all fun a => (List.range 11).all fun b => decide (a * b = 0) || decide (10 < a * b) || rndChk a b) = true := by decide +kernel
theorem rect_ends {a b : Nat} (h1 : 1 ≤ a) (h2 : a ≤ 10) (h3 : 1 ≤ b) (h4 : b ≤ 10) (h5 : a * b ≤ 10) : ends (whereL (rectF b) (a * b)) 0 ≤ 500 ∧ 1 ≤ ends (whereL (rectF b) (a * b)) 0 := by
  have h := List.all_eq_true.1 (List.all_eq_true.1 rnd_chk a (List.mem_range.2 (by omega))) b (List.mem_range.2 (by omega))
  simp only [Bool.or_eq_true, decide_eq_true_eq] at h
  have h0 : 0 < a * b := Nat.mul_pos (by omega) (by omega)
  rcases h with (h | h) | h
  · omega
  · omega
  · simp only [rndChk, Bool.and_eq_true, decide_eq_true_eq] at h
    have e := endF_all (whereL (rectF b) (a * b))
    rw [rect_lenZ] at e
    rw [← e]; exact h
theorem rectL_goodZ {x y : Nat} (h : sides x y = true) (h1 : 1 ≤ x) (h2 : x ≤ 10) (h3 : 1 ≤ y) (h4 : y ≤ 10) (h5 : x * y ≤ 10) : good (rectL x y) = true := by rw [rectL_yes h]; exact rectGood h1 h2 h3 h4 h5
set_option maxRecDepth 100000 in
theorem proLengths_any (v : Value) (xs : List Int) (w : World) (hv : Ints w v xs) (hg : good xs = true) (hC : ends xs 0 ≤ 500) :
    Calls Try.prog 153 #[.agg #[v]] w fun (r : Ending) w' => ∃ q, r = Ending.returned q ∧ OwnI 3 w' w.heap.size q (lensP xs) ∧ Below w.heap.size w w' := by
  have HV := hid hv
  obtain ⟨A, c, rfl, -⟩ := hv
  have HAL := hid (okAL_yes hg hC)
  have HAA := hid (ansAL_yes HAL.out)
  have HG := hid hg
  have HC := hid hC
  have hl2 : xs.length ≤ 1048576 := by have := (good_length hg).2; omega
  have A4 := hid (At.new w (.slice A xs.length c) 57)
  have HB := hid (below_alloc (Below.refl _ w) (.cells #[.slice A xs.length c] 57))
  have HP := hid (HV.out.alloc (.cells #[.slice A xs.length c] 57))
  clear hg hC
  go_enter Try.func153, Try.ntmps153
  have t0 := A4.out.1
  go_wp2_with fail
  clear t0
  refine (implAllLinear_any _ xs _ HP.out hl2).mono ?_
  rintro e w2 ⟨q, rfl, ho, -, hb2⟩
  rw [HAA.out] at ho
  rw [HAL.out]
  have HI := hid ho.ints
  obtain ⟨qA, qn, qc, rfl⟩ := ho.shape3
  have HB2 := hid (below_to HB.out hb2)
  have HP2 := hid (HP.out.below hb2)
  have A5 := hid (A4.out.below hb2)
  have t0 := A5.out.1
  clear ho hb2
  go_wp2_with fail
  clear t0
  refine (promotionLengths_any _ _ xs _ HP2.out HG.out HC.out HI.out).mono ?_
  rintro e w3 ⟨u, rfl, ho3, hb3⟩
  have hz := HB2.out.size
  have HO3 := hid (ho3.mono hz)
  have HB3 := hid (below_to HB2.out hb3)
  obtain ⟨uA, un, uc, rfl⟩ := ho3.shape3
  clear ho3 hb3
  go_wp2
  go_ret
  exact ⟨_, rfl, HO3.out, HB3.out⟩
theorem proSteps_any (A : Option Addr) (n c : Nat) (w : World) :
    Calls Try.prog 154 #[.agg #[.slice A n c]] w fun (r : Ending) w' => r = Ending.returned (.int .i64 (n : Int)) ∧ Below w.heap.size w w' := by
  have HB := hid (below_alloc (Below.refl _ w) (.cells #[.slice A n c] 57))
  go_enter Try.func154, Try.ntmps154
  have z0 := (At.new w (.slice A n c) 57).1
  go_wp2
  go_ret
  exact ⟨rfl, HB.out⟩
set_option maxRecDepth 100000 in
set_option maxHeartbeats 800000 in
theorem stabPro_any (v : Value) (xs : List Int) (w : World) (hv : Ints w v xs) (hg : good xs = true) (hC : ends xs 0 ≤ 500) (hC1 : 1 ≤ ends xs 0) :
    Calls Try.prog 37 #[.iface 57 (.agg #[v])] w fun (r : Ending) w' => ∃ q, r = Ending.returned q ∧ OwnI 3 w' w.heap.size q (sortL (spL xs.length (lensP xs))) ∧ Below w.heap.size w w' := by
  have HV := hid hv
  obtain ⟨A, c, rfl, -⟩ := hv
  have HLn := hid (fun W (hW : Ints W (.slice A xs.length c) xs) => proLengths_any (.slice A xs.length c) xs W hW hg hC)
  have HSt := hid (fun W => proSteps_any A xs.length c W)
  have hl1 := (good_length hg).1
  have HPos := hid (fun y hy => lens_range (xs := xs) hl1 y hy)
  have hlen := lens_length xs
  have HNe := hid (lensP_neZ hC1)
  have hl10 := (good_length hg).2
  obtain ⟨k, hk⟩ : ∃ k, xs.length = k := ⟨_, rfl⟩
  rw [hk] at HV HLn HSt hl10 ⊢
  obtain ⟨ls, hls⟩ : ∃ ls, lensP xs = ls := ⟨_, rfl⟩
  rw [hls] at HLn HPos hlen HNe ⊢
  clear hg hls hl1 hk
  go_enter Try.func37, Try.ntmps37
  go_wp2_with fail
  refine (HLn.out _ HV.out).mono ?_
  rintro e w1 ⟨q, rfl, ho, hb⟩
  obtain ⟨qA, qc, rfl, hA⟩ := ho.ints
  have HA := hid hA
  have HB := hid hb
  clear ho hb hA
  go_wp2
  go_loopw [3, 9] (fun out i wr => ∃ j : Nat, j ≤ ls.length ∧ i = .int .i64 (j : Int) ∧ OwnI 3 wr w1.heap.size out (spL k (ls.take j)) ∧ Below w1.heap.size w1 wr) (fun _ i _ => ls.length - (intOf i).toNat)
  case atStart => exact ⟨0, Nat.zero_le _, rfl, OwnI.nil _ _ _, Below.refl _ _⟩
  case round =>
    obtain ⟨j, hj, rfl, ho, hb⟩ := hrel
    obtain ⟨oA, on, oc, rfl⟩ := ho.shape3
    have HO := hid ho
    have HBr := hid hb
    by_cases hlt : j < ls.length
    · obtain ⟨b1, o1, rfl, hbl1, hc1⟩ := HA.out (by intro h; simp [h] at hlt)
      have hcell := (hb.cell (p := ⟨b1, o1 + j, none⟩) hbl1).trans (hc1 j hlt)
      have hxp := HPos.out (ls.getD j 0) (by simp [List.getD, hlt])
      obtain ⟨x, hx⟩ := Int.eq_ofNat_of_zero_le (show 0 ≤ ls.getD j 0 by omega)
      have HT : Hid (spL k (ls.take (j + 1)) = spL k (ls.take j) ++ [((k / x : Nat) : Int)]) := hid (by rw [take_snocZ hlt, hx, spL_snoc])
      rw [hx] at hcell hxp
      have hq1 : ((k : Int).tdiv (x : Int)) = ((k / x : Nat) : Int) := tdiv_nat k x
      have hq2 : ((k : Int) / (x : Int)) = ((k / x : Nat) : Int) := by simp
      have hqle : k / x ≤ k := Nat.div_le_self _ _
      obtain ⟨y, hy⟩ : ∃ y, k / x = y := ⟨_, rfl⟩
      rw [hy] at hq1 hq2 HT hqle
      have hwy : IntKind.i64.wrap (y : Int) = (y : Int) := IntWalk.i64_in _ (by omega)
      have hz3 : ¬ (x : Int) = 0 := by omega
      have hz4 : ((x : Int) == 0) = false := by rw [beq_eq_false_iff_ne]; omega
      have hz5 : (0 : Int) < (x : Int) := by omega
      have hj1 : j + 1 ≤ ls.length := hlt
      have hl0 : (spL k (ls.take j)).length < 1048576 := by rw [spL_length, List.length_take]; omega
      clear hc1 hx hy ho hb
      go_wp2_with fail
      refine (HSt.out _).mono ?_
      rintro e w5 ⟨rfl, hb5⟩
      have HB5 := hid (below_to HBr.out hb5)
      have HO5 := hid (HO.out.below hb5)
      have hz6 := HB5.out.size
      clear hb5 hcell
      go_wp2_with (at_builtin; refine wpList_append_int rfl _ _ 25 3 rfl Try.underlying25 Try.info3 w1.heap.size _ (spL k (ls.take j)) (y : Int) rfl HO5.out rfl rfl hl0 hz6 ?_; intro v7 w7 ho7 hb7; rw [← HT.out] at ho7; obtain ⟨sA, sn, sc, rfl⟩ := ho7.shape3; have HO7 := hid ho7; have HB7 := hid (HB5.out.trans hb7); clear ho7 hb7)
      clear hq1 hq2 hwy hz3 hz4
      go_roundw
      case rel => exact ⟨j + 1, hj1, by go_num, HO7.out, HB7.out⟩
      case measure => simp [intOf]; omega
    · have hje : j = ls.length := by omega
      rw [hje, List.take_length] at HO
      have HNe2 : Hid (spL k ls ≠ []) := hid (by intro h; apply HNe.out; have := congrArg List.length h; rw [spL_length] at this; exact List.eq_nil_of_length_eq_zero (by simpa using this))
      have HLl : Hid ((spL k ls).length ≤ 1048576) := hid (by rw [spL_length]; omega)
      have hge : ¬ (j : Int) < (ls.length : Int) := by omega
      clear hje hj ho hb hlt
      go_wp2_with fail
      refine (sort_any _ (spL k ls) _ _ HO.out HNe2.out HLl.out).mono ?_
      rintro e w4 ⟨rfl, ho4, hb4⟩
      have hz := HB.out.size
      have HO4 := hid (ho4.mono hz)
      have HB4 := hid (HB.out.trans ((HBr.out.trans hb4).mono hz))
      clear ho4 hb4
      go_wp2
      go_ret
      exact ⟨_, rfl, HO4.out, HB4.out⟩
def ansPS (a b : Int) : List Int := if sides a b then sortL (spL (a.toNat * b.toNat) (lensP (rectL a b))) else []
theorem ansPS_no {a b : Int} (h : sides a b = false) : ansPS a b = [] := by simp [ansPS, h]
theorem ansPS_yes {x y : Nat} (h : sides x y = true) : ansPS x y = sortL (spL (x * y) (lensP (rectL x y))) := by simp [ansPS, h]
theorem ansPS_length (a b : Int) : (ansPS a b).length ≤ 1048576 := by
  cases h : sides a b
  · rw [ansPS_no h]; simp
  · obtain ⟨x, y, rfl, rfl, h1, h2, h3, h4, h5⟩ := sides_nat h
    rw [ansPS_yes h, sortL_length, spL_length]
    have h6 := lens_length (rectL x y)
    have h7 := (rect_ends h1 h2 h3 h4 h5).1
    rw [← rectL_yes h] at h7
    omega
set_option maxRecDepth 100000 in
set_option maxHeartbeats 800000 in
theorem implPromotionStabilizers_any (a b : Int) (w : World) (wa : (Lit.int .i64 a).wf = true) (wb : (Lit.int .i64 b).wf = true) :
    Calls Try.prog 18 #[.int .i64 a, .int .i64 b] w fun (r : Ending) w' => ∃ u, r = Ending.returned (.tuple #[u, .bool (sides a b)]) ∧ OwnI 3 w' w.heap.size u (ansPS a b) ∧ (ansPS a b).length ≤ 1048576 ∧ Below w.heap.size w w' := by
  have HR := hid (implRectangle_any a b w wa wb)
  have HL := hid (ansPS_length a b)
  clear wa wb
  cases hs : sides a b
  · have HN := hid (ansPS_no hs)
    rw [hs] at HR
    clear hs
    go_enter Try.func18, Try.ntmps18
    go_wp2_with fail
    refine HR.out.mono ?_
    rintro e w1 ⟨p, rfl, hp, -, hb⟩
    obtain ⟨pA, pn, pc, rfl⟩ := hp.shape3
    have HB := hid (below_alloc hb (.cells #[.slice pA pn pc] 35))
    clear hp hb
    go_wp2
    go_ret2
    exact ⟨_, rfl, by rw [HN.out]; exact OwnI.nil _ _ _, HL.out, HB.out⟩
  · obtain ⟨x, y, rfl, rfl, h1, h2, h3, h4, h5⟩ := sides_nat hs
    have HA := hid (ansPS_yes hs)
    have hg := rectL_goodZ hs h1 h2 h3 h4 h5
    have hE := rect_ends h1 h2 h3 h4 h5
    have hlr := rect_lenZ x y
    rw [← rectL_yes hs] at hE hlr
    have HSb := hid (fun v W (hW : Ints W v (rectL x y)) => stabPro_any v (rectL x y) W hW hg hE.1 hE.2)
    rw [hlr] at HSb
    rw [hs] at HR
    clear hs hg hE hlr
    go_enter Try.func18, Try.ntmps18
    go_wp2_with fail
    refine HR.out.mono ?_
    rintro e w1 ⟨p, rfl, hp, -, hb⟩
    obtain ⟨pA, pn, pc, rfl⟩ := hp.shape3
    have HB := hid (below_alloc hb (.cells #[.slice pA pn pc] 35))
    have HP := hid (hp.ints.alloc (.cells #[.slice pA pn pc] 35))
    have A4 := hid (At.new w1 (.slice pA pn pc) 35)
    obtain ⟨W1, hW1⟩ : ∃ W1 : World, W1 = w1.alloc (.cells #[.slice pA pn pc] 35) := ⟨_, rfl⟩
    rw [← hW1] at HB HP A4
    have t0 := A4.out.1
    rw [hW1] at t0
    clear hp hb
    go_wp2_with fail
    rw [← hW1]
    clear hW1 t0
    refine (HSb.out _ _ HP.out).mono ?_
    rintro e w2 ⟨q, rfl, ho, hb⟩
    have hz2 := HB.out.size
    have HO := hid (ho.mono hz2)
    obtain ⟨qA, qn, qc, rfl⟩ := ho.shape3
    have HB2 := hid (below_to HB.out hb)
    clear ho hb
    go_wp2
    go_ret2
    exact ⟨_, rfl, by rw [HA.out]; exact HO.out, HL.out, HB2.out⟩
end Go.Proofs.Ytnlehkjfidpdlab
