/- Stabilizers of rowmotion: the program. -/
import Derived.Test.YtnlehkjfidpdlabCycR
import Derived.Test.YtnlehkjfidpdlabLens
import Derived.Test.YtnlehkjfidpdlabSortM
import Derived.Test.YtnlehkjfidpdlabFac
import Derived.Test.YtnlehkjfidpdlabRect
import Derived.Test.YtnlehkjfidpdlabHas
namespace Go.Proofs.Ytnlehkjfidpdlab
open Go.RowKit Go.WideShapes Go.ChangeShapes
set_option linter.unusedVariables false

theorem ret_vbY2 {u : Value} {a b : Bool} (h : a = b) : Ending.returned (.tuple #[u, .bool a]) = .returned (.tuple #[u, .bool b]) := by rw [h]
def stbL (k : Nat) (ls : List Int) : List Int := ls.map fun x => ((k / x.toNat : Nat) : Int)
theorem stbL_length (k : Nat) (ls : List Int) : (stbL k ls).length = ls.length := by simp [stbL]
theorem stbL_snoc (k : Nat) (ls : List Int) (x : Nat) : stbL k (ls ++ [(x : Int)]) = stbL k ls ++ [((k / x : Nat) : Int)] := by simp [stbL]
theorem take_snocI {ls : List Int} {j : Nat} (hj : j < ls.length) : ls.take (j + 1) = ls.take j ++ [ls.getD j 0] := by
  rw [List.take_add_one]; congr 1; rw [List.getD_eq_getElem?_getD, List.getElem?_eq_getElem hj]; rfl
theorem lensXs_ne {xs : List Int} (hg : good xs = true) : lensXs xs ≠ [] := by
  rw [lensXs_starts]
  intro h
  have h0 : 0 < (idsXs xs).length := (idsXs_length hg).1
  have hs := startsN_seen (rowMov hg) (idsXs_D xs) (Nat.le_refl _) h0
  have he : startsN (rowmo xs) (2 ^ xs.length) (idsXs xs) (idsXs xs).length = [] := by
    have := List.map_eq_nil_iff.1 h
    exact this
  rw [he] at hs
  cases hs
set_option maxRecDepth 100000 in
theorem rowLengths_any (v : Value) (xs : List Int) (k : Nat) (w : World) (hv : Ints w v xs) (hg : good xs = true) :
    Calls Try.prog 151 #[.agg #[v, .int .i64 k]] w fun (r : Ending) w' => ∃ q, r = Ending.returned q ∧ OwnI 3 w' w.heap.size q (lensXs xs) ∧ Below w.heap.size w w' := by
  have HV := hid hv
  obtain ⟨A, c, rfl, -⟩ := hv
  have HC := hid (fun W (hW : Ints W (.slice A xs.length c) xs) => cyclesRow_any (.slice A xs.length c) xs W hW hg)
  rw [lensXs_cyc hg] at HC
  have HB := hid (below_alloc (Below.refl _ w) (.cells #[.slice A xs.length c, .int .i64 k] 50))
  clear hg
  go_enter Try.func151, Try.ntmps151
  have z0 := (Blk.new w 50 #[.slice A xs.length c, .int .i64 k]).cell 0
  go_wp2_with fail
  clear z0
  refine (HC.out _ (HV.out.alloc _)).mono ?_
  rintro e w1 ⟨q, rfl, ho, hb⟩
  obtain ⟨qA, qn, qc, rfl⟩ := ho.shape3
  have HO := hid (ho.mono (B' := w.heap.size) (by simp))
  have HB1 := hid (below_to HB.out hb)
  clear ho hb
  go_wp2
  go_ret
  exact ⟨_, rfl, HO.out, HB1.out⟩
theorem rowSteps_any (v : Value) (k : Nat) (w : World) (A : Option Addr) (n c : Nat) (hv : v = .slice A n c) :
    Calls Try.prog 152 #[.agg #[v, .int .i64 k]] w fun (r : Ending) w' => r = Ending.returned (.int .i64 (k : Int)) ∧ Below w.heap.size w w' := by
  subst hv
  have HB := hid (below_alloc (Below.refl _ w) (.cells #[.slice A n c, .int .i64 k] 50))
  go_enter Try.func152, Try.ntmps152
  have z0 := (Blk.new w 50 #[.slice A n c, .int .i64 k]).cell 1
  go_wp2
  go_ret
  exact ⟨rfl, HB.out⟩
set_option maxRecDepth 100000 in
set_option maxHeartbeats 800000 in
theorem stabRow_any (v : Value) (xs : List Int) (k : Nat) (w : World) (hv : Ints w v xs) (hg : good xs = true) (hk : k ≤ 1000) :
    Calls Try.prog 37 #[.iface 50 (.agg #[v, .int .i64 k])] w fun (r : Ending) w' => ∃ q, r = Ending.returned q ∧ OwnI 3 w' w.heap.size q (sortL (stbL k (lensXs xs))) ∧ Below w.heap.size w w' := by
  have HV := hid hv
  obtain ⟨A, c, rfl, -⟩ := hv
  have HLn := hid (fun W (hW : Ints W (.slice A xs.length c) xs) => rowLengths_any (.slice A xs.length c) xs k W hW hg)
  have HSt := hid (fun W => rowSteps_any (.slice A xs.length c) k W A xs.length c rfl)
  have HPos := hid (lensXs_pos hg)
  have hlen := lensXs_length hg
  have HNe := hid (lensXs_ne hg)
  obtain ⟨ls, hls⟩ : ∃ ls, lensXs xs = ls := ⟨_, rfl⟩
  rw [hls] at HLn HPos hlen HNe ⊢
  clear hg hls
  go_enter Try.func37, Try.ntmps37
  go_wp2_with fail
  refine (HLn.out _ HV.out).mono ?_
  rintro e w1 ⟨q, rfl, ho, hb⟩
  obtain ⟨qA, qc, rfl, hA⟩ := ho.ints
  have HA := hid hA
  have HB := hid hb
  clear ho hb hA
  go_wp2
  go_loopw [3, 9] (fun out i wr => ∃ j : Nat, j ≤ ls.length ∧ i = .int .i64 (j : Int) ∧ OwnI 3 wr w1.heap.size out (stbL k (ls.take j)) ∧ Below w1.heap.size w1 wr) (fun _ i _ => ls.length - (intOf i).toNat)
  case atStart => exact ⟨0, Nat.zero_le _, rfl, OwnI.nil _ _ _, Below.refl _ _⟩
  case round =>
    obtain ⟨j, hj, rfl, ho, hb⟩ := hrel
    obtain ⟨oA, on, oc, rfl⟩ := ho.shape3
    have HO := hid ho
    have HBr := hid hb
    by_cases hlt : j < ls.length
    · obtain ⟨b1, o1, rfl, hbl1, hc1⟩ := HA.out (by intro h; simp [h] at hlt)
      have hcell := (hb.cell (p := ⟨b1, o1 + j, none⟩) hbl1).trans (hc1 j hlt)
      have hxp := HPos.out (ls.getD j 0) (by simp [List.getD, hlt])
      obtain ⟨x, hx⟩ := Int.eq_ofNat_of_zero_le (show 0 ≤ ls.getD j 0 by omega)
      have HT : Hid (stbL k (ls.take (j + 1)) = stbL k (ls.take j) ++ [((k / x : Nat) : Int)]) := hid (by rw [take_snocI hlt, hx, stbL_snoc])
      rw [hx] at hcell hxp
      have hq1 := tdiv_natC k x
      have hq2 : ((k : Int) / (x : Int)) = ((k / x : Nat) : Int) := by simp
      have hqle : k / x ≤ k := Nat.div_le_self _ _
      obtain ⟨y, hy⟩ : ∃ y, k / x = y := ⟨_, rfl⟩
      rw [hy] at hq1 hq2 HT hqle
      have hwy : IntKind.i64.wrap (y : Int) = (y : Int) := IntWalk.i64_in _ (by omega)
      have hz3 : ¬ (x : Int) = 0 := by omega
      have hz4 : ((x : Int) == 0) = false := by rw [beq_eq_false_iff_ne]; omega
      have hz5 : (0 : Int) < (x : Int) := by omega
      have hj1 : j + 1 ≤ ls.length := hlt
      have hl0 : (stbL k (ls.take j)).length < 1048576 := by rw [stbL_length, List.length_take]; omega
      clear hc1 hx hy ho hb
      go_wp2_with fail
      refine (HSt.out _).mono ?_
      rintro e w5 ⟨rfl, hb5⟩
      have HB5 := hid (below_to HBr.out hb5)
      have HO5 := hid (HO.out.below hb5)
      have hz6 := HB5.out.size
      clear hb5 hcell
      go_wp2_with (at_builtin; refine wpList_append_int rfl _ _ 25 3 rfl Try.underlying25 Try.info3 w1.heap.size _ (stbL k (ls.take j)) (y : Int) rfl HO5.out rfl rfl hl0 hz6 ?_; intro v7 w7 ho7 hb7; rw [← HT.out] at ho7; obtain ⟨sA, sn, sc, rfl⟩ := ho7.shape3; have HO7 := hid ho7; have HB7 := hid (HB5.out.trans hb7); clear ho7 hb7)
      clear hq1 hq2 hwy hz3 hz4
      go_roundw
      case rel => exact ⟨j + 1, hj1, by go_num, HO7.out, HB7.out⟩
      case measure => simp [intOf]; omega
    · have hje : j = ls.length := by omega
      rw [hje, List.take_length] at HO
      have HNe2 : Hid (stbL k ls ≠ []) := hid (by intro h; apply HNe.out; have := congrArg List.length h; rw [stbL_length] at this; exact List.eq_nil_of_length_eq_zero (by simpa using this))
      have HLl : Hid ((stbL k ls).length ≤ 1048576) := hid (by rw [stbL_length]; omega)
      have hge : ¬ (j : Int) < (ls.length : Int) := by omega
      clear hje hj ho hb hlt
      go_wp2_with fail
      refine (sort_any _ (stbL k ls) _ _ HO.out HNe2.out HLl.out).mono ?_
      rintro e w4 ⟨rfl, ho4, hb4⟩
      have hz := HB.out.size
      have HO4 := hid (ho4.mono hz)
      have HB4 := hid (HB.out.trans ((HBr.out.trans hb4).mono hz))
      clear ho4 hb4
      go_wp2
      go_ret
      exact ⟨_, rfl, HO4.out, HB4.out⟩
def ansRS2 (a b : Int) : List Int := if sides a b then sortL (stbL (a.toNat + b.toNat) (lensXs (rectL a b))) else []
theorem ansRS2_no {a b : Int} (h : sides a b = false) : ansRS2 a b = [] := by simp [ansRS2, h]
theorem ansRS2_yes {x y : Nat} (h : sides x y = true) : ansRS2 x y = sortL (stbL (x + y) (lensXs (rectL x y))) := by simp [ansRS2, h]
theorem rectL_goodS {x y : Nat} (h : sides x y = true) (h1 : 1 ≤ x) (h2 : x ≤ 10) (h3 : 1 ≤ y) (h4 : y ≤ 10) (h5 : x * y ≤ 10) : good (rectL x y) = true := by rw [rectL_yes h]; exact rectGood h1 h2 h3 h4 h5
theorem ansRS2_length (a b : Int) : (ansRS2 a b).length ≤ 1048576 := by
  cases h : sides a b
  · rw [ansRS2_no h]; simp
  · obtain ⟨x, y, rfl, rfl, h1, h2, h3, h4, h5⟩ := sides_nat h
    rw [ansRS2_yes h, sortL_length, stbL_length]
    have := lensXs_length (rectL_goodS h h1 h2 h3 h4 h5)
    omega
set_option maxRecDepth 100000 in
set_option maxHeartbeats 800000 in
theorem implRowStabilizers_any (a b : Int) (w : World) (wa : (Lit.int .i64 a).wf = true) (wb : (Lit.int .i64 b).wf = true) :
    Calls Try.prog 13 #[.int .i64 a, .int .i64 b] w fun (r : Ending) w' => ∃ u, r = Ending.returned (.tuple #[u, .bool (sides a b)]) ∧ OwnI 3 w' w.heap.size u (ansRS2 a b) ∧ (ansRS2 a b).length ≤ 1048576 ∧ Below w.heap.size w w' := by
  have HR := hid (implRectangle_any a b w wa wb)
  have HL := hid (ansRS2_length a b)
  clear wa wb
  cases hs : sides a b
  · have HN := hid (ansRS2_no hs)
    rw [hs] at HR
    clear hs
    go_enter Try.func13, Try.ntmps13
    go_wp2_with fail
    refine HR.out.mono ?_
    rintro e w1 ⟨p, rfl, hp, -, hb⟩
    obtain ⟨pA, pn, pc, rfl⟩ := hp.shape3
    have HB := hid (below_alloc hb (.cells #[.slice pA pn pc] 35))
    clear hp hb
    go_wp2
    go_ret2
    exact ⟨_, rfl, by rw [HN.out]; exact OwnI.nil _ _ _, HL.out, HB.out⟩
  · obtain ⟨x, y, rfl, rfl, h1, h2, h3, h4, h5⟩ := sides_nat hs
    have HA := hid (ansRS2_yes hs)
    have hg := rectL_goodS hs h1 h2 h3 h4 h5
    have HSb := hid (fun v W (hW : Ints W v (rectL x y)) => stabRow_any v (rectL x y) (x + y) W hW hg (by omega))
    rw [hs] at HR
    have hw1 : IntKind.i64.wrap ((x : Int) + (y : Int)) = ((x + y : Nat) : Int) := by rw [IntWalk.i64_in _ (by omega)]; omega
    obtain ⟨z, hz⟩ : ∃ z, x + y = z := ⟨_, rfl⟩
    rw [hz] at HA HSb hw1
    clear hs hg hz
    go_enter Try.func13, Try.ntmps13
    go_wp2_with fail
    refine HR.out.mono ?_
    rintro e w1 ⟨p, rfl, hp, -, hb⟩
    obtain ⟨pA, pn, pc, rfl⟩ := hp.shape3
    have HB := hid (below_alloc hb (.cells #[.slice pA pn pc] 35))
    have HP := hid (hp.ints.alloc (.cells #[.slice pA pn pc] 35))
    have A4 := hid (At.new w1 (.slice pA pn pc) 35)
    obtain ⟨W1, hW1⟩ : ∃ W1 : World, W1 = w1.alloc (.cells #[.slice pA pn pc] 35) := ⟨_, rfl⟩
    rw [← hW1] at HB HP A4
    have t0 := A4.out.1
    rw [hW1] at t0
    clear hp hb
    go_wp2_with fail
    rw [← hW1]
    clear hW1 t0 hw1
    refine (HSb.out _ _ HP.out).mono ?_
    rintro e w2 ⟨q, rfl, ho, hb⟩
    have hz2 := HB.out.size
    have HO := hid (ho.mono hz2)
    obtain ⟨qA, qn, qc, rfl⟩ := ho.shape3
    have HB2 := hid (below_to HB.out hb)
    clear ho hb
    go_wp2
    go_ret2
    exact ⟨_, rfl, by rw [HA.out]; exact HO.out, HL.out, HB2.out⟩
end Go.Proofs.Ytnlehkjfidpdlab
