/- The levels of a box; BoxCount of the program. -/
import Derived.Test.YteaeeinfjhhhoaaBox
import Derived.Test.YteaeeinfjhhhoaaLabI
import Derived.Test.YteaeeinfjhhhoaaRect
namespace Go.Proofs.Yteaeeinfjhhhoaa
open Go.RowKit Go.WideShapes Go.ChangeShapes
set_option linter.unusedVariables false

def lvL (a b m : Int) : List Int := if boxB a b m then mkL (a.toNat * b.toNat) (lvN b.toNat) else []
theorem lvL_no {a b m : Int} (h : boxB a b m = false) : lvL a b m = [] := by simp [lvL, h]
theorem lvL_yes {x y m : Nat} (h : boxB x y m = true) : lvL x y m = mkL (x * y) (lvN y) := by
  unfold lvL; rw [if_pos h]; simp
set_option maxRecDepth 100000 in
set_option maxHeartbeats 1600000 in
theorem boxLevels_any (a b m : Int) (w : World) (wa : (Lit.int .i64 a).wf = true) (wb : (Lit.int .i64 b).wf = true) :
    Calls Try.prog 47 #[.int .i64 a, .int .i64 b, .int .i64 m] w fun (r : Ending) w' => ∃ u, r = Ending.returned (.tuple #[u, .bool (boxB a b m)]) ∧ OwnI 3 w' w.heap.size u (lvL a b m) ∧ Below w.heap.size w w' := by
  have HT := hid (implRectangle_any a b w wa wb)
  clear wa wb
  cases hs : sides a b
  · have HO := hid (boxB_no1 (m := m) hs)
    have HN := hid (lvL_no HO.out)
    rw [hs] at HT
    clear hs
    go_enter Try.func47, Try.ntmps47
    go_wp2_with fail
    refine HT.out.mono ?_
    rintro e w1 ⟨u, rfl, ho, hl, hb⟩
    obtain ⟨uA, uc, rfl, -⟩ := ho.ints
    have HB := hid hb
    clear ho hl hb
    go_wp2
    go_ret2
    exact ⟨_, ret_vbL HO.out.symm, by rw [HN.out]; exact OwnI.nil _ _ _, by first | exact below_alloc HB.out _ | exact (below_alloc HB.out _).setCell (p := ⟨w1.heap.size, 0, none⟩) HB.out.size _⟩
  obtain ⟨x, y, rfl, rfl, h1, h2, h3, h4, h5⟩ := sides_nat hs
  have HE := hid (rectL_yes hs)
  rw [hs] at HT
  cases hd : bdB m
  · have HO := hid (boxB_no2 (a := x) (b := y) hd)
    have HN := hid (lvL_no HO.out)
    have HD := hid hd
    clear hs hd
    go_enter Try.func47, Try.ntmps47
    go_wp2_with fail
    refine HT.out.mono ?_
    rintro e w1 ⟨u, rfl, ho, hl, hb⟩
    obtain ⟨uA, uc, rfl, -⟩ := ho.ints
    have HB := hid hb
    clear ho hl hb
    go_wp2_with (go_at_call 53; refine (isBound_any m _).mono ?_; rw [HD.out]; rintro e w' ⟨rfl, rfl⟩)
    go_ret2
    exact ⟨_, ret_vbL HO.out.symm, by rw [HN.out]; exact OwnI.nil _ _ _, by first | exact below_alloc HB.out _ | exact (below_alloc HB.out _).setCell (p := ⟨w1.heap.size, 0, none⟩) HB.out.size _⟩
  have HD := hid hd
  have hB := boxB_yes hs hd
  obtain ⟨m0, m1⟩ := bdB_all hd
  obtain ⟨M, rfl⟩ := Int.eq_ofNat_of_zero_le m0
  have HO := hid hB
  have HY := hid (lvL_yes hB)
  have hlen : (rectL (x : Int) (y : Int)).length = x * y := by rw [rectL_yes hs, whereL, mkL_length]
  have HLv := hid (fun e => lvN_le y e h3)
  obtain ⟨n, hn⟩ : ∃ n, x * y = n := ⟨_, rfl⟩
  rw [hn] at h5 hlen HY
  have hmk := run_make_row' (P := Try.prog) 22 3 (.int .i64 0) 8 Try.underlying22 Try.info3 rfl .i64 .i64 n (by omega) (by omega)
  have Hmk := hid hmk
  clear hs hd hB m0 m1 hn hmk
  go_enter Try.func47, Try.ntmps47
  go_wp2_with fail
  refine HT.out.mono ?_
  rintro e w1 ⟨u, rfl, ho, hl, hb⟩
  obtain ⟨uA, uc, rfl, -⟩ := ho.ints
  rw [hlen]
  have HB := hid hb
  have hz1 := hb.size
  clear ho hl hb hlen
  have hmk := Hmk.out
  go_wp2_with (go_at_call 53; refine (isBound_any _ _).mono ?_; rw [HD.out]; rintro e w' ⟨rfl, rfl⟩)
  clear hmk
  rw [Vals_made]
  have HStart : Hid (Blk ((w1.alloc (.cells #[.slice uA n uc] 28)).alloc (.cells (Vals (List.replicate n 0)) 3)) (w1.heap.size + 1) 3 (Vals (mkL n fun i => if i < 0 then lvN y i else 0))) := hid (by
    rw [show (mkL n fun i => if i < 0 then lvN y i else 0) = List.replicate n 0 from mkL_zero n]
    exact Blk.newAt _ _ _ _ (by simp))
  have HB0 := hid (below_alloc (below_alloc HB.out (.cells #[.slice uA n uc] 28)) (.cells (Vals (List.replicate n 0)) 3))
  obtain ⟨g, hg⟩ : ∃ g, w1.heap.size + 1 = g := ⟨_, rfl⟩
  have hwg : w.heap.size ≤ g := by omega
  rw [hg] at HStart ⊢
  clear hg
  go_loopw [31] (fun i wr => ∃ t : Nat, t ≤ n ∧ i = .int .i64 t ∧ Blk wr g 3 (Vals (mkL n fun i => if i < t then lvN y i else 0)) ∧ Below w.heap.size w wr) (fun i _ => n - (intOf i).toNat)
  case atStart => exact ⟨0, Nat.zero_le _, rfl, HStart.out, HB0.out⟩
  case round =>
    obtain ⟨t, ht, rfl, hk, hb⟩ := hrel
    have HK := hid hk
    have HB1 := hid hb
    clear hk hb
    by_cases htn : t < n
    · have hcg : wr.cell? ⟨g, t, none⟩ = some (.int .i64 0) := by
        rw [HK.out.cell, Vals_get (by rw [mkL_length]; exact htn), mkL_getD htn, if_neg (Nat.lt_irrefl t)]; rfl
      have hfz := HK.out.frozen t
      have hd := tdiv_natC t y
      have hm := tmod_natC t y
      have hd2 : ((t : Int) / (y : Int)) = ((t / y : Nat) : Int) := by simp
      have hm2 : ((t : Int) % (y : Int)) = ((t % y : Nat) : Int) := by simp
      have hlv := HLv.out t
      have HE2 : Hid (lvN y t = t / y + t % y + 1) := hid rfl
      obtain ⟨q, hq⟩ : ∃ q, t / y = q := ⟨_, rfl⟩
      obtain ⟨r, hr⟩ : ∃ r, t % y = r := ⟨_, rfl⟩
      have hq1 := Nat.div_le_self t y
      have hr1 := Nat.mod_le t y
      rw [hq] at hd hd2 HE2 hq1
      rw [hr] at hm hm2 HE2 hr1
      have hy0 : ((y : Int) == 0) = false := by rw [beq_eq_false_iff_ne]; omega
      have hy1 : ¬ (y : Int) = 0 := by omega
      have hyp : (0 : Int) < y := by omega
      have hs : IntKind.i64.wrap ((q : Int) + (r : Int) + 1) = ((q + r + 1 : Nat) : Int) := by rw [IntWalk.i64_in _ (by omega)]; omega
      clear hq hr hlv
      go_wp2
      go_region
      clear hd hm hd2 hm2 hs
      go_wp2
      go_roundw
      case rel => exact ⟨t + 1, by omega, by go_num, (by
        rw [mkL_upd (g := fun i => if i < t then lvN y i else 0) (h := fun i => if i < t + 1 then lvN y i else 0) (q + r + 1) htn (fun i hi => by
          by_cases e : i = t
          · subst e; rw [if_pos (by omega), if_pos rfl, HE2.out]
          · rw [if_neg e]
            by_cases e2 : i < t
            · rw [if_pos (by omega), if_pos e2]
            · rw [if_neg (by omega), if_neg e2]), ← Vals_set]
        exact HK.out.set_ t (.int .i64 ((q + r + 1 : Nat) : Int))), below_drewN (HB1.out.setCell (p := ⟨g, t, none⟩) hwg _) 1⟩
      case measure => simp [intOf]; omega
    · obtain rfl : t = n := by omega
      have e : (mkL t fun i => if i < t then lvN y i else 0) = mkL t (lvN y) := mkL_congr fun i hi => by rw [if_pos hi]
      have HOw := hid (HK.out.own (xs := mkL t fun i => if i < t then lvN y i else 0) (B := w.heap.size) hwg (by rw [mkL_length]; omega))
      rw [mkL_length, e] at HOw
      clear e
      go_wp2
      go_ret2
      exact ⟨_, ret_vbL HO.out.symm, (by rw [HY.out]; exact HOw.out), HB1.out⟩
set_option maxRecDepth 100000 in
set_option maxHeartbeats 1600000 in
theorem implBoxCount_any (a b m : Int) (w : World) (wa : (Lit.int .i64 a).wf = true) (wb : (Lit.int .i64 b).wf = true) (wm : (Lit.int .i64 m).wf = true) :
    Calls Try.prog 29 #[.int .i64 a, .int .i64 b, .int .i64 m] w fun (r : Ending) w' => r = Ending.returned (.tuple #[.int .i64 (boxT a b m), .bool (boxB a b m)]) ∧ Below w.heap.size w w' := by
  have HLs := hid (boxLevels_any a b m w wa wb)
  clear wa wb wm
  cases hs : boxB a b m
  · have HN := hid (boxT_no hs)
    rw [hs] at HLs
    clear hs
    go_enter Try.func29, Try.ntmps29
    go_wp2_with fail
    refine HLs.out.mono ?_
    rintro e w1 ⟨u, rfl, ho, hb⟩
    obtain ⟨uA, uc, rfl, -⟩ := ho.ints
    have HB := hid hb
    clear ho hb
    go_wp2
    go_ret2
    exact ⟨ret_ibC HN.out.symm rfl, HB.out⟩
  obtain ⟨hsd, hbd⟩ := boxB_all hs
  obtain ⟨x, y, rfl, rfl, h1, h2, h3, h4, h5⟩ := sides_nat hsd
  obtain ⟨m0, m1⟩ := bdB_all hbd
  obtain ⟨M, rfl⟩ := Int.eq_ofNat_of_zero_le m0
  have HAns := hid (boxT_yes hs)
  have hLe := lvL_yes hs
  rw [hs, hLe] at HLs
  have hM : M ≤ 12 := by omega
  have HLv := hid (fun e => lvN_le y e h3)
  have HUp := hid (fun e he => Nat.le_trans (up_le (y := y) (m := M) (e := e) h3 hM he) (pow22 he))
  have HDn := hid (fun e he => Nat.le_trans (dn_le (y := y) (e := e) h3 he) (pow22 he))
  have HDp := hid (fun e => dn_pos (y := y) h3 e)
  obtain ⟨n, hn⟩ : ∃ n, x * y = n := ⟨_, rfl⟩
  have hn1 : 1 ≤ n := by rw [← hn]; exact Nat.mul_pos h1 h3
  rw [hn] at HAns h5 HLs
  clear hs hn hsd hbd m0 m1 hLe
  go_enter Try.func29, Try.ntmps29
  go_wp2_with fail
  refine HLs.out.mono ?_
  rintro e w1 ⟨u, rfl, ho, hb⟩
  obtain ⟨uA, uc, rfl, hA⟩ := ho.ints
  rw [mkL_length]
  obtain ⟨g, o, rfl, hbl, hc⟩ := hA (by intro h; have := congrArg List.length h; rw [mkL_length] at this; simp at this; omega)
  have HC := hid (fun j (hj : j < n) => show w1.cell? ⟨g, o + j, none⟩ = some (.int .i64 ((lvN y j : Nat) : Int)) by rw [hc j (by rw [mkL_length]; exact hj), mkL_getD hj])
  have HB := hid hb
  clear ho hb hA hc
  go_wp2
  go_loopw [10, 11, 25] (fun p q i wr => ∃ e up dn : Nat, e ≤ n ∧ i = .int .i64 e ∧ p = .int .i64 (up : Int) ∧ q = .int .i64 (dn : Int) ∧ Hid (upN y M e = up) ∧ Hid (dnN y e = dn) ∧ wr = w1) (fun _ _ i _ => n - (intOf i).toNat)
  case atStart => exact ⟨0, 1, 1, Nat.zero_le _, rfl, rfl, rfl, hid rfl, hid rfl, by first | rfl | trivial⟩
  case round =>
    obtain ⟨e, up, dn, he, rfl, rfl, rfl, HU, HD, rfl⟩ := hrel
    by_cases hen : e < n
    · have hcell := HC.out e hen
      have hlv := HLv.out e
      have hup := HUp.out (e + 1) (by omega)
      have hdn := HDn.out (e + 1) (by omega)
      have HU1 : Hid (upN y M (e + 1) = up * (lvN y e + M)) := hid (by rw [← HU.out]; rfl)
      have HD1 : Hid (dnN y (e + 1) = dn * lvN y e) := hid (by rw [← HD.out]; rfl)
      rw [HU1.out] at hup
      rw [HD1.out] at hdn
      obtain ⟨p, hp⟩ : ∃ p, lvN y e = p := ⟨_, rfl⟩
      rw [hp] at hcell hlv hup hdn HU1 HD1
      obtain ⟨s, hs⟩ : ∃ s, up * (p + M) = s := ⟨_, rfl⟩
      obtain ⟨t, ht⟩ : ∃ t, dn * p = t := ⟨_, rfl⟩
      rw [hs] at hup HU1
      rw [ht] at hdn HD1
      have ep : (p : Int) + (M : Int) = ((p + M : Nat) : Int) := by omega
      have ems : (up : Int) * ((p + M : Nat) : Int) = (s : Int) := by rw [← Int.natCast_mul, hs]
      have emt : (dn : Int) * (p : Int) = (t : Int) := by rw [← Int.natCast_mul, ht]
      obtain ⟨pm, hpm⟩ : ∃ pm, p + M = pm := ⟨_, rfl⟩
      rw [hpm] at ep ems
      have hws : IntKind.i64.wrap (s : Int) = (s : Int) := IntWalk.i64_in _ (by omega)
      have hwt : IntKind.i64.wrap (t : Int) = (t : Int) := IntWalk.i64_in _ (by omega)
      clear hp hs ht hpm
      go_wp2
      go_roundw
      case rel => exact ⟨e + 1, s, t, by omega, by go_num, rfl, rfl, HU1, HD1, by first | rfl | trivial⟩
      case measure => simp [intOf]; omega
    · have hE := hid (show e = n by omega)
      have hei : ¬ (e : Int) < (n : Int) := by omega
      have HU2 : Hid (upN y M n = up) := hid (by rw [← HU.out, hE.out])
      have HD2 : Hid (dnN y n = dn) := hid (by rw [← HD.out, hE.out])
      have hd1 := HDp.out n
      have hu1 := HUp.out n h5
      rw [HD2.out] at hd1
      rw [HU2.out] at hu1
      have hd0 : ((dn : Int) == 0) = false := by rw [beq_eq_false_iff_ne]; omega
      have hd01 : ¬ (dn : Int) = 0 := by omega
      have hdp : (0 : Int) < dn := by omega
      have hdd := tdiv_natC up dn
      have hq := Nat.div_le_self up dn
      have HZ : Hid (boxT (x : Int) (y : Int) (M : Int) = ((up / dn : Nat) : Int)) := hid (by rw [HAns.out, HU2.out, HD2.out])
      obtain ⟨z, hz⟩ : ∃ z, up / dn = z := ⟨_, rfl⟩
      rw [hz] at hdd hq HZ
      have hwz : IntKind.i64.wrap (z : Int) = (z : Int) := IntWalk.i64_in _ (by omega)
      clear hz hq hen
      go_wp2
      go_ret2
      exact ⟨ret_ibC HZ.out.symm rfl, HB.out⟩
end Go.Proofs.Yteaeeinfjhhhoaa
