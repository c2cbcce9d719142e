/- BoxBySum of the program. -/
import Derived.Test.YteaeeinfjhhhoaaBoxM
namespace Go.Proofs.Yteaeeinfjhhhoaa
open Go.RowKit Go.WideShapes Go.ChangeShapes
set_option linter.unusedVariables false

set_option maxRecDepth 100000 in
set_option maxHeartbeats 1600000 in
theorem implBoxBySum_any (a b m : Int) (w : World) (wa : (Lit.int .i64 a).wf = true) (wb : (Lit.int .i64 b).wf = true) (wm : (Lit.int .i64 m).wf = true) :
    Calls Try.prog 31 #[.int .i64 a, .int .i64 b, .int .i64 m] w fun (r : Ending) w' => ∃ u, r = Ending.returned (.tuple #[u, .bool (boxB a b m)]) ∧ OwnI 3 w' w.heap.size u (ansBS a b m) ∧ (ansBS a b m).length ≤ 1048576 ∧ Below w.heap.size w w' := by
  have HLs := hid (boxLevels_any a b m w wa wb)
  have HL := hid (ansBS_length a b m)
  clear wa wb wm
  cases hs : boxB a b m
  · have HN := hid (ansBS_no hs)
    rw [hs] at HLs
    clear hs
    go_enter Try.func31, Try.ntmps31
    go_wp2_with fail
    refine HLs.out.mono ?_
    rintro e w1 ⟨u, rfl, ho, hb⟩
    obtain ⟨uA, uc, rfl, -⟩ := ho.ints
    have HB := hid hb
    clear ho hb
    go_wp2
    go_ret2
    exact ⟨_, rfl, by rw [HN.out]; exact OwnI.nil _ _ _, HL.out, HB.out⟩
  obtain ⟨hsd, hbd⟩ := boxB_all hs
  obtain ⟨x, y, rfl, rfl, h1, h2, h3, h4, h5⟩ := sides_nat hsd
  obtain ⟨m0, m1⟩ := bdB_all hbd
  obtain ⟨M, rfl⟩ := Int.eq_ofNat_of_zero_le m0
  have HAns := hid (ansBS_yes hs)
  have hLe := lvL_yes hs
  rw [hs, hLe] at HLs
  have hM : M ≤ 12 := by omega
  have HLv := hid (fun e => lvN_le y e h3)
  have hlen := box_len h5 hM
  obtain ⟨n, hn⟩ : ∃ n, x * y = n := ⟨_, rfl⟩
  have hn1 : 1 ≤ n := by rw [← hn]; exact Nat.mul_pos h1 h3
  rw [hn] at HAns h5 HLs hlen
  obtain ⟨L0, hL0⟩ : ∃ L0, n * M = L0 := ⟨_, rfl⟩
  have hmul : (M : Int) * (n : Int) = (L0 : Int) := by rw [← Int.natCast_mul, Nat.mul_comm, hL0]
  rw [hL0] at HAns hlen
  obtain ⟨L, hL⟩ : ∃ L, L0 + 1 = L := ⟨_, rfl⟩
  rw [hL] at HAns
  have eL : (L0 : Int) + 1 = (L : Int) := by omega
  have hL1 : 1 ≤ L := by omega
  have hL2 : L ≤ 121 := by omega
  have hmk := run_make_row' (P := Try.prog) 22 3 (.int .i64 0) 8 Try.underlying22 Try.info3 rfl .i64 .i64 L (by omega) (by omega)
  have Hmk := hid hmk
  have hwL : IntKind.i64.wrap (L0 : Int) = (L0 : Int) := IntWalk.i64_in _ (by omega)
  have hwL1 : IntKind.i64.wrap (L : Int) = (L : Int) := IntWalk.i64_in _ (by omega)
  clear hs hn hsd hbd m0 m1 hLe hmk hL0 hL
  go_enter Try.func31, Try.ntmps31
  go_wp2_with fail
  refine HLs.out.mono ?_
  rintro e w1 ⟨u, rfl, ho, hb⟩
  obtain ⟨uA, uc, rfl, hA⟩ := ho.ints
  rw [mkL_length]
  obtain ⟨g, o, rfl, hbl, hc⟩ := hA (by intro h; have := congrArg List.length h; rw [mkL_length] at this; simp at this; omega)
  have HC := hid (fun j (hj : j < n) => show w1.cell? ⟨g, o + j, none⟩ = some (.int .i64 ((lvN y j : Nat) : Int)) by rw [hc j (by rw [mkL_length]; exact hj), mkL_getD hj])
  have HB := hid hb
  have hmk := Hmk.out
  have hLp : (0 : Int) < (L : Int) := by omega
  have hcm : (madeCells #[Value.int IntKind.i64 0] L)[0]? = some (Value.int IntKind.i64 0) := made0 (by omega)
  clear ho hb hA hc
  go_wp2
  clear hmk hmul eL hwL hwL1
  rw [Vals_made, Vals_set, show (List.replicate L (0 : Int)).set 0 1 = bsN y M L 0 from rfl]
  have HK0 := hid (Blk.newAt w1 3 (Vals (bsN y M L 0)) w1.heap.size rfl)
  have HB0 := hid (below_alloc HB.out (.cells (Vals (bsN y M L 0)) 3))
  have hbg : g < w1.heap.size := hbl
  have HCW := hid (fun j (hj : j < n) W (hW : Below w1.heap.size (w1.alloc (.cells (Vals (bsN y M L 0)) 3)) W) => show W.cell? ⟨g, o + j, none⟩ = some (.int .i64 ((lvN y j : Nat) : Int)) from
    (hW.cell (p := ⟨g, o + j, none⟩) hbl).trans (((below_alloc (Below.refl _ w1) (.cells (Vals (bsN y M L 0)) 3)).cell (p := ⟨g, o + j, none⟩) hbl).trans (HC.out j hj)))
  have hwg : w.heap.size ≤ w1.heap.size := HB.out.size
  obtain ⟨W0, hW0⟩ : ∃ W0, w1.alloc (.cells (Vals (bsN y M L 0)) 3) = W0 := ⟨_, rfl⟩
  obtain ⟨G, hG⟩ : ∃ G, w1.heap.size = G := ⟨_, rfl⟩
  rw [hW0] at HK0 HB0 HCW ⊢
  rw [hG] at HK0 HCW hwg hbg ⊢
  clear hW0 hG hbl
  go_loopw [32] (fun i wr => ∃ e : Nat, e ≤ n ∧ i = .int .i64 e ∧ Blk wr G 3 (Vals (bsN y M L e)) ∧ Below G W0 wr) (fun i _ => n - (intOf i).toNat)
  case atStart => exact ⟨0, Nat.zero_le _, rfl, HK0.out, Below.refl _ _⟩
  case round =>
    obtain ⟨e, he, rfl, hk, hb⟩ := hrel
    have HK := hid hk
    have Hb := hid hb
    clear hk hb
    by_cases hen : e < n
    · have hcell := HCW.out e hen wr Hb.out
      have hlv := HLv.out e
      have HSt : Hid (bsN y M L (e + 1) = divL (mulL (bsN y M L e) (lvN y e + M)) (lvN y e)) := hid rfl
      obtain ⟨p, hp⟩ : ∃ p, lvN y e = p := ⟨_, rfl⟩
      rw [hp] at hcell hlv HSt
      have ep : (p : Int) + (M : Int) = ((p + M : Nat) : Int) := by omega
      have hpm : p + M ≤ 1000 := by omega
      have hp1 : p ≤ 1000 := by omega
      obtain ⟨pm, hpm2⟩ : ∃ pm, p + M = pm := ⟨_, rfl⟩
      rw [hpm2] at ep hpm HSt
      clear hp hpm2
      go_wp2_with fail
      refine (multiply_any G L _ pm (bsN y M L e) _ HK.out (bsN_length _ _ _ _) (by omega) hpm).mono ?_
      rintro e' w2 ⟨rfl, hk2, hb2⟩
      have HK2 := hid hk2
      have Hb2 := hid (Hb.out.trans hb2)
      have hcell2 := (hb2.cell (p := ⟨g, o + e, none⟩) hbg).trans hcell
      clear hk2 hb2 hcell
      go_wp2_with fail
      refine (divide_any G L _ p _ _ HK2.out (by rw [mulL_length, bsN_length]) (by omega) hp1).mono ?_
      rintro e' w3 ⟨rfl, hk3, hb3⟩
      have HK3 := hid hk3
      have Hb3 := hid (Hb2.out.trans hb3)
      clear hk3 hb3 hcell2
      go_wp2
      go_roundw
      case rel => exact ⟨e + 1, by omega, by go_num, (by rw [HSt.out]; exact HK3.out), Hb3.out⟩
      case measure => simp [intOf]; omega
    · have hE := hid (show e = n by omega)
      have hei : ¬ (e : Int) < (n : Int) := by omega
      have HOw := hid (HK.out.own (xs := bsN y M L e) (B := w.heap.size) hwg (by rw [bsN_length]; omega))
      rw [bsN_length, hE.out] at HOw
      clear hen
      go_wp2
      go_ret2
      exact ⟨_, rfl, (by rw [HAns.out]; exact HOw.out), HL.out, HB0.out.trans (Hb.out.mono hwg)⟩
end Go.Proofs.Yteaeeinfjhhhoaa
