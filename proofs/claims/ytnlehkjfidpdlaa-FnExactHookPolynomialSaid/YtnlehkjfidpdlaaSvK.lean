/- The program's quotients of polynomials. -/
import Derived.Test.YtnlehkjfidpdlaaSvG
namespace Go.Proofs.Ytnlehkjfidpdlaa
open Go.RowKit Go.WideShapes Go.ChangeShapes
set_option linter.unusedVariables false

set_option maxRecDepth 100000 in
set_option maxHeartbeats 1600000 in
theorem quotientOf_any (v u : Value) (up lo : List Nat) (D : Nat) (w : World) (hv : Ints w v (intsN up)) (hu : Ints w u (intsN lo)) (hD : D ≤ 200) (hup : ∀ k ∈ up, k ≤ 100) (hlo : ∀ k ∈ lo, k ≤ 100) (hll : lo.length = up.length) (hl1 : up.length ≤ 100) (hs : up.sum = lo.sum + D) (hs2 : lo.sum ≤ 10000) :
    Calls Try.prog 32 #[v, u] w fun (r : Ending) w' => ∃ q, r = Ending.returned q ∧ OwnI 3 w' w.heap.size q (gzI up lo (D + 1) up.length) ∧ Below w.heap.size w w' := by
  have HT1 := hid (fun W (hW : Ints W v (intsN up)) => total_any v up W hW (by omega) (by omega))
  have HT2 := hid (fun W (hW : Ints W u (intsN lo)) => total_any u lo W hW (by omega) (by omega))
  have HV := hid hv
  have HU := hid hu
  obtain ⟨A1, c1, rfl, hA1⟩ := hv
  obtain ⟨A2, c2, rfl, hA2⟩ := hu
  rw [intsN_length] at hA1 HT1 HV
  rw [intsN_length] at hA2 HT2 HU
  rw [intsN_length up, intsN_length lo]
  have HA1 := hid hA1
  have HA2 := hid hA2
  have HUp := hid (fun j (hj : j < up.length) => hup _ (getD_memN hj))
  have HLo := hid (fun j (hj : j < lo.length) => hlo _ (getD_memN hj))
  obtain ⟨S1, hS1⟩ : ∃ S1, up.sum = S1 := ⟨_, rfl⟩
  obtain ⟨S2, hS2⟩ : ∃ S2, lo.sum = S2 := ⟨_, rfl⟩
  rw [hS1] at HT1 hs
  rw [hS2] at HT2 hs hs2
  obtain ⟨L, hL⟩ : ∃ L, D + 1 = L := ⟨_, rfl⟩
  have hL1 : 1 ≤ L := by omega
  have hL2 : L ≤ 201 := by omega
  have hw1 : IntKind.i64.wrap ((S1 : Int) - (S2 : Int)) = (D : Int) := by rw [IntWalk.i64_in _ (by omega)]; omega
  have hw2 : IntKind.i64.wrap ((D : Int) + 1) = (L : Int) := by rw [IntWalk.i64_in _ (by omega)]; omega
  have HIs : Hid (∀ e, gzI up lo L (e + 1) = divL (mulL (gzI up lo L e) (up.getD e 0)) (lo.getD e 0)) := hid (fun e => rfl)
  have HIl := hid (fun e => gzI_length up lo L e)
  have HLl := hid hll
  rw [hL]
  have hmk := run_make_row' (P := Try.prog) 22 3 (.int .i64 0) 8 Try.underlying22 Try.info3 rfl .i64 .i64 L (by omega) (by omega)
  have Hmk := hid hmk
  have hLp : (0 : Int) < (L : Int) := by omega
  have hcm : (madeCells #[Value.int IntKind.i64 0] L)[0]? = some (Value.int IntKind.i64 0) := made0 (by omega)
  clear hA1 hA2 hup hlo hS1 hS2 hs hmk hL hll
  go_enter Try.func32, Try.ntmps32
  go_wp2_with fail
  refine (HT1.out _ HV.out).mono ?_
  rintro e w1 ⟨rfl, rfl⟩
  go_wp2_with fail
  refine (HT2.out _ HU.out).mono ?_
  rintro e w1 ⟨rfl, rfl⟩
  have hmk := Hmk.out
  go_wp2
  clear hmk hw1 hw2 hcm
  rw [Vals_made, Vals_set, show (List.replicate L (0 : Int)).set 0 1 = bs0 L from rfl]
  have HK0 := hid (Blk.newAt w 3 (Vals (bs0 L)) w.heap.size rfl)
  have HB0 := hid (below_alloc (Below.refl _ w) (.cells (Vals (bs0 L)) 3))
  obtain ⟨W0, hW0⟩ : ∃ W0, w.alloc (.cells (Vals (bs0 L)) 3) = W0 := ⟨_, rfl⟩
  rw [hW0] at HK0 HB0 ⊢
  obtain ⟨G, hG⟩ : ∃ G, w.heap.size = G := ⟨_, rfl⟩
  have HG := hid hG
  rw [hG] at HK0 HB0 ⊢
  clear hW0 hG
  have HCw := hid (fun W (hW : Below G W0 W) => HB0.out.trans hW)
  go_loopw [19] (fun i wr => ∃ e : Nat, e ≤ up.length ∧ i = .int .i64 (e : Int) ∧ Blk wr G 3 (Vals (gzI up lo L e)) ∧ Below G W0 wr) (fun i _ => up.length - (intOf i).toNat)
  case atStart => exact ⟨0, Nat.zero_le _, rfl, HK0.out, Below.refl _ _⟩
  case round =>
    obtain ⟨e, he, rfl, hk, hb⟩ := hrel
    have HK := hid hk
    have Hb := hid hb
    clear hk hb
    by_cases hen : e < up.length
    · have hen2 : e < lo.length := by rw [HLl.out]; exact hen
      obtain ⟨b1, o1, rfl, hbl1, hc1⟩ := HA1.out (by intro h; have := congrArg List.length h; rw [intsN_length, List.length_nil] at this; omega)
      obtain ⟨b2, o2, rfl, hbl2, hc2⟩ := HA2.out (by intro h; have := congrArg List.length h; rw [intsN_length, List.length_nil] at this; omega)
      have hcell := ((HCw.out _ Hb.out).cell (p := ⟨b1, o1 + e, none⟩) (by rw [← HG.out]; exact hbl1)).trans (cell_nat (fun j hj => hc1 j (by rw [intsN_length] at hj; exact hj)) hen)
      have HC2 := hid (fun W (hW : Below G W0 W) => ((HCw.out _ hW).cell (p := ⟨b2, o2 + e, none⟩) (by rw [← HG.out]; exact hbl2)).trans (cell_nat (fun j hj => hc2 j (by rw [intsN_length] at hj; exact hj)) hen2))
      have hkb := HUp.out e hen
      have hkb2 := HLo.out e hen2
      have HSt := hid (HIs.out e)
      have HLe := hid (HIl.out e)
      obtain ⟨k, hkk⟩ : ∃ k, up.getD e 0 = k := ⟨_, rfl⟩
      obtain ⟨k2, hkk2⟩ : ∃ k2, lo.getD e 0 = k2 := ⟨_, rfl⟩
      obtain ⟨l, hle⟩ : ∃ l, gzI up lo L e = l := ⟨_, rfl⟩
      rw [hkk] at hcell hkb HSt
      rw [hkk2] at HC2 hkb2 HSt
      rw [hle] at HSt HLe HK
      have hen1 : e + 1 ≤ up.length := hen
      clear hkk hkk2 hle hc1 hc2
      go_wp2_with fail
      refine (multiply_any G L _ k l _ HK.out HLe.out (by omega) (by omega)).mono ?_
      rintro e' w2 ⟨rfl, hk2, hb2⟩
      have HK2 := hid hk2
      have Hb2 := hid (Hb.out.trans hb2)
      have hcell2 := HC2.out _ Hb2.out
      clear hk2 hb2 hcell
      go_wp2_with fail
      refine (divide_any G L _ k2 _ _ HK2.out (by rw [mulL_length, HLe.out]) (by omega) (by omega)).mono ?_
      rintro e' w3 ⟨rfl, hk3, hb3⟩
      have HK3 := hid hk3
      have Hb3 := hid (Hb2.out.trans hb3)
      clear hk3 hb3 hcell2
      go_wp2
      go_roundw
      case rel => exact ⟨e + 1, hen1, by go_num, (by rw [HSt.out]; exact HK3.out), Hb3.out⟩
      case measure => simp [intOf]; omega
    · have HEe : Hid (e = up.length) := hid (by omega)
      rw [HEe.out] at HK
      have HOw := hid (HK.out.own (xs := gzI up lo L up.length) (B := G) (Nat.le_refl _) (by rw [HIl.out]; omega))
      rw [HIl.out] at HOw
      clear he
      go_wp2
      go_ret
      exact ⟨_, rfl, (by rw [HG.out]; exact HOw.out), (by rw [HG.out]; exact HCw.out _ Hb.out)⟩
end Go.Proofs.Ytnlehkjfidpdlaa
