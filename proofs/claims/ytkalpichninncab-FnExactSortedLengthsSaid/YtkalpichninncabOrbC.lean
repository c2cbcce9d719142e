/- Orbits: the model's and the program's contracts. -/
import Derived.Test.YtkalpichninncabOrb
import Derived.Test.YtkalpichninncabRev
namespace Go.Proofs.Ytkalpichninncab
open Go.RowKit Go.WideShapes Go.ChangeShapes
set_option linter.unusedVariables false

def lenV : Value → Nat
  | .slice _ n _ => n
  | _ => 0
theorem At.belowB {w w' : World} {b B : Nat} {v : Value} (h : At w b v) (hb : Below B w w') (hB : b < B) : At w' b v :=
  ⟨(hb.cell (p := ⟨b, 0, none⟩) hB).trans h.1, Nat.lt_of_lt_of_le h.2 hb.size⟩
theorem below_to2 {a w w' : World} {B : Nat} (h : Below a.heap.size a w) (hb : Below B w w') (hB : a.heap.size ≤ B) : Below a.heap.size a w' := h.trans (hb.mono hB)

set_option maxHeartbeats 1600000 in
theorem obOrbit_any (v : Value) (xs : List Int) (s : Nat) (w : World) (hv : Ints w v xs) (hg : good xs = true) (hs : idB xs s = true) :
    Calls Try.prog 98 #[.agg #[v], .int .i64 s] w fun (r : Ending) w' => ∃ q, r = Ending.returned q ∧ OwnI 3 w' w.heap.size q (orbL (rowmo xs) (2 ^ xs.length) s) ∧ Below w.heap.size w w' := by
  have hl10 := (good_length hg).2
  have HV := hid hv
  have HG := hid hg
  have HS := hid hs
  have HM := hid (rowMov hg)
  have hN2 := two_pow_le xs.length hl10
  have HS0 := hid (idB_iff.1 hs).1
  have HLt := hid (fun k => (idB_iff.1 (HM.out.it hs k)).1)
  have HPS := hid (HM.out.perS hs)
  obtain ⟨P, hP⟩ : ∃ P, per (rowmo xs) (2 ^ xs.length) s = P := ⟨_, rfl⟩
  have HOr : Hid (orbL (rowmo xs) (2 ^ xs.length) s = orbTL (rowmo xs) s P) := hid (by unfold orbL; rw [hP])
  rw [hP] at HPS
  have hP1 : 1 ≤ P ∧ P ≤ 1024 := ⟨HPS.out.2.1, Nat.le_trans HPS.out.2.2.1 hN2.2⟩
  obtain ⟨hP1, hP2⟩ := hP1
  rw [HOr.out]
  clear hv hg hs hP HOr hN2
  go_enter Try.func98, Try.ntmps98
  have HB := hid (below_alloc (Below.refl _ w) (.cells #[v] 28))
  have A0 := hid (At.newAt w v 28 w.heap.size (by simp))
  have ebox0 := (A0.out.alloc (.cells #[.int .i64 s] 3)).1
  go_wp2_with fail
  clear ebox0
  refine (tgRow_any _ xs s _ ((HV.out.below HB.out).alloc _) HG.out HS0.out).mono ?_
  rintro e w' ⟨rfl, hb⟩
  have HO := hid ((Blk.own (xs := [(s : Int)]) (B := w.heap.size + 1) (Blk.newAt _ 3 _ (w.heap.size + 1) (by simp)) (Nat.le_refl _) (by simp)).below hb)
  replace HB := hid (below_to (below_alloc HB.out _) hb)
  replace A0 := hid ((A0.out.alloc _).below hb)
  have HI1 : Hid (iter (rowmo xs) 1 s = rowmo xs s) := hid rfl
  clear hb
  have hbx := A0.out.1
  go_wp2
  clear hbx
  go_loopw [5, 6] (fun q t wr => ∃ (k x : Nat) (oA : Option Addr) (oc : Nat), 1 ≤ k ∧ k ≤ P ∧ t = .int .i64 (x : Nat) ∧ q = .slice oA k oc ∧ Hid (iter (rowmo xs) k s = x) ∧ OwnI 3 wr (w.heap.size + 1) (.slice oA k oc) (orbTL (rowmo xs) s k) ∧ Below w.heap.size w wr ∧ At wr w.heap.size v) (fun q _ _ => P - lenV q)
  case atStart => exact ⟨1, _, _, _, Nat.le_refl _, hP1, rfl, rfl, HI1, HO.out, HB.out, A0.out⟩
  case round =>
    obtain ⟨k, x, oA, oc, hk1, hkP, rfl, rfl, HX, ho, hb, ha⟩ := hrel
    have HO1 := hid ho
    have HB1 := hid hb
    have HA1 := hid ha
    have hz1 : w.heap.size + 1 ≤ wr.heap.size := ha.2
    have hxl : x < 2 ^ xs.length := by rw [← HX.out]; exact HLt.out k
    have HXL := hid hxl
    have hll := orbTL_length (rowmo xs) s k
    have hl48 : (orbTL (rowmo xs) s k).length < 1048576 := by omega
    clear ho hb ha hxl hll
    by_cases hlt : k < P
    · have hne : x ≠ s := by rw [← HX.out]; exact HPS.out.2.2.2 k hk1 hlt
      have hneI : ¬ ((x : Nat) : Int) = ((s : Nat) : Int) := by omega
      have HSn : Hid (orbTL (rowmo xs) s (k + 1) = orbTL (rowmo xs) s k ++ [(x : Int)]) := hid (by rw [orbTL_succ, HX.out])
      have hbx := HA1.out.1
      go_wp2_with (at_builtin; refine wpList_append_int rfl _ _ 22 3 rfl Try.underlying22 Try.info3 (w.heap.size + 1) _ _ x rfl HO1.out rfl rfl hl48 hz1 ?_; rintro q2 w6 ho6 hb6; obtain ⟨qA, qn, qc, rfl⟩ := ho6.shape3; have HA6 := hid (HA1.out.belowB hb6 (Nat.lt_succ_self _)); have hbx6 := HA6.out.1; have HB6 := hid (below_to2 HB1.out hb6 (Nat.le_succ _)); have HO6 := hid ho6; clear ho6 hb6)
      clear hbx hbx6 hne hneI
      refine (tgRow_any _ xs x _ (HV.out.below HB6.out) HG.out HXL.out).mono ?_
      rintro e' w7 ⟨rfl, hb⟩
      have HB7 := hid (below_to HB6.out hb)
      have HA7 := hid (HA6.out.below hb)
      have HO7 := hid (HO6.out.below hb)
      clear hb
      obtain ⟨qA', qc', hsh, -⟩ := HO7.out.shape
      obtain ⟨rfl, hqn, rfl⟩ : qA = qA' ∧ qn = (orbTL (rowmo xs) s k ++ [(x : Int)]).length ∧ qc = qc' := by cases hsh; exact ⟨rfl, rfl, rfl⟩
      have hqn2 : qn = k + 1 := by rw [hqn, List.length_append, orbTL_length]; rfl
      subst hqn2
      clear hsh hqn
      have hbx := HA7.out.1
      go_wp2
      clear hbx
      go_roundw
      case rel => exact ⟨k + 1, _, _, _, by omega, by omega, rfl, rfl, hid (by rw [iter, HX.out]), (by rw [HSn.out]; exact HO7.out), HB7.out, HA7.out⟩
      case measure => simp [lenV]; omega
    · obtain rfl : k = P := by omega
      have hxs : x = s := by rw [← HX.out]; exact HPS.out.1
      subst hxs
      go_wp2
      go_ret
      exact ⟨_, rfl, HO1.out.mono (Nat.le_succ _), HB1.out⟩

end Go.Proofs.Ytkalpichninncab
