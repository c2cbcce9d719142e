/- OrbC Pc Size OrbS OrbT Bval CycC CycD Mean -/
import Derived.Test.YtbmhaamenjhjfaaGreatDoorPkD11
namespace Go.Proofs.YtbmhaamenjhjfaaGreatDoor
open Go.RowKit Go.WideShapes Go.ChangeShapes
set_option linter.unusedVariables false
def lenV : Value → Nat
  | .slice _ n _ => n
  | _ => 0
theorem At.belowB {w w' : World} {b B : Nat} {v : Value} (h : At w b v) (hb : Below B w w') (hB : b < B) : At w' b v :=
  ⟨(hb.cell (p := ⟨b, 0, none⟩) hB).trans h.1, Nat.lt_of_lt_of_le h.2 hb.size⟩
theorem below_to2 {a w w' : World} {B : Nat} (h : Below a.heap.size a w) (hb : Below B w w') (hB : a.heap.size ≤ B) : Below a.heap.size a w' := h.trans (hb.mono hB)
set_option maxHeartbeats 1600000 in
theorem obOrbit_any (v : Value) (xs : List Int) (s : Nat) (w : World) (hv : Ints w v xs) (hg : good xs = true) (hs : idB xs s = true) :
    Calls Tryz.prog 88 #[.agg #[v], .int .i64 s] w fun (r : Ending) w' => ∃ q, r = Ending.returned q ∧ OwnI 3 w' w.heap.size q (orbL (rowmo xs) (2 ^ xs.length) s) ∧ Below w.heap.size w w' := by
  have hl10 := (good_length hg).2
  have HV := hid hv
  have HG := hid hg
  have HS := hid hs
  have HM := hid (rowMov hg)
  have hN2 := two_pow_le xs.length hl10
  have HS0 := hid (idB_iff.1 hs).1
  have HLt := hid (fun k => (idB_iff.1 (HM.out.it hs k)).1)
  have HPS := hid (HM.out.perS hs)
  obtain ⟨P, hP⟩ : ∃ P, per (rowmo xs) (2 ^ xs.length) s = P := ⟨_, rfl⟩
  have HOr : Hid (orbL (rowmo xs) (2 ^ xs.length) s = orbTL (rowmo xs) s P) := hid (by unfold orbL; rw [hP])
  rw [hP] at HPS
  have hP1 : 1 ≤ P ∧ P ≤ 1024 := ⟨HPS.out.2.1, Nat.le_trans HPS.out.2.2.1 hN2.2⟩
  obtain ⟨hP1, hP2⟩ := hP1
  rw [HOr.out]
  clear hv hg hs hP HOr hN2
  go_enter Tryz.func88, Tryz.ntmps88
  have HB := hid (below_alloc (Below.refl _ w) (.cells #[v] 28))
  have A0 := hid (At.newAt w v 28 w.heap.size (by simp))
  have ebox0 := (A0.out.alloc (.cells #[.int .i64 s] 3)).1
  go_wp2_with fail
  clear ebox0
  refine (tgRow_any _ xs s _ ((HV.out.below HB.out).alloc _) HG.out HS0.out).mono ?_
  rintro e w' ⟨rfl, hb⟩
  have HO := hid ((Blk.own (xs := [(s : Int)]) (B := w.heap.size + 1) (Blk.newAt _ 3 _ (w.heap.size + 1) (by simp)) (Nat.le_refl _) (by simp)).below hb)
  replace HB := hid (below_to (below_alloc HB.out _) hb)
  replace A0 := hid ((A0.out.alloc _).below hb)
  have HI1 : Hid (iter (rowmo xs) 1 s = rowmo xs s) := hid rfl
  clear hb
  have hbx := A0.out.1
  go_wp2
  clear hbx
  go_loopw [5, 6] (fun q t wr => ∃ (k x : Nat) (oA : Option Addr) (oc : Nat), 1 ≤ k ∧ k ≤ P ∧ t = .int .i64 (x : Nat) ∧ q = .slice oA k oc ∧ Hid (iter (rowmo xs) k s = x) ∧ OwnI 3 wr (w.heap.size + 1) (.slice oA k oc) (orbTL (rowmo xs) s k) ∧ Below w.heap.size w wr ∧ At wr w.heap.size v) (fun q _ _ => P - lenV q)
  case atStart => exact ⟨1, _, _, _, Nat.le_refl _, hP1, rfl, rfl, HI1, HO.out, HB.out, A0.out⟩
  case round =>
    obtain ⟨k, x, oA, oc, hk1, hkP, rfl, rfl, HX, ho, hb, ha⟩ := hrel
    have HO1 := hid ho
    have HB1 := hid hb
    have HA1 := hid ha
    have hz1 : w.heap.size + 1 ≤ wr.heap.size := ha.2
    have hxl : x < 2 ^ xs.length := by rw [← HX.out]; exact HLt.out k
    have HXL := hid hxl
    have hll := orbTL_length (rowmo xs) s k
    have hl48 : (orbTL (rowmo xs) s k).length < 1048576 := by omega
    clear ho hb ha hxl hll
    by_cases hlt : k < P
    · have hne : x ≠ s := by rw [← HX.out]; exact HPS.out.2.2.2 k hk1 hlt
      have hneI : ¬ ((x : Nat) : Int) = ((s : Nat) : Int) := by omega
      have HSn : Hid (orbTL (rowmo xs) s (k + 1) = orbTL (rowmo xs) s k ++ [(x : Int)]) := hid (by rw [orbTL_succ, HX.out])
      have hbx := HA1.out.1
      go_wp2_with (at_builtin; refine wpList_append_int rfl _ _ 22 3 rfl Tryz.underlying22 Tryz.info3 (w.heap.size + 1) _ _ x rfl HO1.out rfl rfl hl48 hz1 ?_; rintro q2 w6 ho6 hb6; obtain ⟨qA, qn, qc, rfl⟩ := ho6.shape3; have HA6 := hid (HA1.out.belowB hb6 (Nat.lt_succ_self _)); have hbx6 := HA6.out.1; have HB6 := hid (below_to2 HB1.out hb6 (Nat.le_succ _)); have HO6 := hid ho6; clear ho6 hb6)
      clear hbx hbx6 hne hneI
      refine (tgRow_any _ xs x _ (HV.out.below HB6.out) HG.out HXL.out).mono ?_
      rintro e' w7 ⟨rfl, hb⟩
      have HB7 := hid (below_to HB6.out hb)
      have HA7 := hid (HA6.out.below hb)
      have HO7 := hid (HO6.out.below hb)
      clear hb
      obtain ⟨qA', qc', hsh, -⟩ := HO7.out.shape
      obtain ⟨rfl, hqn, rfl⟩ : qA = qA' ∧ qn = (orbTL (rowmo xs) s k ++ [(x : Int)]).length ∧ qc = qc' := by cases hsh; exact ⟨rfl, rfl, rfl⟩
      have hqn2 : qn = k + 1 := by rw [hqn, List.length_append, orbTL_length]; rfl
      subst hqn2
      clear hsh hqn
      have hbx := HA7.out.1
      go_wp2
      clear hbx
      go_roundw
      case rel => exact ⟨k + 1, _, _, _, by omega, by omega, rfl, rfl, hid (by rw [iter, HX.out]), (by rw [HSn.out]; exact HO7.out), HB7.out, HA7.out⟩
      case measure => simp [lenV]; omega
    · obtain rfl : k = P := by omega
      have hxs : x = s := by rw [← HX.out]; exact HPS.out.1
      subst hxs
      go_wp2
      go_ret
      exact ⟨_, rfl, HO1.out.mono (Nat.le_succ _), HB1.out⟩
set_option maxHeartbeats 1600000 in
theorem orbitRow_any (v : Value) (xs : List Int) (s : Nat) (w : World) (hv : Ints w v xs) (hg : good xs = true) (hs : idB xs s = true) :
    Calls Tryz.prog 176 #[.agg #[v], .int .i64 s, .iface 195 (.agg #[])] w fun (r : Ending) w' => ∃ q, r = Ending.returned q ∧ OwnI 3 w' w.heap.size q (orbL (rowmo xs) (2 ^ xs.length) s) ∧ Below w.heap.size w w' := by
  have hl10 := (good_length hg).2
  have HV := hid hv
  have HG := hid hg
  have HS := hid hs
  have HM := hid (rowMov hg)
  have hN2 := two_pow_le xs.length hl10
  have HS0 := hid (idB_iff.1 hs).1
  have HLt := hid (fun k => (idB_iff.1 (HM.out.it hs k)).1)
  have HPS := hid (HM.out.perS hs)
  obtain ⟨P, hP⟩ : ∃ P, per (rowmo xs) (2 ^ xs.length) s = P := ⟨_, rfl⟩
  have HOr : Hid (orbL (rowmo xs) (2 ^ xs.length) s = orbTL (rowmo xs) s P) := hid (by unfold orbL; rw [hP])
  rw [hP] at HPS
  have hP1 : 1 ≤ P ∧ P ≤ 1024 := ⟨HPS.out.2.1, Nat.le_trans HPS.out.2.2.1 hN2.2⟩
  obtain ⟨hP1, hP2⟩ := hP1
  rw [HOr.out]
  clear hv hg hs hP HOr hN2
  go_enter Tryz.func176, Tryz.ntmps176
  have HB := hid (below_alloc (Below.refl _ w) (.cells #[v] 28))
  have A0 := hid (At.newAt w v 28 w.heap.size (by simp))
  have ebox0 := (A0.out.alloc (.cells #[.int .i64 s] 3)).1
  go_wp2_with fail
  clear ebox0
  refine (rowStep_any _ xs s _ ((HV.out.below HB.out).alloc _) HG.out HS0.out).mono ?_
  rintro e w' ⟨rfl, hb⟩
  have HO := hid ((Blk.own (xs := [(s : Int)]) (B := w.heap.size + 1) (Blk.newAt _ 3 _ (w.heap.size + 1) (by simp)) (Nat.le_refl _) (by simp)).below hb)
  replace HB := hid (below_to (below_alloc HB.out _) hb)
  replace A0 := hid ((A0.out.alloc _).below hb)
  have HI1 : Hid (iter (rowmo xs) 1 s = rowmo xs s) := hid rfl
  clear hb
  have hbx := A0.out.1
  go_wp2
  clear hbx
  go_loopw [7, 8] (fun q t wr => ∃ (k x : Nat) (oA : Option Addr) (oc : Nat), 1 ≤ k ∧ k ≤ P ∧ t = .int .i64 (x : Nat) ∧ q = .slice oA k oc ∧ Hid (iter (rowmo xs) k s = x) ∧ OwnI 3 wr (w.heap.size + 1) (.slice oA k oc) (orbTL (rowmo xs) s k) ∧ Below w.heap.size w wr ∧ At wr w.heap.size v) (fun q _ _ => P - lenV q)
  case atStart => exact ⟨1, _, _, _, Nat.le_refl _, hP1, rfl, rfl, HI1, HO.out, HB.out, A0.out⟩
  case round =>
    obtain ⟨k, x, oA, oc, hk1, hkP, rfl, rfl, HX, ho, hb, ha⟩ := hrel
    have HO1 := hid ho
    have HB1 := hid hb
    have HA1 := hid ha
    have hz1 : w.heap.size + 1 ≤ wr.heap.size := ha.2
    have hxl : x < 2 ^ xs.length := by rw [← HX.out]; exact HLt.out k
    have HXL := hid hxl
    have hll := orbTL_length (rowmo xs) s k
    have hl48 : (orbTL (rowmo xs) s k).length < 1048576 := by omega
    clear ho hb ha hxl hll
    by_cases hlt : k < P
    · have hne : x ≠ s := by rw [← HX.out]; exact HPS.out.2.2.2 k hk1 hlt
      have hneI : ¬ ((x : Nat) : Int) = ((s : Nat) : Int) := by omega
      have HSn : Hid (orbTL (rowmo xs) s (k + 1) = orbTL (rowmo xs) s k ++ [(x : Int)]) := hid (by rw [orbTL_succ, HX.out])
      have hbx := HA1.out.1
      go_wp2_with (at_builtin; refine wpList_append_int rfl _ _ 22 3 rfl Tryz.underlying22 Tryz.info3 (w.heap.size + 1) _ _ x rfl HO1.out rfl rfl hl48 hz1 ?_; rintro q2 w6 ho6 hb6; obtain ⟨qA, qn, qc, rfl⟩ := ho6.shape3; have HA6 := hid (HA1.out.belowB hb6 (Nat.lt_succ_self _)); have hbx6 := HA6.out.1; have HB6 := hid (below_to2 HB1.out hb6 (Nat.le_succ _)); have HO6 := hid ho6; clear ho6 hb6)
      clear hbx hbx6 hne hneI
      refine (rowStep_any _ xs x _ (HV.out.below HB6.out) HG.out HXL.out).mono ?_
      rintro e' w7 ⟨rfl, hb⟩
      have HB7 := hid (below_to HB6.out hb)
      have HA7 := hid (HA6.out.below hb)
      have HO7 := hid (HO6.out.below hb)
      clear hb
      obtain ⟨qA', qc', hsh, -⟩ := HO7.out.shape
      obtain ⟨rfl, hqn, rfl⟩ : qA = qA' ∧ qn = (orbTL (rowmo xs) s k ++ [(x : Int)]).length ∧ qc = qc' := by cases hsh; exact ⟨rfl, rfl, rfl⟩
      have hqn2 : qn = k + 1 := by rw [hqn, List.length_append, orbTL_length]; rfl
      subst hqn2
      clear hsh hqn
      have hbx := HA7.out.1
      go_wp2
      clear hbx
      go_roundw
      case rel => exact ⟨k + 1, _, _, _, by omega, by omega, rfl, rfl, hid (by rw [iter, HX.out]), (by rw [HSn.out]; exact HO7.out), HB7.out, HA7.out⟩
      case measure => simp [lenV]; omega
    · obtain rfl : k = P := by omega
      have hxs : x = s := by rw [← HX.out]; exact HPS.out.1
      subst hxs
      go_wp2
      go_ret
      exact ⟨_, rfl, HO1.out.mono (Nat.le_succ _), HB1.out⟩
end Go.Proofs.YtbmhaamenjhjfaaGreatDoor
namespace Go.Proofs.YtbmhaamenjhjfaaGreatDoor
open Go.RowKit Go.WideShapes Go.ChangeShapes
set_option linter.unusedVariables false
def pcF : Nat → Nat → Nat
  | 0, _ => 0
  | c + 1, s => s % 2 + pcF c (s / 2)
def pc (s : Nat) : Nat := pcF 10 s
theorem pcF_le (c s : Nat) : pcF c s ≤ c := by
  induction c generalizing s with
  | zero => exact Nat.le_refl _
  | succ c ih => have := ih (s / 2); unfold pcF; omega
theorem pc_le (s : Nat) : pc s ≤ 10 := pcF_le 10 s
theorem pcF_zero (c : Nat) : pcF c 0 = 0 := by
  induction c with
  | zero => rfl
  | succ c ih => unfold pcF; simp [ih]
def onA (x : Int) : Int := IntKind.u64.wrap (bits .and .u64 (x / 2) 6148914691236517205 + bits .and .u64 x 6148914691236517205)
def onB (x : Int) : Int := IntKind.u64.wrap (bits .and .u64 (x / 4) 3689348814741910323 + bits .and .u64 x 3689348814741910323)
def onC (x : Int) : Int := bits .and .u64 (IntKind.u64.wrap (x / 16 + x)) 1085102592571150095
def onD (x : Int) : Int := IntKind.u64.wrap (x + x / 256)
def onE (x : Int) : Int := IntKind.u64.wrap (x + x / 65536)
def onF (x : Int) : Int := IntKind.u64.wrap (x + x / 4294967296)
def onesI (x : Int) : Int := bits .and .i64 (wrap64 (onF (onE (onD (onC (onB (onA x))))))) 127
theorem ones_chk : ((List.range 1024).all fun s => onesI (s : Int) == ((pc s : Nat) : Int)) = true := by decide +kernel
theorem ones_all {s : Nat} (h : s < 1024) : onesI (s : Int) = ((pc s : Nat) : Int) := by
  have := List.all_eq_true.1 ones_chk s (List.mem_range.2 h)
  simpa using this
set_option maxHeartbeats 4000000 in
set_option maxRecDepth 100000 in
theorem onesCount64_raw (s : Nat) (w : World) (hs : s < 1024) : Calls Tryz.prog 241 #[.int .u64 s] w fun r w' => r = .returned (.int .i64 (onesI s)) ∧ w = w' := by
  go_enter Tryz.func241, Tryz.ntmps241
  go_wp2
  go_ret
  exact ⟨ret_int rfl, rfl⟩
theorem onesCount64_any (s : Nat) (w : World) (hs : s < 1024) : Calls Tryz.prog 241 #[.int .u64 s] w fun r w' => r = .returned (.int .i64 (pc s : Nat)) ∧ w = w' :=
  (onesCount64_raw s w hs).mono fun _ _ ⟨h1, h2⟩ => ⟨by rw [h1, ones_all hs], h2⟩
theorem onesCount_any (s : Nat) (w : World) (hs : s < 1024) : Calls Tryz.prog 211 #[.int .u64 s] w fun r w' => r = .returned (.int .i64 (pc s : Nat)) ∧ w = w' := by
  go_enter Tryz.func211, Tryz.ntmps211
  go_wp2_with (go_at_call 241; refine (onesCount64_any s _ hs).mono ?_; rintro e w' ⟨rfl, rfl⟩)
  go_ret
  exact ⟨rfl, rfl⟩
theorem sizeOf_any (s : Nat) (w : World) (hs : s < 1024) : Calls Tryz.prog 175 #[.int .i64 s] w fun r w' => r = .returned (.int .i64 (pc s : Nat)) ∧ w = w' := by
  go_enter Tryz.func175, Tryz.ntmps175
  go_wp2_with (go_at_call 211; refine (onesCount_any s _ hs).mono ?_; rintro e w' ⟨rfl, rfl⟩)
  go_ret
  exact ⟨rfl, rfl⟩
end Go.Proofs.YtbmhaamenjhjfaaGreatDoor
namespace Go.Proofs.YtbmhaamenjhjfaaGreatDoor
open Go.RowKit Go.WideShapes Go.ChangeShapes
set_option linter.unusedVariables false
def sumTo (g : Nat → Nat) (ls : List Int) : Nat → Nat
  | 0 => 0
  | k + 1 => sumTo g ls k + g (ls.getD k 0).toNat
theorem sumTo_succ {g : Nat → Nat} {ls : List Int} {k s : Nat} (h : ls.getD k 0 = (s : Int)) : sumTo g ls (k + 1) = sumTo g ls k + g s := by
  simp only [sumTo, h, Int.toNat_natCast]
theorem sumTo_le {g : Nat → Nat} (h : ∀ s, g s ≤ 10) (ls : List Int) (k : Nat) : sumTo g ls k ≤ 10 * k := by
  induction k with
  | zero => exact Nat.le_refl _
  | succ k ih => have := h (ls.getD k 0).toNat; unfold sumTo; omega
def sumLN (g : Nat → Nat) (ls : List Int) : Nat := sumTo g ls ls.length
theorem obSize_any (s : Nat) (w : World) (hs : s < 1024) : Calls Tryz.prog 86 #[.int .i64 s] w fun r w' => r = .returned (.int .i64 (pc s : Nat)) ∧ w = w' := by
  obtain ⟨P, hP⟩ : ∃ P, pc s = P := ⟨_, rfl⟩
  have HP := hid hP
  rw [hP]
  clear hP
  go_enter Tryz.func86, Tryz.ntmps86
  go_wp2
  go_loop [0, 3] (fun q i => ∃ k t n : Nat, k ≤ 10 ∧ t < 2 ^ (10 - k) ∧ t < 1024 ∧ q = .int .i64 t ∧ i = .int .i64 n ∧ n ≤ k ∧ Hid (n + pcF (10 - k) t = P)) (fun q _ => (intOf q).toNat)
  case atStart => exact ⟨0, s, 0, Nat.zero_le _, hs, hs, rfl, rfl, Nat.le_refl _, hid (by rw [Nat.zero_add]; exact HP.out)⟩
  case round =>
    obtain ⟨k, t, n, hk, ht, ht2, rfl, rfl, hn, HC⟩ := hrel
    by_cases h0 : t = 0
    · subst h0
      have HE : Hid (n = P) := hid (by have := HC.out; rw [pcF_zero] at this; omega)
      clear ht
      go_wp2
      go_ret
      exact ⟨ret_int (by rw [HE.out]), rfl⟩
    · have hk9 : k < 10 := by
        rcases Nat.lt_or_ge k 10 with h | h
        · exact h
        · have : k = 10 := by omega
          subst this
          simp at ht; omega
      obtain ⟨m, hm⟩ : ∃ m, 10 - k = m + 1 := ⟨9 - k, by omega⟩
      have hm2 : 10 - (k + 1) = m := by omega
      have HH : Hid (t / 2 < 2 ^ (10 - (k + 1))) := hid (by rw [hm] at ht; rw [hm2]; rw [Nat.pow_succ] at ht; omega)
      have HC2 : Hid (n + t % 2 + pcF (10 - (k + 1)) (t / 2) = P) := hid (by have := HC.out; rw [hm] at this; rw [hm2]; unfold pcF at this; omega)
      have hpos : (0 : Int) < t := by omega
      clear ht hm hm2
      go_wp2
      go_round
      case rel => exact ⟨k + 1, t / 2, n + t % 2, by omega, HH.out, by omega, congrArg (Value.int .i64) (by omega), congrArg (Value.int .i64) (by omega), by omega, HC2⟩
      case measure => simp [intOf]; omega
set_option maxHeartbeats 400000 in
theorem sumOverSize_any (u : Value) (ls : List Int) (g : Nat → Nat) (D : Nat → Prop) (w : World) (hu : Ints w u ls) (hl : ls.length ≤ 1024) (hp : ∀ j, j < ls.length → ∃ s : Nat, ls.getD j 0 = (s : Int) ∧ D s) (h10 : ∀ s, g s ≤ 10)
    (hF : ∀ (s : Nat) (W : World), D s → Below w.heap.size w W → Calls Tryz.prog 175 #[.int .i64 s] W fun r W' => r = .returned (.int .i64 (g s : Nat)) ∧ Below W.heap.size W W') :
    Calls Tryz.prog 180 #[u, .func (.func 175) #[] #[]] w fun r w' => r = .returned (.int .i64 (sumTo g ls ls.length : Nat)) ∧ Below w.heap.size w w' := by
  have HF := hid hF
  have HP := hid hp
  have H10 := hid h10
  obtain ⟨A, c, rfl, hA⟩ := hu
  have HA := hid hA
  clear hA hF hp h10
  go_enter Tryz.func180, Tryz.ntmps180
  go_wp2
  go_loopw [5, 10] (fun q i wr => ∃ k t : Nat, k ≤ ls.length ∧ i = .int .i64 k ∧ q = .int .i64 t ∧ Hid (sumTo g ls k = t) ∧ t ≤ 10 * k ∧ Below w.heap.size w wr) (fun _ i _ => ls.length - (intOf i).toNat)
  case atStart => exact ⟨0, 0, Nat.zero_le _, rfl, rfl, hid rfl, Nat.zero_le _, Below.refl _ _⟩
  case round =>
    obtain ⟨k, t, hk, rfl, rfl, HT, ht, hb⟩ := hrel
    have HB := hid hb
    by_cases hlt : k < ls.length
    · obtain ⟨b, o, rfl, hbl, hc⟩ := HA.out (by intro h; simp [h] at hlt)
      have hcell : wr.cell? ⟨b, o + k, none⟩ = some (.int .i64 (ls.getD k 0)) := (hb.cell (p := ⟨b, o + k, none⟩) hbl).trans (hc k hlt)
      obtain ⟨s, hs, hD⟩ := HP.out k hlt
      have HSt := hid (sumTo_succ (g := g) hs)
      rw [hs] at hcell
      have HC := hid (HF.out s wr hD hb)
      have hg10 := H10.out s
      obtain ⟨y, hy⟩ : ∃ y, g s = y := ⟨_, rfl⟩
      rw [hy] at HC HSt hg10
      clear hc hs hb hy hD
      go_wp2_with fail
      refine HC.out.mono ?_
      rintro e w2 ⟨rfl, hb2⟩
      have HB2 := hid (below_to HB.out hb2)
      clear hb2 hcell
      go_wp2
      go_roundw
      case rel => exact ⟨k + 1, t + y, by omega, by go_num, by go_num, hid (by rw [HSt.out, HT.out]), by omega, HB2.out⟩
      case measure => simp [intOf]; omega
    · obtain rfl : k = ls.length := by omega
      clear hb
      go_wp2
      go_ret
      exact ⟨ret_int (by rw [HT.out]), HB.out⟩
end Go.Proofs.YtbmhaamenjhjfaaGreatDoor
namespace Go.Proofs.YtbmhaamenjhjfaaGreatDoor
open Go.RowKit Go.WideShapes Go.ChangeShapes
set_option linter.unusedVariables false
theorem ret_vb' {u : Value} {a b : Bool} (h : a = b) : Ending.returned (.tuple #[u, .bool a]) = .returned (.tuple #[u, .bool b]) := by rw [h]
def orbXs (xs : List Int) (s : Nat) : List Int := orbL (rowmo xs) (2 ^ xs.length) s
def ansOO (xs : List Int) (s : Int) : List Int := if okIdeal xs s then orbXs xs s.toNat else []
theorem ansOO_no {xs : List Int} {s : Int} (h : okIdeal xs s = false) : ansOO xs s = [] := by simp [ansOO, h]
theorem ansOO_yes {xs : List Int} {z : Nat} (h : okIdeal xs z = true) : ansOO xs z = orbXs xs z := by simp [ansOO, h]
theorem okIdeal_idB {xs : List Int} {s : Int} (h : okIdeal xs s = true) : ∃ z : Nat, s = (z : Int) ∧ good xs = true ∧ idB xs z = true := by
  obtain ⟨z, rfl, h1, h2, h3⟩ := okIdeal_all h
  exact ⟨z, rfl, h1, idB_iff.2 ⟨h2, h3⟩⟩
theorem orbXs_length {xs : List Int} {z : Nat} (hg : good xs = true) (hz : idB xs z = true) : 1 ≤ (orbXs xs z).length ∧ (orbXs xs z).length ≤ 1024 := by
  obtain ⟨h1, h2, h3, h4⟩ := (rowMov hg).perS hz
  have := (two_pow_le _ (good_length hg).2).2
  unfold orbXs
  rw [orbL_length]
  omega
theorem orbXs_at {xs : List Int} {z : Nat} (hg : good xs = true) (hz : idB xs z = true) (j : Nat) (hj : j < (orbXs xs z).length) : ∃ s : Nat, (orbXs xs z).getD j 0 = (s : Int) ∧ s < 1024 := by
  have := (two_pow_le _ (good_length hg).2).2
  unfold orbXs at hj ⊢
  rw [orbL_length] at hj
  have h1 := (idB_iff.1 ((rowMov hg).it hz j)).1
  exact ⟨_, orbTL_get _ _ hj, by omega⟩
theorem ansOO_length (xs : List Int) (s : Int) : (ansOO xs s).length ≤ 1024 := by
  cases h : okIdeal xs s
  · rw [ansOO_no h]; simp
  · obtain ⟨z, rfl, h1, h2⟩ := okIdeal_idB h
    rw [ansOO_yes h]; exact (orbXs_length h1 h2).2
theorem implOrbitOf_any (v : Value) (xs : List Int) (s : Int) (w : World) (hv : Ints w v xs) (hl : xs.length ≤ 1048576) (wf : (Lit.int .i64 s).wf = true) :
    Calls Tryz.prog 118 #[.agg #[v], .int .i64 s] w fun (r : Ending) w' => ∃ q, r = Ending.returned (.tuple #[q, .bool (okIdeal xs s)]) ∧ OwnI 3 w' w.heap.size q (ansOO xs s) ∧ (ansOO xs s).length ≤ 1048576 ∧ Below w.heap.size w w' := by
  have HV := hid hv
  have HL := hid (Nat.le_trans (ansOO_length xs s) (by omega : 1024 ≤ 1048576))
  clear hv wf
  go_enter Tryz.func118, Tryz.ntmps118
  have HB := hid (below_alloc (Below.refl _ w) (.cells #[v] 28))
  have A0 := hid (At.newAt w v 28 w.heap.size (by simp))
  go_wp2_with fail
  refine (hasIdeal_any _ xs s _ (HV.out.below HB.out) hl).mono ?_
  rintro e w' ⟨rfl, hb⟩
  replace HB := hid (below_to HB.out hb)
  replace A0 := hid (A0.out.below hb)
  clear hb
  cases hq : okIdeal xs s
  · have HO := hid hq
    clear hq
    have ebox0 := A0.out.1
    go_wp2
    go_ret2
    exact ⟨_, ret_vb' HO.out.symm, by rw [ansOO_no HO.out]; exact OwnI.nil _ _ _, HL.out, HB.out⟩
  · have HO := hid hq
    clear hq
    obtain ⟨z, rfl, h1, h2⟩ := okIdeal_idB HO.out
    have HG := hid h1
    have HI := hid h2
    have hz := HB.out.size
    clear h1 h2
    have ebox0 := A0.out.1
    go_wp2_with fail
    clear ebox0
    refine (orbitRow_any _ xs z _ (HV.out.below HB.out) HG.out HI.out).mono ?_
    rintro e w' ⟨q, rfl, ho, hb⟩
    replace HB := hid (below_to HB.out hb)
    replace A0 := hid (A0.out.below hb)
    clear hb
    have ebox0 := A0.out.1
    go_wp2
    go_ret2
    exact ⟨_, ret_vb' HO.out.symm, by rw [ansOO_yes HO.out]; exact ho.mono hz, HL.out, HB.out⟩
def ansSz (xs : List Int) (s : Int) : Int := if okSet xs s then (pc s.toNat : Int) else 0
theorem ansSz_no {xs : List Int} {s : Int} (h : okSet xs s = false) : ansSz xs s = 0 := by simp [ansSz, h]
theorem ansSz_yes {xs : List Int} {z : Nat} (h : okSet xs z = true) : ansSz xs z = (pc z : Int) := by simp [ansSz, h]
theorem implSizeOf_any (v : Value) (xs : List Int) (s : Int) (w : World) (hv : Ints w v xs) (hl : xs.length ≤ 1048576) (wf : (Lit.int .i64 s).wf = true) :
    Calls Tryz.prog 116 #[.agg #[v], .int .i64 s] w fun r w' => r = .returned (.tuple #[.int .i64 (ansSz xs s), .bool (okSet xs s)]) ∧ Below w.heap.size w w' := by
  have HV := hid hv
  clear hv wf
  go_enter Tryz.func116, Tryz.ntmps116
  have HB := hid (below_alloc (Below.refl _ w) (.cells #[v] 28))
  have A0 := hid (At.newAt w v 28 w.heap.size (by simp))
  go_wp2_with fail
  refine (hasSet_any _ xs s _ (HV.out.below HB.out) hl).mono ?_
  rintro e w' ⟨rfl, hb⟩
  replace HB := hid (below_to HB.out hb)
  replace A0 := hid (A0.out.below hb)
  clear hb
  cases hk : okSet xs s
  · have HO := hid hk
    clear hk
    have ebox0 := A0.out.1
    go_wp2
    go_ret2
    exact ⟨ret_ib (ansSz_no HO.out).symm (by rw [HO.out]), HB.out⟩
  · have HO := hid hk
    obtain ⟨h1, h2⟩ := okSet_lt hk
    clear hk
    obtain ⟨z, rfl⟩ := Int.eq_ofNat_of_zero_le h1
    go_wp2_with (go_at_call 175; refine (sizeOf_any z _ (by omega)).mono ?_; rintro e w' ⟨rfl, rfl⟩)
    go_ret2
    exact ⟨ret_ib (ansSz_yes HO.out).symm (by rw [HO.out]), HB.out⟩
end Go.Proofs.YtbmhaamenjhjfaaGreatDoor
namespace Go.Proofs.YtbmhaamenjhjfaaGreatDoor
open Go.RowKit Go.WideShapes Go.ChangeShapes
set_option linter.unusedVariables false
set_option maxHeartbeats 800000 in
theorem obSumF_any (v u : Value) (xs ls : List Int) (w : World) (hv : Ints w v xs) (hg : good xs = true) (hu : Ints w u ls) (hl : ls.length ≤ 1024) (hp : ∀ j, j < ls.length → ∃ s : Nat, ls.getD j 0 = (s : Int) ∧ s < 1024) :
    Calls Tryz.prog 145 #[.agg #[v], u, .bool false] w fun r w' => r = .returned (.int .i64 (sumTo (pc) ls ls.length : Nat)) ∧ Below w.heap.size w w' := by
  have HV := hid hv
  have hl10 := (good_length hg).2
  have HSM := hid (good_small hg)
  have HP := hid hp
  obtain ⟨A, c, rfl, hA⟩ := hu
  have HA := hid hA
  clear hA hp hv hg
  go_enter Tryz.func145, Tryz.ntmps145
  have HB := hid (below_alloc (Below.refl _ w) (.cells #[v] 28))
  have A0 := hid (At.newAt w v 28 w.heap.size (by simp))
  go_wp2
  go_loopw [7, 12] (fun q i wr => ∃ k t : Nat, k ≤ ls.length ∧ i = .int .i64 k ∧ q = .int .i64 t ∧ Hid (sumTo (pc) ls k = t) ∧ t ≤ 10 * k ∧ Below w.heap.size w wr ∧ At wr w.heap.size v) (fun _ i _ => ls.length - (intOf i).toNat)
  case atStart => exact ⟨0, 0, Nat.zero_le _, rfl, rfl, hid rfl, Nat.zero_le _, HB.out, A0.out⟩
  case round =>
    obtain ⟨k, t, hk, rfl, rfl, HT, ht, hb, ha⟩ := hrel
    have HB1 := hid hb
    have HA1 := hid ha
    by_cases hlt : k < ls.length
    · obtain ⟨b, o, rfl, hbl, hc⟩ := HA.out (by intro h; simp [h] at hlt)
      have hcell : wr.cell? ⟨b, o + k, none⟩ = some (.int .i64 (ls.getD k 0)) := (hb.cell (p := ⟨b, o + k, none⟩) hbl).trans (hc k hlt)
      obtain ⟨s, hs, hD⟩ := HP.out k hlt
      have HSt : Hid (sumTo (pc) ls (k + 1) = sumTo (pc) ls k + pc s) := hid (sumTo_succ (g := pc) hs)
      rw [hs] at hcell
      have hg10 : pc s ≤ 10 := pc_le s
      clear hc hs hb ha
      go_wp2_with (go_at_call 86; refine (obSize_any s _ hD).mono ?_; rintro e w2 ⟨rfl, rfl⟩)
      go_roundw
      case rel => exact ⟨k + 1, t + pc s, by omega, by go_num, by go_num, hid (by rw [HSt.out, HT.out]), by omega, HB1.out, HA1.out⟩
      case measure => simp [intOf]; omega
    · obtain rfl : k = ls.length := by omega
      clear hb ha
      go_wp2
      go_ret
      exact ⟨ret_int (by rw [HT.out]), HB1.out⟩
end Go.Proofs.YtbmhaamenjhjfaaGreatDoor
namespace Go.Proofs.YtbmhaamenjhjfaaGreatDoor
open Go.RowKit Go.WideShapes Go.ChangeShapes
set_option linter.unusedVariables false
theorem infoBool : (Tryz.prog.info? 4).map (fun i => (i.zero, i.size, i.bytes)) = some (some (.bool false), 1, 1) := by kernel_rfl
def BVals (l : List Bool) : Array Value := (l.map Value.bool).toArray
theorem BVals_get {l : List Bool} {i : Nat} (h : i < l.length) : (BVals l)[i]? = some (.bool (l.getD i true)) := by
  simp [BVals, h]
theorem BVals_set (l : List Bool) (i : Nat) (y : Bool) : (BVals l).setIfInBounds i (.bool y) = BVals (l.set i y) := by
  unfold BVals
  rw [List.setIfInBounds_toArray, List.map_set]
theorem BVals_made (n : Nat) : madeCells #[.bool false] n = BVals (List.replicate n false) := by
  have := toList_madeCells_one (.bool false) n
  rw [← Array.toList_inj, this]
  simp [BVals]
theorem TurnedIn.set_ {B E : Nat} {a b : World} (h : TurnedIn B E a b) (p : Addr) (hp : B ≤ p.block ∧ p.block < E) (u : Value) : TurnedIn B E a (b.setCell p u) :=
  h.trans (TurnedIn.of_grown (row := some p.block) ⟨rfl, rfl, rfl, by simp [World.setCell], fun k hk hne => Below.heap_setCell b p u k (by rintro rfl; exact hne rfl)⟩ (fun k hk => by simp only [Option.some.injEq] at hk; subst hk; exact hp))
theorem TurnedIn.belowB {B E C : Nat} {a b c : World} (h : TurnedIn B E a b) (hb : Below C b c) (hC : a.heap.size ≤ C) : TurnedIn B E a c :=
  ⟨hb.os.trans h.os, hb.tape.trans h.tape, hb.output.trans h.output, Nat.le_trans h.size hb.size, fun i hi ho => (hb.block i (Nat.lt_of_lt_of_le hi hC)).trans (h.block i hi ho)⟩
end Go.Proofs.YtbmhaamenjhjfaaGreatDoor
namespace Go.Proofs.YtbmhaamenjhjfaaGreatDoor
open Go.RowKit Go.WideShapes Go.ChangeShapes
set_option linter.unusedVariables false
theorem setsL_bound {f : Nat → Bool} {N j : Nat} (hj : j < (setsL f N).length) : ∃ s : Nat, (setsL f N).getD j 0 = (s : Int) ∧ s < N ∧ f s = true := by
  have hj' : j < ((List.range N).filter f).length := by simpa [setsL] using hj
  have hmem2 := List.mem_filter.1 (List.getElem_mem hj')
  exact ⟨((List.range N).filter f)[j], by simp [setsL, List.getD, hj'], List.mem_range.1 hmem2.1, hmem2.2⟩
end Go.Proofs.YtbmhaamenjhjfaaGreatDoor
namespace Go.Proofs.YtbmhaamenjhjfaaGreatDoor
open Go.RowKit Go.WideShapes Go.ChangeShapes
set_option linter.unusedVariables false
theorem tgGcd_any (b a : Nat) (w : World) (ha : a ≤ 1000000000000000) (hb : b ≤ 1000000000000000) :
    Calls Tryz.prog 146 #[.int .i64 a, .int .i64 b] w fun r w' => r = .returned (.int .i64 (Nat.gcd a b : Nat)) ∧ w = w' := by
  induction b using Nat.strongRecOn generalizing a w with
  | _ b ih =>
    by_cases h0 : b = 0
    · subst h0
      have HG : Hid (Nat.gcd a 0 = a) := hid (Nat.gcd_zero_right a)
      clear ih ha hb
      go_enter Tryz.func146, Tryz.ntmps146
      go_wp2
      go_ret
      exact ⟨ret_int (by rw [HG.out]), rfl⟩
    · have HI := hid (ih (a % b) (Nat.mod_lt _ (by omega)) b)
      have HG : Hid (Nat.gcd b (a % b) = Nat.gcd a b) := hid (by rw [Nat.gcd_comm a b, Nat.gcd_rec b a, Nat.gcd_comm])
      have hb0 : ((b : Int) == 0) = false := by rw [beq_eq_false_iff_ne]; omega
      have hbne : ¬ (b : Int) = 0 := by omega
      have hml := Nat.mod_le a b
      have hb1 : (0 : Int) < b := by omega
      have HI2 := hid (HI.out w hb (Nat.le_trans hml ha))
      have hmod := tmod_nat a b
      have hmod2 : ((a : Int) % (b : Int)) = ((a % b : Nat) : Int) := by simp
      obtain ⟨r, hr⟩ : ∃ r, a % b = r := ⟨_, rfl⟩
      rw [hr] at hmod hmod2 HI2 HG
      clear ih ha hb hml HI hr
      go_enter Tryz.func146, Tryz.ntmps146
      go_wp2_with fail
      refine HI2.out.mono ?_
      rintro e w' ⟨rfl, rfl⟩
      go_wp2
      go_ret
      exact ⟨ret_int (by rw [HG.out]), rfl⟩
theorem commonDivisor_any (a b : Nat) (w : World) (ha : a ≤ 1000000000000000) (hb : b ≤ 1000000000000000) :
    Calls Tryz.prog 181 #[.int .i64 a, .int .i64 b] w fun r w' => r = .returned (.int .i64 (Nat.gcd a b : Nat)) ∧ Below w.heap.size w w' := by
  obtain ⟨R, hR⟩ : ∃ R, Nat.gcd a b = R := ⟨_, rfl⟩
  have HR := hid hR
  have HA := hid ha
  have HB0 := hid hb
  rw [hR]
  clear hR ha hb
  go_enter Tryz.func181, Tryz.ntmps181
  go_wp2
  go_loopw [0, 1] (fun p q wr => ∃ m n : Nat, p = .int .i64 m ∧ q = .int .i64 n ∧ Hid (m ≤ 1000000000000000) ∧ Hid (n ≤ 1000000000000000) ∧ Hid (Nat.gcd m n = R) ∧ Below w.heap.size w wr) (fun _ q _ => (intOf q).toNat)
  case atStart => exact ⟨a, b, rfl, rfl, HA, HB0, HR, Below.refl _ _⟩
  case round =>
    obtain ⟨m, n, rfl, rfl, hm, hn, HG, hbl⟩ := hrel
    have HB := hid hbl
    clear hbl
    by_cases h0 : n = 0
    · subst h0
      have HG2 : Hid (m = R) := hid (by rw [← HG.out, Nat.gcd_zero_right])
      go_wp2
      go_ret
      exact ⟨ret_int (by rw [HG2.out]), HB.out⟩
    · have HG2 : Hid (Nat.gcd n (m % n) = R) := hid (by rw [← HG.out, Nat.gcd_comm m n, Nat.gcd_rec n m, Nat.gcd_comm])
      have hb0 : ((n : Int) != 0) = true := by rw [bne_iff_ne]; omega
      have hbne : ¬ (n : Int) = 0 := by omega
      have hml := Nat.mod_lt m (show 0 < n by omega)
      have hmod := tmod_nat m n
      have hmod2 : ((m : Int) % (n : Int)) = ((m % n : Nat) : Int) := by simp
      obtain ⟨r, hr⟩ : ∃ r, m % n = r := ⟨_, rfl⟩
      rw [hr] at hmod hmod2 HG2 hml
      clear hr
      have hb1 : (0 : Int) < n := by omega
      go_wp2_with fail
      go_region
      go_wp2
      go_roundw
      case rel => exact ⟨n, r, rfl, rfl, hn, hid (by have := hn.out; omega), HG2, HB.out.drew⟩
      case measure => simp [intOf]; omega
end Go.Proofs.YtbmhaamenjhjfaaGreatDoor
namespace Go.Proofs.YtbmhaamenjhjfaaGreatDoor
open Go.RowKit Go.WideShapes Go.ChangeShapes
set_option linter.unusedVariables false
theorem ret_iib {a b c d : Int} {x y : Bool} (h : a = c) (k : b = d) (l : x = y) : Ending.returned (.tuple #[.int .i64 a, .int .i64 b, .bool x]) = .returned (.tuple #[.int .i64 c, .int .i64 d, .bool y]) := by rw [h, k, l]
def idsXs (xs : List Int) : List Int := setsL (holdsIdeal xs) (2 ^ xs.length)
theorem idsXs_length {xs : List Int} (hg : good xs = true) : 1 ≤ (idsXs xs).length ∧ (idsXs xs).length ≤ 1024 := by
  have h1 := setsL_length (holdsIdeal xs) (2 ^ xs.length)
  have h2 := (two_pow_le _ (good_length hg).2).2
  refine ⟨?_, by unfold idsXs; omega⟩
  have h0 : holdsIdeal xs 0 = true := by rw [holdsIdeal_row]; intro e he hb; simp at hb
  unfold idsXs setsL
  rw [List.length_map]
  apply List.length_pos_of_mem (a := 0)
  rw [List.mem_filter]
  exact ⟨List.mem_range.2 (Nat.two_pow_pos _), h0⟩
theorem idsXs_at {xs : List Int} (hg : good xs = true) (j : Nat) (hj : j < (idsXs xs).length) : ∃ s : Nat, (idsXs xs).getD j 0 = (s : Int) ∧ s < 1024 := by
  have h2 := (two_pow_le _ (good_length hg).2).2
  have hj' : j < ((List.range (2 ^ xs.length)).filter (holdsIdeal xs)).length := by simpa [idsXs, setsL] using hj
  have hm := List.mem_filter.1 (List.getElem_mem hj')
  refine ⟨((List.range (2 ^ xs.length)).filter (holdsIdeal xs))[j], by simp [idsXs, setsL, List.getD, hj'], ?_⟩
  have := List.mem_range.1 hm.1
  omega
def meanU (xs : List Int) : Nat := sumTo pc (idsXs xs) (idsXs xs).length / Nat.gcd (sumTo pc (idsXs xs) (idsXs xs).length) (idsXs xs).length
def meanD (xs : List Int) : Nat := (idsXs xs).length / Nat.gcd (sumTo pc (idsXs xs) (idsXs xs).length) (idsXs xs).length
def ansMU (xs : List Int) : Int := if good xs then (meanU xs : Nat) else 0
def ansMD (xs : List Int) : Int := if good xs then (meanD xs : Nat) else 0
theorem ansM_no {xs : List Int} (h : good xs = false) : ansMU xs = 0 ∧ ansMD xs = 0 := by simp [ansMU, ansMD, h]
theorem ansM_yes {xs : List Int} (h : good xs = true) : ansMU xs = (meanU xs : Nat) ∧ ansMD xs = (meanD xs : Nat) := by simp [ansMU, ansMD, h]
set_option maxHeartbeats 800000 in
theorem specMeanOfIdeals_any (v : Value) (xs : List Int) (w : World) (hv : Ints w v xs) (hl : xs.length ≤ 1048576) :
    Calls Tryz.prog 92 #[.agg #[v]] w fun r w' => r = .returned (.tuple #[.int .i64 (ansMU xs), .int .i64 (ansMD xs), .bool (good xs)]) ∧ Below w.heap.size w w' := by
  have HV := hid hv
  clear hv
  go_enter Tryz.func92, Tryz.ntmps92
  have HB := hid (below_alloc (Below.refl _ w) (.cells #[v] 28))
  have A0 := hid (At.newAt w v 28 w.heap.size (by simp))
  go_wp2_with fail
  refine (poGood_any _ xs _ (HV.out.below HB.out) hl).mono ?_
  rintro e w' ⟨rfl, hb⟩
  replace HB := hid (below_to HB.out hb)
  replace A0 := hid (A0.out.below hb)
  clear hb
  cases hq : good xs
  · have HO := hid (ansM_no hq)
    have HQ := hid hq
    clear hq
    have ebox0 := A0.out.1
    go_wp2
    go_ret3
    exact ⟨ret_iib HO.out.1.symm HO.out.2.symm HQ.out.symm, HB.out⟩
  · have HG := hid hq
    have HY := hid (ansM_yes hq)
    have HLn := hid (idsXs_length hq)
    have HAt := hid (idsXs_at hq)
    clear hq
    have ebox0 := A0.out.1
    go_wp2_with fail
    clear ebox0
    refine (poIdeals_any _ xs _ (HV.out.below HB.out) HG.out).mono ?_
    rintro e w' ⟨q, rfl, ho, hb⟩
    replace HB := hid (below_to HB.out hb)
    replace A0 := hid (A0.out.below hb)
    clear hb
    have HO1 : Hid (Ints w' q (idsXs xs)) := hid ho.ints
    clear ho
    have HY2 := hid (show ansMU xs = ((sumTo pc (idsXs xs) (idsXs xs).length / Nat.gcd (sumTo pc (idsXs xs) (idsXs xs).length) (idsXs xs).length : Nat) : Int) ∧ ansMD xs = (((idsXs xs).length / Nat.gcd (sumTo pc (idsXs xs) (idsXs xs).length) (idsXs xs).length : Nat) : Int) from HY.out)
    have h10 := sumTo_le pc_le (idsXs xs) (idsXs xs).length
    have hl1 := HLn.out
    have ebox0 := A0.out.1
    go_wp2_with fail
    clear ebox0
    refine (obSumF_any _ q xs (idsXs xs) _ (HV.out.below HB.out) HG.out HO1.out HLn.out.2 HAt.out).mono ?_
    rintro e w' ⟨rfl, hb⟩
    replace HB := hid (below_to HB.out hb)
    replace A0 := hid (A0.out.below hb)
    replace HO1 := hid (HO1.out.below hb)
    clear hb
    obtain ⟨A, c, hsh, -⟩ := HO1.out
    obtain ⟨S, hS⟩ : ∃ S, sumTo pc (idsXs xs) (idsXs xs).length = S := ⟨_, rfl⟩
    rw [hS] at HY2 h10 ⊢
    obtain ⟨L, hL⟩ : ∃ L, (idsXs xs).length = L := ⟨_, rfl⟩
    rw [hL] at HY2 hsh hl1 h10
    subst hsh
    have hg0 : 0 < Nat.gcd S L := Nat.gcd_pos_of_pos_right _ (by omega)
    have HGc := hid (fun W => tgGcd_any L S W (by omega) (by omega))
    obtain ⟨G, hG⟩ : ∃ G, Nat.gcd S L = G := ⟨_, rfl⟩
    rw [hG] at HY2 hg0 HGc
    clear hG hS hL
    go_wp2_with (go_at_call 146; refine (HGc.out _).mono ?_; rintro e w' ⟨rfl, rfl⟩)
    have hd1 := tdiv_nat S G
    have hd2 := tdiv_nat L G
    have hd3 : ((S : Int) / (G : Int)) = ((S / G : Nat) : Int) := by simp
    have hd4 : ((L : Int) / (G : Int)) = ((L / G : Nat) : Int) := by simp
    have hz1 : ¬ (G : Int) = 0 := by omega
    have hz2 : ((G : Int) == 0) = false := by rw [beq_eq_false_iff_ne]; omega
    have hz3 : (0 : Int) < G := by omega
    have hle1 := Nat.div_le_self S G
    have hle2 := Nat.div_le_self L G
    obtain ⟨p1, hp1⟩ : ∃ p, S / G = p := ⟨_, rfl⟩
    obtain ⟨p2, hp2⟩ : ∃ p, L / G = p := ⟨_, rfl⟩
    rw [hp1] at HY2 hd1 hd3 hle1
    rw [hp2] at HY2 hd2 hd4 hle2
    clear hp1 hp2
    go_region
    all_goals go_wp2
    all_goals go_ret3
    all_goals exact ⟨ret_iib HY2.out.1.symm HY2.out.2.symm HG.out.symm, HB.out.drew⟩
set_option maxHeartbeats 800000 in
theorem implMeanOfIdeals_any (v : Value) (xs : List Int) (w : World) (hv : Ints w v xs) (hl : xs.length ≤ 1048576) :
    Calls Tryz.prog 123 #[.agg #[v]] w fun r w' => r = .returned (.tuple #[.int .i64 (ansMU xs), .int .i64 (ansMD xs), .bool (good xs)]) ∧ Below w.heap.size w w' := by
  have HV := hid hv
  clear hv
  go_enter Tryz.func123, Tryz.ntmps123
  have HB := hid (below_alloc (Below.refl _ w) (.cells #[v] 28))
  have A0 := hid (At.newAt w v 28 w.heap.size (by simp))
  go_wp2_with fail
  refine (implIdealsOf_any _ xs _ (HV.out.below HB.out) hl).mono ?_
  rintro e w' ⟨q, rfl, ho, hlen, hb⟩
  replace HB := hid (below_to HB.out hb)
  replace A0 := hid (A0.out.below hb)
  clear hb
  have HO0 := hid ho.ints
  clear ho hlen
  cases hq : good xs
  · have HO := hid (ansM_no hq)
    have HQ := hid hq
    clear hq
    have ebox0 := A0.out.1
    go_wp2
    go_ret3
    exact ⟨ret_iib HO.out.1.symm HO.out.2.symm HQ.out.symm, HB.out⟩
  · have HG := hid hq
    have HY := hid (ansM_yes hq)
    have HLn := hid (idsXs_length hq)
    have HAt := hid (idsXs_at hq)
    have HO1 : Hid (Ints w' q (idsXs xs)) := hid (by have := HO0.out; rw [idealsL_yes hq] at this; exact this)
    clear hq HO0
    have HY2 := hid (show ansMU xs = ((sumTo pc (idsXs xs) (idsXs xs).length / Nat.gcd (sumTo pc (idsXs xs) (idsXs xs).length) (idsXs xs).length : Nat) : Int) ∧ ansMD xs = (((idsXs xs).length / Nat.gcd (sumTo pc (idsXs xs) (idsXs xs).length) (idsXs xs).length : Nat) : Int) from HY.out)
    have h10 := sumTo_le pc_le (idsXs xs) (idsXs xs).length
    have hl1 := HLn.out
    have ebox0 := A0.out.1
    go_wp2_with fail
    clear ebox0
    refine (sumOverSize_any q (idsXs xs) pc (· < 1024) _ HO1.out HLn.out.2 HAt.out pc_le (fun s W hD hb => (sizeOf_any s W hD).mono fun _ _ ⟨h1, h2⟩ => ⟨h1, h2 ▸ Below.refl _ _⟩)).mono ?_
    rintro e w' ⟨rfl, hb⟩
    replace HB := hid (below_to HB.out hb)
    replace A0 := hid (A0.out.below hb)
    replace HO1 := hid (HO1.out.below hb)
    clear hb
    obtain ⟨A, c, hsh, -⟩ := HO1.out
    obtain ⟨S, hS⟩ : ∃ S, sumTo pc (idsXs xs) (idsXs xs).length = S := ⟨_, rfl⟩
    rw [hS] at HY2 h10 ⊢
    obtain ⟨L, hL⟩ : ∃ L, (idsXs xs).length = L := ⟨_, rfl⟩
    rw [hL] at HY2 hsh hl1 h10
    subst hsh
    have hg0 : 0 < Nat.gcd S L := Nat.gcd_pos_of_pos_right _ (by omega)
    have HGc := hid (fun W => commonDivisor_any S L W (by omega) (by omega))
    obtain ⟨G, hG⟩ : ∃ G, Nat.gcd S L = G := ⟨_, rfl⟩
    rw [hG] at HY2 hg0 HGc
    clear hG hS hL
    go_wp2_with fail
    refine (HGc.out _).mono ?_
    rintro e w' ⟨rfl, hb⟩
    replace HB := hid (below_to HB.out hb)
    clear hb
    have hd1 := tdiv_nat S G
    have hd2 := tdiv_nat L G
    have hd3 : ((S : Int) / (G : Int)) = ((S / G : Nat) : Int) := by simp
    have hd4 : ((L : Int) / (G : Int)) = ((L / G : Nat) : Int) := by simp
    have hz1 : ¬ (G : Int) = 0 := by omega
    have hz2 : ((G : Int) == 0) = false := by rw [beq_eq_false_iff_ne]; omega
    have hz3 : (0 : Int) < G := by omega
    have hle1 := Nat.div_le_self S G
    have hle2 := Nat.div_le_self L G
    obtain ⟨p1, hp1⟩ : ∃ p, S / G = p := ⟨_, rfl⟩
    obtain ⟨p2, hp2⟩ : ∃ p, L / G = p := ⟨_, rfl⟩
    rw [hp1] at HY2 hd1 hd3 hle1
    rw [hp2] at HY2 hd2 hd4 hle2
    clear hp1 hp2
    go_wp2_with fail
    go_region
    all_goals go_wp2
    all_goals go_ret3
    all_goals exact ⟨ret_iib HY2.out.1.symm HY2.out.2.symm HG.out.symm, HB.out.drew⟩
end Go.Proofs.YtbmhaamenjhjfaaGreatDoor
