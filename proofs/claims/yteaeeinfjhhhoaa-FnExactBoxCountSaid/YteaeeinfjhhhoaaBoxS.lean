/- BoxCount of the model. -/
import Derived.Test.YteaeeinfjhhhoaaBox
namespace Go.Proofs.Yteaeeinfjhhhoaa
open Go.RowKit Go.WideShapes Go.ChangeShapes
set_option linter.unusedVariables false

structure Frac (y m e num den : Nat) : Prop where
  eq : num * dnN y e = upN y m e * den
  pos : 1 ≤ den
  up : num ≤ upN y m e
  dn : den ≤ dnN y e
theorem Frac.zero (y m : Nat) : Frac y m 0 1 1 := ⟨rfl, Nat.le_refl _, Nat.le_refl _, Nat.le_refl _⟩
theorem Frac.step {y m e num den g : Nat} (hy : 1 ≤ y) (h : Frac y m e num den) (hg : g = Nat.gcd (num * (lvN y e + m)) (den * lvN y e)) :
    Frac y m (e + 1) (num * (lvN y e + m) / g) (den * lvN y e / g) ∧ 1 ≤ g := by
  obtain ⟨h1, h2, h3, h4, h5⟩ := frac_step (p := lvN y e + m) (q := lvN y e) h.eq hg h.pos (lvN_le y e hy).1 h.up h.dn
  exact ⟨⟨h1, h2, h3, h4⟩, h5⟩
theorem Frac.bounds {y m e num den : Nat} (hy : 1 ≤ y) (hm : m ≤ 12) (he : e < 10) (h : Frac y m e num den) : num * (lvN y e + m) ≤ 26559922791424 ∧ den * lvN y e ≤ 26559922791424 := by
  constructor
  · exact Nat.le_trans (Nat.mul_le_mul_right _ h.up) (Nat.le_trans (up_le (e := e + 1) hy hm (by omega)) (pow22 (by omega)))
  · exact Nat.le_trans (Nat.mul_le_mul_right _ h.dn) (Nat.le_trans (dn_le (e := e + 1) hy (by omega)) (pow22 (by omega)))
theorem Frac.small {y m e num den : Nat} (hy : 1 ≤ y) (hm : m ≤ 12) (he : e ≤ 10) (h : Frac y m e num den) : num ≤ 26559922791424 ∧ den ≤ 26559922791424 :=
  ⟨Nat.le_trans h.up (Nat.le_trans (up_le hy hm he) (pow22 he)), Nat.le_trans h.dn (Nat.le_trans (dn_le hy he) (pow22 he))⟩
set_option maxRecDepth 100000 in
set_option maxHeartbeats 3200000 in
theorem specBoxCount_any (a b m : Int) (w : World) (wa : (Lit.int .i64 a).wf = true) (wb : (Lit.int .i64 b).wf = true) (wm : (Lit.int .i64 m).wf = true) :
    Calls Try.prog 28 #[.int .i64 a, .int .i64 b, .int .i64 m] w fun (r : Ending) w' => r = Ending.returned (.tuple #[.int .i64 (boxT a b m), .bool (boxB a b m)]) ∧ Below w.heap.size w w' := by
  have HSd := hid (laBox_any a b m w)
  clear wa wb wm
  cases hs : boxB a b m
  · have HN := hid (boxT_no hs)
    rw [hs] at HSd
    clear hs
    go_enter Try.func28, Try.ntmps28
    go_wp2_with (go_at_call 45; refine HSd.out.mono ?_; rintro e w' ⟨rfl, rfl⟩)
    go_ret2
    exact ⟨ret_ibC HN.out.symm rfl, Below.refl _ _⟩
  · obtain ⟨hsd, hbd⟩ := boxB_all hs
    obtain ⟨x, y, rfl, rfl, h1, h2, h3, h4, h5⟩ := sides_nat hsd
    obtain ⟨m0, m1⟩ := bdB_all hbd
    obtain ⟨M, rfl⟩ := Int.eq_ofNat_of_zero_le m0
    have HAns := hid (boxT_yes hs)
    rw [hs] at HSd
    have hM : M ≤ 12 := by omega
    have HRc := hid (fun r c (hr : r < x) (hc : c < y) => (show y * r + c < x * y by
      have h1 := Nat.mul_le_mul_right y (show r + 1 ≤ x by omega)
      rw [Nat.add_mul, Nat.one_mul] at h1
      have h2 := Nat.mul_comm y r
      omega))
    have HEnd : Hid (∀ r, y * r + y = y * (r + 1)) := hid fun r => by rw [Nat.mul_add, Nat.mul_one]
    have HXY : Hid (y * x = x * y) := hid (Nat.mul_comm _ _)
    have HLv := hid (fun r c (hc : c < y) => lvN_at (y := y) (r := r) hc)
    obtain ⟨n, hn⟩ : ∃ n, x * y = n := ⟨_, rfl⟩
    rw [hn] at HAns h5 HXY HRc
    clear hs hn hsd hbd m0 m1
    go_enter Try.func28, Try.ntmps28
    go_wp2_with fail
    refine HSd.out.mono ?_
    rintro e w' ⟨rfl, rfl⟩
    go_wp2
    go_loopw [8, 9, 10] (fun p q i wr => ∃ r num den : Nat, r ≤ x ∧ p = .int .i64 (num : Int) ∧ q = .int .i64 (den : Int) ∧ i = .int .i64 ((r : Int) + 1) ∧ Hid (Frac y M (y * r) num den) ∧ Below w.heap.size w wr) (fun _ _ i _ => x + 1 - (intOf i).toNat)
    case atStart => exact ⟨0, 1, 1, Nat.zero_le _, rfl, rfl, rfl, hid (by rw [Nat.mul_zero]; exact Frac.zero _ _), Below.refl _ _⟩
    case round =>
      obtain ⟨r, num, den, hr, rfl, rfl, rfl, HF, hb⟩ := hrel
      have HB := hid hb
      clear hb
      by_cases hrl : r < x
      · have hri : (r : Int) + 1 ≤ (x : Int) := by omega
        obtain ⟨W1, rfl⟩ : ∃ x, x = wr := ⟨wr, rfl⟩
        go_wp2
        clear hri
        go_loopw [8, 9, 11] (fun p q i wr => ∃ c num den : Nat, c ≤ y ∧ p = .int .i64 (num : Int) ∧ q = .int .i64 (den : Int) ∧ i = .int .i64 ((c : Int) + 1) ∧ Hid (Frac y M (y * r + c) num den) ∧ Below w.heap.size w wr) (fun _ _ i _ => y + 1 - (intOf i).toNat)
        case atStart => exact ⟨0, num, den, Nat.zero_le _, rfl, rfl, rfl, HF, HB.out⟩
        case round =>
          obtain ⟨c, num1, den1, hc, rfl, rfl, rfl, HF1, hb⟩ := hrel
          have HB1 := hid hb
          clear hb
          by_cases hcl : c < y
          · have hci : (c : Int) + 1 ≤ (y : Int) := by omega
            have hen := HRc.out r c hrl hcl
            have hlv := HLv.out r c hcl
            obtain ⟨e, he⟩ : ∃ e, y * r + c = e := ⟨_, rfl⟩
            have HE := hid he
            rw [he] at HF1 hen hlv
            have hbd := HF1.out.bounds h3 hM (by omega)
            have HSt := hid (fun g hg => HF1.out.step (g := g) h3 hg)
            obtain ⟨p, hp⟩ : ∃ p, lvN y e = p := ⟨_, rfl⟩
            rw [hp] at hbd HSt hlv
            obtain ⟨s, hs⟩ : ∃ s, num1 * (p + M) = s := ⟨_, rfl⟩
            obtain ⟨t, ht⟩ : ∃ t, den1 * p = t := ⟨_, rfl⟩
            rw [hs, ht] at hbd HSt
            obtain ⟨g, hg⟩ : ∃ g, Nat.gcd s t = g := ⟨_, rfl⟩
            have HSt2 := hid (HSt.out g hg.symm)
            have hg1 : 1 ≤ g := HSt2.out.2
            have ep : (r : Int) + 1 + ((c : Int) + 1) + (M : Int) - 1 = ((p + M : Nat) : Int) := by omega
            have eq : (r : Int) + 1 + ((c : Int) + 1) - 1 = (p : Int) := by omega
            have ems : (num1 : Int) * ((p + M : Nat) : Int) = (s : Int) := by rw [← Int.natCast_mul, hs]
            have emt : (den1 : Int) * (p : Int) = (t : Int) := by rw [← Int.natCast_mul, ht]
            obtain ⟨pm, hpm⟩ : ∃ pm, p + M = pm := ⟨_, rfl⟩
            rw [hpm] at ep ems
            have HGc := hid (fun W => liGcd_any s t W (by omega) (by omega))
            rw [hg] at HGc
            have hds := tdiv_natC s g
            have hdt := tdiv_natC t g
            have HSm := hid (HSt2.out.1.small h3 hM (by omega))
            obtain ⟨s1, hs1⟩ : ∃ s1, s / g = s1 := ⟨_, rfl⟩
            obtain ⟨t1, ht1⟩ : ∃ t1, t / g = t1 := ⟨_, rfl⟩
            rw [hs1] at hds HSt2 HSm
            rw [ht1] at hdt HSt2 HSm
            have hsm := HSm.out
            have hg0 : ((g : Int) == 0) = false := by rw [beq_eq_false_iff_ne]; omega
            have hg01 : ¬ (g : Int) = 0 := by omega
            have hgp : (0 : Int) < g := by omega
            have hws : IntKind.i64.wrap (s1 : Int) = (s1 : Int) := IntWalk.i64_in _ (by omega)
            have hwt : IntKind.i64.wrap (t1 : Int) = (t1 : Int) := IntWalk.i64_in _ (by omega)
            have hpi : IntKind.i64.wrap ((r : Int) + 1 + ((c : Int) + 1)) = (r : Int) + 1 + ((c : Int) + 1) := IntWalk.i64_in _ (by omega)
            clear he hp hs ht hg hpm hs1 ht1 hlv HSt
            go_wp2_with fail
            refine (HGc.out _).mono ?_
            rintro e' w2 ⟨rfl, hb2⟩
            have HB2 := hid (below_to HB1.out hb2)
            clear hb2
            go_wp2
            go_roundw
            case rel => exact ⟨c + 1, s1, t1, by omega, rfl, rfl, by go_num, hid (by have h := HSt2.out.1; rw [← HE.out] at h; exact h), HB2.out⟩
            case measure => simp [intOf]; omega
          · have Hc := hid (show c = y by omega)
            have hci : ¬ (c : Int) + 1 ≤ (y : Int) := by omega
            clear hcl
            go_wp2
            go_roundw
            case rel => exact ⟨r + 1, num1, den1, by omega, rfl, rfl, by go_num, hid (by have h := HF1.out; rw [Hc.out, HEnd.out] at h; exact h), HB1.out⟩
            case measure => simp [intOf]; omega
      · have Hr := hid (show r = x by omega)
        have hri : ¬ (r : Int) + 1 ≤ (x : Int) := by omega
        have HF2 : Hid (Frac y M n num den) := hid (by have h := HF.out; rw [Hr.out, HXY.out] at h; exact h)
        have hd1 := HF2.out.pos
        have hd0 : ((den : Int) == 0) = false := by rw [beq_eq_false_iff_ne]; omega
        have hd01 : ¬ (den : Int) = 0 := by omega
        have hdp : (0 : Int) < den := by omega
        have hdd := tdiv_natC num den
        have HEq := hid (frac_end HF2.out.eq hd1 (dn_pos h3 n))
        have hsm := HF2.out.small h3 hM h5
        have hq := Nat.div_le_self num den
        obtain ⟨z, hz⟩ : ∃ z, num / den = z := ⟨_, rfl⟩
        rw [hz] at hdd hq HEq
        have hwz : IntKind.i64.wrap (z : Int) = (z : Int) := IntWalk.i64_in _ (by omega)
        clear hrl hz hq
        go_wp2
        go_ret2
        exact ⟨ret_ibC (by rw [HAns.out, ← HEq.out]) rfl, HB.out⟩
end Go.Proofs.Yteaeeinfjhhhoaa
