/- LabelsBySum of the model. -/
import Derived.Test.YtnlehkjfidpdlabLwS
import Derived.Test.YtnlehkjfidpdlabLbN
import Derived.Test.YtnlehkjfidpdlabHeights
namespace Go.Proofs.Ytnlehkjfidpdlab
open Go.RowKit Go.WideShapes Go.ChangeShapes
set_option linter.unusedVariables false

theorem ret_vbS {u : Value} {a b : Bool} (h : a = b) : Ending.returned (.tuple #[u, .bool a]) = .returned (.tuple #[u, .bool b]) := by rw [h]
theorem takeSum_succ {f : List Int} {k : Nat} (h : k < f.length) : (f.take (k + 1)).sum = (f.take k).sum + f.getD k 0 := by
  rw [List.take_add_one, List.sum_append]
  simp [List.getD, h]
theorem takeSum_rng {f : List Int} {m : Nat} (hr : ∀ j, j < f.length → 0 ≤ f.getD j 0 ∧ f.getD j 0 ≤ m) (k : Nat) (hk : k ≤ f.length) : 0 ≤ (f.take k).sum ∧ (f.take k).sum ≤ (m * k : Nat) := by
  induction k with
  | zero => simp
  | succ k ih =>
    rw [takeSum_succ (by omega)]
    have h1 := ih (by omega)
    have h2 := hr k (by omega)
    rw [Nat.mul_succ]
    omega
/-- for each number, how many lists have it as their sum -/
def histL (A : List (List Int)) (z : Nat) : List Int := mkL z fun v => A.countP fun f => decide (f.sum = (v : Int))
theorem histL_length (A : List (List Int)) (z : Nat) : (histL A z).length = z := mkL_length _ _
theorem histL_nil (z : Nat) : histL [] z = List.replicate z 0 := by unfold histL; exact mkL_zero z
theorem histL_getD {A : List (List Int)} {z v : Nat} (h : v < z) : (histL A z).getD v 0 = ((A.countP fun f => decide (f.sum = (v : Int)) : Nat) : Int) := mkL_getD h
theorem histL_perm {A B : List (List Int)} (h : A.Perm B) (z : Nat) : histL A z = histL B z := mkL_congr fun v hv => h.countP_eq _
theorem histL_succ {A : List (List Int)} {z k s : Nat} (hk : k < A.length) (hs : (A.getD k []).sum = (s : Int)) (hz : s < z) :
    histL (A.take (k + 1)) z = (histL (A.take k) z).set s (((A.take k).countP (fun f => decide (f.sum = (s : Int))) + 1 : Nat) : Int) := by
  unfold histL
  refine mkL_upd _ hz fun v hv => ?_
  have e : A.take (k + 1) = A.take k ++ [A.getD k []] := by
    rw [List.take_add_one]; congr 1; simp [List.getD, hk]
  rw [e, List.countP_append, List.countP_singleton, hs]
  by_cases q : v = s
  · subst q; rw [if_pos rfl, if_pos (by simp)]
  · rw [if_neg q, if_neg (by simp; omega)]; rfl
def okLS (xs : List Int) (m : Int) : Bool := okBd xs m && decide ((allF xs m.toNat).length ≤ 100000)
def ansLS (xs : List Int) (m : Int) : List Int := if okLS xs m then histL (allF xs m.toNat) (m.toNat * xs.length + 1) else []
theorem okLS_no {xs : List Int} {m : Int} (h : okBd xs m = false) : okLS xs m = false := by simp [okLS, h]
theorem okLS_yes {xs : List Int} {m : Nat} (h : okBd xs m = true) : okLS xs m = decide ((allF xs m).length ≤ 100000) := by simp [okLS, h]
theorem ansLS_no {xs : List Int} {m : Int} (h : okLS xs m = false) : ansLS xs m = [] := by simp [ansLS, h]
theorem ansLS_yes {xs : List Int} {m : Nat} (h : okLS xs m = true) : ansLS xs m = histL (allF xs m) (m * xs.length + 1) := by
  unfold ansLS; rw [if_pos h, Int.toNat_natCast]
theorem ansLS_length (xs : List Int) (m : Int) : (ansLS xs m).length ≤ 1048576 := by
  cases h : okLS xs m
  · rw [ansLS_no h]; simp
  · simp only [okLS, Bool.and_eq_true] at h
    obtain ⟨h1, h2, h3⟩ := okBd_all h.1
    obtain ⟨M, rfl⟩ := Int.eq_ofNat_of_zero_le h2
    rw [ansLS_yes (by simp only [okLS, Bool.and_eq_true]; exact h), histL_length]
    have h10 := (good_length h1).2
    have : M * xs.length ≤ 12 * 10 := Nat.mul_le_mul (by omega) h10
    omega
theorem laSum_any (u : Value) (f : List Int) (w : World) (hu : Ints w u f) (hl : f.length ≤ 10) (hr : ∀ j, j < f.length → 0 ≤ f.getD j 0 ∧ f.getD j 0 ≤ (12 : Nat)) :
    Calls Try.prog 47 #[u] w fun r w' => r = .returned (.int .i64 f.sum) ∧ w = w' := by
  have HR := hid hr
  obtain ⟨A, c, rfl, hA⟩ := hu
  have HA := hid hA
  clear hA hr
  go_enter Try.func47, Try.ntmps47
  go_wp2
  go_loop [3, 8] (fun q i => ∃ k : Nat, k ≤ f.length ∧ i = .int .i64 k ∧ q = .int .i64 (f.take k).sum) (fun _ i => f.length - (intOf i).toNat)
  case atStart => exact ⟨0, Nat.zero_le _, rfl, by simp⟩
  case round =>
    obtain ⟨k, hk, rfl, rfl⟩ := hrel
    by_cases hlt : k < f.length
    · obtain ⟨b, o, rfl, hbl, hc⟩ := HA.out (by intro h; simp [h] at hlt)
      have hcell := hc k hlt
      obtain ⟨x, hx⟩ : ∃ x, f.getD k 0 = x := ⟨_, rfl⟩
      have h1 := HR.out k hlt
      have h2 := takeSum_rng HR.out k hk
      have h3 : 12 * k ≤ 12 * 10 := Nat.mul_le_mul (Nat.le_refl _) (by omega)
      have HS := hid (takeSum_succ hlt)
      obtain ⟨s, hs⟩ : ∃ s, (f.take k).sum = s := ⟨_, rfl⟩
      rw [hx] at hcell h1 HS
      rw [hs] at h2 HS ⊢
      have hw : IntKind.i64.wrap (s + x) = s + x := IntWalk.i64_in _ (by omega)
      clear hc hx hs
      go_wp2
      clear hw
      go_round
      case rel => exact ⟨k + 1, by omega, by go_num, by rw [HS.out]⟩
      case measure => simp [intOf]; omega
    · have HS : Hid ((f.take k).sum = f.sum) := hid (by rw [List.take_of_length_le (by omega)])
      go_wp2
      go_ret
      refine ⟨?_, rfl⟩
      show Ending.returned (Value.int .i64 (f.take k).sum) = _
      rw [HS.out]
theorem turned_setS {B E : Nat} {a b : World} (h : TurnedIn B E a b) (p : Addr) (hp : B ≤ p.block ∧ p.block < E) (u : Value) : TurnedIn B E a (b.setCell p u) :=
  h.trans (TurnedIn.of_grown (row := some p.block) ⟨rfl, rfl, rfl, by simp [World.setCell], fun k hk hne => Below.heap_setCell b p u k (by rintro rfl; exact hne rfl)⟩ (fun k hk => by simp only [Option.some.injEq] at hk; subst hk; exact hp))
set_option maxHeartbeats 800000 in
theorem specLabelsBySum_any (v : Value) (xs : List Int) (m : Int) (w : World) (hv : Ints w v xs) (hl : xs.length ≤ 1048576) (wf : (Lit.int .i64 m).wf = true) :
    Calls Try.prog 20 #[.agg #[v], .int .i64 m] w fun (e : Ending) w' => ∃ q, e = Ending.returned (.tuple #[q, .bool (okLS xs m)]) ∧ OwnI 3 w' w.heap.size q (ansLS xs m) ∧ (ansLS xs m).length ≤ 1048576 ∧ Below w.heap.size w w' := by
  have HV := hid hv
  have HL := hid (ansLS_length xs m)
  obtain ⟨B, c, rfl, -⟩ := hv
  clear wf
  cases hg : good xs
  · have HG := hid hg
    have HO := hid (okLS_no (okBd_no1 (m := m) hg))
    have HN := hid (ansLS_no HO.out)
    clear hg
    obtain ⟨V, hV⟩ : ∃ V, Value.slice B xs.length c = V := ⟨_, rfl⟩
    rw [hV] at HV ⊢
    clear hV
    go_enter Try.func20, Try.ntmps20
    have HB := hid (below_alloc (Below.refl _ w) (.cells #[V] 35))
    have A0 := hid (At.newAt w V 35 w.heap.size (by simp))
    go_wp2_with fail
    refine (poGood_any _ xs _ (HV.out.below HB.out) hl).mono ?_
    rw [HG.out]
    rintro e w' ⟨rfl, hb⟩
    replace HB := hid (below_to HB.out hb)
    replace A0 := hid (A0.out.below hb)
    clear hb
    have ebox0 := A0.out.1
    go_wp2
    go_ret2
    exact ⟨_, ret_vbS HO.out.symm, by rw [HN.out]; exact OwnI.nil _ _ _, HL.out, HB.out⟩
  cases hb : bdB m
  · have HG := hid hg
    have HD := hid hb
    have HO := hid (okLS_no (okBd_no2 (xs := xs) hb))
    have HN := hid (ansLS_no HO.out)
    clear hg hb
    obtain ⟨V, hV⟩ : ∃ V, Value.slice B xs.length c = V := ⟨_, rfl⟩
    rw [hV] at HV ⊢
    clear hV
    go_enter Try.func20, Try.ntmps20
    have HB := hid (below_alloc (Below.refl _ w) (.cells #[V] 35))
    have A0 := hid (At.newAt w V 35 w.heap.size (by simp))
    go_wp2_with fail
    refine (poGood_any _ xs _ (HV.out.below HB.out) hl).mono ?_
    rw [HG.out]
    rintro e w' ⟨rfl, hb⟩
    replace HB := hid (below_to HB.out hb)
    replace A0 := hid (A0.out.below hb)
    clear hb
    go_wp2_with (go_at_call 44; refine (laBound_any m _).mono ?_; rw [HD.out]; rintro e w' ⟨rfl, rfl⟩)
    go_ret2
    exact ⟨_, ret_vbS HO.out.symm, by rw [HN.out]; exact OwnI.nil _ _ _, HL.out, HB.out⟩
  obtain ⟨h1, h2⟩ := bdB_all hb
  obtain ⟨M, rfl⟩ := Int.eq_ofNat_of_zero_le h1
  have HG := hid hg
  have HD := hid hb
  have HO := hid (okLS_yes (okBd_yes hg hb))
  have hx10 := (good_length hg).2
  have HCh := hid (fun W hW => laChains_any (.slice B xs.length c) xs (M + 1) false W hW hg (by omega))
  have HCn := hid (all_count hg M)
  have HAll := hid (fun W hW => laAll_any xs.length (.slice B xs.length c) (.slice none 0 0) xs [] M 100000 W hW ⟨none, 0, rfl, fun h => absurd rfl h⟩ hg (by simp) (fun j hj => by simp at hj) (by omega) (by omega) (by omega))
  have HRow := hid (fun i hi => allF_row (xs := xs) (m := M) (i := i) hi)
  have HNo := hid (fun h => ansLS_no (xs := xs) (m := M) h)
  have HYe := hid (fun h => ansLS_yes (xs := xs) (m := M) h)
  have HAe : Hid (lbF xs M xs.length [] = allF xs M) := hid rfl
  rw [HAe.out] at HAll
  obtain ⟨n, hn⟩ : ∃ n, xs.length = n := ⟨_, rfl⟩
  rw [hn] at HV HRow HYe hx10 HAll hl ⊢
  rw [show (2 ^ xs.length - 1) = 2 ^ n - 1 by rw [hn]] at HCn HCh
  rw [hn] at HCh
  have HPg := hid (fun W hW => poGood_any (.slice B n c) xs W hW (by rw [hn]; exact hl))
  obtain ⟨S, hS⟩ : ∃ S, M + 1 = S := ⟨_, rfl⟩
  have hMS : (M : Int) + 1 = (S : Int) := by omega
  have hSw : IntKind.i64.wrap (S : Int) = (S : Int) := IntWalk.i64_in _ (by omega)
  rw [hS] at HCh HCn
  rw [← HCn.out] at HCh
  obtain ⟨A, hA⟩ : ∃ A, allF xs M = A := ⟨_, rfl⟩
  rw [hA] at HCh HO HAll HRow HYe
  obtain ⟨N, hN⟩ : ∃ N, A.length = N := ⟨_, rfl⟩
  have HNe := hid hN
  rw [hN] at HCh HO HRow
  clear hg hb h1 hS hN hA hn
  by_cases hmany : N ≤ 100000
  · have HOt : Hid (okLS xs M = true) := hid (by rw [HO.out]; exact decide_eq_true hmany)
    have HAn := hid (HYe.out HOt.out)
    have hgt : ¬ (N : Int) > 100000 := by omega
    have HTk : Hid (A.take 100000 = A) := hid (List.take_of_length_le (by rw [HNe.out]; exact hmany))
    rw [HTk.out] at HAll
    have hmn : M * n ≤ 12 * 10 := Nat.mul_le_mul (by omega) hx10
    obtain ⟨z, hz⟩ : ∃ z, M * n = z := ⟨_, rfl⟩
    have HZ := hid hz
    rw [hz] at hmn HAn
    have hmw : IntKind.i64.wrap ((M : Int) * (n : Int)) = (z : Int) := by
      rw [show (M : Int) * (n : Int) = (z : Int) from by rw [← hz]; push_cast; rfl]
      exact IntWalk.i64_in _ (by omega)
    have hzw : IntKind.i64.wrap ((z : Int) + 1) = (z : Int) + 1 := IntWalk.i64_in _ (by omega)
    have hmk := run_make_row' (P := Try.prog) 25 3 (.int .i64 0) 8 Try.underlying25 Try.info3 rfl .i64 .i64 (z + 1) (by omega) (by omega)
    rw [show ((z + 1 : Nat) : Int) = (z : Int) + 1 by omega] at hmk
    have Hmw := hid hmw
    have Hzw := hid hzw
    have Hmk := hid hmk
    clear hz hmw hzw hmk
    go_enter Try.func20, Try.ntmps20
    have HB := hid (below_alloc (Below.refl _ w) (.cells #[(.slice B n c)] 35))
    have A0 := hid (At.newAt w (.slice B n c) 35 w.heap.size (by simp))
    have ebox0 := A0.out.1
    go_wp2_with (first | (go_at_call 43; refine (HPg.out _ (HV.out.below HB.out)).mono ?_; rw [HG.out]; rintro e w1 ⟨rfl, hb1⟩; have HB1 := hid (below_to HB.out hb1); have A1 := hid (A0.out.below hb1); have ebox1 := A1.out.1; clear hb1 ebox0) | (go_at_call 44; refine (laBound_any _ _).mono ?_; rw [HD.out]; rintro e w' ⟨rfl, rfl⟩) | (go_at_call 45; refine (HCh.out _ (HV.out.below HB1.out)).mono ?_; rintro e w2 ⟨rfl, hb2⟩; have HB2 := hid (below_to HB1.out hb2); have A2 := hid (A1.out.below hb2); have ebox2 := A2.out.1; have hmw := Hmw.out; have hzw := Hzw.out; have hmk := Hmk.out; have ebox3 := (A2.out.alloc (.cells (madeCells #[.int .i64 0] (z + 1)) 3)).1; clear hb2 ebox1) | fail)
    clear hmw hzw hmk ebox3 ebox2
    rw [Vals_made]
    have HB3 := hid (below_alloc HB2.out (.cells (Vals (List.replicate (z + 1) 0)) 3))
    have hF : w.heap.size ≤ w2.heap.size := HB2.out.size
    have HK3 : Hid (Blk (w2.alloc (.cells (Vals (List.replicate (z + 1) 0)) 3)) w2.heap.size 3 (Vals (histL (A.take 0) (z + 1)))) := hid (by rw [List.take_zero, histL_nil]; exact Blk.new _ _ _)
    have hz3 : (w2.alloc (.cells (Vals (List.replicate (z + 1) 0)) 3)).heap.size = w2.heap.size + 1 := by simp
    obtain ⟨F, hFe⟩ : ∃ F, w2.heap.size = F := ⟨_, rfl⟩
    obtain ⟨w3, hw3⟩ : ∃ w3, w2.alloc (.cells (Vals (List.replicate (z + 1) 0)) 3) = w3 := ⟨_, rfl⟩
    rw [hw3] at HB3 HK3 hz3 ⊢
    rw [hFe] at hF HK3 hz3 ⊢
    clear hw3 hFe
    rw [show ((100000 : Nat) : Int) = 100000 from rfl] at HAll
    with_reducible refine (HAll.out _ (HV.out.below HB3.out)).mono ?_
    rintro e w4 ⟨q, rfl, ho, hb⟩
    have HO4 := hid ho
    have HB4 := hid (below_to HB3.out hb)
    have HK4 := hid (HK3.out.below hb HK3.out.lt)
    obtain ⟨qA, qc, rfl, -⟩ := ho.rows
    rw [HNe.out] at HO4 ⊢
    clear ho hb
    go_wp2
    go_loopw [35] (fun i wr => ∃ k : Nat, k ≤ N ∧ i = .int .i64 k ∧ Blk wr F 3 (Vals (histL (A.take k) (z + 1))) ∧ TurnedIn F (F + 1) w4 wr) (fun i _ => N - (intOf i).toNat)
    case atStart => exact ⟨0, Nat.zero_le _, rfl, HK4.out, TurnedIn.refl _ _ _⟩
    case round =>
      obtain ⟨k, hk, rfl, hblk, htu⟩ := hrel
      have HK5 := hid hblk
      have HT5 := hid htu
      clear hblk htu
      by_cases hlt : k < N
      · have HO5 := hid (HO4.out.turned HT5.out (.inr (by omega)))
        obtain ⟨A2', c2', hq2, hrow⟩ := HO5.out.rows
        obtain ⟨b, y, rfl, hbl, hcell, hown, -⟩ := hrow k (by rw [HNe.out]; exact hlt)
        obtain ⟨rfl, -, rfl⟩ : qA = some ⟨b, 0, none⟩ ∧ N = A.length ∧ qc = c2' := by
          simp only [Value.slice.injEq] at hq2
          exact hq2
        obtain ⟨hr1, hr2⟩ := HRow.out k hlt
        obtain ⟨f, hf⟩ : ∃ f, A.getD k [] = f := ⟨_, rfl⟩
        rw [hf] at hr1 hr2 hown
        have hs := takeSum_rng (f := f) (m := M) (by rw [hr1]; exact hr2) f.length (Nat.le_refl _)
        rw [List.take_length, hr1] at hs
        obtain ⟨s, hse⟩ := Int.eq_ofNat_of_zero_le hs.1
        rw [hse] at hs
        have hsz : s < z + 1 := by have := HZ.out; omega
        have HSu := hid (laSum_any y f wr hown.ints (by omega) (fun j hj => by have := hr2 j (by omega); omega))
        rw [hse] at HSu
        have HNext := hid (histL_succ (A := A) (z := z + 1) (k := k) (s := s) (by rw [HNe.out]; exact hlt) (by rw [hf]; exact hse) hsz)
        have hcg : wr.cell? ⟨F, s, none⟩ = some (.int .i64 ((A.take k).countP (fun f => decide (f.sum = (s : Int))) : Nat)) := by
          rw [HK5.out.cell, Vals_get (by rw [histL_length]; exact hsz), histL_getD hsz]
        have hfz := HK5.out.frozen s
        have hle : (A.take k).countP (fun f => decide (f.sum = (s : Int))) ≤ k := Nat.le_trans List.countP_le_length (List.length_take_le _ _)
        obtain ⟨r, hr⟩ : ∃ r, (A.take k).countP (fun f => decide (f.sum = (s : Int))) = r := ⟨_, rfl⟩
        rw [hr] at hcg HNext hle
        have hrw : IntKind.i64.wrap ((r : Int) + 1) = ((r + 1 : Nat) : Int) := by rw [IntWalk.i64_in _ (by omega)]; omega
        clear hr hf hr1 hr2 hs hse hown hrow hq2
        go_wp2_with (go_at_call 47; refine HSu.out.mono ?_; rintro e w' ⟨rfl, rfl⟩)
        clear hrw
        go_roundw
        case rel => exact ⟨k + 1, by omega, by go_num, (by rw [HNext.out, ← Vals_set]; exact HK5.out.set_ s (.int .i64 ((r + 1 : Nat) : Int))), turned_setS HT5.out ⟨F, s, none⟩ ⟨Nat.le_refl _, Nat.lt_succ_self _⟩ _⟩
        case measure => simp [intOf]; omega
      · have HTkN : Hid (A.take k = A) := hid (List.take_of_length_le (by rw [HNe.out]; omega))
        have hh := HK5.out
        rw [HTkN.out] at hh
        have HK6 := hid hh
        have HB6 := hid (below_turned HB4.out HT5.out hF)
        clear hh
        go_wp2
        go_ret2
        refine ⟨_, ret_vbS HOt.out.symm, ?_, HL.out, HB6.out⟩
        rw [HAn.out]
        have hx := Blk.own (e := 3) (B := w.heap.size) (show Blk wr F 3 ((histL A (z + 1)).map (Value.int .i64)).toArray from HK6.out) hF (by rw [histL_length]; omega)
        rw [histL_length] at hx
        exact hx
  · have HOt : Hid (okLS xs M = false) := hid (by rw [HO.out]; exact decide_eq_false hmany)
    have HN := hid (HNo.out HOt.out)
    have hgt : (N : Int) > 100000 := by omega
    go_enter Try.func20, Try.ntmps20
    have HB := hid (below_alloc (Below.refl _ w) (.cells #[(.slice B n c)] 35))
    have A0 := hid (At.newAt w (.slice B n c) 35 w.heap.size (by simp))
    have ebox0 := A0.out.1
    go_wp2_with (first | (go_at_call 43; refine (HPg.out _ (HV.out.below HB.out)).mono ?_; rw [HG.out]; rintro e w1 ⟨rfl, hb1⟩; have HB1 := hid (below_to HB.out hb1); have A1 := hid (A0.out.below hb1); have ebox1 := A1.out.1; clear hb1 ebox0) | (go_at_call 44; refine (laBound_any _ _).mono ?_; rw [HD.out]; rintro e w' ⟨rfl, rfl⟩) | (go_at_call 45; refine (HCh.out _ (HV.out.below HB1.out)).mono ?_; rintro e w2 ⟨rfl, hb2⟩; have HB2 := hid (below_to HB1.out hb2); clear hb2 ebox1) | fail)
    go_ret2
    exact ⟨_, ret_vbS HOt.out.symm, by rw [HN.out]; exact OwnI.nil _ _ _, HL.out, HB2.out⟩
end Go.Proofs.Ytnlehkjfidpdlab
