/- Texts SlideO, Nest2, Fcov, one behind the other. -/
import Derived.Deep.Matrix
import Derived.Test.YtpdoheagfjeefaaPkPromotionTogglesProof01
import Derived.Test.YtpdoheagfjeefaaPkPromotionTogglesProof02
import Derived.Test.YtpdoheagfjeefaaPkPromotionTogglesProof05
import Derived.Test.YtpdoheagfjeefaaPkPromotionTogglesProof14
import Derived.Test.YtpdoheagfjeefaaPkPromotionTogglesProof19
/- SlideOf of both sides: the calls. -/
namespace Go.Proofs.Ytpdoheagfjeefaa
open Go.RowKit Go.WideShapes Go.ChangeShapes
set_option linter.unusedVariables false

def ansSL (xs ws : List Int) : List Int := if okLin xs ws then sliL xs ws else []
theorem ansSL_no {xs ws : List Int} (h : okLin xs ws = false) : ansSL xs ws = [] := by simp [ansSL, h]
theorem ansSL_yes {xs ws : List Int} (h : okLin xs ws = true) : ansSL xs ws = sliL xs ws := by simp [ansSL, h]
theorem okLin_X {xs ws : List Int} (h : okLin xs ws = true) : LinX xs ws := orderB_LinX (okLin_all h).2
theorem ansSL_length (xs ws : List Int) : (ansSL xs ws).length ≤ 1048576 := by
  cases h : okLin xs ws
  · rw [ansSL_no h]; simp
  · rw [ansSL_yes h]
    have := (slS_last xs ws (xs.length - 1)).2.1
    have := (good_length (okLin_all h).1).2
    unfold sliL
    omega
theorem OwnI.one (e : TypeId) (w : World) (x : Int) (B : Nat) (hB : B ≤ w.heap.size) : OwnI e (w.alloc (.cells #[.int .i64 x] e)) B (.slice (some ⟨w.heap.size, 0, none⟩) 1 1) [x] :=
  Blk.own (xs := [x]) (Blk.new w e #[.int .i64 x]) hB (by simp)
theorem abvK_empty {xs : List Int} {j k : Nat} (h : ∀ e, e < k → coverB xs j e = false) : (abvK xs j k).length = 0 := by
  induction k with
  | zero => rfl
  | succ k ih => rw [abvK_succ, h k (by omega), if_neg (by decide)]; exact ih (fun e he => h e (by omega))
theorem hasL_abv {xs : List Int} {j n e : Nat} (he : e < n) : hasL (abvK xs j n) (e : Int) = coverB xs j e := by
  unfold hasL
  rw [Bool.eq_iff_iff, decide_eq_true_iff]
  exact abvK_mem xs j n e he
theorem last_cell {t : TypeId} {w : World} {B g M5 qc : Nat} {l : List Int} {x : Int} (h : OwnI t w B (.slice (some ⟨g, 0, none⟩) M5 qc) (l ++ [x])) : w.cell? ⟨g, l.length, none⟩ = some (.int .i64 x) := by
  obtain ⟨A', c', hsh, hcs⟩ := h.ints
  injection hsh with h1 h2 h3
  subst h1
  obtain ⟨b', o', hbo, -, hcc⟩ := hcs (by simp)
  injection hbo with hbo
  injection hbo with hb1 ho1
  subst hb1
  have h5 := hcc l.length (by simp)
  rw [← ho1, Nat.zero_add] at h5
  simpa [List.getD] using h5
theorem LinX.slS_lt {xs ws : List Int} (h : LinX xs ws) (k : Nat) (hk : k < xs.length) : (slS xs ws k).2 < xs.length := by
  induction k with
  | zero => exact (h.rng 0 hk).2
  | succ k ih =>
    cases hc : coverB xs (slS xs ws k).2 (wN ws (k + 1))
    · rw [slS_no hc]; exact ih (by omega)
    · rw [slS_yes hc]; exact (h.rng (k + 1) hk).2
theorem OwnI.cap {e : TypeId} {w : World} {B : Nat} {A : Option Addr} {n c : Nat} {xs : List Int} (h : OwnI e w B (.slice A n c) xs) : xs.length ≤ c := by
  rcases h.2 with ⟨h1, h2⟩ | ⟨g, cap, cur, h1, _, _, h2, _⟩
  · simp at h2; simp [h2]
  · injection h1 with _ _ h3; omega
set_option maxHeartbeats 3200000 in
theorem implSlideOf_any (v : Value) (xs : List Int) (u : Value) (ws : List Int) (w : World) {B0 : Nat} (hv : Ints w v xs) (hl : xs.length ≤ 1048576) (hu0 : OwnI 3 w B0 u ws) (hm : ws.length ≤ 1048576) :
    Calls Try.prog 52 #[.agg #[v], u] w fun (r : Ending) w' => ∃ q, r = Ending.returned (.tuple #[q, .bool (okLin xs ws)]) ∧ OwnI 3 w' w.heap.size q (ansSL xs ws) ∧ (ansSL xs ws).length ≤ 1048576 ∧ Below w.heap.size w w' := by
  have HV := hid hv
  have HU := hid hu0.ints
  have HL := hid (ansSL_length xs ws)
  obtain ⟨A, c, rfl, hA⟩ := hu0.ints
  have hcap := hu0.cap
  have HA := hid hA
  obtain ⟨A0', c0, rfl, hA0⟩ := hv
  have HA0 := hid hA0
  clear hA hA0 hu0
  go_enter Try.func52, Try.ntmps52
  have HB := hid (below_alloc (Below.refl _ w) (.cells #[(.slice A0' xs.length c0)] 26))
  have A0 := hid (At.newAt w (.slice A0' xs.length c0) 26 w.heap.size (by simp))
  go_wp2_with fail
  refine (hasLinear_any _ _ xs ws _ (HV.out.below HB.out) hl (HU.out.below HB.out) hm).mono ?_
  rintro e w' ⟨rfl, hb⟩
  replace HB := hid (below_to HB.out hb)
  replace A0 := hid (A0.out.below hb)
  clear hb
  cases hq : okLin xs ws
  · have HO := hid hq
    clear hq
    have ebox0 := A0.out.1
    go_wp2
    go_ret2
    exact ⟨_, ret_vbL HO.out.symm, by rw [ansSL_no HO.out]; exact OwnI.nil _ _ _, HL.out, HB.out⟩
  · have HO := hid hq
    have HX := hid (okLin_X hq)
    have HG := hid (okLin_all hq).1
    have HY := hid (ansSL_yes hq)
    have hl1 := (good_length HG.out).1
    have hl10 := (good_length HG.out).2
    have HSm := hid (good_small HG.out)
    obtain ⟨n, hn⟩ : ∃ n, xs.length = n + 1 := ⟨xs.length - 1, by omega⟩
    have HN := hid hn
    have hwl : ws.length = n + 1 := by rw [HX.out.len, hn]
    have HWL := hid hwl
    obtain ⟨b2, o2, rfl, hbl2, hc2⟩ := HA.out (by intro h; simp [h] at hwl)
    have h0 := (HX.out.rng 0 (by omega)).1
    have hcell0 := (HB.out.cell (p := ⟨b2, o2 + 0, none⟩) hbl2).trans (hc2 0 (by omega))
    rw [h0, Nat.add_zero] at hcell0
    have HC2 := hid hc2
    have hz := HB.out.size
    have HRes : Hid (sliL xs ws = (slS xs ws n).1) := hid (by unfold sliL; rw [hn]; rfl)
    rw [hwl] at hcap ⊢
    have hn10 : n < 10 := by omega
    have e1 : (n : Int) + 1 - 1 = (n : Int) := by omega
    have e2 : ((n + 1 : Nat) : Int) = (n : Int) + 1 := by omega
    have HS0 := hid (OwnI.one 3 w' (wN ws 0 : Int) w'.heap.size (Nat.le_refl _))
    clear hq hn hwl h0 hc2
    by_cases hc1 : c = 1
    · have hn0 : n = 0 := by omega
      subst hn0
      subst hc1
      have ebox0 := A0.out.1
      go_wp2
      clear e1 e2 hcell0
      go_loopw [6, 20] (fun q i wr => q = .slice (some ⟨w'.heap.size, 0, none⟩) 1 1 ∧ i = .int .i64 0 ∧ wr = w'.alloc (.cells #[.int .i64 (wN ws 0 : Int)] 3)) (fun _ _ _ => 0)
      case atStart => exact ⟨rfl, rfl, rfl⟩
      case round =>
        obtain ⟨rfl, rfl, rfl⟩ := hrel
        go_wp2
        go_ret2
        exact ⟨_, ret_vbL HO.out.symm, by rw [HY.out, HRes.out]; exact HS0.out.mono hz, HL.out, below_alloc HB.out _⟩
    · skip
      have ebox0 := A0.out.1
      go_wp2
      clear e1 e2 hcell0
      go_loopw [6, 20] (fun q i wr => ∃ k : Nat, k ≤ n ∧ i = .int .i64 k ∧ OwnI 3 wr w'.heap.size q (slS xs ws k).1 ∧ Below w'.heap.size w' wr) (fun _ i _ => n - (intOf i).toNat)
      case atStart => exact ⟨0, Nat.zero_le _, rfl, HS0.out, below_alloc (Below.refl _ _) _⟩
      case round =>
        obtain ⟨k, hk, rfl, ho, hb⟩ := hrel
        have HOw := hid ho
        have Hb := hid hb
        have hl3 := slS_last xs ws k
        obtain ⟨M, hL⟩ : ∃ M, (slS xs ws k).1.length = M := ⟨_, rfl⟩
        have HMl := hid hL
        obtain ⟨qA, qc, rfl, hqA⟩ := ho.shape
        rw [hL] at ho HOw hl3 ⊢
        obtain ⟨L, hLM⟩ : ∃ L, M = L + 1 := ⟨M - 1, by omega⟩
        have hML : M - 1 = L := by omega
        by_cases hlt : k < n
        · obtain ⟨g, rfl, hgl, hgB⟩ := hqA (by intro h; rw [h] at hL; simp at hL; omega)
          have hrg := HX.out.rng (k + 1) (by have := HN.out; omega)
          have hcw := HC2.out (k + 1) (by have := HWL.out; omega)
          rw [show o2 + (k + 1) = o2 + 1 + k by omega] at hcw
          have hcell := ((HB.out.trans (hb.mono hz)).cell (p := ⟨b2, o2 + 1 + k, none⟩) hbl2).trans hcw
          rw [hrg.1] at hcell
          have hex := hrg.2
          have HSy := hid (fun h => slS_yes (xs := xs) (ws := ws) (k := k) h)
          have HSn := hid (fun h => slS_no (xs := xs) (ws := ws) (k := k) h)
          have hlx := HX.out.slS_lt k (by have := HN.out; omega)
          obtain ⟨e, he⟩ : ∃ e, wN ws (k + 1) = e := ⟨_, rfl⟩
          rw [he] at hcell hex HSy HSn
          obtain ⟨b, o, rfl, hbl, hc⟩ := HA0.out (by intro h; have := HN.out; simp [h] at this)
          have hcp := ((HB.out.trans (hb.mono hz)).cell (p := ⟨b, o + e, none⟩) hbl).trans (hc e hex)
          have hr := row_lt HG.out hex
          have hr10 := row_lt10 HG.out hex
          have HCT := hid (cover_top HG.out hex (j := (slS xs ws k).2))
          rw [show (xs.getD e 0).toNat = row xs e from rfl] at HCT
          obtain ⟨z, hz'⟩ : ∃ z, row xs e = z := ⟨_, rfl⟩
          rw [hz'] at hr hr10 HCT
          rw [hr.1] at hcp
          have hcl : wr.cell? ⟨g, L, none⟩ = some (.int .i64 ((slS xs ws k).2 : Int)) := by
            obtain ⟨A', c', hsh, hcs⟩ := ho.ints
            injection hsh with h1 h2 h3
            subst h1
            obtain ⟨b', o', hbo, -, hcc⟩ := hcs (by intro h; rw [h] at hL; simp at hL; omega)
            injection hbo with hbo
            injection hbo with hb1 ho1
            subst hb1
            have h5 := hcc L (by omega)
            have h6 := hl3.2.2
            rw [hML] at h6
            rw [h6, ← ho1, Nat.zero_add] at h5
            exact h5
          obtain ⟨l, hl'⟩ : ∃ l, (slS xs ws k).2 = l := ⟨_, rfl⟩
          rw [hl'] at hcl HSy HSn HCT hlx
          have HTop : Hid (∀ W, Below wr.heap.size wr W → Calls Try.prog 108 #[.agg #[.slice (some ⟨b, o, none⟩) xs.length c0], .int .i64 z] W fun r w2 => r = .returned (.int .i64 (top xs z : Nat)) ∧ Below wr.heap.size wr w2) := hid (fun W hW => (top_any (.slice (some ⟨b, o, none⟩) xs.length c0) xs z W (((HV.out.below HB.out).below Hb.out).below hW) hl10 (by omega) (HSm.out z)).mono (fun _ _ h => ⟨h.1, below_to hW h.2⟩))
          have hT10 := top_lt (xs := xs) (s := z) (by omega)
          obtain ⟨T, hT⟩ : ∃ T, top xs z = T := ⟨_, rfl⟩
          rw [hT] at HTop HCT hT10
          have HHas := hid (fun W => hasElement_any T l (by omega) (by omega) W)
          rw [HCT.out] at HHas
          have HCP := hid hcp
          have HCL := hid hcl
          have HA1 := hid (A0.out.below hb)
          have hbx := HA1.out.1
          have e3 : (M : Int) - 1 = (L : Int) := by omega
          have wL : IntKind.i64.wrap (L : Int) = (L : Int) := IntWalk.i64_in _ (by omega)
          have hLMi : (L : Int) < (M : Int) := by omega
          have hM11 : M ≤ 11 := by omega
          have hei : (e : Int) < xs.length := by omega
          have hki : k < 10 := by omega
          have hbw : b < wr.heap.size := Nat.lt_of_lt_of_le hbl (HB.out.trans (hb.mono hz)).size
          clear hcw ho hb hqA hl3 hrg he hc hr hz' hT hl' hL hML hLM
          cases hcv : coverB xs l e
          · have HE := hid (HSn.out hcv)
            have HHf : Hid (∀ W, Calls Try.prog 94 #[.int .i64 T, .int .i64 l] W fun r w' => r = .returned (.bool false) ∧ W = w') := hid (by rw [← hcv]; exact HHas.out)
            clear hcv
            go_wp2_with fail
            go_region_held3 (fun W => W.cell? ⟨w.heap.size, 0, none⟩ = some (.slice (some ⟨b, o, none⟩) xs.length c0) ∧ W.cell? ⟨b, o + e, none⟩ = some (.int .i64 z) ∧ W.cell? ⟨g, L, none⟩ = some (.int .i64 l) ∧ Hid (Below wr.heap.size wr W)) (first | exact ⟨HA1.out.drew.1, HCP.out, HCL.out, hid (Below.refl _ _).drew⟩ | exact ⟨(HA1.out.below HS2.out).1, (HS2.out.cell (p := ⟨b, o + e, none⟩) hbw).trans HCP.out, (HS2.out.cell (p := ⟨g, L, none⟩) hgl).trans HCL.out, HS2⟩) (first | (go_at_call 108; refine (HTop.out _ (Hid.out (by first | assumption | exact hid (Below.refl _ _).drew))).mono ?_; rintro e' w4 ⟨rfl, hs4⟩; have HS2 := hid hs4; clear hs4) | (go_at_call 94; refine (HHf.out _).mono ?_; rintro e' w5 ⟨rfl, rfl⟩))
            clear e3 wL hLMi hbx hcp hcl hcell ‹_ ∧ _ ∧ _ ∧ Hid (Below wr.heap.size wr w4)›
            have HO4 := hid (HOw.out.below HS2.out)
            have Hb4 := hid (below_to Hb.out HS2.out)
            go_wp2
            go_roundw
            case rel => exact ⟨k + 1, by omega, by go_num, by rw [HE.out]; exact HO4.out, Hb4.out⟩
            case measure => simp [intOf]; omega
          · have HE := hid (HSy.out hcv)
            have HHf : Hid (∀ W, Calls Try.prog 94 #[.int .i64 T, .int .i64 l] W fun r w' => r = .returned (.bool true) ∧ W = w') := hid (by rw [← hcv]; exact HHas.out)
            clear hcv
            go_wp2_with fail
            go_region_held3 (fun W => W.cell? ⟨w.heap.size, 0, none⟩ = some (.slice (some ⟨b, o, none⟩) xs.length c0) ∧ W.cell? ⟨b, o + e, none⟩ = some (.int .i64 z) ∧ W.cell? ⟨g, L, none⟩ = some (.int .i64 l) ∧ Hid (Below wr.heap.size wr W)) (first | exact ⟨HA1.out.drew.1, HCP.out, HCL.out, hid (Below.refl _ _).drew⟩ | exact ⟨(HA1.out.below HS2.out).1, (HS2.out.cell (p := ⟨b, o + e, none⟩) hbw).trans HCP.out, (HS2.out.cell (p := ⟨g, L, none⟩) hgl).trans HCL.out, HS2⟩) (first | (go_at_call 108; refine (HTop.out _ (Hid.out (by first | assumption | exact hid (Below.refl _ _).drew))).mono ?_; rintro e' w4 ⟨rfl, hs4⟩; have HS2 := hid hs4; clear hs4) | (go_at_call 94; refine (HHf.out _).mono ?_; rintro e' w5 ⟨rfl, rfl⟩))
            clear e3 wL hLMi hbx hcp hcl hcell ‹_ ∧ _ ∧ _ ∧ Hid (Below wr.heap.size wr w4)›
            have HO4 := hid (HOw.out.below HS2.out)
            have Hb4 := hid (below_to Hb.out HS2.out)
            have hz4 := Hb4.out.size
            go_wp2_with (at_builtin; refine wpList_append_int rfl _ _ 24 3 rfl Try.underlying24 Try.info3 w'.heap.size _ (slS xs ws k).1 (e : Int) rfl HO4.out rfl rfl (by rw [HMl.out]; omega) hz4 ?_; rintro u5 w5 ho5 hb5)
            go_roundw
            case rel => exact ⟨k + 1, by omega, by go_num, by rw [HE.out]; exact ho5, Hb4.out.trans hb5⟩
            case measure => simp [intOf]; omega
        · obtain rfl : k = n := by omega
          clear ho hb
          go_wp2
          go_ret2
          exact ⟨_, ret_vbL HO.out.symm, by rw [HY.out, HRes.out]; exact HOw.out.mono hz, HL.out, below_to HB.out Hb.out⟩
set_option maxHeartbeats 3200000 in
theorem specSlideOf_any (v : Value) (xs : List Int) (u : Value) (ws : List Int) (w : World) (hv : Ints w v xs) (hl : xs.length ≤ 1048576) (hu : Ints w u ws) (hm : ws.length ≤ 1048576) :
    Calls Try.prog 53 #[.agg #[v], u] w fun (r : Ending) w' => ∃ q, r = Ending.returned (.tuple #[q, .bool (okLin xs ws)]) ∧ OwnI 3 w' w.heap.size q (ansSL xs ws) ∧ (ansSL xs ws).length ≤ 1048576 ∧ Below w.heap.size w w' := by
  have HV := hid hv
  have HU := hid hu
  have HL := hid (ansSL_length xs ws)
  obtain ⟨A, c, rfl, hA⟩ := hu
  have HA := hid hA
  clear hA hv
  go_enter Try.func53, Try.ntmps53
  have HB := hid (below_alloc (Below.refl _ w) (.cells #[v] 26))
  have A0 := hid (At.newAt w v 26 w.heap.size (by simp))
  go_wp2_with fail
  refine (liGiven_any _ _ xs ws _ (HV.out.below HB.out) hl (HU.out.below HB.out) hm).mono ?_
  rintro e w' ⟨rfl, hb⟩
  replace HB := hid (below_to HB.out hb)
  replace A0 := hid (A0.out.below hb)
  clear hb
  cases hq : okLin xs ws
  · have HO := hid hq
    clear hq
    have ebox0 := A0.out.1
    go_wp2
    go_ret2
    exact ⟨_, ret_vbL HO.out.symm, by rw [ansSL_no HO.out]; exact OwnI.nil _ _ _, HL.out, HB.out⟩
  · have HO := hid hq
    have HX := hid (okLin_X hq)
    have HG := hid (okLin_all hq).1
    have HY := hid (ansSL_yes hq)
    have hl1 := (good_length HG.out).1
    have hl10 := (good_length HG.out).2
    obtain ⟨n, hn⟩ : ∃ n, xs.length = n := ⟨_, rfl⟩
    have HN := hid hn
    have hwl : ws.length = n := by rw [HX.out.len, hn]
    have HWL := hid hwl
    rw [hn] at hl1 hl10
    obtain ⟨b2, o2, rfl, hbl2, hc2⟩ := HA.out (by intro h; simp [h] at hwl; omega)
    have h0 := (HX.out.rng 0 (by omega)).1
    have hcell0 := (HB.out.cell (p := ⟨b2, o2 + 0, none⟩) hbl2).trans (hc2 0 (by omega))
    rw [h0, Nat.add_zero] at hcell0
    have HC2 := hid hc2
    have hz := HB.out.size
    have h0n : wN ws 0 < n := by have := (HX.out.rng 0 (by omega)).2; omega
    have H0N := hid h0n
    rw [hwl]
    have HS0 := hid (OwnI.one 3 w' (wN ws 0 : Int) w'.heap.size (Nat.le_refl _))
    obtain ⟨W0, hW0⟩ : ∃ W0, w'.alloc (.cells #[.int .i64 (wN ws 0 : Int)] 3) = W0 := ⟨_, rfl⟩
    have HB0 : Hid (Below w'.heap.size w' W0) := hid (by rw [← hW0]; exact below_alloc (Below.refl _ _) _)
    rw [hW0] at HS0
    have HC0 : Hid (W0.cell? ⟨b2, o2, none⟩ = some (.int .i64 (wN ws 0 : Int))) := hid ((HB0.out.cell (p := ⟨b2, o2, none⟩) (Nat.lt_of_lt_of_le hbl2 hz)).trans hcell0)
    have HCov : Hid (∀ (j : Nat), j < n → ∀ W, Below w'.heap.size w' W → Calls Try.prog 122 #[.agg #[v], .int .i64 j] W fun (r : Ending) w2 => ∃ u, r = Ending.returned u ∧ OwnI 3 w2 W.heap.size u (abvK xs j n) ∧ Below W.heap.size W w2) := hid (fun j hj W hW => by
      have := liCovers_any v xs j W ((HV.out.below HB.out).below hW) HG.out (by omega)
      rw [HN.out] at this; exact this)
    have hn10 : (0 : Int) < (n : Int) := by omega
    have hn11 : 0 < n := by omega
    have hn12 : ¬ n = 0 := by omega
    clear hq hn hwl h0 hc2 h0n
    have ebox0 := A0.out.1
    go_wp2
    have hbx := (A0.out.below HB0.out).1
    have hc0 := HC0.out
    have HAt0 := hid (A0.out.below HB0.out)
    clear hcell0 hW0
    go_region_held3 (fun W => W.cell? ⟨w.heap.size, 0, none⟩ = some v ∧ W.cell? ⟨b2, o2, none⟩ = some (.int .i64 (wN ws 0 : Int)) ∧ Hid (Below W0.heap.size W0 W)) (first | exact ⟨HAt0.out.drew.1, HC0.out, hid (Below.refl _ _).drew⟩ | exact ⟨(HAt0.out.below HS2.out).1, (HS2.out.cell (p := ⟨b2, o2, none⟩) (World.block_lt_of_cell? W0 _ HC0.out)).trans HC0.out, HS2⟩) (first | (go_at_call 122; refine (HCov.out _ H0N.out _ (below_to HB0.out (Hid.out (by first | assumption | exact hid (Below.refl _ _).drew)))).mono ?_; rintro e' w4 ⟨u4, rfl, ho4, hs4⟩; obtain ⟨u4A, u4n, u4c, rfl⟩ := ho4.shape3; have HO4 := hid ho4.ints; have HS2 := hid (below_to (Hid.out (by first | assumption | exact hid (Below.refl W0.heap.size W0).drew)) hs4); clear ho4 hs4))
    have HS4 := hid (HS0.out.below HS2.out)
    have Hb4 := hid (below_to HB0.out HS2.out)
    clear hbx hc0
    have hn1 : n ≤ 10 := hl10
    go_wp2
    go_loopw [6, 7] (fun q a wr => ∃ k : Nat, k < n ∧ OwnI 3 wr w'.heap.size q (slS xs ws k).1 ∧ Hid ((slS xs ws k).2 = wN ws k) ∧ Ints wr a (abvK xs (wN ws k) n) ∧ Below w'.heap.size w' wr) (fun q _ _ => n - (match q with | .slice _ m _ => m | _ => 0))
    case atStart => exact ⟨0, by omega, HS4.out, hid rfl, HO4.out, Hb4.out⟩
    case round =>
      obtain ⟨k, hk, ho, HK, hi, hb⟩ := hrel
      have HOw := hid ho
      have HI := hid hi
      have Hb := hid hb
      have hl3 := slS_last xs ws k
      obtain ⟨qA, qc, rfl, -⟩ := ho.shape
      obtain ⟨M, hM⟩ : ∃ M, (slS xs ws k).1.length = M := ⟨_, rfl⟩
      have HM := hid hM
      rw [hM] at ho HOw hl3 ⊢
      have HOw := hid ho
      obtain ⟨aA, ac, rfl, -⟩ := hi
      obtain ⟨La, hLa⟩ : ∃ La, (abvK xs (wN ws k) n).length = La := ⟨_, rfl⟩
      rw [hLa] at HI ⊢
      have HLa := hid hLa
      have hLa2 := abvK_length xs (wN ws k) n
      rw [hLa] at hLa2
      have hMk : M ≤ k + 1 := hl3.2.1
      clear ho hb hM hLa hl3
      by_cases h0 : La = 0
      · subst h0
        have HEnd := hid (HX.out.slide_end (k := k) (by rw [HN.out]; exact hk) HK.out (fun e he => abvK_nil HLa.out e (by rw [← HN.out]; exact he)))
        go_wp2
        go_ret2
        exact ⟨_, ret_vbL HO.out.symm, by rw [HY.out, HEnd.out]; exact HOw.out.mono hz, HL.out, below_to HB.out Hb.out⟩
      · have hLp : (0 : Int) < (La : Int) := by omega
        have hLd : decide ((0 : Int) < (La : Int)) = true := by simp; omega
        have hLe : decide (0 < La) = true := by simp; omega
        have HH0 := hid h0
        clear h0 hLp
        go_wp2
        clear hLd hLe
        go_loopw [6, 36] (fun q' t wi => ∃ j : Nat, j ≤ n ∧ t = .int .i64 j ∧ q' = .slice qA M qc ∧ Hid (∀ i, i < j → coverB xs (wN ws k) (wN ws i) = false) ∧ wi = wr) (fun _ t _ => n - (intOf t).toNat)
        case atStart => exact ⟨0, Nat.zero_le _, rfl, rfl, hid (fun i h => absurd h (Nat.not_lt_zero _)), rfl⟩
        case round =>
          obtain ⟨j, hj, rfl, rfl, HJ, rfl⟩ := hrel
          by_cases hlt : j < n
          · have hrg := HX.out.rng j (by rw [HN.out]; exact hlt)
            have hcell := ((HB.out.trans (Hb.out.mono hz)).cell (p := ⟨b2, o2 + j, none⟩) hbl2).trans (HC2.out j (by rw [HWL.out]; exact hlt))
            rw [hrg.1] at hcell
            have hen : wN ws j < n := by rw [← HN.out]; exact hrg.2
            have HEN := hid hen
            have HHas := hid (hasL_abv (xs := xs) (j := wN ws k) hen)
            have HSl := hid (fun h => HX.out.slide (k := k) (t := j) (by rw [HN.out]; exact hk) (by rw [HN.out]; exact hlt) HK.out HJ.out h)
            have hLl : (abvK xs (wN ws k) n).length ≤ 1048576 := by have := HLa.out; omega
            clear hrg hen
            go_wp2_with fail
            refine (l1HasL_any _ (abvK xs (wN ws k) n) (wN ws j : Int) _ HI.out hLl).mono ?_
            rw [HHas.out]
            rintro e' w5 ⟨rfl, rfl⟩
            cases hcv : coverB xs (wN ws k) (wN ws j)
            · have HJ2 : Hid (∀ i, i < j + 1 → coverB xs (wN ws k) (wN ws i) = false) := hid (fun i hi => by
                by_cases e : i = j
                · subst e; exact hcv
                · exact HJ.out i (by omega))
              clear hcv
              go_wp2
              go_roundw
              case rel => exact ⟨j + 1, by omega, by go_num, rfl, HJ2, by first | trivial | rfl⟩
              case measure => simp [intOf]; omega
            · have HE := hid (HSl.out hcv)
              have hwz := Hb.out.size
              clear hcv
              go_wp2_with (at_builtin; refine wpList_append_int rfl _ _ 24 3 rfl Try.underlying24 Try.info3 w'.heap.size _ (slS xs ws k).1 (wN ws j : Int) rfl HOw.out rfl rfl (by rw [HM.out]; omega) hwz ?_; rintro u6 w6 ho6 hb6; obtain ⟨q6A, q6c, hsh6, hq6⟩ := ho6.shape; obtain ⟨M6, hM6⟩ : ∃ M6, ((slS xs ws k).1 ++ [(wN ws j : Int)]).length = M6 := ⟨_, rfl⟩; rw [hM6] at hsh6; subst hsh6; have HM6 := hid hM6; clear hM6)
              have hM6 := HM6.out
              obtain ⟨g6, rfl, hg6, -⟩ := hq6 (by simp)
              have hcl := last_cell ho6
              rw [HM.out] at hcl
              have hM6' : M6 = M + 1 := by rw [← hM6, List.length_append, HM.out]; rfl
              have HO6 := hid ho6
              have Hb6 := hid (Hb.out.trans hb6)
              have HA6 := hid (A0.out.below Hb6.out)
              have hbx6 := HA6.out.1
              have e3 : (M6 : Int) - 1 = (M : Int) := by omega
              have wL : IntKind.i64.wrap (M : Int) = (M : Int) := IntWalk.i64_in _ (by omega)
              have hLMi : (M : Int) < (M6 : Int) := by omega
              have HM6' := hid hM6'
              have HCL := hid hcl
              clear ho6 hb6 hq6 hM6 hM6' hcell
              go_wp2_with fail
              go_region_held3 (fun W => W.cell? ⟨w.heap.size, 0, none⟩ = some v ∧ W.cell? ⟨g6, M, none⟩ = some (.int .i64 (wN ws j : Int)) ∧ Hid (Below w6.heap.size w6 W)) (first | exact ⟨HA6.out.drew.1, HCL.out, hid (Below.refl _ _).drew⟩ | exact ⟨(HA6.out.below HS7.out).1, (HS7.out.cell (p := ⟨g6, M, none⟩) hg6).trans HCL.out, HS7⟩) (first | (go_at_call 122; refine (HCov.out _ HEN.out _ (below_to Hb6.out (Hid.out (by first | assumption | exact hid (Below.refl _ _).drew)))).mono ?_; rintro e' w7 ⟨u7, rfl, ho7, hs7⟩; obtain ⟨u7A, u7n, u7c, rfl⟩ := ho7.shape3; have HO7 := hid ho7.ints; have HS7 := hid (below_to (Hid.out (by first | assumption | exact hid (Below.refl w6.heap.size w6).drew)) hs7); clear ho7 hs7))
              have HO8 := hid (HO6.out.below HS7.out)
              have Hb8 := hid (below_to Hb6.out HS7.out)
              clear hbx6 e3 wL hLMi hcl
              go_wp2
              go_roundw
              case rel => exact ⟨j, hlt, by rw [HE.out.2]; exact HO8.out, hid (by rw [HE.out.2]), HO7.out, Hb8.out⟩
              case measure => have := HM6'.out; have := HE.out.1; simp; omega
          · obtain rfl : j = n := by omega
            exfalso
            have h1 := abvK_empty (xs := xs) (j := wN ws k) (k := j) (fun e he => HX.out.slide_has (k := k) (fun i hi => HJ.out i (by rw [← HN.out]; exact hi)) (by rw [HN.out]; exact he))
            rw [HLa.out] at h1
            exact HH0.out h1
end Go.Proofs.Ytpdoheagfjeefaa

/- Slices of slices as arguments: read, sized, copied. -/
namespace Go.Proofs.Ytpdoheagfjeefaa
open Go.RowKit Go.WideShapes Go.ChangeShapes
set_option linter.unusedVariables false

theorem open_lists {H : Type} {enc : TypeId × Value → H} {P : Program} {w : World} {base : Nat} {held : Bool} {r : Reach} {b0 : Nat} {t e q : TypeId} {v : Value} {d : DataW H} {p : List MemPlace}
    (ht : P.underlying t = some (.slice e)) (he : P.underlying e = some (.slice q)) (hq : P.underlying q = some (.int .i64)) (ce : P.cellsOf e = 1) (cq : P.cellsOf q = 1)
    (hv : Value.okWide P w r b0 t v) (h : DataW.Trod enc P w base (fun _ => true) held t v d p) :
    ∃ ls : List (List Int), IntsSS w v ls ∧ ls.length ≤ maxLen ∧ ∀ j, j < ls.length → (ls.getD j []).length ≤ maxLen := by
  obtain ⟨A0, len0, cap0, rfl⟩ := okWide_slice ht hv
  obtain ⟨fuel, hf⟩ := h
  rcases Go.Deep.open_int_rows ht he hq ce cq hf with ⟨hcs, _⟩ | ⟨a, len, cap, A, L, C, Z, hcs, hb, hl, hm, _, hr⟩
  · simp [Value.cells] at hcs
    obtain ⟨rfl, rfl, rfl⟩ := hcs
    exact ⟨[], ⟨none, 0, rfl, fun j hj => absurd hj (Nat.not_lt_zero _)⟩, Nat.zero_le _, fun j hj => absurd hj (Nat.not_lt_zero _)⟩
  · simp [Value.cells] at hcs
    obtain ⟨rfl, rfl, rfl⟩ := hcs
    have hlen : ((List.range len0).map fun r => (Z r).take (L r)).length = len0 := by simp
    have hget : ∀ j, j < len0 → ((List.range len0).map fun r => (Z r).take (L r)).getD j [] = (Z j).take (L j) := fun j hj => by simp [List.getD, hj]
    refine ⟨(List.range len0).map fun r => (Z r).take (L r), ⟨some a, cap0, by rw [hlen], fun j hj => ?_⟩, by rw [hlen]; omega, fun j hj => ?_⟩
    · rw [hlen] at hj
      obtain ⟨h1, h2, h3, h4, -, h5, h6⟩ := hr j (by omega)
      rw [hget j hj]
      obtain ⟨ab, ao, rfl⟩ : ∃ b o, a = ⟨b, o, none⟩ := by
        have h0 := (hr 0 (by omega)).1
        obtain ⟨b, o, pt⟩ := a
        have hspot : pt = none := by simpa [Addr.add] using World.cell?_spot h0
        subst hspot
        exact ⟨b, o, rfl⟩
      have hadd : ((⟨ab, ao, none⟩ : Addr).add j) = ⟨ab, ao + j, none⟩ := Go.WideShapes.add_plain _ _ _
      rw [hadd] at h1
      have hlt := World.block_lt_of_cell? w _ h1
      refine ⟨ab, ao, _, rfl, hlt, h1, A j, C j, ?_, fun hx => ?_⟩
      · rw [List.length_take]; congr 1; omega
      · have hLp : 0 < L j := by
          rcases Nat.eq_zero_or_pos (L j) with h0 | h0
          · rw [h0] at hx; simp at hx
          · exact h0
        cases hA : A j with
        | none => have := h5 hA; omega
        | some a' =>
          obtain ⟨-, hc⟩ := h6 a' hA
          obtain ⟨b', o', rfl, hcell⟩ := ints_at (zs := Z j) (fun i hi => hc i (by omega)) (by omega)
          refine ⟨b', o', rfl, ?_, fun i hi => ?_⟩
          · exact World.block_lt_of_cell? w _ (hcell 0 (by omega))
          · rw [List.length_take] at hi
            rw [hcell i (by omega)]
            congr 2
            simp [List.getD, show i < L j by omega]
    · rw [hlen] at hj
      obtain ⟨h1, h2, h3, h4, -⟩ := hr j (by omega)
      rw [hget j hj, List.length_take]
      omega
/-! ### sizes -/
def szN (left : Int) (ls : List (List Int)) : Nat → Int
  | 0 => left
  | k + 1 => if szN left ls k < 0 then -1 else szRes (szN left ls k) (ls.getD k []).length
def szAll (left : Int) (ls : List (List Int)) : Int := if left < ls.length then -1 else szN (left - ls.length) ls ls.length
theorem szN_neg {left : Int} {ls : List (List Int)} {k : Nat} (h : szN left ls k < 0) (j : Nat) (hj : k < j) : szN left ls j = -1 := by
  induction j with
  | zero => omega
  | succ j ih =>
    unfold szN
    by_cases e : k = j
    · subst e; rw [if_pos h]
    · rw [if_pos (by rw [ih (by omega)]; decide)]
theorem szN_off {left : Int} {ls : List (List Int)} (k : Nat) (h : 0 ≤ szN left ls k) : szN left ls k = left - offL ls k := by
  induction k with
  | zero => simp [szN, offL]
  | succ k ih =>
    have hs : offL ls (k + 1) = offL ls k + (ls.getD k []).length := rfl
    unfold szN at h ⊢
    by_cases h0 : szN left ls k < 0
    · rw [if_pos h0] at h; omega
    · rw [if_neg h0] at h ⊢
      have h1 := ih (by omega)
      by_cases h2 : szN left ls k < (ls.getD k []).length
      · rw [szRes_neg h2] at h; omega
      · rw [szRes_pos h2, h1]; omega
theorem szAll_small {ls : List (List Int)} {left : Int} (hl : left ≤ 1048576) (h : 0 ≤ szAll left ls) : SSmall ls := by
  unfold szAll at h
  split at h
  · omega
  · rename_i hn
    have h1 := szN_off _ h
    refine ⟨by omega, fun j hj => ?_, by omega⟩
    have h2 := offL_mono ls (show j + 1 ≤ ls.length by omega)
    have hs : offL ls (j + 1) = offL ls j + (ls.getD j []).length := rfl
    omega
/-! ### copies -/
def fillSS (ls : List (List Int)) (k : Nat) : List (List Int) := (List.range ls.length).map fun j => if j < k then ls.getD j [] else []
theorem fillSS_length (ls : List (List Int)) (k : Nat) : (fillSS ls k).length = ls.length := by simp [fillSS]
theorem fillSS_set (ls : List (List Int)) (k : Nat) (hk : k < ls.length) : (fillSS ls k).set k (ls.getD k []) = fillSS ls (k + 1) := by
  apply List.ext_getElem?
  intro i
  rw [List.getElem?_set, fillSS_length]
  simp only [fillSS, List.getElem?_map]
  by_cases hi : i < ls.length
  · by_cases e : k = i
    · subst e; simp [hk]
    · simp only [e, if_false, List.getElem?_range hi, Option.map_some]
      by_cases h2 : i < k
      · rw [if_pos h2, if_pos (by omega)]
      · rw [if_neg h2, if_neg (by omega)]
  · simp [hi]
    intro h; omega
theorem fillSS_full (ls : List (List Int)) : fillSS ls ls.length = ls := by
  apply List.ext_getElem?
  intro i
  simp only [fillSS, List.getElem?_map]
  by_cases hi : i < ls.length
  · simp [hi]
  · simp [hi]
/-- one row of a slice of slices is replaced by a fresh one -/
theorem OwnSS.put {ti ts : TypeId} {w : World} {B E E' : Nat} {A : Option Addr} {n c : Nat} {ls : List (List Int)} (h : OwnSS ti ts w B E (.slice A n c) ls) (hne : ti ≠ ts) (hE : E ≤ E') {j : Nat} (hj : j < ls.length) {u : Value} {l : List Int}
    (hu : OwnI ti w B u l) (hfr : ∀ k, u.ownBlock = some k → E ≤ k ∧ k < E') :
    ∃ b, A = some ⟨b, 0, none⟩ ∧ b < E ∧ w.frozen? ⟨b, j, none⟩ = false ∧ (∃ x, w.cell? ⟨b, j, none⟩ = some x) ∧ OwnSS ti ts (w.setCell ⟨b, j, none⟩ u) B E' (.slice A n c) (ls.set j l) := by
  obtain ⟨us, h1, h2, h3, h4, h5⟩ := h
  have h2' := h2
  rcases h2.2 with ⟨e, hn⟩ | ⟨b, cap, cur, e, hB, hh, r1, r2, r3, r4⟩
  · omega
  · injection e with e1 e2 e3
    subst e1; subst e2; subst e3
    have hbE : b < E := h3 b rfl
    have hrow : ∀ (u' : Value) (l' : List Int), OwnI ti w B u' l' → some b ≠ u'.ownBlock := by
      intro u' l' hi e
      rcases hi.2 with ⟨e', _⟩ | ⟨g, cap', cur', e', _, hh', _⟩
      · rw [e'] at e; simp [Value.ownBlock] at e
      · rw [e'] at e
        simp only [Value.ownBlock, Option.some.injEq] at e
        subst e
        rw [hh] at hh'
        injection hh' with hh'
        injection hh' with _ hh'
        exact hne hh'.symm
    refine ⟨b, rfl, hbE, h2.frozenAt j, ?_, us.set j u, by simp [h1], ?_, fun k hk => Nat.lt_of_lt_of_le (h3 k hk) hE, ?_, ?_⟩
    · have := h2.cellAt j (by omega)
      exact ⟨us[j]'(by omega), by rw [this]; exact List.getElem?_eq_getElem (by omega)⟩
    · rw [List.length_set]
      exact (h2'.stored j u).1
    · intro i u' l' hu' hl'
      have hset : ∀ (x : Value) (m : List Int), OwnI ti w B x m → OwnI ti (w.setCell ⟨b, j, none⟩ u) B x m := fun x m hx =>
        hx.grown (grown_setCell (g := b) (World.grownBy.refl w (some b)) j u) (.inr (fun e => hrow x m hx e.symm))
      by_cases e : j = i
      · subst e
        rw [List.getElem?_set_self (by omega)] at hu' hl'
        injection hu' with hu'
        injection hl' with hl'
        subst hu'; subst hl'
        exact ⟨hset _ _ hu, fun k hk => (hfr k hk).2⟩
      · rw [List.getElem?_set_ne e] at hu' hl'
        obtain ⟨hi, hk⟩ := h4 i u' l' hu' hl'
        exact ⟨hset _ _ hi, fun k hk' => Nat.lt_of_lt_of_le (hk k hk') hE⟩
    · intro i i' u1 u2 hii hu1 hu2
      by_cases e : j = i
      · subst e
        rw [List.getElem?_set_self (by omega)] at hu1
        rw [List.getElem?_set_ne hii] at hu2
        injection hu1 with hu1
        subst hu1
        have hl2 : i' < us.length := (List.getElem?_eq_some_iff.1 hu2).1
        obtain ⟨-, hk2⟩ := h4 i' u2 ls[i'] hu2 (List.getElem?_eq_getElem (by omega))
        rcases hq : u.ownBlock with _ | k
        · exact .inl rfl
        · refine .inr fun e => ?_
          have a := hfr k hq
          have b := hk2 k e.symm
          omega
      · rw [List.getElem?_set_ne e] at hu1
        by_cases e' : j = i'
        · subst e'
          rw [List.getElem?_set_self (by omega)] at hu2
          injection hu2 with hu2
          subst hu2
          have hl1 : i < us.length := (List.getElem?_eq_some_iff.1 hu1).1
          obtain ⟨-, hk1⟩ := h4 i u1 ls[i] hu1 (List.getElem?_eq_getElem (by omega))
          rcases hq : u1.ownBlock with _ | k
          · exact .inl rfl
          · refine .inr fun e => ?_
            have a := hfr k e.symm
            have b := hk1 k hq
            omega
        · rw [List.getElem?_set_ne e'] at hu2
          exact h5 i i' u1 u2 hii hu1 hu2
theorem OwnSS.made {P : Program} (ti ts : TypeId) (w : World) (ls : List (List Int)) (hl : ls.length ≤ 1048576) :
    OwnSS ti ts (w.alloc (.cells (madeCells #[.slice none 0 0] ls.length) ts)) w.heap.size (w.heap.size + 1) (.slice (some ⟨w.heap.size, 0, none⟩) ls.length ls.length) (fillSS ls 0) := by
  have hm := toList_madeCells_one (.slice none 0 0) ls.length
  have hsz : (madeCells #[.slice none 0 0] ls.length).size = ls.length := by
    have := congrArg List.length hm
    simpa using this
  refine ⟨List.replicate ls.length (.slice none 0 0), by simp [fillSS_length], ?_, ?_, ?_, ?_⟩
  · rw [fillSS_length]
    refine ⟨by simp, .inr ⟨w.heap.size, ls.length, _, rfl, Nat.le_refl _, heap_alloc_new w _, Nat.le_refl _, by unfold maxLen; omega, by rw [hsz, Nat.mul_one], ?_⟩⟩
    rw [hm, Nat.mul_one]
    exact List.take_of_length_le (by simp)
  · intro k hk
    simp [Value.ownBlock] at hk
    omega
  · intro j u l hu hl'
    obtain ⟨hj, rfl⟩ := List.getElem?_eq_some_iff.1 hu
    obtain ⟨hj', rfl⟩ := List.getElem?_eq_some_iff.1 hl'
    simp only [fillSS, List.getElem_map, List.getElem_replicate, Nat.not_lt_zero, if_false]
    exact ⟨OwnI.nil _ _ _, fun k hk => by simp [Value.ownBlock] at hk⟩
  · intro i j u u' hij hu hu'
    obtain ⟨hj, rfl⟩ := List.getElem?_eq_some_iff.1 hu
    left
    simp [Value.ownBlock]
theorem OwnSS.mono {ti ts : TypeId} {w : World} {B E E' : Nat} {v : Value} {ls : List (List Int)} (h : OwnSS ti ts w B E v ls) (hE : E ≤ E') : OwnSS ti ts w B E' v ls := by
  obtain ⟨us, h1, h2, h3, h4, h5⟩ := h
  exact ⟨us, h1, h2, fun k hk => Nat.lt_of_lt_of_le (h3 k hk) hE, fun j u l hu hl => ⟨(h4 j u l hu hl).1, fun k hk => Nat.lt_of_lt_of_le ((h4 j u l hu hl).2 k hk) hE⟩, h5⟩
end Go.Proofs.Ytpdoheagfjeefaa

/- FromCovers: relations that follow, in two ways. -/
namespace Go.Proofs.Ytpdoheagfjeefaa
open Go.RowKit Go.WideShapes Go.ChangeShapes
set_option linter.unusedVariables false

/-! ### the model's rows, bit by bit -/
theorem fin_other {ps : List (Nat × Nat)} {i : Nat} {g : Nat → Nat} (k r : Nat) (h : r ≠ i) : fin_ ps i g k r = g r := by
  induction k with
  | zero => rfl
  | succ k ih =>
    unfold fin_ fstep
    split
    · first | exact ih | (rw [if_neg h]; exact ih)
    · exact ih
theorem fout_high {ps : List (Nat × Nat)} (m r : Nat) (h : m ≤ r) : fout ps m r = 0 := by
  induction m with
  | zero => rfl
  | succ m ih =>
    unfold fout
    rw [fin_other _ _ (by omega)]
    exact ih (by omega)
theorem fout_low {ps : List (Nat × Nat)} {r : Nat} (m : Nat) (h : r < m) : fout ps m r = fout ps (r + 1) r := by
  induction m with
  | zero => omega
  | succ m ih =>
    by_cases e : r = m
    · subst e; rfl
    · rw [fout, fin_other _ _ e]
      exact ih (by omega)
/-- pairs upwards, below n -/
def UpPairs (n : Nat) (ps : List (Nat × Nat)) : Prop := ∀ k, k < ps.length → (ps.getD k (0, 0)).1 < (ps.getD k (0, 0)).2 ∧ (ps.getD k (0, 0)).2 < n
theorem fin_bit {n : Nat} {ps : List (Nat × Nat)} (hp : UpPairs n ps) {i : Nat} {g : Nat → Nat} (k : Nat) (hk : k ≤ ps.length) (b : Nat) :
    (fin_ ps i g k i).testBit b = true ↔ (g i).testBit b = true ∨ ∃ t, t < k ∧ (ps.getD t (0, 0)).2 = i ∧ (b = (ps.getD t (0, 0)).1 ∨ (g (ps.getD t (0, 0)).1).testBit b = true) := by
  induction k with
  | zero => simp [fin_]
  | succ k ih =>
    have ih := ih (by omega)
    have hpk := hp k (by omega)
    unfold fin_ fstep
    split
    · rename_i hi
      rw [if_pos rfl, Nat.testBit_or, Nat.testBit_or, Nat.testBit_two_pow, Bool.or_eq_true, Bool.or_eq_true, decide_eq_true_eq, ih, fin_other (g := g) k (ps.getD k (0, 0)).1 (by omega)]
      constructor
      · rintro ((h | ⟨t, h1, h2, h3⟩) | h)
        · exact .inl h
        · exact .inr ⟨t, by omega, h2, h3⟩
        · refine .inr ⟨k, by omega, hi, ?_⟩
          rcases h with h | h
          · exact .inl h.symm
          · exact .inr h
      · rintro (h | ⟨t, h1, h2, h3⟩)
        · exact .inl (.inl h)
        · by_cases e : t = k
          · subst e
            refine .inr ?_
            rcases h3 with h3 | h3
            · exact .inl h3.symm
            · exact .inr h3
          · exact .inl (.inr ⟨t, by omega, h2, h3⟩)
    · rename_i hi
      rw [ih]
      constructor
      · rintro (h | ⟨t, h1, h2, h3⟩)
        · exact .inl h
        · exact .inr ⟨t, by omega, h2, h3⟩
      · rintro (h | ⟨t, h1, h2, h3⟩)
        · exact .inl h
        · refine .inr ⟨t, ?_, h2, h3⟩
          by_cases e : t = k
          · subst e; exact absurd h2 hi
          · omega
theorem fout_bit {n : Nat} {ps : List (Nat × Nat)} (hp : UpPairs n ps) {r : Nat} (hr : r < n) (b : Nat) :
    (fout ps n r).testBit b = true ↔ ∃ t, t < ps.length ∧ (ps.getD t (0, 0)).2 = r ∧ (b = (ps.getD t (0, 0)).1 ∨ (fout ps n (ps.getD t (0, 0)).1).testBit b = true) := by
  rw [fout_low n hr, fout, fin_bit hp _ (Nat.le_refl _), fout_high r r (Nat.le_refl _)]
  simp only [Nat.zero_testBit, Bool.false_eq_true, false_or]
  constructor
  · rintro ⟨t, h1, h2, h3⟩
    have := hp t h1
    rw [fout_low r (by omega), ← fout_low n (by omega)] at h3
    exact ⟨t, h1, h2, h3⟩
  · rintro ⟨t, h1, h2, h3⟩
    have := hp t h1
    refine ⟨t, h1, h2, ?_⟩
    rw [fout_low r (by omega), ← fout_low n (by omega)]
    exact h3

/-! ### the program's rows -/
def dirN (ps : List (Nat × Nat)) : Nat → Nat → Nat
  | 0, _ => 0
  | k + 1, r => if (ps.getD k (0, 0)).2 = r then dirN ps k r ||| 2 ^ (ps.getD k (0, 0)).1 else dirN ps k r
def clN (ps : List (Nat × Nat)) (n : Nat) : Nat → Nat → Nat
  | 0, r => dirN ps ps.length r
  | k + 1, r => if r = k then clN ps n k k ||| under (mkL n (clN ps n k)) (clN ps n k k) else clN ps n k r
theorem dirN_bit (ps : List (Nat × Nat)) (k r b : Nat) : (dirN ps k r).testBit b = true ↔ ∃ t, t < k ∧ (ps.getD t (0, 0)).2 = r ∧ b = (ps.getD t (0, 0)).1 := by
  induction k with
  | zero => simp [dirN]
  | succ k ih =>
    unfold dirN
    split
    · rename_i h
      rw [Nat.testBit_or, Nat.testBit_two_pow, Bool.or_eq_true, ih, decide_eq_true_eq]
      constructor
      · rintro (⟨t, h1, h2, h3⟩ | h3)
        · exact ⟨t, by omega, h2, h3⟩
        · exact ⟨k, by omega, h, h3.symm⟩
      · rintro ⟨t, h1, h2, h3⟩
        by_cases e : t = k
        · subst e; exact .inr h3.symm
        · exact .inl ⟨t, by omega, h2, h3⟩
    · rename_i h
      rw [ih]
      constructor
      · rintro ⟨t, h1, h2, h3⟩; exact ⟨t, by omega, h2, h3⟩
      · rintro ⟨t, h1, h2, h3⟩
        by_cases e : t = k
        · subst e; exact absurd h2 h
        · exact ⟨t, by omega, h2, h3⟩
theorem dirN_lt {n : Nat} {ps : List (Nat × Nat)} (hp : UpPairs n ps) (hn : n ≤ 10) (k : Nat) (hk : k ≤ ps.length) (r : Nat) : dirN ps k r < 1024 := by
  apply Nat.lt_pow_two_of_testBit (n := 10)
  intro i hi
  rw [Bool.eq_false_iff]
  intro h
  obtain ⟨t, h1, h2, h3⟩ := (dirN_bit ps k r i).1 h
  have := hp t (by omega)
  omega
theorem clN_high {ps : List (Nat × Nat)} {n : Nat} (k r : Nat) (h : k ≤ r) : clN ps n k r = dirN ps ps.length r := by
  induction k with
  | zero => rfl
  | succ k ih => rw [clN, if_neg (by omega)]; exact ih (by omega)
theorem clN_low {ps : List (Nat × Nat)} {n r : Nat} (m : Nat) (h : r < m) : clN ps n m r = clN ps n (r + 1) r := by
  induction m with
  | zero => omega
  | succ m ih =>
    by_cases e : r = m
    · subst e; rfl
    · rw [clN, if_neg e]; exact ih (by omega)
theorem under_mkL {n : Nat} {g : Nat → Nat} {s b : Nat} : (under (mkL n g) s).testBit b = true ↔ ∃ e, e < n ∧ s.testBit e = true ∧ (g e).testBit b = true := by
  unfold under
  rw [underN_testBit, mkL_length]
  constructor
  · rintro ⟨e, h1, h2, h3⟩
    rw [mkL_getD h1, Int.toNat_natCast] at h3
    exact ⟨e, h1, h2, h3⟩
  · rintro ⟨e, h1, h2, h3⟩
    exact ⟨e, h1, h2, by rw [mkL_getD h1, Int.toNat_natCast]; exact h3⟩
theorem clN_fout {n : Nat} {ps : List (Nat × Nat)} (hp : UpPairs n ps) (r : Nat) : r < n → clN ps n n r = fout ps n r := by
  induction r using Nat.strongRecOn with
  | _ r ih =>
    intro hr
    apply Nat.eq_of_testBit_eq
    intro b
    rw [Bool.eq_iff_iff, fout_bit hp hr, clN_low n hr, clN, if_pos rfl, clN_high r r (Nat.le_refl _), Nat.testBit_or, Bool.or_eq_true, under_mkL, dirN_bit]
    constructor
    · rintro (⟨t, h1, h2, h3⟩ | ⟨e, h1, h2, h3⟩)
      · exact ⟨t, h1, h2, .inl h3⟩
      · obtain ⟨t, h4, h5, h6⟩ := (dirN_bit ps _ r e).1 h2
        have := hp t h4
        rw [clN_low r (by omega), ← clN_low n (by omega), ih e (by omega) (by omega)] at h3
        exact ⟨t, h4, h5, .inr (by rw [← h6]; exact h3)⟩
    · rintro ⟨t, h1, h2, h3⟩
      have := hp t h1
      rcases h3 with h3 | h3
      · exact .inl ⟨t, h1, h2, h3⟩
      · refine .inr ⟨(ps.getD t (0, 0)).1, by omega, (dirN_bit ps _ r _).2 ⟨t, h1, h2, rfl⟩, ?_⟩
        rw [clN_low r (by omega), ← clN_low n (by omega), ih _ (by omega) (by omega)]
        exact h3
theorem clN_lt {n : Nat} {ps : List (Nat × Nat)} (hp : UpPairs n ps) (hn : n ≤ 10) (k : Nat) (hk : k ≤ n) (r : Nat) : clN ps n k r < 1024 := by
  induction k generalizing r with
  | zero => exact dirN_lt hp hn _ (Nat.le_refl _) r
  | succ k ih =>
    unfold clN
    split
    · refine Nat.or_lt_two_pow (n := 10) (ih (by omega) k) ?_
      apply Nat.lt_pow_two_of_testBit
      intro i hi
      rw [Bool.eq_false_iff]
      intro h
      obtain ⟨e, h1, h2, h3⟩ := under_mkL.1 h
      have := ih (by omega) e
      rw [Nat.testBit_lt_two_pow (Nat.lt_of_lt_of_le this (Nat.pow_le_pow_right (n := 2) (by decide) hi : 2 ^ 10 ≤ 2 ^ i))] at h3
      cases h3
    · exact ih (by omega) r
theorem clN_full {n : Nat} {ps : List (Nat × Nat)} (hp : UpPairs n ps) : mkL n (clN ps n n) = fromL n ps := mkL_congr fun i hi => clN_fout hp i hi
end Go.Proofs.Ytpdoheagfjeefaa
