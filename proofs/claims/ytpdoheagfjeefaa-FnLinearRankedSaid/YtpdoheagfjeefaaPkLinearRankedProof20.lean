/- Texts SlideO, CycC, one behind the other. -/
import Derived.Test.YtpdoheagfjeefaaPkLinearRankedProof01
import Derived.Test.YtpdoheagfjeefaaPkLinearRankedProof02
import Derived.Test.YtpdoheagfjeefaaPkLinearRankedProof05
import Derived.Test.YtpdoheagfjeefaaPkLinearRankedProof07
import Derived.Test.YtpdoheagfjeefaaPkLinearRankedProof11
import Derived.Test.YtpdoheagfjeefaaPkLinearRankedProof14
import Derived.Test.YtpdoheagfjeefaaPkLinearRankedProof19
/- SlideOf of both sides: the calls. -/
namespace Go.Proofs.Ytpdoheagfjeefaa
open Go.RowKit Go.WideShapes Go.ChangeShapes
set_option linter.unusedVariables false

def ansSL (xs ws : List Int) : List Int := if okLin xs ws then sliL xs ws else []
theorem ansSL_no {xs ws : List Int} (h : okLin xs ws = false) : ansSL xs ws = [] := by simp [ansSL, h]
theorem ansSL_yes {xs ws : List Int} (h : okLin xs ws = true) : ansSL xs ws = sliL xs ws := by simp [ansSL, h]
theorem okLin_X {xs ws : List Int} (h : okLin xs ws = true) : LinX xs ws := orderB_LinX (okLin_all h).2
theorem ansSL_length (xs ws : List Int) : (ansSL xs ws).length ≤ 1048576 := by
  cases h : okLin xs ws
  · rw [ansSL_no h]; simp
  · rw [ansSL_yes h]
    have := (slS_last xs ws (xs.length - 1)).2.1
    have := (good_length (okLin_all h).1).2
    unfold sliL
    omega
theorem OwnI.one (e : TypeId) (w : World) (x : Int) (B : Nat) (hB : B ≤ w.heap.size) : OwnI e (w.alloc (.cells #[.int .i64 x] e)) B (.slice (some ⟨w.heap.size, 0, none⟩) 1 1) [x] :=
  Blk.own (xs := [x]) (Blk.new w e #[.int .i64 x]) hB (by simp)
theorem abvK_empty {xs : List Int} {j k : Nat} (h : ∀ e, e < k → coverB xs j e = false) : (abvK xs j k).length = 0 := by
  induction k with
  | zero => rfl
  | succ k ih => rw [abvK_succ, h k (by omega), if_neg (by decide)]; exact ih (fun e he => h e (by omega))
theorem hasL_abv {xs : List Int} {j n e : Nat} (he : e < n) : hasL (abvK xs j n) (e : Int) = coverB xs j e := by
  unfold hasL
  rw [Bool.eq_iff_iff, decide_eq_true_iff]
  exact abvK_mem xs j n e he
theorem last_cell {t : TypeId} {w : World} {B g M5 qc : Nat} {l : List Int} {x : Int} (h : OwnI t w B (.slice (some ⟨g, 0, none⟩) M5 qc) (l ++ [x])) : w.cell? ⟨g, l.length, none⟩ = some (.int .i64 x) := by
  obtain ⟨A', c', hsh, hcs⟩ := h.ints
  injection hsh with h1 h2 h3
  subst h1
  obtain ⟨b', o', hbo, -, hcc⟩ := hcs (by simp)
  injection hbo with hbo
  injection hbo with hb1 ho1
  subst hb1
  have h5 := hcc l.length (by simp)
  rw [← ho1, Nat.zero_add] at h5
  simpa [List.getD] using h5
theorem LinX.slS_lt {xs ws : List Int} (h : LinX xs ws) (k : Nat) (hk : k < xs.length) : (slS xs ws k).2 < xs.length := by
  induction k with
  | zero => exact (h.rng 0 hk).2
  | succ k ih =>
    cases hc : coverB xs (slS xs ws k).2 (wN ws (k + 1))
    · rw [slS_no hc]; exact ih (by omega)
    · rw [slS_yes hc]; exact (h.rng (k + 1) hk).2
theorem OwnI.cap {e : TypeId} {w : World} {B : Nat} {A : Option Addr} {n c : Nat} {xs : List Int} (h : OwnI e w B (.slice A n c) xs) : xs.length ≤ c := by
  rcases h.2 with ⟨h1, h2⟩ | ⟨g, cap, cur, h1, _, _, h2, _⟩
  · simp at h2; simp [h2]
  · injection h1 with _ _ h3; omega
set_option maxHeartbeats 3200000 in
theorem implSlideOf_any (v : Value) (xs : List Int) (u : Value) (ws : List Int) (w : World) {B0 : Nat} (hv : Ints w v xs) (hl : xs.length ≤ 1048576) (hu0 : OwnI 3 w B0 u ws) (hm : ws.length ≤ 1048576) :
    Calls Try.prog 52 #[.agg #[v], u] w fun (r : Ending) w' => ∃ q, r = Ending.returned (.tuple #[q, .bool (okLin xs ws)]) ∧ OwnI 3 w' w.heap.size q (ansSL xs ws) ∧ (ansSL xs ws).length ≤ 1048576 ∧ Below w.heap.size w w' := by
  have HV := hid hv
  have HU := hid hu0.ints
  have HL := hid (ansSL_length xs ws)
  obtain ⟨A, c, rfl, hA⟩ := hu0.ints
  have hcap := hu0.cap
  have HA := hid hA
  obtain ⟨A0', c0, rfl, hA0⟩ := hv
  have HA0 := hid hA0
  clear hA hA0 hu0
  go_enter Try.func52, Try.ntmps52
  have HB := hid (below_alloc (Below.refl _ w) (.cells #[(.slice A0' xs.length c0)] 26))
  have A0 := hid (At.newAt w (.slice A0' xs.length c0) 26 w.heap.size (by simp))
  go_wp2_with fail
  refine (hasLinear_any _ _ xs ws _ (HV.out.below HB.out) hl (HU.out.below HB.out) hm).mono ?_
  rintro e w' ⟨rfl, hb⟩
  replace HB := hid (below_to HB.out hb)
  replace A0 := hid (A0.out.below hb)
  clear hb
  cases hq : okLin xs ws
  · have HO := hid hq
    clear hq
    have ebox0 := A0.out.1
    go_wp2
    go_ret2
    exact ⟨_, ret_vbL HO.out.symm, by rw [ansSL_no HO.out]; exact OwnI.nil _ _ _, HL.out, HB.out⟩
  · have HO := hid hq
    have HX := hid (okLin_X hq)
    have HG := hid (okLin_all hq).1
    have HY := hid (ansSL_yes hq)
    have hl1 := (good_length HG.out).1
    have hl10 := (good_length HG.out).2
    have HSm := hid (good_small HG.out)
    obtain ⟨n, hn⟩ : ∃ n, xs.length = n + 1 := ⟨xs.length - 1, by omega⟩
    have HN := hid hn
    have hwl : ws.length = n + 1 := by rw [HX.out.len, hn]
    have HWL := hid hwl
    obtain ⟨b2, o2, rfl, hbl2, hc2⟩ := HA.out (by intro h; simp [h] at hwl)
    have h0 := (HX.out.rng 0 (by omega)).1
    have hcell0 := (HB.out.cell (p := ⟨b2, o2 + 0, none⟩) hbl2).trans (hc2 0 (by omega))
    rw [h0, Nat.add_zero] at hcell0
    have HC2 := hid hc2
    have hz := HB.out.size
    have HRes : Hid (sliL xs ws = (slS xs ws n).1) := hid (by unfold sliL; rw [hn]; rfl)
    rw [hwl] at hcap ⊢
    have hn10 : n < 10 := by omega
    have e1 : (n : Int) + 1 - 1 = (n : Int) := by omega
    have e2 : ((n + 1 : Nat) : Int) = (n : Int) + 1 := by omega
    have HS0 := hid (OwnI.one 3 w' (wN ws 0 : Int) w'.heap.size (Nat.le_refl _))
    clear hq hn hwl h0 hc2
    by_cases hc1 : c = 1
    · have hn0 : n = 0 := by omega
      subst hn0
      subst hc1
      have ebox0 := A0.out.1
      go_wp2
      clear e1 e2 hcell0
      go_loopw [6, 20] (fun q i wr => q = .slice (some ⟨w'.heap.size, 0, none⟩) 1 1 ∧ i = .int .i64 0 ∧ wr = w'.alloc (.cells #[.int .i64 (wN ws 0 : Int)] 3)) (fun _ _ _ => 0)
      case atStart => exact ⟨rfl, rfl, rfl⟩
      case round =>
        obtain ⟨rfl, rfl, rfl⟩ := hrel
        go_wp2
        go_ret2
        exact ⟨_, ret_vbL HO.out.symm, by rw [HY.out, HRes.out]; exact HS0.out.mono hz, HL.out, below_alloc HB.out _⟩
    · skip
      have ebox0 := A0.out.1
      go_wp2
      clear e1 e2 hcell0
      go_loopw [6, 20] (fun q i wr => ∃ k : Nat, k ≤ n ∧ i = .int .i64 k ∧ OwnI 3 wr w'.heap.size q (slS xs ws k).1 ∧ Below w'.heap.size w' wr) (fun _ i _ => n - (intOf i).toNat)
      case atStart => exact ⟨0, Nat.zero_le _, rfl, HS0.out, below_alloc (Below.refl _ _) _⟩
      case round =>
        obtain ⟨k, hk, rfl, ho, hb⟩ := hrel
        have HOw := hid ho
        have Hb := hid hb
        have hl3 := slS_last xs ws k
        obtain ⟨M, hL⟩ : ∃ M, (slS xs ws k).1.length = M := ⟨_, rfl⟩
        have HMl := hid hL
        obtain ⟨qA, qc, rfl, hqA⟩ := ho.shape
        rw [hL] at ho HOw hl3 ⊢
        obtain ⟨L, hLM⟩ : ∃ L, M = L + 1 := ⟨M - 1, by omega⟩
        have hML : M - 1 = L := by omega
        by_cases hlt : k < n
        · obtain ⟨g, rfl, hgl, hgB⟩ := hqA (by intro h; rw [h] at hL; simp at hL; omega)
          have hrg := HX.out.rng (k + 1) (by have := HN.out; omega)
          have hcw := HC2.out (k + 1) (by have := HWL.out; omega)
          rw [show o2 + (k + 1) = o2 + 1 + k by omega] at hcw
          have hcell := ((HB.out.trans (hb.mono hz)).cell (p := ⟨b2, o2 + 1 + k, none⟩) hbl2).trans hcw
          rw [hrg.1] at hcell
          have hex := hrg.2
          have HSy := hid (fun h => slS_yes (xs := xs) (ws := ws) (k := k) h)
          have HSn := hid (fun h => slS_no (xs := xs) (ws := ws) (k := k) h)
          have hlx := HX.out.slS_lt k (by have := HN.out; omega)
          obtain ⟨e, he⟩ : ∃ e, wN ws (k + 1) = e := ⟨_, rfl⟩
          rw [he] at hcell hex HSy HSn
          obtain ⟨b, o, rfl, hbl, hc⟩ := HA0.out (by intro h; have := HN.out; simp [h] at this)
          have hcp := ((HB.out.trans (hb.mono hz)).cell (p := ⟨b, o + e, none⟩) hbl).trans (hc e hex)
          have hr := row_lt HG.out hex
          have hr10 := row_lt10 HG.out hex
          have HCT := hid (cover_top HG.out hex (j := (slS xs ws k).2))
          rw [show (xs.getD e 0).toNat = row xs e from rfl] at HCT
          obtain ⟨z, hz'⟩ : ∃ z, row xs e = z := ⟨_, rfl⟩
          rw [hz'] at hr hr10 HCT
          rw [hr.1] at hcp
          have hcl : wr.cell? ⟨g, L, none⟩ = some (.int .i64 ((slS xs ws k).2 : Int)) := by
            obtain ⟨A', c', hsh, hcs⟩ := ho.ints
            injection hsh with h1 h2 h3
            subst h1
            obtain ⟨b', o', hbo, -, hcc⟩ := hcs (by intro h; rw [h] at hL; simp at hL; omega)
            injection hbo with hbo
            injection hbo with hb1 ho1
            subst hb1
            have h5 := hcc L (by omega)
            have h6 := hl3.2.2
            rw [hML] at h6
            rw [h6, ← ho1, Nat.zero_add] at h5
            exact h5
          obtain ⟨l, hl'⟩ : ∃ l, (slS xs ws k).2 = l := ⟨_, rfl⟩
          rw [hl'] at hcl HSy HSn HCT hlx
          have HTop : Hid (∀ W, Below wr.heap.size wr W → Calls Try.prog 108 #[.agg #[.slice (some ⟨b, o, none⟩) xs.length c0], .int .i64 z] W fun r w2 => r = .returned (.int .i64 (top xs z : Nat)) ∧ Below wr.heap.size wr w2) := hid (fun W hW => (top_any (.slice (some ⟨b, o, none⟩) xs.length c0) xs z W (((HV.out.below HB.out).below Hb.out).below hW) hl10 (by omega) (HSm.out z)).mono (fun _ _ h => ⟨h.1, below_to hW h.2⟩))
          have hT10 := top_lt (xs := xs) (s := z) (by omega)
          obtain ⟨T, hT⟩ : ∃ T, top xs z = T := ⟨_, rfl⟩
          rw [hT] at HTop HCT hT10
          have HHas := hid (fun W => hasElement_any T l (by omega) (by omega) W)
          rw [HCT.out] at HHas
          have HCP := hid hcp
          have HCL := hid hcl
          have HA1 := hid (A0.out.below hb)
          have hbx := HA1.out.1
          have e3 : (M : Int) - 1 = (L : Int) := by omega
          have wL : IntKind.i64.wrap (L : Int) = (L : Int) := IntWalk.i64_in _ (by omega)
          have hLMi : (L : Int) < (M : Int) := by omega
          have hM11 : M ≤ 11 := by omega
          have hei : (e : Int) < xs.length := by omega
          have hki : k < 10 := by omega
          have hbw : b < wr.heap.size := Nat.lt_of_lt_of_le hbl (HB.out.trans (hb.mono hz)).size
          clear hcw ho hb hqA hl3 hrg he hc hr hz' hT hl' hL hML hLM
          cases hcv : coverB xs l e
          · have HE := hid (HSn.out hcv)
            have HHf : Hid (∀ W, Calls Try.prog 94 #[.int .i64 T, .int .i64 l] W fun r w' => r = .returned (.bool false) ∧ W = w') := hid (by rw [← hcv]; exact HHas.out)
            clear hcv
            go_wp2_with fail
            go_region_held3 (fun W => W.cell? ⟨w.heap.size, 0, none⟩ = some (.slice (some ⟨b, o, none⟩) xs.length c0) ∧ W.cell? ⟨b, o + e, none⟩ = some (.int .i64 z) ∧ W.cell? ⟨g, L, none⟩ = some (.int .i64 l) ∧ Hid (Below wr.heap.size wr W)) (first | exact ⟨HA1.out.drew.1, HCP.out, HCL.out, hid (Below.refl _ _).drew⟩ | exact ⟨(HA1.out.below HS2.out).1, (HS2.out.cell (p := ⟨b, o + e, none⟩) hbw).trans HCP.out, (HS2.out.cell (p := ⟨g, L, none⟩) hgl).trans HCL.out, HS2⟩) (first | (go_at_call 108; refine (HTop.out _ (Hid.out (by first | assumption | exact hid (Below.refl _ _).drew))).mono ?_; rintro e' w4 ⟨rfl, hs4⟩; have HS2 := hid hs4; clear hs4) | (go_at_call 94; refine (HHf.out _).mono ?_; rintro e' w5 ⟨rfl, rfl⟩))
            clear e3 wL hLMi hbx hcp hcl hcell ‹_ ∧ _ ∧ _ ∧ Hid (Below wr.heap.size wr w4)›
            have HO4 := hid (HOw.out.below HS2.out)
            have Hb4 := hid (below_to Hb.out HS2.out)
            go_wp2
            go_roundw
            case rel => exact ⟨k + 1, by omega, by go_num, by rw [HE.out]; exact HO4.out, Hb4.out⟩
            case measure => simp [intOf]; omega
          · have HE := hid (HSy.out hcv)
            have HHf : Hid (∀ W, Calls Try.prog 94 #[.int .i64 T, .int .i64 l] W fun r w' => r = .returned (.bool true) ∧ W = w') := hid (by rw [← hcv]; exact HHas.out)
            clear hcv
            go_wp2_with fail
            go_region_held3 (fun W => W.cell? ⟨w.heap.size, 0, none⟩ = some (.slice (some ⟨b, o, none⟩) xs.length c0) ∧ W.cell? ⟨b, o + e, none⟩ = some (.int .i64 z) ∧ W.cell? ⟨g, L, none⟩ = some (.int .i64 l) ∧ Hid (Below wr.heap.size wr W)) (first | exact ⟨HA1.out.drew.1, HCP.out, HCL.out, hid (Below.refl _ _).drew⟩ | exact ⟨(HA1.out.below HS2.out).1, (HS2.out.cell (p := ⟨b, o + e, none⟩) hbw).trans HCP.out, (HS2.out.cell (p := ⟨g, L, none⟩) hgl).trans HCL.out, HS2⟩) (first | (go_at_call 108; refine (HTop.out _ (Hid.out (by first | assumption | exact hid (Below.refl _ _).drew))).mono ?_; rintro e' w4 ⟨rfl, hs4⟩; have HS2 := hid hs4; clear hs4) | (go_at_call 94; refine (HHf.out _).mono ?_; rintro e' w5 ⟨rfl, rfl⟩))
            clear e3 wL hLMi hbx hcp hcl hcell ‹_ ∧ _ ∧ _ ∧ Hid (Below wr.heap.size wr w4)›
            have HO4 := hid (HOw.out.below HS2.out)
            have Hb4 := hid (below_to Hb.out HS2.out)
            have hz4 := Hb4.out.size
            go_wp2_with (at_builtin; refine wpList_append_int rfl _ _ 24 3 rfl Try.underlying24 Try.info3 w'.heap.size _ (slS xs ws k).1 (e : Int) rfl HO4.out rfl rfl (by rw [HMl.out]; omega) hz4 ?_; rintro u5 w5 ho5 hb5)
            go_roundw
            case rel => exact ⟨k + 1, by omega, by go_num, by rw [HE.out]; exact ho5, Hb4.out.trans hb5⟩
            case measure => simp [intOf]; omega
        · obtain rfl : k = n := by omega
          clear ho hb
          go_wp2
          go_ret2
          exact ⟨_, ret_vbL HO.out.symm, by rw [HY.out, HRes.out]; exact HOw.out.mono hz, HL.out, below_to HB.out Hb.out⟩
set_option maxHeartbeats 3200000 in
theorem specSlideOf_any (v : Value) (xs : List Int) (u : Value) (ws : List Int) (w : World) (hv : Ints w v xs) (hl : xs.length ≤ 1048576) (hu : Ints w u ws) (hm : ws.length ≤ 1048576) :
    Calls Try.prog 53 #[.agg #[v], u] w fun (r : Ending) w' => ∃ q, r = Ending.returned (.tuple #[q, .bool (okLin xs ws)]) ∧ OwnI 3 w' w.heap.size q (ansSL xs ws) ∧ (ansSL xs ws).length ≤ 1048576 ∧ Below w.heap.size w w' := by
  have HV := hid hv
  have HU := hid hu
  have HL := hid (ansSL_length xs ws)
  obtain ⟨A, c, rfl, hA⟩ := hu
  have HA := hid hA
  clear hA hv
  go_enter Try.func53, Try.ntmps53
  have HB := hid (below_alloc (Below.refl _ w) (.cells #[v] 26))
  have A0 := hid (At.newAt w v 26 w.heap.size (by simp))
  go_wp2_with fail
  refine (liGiven_any _ _ xs ws _ (HV.out.below HB.out) hl (HU.out.below HB.out) hm).mono ?_
  rintro e w' ⟨rfl, hb⟩
  replace HB := hid (below_to HB.out hb)
  replace A0 := hid (A0.out.below hb)
  clear hb
  cases hq : okLin xs ws
  · have HO := hid hq
    clear hq
    have ebox0 := A0.out.1
    go_wp2
    go_ret2
    exact ⟨_, ret_vbL HO.out.symm, by rw [ansSL_no HO.out]; exact OwnI.nil _ _ _, HL.out, HB.out⟩
  · have HO := hid hq
    have HX := hid (okLin_X hq)
    have HG := hid (okLin_all hq).1
    have HY := hid (ansSL_yes hq)
    have hl1 := (good_length HG.out).1
    have hl10 := (good_length HG.out).2
    obtain ⟨n, hn⟩ : ∃ n, xs.length = n := ⟨_, rfl⟩
    have HN := hid hn
    have hwl : ws.length = n := by rw [HX.out.len, hn]
    have HWL := hid hwl
    rw [hn] at hl1 hl10
    obtain ⟨b2, o2, rfl, hbl2, hc2⟩ := HA.out (by intro h; simp [h] at hwl; omega)
    have h0 := (HX.out.rng 0 (by omega)).1
    have hcell0 := (HB.out.cell (p := ⟨b2, o2 + 0, none⟩) hbl2).trans (hc2 0 (by omega))
    rw [h0, Nat.add_zero] at hcell0
    have HC2 := hid hc2
    have hz := HB.out.size
    have h0n : wN ws 0 < n := by have := (HX.out.rng 0 (by omega)).2; omega
    have H0N := hid h0n
    rw [hwl]
    have HS0 := hid (OwnI.one 3 w' (wN ws 0 : Int) w'.heap.size (Nat.le_refl _))
    obtain ⟨W0, hW0⟩ : ∃ W0, w'.alloc (.cells #[.int .i64 (wN ws 0 : Int)] 3) = W0 := ⟨_, rfl⟩
    have HB0 : Hid (Below w'.heap.size w' W0) := hid (by rw [← hW0]; exact below_alloc (Below.refl _ _) _)
    rw [hW0] at HS0
    have HC0 : Hid (W0.cell? ⟨b2, o2, none⟩ = some (.int .i64 (wN ws 0 : Int))) := hid ((HB0.out.cell (p := ⟨b2, o2, none⟩) (Nat.lt_of_lt_of_le hbl2 hz)).trans hcell0)
    have HCov : Hid (∀ (j : Nat), j < n → ∀ W, Below w'.heap.size w' W → Calls Try.prog 122 #[.agg #[v], .int .i64 j] W fun (r : Ending) w2 => ∃ u, r = Ending.returned u ∧ OwnI 3 w2 W.heap.size u (abvK xs j n) ∧ Below W.heap.size W w2) := hid (fun j hj W hW => by
      have := liCovers_any v xs j W ((HV.out.below HB.out).below hW) HG.out (by omega)
      rw [HN.out] at this; exact this)
    have hn10 : (0 : Int) < (n : Int) := by omega
    have hn11 : 0 < n := by omega
    have hn12 : ¬ n = 0 := by omega
    clear hq hn hwl h0 hc2 h0n
    have ebox0 := A0.out.1
    go_wp2
    have hbx := (A0.out.below HB0.out).1
    have hc0 := HC0.out
    have HAt0 := hid (A0.out.below HB0.out)
    clear hcell0 hW0
    go_region_held3 (fun W => W.cell? ⟨w.heap.size, 0, none⟩ = some v ∧ W.cell? ⟨b2, o2, none⟩ = some (.int .i64 (wN ws 0 : Int)) ∧ Hid (Below W0.heap.size W0 W)) (first | exact ⟨HAt0.out.drew.1, HC0.out, hid (Below.refl _ _).drew⟩ | exact ⟨(HAt0.out.below HS2.out).1, (HS2.out.cell (p := ⟨b2, o2, none⟩) (World.block_lt_of_cell? W0 _ HC0.out)).trans HC0.out, HS2⟩) (first | (go_at_call 122; refine (HCov.out _ H0N.out _ (below_to HB0.out (Hid.out (by first | assumption | exact hid (Below.refl _ _).drew)))).mono ?_; rintro e' w4 ⟨u4, rfl, ho4, hs4⟩; obtain ⟨u4A, u4n, u4c, rfl⟩ := ho4.shape3; have HO4 := hid ho4.ints; have HS2 := hid (below_to (Hid.out (by first | assumption | exact hid (Below.refl W0.heap.size W0).drew)) hs4); clear ho4 hs4))
    have HS4 := hid (HS0.out.below HS2.out)
    have Hb4 := hid (below_to HB0.out HS2.out)
    clear hbx hc0
    have hn1 : n ≤ 10 := hl10
    go_wp2
    go_loopw [6, 7] (fun q a wr => ∃ k : Nat, k < n ∧ OwnI 3 wr w'.heap.size q (slS xs ws k).1 ∧ Hid ((slS xs ws k).2 = wN ws k) ∧ Ints wr a (abvK xs (wN ws k) n) ∧ Below w'.heap.size w' wr) (fun q _ _ => n - (match q with | .slice _ m _ => m | _ => 0))
    case atStart => exact ⟨0, by omega, HS4.out, hid rfl, HO4.out, Hb4.out⟩
    case round =>
      obtain ⟨k, hk, ho, HK, hi, hb⟩ := hrel
      have HOw := hid ho
      have HI := hid hi
      have Hb := hid hb
      have hl3 := slS_last xs ws k
      obtain ⟨qA, qc, rfl, -⟩ := ho.shape
      obtain ⟨M, hM⟩ : ∃ M, (slS xs ws k).1.length = M := ⟨_, rfl⟩
      have HM := hid hM
      rw [hM] at ho HOw hl3 ⊢
      have HOw := hid ho
      obtain ⟨aA, ac, rfl, -⟩ := hi
      obtain ⟨La, hLa⟩ : ∃ La, (abvK xs (wN ws k) n).length = La := ⟨_, rfl⟩
      rw [hLa] at HI ⊢
      have HLa := hid hLa
      have hLa2 := abvK_length xs (wN ws k) n
      rw [hLa] at hLa2
      have hMk : M ≤ k + 1 := hl3.2.1
      clear ho hb hM hLa hl3
      by_cases h0 : La = 0
      · subst h0
        have HEnd := hid (HX.out.slide_end (k := k) (by rw [HN.out]; exact hk) HK.out (fun e he => abvK_nil HLa.out e (by rw [← HN.out]; exact he)))
        go_wp2
        go_ret2
        exact ⟨_, ret_vbL HO.out.symm, by rw [HY.out, HEnd.out]; exact HOw.out.mono hz, HL.out, below_to HB.out Hb.out⟩
      · have hLp : (0 : Int) < (La : Int) := by omega
        have hLd : decide ((0 : Int) < (La : Int)) = true := by simp; omega
        have hLe : decide (0 < La) = true := by simp; omega
        have HH0 := hid h0
        clear h0 hLp
        go_wp2
        clear hLd hLe
        go_loopw [6, 36] (fun q' t wi => ∃ j : Nat, j ≤ n ∧ t = .int .i64 j ∧ q' = .slice qA M qc ∧ Hid (∀ i, i < j → coverB xs (wN ws k) (wN ws i) = false) ∧ wi = wr) (fun _ t _ => n - (intOf t).toNat)
        case atStart => exact ⟨0, Nat.zero_le _, rfl, rfl, hid (fun i h => absurd h (Nat.not_lt_zero _)), rfl⟩
        case round =>
          obtain ⟨j, hj, rfl, rfl, HJ, rfl⟩ := hrel
          by_cases hlt : j < n
          · have hrg := HX.out.rng j (by rw [HN.out]; exact hlt)
            have hcell := ((HB.out.trans (Hb.out.mono hz)).cell (p := ⟨b2, o2 + j, none⟩) hbl2).trans (HC2.out j (by rw [HWL.out]; exact hlt))
            rw [hrg.1] at hcell
            have hen : wN ws j < n := by rw [← HN.out]; exact hrg.2
            have HEN := hid hen
            have HHas := hid (hasL_abv (xs := xs) (j := wN ws k) hen)
            have HSl := hid (fun h => HX.out.slide (k := k) (t := j) (by rw [HN.out]; exact hk) (by rw [HN.out]; exact hlt) HK.out HJ.out h)
            have hLl : (abvK xs (wN ws k) n).length ≤ 1048576 := by have := HLa.out; omega
            clear hrg hen
            go_wp2_with fail
            refine (l1HasL_any _ (abvK xs (wN ws k) n) (wN ws j : Int) _ HI.out hLl).mono ?_
            rw [HHas.out]
            rintro e' w5 ⟨rfl, rfl⟩
            cases hcv : coverB xs (wN ws k) (wN ws j)
            · have HJ2 : Hid (∀ i, i < j + 1 → coverB xs (wN ws k) (wN ws i) = false) := hid (fun i hi => by
                by_cases e : i = j
                · subst e; exact hcv
                · exact HJ.out i (by omega))
              clear hcv
              go_wp2
              go_roundw
              case rel => exact ⟨j + 1, by omega, by go_num, rfl, HJ2, by first | trivial | rfl⟩
              case measure => simp [intOf]; omega
            · have HE := hid (HSl.out hcv)
              have hwz := Hb.out.size
              clear hcv
              go_wp2_with (at_builtin; refine wpList_append_int rfl _ _ 24 3 rfl Try.underlying24 Try.info3 w'.heap.size _ (slS xs ws k).1 (wN ws j : Int) rfl HOw.out rfl rfl (by rw [HM.out]; omega) hwz ?_; rintro u6 w6 ho6 hb6; obtain ⟨q6A, q6c, hsh6, hq6⟩ := ho6.shape; obtain ⟨M6, hM6⟩ : ∃ M6, ((slS xs ws k).1 ++ [(wN ws j : Int)]).length = M6 := ⟨_, rfl⟩; rw [hM6] at hsh6; subst hsh6; have HM6 := hid hM6; clear hM6)
              have hM6 := HM6.out
              obtain ⟨g6, rfl, hg6, -⟩ := hq6 (by simp)
              have hcl := last_cell ho6
              rw [HM.out] at hcl
              have hM6' : M6 = M + 1 := by rw [← hM6, List.length_append, HM.out]; rfl
              have HO6 := hid ho6
              have Hb6 := hid (Hb.out.trans hb6)
              have HA6 := hid (A0.out.below Hb6.out)
              have hbx6 := HA6.out.1
              have e3 : (M6 : Int) - 1 = (M : Int) := by omega
              have wL : IntKind.i64.wrap (M : Int) = (M : Int) := IntWalk.i64_in _ (by omega)
              have hLMi : (M : Int) < (M6 : Int) := by omega
              have HM6' := hid hM6'
              have HCL := hid hcl
              clear ho6 hb6 hq6 hM6 hM6' hcell
              go_wp2_with fail
              go_region_held3 (fun W => W.cell? ⟨w.heap.size, 0, none⟩ = some v ∧ W.cell? ⟨g6, M, none⟩ = some (.int .i64 (wN ws j : Int)) ∧ Hid (Below w6.heap.size w6 W)) (first | exact ⟨HA6.out.drew.1, HCL.out, hid (Below.refl _ _).drew⟩ | exact ⟨(HA6.out.below HS7.out).1, (HS7.out.cell (p := ⟨g6, M, none⟩) hg6).trans HCL.out, HS7⟩) (first | (go_at_call 122; refine (HCov.out _ HEN.out _ (below_to Hb6.out (Hid.out (by first | assumption | exact hid (Below.refl _ _).drew)))).mono ?_; rintro e' w7 ⟨u7, rfl, ho7, hs7⟩; obtain ⟨u7A, u7n, u7c, rfl⟩ := ho7.shape3; have HO7 := hid ho7.ints; have HS7 := hid (below_to (Hid.out (by first | assumption | exact hid (Below.refl w6.heap.size w6).drew)) hs7); clear ho7 hs7))
              have HO8 := hid (HO6.out.below HS7.out)
              have Hb8 := hid (below_to Hb6.out HS7.out)
              clear hbx6 e3 wL hLMi hcl
              go_wp2
              go_roundw
              case rel => exact ⟨j, hlt, by rw [HE.out.2]; exact HO8.out, hid (by rw [HE.out.2]), HO7.out, Hb8.out⟩
              case measure => have := HM6'.out; have := HE.out.1; simp; omega
          · obtain rfl : j = n := by omega
            exfalso
            have h1 := abvK_empty (xs := xs) (j := wN ws k) (k := j) (fun e he => HX.out.slide_has (k := k) (fun i hi => HJ.out i (by rw [← HN.out]; exact hi)) (by rw [HN.out]; exact he))
            rw [HLa.out] at h1
            exact HH0.out h1
end Go.Proofs.Ytpdoheagfjeefaa

/- Cycles of a word on the ideals. -/
namespace Go.Proofs.Ytpdoheagfjeefaa
open Go.RowKit Go.WideShapes Go.ChangeShapes
set_option linter.unusedVariables false

theorem setsL_bound {f : Nat → Bool} {N j : Nat} (hj : j < (setsL f N).length) : ∃ s : Nat, (setsL f N).getD j 0 = (s : Int) ∧ s < N ∧ f s = true := by
  have hj' : j < ((List.range N).filter f).length := by simpa [setsL] using hj
  have hmem2 := List.mem_filter.1 (List.getElem_mem hj')
  exact ⟨((List.range N).filter f)[j], by simp [setsL, List.getD, hj'], List.mem_range.1 hmem2.1, hmem2.2⟩
/-- the word's motion on sets -/
def wordF (xs ys : List Int) (s : Nat) : Nat := togW xs s ys

set_option maxHeartbeats 3200000 in
theorem tgCycles_any (v u : Value) (xs ys : List Int) (w : World) (hv : Ints w v xs) (hu : Ints w u ys) (hg : good xs = true) (hy : inW xs.length ys = true) (hm : ys.length ≤ 1048576) :
    Calls Try.prog 113 #[.agg #[v], u] w fun (r : Ending) w' => ∃ q, r = Ending.returned q ∧ OwnI 3 w' w.heap.size q (cyclesL (wordF xs ys) (2 ^ xs.length) (setsL (holdsIdeal xs) (2 ^ xs.length))) ∧ Below w.heap.size w w' := by
  have hl10 := (good_length hg).2
  have HV := hid hv
  have HUW := hid hu
  have HG := hid hg
  have HY := hid hy
  obtain ⟨A, c, rfl, -⟩ := hv
  obtain ⟨N, hN⟩ : ∃ N, 2 ^ xs.length = N := ⟨_, rfl⟩
  have hN2 := two_pow_le xs.length hl10
  rw [hN] at hN2
  obtain ⟨I, hI⟩ : ∃ I, setsL (holdsIdeal xs) N = I := ⟨_, rfl⟩
  have HAt := hid (fun j hj => setsL_bound (f := holdsIdeal xs) (N := N) (j := j) hj)
  have hIN := setsL_length (holdsIdeal xs) N
  rw [hI] at HAt hIN
  rw [hN, hI]
  have HI := hid (show setsL (holdsIdeal xs) (2 ^ xs.length) = I by rw [hN]; exact hI)
  have HN := hid hN
  have wp : wrap64 ((2 : Int) ^ xs.length) = (N : Int) := by rw [wrap_pow xs.length hl10, hN]
  have hmk := run_make_row' (P := Try.prog) 115 4 (.bool false) 1 Try.underlying115 infoBool rfl .i64 .i64 N (by omega) (by omega)
  clear hu hg hy hI
  go_enter Try.func113, Try.ntmps113
  go_wp2_with fail
  clear wp
  refine (poIdeals_any _ xs _ ((HV.out.alloc _).alloc _) HG.out).mono ?_
  rw [HI.out]
  rintro e w' ⟨iu, rfl, ho, hb⟩
  obtain ⟨g, hg⟩ : ∃ g, w.heap.size + 1 = g := ⟨_, rfl⟩
  have HB := hid (below_to (below_alloc (below_alloc (Below.refl _ w) _) _) hb)
  have HBox : Hid (At w' w.heap.size (.slice A xs.length c)) := hid (((At.new _ _ _).alloc _).below hb)
  have HSeen : Hid (Blk w' g 4 (BVals (List.replicate N false))) := hid (by
    subst hg
    rw [← BVals_made]
    exact (Blk.newAt _ 4 (madeCells #[.bool false] N) (w.heap.size + 1) (by simp)).below hb (by simp))
  obtain ⟨iA, iN, ic, rfl⟩ := ho.shape3
  have hiN : iN = I.length := by
    obtain ⟨_, _, h, _⟩ := ho.shape
    cases h; rfl
  subst hiN
  have HO := hid (ho.mono (B' := g + 1) (by simp; omega))
  have HOB : Hid (∀ k, (Value.slice iA I.length ic).ownBlock = some k → g + 1 ≤ k ∧ k < w'.heap.size) := hid (fun k hk => by
    have h1 := ho.blockLt k hk
    simp at h1
    omega)
  have hgw : g < w'.heap.size := HSeen.out.lt
  have hwg : w.heap.size < g := by omega
  have hbx := HBox.out.1
  rw [hg]
  clear hb ho hmk hg hN
  go_wp2
  clear hbx
  go_loopw [5, 18] (fun q i wr => ∃ (j : Nat) (oA : Option Addr) (on oc : Nat), j ≤ I.length ∧ i = .int .i64 j ∧ q = .slice oA on oc ∧ Blk wr g 4 (BVals (cycSt (wordF xs ys) N I j).1) ∧ OwnI 3 wr w'.heap.size (.slice oA on oc) (cycSt (wordF xs ys) N I j).2 ∧ TurnedIn g (g + 1) w' wr) (fun _ i _ => I.length - (intOf i).toNat)
  case atStart => exact ⟨0, none, 0, 0, Nat.zero_le _, rfl, rfl, HSeen.out, OwnI.nil _ _ _, TurnedIn.refl _ _ _⟩
  case round =>
    obtain ⟨j, oA, on, oc, hj, rfl, rfl, hB, hq, ht⟩ := hrel
    have HBk := hid hB
    have HQ := hid hq
    have HT := hid ht
    clear hB hq
    by_cases hlt : j < I.length
    · obtain ⟨s, hs, hsN, hIs⟩ := HAt.out j hlt
      have hoi := HO.out.turned ht HOB.out (.inr (Nat.le_refl _))
      have hcell : ∃ b, iA = some ⟨b, 0, none⟩ ∧ wr.cell? ⟨b, 0 + j, none⟩ = some (.int .i64 s) := by
        obtain ⟨A', c', h1, h2⟩ := hoi.shape
        obtain ⟨A2, c2, h3, h4⟩ := hoi.ints
        cases h1
        obtain ⟨b, h5, -, -⟩ := h2 (by intro h; simp [h] at hlt)
        cases h3
        obtain ⟨b2, o2, h6, -, h7⟩ := h4 (by intro h; simp [h] at hlt)
        have h8 : b2 = b ∧ o2 = 0 := by rw [h5] at h6; cases h6; exact ⟨rfl, rfl⟩
        obtain ⟨rfl, rfl⟩ := h8
        exact ⟨_, h5, by rw [h7 j hlt, hs]⟩
      obtain ⟨b, rfl, hcell⟩ := hcell
      rw [Nat.zero_add] at hcell
      have HS := hid hs
      obtain ⟨seen0, hs0⟩ : ∃ l, (cycSt (wordF xs ys) N I j).1 = l := ⟨_, rfl⟩
      obtain ⟨out0, ho0⟩ : ∃ l, (cycSt (wordF xs ys) N I j).2 = l := ⟨_, rfl⟩
      have hlen := cycSt_length (wordF xs ys) N I j
      rw [hs0] at HBk hlen
      rw [ho0] at HQ hlen
      obtain ⟨R, hR⟩ : ∃ R, cyc1 (wordF xs ys) seen0 s 0 = R := ⟨_, rfl⟩
      have HStep : Hid (cycSt (wordF xs ys) N I (j + 1) = (R.1, if 0 < R.2 then out0 ++ [(R.2 : Int)] else out0)) := hid (by
        simp only [cycSt, hs0, ho0, hs, Int.toNat_natCast, hR])
      have HLen := hid hlen.1
      have ho10 : out0.length ≤ 1024 := by omega
      have hc0 := cntF_le seen0
      have hc1 : 0 + cntF seen0 ≤ N := by rw [← hlen.1]; omega
      have HR := hid hR
      clear hs hs0 ho0 hR hoi ht hIs hlen hc0
      go_wp2
      clear hcell
      go_loopw [8, 9] (fun a i wi => ∃ (seen : List Bool) (t n : Nat), a = .int .i64 t ∧ i = .int .i64 n ∧ t < N ∧ Hid (seen.length = N) ∧ n + cntF seen ≤ N ∧ Hid (cyc1 (wordF xs ys) seen t n = R) ∧ Blk wi g 4 (BVals seen) ∧ Hid (OwnI 3 wi w'.heap.size (.slice oA on oc) out0) ∧ TurnedIn g (g + 1) w' wi) (fun _ i _ => N - (intOf i).toNat)
      case atStart => exact ⟨seen0, s, 0, rfl, rfl, hsN, HLen, hc1, HR, HBk.out, HQ, HT.out⟩
      case round =>
        obtain ⟨seen, t, n, rfl, rfl, htN, HSL, hcn, HC, hB, HOut, ht⟩ := hrel
        have hct : wr.cell? ⟨g, t, none⟩ = some (.bool (seen.getD t true)) := by
          rw [hB.cell, BVals_get (by rw [HSL.out]; exact htN)]
        have hft := hB.frozen t
        have HBk2 := hid hB
        have HT2 := hid ht
        clear hB ht
        cases hst : seen.getD t true
        · rw [hst] at hct
          have hcs := cntF_set (show t < seen.length by rw [HSL.out]; exact htN) hst
          have HGo := hid (cyc1_go (f := wordF xs ys) (n := n) (show t < seen.length by rw [HSL.out]; exact htN) hst)
          have hn1 : n < N := by omega
          have hcn2 : n + 1 + cntF (seen.set t true) ≤ N := by omega
          have HL2 : Hid ((seen.set t true).length = N) := hid (by rw [List.length_set]; exact HSL.out)
          have hbox := (HBox.out.turned HT2.out (.inl hwg)).1
          have hboxz := (HBox.out.turned HT2.out (.inl hwg)).2
          have hne : w.heap.size ≠ g := by omega
          have hf1 : wordF xs ys t < N := by rw [← HN.out]; exact togW_lt (by rw [HN.out]; exact htN) HY.out
          have HBk3 : Hid (Blk (wr.setCell ⟨g, t, none⟩ (.bool true)) g 4 (BVals (seen.set t true))) := hid (by rw [← BVals_set]; exact HBk2.out.set_ t _)
          have HT3 : Hid (TurnedIn g (g + 1) w' (wr.setCell ⟨g, t, none⟩ (.bool true))) := hid (HT2.out.set_ ⟨g, t, none⟩ ⟨Nat.le_refl _, Nat.lt_succ_self _⟩ _)
          have HOut3 : Hid (OwnI 3 (wr.setCell ⟨g, t, none⟩ (.bool true)) w'.heap.size (.slice oA on oc) out0) := hid (HOut.out.grown (grown_setCell (World.grownBy.refl _ _) t _) (HOut.out.apart (.inl hgw)))
          have HB3 := hid (below_turned HB.out HT3.out (Nat.le_of_lt hwg))
          have HTN : Hid (t < 2 ^ xs.length) := hid (by rw [HN.out]; exact htN)
          have hbox3 := (HBox.out.turned HT3.out (.inl hwg)).1
          clear hst hcs
          go_wp2_with fail
          clear hct hft hbox hboxz hbox3
          refine (tgWord_any _ _ xs ys t _ (HV.out.below HB3.out) (HUW.out.below HB3.out) HG.out HTN.out HY.out hm).mono ?_
          rintro e' w5 ⟨rfl, hb5⟩
          have HBk5 := hid (HBk3.out.below hb5 HBk3.out.lt)
          have HT5 := hid (HT3.out.trans (TurnedIn.of_below hb5))
          have HOut5 := hid (HOut3.out.below hb5)
          clear hb5
          go_wp2
          go_roundw
          case rel => exact ⟨seen.set t true, wordF xs ys t, n + 1, rfl, by go_num, hf1, HL2, hcn2, hid (by rw [← HGo.out]; exact HC.out), HBk5.out, HOut5, HT5.out⟩
          case measure => simp [intOf]; omega
        · rw [hst] at hct
          have HStop : Hid (R = (seen, n)) := hid (by rw [← HC.out]; exact cyc1_stop hst)
          have hnN : n ≤ N := by omega
          have HBel := hid (below_turned HB.out HT2.out (Nat.le_of_lt hwg))
          clear hst
          by_cases hn0 : 0 < n
          · have HSt2 : Hid (cycSt (wordF xs ys) N I (j + 1) = (seen, out0 ++ [(n : Int)])) := hid (by rw [HStep.out, HStop.out]; simp [hn0])
            have hwz : w'.heap.size ≤ wr.heap.size := HT2.out.size
            go_wp2_with (at_builtin; refine wpList_append_int rfl _ _ 24 3 rfl Try.underlying24 Try.info3 w'.heap.size _ _ n rfl HOut.out rfl rfl (by omega) (by omega) ?_; rintro q2 w6 ho6 hb6; obtain ⟨qA, qn, qc, rfl⟩ := ho6.shape3)
            go_roundw
            case rel => exact ⟨j + 1, qA, qn, qc, by omega, by go_num, rfl, (by rw [HSt2.out]; exact HBk2.out.below hb6 hgw), (by rw [HSt2.out]; exact ho6), HT2.out.belowB hb6 (Nat.le_refl _)⟩
            case measure => simp [intOf]; omega
          · have HSt2 : Hid (cycSt (wordF xs ys) N I (j + 1) = (seen, out0)) := hid (by rw [HStep.out, HStop.out]; simp [hn0])
            go_wp2
            go_roundw
            case rel => exact ⟨j + 1, oA, on, oc, by omega, by go_num, rfl, (by rw [HSt2.out]; exact HBk2.out), (by rw [HSt2.out]; exact HOut.out), HT2.out⟩
            case measure => simp [intOf]; omega
    · obtain rfl : j = I.length := by omega
      have HBel := hid (below_turned HB.out ht (Nat.le_of_lt hwg))
      have hww := HB.out.size
      clear ht
      go_wp2
      go_ret
      exact ⟨_, rfl, HQ.out.mono hww, HBel.out⟩

set_option maxHeartbeats 3200000 in
theorem cyclesOf_any (v u : Value) (xs ys : List Int) (w : World) (hv : Ints w v xs) (hu : Ints w u ys) (hg : good xs = true) (hy : inW xs.length ys = true) (hm : ys.length ≤ 1048576) :
    Calls Try.prog 112 #[.agg #[v], .iface 82 u] w fun (r : Ending) w' => ∃ q, r = Ending.returned q ∧ OwnI 3 w' w.heap.size q (cyclesL (wordF xs ys) (2 ^ xs.length) (setsL (holdsIdeal xs) (2 ^ xs.length))) ∧ Below w.heap.size w w' := by
  have hl10 := (good_length hg).2
  have HV := hid hv
  have HUW := hid hu
  have HG := hid hg
  have HY := hid hy
  obtain ⟨A, c, rfl, -⟩ := hv
  obtain ⟨N, hN⟩ : ∃ N, 2 ^ xs.length = N := ⟨_, rfl⟩
  have hN2 := two_pow_le xs.length hl10
  rw [hN] at hN2
  obtain ⟨I, hI⟩ : ∃ I, setsL (holdsIdeal xs) N = I := ⟨_, rfl⟩
  have HAt := hid (fun j hj => setsL_bound (f := holdsIdeal xs) (N := N) (j := j) hj)
  have hIN := setsL_length (holdsIdeal xs) N
  rw [hI] at HAt hIN
  rw [hN, hI]
  have HI := hid (show setsL (holdsIdeal xs) (2 ^ xs.length) = I by rw [hN]; exact hI)
  have HN := hid hN
  have hM : ((N - 1 : Nat) : Int) + 1 = (N : Int) := by omega
  have hmk := run_make_row' (P := Try.prog) 115 4 (.bool false) 1 Try.underlying115 infoBool rfl .i64 .i64 N (by omega) (by omega)
  clear hu hg hy hI
  go_enter Try.func112, Try.ntmps112
  go_wp2_with (go_at_call 144; refine (wholeSet_any xs.length hl10 _).mono ?_; rw [hN]; rintro e w2 ⟨rfl, rfl⟩)
  clear hM
  refine (setsI_any _ xs _ ((HV.out.alloc _).alloc _) HG.out).mono ?_
  rw [HI.out]
  rintro e w' ⟨iu, rfl, ho, hb⟩
  obtain ⟨g, hg⟩ : ∃ g, w.heap.size + 1 = g := ⟨_, rfl⟩
  have HB := hid (below_to (below_alloc (below_alloc (Below.refl _ w) _) _) hb)
  have HBox : Hid (At w' w.heap.size (.slice A xs.length c)) := hid (((At.new _ _ _).alloc _).below hb)
  have HSeen : Hid (Blk w' g 4 (BVals (List.replicate N false))) := hid (by
    subst hg
    rw [← BVals_made]
    exact (Blk.newAt _ 4 (madeCells #[.bool false] N) (w.heap.size + 1) (by simp)).below hb (by simp))
  obtain ⟨iA, iN, ic, rfl⟩ := ho.shape3
  have hiN : iN = I.length := by
    obtain ⟨_, _, h, _⟩ := ho.shape
    cases h; rfl
  subst hiN
  have HO := hid (ho.mono (B' := g + 1) (by simp; omega))
  have HOB : Hid (∀ k, (Value.slice iA I.length ic).ownBlock = some k → g + 1 ≤ k ∧ k < w'.heap.size) := hid (fun k hk => by
    have h1 := ho.blockLt k hk
    simp at h1
    omega)
  have hgw : g < w'.heap.size := HSeen.out.lt
  have hwg : w.heap.size < g := by omega
  have hbx := HBox.out.1
  rw [hg]
  clear hb ho hmk hg hN
  go_wp2
  clear hbx
  go_loopw [5, 20] (fun q i wr => ∃ (j : Nat) (oA : Option Addr) (on oc : Nat), j ≤ I.length ∧ i = .int .i64 j ∧ q = .slice oA on oc ∧ Blk wr g 4 (BVals (cycSt (wordF xs ys) N I j).1) ∧ OwnI 3 wr w'.heap.size (.slice oA on oc) (cycSt (wordF xs ys) N I j).2 ∧ TurnedIn g (g + 1) w' wr) (fun _ i _ => I.length - (intOf i).toNat)
  case atStart => exact ⟨0, none, 0, 0, Nat.zero_le _, rfl, rfl, HSeen.out, OwnI.nil _ _ _, TurnedIn.refl _ _ _⟩
  case round =>
    obtain ⟨j, oA, on, oc, hj, rfl, rfl, hB, hq, ht⟩ := hrel
    have HBk := hid hB
    have HQ := hid hq
    have HT := hid ht
    clear hB hq
    by_cases hlt : j < I.length
    · obtain ⟨s, hs, hsN, hIs⟩ := HAt.out j hlt
      have hoi := HO.out.turned ht HOB.out (.inr (Nat.le_refl _))
      have hcell : ∃ b, iA = some ⟨b, 0, none⟩ ∧ wr.cell? ⟨b, 0 + j, none⟩ = some (.int .i64 s) := by
        obtain ⟨A', c', h1, h2⟩ := hoi.shape
        obtain ⟨A2, c2, h3, h4⟩ := hoi.ints
        cases h1
        obtain ⟨b, h5, -, -⟩ := h2 (by intro h; simp [h] at hlt)
        cases h3
        obtain ⟨b2, o2, h6, -, h7⟩ := h4 (by intro h; simp [h] at hlt)
        have h8 : b2 = b ∧ o2 = 0 := by rw [h5] at h6; cases h6; exact ⟨rfl, rfl⟩
        obtain ⟨rfl, rfl⟩ := h8
        exact ⟨_, h5, by rw [h7 j hlt, hs]⟩
      obtain ⟨b, rfl, hcell⟩ := hcell
      rw [Nat.zero_add] at hcell
      have HS := hid hs
      obtain ⟨seen0, hs0⟩ : ∃ l, (cycSt (wordF xs ys) N I j).1 = l := ⟨_, rfl⟩
      obtain ⟨out0, ho0⟩ : ∃ l, (cycSt (wordF xs ys) N I j).2 = l := ⟨_, rfl⟩
      have hlen := cycSt_length (wordF xs ys) N I j
      rw [hs0] at HBk hlen
      rw [ho0] at HQ hlen
      obtain ⟨R, hR⟩ : ∃ R, cyc1 (wordF xs ys) seen0 s 0 = R := ⟨_, rfl⟩
      have HStep : Hid (cycSt (wordF xs ys) N I (j + 1) = (R.1, if 0 < R.2 then out0 ++ [(R.2 : Int)] else out0)) := hid (by
        simp only [cycSt, hs0, ho0, hs, Int.toNat_natCast, hR])
      have HLen := hid hlen.1
      have ho10 : out0.length ≤ 1024 := by omega
      have hc0 := cntF_le seen0
      have hc1 : 0 + cntF seen0 ≤ N := by rw [← hlen.1]; omega
      have HR := hid hR
      clear hs hs0 ho0 hR hoi ht hIs hlen hc0
      go_wp2
      clear hcell
      go_loopw [10, 9] (fun a i wi => ∃ (seen : List Bool) (t n : Nat), a = .int .i64 t ∧ i = .int .i64 n ∧ t < N ∧ Hid (seen.length = N) ∧ n + cntF seen ≤ N ∧ Hid (cyc1 (wordF xs ys) seen t n = R) ∧ Blk wi g 4 (BVals seen) ∧ Hid (OwnI 3 wi w'.heap.size (.slice oA on oc) out0) ∧ TurnedIn g (g + 1) w' wi) (fun _ i _ => N - (intOf i).toNat)
      case atStart => exact ⟨seen0, s, 0, rfl, rfl, hsN, HLen, hc1, HR, HBk.out, HQ, HT.out⟩
      case round =>
        obtain ⟨seen, t, n, rfl, rfl, htN, HSL, hcn, HC, hB, HOut, ht⟩ := hrel
        have hct : wr.cell? ⟨g, t, none⟩ = some (.bool (seen.getD t true)) := by
          rw [hB.cell, BVals_get (by rw [HSL.out]; exact htN)]
        have hft := hB.frozen t
        have HBk2 := hid hB
        have HT2 := hid ht
        clear hB ht
        cases hst : seen.getD t true
        · rw [hst] at hct
          have hcs := cntF_set (show t < seen.length by rw [HSL.out]; exact htN) hst
          have HGo := hid (cyc1_go (f := wordF xs ys) (n := n) (show t < seen.length by rw [HSL.out]; exact htN) hst)
          have hn1 : n < N := by omega
          have hcn2 : n + 1 + cntF (seen.set t true) ≤ N := by omega
          have HL2 : Hid ((seen.set t true).length = N) := hid (by rw [List.length_set]; exact HSL.out)
          have hbox := (HBox.out.turned HT2.out (.inl hwg)).1
          have hboxz := (HBox.out.turned HT2.out (.inl hwg)).2
          have hne : w.heap.size ≠ g := by omega
          have hf1 : wordF xs ys t < N := by rw [← HN.out]; exact togW_lt (by rw [HN.out]; exact htN) HY.out
          have HBk3 : Hid (Blk (wr.setCell ⟨g, t, none⟩ (.bool true)) g 4 (BVals (seen.set t true))) := hid (by rw [← BVals_set]; exact HBk2.out.set_ t _)
          have HT3 : Hid (TurnedIn g (g + 1) w' (wr.setCell ⟨g, t, none⟩ (.bool true))) := hid (HT2.out.set_ ⟨g, t, none⟩ ⟨Nat.le_refl _, Nat.lt_succ_self _⟩ _)
          have HOut3 : Hid (OwnI 3 (wr.setCell ⟨g, t, none⟩ (.bool true)) w'.heap.size (.slice oA on oc) out0) := hid (HOut.out.grown (grown_setCell (World.grownBy.refl _ _) t _) (HOut.out.apart (.inl hgw)))
          have HB3 := hid (below_turned HB.out HT3.out (Nat.le_of_lt hwg))
          have HTN : Hid (t < 2 ^ xs.length) := hid (by rw [HN.out]; exact htN)
          have hbox3 := (HBox.out.turned HT3.out (.inl hwg)).1
          clear hst hcs
          go_wp2_with fail
          clear hct hft hbox hboxz hbox3
          refine (step_any _ _ xs ys t _ (HV.out.below HB3.out) (HUW.out.below HB3.out) HG.out HTN.out HY.out hm).mono ?_
          rintro e' w5 ⟨rfl, hb5⟩
          have HBk5 := hid (HBk3.out.below hb5 HBk3.out.lt)
          have HT5 := hid (HT3.out.trans (TurnedIn.of_below hb5))
          have HOut5 := hid (HOut3.out.below hb5)
          clear hb5
          go_wp2
          go_roundw
          case rel => exact ⟨seen.set t true, wordF xs ys t, n + 1, rfl, by go_num, hf1, HL2, hcn2, hid (by rw [← HGo.out]; exact HC.out), HBk5.out, HOut5, HT5.out⟩
          case measure => simp [intOf]; omega
        · rw [hst] at hct
          have HStop : Hid (R = (seen, n)) := hid (by rw [← HC.out]; exact cyc1_stop hst)
          have hnN : n ≤ N := by omega
          have HBel := hid (below_turned HB.out HT2.out (Nat.le_of_lt hwg))
          clear hst
          by_cases hn0 : 0 < n
          · have HSt2 : Hid (cycSt (wordF xs ys) N I (j + 1) = (seen, out0 ++ [(n : Int)])) := hid (by rw [HStep.out, HStop.out]; simp [hn0])
            have hwz : w'.heap.size ≤ wr.heap.size := HT2.out.size
            go_wp2_with (at_builtin; refine wpList_append_int rfl _ _ 24 3 rfl Try.underlying24 Try.info3 w'.heap.size _ _ n rfl HOut.out rfl rfl (by omega) (by omega) ?_; rintro q2 w6 ho6 hb6; obtain ⟨qA, qn, qc, rfl⟩ := ho6.shape3)
            go_roundw
            case rel => exact ⟨j + 1, qA, qn, qc, by omega, by go_num, rfl, (by rw [HSt2.out]; exact HBk2.out.below hb6 hgw), (by rw [HSt2.out]; exact ho6), HT2.out.belowB hb6 (Nat.le_refl _)⟩
            case measure => simp [intOf]; omega
          · have HSt2 : Hid (cycSt (wordF xs ys) N I (j + 1) = (seen, out0)) := hid (by rw [HStep.out, HStop.out]; simp [hn0])
            go_wp2
            go_roundw
            case rel => exact ⟨j + 1, oA, on, oc, by omega, by go_num, rfl, (by rw [HSt2.out]; exact HBk2.out), (by rw [HSt2.out]; exact HOut.out), HT2.out⟩
            case measure => simp [intOf]; omega
    · obtain rfl : j = I.length := by omega
      have HBel := hid (below_turned HB.out ht (Nat.le_of_lt hwg))
      have hww := HB.out.size
      clear ht
      go_wp2
      go_ret
      exact ⟨_, rfl, HQ.out.mono hww, HBel.out⟩
end Go.Proofs.Ytpdoheagfjeefaa
