/- Texts RvX, RkL, one behind the other. -/
import Derived.Laws.EntriesVeiled
import Derived.Deep.LoopGhost
import Derived.WalkMore
import Derived.Test.YtdemikjaghegnaaGreatPkRowvacuationProof13
import Derived.Test.YtdemikjaghegnaaGreatPkRowvacuationProof18
import Derived.Test.YtdemikjaghegnaaGreatPkRowvacuationProof20
/- Ideals that rowvacuation leaves: the model's and the program's contracts. -/
namespace Go.Proofs.YtdemikjaghegnaaGreat
open Go.RowKit Go.WideShapes Go.ChangeShapes
set_option linter.unusedVariables false

theorem At.belowX {w w' : World} {b B : Nat} {v : Value} (h : At w b v) (hb : Below B w w') (hB : b < B) : At w' b v :=
  ⟨(hb.cell (p := ⟨b, 0, none⟩) hB).trans h.1, Nat.lt_of_lt_of_le h.2 hb.size⟩
theorem ret_vbX {u : Value} {a b : Bool} (h : a = b) : Ending.returned (.tuple #[u, .bool a]) = .returned (.tuple #[u, .bool b]) := by rw [h]
def ansFR (xs : List Int) : List Int := if okRk xs then fxL xs (rkN xs - 1) (setsL (holdsIdeal xs) (2 ^ xs.length)) else []
theorem ansFR_no {xs : List Int} (h : okRk xs = false) : ansFR xs = [] := by simp [ansFR, h]
theorem ansFR_yes {xs : List Int} {h : Nat} (hk : okRk xs = true) (hh : rkN xs = h + 1) : ansFR xs = fxL xs h (setsL (holdsIdeal xs) (2 ^ xs.length)) := by unfold ansFR; rw [if_pos hk, hh]; rfl
theorem ansFR_length (xs : List Int) : (ansFR xs).length ≤ 1048576 := by
  cases h : okRk xs
  · rw [ansFR_no h]; simp
  · unfold ansFR
    rw [if_pos h]
    have h1 := fxL_length xs (rkN xs - 1) (setsL (holdsIdeal xs) (2 ^ xs.length)) (setsL (holdsIdeal xs) (2 ^ xs.length)).length
    have h2 := setsL_length (holdsIdeal xs) (2 ^ xs.length)
    have h3 := pow10 (good_length (okRk_good h).1).2
    rw [List.take_length] at h1
    omega
set_option maxHeartbeats 1600000 in
theorem specFixedByRowvacuation_any (v : Value) (xs : List Int) (w : World) (hv : Ints w v xs) (hl : xs.length ≤ 1048576) :
    Calls Tryz.prog 41 #[.agg #[v]] w fun (r : Ending) w' => ∃ q, r = Ending.returned (.tuple #[q, .bool (okRk xs)]) ∧ OwnI 3 w' w.heap.size q (ansFR xs) ∧ (ansFR xs).length ≤ 1048576 ∧ Below w.heap.size w w' := by
  have HV := hid hv
  have HL := hid (ansFR_length xs)
  clear hv
  go_enter Tryz.func41, Tryz.ntmps41
  have HB := hid (below_alloc (Below.refl _ w) (.cells #[v] 26))
  have A0 := hid (At.newAt w v 26 w.heap.size (by simp))
  go_wp2_with fail
  refine (rvGood_any _ xs _ (HV.out.below HB.out) hl).mono ?_
  rintro e w' ⟨rfl, hb⟩
  replace HB := hid (below_to HB.out hb)
  replace A0 := hid (A0.out.below hb)
  clear hb
  cases hq : okRk xs
  · have HO := hid hq
    clear hq
    have ebox0 := A0.out.1
    go_wp2
    go_ret2
    exact ⟨_, ret_vbX HO.out.symm, by rw [ansFR_no HO.out]; exact OwnI.nil _ _ _, HL.out, HB.out⟩
  · have HO := hid hq
    obtain ⟨hg, hr⟩ := okRk_good hq
    obtain ⟨h, hh, h9⟩ := rkN_some hg
    have HG := hid hg
    have HH := hid hh
    have HEnd := hid (ansFR_yes hq hh)
    have HIn : Hid (inW (rkN xs) (wVac h) = true) := hid (inW_wVac (by omega))
    have hlw := wVac_length h9
    have HVc : Hid (∀ z, togW xs z (rkW (rankL xs) (wVac h)) = vcK xs h z (h + 1)) := hid fun z => rfl
    have hN10 := pow10 (good_length hg).2
    clear hq hg hr hh
    have ebox0 := A0.out.1
    go_wp2_with fail
    clear ebox0
    refine (rvVacuate_any _ xs h _ (HV.out.below HB.out) HG.out HH.out h9).mono ?_
    rintro e w' ⟨u, rfl, ho, hb⟩
    replace HB := hid (below_to HB.out hb)
    replace A0 := hid (A0.out.below hb)
    clear hb
    have HU := hid ho.ints
    obtain ⟨uA, un, uc, rfl⟩ := ho.shape3
    clear ho
    have ebox0 := A0.out.1
    go_wp2_with fail
    clear ebox0
    refine (poIdeals_any _ xs _ (HV.out.below HB.out) HG.out).mono ?_
    rintro e w' ⟨q, rfl, ho, hb⟩
    replace HB := hid (below_to HB.out hb)
    replace A0 := hid (A0.out.below hb)
    replace HU := hid (HU.out.below hb)
    clear hb
    have hz := HB.out.size
    have HI := hid ho.ints
    obtain ⟨I, hI⟩ : ∃ I, setsL (holdsIdeal xs) (2 ^ xs.length) = I := ⟨_, rfl⟩
    have HAt := hid (fun j hj => setsL_bound (f := holdsIdeal xs) (N := 2 ^ xs.length) (j := j) hj)
    have hIN := setsL_length (holdsIdeal xs) (2 ^ xs.length)
    rw [hI] at HI HAt hIN HEnd
    have hI10 : I.length ≤ 1024 := by omega
    obtain ⟨A, c, rfl, hA⟩ := HI.out
    have HA := hid hA
    have HFl := hid (fun k => fxL_length xs h I k)
    have HFy := hid (fun k s hk e hf => fxL_yes (xs := xs) (h := h) (is := I) (k := k) (s := s) hk e hf)
    have HFn := hid (fun k s hk e hf => fxL_no (xs := xs) (h := h) (is := I) (k := k) (s := s) hk e hf)
    have HS0 := hid (show SR w' w.heap.size v w' from ⟨A0.out, Below.refl _ _⟩)
    clear ho HI hA hI hIN hN10
    go_wp2
    go_loopw [5, 16] (fun q i wr => ∃ k : Nat, k ≤ I.length ∧ i = .int .i64 k ∧ OwnI 3 wr w'.heap.size q (fxL xs h (I.take k)) ∧ SR w' w.heap.size v wr) (fun _ i _ => I.length - (intOf i).toNat)
    case atStart => exact ⟨0, Nat.zero_le _, rfl, OwnI.nil _ _ _, HS0.out⟩
    case round =>
      obtain ⟨k, hk, rfl, ho, hS⟩ := hrel
      have HO1 := hid ho
      have HS := hid hS
      by_cases hlt : k < I.length
      · obtain ⟨s, hs, hsN, hIs⟩ := HAt.out k hlt
        obtain ⟨b, o, rfl, hbl, hc⟩ := HA.out (by intro h; simp [h] at hlt)
        have hcell : wr.cell? ⟨b, o + k, none⟩ = some (.int .i64 s) := by rw [(hS.below.cell (p := ⟨b, o + k, none⟩) hbl).trans (hc k hlt), hs]
        have HSn := hid hs
        have HSN := hid hsN
        have hbx := hS.at_.1
        have hl48 : (fxL xs h (I.take k)).length < 1048576 := by have := HFl.out k; omega
        have HB1 := hid (below_to HB.out hS.below)
        clear ho hS hs hIs hc hsN
        go_wp2_with fail
        clear hcell hbx
        refine (rvWord_any _ _ xs _ s _ (HV.out.below HB1.out) (HU.out.below HS.out.below) HG.out HSN.out HIn.out (by omega)).mono ?_
        rw [HVc.out]
        rintro e w3 ⟨rfl, hb3⟩
        have HO3 := hid (HO1.out.below hb3)
        have HS3 := hid (HS.out.to hb3)
        have hz3 := HS3.out.below.size
        clear hb3
        cases hf : vFix xs h s
        · have hne : (((vcK xs h s (h + 1) : Nat) : Int) == (s : Int)) = false := by
            unfold vFix at hf
            rw [beq_eq_false_iff_ne] at hf ⊢
            omega
          have HN := hid (HFn.out k s hlt HSn.out hf)
          clear hf
          go_wp2
          go_roundw
          case rel => exact ⟨k + 1, by omega, by go_num, (by rw [HN.out]; exact HO3.out), HS3.out⟩
          case measure => simp [intOf]; omega
        · have hne : (((vcK xs h s (h + 1) : Nat) : Int) == (s : Int)) = true := by
            unfold vFix at hf
            rw [beq_iff_eq] at hf
            rw [hf]; simp
          have HN := hid (HFy.out k s hlt HSn.out hf)
          clear hf
          go_wp2_with (at_builtin; refine wpList_append_int rfl _ _ 24 3 rfl Tryz.underlying24 Tryz.info3 w'.heap.size _ _ s rfl HO3.out rfl rfl hl48 hz3 ?_; rintro q2 w6 ho6 hb6)
          have HS6 : Hid (SR w' w.heap.size v w6) := hid ⟨HS3.out.at_.belowX hb6 A0.out.2, HS3.out.below.trans hb6⟩
          go_roundw
          case rel => exact ⟨k + 1, by omega, by go_num, (by rw [HN.out]; exact ho6), HS6.out⟩
          case measure => simp [intOf]; omega
      · obtain rfl : k = I.length := by omega
        rw [List.take_length] at HO1
        clear ho hS
        go_wp2
        go_ret2
        exact ⟨_, ret_vbX HO.out.symm, by rw [HEnd.out]; exact HO1.out.mono hz, HL.out, below_to HB.out HS.out.below⟩
theorem cloV_SR (a h k : Nat) (w0 : World) (b : Nat) (vp : Value) (W : World) (hA : At w0 a (.int .i64 h)) (h9 : h ≤ 9) (hk : k ≤ h) (hS : SR w0 b vp W) :
    Calls Tryz.prog 123 #[.int .i64 k, .pointer (some ⟨a, 0, none⟩)] W fun (r : Ending) w' => ∃ q, r = Ending.returned q ∧ Ints w' q (fVac h k) ∧ SR w0 b vp w' :=
  (cloVac_any a h k W (hA.below hS.below) h9 hk).mono fun _ _ ⟨q, h1, h2, h3⟩ => ⟨q, h1, h2.ints, hS.to h3⟩
theorem tgW_SR (v u : Value) (rs ws : List Int) (w0 : World) (b : Nat) (W : World) (hv : Ints w0 v rs) (hu : Ints W u ws) (hw : inW rs.length ws = true) (hm : ws.length ≤ 100) (hr10 : rs.length ≤ 10) (hr : ∀ i, i < rs.length → ∃ r : Nat, rs.getD i 0 = (r : Int) ∧ r < 1024) (vp : Value) (hS : SR w0 b vp W) :
    Calls Tryz.prog 65 #[v, u] W fun (r : Ending) w' => ∃ q, r = Ending.returned q ∧ Ints w' q (rkW rs ws) ∧ SR w0 b vp w' :=
  (togglesAt_any v u rs ws W (hv.below hS.below) hu hw hm hr10 hr).mono fun _ _ ⟨q, h1, h2, h3⟩ => ⟨q, h1, h2.ints, hS.to h3⟩
set_option maxRecDepth 100000 in
set_option maxHeartbeats 3200000 in
theorem implFixedByRowvacuation_any (v : Value) (xs : List Int) (w : World) (hv : Ints w v xs) (hl : xs.length ≤ 1048576) :
    Calls Tryz.prog 40 #[.agg #[v]] w fun (r : Ending) w' => ∃ q, r = Ending.returned (.tuple #[q, .bool (okRk xs)]) ∧ OwnI 3 w' w.heap.size q (ansFR xs) ∧ (ansFR xs).length ≤ 1048576 ∧ Below w.heap.size w w' := by
  have HV := hid hv
  have HL := hid (ansFR_length xs)
  clear hv
  go_enter Tryz.func40, Tryz.ntmps40
  go_wp2
  go_step3
  have HB := hid (below_alloc (Below.refl _ w) (.cells #[v] 26))
  have A0 := hid (At.newAt w v 26 w.heap.size (by simp))
  go_wp2_with fail
  refine (implRanksOf_any _ xs _ (HV.out.below HB.out) hl).mono ?_
  rintro e w' ⟨q, rfl, ho, -, hb⟩
  replace HB := hid (below_to HB.out hb)
  replace A0 := hid (A0.out.below hb)
  clear hb
  cases hk : okRk xs
  · have HO := hid hk
    obtain ⟨qA, qn, qc, rfl⟩ := ho.shape3
    clear hk ho
    go_wp2
    try rw [Exit.noGoto_ret]
    go_ret2
    exact ⟨_, ret_vbX HO.out.symm, by rw [ansFR_no HO.out]; exact OwnI.nil _ _ _, HL.out, HB.out⟩
  · have HO := hid hk
    rw [ansRO_yes hk] at ho
    obtain ⟨hg, hr⟩ := okRk_good hk
    obtain ⟨h, hh, h9⟩ := rkN_some hg
    have HQ := hid ho.ints
    have HG := hid hg
    have HH := hid hh
    have HEnd := hid (ansFR_yes hk hh)
    have HRl : Hid ((rankL xs).length = h + 1) := hid (by rw [rankL_length, hh])
    have HRg : Hid (∀ i, i < h + 1 → (rankL xs).getD i 0 = ((rkE (heightsL xs) xs.length i : Nat) : Int)) := hid fun i hi => rankL_get (by omega)
    have HSm := hid (rank_small hg)
    have hl10 := (good_length hg).2
    have HE10 : Hid (∀ i, rkE (heightsL xs) xs.length i < 1024) := hid fun i => lt1024 (rkE_lt _ (Nat.le_refl _) i) hl10
    have HVl := hid (fun s k (hs : s < 2 ^ xs.length) => vcK_lt hg (k := k) hh hs)
    have HVs := hid (fun s k => vcK_succ xs h s k)
    have HFi : Hid (∀ k, inW (rkN xs) (fVac h k) = true) := hid fun k => inW_fsL (by omega)
    have HFe := hid (fun k => inW_rkW hg (HFi.out k))
    have HFn := hid (fun k => fVac_length (h := h) k h9)
    have HFr := hid (fun k => rkW_length (rankL xs) (fVac h k))
    have HYes := hid (fun s (hs : s < 2 ^ xs.length) hw => vFix_yes hg hh hs hw)
    have HNo := hid (fun s k (hk : k < h + 1) hw => vFix_no (xs := xs) (s := s) hh hk hw)
    have HWr : Hid (∀ s k, wrK xs h s k = (vcK xs h s (k + 1) ^^^ s) &&& rkE (heightsL xs) xs.length k) := hid fun s k => rfl
    have hN10 := pow10 hl10
    obtain ⟨qA, qc, rfl, -⟩ := ho.shape
    rw [rankL_length, hh] at HQ ⊢
    clear hk ho hg hr hh
    have ebox0 := A0.out.1
    go_wp2_with fail
    clear ebox0
    refine (swVac_any h _ h9).mono ?_
    rintro e w' ⟨a, rfl, ha, hb⟩
    replace HB := hid (below_to HB.out hb)
    replace A0 := hid (A0.out.below hb)
    replace HQ := hid (HQ.out.below hb)
    clear hb
    have HA := hid ha
    have HCn : Hid (cVac h = h + 1) := hid rfl
    rw [HCn.out]
    have hbx := A0.out.1
    clear ha
    obtain ⟨w1, hw1⟩ : ∃ x, x = w' := ⟨_, rfl⟩
    rw [← hw1] at HB A0 HQ HA hbx ⊢
    clear hw1
    have HB1 := hid (below_alloc HB.out (.cells #[.int .i64 ((h : Int) + 1), (.func (.func 123) #[] #[.pointer (some ⟨a, 0, none⟩)])] 82))
    have HR1 := hid (Blk.new w1 82 #[.int .i64 ((h : Int) + 1), (.func (.func 123) #[] #[.pointer (some ⟨a, 0, none⟩)])])
    have HQ1 := hid (HQ.out.alloc (.cells #[.int .i64 ((h : Int) + 1), (.func (.func 123) #[] #[.pointer (some ⟨a, 0, none⟩)])] 82))
    have HA1 := hid (HA.out.alloc (.cells #[.int .i64 ((h : Int) + 1), (.func (.func 123) #[] #[.pointer (some ⟨a, 0, none⟩)])] 82))
    have HP1 := hid (A0.out.alloc (.cells #[.int .i64 ((h : Int) + 1), (.func (.func 123) #[] #[.pointer (some ⟨a, 0, none⟩)])] 82))
    have hbx1 := HP1.out.1
    go_wp2
    go_step3
    go_wp2_with fail
    clear hbx hbx1
    refine (setsI_any _ xs _ (HV.out.below HB1.out) HG.out).mono ?_
    rintro e w' ⟨iu, rfl, ho, hb⟩
    have HB2 := hid (below_to HB1.out hb)
    have HR2 := hid (HR1.out.below hb HR1.out.lt)
    have HQ2 := hid (HQ1.out.below hb)
    have HA2 := hid (HA1.out.below hb)
    have HP2 := hid (HP1.out.below hb)
    have HV2 := hid (HV.out.below HB2.out)
    have hz := HB2.out.size
    obtain ⟨G, hG⟩ : ∃ G, w1.heap.size = G := ⟨_, rfl⟩
    rw [hG] at HR2 ⊢
    have hGw : G < w'.heap.size := HR2.out.lt
    have HI := hid ho.ints
    obtain ⟨I, hI⟩ : ∃ I, setsL (holdsIdeal xs) (2 ^ xs.length) = I := ⟨_, rfl⟩
    have HAt := hid (fun j hj => setsL_bound (f := holdsIdeal xs) (N := 2 ^ xs.length) (j := j) hj)
    have hIN := setsL_length (holdsIdeal xs) (2 ^ xs.length)
    rw [hI] at HI HAt hIN HEnd
    have hI10 : I.length ≤ 1024 := by omega
    obtain ⟨A, c, rfl, hA⟩ := HI.out
    have HAI := hid hA
    have HFl := hid (fun k => fxL_length xs h I k)
    have HFy := hid (fun k s hk e hf => fxL_yes (xs := xs) (h := h) (is := I) (k := k) (s := s) hk e hf)
    have HFx := hid (fun k s hk e hf => fxL_no (xs := xs) (h := h) (is := I) (k := k) (s := s) hk e hf)
    have HS0 := hid (show SR w' w.heap.size v w' from ⟨HP2.out, Below.refl _ _⟩)
    obtain ⟨A', c', he, hQA⟩ := HQ2.out
    injection he with e1 e2 e3
    subst e1
    have HQA := hid hQA
    clear e2 e3
    clear ho hb HI hA hI hIN hG HB HB1 HR1 HQ HQ1 HA HA1 HP1 A0 hQA
    go_wp2
    go_loopg [7, 26] I.length (fun g q i wr => ∃ k : Nat, k + g = I.length ∧ i = .int .i64 k ∧ OwnI 3 wr w'.heap.size q (fxL xs h (I.take k)) ∧ SR w' w.heap.size v wr)
    case atStart => exact ⟨0, by omega, rfl, OwnI.nil _ _ _, HS0.out⟩
    case round =>
      obtain ⟨k, hkg, rfl, ho, hS⟩ := hrel
      have HO1 := hid ho
      have HS := hid hS
      cases gk with
      | zero =>
        have hk : k = I.length := by omega
        subst hk
        rw [List.take_length] at HO1
        clear ho hS
        go_wp2
        try rw [Exit.noGoto_ret]
        go_ret2
        exact ⟨_, ret_vbX HO.out.symm, by rw [HEnd.out]; exact HO1.out.mono hz, HL.out, below_to HB2.out HS.out.below⟩
      | succ g =>
        have hlt : k < I.length := by omega
        obtain ⟨s, hs, hsN, hIs⟩ := HAt.out k hlt
        obtain ⟨b, o, rfl, hbl, hc⟩ := HAI.out (by intro h; simp [h] at hlt)
        have hcell : wr.cell? ⟨b, o + k, none⟩ = some (.int .i64 s) := by rw [(hS.below.cell (p := ⟨b, o + k, none⟩) hbl).trans (hc k hlt), hs]
        have hcn : wr.cell? ⟨G, 0, none⟩ = some (.int .i64 ((h : Int) + 1)) := (hS.below.cell (p := ⟨G, 0, none⟩) hGw).trans (HR2.out.cell 0)
        have HSn := hid hs
        have HSN := hid hsN
        have hs10 : s < 1024 := by omega
        have hl48 : (fxL xs h (I.take k)).length < 1048576 := by have := HFl.out k; omega
        clear ho hS hs hIs hc hsN
        go_wp2
        clear hcell hcn
        go_loopg [10, 33] (h + 1) (fun g2 q i wi => ∃ j t : Nat, j + g2 = h + 1 ∧ i = .int .i64 j ∧ q = .int .i64 t ∧ Hid (vcK xs h s j = t) ∧ Hid (∀ m, m < j → wrK xs h s m = 0) ∧ OwnI 3 wi w'.heap.size u7 (fxL xs h (I.take k)) ∧ SR w' w.heap.size v wi)
        case atStart => exact ⟨0, s, by omega, rfl, rfl, hid rfl, hid (fun m hm => absurd hm (Nat.not_lt_zero _)), HO1.out, HS.out⟩
        case round =>
          obtain ⟨j, t, hjg, rfl, rfl, HT, HW, ho, hS⟩ := hrel
          have HO2 := hid ho
          have HS2 := hid hS
          clear ho hS
          cases gk with
          | zero =>
            have hf : vFix xs h s = true := HYes.out s HSN.out (fun m hm => HW.out m (by omega))
            have HN := hid (HFy.out k s hlt HSn.out hf)
            have hz3 := HS2.out.below.size
            clear hf
            go_wp2_with (at_builtin; refine wpList_append_int rfl _ _ 24 3 rfl Tryz.underlying24 Tryz.info3 w'.heap.size _ _ s rfl HO2.out rfl rfl hl48 hz3 ?_; rintro q2 w6 ho6 hb6)
            have HS6 : Hid (SR w' w.heap.size v w6) := hid ⟨HS2.out.at_.belowX hb6 HP2.out.2, HS2.out.below.trans hb6⟩
            go_roundg g
            case measure => omega
            case rel => exact ⟨k + 1, by omega, by go_num, (by rw [HN.out]; exact ho6), HS6.out⟩
          | succ g2 =>
            have hj : j < h + 1 := by omega
            have hj9 : j ≤ h := by omega
            have ht : t < 2 ^ xs.length := by rw [← HT.out]; exact HVl.out s j HSN.out
            have HTl := hid ht
            have hbx := HS2.out.at_.1
            have HC2 : Hid (∀ W : World, SR w' w.heap.size v W → W.cell? ⟨G, 1, none⟩ = some (.func (.func 123) #[] #[.pointer (some ⟨a, 0, none⟩)])) := hid (fun W hW => (hW.below.cell (p := ⟨G, 1, none⟩) hGw).trans (HR2.out.cell 1))
            have hcf := HC2.out _ HS2.out
            obtain ⟨b2, o2, rfl, hbl2, hc2⟩ := HQA.out (by intro hn; have := HRl.out; rw [hn] at this; simp at this)
            have HCr : Hid (∀ W : World, SR w' w.heap.size v W → W.cell? ⟨b2, o2 + j, none⟩ = some (.int .i64 (rkE (heightsL xs) xs.length j : Nat))) := hid (fun W hW => by rw [(hW.below.cell (p := ⟨b2, o2 + j, none⟩) hbl2).trans (hc2 j (by rw [HRl.out]; exact hj)), HRg.out j hj])
            have HTr : Hid (∀ W : World, SR wr w.heap.size v W → SR w' w.heap.size v W) := hid (fun W hW => ⟨hW.at_, below_to HS2.out.below hW.below⟩)
            have HB0 := hid (show SR wr w.heap.size v wr from ⟨HS2.out.at_, Below.refl _ _⟩)
            have HAw := hid (HA2.out.below HS2.out.below)
            have HQw := hid (HQ2.out.below HS2.out.below)
            have HVw := hid (HV2.out.below HS2.out.below)
            clear ht hc2 hbl2
            go_wp2_with fail
            go_region_held3 (fun W => W.cell? ⟨w.heap.size, 0, none⟩ = some v ∧ W.cell? ⟨G, 1, none⟩ = some (.func (.func 123) #[] #[.pointer (some ⟨a, 0, none⟩)]) ∧ Hid (SR wr w.heap.size v W)) (first | exact ⟨HS5.out.at_.1, HC2.out _ (HTr.out _ HS5.out), HS5⟩ | exact ⟨HS4.out.at_.1, HC2.out _ (HTr.out _ HS4.out), HS4⟩ | exact ⟨HS3.out.at_.1, HC2.out _ (HTr.out _ HS3.out), HS3⟩ | exact ⟨HB0.out.drew.at_.1, hcf, hid HB0.out.drew⟩) (first | (go_at_call 123; refine (cloV_SR a h j wr w.heap.size v _ HAw.out h9 hj9 (Hid.out (by first | assumption | exact hid HB0.out.drew))).mono ?_; rintro e' w3 ⟨q3, rfl, hu3, hs3⟩; have HU3 := hid hu3; have HS3 := hid hs3; clear hu3 hs3) | (go_at_call 65; refine (tgW_SR _ _ (rankL xs) (fVac h j) wr w.heap.size _ HQw.out HU3.out (by rw [HRl.out]; have := HFi.out j; rw [HH.out] at this; exact this) (by have := HFn.out j; omega) (by rw [HRl.out]; omega) HSm.out v HS3.out).mono ?_; rintro e' w4 ⟨q4, rfl, hu4, hs4⟩; have HU4 := hid hu4; have HS4 := hid hs4; clear hu4 hs4) | (go_at_call 66; refine (step_SR v _ xs _ wr w.heap.size t _ HVw.out HU4.out HG.out HTl.out (HFe.out j) (by have := HFr.out j; have := HFn.out j; omega) HS4.out).mono ?_; rintro e' w5 ⟨rfl, hs5⟩; have HS5 := hid hs5; clear hs5))
            have HS6 := hid (HTr.out _ HS5.out)
            have hcr := HCr.out _ HS6.out
            have HO5 : Hid (OwnI 3 _ w'.heap.size u7 (fxL xs h (I.take k))) := hid (HO2.out.below HS5.out.below)
            have HVj := hid (HVs.out s j)
            have HWd := hid (HWr.out s j)
            have hv2 := HVl.out s (j + 1) HSN.out
            have hR10 := HE10.out j
            rw [HT.out] at HVj
            obtain ⟨t2, ht2⟩ : ∃ t2, togW xs t (rkW (rankL xs) (fVac h j)) = t2 := ⟨_, rfl⟩
            rw [ht2] at HVj ⊢
            rw [HVj.out] at hv2 HWd
            obtain ⟨R, hR⟩ : ∃ R, rkE (heightsL xs) xs.length j = R := ⟨_, rfl⟩
            rw [hR] at hcr hR10 HWd
            have ht10 := lt1024 hv2 hl10
            have hxl : t2 ^^^ s < 1024 := Nat.xor_lt_two_pow (n := 10) ht10 hs10
            have hxr := i64_xor_nat t2 s (by omega) (by omega)
            have han := i64_and_nat (t2 ^^^ s) R (by omega) (by omega)
            have hjx : (j : Int) < (h : Int) + 1 := by omega
            clear ht2 hR hbx hcf hv2
            by_cases hw : (t2 ^^^ s) &&& R = 0
            · have hne : (((((t2 ^^^ s) &&& R : Nat)) : Int) != 0) = false := by rw [hw]; rfl
              have HW2 : Hid (∀ m, m < j + 1 → wrK xs h s m = 0) := hid (fun m hm => by
                by_cases hmj : m = j
                · subst hmj; rw [HWd.out]; exact hw
                · exact HW.out m (by omega))
              clear hw
              go_wp2
              go_roundg g2
              case measure => omega
              case rel => exact ⟨j + 1, t2, by omega, by go_num, rfl, HVj, HW2, HO5.out, HS6.out⟩
            · have hne : (((((t2 ^^^ s) &&& R : Nat)) : Int) != 0) = true := by rw [bne_iff_ne]; omega
              have hf : vFix xs h s = false := HNo.out s j hj (by rw [HWd.out]; exact hw)
              have HN := hid (HFx.out k s hlt HSn.out hf)
              clear hw hf
              go_wp2
              go_roundg g
              case measure => omega
              case rel => exact ⟨k + 1, by omega, by go_num, (by rw [HN.out]; exact HO5.out), HS6.out⟩
end Go.Proofs.YtdemikjaghegnaaGreat

/- The facts that the law on rowvacuation asks for. -/
namespace Go.Proofs.YtdemikjaghegnaaGreat
open Go.RowKit Go.WideShapes Go.ChangeShapes
set_option linter.unusedVariables false

theorem okId_nat {xs : List Int} {z : Nat} (hg : good xs = true) (hz : z < 2 ^ xs.length) (hi : holdsIdeal xs z = true) : okIdeal xs (z : Int) = true := by
  rw [okIdeal, okSet_nat hg hz, Int.toNat_natCast, hi]; rfl
theorem okRI_nat {xs : List Int} {z : Nat} (hg : good xs = true) (hr : rankedB xs = true) (hz : z < 2 ^ xs.length) (hi : holdsIdeal xs z = true) : okRI xs (z : Int) = true := by
  rw [okRI, okId_nat hg hz hi, okRk, hg, hr]; rfl
theorem vacFacts {xs : List Int} {h z : Nat} (hg : good xs = true) (hr : rankedB xs = true) (hh : rkN xs = h + 1) (hz : z < 2 ^ xs.length) (hi : holdsIdeal xs z = true) :
    ∃ V U N P Q M : Nat, okRI xs (z : Int) = true ∧ okRI xs (V : Int) = true ∧ okRI xs (U : Int) = true ∧ okIdeal xs (z : Int) = true ∧ okRI xs (N : Int) = true ∧ okIdeal xs (P : Int) = true ∧ okIdeal xs (Q : Int) = true ∧ okRT xs (z : Int) ((h + 2 : Nat) : Int) = true ∧
    ansSW wVac xs (z : Int) = (V : Int) ∧ ansSW wDual xs (z : Int) = (U : Int) ∧ ansSW wVac xs (V : Int) = (z : Int) ∧ ansSW wDual xs (U : Int) = (z : Int) ∧ ansRow xs (z : Int) rowmo = (N : Int) ∧ ansSW wVac xs (N : Int) = (P : Int) ∧ ansRow xs (P : Int) rowmo = (V : Int) ∧
      ansSW wDual xs (N : Int) = (Q : Int) ∧ ansRow xs (Q : Int) rowmo = (U : Int) ∧ ansSW wDual xs (V : Int) = (M : Int) ∧ ansRT xs (z : Int) ((h + 2 : Nat) : Int) = (M : Int) ∧
    V < 1024 ∧ U < 1024 ∧ N < 1024 ∧ P < 1024 ∧ Q < 1024 ∧ ansRO xs = rankL xs ∧ (rankL xs).length = h + 1 ∧ okRk xs = true := by
  have hl := (good_length hg).2
  have hN := rowmo_lt hg z
  have hNi := rowmo_ideal hg z
  have v1 := vac_lt hg hh hz
  have v2 := vac_ideal (h := h) hi
  have d1 := duv_lt hg hh hz
  have d2 := duv_ideal (h := h) hi
  have v3 := vac_lt hg hh hN
  have v4 := vac_ideal (h := h) hNi
  have d3 := duv_lt hg hh hN
  have d4 := duv_ideal (h := h) hNi
  have o1 := okRI_nat hg hr hz hi
  have o2 := okRI_nat hg hr v1 v2
  have o3 := okRI_nat hg hr d1 d2
  have o5 := okRI_nat hg hr hN hNi
  have o4 := okId_nat hg hz hi
  have o6 := okId_nat hg v3 v4
  have o7 := okId_nat hg d3 d4
  have h9 : h + 2 ≤ 1000 := by have := rkN_bounds hg; omega
  have o8 : okRT xs (z : Int) ((h + 2 : Nat) : Int) = true := okRT_yes o4 (okK_yes ⟨by omega, by omega⟩)
  have hk : okRk xs = true := by rw [okRk, hg, hr]; rfl
  refine ⟨vac xs h z, duv xs h z, rowmo xs z, vac xs h (rowmo xs z), duv xs h (rowmo xs z), iter (rowmo xs) (h + 2) z, o1, o2, o3, o4, o5, o6, o7, o8, ansSW_yes o1 hh, ansSW_yes o1 hh, ?_, ?_, ansRow_yes o4, ansSW_yes o5 hh, ?_, ansSW_yes o5 hh, ?_, ?_, ansRT_pos o8,
    lt1024 v1 hl, lt1024 d1 hl, lt1024 hN hl, lt1024 v3 hl, lt1024 d3 hl, ansRO_yes hk, by rw [rankL_length, hh], hk⟩
  · have e := ansSW_yes (f := wVac) o2 hh
    rw [e]; congr 1; exact vac_twice hg hr hh hi
  · have e := ansSW_yes (f := wDual) o3 hh
    rw [e]; congr 1; exact duv_twice hg hr hh hi
  · rw [ansRow_yes o6]; congr 1; exact vac_turn hg hr hh hz hi
  · rw [ansRow_yes o7]; congr 1; exact duv_turn hg hr hh hz hi
  · have e := ansSW_yes (f := wDual) o2 hh
    rw [e]; congr 1; exact both_rows hg hr hh hz hi
/-- the whole set, toggled by the word of rowvacuation -/
theorem wholeFacts {xs : List Int} (hk : okRW xs = true) : ∃ M : Nat, 2 ^ xs.length = M + 1 ∧ M < 1024 ∧ okTR xs (ansRW xs) (M : Int) = true ∧ okRI xs (M : Int) = true ∧ ansTR xs (ansRW xs) (M : Int) = ansSW wVac xs (M : Int) ∧ xs.length ≤ 10 := by
  have hk2 := hk
  simp only [okRW, Bool.and_eq_true, decide_eq_true_eq] at hk2
  obtain ⟨hg, hr⟩ := okRk_good hk2.1
  obtain ⟨h, hh, h9⟩ := rkN_some hg
  have hp := Nat.two_pow_pos xs.length
  have hl := (good_length hg).2
  have hM : 2 ^ xs.length - 1 < 2 ^ xs.length := by omega
  have hi : holdsIdeal xs (2 ^ xs.length - 1) = true := by
    rw [holdsIdeal_row]
    intro e he _ j hj
    rw [Nat.testBit_two_pow_sub_one]
    have := row_less hg he hj
    simp; omega
  have hRI := okRI_nat hg hr hM hi
  have hw : ansRW xs = wVac h := ansRW_yes hk hh
  have hlen : (wVac h).length ≤ 40 := by have := hk2.2; rw [hh, Nat.add_sub_cancel] at this; exact this
  have hTR : okTR xs (ansRW xs) ((2 ^ xs.length - 1 : Nat) : Int) = true := by rw [hw]; exact okTR_yes hRI hlen (inW_wVac (by omega))
  refine ⟨2 ^ xs.length - 1, by omega, lt1024 hM hl, hTR, hRI, ?_, hl⟩
  rw [ansTR_yes hTR, ansSW_yes hRI hh, hw]
/-- the ideals that are left: each one is, and they rise -/
theorem fixFacts {xs : List Int} (k : Nat) (hk : k < (ansFR xs).length) : ∃ z : Nat, (ansFR xs).getD k 0 = (z : Int) ∧ z < 1024 ∧ okRI xs (z : Int) = true ∧ ansSW wVac xs (z : Int) = (z : Int) := by
  cases hq : okRk xs
  · rw [ansFR_no hq] at hk; simp at hk
  · obtain ⟨hg, hr⟩ := okRk_good hq
    obtain ⟨h, hh, h9⟩ := rkN_some hg
    rw [ansFR_yes hq hh] at hk ⊢
    have hm : (fxL xs h (setsL (holdsIdeal xs) (2 ^ xs.length))).getD k 0 ∈ fxL xs h (setsL (holdsIdeal xs) (2 ^ xs.length)) := by
      rw [show (fxL xs h (setsL (holdsIdeal xs) (2 ^ xs.length))).getD k 0 = (fxL xs h (setsL (holdsIdeal xs) (2 ^ xs.length)))[k] from by simp [List.getD, hk]]
      exact List.getElem_mem hk
    obtain ⟨y, hy⟩ : ∃ y, (fxL xs h (setsL (holdsIdeal xs) (2 ^ xs.length))).getD k 0 = y := ⟨_, rfl⟩
    rw [hy] at hm ⊢
    unfold fxL at hm
    rw [List.mem_filter] at hm
    obtain ⟨hm1, hm2⟩ := hm
    unfold setsL at hm1
    obtain ⟨z, hz, e⟩ := List.mem_map.1 hm1
    rw [List.mem_filter, List.mem_range] at hz
    have hRI := okRI_nat hg hr hz.1 hz.2
    subst e
    refine ⟨z, rfl, lt1024 hz.1 (good_length hg).2, hRI, ?_⟩
    rw [ansSW_yes hRI hh]
    have := beq_iff_eq.1 hm2
    simp only [Int.toNat_natCast] at this ⊢
    congr 1
theorem fixRise {xs : List Int} {j k : Nat} (hjk : j < k) (hk : k < (ansFR xs).length) : (ansFR xs).getD j 0 < (ansFR xs).getD k 0 := by
  cases hq : okRk xs
  · rw [ansFR_no hq] at hk; simp at hk
  · obtain ⟨hg, hr⟩ := okRk_good hq
    obtain ⟨h, hh, h9⟩ := rkN_some hg
    rw [ansFR_yes hq hh] at hk ⊢
    have hp : (fxL xs h (setsL (holdsIdeal xs) (2 ^ xs.length))).Pairwise (· < ·) := by
      unfold fxL setsL
      refine List.Pairwise.filter _ ?_
      rw [List.pairwise_map]
      refine List.Pairwise.imp ?_ (List.Pairwise.filter _ List.pairwise_lt_range)
      intro a b hab; omega
    have hj : j < (fxL xs h (setsL (holdsIdeal xs) (2 ^ xs.length))).length := by omega
    have := List.pairwise_iff_getElem.1 hp j k hj hk hjk
    rw [show (fxL xs h (setsL (holdsIdeal xs) (2 ^ xs.length))).getD k 0 = (fxL xs h (setsL (holdsIdeal xs) (2 ^ xs.length)))[k] from by simp [List.getD, hk], show (fxL xs h (setsL (holdsIdeal xs) (2 ^ xs.length))).getD j 0 = (fxL xs h (setsL (holdsIdeal xs) (2 ^ xs.length)))[j] from by simp [List.getD, hj]]
    exact this
theorem dualFacts {xs : List Int} {z : Nat} (hg : good xs = true) (hz : z < 2 ^ xs.length) (hi : holdsIdeal xs z = true) :
    ∃ D R : Nat, okIdeal xs (z : Int) = true ∧ ansDU xs (z : Int) id = (D : Int) ∧ ansDU xs (z : Int) (rowba xs) = (R : Int) ∧ okIdeal (dualL xs) (D : Int) = true ∧ ansDU (dualL xs) (D : Int) id = (z : Int) ∧ ansRow (dualL xs) (D : Int) rowmo = (R : Int) ∧
      ansB (dualL xs) (D : Int) holdsIdeal = true ∧ D < 1024 ∧ (dualL xs).length = xs.length := by
  have o1 := okId_nat hg hz hi
  have o2 := duN_ok hg hi
  have hl := dualD_length hg
  refine ⟨duN xs.length z, duN xs.length (rowba xs z), o1, ansDU_yes o1, ansDU_yes o1, o2, ?_, ?_, ?_, lt1024 (duN_lt' _ _) (good_length hg).2, hl⟩
  · rw [ansDU_yes o2, hl]
    show ((duN xs.length (duN xs.length z) : Nat) : Int) = _
    rw [duN_twice hz]
  · rw [ansRow_yes o2, duN_rowmo hg hz hi]
  · rw [ansB, okSet_nat (dualD_good hg) (by rw [hl]; exact duN_lt' _ _), Int.toNat_natCast, duN_ideal hg hi]; rfl
end Go.Proofs.YtdemikjaghegnaaGreat
