/- Texts ComC, AcRow, TrL, one behind the other. -/
import Derived.Deep.RegionHeld3
import Derived.Test.YtdemikjaghegnaaPkRowmotionByTogglesProof05
import Derived.Test.YtdemikjaghegnaaPkRowmotionByTogglesProof07
import Derived.Test.YtdemikjaghegnaaPkRowmotionByTogglesProof08
import Derived.Test.YtdemikjaghegnaaPkRowmotionByTogglesProof12
import Derived.Test.YtdemikjaghegnaaPkRowmotionByTogglesProof13
/- DoCommute. -/
namespace Go.Proofs.Ytdemikjaghegnaa
open Go.RowKit Go.WideShapes Go.ChangeShapes
set_option linter.unusedVariables false

def okEl (xs : List Int) (d e : Int) : Bool := good xs && ((decide (0 ≤ d) && decide (d < xs.length)) && (decide (0 ≤ e) && decide (e < xs.length)))
def ansDC (xs : List Int) (d e : Int) : Bool := okEl xs d e && !covered xs d.toNat e.toNat
theorem ansDC_no {xs : List Int} {d e : Int} (h : okEl xs d e = false) : ansDC xs d e = false := by simp [ansDC, h]
theorem ansDC_yes {xs : List Int} {d e : Nat} (h : okEl xs d e = true) : ansDC xs d e = !covered xs d e := by simp [ansDC, h]
theorem okEl_no {xs : List Int} {d e : Int} (h : good xs = false) : okEl xs d e = false := by simp [okEl, h]
theorem okEl_no1 {xs : List Int} {d e : Int} (h : (decide (0 ≤ d) && decide (d < xs.length)) = false) : okEl xs d e = false := by simp only [okEl, h]; simp
theorem okEl_no2 {xs : List Int} {d e : Int} (h : (decide (0 ≤ e) && decide (e < xs.length)) = false) : okEl xs d e = false := by simp only [okEl, h]; simp
theorem okEl_yes {xs : List Int} {d e : Int} (h : good xs = true) (h1 : (decide (0 ≤ d) && decide (d < xs.length)) = true) (h2 : (decide (0 ≤ e) && decide (e < xs.length)) = true) : okEl xs d e = true := by simp only [okEl, h, h1, h2]; rfl
theorem setsL_mem {f : Nat → Bool} {N s : Nat} (hs : s < N) (hf : f s = true) : ∃ j, j < (setsL f N).length ∧ (setsL f N).getD j 0 = (s : Int) := by
  have : (s : Int) ∈ setsL f N := List.mem_map.2 ⟨s, List.mem_filter.2 ⟨List.mem_range.2 hs, hf⟩, rfl⟩
  obtain ⟨j, hj, e⟩ := List.mem_iff_getElem.1 this
  exact ⟨j, hj, by simp [List.getD, hj, e]⟩
/-- S of the region: the box and all that was there -/
structure SW (w : World) (b : Nat) (v : Value) (W : World) : Prop where
  at_ : At W b v
  below : Below w.heap.size w W
theorem SW.drew {w : World} {b : Nat} {v : Value} {W : World} (h : SW w b v W) : SW w b v W.drew := ⟨h.at_.drew, h.below.drew⟩
theorem SW.to {w : World} {b : Nat} {v : Value} {W W' : World} (h : SW w b v W) (hb : Below W.heap.size W W') : SW w b v W' := ⟨h.at_.below hb, below_to h.below hb⟩
theorem tgAt_SW (v : Value) (xs : List Int) (w0 : World) (b s e : Nat) (W : World) (hv : Ints w0 v xs) (hg : good xs = true) (hS : SW w0 b v W) (hs : s < 2 ^ xs.length) (he : e < xs.length) :
    Calls Try.prog 57 #[.agg #[v], .int .i64 s, .int .i64 e] W fun r w' => r = .returned (.int .i64 (tog xs s e : Nat)) ∧ SW w0 b v w' :=
  (tgAt_any v xs s e W (hv.below hS.below) hg hs he).mono fun _ _ ⟨h1, h2⟩ => ⟨h1, hS.to h2⟩
set_option maxHeartbeats 3200000 in
theorem specDoCommute_any (v : Value) (xs : List Int) (d e : Int) (w : World) (hv : Ints w v xs) (hl : xs.length ≤ 1048576) (wfd : (Lit.int .i64 d).wf = true) (wfe : (Lit.int .i64 e).wf = true) :
    Calls Try.prog 36 #[.agg #[v], .int .i64 d, .int .i64 e] w fun r w' => r = .returned (.tuple #[.bool (ansDC xs d e), .bool (okEl xs d e)]) ∧ Below w.heap.size w w' := by
  have HV := hid hv
  clear hv wfd wfe
  go_enter Try.func36, Try.ntmps36
  have HB := hid (below_alloc (Below.refl _ w) (.cells #[v] 26))
  have A0 := hid (At.newAt w v 26 w.heap.size (by simp))
  go_wp2_with fail
  refine (poGood_any _ xs _ (HV.out.below HB.out) hl).mono ?_
  rintro e w' ⟨rfl, hb⟩
  replace HB := hid (below_to HB.out hb)
  replace A0 := hid (A0.out.below hb)
  clear hb
  cases hq : good xs
  · have HO := hid (okEl_no (d := d) (e := e) hq)
    clear hq
    have ebox0 := A0.out.1
    go_wp2
    go_ret2
    exact ⟨ret_bb (ansDC_no HO.out).symm HO.out.symm, HB.out⟩
  · have HQ := hid hq
    have hl10 := (good_length hq).2
    clear hq
    have ebox0 := A0.out.1
    go_wp2_with fail
    clear ebox0
    refine (tgElement_any _ xs d _ (HV.out.below HB.out) hl).mono ?_
    rintro e w' ⟨rfl, hb⟩
    replace HB := hid (below_to HB.out hb)
    replace A0 := hid (A0.out.below hb)
    clear hb
    cases h1 : (decide (0 ≤ d) && decide (d < (xs.length : Int)))
    · have HO := hid (okEl_no1 (e := e) h1)
      clear h1
      have ebox0 := A0.out.1
      go_wp2
      go_ret2
      exact ⟨ret_bb (ansDC_no HO.out).symm HO.out.symm, HB.out⟩
    · have H1 := hid h1
      clear h1
      have ebox0 := A0.out.1
      go_wp2_with fail
      clear ebox0
      refine (tgElement_any _ xs e _ (HV.out.below HB.out) hl).mono ?_
      rintro e w' ⟨rfl, hb⟩
      replace HB := hid (below_to HB.out hb)
      replace A0 := hid (A0.out.below hb)
      clear hb
      cases h2 : (decide (0 ≤ e) && decide (e < (xs.length : Int)))
      · have HO := hid (okEl_no2 (d := d) h2)
        clear h2
        have ebox0 := A0.out.1
        go_wp2
        go_ret2
        exact ⟨ret_bb (ansDC_no HO.out).symm HO.out.symm, HB.out⟩
      · have HO := hid (okEl_yes HQ.out H1.out h2)
        have h3 : 0 ≤ d ∧ d < xs.length := by simpa using H1.out
        have h4 : 0 ≤ e ∧ e < xs.length := by simpa using h2
        clear h2
        obtain ⟨x, rfl⟩ := Int.eq_ofNat_of_zero_le h3.1
        obtain ⟨y, rfl⟩ := Int.eq_ofNat_of_zero_le h4.1
        have hx : x < xs.length := by omega
        have hy : y < xs.length := by omega
        clear h3 h4
        have HAns := hid (ansDC_yes HO.out)
        have ebox0 := A0.out.1
        go_wp2_with fail
        clear ebox0
        refine (poIdeals_any _ xs _ (HV.out.below HB.out) HQ.out).mono ?_
        rintro e w' ⟨u, rfl, ho, hb⟩
        replace HB := hid (below_to HB.out hb)
        replace A0 := hid (A0.out.below hb)
        clear hb
        have HU := hid ho.ints
        clear ho
        obtain ⟨N, hN⟩ : ∃ N, 2 ^ xs.length = N := ⟨_, rfl⟩
        obtain ⟨I, hI⟩ : ∃ I, setsL (holdsIdeal xs) N = I := ⟨_, rfl⟩
        have HAt := hid (fun j hj => setsL_at (f := holdsIdeal xs) (N := N) (j := j) hj)
        have HMem := hid (fun s hs hf => setsL_mem (f := holdsIdeal xs) (N := N) (s := s) hs hf)
        have hIN := setsL_length (holdsIdeal xs) N
        have hN10 : N ≤ 1024 := by rw [← hN]; exact pow10 hl10
        rw [hN, hI] at HU
        rw [hI] at HAt hIN HMem
        have HNe := hid hN
        clear hI hN
        obtain ⟨uA, uc, rfl, hUA⟩ := HU.out
        have HUA := hid hUA
        have HUZ := hid HB.out
        clear hUA
        have HW := hid (Below.refl w'.heap.size w')
        have ebox0 := A0.out.1
        go_wp2
        go_loopw [28] (fun i wr => ∃ j : Nat, j ≤ I.length ∧ i = .int .i64 j ∧ Hid (∀ t, t < j → swapAt xs x y (I.getD t 0).toNat = true) ∧ At wr w.heap.size v ∧ Below w.heap.size w wr ∧ Below w'.heap.size w' wr) (fun i _ => I.length - (intOf i).toNat)
        case atStart => exact ⟨0, Nat.zero_le _, rfl, hid (fun t ht => absurd ht (Nat.not_lt_zero _)), A0.out, HB.out, HW.out⟩
        case round =>
          obtain ⟨j, hj, rfl, HJ, ha, hb, hu⟩ := hrel
          have HA1 := hid ha
          have Hb1 := hid hb
          have HU1 := hid hu
          by_cases hlt : j < I.length
          · obtain ⟨s, hs, hsN, hIs, hlo, hup⟩ := HAt.out j hlt
            obtain ⟨b, o, rfl, hbl, hc⟩ := HUA.out (by intro h; simp [h] at hlt)
            have hcell : wr.cell? ⟨b, o + j, none⟩ = some (.int .i64 s) := by rw [(hu.cell (p := ⟨b, o + j, none⟩) hbl).trans (hc j hlt), hs]
            have HS := hid hs
            have HIs := hid hIs
            have hz0 : s < 2 ^ xs.length := by rw [HNe.out]; exact hsN
            have hz1 := tog_lt (xs := xs) hz0 hx
            have hz2 := tog_lt (xs := xs) hz0 hy
            have HSW := hid (show SW w' w.heap.size v wr from ⟨ha, hu⟩)
            have HV1 := hid (HV.out.below HB.out)
            have hbx := ha.1
            clear hc ha hb hu hs hIs hlo hup
            go_wp2_with fail
            go_region_held3 (fun W => W.cell? ⟨w.heap.size, 0, none⟩ = some v ∧ Hid (SW w' w.heap.size v W)) (first | exact ⟨HSW.out.drew.at_.1, hid HSW.out.drew⟩ | exact ⟨HS2.out.at_.1, HS2⟩) (first | (go_at_call 57; refine (tgAt_SW v xs w' w.heap.size _ _ _ HV1.out HQ.out (Hid.out (by first | assumption | exact hid HSW.out.drew)) (by assumption) (by assumption)).mono ?_; rintro e' w4 ⟨rfl, hs4⟩; have HS2 := hid hs4; clear hs4))
            have HA3 := hid HS2.out.at_
            have HU3 := hid HS2.out.below
            have Hb3 := hid (below_to HB.out HS2.out.below)
            cases hsw : swapAt xs x y s
            · have hne : (((tog xs (tog xs s x) y : Nat) : Int) != ((tog xs (tog xs s y) x : Nat) : Int)) = true := by
                unfold swapAt at hsw
                rw [beq_eq_false_iff_ne] at hsw
                rw [bne_iff_ne]
                omega
              have HC : Hid (ansDC xs x y = false) := hid (by
                rw [HAns.out]
                cases hc : covered xs x y
                · rw [covered_all HQ.out hx hy hc HIs.out] at hsw; cases hsw
                · rfl)
              clear hsw
              go_wp2
              go_ret2
              exact ⟨ret_bb HC.out.symm HO.out.symm, Hb3.out⟩
            · have hne : (((tog xs (tog xs s x) y : Nat) : Int) != ((tog xs (tog xs s y) x : Nat) : Int)) = false := by
                unfold swapAt at hsw
                rw [beq_iff_eq] at hsw
                rw [bne_eq_false_iff_eq, hsw]
              have HJ2 : Hid (∀ t, t < j + 1 → swapAt xs x y (I.getD t 0).toNat = true) := hid (fun t ht => by
                by_cases h : t = j
                · subst h; rw [HS.out, Int.toNat_natCast]; exact hsw
                · exact HJ.out t (by omega))
              clear hsw
              go_wp2
              go_roundw
              case rel => exact ⟨j + 1, by omega, by go_num, HJ2, HA3.out, Hb3.out, HU3.out⟩
              case measure => simp [intOf]; omega
          · have HC : Hid (ansDC xs x y = true) := hid (by
              rw [HAns.out]
              cases hc : covered xs x y
              · rfl
              · exfalso
                obtain ⟨s, h1, h2, h3⟩ := covered_yes HQ.out hx hy hc
                obtain ⟨t, h4, h5⟩ := HMem.out s (by rw [← HNe.out]; exact h1) h2
                have := HJ.out t (by omega)
                rw [h5, Int.toNat_natCast, h3] at this; cases this)
            clear ha hb hu
            go_wp2
            go_ret2
            exact ⟨ret_bb HC.out.symm HO.out.symm, Hb1.out⟩
theorem okWord_two (xs : List Int) (d e : Int) : okWord xs [d, e] = ((decide (0 ≤ d) && decide (d < xs.length)) && (decide (0 ≤ e) && decide (e < xs.length))) := by
  simp [okWord, inW]
set_option maxHeartbeats 1600000 in
theorem implDoCommute_any (v : Value) (xs : List Int) (d e : Int) (w : World) (hv : Ints w v xs) (hl : xs.length ≤ 1048576) (wfd : (Lit.int .i64 d).wf = true) (wfe : (Lit.int .i64 e).wf = true) :
    Calls Try.prog 35 #[.agg #[v], .int .i64 d, .int .i64 e] w fun r w' => r = .returned (.tuple #[.bool (ansDC xs d e), .bool (okEl xs d e)]) ∧ Below w.heap.size w w' := by
  have HV := hid hv
  obtain ⟨A, c, rfl, hA⟩ := hv
  have HA := hid hA
  clear hA wfd wfe
  go_enter Try.func35, Try.ntmps35
  have HB := hid (below_alloc (Below.refl _ w) (.cells #[(.slice A xs.length c)] 26))
  have A0 := hid (At.newAt w (.slice A xs.length c) 26 w.heap.size (by simp))
  go_wp2_with fail
  refine (implIsPoset_any _ xs _ (HV.out.below HB.out) hl).mono ?_
  rintro e w' ⟨rfl, hb⟩
  replace HB := hid (below_to HB.out hb)
  replace A0 := hid (A0.out.below hb)
  clear hb
  cases hq : good xs
  · have HO := hid (okEl_no (d := d) (e := e) hq)
    clear hq
    have ebox0 := A0.out.1
    go_wp2
    go_ret2
    exact ⟨ret_bb (ansDC_no HO.out).symm HO.out.symm, HB.out⟩
  · have HQ := hid hq
    have hl10 := (good_length hq).2
    clear hq
    have ebx := A0.out.1
    have ebxz := A0.out.2
    go_wp2_with fail
    clear ebx ebxz
    refine (hasWord_any _ _ xs [d, e] _ ((HV.out.below HB.out).alloc _) (Blk.ints (xs := [d, e]) (c := 2) (Blk.newAt _ 3 _ _ (by first | rfl | simp))) hl (by simp)).mono ?_
    rw [okWord_two]
    rintro e' w4 ⟨rfl, hb⟩
    have HB4 := hid (below_to (below_alloc HB.out _) hb)
    have HA4 := hid ((A0.out.alloc _).below hb)
    clear hb
    cases h12 : ((decide (0 ≤ d) && decide (d < (xs.length : Int))) && (decide (0 ≤ e) && decide (e < (xs.length : Int))))
    · have HO : Hid (okEl xs d e = false) := hid (by simp only [okEl, HQ.out, h12]; rfl)
      clear h12
      go_wp2
      go_ret2
      exact ⟨ret_bb (ansDC_no HO.out).symm HO.out.symm, HB4.out⟩
    · have HO : Hid (okEl xs d e = true) := hid (by simp only [okEl, HQ.out, h12]; rfl)
      have h3 : (0 ≤ d ∧ d < xs.length) ∧ (0 ≤ e ∧ e < xs.length) := by simpa only [Bool.and_eq_true, decide_eq_true_eq] using h12
      clear h12
      obtain ⟨x, rfl⟩ := Int.eq_ofNat_of_zero_le h3.1.1
      obtain ⟨y, rfl⟩ := Int.eq_ofNat_of_zero_le h3.2.1
      have hx : x < xs.length := by omega
      have hy : y < xs.length := by omega
      clear h3
      have HAns := hid (ansDC_yes HO.out)
      rcases Nat.lt_trichotomy x y with hxy | hxy | hxy
      · skip
        obtain ⟨b, o, rfl, hbl, hc⟩ := HA.out (by intro h; simp [h] at hx)
        have hcell : w4.cell? ⟨b, o + y, none⟩ = some (.int .i64 (xs.getD y 0)) := (HB4.out.cell (p := ⟨b, o + y, none⟩) hbl).trans (hc _ hy)
        have hr := row_lt HQ.out hy
        have hr10 := row_lt10 HQ.out hy
        have HCv : Hid (covered xs x y = (top xs (row xs y)).testBit x) := hid (by unfold covered; first | rw [Nat.max_self, Nat.min_self] | rw [Nat.max_eq_right (by omega), Nat.min_eq_left (by omega)] | rw [Nat.max_eq_left (by omega), Nat.min_eq_right (by omega)])
        obtain ⟨z, hz⟩ : ∃ z, row xs y = z := ⟨_, rfl⟩
        rw [hz] at hr hr10 HCv
        rw [hr.1] at hcell
        have HSm := hid (good_small HQ.out z)
        obtain ⟨T, hT⟩ : ∃ T, top xs z = T := ⟨_, rfl⟩
        have hT10 : T < 1024 := by rw [← hT]; exact top_lt hr10
        rw [hT] at HCv
        have HTop := hid hT
        have hiI : (y : Int) < xs.length := by omega
        have hlo64 : x < 64 := by omega
        have HV4 := hid (HV.out.below HB4.out)
        have hbox := HA4.out.1
        clear hc hr hz hT
        go_wp2_with fail
        go_region_with (first | (go_at_call 61; refine (top_any _ xs z _ HV4.out.drew hl10 hr10 HSm.out).mono ?_; rw [HTop.out]; rintro e' w5 ⟨rfl, hb5⟩; have H5 := hid (below_to HB4.out.drew hb5); have hbx5 := (HA4.out.drew.below hb5).1; have hcell5 := (hb5.cell (p := ⟨b, o + y, none⟩) (Nat.lt_of_lt_of_le hbl HB4.out.size)).trans hcell; clear hb5) | (go_at_call 62; refine (hasElement_any T x (by omega) hlo64 _).mono ?_; rintro e' w6 ⟨rfl, rfl⟩))
        all_goals go_wp2
        all_goals go_ret2
        all_goals exact ⟨ret_bb (by rw [HAns.out, HCv.out]) HO.out.symm, H5.out⟩
      · subst hxy
        obtain ⟨b, o, rfl, hbl, hc⟩ := HA.out (by intro h; simp [h] at hx)
        have hcell : w4.cell? ⟨b, o + x, none⟩ = some (.int .i64 (xs.getD x 0)) := (HB4.out.cell (p := ⟨b, o + x, none⟩) hbl).trans (hc _ hx)
        have hr := row_lt HQ.out hx
        have hr10 := row_lt10 HQ.out hx
        have HCv : Hid (covered xs x x = (top xs (row xs x)).testBit x) := hid (by unfold covered; first | rw [Nat.max_self, Nat.min_self] | rw [Nat.max_eq_right (by omega), Nat.min_eq_left (by omega)] | rw [Nat.max_eq_left (by omega), Nat.min_eq_right (by omega)])
        obtain ⟨z, hz⟩ : ∃ z, row xs x = z := ⟨_, rfl⟩
        rw [hz] at hr hr10 HCv
        rw [hr.1] at hcell
        have HSm := hid (good_small HQ.out z)
        obtain ⟨T, hT⟩ : ∃ T, top xs z = T := ⟨_, rfl⟩
        have hT10 : T < 1024 := by rw [← hT]; exact top_lt hr10
        rw [hT] at HCv
        have HTop := hid hT
        have hiI : (x : Int) < xs.length := by omega
        have hlo64 : x < 64 := by omega
        have HV4 := hid (HV.out.below HB4.out)
        have hbox := HA4.out.1
        clear hc hr hz hT
        go_wp2_with fail
        go_region_with (first | (go_at_call 61; refine (top_any _ xs z _ HV4.out.drew hl10 hr10 HSm.out).mono ?_; rw [HTop.out]; rintro e' w5 ⟨rfl, hb5⟩; have H5 := hid (below_to HB4.out.drew hb5); have hbx5 := (HA4.out.drew.below hb5).1; have hcell5 := (hb5.cell (p := ⟨b, o + x, none⟩) (Nat.lt_of_lt_of_le hbl HB4.out.size)).trans hcell; clear hb5) | (go_at_call 62; refine (hasElement_any T x (by omega) hlo64 _).mono ?_; rintro e' w6 ⟨rfl, rfl⟩))
        all_goals go_wp2
        all_goals go_ret2
        all_goals exact ⟨ret_bb (by rw [HAns.out, HCv.out]) HO.out.symm, H5.out⟩
      · skip
        obtain ⟨b, o, rfl, hbl, hc⟩ := HA.out (by intro h; simp [h] at hx)
        have hcell : w4.cell? ⟨b, o + x, none⟩ = some (.int .i64 (xs.getD x 0)) := (HB4.out.cell (p := ⟨b, o + x, none⟩) hbl).trans (hc _ hx)
        have hr := row_lt HQ.out hx
        have hr10 := row_lt10 HQ.out hx
        have HCv : Hid (covered xs x y = (top xs (row xs x)).testBit y) := hid (by unfold covered; first | rw [Nat.max_self, Nat.min_self] | rw [Nat.max_eq_right (by omega), Nat.min_eq_left (by omega)] | rw [Nat.max_eq_left (by omega), Nat.min_eq_right (by omega)])
        obtain ⟨z, hz⟩ : ∃ z, row xs x = z := ⟨_, rfl⟩
        rw [hz] at hr hr10 HCv
        rw [hr.1] at hcell
        have HSm := hid (good_small HQ.out z)
        obtain ⟨T, hT⟩ : ∃ T, top xs z = T := ⟨_, rfl⟩
        have hT10 : T < 1024 := by rw [← hT]; exact top_lt hr10
        rw [hT] at HCv
        have HTop := hid hT
        have hiI : (x : Int) < xs.length := by omega
        have hlo64 : y < 64 := by omega
        have HV4 := hid (HV.out.below HB4.out)
        have hbox := HA4.out.1
        clear hc hr hz hT
        go_wp2_with fail
        go_region_with (first | (go_at_call 61; refine (top_any _ xs z _ HV4.out.drew hl10 hr10 HSm.out).mono ?_; rw [HTop.out]; rintro e' w5 ⟨rfl, hb5⟩; have H5 := hid (below_to HB4.out.drew hb5); have hbx5 := (HA4.out.drew.below hb5).1; have hcell5 := (hb5.cell (p := ⟨b, o + x, none⟩) (Nat.lt_of_lt_of_le hbl HB4.out.size)).trans hcell; clear hb5) | (go_at_call 62; refine (hasElement_any T y (by omega) hlo64 _).mono ?_; rintro e' w6 ⟨rfl, rfl⟩))
        all_goals go_wp2
        all_goals go_ret2
        all_goals exact ⟨ret_bb (by rw [HAns.out, HCv.out]) HO.out.symm, H5.out⟩
end Go.Proofs.Ytdemikjaghegnaa

/- AntichainRow. -/
namespace Go.Proofs.Ytdemikjaghegnaa
open Go.RowKit Go.WideShapes Go.ChangeShapes
set_option linter.unusedVariables false

theorem under_lt {xs : List Int} (hg : good xs = true) (s : Nat) : under xs s < 2 ^ xs.length := by
  apply Nat.lt_pow_two_of_testBit
  intro i hi
  rw [Bool.eq_false_iff]
  intro h
  obtain ⟨e, he, hb, hr⟩ := (underN_testBit xs s xs.length i).1 h
  have := testBit_lt (row_lt_len hg he) hr
  omega
theorem down_lt {xs : List Int} (hg : good xs = true) {s : Nat} (hs : s < 2 ^ xs.length) : down xs s < 2 ^ xs.length := Nat.or_lt_two_pow hs (under_lt hg s)
def okAC (xs : List Int) (s : Int) : Bool := okSet xs s && holdsAntichain xs s.toNat
def acRow (xs : List Int) (s : Nat) : Nat := top xs (rowmo xs (down xs s))
def ansAC (xs : List Int) (s : Int) : Int := if okAC xs s then (acRow xs s.toNat : Int) else 0
theorem okAC_no1 {xs : List Int} {s : Int} (h : okSet xs s = false) : okAC xs s = false := by simp [okAC, h]
theorem okAC_no2 {xs : List Int} {z : Nat} (h : holdsAntichain xs z = false) : okAC xs z = false := by simp [okAC, h]
theorem okAC_yes {xs : List Int} {z : Nat} (h : okSet xs z = true) (k : holdsAntichain xs z = true) : okAC xs z = true := by simp [okAC, h, k]
theorem ansAC_no {xs : List Int} {s : Int} (h : okAC xs s = false) : ansAC xs s = 0 := by simp [ansAC, h]
theorem ansAC_yes {xs : List Int} {z : Nat} (h : okAC xs z = true) : ansAC xs z = (acRow xs z : Int) := by simp [ansAC, h]
theorem poDown_SW (v : Value) (xs : List Int) (w0 : World) (b s : Nat) (W : World) (hv : Ints w0 v xs) (hl : xs.length ≤ 10) (hs : s < 1024) (hsm : Small xs s) (hS : SW w0 b v W) :
    Calls Try.prog 80 #[.agg #[v], .int .i64 s] W fun r w' => r = .returned (.int .i64 (down xs s : Nat)) ∧ SW w0 b v w' :=
  (poDown_any v xs s W (hv.below hS.below) hl hs hsm).mono fun _ _ ⟨h1, h2⟩ => ⟨h1, hS.to h2⟩
theorem poTop_SW (v : Value) (xs : List Int) (w0 : World) (b s : Nat) (W : World) (hv : Ints w0 v xs) (hl : xs.length ≤ 10) (hs : s < 1024) (hsm : Small xs s) (hS : SW w0 b v W) :
    Calls Try.prog 79 #[.agg #[v], .int .i64 s] W fun r w' => r = .returned (.int .i64 (top xs s : Nat)) ∧ SW w0 b v w' :=
  (poTop_any v xs s W (hv.below hS.below) hl hs hsm).mono fun _ _ ⟨h1, h2⟩ => ⟨h1, hS.to h2⟩
theorem tgRow_SW (v : Value) (xs : List Int) (w0 : World) (b s : Nat) (W : World) (hv : Ints w0 v xs) (hg : good xs = true) (hs : s < 2 ^ xs.length) (hS : SW w0 b v W) :
    Calls Try.prog 58 #[.agg #[v], .int .i64 s] W fun r w' => r = .returned (.int .i64 (rowmo xs s : Nat)) ∧ SW w0 b v w' :=
  (tgRow_any v xs s W (hv.below hS.below) hg hs).mono fun _ _ ⟨h1, h2⟩ => ⟨h1, hS.to h2⟩
theorem under_SW (v : Value) (xs : List Int) (w0 : World) (b s : Nat) (W : World) (hv : Ints w0 v xs) (hl : xs.length ≤ 10) (hs : s < 1024) (hsm : Small xs s) (hS : SW w0 b v W) :
    Calls Try.prog 65 #[.agg #[v], .int .i64 s] W fun r w' => r = .returned (.int .i64 (under xs s : Nat)) ∧ SW w0 b v w' :=
  (under_any v xs s W (hv.below hS.below) hl hs hsm).mono fun _ _ ⟨h1, h2⟩ => ⟨h1, hS.to h2⟩
theorem top_SW (v : Value) (xs : List Int) (w0 : World) (b s : Nat) (W : World) (hv : Ints w0 v xs) (hl : xs.length ≤ 10) (hs : s < 1024) (hsm : Small xs s) (hS : SW w0 b v W) :
    Calls Try.prog 61 #[.agg #[v], .int .i64 s] W fun r w' => r = .returned (.int .i64 (top xs s : Nat)) ∧ SW w0 b v w' :=
  (top_any v xs s W (hv.below hS.below) hl hs hsm).mono fun _ _ ⟨h1, h2⟩ => ⟨h1, hS.to h2⟩
theorem rowStep_SW (v : Value) (xs : List Int) (w0 : World) (b s : Nat) (W : World) (hv : Ints w0 v xs) (hg : good xs = true) (hs : s < 2 ^ xs.length) (hS : SW w0 b v W) :
    Calls Try.prog 64 #[.agg #[], .agg #[v], .int .i64 s] W fun r w' => r = .returned (.int .i64 (rowmo xs s : Nat)) ∧ SW w0 b v w' :=
  (rowStep_any v xs s W (hv.below hS.below) hg hs).mono fun _ _ ⟨h1, h2⟩ => ⟨h1, hS.to h2⟩
set_option maxHeartbeats 1600000 in
theorem specAntichainRow_any (v : Value) (xs : List Int) (s : Int) (w : World) (hv : Ints w v xs) (hl : xs.length ≤ 1048576) (wf : (Lit.int .i64 s).wf = true) :
    Calls Try.prog 28 #[.agg #[v], .int .i64 s] w fun r w' => r = .returned (.tuple #[.int .i64 (ansAC xs s), .bool (okAC xs s)]) ∧ Below w.heap.size w w' := by
  have HV := hid hv
  clear hv wf
  go_enter Try.func28, Try.ntmps28
  have HB := hid (below_alloc (Below.refl _ w) (.cells #[v] 26))
  have A0 := hid (At.newAt w v 26 w.heap.size (by simp))
  go_wp2_with fail
  refine (poGood_any _ xs _ (HV.out.below HB.out) hl).mono ?_
  rintro e w' ⟨rfl, hb⟩
  replace HB := hid (below_to HB.out hb)
  replace A0 := hid (A0.out.below hb)
  clear hb
  cases hq : good xs
  · have HO := hid (okAC_no1 (okSet_no (s := s) hq))
    clear hq
    have ebox0 := A0.out.1
    go_wp2
    go_ret2
    exact ⟨ret_ib (ansAC_no HO.out).symm HO.out.symm, HB.out⟩
  · have HQ := hid hq
    have hl10 := (good_length hq).2
    clear hq
    have ebox0 := A0.out.1
    go_wp2_with fail
    clear ebox0
    refine (poSet_ok _ xs s _ (HV.out.below HB.out) HQ.out).mono ?_
    rintro e w' ⟨rfl, hb⟩
    replace HB := hid (below_to HB.out hb)
    replace A0 := hid (A0.out.below hb)
    clear hb
    cases ho : okSet xs s
    · have HO := hid (okAC_no1 ho)
      clear ho
      have ebox0 := A0.out.1
      go_wp2
      go_ret2
      exact ⟨ret_ib (ansAC_no HO.out).symm HO.out.symm, HB.out⟩
    · have HS := hid ho
      obtain ⟨h1, h2, h3⟩ := okSet_good ho
      obtain ⟨z, rfl⟩ := Int.eq_ofNat_of_zero_le h2
      have hp := Nat.one_le_two_pow (n := xs.length)
      have hz : z < 2 ^ xs.length := by omega
      have HZ := hid hz
      have hz10 := lt1024 hz hl10
      have hd := down_lt HQ.out hz
      have HD := hid hd
      have hr10 := lt1024 (rowmo_lt HQ.out (down xs z)) hl10
      have HSm := hid (good_small HQ.out)
      clear ho h1 h3 hp hz hd h2
      have ebox0 := A0.out.1
      go_wp2_with fail
      clear ebox0
      refine (poTop_any _ xs z _ (HV.out.below HB.out) hl10 hz10 (HSm.out z)).mono ?_
      rintro e w' ⟨rfl, hb⟩
      replace HB := hid (below_to HB.out hb)
      replace A0 := hid (A0.out.below hb)
      clear hb
      have HTE := hid (top_eq xs z)
      cases ha : holdsAntichain xs z
      · have HO := hid (okAC_no2 ha)
        have hne : (((top xs z : Nat) : Int) != (z : Int)) = true := by
          have := HTE.out
          rw [ha] at this
          rw [bne, this]; rfl
        clear ha
        have ebox0 := A0.out.1
        go_wp2
        go_ret2
        exact ⟨ret_ib (ansAC_no HO.out).symm HO.out.symm, HB.out⟩
      · have HO := hid (okAC_yes HS.out ha)
        have HAns := hid (ansAC_yes HO.out)
        have hne : (((top xs z : Nat) : Int) != (z : Int)) = false := by
          have := HTE.out
          rw [ha] at this
          rw [bne, this]; rfl
        have hr := HSm.out
        have HSW := hid (show SW w w.heap.size v w' from ⟨A0.out, HB.out⟩)
        clear ha hr
        have ebox0 := A0.out.1
        go_wp2
        clear hne
        have hbx := HSW.out.at_.1
        go_region_held3 (fun W => W.cell? ⟨w.heap.size, 0, none⟩ = some v ∧ Hid (SW w w.heap.size v W)) (first | exact ⟨HSW.out.drew.at_.1, hid HSW.out.drew⟩ | exact ⟨HS2.out.at_.1, HS2⟩) (first | (go_at_call 80; refine (poDown_SW v xs w w.heap.size _ _ HV.out hl10 (by assumption) (HSm.out _) (Hid.out (by first | assumption | exact hid HSW.out.drew))).mono ?_; rintro e' w4 ⟨rfl, hs4⟩; have HS2 := hid hs4; clear hs4) | (go_at_call 58; refine (tgRow_SW v xs w w.heap.size _ _ HV.out HQ.out HD.out (Hid.out (by first | assumption | exact hid HSW.out.drew))).mono ?_; rintro e' w4 ⟨rfl, hs4⟩; have HS2 := hid hs4; clear hs4) | (go_at_call 79; refine (poTop_SW v xs w w.heap.size _ _ HV.out hl10 (by assumption) (HSm.out _) (Hid.out (by first | assumption | exact hid HSW.out.drew))).mono ?_; rintro e' w4 ⟨rfl, hs4⟩; have HS2 := hid hs4; clear hs4))
        all_goals go_wp2
        all_goals go_ret2
        all_goals exact ⟨ret_ib (by rw [HAns.out]; rfl) HO.out.symm, HS2.out.below⟩
set_option maxHeartbeats 1600000 in
theorem implAntichainRow_any (v : Value) (xs : List Int) (s : Int) (w : World) (hv : Ints w v xs) (hl : xs.length ≤ 1048576) (wf : (Lit.int .i64 s).wf = true) :
    Calls Try.prog 16 #[.agg #[v], .int .i64 s] w fun r w' => r = .returned (.tuple #[.int .i64 (ansAC xs s), .bool (okAC xs s)]) ∧ Below w.heap.size w w' := by
  have HV := hid hv
  clear hv wf
  go_enter Try.func16, Try.ntmps16
  have HB := hid (below_alloc (Below.refl _ w) (.cells #[v] 26))
  have A0 := hid (At.newAt w v 26 w.heap.size (by simp))
  go_wp2_with fail
  refine (hasSet_any _ xs s _ (HV.out.below HB.out) hl).mono ?_
  rintro e w' ⟨rfl, hb⟩
  replace HB := hid (below_to HB.out hb)
  replace A0 := hid (A0.out.below hb)
  clear hb
  cases ho : okSet xs s
  · have HO := hid (okAC_no1 ho)
    clear ho
    have ebox0 := A0.out.1
    go_wp2
    go_ret2
    exact ⟨ret_ib (ansAC_no HO.out).symm HO.out.symm, HB.out⟩
  · have HS := hid ho
    obtain ⟨h1, h2, h3⟩ := okSet_good ho
    have HQ := hid h1
    have hl10 := (good_length h1).2
    obtain ⟨z, rfl⟩ := Int.eq_ofNat_of_zero_le h2
    have hp := Nat.one_le_two_pow (n := xs.length)
    have hz : z < 2 ^ xs.length := by omega
    have HZ := hid hz
    have hz10 := lt1024 hz hl10
    have HD := hid (down_lt HQ.out hz)
    have hu10 := lt1024 (under_lt HQ.out z) hl10
    have hr10 := lt1024 (rowmo_lt HQ.out (down xs z)) hl10
    have HSm := hid (good_small HQ.out)
    clear ho h1 h3 hp hz h2
    have ebox0 := A0.out.1
    go_wp2_with fail
    clear ebox0
    refine (holdsAntichain_any _ xs z _ (HV.out.below HB.out) hl10 hz10 (HSm.out z)).mono ?_
    rintro e w' ⟨rfl, hb⟩
    replace HB := hid (below_to HB.out hb)
    replace A0 := hid (A0.out.below hb)
    clear hb
    cases ha : holdsAntichain xs z
    · have HO := hid (okAC_no2 ha)
      clear ha
      have ebox0 := A0.out.1
      go_wp2
      go_ret2
      exact ⟨ret_ib (ansAC_no HO.out).symm HO.out.symm, HB.out⟩
    · have HO := hid (okAC_yes HS.out ha)
      have HAns := hid (ansAC_yes HO.out)
      have HSW := hid (show SW w w.heap.size v w' from ⟨A0.out, HB.out⟩)
      clear ha
      have ebox0 := A0.out.1
      go_wp2
      have hbx := HSW.out.at_.1
      have hor := i64_or_nat z (under xs z) (by omega) (by omega)
      rw [show z ||| under xs z = down xs z from rfl] at hor
      go_region_held3 (fun W => W.cell? ⟨w.heap.size, 0, none⟩ = some v ∧ Hid (SW w w.heap.size v W)) (first | exact ⟨HSW.out.drew.at_.1, hid HSW.out.drew⟩ | exact ⟨HS2.out.at_.1, HS2⟩) (first | (go_at_call 65; refine (under_SW v xs w w.heap.size _ _ HV.out hl10 (by assumption) (HSm.out _) (Hid.out (by first | assumption | exact hid HSW.out.drew))).mono ?_; rintro e' w4 ⟨rfl, hs4⟩; have HS2 := hid hs4; clear hs4) | (go_at_call 64; refine (rowStep_SW v xs w w.heap.size _ _ HV.out HQ.out HD.out (Hid.out (by first | assumption | exact hid HSW.out.drew))).mono ?_; rintro e' w4 ⟨rfl, hs4⟩; have HS2 := hid hs4; clear hs4) | (go_at_call 61; refine (top_SW v xs w w.heap.size _ _ HV.out hl10 (by assumption) (HSm.out _) (Hid.out (by first | assumption | exact hid HSW.out.drew))).mono ?_; rintro e' w4 ⟨rfl, hs4⟩; have HS2 := hid hs4; clear hs4))
      all_goals go_wp2
      all_goals go_ret2
      all_goals exact ⟨ret_ib (by rw [HAns.out]; rfl) HO.out.symm, HS2.out.below⟩
end Go.Proofs.Ytdemikjaghegnaa

/- Facts that the law of rowmotion by toggles asks for. -/
namespace Go.Proofs.Ytdemikjaghegnaa
open Go.RowKit Go.WideShapes Go.ChangeShapes
set_option linter.unusedVariables false

theorem rb_row {xs ys : List Int} {s : Int} (h : okRB xs ys s = true) : ansRow xs s rowmo = ansRB xs ys s ∧ okIdeal xs s = true := by
  have h1 := h
  simp only [okRB, Bool.and_eq_true] at h1
  obtain ⟨z, rfl, hg, hz, hi⟩ := okIdeal_all h1.1
  rw [ansRow_yes h1.1, ansRB_yes h, togW_order hg hz hi h1.2]
  exact ⟨rfl, h1.1⟩
theorem okIdealN {xs : List Int} {z : Nat} (hg : good xs = true) (hz : z < 2 ^ xs.length) (hi : holdsIdeal xs z = true) : okIdeal xs (z : Int) = true := by
  rw [okIdeal, okSet_nat hg hz, Int.toNat_natCast, hi]; rfl
theorem row_facts {xs : List Int} (hg : good xs = true) {z : Nat} (hz : z < 2 ^ xs.length) (hi : holdsIdeal xs z = true) :
    ansRow xs (z : Int) rowmo = (rowmo xs z : Nat) ∧ ansRow xs (z : Int) rowba = (rowba xs z : Nat) ∧
    ansRow xs ((rowmo xs z : Nat) : Int) rowba = (z : Int) ∧ ansRow xs ((rowba xs z : Nat) : Int) rowmo = (z : Int) ∧
    ansI xs ((rowmo xs z : Nat) : Int) top = ((top xs (rowmo xs z) : Nat) : Int) ∧ ansI xs ((compl xs.length z : Nat) : Int) bottom = ((top xs (rowmo xs z) : Nat) : Int) ∧
    ansI xs (z : Int) top = ((top xs z : Nat) : Int) ∧ ansAC xs ((top xs z : Nat) : Int) = ((top xs (rowmo xs z) : Nat) : Int) ∧
    okIdeal xs ((rowmo xs z : Nat) : Int) = true ∧ okIdeal xs ((rowba xs z : Nat) : Int) = true ∧ okSet xs ((rowmo xs z : Nat) : Int) = true ∧ okSet xs ((compl xs.length z : Nat) : Int) = true ∧
    okSet xs (z : Int) = true ∧ okAC xs ((top xs z : Nat) : Int) = true ∧ okSet xs ((top xs z : Nat) : Int) = true ∧ ansB xs ((rowmo xs z : Nat) : Int) holdsIdeal = true ∧
    rowmo xs z < 1024 ∧ rowba xs z < 1024 ∧ top xs z < 1024 := by
  have hl := (good_length hg).2
  have r1 := rowmo_lt hg z
  have r2 := rowmo_ideal hg z
  have b1 := rowba_lt xs z
  have b2 := rowba_ideal hg z
  have t1 := top_lt_len (xs := xs) hz
  have c1 := compl_lt xs.length z
  have o0 := okIdealN hg hz hi
  have o1 := okIdealN hg r1 r2
  have o2 := okIdealN hg b1 b2
  have o3 := okAC_yes (okSet_nat hg t1) (top_anti xs z)
  refine ⟨ansRow_yes o0, ansRow_yes o0, ?_, ?_, ?_, ?_, ?_, ?_, o1, o2, okSet_nat hg r1, okSet_nat hg c1, okSet_nat hg hz, o3, okSet_nat hg t1, ?_, lt1024 r1 hl, lt1024 b1 hl, lt1024 t1 hl⟩
  · rw [ansRow_yes o1, rowba_rowmo hg hz hi]
  · rw [ansRow_yes o2, rowmo_rowba hg hz hi]
  · rw [ansI, if_pos (okSet_nat hg r1), Int.toNat_natCast]
  · rw [ansI, if_pos (okSet_nat hg c1), Int.toNat_natCast, top_rowmo hg]
  · rw [ansI, if_pos (okSet_nat hg hz), Int.toNat_natCast]
  · rw [ansAC_yes o3, acRow, down_top hg hz hi]
  · rw [ansB, okSet_nat hg r1, Int.toNat_natCast, r2]; rfl
theorem rt_back {xs : List Int} {y k : Int} (h : okRT xs y k = true) : ∃ M : Nat, M < 1024 ∧ ansRT xs y k = (M : Int) ∧ ansRT xs (M : Int) (-k) = y ∧ okRT xs (M : Int) (-k) = true := by
  have h1 := h
  simp only [okRT, Bool.and_eq_true] at h1
  obtain ⟨hI, hK⟩ := h1
  obtain ⟨z, rfl, hg, hz, hi⟩ := okIdeal_all hI
  have hk := okK_of hK
  have hl := (good_length hg).2
  have hK2 : okK (-k) = true := okK_yes (by omega)
  have hb := rowmo_back hg hz hi
  rcases (by omega : k < 0 ∨ 0 ≤ k) with hneg | hpos
  · obtain ⟨n, hn⟩ := Int.eq_ofNat_of_zero_le (show 0 ≤ -k by omega)
    have e := (hb n).2
    refine ⟨iter (rowba xs) n z, lt1024 e.1 hl, ansRT_neg h hneg hn, ?_, okRT_yes (okIdealN hg e.1 e.2.1) hK2⟩
    rw [hn] at hK2 ⊢
    rw [ansRT_pos (okRT_yes (okIdealN hg e.1 e.2.1) hK2), e.2.2]
  · obtain ⟨n, rfl⟩ := Int.eq_ofNat_of_zero_le hpos
    have e := (hb n).1
    refine ⟨iter (rowmo xs) n z, lt1024 e.1 hl, ansRT_pos h, ?_, okRT_yes (okIdealN hg e.1 e.2.1) hK2⟩
    have ho2 := okRT_yes (okIdealN hg e.1 e.2.1) hK2
    by_cases h0 : n = 0
    · subst h0
      exact ansRT_pos (n := 0) ho2
    · rw [ansRT_neg ho2 (by omega) (n := n) (by omega), e.2.2]
theorem ansN_some {xs : List Int} (h : good xs = true) : 1 ≤ ansN xs ordersN := by
  rw [ansN, if_pos h]
  have := orders_some h
  omega
structure SB (w : World) (b : Nat) (v : Value) (W : World) : Prop where
  at_ : At W b v
  below : Below w.heap.size w W
theorem SB.drew {w : World} {b : Nat} {v : Value} {W : World} (h : SB w b v W) : SB w b v W.drew := ⟨h.at_.drew, h.below.drew⟩
theorem SB.to {w : World} {b : Nat} {v : Value} {W W' : World} (h : SB w b v W) (hb : Below W.heap.size W W') : SB w b v W' := ⟨h.at_.below hb, below_to h.below hb⟩
theorem bot_SB (v : Value) (xs : List Int) (s : Int) (w0 : World) (b : Nat) (W : World) (hv : Ints w0 v xs) (hl : xs.length ≤ 1048576) (wf : (Lit.int .i64 s).wf = true) (hS : SB w0 b v W) :
    Calls Try.prog 15 #[.agg #[v], .int .i64 s] W fun r w' => r = .returned (.tuple #[.int .i64 (ansI xs s bottom), .bool (okSet xs s)]) ∧ SB w0 b v w' :=
  (implBottomOf_any v xs s W (hv.below hS.below) hl wf).mono fun _ _ ⟨h1, h2⟩ => ⟨h1, hS.to h2⟩
end Go.Proofs.Ytdemikjaghegnaa
