/- Texts ComC, LinS, Sam, Same, one behind the other. -/
import Derived.Deep.RegionHeld3
import Derived.BigQuiet
import Derived.Test.YtpdoheagfjeefaaPkPromotionTogglesProof01
import Derived.Test.YtpdoheagfjeefaaPkPromotionTogglesProof02
import Derived.Test.YtpdoheagfjeefaaPkPromotionTogglesProof05
import Derived.Test.YtpdoheagfjeefaaPkPromotionTogglesProof07
import Derived.Test.YtpdoheagfjeefaaPkPromotionTogglesProof09
import Derived.Test.YtpdoheagfjeefaaPkPromotionTogglesProof10
import Derived.Test.YtpdoheagfjeefaaPkPromotionTogglesProof13
/- DoCommute. -/
namespace Go.Proofs.Ytpdoheagfjeefaa
open Go.RowKit Go.WideShapes Go.ChangeShapes
set_option linter.unusedVariables false

def okEl (xs : List Int) (d e : Int) : Bool := good xs && ((decide (0 ≤ d) && decide (d < xs.length)) && (decide (0 ≤ e) && decide (e < xs.length)))
def ansDC (xs : List Int) (d e : Int) : Bool := okEl xs d e && !covered xs d.toNat e.toNat
theorem ansDC_no {xs : List Int} {d e : Int} (h : okEl xs d e = false) : ansDC xs d e = false := by simp [ansDC, h]
theorem ansDC_yes {xs : List Int} {d e : Nat} (h : okEl xs d e = true) : ansDC xs d e = !covered xs d e := by simp [ansDC, h]
theorem okEl_no {xs : List Int} {d e : Int} (h : good xs = false) : okEl xs d e = false := by simp [okEl, h]
theorem okEl_no1 {xs : List Int} {d e : Int} (h : (decide (0 ≤ d) && decide (d < xs.length)) = false) : okEl xs d e = false := by simp only [okEl, h]; simp
theorem okEl_no2 {xs : List Int} {d e : Int} (h : (decide (0 ≤ e) && decide (e < xs.length)) = false) : okEl xs d e = false := by simp only [okEl, h]; simp
theorem okEl_yes {xs : List Int} {d e : Int} (h : good xs = true) (h1 : (decide (0 ≤ d) && decide (d < xs.length)) = true) (h2 : (decide (0 ≤ e) && decide (e < xs.length)) = true) : okEl xs d e = true := by simp only [okEl, h, h1, h2]; rfl
theorem setsL_mem {f : Nat → Bool} {N s : Nat} (hs : s < N) (hf : f s = true) : ∃ j, j < (setsL f N).length ∧ (setsL f N).getD j 0 = (s : Int) := by
  have : (s : Int) ∈ setsL f N := List.mem_map.2 ⟨s, List.mem_filter.2 ⟨List.mem_range.2 hs, hf⟩, rfl⟩
  obtain ⟨j, hj, e⟩ := List.mem_iff_getElem.1 this
  exact ⟨j, hj, by simp [List.getD, hj, e]⟩
/-- S of the region: the box and all that was there -/
structure SW (w : World) (b : Nat) (v : Value) (W : World) : Prop where
  at_ : At W b v
  below : Below w.heap.size w W
theorem SW.drew {w : World} {b : Nat} {v : Value} {W : World} (h : SW w b v W) : SW w b v W.drew := ⟨h.at_.drew, h.below.drew⟩
theorem SW.to {w : World} {b : Nat} {v : Value} {W W' : World} (h : SW w b v W) (hb : Below W.heap.size W W') : SW w b v W' := ⟨h.at_.below hb, below_to h.below hb⟩
theorem tgAt_SW (v : Value) (xs : List Int) (w0 : World) (b s e : Nat) (W : World) (hv : Ints w0 v xs) (hg : good xs = true) (hS : SW w0 b v W) (hs : s < 2 ^ xs.length) (he : e < xs.length) :
    Calls Try.prog 111 #[.agg #[v], .int .i64 s, .int .i64 e] W fun r w' => r = .returned (.int .i64 (tog xs s e : Nat)) ∧ SW w0 b v w' :=
  (tgAt_any v xs s e W (hv.below hS.below) hg hs he).mono fun _ _ ⟨h1, h2⟩ => ⟨h1, hS.to h2⟩
set_option maxHeartbeats 3200000 in
theorem specDoCommute_any (v : Value) (xs : List Int) (d e : Int) (w : World) (hv : Ints w v xs) (hl : xs.length ≤ 1048576) (wfd : (Lit.int .i64 d).wf = true) (wfe : (Lit.int .i64 e).wf = true) :
    Calls Try.prog 32 #[.agg #[v], .int .i64 d, .int .i64 e] w fun r w' => r = .returned (.tuple #[.bool (ansDC xs d e), .bool (okEl xs d e)]) ∧ Below w.heap.size w w' := by
  have HV := hid hv
  clear hv wfd wfe
  go_enter Try.func32, Try.ntmps32
  have HB := hid (below_alloc (Below.refl _ w) (.cells #[v] 26))
  have A0 := hid (At.newAt w v 26 w.heap.size (by simp))
  go_wp2_with fail
  refine (poGood_any _ xs _ (HV.out.below HB.out) hl).mono ?_
  rintro e w' ⟨rfl, hb⟩
  replace HB := hid (below_to HB.out hb)
  replace A0 := hid (A0.out.below hb)
  clear hb
  cases hq : good xs
  · have HO := hid (okEl_no (d := d) (e := e) hq)
    clear hq
    have ebox0 := A0.out.1
    go_wp2
    go_ret2
    exact ⟨ret_bb (ansDC_no HO.out).symm HO.out.symm, HB.out⟩
  · have HQ := hid hq
    have hl10 := (good_length hq).2
    clear hq
    have ebox0 := A0.out.1
    go_wp2_with fail
    clear ebox0
    refine (tgElement_any _ xs d _ (HV.out.below HB.out) hl).mono ?_
    rintro e w' ⟨rfl, hb⟩
    replace HB := hid (below_to HB.out hb)
    replace A0 := hid (A0.out.below hb)
    clear hb
    cases h1 : (decide (0 ≤ d) && decide (d < (xs.length : Int)))
    · have HO := hid (okEl_no1 (e := e) h1)
      clear h1
      have ebox0 := A0.out.1
      go_wp2
      go_ret2
      exact ⟨ret_bb (ansDC_no HO.out).symm HO.out.symm, HB.out⟩
    · have H1 := hid h1
      clear h1
      have ebox0 := A0.out.1
      go_wp2_with fail
      clear ebox0
      refine (tgElement_any _ xs e _ (HV.out.below HB.out) hl).mono ?_
      rintro e w' ⟨rfl, hb⟩
      replace HB := hid (below_to HB.out hb)
      replace A0 := hid (A0.out.below hb)
      clear hb
      cases h2 : (decide (0 ≤ e) && decide (e < (xs.length : Int)))
      · have HO := hid (okEl_no2 (d := d) h2)
        clear h2
        have ebox0 := A0.out.1
        go_wp2
        go_ret2
        exact ⟨ret_bb (ansDC_no HO.out).symm HO.out.symm, HB.out⟩
      · have HO := hid (okEl_yes HQ.out H1.out h2)
        have h3 : 0 ≤ d ∧ d < xs.length := by simpa using H1.out
        have h4 : 0 ≤ e ∧ e < xs.length := by simpa using h2
        clear h2
        obtain ⟨x, rfl⟩ := Int.eq_ofNat_of_zero_le h3.1
        obtain ⟨y, rfl⟩ := Int.eq_ofNat_of_zero_le h4.1
        have hx : x < xs.length := by omega
        have hy : y < xs.length := by omega
        clear h3 h4
        have HAns := hid (ansDC_yes HO.out)
        have ebox0 := A0.out.1
        go_wp2_with fail
        clear ebox0
        refine (poIdeals_any _ xs _ (HV.out.below HB.out) HQ.out).mono ?_
        rintro e w' ⟨u, rfl, ho, hb⟩
        replace HB := hid (below_to HB.out hb)
        replace A0 := hid (A0.out.below hb)
        clear hb
        have HU := hid ho.ints
        clear ho
        obtain ⟨N, hN⟩ : ∃ N, 2 ^ xs.length = N := ⟨_, rfl⟩
        obtain ⟨I, hI⟩ : ∃ I, setsL (holdsIdeal xs) N = I := ⟨_, rfl⟩
        have HAt := hid (fun j hj => setsL_at (f := holdsIdeal xs) (N := N) (j := j) hj)
        have HMem := hid (fun s hs hf => setsL_mem (f := holdsIdeal xs) (N := N) (s := s) hs hf)
        have hIN := setsL_length (holdsIdeal xs) N
        have hN10 : N ≤ 1024 := by rw [← hN]; exact pow10 hl10
        rw [hN, hI] at HU
        rw [hI] at HAt hIN HMem
        have HNe := hid hN
        clear hI hN
        obtain ⟨uA, uc, rfl, hUA⟩ := HU.out
        have HUA := hid hUA
        have HUZ := hid HB.out
        clear hUA
        have HW := hid (Below.refl w'.heap.size w')
        have ebox0 := A0.out.1
        go_wp2
        go_loopw [28] (fun i wr => ∃ j : Nat, j ≤ I.length ∧ i = .int .i64 j ∧ Hid (∀ t, t < j → swapAt xs x y (I.getD t 0).toNat = true) ∧ At wr w.heap.size v ∧ Below w.heap.size w wr ∧ Below w'.heap.size w' wr) (fun i _ => I.length - (intOf i).toNat)
        case atStart => exact ⟨0, Nat.zero_le _, rfl, hid (fun t ht => absurd ht (Nat.not_lt_zero _)), A0.out, HB.out, HW.out⟩
        case round =>
          obtain ⟨j, hj, rfl, HJ, ha, hb, hu⟩ := hrel
          have HA1 := hid ha
          have Hb1 := hid hb
          have HU1 := hid hu
          by_cases hlt : j < I.length
          · obtain ⟨s, hs, hsN, hIs, hlo, hup⟩ := HAt.out j hlt
            obtain ⟨b, o, rfl, hbl, hc⟩ := HUA.out (by intro h; simp [h] at hlt)
            have hcell : wr.cell? ⟨b, o + j, none⟩ = some (.int .i64 s) := by rw [(hu.cell (p := ⟨b, o + j, none⟩) hbl).trans (hc j hlt), hs]
            have HS := hid hs
            have HIs := hid hIs
            have hz0 : s < 2 ^ xs.length := by rw [HNe.out]; exact hsN
            have hz1 := tog_lt (xs := xs) hz0 hx
            have hz2 := tog_lt (xs := xs) hz0 hy
            have HSW := hid (show SW w' w.heap.size v wr from ⟨ha, hu⟩)
            have HV1 := hid (HV.out.below HB.out)
            have hbx := ha.1
            clear hc ha hb hu hs hIs hlo hup
            go_wp2_with fail
            go_region_held3 (fun W => W.cell? ⟨w.heap.size, 0, none⟩ = some v ∧ Hid (SW w' w.heap.size v W)) (first | exact ⟨HSW.out.drew.at_.1, hid HSW.out.drew⟩ | exact ⟨HS2.out.at_.1, HS2⟩) (first | (go_at_call 111; refine (tgAt_SW v xs w' w.heap.size _ _ _ HV1.out HQ.out (Hid.out (by first | assumption | exact hid HSW.out.drew)) (by assumption) (by assumption)).mono ?_; rintro e' w4 ⟨rfl, hs4⟩; have HS2 := hid hs4; clear hs4))
            have HA3 := hid HS2.out.at_
            have HU3 := hid HS2.out.below
            have Hb3 := hid (below_to HB.out HS2.out.below)
            cases hsw : swapAt xs x y s
            · have hne : (((tog xs (tog xs s x) y : Nat) : Int) != ((tog xs (tog xs s y) x : Nat) : Int)) = true := by
                unfold swapAt at hsw
                rw [beq_eq_false_iff_ne] at hsw
                rw [bne_iff_ne]
                omega
              have HC : Hid (ansDC xs x y = false) := hid (by
                rw [HAns.out]
                cases hc : covered xs x y
                · rw [covered_all HQ.out hx hy hc HIs.out] at hsw; cases hsw
                · rfl)
              clear hsw
              go_wp2
              go_ret2
              exact ⟨ret_bb HC.out.symm HO.out.symm, Hb3.out⟩
            · have hne : (((tog xs (tog xs s x) y : Nat) : Int) != ((tog xs (tog xs s y) x : Nat) : Int)) = false := by
                unfold swapAt at hsw
                rw [beq_iff_eq] at hsw
                rw [bne_eq_false_iff_eq, hsw]
              have HJ2 : Hid (∀ t, t < j + 1 → swapAt xs x y (I.getD t 0).toNat = true) := hid (fun t ht => by
                by_cases h : t = j
                · subst h; rw [HS.out, Int.toNat_natCast]; exact hsw
                · exact HJ.out t (by omega))
              clear hsw
              go_wp2
              go_roundw
              case rel => exact ⟨j + 1, by omega, by go_num, HJ2, HA3.out, Hb3.out, HU3.out⟩
              case measure => simp [intOf]; omega
          · have HC : Hid (ansDC xs x y = true) := hid (by
              rw [HAns.out]
              cases hc : covered xs x y
              · rfl
              · exfalso
                obtain ⟨s, h1, h2, h3⟩ := covered_yes HQ.out hx hy hc
                obtain ⟨t, h4, h5⟩ := HMem.out s (by rw [← HNe.out]; exact h1) h2
                have := HJ.out t (by omega)
                rw [h5, Int.toNat_natCast, h3] at this; cases this)
            clear ha hb hu
            go_wp2
            go_ret2
            exact ⟨ret_bb HC.out.symm HO.out.symm, Hb1.out⟩
theorem okWord_two (xs : List Int) (d e : Int) : okWord xs [d, e] = ((decide (0 ≤ d) && decide (d < xs.length)) && (decide (0 ≤ e) && decide (e < xs.length))) := by
  simp [okWord, inW]
set_option maxHeartbeats 1600000 in
theorem implDoCommute_any (v : Value) (xs : List Int) (d e : Int) (w : World) (hv : Ints w v xs) (hl : xs.length ≤ 1048576) (wfd : (Lit.int .i64 d).wf = true) (wfe : (Lit.int .i64 e).wf = true) :
    Calls Try.prog 31 #[.agg #[v], .int .i64 d, .int .i64 e] w fun r w' => r = .returned (.tuple #[.bool (ansDC xs d e), .bool (okEl xs d e)]) ∧ Below w.heap.size w w' := by
  have HV := hid hv
  obtain ⟨A, c, rfl, hA⟩ := hv
  have HA := hid hA
  clear hA wfd wfe
  go_enter Try.func31, Try.ntmps31
  have HB := hid (below_alloc (Below.refl _ w) (.cells #[(.slice A xs.length c)] 26))
  have A0 := hid (At.newAt w (.slice A xs.length c) 26 w.heap.size (by simp))
  go_wp2_with fail
  refine (implIsPoset_any _ xs _ (HV.out.below HB.out) hl).mono ?_
  rintro e w' ⟨rfl, hb⟩
  replace HB := hid (below_to HB.out hb)
  replace A0 := hid (A0.out.below hb)
  clear hb
  cases hq : good xs
  · have HO := hid (okEl_no (d := d) (e := e) hq)
    clear hq
    have ebox0 := A0.out.1
    go_wp2
    go_ret2
    exact ⟨ret_bb (ansDC_no HO.out).symm HO.out.symm, HB.out⟩
  · have HQ := hid hq
    have hl10 := (good_length hq).2
    clear hq
    have ebx := A0.out.1
    have ebxz := A0.out.2
    go_wp2_with fail
    clear ebx ebxz
    refine (hasWord_any _ _ xs [d, e] _ ((HV.out.below HB.out).alloc _) (Blk.ints (xs := [d, e]) (c := 2) (Blk.newAt _ 3 _ _ (by first | rfl | simp))) hl (by simp)).mono ?_
    rw [okWord_two]
    rintro e' w4 ⟨rfl, hb⟩
    have HB4 := hid (below_to (below_alloc HB.out _) hb)
    have HA4 := hid ((A0.out.alloc _).below hb)
    clear hb
    cases h12 : ((decide (0 ≤ d) && decide (d < (xs.length : Int))) && (decide (0 ≤ e) && decide (e < (xs.length : Int))))
    · have HO : Hid (okEl xs d e = false) := hid (by simp only [okEl, HQ.out, h12]; rfl)
      clear h12
      go_wp2
      go_ret2
      exact ⟨ret_bb (ansDC_no HO.out).symm HO.out.symm, HB4.out⟩
    · have HO : Hid (okEl xs d e = true) := hid (by simp only [okEl, HQ.out, h12]; rfl)
      have h3 : (0 ≤ d ∧ d < xs.length) ∧ (0 ≤ e ∧ e < xs.length) := by simpa only [Bool.and_eq_true, decide_eq_true_eq] using h12
      clear h12
      obtain ⟨x, rfl⟩ := Int.eq_ofNat_of_zero_le h3.1.1
      obtain ⟨y, rfl⟩ := Int.eq_ofNat_of_zero_le h3.2.1
      have hx : x < xs.length := by omega
      have hy : y < xs.length := by omega
      clear h3
      have HAns := hid (ansDC_yes HO.out)
      rcases Nat.lt_trichotomy x y with hxy | hxy | hxy
      · skip
        obtain ⟨b, o, rfl, hbl, hc⟩ := HA.out (by intro h; simp [h] at hx)
        have hcell : w4.cell? ⟨b, o + y, none⟩ = some (.int .i64 (xs.getD y 0)) := (HB4.out.cell (p := ⟨b, o + y, none⟩) hbl).trans (hc _ hy)
        have hr := row_lt HQ.out hy
        have hr10 := row_lt10 HQ.out hy
        have HCv : Hid (covered xs x y = (top xs (row xs y)).testBit x) := hid (by unfold covered; first | rw [Nat.max_self, Nat.min_self] | rw [Nat.max_eq_right (by omega), Nat.min_eq_left (by omega)] | rw [Nat.max_eq_left (by omega), Nat.min_eq_right (by omega)])
        obtain ⟨z, hz⟩ : ∃ z, row xs y = z := ⟨_, rfl⟩
        rw [hz] at hr hr10 HCv
        rw [hr.1] at hcell
        have HSm := hid (good_small HQ.out z)
        obtain ⟨T, hT⟩ : ∃ T, top xs z = T := ⟨_, rfl⟩
        have hT10 : T < 1024 := by rw [← hT]; exact top_lt hr10
        rw [hT] at HCv
        have HTop := hid hT
        have hiI : (y : Int) < xs.length := by omega
        have hlo64 : x < 64 := by omega
        have HV4 := hid (HV.out.below HB4.out)
        have hbox := HA4.out.1
        clear hc hr hz hT
        go_wp2_with fail
        go_region_with (first | (go_at_call 108; refine (top_any _ xs z _ HV4.out.drew hl10 hr10 HSm.out).mono ?_; rw [HTop.out]; rintro e' w5 ⟨rfl, hb5⟩; have H5 := hid (below_to HB4.out.drew hb5); have hbx5 := (HA4.out.drew.below hb5).1; have hcell5 := (hb5.cell (p := ⟨b, o + y, none⟩) (Nat.lt_of_lt_of_le hbl HB4.out.size)).trans hcell; clear hb5) | (go_at_call 94; refine (hasElement_any T x (by omega) hlo64 _).mono ?_; rintro e' w6 ⟨rfl, rfl⟩))
        all_goals go_wp2
        all_goals go_ret2
        all_goals exact ⟨ret_bb (by rw [HAns.out, HCv.out]) HO.out.symm, H5.out⟩
      · subst hxy
        obtain ⟨b, o, rfl, hbl, hc⟩ := HA.out (by intro h; simp [h] at hx)
        have hcell : w4.cell? ⟨b, o + x, none⟩ = some (.int .i64 (xs.getD x 0)) := (HB4.out.cell (p := ⟨b, o + x, none⟩) hbl).trans (hc _ hx)
        have hr := row_lt HQ.out hx
        have hr10 := row_lt10 HQ.out hx
        have HCv : Hid (covered xs x x = (top xs (row xs x)).testBit x) := hid (by unfold covered; first | rw [Nat.max_self, Nat.min_self] | rw [Nat.max_eq_right (by omega), Nat.min_eq_left (by omega)] | rw [Nat.max_eq_left (by omega), Nat.min_eq_right (by omega)])
        obtain ⟨z, hz⟩ : ∃ z, row xs x = z := ⟨_, rfl⟩
        rw [hz] at hr hr10 HCv
        rw [hr.1] at hcell
        have HSm := hid (good_small HQ.out z)
        obtain ⟨T, hT⟩ : ∃ T, top xs z = T := ⟨_, rfl⟩
        have hT10 : T < 1024 := by rw [← hT]; exact top_lt hr10
        rw [hT] at HCv
        have HTop := hid hT
        have hiI : (x : Int) < xs.length := by omega
        have hlo64 : x < 64 := by omega
        have HV4 := hid (HV.out.below HB4.out)
        have hbox := HA4.out.1
        clear hc hr hz hT
        go_wp2_with fail
        go_region_with (first | (go_at_call 108; refine (top_any _ xs z _ HV4.out.drew hl10 hr10 HSm.out).mono ?_; rw [HTop.out]; rintro e' w5 ⟨rfl, hb5⟩; have H5 := hid (below_to HB4.out.drew hb5); have hbx5 := (HA4.out.drew.below hb5).1; have hcell5 := (hb5.cell (p := ⟨b, o + x, none⟩) (Nat.lt_of_lt_of_le hbl HB4.out.size)).trans hcell; clear hb5) | (go_at_call 94; refine (hasElement_any T x (by omega) hlo64 _).mono ?_; rintro e' w6 ⟨rfl, rfl⟩))
        all_goals go_wp2
        all_goals go_ret2
        all_goals exact ⟨ret_bb (by rw [HAns.out, HCv.out]) HO.out.symm, H5.out⟩
      · skip
        obtain ⟨b, o, rfl, hbl, hc⟩ := HA.out (by intro h; simp [h] at hx)
        have hcell : w4.cell? ⟨b, o + x, none⟩ = some (.int .i64 (xs.getD x 0)) := (HB4.out.cell (p := ⟨b, o + x, none⟩) hbl).trans (hc _ hx)
        have hr := row_lt HQ.out hx
        have hr10 := row_lt10 HQ.out hx
        have HCv : Hid (covered xs x y = (top xs (row xs x)).testBit y) := hid (by unfold covered; first | rw [Nat.max_self, Nat.min_self] | rw [Nat.max_eq_right (by omega), Nat.min_eq_left (by omega)] | rw [Nat.max_eq_left (by omega), Nat.min_eq_right (by omega)])
        obtain ⟨z, hz⟩ : ∃ z, row xs x = z := ⟨_, rfl⟩
        rw [hz] at hr hr10 HCv
        rw [hr.1] at hcell
        have HSm := hid (good_small HQ.out z)
        obtain ⟨T, hT⟩ : ∃ T, top xs z = T := ⟨_, rfl⟩
        have hT10 : T < 1024 := by rw [← hT]; exact top_lt hr10
        rw [hT] at HCv
        have HTop := hid hT
        have hiI : (x : Int) < xs.length := by omega
        have hlo64 : y < 64 := by omega
        have HV4 := hid (HV.out.below HB4.out)
        have hbox := HA4.out.1
        clear hc hr hz hT
        go_wp2_with fail
        go_region_with (first | (go_at_call 108; refine (top_any _ xs z _ HV4.out.drew hl10 hr10 HSm.out).mono ?_; rw [HTop.out]; rintro e' w5 ⟨rfl, hb5⟩; have H5 := hid (below_to HB4.out.drew hb5); have hbx5 := (HA4.out.drew.below hb5).1; have hcell5 := (hb5.cell (p := ⟨b, o + x, none⟩) (Nat.lt_of_lt_of_le hbl HB4.out.size)).trans hcell; clear hb5) | (go_at_call 94; refine (hasElement_any T y (by omega) hlo64 _).mono ?_; rintro e' w6 ⟨rfl, rfl⟩))
        all_goals go_wp2
        all_goals go_ret2
        all_goals exact ⟨ret_bb (by rw [HAns.out, HCv.out]) HO.out.symm, H5.out⟩
end Go.Proofs.Ytpdoheagfjeefaa

/- Linear extensions in the model: is a list one, toggles, promotion, evacuation. -/
namespace Go.Proofs.Ytpdoheagfjeefaa
open Go.RowKit Go.WideShapes Go.ChangeShapes
set_option linter.unusedVariables false

theorem implIsLinear_any (v : Value) (xs : List Int) (u : Value) (ys : List Int) (w : World) (hv : Ints w v xs) (hl : xs.length ≤ 1048576) (hu : Ints w u ys) (hm : ys.length ≤ 1048576) :
    Calls Try.prog 84 #[.agg #[v], u] w fun r w' => r = .returned (.tuple #[.bool (okOrder xs ys), .bool (good xs)]) ∧ Below w.heap.size w w' := by
  have HV := hid hv
  have HU := hid hu
  clear hv hu
  go_enter Try.func84, Try.ntmps84
  have HB := hid (below_alloc (Below.refl _ w) (.cells #[v] 26))
  have A0 := hid (At.newAt w v 26 w.heap.size (by simp))
  go_wp2_with fail
  refine (implIsOrder_any _ xs _ ys _ (HV.out.below HB.out) hl (HU.out.below HB.out) hm).mono ?_
  rintro e w' ⟨rfl, hb⟩
  replace HB := hid (below_to HB.out hb)
  replace A0 := hid (A0.out.below hb)
  clear hb
  have ebox0 := A0.out.1
  go_wp2
  go_ret2
  exact ⟨rfl, HB.out⟩
/-- given: a poset and a linear extension of it -/
theorem liGiven_any (v u : Value) (xs ys : List Int) (w : World) (hv : Ints w v xs) (hl : xs.length ≤ 1048576) (hu : Ints w u ys) (hm : ys.length ≤ 1048576) :
    Calls Try.prog 79 #[.agg #[v], u] w fun r w' => r = .returned (.bool (okLin xs ys)) ∧ Below w.heap.size w w' := by
  have HV := hid hv
  have HU := hid hu
  clear hv hu
  go_enter Try.func79, Try.ntmps79
  have HB := hid (below_alloc (Below.refl _ w) (.cells #[v] 26))
  have A0 := hid (At.newAt w v 26 w.heap.size (by simp))
  go_wp2_with fail
  refine (poGood_any _ xs _ (HV.out.below HB.out) hl).mono ?_
  rintro e w' ⟨rfl, hb⟩
  replace HB := hid (below_to HB.out hb)
  replace A0 := hid (A0.out.below hb)
  clear hb
  cases hq : good xs
  · have HO : Hid (okLin xs ys = false) := hid (okOrder_no (ys := ys) hq)
    clear hq
    have ebox0 := A0.out.1
    go_wp2
    go_ret
    exact ⟨ret_bool HO.out.symm, HB.out⟩
  · have HQ := hid hq
    have HO : Hid (okLin xs ys = orderB xs ys) := hid (okOrder_yes (ys := ys) hq)
    clear hq
    have ebox0 := A0.out.1
    go_wp2_with fail
    clear ebox0
    refine (liIs_any _ _ xs ys _ (HV.out.below HB.out) (HU.out.below HB.out) HQ.out hm).mono ?_
    rintro e w' ⟨rfl, hb⟩
    replace HB := hid (below_to HB.out hb)
    replace A0 := hid (A0.out.below hb)
    clear hb
    have ebox0 := A0.out.1
    go_wp2
    go_ret
    exact ⟨ret_bool HO.out.symm, HB.out⟩
theorem hasLinear_any (v u : Value) (xs ys : List Int) (w : World) (hv : Ints w v xs) (hl : xs.length ≤ 1048576) (hu : Ints w u ys) (hm : ys.length ≤ 1048576) :
    Calls Try.prog 76 #[.agg #[v], u] w fun r w' => r = .returned (.bool (okLin xs ys)) ∧ Below w.heap.size w w' := by
  have HV := hid hv
  have HU := hid hu
  clear hv hu
  go_enter Try.func76, Try.ntmps76
  have HB := hid (below_alloc (Below.refl _ w) (.cells #[v] 26))
  have A0 := hid (At.newAt w v 26 w.heap.size (by simp))
  go_wp2_with fail
  refine (implIsPoset_any _ xs _ (HV.out.below HB.out) hl).mono ?_
  rintro e w' ⟨rfl, hb⟩
  replace HB := hid (below_to HB.out hb)
  replace A0 := hid (A0.out.below hb)
  clear hb
  cases hq : good xs
  · have HO : Hid (okLin xs ys = false) := hid (okOrder_no (ys := ys) hq)
    clear hq
    have ebox0 := A0.out.1
    go_wp2
    go_ret
    exact ⟨ret_bool HO.out.symm, HB.out⟩
  · have HQ := hid hq
    have HO : Hid (okLin xs ys = orderB xs ys) := hid (okOrder_yes (ys := ys) hq)
    clear hq
    have ebox0 := A0.out.1
    go_wp2_with fail
    clear ebox0
    refine (hasOrder_any _ _ xs ys _ (HV.out.below HB.out) (HU.out.below HB.out) HQ.out hm).mono ?_
    rintro e w' ⟨rfl, hb⟩
    replace HB := hid (below_to HB.out hb)
    replace A0 := hid (A0.out.below hb)
    clear hb
    have ebox0 := A0.out.1
    go_wp2
    go_ret
    exact ⟨ret_bool HO.out.symm, HB.out⟩
end Go.Proofs.Ytpdoheagfjeefaa

/- Two lists alike: the model's l1Same, slices.Equal. -/
namespace Go.Proofs.Ytpdoheagfjeefaa
open Go.RowKit Go.WideShapes Go.ChangeShapes
set_option linter.unusedVariables false

def sameL (xs ys : List Int) : Bool := decide (xs = ys)
theorem sameL_len {xs ys : List Int} (h : xs.length ≠ ys.length) : sameL xs ys = false := by
  unfold sameL; rw [decide_eq_false_iff_not]; rintro rfl; exact h rfl
theorem sameL_at {xs ys : List Int} {j : Nat} (h : xs.getD j 0 ≠ ys.getD j 0) : sameL xs ys = false := by
  unfold sameL; rw [decide_eq_false_iff_not]; rintro rfl; exact h rfl
theorem sameL_all {xs ys : List Int} (hl : xs.length = ys.length) (h : ∀ j, j < xs.length → xs.getD j 0 = ys.getD j 0) : sameL xs ys = true := by
  unfold sameL; rw [decide_eq_true_iff]
  refine List.ext_getElem hl fun j h1 h2 => ?_
  have := h j h1
  simpa [List.getD, h1, h2] using this
theorem l1SameL_any (v u : Value) (xs ys : List Int) (w : World) (hv : Ints w v xs) (hu : Ints w u ys) (hl : xs.length ≤ 1048576) :
    Calls Try.prog 88 #[v, u] w fun r w' => r = .returned (.bool (sameL xs ys)) ∧ Below w.heap.size w w' := by
  have HV := hid hv
  have HU := hid hu
  obtain ⟨A, c, rfl, hA⟩ := hv
  obtain ⟨A2, c2, rfl, hA2⟩ := hu
  have HA := hid hA
  have HA2 := hid hA2
  clear hA hA2
  by_cases hlen : xs.length = ys.length
  · have HLe := hid hlen
    obtain ⟨n, hn⟩ : ∃ n, xs.length = n := ⟨_, rfl⟩
    have hn2 : ys.length = n := by omega
    have HN1 := hid hn
    have HN2 := hid hn2
    rw [hn, hn2]
    rw [hn] at hl
    clear hlen hn hn2
    go_enter Try.func88, Try.ntmps88
    go_wp2
    go_loopw [13] (fun i wr => ∃ k : Nat, k ≤ n ∧ i = .int .i64 k ∧ Hid (∀ j, j < k → xs.getD j 0 = ys.getD j 0) ∧ Below w.heap.size w wr) (fun i _ => n - (intOf i).toNat)
    case atStart => exact ⟨0, Nat.zero_le _, rfl, hid (fun j hj => absurd hj (Nat.not_lt_zero _)), Below.refl _ _⟩
    case round =>
      obtain ⟨k, hk, rfl, HJ, hb⟩ := hrel
      have HB := hid hb
      clear hb
      by_cases hlt : k < n
      · obtain ⟨b, o, rfl, hbl, hc⟩ := HA.out (by intro h; have := HN1.out; simp [h] at this; omega)
        obtain ⟨b2, o2, rfl, hbl2, hc2⟩ := HA2.out (by intro h; have := HN2.out; simp [h] at this; omega)
        have hc1' := (HB.out.cell (p := ⟨b, o + k, none⟩) hbl).trans (hc k (by have := HN1.out; omega))
        have hc2' := (HB.out.cell (p := ⟨b2, o2 + k, none⟩) hbl2).trans (hc2 k (by have := HN2.out; omega))
        obtain ⟨x, hx⟩ : ∃ x, xs.getD k 0 = x := ⟨_, rfl⟩
        obtain ⟨y, hy⟩ : ∃ y, ys.getD k 0 = y := ⟨_, rfl⟩
        rw [hx] at hc1'
        rw [hy] at hc2'
        have HX := hid hx
        have HY := hid hy
        clear hc hc2 hx hy
        by_cases hxy : x = y
        · subst hxy
          have hne : (x != x) = false := by simp
          have HJ2 : Hid (∀ j, j < k + 1 → xs.getD j 0 = ys.getD j 0) := hid (fun j hj => by
            by_cases e : j = k
            · subst e; rw [HX.out, HY.out]
            · exact HJ.out j (by omega))
          go_wp2_with fail
          go_quiet (fail)
          go_wp2
          go_roundw
          case rel => exact ⟨k + 1, by omega, by go_num, HJ2, below_drewN HB.out _⟩
          case measure => simp [intOf]; omega
        · have hne : (x != y) = true := by rw [bne_iff_ne]; exact hxy
          have HF := hid (sameL_at (xs := xs) (ys := ys) (j := k) (by rw [HX.out, HY.out]; exact hxy))
          clear hxy
          go_wp2_with fail
          go_quiet (fail)
          go_wp2
          go_ret
          exact ⟨ret_bool HF.out.symm, below_drewN HB.out _⟩
      · obtain rfl : k = n := by omega
        have HT := hid (sameL_all HLe.out (fun j hj => HJ.out j (by have := HN1.out; omega)))
        go_wp2
        go_ret
        exact ⟨ret_bool HT.out.symm, HB.out⟩
  · have HF := hid (sameL_len hlen)
    have hne : ((xs.length : Int) != (ys.length : Int)) = true := by rw [bne_iff_ne]; omega
    clear hlen
    go_enter Try.func88, Try.ntmps88
    go_wp2
    go_ret
    exact ⟨ret_bool HF.out.symm, Below.refl _ _⟩
theorem equalL_any (v u : Value) (xs ys : List Int) (w : World) (hv : Ints w v xs) (hu : Ints w u ys) (hl : xs.length ≤ 1048576) :
    Calls Try.prog 125 #[v, u] w fun r w' => r = .returned (.bool (sameL xs ys)) ∧ Below w.heap.size w w' := by
  have HV := hid hv
  have HU := hid hu
  obtain ⟨A, c, rfl, hA⟩ := hv
  obtain ⟨A2, c2, rfl, hA2⟩ := hu
  have HA := hid hA
  have HA2 := hid hA2
  clear hA hA2
  by_cases hlen : xs.length = ys.length
  · have HLe := hid hlen
    obtain ⟨n, hn⟩ : ∃ n, xs.length = n := ⟨_, rfl⟩
    have hn2 : ys.length = n := by omega
    have HN1 := hid hn
    have HN2 := hid hn2
    rw [hn, hn2]
    rw [hn] at hl
    clear hlen hn hn2
    go_enter Try.func125, Try.ntmps125
    go_wp2
    go_loopw [13] (fun i wr => ∃ k : Nat, k ≤ n ∧ i = .int .i64 k ∧ Hid (∀ j, j < k → xs.getD j 0 = ys.getD j 0) ∧ Below w.heap.size w wr) (fun i _ => n - (intOf i).toNat)
    case atStart => exact ⟨0, Nat.zero_le _, rfl, hid (fun j hj => absurd hj (Nat.not_lt_zero _)), Below.refl _ _⟩
    case round =>
      obtain ⟨k, hk, rfl, HJ, hb⟩ := hrel
      have HB := hid hb
      clear hb
      by_cases hlt : k < n
      · obtain ⟨b, o, rfl, hbl, hc⟩ := HA.out (by intro h; have := HN1.out; simp [h] at this; omega)
        obtain ⟨b2, o2, rfl, hbl2, hc2⟩ := HA2.out (by intro h; have := HN2.out; simp [h] at this; omega)
        have hc1' := (HB.out.cell (p := ⟨b, o + k, none⟩) hbl).trans (hc k (by have := HN1.out; omega))
        have hc2' := (HB.out.cell (p := ⟨b2, o2 + k, none⟩) hbl2).trans (hc2 k (by have := HN2.out; omega))
        obtain ⟨x, hx⟩ : ∃ x, xs.getD k 0 = x := ⟨_, rfl⟩
        obtain ⟨y, hy⟩ : ∃ y, ys.getD k 0 = y := ⟨_, rfl⟩
        rw [hx] at hc1'
        rw [hy] at hc2'
        have HX := hid hx
        have HY := hid hy
        clear hc hc2 hx hy
        by_cases hxy : x = y
        · subst hxy
          have hne : (x != x) = false := by simp
          have HJ2 : Hid (∀ j, j < k + 1 → xs.getD j 0 = ys.getD j 0) := hid (fun j hj => by
            by_cases e : j = k
            · subst e; rw [HX.out, HY.out]
            · exact HJ.out j (by omega))
          go_wp2_with fail
          go_quiet (fail)
          go_wp2
          go_roundw
          case rel => exact ⟨k + 1, by omega, by go_num, HJ2, below_drewN HB.out _⟩
          case measure => simp [intOf]; omega
        · have hne : (x != y) = true := by rw [bne_iff_ne]; exact hxy
          have HF := hid (sameL_at (xs := xs) (ys := ys) (j := k) (by rw [HX.out, HY.out]; exact hxy))
          clear hxy
          go_wp2_with fail
          go_quiet (fail)
          go_wp2
          go_ret
          exact ⟨ret_bool HF.out.symm, below_drewN HB.out _⟩
      · obtain rfl : k = n := by omega
        have HT := hid (sameL_all HLe.out (fun j hj => HJ.out j (by have := HN1.out; omega)))
        go_wp2
        go_ret
        exact ⟨ret_bool HT.out.symm, HB.out⟩
  · have HF := hid (sameL_len hlen)
    have hne : ((xs.length : Int) != (ys.length : Int)) = true := by rw [bne_iff_ne]; omega
    clear hlen
    go_enter Try.func125, Try.ntmps125
    go_wp2
    go_ret
    exact ⟨ret_bool HF.out.symm, Below.refl _ _⟩

end Go.Proofs.Ytpdoheagfjeefaa

/- Two lists alike: the model's l1Same, slices.Equal; DualLinear of both sides. -/
namespace Go.Proofs.Ytpdoheagfjeefaa
open Go.RowKit Go.WideShapes Go.ChangeShapes
set_option linter.unusedVariables false

/-! ### the linear extension of the dual -/
def duaF (ws : List Int) (j : Nat) : Nat := ws.length - 1 - (ws.getD (ws.length - 1 - j) 0).toNat
def duaL (ws : List Int) : List Int := mkL ws.length (duaF ws)
def ansDL (xs ws : List Int) : List Int := if okLin xs ws then duaL ws else []
theorem ansDL_no {xs ws : List Int} (h : okLin xs ws = false) : ansDL xs ws = [] := by simp [ansDL, h]
theorem ansDL_yes {xs ws : List Int} (h : okLin xs ws = true) : ansDL xs ws = duaL ws := by simp [ansDL, h]
theorem ansDL_length (xs ws : List Int) : (ansDL xs ws).length ≤ 1048576 := by
  cases h : okLin xs ws
  · rw [ansDL_no h]; simp
  · rw [ansDL_yes h, duaL, mkL_length, (okLin_Lw h).len]
    have := (good_length (okLin_all h).1).2
    omega
def duaR (ws : List Int) (i j : Nat) : Nat := if ws.length - i ≤ j then duaF ws j else 0
theorem duaR_succ (ws : List Int) (i : Nat) (hi : i < ws.length) : mkL ws.length (duaR ws (i + 1)) = (mkL ws.length (duaR ws i)).set (ws.length - 1 - i) ((ws.length - 1 - (ws.getD i 0).toNat : Nat) : Int) :=
  mkL_upd _ (by omega) fun j hj => by
    unfold duaR
    by_cases h : j = ws.length - 1 - i
    · subst h
      rw [if_pos (by omega), if_pos rfl]
      unfold duaF
      rw [show ws.length - 1 - (ws.length - 1 - i) = i by omega]
    · rw [if_neg h]
      by_cases h2 : ws.length - i ≤ j
      · rw [if_pos h2, if_pos (by omega)]
      · rw [if_neg h2, if_neg (by omega)]
theorem specDualLinear_any (v : Value) (xs : List Int) (u : Value) (ws : List Int) (w : World) (hv : Ints w v xs) (hl : xs.length ≤ 1048576) (hu : Ints w u ws) (hm : ws.length ≤ 1048576) :
    Calls Try.prog 15 #[.agg #[v], u] w fun (r : Ending) w' => ∃ q, r = Ending.returned (.tuple #[q, .bool (okLin xs ws)]) ∧ OwnI 3 w' w.heap.size q (ansDL xs ws) ∧ (ansDL xs ws).length ≤ 1048576 ∧ Below w.heap.size w w' := by
  have HV := hid hv
  have HU := hid hu
  have HL := hid (ansDL_length xs ws)
  obtain ⟨A, c, rfl, hA⟩ := hu
  have HA := hid hA
  clear hv hA
  go_enter Try.func15, Try.ntmps15
  have HB := hid (below_alloc (Below.refl _ w) (.cells #[v] 26))
  have A0 := hid (At.newAt w v 26 w.heap.size (by simp))
  go_wp2_with fail
  refine (liGiven_any _ _ xs ws _ (HV.out.below HB.out) hl (HU.out.below HB.out) hm).mono ?_
  rintro e w' ⟨rfl, hb⟩
  replace HB := hid (below_to HB.out hb)
  replace A0 := hid (A0.out.below hb)
  clear hb
  cases hq : okLin xs ws
  · have HO := hid hq
    clear hq
    have ebox0 := A0.out.1
    go_wp2
    go_ret2
    exact ⟨_, ret_vbL HO.out.symm, by rw [ansDL_no HO.out]; exact OwnI.nil _ _ _, HL.out, HB.out⟩
  · have HO := hid hq
    have HLw := hid (okLin_Lw hq)
    have HG := hid (okLin_all hq).1
    have HY := hid (ansDL_yes hq)
    have hw10 : ws.length ≤ 10 := by have h1 := HLw.out.len; have h2 := (good_length HG.out).2; omega
    have HZ := hid HB.out.size
    clear hq
    have ebox0 := A0.out.1
    go_wp2
    go_loopw [6, 7] (fun q i wr => ∃ k : Nat, k ≤ ws.length ∧ i = .int .i64 ((ws.length : Int) - 1 - (k : Int)) ∧ OwnI 3 wr w.heap.size q (mkL k (duaF ws)) ∧ Below w.heap.size w wr) (fun _ i _ => (intOf i + 1).toNat)
    case atStart => exact ⟨0, Nat.zero_le _, by simp, OwnI.nil _ _ _, HB.out⟩
    case round =>
      obtain ⟨k, hk, rfl, ho, hb⟩ := hrel
      have HO1 := hid ho
      have HB1 := hid hb
      obtain ⟨qA, qc, rfl, -⟩ := ho.shape
      have hwz := hb.size
      clear ho hb
      by_cases hlt : k < ws.length
      · obtain ⟨b2, o2, rfl, hbl2, hc2⟩ := HA.out (by intro h; simp [h] at hlt)
        obtain ⟨p, hp⟩ : ∃ p, ws.length - 1 - k = p := ⟨_, rfl⟩
        have hp2 : (ws.length : Int) - 1 - (k : Int) = (p : Int) := by omega
        have hpl : p < ws.length := by omega
        have hcell := (HB1.out.cell (p := ⟨b2, o2 + p, none⟩) hbl2).trans (hc2 p hpl)
        have hin := HLw.out.at (j := p) (by have := HLw.out.len; omega)
        have HF : Hid (duaF ws k = ws.length - 1 - (ws.getD p 0).toNat) := hid (by unfold duaF; rw [hp])
        obtain ⟨e, he⟩ := Int.eq_ofNat_of_zero_le hin.1
        rw [he] at hcell hin HF
        rw [Int.toNat_natCast] at HF
        have hen : e < ws.length := by have := HLw.out.len; omega
        have HS := hid (mkL_succ k (duaF ws))
        obtain ⟨y, hy⟩ : ∃ y, ws.length - 1 - e = y := ⟨_, rfl⟩
        have hyI : (ws.length : Int) - 1 - (e : Int) = (y : Int) := by omega
        rw [hy] at HF
        have HP2 := hid hp2
        rw [hp2]
        have hy10 : y < 10 := by omega
        have hp10 : p < 10 := by omega
        clear hc2 hp hp2 he hin hy hen
        go_wp2_with (at_builtin; refine wpList_append_int rfl _ _ 24 3 rfl Try.underlying24 Try.info3 w.heap.size _ (mkL k (duaF ws)) (y : Int) rfl HO1.out rfl rfl (by rw [mkL_length]; omega) hwz ?_; rintro u3 w3 ho3 hb3)
        go_roundw
        case rel => exact ⟨k + 1, by omega, (by have := HP2.out; first | (congr 1; omega) | (simp; omega)), (by rw [HS.out, HF.out]; exact ho3), HB1.out.trans hb3⟩
        case measure => first | (simp [intOf]; done) | (simp [intOf]; have := HP2.out; omega)
      · obtain rfl : k = ws.length := by omega
        have e2 : (ws.length : Int) - 1 - (ws.length : Int) = -1 := by omega
        rw [e2]
        clear e2
        go_wp2
        go_ret2
        exact ⟨_, ret_vbL HO.out.symm, by rw [HY.out]; exact HO1.out, HL.out, HB1.out⟩
theorem implDualLinear_any (v : Value) (xs : List Int) (u : Value) (ws : List Int) (w : World) (hv : Ints w v xs) (hl : xs.length ≤ 1048576) (hu : Ints w u ws) (hm : ws.length ≤ 1048576) :
    Calls Try.prog 14 #[.agg #[v], u] w fun (r : Ending) w' => ∃ q, r = Ending.returned (.tuple #[q, .bool (okLin xs ws)]) ∧ OwnI 3 w' w.heap.size q (ansDL xs ws) ∧ (ansDL xs ws).length ≤ 1048576 ∧ Below w.heap.size w w' := by
  have HV := hid hv
  have HU := hid hu
  have HL := hid (ansDL_length xs ws)
  obtain ⟨A, c, rfl, hA⟩ := hu
  have HA := hid hA
  clear hv hA
  go_enter Try.func14, Try.ntmps14
  have HB := hid (below_alloc (Below.refl _ w) (.cells #[v] 26))
  have A0 := hid (At.newAt w v 26 w.heap.size (by simp))
  go_wp2_with fail
  refine (hasLinear_any _ _ xs ws _ (HV.out.below HB.out) hl (HU.out.below HB.out) hm).mono ?_
  rintro e w' ⟨rfl, hb⟩
  replace HB := hid (below_to HB.out hb)
  replace A0 := hid (A0.out.below hb)
  clear hb
  cases hq : okLin xs ws
  · have HO := hid hq
    clear hq
    have ebox0 := A0.out.1
    go_wp2
    go_ret2
    exact ⟨_, ret_vbL HO.out.symm, by rw [ansDL_no HO.out]; exact OwnI.nil _ _ _, HL.out, HB.out⟩
  · have HO := hid hq
    have HLw := hid (okLin_Lw hq)
    have HG := hid (okLin_all hq).1
    have HY := hid (ansDL_yes hq)
    have hw10 : ws.length ≤ 10 := by have h1 := HLw.out.len; have h2 := (good_length HG.out).2; omega
    have hw1 : 1 ≤ ws.length := by have h1 := HLw.out.len; have h2 := (good_length HG.out).1; omega
    have HZ := hid HB.out.size
    have hmk := run_make_row' (P := Try.prog) 24 3 (.int .i64 0) 8 Try.underlying24 Try.info3 rfl .i64 .i64 ws.length (by omega) (by omega)
    clear hq
    have ebox0 := A0.out.1
    go_wp2
    clear hmk
    rw [Vals_made]
    obtain ⟨g, hg⟩ : ∃ g, w'.heap.size = g := ⟨_, rfl⟩
    have HWG : Hid (w.heap.size ≤ g) := hid (by have := HZ.out; omega)
    have HS0 : Hid (Blk (w'.alloc (.cells (Vals (List.replicate ws.length 0)) 3)) g 3 (Vals (mkL ws.length (duaR ws 0)))) := hid (by
      have e : mkL ws.length (duaR ws 0) = List.replicate ws.length 0 := by
        rw [← mkL_zero]; exact mkL_congr fun j hj => by unfold duaR; rw [if_neg (by omega)]
      rw [e]; exact Blk.newAt _ _ _ _ hg.symm)
    rw [hg]
    clear hg
    go_loopw [22] (fun i wr => ∃ k : Nat, k ≤ ws.length ∧ i = .int .i64 k ∧ Blk wr g 3 (Vals (mkL ws.length (duaR ws k))) ∧ Below w.heap.size w wr) (fun i _ => ws.length - (intOf i).toNat)
    case atStart => exact ⟨0, Nat.zero_le _, rfl, HS0.out, below_alloc HB.out _⟩
    case round =>
      obtain ⟨k, hk, rfl, hB, hb⟩ := hrel
      have HB1 := hid hB
      have Hb1 := hid hb
      clear hB hb
      by_cases hlt : k < ws.length
      · obtain ⟨b2, o2, rfl, hbl2, hc2⟩ := HA.out (by intro h; simp [h] at hlt)
        have hcell := (Hb1.out.cell (p := ⟨b2, o2 + k, none⟩) hbl2).trans (hc2 k hlt)
        have hin := HLw.out.at (j := k) (by have := HLw.out.len; omega)
        have HR := hid (duaR_succ ws k hlt)
        obtain ⟨e, he⟩ := Int.eq_ofNat_of_zero_le hin.1
        rw [he] at hcell hin HR
        rw [Int.toNat_natCast] at HR
        have hen : e < ws.length := by have := HLw.out.len; omega
        obtain ⟨p, hp⟩ : ∃ p, ws.length - 1 - k = p := ⟨_, rfl⟩
        have hp2 : (ws.length : Int) - 1 - (k : Int) = (p : Int) := by omega
        have hpl : p < ws.length := by omega
        obtain ⟨y, hy⟩ : ∃ y, ws.length - 1 - e = y := ⟨_, rfl⟩
        have hyI : (ws.length : Int) - 1 - (e : Int) = (y : Int) := by omega
        rw [hp, hy] at HR
        have hcp : wr.cell? ⟨g, p, none⟩ = some (.int .i64 (duaR ws k p : Nat)) := by
          rw [HB1.out.cell, Vals_get (by rw [mkL_length]; exact hpl), mkL_getD hpl]
        have hfp := HB1.out.frozen p
        have hy10 : y < 10 := by omega
        have hp10 : p < 10 := by omega
        clear hc2 hp he hin hy hen
        go_wp2
        go_roundw
        case rel => exact ⟨k + 1, by omega, by go_num, (by rw [HR.out, ← Vals_set]; exact HB1.out.set_ p _), Hb1.out.setCell (p := ⟨g, p, none⟩) HWG.out _⟩
        case measure => simp [intOf]; omega
      · obtain rfl : k = ws.length := by omega
        have HOw : Hid (OwnI 3 wr w.heap.size (.slice (some ⟨g, 0, none⟩) ws.length ws.length) (duaL ws)) := hid (by
          have e : mkL ws.length (duaR ws ws.length) = duaL ws := mkL_congr fun j hj => by unfold duaR; rw [if_pos (by omega)]
          have h2 := HB1.out
          rw [e] at h2
          have h3 := Blk.own (xs := duaL ws) (B := w.heap.size) h2 HWG.out (by rw [duaL, mkL_length]; omega)
          rw [duaL, mkL_length] at h3
          exact h3)
        go_wp2
        go_ret2
        exact ⟨_, ret_vbL HO.out.symm, by rw [HY.out]; exact HOw.out, HL.out, Hb1.out⟩
end Go.Proofs.Ytpdoheagfjeefaa
