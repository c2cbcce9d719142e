/- Texts ComC, LinS, one behind the other. -/
import Derived.Deep.RegionHeld3
import Derived.Test.YtpdoheagfjeefaaPkLinearRankedProof05
import Derived.Test.YtpdoheagfjeefaaPkLinearRankedProof07
import Derived.Test.YtpdoheagfjeefaaPkLinearRankedProof09
import Derived.Test.YtpdoheagfjeefaaPkLinearRankedProof13
/- DoCommute. -/
namespace Go.Proofs.Ytpdoheagfjeefaa
open Go.RowKit Go.WideShapes Go.ChangeShapes
set_option linter.unusedVariables false

def okEl (xs : List Int) (d e : Int) : Bool := good xs && ((decide (0 ≤ d) && decide (d < xs.length)) && (decide (0 ≤ e) && decide (e < xs.length)))
def ansDC (xs : List Int) (d e : Int) : Bool := okEl xs d e && !covered xs d.toNat e.toNat
theorem ansDC_no {xs : List Int} {d e : Int} (h : okEl xs d e = false) : ansDC xs d e = false := by simp [ansDC, h]
theorem ansDC_yes {xs : List Int} {d e : Nat} (h : okEl xs d e = true) : ansDC xs d e = !covered xs d e := by simp [ansDC, h]
theorem okEl_no {xs : List Int} {d e : Int} (h : good xs = false) : okEl xs d e = false := by simp [okEl, h]
theorem okEl_no1 {xs : List Int} {d e : Int} (h : (decide (0 ≤ d) && decide (d < xs.length)) = false) : okEl xs d e = false := by simp only [okEl, h]; simp
theorem okEl_no2 {xs : List Int} {d e : Int} (h : (decide (0 ≤ e) && decide (e < xs.length)) = false) : okEl xs d e = false := by simp only [okEl, h]; simp
theorem okEl_yes {xs : List Int} {d e : Int} (h : good xs = true) (h1 : (decide (0 ≤ d) && decide (d < xs.length)) = true) (h2 : (decide (0 ≤ e) && decide (e < xs.length)) = true) : okEl xs d e = true := by simp only [okEl, h, h1, h2]; rfl
theorem setsL_mem {f : Nat → Bool} {N s : Nat} (hs : s < N) (hf : f s = true) : ∃ j, j < (setsL f N).length ∧ (setsL f N).getD j 0 = (s : Int) := by
  have : (s : Int) ∈ setsL f N := List.mem_map.2 ⟨s, List.mem_filter.2 ⟨List.mem_range.2 hs, hf⟩, rfl⟩
  obtain ⟨j, hj, e⟩ := List.mem_iff_getElem.1 this
  exact ⟨j, hj, by simp [List.getD, hj, e]⟩
/-- S of the region: the box and all that was there -/
structure SW (w : World) (b : Nat) (v : Value) (W : World) : Prop where
  at_ : At W b v
  below : Below w.heap.size w W
theorem SW.drew {w : World} {b : Nat} {v : Value} {W : World} (h : SW w b v W) : SW w b v W.drew := ⟨h.at_.drew, h.below.drew⟩
theorem SW.to {w : World} {b : Nat} {v : Value} {W W' : World} (h : SW w b v W) (hb : Below W.heap.size W W') : SW w b v W' := ⟨h.at_.below hb, below_to h.below hb⟩
theorem tgAt_SW (v : Value) (xs : List Int) (w0 : World) (b s e : Nat) (W : World) (hv : Ints w0 v xs) (hg : good xs = true) (hS : SW w0 b v W) (hs : s < 2 ^ xs.length) (he : e < xs.length) :
    Calls Try.prog 111 #[.agg #[v], .int .i64 s, .int .i64 e] W fun r w' => r = .returned (.int .i64 (tog xs s e : Nat)) ∧ SW w0 b v w' :=
  (tgAt_any v xs s e W (hv.below hS.below) hg hs he).mono fun _ _ ⟨h1, h2⟩ => ⟨h1, hS.to h2⟩
set_option maxHeartbeats 3200000 in
theorem specDoCommute_any (v : Value) (xs : List Int) (d e : Int) (w : World) (hv : Ints w v xs) (hl : xs.length ≤ 1048576) (wfd : (Lit.int .i64 d).wf = true) (wfe : (Lit.int .i64 e).wf = true) :
    Calls Try.prog 32 #[.agg #[v], .int .i64 d, .int .i64 e] w fun r w' => r = .returned (.tuple #[.bool (ansDC xs d e), .bool (okEl xs d e)]) ∧ Below w.heap.size w w' := by
  have HV := hid hv
  clear hv wfd wfe
  go_enter Try.func32, Try.ntmps32
  have HB := hid (below_alloc (Below.refl _ w) (.cells #[v] 26))
  have A0 := hid (At.newAt w v 26 w.heap.size (by simp))
  go_wp2_with fail
  refine (poGood_any _ xs _ (HV.out.below HB.out) hl).mono ?_
  rintro e w' ⟨rfl, hb⟩
  replace HB := hid (below_to HB.out hb)
  replace A0 := hid (A0.out.below hb)
  clear hb
  cases hq : good xs
  · have HO := hid (okEl_no (d := d) (e := e) hq)
    clear hq
    have ebox0 := A0.out.1
    go_wp2
    go_ret2
    exact ⟨ret_bb (ansDC_no HO.out).symm HO.out.symm, HB.out⟩
  · have HQ := hid hq
    have hl10 := (good_length hq).2
    clear hq
    have ebox0 := A0.out.1
    go_wp2_with fail
    clear ebox0
    refine (tgElement_any _ xs d _ (HV.out.below HB.out) hl).mono ?_
    rintro e w' ⟨rfl, hb⟩
    replace HB := hid (below_to HB.out hb)
    replace A0 := hid (A0.out.below hb)
    clear hb
    cases h1 : (decide (0 ≤ d) && decide (d < (xs.length : Int)))
    · have HO := hid (okEl_no1 (e := e) h1)
      clear h1
      have ebox0 := A0.out.1
      go_wp2
      go_ret2
      exact ⟨ret_bb (ansDC_no HO.out).symm HO.out.symm, HB.out⟩
    · have H1 := hid h1
      clear h1
      have ebox0 := A0.out.1
      go_wp2_with fail
      clear ebox0
      refine (tgElement_any _ xs e _ (HV.out.below HB.out) hl).mono ?_
      rintro e w' ⟨rfl, hb⟩
      replace HB := hid (below_to HB.out hb)
      replace A0 := hid (A0.out.below hb)
      clear hb
      cases h2 : (decide (0 ≤ e) && decide (e < (xs.length : Int)))
      · have HO := hid (okEl_no2 (d := d) h2)
        clear h2
        have ebox0 := A0.out.1
        go_wp2
        go_ret2
        exact ⟨ret_bb (ansDC_no HO.out).symm HO.out.symm, HB.out⟩
      · have HO := hid (okEl_yes HQ.out H1.out h2)
        have h3 : 0 ≤ d ∧ d < xs.length := by simpa using H1.out
        have h4 : 0 ≤ e ∧ e < xs.length := by simpa using h2
        clear h2
        obtain ⟨x, rfl⟩ := Int.eq_ofNat_of_zero_le h3.1
        obtain ⟨y, rfl⟩ := Int.eq_ofNat_of_zero_le h4.1
        have hx : x < xs.length := by omega
        have hy : y < xs.length := by omega
        clear h3 h4
        have HAns := hid (ansDC_yes HO.out)
        have ebox0 := A0.out.1
        go_wp2_with fail
        clear ebox0
        refine (poIdeals_any _ xs _ (HV.out.below HB.out) HQ.out).mono ?_
        rintro e w' ⟨u, rfl, ho, hb⟩
        replace HB := hid (below_to HB.out hb)
        replace A0 := hid (A0.out.below hb)
        clear hb
        have HU := hid ho.ints
        clear ho
        obtain ⟨N, hN⟩ : ∃ N, 2 ^ xs.length = N := ⟨_, rfl⟩
        obtain ⟨I, hI⟩ : ∃ I, setsL (holdsIdeal xs) N = I := ⟨_, rfl⟩
        have HAt := hid (fun j hj => setsL_at (f := holdsIdeal xs) (N := N) (j := j) hj)
        have HMem := hid (fun s hs hf => setsL_mem (f := holdsIdeal xs) (N := N) (s := s) hs hf)
        have hIN := setsL_length (holdsIdeal xs) N
        have hN10 : N ≤ 1024 := by rw [← hN]; exact pow10 hl10
        rw [hN, hI] at HU
        rw [hI] at HAt hIN HMem
        have HNe := hid hN
        clear hI hN
        obtain ⟨uA, uc, rfl, hUA⟩ := HU.out
        have HUA := hid hUA
        have HUZ := hid HB.out
        clear hUA
        have HW := hid (Below.refl w'.heap.size w')
        have ebox0 := A0.out.1
        go_wp2
        go_loopw [28] (fun i wr => ∃ j : Nat, j ≤ I.length ∧ i = .int .i64 j ∧ Hid (∀ t, t < j → swapAt xs x y (I.getD t 0).toNat = true) ∧ At wr w.heap.size v ∧ Below w.heap.size w wr ∧ Below w'.heap.size w' wr) (fun i _ => I.length - (intOf i).toNat)
        case atStart => exact ⟨0, Nat.zero_le _, rfl, hid (fun t ht => absurd ht (Nat.not_lt_zero _)), A0.out, HB.out, HW.out⟩
        case round =>
          obtain ⟨j, hj, rfl, HJ, ha, hb, hu⟩ := hrel
          have HA1 := hid ha
          have Hb1 := hid hb
          have HU1 := hid hu
          by_cases hlt : j < I.length
          · obtain ⟨s, hs, hsN, hIs, hlo, hup⟩ := HAt.out j hlt
            obtain ⟨b, o, rfl, hbl, hc⟩ := HUA.out (by intro h; simp [h] at hlt)
            have hcell : wr.cell? ⟨b, o + j, none⟩ = some (.int .i64 s) := by rw [(hu.cell (p := ⟨b, o + j, none⟩) hbl).trans (hc j hlt), hs]
            have HS := hid hs
            have HIs := hid hIs
            have hz0 : s < 2 ^ xs.length := by rw [HNe.out]; exact hsN
            have hz1 := tog_lt (xs := xs) hz0 hx
            have hz2 := tog_lt (xs := xs) hz0 hy
            have HSW := hid (show SW w' w.heap.size v wr from ⟨ha, hu⟩)
            have HV1 := hid (HV.out.below HB.out)
            have hbx := ha.1
            clear hc ha hb hu hs hIs hlo hup
            go_wp2_with fail
            go_region_held3 (fun W => W.cell? ⟨w.heap.size, 0, none⟩ = some v ∧ Hid (SW w' w.heap.size v W)) (first | exact ⟨HSW.out.drew.at_.1, hid HSW.out.drew⟩ | exact ⟨HS2.out.at_.1, HS2⟩) (first | (go_at_call 111; refine (tgAt_SW v xs w' w.heap.size _ _ _ HV1.out HQ.out (Hid.out (by first | assumption | exact hid HSW.out.drew)) (by assumption) (by assumption)).mono ?_; rintro e' w4 ⟨rfl, hs4⟩; have HS2 := hid hs4; clear hs4))
            have HA3 := hid HS2.out.at_
            have HU3 := hid HS2.out.below
            have Hb3 := hid (below_to HB.out HS2.out.below)
            cases hsw : swapAt xs x y s
            · have hne : (((tog xs (tog xs s x) y : Nat) : Int) != ((tog xs (tog xs s y) x : Nat) : Int)) = true := by
                unfold swapAt at hsw
                rw [beq_eq_false_iff_ne] at hsw
                rw [bne_iff_ne]
                omega
              have HC : Hid (ansDC xs x y = false) := hid (by
                rw [HAns.out]
                cases hc : covered xs x y
                · rw [covered_all HQ.out hx hy hc HIs.out] at hsw; cases hsw
                · rfl)
              clear hsw
              go_wp2
              go_ret2
              exact ⟨ret_bb HC.out.symm HO.out.symm, Hb3.out⟩
            · have hne : (((tog xs (tog xs s x) y : Nat) : Int) != ((tog xs (tog xs s y) x : Nat) : Int)) = false := by
                unfold swapAt at hsw
                rw [beq_iff_eq] at hsw
                rw [bne_eq_false_iff_eq, hsw]
              have HJ2 : Hid (∀ t, t < j + 1 → swapAt xs x y (I.getD t 0).toNat = true) := hid (fun t ht => by
                by_cases h : t = j
                · subst h; rw [HS.out, Int.toNat_natCast]; exact hsw
                · exact HJ.out t (by omega))
              clear hsw
              go_wp2
              go_roundw
              case rel => exact ⟨j + 1, by omega, by go_num, HJ2, HA3.out, Hb3.out, HU3.out⟩
              case measure => simp [intOf]; omega
          · have HC : Hid (ansDC xs x y = true) := hid (by
              rw [HAns.out]
              cases hc : covered xs x y
              · rfl
              · exfalso
                obtain ⟨s, h1, h2, h3⟩ := covered_yes HQ.out hx hy hc
                obtain ⟨t, h4, h5⟩ := HMem.out s (by rw [← HNe.out]; exact h1) h2
                have := HJ.out t (by omega)
                rw [h5, Int.toNat_natCast, h3] at this; cases this)
            clear ha hb hu
            go_wp2
            go_ret2
            exact ⟨ret_bb HC.out.symm HO.out.symm, Hb1.out⟩
theorem okWord_two (xs : List Int) (d e : Int) : okWord xs [d, e] = ((decide (0 ≤ d) && decide (d < xs.length)) && (decide (0 ≤ e) && decide (e < xs.length))) := by
  simp [okWord, inW]
set_option maxHeartbeats 1600000 in
theorem implDoCommute_any (v : Value) (xs : List Int) (d e : Int) (w : World) (hv : Ints w v xs) (hl : xs.length ≤ 1048576) (wfd : (Lit.int .i64 d).wf = true) (wfe : (Lit.int .i64 e).wf = true) :
    Calls Try.prog 31 #[.agg #[v], .int .i64 d, .int .i64 e] w fun r w' => r = .returned (.tuple #[.bool (ansDC xs d e), .bool (okEl xs d e)]) ∧ Below w.heap.size w w' := by
  have HV := hid hv
  obtain ⟨A, c, rfl, hA⟩ := hv
  have HA := hid hA
  clear hA wfd wfe
  go_enter Try.func31, Try.ntmps31
  have HB := hid (below_alloc (Below.refl _ w) (.cells #[(.slice A xs.length c)] 26))
  have A0 := hid (At.newAt w (.slice A xs.length c) 26 w.heap.size (by simp))
  go_wp2_with fail
  refine (implIsPoset_any _ xs _ (HV.out.below HB.out) hl).mono ?_
  rintro e w' ⟨rfl, hb⟩
  replace HB := hid (below_to HB.out hb)
  replace A0 := hid (A0.out.below hb)
  clear hb
  cases hq : good xs
  · have HO := hid (okEl_no (d := d) (e := e) hq)
    clear hq
    have ebox0 := A0.out.1
    go_wp2
    go_ret2
    exact ⟨ret_bb (ansDC_no HO.out).symm HO.out.symm, HB.out⟩
  · have HQ := hid hq
    have hl10 := (good_length hq).2
    clear hq
    have ebx := A0.out.1
    have ebxz := A0.out.2
    go_wp2_with fail
    clear ebx ebxz
    refine (hasWord_any _ _ xs [d, e] _ ((HV.out.below HB.out).alloc _) (Blk.ints (xs := [d, e]) (c := 2) (Blk.newAt _ 3 _ _ (by first | rfl | simp))) hl (by simp)).mono ?_
    rw [okWord_two]
    rintro e' w4 ⟨rfl, hb⟩
    have HB4 := hid (below_to (below_alloc HB.out _) hb)
    have HA4 := hid ((A0.out.alloc _).below hb)
    clear hb
    cases h12 : ((decide (0 ≤ d) && decide (d < (xs.length : Int))) && (decide (0 ≤ e) && decide (e < (xs.length : Int))))
    · have HO : Hid (okEl xs d e = false) := hid (by simp only [okEl, HQ.out, h12]; rfl)
      clear h12
      go_wp2
      go_ret2
      exact ⟨ret_bb (ansDC_no HO.out).symm HO.out.symm, HB4.out⟩
    · have HO : Hid (okEl xs d e = true) := hid (by simp only [okEl, HQ.out, h12]; rfl)
      have h3 : (0 ≤ d ∧ d < xs.length) ∧ (0 ≤ e ∧ e < xs.length) := by simpa only [Bool.and_eq_true, decide_eq_true_eq] using h12
      clear h12
      obtain ⟨x, rfl⟩ := Int.eq_ofNat_of_zero_le h3.1.1
      obtain ⟨y, rfl⟩ := Int.eq_ofNat_of_zero_le h3.2.1
      have hx : x < xs.length := by omega
      have hy : y < xs.length := by omega
      clear h3
      have HAns := hid (ansDC_yes HO.out)
      rcases Nat.lt_trichotomy x y with hxy | hxy | hxy
      · skip
        obtain ⟨b, o, rfl, hbl, hc⟩ := HA.out (by intro h; simp [h] at hx)
        have hcell : w4.cell? ⟨b, o + y, none⟩ = some (.int .i64 (xs.getD y 0)) := (HB4.out.cell (p := ⟨b, o + y, none⟩) hbl).trans (hc _ hy)
        have hr := row_lt HQ.out hy
        have hr10 := row_lt10 HQ.out hy
        have HCv : Hid (covered xs x y = (top xs (row xs y)).testBit x) := hid (by unfold covered; first | rw [Nat.max_self, Nat.min_self] | rw [Nat.max_eq_right (by omega), Nat.min_eq_left (by omega)] | rw [Nat.max_eq_left (by omega), Nat.min_eq_right (by omega)])
        obtain ⟨z, hz⟩ : ∃ z, row xs y = z := ⟨_, rfl⟩
        rw [hz] at hr hr10 HCv
        rw [hr.1] at hcell
        have HSm := hid (good_small HQ.out z)
        obtain ⟨T, hT⟩ : ∃ T, top xs z = T := ⟨_, rfl⟩
        have hT10 : T < 1024 := by rw [← hT]; exact top_lt hr10
        rw [hT] at HCv
        have HTop := hid hT
        have hiI : (y : Int) < xs.length := by omega
        have hlo64 : x < 64 := by omega
        have HV4 := hid (HV.out.below HB4.out)
        have hbox := HA4.out.1
        clear hc hr hz hT
        go_wp2_with fail
        go_region_with (first | (go_at_call 108; refine (top_any _ xs z _ HV4.out.drew hl10 hr10 HSm.out).mono ?_; rw [HTop.out]; rintro e' w5 ⟨rfl, hb5⟩; have H5 := hid (below_to HB4.out.drew hb5); have hbx5 := (HA4.out.drew.below hb5).1; have hcell5 := (hb5.cell (p := ⟨b, o + y, none⟩) (Nat.lt_of_lt_of_le hbl HB4.out.size)).trans hcell; clear hb5) | (go_at_call 94; refine (hasElement_any T x (by omega) hlo64 _).mono ?_; rintro e' w6 ⟨rfl, rfl⟩))
        all_goals go_wp2
        all_goals go_ret2
        all_goals exact ⟨ret_bb (by rw [HAns.out, HCv.out]) HO.out.symm, H5.out⟩
      · subst hxy
        obtain ⟨b, o, rfl, hbl, hc⟩ := HA.out (by intro h; simp [h] at hx)
        have hcell : w4.cell? ⟨b, o + x, none⟩ = some (.int .i64 (xs.getD x 0)) := (HB4.out.cell (p := ⟨b, o + x, none⟩) hbl).trans (hc _ hx)
        have hr := row_lt HQ.out hx
        have hr10 := row_lt10 HQ.out hx
        have HCv : Hid (covered xs x x = (top xs (row xs x)).testBit x) := hid (by unfold covered; first | rw [Nat.max_self, Nat.min_self] | rw [Nat.max_eq_right (by omega), Nat.min_eq_left (by omega)] | rw [Nat.max_eq_left (by omega), Nat.min_eq_right (by omega)])
        obtain ⟨z, hz⟩ : ∃ z, row xs x = z := ⟨_, rfl⟩
        rw [hz] at hr hr10 HCv
        rw [hr.1] at hcell
        have HSm := hid (good_small HQ.out z)
        obtain ⟨T, hT⟩ : ∃ T, top xs z = T := ⟨_, rfl⟩
        have hT10 : T < 1024 := by rw [← hT]; exact top_lt hr10
        rw [hT] at HCv
        have HTop := hid hT
        have hiI : (x : Int) < xs.length := by omega
        have hlo64 : x < 64 := by omega
        have HV4 := hid (HV.out.below HB4.out)
        have hbox := HA4.out.1
        clear hc hr hz hT
        go_wp2_with fail
        go_region_with (first | (go_at_call 108; refine (top_any _ xs z _ HV4.out.drew hl10 hr10 HSm.out).mono ?_; rw [HTop.out]; rintro e' w5 ⟨rfl, hb5⟩; have H5 := hid (below_to HB4.out.drew hb5); have hbx5 := (HA4.out.drew.below hb5).1; have hcell5 := (hb5.cell (p := ⟨b, o + x, none⟩) (Nat.lt_of_lt_of_le hbl HB4.out.size)).trans hcell; clear hb5) | (go_at_call 94; refine (hasElement_any T x (by omega) hlo64 _).mono ?_; rintro e' w6 ⟨rfl, rfl⟩))
        all_goals go_wp2
        all_goals go_ret2
        all_goals exact ⟨ret_bb (by rw [HAns.out, HCv.out]) HO.out.symm, H5.out⟩
      · skip
        obtain ⟨b, o, rfl, hbl, hc⟩ := HA.out (by intro h; simp [h] at hx)
        have hcell : w4.cell? ⟨b, o + x, none⟩ = some (.int .i64 (xs.getD x 0)) := (HB4.out.cell (p := ⟨b, o + x, none⟩) hbl).trans (hc _ hx)
        have hr := row_lt HQ.out hx
        have hr10 := row_lt10 HQ.out hx
        have HCv : Hid (covered xs x y = (top xs (row xs x)).testBit y) := hid (by unfold covered; first | rw [Nat.max_self, Nat.min_self] | rw [Nat.max_eq_right (by omega), Nat.min_eq_left (by omega)] | rw [Nat.max_eq_left (by omega), Nat.min_eq_right (by omega)])
        obtain ⟨z, hz⟩ : ∃ z, row xs x = z := ⟨_, rfl⟩
        rw [hz] at hr hr10 HCv
        rw [hr.1] at hcell
        have HSm := hid (good_small HQ.out z)
        obtain ⟨T, hT⟩ : ∃ T, top xs z = T := ⟨_, rfl⟩
        have hT10 : T < 1024 := by rw [← hT]; exact top_lt hr10
        rw [hT] at HCv
        have HTop := hid hT
        have hiI : (x : Int) < xs.length := by omega
        have hlo64 : y < 64 := by omega
        have HV4 := hid (HV.out.below HB4.out)
        have hbox := HA4.out.1
        clear hc hr hz hT
        go_wp2_with fail
        go_region_with (first | (go_at_call 108; refine (top_any _ xs z _ HV4.out.drew hl10 hr10 HSm.out).mono ?_; rw [HTop.out]; rintro e' w5 ⟨rfl, hb5⟩; have H5 := hid (below_to HB4.out.drew hb5); have hbx5 := (HA4.out.drew.below hb5).1; have hcell5 := (hb5.cell (p := ⟨b, o + x, none⟩) (Nat.lt_of_lt_of_le hbl HB4.out.size)).trans hcell; clear hb5) | (go_at_call 94; refine (hasElement_any T y (by omega) hlo64 _).mono ?_; rintro e' w6 ⟨rfl, rfl⟩))
        all_goals go_wp2
        all_goals go_ret2
        all_goals exact ⟨ret_bb (by rw [HAns.out, HCv.out]) HO.out.symm, H5.out⟩
end Go.Proofs.Ytpdoheagfjeefaa

/- Linear extensions in the model: is a list one, toggles, promotion, evacuation. -/
namespace Go.Proofs.Ytpdoheagfjeefaa
open Go.RowKit Go.WideShapes Go.ChangeShapes
set_option linter.unusedVariables false

theorem implIsLinear_any (v : Value) (xs : List Int) (u : Value) (ys : List Int) (w : World) (hv : Ints w v xs) (hl : xs.length ≤ 1048576) (hu : Ints w u ys) (hm : ys.length ≤ 1048576) :
    Calls Try.prog 84 #[.agg #[v], u] w fun r w' => r = .returned (.tuple #[.bool (okOrder xs ys), .bool (good xs)]) ∧ Below w.heap.size w w' := by
  have HV := hid hv
  have HU := hid hu
  clear hv hu
  go_enter Try.func84, Try.ntmps84
  have HB := hid (below_alloc (Below.refl _ w) (.cells #[v] 26))
  have A0 := hid (At.newAt w v 26 w.heap.size (by simp))
  go_wp2_with fail
  refine (implIsOrder_any _ xs _ ys _ (HV.out.below HB.out) hl (HU.out.below HB.out) hm).mono ?_
  rintro e w' ⟨rfl, hb⟩
  replace HB := hid (below_to HB.out hb)
  replace A0 := hid (A0.out.below hb)
  clear hb
  have ebox0 := A0.out.1
  go_wp2
  go_ret2
  exact ⟨rfl, HB.out⟩
/-- given: a poset and a linear extension of it -/
theorem liGiven_any (v u : Value) (xs ys : List Int) (w : World) (hv : Ints w v xs) (hl : xs.length ≤ 1048576) (hu : Ints w u ys) (hm : ys.length ≤ 1048576) :
    Calls Try.prog 79 #[.agg #[v], u] w fun r w' => r = .returned (.bool (okLin xs ys)) ∧ Below w.heap.size w w' := by
  have HV := hid hv
  have HU := hid hu
  clear hv hu
  go_enter Try.func79, Try.ntmps79
  have HB := hid (below_alloc (Below.refl _ w) (.cells #[v] 26))
  have A0 := hid (At.newAt w v 26 w.heap.size (by simp))
  go_wp2_with fail
  refine (poGood_any _ xs _ (HV.out.below HB.out) hl).mono ?_
  rintro e w' ⟨rfl, hb⟩
  replace HB := hid (below_to HB.out hb)
  replace A0 := hid (A0.out.below hb)
  clear hb
  cases hq : good xs
  · have HO : Hid (okLin xs ys = false) := hid (okOrder_no (ys := ys) hq)
    clear hq
    have ebox0 := A0.out.1
    go_wp2
    go_ret
    exact ⟨ret_bool HO.out.symm, HB.out⟩
  · have HQ := hid hq
    have HO : Hid (okLin xs ys = orderB xs ys) := hid (okOrder_yes (ys := ys) hq)
    clear hq
    have ebox0 := A0.out.1
    go_wp2_with fail
    clear ebox0
    refine (liIs_any _ _ xs ys _ (HV.out.below HB.out) (HU.out.below HB.out) HQ.out hm).mono ?_
    rintro e w' ⟨rfl, hb⟩
    replace HB := hid (below_to HB.out hb)
    replace A0 := hid (A0.out.below hb)
    clear hb
    have ebox0 := A0.out.1
    go_wp2
    go_ret
    exact ⟨ret_bool HO.out.symm, HB.out⟩
theorem hasLinear_any (v u : Value) (xs ys : List Int) (w : World) (hv : Ints w v xs) (hl : xs.length ≤ 1048576) (hu : Ints w u ys) (hm : ys.length ≤ 1048576) :
    Calls Try.prog 76 #[.agg #[v], u] w fun r w' => r = .returned (.bool (okLin xs ys)) ∧ Below w.heap.size w w' := by
  have HV := hid hv
  have HU := hid hu
  clear hv hu
  go_enter Try.func76, Try.ntmps76
  have HB := hid (below_alloc (Below.refl _ w) (.cells #[v] 26))
  have A0 := hid (At.newAt w v 26 w.heap.size (by simp))
  go_wp2_with fail
  refine (implIsPoset_any _ xs _ (HV.out.below HB.out) hl).mono ?_
  rintro e w' ⟨rfl, hb⟩
  replace HB := hid (below_to HB.out hb)
  replace A0 := hid (A0.out.below hb)
  clear hb
  cases hq : good xs
  · have HO : Hid (okLin xs ys = false) := hid (okOrder_no (ys := ys) hq)
    clear hq
    have ebox0 := A0.out.1
    go_wp2
    go_ret
    exact ⟨ret_bool HO.out.symm, HB.out⟩
  · have HQ := hid hq
    have HO : Hid (okLin xs ys = orderB xs ys) := hid (okOrder_yes (ys := ys) hq)
    clear hq
    have ebox0 := A0.out.1
    go_wp2_with fail
    clear ebox0
    refine (hasOrder_any _ _ xs ys _ (HV.out.below HB.out) (HU.out.below HB.out) HQ.out hm).mono ?_
    rintro e w' ⟨rfl, hb⟩
    replace HB := hid (below_to HB.out hb)
    replace A0 := hid (A0.out.below hb)
    clear hb
    have ebox0 := A0.out.1
    go_wp2
    go_ret
    exact ⟨ret_bool HO.out.symm, HB.out⟩
end Go.Proofs.Ytpdoheagfjeefaa
