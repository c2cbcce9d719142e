/- FnExactTopOf: the law's walk. -/
import Derived.Test.YtgoghgkpmmgcgaaApi
import Derived.Test.YtgoghgkpmmgcgaaLaw
namespace Go.Proofs.Ytgoghgkpmmgcgaa.lawTopOf
open Go.RowKit Go.WideShapes Go.ChangeShapes
set_option maxHeartbeats 1000000 in
theorem walk (v0 : Value) (xs0 : List Int) (n1 : Int) (w : World) (hv0 : Ints w v0 xs0) (hm0 : xs0.length ≤ maxLen) (wf1 : (Lit.int .i64 n1).wf = true) :
    Calls Try.prog 6 #[.agg #[v0], .int .i64 n1] w fun e w' => e = .returned (.bool true) ∧ Below w.heap.size w w' := by
  have HV0 := hid hv0
  clear hv0
  have WF1 := hid wf1
  clear wf1
  by_cases hbig : 1048576 < xs0.length
  · have Hs := hid (szRes_neg (show (1048576 : Int) < xs0.length by omega))
    go_enter Try.func6, Try.ntmps6
    go_wp2_with (go_at_call 12; refine (szPoset_any v0 xs0 _ _ (HV0.out.alloc _) hm0 (by omega) (by omega)).mono ?_; rw [Hs.out]; rintro e w1 ⟨rfl, hb1⟩)
    go_ret
    exact ⟨rfl, ((Below.refl _ _).alloc (Nat.le_refl _) _).trans (hb1.mono (by simp))⟩
  · have hl : xs0.length ≤ 1048576 := by omega
    have Hs := hid (szRes_pos (show ¬ (1048576 : Int) < xs0.length by omega))
    go_enter Try.func6, Try.ntmps6
    go_wp2_with fail
    refine (szPoset_any v0 xs0 _ _ (HV0.out.alloc _) hm0 (by omega) (by omega)).mono ?_
    rw [Hs.out]
    rintro e w1 ⟨rfl, hb1⟩
    have HA1 := hid ((At.new w v0 24).below hb1)
    have HV1 := hid ((HV0.out.alloc _).below hb1)
    have HB1 := hid (below_to (below_alloc (Below.refl _ w) _) hb1)
    clear hb1
    have hbox := HA1.out.1
    go_wp2_with fail
    clear hbox
    refine (toPoset_any v0 xs0 _ HV1.out hl).mono ?_
    rintro e w2 ⟨g1, rfl, -, hg1, hb2⟩
    have HA2 := hid (HA1.out.below hb2)
    have HV2 := hid (HV1.out.below hb2)
    have HB2 := hid (below_to HB1.out hb2)
    have G2 := hid (Blk.ints (c := xs0.length) hg1)
    clear hb2 hg1 HA1 HV1 HB1
    go_wp2_with fail
    refine (specTopOf_any _ xs0 n1 _ G2.out hl WF1.out).mono ?_
    rintro e w3 ⟨rfl, hb3⟩
    have HA3 := hid (HA2.out.below hb3)
    have HV3 := hid (HV2.out.below hb3)
    have HB3 := hid (below_to HB2.out hb3)
    clear hb3 HA2 HV2 HB2 G2
    have hbox := HA3.out.1
    go_wp2_with fail
    clear hbox
    refine (toPoset_any v0 xs0 _ HV3.out hl).mono ?_
    rintro e w4 ⟨g2, rfl, -, hg2, hb4⟩
    have HA4 := hid (HA3.out.below hb4)
    have HV4 := hid (HV3.out.below hb4)
    have HB4 := hid (below_to HB3.out hb4)
    have G4 := hid (Blk.ints (c := xs0.length) hg2)
    clear hb4 hg2 HA3 HV3 HB3
    go_wp2_with fail
    refine (implTopOf_any _ xs0 n1 _ (G4.out.alloc _) hl WF1.out).mono ?_
    rintro e w5 ⟨rfl, hb5⟩
    have HX5 := hid ((At.new w4 (.slice (some ⟨g2, 0, none⟩) xs0.length xs0.length) 27).below hb5)
    have HA5 := hid ((HA4.out.alloc _).below hb5)
    have HV5 := hid ((HV4.out.alloc _).below hb5)
    have HB5 := hid (below_to (below_alloc HB4.out _) hb5)
    have G5 := hid ((G4.out.alloc _).below hb5)
    clear hb5 HA4 HV4 HB4 G4
    have hbox := HA5.out.1
    have hx0 := HX5.out.1
    go_wp2_with fail
    go_region_with (first | (go_at_call 14; refine (toPoset_any v0 xs0 _ HV5.out.drew hl).mono ?_; rintro e w6 ⟨g3, rfl, -, hg3, hb6⟩; have hx6 := (HX5.out.drew.below hb6).1; have H6 := hid (below_to HB5.out.drew hb6); have G6 := hid (G5.out.drew.below hb6); have G3 := hid (Blk.ints (c := xs0.length) hg3); clear hb6 hg3) | (go_at_call 16; refine (eqPoset_any _ _ xs0 _ G6.out G3.out hl).mono ?_; rintro e w7 ⟨rfl, hb7⟩; have H7 := hid (below_to H6.out hb7); clear hb7))
    all_goals go_wp2
    all_goals go_ret
    all_goals exact ⟨rfl, H7.out⟩
end Go.Proofs.Ytgoghgkpmmgcgaa.lawTopOf
