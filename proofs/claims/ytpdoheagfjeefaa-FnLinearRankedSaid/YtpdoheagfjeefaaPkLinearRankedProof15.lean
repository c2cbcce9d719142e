/- Texts LinV, one behind the other. -/
import Derived.Deep.RegionHeld3
import Derived.Test.YtpdoheagfjeefaaPkLinearRankedProof14
/- Toggles, promotion and evacuation in the model. · Toggles one after the other, promotion and evacuation in the model. · ToggleLinear, PromoteLinear, EvacuateLinear, CoevacuateLinear in the model. -/
namespace Go.Proofs.Ytpdoheagfjeefaa
open Go.RowKit Go.WideShapes Go.ChangeShapes
set_option linter.unusedVariables false

theorem liLess_any (v : Value) (xs : List Int) (x y : Nat) (w0 w : World) (hv : Ints w0 v xs) (hb : Below w0.heap.size w0 w) (hg : good xs = true) (hx : x < xs.length) (hy : y < xs.length) :
    Calls Try.prog 141 #[.agg #[v], .int .i64 x, .int .i64 y] w fun r w' => r = .returned (.bool ((row xs y).testBit x)) ∧ Below w0.heap.size w0 w' := by
  have HB0 := hid hb
  have hl10 := (good_length hg).2
  replace hv := hv.below hb
  obtain ⟨A, c, rfl, hA⟩ := hv
  obtain ⟨b, o, rfl, hbl, hc⟩ := hA (by intro h; simp [h] at hy)
  have hcell := hc y hy
  have hr := row_lt hg hy
  have hr10 := row_lt10 hg hy
  obtain ⟨z, hz⟩ : ∃ z, row xs y = z := ⟨_, rfl⟩
  rw [hz] at hr hr10 ⊢
  rw [hr.1] at hcell
  clear hc hA hz hr hg hb
  go_enter Try.func141, Try.ntmps141
  have HB := hid (below_alloc (Below.refl _ w) (.cells #[(.slice (some ⟨b, o, none⟩) xs.length c)] 26))
  have A0 := hid (At.newAt w (.slice (some ⟨b, o, none⟩) xs.length c) 26 w.heap.size (by simp))
  have ebox0 := A0.out.1
  have hcell2 := (HB.out.cell (p := ⟨b, o + y, none⟩) hbl).trans hcell
  go_wp2_with (go_at_call 135; refine (poIn_any z x (by omega) _).mono ?_; rintro e' w2 ⟨rfl, rfl⟩)
  go_ret
  exact ⟨rfl, below_to HB0.out HB.out⟩
set_option maxHeartbeats 1600000 in
theorem liToggle_any (v u : Value) (xs ws : List Int) (i : Nat) (w : World) (hv : Ints w v xs) (hu : Ints w u ws) (hg : good xs = true) (hw : Lw xs.length ws) (hi : i + 1 < xs.length) :
    Calls Try.prog 83 #[.agg #[v], u, .int .i64 i] w fun (r : Ending) w' => ∃ q, r = Ending.returned q ∧ OwnI 3 w' w.heap.size q (togL xs ws i) ∧ Below w.heap.size w w' := by
  have HV := hid hv
  have HU := hid hu
  have HG := hid hg
  have HW := hid hw
  have hl10 := (good_length hg).2
  have hwl : ws.length = xs.length := hw.len
  have hx := hw.at (show i < xs.length by omega)
  have hy := hw.at hi
  obtain ⟨A, c, rfl, hA⟩ := hu
  obtain ⟨b, o, rfl, hbl, hc⟩ := hA (by intro h; simp [h] at hwl; omega)
  have hcx := hc i (by omega)
  have hcy := hc (i + 1) (by omega)
  obtain ⟨x, hxe⟩ := Int.eq_ofNat_of_zero_le hx.1
  obtain ⟨y, hye⟩ := Int.eq_ofNat_of_zero_le hy.1
  rw [hxe] at hcx hx
  rw [hye] at hcy hy
  have hx2 : x < xs.length := by omega
  have hy2 : y < xs.length := by omega
  obtain ⟨m, hm⟩ : ∃ m, i + 1 = m := ⟨_, rfl⟩
  have hmi : (i : Int) + 1 = (m : Int) := by omega
  rw [hm] at hcy hye hi
  have HT : Hid (∀ R, (row xs y).testBit x = R → togL xs ws i = if R = true then ws else (ws.set i (y : Int)).set m (x : Int)) := hid (by
    intro R hR
    unfold togL
    rw [hm, hxe, hye, Int.toNat_natCast, Int.toNat_natCast, hR]
    unfold swapL
    rw [hm, hxe, hye])
  have HC1 := hid hcx
  have HC2 := hid hcy
  obtain ⟨R, hR⟩ : ∃ R, (row xs y).testBit x = R := ⟨_, rfl⟩
  have HR := hid hR
  have HTT := hid (HT.out R hR)
  have HWL := hid hwl
  have hil : i < ws.length := by omega
  have hml : m < ws.length := by omega
  have hw48 : ws.length ≤ 1048576 := by omega
  clear hA hc hg hw hx hy hxe hye hR HT hv hcx hcy hwl
  go_enter Try.func83, Try.ntmps83
  have HB := hid (below_alloc (Below.refl _ w) (.cells #[v] 26))
  have A0 := hid (At.newAt w v 26 w.heap.size (by simp))
  go_wp2_with fail
  refine (l1OwnL_any _ ws _ (HU.out.below HB.out) hw48).mono ?_
  rintro e w' ⟨q, rfl, ho, hb⟩
  replace HB := hid (below_to HB.out hb)
  replace A0 := hid (A0.out.below hb)
  clear hb
  have hz := HB.out.size
  have HZ2 : Hid (w.heap.size + 1 ≤ w'.heap.size) := hid A0.out.2
  have HO := hid (ho.mono (show w.heap.size ≤ (w.alloc (.cells #[v] 26)).heap.size by simp))
  obtain ⟨qA, qc, rfl, hqA⟩ := ho.shape
  obtain ⟨g, rfl, hgl, hgB⟩ := hqA (by intro h; simp [h] at hil)
  clear ho hqA
  have HSW := hid (show SW w w.heap.size v w' from ⟨A0.out, HB.out⟩)
  have hbx := A0.out.1
  have hcx := (HB.out.cell (p := ⟨b, o + i, none⟩) hbl).trans HC1.out
  have hcy := (HB.out.cell (p := ⟨b, o + m, none⟩) hbl).trans HC2.out
  have hil' : (i : Int) < ws.length := by omega
  have hml' : (m : Int) < ws.length := by omega
  have hm0 : m < 11 := by omega
  have HMI := hid hmi
  have HI2 := hid hi
  clear hi hm
  have wm1 : IntKind.i64.wrap ((i : Int) + 1) = (m : Int) := by rw [hmi]; exact IntWalk.i64_in _ (by omega)
  have wm2 : IntKind.i64.wrap (m : Int) = (m : Int) := IntWalk.i64_in _ (by omega)
  go_wp2_with fail
  go_region_held3 (fun W => W.cell? ⟨w.heap.size, 0, none⟩ = some v ∧ W.cell? ⟨b, o + i, none⟩ = some (.int .i64 x) ∧ W.cell? ⟨b, o + m, none⟩ = some (.int .i64 y) ∧ Hid (Below w'.heap.size w' W)) (first | exact ⟨HSW.out.drew.at_.1, (HSW.out.drew.below.cell (p := ⟨b, o + i, none⟩) hbl).trans HC1.out, (HSW.out.drew.below.cell (p := ⟨b, o + m, none⟩) hbl).trans HC2.out, hid (Below.refl _ _).drew⟩ | exact ⟨(A0.out.below HS2.out).1, ((below_to HB.out HS2.out).cell (p := ⟨b, o + i, none⟩) hbl).trans HC1.out, ((below_to HB.out HS2.out).cell (p := ⟨b, o + m, none⟩) hbl).trans HC2.out, HS2⟩) (first | (go_at_call 141; refine (liLess_any v xs x y w' _ (HV.out.below HB.out) (Hid.out (by first | assumption | exact hid (Below.refl _ _).drew)) HG.out hx2 hy2).mono ?_; rw [HR.out]; rintro e' w4 ⟨rfl, hs4⟩; have HS2 := hid hs4; clear hs4))
  obtain ⟨hbx4, hcx4, hcy4, -⟩ := ‹_ ∧ _ ∧ _ ∧ Hid (Below w'.heap.size w' w4)›
  have hO4 := HO.out.below HS2.out
  have HO4 := hid hO4
  cases R
  · have HTF : Hid (togL xs ws i = (ws.set i (y : Int)).set m (x : Int)) := hid (by have := HTT.out; simpa using this)
    have hO4' : w4.ownsRow w.heap.size 3 1 (.slice (some ⟨g, 0, none⟩) ws.length qc) ws.length (ws.map (Value.int .i64)) := hO4
    have hg1 := hO4'.cellAt i (by omega)
    have hg2 := hO4'.cellAt m (by omega)
    rw [List.getElem?_map, getD_eq ws i hil] at hg1
    rw [List.getElem?_map, getD_eq ws m hml] at hg2
    simp only [Option.map_some] at hg1 hg2
    have hf1 := hO4'.frozenAt i
    have hf2 := hO4'.frozenAt m
    have hne : b ≠ g := by
      have : w.heap.size ≤ g := by simp at hgB; omega
      omega
    have him : i ≠ m := by omega
    have hsx : (w4.setCell ⟨g, i, none⟩ (.int .i64 (y : Int))).cell? ⟨b, o + i, none⟩ = some (.int .i64 (x : Int)) := (World.cell?_of_block (a := ⟨b, o + i, none⟩) (Below.heap_setCell w4 ⟨g, i, none⟩ _ b hne)).trans hcx4
    have hX := hid ((hO4'.stored i (.int .i64 (y : Int))).1)
    have hg2' := hX.out.cellAt m (by omega)
    rw [List.getElem?_set_ne him, List.getElem?_map, getD_eq ws m hml] at hg2'
    simp only [Option.map_some] at hg2'
    have hf2' := hX.out.frozenAt m
    have hY := hid ((hX.out.stored m (.int .i64 (x : Int))).1)
    have HBf := hid (below_to HB.out HS2.out)
    clear hO4 hO4' HTT hcx4 hbx4 hbx hcx hcy
    go_wp2
    go_ret
    refine ⟨_, rfl, ?_, ?_⟩
    · rw [HTF.out]
      have h := hY.out
      rw [← List.map_set, ← List.map_set] at h
      unfold OwnI
      simpa using h
    · have h0 : w.heap.size ≤ g := by simp at hgB; omega
      exact (HBf.out.setCell (p := ⟨g, i, none⟩) h0 _).setCell (p := ⟨g, m, none⟩) h0 _
  · have HTF : Hid (togL xs ws i = ws) := hid (by have := HTT.out; simpa using this)
    clear hO4 HTT
    go_wp2
    go_ret
    exact ⟨_, rfl, by rw [HTF.out]; exact HO4.out, below_to HB.out HS2.out⟩
end Go.Proofs.Ytpdoheagfjeefaa
namespace Go.Proofs.Ytpdoheagfjeefaa
open Go.RowKit Go.WideShapes Go.ChangeShapes
set_option linter.unusedVariables false

theorem Ints.lw {w : World} {q : Value} {n : Nat} {ws : List Int} (h : Ints w q ws) (hl : Lw n ws) : ∃ A c, q = .slice A n c := by
  obtain ⟨A, c, rfl, -⟩ := h
  exact ⟨A, c, by rw [hl.len]⟩
theorem liUp_any (v u : Value) (xs ws : List Int) (K : Nat) (w : World) (hv : Ints w v xs) (hu : Ints w u ws) (hg : good xs = true) (hw : Lw xs.length ws) (hK : K + 1 ≤ xs.length) :
    Calls Try.prog 139 #[.agg #[v], u, .int .i64 K] w fun (r : Ending) w' => ∃ q, r = Ending.returned q ∧ Ints w' q (upL xs K ws) ∧ Below w.heap.size w w' := by
  have HV := hid hv
  have HU := hid hu
  have HG := hid hg
  have HW := hid hw
  have hl10 := (good_length hg).2
  obtain ⟨A, c, rfl⟩ := hu.lw hw
  clear hv hu hg hw
  go_enter Try.func139, Try.ntmps139
  have HB := hid (below_alloc (Below.refl _ w) (.cells #[v] 26))
  have A0 := hid (At.newAt w v 26 w.heap.size (by simp))
  go_wp2
  go_loopw [1, 7] (fun q i wr => ∃ k : Nat, k ≤ K ∧ i = .int .i64 k ∧ Ints wr q (upL xs k ws) ∧ Below w.heap.size w wr ∧ At wr w.heap.size v) (fun _ i _ => K - (intOf i).toNat)
  case atStart => exact ⟨0, Nat.zero_le _, rfl, HU.out.below HB.out, HB.out, A0.out⟩
  case round =>
    obtain ⟨k, hk, rfl, hi, hb, ha⟩ := hrel
    have HI := hid hi
    have HB1 := hid hb
    have HA1 := hid ha
    have HWk := hid (HW.out.up (xs := xs) (k := k) (by omega))
    obtain ⟨A, c, rfl⟩ := hi.lw HWk.out
    have hbx := ha.1
    clear hi hb ha
    by_cases hlt : k < K
    · go_wp2_with fail
      refine (liToggle_any _ _ xs (upL xs k ws) k _ (HV.out.below HB1.out) HI.out HG.out HWk.out (by omega)).mono ?_
      rintro e w2 ⟨q2, rfl, ho2, hb2⟩
      have HI2 := hid ho2.ints
      have HB2 := hid (below_to HB1.out hb2)
      have HA2 := hid (HA1.out.below hb2)
      clear ho2 hb2 hbx
      go_wp2
      go_roundw
      case rel => exact ⟨k + 1, by omega, by go_num, HI2.out, HB2.out, HA2.out⟩
      case measure => simp [intOf]; omega
    · obtain rfl : k = K := by omega
      clear hbx
      go_wp2
      go_ret
      exact ⟨_, rfl, HI.out, HB1.out⟩

theorem liPromotePos_any (v u : Value) (xs ws : List Int) (T : Nat) (w : World) (hv : Ints w v xs) (hu : Ints w u ws) (hg : good xs = true) (hw : Lw xs.length ws) (hT : T ≤ 100) :
    Calls Try.prog 121 #[.agg #[v], u, .int .i64 T] w fun (r : Ending) w' => ∃ q, r = Ending.returned q ∧ OwnI 3 w' w.heap.size q (turnN (fun _ => pro1 xs) T ws) ∧ Below w.heap.size w w' := by
  have HV := hid hv
  have HU := hid hu
  have HG := hid hg
  have HW := hid hw
  have hl1 := (good_length hg).1
  have hl10 := (good_length hg).2
  obtain ⟨A, c, rfl⟩ := hu.lw hw
  clear hv hu hg hw
  go_enter Try.func121, Try.ntmps121
  have HB := hid (below_alloc (Below.refl _ w) (.cells #[v] 26))
  have A0 := hid (At.newAt w v 26 w.heap.size (by simp))
  go_wp2
  go_loopw [1, 2] (fun q i wr => ∃ k : Nat, k ≤ T ∧ i = .int .i64 ((T - k : Nat) : Int) ∧ Ints wr q (turnN (fun _ => pro1 xs) k ws) ∧ Below w.heap.size w wr ∧ At wr w.heap.size v) (fun _ i _ => (intOf i).toNat)
  case atStart => exact ⟨0, Nat.zero_le _, by simp, HU.out.below HB.out, HB.out, A0.out⟩
  case round =>
    obtain ⟨k, hk, rfl, hi, hb, ha⟩ := hrel
    have HI := hid hi
    have HB1 := hid hb
    have HA1 := hid ha
    have HWk := hid (show Lw xs.length (turnN (fun _ => pro1 xs) k ws) from HW.out.turn fun _ _ a ha => ha.pro1 hl1)
    obtain ⟨A, c, rfl⟩ := hi.lw HWk.out
    have hbx := ha.1
    clear hi hb ha
    by_cases hlt : k < T
    · obtain ⟨d, hd⟩ : ∃ d, T - k = d + 1 := ⟨T - k - 1, by omega⟩
      have hd2 : T - (k + 1) = d := by omega
      have HD2 := hid hd2
      rw [hd]
      obtain ⟨n, hn⟩ : ∃ n, xs.length = n + 1 := ⟨xs.length - 1, by omega⟩
      have HN := hid (show xs.length - 1 = n by omega)
      have hn1 : n + 1 ≤ xs.length := by omega
      have hn2 : n < 10 := by omega
      have hdle : d < 100 := by omega
      have e1 : (xs.length : Int) - 1 = (n : Int) := by omega
      clear hn hd hd2
      go_wp2_with fail
      refine (liUp_any _ _ xs (turnN (fun _ => pro1 xs) k ws) n _ (HV.out.below HB1.out) HI.out HG.out HWk.out hn1).mono ?_
      rintro e w2 ⟨q2, rfl, hi2, hb2⟩
      have HI2 : Hid (Ints w2 q2 (turnN (fun _ => pro1 xs) (k + 1) ws)) := hid (by show Ints w2 q2 (upL xs (xs.length - 1) _); rw [HN.out]; exact hi2)
      have HB2 := hid (below_to HB1.out hb2)
      have HA2 := hid (HA1.out.below hb2)
      clear hi2 hb2 hbx
      go_wp2
      go_roundw
      case rel => exact ⟨k + 1, by omega, (by rw [HD2.out]), HI2.out, HB2.out, HA2.out⟩
      case measure => simp [intOf]
    · obtain rfl : k = T := by omega
      have hd : k - k = 0 := Nat.sub_self k
      rw [hd]
      clear hbx hd
      go_wp2
      go_loop [1, 2, 7] (fun q i j => Hid (q = .slice A xs.length c) ∧ i = .int .i64 0) (fun _ _ _ => 0)
      case atStart => exact ⟨hid rfl, rfl⟩
      case round =>
        obtain ⟨HQ, rfl⟩ := hrel
        have := HQ.out
        subst this
        go_wp2_with fail
        refine (l1OwnL_any _ _ _ HI.out (by rw [HWk.out.len]; omega)).mono ?_
        rintro e w3 ⟨q3, rfl, ho, hb3⟩
        have HO := hid (ho.mono HB1.out.size)
        have HB3 := hid (below_to HB1.out hb3)
        obtain ⟨qA, qn, qc, rfl⟩ := ho.shape3
        clear ho hb3
        go_wp2
        go_ret
        exact ⟨_, rfl, HO.out, HB3.out⟩

set_option maxHeartbeats 1600000 in
theorem liPromoteNeg_any (v u : Value) (xs ws : List Int) (T : Nat) (w : World) (hv : Ints w v xs) (hu : Ints w u ws) (hg : good xs = true) (hw : Lw xs.length ws) (hT0 : 1 ≤ T) (hT : T ≤ 100) :
    Calls Try.prog 121 #[.agg #[v], u, .int .i64 (-(T : Int))] w fun (r : Ending) w' => ∃ q, r = Ending.returned q ∧ OwnI 3 w' w.heap.size q (turnN (fun _ => orp1 xs) T ws) ∧ Below w.heap.size w w' := by
  have HV := hid hv
  have HU := hid hu
  have HG := hid hg
  have HW := hid hw
  have hl1 := (good_length hg).1
  have hl10 := (good_length hg).2
  obtain ⟨A, c, rfl⟩ := hu.lw hw
  clear hv hu hg hw
  go_enter Try.func121, Try.ntmps121
  have HB := hid (below_alloc (Below.refl _ w) (.cells #[v] 26))
  have A0 := hid (At.newAt w v 26 w.heap.size (by simp))
  go_wp2
  go_loop [1, 2] (fun q i => Hid (q = .slice A xs.length c) ∧ i = .int .i64 (-(T : Int))) (fun _ _ => 0)
  case atStart => exact ⟨hid rfl, rfl⟩
  case round =>
    obtain ⟨HQ, rfl⟩ := hrel
    have := HQ.out
    subst this
    have hTd1 : decide ((0 : Int) < -(T : Int)) = false := by simp
    have hTd2 : decide ((T : Int) < 0) = false := by simp
    have hTd3 : decide (-(T : Int) < 0) = true := by simp; omega
    have hTd4 : decide ((0 : Int) < (T : Int)) = true := by simp; omega
    go_wp2
    clear hTd1 hTd2 hTd3 hTd4
    go_loopw [1, 2, 7] (fun q i j wr => ∃ k : Nat, k ≤ T ∧ i = .int .i64 (-((T - k : Nat) : Int)) ∧ Ints wr q (turnN (fun _ => orp1 xs) k ws) ∧ Below w.heap.size w wr ∧ At wr w.heap.size v) (fun _ i _ _ => (-(intOf i)).toNat)
    case atStart => exact ⟨0, Nat.zero_le _, by simp, HU.out.below HB.out, HB.out, A0.out⟩
    case round =>
      obtain ⟨k, hk, rfl, hi, hb, ha⟩ := hrel
      have HI := hid hi
      have HB1 := hid hb
      have HA1 := hid ha
      have HWk := hid (show Lw xs.length (turnN (fun _ => orp1 xs) k ws) from HW.out.turn fun _ _ a ha => ha.orp1 hl1)
      obtain ⟨A, c, rfl⟩ := hi.lw HWk.out
      clear hi hb ha
      by_cases hlt : k < T
      · obtain ⟨d, hd⟩ : ∃ d, T - k = d := ⟨_, rfl⟩
        have HD2 := hid (show (-(d : Int) + 1) = -((T - (k + 1) : Nat) : Int) by omega)
        have hd1 : 1 ≤ d := by omega
        rw [hd]
        obtain ⟨n, hn⟩ : ∃ n, xs.length = n + 1 := ⟨xs.length - 1, by omega⟩
        have HN := hid (show xs.length - 1 = n by omega)
        have hn1 : n + 1 ≤ xs.length := by omega
        have hn2 : n < 10 := by omega
        have hdle : d ≤ 100 := by omega
        have e1 : (xs.length : Int) - 2 = (n : Int) - 1 := by omega
        have hdd : decide (0 < d) = true := by simp; omega
        clear hn hd
        go_wp2
        clear e1 hdd
        go_loopw [1, 7] (fun q j wi => ∃ m : Nat, m ≤ n ∧ j = .int .i64 ((n : Int) - 1 - (m : Int)) ∧ Ints wi q (downL xs n m (turnN (fun _ => orp1 xs) k ws)) ∧ Below w.heap.size w wi ∧ At wi w.heap.size v) (fun _ j _ => (intOf j + 1).toNat)
        case atStart => exact ⟨0, Nat.zero_le _, by simp, HI.out, HB1.out, HA1.out⟩
        case round =>
          obtain ⟨m, hm, rfl, hi, hb, ha⟩ := hrel
          have HI1 := hid hi
          have HB2 := hid hb
          have HA2 := hid ha
          have HWm := hid (HWk.out.down (xs := xs) (t := n) (k := m) (by omega) hm)
          obtain ⟨A, c, rfl⟩ := hi.lw HWm.out
          have hbx := ha.1
          clear hi hb ha
          by_cases hlm : m < n
          · obtain ⟨p, hp⟩ : ∃ p, n - 1 - m = p := ⟨_, rfl⟩
            have hp2 : (n : Int) - 1 - (m : Int) = (p : Int) := by omega
            have HP := hid hp
            have HP2 := hid hp2
            have hp3 : p + 1 < xs.length := by omega
            rw [hp2]
            clear hp hp2
            go_wp2_with fail
            refine (liToggle_any _ _ xs _ p _ (HV.out.below HB2.out) HI1.out HG.out HWm.out hp3).mono ?_
            rintro e w2 ⟨q2, rfl, ho2, hb2⟩
            have HI2 : Hid (Ints w2 q2 (downL xs n (m + 1) (turnN (fun _ => orp1 xs) k ws))) := hid (by rw [downL_succ, HP.out]; exact ho2.ints)
            have HB3 := hid (below_to HB2.out hb2)
            have HA3 := hid (HA2.out.below hb2)
            clear ho2 hb2 hbx
            go_wp2
            go_roundw
            case rel => exact ⟨m + 1, by omega, (by have := HP2.out; first | (congr 1; omega) | (simp; omega)), HI2.out, HB3.out, HA3.out⟩
            case measure => first | (simp [intOf]; done) | (simp [intOf]; have := HP2.out; omega)
          · obtain rfl : m = n := by omega
            have e2 : (m : Int) - 1 - (m : Int) = -1 := by omega
            rw [e2]
            clear hbx e2
            have HI2 : Hid (Ints wr (.slice A xs.length c) (turnN (fun _ => orp1 xs) (k + 1) ws)) := hid (by show Ints _ _ (downL xs (xs.length - 1) (xs.length - 1) _); rw [HN.out]; exact HI1.out)
            go_wp2
            go_roundw
            case rel => exact ⟨k + 1, by omega, (by rw [← HD2.out]), HI2.out, HB2.out, HA2.out⟩
            case measure => simp [intOf]; omega
      · obtain rfl : k = T := by omega
        have hd : k - k = 0 := Nat.sub_self k
        rw [hd]
        clear hd
        go_wp2_with fail
        refine (l1OwnL_any _ _ _ HI.out (by rw [HWk.out.len]; omega)).mono ?_
        rintro e w3 ⟨q3, rfl, ho, hb3⟩
        have HO := hid (ho.mono HB1.out.size)
        have HB3 := hid (below_to HB1.out hb3)
        obtain ⟨qA, qn, qc, rfl⟩ := ho.shape3
        clear ho hb3
        go_wp2
        go_ret
        exact ⟨_, rfl, HO.out, HB3.out⟩
theorem liPromote_any (v u : Value) (xs ws : List Int) (t : Int) (w : World) (hv : Ints w v xs) (hu : Ints w u ws) (hg : good xs = true) (hw : Lw xs.length ws) (h1 : -100 ≤ t) (h2 : t ≤ 100) :
    Calls Try.prog 121 #[.agg #[v], u, .int .i64 t] w fun (r : Ending) w' => ∃ q, r = Ending.returned q ∧ OwnI 3 w' w.heap.size q (proL xs t ws) ∧ Below w.heap.size w w' := by
  by_cases h : t < 0
  · obtain ⟨T, hT⟩ := Int.eq_ofNat_of_zero_le (show 0 ≤ -t by omega)
    have e : t = -(T : Int) := by omega
    subst e
    have := liPromoteNeg_any v u xs ws T w hv hu hg hw (by omega) (by omega)
    rw [proL_neg h, show (- -(T : Int)).toNat = T by omega]
    exact this
  · obtain ⟨T, rfl⟩ := Int.eq_ofNat_of_zero_le (show 0 ≤ t by omega)
    rw [proL_nat]
    exact liPromotePos_any v u xs ws T w hv hu hg hw (by omega)

theorem liEvacuate_any (v u : Value) (xs ws : List Int) (w : World) (hv : Ints w v xs) (hu : Ints w u ws) (hg : good xs = true) (hw : Lw xs.length ws) :
    Calls Try.prog 80 #[.agg #[v], u] w fun (r : Ending) w' => ∃ q, r = Ending.returned q ∧ OwnI 3 w' w.heap.size q (evaL xs ws) ∧ Below w.heap.size w w' := by
  have HV := hid hv
  have HU := hid hu
  have HG := hid hg
  have HW := hid hw
  have hl1 := (good_length hg).1
  have hl10 := (good_length hg).2
  obtain ⟨A, c, rfl⟩ := hu.lw hw
  obtain ⟨n, hn⟩ : ∃ n, xs.length = n + 1 := ⟨xs.length - 1, by omega⟩
  have HN := hid (show xs.length - 1 = n by omega)
  have HN1 := hid hn
  have hn2 : n < 10 := by omega
  have e1 : (xs.length : Int) - 1 = (n : Int) := by omega
  clear hv hu hg hw hn
  go_enter Try.func80, Try.ntmps80
  have HB := hid (below_alloc (Below.refl _ w) (.cells #[v] 26))
  have A0 := hid (At.newAt w v 26 w.heap.size (by simp))
  go_wp2
  clear e1
  go_loopw [1, 5] (fun q i wr => ∃ k : Nat, k ≤ n ∧ i = .int .i64 ((n - k : Nat) : Int) ∧ Ints wr q (turnN (fun k => upL xs (n - k)) k ws) ∧ Below w.heap.size w wr ∧ At wr w.heap.size v) (fun _ i _ => (intOf i).toNat)
  case atStart => exact ⟨0, Nat.zero_le _, by simp, HU.out.below HB.out, HB.out, A0.out⟩
  case round =>
    obtain ⟨k, hk, rfl, hi, hb, ha⟩ := hrel
    have HI := hid hi
    have HB1 := hid hb
    have HA1 := hid ha
    have HWk := hid (show Lw xs.length (turnN (fun k => upL xs (n - k)) k ws) from HW.out.turn fun _ _ a ha => ha.up (by have := HN1.out; omega))
    obtain ⟨A, c, rfl⟩ := hi.lw HWk.out
    have hbx := ha.1
    clear hi hb ha
    by_cases hlt : k < n
    · obtain ⟨d, hd⟩ : ∃ d, n - k = d + 1 := ⟨n - k - 1, by omega⟩
      have HD := hid hd
      have HD2 := hid (show n - (k + 1) = d by omega)
      rw [hd]
      have hd1 : d + 1 + 1 ≤ xs.length := by have := HN1.out; omega
      have hdle : d < 10 := by omega
      clear hd
      go_wp2_with fail
      refine (liUp_any _ _ xs (turnN (fun k => upL xs (n - k)) k ws) (d + 1) _ (HV.out.below HB1.out) HI.out HG.out HWk.out hd1).mono ?_
      rintro e w2 ⟨q2, rfl, hi2, hb2⟩
      have HI2 : Hid (Ints w2 q2 (turnN (fun k => upL xs (n - k)) (k + 1) ws)) := hid (by show Ints w2 q2 (upL xs (n - k) _); rw [HD.out]; exact hi2)
      have HB2 := hid (below_to HB1.out hb2)
      have HA2 := hid (HA1.out.below hb2)
      clear hi2 hb2 hbx
      go_wp2
      go_roundw
      case rel => exact ⟨k + 1, by omega, (by rw [HD2.out]), HI2.out, HB2.out, HA2.out⟩
      case measure => simp [intOf]
    · obtain rfl : k = n := by omega
      have hd : k - k = 0 := Nat.sub_self k
      rw [hd]
      clear hbx hd
      have HEq : Hid (evaL xs ws = turnN (fun j => upL xs (k - j)) k ws) := hid (by unfold evaL; rw [HN.out])
      go_wp2_with fail
      refine (l1OwnL_any _ _ _ HI.out (by rw [HWk.out.len]; omega)).mono ?_
      rintro e w3 ⟨q3, rfl, ho, hb3⟩
      have HO := hid (ho.mono HB1.out.size)
      have HB3 := hid (below_to HB1.out hb3)
      obtain ⟨qA, qn, qc, rfl⟩ := ho.shape3
      clear ho hb3
      go_wp2
      go_ret
      exact ⟨_, rfl, by rw [HEq.out]; exact HO.out, HB3.out⟩
end Go.Proofs.Ytpdoheagfjeefaa
namespace Go.Proofs.Ytpdoheagfjeefaa
open Go.RowKit Go.WideShapes Go.ChangeShapes
set_option linter.unusedVariables false

theorem ints_ten {n : Nat} {ws : List Int} (h : Lw n ws) (hn : n ≤ 10) : ws.length ≤ 1048576 := by rw [h.len]; omega
def okTL (xs ws : List Int) (i : Int) : Bool := okLin xs ws && (decide (0 ≤ i) && decide (i ≤ (ws.length : Int) - 2))
def ansTL (xs ws : List Int) (i : Int) : List Int := if okTL xs ws i then togL xs ws i.toNat else []
theorem okTL_no1 {xs ws : List Int} {i : Int} (h : okLin xs ws = false) : okTL xs ws i = false := by simp [okTL, h]
theorem okTL_no2 {xs ws : List Int} {i : Int} (h : (decide (0 ≤ i) && decide (i ≤ (ws.length : Int) - 2)) = false) : okTL xs ws i = false := by simp only [okTL, h]; simp
theorem okTL_yes {xs ws : List Int} {i : Int} (h : okLin xs ws = true) (k : (decide (0 ≤ i) && decide (i ≤ (ws.length : Int) - 2)) = true) : okTL xs ws i = true := by simp only [okTL, h, k]; rfl
theorem ansTL_no {xs ws : List Int} {i : Int} (h : okTL xs ws i = false) : ansTL xs ws i = [] := by simp [ansTL, h]
theorem ansTL_yes {xs ws : List Int} {i : Nat} (h : okTL xs ws i = true) : ansTL xs ws i = togL xs ws i := by simp [ansTL, h]
theorem ansTL_length (xs ws : List Int) (i : Int) : (ansTL xs ws i).length ≤ 1048576 := by
  cases h : okTL xs ws i
  · rw [ansTL_no h]; simp
  · unfold ansTL
    rw [if_pos h, togL_length]
    have h1 : okLin xs ws = true := by simp only [okTL, Bool.and_eq_true] at h; exact h.1
    exact ints_ten (okLin_Lw h1) (good_length (okLin_all h1).1).2
theorem specToggleLinear_any (v : Value) (xs : List Int) (u : Value) (ws : List Int) (i : Int) (w : World) (hv : Ints w v xs) (hl : xs.length ≤ 1048576) (hu : Ints w u ws) (hm : ws.length ≤ 1048576) (wf : (Lit.int .i64 i).wf = true) :
    Calls Try.prog 48 #[.agg #[v], u, .int .i64 i] w fun (r : Ending) w' => ∃ q, r = Ending.returned (.tuple #[q, .bool (okTL xs ws i)]) ∧ OwnI 3 w' w.heap.size q (ansTL xs ws i) ∧ (ansTL xs ws i).length ≤ 1048576 ∧ Below w.heap.size w w' := by
  have HV := hid hv
  have HU := hid hu
  have HL := hid (ansTL_length xs ws i)
  obtain ⟨A, c, rfl, -⟩ := hu
  clear hv wf
  go_enter Try.func48, Try.ntmps48
  have HB := hid (below_alloc (Below.refl _ w) (.cells #[v] 26))
  have A0 := hid (At.newAt w v 26 w.heap.size (by simp))
  go_wp2_with fail
  refine (liGiven_any _ _ xs ws _ (HV.out.below HB.out) hl (HU.out.below HB.out) hm).mono ?_
  rintro e w' ⟨rfl, hb⟩
  replace HB := hid (below_to HB.out hb)
  replace A0 := hid (A0.out.below hb)
  clear hb
  cases hq : okLin xs ws
  · have HO := hid (okTL_no1 (i := i) hq)
    clear hq
    have ebox0 := A0.out.1
    go_wp2
    go_ret2
    exact ⟨_, ret_vbL HO.out.symm, by rw [ansTL_no HO.out]; exact OwnI.nil _ _ _, HL.out, HB.out⟩
  · have HQ := hid hq
    have HLw := hid (okLin_Lw hq)
    have HG := hid (okLin_all hq).1
    clear hq
    have e2 : IntKind.i64.wrap ((ws.length : Int) - 2) = (ws.length : Int) - 2 := IntWalk.i64_in _ (by omega)
    have ebox0 := A0.out.1
    go_wp2_with fail
    clear ebox0
    refine (l1In_any i 0 ((ws.length : Int) - 2) _).mono ?_
    rintro e w2 ⟨rfl, rfl⟩
    clear e2
    cases hk : (decide (0 ≤ i) && decide (i ≤ (ws.length : Int) - 2))
    · have HO := hid (okTL_no2 (xs := xs) hk)
      clear hk
      go_wp2
      go_ret2
      exact ⟨_, ret_vbL HO.out.symm, by rw [ansTL_no HO.out]; exact OwnI.nil _ _ _, HL.out, HB.out⟩
    · have HO := hid (okTL_yes HQ.out hk)
      have hz := HB.out.size
      have hk2 : 0 ≤ i ∧ i ≤ (ws.length : Int) - 2 := by simpa using hk
      obtain ⟨z, rfl⟩ := Int.eq_ofNat_of_zero_le hk2.1
      have hz2 : z + 1 < xs.length := by have := HLw.out.len; omega
      have HY := hid (ansTL_yes HO.out)
      clear hk hk2
      have ebox0 := A0.out.1
      go_wp2_with fail
      clear ebox0
      refine (liToggle_any _ _ xs ws z _ (HV.out.below HB.out) (HU.out.below HB.out) HG.out HLw.out hz2).mono ?_
      rintro e w' ⟨q, rfl, ho, hb⟩
      replace HB := hid (below_to HB.out hb)
      replace A0 := hid (A0.out.below hb)
      clear hb
      have ebox0 := A0.out.1
      go_wp2
      go_ret2
      exact ⟨_, ret_vbL HO.out.symm, by rw [HY.out]; exact ho.mono hz, HL.out, HB.out⟩

def okPL (xs ws : List Int) (t : Int) : Bool := okLin xs ws && (decide (-100 ≤ t) && decide (t ≤ 100))
def ansPL (xs ws : List Int) (t : Int) : List Int := if okPL xs ws t then proL xs t ws else []
theorem okPL_no1 {xs ws : List Int} {t : Int} (h : okLin xs ws = false) : okPL xs ws t = false := by simp [okPL, h]
theorem okPL_no2 {xs ws : List Int} {t : Int} (h : (decide (-100 ≤ t) && decide (t ≤ 100)) = false) : okPL xs ws t = false := by simp only [okPL, h]; simp
theorem okPL_yes {xs ws : List Int} {t : Int} (h : okLin xs ws = true) (k : (decide (-100 ≤ t) && decide (t ≤ 100)) = true) : okPL xs ws t = true := by simp only [okPL, h, k]; rfl
theorem ansPL_no {xs ws : List Int} {t : Int} (h : okPL xs ws t = false) : ansPL xs ws t = [] := by simp [ansPL, h]
theorem ansPL_yes {xs ws : List Int} {t : Int} (h : okPL xs ws t = true) : ansPL xs ws t = proL xs t ws := by simp [ansPL, h]
theorem ansPL_length (xs ws : List Int) (t : Int) : (ansPL xs ws t).length ≤ 1048576 := by
  cases h : okPL xs ws t
  · rw [ansPL_no h]; simp
  · rw [ansPL_yes h]
    have h1 : okLin xs ws = true := by simp only [okPL, Bool.and_eq_true] at h; exact h.1
    have hg := good_length (okLin_all h1).1
    exact ints_ten ((okLin_Lw h1).pro hg.1 t) hg.2
theorem specPromoteLinear_any (v : Value) (xs : List Int) (u : Value) (ws : List Int) (t : Int) (w : World) (hv : Ints w v xs) (hl : xs.length ≤ 1048576) (hu : Ints w u ws) (hm : ws.length ≤ 1048576) (wf : (Lit.int .i64 t).wf = true) :
    Calls Try.prog 50 #[.agg #[v], u, .int .i64 t] w fun (r : Ending) w' => ∃ q, r = Ending.returned (.tuple #[q, .bool (okPL xs ws t)]) ∧ OwnI 3 w' w.heap.size q (ansPL xs ws t) ∧ (ansPL xs ws t).length ≤ 1048576 ∧ Below w.heap.size w w' := by
  have HV := hid hv
  have HU := hid hu
  have HL := hid (ansPL_length xs ws t)
  obtain ⟨A, c, rfl, -⟩ := hu
  clear hv wf
  go_enter Try.func50, Try.ntmps50
  have HB := hid (below_alloc (Below.refl _ w) (.cells #[v] 26))
  have A0 := hid (At.newAt w v 26 w.heap.size (by simp))
  go_wp2_with fail
  refine (liGiven_any _ _ xs ws _ (HV.out.below HB.out) hl (HU.out.below HB.out) hm).mono ?_
  rintro e w' ⟨rfl, hb⟩
  replace HB := hid (below_to HB.out hb)
  replace A0 := hid (A0.out.below hb)
  clear hb
  cases hq : okLin xs ws
  · have HO := hid (okPL_no1 (t := t) hq)
    clear hq
    have ebox0 := A0.out.1
    go_wp2
    go_ret2
    exact ⟨_, ret_vbL HO.out.symm, by rw [ansPL_no HO.out]; exact OwnI.nil _ _ _, HL.out, HB.out⟩
  · have HQ := hid hq
    have HLw := hid (okLin_Lw hq)
    have HG := hid (okLin_all hq).1
    clear hq
    have ebox0 := A0.out.1
    go_wp2_with fail
    clear ebox0
    refine (l1In_any t (-100) 100 _).mono ?_
    rintro e w2 ⟨rfl, rfl⟩
    cases hk : (decide (-100 ≤ t) && decide (t ≤ 100))
    · have HO := hid (okPL_no2 (xs := xs) (ws := ws) hk)
      clear hk
      go_wp2
      go_ret2
      exact ⟨_, ret_vbL HO.out.symm, by rw [ansPL_no HO.out]; exact OwnI.nil _ _ _, HL.out, HB.out⟩
    · have HO := hid (okPL_yes HQ.out hk)
      have hz := HB.out.size
      have hk2 : -100 ≤ t ∧ t ≤ 100 := by simpa using hk
      have HY := hid (ansPL_yes HO.out)
      clear hk
      have ebox0 := A0.out.1
      go_wp2_with fail
      clear ebox0
      refine (liPromote_any _ _ xs ws t _ (HV.out.below HB.out) (HU.out.below HB.out) HG.out HLw.out hk2.1 hk2.2).mono ?_
      rintro e w' ⟨q, rfl, ho, hb⟩
      replace HB := hid (below_to HB.out hb)
      replace A0 := hid (A0.out.below hb)
      clear hb
      have ebox0 := A0.out.1
      go_wp2
      go_ret2
      exact ⟨_, ret_vbL HO.out.symm, by rw [HY.out]; exact ho.mono hz, HL.out, HB.out⟩

def ansEL (xs ws : List Int) : List Int := if okLin xs ws then evaL xs ws else []
theorem ansEL_no {xs ws : List Int} (h : okLin xs ws = false) : ansEL xs ws = [] := by simp [ansEL, h]
theorem ansEL_yes {xs ws : List Int} (h : okLin xs ws = true) : ansEL xs ws = evaL xs ws := by simp [ansEL, h]
theorem ansEL_length (xs ws : List Int) : (ansEL xs ws).length ≤ 1048576 := by
  cases h : okLin xs ws
  · rw [ansEL_no h]; simp
  · rw [ansEL_yes h]
    have hg := good_length (okLin_all h).1
    exact ints_ten ((okLin_Lw h).eva hg.1) hg.2
theorem specEvacuateLinear_any (v : Value) (xs : List Int) (u : Value) (ws : List Int) (w : World) (hv : Ints w v xs) (hl : xs.length ≤ 1048576) (hu : Ints w u ws) (hm : ws.length ≤ 1048576) :
    Calls Try.prog 11 #[.agg #[v], u] w fun (r : Ending) w' => ∃ q, r = Ending.returned (.tuple #[q, .bool (okLin xs ws)]) ∧ OwnI 3 w' w.heap.size q (ansEL xs ws) ∧ (ansEL xs ws).length ≤ 1048576 ∧ Below w.heap.size w w' := by
  have HV := hid hv
  have HU := hid hu
  have HL := hid (ansEL_length xs ws)
  obtain ⟨A, c, rfl, -⟩ := hu
  clear hv
  go_enter Try.func11, Try.ntmps11
  have HB := hid (below_alloc (Below.refl _ w) (.cells #[v] 26))
  have A0 := hid (At.newAt w v 26 w.heap.size (by simp))
  go_wp2_with fail
  refine (liGiven_any _ _ xs ws _ (HV.out.below HB.out) hl (HU.out.below HB.out) hm).mono ?_
  rintro e w' ⟨rfl, hb⟩
  replace HB := hid (below_to HB.out hb)
  replace A0 := hid (A0.out.below hb)
  clear hb
  cases hq : okLin xs ws
  · have HO := hid hq
    clear hq
    have ebox0 := A0.out.1
    go_wp2
    go_ret2
    exact ⟨_, ret_vbL HO.out.symm, by rw [ansEL_no HO.out]; exact OwnI.nil _ _ _, HL.out, HB.out⟩
  · have HO := hid hq
    have HLw := hid (okLin_Lw hq)
    have HG := hid (okLin_all hq).1
    have HY := hid (ansEL_yes hq)
    have hz := HB.out.size
    clear hq
    have ebox0 := A0.out.1
    go_wp2_with fail
    clear ebox0
    refine (liEvacuate_any _ _ xs ws _ (HV.out.below HB.out) (HU.out.below HB.out) HG.out HLw.out).mono ?_
    rintro e w' ⟨q, rfl, ho, hb⟩
    replace HB := hid (below_to HB.out hb)
    replace A0 := hid (A0.out.below hb)
    clear hb
    have ebox0 := A0.out.1
    go_wp2
    go_ret2
    exact ⟨_, ret_vbL HO.out.symm, by rw [HY.out]; exact ho.mono hz, HL.out, HB.out⟩

def ansCL (xs ws : List Int) : List Int := if okLin xs ws then coeL xs ws else []
theorem ansCL_no {xs ws : List Int} (h : okLin xs ws = false) : ansCL xs ws = [] := by simp [ansCL, h]
theorem ansCL_yes {xs ws : List Int} (h : okLin xs ws = true) : ansCL xs ws = coeL xs ws := by simp [ansCL, h]
theorem ansCL_length (xs ws : List Int) : (ansCL xs ws).length ≤ 1048576 := by
  cases h : okLin xs ws
  · rw [ansCL_no h]; simp
  · rw [ansCL_yes h]
    have hg := good_length (okLin_all h).1
    exact ints_ten ((okLin_Lw h).coe hg.1) hg.2
set_option maxHeartbeats 1600000 in
theorem specCoevacuateLinear_any (v : Value) (xs : List Int) (u : Value) (ws : List Int) (w : World) (hv : Ints w v xs) (hl : xs.length ≤ 1048576) (hu : Ints w u ws) (hm : ws.length ≤ 1048576) :
    Calls Try.prog 13 #[.agg #[v], u] w fun (r : Ending) w' => ∃ q, r = Ending.returned (.tuple #[q, .bool (okLin xs ws)]) ∧ OwnI 3 w' w.heap.size q (ansCL xs ws) ∧ (ansCL xs ws).length ≤ 1048576 ∧ Below w.heap.size w w' := by
  have HV := hid hv
  have HU := hid hu
  have HL := hid (ansCL_length xs ws)
  obtain ⟨A, c, rfl, -⟩ := hu
  clear hv
  go_enter Try.func13, Try.ntmps13
  have HB := hid (below_alloc (Below.refl _ w) (.cells #[v] 26))
  have A0 := hid (At.newAt w v 26 w.heap.size (by simp))
  go_wp2_with fail
  refine (liGiven_any _ _ xs ws _ (HV.out.below HB.out) hl (HU.out.below HB.out) hm).mono ?_
  rintro e w' ⟨rfl, hb⟩
  replace HB := hid (below_to HB.out hb)
  replace A0 := hid (A0.out.below hb)
  clear hb
  cases hq : okLin xs ws
  · have HO := hid hq
    clear hq
    have ebox0 := A0.out.1
    go_wp2
    go_ret2
    exact ⟨_, ret_vbL HO.out.symm, by rw [ansCL_no HO.out]; exact OwnI.nil _ _ _, HL.out, HB.out⟩
  · have HO := hid hq
    have HLw := hid (okLin_Lw hq)
    have HG := hid (okLin_all hq).1
    have hz := HB.out.size
    have hl1 := (good_length HG.out).1
    have hl10 := (good_length HG.out).2
    obtain ⟨n, hn⟩ : ∃ n, xs.length = n + 1 := ⟨xs.length - 1, by omega⟩
    have HN := hid (show xs.length - 1 = n by omega)
    have HN1 := hid hn
    have hn2 : n < 10 := by omega
    have hwl : ws.length = n + 1 := by rw [HLw.out.len]; exact hn
    have HWL := hid hwl
    have HY : Hid (ansCL xs ws = turnN (fun k => downL xs n (n - k)) n ws) := hid (by rw [ansCL_yes hq]; unfold coeL; rw [HN.out])
    have e1 : (ws.length : Int) - 1 = (n : Int) := by omega
    have e2 : (ws.length : Int) - 2 = (n : Int) - 1 := by omega
    have hw48 : ws.length ≤ 1048576 := hm
    have HE1 := hid e1
    have HE2 := hid e2
    clear hq hn hwl e1 e2
    have ebox0 := A0.out.1
    go_wp2_with fail
    clear ebox0
    refine (l1OwnL_any _ ws _ (HU.out.below HB.out) hm).mono ?_
    rintro e w' ⟨q, rfl, ho, hb⟩
    replace HB := hid (below_to HB.out hb)
    replace A0 := hid (A0.out.below hb)
    clear hb
    have HO0 := hid (ho.mono hz)
    clear ho
    have ebox0 := A0.out.1
    go_wp2
    go_loopw [6, 7, 8] (fun q i j wr => ∃ k : Nat, k ≤ n ∧ i = .int .i64 k ∧ OwnI 3 wr w.heap.size q (turnN (fun k => downL xs n (n - k)) k ws) ∧ Below w.heap.size w wr ∧ At wr w.heap.size v) (fun _ i _ _ => n - (intOf i).toNat)
    case atStart => exact ⟨0, Nat.zero_le _, rfl, HO0.out, HB.out, A0.out⟩
    case round =>
      obtain ⟨k, hk, rfl, hi, hb, ha⟩ := hrel
      have HI := hid hi
      have HB1 := hid hb
      have HA1 := hid ha
      have HWk := hid (show Lw xs.length (turnN (fun k => downL xs n (n - k)) k ws) from HLw.out.turn fun _ _ a ha => ha.down (by have := HN1.out; omega) (by omega))
      obtain ⟨A1, c1, rfl⟩ := hi.ints.lw HWk.out
      have e1 := HE1.out
      have e2 := HE2.out
      clear hi hb ha
      by_cases hlt : k < n
      · go_wp2
        clear e1 e2
        go_loopw [6, 8] (fun q j wi => ∃ m : Nat, m ≤ n - k ∧ j = .int .i64 ((n : Int) - 1 - (m : Int)) ∧ OwnI 3 wi w.heap.size q (downL xs n m (turnN (fun k => downL xs n (n - k)) k ws)) ∧ Below w.heap.size w wi ∧ At wi w.heap.size v) (fun _ j _ => (intOf j + 1).toNat)
        case atStart => exact ⟨0, Nat.zero_le _, by simp, HI.out, HB1.out, HA1.out⟩
        case round =>
          obtain ⟨m, hm, rfl, hi, hb, ha⟩ := hrel
          have HI1 := hid hi
          have HB2 := hid hb
          have HA2 := hid ha
          have HWm := hid (HWk.out.down (xs := xs) (t := n) (k := m) (by have := HN1.out; omega) (by omega))
          obtain ⟨A2, c2, rfl⟩ := hi.ints.lw HWm.out
          have hbx := ha.1
          clear hi hb ha
          by_cases hlm : m < n - k
          · obtain ⟨p, hp⟩ : ∃ p, n - 1 - m = p := ⟨_, rfl⟩
            have hp2 : (n : Int) - 1 - (m : Int) = (p : Int) := by omega
            have HP := hid hp
            have HP2 := hid hp2
            have hp3 : p + 1 < xs.length := by have := HN1.out; omega
            have hpk : k ≤ p := by omega
            rw [hp2]
            clear hp hp2
            go_wp2_with fail
            refine (liToggle_any _ _ xs _ p _ (HV.out.below HB2.out) HI1.out.ints HG.out HWm.out hp3).mono ?_
            rintro e w2 ⟨q2, rfl, ho2, hb2⟩
            have HI2 : Hid (OwnI 3 w2 w.heap.size q2 (downL xs n (m + 1) (turnN (fun k => downL xs n (n - k)) k ws))) := hid (by rw [downL_succ, HP.out]; exact ho2.mono HB2.out.size)
            have HB3 := hid (below_to HB2.out hb2)
            have HA3 := hid (HA2.out.below hb2)
            clear ho2 hb2 hbx
            go_wp2
            go_roundw
            case rel => exact ⟨m + 1, by omega, (by have := HP2.out; first | (congr 1; omega) | (simp; omega)), HI2.out, HB3.out, HA3.out⟩
            case measure => first | (simp [intOf]; done) | (simp [intOf]; have := HP2.out; omega)
          · obtain rfl : m = n - k := by omega
            have e2 : (n : Int) - 1 - ((n - k : Nat) : Int) = (k : Int) - 1 := by omega
            rw [e2]
            clear hbx e2 hlm hm
            have HI2 : Hid (OwnI 3 wr w.heap.size (.slice A2 xs.length c2) (turnN (fun k => downL xs n (n - k)) (k + 1) ws)) := hid HI1.out
            go_wp2
            go_roundw
            case rel => exact ⟨k + 1, by omega, by go_num, HI2.out, HB2.out, HA2.out⟩
            case measure => simp [intOf]; omega
      · obtain rfl : k = n := by omega
        go_wp2
        go_ret2
        exact ⟨_, ret_vbL HO.out.symm, by rw [HY.out]; exact HI.out, HL.out, HB1.out⟩
end Go.Proofs.Ytpdoheagfjeefaa
