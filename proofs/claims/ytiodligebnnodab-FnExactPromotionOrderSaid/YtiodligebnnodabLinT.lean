/- Toggles, promotion and evacuation in the model. -/
import Derived.Test.YtiodligebnnodabLinS
import Derived.Deep.RegionHeld3
namespace Go.Proofs.Ytiodligebnnodab
open Go.RowKit Go.WideShapes Go.ChangeShapes
set_option linter.unusedVariables false

theorem liLess_any (v : Value) (xs : List Int) (x y : Nat) (w0 w : World) (hv : Ints w0 v xs) (hb : Below w0.heap.size w0 w) (hg : good xs = true) (hx : x < xs.length) (hy : y < xs.length) :
    Calls Try.prog 59 #[.agg #[v], .int .i64 x, .int .i64 y] w fun r w' => r = .returned (.bool ((row xs y).testBit x)) ∧ Below w0.heap.size w0 w' := by
  have HB0 := hid hb
  have hl10 := (good_length hg).2
  replace hv := hv.below hb
  obtain ⟨A, c, rfl, hA⟩ := hv
  obtain ⟨b, o, rfl, hbl, hc⟩ := hA (by intro h; simp [h] at hy)
  have hcell := hc y hy
  have hr := row_lt hg hy
  have hr10 := row_lt10 hg hy
  obtain ⟨z, hz⟩ : ∃ z, row xs y = z := ⟨_, rfl⟩
  rw [hz] at hr hr10 ⊢
  rw [hr.1] at hcell
  clear hc hA hz hr hg hb
  go_enter Try.func59, Try.ntmps59
  have HB := hid (below_alloc (Below.refl _ w) (.cells #[(.slice (some ⟨b, o, none⟩) xs.length c)] 28))
  have A0 := hid (At.newAt w (.slice (some ⟨b, o, none⟩) xs.length c) 28 w.heap.size (by simp))
  have ebox0 := A0.out.1
  have hcell2 := (HB.out.cell (p := ⟨b, o + y, none⟩) hbl).trans hcell
  go_wp2_with (go_at_call 58; refine (poIn_any z x (by omega) _).mono ?_; rintro e' w2 ⟨rfl, rfl⟩)
  go_ret
  exact ⟨rfl, below_to HB0.out HB.out⟩
set_option maxHeartbeats 1600000 in
theorem liToggle_any (v u : Value) (xs ws : List Int) (i : Nat) (w : World) (hv : Ints w v xs) (hu : Ints w u ws) (hg : good xs = true) (hw : Lw xs.length ws) (hi : i + 1 < xs.length) :
    Calls Try.prog 42 #[.agg #[v], u, .int .i64 i] w fun (r : Ending) w' => ∃ q, r = Ending.returned q ∧ OwnI 3 w' w.heap.size q (togL xs ws i) ∧ Below w.heap.size w w' := by
  have HV := hid hv
  have HU := hid hu
  have HG := hid hg
  have HW := hid hw
  have hl10 := (good_length hg).2
  have hwl : ws.length = xs.length := hw.len
  have hx := hw.at (show i < xs.length by omega)
  have hy := hw.at hi
  obtain ⟨A, c, rfl, hA⟩ := hu
  obtain ⟨b, o, rfl, hbl, hc⟩ := hA (by intro h; simp [h] at hwl; omega)
  have hcx := hc i (by omega)
  have hcy := hc (i + 1) (by omega)
  obtain ⟨x, hxe⟩ := Int.eq_ofNat_of_zero_le hx.1
  obtain ⟨y, hye⟩ := Int.eq_ofNat_of_zero_le hy.1
  rw [hxe] at hcx hx
  rw [hye] at hcy hy
  have hx2 : x < xs.length := by omega
  have hy2 : y < xs.length := by omega
  obtain ⟨m, hm⟩ : ∃ m, i + 1 = m := ⟨_, rfl⟩
  have hmi : (i : Int) + 1 = (m : Int) := by omega
  rw [hm] at hcy hye hi
  have HT : Hid (∀ R, (row xs y).testBit x = R → togL xs ws i = if R = true then ws else (ws.set i (y : Int)).set m (x : Int)) := hid (by
    intro R hR
    unfold togL
    rw [hm, hxe, hye, Int.toNat_natCast, Int.toNat_natCast, hR]
    unfold swapL
    rw [hm, hxe, hye])
  have HC1 := hid hcx
  have HC2 := hid hcy
  obtain ⟨R, hR⟩ : ∃ R, (row xs y).testBit x = R := ⟨_, rfl⟩
  have HR := hid hR
  have HTT := hid (HT.out R hR)
  have HWL := hid hwl
  have hil : i < ws.length := by omega
  have hml : m < ws.length := by omega
  have hw48 : ws.length ≤ 1048576 := by omega
  clear hA hc hg hw hx hy hxe hye hR HT hv hcx hcy hwl
  go_enter Try.func42, Try.ntmps42
  have HB := hid (below_alloc (Below.refl _ w) (.cells #[v] 28))
  have A0 := hid (At.newAt w v 28 w.heap.size (by simp))
  go_wp2_with fail
  refine (l1OwnL_any _ ws _ (HU.out.below HB.out) hw48).mono ?_
  rintro e w' ⟨q, rfl, ho, hb⟩
  replace HB := hid (below_to HB.out hb)
  replace A0 := hid (A0.out.below hb)
  clear hb
  have hz := HB.out.size
  have HZ2 : Hid (w.heap.size + 1 ≤ w'.heap.size) := hid A0.out.2
  have HO := hid (ho.mono (show w.heap.size ≤ (w.alloc (.cells #[v] 28)).heap.size by simp))
  obtain ⟨qA, qc, rfl, hqA⟩ := ho.shape
  obtain ⟨g, rfl, hgl, hgB⟩ := hqA (by intro h; simp [h] at hil)
  clear ho hqA
  have HSW := hid (show SW w w.heap.size v w' from ⟨A0.out, HB.out⟩)
  have hbx := A0.out.1
  have hcx := (HB.out.cell (p := ⟨b, o + i, none⟩) hbl).trans HC1.out
  have hcy := (HB.out.cell (p := ⟨b, o + m, none⟩) hbl).trans HC2.out
  have hil' : (i : Int) < ws.length := by omega
  have hml' : (m : Int) < ws.length := by omega
  have hm0 : m < 11 := by omega
  have HMI := hid hmi
  have HI2 := hid hi
  clear hi hm
  have wm1 : IntKind.i64.wrap ((i : Int) + 1) = (m : Int) := by rw [hmi]; exact IntWalk.i64_in _ (by omega)
  have wm2 : IntKind.i64.wrap (m : Int) = (m : Int) := IntWalk.i64_in _ (by omega)
  go_wp2_with fail
  go_region_held3 (fun W => W.cell? ⟨w.heap.size, 0, none⟩ = some v ∧ W.cell? ⟨b, o + i, none⟩ = some (.int .i64 x) ∧ W.cell? ⟨b, o + m, none⟩ = some (.int .i64 y) ∧ Hid (Below w'.heap.size w' W)) (first | exact ⟨HSW.out.drew.at_.1, (HSW.out.drew.below.cell (p := ⟨b, o + i, none⟩) hbl).trans HC1.out, (HSW.out.drew.below.cell (p := ⟨b, o + m, none⟩) hbl).trans HC2.out, hid (Below.refl _ _).drew⟩ | exact ⟨(A0.out.below HS2.out).1, ((below_to HB.out HS2.out).cell (p := ⟨b, o + i, none⟩) hbl).trans HC1.out, ((below_to HB.out HS2.out).cell (p := ⟨b, o + m, none⟩) hbl).trans HC2.out, HS2⟩) (first | (go_at_call 59; refine (liLess_any v xs x y w' _ (HV.out.below HB.out) (Hid.out (by first | assumption | exact hid (Below.refl _ _).drew)) HG.out hx2 hy2).mono ?_; rw [HR.out]; rintro e' w4 ⟨rfl, hs4⟩; have HS2 := hid hs4; clear hs4))
  obtain ⟨hbx4, hcx4, hcy4, -⟩ := ‹_ ∧ _ ∧ _ ∧ Hid (Below w'.heap.size w' w4)›
  have hO4 := HO.out.below HS2.out
  have HO4 := hid hO4
  cases R
  · have HTF : Hid (togL xs ws i = (ws.set i (y : Int)).set m (x : Int)) := hid (by have := HTT.out; simpa using this)
    have hO4' : w4.ownsRow w.heap.size 3 1 (.slice (some ⟨g, 0, none⟩) ws.length qc) ws.length (ws.map (Value.int .i64)) := hO4
    have hg1 := hO4'.cellAt i (by omega)
    have hg2 := hO4'.cellAt m (by omega)
    rw [List.getElem?_map, getD_eq ws i hil] at hg1
    rw [List.getElem?_map, getD_eq ws m hml] at hg2
    simp only [Option.map_some] at hg1 hg2
    have hf1 := hO4'.frozenAt i
    have hf2 := hO4'.frozenAt m
    have hne : b ≠ g := by
      have : w.heap.size ≤ g := by simp at hgB; omega
      omega
    have him : i ≠ m := by omega
    have hsx : (w4.setCell ⟨g, i, none⟩ (.int .i64 (y : Int))).cell? ⟨b, o + i, none⟩ = some (.int .i64 (x : Int)) := (World.cell?_of_block (a := ⟨b, o + i, none⟩) (Below.heap_setCell w4 ⟨g, i, none⟩ _ b hne)).trans hcx4
    have hX := hid ((hO4'.stored i (.int .i64 (y : Int))).1)
    have hg2' := hX.out.cellAt m (by omega)
    rw [List.getElem?_set_ne him, List.getElem?_map, getD_eq ws m hml] at hg2'
    simp only [Option.map_some] at hg2'
    have hf2' := hX.out.frozenAt m
    have hY := hid ((hX.out.stored m (.int .i64 (x : Int))).1)
    have HBf := hid (below_to HB.out HS2.out)
    clear hO4 hO4' HTT hcx4 hbx4 hbx hcx hcy
    go_wp2
    go_ret
    refine ⟨_, rfl, ?_, ?_⟩
    · rw [HTF.out]
      have h := hY.out
      rw [← List.map_set, ← List.map_set] at h
      unfold OwnI
      simpa using h
    · have h0 : w.heap.size ≤ g := by simp at hgB; omega
      exact (HBf.out.setCell (p := ⟨g, i, none⟩) h0 _).setCell (p := ⟨g, m, none⟩) h0 _
  · have HTF : Hid (togL xs ws i = ws) := hid (by have := HTT.out; simpa using this)
    clear hO4 HTT
    go_wp2
    go_ret
    exact ⟨_, rfl, by rw [HTF.out]; exact HO4.out, below_to HB.out HS2.out⟩
end Go.Proofs.Ytiodligebnnodab
