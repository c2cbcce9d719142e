/- Tableaux of linear extensions: the program. -/
import Derived.Test.YtbbkoagjplapkaaTof
namespace Go.Proofs.Ytbbkoagjplapkaa
open Go.RowKit Go.WideShapes Go.ChangeShapes
set_option linter.unusedVariables false

set_option maxRecDepth 100000 in
set_option maxHeartbeats 1600000 in
theorem implTableauOf_any (a b : Int) (u : Value) (ws : List Int) (w : World) (wa : (Lit.int .i64 a).wf = true) (wb : (Lit.int .i64 b).wf = true) (hu : Ints w u ws) (hm : ws.length ≤ 1048576) :
    Calls Try.prog 22 #[.int .i64 a, .int .i64 b, u] w fun (r : Ending) w' => ∃ q, r = Ending.returned (.tuple #[q, .bool (okTO a b ws)]) ∧ OwnSS 3 27 w' w.heap.size w'.heap.size q (ansTO a b ws) ∧ SSmall (ansTO a b ws) ∧ Below w.heap.size w w' := by
  have HU := hid hu
  have HL := hid (ansTO_small a b ws)
  have HRc := hid (fun W => implRectangle_any a b W wa wb)
  obtain ⟨uA, uc, rfl, -⟩ := hu
  clear wa wb
  go_enter Try.func22, Try.ntmps22
  have HB := hid (below_alloc (below_alloc (Below.refl _ w) (.cells #[(.int .i64 b)] 3)) (.cells #[(.slice uA ws.length uc)] 27))
  have A0 := hid ((At.newAt w (.int .i64 b) 3 w.heap.size (by simp)).alloc (.cells #[(.slice uA ws.length uc)] 27))
  have A1 := hid (At.newAt (w.alloc (.cells #[(.int .i64 b)] 3)) (.slice uA ws.length uc) 27 (w.heap.size + 1) (by simp))
  have hbx := A0.out.1
  go_wp2_with fail
  clear hbx
  refine (HRc.out _).mono ?_
  rintro e w1 ⟨p, rfl, hp, -, hb1⟩
  obtain ⟨pA, pc, rfl, -⟩ := hp.shape
  obtain ⟨pn, hpn⟩ : ∃ x, (rectL a b).length = x := ⟨_, rfl⟩
  rw [hpn] at hp ⊢
  have HPn := hid hpn
  have HB1 := hid (below_alloc (below_to HB.out hb1) (.cells #[.slice pA pn pc] 52))
  have A01 := hid ((A0.out.below hb1).alloc (.cells #[.slice pA pn pc] 52))
  have A11 := hid ((A1.out.below hb1).alloc (.cells #[.slice pA pn pc] 52))
  have A81 := hid (At.new w1 (.slice pA pn pc) 52)
  have HP := hid (hp.ints.alloc (.cells #[.slice pA pn pc] 52))
  clear hp hb1 hpn
  cases hs : sides a b
  · have HO := hid (okTO_no1 (ws := ws) hs)
    clear hs
    go_wp2
    go_ret2
    exact ⟨_, ret_vbT HO.out.symm, by rw [ansTO_no HO.out]; exact OwnSS.nil _ _ _ _ _, HL.out, HB1.out⟩
  · obtain ⟨x, y, rfl, rfl, h1, h2, h3, h4, h5⟩ := sides_nat hs
    have HS := hid hs
    have HGood : Hid (good (rectL (x : Int) (y : Int)) = true) := hid (by rw [rectL_yes hs]; exact rectGood h1 h2 h3 h4 h5)
    have t0 := A01.out.1
    have t1 := A11.out.1
    have t8 := A81.out.1
    clear hs h5
    go_wp2_with fail
    obtain ⟨W1, hW1⟩ : ∃ W1 : World, W1 = w1.alloc (.cells #[.slice pA pn pc] 52) := ⟨_, rfl⟩
    rw [← hW1] at HB1 A01 A11 A81 HP ⊢
    clear hW1 t0 t1 t8
    refine (hasOrder_any _ _ (rectL (x : Int) (y : Int)) ws W1 HP.out (HU.out.below HB1.out) HGood.out hm).mono ?_
    rintro e w2 ⟨rfl, hb2⟩
    have HB2 := hid (below_to HB1.out hb2)
    have A02 := hid (A01.out.below hb2)
    have A12 := hid (A11.out.below hb2)
    clear hb2
    cases hq : orderB (rectL (x : Int) (y : Int)) ws
    · have HO := hid (okTO_no2 hq)
      clear hq
      go_wp2
      go_ret2
      exact ⟨_, ret_vbT HO.out.symm, by rw [ansTO_no HO.out]; exact OwnSS.nil _ _ _ _ _, HL.out, HB2.out⟩
    · have HO := hid (okTO_yes HS.out hq)
      have t0 := A02.out.1
      clear hq
      go_wp2_with fail
      clear t0
      refine (gridOfTableauOf_any x y _ _ _ _ (tofClo _ _ _ ws x y _ A12.out A02.out (HU.out.below HB2.out) hm h2 h4) h1 h2 h3 h4).mono ?_
      rintro e w3 ⟨q, rfl, ho, hb⟩
      have HOw := hid (ho.monoG HB2.out.size)
      have HB3 := hid (below_to HB2.out hb)
      obtain ⟨qA, qn, qc, rfl⟩ := ho.shape3
      clear ho hb
      go_wp2
      go_ret2
      exact ⟨_, ret_vbT HO.out.symm, by rw [ansTO_yes HO.out]; exact HOw.out, HL.out, HB3.out⟩
end Go.Proofs.Ytbbkoagjplapkaa
