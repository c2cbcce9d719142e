/- PromotionFixed: both sides. -/
import Derived.Test.YtnlehkjfidpdlabRet
import Derived.Test.YtnlehkjfidpdlabSvW
import Derived.Test.YtnlehkjfidpdlabTabS
import Derived.Test.YtnlehkjfidpdlabRect
namespace Go.Proofs.Ytnlehkjfidpdlab
open Go.RowKit Go.WideShapes Go.ChangeShapes
set_option linter.unusedVariables false

def okPF (a b d : Int) : Bool := (sides a b && stB d) && okCR (rectL a b) d
def ansPF (a b d : Int) : Int := if sides a b && stB d then ansCR (rectL a b) d else 0
theorem okPF_no1 {a b d : Int} (h : sides a b = false) : okPF a b d = false := by simp [okPF, h]
theorem okPF_no2 {a b d : Int} (h : stB d = false) : okPF a b d = false := by simp [okPF, h]
theorem okPF_yes {a b d : Int} (h : sides a b = true) (k : stB d = true) : okPF a b d = okCR (rectL a b) d := by simp [okPF, h, k]
theorem ansPF_no1 {a b d : Int} (h : sides a b = false) : ansPF a b d = 0 := by simp [ansPF, h]
theorem ansPF_no2 {a b d : Int} (h : stB d = false) : ansPF a b d = 0 := by simp [ansPF, h]
theorem ansPF_yes {a b d : Int} (h : sides a b = true) (k : stB d = true) : ansPF a b d = ansCR (rectL a b) d := by simp [ansPF, h, k]
set_option maxHeartbeats 800000 in
theorem implPromotionFixed_any (a b d : Int) (w : World) (wa : (Lit.int .i64 a).wf = true) (wb : (Lit.int .i64 b).wf = true) (wd : (Lit.int .i64 d).wf = true) :
    Calls Try.prog 11 #[.int .i64 a, .int .i64 b, .int .i64 d] w fun r w' => r = .returned (.tuple #[.int .i64 (ansPF a b d), .bool (okPF a b d)]) ∧ Below w.heap.size w w' := by
  have HR := hid (implRectangle_any a b w wa wb)
  have HSt := hid (fun W => areSteps_any d W)
  cases hs : sides a b
  · have HO := hid (okPF_no1 (d := d) hs)
    have HN := hid (ansPF_no1 (d := d) hs)
    rw [hs] at HR
    clear hs wa wb wd
    go_enter Try.func11, Try.ntmps11
    go_wp2_with fail
    refine HR.out.mono ?_
    rintro e w1 ⟨p, rfl, hp, -, hb⟩
    obtain ⟨pA, pn, pc, rfl⟩ := hp.shape3
    have HB := hid (below_alloc hb (.cells #[.slice pA pn pc] 35))
    clear hp hb
    go_wp2
    go_ret2
    exact ⟨ret_ib HN.out.symm HO.out.symm, HB.out⟩
  · cases hd : stB d
    · have HO := hid (okPF_no2 (a := a) (b := b) hd)
      have HN := hid (ansPF_no2 (a := a) (b := b) hd)
      rw [hs] at HR
      rw [hd] at HSt
      clear hs hd wa wb wd
      go_enter Try.func11, Try.ntmps11
      go_wp2_with fail
      refine HR.out.mono ?_
      rintro e w1 ⟨p, rfl, hp, -, hb⟩
      obtain ⟨pA, pn, pc, rfl⟩ := hp.shape3
      have HB := hid (below_alloc hb (.cells #[.slice pA pn pc] 35))
      clear hp hb
      go_wp2_with fail
      refine (HSt.out _).mono ?_
      rintro e w2 ⟨rfl, rfl⟩
      go_wp2
      go_ret2
      exact ⟨ret_ib HN.out.symm HO.out.symm, HB.out⟩
    · have HO := hid (okPF_yes hs hd)
      have HN := hid (ansPF_yes hs hd)
      have HFi := hid (fun v W (hW : Ints W v (rectL a b)) => implCountReturned_any v (rectL a b) d W hW (rectL_length _ _) wd)
      rw [hs] at HR
      rw [hd] at HSt
      clear hs hd wa wb wd
      go_enter Try.func11, Try.ntmps11
      go_wp2_with fail
      refine HR.out.mono ?_
      rintro e w1 ⟨p, rfl, hp, -, hb⟩
      obtain ⟨pA, pn, pc, rfl⟩ := hp.shape3
      have HB := hid (below_alloc hb (.cells #[.slice pA pn pc] 35))
      have HP := hid (hp.ints.alloc (.cells #[.slice pA pn pc] 35))
      have A4 := hid (At.new w1 (.slice pA pn pc) 35)
      obtain ⟨W1, hW1⟩ : ∃ W1 : World, W1 = w1.alloc (.cells #[.slice pA pn pc] 35) := ⟨_, rfl⟩
      rw [← hW1] at HB HP A4
      have t0 := A4.out.1
      rw [hW1] at t0
      clear hp hb
      go_wp2_with fail
      rw [← hW1]
      clear hW1 t0
      refine (HSt.out _).mono ?_
      rintro e w2 ⟨rfl, rfl⟩
      have t0 := A4.out.1
      go_wp2_with fail
      clear t0
      refine (HFi.out _ _ HP.out).mono ?_
      rintro e w2 ⟨rfl, hb⟩
      have HB2 := hid (below_to HB.out hb)
      clear hb
      go_wp2
      go_ret2
      exact ⟨ret_ib HN.out.symm HO.out.symm, HB2.out⟩
set_option maxHeartbeats 800000 in
theorem specPromotionFixed_any (a b d : Int) (w : World) (wa : (Lit.int .i64 a).wf = true) (wb : (Lit.int .i64 b).wf = true) (wd : (Lit.int .i64 d).wf = true) :
    Calls Try.prog 10 #[.int .i64 a, .int .i64 b, .int .i64 d] w fun r w' => r = .returned (.tuple #[.int .i64 (ansPF a b d), .bool (okPF a b d)]) ∧ Below w.heap.size w w' := by
  have HS := hid (fun W => shSides_any a b W)
  have HSt := hid (fun W => svTurn_any d W)
  clear wa wb
  cases hs : sides a b
  · have HO := hid (okPF_no1 (d := d) hs)
    have HN := hid (ansPF_no1 (d := d) hs)
    rw [hs] at HS
    clear hs wd
    go_enter Try.func10, Try.ntmps10
    go_wp2_with fail
    refine (HS.out _).mono ?_
    rintro e w1 ⟨rfl, rfl⟩
    go_wp2
    go_ret2
    exact ⟨ret_ib HN.out.symm HO.out.symm, Below.refl _ _⟩
  · cases hd : stB d
    · have HO := hid (okPF_no2 (a := a) (b := b) hd)
      have HN := hid (ansPF_no2 (a := a) (b := b) hd)
      rw [hs] at HS
      rw [hd] at HSt
      clear hs hd wd
      go_enter Try.func10, Try.ntmps10
      go_wp2_with fail
      refine (HS.out _).mono ?_
      rintro e w1 ⟨rfl, rfl⟩
      go_wp2_with fail
      refine (HSt.out _).mono ?_
      rintro e w1 ⟨rfl, rfl⟩
      go_wp2
      go_ret2
      exact ⟨ret_ib HN.out.symm HO.out.symm, Below.refl _ _⟩
    · have HO := hid (okPF_yes hs hd)
      have HN := hid (ansPF_yes hs hd)
      have HFi := hid (fun v W (hW : Ints W v (rectL a b)) => specCountReturned_any v (rectL a b) d W hW (rectL_length _ _) wd)
      obtain ⟨x, y, rfl, rfl, h1, h2, h3, h4, h5⟩ := sides_nat hs
      have HPo := hid (poRectangle_any x y · h1 h2 h3 h4 h5)
      rw [← rectL_yes hs] at HPo
      rw [hs] at HS
      rw [hd] at HSt
      clear hs hd wd
      go_enter Try.func10, Try.ntmps10
      go_wp2_with fail
      refine (HS.out _).mono ?_
      rintro e w1 ⟨rfl, rfl⟩
      go_wp2_with fail
      refine (HSt.out _).mono ?_
      rintro e w1 ⟨rfl, rfl⟩
      go_wp2_with fail
      refine (HPo.out _).mono ?_
      rintro e w1 ⟨p, rfl, hp, hb⟩
      have HP := hid hp.ints
      have HB := hid hb
      clear hp hb
      go_wp2_with fail
      refine (HFi.out _ _ HP.out).mono ?_
      rintro e w2 ⟨rfl, hb⟩
      have HB2 := hid (below_to HB.out hb)
      clear hb
      go_wp2
      go_ret2
      exact ⟨ret_ib HN.out.symm HO.out.symm, HB2.out⟩
end Go.Proofs.Ytnlehkjfidpdlab
