/- Hooks, of both sides. -/
import Derived.Test.YtnlehkjfidpdlaaTabS
import Derived.Test.YtnlehkjfidpdlaaRect
namespace Go.Proofs.Ytnlehkjfidpdlaa
open Go.RowKit Go.WideShapes Go.ChangeShapes
set_option linter.unusedVariables false

theorem ret_ibH {x y : Int} {a b : Bool} (e : x = y) (h : a = b) : Ending.returned (.tuple #[.int .i64 x, .bool a]) = .returned (.tuple #[.int .i64 y, .bool b]) := by rw [e, h]
def okHK (a b r c : Int) : Bool := sides a b && ((decide (0 ≤ r) && decide (r ≤ a - 1)) && (decide (0 ≤ c) && decide (c ≤ b - 1)))
def ansHK (a b r c : Int) : Int := if okHK a b r c then a - r + b - c - 1 else 0
theorem okHK_no1 {a b r c : Int} (h : sides a b = false) : okHK a b r c = false := by simp [okHK, h]
theorem okHK_no2 {a b r c : Int} (h : (decide (0 ≤ r) && decide (r ≤ a - 1)) = false) : okHK a b r c = false := by simp only [okHK, h]; simp
theorem okHK_no3 {a b r c : Int} (h : (decide (0 ≤ c) && decide (c ≤ b - 1)) = false) : okHK a b r c = false := by simp only [okHK, h]; simp
theorem okHK_yes {a b r c : Int} (h : sides a b = true) (k : (decide (0 ≤ r) && decide (r ≤ a - 1)) = true) (l : (decide (0 ≤ c) && decide (c ≤ b - 1)) = true) : okHK a b r c = true := by simp only [okHK, h, k, l]; rfl
theorem ansHK_no {a b r c : Int} (h : okHK a b r c = false) : ansHK a b r c = 0 := by simp [ansHK, h]
theorem ansHK_yes {a b r c : Int} (h : okHK a b r c = true) : ansHK a b r c = a - r + b - c - 1 := by simp [ansHK, h]
set_option maxHeartbeats 1600000 in
theorem implHookOf_any (a b r c : Int) (w : World) (wa : (Lit.int .i64 a).wf = true) (wb : (Lit.int .i64 b).wf = true) (wr : (Lit.int .i64 r).wf = true) (wc : (Lit.int .i64 c).wf = true) :
    Calls Try.prog 33 #[.int .i64 a, .int .i64 b, .int .i64 r, .int .i64 c] w fun res w' => res = .returned (.tuple #[.int .i64 (ansHK a b r c), .bool (okHK a b r c)]) ∧ Below w.heap.size w w' := by
  have HRc := hid (implRectangle_any a b w wa wb)
  clear wa wb wr wc
  cases hs : sides a b
  · have HO := hid (okHK_no1 (r := r) (c := c) hs)
    rw [hs] at HRc
    clear hs
    go_enter Try.func33, Try.ntmps33
    go_wp2_with fail
    refine HRc.out.mono ?_
    rintro e w1 ⟨p, rfl, hp, -, hb⟩
    obtain ⟨pA, pn, pc, rfl⟩ := hp.shape3
    have HB := hid (below_alloc hb (.cells #[.slice pA pn pc] 41))
    clear hp hb
    go_wp2
    go_ret2
    exact ⟨ret_ibH (ansHK_no HO.out).symm HO.out.symm, HB.out⟩
  · obtain ⟨x, y, rfl, rfl, h1, h2, h3, h4, h5⟩ := sides_nat hs
    have HSd := hid hs
    rw [hs] at HRc
    clear hs h5
    by_cases r0 : r < 0
    · have HO := hid (okHK_no2 (a := x) (b := y) (r := r) (c := c) (by rw [decide_eq_false (by omega)]; rfl))
      have d0 : decide (r < 0) = true := by simpa using r0
      go_enter Try.func33, Try.ntmps33
      go_wp2_with fail
      refine HRc.out.mono ?_
      rintro e w1 ⟨p, rfl, hp, -, hb⟩
      obtain ⟨pA, pn, pc, rfl⟩ := hp.shape3
      have HB := hid (below_alloc hb (.cells #[.slice pA pn pc] 41))
      clear hp hb
      go_wp2
      go_ret2
      exact ⟨ret_ibH (ansHK_no HO.out).symm HO.out.symm, HB.out⟩
    have d0 : decide (r < 0) = false := by simpa using r0
    by_cases r1 : (x : Int) ≤ r
    · have HO := hid (okHK_no2 (a := x) (b := y) (r := r) (c := c) (by rw [decide_eq_false (show ¬ r ≤ (x : Int) - 1 by omega), Bool.and_false]))
      have d1 : decide ((x : Int) ≤ r) = true := by simpa using r1
      go_enter Try.func33, Try.ntmps33
      go_wp2_with fail
      refine HRc.out.mono ?_
      rintro e w1 ⟨p, rfl, hp, -, hb⟩
      obtain ⟨pA, pn, pc, rfl⟩ := hp.shape3
      have HB := hid (below_alloc hb (.cells #[.slice pA pn pc] 41))
      clear hp hb
      go_wp2
      go_ret2
      exact ⟨ret_ibH (ansHK_no HO.out).symm HO.out.symm, HB.out⟩
    have d1 : decide ((x : Int) ≤ r) = false := by simpa using r1
    by_cases c0 : c < 0
    · have HO := hid (okHK_no3 (a := x) (b := y) (r := r) (c := c) (by rw [decide_eq_false (by omega)]; rfl))
      have d2 : decide (c < 0) = true := by simpa using c0
      go_enter Try.func33, Try.ntmps33
      go_wp2_with fail
      refine HRc.out.mono ?_
      rintro e w1 ⟨p, rfl, hp, -, hb⟩
      obtain ⟨pA, pn, pc, rfl⟩ := hp.shape3
      have HB := hid (below_alloc hb (.cells #[.slice pA pn pc] 41))
      clear hp hb
      go_wp2
      go_ret2
      exact ⟨ret_ibH (ansHK_no HO.out).symm HO.out.symm, HB.out⟩
    have d2 : decide (c < 0) = false := by simpa using c0
    by_cases c1 : (y : Int) ≤ c
    · have HO := hid (okHK_no3 (a := x) (b := y) (r := r) (c := c) (by rw [decide_eq_false (show ¬ c ≤ (y : Int) - 1 by omega), Bool.and_false]))
      have d3 : decide ((y : Int) ≤ c) = true := by simpa using c1
      go_enter Try.func33, Try.ntmps33
      go_wp2_with fail
      refine HRc.out.mono ?_
      rintro e w1 ⟨p, rfl, hp, -, hb⟩
      obtain ⟨pA, pn, pc, rfl⟩ := hp.shape3
      have HB := hid (below_alloc hb (.cells #[.slice pA pn pc] 41))
      clear hp hb
      go_wp2
      go_ret2
      exact ⟨ret_ibH (ansHK_no HO.out).symm HO.out.symm, HB.out⟩
    have d3 : decide ((y : Int) ≤ c) = false := by simpa using c1
    have HO := hid (okHK_yes (r := r) (c := c) HSd.out (by simp; omega) (by simp; omega))
    have HA := hid (ansHK_yes HO.out)
    go_enter Try.func33, Try.ntmps33
    go_wp2_with fail
    refine HRc.out.mono ?_
    rintro e w1 ⟨p, rfl, hp, -, hb⟩
    obtain ⟨pA, pn, pc, rfl⟩ := hp.shape3
    have HB := hid (below_alloc hb (.cells #[.slice pA pn pc] 41))
    clear hp hb
    go_wp2
    go_ret2
    exact ⟨ret_ibH HA.out.symm HO.out.symm, HB.out⟩
end Go.Proofs.Ytnlehkjfidpdlaa
