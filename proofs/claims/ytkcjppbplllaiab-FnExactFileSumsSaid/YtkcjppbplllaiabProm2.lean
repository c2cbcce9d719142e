/- PromoteIdeal, PromoteTimes. -/
import Derived.Test.YtkcjppbplllaiabProm
namespace Go.Proofs.Ytkcjppbplllaiab
open Go.RowKit Go.WideShapes Go.ChangeShapes
set_option linter.unusedVariables false

def okPI (a b s : Int) : Bool := sides a b && okIdeal (rectL a b) s
def okPT (a b s k : Int) : Bool := okPI a b s && (decide (0 ≤ k) && decide (k ≤ 1000))
def promF (a b : Int) (s : Nat) : Nat := togW (rectL a b) s (promW a.toNat b.toNat)
def ansPI (a b s : Int) : Int := if okPI a b s then (promF a b s.toNat : Int) else 0
def ansPT (a b s k : Int) : Int := if okPT a b s k then (iter (promF a b) k.toNat s.toNat : Int) else 0
theorem okPI_no1 {a b s : Int} (h : sides a b = false) : okPI a b s = false := by simp [okPI, h]
theorem okPI_no2 {a b s : Int} (h : okIdeal (rectL a b) s = false) : okPI a b s = false := by simp [okPI, h]
theorem okPI_yes {a b s : Int} (h : sides a b = true) (k : okIdeal (rectL a b) s = true) : okPI a b s = true := by simp [okPI, h, k]
theorem okPT_no1 {a b s k : Int} (h : okPI a b s = false) : okPT a b s k = false := by simp [okPT, h]
theorem okPT_no2 {a b s k : Int} (h : (decide (0 ≤ k) && decide (k ≤ 1000)) = false) : okPT a b s k = false := by simp only [okPT, h, Bool.and_false]
theorem okPT_yes {a b s k : Int} (h : okPI a b s = true) (g : (decide (0 ≤ k) && decide (k ≤ 1000)) = true) : okPT a b s k = true := by simp only [okPT, h, g]; rfl
theorem ansPI_no {a b s : Int} (h : okPI a b s = false) : ansPI a b s = 0 := by simp [ansPI, h]
theorem ansPI_yes {a b s : Int} (h : okPI a b s = true) : ansPI a b s = (promF a b s.toNat : Int) := by simp [ansPI, h]
theorem ansPT_no {a b s k : Int} (h : okPT a b s k = false) : ansPT a b s k = 0 := by simp [ansPT, h]
theorem ansPT_yes {a b s k : Int} (h : okPT a b s k = true) : ansPT a b s k = (iter (promF a b) k.toNat s.toNat : Int) := by simp [ansPT, h]
theorem okPT_one (a b s : Int) : okPT a b s 1 = okPI a b s := by simp [okPT]
theorem ansPT_one (a b s : Int) : ansPT a b s 1 = ansPI a b s := by unfold ansPT ansPI; rw [okPT_one]; rfl
/-- all that is known of a rectangle and an ideal of it -/
theorem okPI_all {a b s : Int} (h : okPI a b s = true) : ∃ x y z : Nat, a = x ∧ b = y ∧ s = z ∧ 1 ≤ x ∧ x ≤ 10 ∧ 1 ≤ y ∧ y ≤ 10 ∧ x * y ≤ 10 ∧ rectL a b = whereL (rectF y) (x * y) ∧ z < 2 ^ (x * y) ∧ good (rectL a b) = true ∧ (rectL a b).length = x * y := by
  simp only [okPI, Bool.and_eq_true] at h
  obtain ⟨x, y, rfl, rfl, h1, h2, h3, h4, h5⟩ := sides_nat h.1
  obtain ⟨z, rfl, hg, hz, -⟩ := okIdeal_all h.2
  have hr := rectL_yes h.1
  have hlen : (rectL (x : Int) (y : Int)).length = x * y := by rw [hr, whereL, mkL_length]
  rw [hlen] at hz
  exact ⟨x, y, z, rfl, rfl, rfl, h1, h2, h3, h4, h5, hr, hz, hg, hlen⟩
theorem tgRectangle_any (a b s : Int) (w : World) (wa : (Lit.int .i64 a).wf = true) (wb : (Lit.int .i64 b).wf = true) :
    Calls Try.prog 77 #[.int .i64 a, .int .i64 b, .int .i64 s] w fun r w' => r = .returned (.bool (okPI a b s)) ∧ Below w.heap.size w w' := by
  cases hs : sides a b
  · have HO := hid (okPI_no1 (s := s) hs)
    have HP := hid (poSides_any a b w wa wb)
    rw [hs] at HP
    clear hs wa wb
    go_enter Try.func77, Try.ntmps77
    go_wp2_with fail
    refine HP.out.mono ?_
    rintro e w' ⟨rfl, rfl⟩
    go_wp2
    go_ret
    exact ⟨ret_bool HO.out.symm, Below.refl _ _⟩
  · obtain ⟨x, y, rfl, rfl, h1, h2, h3, h4, h5⟩ := sides_nat hs
    have HL := hid (rectL_length (x : Int) (y : Int))
    have HP := hid (poSides_any (x : Int) (y : Int) w wa wb)
    have HR := hid (poRectangle_any x y w h1 h2 h3 h4 h5)
    have HE := hid (rectL_yes hs)
    rw [hs] at HP
    rw [← HE.out] at HR
    have HOk : Hid (okPI (x : Int) (y : Int) s = okIdeal (rectL (x : Int) (y : Int)) s) := hid (by simp [okPI, hs])
    obtain ⟨xs, hx⟩ : ∃ xs, rectL (x : Int) (y : Int) = xs := ⟨_, rfl⟩
    rw [hx] at HL HR HOk
    clear hs wa wb hx HE
    go_enter Try.func77, Try.ntmps77
    go_wp2_with fail
    refine HP.out.mono ?_
    rintro e w' ⟨rfl, rfl⟩
    go_wp2_with fail
    refine HR.out.mono ?_
    rintro e w1 ⟨u, rfl, ho, hb⟩
    have HB := hid hb
    have HI := hid ho.ints
    clear hb ho
    go_wp2_with fail
    refine (tgIn_any _ xs s _ HI.out HL.out).mono ?_
    rintro e w2 ⟨rfl, hb⟩
    have HB2 := hid (below_to HB.out hb)
    clear hb
    go_wp2
    go_ret
    exact ⟨ret_bool HOk.out.symm, HB2.out⟩
end Go.Proofs.Ytkcjppbplllaiab
