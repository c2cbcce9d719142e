/- The program's tableaux: linear extensions, words, descents. -/
import Derived.Test.YtbbkoagjplapkaaTabI
namespace Go.Proofs.Ytbbkoagjplapkaa
open Go.RowKit Go.WideShapes Go.ChangeShapes
set_option linter.unusedVariables false

theorem height_any (x : Value) (a b : Nat) (F : Nat → Nat → Int) (w : World) (h : GridR w x a b F) :
    Calls Try.prog 63 #[x] w fun r w' => r = .returned (.int .i64 (a : Int)) ∧ w = w' := by
  obtain ⟨ab, ao, cv, rfl, -, -⟩ := h
  go_enter Try.func63, Try.ntmps63
  go_wp2
  go_ret
  exact ⟨rfl, rfl⟩
theorem width_any (x : Value) (a b : Nat) (F : Nat → Nat → Int) (w : World) (h : GridR w x a b F) (ha : 0 < a) :
    Calls Try.prog 64 #[x] w fun r w' => r = .returned (.int .i64 (b : Int)) ∧ w = w' := by
  obtain ⟨ab, ao, cv, rfl, hl, hr⟩ := h
  obtain ⟨g, o, c, hc, -, -⟩ := hr 0 ha
  rw [Nat.add_zero] at hc
  have hai : (0 : Int) < (a : Int) := by omega
  clear hr
  go_enter Try.func64, Try.ntmps64
  go_wp2
  go_ret
  exact ⟨rfl, rfl⟩
theorem size_any (x : Value) (a b n : Nat) (F : Nat → Nat → Int) (w : World) (h : GridR w x a b F) (ha : 0 < a) (hn : a * b = n) (hn10 : n ≤ 10) :
    Calls Try.prog 68 #[x] w fun r w' => r = .returned (.int .i64 (n : Int)) ∧ w = w' := by
  have H1 := hid (height_any x a b F w h)
  have H2 := hid (width_any x a b F w h ha)
  have e1 : (a : Int) * (b : Int) = (n : Int) := by rw [← Int.natCast_mul, hn]
  clear h hn
  go_enter Try.func68, Try.ntmps68
  go_wp2_with (first | (go_at_call 63; refine H1.out.mono ?_; rintro e w' ⟨rfl, rfl⟩) | (go_at_call 64; refine H2.out.mono ?_; rintro e w' ⟨rfl, rfl⟩))
  go_ret
  exact ⟨rfl, rfl⟩
theorem at_any (x : Value) (a b r c : Nat) (F : Nat → Nat → Int) (w : World) (h : GridR w x a b F) (hr : r < a) (hc : c < b) :
    Calls Try.prog 66 #[x, .int .i64 (r : Int), .int .i64 (c : Int)] w fun res w' => res = .returned (.int .i64 (F r c)) ∧ w = w' := by
  obtain ⟨ab, ao, cv, rfl, hl, hrow⟩ := h
  obtain ⟨g, o, c', hc1, -, hc2⟩ := hrow r hr
  have hc3 := hc2 c hc
  have hai : (r : Int) < (a : Int) := by omega
  have hbi : (c : Int) < (b : Int) := by omega
  clear hrow hc2
  go_enter Try.func66, Try.ntmps66
  go_wp2
  go_ret
  exact ⟨rfl, rfl⟩
theorem implIsTableau_any (v : Value) (ls : List (List Int)) (w : World) (hv : IntsSS w v ls) (hs : SSmall ls) :
    Calls Try.prog 18 #[v] w fun r w' => r = .returned (.bool (tabB ls)) ∧ Below w.heap.size w w' := by
  have HP := hid (tableauIn_any v ls w hv hs)
  clear hv hs
  go_enter Try.func18, Try.ntmps18
  go_wp2_with fail
  refine HP.out.mono ?_
  rintro e w' ⟨xA, xn, xc, y, rfl, hx, ho, hb⟩
  obtain ⟨yA, yn, yc, rfl⟩ := ho.shape3
  have HB := hid hb
  clear hb hx ho
  go_wp2
  trace_state
  go_ret
  exact ⟨rfl, below_alloc HB.out _⟩
end Go.Proofs.Ytbbkoagjplapkaa
