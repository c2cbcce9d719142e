/- The program's closures over a tableau, and tableaux turned and evacuated. -/
import Derived.Test.YtbbkoagjplapkaaGrdOf
namespace Go.Proofs.Ytbbkoagjplapkaa
open Go.RowKit Go.WideShapes Go.ChangeShapes
set_option linter.unusedVariables false

theorem turnClo (p : Nat) (x y : Value) (a b : Nat) (F : Nat → Nat → Int) (W : World) (hB : Blk W p 47 #[x, y]) (hG : GridR W x a b F) :
    FunG 71 #[.pointer (some ⟨p, 0, none⟩)] b a (fun r c => F c r) W := by
  refine ⟨fun w r c hb hr hc => ?_⟩
  show Calls Try.prog 71 #[.int .i64 (r : Int), .int .i64 (c : Int), .pointer (some ⟨p, 0, none⟩)] w fun res w' => res = .returned (.int .i64 (F c r)) ∧ Below w.heap.size w w'
  have t0 := (hB.below hb hB.lt).cell 0
  have HA := hid (at_any x a b c r F w (hG.below hb) hc hr)
  clear hB hG hb
  go_enter Try.func71, Try.ntmps71
  go_wp2_with (go_at_call 66; refine HA.out.mono ?_; rintro e w' ⟨rfl, rfl⟩)
  go_ret
  exact ⟨rfl, Below.refl _ _⟩
theorem promClo (p : Nat) (x y : Value) (a b : Nat) (F : Nat → Nat → Int) (W : World) (hB : Blk W p 47 #[x, y]) (hG : GridR W x a b F) (hF : ∀ r c, r < a → c < b → 0 ≤ F r c ∧ F r c < 10) :
    FunG 65 #[.pointer (some ⟨p, 0, none⟩)] a b (fun r c => F r c - 1) W := by
  refine ⟨fun w r c hb hr hc => ?_⟩
  show Calls Try.prog 65 #[.int .i64 (r : Int), .int .i64 (c : Int), .pointer (some ⟨p, 0, none⟩)] w fun res w' => res = .returned (.int .i64 (F r c - 1)) ∧ Below w.heap.size w w'
  have t0 := (hB.below hb hB.lt).cell 0
  have HA := hid (at_any x a b r c F w (hG.below hb) hr hc)
  have hf := hF r c hr hc
  obtain ⟨z, hz⟩ : ∃ z, F r c = z := ⟨_, rfl⟩
  rw [hz] at HA hf
  rw [hz]
  clear hB hG hb hz hF
  go_enter Try.func65, Try.ntmps65
  go_wp2_with (go_at_call 66; refine HA.out.mono ?_; rintro e w' ⟨rfl, rfl⟩)
  go_ret
  exact ⟨rfl, Below.refl _ _⟩
set_option maxHeartbeats 800000 in
theorem evacClo (p1 p2 p3 : Nat) (x y : Value) (a b n : Nat) (F : Nat → Nat → Int) (W : World) (h1 : At W p1 (.int .i64 (a : Int))) (h2 : At W p2 (.int .i64 (b : Int))) (hB : Blk W p3 47 #[x, y]) (hG : GridR W x a b F)
    (hn : a * b = n) (hn10 : n ≤ 10) (ha : a ≤ 10) (hb' : b ≤ 10) (hF : ∀ r c, r < a → c < b → 0 ≤ F r c ∧ F r c < n) :
    FunG 70 #[.pointer (some ⟨p1, 0, none⟩), .pointer (some ⟨p2, 0, none⟩), .pointer (some ⟨p3, 0, none⟩)] a b (fun r c => (n : Int) - 1 - F (a - 1 - r) (b - 1 - c)) W := by
  refine ⟨fun w r c hb hr hc => ?_⟩
  show Calls Try.prog 70 #[.int .i64 (r : Int), .int .i64 (c : Int), .pointer (some ⟨p1, 0, none⟩), .pointer (some ⟨p2, 0, none⟩), .pointer (some ⟨p3, 0, none⟩)] w fun res w' => res = .returned (.int .i64 ((n : Int) - 1 - F (a - 1 - r) (b - 1 - c))) ∧ Below w.heap.size w w'
  have t0 := (hB.below hb hB.lt).cell 0
  have t1 := (h1.below hb).1
  have t2 := (h2.below hb).1
  have e1 : (a : Int) * (b : Int) = (n : Int) := by rw [← Int.natCast_mul, hn]
  obtain ⟨p, hp⟩ : ∃ p, a - 1 - r = p := ⟨_, rfl⟩
  obtain ⟨q, hq⟩ : ∃ q, b - 1 - c = q := ⟨_, rfl⟩
  have HA := hid (fun W' (hW : Below w.heap.size w W') => at_any x a b p q F W' ((hG.below hb).below hW) (by omega) (by omega))
  have hf := hF p q (by omega) (by omega)
  obtain ⟨z, hz⟩ : ∃ z, F p q = z := ⟨_, rfl⟩
  rw [hz] at HA hf
  rw [hp, hq, hz]
  have g1 : (a : Int) - 1 - (r : Int) = (p : Int) := by omega
  have g2 : (b : Int) - 1 - (c : Int) = (q : Int) := by omega
  have v1 : IntKind.i64.wrap (n : Int) = (n : Int) := IntWalk.i64_in _ (by omega)
  have v2 : IntKind.i64.wrap ((n : Int) - 1) = (n : Int) - 1 := IntWalk.i64_in _ (by omega)
  have v3 : IntKind.i64.wrap ((a : Int) - 1) = (a : Int) - 1 := IntWalk.i64_in _ (by omega)
  have v4 : IntKind.i64.wrap ((b : Int) - 1) = (b : Int) - 1 := IntWalk.i64_in _ (by omega)
  have v5 : IntKind.i64.wrap (p : Int) = (p : Int) := IntWalk.i64_in _ (by omega)
  have v6 : IntKind.i64.wrap (q : Int) = (q : Int) := IntWalk.i64_in _ (by omega)
  have v7 : IntKind.i64.wrap ((n : Int) - 1 - z) = (n : Int) - 1 - z := IntWalk.i64_in _ (by omega)
  clear hB hG hb hz hF h1 h2 hp hq hn
  go_enter Try.func70, Try.ntmps70
  go_wp2
  go_quiet ((go_at_call 66; exact Calls.quiet_of_same ((HA.out _ (by first | exact Below.refl _ _ | exact below_drewN (Below.refl _ _) _)).mono fun _ _ ⟨a, b⟩ => ⟨a, b.symm⟩)))
  go_wp2
  go_ret
  exact ⟨ret_int (by omega), below_drewN (Below.refl _ _) _⟩

/-! ### the answers -/
def turnL (ls : List (List Int)) : List (List Int) := gridL (wid ls) ls.length fun r c => cel ls c r
def evaT (ls : List (List Int)) : List (List Int) := gridL ls.length (wid ls) fun r c => ((ls.length * wid ls : Nat) : Int) - 1 - cel ls (ls.length - 1 - r) (wid ls - 1 - c)
def ansTU (ls : List (List Int)) : List (List Int) := if tabB ls then turnL ls else []
def ansEV (ls : List (List Int)) : List (List Int) := if tabB ls then evaT ls else []
theorem ansTU_no {ls : List (List Int)} (h : tabB ls = false) : ansTU ls = [] := by simp [ansTU, h]
theorem ansTU_yes {ls : List (List Int)} (h : tabB ls = true) : ansTU ls = turnL ls := by simp [ansTU, h]
theorem ansEV_no {ls : List (List Int)} (h : tabB ls = false) : ansEV ls = [] := by simp [ansEV, h]
theorem ansEV_yes {ls : List (List Int)} (h : tabB ls = true) : ansEV ls = evaT ls := by simp [ansEV, h]
theorem nil_small : SSmall ([] : List (List Int)) := ⟨by simp, by simp, by simp [offL]⟩
theorem ansTU_small (ls : List (List Int)) : SSmall (ansTU ls) := by
  cases h : tabB ls
  · rw [ansTU_no h]; exact nil_small
  · rw [ansTU_yes h]; have := (tabB_all h).1; exact gridL_small _ this.b2 this.a2
theorem ansEV_small (ls : List (List Int)) : SSmall (ansEV ls) := by
  cases h : tabB ls
  · rw [ansEV_no h]; exact nil_small
  · rw [ansEV_yes h]; have := (tabB_all h).1; exact gridL_small _ this.a2 this.b2
theorem cel_rng {ls : List (List Int)} (h : tabB ls = true) {r c : Nat} (hr : r < ls.length) (hc : c < wid ls) : 0 ≤ cel ls r c ∧ cel ls r c < (ls.length * wid ls : Nat) := by
  have h1 := (tabB_all h).2.rng (wid ls * r + c) (cell_lt hr hc)
  rw [celF_at ls hc] at h1
  exact h1
end Go.Proofs.Ytbbkoagjplapkaa
