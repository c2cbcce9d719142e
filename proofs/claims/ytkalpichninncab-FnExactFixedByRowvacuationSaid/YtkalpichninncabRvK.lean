/- Rowmotion by ranks, rowvacuation, gyration in the program. (by genrvk.py) -/
import Derived.Test.YtkalpichninncabRvJ
import Derived.Test.YtkalpichninncabRvU
import Derived.Test.YtkalpichninncabSvW
namespace Go.Proofs.Ytkalpichninncab
open Go.RowKit Go.WideShapes Go.ChangeShapes
set_option linter.unusedVariables false

theorem rank_small {xs : List Int} (hg : good xs = true) : ∀ i, i < (rankL xs).length → ∃ r : Nat, (rankL xs).getD i 0 = (r : Int) ∧ r < 1024 := by
  intro i hi
  rw [rankL_length] at hi
  obtain ⟨r, h1, _, h2, _⟩ := rank_facts hg hi
  exact ⟨r, h1, h2⟩
theorem tgAt_SR (v u : Value) (xs rs ws : List Int) (w0 : World) (b : Nat) (W : World) (hv : Ints w0 v rs) (hu : Ints w0 u ws) (hw : inW rs.length ws = true) (hm : ws.length ≤ 100) (hr10 : rs.length ≤ 10) (hr : ∀ i, i < rs.length → ∃ r : Nat, rs.getD i 0 = (r : Int) ∧ r < 1024) (vp : Value) (hS : SR w0 b vp W) :
    Calls Try.prog 39 #[v, u] W fun (r : Ending) w' => ∃ q, r = Ending.returned q ∧ Ints w' q (rkW rs ws) ∧ SR w0 b vp w' :=
  (togglesAt_any v u rs ws W (hv.below hS.below) (hu.below hS.below) hw hm hr10 hr).mono fun _ _ ⟨q, h1, h2, h3⟩ => ⟨q, h1, h2.ints, hS.to h3⟩
theorem step_SR (v u : Value) (xs ys : List Int) (w0 : World) (b s : Nat) (W : World) (hv : Ints w0 v xs) (hu : Ints W u ys) (hg : good xs = true) (hs : s < 2 ^ xs.length) (hy : inW xs.length ys = true) (hm : ys.length ≤ 1048576) (hS : SR w0 b v W) :
    Calls Try.prog 40 #[u, .agg #[v], .int .i64 s] W fun r w' => r = .returned (.int .i64 (togW xs s ys : Nat)) ∧ SR w0 b v w' :=
  (step_any v u xs ys s W (hv.below hS.below) hu hg hs hy hm).mono fun _ _ ⟨h1, h2⟩ => ⟨h1, hS.to h2⟩
/-! ### ToggleRanks, ToggleRank -/
theorem allB_inW (n : Nat) (ws : List Int) : allB 0 (n : Int) ws = inW (n + 1) ws := by
  unfold allB inW
  congr 1
  funext x
  rw [Bool.eq_iff_iff]; simp; omega
/-! ### sweeps -/

theorem sTVac_any (v : Value) (rs : List Int) (h : Nat) (w : World) (hv : Ints w v rs) (hn : rs.length = h + 1) (h9 : h ≤ 9) (hr : ∀ i, i < rs.length → ∃ r : Nat, rs.getD i 0 = (r : Int) ∧ r < 1024) :
    Calls Try.prog 44 #[v, (.func (.func 33) #[] #[])] w fun (r : Ending) w' => ∃ q, r = Ending.returned q ∧ OwnI 3 w' w.heap.size q (rkW rs (wVac h)) ∧ Below w.heap.size w w' := by
  have HR := hid hr
  have HV := hid hv
  have HN := hid hn
  obtain ⟨A, c, rfl, -⟩ := hv
  rw [hn] at HV ⊢
  clear hr hn
  go_enter Try.func44, Try.ntmps44
  go_wp2_with fail
  refine (swVac_any h _ h9).mono ?_
  rintro e w1 ⟨a, rfl, ha, hb⟩
  have HA := hid ha
  have HB := hid hb
  clear ha hb
  go_wp2_with fail
  refine (wordVac_any a h _ HA.out h9).mono ?_
  rintro e w2 ⟨u, rfl, ho, hb⟩
  have HU := hid ho.ints
  have HB2 := hid (below_to HB.out hb)
  clear ho hb
  go_wp2_with fail
  refine (togglesAt_any _ _ rs (wVac h) _ (HV.out.below HB2.out) HU.out (by rw [HN.out]; exact inW_wVac (by omega)) (wVac_length h9) (by rw [HN.out]; omega) HR.out).mono ?_
  rintro e w3 ⟨q, rfl, ho, hb⟩
  have HO := hid ho
  have HB3 := hid (below_to HB2.out hb)
  have hz := HB2.out.size
  clear ho hb
  go_wp2
  go_ret
  exact ⟨_, rfl, HO.out.mono hz, HB3.out⟩
theorem sTVac_SR (v : Value) (rs : List Int) (h : Nat) (w0 : World) (b : Nat) (W : World) (hv : Ints w0 v rs) (hn : rs.length = h + 1) (h9 : h ≤ 9) (hr : ∀ i, i < rs.length → ∃ r : Nat, rs.getD i 0 = (r : Int) ∧ r < 1024) (vp : Value) (hS : SR w0 b vp W) :
    Calls Try.prog 44 #[v, (.func (.func 33) #[] #[])] W fun (r : Ending) w' => ∃ q, r = Ending.returned q ∧ Ints w' q (rkW rs (wVac h)) ∧ SR w0 b vp w' :=
  (sTVac_any v rs h W (hv.below hS.below) hn h9 hr).mono fun _ _ ⟨q, h1, h2, h3⟩ => ⟨q, h1, h2.ints, hS.to h3⟩
theorem sTGyr_any (v : Value) (rs : List Int) (h : Nat) (w : World) (hv : Ints w v rs) (hn : rs.length = h + 1) (h9 : h ≤ 9) (hr : ∀ i, i < rs.length → ∃ r : Nat, rs.getD i 0 = (r : Int) ∧ r < 1024) :
    Calls Try.prog 44 #[v, (.func (.func 45) #[] #[])] w fun (r : Ending) w' => ∃ q, r = Ending.returned q ∧ OwnI 3 w' w.heap.size q (rkW rs (wGyr h)) ∧ Below w.heap.size w w' := by
  have HR := hid hr
  have HV := hid hv
  have HN := hid hn
  obtain ⟨A, c, rfl, -⟩ := hv
  rw [hn] at HV ⊢
  clear hr hn
  go_enter Try.func44, Try.ntmps44
  go_wp2_with fail
  refine (swGyr_any h _ h9).mono ?_
  rintro e w1 ⟨a, rfl, ha, hb⟩
  have HA := hid ha
  have HB := hid hb
  clear ha hb
  go_wp2_with fail
  refine (wordGyr_any a h _ HA.out h9).mono ?_
  rintro e w2 ⟨u, rfl, ho, hb⟩
  have HU := hid ho.ints
  have HB2 := hid (below_to HB.out hb)
  clear ho hb
  go_wp2_with fail
  refine (togglesAt_any _ _ rs (wGyr h) _ (HV.out.below HB2.out) HU.out (by rw [HN.out]; exact inW_wGyr (by omega)) (wGyr_length h9) (by rw [HN.out]; omega) HR.out).mono ?_
  rintro e w3 ⟨q, rfl, ho, hb⟩
  have HO := hid ho
  have HB3 := hid (below_to HB2.out hb)
  have hz := HB2.out.size
  clear ho hb
  go_wp2
  go_ret
  exact ⟨_, rfl, HO.out.mono hz, HB3.out⟩
theorem sTGyr_SR (v : Value) (rs : List Int) (h : Nat) (w0 : World) (b : Nat) (W : World) (hv : Ints w0 v rs) (hn : rs.length = h + 1) (h9 : h ≤ 9) (hr : ∀ i, i < rs.length → ∃ r : Nat, rs.getD i 0 = (r : Int) ∧ r < 1024) (vp : Value) (hS : SR w0 b vp W) :
    Calls Try.prog 44 #[v, (.func (.func 45) #[] #[])] W fun (r : Ending) w' => ∃ q, r = Ending.returned q ∧ Ints w' q (rkW rs (wGyr h)) ∧ SR w0 b vp w' :=
  (sTGyr_any v rs h W (hv.below hS.below) hn h9 hr).mono fun _ _ ⟨q, h1, h2, h3⟩ => ⟨q, h1, h2.ints, hS.to h3⟩
end Go.Proofs.Ytkalpichninncab
