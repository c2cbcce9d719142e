/- Grids of the call's own: told by a function, read and turned cell by cell; a grid out of a closure. -/
import Derived.Test.YtclhebpkpmholaaTabJ
import Derived.Test.YtclhebpkpmholaaNest2
import Derived.Deep.AppendLies
namespace Go.Proofs.Ytclhebpkpmholaa
open Go.RowKit Go.WideShapes Go.ChangeShapes
set_option linter.unusedVariables false

def rowL (b : Nat) (f : Nat → Int) : List Int := (List.range b).map f
theorem rowL_length (b : Nat) (f : Nat → Int) : (rowL b f).length = b := by simp [rowL]
theorem rowL_getD {b : Nat} {f : Nat → Int} {c : Nat} (h : c < b) : (rowL b f).getD c 0 = f c := by simp [rowL, List.getD, h]
theorem rowL_congr {b : Nat} {f g : Nat → Int} (h : ∀ c, c < b → f c = g c) : rowL b f = rowL b g := by
  apply List.map_congr_left
  intro c hc
  exact h c (List.mem_range.1 hc)
theorem rowL_set {b : Nat} {f : Nat → Int} {c : Nat} (x : Int) (h : c < b) : (rowL b f).set c x = rowL b (fun i => if i = c then x else f i) := by
  apply List.ext_getElem?
  intro i
  rw [List.getElem?_set, rowL_length]
  simp only [rowL, List.getElem?_map]
  by_cases hi : i < b
  · by_cases e : c = i
    · subst e; simp [h]
    · simp [e, hi, Ne.symm e]
  · simp [hi]
    intro e; omega
theorem rowL_zero (b : Nat) : rowL b (fun _ => 0) = List.replicate b 0 := by
  apply List.ext_getElem?
  intro i
  simp only [rowL, List.getElem?_map]
  by_cases hi : i < b <;> simp [hi]
theorem rowL_eta (l : List Int) : rowL l.length (fun c => l.getD c 0) = l := by
  apply List.ext_getElem?
  intro i
  simp only [rowL, List.getElem?_map]
  by_cases hi : i < l.length <;> simp [hi, List.getD]
/-- a list of rows -/
def rowsF (a : Nat) (f : Nat → List Int) : List (List Int) := (List.range a).map f
theorem rowsF_length (a : Nat) (f : Nat → List Int) : (rowsF a f).length = a := by simp [rowsF]
theorem rowsF_getD {a : Nat} {f : Nat → List Int} {r : Nat} (h : r < a) : (rowsF a f).getD r [] = f r := by simp [rowsF, List.getD, h]
theorem rowsF_congr {a : Nat} {f g : Nat → List Int} (h : ∀ r, r < a → f r = g r) : rowsF a f = rowsF a g := by
  apply List.map_congr_left
  intro c hc
  exact h c (List.mem_range.1 hc)
theorem rowsF_set {a : Nat} {f : Nat → List Int} {r : Nat} (x : List Int) (h : r < a) : (rowsF a f).set r x = rowsF a (fun i => if i = r then x else f i) := by
  apply List.ext_getElem?
  intro i
  rw [List.getElem?_set, rowsF_length]
  simp only [rowsF, List.getElem?_map]
  by_cases hi : i < a
  · by_cases e : r = i
    · subst e; simp [h]
    · simp [e, hi, Ne.symm e]
  · simp [hi]
    intro e; omega
theorem rowsF_succ (a : Nat) (f : Nat → List Int) : rowsF (a + 1) f = rowsF a f ++ [f a] := by
  unfold rowsF; rw [List.range_succ, List.map_append]; rfl
theorem rowL_succ (b : Nat) (f : Nat → Int) : rowL (b + 1) f = rowL b f ++ [f b] := by
  unfold rowL; rw [List.range_succ, List.map_append]; rfl
def gridL (a b : Nat) (F : Nat → Nat → Int) : List (List Int) := rowsF a fun r => rowL b (F r)
theorem gridL_length (a b : Nat) (F : Nat → Nat → Int) : (gridL a b F).length = a := rowsF_length _ _
theorem gridL_getD {a b : Nat} {F : Nat → Nat → Int} {r : Nat} (h : r < a) : (gridL a b F).getD r [] = rowL b (F r) := rowsF_getD h
theorem gridL_cel {a b : Nat} {F : Nat → Nat → Int} {r c : Nat} (h : r < a) (k : c < b) : cel (gridL a b F) r c = F r c := by
  unfold cel; rw [gridL_getD h, rowL_getD k]
theorem gridL_wid {a b : Nat} {F : Nat → Nat → Int} (h : 0 < a) : wid (gridL a b F) = b := by
  unfold wid; rw [gridL_getD h, rowL_length]
theorem gridL_congr {a b : Nat} {F G : Nat → Nat → Int} (h : ∀ r c, r < a → c < b → F r c = G r c) : gridL a b F = gridL a b G :=
  rowsF_congr fun r hr => rowL_congr fun c hc => h r c hr hc
/-- a function of two numbers, turned at one place -/
def updF (F : Nat → Nat → Int) (r c : Nat) (x : Int) (i j : Nat) : Int := if i = r ∧ j = c then x else F i j
theorem gridL_set {a b : Nat} {F : Nat → Nat → Int} {r c : Nat} (x : Int) (h : r < a) (k : c < b) : (gridL a b F).set r ((rowL b (F r)).set c x) = gridL a b (updF F r c x) := by
  unfold gridL
  rw [rowsF_set _ h, rowL_set _ k]
  refine rowsF_congr fun i hi => ?_
  by_cases e : i = r
  · subst e
    rw [if_pos rfl]
    refine rowL_congr fun j hj => ?_
    unfold updF
    by_cases e2 : j = c
    · rw [if_pos e2, if_pos ⟨rfl, e2⟩]
    · rw [if_neg e2, if_neg (fun h => e2 h.2)]
  · rw [if_neg e]
    refine rowL_congr fun j hj => ?_
    unfold updF
    rw [if_neg (fun h => e h.1)]
theorem gridL_eta {ls : List (List Int)} {b : Nat} (h : ∀ r, r < ls.length → (ls.getD r []).length = b) : gridL ls.length b (cel ls) = ls := by
  apply List.ext_getElem?
  intro i
  by_cases hi : i < ls.length
  · have e1 : (gridL ls.length b (cel ls))[i]? = some (rowL b (cel ls i)) := by
      simp [gridL, rowsF, hi]
    have e2 : ls[i]? = some (ls.getD i []) := by simp [List.getD, hi]
    rw [e1, e2]
    congr 1
    rw [← h i hi]
    exact rowL_eta _
  · rw [List.getElem?_eq_none (by rw [gridL_length]; omega), List.getElem?_eq_none (by omega)]
theorem gridL_small {a b : Nat} (F : Nat → Nat → Int) (ha : a ≤ 10) (hb : b ≤ 10) : SSmall (gridL a b F) := by
  have hr : ∀ j, j < (gridL a b F).length → ((gridL a b F).getD j []).length = b := fun j hj => by
    rw [gridL_length] at hj
    rw [gridL_getD hj, rowL_length]
  have ho : ∀ k, k ≤ (gridL a b F).length → offL (gridL a b F) k ≤ 10 * k := by
    intro k
    induction k with
    | zero => intro _; simp [offL]
    | succ k ih =>
      intro hk
      have h1 := ih (by omega)
      have h2 := hr k (by omega)
      unfold offL
      omega
  have hl := gridL_length a b F
  refine ⟨by omega, fun j hj => by rw [hr j hj]; omega, ?_⟩
  have := ho _ (Nat.le_refl _)
  omega

theorem map_getDV {l : List Int} {c : Nat} (h : c < l.length) : (l.map (Value.int .i64))[c]? = some (.int .i64 (l.getD c 0)) := by simp [List.getD, h]
/-- where the cells of a grid of the call's own lie -/
theorem OwnSS.cells {ti ts : TypeId} {w : World} {B E : Nat} {v : Value} {ls : List (List Int)} (h : OwnSS ti ts w B E v ls) (hne : ti ≠ ts) {r : Nat} (hr : r < ls.length) (h0 : 0 < (ls.getD r []).length) :
    ∃ o cv g cg, v = .slice (some ⟨o, 0, none⟩) ls.length cv ∧ w.cell? ⟨o, r, none⟩ = some (.slice (some ⟨g, 0, none⟩) (ls.getD r []).length cg) ∧ o < w.heap.size ∧ B ≤ o ∧ B ≤ g ∧ g < w.heap.size ∧ g < E ∧
      (∀ c, c < (ls.getD r []).length → w.cell? ⟨g, c, none⟩ = some (.int .i64 ((ls.getD r []).getD c 0))) ∧ (∀ c, w.frozen? ⟨g, c, none⟩ = false) ∧
      ∀ c x, c < (ls.getD r []).length → OwnSS ti ts (w.setCell ⟨g, c, none⟩ (.int .i64 x)) B E v (ls.set r ((ls.getD r []).set c x)) := by
  obtain ⟨A, cv, hv, -⟩ := h.rows
  subst hv
  have hb0 : ∀ k, (Value.slice A ls.length cv).ownBlock = some k → B ≤ k := by
    intro k hk
    obtain ⟨us, h1, h2, -⟩ := h
    exact (h2.lt k hk).1
  obtain ⟨-, hu⟩ := h.upd hne
  obtain ⟨o, u, rfl, ho, hc, hi, hk, hup⟩ := hu r hr
  have hi' : w.ownsRow B ti 1 u (ls.getD r []).length ((ls.getD r []).map (Value.int .i64)) := hi
  obtain ⟨g, cg, rfl, hBg, hgl⟩ := hi'.form h0
  refine ⟨o, cv, g, cg, rfl, hc, ho, hb0 o rfl, hBg, hgl, hk g rfl, fun c hc' => ?_, fun c => hi'.frozenAt c, fun c x hc' => ?_⟩
  · rw [hi'.cellAt c (by omega)]
    exact map_getDV hc'
  · obtain ⟨s1, s2⟩ := hi'.stored c (.int .i64 x)
    refine hup _ _ ?_ s2
    unfold OwnI
    rw [List.length_set]
    have e : ((ls.getD r []).set c x).map (Value.int .i64) = ((ls.getD r []).map (Value.int .i64)).set c (.int .i64 x) := by rw [List.map_set]
    rw [e]; exact s1
theorem OwnSS.store {ti ts : TypeId} {w : World} {B E o g n cg m cv : Nat} {ls : List (List Int)} (h : OwnSS ti ts w B E (.slice (some ⟨o, 0, none⟩) m cv) ls) (hne : ti ≠ ts) {r : Nat} (hr : r < ls.length) (h0 : 0 < (ls.getD r []).length) (hc : w.cell? ⟨o, r, none⟩ = some (.slice (some ⟨g, 0, none⟩) n cg)) :
    ∀ c x, c < (ls.getD r []).length → OwnSS ti ts (w.setCell ⟨g, c, none⟩ (.int .i64 x)) B E (.slice (some ⟨o, 0, none⟩) m cv) (ls.set r ((ls.getD r []).set c x)) := by
  obtain ⟨o', cv', g', cg', e, hc', -, -, -, -, -, -, -, hs⟩ := h.cells hne hr h0
  injection e with e _ _
  injection e with e
  injection e with e _ _
  subst e
  rw [hc'] at hc
  injection hc with hc
  injection hc with hc _ _
  injection hc with hc
  injection hc with hc _ _
  subst hc
  exact hs
theorem OwnSS.monoG {ti ts : TypeId} {w : World} {B B' E : Nat} {v : Value} {ls : List (List Int)} (h : OwnSS ti ts w B E v ls) (hB : B' ≤ B) : OwnSS ti ts w B' E v ls := by
  obtain ⟨us, h1, h2, h3, h4, h5⟩ := h
  refine ⟨us, h1, ?_, h3, fun j u l hu hl => ⟨(h4 j u l hu hl).1.mono hB, (h4 j u l hu hl).2⟩, h5⟩
  obtain ⟨a1, a2⟩ := h2
  refine ⟨a1, ?_⟩
  rcases a2 with a2 | ⟨g, cap, cur, hv, hg, r⟩
  · exact .inl a2
  · exact .inr ⟨g, cap, cur, hv, by omega, r⟩
theorem OwnSS.gridR {ti ts : TypeId} {w : World} {B E : Nat} {v : Value} {a b : Nat} {F : Nat → Nat → Int} (h : OwnSS ti ts w B E v (gridL a b F)) (hne : ti ≠ ts) (ha : 0 < a) (hb : 0 < b) : GridR w v a b F := by
  have hl := gridL_length a b F
  obtain ⟨o, cv, g, cg, rfl, -, ho, -⟩ := h.cells hne (r := 0) (by omega) (by rw [gridL_getD ha, rowL_length]; exact hb)
  rw [hl]
  refine ⟨o, 0, cv, rfl, ho, fun r hr => ?_⟩
  obtain ⟨o', cv', g', cg', e, hc, ho', -, -, hg', -, hcells, -⟩ := h.cells hne (r := r) (by omega) (by rw [gridL_getD hr, rowL_length]; exact hb)
  injection e with e _ _
  injection e with e
  injection e with e _ _
  subst e
  rw [gridL_getD hr, rowL_length] at hc hcells
  exact ⟨g', 0, cg', by rw [Nat.zero_add]; exact hc, hg', fun j hj => by rw [Nat.zero_add, hcells j hj, rowL_getD hj]⟩

def partR (b : Nat) (F : Nat → Nat → Int) (r c i : Nat) : List Int := if i < r then rowL b (F i) else if i = r then rowL b (fun j => if j < c then F r j else 0) else []
theorem partR_set {a b : Nat} {F : Nat → Nat → Int} {r c : Nat} (hr : r < a) (hc : c < b) : (rowsF a (partR b F r c)).set r (((rowsF a (partR b F r c)).getD r []).set c (F r c)) = rowsF a (partR b F r (c + 1)) := by
  rw [rowsF_getD hr, rowsF_set _ hr]
  refine rowsF_congr fun i _ => ?_
  by_cases h1 : i = r
  · subst h1
    rw [if_pos rfl]
    unfold partR
    rw [if_neg (Nat.lt_irrefl _), if_pos rfl, if_neg (Nat.lt_irrefl _), if_pos rfl, rowL_set _ hc]
    refine rowL_congr fun j _ => ?_
    by_cases h2 : j = c
    · subst h2; rw [if_pos rfl, if_pos (by omega)]
    · rw [if_neg h2]
      by_cases h3 : j < c
      · rw [if_pos h3, if_pos (by omega)]
      · rw [if_neg h3, if_neg (by omega)]
  · rw [if_neg h1]
    unfold partR
    rw [if_neg h1, if_neg h1]
theorem partR_full {a b : Nat} {F : Nat → Nat → Int} {r : Nat} : rowsF a (partR b F r b) = rowsF a (fun i => if i < r + 1 then rowL b (F i) else []) := by
  refine rowsF_congr fun i _ => ?_
  unfold partR
  by_cases h1 : i = r
  · subst h1
    rw [if_neg (Nat.lt_irrefl _), if_pos rfl, if_pos (by omega)]
    exact rowL_congr fun j hj => if_pos hj
  · by_cases h2 : i < r
    · rw [if_pos h2, if_pos (by omega)]
    · rw [if_neg h2, if_neg h1, if_neg (by omega)]
theorem OwnSS.gcell {ti ts : TypeId} {w : World} {B E o cv a b : Nat} {F : Nat → Nat → Int} (h : OwnSS ti ts w B E (.slice (some ⟨o, 0, none⟩) a cv) (gridL a b F)) (hne : ti ≠ ts) (hb : 0 < b) {r : Nat} (hr : r < a) :
    ∃ g cg, w.cell? ⟨o, r, none⟩ = some (.slice (some ⟨g, 0, none⟩) b cg) ∧ B ≤ g ∧ g < w.heap.size ∧ (∀ c, c < b → w.cell? ⟨g, c, none⟩ = some (.int .i64 (F r c))) ∧ (∀ c, w.frozen? ⟨g, c, none⟩ = false) ∧
      ∀ c x, c < b → OwnSS ti ts (w.setCell ⟨g, c, none⟩ (.int .i64 x)) B E (.slice (some ⟨o, 0, none⟩) a cv) (gridL a b (updF F r c x)) := by
  have hl := gridL_length a b F
  have hg : ((gridL a b F).getD r []).length = b := by rw [gridL_getD hr, rowL_length]
  obtain ⟨o', cv', g, cg, e, hc, -, -, hBg, hgl, -, hcells, hfz, hst⟩ := h.cells hne (r := r) (by omega) (by omega)
  injection e with e _ _
  injection e with e
  injection e with e _ _
  subst e
  rw [hg] at hc hcells hst
  refine ⟨g, cg, hc, hBg, hgl, fun c hcb => ?_, hfz, fun c x hcb => ?_⟩
  · rw [hcells c hcb, gridL_getD hr, rowL_getD hcb]
  · have h2 := hst c x hcb
    rw [gridL_getD hr, gridL_set _ hr hcb] at h2
    exact h2
theorem OwnSS.gform {ti ts : TypeId} {w : World} {B E a b : Nat} {v : Value} {F : Nat → Nat → Int} (h : OwnSS ti ts w B E v (gridL a b F)) (ha : 0 < a) : ∃ o cv, v = .slice (some ⟨o, 0, none⟩) a cv ∧ o < w.heap.size ∧ B ≤ o := by
  obtain ⟨A, c, rfl, hr⟩ := h.rows
  rw [gridL_length] at hr ⊢
  obtain ⟨o, u, rfl, ho, -⟩ := hr 0 ha
  obtain ⟨us, h1, h2, -⟩ := h
  exact ⟨o, c, rfl, ho, (h2.lt o rfl).1⟩
/-- the function 'fn' with 'caps' gives F r c in all that comes behind W -/
structure FunG (fn : Nat) (caps : Array Value) (a b : Nat) (F : Nat → Nat → Int) (W : World) : Prop where
  run : ∀ (w : World) (r c : Nat), Below W.heap.size W w → r < a → c < b → Calls Try.prog fn (#[.int .i64 (r : Int), .int .i64 (c : Int)] ++ caps) w fun res w' => res = .returned (.int .i64 (F r c)) ∧ Below w.heap.size w w'
end Go.Proofs.Ytclhebpkpmholaa
